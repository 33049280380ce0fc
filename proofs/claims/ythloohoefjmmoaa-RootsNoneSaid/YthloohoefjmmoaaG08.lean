/- The store: Set, walked. -/
import Derived.Test.YthloohoefjmmoaaG06
import Derived.Deep.RegionLaw
namespace Go.Proofs.Ythloohoefjmmoaa
open Go.RowKit Go.Maps Go.Sort

theorem infoChange : (Try.prog.info? 105).map (fun i => (i.zero, i.size, i.bytes)) = some (some (.agg #[.string { data := #[] }, .bool false, .string { data := #[] }]), 3, 40) := by kernel_rfl
/-- what a change is, in cells -/
def chg (k : ByteArray) (had : Bool) (was : ByteArray) : List Value := [.string k, .bool had, .string was]
def setL (L : SL) (k v : ByteArray) : SL := if sget L k = some v then L else sset L k v
theorem chg_done {W w' : World} {b bm : Nat} {vb vq : Value} {vk : List Seg} {L : SL} {q : Nat} {qs : List Value} {g cap : Nat} {new : List Value} {o : Obj} (h : StM W b bm vb vk vq L q qs)
    (hown : w'.ownsRow 0 105 3 (.slice (some ⟨g, 0, none⟩) (q + 1) cap) (q + 1) (qs ++ new)) (hg : (W.drew.alloc o).grownBy w' vq.ownBlock) (hat : vq.ownBlock = some g ∨ g = W.heap.size + 1) :
    StM (w'.setCell ⟨b, 2, none⟩ (.slice (some ⟨g, 0, none⟩) (q + 1) cap)) b bm vb vk (.slice (some ⟨g, 0, none⟩) (q + 1) cap) L (q + 1) (qs ++ new) ∧ Touch (fpr b bm vb vk vq L) W (w'.setCell ⟨b, 2, none⟩ (.slice (some ⟨g, 0, none⟩) (q + 1) cap)) ∧
      (∀ k ∈ fpr b bm vb vk (.slice (some ⟨g, 0, none⟩) (q + 1) cap) L, k ∈ fpr b bm vb vk vq L ∨ W.heap.size ≤ k) := by
  have hb : b ∈ kfp b vb vk := mem_kfp.2 (.inl rfl)
  have hgk : ∀ k, k < W.heap.size → vq.ownBlock ≠ some k → w'.heap[k]? = W.heap[k]? := fun k hk hne =>
    (hg.block k (by rw [World.size_alloc]; show k < W.heap.size + 1; omega) (fun e => hne e.symm)).trans (heap_alloc_old W.drew o hk)
  have hkey : ∀ k, k ∈ kfp b vb vk → w'.heap[k]? = W.heap[k]? := fun k hk => hgk k (h.keys.lt k hk) fun e => (h.vq_kfp k e).2 hk
  have hbm : w'.heap[bm]? = W.heap[bm]? := hgk bm h.m.lt fun e => (h.vq_kfp bm e).1 rfl
  have hgn : b ≠ g := fun e => by
    rcases hat with h1 | h1
    · exact (h.vq_kfp g h1).2 (e ▸ hb)
    · have := hp_lt h.r; omega
  have hfar : ∀ k, k ≠ b → (w'.setCell ⟨b, 2, none⟩ (.slice (some ⟨g, 0, none⟩) (q + 1) cap)).heap[k]? = w'.heap[k]? := fun k hk => Below.heap_setCell _ _ _ _ hk
  have h0 := h.keys
  refine ⟨⟨⟨?_, ownsRow_same h0.kb fun k hk => (hfar k (h0.ba_b hk)).trans (hkey k (mem_kfp.2 (.inr (.inl hk)))), ⟨fun s hs => (h0.kk.at_ s hs).same ((hfar _ (h0.seg_b hs)).trans (hkey _ (mem_kfp.2 (.inr (.inr ⟨s, hs, rfl⟩))))), h0.kk.ne, h0.kk.ap⟩, h0.fl, h0.so⟩, h.m.same ((hfar bm (fun e => h.bm_kfp (e ▸ hb))).trans hbm), ownsRow_same hown fun k hk => ?_⟩, ?_, ?_⟩
  · rw [heap_setCell_row ((hkey b hb).trans h0.r)]
    rfl
  · cases hk
    exact hfar g hgn.symm
  · have t0 : Touch (fpr b bm vb vk vq L) W (W.drew.alloc o) := touch_alloc (touch_drew (Touch.refl _ W)) o
    have t1 : Touch (fpr b bm vb vk vq L) (W.drew.alloc o) w' := Touch.grown hg fun k hk => (fpr_kfp _ _ _ _ _ _ _).2 (.inr (.inr hk))
    exact (t0.trans (fun _ hk => .inl hk) t1).trans (fun _ hk => .inl hk) (Touch.setCell _ _ _ ((fpr_kfp _ _ _ _ _ _ _).2 (.inr (.inl hb))))
  · intro k hk
    rcases (fpr_kfp _ _ _ _ _ _ _).1 hk with h1 | h1 | h1
    · exact .inl ((fpr_kfp _ _ _ _ _ _ _).2 (.inl h1))
    · exact .inl ((fpr_kfp _ _ _ _ _ _ _).2 (.inr (.inl h1)))
    · cases h1
      rcases hat with h2 | h2
      · exact .inl ((fpr_kfp _ _ _ _ _ _ _).2 (.inr (.inr h2)))
      · exact .inr (by show W.heap.size ≤ g; omega)
theorem chg_r {W w' : World} {b bm : Nat} {vb vq : Value} {vk : List Seg} {L : SL} {q : Nat} {qs : List Value} {o : Obj} (h : StM W b bm vb vk vq L q qs) (hg : (W.drew.alloc o).grownBy w' vq.ownBlock) : w'.heap[b]? = some (.cells #[.map (some bm), vb, vq] 55 (0, 0)) :=
  (hg.block b (by rw [World.size_alloc]; have := hp_lt h.r; show b < W.heap.size + 1; omega) (fun e => (h.vq_kfp b e.symm).2 (mem_kfp.2 (.inl rfl)))).trans ((heap_alloc_old W.drew o (hp_lt h.r)).trans h.r)
theorem chg_one {k was : ByteArray} {had : Bool} : ∀ u ∈ chg k had was, u.oneCell' = true := fun u hu => by
  unfold chg at hu
  simp at hu
  rcases hu with rfl | rfl | rfl <;> rfl
theorem chg_news (W : World) (k was : ByteArray) (had : Bool) : ∀ j u, (chg k had was)[j]? = some u → (W.drew.alloc (.cells #[.string k, .bool had, .string was] 105)).cell? ((⟨W.heap.size, 0, none⟩ : Addr).add j) = some u :=
  World.news_of_block (cs := #[.string k, .bool had, .string was]) (heap_alloc_new W.drew _)
/-- what Set leaves -/
def SetPost (b : Nat) (F : List Nat) (L' : SL) (q' : Nat) (qs' : List Value) (r : Int) (w : World) (e : Ending) (w' : World) : Prop :=
  e = .returned (.int .i64 r) ∧ ∃ F', StP w' b F' L' q' qs' ∧ Touch F w w' ∧ ∀ k ∈ F', k ∈ F ∨ w.heap.size ≤ k
theorem set_done {w W w5 w6 : World} {b bm : Nat} {vb vq vq' vb' : Value} {vk vk' : List Seg} {L L' : SL} {q' : Nat} {qs' : List Value} (hbW : Below w.heap.size w W) (h1 : Touch (fpr b bm vb vk vq L) W w5) (h2 : ∀ k ∈ fpr b bm vb vk vq' L, k ∈ fpr b bm vb vk vq L ∨ W.heap.size ≤ k)
    (hM : StM w6 b bm vb' vk' vq' L' q' qs') (h3 : Touch (fpr b bm vb vk vq' L) w5 w6) (h4 : ∀ k ∈ fpr b bm vb' vk' vq' L', k ∈ fpr b bm vb vk vq' L ∨ w5.heap.size ≤ k) : SetPost b (fpr b bm vb vk vq L) L' q' qs' 0 w (.returned (.int .i64 0)) w6 := by
  refine ⟨rfl, _, ⟨bm, vb', vk', vq', rfl, hM⟩, ((Touch.of_below hbW).trans (fun _ hk => .inl hk) h1).trans (fun k hk => ?_) h3, fun k hk => ?_⟩
  · rcases h2 k hk with h | h
    · exact .inl h
    · right; have := hbW.size; omega
  · rcases h4 k hk with h | h
    · rcases h2 k h with h | h
      · exact .inl h
      · right; have := hbW.size; omega
    · right; have := hbW.size; have := h1.size; omega
set_option maxRecDepth 100000 in
set_option maxHeartbeats 4000000 in
theorem set_new (b bm : Nat) (vb : Value) (vk : List Seg) (vq : Value) (L : SL) (q : Nat) (qs : List Value) (k v : ByteArray) (w : World) (h : StM w b bm vb vk vq L q qs) (hk : k.size ≤ maxLen) (hv : v.size ≤ maxLen) (hk0 : k ≠ ⟨#[]⟩) (hN : L.length < 1000000) (hq : q < 1000000) (hne : sget L k ≠ some v) :
    Calls Try.prog 34 #[.pointer (some ⟨b, 0, none⟩), .string k, .string v] w (SetPost b (fpr b bm vb vk vq L) (sset L k v) (q + 1) (qs ++ chg k (sget L k).isSome ((sget L k).getD ⟨#[]⟩)) 0 w) := by
  have hl := h.m.look k hk
  have c0 := (hp_cell (i := 0) h.r).trans rfl
  have lb := hp_lt h.r
  have HM := Lib.hid (made_live b _ L q qs w ⟨bm, vb, vk, vq, rfl, h⟩)
  obtain ⟨old, hold⟩ : ∃ o, o = (sget L k).getD ⟨#[]⟩ := ⟨_, rfl⟩
  obtain ⟨had, hhad⟩ : ∃ o, o = (sget L k).isSome := ⟨_, rfl⟩
  have hno : had = false ∨ (had = true ∧ (old.toList == v.toList) = false) := by
    rw [hold, hhad]
    cases hs : sget L k with
    | none => exact .inl rfl
    | some u =>
      right
      refine ⟨rfl, ?_⟩
      rw [beq_eq_false_iff_ne, Lib.toList_data, Lib.toList_data]
      intro e
      exact hne (by rw [hs, ← lit_inj (congrArg Lit.string e)]; rfl)
  have hk1 : k.toList.isEmpty = false := by
    rw [Lib.toList_data]
    cases hh : k.data.toList with
    | nil => exact absurd (lit_inj (b := ⟨#[]⟩) (congrArg Lit.string (hh.trans rfl))) hk0
    | cons a r => rfl
  rw [← hold, ← hhad] at hl ⊢
  obtain ⟨W, hW⟩ : ∃ W, W = w.alloc (.cells #[.string old] 86) := ⟨_, rfl⟩
  have hbW : Below w.heap.size w W := by rw [hW]; exact (Below.refl w.heap.size w).alloc (Nat.le_refl _) _
  have hSW := h.below hbW
  have hr7 : W.heap[w.heap.size]? = some (.cells #[.string old] 86 (0, 0)) := by rw [hW]; exact heap_alloc_new _ _
  obtain ⟨i0, hi, hz0, hz1, hz2⟩ := info_parts infoChange
  have Hh := Lib.hid (And.intro h (And.intro hk (And.intro hv (And.intro hN (And.intro hq (And.intro hbW hSW))))))
  have HW := Lib.hid hW
  have d2 := (hp_cell (i := 2) hSW.r).trans rfl
  have d7 := (hp_cell (i := 0) hr7).trans rfl
  have lbW := hp_lt hSW.r
  have lwW := hp_lt hr7
  have HO := Lib.hid (fun (o : Obj) => show (W.drew.alloc o).ownsRow 0 105 3 vq q qs from ownsRow_same hSW.kq fun g hg => heap_alloc_old W.drew o (ownsRow_blk hSW.kq g hg))
  have HP := Lib.hid (fun (w' : World) (bm : Nat) (vb : Value) (vk : List Seg) (vq : Value) (q : Nat) (qs : List Value) (h' : StM w' b bm vb vk vq L q qs) => put_live b bm vb vk vq L q qs k v w' h' hk hv hN)
  clear h hk hv hN hold hhad hq hk0 hne hW hbW hSW hr7
  rcases hno with rfl | ⟨rfl, hov⟩
  · go_enter Try.func34, Try.ntmps34
    go_upto_region 7 with (go_at_call 31; refine HM.out.mono ?_; rintro e w1 ⟨rfl, rfl⟩)
    rw [← HW.out]
    go_region_law (refine step_append_lies _ rfl (.tmp 35) (.tmp 40) 53 rfl 0 105 i0 _ 3 40 Try.underlying53 hi hz0 hz1 hz2 rfl (by decide) vq q qs (by simp [Act.eval]) (HO.out _) ⟨W.heap.size, 0, none⟩ 1 1 (chg k false old) (by simp [Act.eval]) rfl (chg_news W k old false) chg_one (by decide) (by have := Hh.out.2.2.2.2.1; unfold maxLen; omega) (by have := Hh.out.2.2.2.2.1; omega) (Nat.zero_le _) _ rfl ?_; intro g cap w5 hown hgrow hat hlt; have hr5 := chg_r Hh.out.2.2.2.2.2.2 hgrow; have e2 := (hp_cell (i := 2) hr5).trans rfl; have f2 := hp_free (i := 2) hr5; have HC := Lib.hid (chg_done Hh.out.2.2.2.2.2.2 hown hgrow (by simpa using hat)); clear hown hgrow hat hlt hr5)
    all_goals go_wp2_with (go_at_call 50; refine (HP.out _ bm vb vk _ (q + 1) _ HC.out.1).mono ?_; rintro e w6 ⟨rfl, vb', vk', hM, ht, hF⟩; have HM6 := Lib.hid (set_done Hh.out.2.2.2.2.2.1 HC.out.2.1 HC.out.2.2 hM ht hF); clear hM ht hF)
    all_goals go_ret
    all_goals exact HM6.out
  · go_enter Try.func34, Try.ntmps34
    go_upto_region 7 with (go_at_call 31; refine HM.out.mono ?_; rintro e w1 ⟨rfl, rfl⟩)
    rw [← HW.out]
    go_region_law (refine step_append_lies _ rfl (.tmp 35) (.tmp 40) 53 rfl 0 105 i0 _ 3 40 Try.underlying53 hi hz0 hz1 hz2 rfl (by decide) vq q qs (by simp [Act.eval]) (HO.out _) ⟨W.heap.size, 0, none⟩ 1 1 (chg k true old) (by simp [Act.eval]) rfl (chg_news W k old true) chg_one (by decide) (by have := Hh.out.2.2.2.2.1; unfold maxLen; omega) (by have := Hh.out.2.2.2.2.1; omega) (Nat.zero_le _) _ rfl ?_; intro g cap w5 hown hgrow hat hlt; have hr5 := chg_r Hh.out.2.2.2.2.2.2 hgrow; have e2 := (hp_cell (i := 2) hr5).trans rfl; have f2 := hp_free (i := 2) hr5; have HC := Lib.hid (chg_done Hh.out.2.2.2.2.2.2 hown hgrow (by simpa using hat)); clear hown hgrow hat hlt hr5)
    all_goals go_wp2_with (go_at_call 50; refine (HP.out _ bm vb vk _ (q + 1) _ HC.out.1).mono ?_; rintro e w6 ⟨rfl, vb', vk', hM, ht, hF⟩; have HM6 := Lib.hid (set_done Hh.out.2.2.2.2.2.1 HC.out.2.1 HC.out.2.2 hM ht hF); clear hM ht hF)
    all_goals go_ret
    all_goals exact HM6.out
end Go.Proofs.Ythloohoefjmmoaa

namespace Go.Proofs.Ythloohoefjmmoaa
open Go.RowKit Go.Maps Go.Sort

theorem ba_nil {k : ByteArray} (hk0 : k ≠ ⟨#[]⟩) : k.toList.isEmpty = false := by
  rw [Lib.toList_data]
  cases hh : k.data.toList with
  | nil => exact absurd (lit_inj (b := ⟨#[]⟩) (congrArg Lit.string (hh.trans rfl))) hk0
  | cons a r => rfl
set_option maxRecDepth 100000 in
set_option maxHeartbeats 2000000 in
theorem set_same (b : Nat) (F : List Nat) (L : SL) (q : Nat) (qs : List Value) (k v : ByteArray) (w : World) (h : StP w b F L q qs) (hk : k.size ≤ maxLen) (hk0 : k ≠ ⟨#[]⟩) (he : sget L k = some v) :
    Calls Try.prog 34 #[.pointer (some ⟨b, 0, none⟩), .string k, .string v] w (SetPost b F L q qs 0 w) := by
  have HM := Lib.hid (made_live b F L q qs w h)
  have HH := Lib.hid h
  obtain ⟨bm, vb, vk, vq, rfl, hS⟩ := h
  have hl := hS.m.look k hk
  rw [he] at hl
  replace hl : (Instr.lookup 51 (.map (some bm)) (.string k) true).run Try.prog w = .ok (.tuple #[.agg #[.string v], .bool true]) w := hl
  have c0 := (hp_cell (i := 0) hS.r).trans rfl
  have hk1 := ba_nil hk0
  have hvv : (v.toList == v.toList) = true := beq_self_eq_true _
  clear hS hk hk0 he
  go_enter Try.func34, Try.ntmps34
  go_wp2_with (go_at_call 31; refine HM.out.mono ?_; rintro e w1 ⟨rfl, rfl⟩)
  go_ret
  have hb := (Below.refl w.heap.size w).alloc (Nat.le_refl _) (.cells #[.string v] 86)
  exact ⟨rfl, _, HH.out.below hb, Touch.of_below hb, fun k hk => .inl hk⟩
/-- the changes' row gets shorter -/
theorem und_done {W : World} {b bm g cap m : Nat} {vb : Value} {vk : List Seg} {L : SL} {qs three zs : List Value} (h : StM W b bm vb vk (.slice (some ⟨g, 0, none⟩) (m + 1) cap) L (m + 1) (qs ++ three)) (hq : qs.length = m * 3) (hz : zs.length = 3) :
    StM ((W.setCells g (m * 3) zs).setCell ⟨b, 2, none⟩ (.slice (some ⟨g, 0, none⟩) m cap)) b bm vb vk (.slice (some ⟨g, 0, none⟩) m cap) L m qs ∧ Touch (fpr b bm vb vk (.slice (some ⟨g, 0, none⟩) (m + 1) cap) L) W ((W.setCells g (m * 3) zs).setCell ⟨b, 2, none⟩ (.slice (some ⟨g, 0, none⟩) m cap)) := by
  obtain ⟨g1, g2⟩ := h.vq_kfp g rfl
  have hb : b ∈ kfp b vb vk := mem_kfp.2 (.inl rfl)
  obtain ⟨cur, hg, hn, hc, hs, ht, hl⟩ := ownsRow_open h.kq
  have t1 := touch_setCells (F := [g]) g (by simp) zs (m * 3) W
  have hfar : ∀ k, k < W.heap.size → k ≠ g → (W.setCells g (m * 3) zs).heap[k]? = W.heap[k]? := fun k hk hne => t1.block k hk (by simp; exact hne)
  have hfar2 : ∀ k, k < W.heap.size → k ≠ g → k ≠ b → ((W.setCells g (m * 3) zs).setCell ⟨b, 2, none⟩ (.slice (some ⟨g, 0, none⟩) m cap)).heap[k]? = W.heap[k]? := fun k hk hne hne2 => (Below.heap_setCell _ _ _ _ hne2).trans (hfar k hk hne)
  have hgk : ∀ k, k ∈ kfp b vb vk → k ≠ g := fun k hk e => g2 (e ▸ hk)
  have h0 := h.keys
  refine ⟨⟨⟨?_, ownsRow_same h0.kb fun k hk => hfar2 k (ownsRow_blk h0.kb k hk) (hgk k (mem_kfp.2 (.inr (.inl hk)))) (h0.ba_b hk), ⟨fun s hm => (h0.kk.at_ s hm).same (hfar2 _ (h0.kk.at_ s hm).lt (hgk _ (mem_kfp.2 (.inr (.inr ⟨s, hm, rfl⟩)))) (h0.seg_b hm)), h0.kk.ne, h0.kk.ap⟩, h0.fl, h0.so⟩, h.m.same (hfar2 bm h.m.lt (fun e => g1 e.symm) (fun e => h.bm_kfp (e ▸ hb))), ?_⟩, ?_⟩
  · rw [heap_setCell_row ((hfar b (hp_lt h.r) (hgk b hb)).trans h.r)]
    rfl
  · refine ownsRow_shut (cur := putA cur (m * 3) zs) ?_ (by omega) hc (by rw [putA_size, hs]) ?_ hq
    · rw [Below.heap_setCell _ _ _ _ (show g ≠ b from fun e => hgk b hb e.symm)]
      exact heap_setCells_row _ _ hg
    · rw [putA_list _ _ _ (by rw [hz, hs]; omega), List.append_assoc, List.take_append_of_le_length (by rw [List.length_take]; simp; rw [hs]; omega), List.take_take, Nat.min_self]
      have := congrArg (List.take (m * 3)) ht
      rw [List.take_take, Nat.min_eq_left (by omega), List.take_left' hq] at this
      exact this
  · exact (t1.mono (fun k hk => by rw [List.mem_singleton.1 hk]; exact (fpr_kfp _ _ _ _ _ _ _).2 (.inr (.inr rfl)))).trans (fun _ hk => .inl hk) (Touch.setCell _ _ _ ((fpr_kfp _ _ _ _ _ _ _).2 (.inr (.inl hb))))
theorem zeroChange (w : World) : (zeroValue 105).run Try.prog w = .ok (.agg #[.string { data := #[] }, .bool false, .string { data := #[] }]) w := by kernel_rfl
theorem clear_one (w : World) (ty : TypeId) (g o c : Nat) (hc : ∀ j, j < 3 → (w.cell? ⟨g, o + j, none⟩).isSome = true) (hf : ∀ j, w.frozen? ⟨g, o + j, none⟩ = false) :
    (Builtin.clear_ #[53] ty #[.slice (some ⟨g, o, none⟩) 1 c]).run Try.prog w = .ok (.tuple #[]) (w.setCells g o (chg ⟨#[]⟩ false ⟨#[]⟩)) := by
  have hst := run_storeCells_cells (P := Try.prog) g o (chg ⟨#[]⟩ false ⟨#[]⟩) 0 w (by simpa [chg] using hc) (fun j _ => by rw [Nat.add_zero]; exact hf j) chg_one
  have hz : (Builtin.zeroCells (Value.agg #[.string { data := #[] }, .bool false, .string { data := #[] }]).cells 1).toList = chg ⟨#[]⟩ false ⟨#[]⟩ := by kernel_rfl
  simp only [Nat.add_zero] at hst
  simp [Builtin.clear_, run_underlying Try.underlying53, hz, hst]
end Go.Proofs.Ythloohoefjmmoaa

namespace Go.Proofs.Ythloohoefjmmoaa
open Go.RowKit Go.Maps Go.Sort

set_option maxRecDepth 100000 in
set_option maxHeartbeats 400000 in
theorem set_dead (p : Value) (k : ByteArray) (v : ByteArray) (w : World) (h : SDead w p) : Calls Try.prog 34 #[p, .string k, .string v] w fun e w' => e = .returned (.int .i64 1) ∧ w = w' := by
  have HM := Lib.hid (made_dead p w h)
  clear h
  go_enter Try.func34, Try.ntmps34
  go_wp2_with (go_at_call 31; refine HM.out.mono ?_; rintro e w1 ⟨rfl, rfl⟩)
  go_ret
  exact ⟨rfl, rfl⟩

set_option maxRecDepth 100000 in
set_option maxHeartbeats 400000 in
theorem delete_dead (p : Value) (k : ByteArray) (w : World) (h : SDead w p) : Calls Try.prog 60 #[p, .string k] w fun e w' => e = .returned (.bool false) ∧ w = w' := by
  have HM := Lib.hid (made_dead p w h)
  clear h
  go_enter Try.func60, Try.ntmps60
  go_wp2_with (go_at_call 31; refine HM.out.mono ?_; rintro e w1 ⟨rfl, rfl⟩)
  go_ret
  exact ⟨rfl, rfl⟩

set_option maxRecDepth 100000 in
set_option maxHeartbeats 400000 in
theorem under_dead (p : Value) (k : ByteArray) (w : World) (h : SDead w p) : Calls Try.prog 30 #[p, .string k] w fun e w' => e = .returned (.slice none 0 0) ∧ w = w' := by
  have HM := Lib.hid (made_dead p w h)
  clear h
  go_enter Try.func30, Try.ntmps30
  go_wp2_with (go_at_call 31; refine HM.out.mono ?_; rintro e w1 ⟨rfl, rfl⟩)
  go_ret
  exact ⟨rfl, rfl⟩

set_option maxRecDepth 100000 in
set_option maxHeartbeats 400000 in
theorem all_dead (p : Value) (w : World) (h : SDead w p) : Calls Try.prog 16 #[p] w fun e w' => e = .returned (.slice none 0 0) ∧ w = w' := by
  have HU := Lib.hid (under_dead p { data := #[] } w h)
  clear h
  go_enter Try.func16, Try.ntmps16
  go_wp2_with (go_at_call 30; refine HU.out.mono ?_; rintro e w1 ⟨rfl, rfl⟩)
  go_ret
  exact ⟨rfl, rfl⟩
/-- a store that a call made, all of whose blocks are newer than w -/
structure SNew (w W : World) (b : Nat) (F : List Nat) (L : SL) (q : Nat) (qs : List Value) : Prop where
  s : StP W b F L q qs
  f : ∀ k ∈ F, w.heap.size ≤ k
  l : Below w.heap.size w W
theorem SNew.set {w W W' : World} {b : Nat} {F : List Nat} {L L' : SL} {q q' : Nat} {qs qs' : List Value} {F' : List Nat} (h : SNew w W b F L q qs) (hs : StP W' b F' L' q' qs') (ht : Touch F W W') (hf : ∀ k ∈ F', k ∈ F ∨ W.heap.size ≤ k) : SNew w W' b F' L' q' qs' :=
  ⟨hs, fun k hk => by
    rcases hf k hk with h1 | h1
    · exact h.f k h1
    · have := h.l.size; omega, h.l.trans (ht.below h.f h.l.size)⟩
theorem SNew.below {w W W' : World} {b : Nat} {F : List Nat} {L : SL} {q : Nat} {qs : List Value} (h : SNew w W b F L q qs) (hb : Below W.heap.size W W') : SNew w W' b F L q qs := ⟨h.s.below hb, h.f, h.l.trans (hb.mono h.l.size)⟩
theorem SNew.set_new {w W : World} {b : Nat} {F : List Nat} {L : SL} {q : Nat} {qs : List Value} (h : SNew w W b F L q qs) (k v : ByteArray) (hk : k.size ≤ maxLen) (hv : v.size ≤ maxLen) (hk0 : k ≠ ⟨#[]⟩) (hN : L.length < 1000000) (hq : q < 1000000) (hne : sget L k ≠ some v) :
    Calls Try.prog 34 #[.pointer (some ⟨b, 0, none⟩), .string k, .string v] W fun e W' => e = .returned (.int .i64 0) ∧ ∃ F', SNew w W' b F' (sset L k v) (q + 1) (qs ++ chg k (sget L k).isSome ((sget L k).getD ⟨#[]⟩)) ∧ Touch F W W' := by
  obtain ⟨bm, vb, vk, vq, hF, hM⟩ := h.s
  refine (_root_.Go.Proofs.Ythloohoefjmmoaa.set_new b bm vb vk vq L q qs k v W hM hk hv hk0 hN hq hne).mono ?_
  rintro e W' ⟨he, F', hs, ht, hf⟩
  rw [← hF] at ht hf
  exact ⟨he, F', h.set hs ht hf, ht⟩
theorem SNew.set_same {w W : World} {b : Nat} {F : List Nat} {L : SL} {q : Nat} {qs : List Value} (h : SNew w W b F L q qs) (k v : ByteArray) (hk : k.size ≤ maxLen) (hk0 : k ≠ ⟨#[]⟩) (he : sget L k = some v) :
    Calls Try.prog 34 #[.pointer (some ⟨b, 0, none⟩), .string k, .string v] W fun e W' => e = .returned (.int .i64 0) ∧ ∃ F', SNew w W' b F' L q qs ∧ Touch F W W' := by
  refine (_root_.Go.Proofs.Ythloohoefjmmoaa.set_same b F L q qs k v W h.s hk hk0 he).mono ?_
  rintro e W' ⟨he, F', hs, ht, hf⟩
  exact ⟨he, F', h.set hs ht hf, ht⟩
theorem SNew.get_some {w W : World} {b : Nat} {F : List Nat} {L : SL} {q : Nat} {qs : List Value} (h : SNew w W b F L q qs) (k v : ByteArray) (hk : k.size ≤ maxLen) (he : sget L k = some v) :
    Calls Try.prog 27 #[.pointer (some ⟨b, 0, none⟩), .string k] W fun e W' => e = .returned (.tuple #[.string v, .bool true]) ∧ SNew w W' b F L q qs ∧ Below W.heap.size W W' := by
  refine (sget_live b F L q qs k W h.s hk).mono ?_
  rintro e W' ⟨h1, hb⟩
  rw [he] at h1
  exact ⟨h1, h.below hb, hb⟩
theorem SNew.get_none {w W : World} {b : Nat} {F : List Nat} {L : SL} {q : Nat} {qs : List Value} (h : SNew w W b F L q qs) (k : ByteArray) (hk : k.size ≤ maxLen) (he : sget L k = none) :
    Calls Try.prog 27 #[.pointer (some ⟨b, 0, none⟩), .string k] W fun e W' => e = .returned (.tuple #[.string ⟨#[]⟩, .bool false]) ∧ SNew w W' b F L q qs ∧ Below W.heap.size W W' := by
  refine (sget_live b F L q qs k W h.s hk).mono ?_
  rintro e W' ⟨h1, hb⟩
  rw [he] at h1
  exact ⟨h1, h.below hb, hb⟩
theorem SNew.new (w W : World) (hb : Below w.heap.size w W) : Calls Try.prog 7 #[] W fun e W' => ∃ b F, e = .returned (.pointer (some ⟨b, 0, none⟩)) ∧ SNew w W' b F [] 0 [] ∧ Below W.heap.size W W' ∧ ∀ k ∈ F, W.heap.size ≤ k := by
  refine (new_walk W).mono ?_
  rintro e W' ⟨b, F, he, hs, hf, hB⟩
  exact ⟨b, F, he, ⟨hs, fun k hk => Nat.le_trans hb.size (hf k hk), hb.trans (hB.mono hb.size)⟩, hB, hf⟩
end Go.Proofs.Ythloohoefjmmoaa
