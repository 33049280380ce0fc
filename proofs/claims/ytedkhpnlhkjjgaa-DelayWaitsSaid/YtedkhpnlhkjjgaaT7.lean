/- The store: Set, walked. -/
import Derived.Test.YtedkhpnlhkjjgaaT6
import Derived.Deep.RegionLaw
namespace Go.Proofs.Ytedkhpnlhkjjgaa
open Go.RowKit Go.Maps Go.Sort

theorem infoChange : (Try.prog.info? 166).map (fun i => (i.zero, i.size, i.bytes)) = some (some (.agg #[.string { data := #[] }, .bool false, .string { data := #[] }]), 3, 40) := by kernel_rfl
/-- what a change is, in cells -/
def chg (k : ByteArray) (had : Bool) (was : ByteArray) : List Value := [.string k, .bool had, .string was]
def setL (L : SL) (k v : ByteArray) : SL := if sget L k = some v then L else sset L k v
theorem chg_done {W w' : World} {b bm : Nat} {vb vk vq : Value} {L : SL} {q : Nat} {qs : List Value} {g cap : Nat} {new : List Value} {o : Obj} (h : StM W b bm vb vk vq L q qs)
    (hown : w'.ownsRow 0 166 3 (.slice (some ⟨g, 0, none⟩) (q + 1) cap) (q + 1) (qs ++ new)) (hg : (W.drew.alloc o).grownBy w' vq.ownBlock) (hat : vq.ownBlock = some g ∨ g = W.heap.size + 1) :
    StM (w'.setCell ⟨b, 2, none⟩ (.slice (some ⟨g, 0, none⟩) (q + 1) cap)) b bm vb vk (.slice (some ⟨g, 0, none⟩) (q + 1) cap) L (q + 1) (qs ++ new) ∧ Touch (fpr b bm vb vk vq L) W (w'.setCell ⟨b, 2, none⟩ (.slice (some ⟨g, 0, none⟩) (q + 1) cap)) ∧
      (∀ k ∈ fpr b bm vb vk (.slice (some ⟨g, 0, none⟩) (q + 1) cap) L, k ∈ fpr b bm vb vk vq L ∨ W.heap.size ≤ k) := by
  have hnd := nodup_fpr.1 h.nd
  have hb : b ∈ kfp b vb vk (skeys L) := by unfold kfp; simp
  have hgk : ∀ k, k < W.heap.size → vq.ownBlock ≠ some k → w'.heap[k]? = W.heap[k]? := fun k hk hne =>
    (hg.block k (by rw [World.size_alloc]; show k < W.heap.size + 1; omega) (fun e => hne e.symm)).trans (heap_alloc_old W.drew o hk)
  have hkey : ∀ k, k ∈ kfp b vb vk (skeys L) → w'.heap[k]? = W.heap[k]? := fun k hk => hgk k (h.keys.lt k hk) fun e => (hnd.2.2 k e).2 hk
  have hbm : w'.heap[bm]? = W.heap[bm]? := hgk bm h.m.lt fun e => (hnd.2.2 bm e).1 rfl
  have hgn : ∀ k, (k = bm ∨ k ∈ kfp b vb vk (skeys L)) → k ≠ g := fun k hk e => by
    rcases hat with h1 | h1
    · rcases hk with rfl | hk
      · exact (hnd.2.2 g h1).1 e.symm
      · exact (hnd.2.2 g h1).2 (e ▸ hk)
    · rcases hk with rfl | hk
      · have := h.m.lt; omega
      · have := h.keys.lt k hk; omega
  have hfar : ∀ k, k ≠ b → (w'.setCell ⟨b, 2, none⟩ (.slice (some ⟨g, 0, none⟩) (q + 1) cap)).heap[k]? = w'.heap[k]? := fun k hk => Below.heap_setCell _ _ _ _ hk
  refine ⟨?_, ?_, ?_⟩
  · have hK : KeysAt (w'.setCell ⟨b, 2, none⟩ (.slice (some ⟨g, 0, none⟩) (q + 1) cap)) b bm vb vk (.slice (some ⟨g, 0, none⟩) (q + 1) cap) (skeys L) := by
      have h0 := h.keys
      have hsm : ∀ k, k ≠ b → k ∈ kfp b vb vk (skeys L) → (w'.setCell ⟨b, 2, none⟩ (.slice (some ⟨g, 0, none⟩) (q + 1) cap)).heap[k]? = W.heap[k]? := fun k hk hm => (hfar k hk).trans (hkey k hm)
      have hne1 : ∀ k, vb.ownBlock = some k → k ≠ b ∧ k ∈ kfp b vb vk (skeys L) := fun k hk => by
        have hm : k ∈ kfp b vb vk (skeys L) := by unfold kfp; simp [hk]
        refine ⟨fun e => ?_, hm⟩
        have := hnd.1
        unfold kfp at this
        rw [List.nodup_cons] at this
        exact this.1 (by subst e; simp [hk])
      have hne2 : skeys L ≠ [] → ∀ k, vk.ownBlock = some k → k ≠ b ∧ k ∈ kfp b vb vk (skeys L) := fun hn k hk => by
        have hm : k ∈ kfp b vb vk (skeys L) := by unfold kfp; simp [hk, hn]
        refine ⟨fun e => ?_, hm⟩
        have := hnd.1
        unfold kfp at this
        rw [List.nodup_cons] at this
        exact this.1 (by subst e; simp [hk, hn])
      refine ⟨?_, ownsRow_same h0.kb fun k hk => hsm k (hne1 k hk).1 (hne1 k hk).2, fun hn => ownsRow_same (h0.kk hn) fun k hk => hsm k (hne2 hn k hk).1 (hne2 hn k hk).2, h0.so, h0.nd⟩
      rw [heap_setCell_row ((hkey b hb).trans h0.r)]
      rfl
    refine StM.mk' hK rfl (h.m.same ((hfar bm (fun e => hnd.2.1 (e ▸ hb))).trans hbm)) (ownsRow_same hown fun k hk => ?_) hnd.2.1 fun k hk => ?_
    · cases hk
      exact hfar g (fun e => hgn b (.inr hb) e.symm)
    · cases hk
      exact ⟨fun e => hgn bm (.inl rfl) e.symm, fun hm => hgn g (.inr hm) rfl⟩
  · have t0 : Touch (fpr b bm vb vk vq L) W (W.drew.alloc o) := touch_alloc (touch_drew (Touch.refl _ W)) o
    have t1 : Touch (fpr b bm vb vk vq L) (W.drew.alloc o) w' := Touch.grown hg fun k hk => (fpr_kfp _ _ _ _ _ _ _).2 (.inr (.inr hk))
    exact (t0.trans (fun _ hk => .inl hk) t1).trans (fun _ hk => .inl hk) (Touch.setCell _ _ _ ((fpr_kfp _ _ _ _ _ _ _).2 (.inr (.inl hb))))
  · intro k hk
    rcases (fpr_kfp _ _ _ _ _ _ _).1 hk with h1 | h1 | h1
    · exact .inl ((fpr_kfp _ _ _ _ _ _ _).2 (.inl h1))
    · exact .inl ((fpr_kfp _ _ _ _ _ _ _).2 (.inr (.inl h1)))
    · cases h1
      rcases hat with h2 | h2
      · exact .inl ((fpr_kfp _ _ _ _ _ _ _).2 (.inr (.inr h2)))
      · exact .inr (by show W.heap.size ≤ g; omega)
theorem chg_r {W w' : World} {b bm : Nat} {vb vk vq : Value} {L : SL} {q : Nat} {qs : List Value} {o : Obj} (h : StM W b bm vb vk vq L q qs) (hg : (W.drew.alloc o).grownBy w' vq.ownBlock) : w'.heap[b]? = some (.cells #[.map (some bm), vb, vq] 107 (0, 0)) :=
  (hg.block b (by rw [World.size_alloc]; have := hp_lt h.r; show b < W.heap.size + 1; omega) (fun e => ((nodup_fpr.1 h.nd).2.2 b e.symm).2 (by unfold kfp; simp))).trans ((heap_alloc_old W.drew o (hp_lt h.r)).trans h.r)
theorem chg_one {k was : ByteArray} {had : Bool} : ∀ u ∈ chg k had was, u.oneCell' = true := fun u hu => by
  unfold chg at hu
  simp at hu
  rcases hu with rfl | rfl | rfl <;> rfl
theorem chg_news (W : World) (k was : ByteArray) (had : Bool) : ∀ j u, (chg k had was)[j]? = some u → (W.drew.alloc (.cells #[.string k, .bool had, .string was] 166)).cell? ((⟨W.heap.size, 0, none⟩ : Addr).add j) = some u :=
  World.news_of_block (cs := #[.string k, .bool had, .string was]) (heap_alloc_new W.drew _)
/-- what Set leaves -/
def SetPost (b : Nat) (F : List Nat) (L' : SL) (q' : Nat) (qs' : List Value) (r : Int) (w : World) (e : Ending) (w' : World) : Prop :=
  e = .returned (.int .i64 r) ∧ ∃ F', StP w' b F' L' q' qs' ∧ Touch F w w' ∧ ∀ k ∈ F', k ∈ F ∨ w.heap.size ≤ k
theorem set_done {w W w5 w6 : World} {b bm : Nat} {vb vk vq vq' vb' vk' : Value} {L L' : SL} {q' : Nat} {qs' : List Value} (hbW : Below w.heap.size w W) (h1 : Touch (fpr b bm vb vk vq L) W w5) (h2 : ∀ k ∈ fpr b bm vb vk vq' L, k ∈ fpr b bm vb vk vq L ∨ W.heap.size ≤ k)
    (hM : StM w6 b bm vb' vk' vq' L' q' qs') (h3 : Touch (fpr b bm vb vk vq' L) w5 w6) (h4 : ∀ k ∈ fpr b bm vb' vk' vq' L', k ∈ fpr b bm vb vk vq' L ∨ w5.heap.size ≤ k) : SetPost b (fpr b bm vb vk vq L) L' q' qs' 0 w (.returned (.int .i64 0)) w6 := by
  refine ⟨rfl, _, ⟨bm, vb', vk', vq', rfl, hM⟩, ((Touch.of_below hbW).trans (fun _ hk => .inl hk) h1).trans (fun k hk => ?_) h3, fun k hk => ?_⟩
  · rcases h2 k hk with h | h
    · exact .inl h
    · right; have := hbW.size; omega
  · rcases h4 k hk with h | h
    · rcases h2 k h with h | h
      · exact .inl h
      · right; have := hbW.size; omega
    · right; have := hbW.size; have := h1.size; omega
set_option maxRecDepth 100000 in
set_option maxHeartbeats 4000000 in
theorem set_new (b bm : Nat) (vb vk vq : Value) (L : SL) (q : Nat) (qs : List Value) (k v : ByteArray) (w : World) (h : StM w b bm vb vk vq L q qs) (hk : k.size ≤ maxLen) (hv : v.size ≤ maxLen) (hk0 : k ≠ ⟨#[]⟩) (hN : L.length < 128) (hq : q < 1000000) (hne : sget L k ≠ some v) :
    Calls Try.prog 64 #[.pointer (some ⟨b, 0, none⟩), .string k, .string v] w (SetPost b (fpr b bm vb vk vq L) (sset L k v) (q + 1) (qs ++ chg k (sget L k).isSome ((sget L k).getD ⟨#[]⟩)) 0 w) := by
  have hl := h.m.look k hk
  have c0 := (hp_cell (i := 0) h.r).trans rfl
  have lb := hp_lt h.r
  have HM := Lib.hid (made_live b _ L q qs w ⟨bm, vb, vk, vq, rfl, h⟩)
  obtain ⟨old, hold⟩ : ∃ o, o = (sget L k).getD ⟨#[]⟩ := ⟨_, rfl⟩
  obtain ⟨had, hhad⟩ : ∃ o, o = (sget L k).isSome := ⟨_, rfl⟩
  have hno : had = false ∨ (had = true ∧ (old.toList == v.toList) = false) := by
    rw [hold, hhad]
    cases hs : sget L k with
    | none => exact .inl rfl
    | some u =>
      right
      refine ⟨rfl, ?_⟩
      rw [beq_eq_false_iff_ne, Lib.toList_data, Lib.toList_data]
      intro e
      exact hne (by rw [hs, ← lit_inj (congrArg Lit.string e)]; rfl)
  have hk1 : k.toList.isEmpty = false := by
    rw [Lib.toList_data]
    cases hh : k.data.toList with
    | nil => exact absurd (lit_inj (b := ⟨#[]⟩) (congrArg Lit.string (hh.trans rfl))) hk0
    | cons a r => rfl
  rw [← hold, ← hhad] at hl ⊢
  obtain ⟨W, hW⟩ : ∃ W, W = w.alloc (.cells #[.string old] 148) := ⟨_, rfl⟩
  have hbW : Below w.heap.size w W := by rw [hW]; exact (Below.refl w.heap.size w).alloc (Nat.le_refl _) _
  have hSW := h.below hbW
  have hr7 : W.heap[w.heap.size]? = some (.cells #[.string old] 148 (0, 0)) := by rw [hW]; exact heap_alloc_new _ _
  obtain ⟨i0, hi, hz0, hz1, hz2⟩ := info_parts infoChange
  have Hh := Lib.hid (And.intro h (And.intro hk (And.intro hv (And.intro hN (And.intro hq (And.intro hbW hSW))))))
  have HW := Lib.hid hW
  have d2 := (hp_cell (i := 2) hSW.r).trans rfl
  have d7 := (hp_cell (i := 0) hr7).trans rfl
  have lbW := hp_lt hSW.r
  have lwW := hp_lt hr7
  have HO := Lib.hid (fun (o : Obj) => show (W.drew.alloc o).ownsRow 0 166 3 vq q qs from ownsRow_same hSW.kq fun g hg => heap_alloc_old W.drew o (ownsRow_blk hSW.kq g hg))
  have HP := Lib.hid (fun (w' : World) (bm : Nat) (vb vk vq : Value) (q : Nat) (qs : List Value) (h' : StM w' b bm vb vk vq L q qs) => put_live b bm vb vk vq L q qs k v w' h' hk hv hN)
  clear h hk hv hN hold hhad hq hk0 hne hW hbW hSW hr7
  rcases hno with rfl | ⟨rfl, hov⟩
  · go_enter Try.func64, Try.ntmps64
    go_upto_region 7 with (go_at_call 27; refine HM.out.mono ?_; rintro e w1 ⟨rfl, rfl⟩)
    rw [← HW.out]
    go_region_law (refine step_append_lies _ rfl (.tmp 35) (.tmp 40) 105 rfl 0 166 i0 _ 3 40 Try.underlying105 hi hz0 hz1 hz2 rfl (by decide) vq q qs (by simp [Act.eval]) (HO.out _) ⟨W.heap.size, 0, none⟩ 1 1 (chg k false old) (by simp [Act.eval]) rfl (chg_news W k old false) chg_one (by decide) (by have := Hh.out.2.2.2.2.1; unfold maxLen; omega) (by have := Hh.out.2.2.2.2.1; omega) (Nat.zero_le _) _ rfl ?_; intro g cap w5 hown hgrow hat hlt; have hr5 := chg_r Hh.out.2.2.2.2.2.2 hgrow; have e2 := (hp_cell (i := 2) hr5).trans rfl; have f2 := hp_free (i := 2) hr5; have HC := Lib.hid (chg_done Hh.out.2.2.2.2.2.2 hown hgrow (by simpa using hat)); clear hown hgrow hat hlt hr5)
    all_goals go_wp2_with (go_at_call 115; refine (HP.out _ bm vb vk _ (q + 1) _ HC.out.1).mono ?_; rintro e w6 ⟨rfl, vb', vk', hM, ht, hF⟩; have HM6 := Lib.hid (set_done Hh.out.2.2.2.2.2.1 HC.out.2.1 HC.out.2.2 hM ht hF); clear hM ht hF)
    all_goals go_ret
    all_goals exact HM6.out
  · go_enter Try.func64, Try.ntmps64
    go_upto_region 7 with (go_at_call 27; refine HM.out.mono ?_; rintro e w1 ⟨rfl, rfl⟩)
    rw [← HW.out]
    go_region_law (refine step_append_lies _ rfl (.tmp 35) (.tmp 40) 105 rfl 0 166 i0 _ 3 40 Try.underlying105 hi hz0 hz1 hz2 rfl (by decide) vq q qs (by simp [Act.eval]) (HO.out _) ⟨W.heap.size, 0, none⟩ 1 1 (chg k true old) (by simp [Act.eval]) rfl (chg_news W k old true) chg_one (by decide) (by have := Hh.out.2.2.2.2.1; unfold maxLen; omega) (by have := Hh.out.2.2.2.2.1; omega) (Nat.zero_le _) _ rfl ?_; intro g cap w5 hown hgrow hat hlt; have hr5 := chg_r Hh.out.2.2.2.2.2.2 hgrow; have e2 := (hp_cell (i := 2) hr5).trans rfl; have f2 := hp_free (i := 2) hr5; have HC := Lib.hid (chg_done Hh.out.2.2.2.2.2.2 hown hgrow (by simpa using hat)); clear hown hgrow hat hlt hr5)
    all_goals go_wp2_with (go_at_call 115; refine (HP.out _ bm vb vk _ (q + 1) _ HC.out.1).mono ?_; rintro e w6 ⟨rfl, vb', vk', hM, ht, hF⟩; have HM6 := Lib.hid (set_done Hh.out.2.2.2.2.2.1 HC.out.2.1 HC.out.2.2 hM ht hF); clear hM ht hF)
    all_goals go_ret
    all_goals exact HM6.out
end Go.Proofs.Ytedkhpnlhkjjgaa
