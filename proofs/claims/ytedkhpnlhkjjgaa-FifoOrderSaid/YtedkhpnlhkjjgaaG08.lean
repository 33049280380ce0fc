/- The store: Set where nothing is new, Undo of one change, walked. -/
import Derived.Test.YtedkhpnlhkjjgaaG07
import Derived.Test.YtedkhpnlhkjjgaaG02
namespace Go.Proofs.Ytedkhpnlhkjjgaa
open Go.RowKit Go.Maps Go.Sort

theorem ba_nil {k : ByteArray} (hk0 : k ≠ ⟨#[]⟩) : k.toList.isEmpty = false := by
  rw [Lib.toList_data]
  cases hh : k.data.toList with
  | nil => exact absurd (lit_inj (b := ⟨#[]⟩) (congrArg Lit.string (hh.trans rfl))) hk0
  | cons a r => rfl
set_option maxRecDepth 100000 in
set_option maxHeartbeats 2000000 in
theorem set_same (b : Nat) (F : List Nat) (L : SL) (q : Nat) (qs : List Value) (k v : ByteArray) (w : World) (h : StP w b F L q qs) (hk : k.size ≤ maxLen) (hk0 : k ≠ ⟨#[]⟩) (he : sget L k = some v) :
    Calls Try.prog 64 #[.pointer (some ⟨b, 0, none⟩), .string k, .string v] w (SetPost b F L q qs 0 w) := by
  have HM := Lib.hid (made_live b F L q qs w h)
  have HH := Lib.hid h
  obtain ⟨bm, vb, vk, vq, rfl, hS⟩ := h
  have hl := hS.m.look k hk
  rw [he] at hl
  replace hl : (Instr.lookup 103 (.map (some bm)) (.string k) true).run Try.prog w = .ok (.tuple #[.agg #[.string v], .bool true]) w := hl
  have c0 := (hp_cell (i := 0) hS.r).trans rfl
  have hk1 := ba_nil hk0
  have hvv : (v.toList == v.toList) = true := beq_self_eq_true _
  clear hS hk hk0 he
  go_enter Try.func64, Try.ntmps64
  go_wp2_with (go_at_call 27; refine HM.out.mono ?_; rintro e w1 ⟨rfl, rfl⟩)
  go_ret
  have hb := (Below.refl w.heap.size w).alloc (Nat.le_refl _) (.cells #[.string v] 148)
  exact ⟨rfl, _, HH.out.below hb, Touch.of_below hb, fun k hk => .inl hk⟩
theorem kfp_ne {b : Nat} {vb vk : Value} {ks : List ByteArray} (h : (kfp b vb vk ks).Nodup) : (∀ k, vb.ownBlock = some k → k ≠ b ∧ k ∈ kfp b vb vk ks) ∧ (ks ≠ [] → ∀ k, vk.ownBlock = some k → k ≠ b ∧ k ∈ kfp b vb vk ks) := by
  refine ⟨fun k hk => ?_, fun hn k hk => ?_⟩
  · have hm : k ∈ kfp b vb vk ks := by unfold kfp; simp [hk]
    refine ⟨fun e => ?_, hm⟩
    unfold kfp at h
    rw [List.nodup_cons] at h
    exact h.1 (by subst e; simp [hk])
  · have hm : k ∈ kfp b vb vk ks := by unfold kfp; simp [hk, hn]
    refine ⟨fun e => ?_, hm⟩
    unfold kfp at h
    rw [List.nodup_cons] at h
    exact h.1 (by subst e; simp [hk, hn])
/-- the changes' row gets shorter -/
theorem und_done {W : World} {b bm g cap m : Nat} {vb vk : Value} {L : SL} {qs three zs : List Value} (h : StM W b bm vb vk (.slice (some ⟨g, 0, none⟩) (m + 1) cap) L (m + 1) (qs ++ three)) (hq : qs.length = m * 3) (hz : zs.length = 3) :
    StM ((W.setCells g (m * 3) zs).setCell ⟨b, 2, none⟩ (.slice (some ⟨g, 0, none⟩) m cap)) b bm vb vk (.slice (some ⟨g, 0, none⟩) m cap) L m qs ∧ Touch (fpr b bm vb vk (.slice (some ⟨g, 0, none⟩) (m + 1) cap) L) W ((W.setCells g (m * 3) zs).setCell ⟨b, 2, none⟩ (.slice (some ⟨g, 0, none⟩) m cap)) := by
  have hnd := nodup_fpr.1 h.nd
  obtain ⟨g1, g2⟩ := hnd.2.2 g rfl
  have hb : b ∈ kfp b vb vk (skeys L) := by unfold kfp; simp
  obtain ⟨cur, hg, hn, hc, hs, ht, hl⟩ := ownsRow_open h.kq
  have t1 := touch_setCells (F := [g]) g (by simp) zs (m * 3) W
  have hfar : ∀ k, k < W.heap.size → k ≠ g → (W.setCells g (m * 3) zs).heap[k]? = W.heap[k]? := fun k hk hne => t1.block k hk (by simp; exact hne)
  have hfar2 : ∀ k, k < W.heap.size → k ≠ g → k ≠ b → ((W.setCells g (m * 3) zs).setCell ⟨b, 2, none⟩ (.slice (some ⟨g, 0, none⟩) m cap)).heap[k]? = W.heap[k]? := fun k hk hne hne2 => (Below.heap_setCell _ _ _ _ hne2).trans (hfar k hk hne)
  have hgk : ∀ k, k ∈ kfp b vb vk (skeys L) → k ≠ g := fun k hk e => g2 (e ▸ hk)
  have h0 := h.keys
  obtain ⟨n1, n2⟩ := kfp_ne hnd.1
  refine ⟨StM.mk' (ks := skeys L) ⟨?_, ownsRow_same h0.kb fun k hk => hfar2 k (ownsRow_blk h0.kb k hk) (hgk k (n1 k hk).2) (n1 k hk).1, fun hn => ownsRow_same (h0.kk hn) fun k hk => hfar2 k (ownsRow_blk (h0.kk hn) k hk) (hgk k (n2 hn k hk).2) (n2 hn k hk).1, h0.so, hnd.1⟩ rfl (h.m.same (hfar2 bm h.m.lt (fun e => g1 e.symm) (fun e => hnd.2.1 (e ▸ hb)))) ?_ hnd.2.1 (fun k hk => by cases hk; exact ⟨g1, g2⟩), ?_⟩
  · rw [heap_setCell_row ((hfar b (hp_lt h.r) (hgk b hb)).trans h.r)]
    rfl
  · refine ownsRow_shut (cur := putA cur (m * 3) zs) ?_ (by omega) hc (by rw [putA_size, hs]) ?_ hq
    · rw [Below.heap_setCell _ _ _ _ (show g ≠ b from fun e => hgk b hb e.symm)]
      exact heap_setCells_row _ _ hg
    · rw [putA_list _ _ _ (by rw [hz, hs]; omega), List.append_assoc, List.take_append_of_le_length (by rw [List.length_take]; simp; rw [hs]; omega), List.take_take, Nat.min_self]
      have := congrArg (List.take (m * 3)) ht
      rw [List.take_take, Nat.min_eq_left (by omega), List.take_left' hq] at this
      exact this
  · exact (t1.mono (fun k hk => by rw [List.mem_singleton.1 hk]; exact (fpr_kfp _ _ _ _ _ _ _).2 (.inr (.inr rfl)))).trans (fun _ hk => .inl hk) (Touch.setCell _ _ _ ((fpr_kfp _ _ _ _ _ _ _).2 (.inr (.inl hb))))
theorem zeroChange (w : World) : (zeroValue 166).run Try.prog w = .ok (.agg #[.string { data := #[] }, .bool false, .string { data := #[] }]) w := by kernel_rfl
theorem clear_one (w : World) (ty : TypeId) (g o c : Nat) (hc : ∀ j, j < 3 → (w.cell? ⟨g, o + j, none⟩).isSome = true) (hf : ∀ j, w.frozen? ⟨g, o + j, none⟩ = false) :
    (Builtin.clear_ #[105] ty #[.slice (some ⟨g, o, none⟩) 1 c]).run Try.prog w = .ok (.tuple #[]) (w.setCells g o (chg ⟨#[]⟩ false ⟨#[]⟩)) := by
  have hst := run_storeCells_cells (P := Try.prog) g o (chg ⟨#[]⟩ false ⟨#[]⟩) 0 w (by simpa [chg] using hc) (fun j _ => by rw [Nat.add_zero]; exact hf j) chg_one
  have hz : (Builtin.zeroCells (Value.agg #[.string { data := #[] }, .bool false, .string { data := #[] }]).cells 1).toList = chg ⟨#[]⟩ false ⟨#[]⟩ := by kernel_rfl
  simp only [Nat.add_zero] at hst
  simp [Builtin.clear_, run_underlying Try.underlying105, hz, hst]
set_option maxRecDepth 100000 in
set_option maxHeartbeats 4000000 in
/-- the last change taken back, where the key was there -/
theorem undo_one (b bm : Nat) (vb vk vq : Value) (L : SL) (m : Nat) (qs : List Value) (k was : ByteArray) (w : World) (h : StM w b bm vb vk vq L (m + 1) (qs ++ chg k true was)) (hql : qs.length = m * 3) (hm : m < 1000000) (hk : k.size ≤ maxLen) (hv : was.size ≤ maxLen) (hN : L.length < 128) :
    Calls Try.prog 89 #[.pointer (some ⟨b, 0, none⟩), .int .i64 (m : Nat)] w fun e w' => e = .returned (.bool true) ∧ ∃ F', StP w' b F' (sset L k was) m qs ∧ Touch (fpr b bm vb vk vq L) w w' ∧ ∀ k ∈ F', k ∈ fpr b bm vb vk vq L ∨ w.heap.size ≤ k := by
  obtain ⟨g, cap, rfl, hgl⟩ := ownsRow_form h.kq (by omega)
  have HM := Lib.hid (made_live b _ L (m + 1) _ w ⟨bm, vb, vk, _, rfl, h⟩)
  have hc := fun j u (hj : (qs ++ chg k true was)[j]? = some u) => ownsRow_cell h.kq rfl hj
  have k0 : w.cell? ⟨g, m * 3, none⟩ = some (.string k) := hc _ _ (by rw [List.getElem?_append_right (by omega), hql, Nat.sub_self]; rfl)
  have k1 : w.cell? ⟨g, m * 3 + 1, none⟩ = some (.bool true) := hc _ _ (by rw [List.getElem?_append_right (by omega), hql, Nat.add_sub_cancel_left]; rfl)
  have k2 : w.cell? ⟨g, m * 3 + 2, none⟩ = some (.string was) := hc _ _ (by rw [List.getElem?_append_right (by omega), hql, Nat.add_sub_cancel_left]; rfl)
  have c2 := (hp_cell (i := 2) h.r).trans rfl
  have lb := hp_lt h.r
  obtain ⟨cur, hgc, hn1, hn2, hn3, _, _⟩ := ownsRow_open h.kq
  have Hh := Lib.hid (And.intro h (And.intro hk (And.intro hv (And.intro hN (And.intro hql (And.intro hgc (And.intro hn1 (And.intro hn2 hn3))))))))
  have cm : m < cap := by omega
  have cm1 : m ≤ cap := by omega
  clear h hc hql hk hv hN hgc hn1 hn2 hn3
  go_enter Try.func89, Try.ntmps89
  go_wp2_with (go_at_call 27; refine HM.out.mono ?_; rintro e w1 ⟨rfl, rfl⟩)
  go_loopw [5] (fun i wr => (i = .int .i64 (m : Nat) ∧ wr = w) ∨ (i = .int .i64 ((m : Int) - 1) ∧ ∃ vb' vk', StM wr b bm vb' vk' (.slice (some ⟨g, 0, none⟩) (m + 1) cap) (sset L k was) (m + 1) (qs ++ chg k true was) ∧ Touch (fpr b bm vb vk (.slice (some ⟨g, 0, none⟩) (m + 1) cap) L) w wr ∧ ∀ k' ∈ fpr b bm vb' vk' (.slice (some ⟨g, 0, none⟩) (m + 1) cap) (sset L k was), k' ∈ fpr b bm vb vk (.slice (some ⟨g, 0, none⟩) (m + 1) cap) L ∨ w.heap.size ≤ k')) (fun i _ => (intOf i - (m : Int) + 1).toNat)
  case atStart => exact .inl ⟨rfl, rfl⟩
  case round =>
    rcases hrel with ⟨rfl, rfl⟩ | ⟨rfl, vb', vk', hM, ht, hF⟩
    · have hb0 : Below wr.heap.size wr (wr.alloc (.cells #[.string k, .bool true, .string was] 166)) := (Below.refl _ _).alloc (Nat.le_refl _) _
      have HP := Lib.hid (put_live b bm vb vk (.slice (some ⟨g, 0, none⟩) (m + 1) cap) L (m + 1) (qs ++ chg k true was) k was _ (Hh.out.1.below hb0) Hh.out.2.1 Hh.out.2.2.1 Hh.out.2.2.2.1)
      have HB0 := Lib.hid hb0
      clear hb0
      go_wp2_with (go_at_call 115; refine HP.out.mono ?_; rintro e w6 ⟨rfl, vb', vk', hM, ht, hF⟩; have HM6 := Lib.hid (And.intro hM (And.intro ht hF)); clear hM ht hF)
      exact ⟨.inr ⟨rfl, vb', vk', HM6.out.1, (Touch.of_below HB0.out).trans (fun _ hk => .inl hk) HM6.out.2.1, fun k' hk' => by
        rcases HM6.out.2.2 k' hk' with h1 | h1
        · exact .inl h1
        · right; have := HB0.out.size; omega⟩, by simp [intOf]; omega⟩
    · obtain ⟨cur', hg', _, _, hs', _, _⟩ := ownsRow_open hM.kq
      obtain ⟨W2, hW2⟩ : ∃ W2, W2 = wr.setCells g (m * 3) (chg ⟨#[]⟩ false ⟨#[]⟩) := ⟨_, rfl⟩
      have hcl : ∀ ty, (Builtin.clear_ #[105] ty #[.slice (some ⟨g, m * 3, none⟩) 1 (cap - m)]).run Try.prog wr = .ok (.tuple #[]) W2 := fun ty => by
        rw [hW2]
        exact clear_one wr ty g (m * 3) (cap - m) (fun j hj => by rw [hp_cell hg']; simp [hs']; omega) (fun j => hp_free hg')
      have hd := und_done (zs := chg ⟨#[]⟩ false ⟨#[]⟩) hM Hh.out.2.2.2.2.1 rfl
      rw [← hW2] at hd
      have hgb : b ≠ g := fun e => ((nodup_fpr.1 hM.nd).2.2 g rfl).2 (by unfold kfp; simp [e])
      have hr2 : W2.heap[b]? = some (.cells #[.map (some bm), vb', .slice (some ⟨g, 0, none⟩) (m + 1) cap] 107 (0, 0)) := by rw [hW2]; exact ((touch_setCells (F := [g]) g (by simp) (chg ⟨#[]⟩ false ⟨#[]⟩) (m * 3) wr).block b (hp_lt hM.r) (by simp; exact hgb)).trans hM.r
      have cw := (hp_cell (i := 2) hM.r).trans rfl
      have cw2 := (hp_cell (i := 2) hr2).trans rfl
      have fw2 := hp_free (i := 2) hr2
      have HX := Lib.hid (And.intro hd (And.intro ht hF))
      clear hM ht hF hd hg' hs' hgb hr2 hW2
      go_wp2_with fail
      go_ret
      refine ⟨rfl, _, ⟨bm, vb', vk', _, rfl, HX.out.1.1⟩, HX.out.2.1.trans HX.out.2.2 HX.out.1.2, fun k' hk' => ?_⟩
      refine HX.out.2.2 k' ((fpr_kfp _ _ _ _ _ _ _).2 ?_)
      rcases (fpr_kfp _ _ _ _ _ _ _).1 hk' with h1 | h1 | h1
      · exact .inl h1
      · exact .inr (.inl h1)
      · exact .inr (.inr h1)
end Go.Proofs.Ytedkhpnlhkjjgaa

namespace Go.Proofs.Ytedkhpnlhkjjgaa
open Go.RowKit Go.Maps Go.Sort

set_option maxRecDepth 100000 in
set_option maxHeartbeats 400000 in
theorem set_dead (p : Value) (k : ByteArray) (v : ByteArray) (w : World) (h : SDead w p) : Calls Try.prog 64 #[p, .string k, .string v] w fun e w' => e = .returned (.int .i64 1) ∧ w = w' := by
  have HM := Lib.hid (made_dead p w h)
  clear h
  go_enter Try.func64, Try.ntmps64
  go_wp2_with (go_at_call 27; refine HM.out.mono ?_; rintro e w1 ⟨rfl, rfl⟩)
  go_ret
  exact ⟨rfl, rfl⟩

set_option maxRecDepth 100000 in
set_option maxHeartbeats 400000 in
theorem delete_dead (p : Value) (k : ByteArray) (w : World) (h : SDead w p) : Calls Try.prog 76 #[p, .string k] w fun e w' => e = .returned (.bool false) ∧ w = w' := by
  have HM := Lib.hid (made_dead p w h)
  clear h
  go_enter Try.func76, Try.ntmps76
  go_wp2_with (go_at_call 27; refine HM.out.mono ?_; rintro e w1 ⟨rfl, rfl⟩)
  go_ret
  exact ⟨rfl, rfl⟩

set_option maxRecDepth 100000 in
set_option maxHeartbeats 400000 in
theorem undo_dead (p : Value) (n : Int) (w : World) (h : SDead w p) : Calls Try.prog 89 #[p, .int .i64 n] w fun e w' => e = .returned (.bool false) ∧ w = w' := by
  have HM := Lib.hid (made_dead p w h)
  clear h
  go_enter Try.func89, Try.ntmps89
  go_wp2_with (go_at_call 27; refine HM.out.mono ?_; rintro e w1 ⟨rfl, rfl⟩)
  go_ret
  exact ⟨rfl, rfl⟩

set_option maxRecDepth 100000 in
set_option maxHeartbeats 400000 in
theorem mark_dead (p : Value) (w : World) (h : SDead w p) : Calls Try.prog 87 #[p] w fun e w' => e = .returned (.int .i64 0) ∧ w = w' := by
  have HM := Lib.hid (made_dead p w h)
  clear h
  go_enter Try.func87, Try.ntmps87
  go_wp2_with (go_at_call 27; refine HM.out.mono ?_; rintro e w1 ⟨rfl, rfl⟩)
  go_ret
  exact ⟨rfl, rfl⟩

set_option maxRecDepth 100000 in
set_option maxHeartbeats 400000 in
theorem len_dead (p : Value) (w : World) (h : SDead w p) : Calls Try.prog 26 #[p] w fun e w' => e = .returned (.int .i64 0) ∧ w = w' := by
  have HM := Lib.hid (made_dead p w h)
  clear h
  go_enter Try.func26, Try.ntmps26
  go_wp2_with (go_at_call 27; refine HM.out.mono ?_; rintro e w1 ⟨rfl, rfl⟩)
  go_ret
  exact ⟨rfl, rfl⟩

set_option maxRecDepth 100000 in
set_option maxHeartbeats 400000 in
theorem under_dead (p : Value) (k : ByteArray) (w : World) (h : SDead w p) : Calls Try.prog 124 #[p, .string k] w fun e w' => e = .returned (.slice none 0 0) ∧ w = w' := by
  have HM := Lib.hid (made_dead p w h)
  clear h
  go_enter Try.func124, Try.ntmps124
  go_wp2_with (go_at_call 27; refine HM.out.mono ?_; rintro e w1 ⟨rfl, rfl⟩)
  go_ret
  exact ⟨rfl, rfl⟩

/-- a store that a call made, all of whose blocks are newer than w -/
structure SNew (w W : World) (b : Nat) (F : List Nat) (L : SL) (q : Nat) (qs : List Value) : Prop where
  s : StP W b F L q qs
  f : ∀ k ∈ F, w.heap.size ≤ k
  l : Below w.heap.size w W
theorem SNew.set {w W W' : World} {b : Nat} {F : List Nat} {L L' : SL} {q q' : Nat} {qs qs' : List Value} {F' : List Nat} (h : SNew w W b F L q qs) (hs : StP W' b F' L' q' qs') (ht : Touch F W W') (hf : ∀ k ∈ F', k ∈ F ∨ W.heap.size ≤ k) : SNew w W' b F' L' q' qs' :=
  ⟨hs, fun k hk => by
    rcases hf k hk with h1 | h1
    · exact h.f k h1
    · have := h.l.size; omega, h.l.trans (ht.below h.f h.l.size)⟩
theorem SNew.below {w W W' : World} {b : Nat} {F : List Nat} {L : SL} {q : Nat} {qs : List Value} (h : SNew w W b F L q qs) (hb : Below W.heap.size W W') : SNew w W' b F L q qs := ⟨h.s.below hb, h.f, h.l.trans (hb.mono h.l.size)⟩
theorem SNew.set_new {w W : World} {b : Nat} {F : List Nat} {L : SL} {q : Nat} {qs : List Value} (h : SNew w W b F L q qs) (k v : ByteArray) (hk : k.size ≤ maxLen) (hv : v.size ≤ maxLen) (hk0 : k ≠ ⟨#[]⟩) (hN : L.length < 128) (hq : q < 1000000) (hne : sget L k ≠ some v) :
    Calls Try.prog 64 #[.pointer (some ⟨b, 0, none⟩), .string k, .string v] W fun e W' => e = .returned (.int .i64 0) ∧ ∃ F', SNew w W' b F' (sset L k v) (q + 1) (qs ++ chg k (sget L k).isSome ((sget L k).getD ⟨#[]⟩)) ∧ Touch F W W' := by
  obtain ⟨bm, vb, vk, vq, hF, hM⟩ := h.s
  refine (_root_.Go.Proofs.Ytedkhpnlhkjjgaa.set_new b bm vb vk vq L q qs k v W hM hk hv hk0 hN hq hne).mono ?_
  rintro e W' ⟨he, F', hs, ht, hf⟩
  rw [← hF] at ht hf
  exact ⟨he, F', h.set hs ht hf, ht⟩
theorem SNew.set_same {w W : World} {b : Nat} {F : List Nat} {L : SL} {q : Nat} {qs : List Value} (h : SNew w W b F L q qs) (k v : ByteArray) (hk : k.size ≤ maxLen) (hk0 : k ≠ ⟨#[]⟩) (he : sget L k = some v) :
    Calls Try.prog 64 #[.pointer (some ⟨b, 0, none⟩), .string k, .string v] W fun e W' => e = .returned (.int .i64 0) ∧ ∃ F', SNew w W' b F' L q qs ∧ Touch F W W' := by
  refine (_root_.Go.Proofs.Ytedkhpnlhkjjgaa.set_same b F L q qs k v W h.s hk hk0 he).mono ?_
  rintro e W' ⟨he, F', hs, ht, hf⟩
  exact ⟨he, F', h.set hs ht hf, ht⟩
theorem SNew.undo_one {w W : World} {b : Nat} {F : List Nat} {L : SL} {m : Nat} {qs : List Value} {k was : ByteArray} (h : SNew w W b F L (m + 1) (qs ++ chg k true was)) (hql : qs.length = m * 3) (hm : m < 1000000) (hk : k.size ≤ maxLen) (hv : was.size ≤ maxLen) (hN : L.length < 128) :
    Calls Try.prog 89 #[.pointer (some ⟨b, 0, none⟩), .int .i64 (m : Nat)] W fun e W' => e = .returned (.bool true) ∧ ∃ F', SNew w W' b F' (sset L k was) m qs ∧ Touch F W W' := by
  obtain ⟨bm, vb, vk, vq, hF, hM⟩ := h.s
  refine (_root_.Go.Proofs.Ytedkhpnlhkjjgaa.undo_one b bm vb vk vq L m qs k was W hM hql hm hk hv hN).mono ?_
  rintro e W' ⟨he, F', hs, ht, hf⟩
  rw [← hF] at ht hf
  exact ⟨he, F', h.set hs ht hf, ht⟩
theorem SNew.get_some {w W : World} {b : Nat} {F : List Nat} {L : SL} {q : Nat} {qs : List Value} (h : SNew w W b F L q qs) (k v : ByteArray) (hk : k.size ≤ maxLen) (he : sget L k = some v) :
    Calls Try.prog 47 #[.pointer (some ⟨b, 0, none⟩), .string k] W fun e W' => e = .returned (.tuple #[.string v, .bool true]) ∧ SNew w W' b F L q qs ∧ Below W.heap.size W W' := by
  refine (sget_live b F L q qs k W h.s hk).mono ?_
  rintro e W' ⟨h1, hb⟩
  rw [he] at h1
  exact ⟨h1, h.below hb, hb⟩
theorem SNew.get_none {w W : World} {b : Nat} {F : List Nat} {L : SL} {q : Nat} {qs : List Value} (h : SNew w W b F L q qs) (k : ByteArray) (hk : k.size ≤ maxLen) (he : sget L k = none) :
    Calls Try.prog 47 #[.pointer (some ⟨b, 0, none⟩), .string k] W fun e W' => e = .returned (.tuple #[.string ⟨#[]⟩, .bool false]) ∧ SNew w W' b F L q qs ∧ Below W.heap.size W W' := by
  refine (sget_live b F L q qs k W h.s hk).mono ?_
  rintro e W' ⟨h1, hb⟩
  rw [he] at h1
  exact ⟨h1, h.below hb, hb⟩
theorem SNew.new (w W : World) (hb : Below w.heap.size w W) : Calls Try.prog 13 #[] W fun e W' => ∃ b F, e = .returned (.pointer (some ⟨b, 0, none⟩)) ∧ SNew w W' b F [] 0 [] ∧ Below W.heap.size W W' ∧ ∀ k ∈ F, W.heap.size ≤ k := by
  refine (new_walk W).mono ?_
  rintro e W' ⟨b, F, he, hs, hf, hB⟩
  exact ⟨b, F, he, ⟨hs, fun k hk => Nat.le_trans hb.size (hf k hk), hb.trans (hB.mono hb.size)⟩, hB, hf⟩
end Go.Proofs.Ytedkhpnlhkjjgaa

namespace Go.Proofs.Ytedkhpnlhkjjgaa
open Go.RowKit

/-- which of two rows stands below: from r on, d places -/
def lexL (f g : Nat → Int) (r : Nat) : Nat → Bool
  | 0 => false
  | d + 1 => if f r ≠ g r then decide (f r < g r) else lexL f g (r + 1) d
def u8l (l : List Nat) : List UInt8 := l.map UInt8.ofNat
theorem strOfNums_u8l (l : List Nat) : (strOfNums (ints l)).toList = u8l l := by
  rw [ByteArray.toList_eq]
  simp [strOfNums, ints, u8l, Function.comp_def]
theorem bytesLess_cons (a b : Nat) (ha : a < 256) (hb : b < 256) (x y : List UInt8) :
    Op.bytesLess (UInt8.ofNat a :: x) (UInt8.ofNat b :: y) = if a = b then Op.bytesLess x y else decide (a < b) := by
  have e1 : (UInt8.ofNat a < UInt8.ofNat b) ↔ a < b := by
    rw [UInt8.lt_iff_toNat_lt, UInt8.toNat_ofNat', UInt8.toNat_ofNat', Nat.mod_eq_of_lt ha, Nat.mod_eq_of_lt hb]
  have e2 : (UInt8.ofNat a = UInt8.ofNat b) ↔ a = b := by
    rw [← UInt8.toNat_inj, UInt8.toNat_ofNat', UInt8.toNat_ofNat', Nat.mod_eq_of_lt ha, Nat.mod_eq_of_lt hb]
  simp only [Op.bytesLess]
  by_cases h : a = b
  · subst h; simp [UInt8.lt_irrefl]
  · have h2 : (UInt8.ofNat a == UInt8.ofNat b) = false := by rw [beq_eq_false_iff_ne]; exact fun e => h (e2.1 e)
    rw [if_neg h, h2]; simp [e1]
/-- k bytes of a, the greatest first -/
def be (a : Nat) : Nat → List Nat
  | 0 => []
  | k + 1 => kbyte a k :: be a k
theorem be_less (a b : Nat) (x y : List UInt8) : ∀ k, Op.bytesLess (u8l (be a k) ++ x) (u8l (be b k) ++ y) = if a % 2 ^ (8 * k) = b % 2 ^ (8 * k) then Op.bytesLess x y else decide (a % 2 ^ (8 * k) < b % 2 ^ (8 * k))
  | 0 => by simp [be, u8l, Nat.mod_one]
  | k + 1 => by
    have ih := be_less a b x y k
    have hp : 0 < 2 ^ (8 * k) := Nat.pow_pos (by decide)
    have ma : a % 2 ^ (8 * (k + 1)) = a % 2 ^ (8 * k) + 2 ^ (8 * k) * kbyte a k := by
      rw [show 8 * (k + 1) = 8 * k + 8 by omega, Nat.pow_add, Nat.mod_mul]; rfl
    have mb : b % 2 ^ (8 * (k + 1)) = b % 2 ^ (8 * k) + 2 ^ (8 * k) * kbyte b k := by
      rw [show 8 * (k + 1) = 8 * k + 8 by omega, Nat.pow_add, Nat.mod_mul]; rfl
    have la := Nat.mod_lt a hp
    have lb := Nat.mod_lt b hp
    have ca := kbyte_lt a k
    have cb := kbyte_lt b k
    rw [ma, mb]
    show Op.bytesLess (UInt8.ofNat (kbyte a k) :: (u8l (be a k) ++ x)) (UInt8.ofNat (kbyte b k) :: (u8l (be b k) ++ y)) = _
    rw [bytesLess_cons _ _ ca cb, ih]
    generalize kbyte a k = p at *
    generalize kbyte b k = q at *
    generalize a % 2 ^ (8 * k) = u at *
    generalize b % 2 ^ (8 * k) = v at *
    generalize 2 ^ (8 * k) = z at *
    by_cases h : p = q
    · subst h
      rw [if_pos rfl]
      by_cases h2 : u = v
      · subst h2; rw [if_pos rfl, if_pos rfl]
      · rw [if_neg h2, if_neg (by omega)]
        by_cases h3 : u < v
        · rw [decide_eq_true h3, decide_eq_true (by omega)]
        · rw [decide_eq_false h3, decide_eq_false (by omega)]
    · rw [if_neg h]
      rcases Nat.lt_or_gt_of_ne h with h3 | h3
      · have := Nat.mul_le_mul_left z (show p + 1 ≤ q from h3)
        rw [Nat.mul_add] at this
        rw [if_neg (by omega), decide_eq_true h3, decide_eq_true (by omega)]
      · have := Nat.mul_le_mul_left z (show q + 1 ≤ p from h3)
        rw [Nat.mul_add] at this
        rw [if_neg (by omega), decide_eq_false (by omega), decide_eq_false (by omega)]
theorem kb8_be (a : Nat) : kb8 a = be a 8 := rfl
/-- the bytes of d numbers from r on -/
def tl (f : Nat → Int) (r : Nat) : Nat → List Nat
  | 0 => []
  | d + 1 => kb8 (f r).toNat ++ tl f (r + 1) d
theorem tl_snoc (f : Nat → Int) : ∀ (d r : Nat), tl f r (d + 1) = tl f r d ++ kb8 (f (r + d)).toNat
  | 0, r => by simp [tl]
  | d + 1, r => by
    rw [tl, tl_snoc f d (r + 1), tl, List.append_assoc, show r + 1 + d = r + (d + 1) by omega]
theorem kbs_tl (t : Nat) (f : Nat → Int) : ∀ n, kbs t f n = t :: tl f 0 n
  | 0 => rfl
  | n + 1 => by rw [kbs, kbs_tl t f n, tl_snoc, Nat.zero_add]; rfl
theorem u8l_append (a b : List Nat) : u8l (a ++ b) = u8l a ++ u8l b := by simp [u8l]
theorem tl_less {f g : Nat → Int} (mf : ∀ i, f i < 2 ^ 63) (mg : ∀ i, g i < 2 ^ 63) : ∀ (d r : Nat), (∀ i, i < r + d → 0 ≤ f i) → (∀ i, i < r + d → 0 ≤ g i) →
    Op.bytesLess (u8l (tl f r d)) (u8l (tl g r d)) = lexL f g r d
  | 0, r, _, _ => by simp [tl, u8l, Op.bytesLess, lexL]
  | d + 1, r, hf, hg => by
    have ih := tl_less mf mg d (r + 1) (fun i hi => hf i (by omega)) (fun i hi => hg i (by omega))
    have f0 := hf r (by omega)
    have g0 := hg r (by omega)
    have f1 := mf r
    have g1 := mg r
    rw [tl, tl, u8l_append, u8l_append, kb8_be, kb8_be, be_less, ih, lexL]
    rw [Nat.mod_eq_of_lt (show (f r).toNat < 2 ^ (8 * 8) by omega), Nat.mod_eq_of_lt (show (g r).toNat < 2 ^ (8 * 8) by omega)]
    by_cases h : f r = g r
    · rw [if_pos (by rw [h]), if_neg (fun e => e h)]
    · rw [if_neg (by omega), if_pos h]
      by_cases h2 : f r < g r
      · rw [decide_eq_true h2, decide_eq_true (by omega)]
      · rw [decide_eq_false h2, decide_eq_false (by omega)]
theorem key_less {t n : Nat} {f g : Nat → Int} (ht : t < 256) (hf : ∀ i, i < n → 0 ≤ f i) (hg : ∀ i, i < n → 0 ≤ g i) (mf : ∀ i, f i < 2 ^ 63) (mg : ∀ i, g i < 2 ^ 63) :
    Op.bytesLess (strOfNums (ints (kbs t f n))).toList (strOfNums (ints (kbs t g n))).toList = lexL f g 0 (n - 0) := by
  rw [strOfNums_u8l, strOfNums_u8l, kbs_tl, kbs_tl, Nat.sub_zero]
  show Op.bytesLess (UInt8.ofNat t :: u8l (tl f 0 n)) (UInt8.ofNat t :: u8l (tl g 0 n)) = _
  rw [bytesLess_cons t t ht ht, if_pos rfl]
  exact tl_less mf mg n 0 (fun i hi => hf i (by omega)) (fun i hi => hg i (by omega))
end Go.Proofs.Ytedkhpnlhkjjgaa
