/- The store: Set where nothing is new, Undo of one change, walked. -/
import Derived.Test.YtedkhpnlhkjjgaaT7
namespace Go.Proofs.Ytedkhpnlhkjjgaa
open Go.RowKit Go.Maps Go.Sort

theorem ba_nil {k : ByteArray} (hk0 : k ≠ ⟨#[]⟩) : k.toList.isEmpty = false := by
  rw [Lib.toList_data]
  cases hh : k.data.toList with
  | nil => exact absurd (lit_inj (b := ⟨#[]⟩) (congrArg Lit.string (hh.trans rfl))) hk0
  | cons a r => rfl
set_option maxRecDepth 100000 in
set_option maxHeartbeats 2000000 in
theorem set_same (b : Nat) (F : List Nat) (L : SL) (q : Nat) (qs : List Value) (k v : ByteArray) (w : World) (h : StP w b F L q qs) (hk : k.size ≤ maxLen) (hk0 : k ≠ ⟨#[]⟩) (he : sget L k = some v) :
    Calls Try.prog 64 #[.pointer (some ⟨b, 0, none⟩), .string k, .string v] w (SetPost b F L q qs 0 w) := by
  have HM := Lib.hid (made_live b F L q qs w h)
  have HH := Lib.hid h
  obtain ⟨bm, vb, vk, vq, rfl, hS⟩ := h
  have hl := hS.m.look k hk
  rw [he] at hl
  replace hl : (Instr.lookup 103 (.map (some bm)) (.string k) true).run Try.prog w = .ok (.tuple #[.agg #[.string v], .bool true]) w := hl
  have c0 := (hp_cell (i := 0) hS.r).trans rfl
  have hk1 := ba_nil hk0
  have hvv : (v.toList == v.toList) = true := beq_self_eq_true _
  clear hS hk hk0 he
  go_enter Try.func64, Try.ntmps64
  go_wp2_with (go_at_call 27; refine HM.out.mono ?_; rintro e w1 ⟨rfl, rfl⟩)
  go_ret
  have hb := (Below.refl w.heap.size w).alloc (Nat.le_refl _) (.cells #[.string v] 148)
  exact ⟨rfl, _, HH.out.below hb, Touch.of_below hb, fun k hk => .inl hk⟩
theorem kfp_ne {b : Nat} {vb vk : Value} {ks : List ByteArray} (h : (kfp b vb vk ks).Nodup) : (∀ k, vb.ownBlock = some k → k ≠ b ∧ k ∈ kfp b vb vk ks) ∧ (ks ≠ [] → ∀ k, vk.ownBlock = some k → k ≠ b ∧ k ∈ kfp b vb vk ks) := by
  refine ⟨fun k hk => ?_, fun hn k hk => ?_⟩
  · have hm : k ∈ kfp b vb vk ks := by unfold kfp; simp [hk]
    refine ⟨fun e => ?_, hm⟩
    unfold kfp at h
    rw [List.nodup_cons] at h
    exact h.1 (by subst e; simp [hk])
  · have hm : k ∈ kfp b vb vk ks := by unfold kfp; simp [hk, hn]
    refine ⟨fun e => ?_, hm⟩
    unfold kfp at h
    rw [List.nodup_cons] at h
    exact h.1 (by subst e; simp [hk, hn])
/-- the changes' row gets shorter -/
theorem und_done {W : World} {b bm g cap m : Nat} {vb vk : Value} {L : SL} {qs three zs : List Value} (h : StM W b bm vb vk (.slice (some ⟨g, 0, none⟩) (m + 1) cap) L (m + 1) (qs ++ three)) (hq : qs.length = m * 3) (hz : zs.length = 3) :
    StM ((W.setCells g (m * 3) zs).setCell ⟨b, 2, none⟩ (.slice (some ⟨g, 0, none⟩) m cap)) b bm vb vk (.slice (some ⟨g, 0, none⟩) m cap) L m qs ∧ Touch (fpr b bm vb vk (.slice (some ⟨g, 0, none⟩) (m + 1) cap) L) W ((W.setCells g (m * 3) zs).setCell ⟨b, 2, none⟩ (.slice (some ⟨g, 0, none⟩) m cap)) := by
  have hnd := nodup_fpr.1 h.nd
  obtain ⟨g1, g2⟩ := hnd.2.2 g rfl
  have hb : b ∈ kfp b vb vk (skeys L) := by unfold kfp; simp
  obtain ⟨cur, hg, hn, hc, hs, ht, hl⟩ := ownsRow_open h.kq
  have t1 := touch_setCells (F := [g]) g (by simp) zs (m * 3) W
  have hfar : ∀ k, k < W.heap.size → k ≠ g → (W.setCells g (m * 3) zs).heap[k]? = W.heap[k]? := fun k hk hne => t1.block k hk (by simp; exact hne)
  have hfar2 : ∀ k, k < W.heap.size → k ≠ g → k ≠ b → ((W.setCells g (m * 3) zs).setCell ⟨b, 2, none⟩ (.slice (some ⟨g, 0, none⟩) m cap)).heap[k]? = W.heap[k]? := fun k hk hne hne2 => (Below.heap_setCell _ _ _ _ hne2).trans (hfar k hk hne)
  have hgk : ∀ k, k ∈ kfp b vb vk (skeys L) → k ≠ g := fun k hk e => g2 (e ▸ hk)
  have h0 := h.keys
  obtain ⟨n1, n2⟩ := kfp_ne hnd.1
  refine ⟨StM.mk' (ks := skeys L) ⟨?_, ownsRow_same h0.kb fun k hk => hfar2 k (ownsRow_blk h0.kb k hk) (hgk k (n1 k hk).2) (n1 k hk).1, fun hn => ownsRow_same (h0.kk hn) fun k hk => hfar2 k (ownsRow_blk (h0.kk hn) k hk) (hgk k (n2 hn k hk).2) (n2 hn k hk).1, h0.so, hnd.1⟩ rfl (h.m.same (hfar2 bm h.m.lt (fun e => g1 e.symm) (fun e => hnd.2.1 (e ▸ hb)))) ?_ hnd.2.1 (fun k hk => by cases hk; exact ⟨g1, g2⟩), ?_⟩
  · rw [heap_setCell_row ((hfar b (hp_lt h.r) (hgk b hb)).trans h.r)]
    rfl
  · refine ownsRow_shut (cur := putA cur (m * 3) zs) ?_ (by omega) hc (by rw [putA_size, hs]) ?_ hq
    · rw [Below.heap_setCell _ _ _ _ (show g ≠ b from fun e => hgk b hb e.symm)]
      exact heap_setCells_row _ _ hg
    · rw [putA_list _ _ _ (by rw [hz, hs]; omega), List.append_assoc, List.take_append_of_le_length (by rw [List.length_take]; simp; rw [hs]; omega), List.take_take, Nat.min_self]
      have := congrArg (List.take (m * 3)) ht
      rw [List.take_take, Nat.min_eq_left (by omega), List.take_left' hq] at this
      exact this
  · exact (t1.mono (fun k hk => by rw [List.mem_singleton.1 hk]; exact (fpr_kfp _ _ _ _ _ _ _).2 (.inr (.inr rfl)))).trans (fun _ hk => .inl hk) (Touch.setCell _ _ _ ((fpr_kfp _ _ _ _ _ _ _).2 (.inr (.inl hb))))
theorem zeroChange (w : World) : (zeroValue 166).run Try.prog w = .ok (.agg #[.string { data := #[] }, .bool false, .string { data := #[] }]) w := by kernel_rfl
theorem clear_one (w : World) (ty : TypeId) (g o c : Nat) (hc : ∀ j, j < 3 → (w.cell? ⟨g, o + j, none⟩).isSome = true) (hf : ∀ j, w.frozen? ⟨g, o + j, none⟩ = false) :
    (Builtin.clear_ #[105] ty #[.slice (some ⟨g, o, none⟩) 1 c]).run Try.prog w = .ok (.tuple #[]) (w.setCells g o (chg ⟨#[]⟩ false ⟨#[]⟩)) := by
  have hst := run_storeCells_cells (P := Try.prog) g o (chg ⟨#[]⟩ false ⟨#[]⟩) 0 w (by simpa [chg] using hc) (fun j _ => by rw [Nat.add_zero]; exact hf j) chg_one
  have hz : (Builtin.zeroCells (Value.agg #[.string { data := #[] }, .bool false, .string { data := #[] }]).cells 1).toList = chg ⟨#[]⟩ false ⟨#[]⟩ := by kernel_rfl
  simp only [Nat.add_zero] at hst
  simp [Builtin.clear_, run_underlying Try.underlying105, hz, hst]
set_option maxRecDepth 100000 in
set_option maxHeartbeats 4000000 in
/-- the last change taken back, where the key was there -/
theorem undo_one (b bm : Nat) (vb vk vq : Value) (L : SL) (m : Nat) (qs : List Value) (k was : ByteArray) (w : World) (h : StM w b bm vb vk vq L (m + 1) (qs ++ chg k true was)) (hql : qs.length = m * 3) (hm : m < 1000000) (hk : k.size ≤ maxLen) (hv : was.size ≤ maxLen) (hN : L.length < 128) :
    Calls Try.prog 89 #[.pointer (some ⟨b, 0, none⟩), .int .i64 (m : Nat)] w fun e w' => e = .returned (.bool true) ∧ ∃ F', StP w' b F' (sset L k was) m qs ∧ Touch (fpr b bm vb vk vq L) w w' ∧ ∀ k ∈ F', k ∈ fpr b bm vb vk vq L ∨ w.heap.size ≤ k := by
  obtain ⟨g, cap, rfl, hgl⟩ := ownsRow_form h.kq (by omega)
  have HM := Lib.hid (made_live b _ L (m + 1) _ w ⟨bm, vb, vk, _, rfl, h⟩)
  have hc := fun j u (hj : (qs ++ chg k true was)[j]? = some u) => ownsRow_cell h.kq rfl hj
  have k0 : w.cell? ⟨g, m * 3, none⟩ = some (.string k) := hc _ _ (by rw [List.getElem?_append_right (by omega), hql, Nat.sub_self]; rfl)
  have k1 : w.cell? ⟨g, m * 3 + 1, none⟩ = some (.bool true) := hc _ _ (by rw [List.getElem?_append_right (by omega), hql, Nat.add_sub_cancel_left]; rfl)
  have k2 : w.cell? ⟨g, m * 3 + 2, none⟩ = some (.string was) := hc _ _ (by rw [List.getElem?_append_right (by omega), hql, Nat.add_sub_cancel_left]; rfl)
  have c2 := (hp_cell (i := 2) h.r).trans rfl
  have lb := hp_lt h.r
  obtain ⟨cur, hgc, hn1, hn2, hn3, _, _⟩ := ownsRow_open h.kq
  have Hh := Lib.hid (And.intro h (And.intro hk (And.intro hv (And.intro hN (And.intro hql (And.intro hgc (And.intro hn1 (And.intro hn2 hn3))))))))
  have cm : m < cap := by omega
  have cm1 : m ≤ cap := by omega
  clear h hc hql hk hv hN hgc hn1 hn2 hn3
  go_enter Try.func89, Try.ntmps89
  go_wp2_with (go_at_call 27; refine HM.out.mono ?_; rintro e w1 ⟨rfl, rfl⟩)
  go_loopw [5] (fun i wr => (i = .int .i64 (m : Nat) ∧ wr = w) ∨ (i = .int .i64 ((m : Int) - 1) ∧ ∃ vb' vk', StM wr b bm vb' vk' (.slice (some ⟨g, 0, none⟩) (m + 1) cap) (sset L k was) (m + 1) (qs ++ chg k true was) ∧ Touch (fpr b bm vb vk (.slice (some ⟨g, 0, none⟩) (m + 1) cap) L) w wr ∧ ∀ k' ∈ fpr b bm vb' vk' (.slice (some ⟨g, 0, none⟩) (m + 1) cap) (sset L k was), k' ∈ fpr b bm vb vk (.slice (some ⟨g, 0, none⟩) (m + 1) cap) L ∨ w.heap.size ≤ k')) (fun i _ => (intOf i - (m : Int) + 1).toNat)
  case atStart => exact .inl ⟨rfl, rfl⟩
  case round =>
    rcases hrel with ⟨rfl, rfl⟩ | ⟨rfl, vb', vk', hM, ht, hF⟩
    · have hb0 : Below wr.heap.size wr (wr.alloc (.cells #[.string k, .bool true, .string was] 166)) := (Below.refl _ _).alloc (Nat.le_refl _) _
      have HP := Lib.hid (put_live b bm vb vk (.slice (some ⟨g, 0, none⟩) (m + 1) cap) L (m + 1) (qs ++ chg k true was) k was _ (Hh.out.1.below hb0) Hh.out.2.1 Hh.out.2.2.1 Hh.out.2.2.2.1)
      have HB0 := Lib.hid hb0
      clear hb0
      go_wp2_with (go_at_call 115; refine HP.out.mono ?_; rintro e w6 ⟨rfl, vb', vk', hM, ht, hF⟩; have HM6 := Lib.hid (And.intro hM (And.intro ht hF)); clear hM ht hF)
      exact ⟨.inr ⟨rfl, vb', vk', HM6.out.1, (Touch.of_below HB0.out).trans (fun _ hk => .inl hk) HM6.out.2.1, fun k' hk' => by
        rcases HM6.out.2.2 k' hk' with h1 | h1
        · exact .inl h1
        · right; have := HB0.out.size; omega⟩, by simp [intOf]; omega⟩
    · obtain ⟨cur', hg', _, _, hs', _, _⟩ := ownsRow_open hM.kq
      obtain ⟨W2, hW2⟩ : ∃ W2, W2 = wr.setCells g (m * 3) (chg ⟨#[]⟩ false ⟨#[]⟩) := ⟨_, rfl⟩
      have hcl : ∀ ty, (Builtin.clear_ #[105] ty #[.slice (some ⟨g, m * 3, none⟩) 1 (cap - m)]).run Try.prog wr = .ok (.tuple #[]) W2 := fun ty => by
        rw [hW2]
        exact clear_one wr ty g (m * 3) (cap - m) (fun j hj => by rw [hp_cell hg']; simp [hs']; omega) (fun j => hp_free hg')
      have hd := und_done (zs := chg ⟨#[]⟩ false ⟨#[]⟩) hM Hh.out.2.2.2.2.1 rfl
      rw [← hW2] at hd
      have hgb : b ≠ g := fun e => ((nodup_fpr.1 hM.nd).2.2 g rfl).2 (by unfold kfp; simp [e])
      have hr2 : W2.heap[b]? = some (.cells #[.map (some bm), vb', .slice (some ⟨g, 0, none⟩) (m + 1) cap] 107 (0, 0)) := by rw [hW2]; exact ((touch_setCells (F := [g]) g (by simp) (chg ⟨#[]⟩ false ⟨#[]⟩) (m * 3) wr).block b (hp_lt hM.r) (by simp; exact hgb)).trans hM.r
      have cw := (hp_cell (i := 2) hM.r).trans rfl
      have cw2 := (hp_cell (i := 2) hr2).trans rfl
      have fw2 := hp_free (i := 2) hr2
      have HX := Lib.hid (And.intro hd (And.intro ht hF))
      clear hM ht hF hd hg' hs' hgb hr2 hW2
      go_wp2_with fail
      go_ret
      refine ⟨rfl, _, ⟨bm, vb', vk', _, rfl, HX.out.1.1⟩, HX.out.2.1.trans HX.out.2.2 HX.out.1.2, fun k' hk' => ?_⟩
      refine HX.out.2.2 k' ((fpr_kfp _ _ _ _ _ _ _).2 ?_)
      rcases (fpr_kfp _ _ _ _ _ _ _).1 hk' with h1 | h1 | h1
      · exact .inl h1
      · exact .inr (.inl h1)
      · exact .inr (.inr h1)
end Go.Proofs.Ytedkhpnlhkjjgaa
