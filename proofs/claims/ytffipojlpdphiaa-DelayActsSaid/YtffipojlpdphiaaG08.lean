/- The store: Set where nothing is new, Undo of one change, walked. -/
import Derived.Test.YtffipojlpdphiaaG07
namespace Go.Proofs.Ytffipojlpdphiaa
open Go.RowKit Go.Maps Go.Sort

theorem ba_nil {k : ByteArray} (hk0 : k ≠ ⟨#[]⟩) : k.toList.isEmpty = false := by
  rw [Lib.toList_data]
  cases hh : k.data.toList with
  | nil => exact absurd (lit_inj (b := ⟨#[]⟩) (congrArg Lit.string (hh.trans rfl))) hk0
  | cons a r => rfl
set_option maxRecDepth 100000 in
set_option maxHeartbeats 2000000 in
theorem set_same (b : Nat) (F : List Nat) (L : SL) (q : Nat) (qs : List Value) (k v : ByteArray) (w : World) (h : StP w b F L q qs) (hk : k.size ≤ maxLen) (hk0 : k ≠ ⟨#[]⟩) (he : sget L k = some v) :
    Calls Try.prog 163 #[.pointer (some ⟨b, 0, none⟩), .string k, .string v] w (SetPost b F L q qs 0 w) := by
  have HM := Lib.hid (made_live b F L q qs w h)
  have HH := Lib.hid h
  obtain ⟨bm, vb, vk, vq, rfl, hS⟩ := h
  have hl := hS.m.look k hk
  rw [he] at hl
  replace hl : (Instr.lookup 110 (.map (some bm)) (.string k) true).run Try.prog w = .ok (.tuple #[.agg #[.string v], .bool true]) w := hl
  have c0 := (hp_cell (i := 0) hS.r).trans rfl
  have hk1 := ba_nil hk0
  have hvv : (v.toList == v.toList) = true := beq_self_eq_true _
  clear hS hk hk0 he
  go_enter Try.func163, Try.ntmps163
  go_wp2_with (go_at_call 70; refine HM.out.mono ?_; rintro e w1 ⟨rfl, rfl⟩)
  go_ret
  have hb := (Below.refl w.heap.size w).alloc (Nat.le_refl _) (.cells #[.string v] 154)
  exact ⟨rfl, _, HH.out.below hb, Touch.of_below hb, fun k hk => .inl hk⟩
/-- the changes' row gets shorter -/
theorem und_done {W : World} {b bm g cap m : Nat} {vb : Value} {vk : List Seg} {L : SL} {qs three zs : List Value} (h : StM W b bm vb vk (.slice (some ⟨g, 0, none⟩) (m + 1) cap) L (m + 1) (qs ++ three)) (hq : qs.length = m * 3) (hz : zs.length = 3) :
    StM ((W.setCells g (m * 3) zs).setCell ⟨b, 2, none⟩ (.slice (some ⟨g, 0, none⟩) m cap)) b bm vb vk (.slice (some ⟨g, 0, none⟩) m cap) L m qs ∧ Touch (fpr b bm vb vk (.slice (some ⟨g, 0, none⟩) (m + 1) cap) L) W ((W.setCells g (m * 3) zs).setCell ⟨b, 2, none⟩ (.slice (some ⟨g, 0, none⟩) m cap)) := by
  obtain ⟨g1, g2⟩ := h.vq_kfp g rfl
  have hb : b ∈ kfp b vb vk := mem_kfp.2 (.inl rfl)
  obtain ⟨cur, hg, hn, hc, hs, ht, hl⟩ := ownsRow_open h.kq
  have t1 := touch_setCells (F := [g]) g (by simp) zs (m * 3) W
  have hfar : ∀ k, k < W.heap.size → k ≠ g → (W.setCells g (m * 3) zs).heap[k]? = W.heap[k]? := fun k hk hne => t1.block k hk (by simp; exact hne)
  have hfar2 : ∀ k, k < W.heap.size → k ≠ g → k ≠ b → ((W.setCells g (m * 3) zs).setCell ⟨b, 2, none⟩ (.slice (some ⟨g, 0, none⟩) m cap)).heap[k]? = W.heap[k]? := fun k hk hne hne2 => (Below.heap_setCell _ _ _ _ hne2).trans (hfar k hk hne)
  have hgk : ∀ k, k ∈ kfp b vb vk → k ≠ g := fun k hk e => g2 (e ▸ hk)
  have h0 := h.keys
  refine ⟨⟨⟨?_, ownsRow_same h0.kb fun k hk => hfar2 k (ownsRow_blk h0.kb k hk) (hgk k (mem_kfp.2 (.inr (.inl hk)))) (h0.ba_b hk), ⟨fun s hm => (h0.kk.at_ s hm).same (hfar2 _ (h0.kk.at_ s hm).lt (hgk _ (mem_kfp.2 (.inr (.inr ⟨s, hm, rfl⟩)))) (h0.seg_b hm)), h0.kk.ne, h0.kk.ap⟩, h0.fl, h0.so⟩, h.m.same (hfar2 bm h.m.lt (fun e => g1 e.symm) (fun e => h.bm_kfp (e ▸ hb))), ?_⟩, ?_⟩
  · rw [heap_setCell_row ((hfar b (hp_lt h.r) (hgk b hb)).trans h.r)]
    rfl
  · refine ownsRow_shut (cur := putA cur (m * 3) zs) ?_ (by omega) hc (by rw [putA_size, hs]) ?_ hq
    · rw [Below.heap_setCell _ _ _ _ (show g ≠ b from fun e => hgk b hb e.symm)]
      exact heap_setCells_row _ _ hg
    · rw [putA_list _ _ _ (by rw [hz, hs]; omega), List.append_assoc, List.take_append_of_le_length (by rw [List.length_take]; simp; rw [hs]; omega), List.take_take, Nat.min_self]
      have := congrArg (List.take (m * 3)) ht
      rw [List.take_take, Nat.min_eq_left (by omega), List.take_left' hq] at this
      exact this
  · exact (t1.mono (fun k hk => by rw [List.mem_singleton.1 hk]; exact (fpr_kfp _ _ _ _ _ _ _).2 (.inr (.inr rfl)))).trans (fun _ hk => .inl hk) (Touch.setCell _ _ _ ((fpr_kfp _ _ _ _ _ _ _).2 (.inr (.inl hb))))
theorem zeroChange (w : World) : (zeroValue 185).run Try.prog w = .ok (.agg #[.string { data := #[] }, .bool false, .string { data := #[] }]) w := by kernel_rfl
theorem clear_one (w : World) (ty : TypeId) (g o c : Nat) (hc : ∀ j, j < 3 → (w.cell? ⟨g, o + j, none⟩).isSome = true) (hf : ∀ j, w.frozen? ⟨g, o + j, none⟩ = false) :
    (Builtin.clear_ #[112] ty #[.slice (some ⟨g, o, none⟩) 1 c]).run Try.prog w = .ok (.tuple #[]) (w.setCells g o (chg ⟨#[]⟩ false ⟨#[]⟩)) := by
  have hst := run_storeCells_cells (P := Try.prog) g o (chg ⟨#[]⟩ false ⟨#[]⟩) 0 w (by simpa [chg] using hc) (fun j _ => by rw [Nat.add_zero]; exact hf j) chg_one
  have hz : (Builtin.zeroCells (Value.agg #[.string { data := #[] }, .bool false, .string { data := #[] }]).cells 1).toList = chg ⟨#[]⟩ false ⟨#[]⟩ := by kernel_rfl
  simp only [Nat.add_zero] at hst
  simp [Builtin.clear_, run_underlying Try.underlying112, hz, hst]
set_option maxRecDepth 100000 in
set_option maxHeartbeats 4000000 in
/-- the last change taken back, where the key was there -/
theorem undo_one (b bm : Nat) (vb : Value) (vk : List Seg) (vq : Value) (L : SL) (m : Nat) (qs : List Value) (k was : ByteArray) (w : World) (h : StM w b bm vb vk vq L (m + 1) (qs ++ chg k true was)) (hql : qs.length = m * 3) (hm : m < 1000000) (hk : k.size ≤ maxLen) (hv : was.size ≤ maxLen) (hN : L.length < 1000000) :
    Calls Try.prog 86 #[.pointer (some ⟨b, 0, none⟩), .int .i64 (m : Nat)] w fun e w' => e = .returned (.bool true) ∧ ∃ F', StP w' b F' (sset L k was) m qs ∧ Touch (fpr b bm vb vk vq L) w w' ∧ ∀ k ∈ F', k ∈ fpr b bm vb vk vq L ∨ w.heap.size ≤ k := by
  obtain ⟨g, cap, rfl, hgl⟩ := ownsRow_form h.kq (by omega)
  have HM := Lib.hid (made_live b _ L (m + 1) _ w ⟨bm, vb, vk, _, rfl, h⟩)
  have hc := fun j u (hj : (qs ++ chg k true was)[j]? = some u) => ownsRow_cell h.kq rfl hj
  have k0 : w.cell? ⟨g, m * 3, none⟩ = some (.string k) := hc _ _ (by rw [List.getElem?_append_right (by omega), hql, Nat.sub_self]; rfl)
  have k1 : w.cell? ⟨g, m * 3 + 1, none⟩ = some (.bool true) := hc _ _ (by rw [List.getElem?_append_right (by omega), hql, Nat.add_sub_cancel_left]; rfl)
  have k2 : w.cell? ⟨g, m * 3 + 2, none⟩ = some (.string was) := hc _ _ (by rw [List.getElem?_append_right (by omega), hql, Nat.add_sub_cancel_left]; rfl)
  have c2 := (hp_cell (i := 2) h.r).trans rfl
  have lb := hp_lt h.r
  obtain ⟨cur, hgc, hn1, hn2, hn3, _, _⟩ := ownsRow_open h.kq
  have Hh := Lib.hid (And.intro h (And.intro hk (And.intro hv (And.intro hN (And.intro hql (And.intro hgc (And.intro hn1 (And.intro hn2 hn3))))))))
  have cm : m < cap := by omega
  have cm1 : m ≤ cap := by omega
  clear h hc hql hk hv hN hgc hn1 hn2 hn3
  go_enter Try.func86, Try.ntmps86
  go_wp2_with (go_at_call 70; refine HM.out.mono ?_; rintro e w1 ⟨rfl, rfl⟩)
  go_loopw [5] (fun i wr => (i = .int .i64 (m : Nat) ∧ wr = w) ∨ (i = .int .i64 ((m : Int) - 1) ∧ ∃ vb' vk', StM wr b bm vb' vk' (.slice (some ⟨g, 0, none⟩) (m + 1) cap) (sset L k was) (m + 1) (qs ++ chg k true was) ∧ Touch (fpr b bm vb vk (.slice (some ⟨g, 0, none⟩) (m + 1) cap) L) w wr ∧ ∀ k' ∈ fpr b bm vb' vk' (.slice (some ⟨g, 0, none⟩) (m + 1) cap) (sset L k was), k' ∈ fpr b bm vb vk (.slice (some ⟨g, 0, none⟩) (m + 1) cap) L ∨ w.heap.size ≤ k')) (fun i _ => (intOf i - (m : Int) + 1).toNat)
  case atStart => exact .inl ⟨rfl, rfl⟩
  case round =>
    rcases hrel with ⟨rfl, rfl⟩ | ⟨rfl, vb', vk', hM, ht, hF⟩
    · have hb0 : Below wr.heap.size wr (wr.alloc (.cells #[.string k, .bool true, .string was] 185)) := (Below.refl _ _).alloc (Nat.le_refl _) _
      have HP := Lib.hid (put_live b bm vb vk (.slice (some ⟨g, 0, none⟩) (m + 1) cap) L (m + 1) (qs ++ chg k true was) k was _ (Hh.out.1.below hb0) Hh.out.2.1 Hh.out.2.2.1 Hh.out.2.2.2.1)
      have HB0 := Lib.hid hb0
      clear hb0
      go_wp2_with (go_at_call 149; refine HP.out.mono ?_; rintro e w6 ⟨rfl, vb', vk', hM, ht, hF⟩; have HM6 := Lib.hid (And.intro hM (And.intro ht hF)); clear hM ht hF)
      exact ⟨.inr ⟨rfl, vb', vk', HM6.out.1, (Touch.of_below HB0.out).trans (fun _ hk => .inl hk) HM6.out.2.1, fun k' hk' => by
        rcases HM6.out.2.2 k' hk' with h1 | h1
        · exact .inl h1
        · right; have := HB0.out.size; omega⟩, by simp [intOf]; omega⟩
    · obtain ⟨cur', hg', _, _, hs', _, _⟩ := ownsRow_open hM.kq
      obtain ⟨W2, hW2⟩ : ∃ W2, W2 = wr.setCells g (m * 3) (chg ⟨#[]⟩ false ⟨#[]⟩) := ⟨_, rfl⟩
      have hcl : ∀ ty, (Builtin.clear_ #[112] ty #[.slice (some ⟨g, m * 3, none⟩) 1 (cap - m)]).run Try.prog wr = .ok (.tuple #[]) W2 := fun ty => by
        rw [hW2]
        exact clear_one wr ty g (m * 3) (cap - m) (fun j hj => by rw [hp_cell hg']; simp [hs']; omega) (fun j => hp_free hg')
      have hd := und_done (zs := chg ⟨#[]⟩ false ⟨#[]⟩) hM Hh.out.2.2.2.2.1 rfl
      rw [← hW2] at hd
      have hgb : b ≠ g := fun e => (hM.vq_kfp g rfl).2 (mem_kfp.2 (.inl e.symm))
      have hr2 : W2.heap[b]? = some (.cells #[.map (some bm), vb', .slice (some ⟨g, 0, none⟩) (m + 1) cap] 114 (0, 0)) := by rw [hW2]; exact ((touch_setCells (F := [g]) g (by simp) (chg ⟨#[]⟩ false ⟨#[]⟩) (m * 3) wr).block b (hp_lt hM.r) (by simp; exact hgb)).trans hM.r
      have cw := (hp_cell (i := 2) hM.r).trans rfl
      have cw2 := (hp_cell (i := 2) hr2).trans rfl
      have fw2 := hp_free (i := 2) hr2
      have HX := Lib.hid (And.intro hd (And.intro ht hF))
      clear hM ht hF hd hg' hs' hgb hr2 hW2
      go_wp2_with fail
      go_ret
      refine ⟨rfl, _, ⟨bm, vb', vk', _, rfl, HX.out.1.1⟩, HX.out.2.1.trans HX.out.2.2 HX.out.1.2, fun k' hk' => ?_⟩
      refine HX.out.2.2 k' ((fpr_kfp _ _ _ _ _ _ _).2 ?_)
      rcases (fpr_kfp _ _ _ _ _ _ _).1 hk' with h1 | h1 | h1
      · exact .inl h1
      · exact .inr (.inl h1)
      · exact .inr (.inr h1)
end Go.Proofs.Ytffipojlpdphiaa

namespace Go.Proofs.Ytffipojlpdphiaa
open Go.RowKit Go.Maps Go.Sort

/-- a change: its key, whether it was there, what was -/
abbrev Ch := ByteArray × Bool × ByteArray
def undo1 (L : SL) (c : Ch) : SL := if c.2.1 = true then sset L c.1 c.2.2 else sdel L c.1
/-- the changes' cells; the newest is the list's first -/
def chs (R : List Ch) : List Value := R.reverse.flatMap fun c => chg c.1 c.2.1 c.2.2
theorem chs_cons (c : Ch) (R : List Ch) : chs (c :: R) = chs R ++ chg c.1 c.2.1 c.2.2 := by simp [chs]
theorem chs_app (R S : List Ch) : chs (R ++ S) = chs S ++ chs R := by simp [chs]
theorem chs_len : ∀ R : List Ch, (chs R).length = R.length * 3
  | [] => rfl
  | c :: R => by rw [chs_cons, List.length_append, chs_len R, List.length_cons, show (chg c.1 c.2.1 c.2.2).length = 3 from rfl]; omega
theorem chs_drop (R : List Ch) (d : Nat) : chs R = chs (R.drop d) ++ chs (R.take d) := by rw [← chs_app, List.take_append_drop]
theorem chs_at {R : List Ch} {j : Nat} (h : j < R.length) {i : Nat} (hi : i + j + 1 = R.length) : (chs R)[i * 3]? = some (.string R[j].1) ∧ (chs R)[i * 3 + 1]? = some (.bool R[j].2.1) ∧ (chs R)[i * 3 + 2]? = some (.string R[j].2.2) := by
  have e : chs R = (chs (R.drop (j + 1)) ++ chg R[j].1 R[j].2.1 R[j].2.2) ++ chs (R.take j) := by
    rw [chs_drop R j, List.drop_eq_getElem_cons h, chs_cons]
  have hl : (chs (R.drop (j + 1))).length = i * 3 := by rw [chs_len, List.length_drop]; omega
  have h3 : (chg R[j].1 R[j].2.1 R[j].2.2).length = 3 := rfl
  rw [e]
  refine ⟨?_, ?_, ?_⟩
  · rw [List.getElem?_append_left (by rw [List.length_append]; omega), List.getElem?_append_right (by omega), hl, Nat.sub_self]; rfl
  · rw [List.getElem?_append_left (by rw [List.length_append]; omega), List.getElem?_append_right (by omega), hl, Nat.add_sub_cancel_left]; rfl
  · rw [List.getElem?_append_left (by rw [List.length_append]; omega), List.getElem?_append_right (by omega), hl, Nat.add_sub_cancel_left]; rfl
/-- the changes fit the entries -/
def HOk : SL → List Ch → Prop
  | _, [] => True
  | L, c :: r => (c.1.size ≤ maxLen ∧ c.2.2.size ≤ maxLen ∧ L.length < 1000000 ∧ (c.2.1 = false → (sget L c.1).isSome = true)) ∧ HOk (undo1 L c) r
def und (L : SL) (R : List Ch) (d : Nat) : SL := (R.take d).foldl undo1 L
theorem und_zero (L : SL) (R : List Ch) : und L R 0 = L := rfl
theorem und_succ (L : SL) {R : List Ch} {d : Nat} (h : d < R.length) : und L R (d + 1) = undo1 (und L R d) R[d] := by
  unfold und
  rw [List.take_succ_eq_append_getElem h, List.foldl_append]
  rfl
theorem HOk.drop : ∀ {L : SL} {R : List Ch} (d : Nat), HOk L R → HOk (und L R d) (R.drop d)
  | _, _, 0, h => h
  | _, [], d + 1, _ => by simp [HOk]
  | L, c :: R, d + 1, h => by
    have := HOk.drop d h.2
    simpa [und] using this
theorem HOk.at_ {L : SL} {R : List Ch} {d : Nat} (h : HOk L R) (hd : d < R.length) : R[d].1.size ≤ maxLen ∧ R[d].2.2.size ≤ maxLen ∧ (und L R d).length < 1000000 ∧ (R[d].2.1 = false → (sget (und L R d) R[d].1).isSome = true) := by
  have := h.drop d
  rw [List.drop_eq_getElem_cons hd] at this
  exact this.1
/-- the changes' row gets shorter by d -/
theorem und_done_n {W : World} {b bm g cap m d : Nat} {vb : Value} {vk : List Seg} {L : SL} {qs three zs : List Value} (h : StM W b bm vb vk (.slice (some ⟨g, 0, none⟩) (m + d) cap) L (m + d) (qs ++ three)) (hq : qs.length = m * 3) (hz : zs.length = d * 3) :
    StM ((W.setCells g (m * 3) zs).setCell ⟨b, 2, none⟩ (.slice (some ⟨g, 0, none⟩) m cap)) b bm vb vk (.slice (some ⟨g, 0, none⟩) m cap) L m qs ∧ Touch (fpr b bm vb vk (.slice (some ⟨g, 0, none⟩) (m + d) cap) L) W ((W.setCells g (m * 3) zs).setCell ⟨b, 2, none⟩ (.slice (some ⟨g, 0, none⟩) m cap)) := by
  obtain ⟨g1, g2⟩ := h.vq_kfp g rfl
  have hb : b ∈ kfp b vb vk := mem_kfp.2 (.inl rfl)
  obtain ⟨cur, hg, hn, hc, hs, ht, hl⟩ := ownsRow_open h.kq
  have t1 := touch_setCells (F := [g]) g (by simp) zs (m * 3) W
  have hfar : ∀ k, k < W.heap.size → k ≠ g → (W.setCells g (m * 3) zs).heap[k]? = W.heap[k]? := fun k hk hne => t1.block k hk (by simp; exact hne)
  have hfar2 : ∀ k, k < W.heap.size → k ≠ g → k ≠ b → ((W.setCells g (m * 3) zs).setCell ⟨b, 2, none⟩ (.slice (some ⟨g, 0, none⟩) m cap)).heap[k]? = W.heap[k]? := fun k hk hne hne2 => (Below.heap_setCell _ _ _ _ hne2).trans (hfar k hk hne)
  have hgk : ∀ k, k ∈ kfp b vb vk → k ≠ g := fun k hk e => g2 (e ▸ hk)
  have h0 := h.keys
  refine ⟨⟨⟨?_, ownsRow_same h0.kb fun k hk => hfar2 k (ownsRow_blk h0.kb k hk) (hgk k (mem_kfp.2 (.inr (.inl hk)))) (h0.ba_b hk), ⟨fun s hm => (h0.kk.at_ s hm).same (hfar2 _ (h0.kk.at_ s hm).lt (hgk _ (mem_kfp.2 (.inr (.inr ⟨s, hm, rfl⟩)))) (h0.seg_b hm)), h0.kk.ne, h0.kk.ap⟩, h0.fl, h0.so⟩, h.m.same (hfar2 bm h.m.lt (fun e => g1 e.symm) (fun e => h.bm_kfp (e ▸ hb))), ?_⟩, ?_⟩
  · rw [heap_setCell_row ((hfar b (hp_lt h.r) (hgk b hb)).trans h.r)]
    rfl
  · have hm3 : m * 3 + d * 3 ≤ cap * 3 := by omega
    refine ownsRow_shut (cur := putA cur (m * 3) zs) ?_ (by omega) hc (by rw [putA_size, hs]) ?_ hq
    · rw [Below.heap_setCell _ _ _ _ (show g ≠ b from fun e => hgk b hb e.symm)]
      exact heap_setCells_row _ _ hg
    · rw [putA_list _ _ _ (by rw [hz, hs]; omega), List.append_assoc, List.take_append_of_le_length (by rw [List.length_take]; simp; rw [hs]; omega), List.take_take, Nat.min_self]
      have := congrArg (List.take (m * 3)) ht
      rw [List.take_take, Nat.min_eq_left (by omega), List.take_left' hq] at this
      exact this
  · exact (t1.mono (fun k hk => by rw [List.mem_singleton.1 hk]; exact (fpr_kfp _ _ _ _ _ _ _).2 (.inr (.inr rfl)))).trans (fun _ hk => .inl hk) (Touch.setCell _ _ _ ((fpr_kfp _ _ _ _ _ _ _).2 (.inr (.inl hb))))
/-- the cells of n changes of nothing -/
def zch (n : Nat) : List Value := (Builtin.zeroCells (Value.agg #[.string { data := #[] }, .bool false, .string { data := #[] }]).cells n).toList
theorem zch_len (n : Nat) : (zch n).length = n * 3 := by
  unfold zch Builtin.zeroCells
  rw [Array.length_toList, Array.size_map, Array.size_range]
  have : (Value.agg #[.string { data := #[] }, .bool false, .string { data := #[] }]).cells.size = 3 := by kernel_rfl
  rw [this]
theorem zch_one (n : Nat) : ∀ u ∈ zch n, u.oneCell' = true := fun u hu => by
  unfold zch Builtin.zeroCells at hu
  have e : (Value.agg #[.string { data := #[] }, .bool false, .string { data := #[] }]).cells = #[.string { data := #[] }, .bool false, .string { data := #[] }] := by kernel_rfl
  rw [e] at hu
  simp only [Array.toList_map, List.mem_map] at hu
  obtain ⟨i, _, rfl⟩ := hu
  have h3 : i % 3 < 3 := Nat.mod_lt _ (by decide)
  show (#[Value.string { data := #[] }, .bool false, .string { data := #[] }][i % 3]!).oneCell' = true
  rcases (by omega : i % 3 = 0 ∨ i % 3 = 1 ∨ i % 3 = 2) with h | h | h <;> rw [h] <;> rfl
theorem clear_n (w : World) (ty : TypeId) (g o n c : Nat) (hc : ∀ j, j < n * 3 → (w.cell? ⟨g, o + j, none⟩).isSome = true) (hf : ∀ j, w.frozen? ⟨g, o + j, none⟩ = false) :
    (Builtin.clear_ #[112] ty #[.slice (some ⟨g, o, none⟩) n c]).run Try.prog w = .ok (.tuple #[]) (w.setCells g o (zch n)) := by
  cases n with
  | zero =>
    have hz : zch 0 = [] := List.eq_nil_of_length_eq_zero (zch_len 0)
    rw [hz]
    simp [Builtin.clear_, run_underlying Try.underlying112]
    rfl
  | succ n =>
    have hst := run_storeCells_cells (P := Try.prog) g o (zch (n + 1)) 0 w (by rw [zch_len]; simpa using hc) (fun j _ => by rw [Nat.add_zero]; exact hf j) (zch_one _)
    unfold zch at hst ⊢
    simp only [Nat.add_zero] at hst
    simp [Builtin.clear_, run_underlying Try.underlying112, hst]
end Go.Proofs.Ytffipojlpdphiaa

namespace Go.Proofs.Ytffipojlpdphiaa
open Go.RowKit Go.Maps Go.Sort

def UndPost (b : Nat) (F : List Nat) (L : SL) (R : List Ch) (m : Nat) (w : World) (e : Ending) (w' : World) : Prop :=
  e = .returned (.bool true) ∧ ∃ F', StP w' b F' (und L R (R.length - m)) m (chs (R.drop (R.length - m))) ∧ Touch F w w' ∧ ∀ k ∈ F', k ∈ F ∨ w.heap.size ≤ k
set_option maxRecDepth 100000 in
set_option maxHeartbeats 8000000 in
theorem undo_row (b bm g cap : Nat) (vb : Value) (vk : List Seg) (L : SL) (R : List Ch) (q m : Nat) (w : World) (hqR : q = R.length) (h : StM w b bm vb vk (.slice (some ⟨g, 0, none⟩) q cap) L q (chs R)) (hH : HOk L R) (hm : m ≤ q) (hq : q < 1000000) :
    Calls Try.prog 86 #[.pointer (some ⟨b, 0, none⟩), .int .i64 (m : Nat)] w (UndPost b (fpr b bm vb vk (.slice (some ⟨g, 0, none⟩) q cap) L) L R m w) := by
  have HM := Lib.hid (made_live b _ L q _ w ⟨bm, vb, vk, _, rfl, h⟩)
  have c2 := (hp_cell (i := 2) h.r).trans rfl
  have lb := hp_lt h.r
  obtain ⟨cur, hgc, hn1, hn2, hn3, _, _⟩ := ownsRow_open h.kq
  have Hh := Lib.hid (And.intro h (And.intro hH hqR))
  have HC := Lib.hid (And.intro hn2 hn3)
  have m0 : ¬ (m : Int) < 0 := by omega
  have m1 : ¬ q < m := by omega
  have hcm : cap ≤ 9223372036854775807 := by unfold maxLen at hn2; omega
  clear h hH hqR hgc hn2 hn3
  go_enter Try.func86, Try.ntmps86
  go_wp2_with (go_at_call 70; refine HM.out.mono ?_; rintro e w1 ⟨rfl, rfl⟩)
  go_loopw [5] (fun i wr => ∃ n : Nat, m ≤ n ∧ n ≤ q ∧ i = .int .i64 ((n : Int) - 1) ∧ ∃ vb' vk', StM wr b bm vb' vk' (.slice (some ⟨g, 0, none⟩) q cap) (und L R (q - n)) q (chs R) ∧ Touch (fpr b bm vb vk (.slice (some ⟨g, 0, none⟩) q cap) L) w wr ∧ ∀ k' ∈ fpr b bm vb' vk' (.slice (some ⟨g, 0, none⟩) q cap) (und L R (q - n)), k' ∈ fpr b bm vb vk (.slice (some ⟨g, 0, none⟩) q cap) L ∨ w.heap.size ≤ k') (fun i _ => (intOf i - (m : Int) + 1).toNat)
  case atStart => exact ⟨q, hm, Nat.le_refl _, by go_num, vb, vk, by rw [Nat.sub_self]; exact Hh.out.1, Touch.refl _ _, fun k' hk' => by rw [Nat.sub_self] at hk'; exact .inl hk'⟩
  case round =>
    obtain ⟨n, hmn, hnq, rfl, vb', vk', hM, ht, hF⟩ := hrel
    have c2r := (hp_cell (i := 2) hM.r).trans rfl
    have HR := Lib.hid (And.intro hM (And.intro ht hF))
    by_cases hlt : m < n
    · obtain ⟨n, rfl⟩ : ∃ n', n = n' + 1 := ⟨n - 1, by omega⟩
      rw [show (((n + 1 : Nat) : Int) - 1) = (n : Int) by omega]
      have p1 : (m : Int) ≤ (n : Int) := by omega
      have p2 : (n : Int) < (q : Int) := by omega
      have hj : q - (n + 1) < R.length := by have := Hh.out.2.2; omega
      have hk := chs_at hj (i := n) (by have := Hh.out.2.2; omega)
      have hcc := fun j u (hj : (chs R)[j]? = some u) => ownsRow_cell hM.kq rfl hj
      have k0 := hcc _ _ hk.1
      have k1 := hcc _ _ hk.2.1
      have k2 := hcc _ _ hk.2.2
      have ho := HOk.at_ Hh.out.2.1 hj
      have hs := und_succ L hj
      rw [show q - (n + 1) + 1 = q - n by omega] at hs
      obtain ⟨c, ec⟩ : ∃ y, y = R[q - (n + 1)] := ⟨_, rfl⟩
      rw [← ec] at k0 k1 k2 ho hs
      obtain ⟨k, had, was⟩ := c
      simp only at k0 k1 k2 ho
      have hb0 : Below wr.heap.size wr (wr.alloc (.cells #[.string k, .bool had, .string was] 185)) := (Below.refl _ _).alloc (Nat.le_refl _) _
      have HB0 := Lib.hid hb0
      have HO := Lib.hid ho
      cases had with
      | true =>
        have HP := Lib.hid (put_live b bm vb' vk' (.slice (some ⟨g, 0, none⟩) q cap) _ q (chs R) k was _ (HR.out.1.below hb0) ho.1 ho.2.1 ho.2.2.1)
        rw [show sset (und L R (q - (n + 1))) k was = und L R (q - n) from hs.symm] at HP
        clear hM ht hF hcc hk hb0 ho hs ec
        go_wp2_with (go_at_call 149; refine HP.out.mono ?_; rintro e w6 ⟨rfl, vb5, vk5, hM5, ht5, hF5⟩; have HM6 := Lib.hid (And.intro hM5 (And.intro ht5 hF5)); clear hM5 ht5 hF5)
        exact ⟨⟨n, by omega, by omega, by go_num, vb5, vk5, HM6.out.1, HR.out.2.1.trans HR.out.2.2 ((Touch.of_below HB0.out).trans (fun _ hk => .inl hk) HM6.out.2.1), fun k' hk' => by
          rcases HM6.out.2.2 k' hk' with h1 | h1
          · exact HR.out.2.2 k' h1
          · right; have := HB0.out.size; have := HR.out.2.1.size; omega⟩, by simp [intOf]; omega⟩
      | false =>
        have HP := Lib.hid (drop_live b bm vb' vk' (.slice (some ⟨g, 0, none⟩) q cap) _ q (chs R) k _ (HR.out.1.below hb0) ho.1 (Nat.le_of_lt ho.2.2.1) (ho.2.2.2 rfl))
        rw [show sdel (und L R (q - (n + 1))) k = und L R (q - n) from hs.symm] at HP
        clear hM ht hF hcc hk hb0 ho hs ec
        go_wp2_with (go_at_call 130; refine HP.out.mono ?_; rintro e w6 ⟨rfl, vb5, vk5, hM5, ht5, hF5⟩; have HM6 := Lib.hid (And.intro hM5 (And.intro ht5 hF5)); clear hM5 ht5 hF5)
        exact ⟨⟨n, by omega, by omega, by go_num, vb5, vk5, HM6.out.1, HR.out.2.1.trans HR.out.2.2 ((Touch.of_below HB0.out).trans (fun _ hk => .inl hk) HM6.out.2.1), fun k' hk' => by
          rcases HM6.out.2.2 k' hk' with h1 | h1
          · exact HR.out.2.2 k' h1
          · right; have := HB0.out.size; have := HR.out.2.1.size; omega⟩, by simp [intOf]; omega⟩
    · obtain rfl : n = m := by omega
      obtain ⟨cur', hg', _, _, hs', _, _⟩ := ownsRow_open hM.kq
      have hqd : q = n + (q - n) := by omega
      have hM2 : StM wr b bm vb' vk' (.slice (some ⟨g, 0, none⟩) (n + (q - n)) cap) (und L R (q - n)) (n + (q - n)) (chs (R.drop (q - n)) ++ chs (R.take (q - n))) := by
        rw [← chs_drop, ← hqd]; exact hM
      have hlq : (chs (R.drop (q - n))).length = n * 3 := by rw [chs_len, List.length_drop]; have := Hh.out.2.2; omega
      have hd := und_done_n (zs := zch (q - n)) hM2 hlq (zch_len _)
      rw [← hqd] at hd
      obtain ⟨W2, hW2⟩ : ∃ W2, W2 = wr.setCells g (n * 3) (zch (q - n)) := ⟨_, rfl⟩
      rw [← hW2] at hd
      have hgb : b ≠ g := fun e => (hM.vq_kfp g rfl).2 (mem_kfp.2 (.inl e.symm))
      have hr2 : W2.heap[b]? = some (.cells #[.map (some bm), vb', .slice (some ⟨g, 0, none⟩) q cap] 114 (0, 0)) := by rw [hW2]; exact ((touch_setCells (F := [g]) g (by simp) (zch (q - n)) (n * 3) wr).block b (hp_lt hM.r) (by simp; exact hgb)).trans hM.r
      have cw := (hp_cell (i := 2) hM.r).trans rfl
      have cw2 := (hp_cell (i := 2) hr2).trans rfl
      have fw2 := hp_free (i := 2) hr2
      have HX := Lib.hid (And.intro hd (And.intro ht hF))
      have cm1 : n ≤ cap := by omega
      have hend : ∀ W3, W3 = W2.setCell ⟨b, 2, none⟩ (.slice (some ⟨g, 0, none⟩) n cap) → UndPost b (fpr b bm vb vk (.slice (some ⟨g, 0, none⟩) q cap) L) L R n w (.returned (.bool true)) W3 := by
        rintro W3 rfl
        have e := Hh.out.2.2
        unfold UndPost
        rw [← e]
        refine ⟨rfl, _, ⟨bm, vb', vk', _, rfl, HX.out.1.1⟩, HX.out.2.1.trans HX.out.2.2 HX.out.1.2, fun k' hk' => ?_⟩
        refine HX.out.2.2 k' ((fpr_kfp _ _ _ _ _ _ _).2 ?_)
        rcases (fpr_kfp _ _ _ _ _ _ _).1 hk' with h1 | h1 | h1
        · exact .inl h1
        · exact .inr (.inl h1)
        · exact .inr (.inr h1)
      have HE := Lib.hid hend
      by_cases hc : n < cap
      · have hcl : ∀ ty, (Builtin.clear_ #[112] ty #[.slice (some ⟨g, n * 3, none⟩) (q - n) (cap - n)]).run Try.prog wr = .ok (.tuple #[]) W2 := fun ty => by
          rw [hW2]
          exact clear_n wr ty g (n * 3) (q - n) (cap - n) (fun j hj => by rw [hp_cell hg']; simp [hs']; omega) (fun j => hp_free hg')
        clear hM ht hF hd hg' hs' hgb hr2 hW2 hM2 hlq hqd hend c2r
        go_wp2_with fail
        go_ret
        exact HE.out _ rfl
      · obtain rfl : n = q := by omega
        obtain rfl : n = cap := by omega
        have hcl : ∀ ty a c, (Builtin.clear_ #[112] ty #[.slice a 0 c]).run Try.prog wr = .ok (.tuple #[]) wr := fun ty a c => by
          cases a <;> simp [Builtin.clear_, run_underlying Try.underlying112]
        have hz : zch (n - n) = [] := List.eq_nil_of_length_eq_zero (by rw [zch_len]; omega)
        rw [hz] at hW2
        replace hW2 : W2 = wr := hW2
        subst hW2
        clear hM ht hF hd hg' hs' hgb hr2 hM2 hlq hqd hend hc hz c2r
        go_wp2_with fail
        go_ret
        exact HE.out _ rfl
end Go.Proofs.Ytffipojlpdphiaa
