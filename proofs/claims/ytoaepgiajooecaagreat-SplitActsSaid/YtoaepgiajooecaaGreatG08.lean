/- The store: Set where nothing is new, Undo of one change, walked. -/
import Derived.Test.YtoaepgiajooecaaGreatG07
namespace Go.Proofs.YtoaepgiajooecaaGreat
open Go.RowKit Go.Maps Go.Sort

theorem ba_nil {k : ByteArray} (hk0 : k ≠ ⟨#[]⟩) : k.toList.isEmpty = false := by
  rw [Lib.toList_data]
  cases hh : k.data.toList with
  | nil => exact absurd (lit_inj (b := ⟨#[]⟩) (congrArg Lit.string (hh.trans rfl))) hk0
  | cons a r => rfl
set_option maxRecDepth 100000 in
set_option maxHeartbeats 2000000 in
theorem set_same (b : Nat) (F : List Nat) (L : SL) (q : Nat) (qs : List Value) (k v : ByteArray) (w : World) (h : StP w b F L q qs) (hk : k.size ≤ maxLen) (hk0 : k ≠ ⟨#[]⟩) (he : sget L k = some v) :
    Calls Tryz.prog 88 #[.pointer (some ⟨b, 0, none⟩), .string k, .string v] w (SetPost b F L q qs 0 w) := by
  have HM := Lib.hid (made_live b F L q qs w h)
  have HH := Lib.hid h
  obtain ⟨bm, vb, vk, vq, rfl, hS⟩ := h
  have hl := hS.m.look k hk
  rw [he] at hl
  replace hl : (Instr.lookup 73 (.map (some bm)) (.string k) true).run Tryz.prog w = .ok (.tuple #[.agg #[.string v], .bool true]) w := hl
  have c0 := (hp_cell (i := 0) hS.r).trans rfl
  have hk1 := ba_nil hk0
  have hvv : (v.toList == v.toList) = true := beq_self_eq_true _
  clear hS hk hk0 he
  go_enter Tryz.func88, Tryz.ntmps88
  go_wp2_with (go_at_call 18; refine HM.out.mono ?_; rintro e w1 ⟨rfl, rfl⟩)
  go_ret
  have hb := (Below.refl w.heap.size w).alloc (Nat.le_refl _) (.cells #[.string v] 100)
  exact ⟨rfl, _, HH.out.below hb, Touch.of_below hb, fun k hk => .inl hk⟩
/-- the changes' row gets shorter -/
theorem und_done {W : World} {b bm g cap m : Nat} {vb : Value} {vk : List Seg} {L : SL} {qs three zs : List Value} (h : StM W b bm vb vk (.slice (some ⟨g, 0, none⟩) (m + 1) cap) L (m + 1) (qs ++ three)) (hq : qs.length = m * 3) (hz : zs.length = 3) :
    StM ((W.setCells g (m * 3) zs).setCell ⟨b, 2, none⟩ (.slice (some ⟨g, 0, none⟩) m cap)) b bm vb vk (.slice (some ⟨g, 0, none⟩) m cap) L m qs ∧ Touch (fpr b bm vb vk (.slice (some ⟨g, 0, none⟩) (m + 1) cap) L) W ((W.setCells g (m * 3) zs).setCell ⟨b, 2, none⟩ (.slice (some ⟨g, 0, none⟩) m cap)) := by
  obtain ⟨g1, g2⟩ := h.vq_kfp g rfl
  have hb : b ∈ kfp b vb vk := mem_kfp.2 (.inl rfl)
  obtain ⟨cur, hg, hn, hc, hs, ht, hl⟩ := ownsRow_open h.kq
  have t1 := touch_setCells (F := [g]) g (by simp) zs (m * 3) W
  have hfar : ∀ k, k < W.heap.size → k ≠ g → (W.setCells g (m * 3) zs).heap[k]? = W.heap[k]? := fun k hk hne => t1.block k hk (by simp; exact hne)
  have hfar2 : ∀ k, k < W.heap.size → k ≠ g → k ≠ b → ((W.setCells g (m * 3) zs).setCell ⟨b, 2, none⟩ (.slice (some ⟨g, 0, none⟩) m cap)).heap[k]? = W.heap[k]? := fun k hk hne hne2 => (Below.heap_setCell _ _ _ _ hne2).trans (hfar k hk hne)
  have hgk : ∀ k, k ∈ kfp b vb vk → k ≠ g := fun k hk e => g2 (e ▸ hk)
  have h0 := h.keys
  refine ⟨⟨⟨?_, ownsRow_same h0.kb fun k hk => hfar2 k (ownsRow_blk h0.kb k hk) (hgk k (mem_kfp.2 (.inr (.inl hk)))) (h0.ba_b hk), ⟨fun s hm => (h0.kk.at_ s hm).same (hfar2 _ (h0.kk.at_ s hm).lt (hgk _ (mem_kfp.2 (.inr (.inr ⟨s, hm, rfl⟩)))) (h0.seg_b hm)), h0.kk.ne, h0.kk.ap⟩, h0.fl, h0.so⟩, h.m.same (hfar2 bm h.m.lt (fun e => g1 e.symm) (fun e => h.bm_kfp (e ▸ hb))), ?_⟩, ?_⟩
  · rw [heap_setCell_row ((hfar b (hp_lt h.r) (hgk b hb)).trans h.r)]
    rfl
  · refine ownsRow_shut (cur := putA cur (m * 3) zs) ?_ (by omega) hc (by rw [putA_size, hs]) ?_ hq
    · rw [Below.heap_setCell _ _ _ _ (show g ≠ b from fun e => hgk b hb e.symm)]
      exact heap_setCells_row _ _ hg
    · rw [putA_list _ _ _ (by rw [hz, hs]; omega), List.append_assoc, List.take_append_of_le_length (by rw [List.length_take]; simp; rw [hs]; omega), List.take_take, Nat.min_self]
      have := congrArg (List.take (m * 3)) ht
      rw [List.take_take, Nat.min_eq_left (by omega), List.take_left' hq] at this
      exact this
  · exact (t1.mono (fun k hk => by rw [List.mem_singleton.1 hk]; exact (fpr_kfp _ _ _ _ _ _ _).2 (.inr (.inr rfl)))).trans (fun _ hk => .inl hk) (Touch.setCell _ _ _ ((fpr_kfp _ _ _ _ _ _ _).2 (.inr (.inl hb))))
theorem zeroChange (w : World) : (zeroValue 155).run Tryz.prog w = .ok (.agg #[.string { data := #[] }, .bool false, .string { data := #[] }]) w := by kernel_rfl
theorem clear_one (w : World) (ty : TypeId) (g o c : Nat) (hc : ∀ j, j < 3 → (w.cell? ⟨g, o + j, none⟩).isSome = true) (hf : ∀ j, w.frozen? ⟨g, o + j, none⟩ = false) :
    (Builtin.clear_ #[75] ty #[.slice (some ⟨g, o, none⟩) 1 c]).run Tryz.prog w = .ok (.tuple #[]) (w.setCells g o (chg ⟨#[]⟩ false ⟨#[]⟩)) := by
  have hst := run_storeCells_cells (P := Tryz.prog) g o (chg ⟨#[]⟩ false ⟨#[]⟩) 0 w (by simpa [chg] using hc) (fun j _ => by rw [Nat.add_zero]; exact hf j) chg_one
  have hz : (Builtin.zeroCells (Value.agg #[.string { data := #[] }, .bool false, .string { data := #[] }]).cells 1).toList = chg ⟨#[]⟩ false ⟨#[]⟩ := by kernel_rfl
  simp only [Nat.add_zero] at hst
  simp [Builtin.clear_, run_underlying Tryz.underlying75, hz, hst]
end Go.Proofs.YtoaepgiajooecaaGreat

namespace Go.Proofs.YtoaepgiajooecaaGreat
open Go.RowKit Go.Maps Go.Sort

/-- a change: its key, whether it was there, what was -/
abbrev Ch := ByteArray × Bool × ByteArray
def undo1 (L : SL) (c : Ch) : SL := if c.2.1 = true then sset L c.1 c.2.2 else sdel L c.1
/-- the changes' cells; the newest is the list's first -/
def chs (R : List Ch) : List Value := R.reverse.flatMap fun c => chg c.1 c.2.1 c.2.2
theorem chs_cons (c : Ch) (R : List Ch) : chs (c :: R) = chs R ++ chg c.1 c.2.1 c.2.2 := by simp [chs]
theorem chs_app (R S : List Ch) : chs (R ++ S) = chs S ++ chs R := by simp [chs]
theorem chs_len : ∀ R : List Ch, (chs R).length = R.length * 3
  | [] => rfl
  | c :: R => by rw [chs_cons, List.length_append, chs_len R, List.length_cons, show (chg c.1 c.2.1 c.2.2).length = 3 from rfl]; omega
theorem chs_drop (R : List Ch) (d : Nat) : chs R = chs (R.drop d) ++ chs (R.take d) := by rw [← chs_app, List.take_append_drop]
theorem chs_at {R : List Ch} {j : Nat} (h : j < R.length) {i : Nat} (hi : i + j + 1 = R.length) : (chs R)[i * 3]? = some (.string R[j].1) ∧ (chs R)[i * 3 + 1]? = some (.bool R[j].2.1) ∧ (chs R)[i * 3 + 2]? = some (.string R[j].2.2) := by
  have e : chs R = (chs (R.drop (j + 1)) ++ chg R[j].1 R[j].2.1 R[j].2.2) ++ chs (R.take j) := by
    rw [chs_drop R j, List.drop_eq_getElem_cons h, chs_cons]
  have hl : (chs (R.drop (j + 1))).length = i * 3 := by rw [chs_len, List.length_drop]; omega
  have h3 : (chg R[j].1 R[j].2.1 R[j].2.2).length = 3 := rfl
  rw [e]
  refine ⟨?_, ?_, ?_⟩
  · rw [List.getElem?_append_left (by rw [List.length_append]; omega), List.getElem?_append_right (by omega), hl, Nat.sub_self]; rfl
  · rw [List.getElem?_append_left (by rw [List.length_append]; omega), List.getElem?_append_right (by omega), hl, Nat.add_sub_cancel_left]; rfl
  · rw [List.getElem?_append_left (by rw [List.length_append]; omega), List.getElem?_append_right (by omega), hl, Nat.add_sub_cancel_left]; rfl
/-- the changes fit the entries -/
def HOk : SL → List Ch → Prop
  | _, [] => True
  | L, c :: r => (c.1.size ≤ maxLen ∧ c.2.2.size ≤ maxLen ∧ L.length < 1000000 ∧ (c.2.1 = false → (sget L c.1).isSome = true)) ∧ HOk (undo1 L c) r
def und (L : SL) (R : List Ch) (d : Nat) : SL := (R.take d).foldl undo1 L
theorem und_zero (L : SL) (R : List Ch) : und L R 0 = L := rfl
theorem und_succ (L : SL) {R : List Ch} {d : Nat} (h : d < R.length) : und L R (d + 1) = undo1 (und L R d) R[d] := by
  unfold und
  rw [List.take_succ_eq_append_getElem h, List.foldl_append]
  rfl
theorem HOk.drop : ∀ {L : SL} {R : List Ch} (d : Nat), HOk L R → HOk (und L R d) (R.drop d)
  | _, _, 0, h => h
  | _, [], d + 1, _ => by simp [HOk]
  | L, c :: R, d + 1, h => by
    have := HOk.drop d h.2
    simpa [und] using this
theorem HOk.at_ {L : SL} {R : List Ch} {d : Nat} (h : HOk L R) (hd : d < R.length) : R[d].1.size ≤ maxLen ∧ R[d].2.2.size ≤ maxLen ∧ (und L R d).length < 1000000 ∧ (R[d].2.1 = false → (sget (und L R d) R[d].1).isSome = true) := by
  have := h.drop d
  rw [List.drop_eq_getElem_cons hd] at this
  exact this.1
/-- the changes' row gets shorter by d -/
theorem und_done_n {W : World} {b bm g cap m d : Nat} {vb : Value} {vk : List Seg} {L : SL} {qs three zs : List Value} (h : StM W b bm vb vk (.slice (some ⟨g, 0, none⟩) (m + d) cap) L (m + d) (qs ++ three)) (hq : qs.length = m * 3) (hz : zs.length = d * 3) :
    StM ((W.setCells g (m * 3) zs).setCell ⟨b, 2, none⟩ (.slice (some ⟨g, 0, none⟩) m cap)) b bm vb vk (.slice (some ⟨g, 0, none⟩) m cap) L m qs ∧ Touch (fpr b bm vb vk (.slice (some ⟨g, 0, none⟩) (m + d) cap) L) W ((W.setCells g (m * 3) zs).setCell ⟨b, 2, none⟩ (.slice (some ⟨g, 0, none⟩) m cap)) := by
  obtain ⟨g1, g2⟩ := h.vq_kfp g rfl
  have hb : b ∈ kfp b vb vk := mem_kfp.2 (.inl rfl)
  obtain ⟨cur, hg, hn, hc, hs, ht, hl⟩ := ownsRow_open h.kq
  have t1 := touch_setCells (F := [g]) g (by simp) zs (m * 3) W
  have hfar : ∀ k, k < W.heap.size → k ≠ g → (W.setCells g (m * 3) zs).heap[k]? = W.heap[k]? := fun k hk hne => t1.block k hk (by simp; exact hne)
  have hfar2 : ∀ k, k < W.heap.size → k ≠ g → k ≠ b → ((W.setCells g (m * 3) zs).setCell ⟨b, 2, none⟩ (.slice (some ⟨g, 0, none⟩) m cap)).heap[k]? = W.heap[k]? := fun k hk hne hne2 => (Below.heap_setCell _ _ _ _ hne2).trans (hfar k hk hne)
  have hgk : ∀ k, k ∈ kfp b vb vk → k ≠ g := fun k hk e => g2 (e ▸ hk)
  have h0 := h.keys
  refine ⟨⟨⟨?_, ownsRow_same h0.kb fun k hk => hfar2 k (ownsRow_blk h0.kb k hk) (hgk k (mem_kfp.2 (.inr (.inl hk)))) (h0.ba_b hk), ⟨fun s hm => (h0.kk.at_ s hm).same (hfar2 _ (h0.kk.at_ s hm).lt (hgk _ (mem_kfp.2 (.inr (.inr ⟨s, hm, rfl⟩)))) (h0.seg_b hm)), h0.kk.ne, h0.kk.ap⟩, h0.fl, h0.so⟩, h.m.same (hfar2 bm h.m.lt (fun e => g1 e.symm) (fun e => h.bm_kfp (e ▸ hb))), ?_⟩, ?_⟩
  · rw [heap_setCell_row ((hfar b (hp_lt h.r) (hgk b hb)).trans h.r)]
    rfl
  · have hm3 : m * 3 + d * 3 ≤ cap * 3 := by omega
    refine ownsRow_shut (cur := putA cur (m * 3) zs) ?_ (by omega) hc (by rw [putA_size, hs]) ?_ hq
    · rw [Below.heap_setCell _ _ _ _ (show g ≠ b from fun e => hgk b hb e.symm)]
      exact heap_setCells_row _ _ hg
    · rw [putA_list _ _ _ (by rw [hz, hs]; omega), List.append_assoc, List.take_append_of_le_length (by rw [List.length_take]; simp; rw [hs]; omega), List.take_take, Nat.min_self]
      have := congrArg (List.take (m * 3)) ht
      rw [List.take_take, Nat.min_eq_left (by omega), List.take_left' hq] at this
      exact this
  · exact (t1.mono (fun k hk => by rw [List.mem_singleton.1 hk]; exact (fpr_kfp _ _ _ _ _ _ _).2 (.inr (.inr rfl)))).trans (fun _ hk => .inl hk) (Touch.setCell _ _ _ ((fpr_kfp _ _ _ _ _ _ _).2 (.inr (.inl hb))))
/-- the cells of n changes of nothing -/
def zch (n : Nat) : List Value := (Builtin.zeroCells (Value.agg #[.string { data := #[] }, .bool false, .string { data := #[] }]).cells n).toList
theorem zch_len (n : Nat) : (zch n).length = n * 3 := by
  unfold zch Builtin.zeroCells
  rw [Array.length_toList, Array.size_map, Array.size_range]
  have : (Value.agg #[.string { data := #[] }, .bool false, .string { data := #[] }]).cells.size = 3 := by kernel_rfl
  rw [this]
theorem zch_one (n : Nat) : ∀ u ∈ zch n, u.oneCell' = true := fun u hu => by
  unfold zch Builtin.zeroCells at hu
  have e : (Value.agg #[.string { data := #[] }, .bool false, .string { data := #[] }]).cells = #[.string { data := #[] }, .bool false, .string { data := #[] }] := by kernel_rfl
  rw [e] at hu
  simp only [Array.toList_map, List.mem_map] at hu
  obtain ⟨i, _, rfl⟩ := hu
  have h3 : i % 3 < 3 := Nat.mod_lt _ (by decide)
  show (#[Value.string { data := #[] }, .bool false, .string { data := #[] }][i % 3]!).oneCell' = true
  rcases (by omega : i % 3 = 0 ∨ i % 3 = 1 ∨ i % 3 = 2) with h | h | h <;> rw [h] <;> rfl
theorem clear_n (w : World) (ty : TypeId) (g o n c : Nat) (hc : ∀ j, j < n * 3 → (w.cell? ⟨g, o + j, none⟩).isSome = true) (hf : ∀ j, w.frozen? ⟨g, o + j, none⟩ = false) :
    (Builtin.clear_ #[75] ty #[.slice (some ⟨g, o, none⟩) n c]).run Tryz.prog w = .ok (.tuple #[]) (w.setCells g o (zch n)) := by
  cases n with
  | zero =>
    have hz : zch 0 = [] := List.eq_nil_of_length_eq_zero (zch_len 0)
    rw [hz]
    simp [Builtin.clear_, run_underlying Tryz.underlying75]
    rfl
  | succ n =>
    have hst := run_storeCells_cells (P := Tryz.prog) g o (zch (n + 1)) 0 w (by rw [zch_len]; simpa using hc) (fun j _ => by rw [Nat.add_zero]; exact hf j) (zch_one _)
    unfold zch at hst ⊢
    simp only [Nat.add_zero] at hst
    simp [Builtin.clear_, run_underlying Tryz.underlying75, hst]
end Go.Proofs.YtoaepgiajooecaaGreat

namespace Go.Proofs.YtoaepgiajooecaaGreat
open Go.RowKit Go.Maps Go.Sort

def UndPost (b : Nat) (F : List Nat) (L : SL) (R : List Ch) (m : Nat) (w : World) (e : Ending) (w' : World) : Prop :=
  e = .returned (.bool true) ∧ ∃ F', StP w' b F' (und L R (R.length - m)) m (chs (R.drop (R.length - m))) ∧ Touch F w w' ∧ ∀ k ∈ F', k ∈ F ∨ w.heap.size ≤ k
end Go.Proofs.YtoaepgiajooecaaGreat
