/- The document's delayed numbers (tallageref28): Settle, Of, Get, Set, walked on the document's store. -/
import Derived.Test.YtoaepgiajooecaaGreatG31
import Derived.Test.YtoaepgiajooecaaGreatG05
namespace Go.Proofs.YtoaepgiajooecaaGreat
open Go.RowKit Go.Maps Go.Sort

theorem okN_row {f : Nat → Int} {n : Nat} (hf : ∀ i, i < n → 0 ≤ f i ∧ f i < 2 ^ 63) : okN (rowV f n) := by
  refine ⟨by rw [rowV_size]; omega, fun i hi => ?_⟩
  rw [rowV_size] at hi
  rw [chunk_tl (f := f) (n := n) rfl (by omega) (hf i (by omega)).2]
  have := (hf i (by omega)).2
  have := (hf i (by omega)).1
  omega
theorem chv_row {f : Nat → Int} {n : Nat} (hf : ∀ i, i < n → 0 ≤ f i ∧ f i < 2 ^ 63) {i : Nat} (hi : i < n) : chv (rowV f n) i = f i := by
  have h := (okN_row hf).2 i (by rw [rowV_size]; omega)
  unfold chv
  rw [if_pos ⟨by rw [rowV_size]; omega, h⟩, chunk_tl (f := f) (n := n) rfl hi (hf i hi).2]
  have := (hf i hi).1
  omega
theorem rowF_in {v : DV} (hv : v.ok) : ∀ i, i < 5 → 0 ≤ rowF v.h v.n v.x v.a v.m i ∧ rowF v.h v.n v.x v.a v.m i < 2 ^ 63 := by
  intro i hi
  rcases (by omega : i = 0 ∨ i = 1 ∨ i = 2 ∨ i = 3 ∨ i = 4) with rfl | rfl | rfl | rfl | rfl
  · show (0 : Int) ≤ (if v.h then 1 else 0) ∧ (if v.h then 1 else 0) < (2 : Int) ^ 63
    split <;> decide
  · exact hv.n
  · show (0 : Int) ≤ (if v.m then 1 else 0) ∧ (if v.m then 1 else 0) < (2 : Int) ^ 63
    split <;> decide
  · exact hv.x
  · exact hv.a
set_option maxRecDepth 100000 in
set_option maxHeartbeats 400000 in
theorem rsettle_no (h : Bool) (n x a b : Int) (w : World) : Calls Tryz.prog 50 #[dval h n x a false, .int .i64 b] w fun e w' => e = .returned (dval h n x a false) ∧ Below w.heap.size w w' := by
  unfold dval
  go_enter Tryz.func50, Tryz.ntmps50
  go_wp2
  refine bodyPost_ret (v := .agg #[.bool h, .int .i64 n, .int .i64 x, .int .i64 a, .bool false]) (by simp [results, Tryz.results50, go_sem]) rfl ⟨rfl, ?_⟩
  exact ((Below.refl w.heap.size w).alloc (Nat.le_refl _) _).alloc (by simp) _
set_option maxRecDepth 100000 in
set_option maxHeartbeats 400000 in
theorem rsettle_stays (h : Bool) (n x a b : Int) (w : World) (hab : ¬ a ≤ b) : Calls Tryz.prog 50 #[dval h n x a true, .int .i64 b] w fun e w' => e = .returned (dval h n x a true) ∧ Below w.heap.size w w' := by
  unfold dval
  go_enter Tryz.func50, Tryz.ntmps50
  go_wp2
  refine bodyPost_ret (v := .agg #[.bool h, .int .i64 n, .int .i64 x, .int .i64 a, .bool true]) (by simp [results, Tryz.results50, go_sem]) rfl ⟨rfl, ?_⟩
  exact ((Below.refl w.heap.size w).alloc (Nat.le_refl _) _).alloc (by simp) _
set_option maxRecDepth 100000 in
set_option maxHeartbeats 400000 in
theorem rsettle_turns (h : Bool) (n x a b : Int) (w : World) (hab : a ≤ b) : Calls Tryz.prog 50 #[dval h n x a true, .int .i64 b] w fun e w' => e = .returned (dval true x 0 0 false) ∧ Below w.heap.size w w' := by
  unfold dval
  go_enter Tryz.func50, Tryz.ntmps50
  go_wp2
  refine bodyPost_ret (v := .agg #[.bool true, .int .i64 x, .int .i64 0, .int .i64 0, .bool false]) (by simp [results, Tryz.results50, go_sem]) rfl ⟨rfl, ?_⟩
  exact ((Below.refl w.heap.size w).alloc (Nat.le_refl _) _).alloc (by simp) _
theorem rsettle_any (v : DV) (b : Int) (w : World) : Calls Tryz.prog 50 #[v.val, .int .i64 b] w fun e w' => e = .returned (settleD v b).val ∧ Below w.heap.size w w' := by
  obtain ⟨h, n, x, a, m⟩ := v
  unfold settleD DV.val
  cases m with
  | false => exact rsettle_no h n x a b w
  | true =>
    by_cases hb : b < a
    · rw [if_neg (by simpa using hb)]; exact rsettle_stays h n x a b w (by omega)
    · rw [if_pos (by simpa using hb)]; exact rsettle_turns h n x a b w (by omega)
set_option maxRecDepth 100000 in
set_option maxHeartbeats 400000 in
theorem rof_of (h0 : Bool) (n0 x a : Int) (m : Bool) (h1 : Bool) (n1 x1 a1 : Int) (m1 : Bool) (b : Int) (w : World) (HS0 : ∀ w, Calls Tryz.prog 50 #[dval h0 n0 x a m, .int .i64 b] w fun e w' => e = .returned (dval h1 n1 x1 a1 m1) ∧ Below w.heap.size w w') :
    Calls Tryz.prog 27 #[dval h0 n0 x a m, .int .i64 b] w fun e w' => e = .returned (.tuple #[.int .i64 n1, .bool h1]) ∧ Below w.heap.size w w' := by
  have hb0 := (Below.refl w.heap.size w).alloc (Nat.le_refl _) (.cells #[.bool h0, .int .i64 n0, .int .i64 x, .int .i64 a, .bool m] 62)
  have HB0 := Lib.hid hb0
  have HS := HS0 (w.alloc (.cells #[.bool h0, .int .i64 n0, .int .i64 x, .int .i64 a, .bool m] 62))
  unfold dval at HS ⊢
  have HSe := Lib.hid HS
  clear hb0 HS HS0
  go_enter Tryz.func27, Tryz.ntmps27
  go_wp2_with (go_at_call 50; refine HSe.out.mono ?_; rintro e w1 ⟨rfl, hb1⟩; have HB1 := Lib.hid (HB0.out.trans (hb1.mono HB0.out.size)); clear hb1)
  all_goals
    go_region
    all_goals
      go_wp2
      go_ret2
      exact ⟨rfl, (HB1.out.alloc HB1.out.size _).drew⟩
theorem rof_any (v : DV) (b : Int) (w : World) : Calls Tryz.prog 27 #[v.val, .int .i64 b] w fun e w' => e = .returned (.tuple #[.int .i64 (settleD v b).n, .bool (settleD v b).h]) ∧ Below w.heap.size w w' :=
  rof_of v.h v.n v.x v.a v.m (settleD v b).h (settleD v b).n (settleD v b).x (settleD v b).a (settleD v b).m b w fun w => rsettle_any v b w
set_option maxRecDepth 100000 in
set_option maxHeartbeats 400000 in
theorem dbit_walk (b : Bool) (w : World) : Calls Tryz.prog 52 #[.bool b] w fun e w' => e = .returned (.int .i64 (if b then 1 else 0)) ∧ Below w.heap.size w w' := by
  cases b <;>
    (go_enter Tryz.func52, Tryz.ntmps52
     go_wp2
     go_ret
     exact ⟨rfl, Below.refl _ _⟩)
set_option maxRecDepth 100000 in
set_option maxHeartbeats 1000000 in
theorem rdget_none (w W : World) (m : Nat) (L : SL) (R : List Ch) (t : Int) (A : Option Addr) (n c : Nat) (f : Nat → Int) (K : ByteArray) (hK : keyStr t f n = K) (h : DS w W m L R) (hl : Il W A n f) (hn : n ≤ 100) (hr : Rising (skeys L)) (hN : L.length ≤ 1000000) (he : sget L K = none) :
    Calls Tryz.prog 28 #[.pointer (some ⟨m, 0, none⟩), .int .i64 t, .slice A n c] W fun e W' => e = .returned dv0 ∧ Below W.heap.size W W' := by
  have hb0 := (Below.refl W.heap.size W).alloc (Nat.le_refl _) (.cells #[.bool false, .int .i64 0, .int .i64 0, .int .i64 0, .bool false] 62)
  have HB0 := Lib.hid hb0
  have hk := rkey9_walk t A n c f _ (hl.below hb0) hn
  unfold KeyPost at hk
  rw [hK] at hk
  have HK := Lib.hid hk
  have HRw := Lib.hid (fun (W1 : World) (hb : Below W.heap.size W W1) => rrow_walk w W1 m L R K ⟨#[]⟩ (h.below hb) hr hN (by rw [he]; rfl) (by decide) okN_nil)
  have r0 : (W.alloc (.cells #[.bool false, .int .i64 0, .int .i64 0, .int .i64 0, .bool false] 62)).heap[W.heap.size]? = some (.cells #[.bool false, .int .i64 0, .int .i64 0, .int .i64 0, .bool false] 62 (0, 0)) := heap_alloc_new _ _
  have R0 := Lib.hid r0
  have Z0 := Lib.hid (hp_lt r0)
  clear h hl hb0 r0 he hK hk hn hr hN
  unfold dv0
  go_enter Tryz.func28, Tryz.ntmps28
  go_wp2_with (first
    | (go_at_call 54; refine (HRw.out w1 HB1.out).mono ?_; rintro e w2 ⟨⟨A2, C2, rfl, _⟩, hb2⟩; have HB2 := Lib.hid (HB1.out.trans (hb2.mono HB1.out.size)); have r2 := (hb2.block W.heap.size (Nat.lt_of_lt_of_le Z0.out Z1.out)).trans R1.out; have c0 := (hp_cell (i := 0) r2).trans rfl; have g0 := hp_free (i := 0) r2; have c1 := (hp_cell (i := 1) r2).trans rfl; have g1 := hp_free (i := 1) r2; have c2 := (hp_cell (i := 2) r2).trans rfl; have g2 := hp_free (i := 2) r2; have c3 := (hp_cell (i := 3) r2).trans rfl; have g3 := hp_free (i := 3) r2; have c4 := (hp_cell (i := 4) r2).trans rfl; have g4 := hp_free (i := 4) r2; have Z2 := Lib.hid (hp_lt r2); clear hb2 r2)
    | (go_at_call 43; refine HK.out.mono ?_; rintro e w1 ⟨rfl, hb1⟩; have HB1 := Lib.hid (HB0.out.trans (hb1.mono HB0.out.size)); have R1 := Lib.hid ((hb1.block W.heap.size Z0.out).trans R0.out); have Z1 := Lib.hid hb1.size; clear hb1))
  refine bodyPost_ret (v := .agg #[.bool false, .int .i64 0, .int .i64 0, .int .i64 0, .bool false]) (by simp [results, Tryz.results28, go_sem, c0, c1, c2, c3, c4]) rfl ⟨rfl, ?_⟩
  exact ((((HB2.out.setCell (Nat.le_refl _) _).setCell (Nat.le_refl _) _).setCell (Nat.le_refl _) _).setCell (Nat.le_refl _) _).setCell (Nat.le_refl _) _
set_option maxRecDepth 100000 in
set_option maxHeartbeats 2000000 in
theorem rdget_yes (w W : World) (m : Nat) (L : SL) (R : List Ch) (t : Int) (A : Option Addr) (n c : Nat) (f : Nat → Int) (K : ByteArray) (hK : keyStr t f n = K) (h : DS w W m L R) (hl : Il W A n f) (hn : n ≤ 100) (hr : Rising (skeys L)) (hN : L.length ≤ 1000000) (v : DV) (hv : v.ok) (he : sget L K = some v.row) :
    Calls Tryz.prog 28 #[.pointer (some ⟨m, 0, none⟩), .int .i64 t, .slice A n c] W fun e W' => e = .returned v.val ∧ Below W.heap.size W W' := by
  have h5 := rowF_in hv
  have h40 : v.row.size = 40 := rowV_size _ 5
  have hb0 := (Below.refl W.heap.size W).alloc (Nat.le_refl _) (.cells #[.bool false, .int .i64 0, .int .i64 0, .int .i64 0, .bool false] 62)
  have HB0 := Lib.hid hb0
  have hk := rkey9_walk t A n c f _ (hl.below hb0) hn
  unfold KeyPost at hk
  rw [hK] at hk
  have HK := Lib.hid hk
  have hrow := fun (W1 : World) (hb : Below W.heap.size W W1) => rrow_walk w W1 m L R K v.row (h.below hb) hr hN (by rw [he]; rfl) (by omega) (okN_row h5)
  rw [h40] at hrow
  have HRw := Lib.hid (fun (W1 : World) (hb : Below W.heap.size W W1) => (hrow W1 hb).mono fun e W' hp => (show (∃ g o C, e = .returned (.slice (some ⟨g, o, none⟩) 5 C) ∧ ∀ i, i < 5 → W'.cell? ⟨g, o + i, none⟩ = some (.int .i64 (rowF v.h v.n v.x v.a v.m i))) ∧ Below W1.heap.size W1 W' from by
    obtain ⟨⟨A2, C2, he2, hil⟩, hb2⟩ := hp
    obtain ⟨g, o, rfl, _, hcc⟩ := hil.2 (by decide)
    refine ⟨⟨g, o, C2, he2, fun i hi => ?_⟩, hb2⟩
    rw [hcc i hi, show chv v.row i = rowF v.h v.n v.x v.a v.m i from chv_row h5 hi]))
  have r0 : (W.alloc (.cells #[.bool false, .int .i64 0, .int .i64 0, .int .i64 0, .bool false] 62)).heap[W.heap.size]? = some (.cells #[.bool false, .int .i64 0, .int .i64 0, .int .i64 0, .bool false] 62 (0, 0)) := heap_alloc_new _ _
  have R0 := Lib.hid r0
  have Z0 := Lib.hid (hp_lt r0)
  obtain ⟨vh, vn, vx, va, vm⟩ := v
  unfold DV.val dval
  simp only at HRw ⊢
  clear h hl hb0 r0 he hK hk hn hr hN h5 h40 hrow hv
  cases vh <;> cases vm
  all_goals
    go_enter Tryz.func28, Tryz.ntmps28
    go_upto_region 4 with (first
      | (go_at_call 54; refine (HRw.out w1 HB1.out).mono ?_; rintro e w2 ⟨⟨g, o, C2, rfl, hcc⟩, hb2⟩; have HB2 := Lib.hid (HB1.out.trans (hb2.mono HB1.out.size)); have r2 := (hb2.block W.heap.size (Nat.lt_of_lt_of_le Z0.out Z1.out)).trans R1.out; have c0 := (hp_cell (i := 0) r2).trans rfl; have g0 := hp_free (i := 0) r2; have c1 := (hp_cell (i := 1) r2).trans rfl; have g1 := hp_free (i := 1) r2; have c2 := (hp_cell (i := 2) r2).trans rfl; have g2 := hp_free (i := 2) r2; have c3 := (hp_cell (i := 3) r2).trans rfl; have g3 := hp_free (i := 3) r2; have c4 := (hp_cell (i := 4) r2).trans rfl; have g4 := hp_free (i := 4) r2; have Z2 := Lib.hid (hp_lt r2); have x0 := hcc 0 (by omega); have x1 := hcc 1 (by omega); have x2 := hcc 2 (by omega); have x3 := hcc 3 (by omega); have x4 := hcc 4 (by omega); simp only [rowF, if_true, Bool.false_eq_true, if_false, Nat.add_zero] at x0 x1 x2 x3 x4; clear hb2 r2 hcc)
      | (go_at_call 43; refine HK.out.mono ?_; rintro e w1 ⟨rfl, hb1⟩; have HB1 := Lib.hid (HB0.out.trans (hb1.mono HB0.out.size)); have R1 := Lib.hid ((hb1.block W.heap.size Z0.out).trans R0.out); have Z1 := Lib.hid hb1.size; clear hb1))
    go_still_tail 18, (by kernel_rfl)
    go_wp2
  · refine bodyPost_ret (v := .agg #[.bool false, .int .i64 vn, .int .i64 vx, .int .i64 va, .bool false]) (by simp [results, Tryz.results28, go_sem, c0, c1, c2, c3, c4]) rfl ⟨rfl, ?_⟩
    exact ((((((HB2.out.setCell (Nat.le_refl _) _).setCell (Nat.le_refl _) _).setCell (Nat.le_refl _) _).setCell (Nat.le_refl _) _).setCell (Nat.le_refl _) _)).drew
  · refine bodyPost_ret (v := .agg #[.bool false, .int .i64 vn, .int .i64 vx, .int .i64 va, .bool true]) (by simp [results, Tryz.results28, go_sem, c0, c1, c2, c3, c4]) rfl ⟨rfl, ?_⟩
    exact ((((((HB2.out.setCell (Nat.le_refl _) _).setCell (Nat.le_refl _) _).setCell (Nat.le_refl _) _).setCell (Nat.le_refl _) _).setCell (Nat.le_refl _) _)).drew
  · refine bodyPost_ret (v := .agg #[.bool true, .int .i64 vn, .int .i64 vx, .int .i64 va, .bool false]) (by simp [results, Tryz.results28, go_sem, c0, c1, c2, c3, c4]) rfl ⟨rfl, ?_⟩
    exact ((((((HB2.out.setCell (Nat.le_refl _) _).setCell (Nat.le_refl _) _).setCell (Nat.le_refl _) _).setCell (Nat.le_refl _) _).setCell (Nat.le_refl _) _)).drew
  · refine bodyPost_ret (v := .agg #[.bool true, .int .i64 vn, .int .i64 vx, .int .i64 va, .bool true]) (by simp [results, Tryz.results28, go_sem, c0, c1, c2, c3, c4]) rfl ⟨rfl, ?_⟩
    exact ((((((HB2.out.setCell (Nat.le_refl _) _).setCell (Nat.le_refl _) _).setCell (Nat.le_refl _) _).setCell (Nat.le_refl _) _).setCell (Nat.le_refl _) _)).drew
theorem rdget_at (w W : World) (m : Nat) (L : SL) (R : List Ch) (t : Int) (A : Option Addr) (n c : Nat) (f : Nat → Int) (K : ByteArray) (hK : keyStr t f n = K) (h : DS w W m L R) (hl : Il W A n f) (hn : n ≤ 100) (hr : Rising (skeys L)) (hN : L.length ≤ 1000000) (v : DV) (hv : v.ok) (he : DAt L K v) :
    Calls Tryz.prog 28 #[.pointer (some ⟨m, 0, none⟩), .int .i64 t, .slice A n c] W fun e W' => e = .returned v.val ∧ Below W.heap.size W W' := by
  rcases he with ⟨h1, h2⟩ | h1
  · subst h2
    exact rdget_none w W m L R t A n c f K hK h hl hn hr hN h1
  · exact rdget_yes w W m L R t A n c f K hK h hl hn hr hN v hv h1
end Go.Proofs.YtoaepgiajooecaaGreat

namespace Go.Proofs.YtoaepgiajooecaaGreat
open Go.RowKit Go.Maps Go.Sort

theorem ba_nil_yes {k : ByteArray} (h : k = ⟨#[]⟩) : k.toList.isEmpty = true := by
  subst h
  rw [Lib.toList_data]
  rfl
def g3el (o p u : Int) : Nat → Int
  | 0 => o
  | 1 => p
  | _ => u
theorem g3idx (o p u : Int) (j : Nat) (hj : j < 3) (w : World) : (Instr.index 89 (.agg #[.int .i64 o, .int .i64 p, .int .i64 u]) (.int .i64 (j : Nat))).run Tryz.prog w = .ok (.int .i64 (g3el o p u j)) w := by
  rcases (by omega : j = 0 ∨ j = 1 ∨ j = 2) with rfl | rfl | rfl <;> kernel_rfl
set_option maxRecDepth 100000 in
set_option maxHeartbeats 1000000 in
theorem rdset_nokey (w W : World) (m : Nat) (L : SL) (R : List Ch) (t : Int) (A : Option Addr) (n c : Nat) (f : Nat → Int) (K : ByteArray) (hK : keyStr t f n = K) (h : DS w W m L R) (hl : Il W A n f) (hn : n ≤ 100) (x blk wait : Int) (hK0 : K = ⟨#[]⟩) :
    Calls Tryz.prog 24 #[.pointer (some ⟨m, 0, none⟩), .int .i64 t, .slice A n c, .int .i64 x, .int .i64 blk, .int .i64 wait] W fun e W' => e = .returned (.int .i64 2) ∧ DSTo w W W' m L R := by
  have hk := rkey9_walk t A n c f _ hl hn
  unfold KeyPost at hk
  rw [hK] at hk
  have HK := Lib.hid hk
  have HD := Lib.hid (fun (W1 : World) (hb : Below W.heap.size W W1) => DSTo.of_below h hb)
  have hKe := ba_nil_yes hK0
  clear h hl hk hK hn hK0
  go_enter Tryz.func24, Tryz.ntmps24
  go_wp2_with (go_at_call 43; refine HK.out.mono ?_; rintro e w1 ⟨rfl, hb1⟩; have HB1 := Lib.hid hb1; clear hb1)
  go_ret
  exact ⟨rfl, HD.out _ HB1.out⟩
set_option maxRecDepth 100000 in
set_option maxHeartbeats 1000000 in
theorem rdset_out (w W : World) (m : Nat) (L : SL) (R : List Ch) (t : Int) (A : Option Addr) (n c : Nat) (f : Nat → Int) (K : ByteArray) (hK : keyStr t f n = K) (h : DS w W m L R) (hl : Il W A n f) (hn : n ≤ 100) (x blk wait : Int) (hK0 : K ≠ ⟨#[]⟩) (hbad : ¬ ∀ j, j < 3 → dIn (g3el x blk wait j) = true) :
    Calls Tryz.prog 24 #[.pointer (some ⟨m, 0, none⟩), .int .i64 t, .slice A n c, .int .i64 x, .int .i64 blk, .int .i64 wait] W fun e W' => e = .returned (.int .i64 2) ∧ DSTo w W W' m L R := by
  have hk := rkey9_walk t A n c f _ hl hn
  unfold KeyPost at hk
  rw [hK] at hk
  have HK := Lib.hid hk
  have HD := Lib.hid (fun (W1 : World) (hb : Below W.heap.size W W1) => DSTo.of_below h hb)
  have hKe := ba_nil hK0
  have HBad := Lib.hid hbad
  clear h hl hk hK hn hK0 hbad
  go_enter Tryz.func24, Tryz.ntmps24
  go_wp2_with (go_at_call 43; refine HK.out.mono ?_; rintro e w1 ⟨rfl, hb1⟩; have HB1 := Lib.hid hb1; clear hb1)
  go_loopw [26] (fun i wr => ∃ j : Nat, j ≤ 3 ∧ i = .int .i64 (j : Nat) ∧ wr = w1 ∧ ∀ i', i' < j → dIn (g3el x blk wait i') = true) (fun i _ => 3 - (intOf i).toNat)
  case atStart => exact ⟨0, by omega, rfl, rfl, fun i' h => absurd h (by omega)⟩
  case round =>
    obtain ⟨j, hj, rfl, rfl, hall⟩ := hrel
    have HA := Lib.hid hall
    by_cases h3 : j < 3
    · have p1 : (j : Int) < 3 := by omega
      have hx := g3idx x blk wait j h3
      have hA2 := fun hy : dIn (g3el x blk wait j) = true => fun i' (hi' : i' < j + 1) => (show dIn (g3el x blk wait i') = true from by
        by_cases he : i' = j
        · rw [he]; exact hy
        · exact HA.out i' (by omega))
      obtain ⟨y, hy⟩ : ∃ y, y = g3el x blk wait j := ⟨_, rfl⟩
      rw [← hy] at hx hA2
      have HA2 := Lib.hid hA2
      clear hy hall hA2
      by_cases h0 : y < 0
      · go_wp2
        go_ret
        exact ⟨rfl, HD.out _ HB1.out⟩
      · by_cases h1 : 1099511627776 < y
        · go_wp2
          go_ret
          exact ⟨rfl, HD.out _ HB1.out⟩
        · have HY := Lib.hid (show dIn y = true from decide_eq_true (by omega))
          go_wp2
          exact ⟨⟨j + 1, by omega, by simp, by trivial, HA2.out HY.out⟩, by simp [intOf]; omega⟩
    · exact absurd (fun i' hi' => HA.out i' (by omega)) HBad.out
/-- the value's row, as numbers -/
theorem il5 (W : World) (T : TypeId) (h : Bool) (n x a : Int) (m : Bool) (hn : n < 2 ^ 63) (hx : x < 2 ^ 63) (ha : a < 2 ^ 63) : Il (W.alloc (.cells #[.int .i64 (if h then 1 else 0), .int .i64 n, .int .i64 (if m then 1 else 0), .int .i64 x, .int .i64 a] T)) (some ⟨W.heap.size, 0, none⟩) 5 (rowF h n x a m) := by
  refine ⟨fun i => ?_, fun _ => ⟨W.heap.size, 0, rfl, by simp, fun i hi => ?_⟩⟩
  · rcases i with _ | _ | _ | _ | i
    · show (if h then (1 : Int) else 0) < 2 ^ 63
      split <;> decide
    · exact hn
    · show (if m then (1 : Int) else 0) < 2 ^ 63
      split <;> decide
    · exact hx
    · exact ha
  · refine (World.cell?_alloc_at _ _ _ _ (by simp)).trans ?_
    rcases (by omega : i = 0 ∨ i = 1 ∨ i = 2 ∨ i = 3 ∨ i = 4) with rfl | rfl | rfl | rfl | rfl <;> rfl
theorem set5 {w : World} {g : Nat} {u0 u1 u2 u3 u4 : Value} {T : TypeId} {fr : Nat × Nat} (v0 v1 v2 v3 v4 : Value) (h : w.heap[g]? = some (.cells #[u0, u1, u2, u3, u4] T fr))
    {W : World} (hW : W = ((((w.setCell ⟨g, 0, none⟩ v0).setCell ⟨g, 1, none⟩ v1).setCell ⟨g, 2, none⟩ v2).setCell ⟨g, 3, none⟩ v3).setCell ⟨g, 4, none⟩ v4) :
    W.heap[g]? = some (.cells #[v0, v1, v2, v3, v4] T fr) := by
  subst hW
  have := heap_setCell_row (o := 4) (heap_setCell_row (o := 3) (heap_setCell_row (o := 2) (heap_setCell_row (o := 1) (heap_setCell_row (o := 0) h v0) v1) v2) v3) v4
  simpa using this
set_option maxRecDepth 100000 in
set_option maxHeartbeats 4000000 in
theorem rdset_core (w W : World) (m : Nat) (L : SL) (R : List Ch) (t : Int) (A : Option Addr) (n c : Nat) (f : Nat → Int) (K : ByteArray) (hK : keyStr t f n = K) (h : DS w W m L R) (hl : Il W A n f) (hn : n ≤ 100) (x blk wait y : Int) (hK0 : K ≠ ⟨#[]⟩)
    (hx : 0 ≤ x ∧ x ≤ 1099511627776) (hb : 0 ≤ blk ∧ blk ≤ 1099511627776) (hw : 0 ≤ wait ∧ wait ≤ 1099511627776) (hy : blk + wait = y) (hr : Rising (skeys L)) (hN : L.length < 1000000) (hR : R.length < 1000000)
    (h0 : Bool) (n0 x0 a0 : Int) (m0 : Bool) (h1 : Bool) (n1 x1 a1 : Int) (m1 : Bool) (h2 : Bool) (n2 x2 a2 : Int) (m2 : Bool)
    (hv0 : DV.ok ⟨h0, n0, x0, a0, m0⟩) (he : DAt L K ⟨h0, n0, x0, a0, m0⟩) (hv2 : DV.ok ⟨h2, n2, x2, a2, m2⟩)
    (hS1 : ∀ w, Calls Tryz.prog 50 #[DV.val ⟨h0, n0, x0, a0, m0⟩, .int .i64 blk] w fun e w' => e = .returned (DV.val ⟨h1, n1, x1, a1, m1⟩) ∧ Below w.heap.size w w')
    (hS2 : ∀ w, Calls Tryz.prog 50 #[DV.val ⟨h1, n1, x, y, true⟩, .int .i64 blk] w fun e w' => e = .returned (DV.val ⟨h2, n2, x2, a2, m2⟩) ∧ Below w.heap.size w w') :
    Calls Tryz.prog 24 #[.pointer (some ⟨m, 0, none⟩), .int .i64 t, .slice A n c, .int .i64 x, .int .i64 blk, .int .i64 wait] W fun e W' => e = .returned (.int .i64 0) ∧ DSTo w W W' m (setE L K (rowV (rowF h2 n2 x2 a2 m2) 5)) (setR L R K (rowV (rowF h2 n2 x2 a2 m2) 5)) := by
  have hk := rkey9_walk t A n c f _ hl hn
  unfold KeyPost at hk
  rw [hK] at hk
  have HK := Lib.hid hk
  have HG := Lib.hid (fun (W1 : World) (hb : Below W.heap.size W W1) => rdget_at w W1 m L R t A n c f K hK (h.below hb) (hl.below hb) hn hr (by omega) _ hv0 he)
  have HP := Lib.hid (fun (W1 : World) (hb : Below W.heap.size W W1) (B : Option Addr) (hil : Il W1 B 5 (rowF h2 n2 x2 a2 m2)) => rsetRow_walk w W1 m L R K B 5 5 _ (h.below hb) hil (by omega) (by omega) (fun i hi => (rowF_in hv2 i hi).1) hr hN hR)
  have HPr := Lib.hid (fun (W1 W2 : World) (hb : Below W.heap.size W W1) (h' : DSTo w W1 W2 m (setE L K (rowV (rowF h2 n2 x2 a2 m2) 5)) (setR L R K (rowV (rowF h2 n2 x2 a2 m2) 5))) => DSTo.pre h hb h')
  have HIl := Lib.hid (fun (W1 : World) (T : TypeId) => il5 W1 T h2 n2 x2 a2 m2 hv2.n.2 hv2.x.2 hv2.a.2)
  have hKe := ba_nil hK0
  have HS1 := Lib.hid hS1
  have HS2 := Lib.hid hS2
  have HB2a := Lib.hid (fun w => dbit_walk h2 w)
  have HB2b := Lib.hid (fun w => dbit_walk m2 w)
  obtain ⟨i1, e1⟩ : ∃ i : Int, i = if h2 then 1 else 0 := ⟨_, rfl⟩
  obtain ⟨i2, e2⟩ : ∃ i : Int, i = if m2 then 1 else 0 := ⟨_, rfl⟩
  rw [← e1] at HB2a HIl
  rw [← e2] at HB2b HIl
  have HAl := Lib.hid (show ∀ j, j < 3 → (¬ g3el x blk wait j < 0) ∧ ¬ 1099511627776 < g3el x blk wait j from fun j hj => by
    rcases (by omega : j = 0 ∨ j = 1 ∨ j = 2) with rfl | rfl | rfl
    · show ¬ x < 0 ∧ ¬ 1099511627776 < x; omega
    · show ¬ blk < 0 ∧ ¬ 1099511627776 < blk; omega
    · show ¬ wait < 0 ∧ ¬ 1099511627776 < wait; omega)
  have y0 : 0 ≤ blk := hb.1
  have y1 : blk ≤ 1099511627776 := hb.2
  have y2 : 0 ≤ wait := hw.1
  have y3 : wait ≤ 1099511627776 := hw.2
  obtain ⟨LL, hLL⟩ : ∃ z, z = setE L K (rowV (rowF h2 n2 x2 a2 m2) 5) := ⟨_, rfl⟩
  obtain ⟨RR, hRR⟩ : ∃ z, z = setR L R K (rowV (rowF h2 n2 x2 a2 m2) 5) := ⟨_, rfl⟩
  rw [← hLL, ← hRR] at HP HPr ⊢
  clear h hl hk hK hn hK0 hx hb hw hr hN hR hv0 he hv2 hS1 hS2 hLL hRR e1 e2
  subst hy
  unfold DV.val at HG
  unfold DV.val at HS1 HS2
  unfold dval at HG HS1 HS2
  go_enter Tryz.func24, Tryz.ntmps24
  go_wp2_with (go_at_call 43; refine HK.out.mono ?_; rintro e w1 ⟨rfl, hb1⟩; have HB1 := Lib.hid hb1; clear hb1)
  go_loopw [26] (fun i wr => ∃ j : Nat, j ≤ 3 ∧ i = .int .i64 (j : Nat) ∧ wr = w1) (fun i _ => 3 - (intOf i).toNat)
  case atStart => exact ⟨0, by omega, rfl, rfl⟩
  case round =>
    obtain ⟨j, hj, rfl, rfl⟩ := hrel
    by_cases h3 : j < 3
    · have p1 : (j : Int) < 3 := by omega
      have hx := g3idx x blk wait j h3
      have hyy := HAl.out j h3
      obtain ⟨y, hy⟩ : ∃ y, y = g3el x blk wait j := ⟨_, rfl⟩
      rw [← hy] at hx hyy
      have g1 := hyy.1
      have g2 := hyy.2
      clear hy hyy
      go_wp2
      exact ⟨⟨j + 1, by omega, by simp, by trivial⟩, by simp [intOf]; omega⟩
    · obtain rfl : j = 3 := by omega
      go_upto_region 15 with (first
        | (go_at_call 50; have g8 := HB8; clear g8; with_reducible refine (HS2.out _).mono ?_; rintro e w9 ⟨rfl, hb9⟩; have rb := (hb9.block w8.heap.size (by simp)).trans (heap_alloc_new w8 (.cells #[.bool h1, .int .i64 n1, .int .i64 x, .int .i64 (blk + wait), .bool true] 62)); have b0 := (hp_cell (i := 0) rb).trans rfl; have g0 := hp_free (i := 0) rb; have b1 := (hp_cell (i := 1) rb).trans rfl; have g1 := hp_free (i := 1) rb; have b2 := (hp_cell (i := 2) rb).trans rfl; have g2 := hp_free (i := 2) rb; have b3 := (hp_cell (i := 3) rb).trans rfl; have g3 := hp_free (i := 3) rb; have b4 := (hp_cell (i := 4) rb).trans rfl; have g4 := hp_free (i := 4) rb; have hbg := HB8.out.alloc HB8.out.size (.cells #[.bool h1, .int .i64 n1, .int .i64 x, .int .i64 (blk + wait), .bool true] 62); have HB9 := Lib.hid (hbg.trans (hb9.mono hbg.size)); have Y9 := hp_lt rb; have HRb := Lib.hid rb; clear hb9 hbg rb)
        | (go_at_call 50; with_reducible refine (HS1.out _).mono ?_; rintro e w8 ⟨rfl, hb8⟩; have HB8 := Lib.hid (HB7.out.trans (hb8.mono HB7.out.size)); clear hb8)
        | (go_at_call 28; refine (HG.out wr HB1.out).mono ?_; rintro e w7 ⟨rfl, hb7⟩; have HB7 := Lib.hid (HB1.out.trans (hb7.mono HB1.out.size)); clear hb7))
      obtain ⟨WX, hWX⟩ : ∃ WX, WX = ((((w9.setCell ⟨w8.heap.size, 0, none⟩ (.bool h2)).setCell ⟨w8.heap.size, 1, none⟩ (.int .i64 n2)).setCell ⟨w8.heap.size, 2, none⟩ (.int .i64 x2)).setCell ⟨w8.heap.size, 3, none⟩ (.int .i64 a2)).setCell ⟨w8.heap.size, 4, none⟩ (.bool m2) := ⟨_, rfl⟩
      have hs5 := set5 _ _ _ _ _ HRb.out hWX
      have HBX := Lib.hid (show Below W.heap.size W WX from by rw [hWX]; exact ((((HB9.out.setCell HB8.out.size _).setCell HB8.out.size _).setCell HB8.out.size _).setCell HB8.out.size _).setCell HB8.out.size _)
      rw [← hWX]
      clear b0 b1 b2 b3 b4 g0 g1 g2 g3 g4 Y9 hWX HRb
      obtain ⟨B, hB⟩ : ∃ B, B = w8.heap.size := ⟨_, rfl⟩
      rw [← hB] at hs5 ⊢
      have HX5 := Lib.hid hs5
      clear hB hs5
      refine wp_region_held_drew (S := fun w' => w'.heap[B]? = some (.cells #[.bool h2, .int .i64 n2, .int .i64 x2, .int .i64 a2, .bool m2] 62 (0, 0))) (by kernel_rfl) ?_ (fun hHeld => ?_)
      · exact HX5.out
      have HZ0 := Lib.hid (And.intro (HBX.out.drew) (show WX.drew.heap[B]? = _ from HX5.out))
      clear HBX HX5
      refine wpAnyH_take (i := 0) (v := ?_) rfl (by kernel_rfl) (by kernel_rfl) (by kernel_rfl) (fun _ _ _ h => h) (Or.inl ⟨by kernel_rfl, ?_⟩) (by with_reducible assumption) ?_
      rotate_left
      · intro wz hSw
        (try dsimp only at hSw)
        go_simp
        (try with_reducible rfl)
      show wpAnyH _ _ _ _ _ _ _ (Act.put _ (some 52) _) _
      (try simp only [Act.put, List.setIfInBounds_toArray, List.set_cons_zero, List.set_cons_succ])
      refine wpAnyH_take (i := 1) (v := ?_) rfl (by kernel_rfl) (by kernel_rfl) (by kernel_rfl) (fun _ _ _ h => h) (Or.inl ⟨by kernel_rfl, ?_⟩) (by with_reducible assumption) ?_
      rotate_left
      · intro wz hSw
        (try dsimp only at hSw)
        go_simp
        (try with_reducible rfl)
      show wpAnyH _ _ _ _ _ _ _ (Act.put _ (some 53) _) _
      (try simp only [Act.put, List.setIfInBounds_toArray, List.set_cons_zero, List.set_cons_succ])
      refine wpAnyH_take (i := 2) (v := ?_) rfl (by kernel_rfl) (by kernel_rfl) (by kernel_rfl) (fun _ _ _ h => h) (Or.inl ⟨by kernel_rfl, ?_⟩) (by with_reducible assumption) ?_
      rotate_left
      · intro wz hSw
        (try dsimp only at hSw)
        go_simp
        (try with_reducible rfl)
      show wpAnyH _ _ _ _ _ _ _ (Act.put _ (some 54) _) _
      (try simp only [Act.put, List.setIfInBounds_toArray, List.set_cons_zero, List.set_cons_succ])
      refine wpAnyH_take (i := 3) (v := .bool h2) rfl (by kernel_rfl) (by kernel_rfl) (by kernel_rfl) (fun _ _ _ h => h) (Or.inl ⟨by kernel_rfl, ?_⟩) (by with_reducible assumption) ?_
      · intro wz hSw
        (try dsimp only at hSw)
        have y0 := (hp_cell (i := 0) hSw).trans rfl
        go_simp
        (try with_reducible rfl)
      show wpAnyH _ _ _ _ _ _ _ (Act.put _ (some 55) _) _
      (try simp only [Act.put, List.setIfInBounds_toArray, List.set_cons_zero, List.set_cons_succ])
      refine wpAnyH_take (i := 5) (v := ?_) rfl (by kernel_rfl) (by kernel_rfl) (by kernel_rfl) (fun _ _ _ h => h) (Or.inl ⟨by kernel_rfl, ?_⟩) (by with_reducible assumption) ?_
      rotate_left
      · intro wz hSw
        (try dsimp only at hSw)
        go_simp
        (try with_reducible rfl)
      show wpAnyH _ _ _ _ _ _ _ (Act.put _ (some 57) _) _
      (try simp only [Act.put, List.setIfInBounds_toArray, List.set_cons_zero, List.set_cons_succ])
      refine wpAnyH_take (i := 6) (v := .int .i64 n2) rfl (by kernel_rfl) (by kernel_rfl) (by kernel_rfl) (fun _ _ _ h => h) (Or.inl ⟨by kernel_rfl, ?_⟩) (by with_reducible assumption) ?_
      · intro wz hSw
        (try dsimp only at hSw)
        have y0 := (hp_cell (i := 1) hSw).trans rfl
        go_simp
        (try with_reducible rfl)
      show wpAnyH _ _ _ _ _ _ _ (Act.put _ (some 58) _) _
      (try simp only [Act.put, List.setIfInBounds_toArray, List.set_cons_zero, List.set_cons_succ])
      refine wpAnyH_take (i := 7) (v := ?_) rfl (by kernel_rfl) (by kernel_rfl) (by kernel_rfl) (fun _ _ _ h => h) (Or.inl ⟨by kernel_rfl, ?_⟩) (by with_reducible assumption) ?_
      rotate_left
      · intro wz hSw
        (try dsimp only at hSw)
        go_simp
        (try with_reducible rfl)
      show wpAnyH _ _ _ _ _ _ _ (Act.put _ (some 59) _) _
      (try simp only [Act.put, List.setIfInBounds_toArray, List.set_cons_zero, List.set_cons_succ])
      refine wpAnyH_take (i := 8) (v := .bool m2) rfl (by kernel_rfl) (by kernel_rfl) (by kernel_rfl) (fun _ _ _ h => h) (Or.inl ⟨by kernel_rfl, ?_⟩) (by with_reducible assumption) ?_
      · intro wz hSw
        (try dsimp only at hSw)
        have y0 := (hp_cell (i := 4) hSw).trans rfl
        go_simp
        (try with_reducible rfl)
      show wpAnyH _ _ _ _ _ _ _ (Act.put _ (some 60) _) _
      (try simp only [Act.put, List.setIfInBounds_toArray, List.set_cons_zero, List.set_cons_succ])
      refine wpAnyH_take (i := 10) (v := ?_) rfl (by kernel_rfl) (by kernel_rfl) (by kernel_rfl) (fun _ _ _ h => h) (Or.inl ⟨by kernel_rfl, ?_⟩) (by with_reducible assumption) ?_
      rotate_left
      · intro wz hSw
        (try dsimp only at hSw)
        go_simp
        (try with_reducible rfl)
      show wpAnyH _ _ _ _ _ _ _ (Act.put _ (some 62) _) _
      (try simp only [Act.put, List.setIfInBounds_toArray, List.set_cons_zero, List.set_cons_succ])
      refine wpAnyH_take (i := 11) (v := .int .i64 x2) rfl (by kernel_rfl) (by kernel_rfl) (by kernel_rfl) (fun _ _ _ h => h) (Or.inl ⟨by kernel_rfl, ?_⟩) (by with_reducible assumption) ?_
      · intro wz hSw
        (try dsimp only at hSw)
        have y0 := (hp_cell (i := 2) hSw).trans rfl
        go_simp
        (try with_reducible rfl)
      show wpAnyH _ _ _ _ _ _ _ (Act.put _ (some 63) _) _
      (try simp only [Act.put, List.setIfInBounds_toArray, List.set_cons_zero, List.set_cons_succ])
      refine wpAnyH_take (i := 12) (v := ?_) rfl (by kernel_rfl) (by kernel_rfl) (by kernel_rfl) (fun _ _ _ h => h) (Or.inl ⟨by kernel_rfl, ?_⟩) (by with_reducible assumption) ?_
      rotate_left
      · intro wz hSw
        (try dsimp only at hSw)
        go_simp
        (try with_reducible rfl)
      show wpAnyH _ _ _ _ _ _ _ (Act.put _ (some 64) _) _
      (try simp only [Act.put, List.setIfInBounds_toArray, List.set_cons_zero, List.set_cons_succ])
      refine wpAnyH_take (i := 13) (v := .int .i64 a2) rfl (by kernel_rfl) (by kernel_rfl) (by kernel_rfl) (fun _ _ _ h => h) (Or.inl ⟨by kernel_rfl, ?_⟩) (by with_reducible assumption) ?_
      · intro wz hSw
        (try dsimp only at hSw)
        have y0 := (hp_cell (i := 3) hSw).trans rfl
        go_simp
        (try with_reducible rfl)
      show wpAnyH _ _ _ _ _ _ _ (Act.put _ (some 65) _) _
      (try simp only [Act.put, List.setIfInBounds_toArray, List.set_cons_zero, List.set_cons_succ])
      refine wpAnyH_ready (rs := [4]) (by kernel_rfl) (by simp) ?_
      refine AllReadyH.cons rfl (fun K hK => ?_) AllReadyH.nil
      clear hHeld
      go_simp
      go_at_call 52
      refine (HB2a.out _).mono ?_
      rintro e z1 ⟨rfl, hb⟩
      have HZ1 := Lib.hid (And.intro (HZ0.out.1.trans (hb.mono HZ0.out.1.size)) ((hb.block _ (hp_lt HZ0.out.2)).trans HZ0.out.2))
      clear hb
      go_wp2_with fail
      refine hK.out _ _ ?_ (fun hHeld => ?_)
      · exact HZ1.out.2
      clear hK K
      (try simp only [Act.put, List.setIfInBounds_toArray, List.set_cons_zero, List.set_cons_succ])
      refine wpAnyH_ready (rs := [9]) (by kernel_rfl) (by simp) ?_
      refine AllReadyH.cons rfl (fun K hK => ?_) AllReadyH.nil
      clear hHeld
      go_simp
      go_at_call 52
      refine (HB2b.out _).mono ?_
      rintro e z2 ⟨rfl, hb⟩
      have HZ2 := Lib.hid (And.intro (HZ1.out.1.trans (hb.mono HZ1.out.1.size)) ((hb.block _ (hp_lt HZ1.out.2)).trans HZ1.out.2))
      clear hb
      go_wp2_with fail
      refine hK.out _ _ ?_ (fun hHeld => ?_)
      · exact HZ2.out.2
      clear hK K
      (try simp only [Act.put, List.setIfInBounds_toArray, List.set_cons_zero, List.set_cons_succ])
      refine wpAnyH_ready (rs := [14]) (by kernel_rfl) (by simp) ?_
      refine AllReadyH.cons rfl (fun K hK => ?_) AllReadyH.nil
      clear hHeld
      go_simp
      have HZ20 := Lib.hid (And.intro (HZ2.out.1.alloc HZ2.out.1.size (.cells #[.int .i64 i1, .int .i64 n2, .int .i64 i2, .int .i64 x2, .int .i64 a2] 3)) ((heap_alloc_old _ (.cells #[.int .i64 i1, .int .i64 n2, .int .i64 i2, .int .i64 x2, .int .i64 a2] 3) (hp_lt HZ2.out.2)).trans HZ2.out.2))
      go_wp2_with fail
      refine hK.out _ _ ?_ (fun hHeld => ?_)
      · exact HZ20.out.2
      clear hK K
      (try simp only [Act.put, List.setIfInBounds_toArray, List.set_cons_zero, List.set_cons_succ])
      refine wpAnyH_ready (rs := [15]) (by kernel_rfl) (by simp) ?_
      refine AllReadyH.cons rfl (fun K hK => ?_) AllReadyH.nil
      clear hHeld
      go_simp
      go_at_call 51
      refine (HP.out _ HZ20.out.1 _ (HIl.out _ _)).mono ?_
      rintro e w10 ⟨rfl, h10⟩
      have H10 := Lib.hid h10
      have r10 := (h10.keepT ⟨by decide, by decide⟩).2 _ _ _ HZ20.out.2
      clear h10
      go_wp2_with fail
      refine hK.out _ _ ?_ (fun hHeld => ?_)
      · exact r10
      clear hK K
      (try simp only [Act.put, List.setIfInBounds_toArray, List.set_cons_zero, List.set_cons_succ])
      refine wpAnyH_done (by kernel_rfl) ?_ _
      go_wp2_with fail
      go_ret
      exact ⟨rfl, HPr.out _ _ HZ20.out.1 H10.out⟩
end Go.Proofs.YtoaepgiajooecaaGreat

namespace Go.Proofs.YtoaepgiajooecaaGreat
open Go.RowKit Go.Maps Go.Sort

set_option maxRecDepth 100000 in
set_option maxHeartbeats 1000000 in
theorem dset_nokey {w W : World} {b : Nat} {F : List Nat} {L : SL} {q : Nat} {qs : List Value} (hs : SNew w W b F L q qs) (t : Int) (A : Option Addr) (n c : Nat) (f : Nat → Int) (K : ByteArray) (hK : keyStr t f n = K) (hn : n ≤ 100) (hl : Il W A n f) (hK0 : K = ⟨#[]⟩) (x blk wait : Int) :
    Calls Tryz.prog 21 #[.pointer (some ⟨b, 0, none⟩), .int .i64 t, .slice A n c, .int .i64 x, .int .i64 blk, .int .i64 wait] W fun e W' => e = .returned (.int .i64 2) ∧ LiveTo w W W' b F L q := by
  have HM := Lib.hid (made_live b F L q qs W hs.s)
  have HK := Lib.hid (key_is t A n c f K hK W hl hn)
  have HS := Lib.hid (fun (W1 : World) (hb : Below W.heap.size W W1) => hs.same hb)
  have HKe := ba_nil_yes hK0
  clear hs hK hn hl hK0
  go_enter Tryz.func21, Tryz.ntmps21
  go_wp2_with (first
    | (go_at_call 39; with_reducible refine HK.out.mono ?_; rintro e w6 ⟨rfl, hb6⟩; have HB6 := Lib.hid hb6; clear hb6)
    | (go_at_call 18; with_reducible refine HM.out.mono ?_; rintro e w1 ⟨rfl, rfl⟩))
  go_ret
  exact ⟨rfl, HS.out _ HB6.out⟩
theorem setL_le (L : SL) (k v : ByteArray) : (setL L k v).length ≤ L.length + 1 := by
  unfold setL
  split
  · omega
  · unfold sset
    split
    · simp
    · simp; omega
theorem rising_setL {L : SL} (hr : Rising (skeys L)) (k v : ByteArray) : Rising (skeys (setL L k v)) := by
  unfold setL
  split
  · exact hr
  · exact rising_sset hr k v
theorem setR_le (L : SL) (R : List Ch) (k v : ByteArray) : (setR L R k v).length ≤ R.length + 1 := by
  unfold setR
  split
  · omega
  · split <;> simp
/-- a store of delayed numbers -/
structure DM (L : SL) : Prop where
  r : Rising (skeys L)
  v : ∀ K, ∃ v : DV, v.ok ∧ DAt L K v
  e : sget L ⟨#[]⟩ = none
  z : SzOk L
theorem DM.nil : DM [] := ⟨List.Pairwise.nil, fun K => ⟨DV.none, DV.ok_none, .inl ⟨rfl, rfl⟩⟩, rfl, fun p hp => by cases hp⟩
theorem DM.set {L : SL} (h : DM L) {K : ByteArray} (hK : K ≠ ⟨#[]⟩) (hk : K.size ≤ maxLen) (v : DV) (hv : v.ok) : DM (setL L K v.row) := by
  refine ⟨rising_setL h.r _ _, fun K' => ?_, ?_, ?_⟩
  · unfold DAt
    rw [sget_setL]
    by_cases he : K' = K
    · rw [if_pos he]; exact ⟨v, hv, .inr rfl⟩
    · rw [if_neg he]; exact h.v K'
  · rw [sget_setL, if_neg (fun e => hK e.symm)]; exact h.e
  · unfold setL
    split
    · exact h.z
    · exact h.z.sset hk (by show (rowV _ 5).size ≤ maxLen; rw [rowV_size]; decide)
theorem stepD_some (v : DV) (x blk wait : Int) : (stepD v x blk wait).h = true ∨ (stepD v x blk wait).m = true := by
  unfold stepD
  generalize hp : putD v x blk wait = p
  have hm : p.m = true := by rw [← hp]; rfl
  unfold settleD
  split
  · exact .inl rfl
  · exact .inr hm
theorem DAt.same {L : SL} {K : ByteArray} {v : DV} (h : DAt L K v) {x blk wait : Int} (he : (stepD v x blk wait).eqb v = true) : setL L K (stepD v x blk wait).row = L := by
  have e := DV.of_eqb he
  rcases h with ⟨h1, h2⟩ | h1
  · rcases stepD_some v x blk wait with h3 | h3
    · rw [e, h2] at h3; cases h3
    · rw [e, h2] at h3; cases h3
  · unfold setL
    rw [e, if_pos h1]
theorem dIn_all {x blk wait : Int} (h : ∀ j, j < 3 → dIn (g3el x blk wait j) = true) : (0 ≤ x ∧ x ≤ 1099511627776) ∧ (0 ≤ blk ∧ blk ≤ 1099511627776) ∧ (0 ≤ wait ∧ wait ≤ 1099511627776) :=
  ⟨of_decide_eq_true (h 0 (by decide)), of_decide_eq_true (h 1 (by decide)), of_decide_eq_true (h 2 (by decide))⟩
theorem dIn_some {x blk wait : Int} (h : ¬ ∀ j, j < 3 → dIn (g3el x blk wait j) = true) : dIn x = false ∨ dIn x = true ∧ dIn blk = false ∨ dIn x = true ∧ dIn blk = true ∧ dIn wait = false := by
  cases h1 : dIn x with
  | false => exact .inl rfl
  | true =>
    cases h2 : dIn blk with
    | false => exact .inr (.inl ⟨rfl, rfl⟩)
    | true =>
      cases h3 : dIn wait with
      | false => exact .inr (.inr ⟨rfl, rfl, rfl⟩)
      | true =>
        exfalso
        apply h
        intro j hj
        rcases (by omega : j = 0 ∨ j = 1 ∨ j = 2) with rfl | rfl | rfl
        · exact h1
        · exact h2
        · exact h3
theorem LiveTo.le {w W W' : World} {b : Nat} {F : List Nat} {L : SL} {q q' : Nat} (h : LiveTo w W W' b F L q) (hq : q ≤ q') : LiveTo w W W' b F L q' := by
  obtain ⟨F1, q1, qs1, g1, g2, g3⟩ := h
  exact ⟨F1, q1, qs1, g1, by omega, g3⟩
/-- both Sets tell the same and leave the same -/
theorem delay_both (w : World) (b m : Nat) (L : SL) (hM : DM L) (hN : L.length < 900000) (t : Int) (n c : Nat) (f : Nat → Int) (hn : n ≤ 100) (x blk wait : Int) :
    ∃ (er : Int) (L2 : SL) (v2 : DV), v2.ok ∧ DAt L2 (keyStr t f n) v2 ∧ DM L2 ∧ L2.length ≤ L.length + 1 ∧
      (∀ (W : World) (F : List Nat) (q : Nat) (qs : List Value) (A : Option Addr), SNew w W b F L q qs → Il W A n f → q < 900000 →
        Calls Tryz.prog 21 #[.pointer (some ⟨b, 0, none⟩), .int .i64 t, .slice A n c, .int .i64 x, .int .i64 blk, .int .i64 wait] W fun e W' => e = .returned (.int .i64 er) ∧ LiveTo w W W' b F L2 (q + 1)) ∧
      (∀ (W : World) (R : List Ch) (A : Option Addr), DS w W m L R → Il W A n f → R.length < 900000 →
        Calls Tryz.prog 24 #[.pointer (some ⟨m, 0, none⟩), .int .i64 t, .slice A n c, .int .i64 x, .int .i64 blk, .int .i64 wait] W fun e W' => e = .returned (.int .i64 er) ∧ ∃ R', R'.length ≤ R.length + 1 ∧ DSTo w W W' m L2 R') := by
  obtain ⟨v, hv, hat⟩ := hM.v (keyStr t f n)
  have hk : (keyStr t f n).size ≤ maxLen := by have := keyStr_size t f n; unfold maxLen; omega
  by_cases hK : keyStr t f n = ⟨#[]⟩
  · refine ⟨2, L, v, hv, hat, hM, Nat.le_succ _, fun W F q qs A hs hl hq => ?_, fun W R A hd hl hR => ?_⟩
    · exact (dset_nokey hs t A n c f _ rfl hn hl hK x blk wait).mono fun e W' h => ⟨h.1, h.2.le (Nat.le_succ _)⟩
    · exact (rdset_nokey w W m L R t A n c f _ rfl hd hl hn x blk wait hK).mono fun e W' h => ⟨h.1, R, Nat.le_succ _, h.2⟩
  · by_cases hall : ∀ j, j < 3 → dIn (g3el x blk wait j) = true
    · obtain ⟨hx, hb, hw⟩ := dIn_all hall
      have hv2 := stepD_ok hv hx hb hw
      refine ⟨0, setL L (keyStr t f n) (stepD v x blk wait).row, stepD v x blk wait, hv2, .inr (by rw [sget_setL, if_pos rfl]), hM.set hK hk _ hv2, setL_le _ _ _, fun W F q qs A hs hl hq => ?_, fun W R A hd hl hR => ?_⟩
      · refine (dset_go hs t A n c f _ rfl hn hk hl hK x blk wait hx hb hw (by omega) (by omega) v hv hat).mono fun e W' h => ⟨h.1, ?_⟩
        have h2 := h.2
        cases hE : (stepD v x blk wait).eqb v with
        | true => rw [hE, if_pos rfl] at h2; rw [hat.same hE]; exact h2
        | false => rw [hE, if_neg (by decide)] at h2; exact h2
      · refine (rdset_core w W m L R t A n c f _ rfl hd hl hn x blk wait _ hK hx hb hw rfl hM.r (by omega) (by omega) v.h v.n v.x v.a v.m (settleD v blk).h (settleD v blk).n (settleD v blk).x (settleD v blk).a (settleD v blk).m (stepD v x blk wait).h (stepD v x blk wait).n (stepD v x blk wait).x (stepD v x blk wait).a (stepD v x blk wait).m hv hat hv2 (fun w => rsettle_any v blk w) (fun w => rsettle_any (putD v x blk wait) blk w)).mono fun e W' h => ⟨h.1, _, setR_le L R (keyStr t f n) (stepD v x blk wait).row, ?_⟩
        have h2 := h.2
        unfold setE at h2
        rw [if_neg hK] at h2
        exact h2
    · refine ⟨2, L, v, hv, hat, hM, Nat.le_succ _, fun W F q qs A hs hl hq => ?_, fun W R A hd hl hR => ?_⟩
      · exact (dset_bad hs t A n c f _ rfl hn hl hK x blk wait (dIn_some hall)).mono fun e W' h => ⟨h.1, h.2.le (Nat.le_succ _)⟩
      · exact (rdset_out w W m L R t A n c f _ rfl hd hl hn x blk wait hK hall).mono fun e W' h => ⟨h.1, R, Nat.le_succ _, h.2⟩
theorem deqR (h : Bool) (n x a : Int) (m h' : Bool) (n' x' a' : Int) (m' : Bool) (w : World) : (Op.equalIn 10000 62 (.agg #[.bool h, .int .i64 n, .int .i64 x, .int .i64 a, .bool m]) (.agg #[.bool h', .int .i64 n', .int .i64 x', .int .i64 a', .bool m'])).run Tryz.prog w =
   .ok (h == h' && n == n' && x == x' && a == a' && m == m') w := by
  have u1 := Tryz.underlying3
  have u2 := Tryz.underlying4
  have i1 := Tryz.isAgg3
  have i2 := Tryz.isAgg4
  have z1 := Tryz.sizeOf3
  have z2 := Tryz.sizeOf4
  rw [show (10000 : Nat) = 9999 + 1 from rfl, Op.equalIn]
  simp only [Sem.run_bind, run_underlying Tryz.underlying62, Result.andThen_ok]
  go_simp
  by_cases h1 : h = h' <;> by_cases h2 : n = n' <;> by_cases h3 : x = x' <;> by_cases h4 : a = a' <;> by_cases h5 : m = m' <;> simp [h1, h2, h3, h4, h5]
end Go.Proofs.YtoaepgiajooecaaGreat
