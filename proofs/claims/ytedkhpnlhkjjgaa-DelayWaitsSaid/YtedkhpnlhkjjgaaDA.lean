/- delay on a live store, whatever the value: Settle, Of, Get, Set. -/
import Derived.Test.YtedkhpnlhkjjgaaTH
import Derived.Test.YtedkhpnlhkjjgaaTW
namespace Go.Proofs.Ytedkhpnlhkjjgaa
open Go.RowKit Go.Maps

structure DV where
  h : Bool
  n : Int
  x : Int
  a : Int
  m : Bool
def DV.val (v : DV) : Value := dval v.h v.n v.x v.a v.m
def DV.row (v : DV) : ByteArray := rowV (rowF v.h v.n v.x v.a v.m) 5
def DV.none : DV := ⟨false, 0, 0, 0, false⟩
structure DV.ok (v : DV) : Prop where
  n : 0 ≤ v.n ∧ v.n < 2 ^ 63
  x : 0 ≤ v.x ∧ v.x < 2 ^ 63
  a : 0 ≤ v.a ∧ v.a < 2 ^ 63
theorem DV.ok_none : DV.none.ok := ⟨by decide, by decide, by decide⟩
/-- v at a block -/
def settleD (v : DV) (b : Int) : DV := if v.m = true ∧ ¬ b < v.a then ⟨true, v.x, 0, 0, false⟩ else v
theorem settleD_ok {v : DV} (h : v.ok) (b : Int) : (settleD v b).ok := by
  unfold settleD
  split
  · exact ⟨h.x, ⟨Int.le_refl _, by show (0 : Int) < 2 ^ 63; decide⟩, ⟨Int.le_refl _, by show (0 : Int) < 2 ^ 63; decide⟩⟩
  · exact h
/-- what Set makes of v -/
def putD (v : DV) (x blk wait : Int) : DV := { settleD v blk with x := x, a := blk + wait, m := true }
def stepD (v : DV) (x blk wait : Int) : DV := settleD (putD v x blk wait) blk
theorem putD_ok {v : DV} (h : v.ok) {x blk wait : Int} (hx : 0 ≤ x ∧ x ≤ 1099511627776) (hb : 0 ≤ blk ∧ blk ≤ 1099511627776) (hw : 0 ≤ wait ∧ wait ≤ 1099511627776) : (putD v x blk wait).ok :=
  ⟨(settleD_ok h blk).n, ⟨hx.1, by show x < 2 ^ 63; omega⟩, by show 0 ≤ blk + wait ∧ blk + wait < 2 ^ 63; omega⟩
theorem stepD_ok {v : DV} (h : v.ok) {x blk wait : Int} (hx : 0 ≤ x ∧ x ≤ 1099511627776) (hb : 0 ≤ blk ∧ blk ≤ 1099511627776) (hw : 0 ≤ wait ∧ wait ≤ 1099511627776) : (stepD v x blk wait).ok := settleD_ok (putD_ok h hx hb hw) _

set_option maxRecDepth 100000 in
set_option maxHeartbeats 400000 in
theorem settle_no (h : Bool) (n x a b : Int) (w : World) : Calls Try.prog 107 #[dval h n x a false, .int .i64 b] w fun e w' => e = .returned (dval h n x a false) ∧ Below w.heap.size w w' := by
  unfold dval
  go_enter Try.func107, Try.ntmps107
  go_wp2
  refine bodyPost_ret (v := .agg #[.bool h, .int .i64 n, .int .i64 x, .int .i64 a, .bool false]) (by simp [results, Try.results107, go_sem]) rfl ⟨rfl, ?_⟩
  exact ((Below.refl w.heap.size w).alloc (Nat.le_refl _) _).alloc (by simp) _
theorem settle_any (v : DV) (b : Int) (w : World) : Calls Try.prog 107 #[v.val, .int .i64 b] w fun e w' => e = .returned (settleD v b).val ∧ Below w.heap.size w w' := by
  obtain ⟨h, n, x, a, m⟩ := v
  unfold settleD DV.val
  cases m with
  | false => exact settle_no h n x a b w
  | true =>
    by_cases hb : b < a
    · rw [if_neg (by simpa using hb)]; exact settle_stays h n x a b w hb
    · rw [if_pos (by simpa using hb)]; exact settle_turns h n x a b w hb
theorem of_any (v : DV) (b : Int) (w : World) : Calls Try.prog 58 #[v.val, .int .i64 b] w fun e w' => e = .returned (.tuple #[.int .i64 (settleD v b).n, .bool (settleD v b).h]) ∧ Below w.heap.size w w' :=
  of_of v.h v.n v.x v.a v.m (settleD v b).h (settleD v b).n (settleD v b).x (settleD v b).a (settleD v b).m b w fun w => settle_any v b w
/-- what stands at a key -/
def DAt (L : SL) (K : ByteArray) (v : DV) : Prop := (sget L K = Option.none ∧ v = DV.none) ∨ sget L K = some v.row
set_option maxRecDepth 100000 in
set_option maxHeartbeats 1000000 in
theorem dget_no {w W : World} {b : Nat} {F : List Nat} {L : SL} {q : Nat} {qs : List Value} (hs : SNew w W b F L q qs) (t : Int) (A : Option Addr) (n c : Nat) (f : Nat → Int) (K : ByteArray) (hK : keyStr t f n = K) (hn : n ≤ 100) (hk : K.size ≤ maxLen) (he : sget L K = Option.none) (hl : Il W A n f) :
    Calls Try.prog 59 #[.pointer (some ⟨b, 0, Option.none⟩), .int .i64 t, .slice A n c] W fun e W' => e = .returned dv0 ∧ Below W.heap.size W W' := by
  have hb0 := (Below.refl W.heap.size W).alloc (Nat.le_refl _) (.cells #[.bool false, .int .i64 0, .int .i64 0, .int .i64 0, .bool false] 100)
  have HB0 := Lib.hid hb0
  have HK := Lib.hid (key_is t A n c f K hK _ (hl.below hb0) hn)
  have HRw := Lib.hid (fun (W1 : World) (hb : Below W.heap.size W W1) => crow_none (hs.below hb) K hk he)
  have r0 : (W.alloc (.cells #[.bool false, .int .i64 0, .int .i64 0, .int .i64 0, .bool false] 100)).heap[W.heap.size]? = some (.cells #[.bool false, .int .i64 0, .int .i64 0, .int .i64 0, .bool false] 100 (0, 0)) := heap_alloc_new _ _
  have R0 := Lib.hid r0
  have Z0 := Lib.hid (hp_lt r0)
  clear hs hl hb0 r0 he hK hk hn
  unfold dv0
  go_enter Try.func59, Try.ntmps59
  go_wp2_with (first
    | (go_at_call 77; refine (HRw.out w1 HB1.out).mono ?_; rintro e w2 ⟨⟨g, rfl⟩, hb2⟩; have HB2 := Lib.hid (HB1.out.trans (hb2.mono HB1.out.size)); have r2 := (hb2.block W.heap.size (Nat.lt_of_lt_of_le Z0.out Z1.out)).trans R1.out; have c0 := (hp_cell (i := 0) r2).trans rfl; have g0 := hp_free (i := 0) r2; have c1 := (hp_cell (i := 1) r2).trans rfl; have g1 := hp_free (i := 1) r2; have c2 := (hp_cell (i := 2) r2).trans rfl; have g2 := hp_free (i := 2) r2; have c3 := (hp_cell (i := 3) r2).trans rfl; have g3 := hp_free (i := 3) r2; have c4 := (hp_cell (i := 4) r2).trans rfl; have g4 := hp_free (i := 4) r2; have Z2 := Lib.hid (hp_lt r2); clear hb2 r2)
    | (go_at_call 60; refine HK.out.mono ?_; rintro e w1 ⟨rfl, hb1⟩; have HB1 := Lib.hid (HB0.out.trans (hb1.mono HB0.out.size)); have R1 := Lib.hid ((hb1.block W.heap.size Z0.out).trans R0.out); have Z1 := Lib.hid hb1.size; clear hb1))
  refine bodyPost_ret (v := .agg #[.bool false, .int .i64 0, .int .i64 0, .int .i64 0, .bool false]) (by simp [results, Try.results59, go_sem, c0, c1, c2, c3, c4]) rfl ⟨rfl, ?_⟩
  exact ((((HB2.out.setCell (Nat.le_refl _) _).setCell (Nat.le_refl _) _).setCell (Nat.le_refl _) _).setCell (Nat.le_refl _) _).setCell (Nat.le_refl _) _
set_option maxRecDepth 100000 in
set_option maxHeartbeats 2000000 in
theorem dget_yes {w W : World} {b : Nat} {F : List Nat} {L : SL} {q : Nat} {qs : List Value} (hs : SNew w W b F L q qs) (t : Int) (A : Option Addr) (n c : Nat) (f : Nat → Int) (K : ByteArray) (hK : keyStr t f n = K) (hn : n ≤ 100) (hk : K.size ≤ maxLen) (v : DV) (hv : v.ok) (he : sget L K = some v.row) (hl : Il W A n f) :
    Calls Try.prog 59 #[.pointer (some ⟨b, 0, Option.none⟩), .int .i64 t, .slice A n c] W fun e W' => e = .returned v.val ∧ Below W.heap.size W W' := by
  obtain ⟨vh, vn, vx, va, vm⟩ := v
  unfold DV.row at he
  unfold DV.val dval
  simp only at he ⊢
  have hb0 := (Below.refl W.heap.size W).alloc (Nat.le_refl _) (.cells #[.bool false, .int .i64 0, .int .i64 0, .int .i64 0, .bool false] 100)
  have HB0 := Lib.hid hb0
  have HK := Lib.hid (key_is t A n c f K hK _ (hl.below hb0) hn)
  have hf5 : ∀ i, i < 5 → 0 ≤ rowF vh vn vx va vm i ∧ rowF vh vn vx va vm i < 2 ^ 63 := by
    intro i hi
    rcases (by omega : i = 0 ∨ i = 1 ∨ i = 2 ∨ i = 3 ∨ i = 4) with rfl | rfl | rfl | rfl | rfl
    · show (0 : Int) ≤ (if vh then 1 else 0) ∧ (if vh then 1 else 0) < (2 : Int) ^ 63
      split <;> decide
    · exact hv.n
    · show (0 : Int) ≤ (if vm then 1 else 0) ∧ (if vm then 1 else 0) < (2 : Int) ^ 63
      split <;> decide
    · exact hv.x
    · exact hv.a
  have HRw := Lib.hid (fun (W1 : World) (hb : Below W.heap.size W W1) => crow_some (hs.below hb) K (rowF vh vn vx va vm) 5 (by omega) (by omega) hf5 hk he)
  have r0 : (W.alloc (.cells #[.bool false, .int .i64 0, .int .i64 0, .int .i64 0, .bool false] 100)).heap[W.heap.size]? = some (.cells #[.bool false, .int .i64 0, .int .i64 0, .int .i64 0, .bool false] 100 (0, 0)) := heap_alloc_new _ _
  have R0 := Lib.hid r0
  have Z0 := Lib.hid (hp_lt r0)
  clear hs hl hb0 r0 he hK hk hn hf5 hv
  cases vh <;> cases vm
  all_goals
    go_enter Try.func59, Try.ntmps59
    go_upto_region 4 with (first
      | (go_at_call 77; refine (HRw.out w1 HB1.out).mono ?_; rintro e w2 ⟨⟨g, rfl, hcc, hgl⟩, hb2⟩; have HB2 := Lib.hid (HB1.out.trans (hb2.mono HB1.out.size)); have r2 := (hb2.block W.heap.size (Nat.lt_of_lt_of_le Z0.out Z1.out)).trans R1.out; have c0 := (hp_cell (i := 0) r2).trans rfl; have g0 := hp_free (i := 0) r2; have c1 := (hp_cell (i := 1) r2).trans rfl; have g1 := hp_free (i := 1) r2; have c2 := (hp_cell (i := 2) r2).trans rfl; have g2 := hp_free (i := 2) r2; have c3 := (hp_cell (i := 3) r2).trans rfl; have g3 := hp_free (i := 3) r2; have c4 := (hp_cell (i := 4) r2).trans rfl; have g4 := hp_free (i := 4) r2; have Z2 := Lib.hid (hp_lt r2); have x0 := hcc 0 (by omega); have x1 := hcc 1 (by omega); have x2 := hcc 2 (by omega); have x3 := hcc 3 (by omega); have x4 := hcc 4 (by omega); simp only [rowF, if_true, Bool.false_eq_true, if_false] at x0 x1 x2 x3 x4; clear hb2 r2 hcc hgl)
      | (go_at_call 60; refine HK.out.mono ?_; rintro e w1 ⟨rfl, hb1⟩; have HB1 := Lib.hid (HB0.out.trans (hb1.mono HB0.out.size)); have R1 := Lib.hid ((hb1.block W.heap.size Z0.out).trans R0.out); have Z1 := Lib.hid hb1.size; clear hb1))
    go_still_tail 18, (by kernel_rfl)
    go_wp2
  · refine bodyPost_ret (v := .agg #[.bool false, .int .i64 vn, .int .i64 vx, .int .i64 va, .bool false]) (by simp [results, Try.results59, go_sem, c0, c1, c2, c3, c4]) rfl ⟨rfl, ?_⟩
    exact ((((((HB2.out.setCell (Nat.le_refl _) _).setCell (Nat.le_refl _) _).setCell (Nat.le_refl _) _).setCell (Nat.le_refl _) _).setCell (Nat.le_refl _) _)).drew
  · refine bodyPost_ret (v := .agg #[.bool false, .int .i64 vn, .int .i64 vx, .int .i64 va, .bool true]) (by simp [results, Try.results59, go_sem, c0, c1, c2, c3, c4]) rfl ⟨rfl, ?_⟩
    exact ((((((HB2.out.setCell (Nat.le_refl _) _).setCell (Nat.le_refl _) _).setCell (Nat.le_refl _) _).setCell (Nat.le_refl _) _).setCell (Nat.le_refl _) _)).drew
  · refine bodyPost_ret (v := .agg #[.bool true, .int .i64 vn, .int .i64 vx, .int .i64 va, .bool false]) (by simp [results, Try.results59, go_sem, c0, c1, c2, c3, c4]) rfl ⟨rfl, ?_⟩
    exact ((((((HB2.out.setCell (Nat.le_refl _) _).setCell (Nat.le_refl _) _).setCell (Nat.le_refl _) _).setCell (Nat.le_refl _) _).setCell (Nat.le_refl _) _)).drew
  · refine bodyPost_ret (v := .agg #[.bool true, .int .i64 vn, .int .i64 vx, .int .i64 va, .bool true]) (by simp [results, Try.results59, go_sem, c0, c1, c2, c3, c4]) rfl ⟨rfl, ?_⟩
    exact ((((((HB2.out.setCell (Nat.le_refl _) _).setCell (Nat.le_refl _) _).setCell (Nat.le_refl _) _).setCell (Nat.le_refl _) _).setCell (Nat.le_refl _) _)).drew
theorem dget_at {w W : World} {b : Nat} {F : List Nat} {L : SL} {q : Nat} {qs : List Value} (hs : SNew w W b F L q qs) (t : Int) (A : Option Addr) (n c : Nat) (f : Nat → Int) (K : ByteArray) (hK : keyStr t f n = K) (hn : n ≤ 100) (hk : K.size ≤ maxLen) (v : DV) (hv : v.ok) (he : DAt L K v) (hl : Il W A n f) :
    Calls Try.prog 59 #[.pointer (some ⟨b, 0, Option.none⟩), .int .i64 t, .slice A n c] W fun e W' => e = .returned v.val ∧ Below W.heap.size W W' := by
  rcases he with ⟨h1, h2⟩ | h1
  · subst h2
    exact dget_no hs t A n c f K hK hn hk h1 hl
  · exact dget_yes hs t A n c f K hK hn hk v hv h1 hl
end Go.Proofs.Ytedkhpnlhkjjgaa
