/- How slices of bytes that come in are opened. -/
import Derived.Test.YtoaepgiajooecaaGreatG00
import Derived.Test.YtoaepgiajooecaaGreatG18
import Derived.Test.YtoaepgiajooecaaGreatG01
import Derived.Test.YtoaepgiajooecaaGreatG25
import Derived.ChangeSlices
import Derived.Carry
import Derived.OpenShut
import Derived.ChangeOld
import Derived.Deep.Slices
import Derived.ChangeSame
import Derived.Laws.IdiomArrays
namespace Go.Proofs.YtoaepgiajooecaaGreat
open Go.ChangeShapes Go.WideShapes Go.ChangeAt Go.RowKit

theorem cellsU8 : Tryz.prog.cellsOf 5 = 1 := by kernel_rfl
section
variable {H : Type} {enc : TypeId × Value → H} {W : World} {base : Nat}
set_option maxRecDepth 100000 in
theorem open_bl {v : Value} {d : DataW H} {p : List MemPlace} (hv : Value.okWide Tryz.prog W .any base 112 v) (h : DataW.Trod enc Tryz.prog W 0 (fun _ => true) true 112 v d p) :
    ∃ A n c f, v = .slice A n c ∧ Sl W A n f := by
  obtain ⟨a0, n, c, rfl⟩ := okWide_slice Tryz.underlying112 hv
  obtain ⟨fuel, hf⟩ := h
  rcases open_ints Tryz.underlying112 Tryz.underlying5 cellsU8 hf with ⟨hcs, hx⟩ | ⟨a, len', cap', zs, hcs, _, hl, hm, hz, hx, hcell, hwz⟩
  · simp [Value.cells] at hcs
    obtain ⟨rfl, rfl, rfl⟩ := hcs
    exact ⟨none, 0, 0, fun _ => 0, rfl, fun _ => by decide, fun h => absurd h (by omega)⟩
  · simp only [Value.cells, List.cons.injEq, Value.slice.injEq, and_true] at hcs
    obtain ⟨rfl, rfl, rfl⟩ := hcs
    simp only [if_true] at hz
    have hb : ∀ i, 0 ≤ zs.getD i 0 ∧ zs.getD i 0 < 256 := fun i => by
      rcases Nat.lt_or_ge i zs.length with hi | hi
      · have h1 := hwz (zs.getD i 0) (by simp [List.getD, List.getElem?_eq_getElem hi])
        have h2 := bounds_u8 h1
        omega
      · simp only [List.getD, List.getElem?_eq_none hi, Option.getD_none]; decide
    refine ⟨some a, n, c, fun i => (zs.getD i 0).toNat, rfl, fun i => by have := hb i; omega, fun hn => ?_⟩
    have hc0 := hcell 0 (by omega)
    have hlt := World.block_lt_of_cell? W _ hc0
    obtain ⟨g, o, sp⟩ := a
    have hspot : sp = none := by simpa [Addr.add] using World.cell?_spot hc0
    subst hspot
    exact ⟨g, o, rfl, hlt, fun i hi => by
      have h1 := hcell i (by omega)
      have h2 := (hb i).1
      rw [add_plain] at h1
      rw [h1, Int.toNat_of_nonneg h2]⟩
set_option maxRecDepth 100000 in
theorem open_bl2 {v : Value} {d : DataW H} {p : List MemPlace} (hv : Value.okWide Tryz.prog W .any base 112 v) (h : DataW.Trod enc Tryz.prog W 0 (fun _ => true) true 112 v d p) :
    ∃ A n c f, v = .slice A n c ∧ Sl W A n f ∧ (A = none → n = 0 ∧ c = 0) := by
  obtain ⟨a0, n, c, rfl⟩ := okWide_slice Tryz.underlying112 hv
  obtain ⟨fuel, hf⟩ := h
  rcases open_ints Tryz.underlying112 Tryz.underlying5 cellsU8 hf with ⟨hcs, hx⟩ | ⟨a, len', cap', zs, hcs, _, hl, hm, hz, hx, hcell, hwz⟩
  · simp [Value.cells] at hcs
    obtain ⟨rfl, rfl, rfl⟩ := hcs
    exact ⟨none, 0, 0, fun _ => 0, rfl, ⟨fun _ => by decide, fun h => absurd h (by omega)⟩, fun _ => ⟨rfl, rfl⟩⟩
  · simp only [Value.cells, List.cons.injEq, Value.slice.injEq, and_true] at hcs
    obtain ⟨rfl, rfl, rfl⟩ := hcs
    simp only [if_true] at hz
    have hb : ∀ i, 0 ≤ zs.getD i 0 ∧ zs.getD i 0 < 256 := fun i => by
      rcases Nat.lt_or_ge i zs.length with hi | hi
      · have h1 := hwz (zs.getD i 0) (by simp [List.getD, List.getElem?_eq_getElem hi])
        have h2 := bounds_u8 h1
        omega
      · simp only [List.getD, List.getElem?_eq_none hi, Option.getD_none]; decide
    refine ⟨some a, n, c, fun i => (zs.getD i 0).toNat, rfl, ⟨fun i => by have := hb i; omega, fun hn => ?_⟩, fun h => by cases h⟩
    have hc0 := hcell 0 (by omega)
    have hlt := World.block_lt_of_cell? W _ hc0
    obtain ⟨g, o, sp⟩ := a
    have hspot : sp = none := by simpa [Addr.add] using World.cell?_spot hc0
    subst hspot
    exact ⟨g, o, rfl, hlt, fun i hi => by
      have h1 := hcell i (by omega)
      have h2 := (hb i).1
      rw [add_plain] at h1
      rw [h1, Int.toNat_of_nonneg h2]⟩
end
end Go.Proofs.YtoaepgiajooecaaGreat

namespace Go.Proofs.YtoaepgiajooecaaGreat
open Go.ChangeShapes Go.WideShapes Go.ChangeAt Go.RowKit

theorem cells_act34 : Tryz.prog.cellsOf 29 = 5 := by kernel_rfl
theorem cells_act34_int : Tryz.prog.cellsOf 3 = 1 := by kernel_rfl
theorem list_act34 {α : Type} (l : List α) (h : l.length = 5) : ∃ b0 b1 b2 b3 b4, l = [b0, b1, b2, b3, b4] := by
  match l, h with
  | [b0, b1, b2, b3, b4], _ => exact ⟨b0, b1, b2, b3, b4, rfl⟩
/-- N rows at A, their fields -/
structure act34sAt (W : World) (A : Option Addr) (N : Nat) (x0 : Nat → Int) (x1 : Nat → Int) (x2 : Nat → Int) (x3 : Nat → Int) (x4 : Nat → Int) : Prop where
  rows : RowsV W A N 5 (fun i => [.int .i64 (x0 i), .int .i64 (x1 i), .int .i64 (x2 i), .int .i64 (x3 i), .int .i64 (x4 i)])
  f0 : ∀ i, i < N → (-9223372036854775808 ≤ (x0 i) ∧ (x0 i) < 2 ^ 63)
  f1 : ∀ i, i < N → (-9223372036854775808 ≤ (x1 i) ∧ (x1 i) < 2 ^ 63)
  f2 : ∀ i, i < N → (-9223372036854775808 ≤ (x2 i) ∧ (x2 i) < 2 ^ 63)
  f3 : ∀ i, i < N → (-9223372036854775808 ≤ (x3 i) ∧ (x3 i) < 2 ^ 63)
  f4 : ∀ i, i < N → (-9223372036854775808 ≤ (x4 i) ∧ (x4 i) < 2 ^ 63)
theorem act34sAt.below {W W' : World} {A : Option Addr} {N : Nat} {x0 : Nat → Int} {x1 : Nat → Int} {x2 : Nat → Int} {x3 : Nat → Int} {x4 : Nat → Int} (h : act34sAt W A N x0 x1 x2 x3 x4) (hb : Below W.heap.size W W') : act34sAt W' A N x0 x1 x2 x3 x4 :=
  ⟨h.rows.below hb, fun i hi => (h.f0 i hi), fun i hi => (h.f1 i hi), fun i hi => (h.f2 i hi), fun i hi => (h.f3 i hi), fun i hi => (h.f4 i hi)⟩
section
variable {H : Type} {enc : TypeId × Value → H} {W : World} {base : Nat}
set_option maxRecDepth 100000 in
theorem open_act34_row {fuel : Nat} {cs : List Value} {x : DataW H × List MemPlace} (hf : DataW.trod enc Tryz.prog W 0 (fun _ => true) true fuel 29 cs = some x) (hsz : cs.length = 5) :
    ∃ x0 x1 x2 x3 x4, cs = [.int .i64 x0, .int .i64 x1, .int .i64 x2, .int .i64 x3, .int .i64 x4] ∧ (-9223372036854775808 ≤ x0 ∧ x0 < 2 ^ 63) ∧ (-9223372036854775808 ≤ x1 ∧ x1 < 2 ^ 63) ∧ (-9223372036854775808 ≤ x2 ∧ x2 < 2 ^ 63) ∧ (-9223372036854775808 ≤ x3 ∧ x3 < 2 ^ 63) ∧ (-9223372036854775808 ≤ x4 ∧ x4 < 2 ^ 63) := by
  obtain ⟨b0, b1, b2, b3, b4, rfl⟩ := list_act34 cs hsz
  obtain ⟨ys, n2, _, _, _, hyl, hf⟩ := DataW.trod_struct Tryz.underlying29 hf
  obtain ⟨y0, y1, y2, y3, y4, rfl⟩ := list_act34 ys hyl
  have f0 : DataW.trod enc Tryz.prog W 0 (fun _ => true) true n2 3 (([b0, b1, b2, b3, b4].drop 0).take (Tryz.prog.cellsOf 3)) = some y0 := hf 0 _ rfl
  rw [cells_act34_int] at f0
  replace f0 : DataW.trod enc Tryz.prog W 0 (fun _ => true) true n2 3 [b0] = some y0 := f0
  have f1 : DataW.trod enc Tryz.prog W 0 (fun _ => true) true n2 3 (([b0, b1, b2, b3, b4].drop 1).take (Tryz.prog.cellsOf 3)) = some y1 := hf 1 _ rfl
  rw [cells_act34_int] at f1
  replace f1 : DataW.trod enc Tryz.prog W 0 (fun _ => true) true n2 3 [b1] = some y1 := f1
  have f2 : DataW.trod enc Tryz.prog W 0 (fun _ => true) true n2 3 (([b0, b1, b2, b3, b4].drop 2).take (Tryz.prog.cellsOf 3)) = some y2 := hf 2 _ rfl
  rw [cells_act34_int] at f2
  replace f2 : DataW.trod enc Tryz.prog W 0 (fun _ => true) true n2 3 [b2] = some y2 := f2
  have f3 : DataW.trod enc Tryz.prog W 0 (fun _ => true) true n2 3 (([b0, b1, b2, b3, b4].drop 3).take (Tryz.prog.cellsOf 3)) = some y3 := hf 3 _ rfl
  rw [cells_act34_int] at f3
  replace f3 : DataW.trod enc Tryz.prog W 0 (fun _ => true) true n2 3 [b3] = some y3 := f3
  have f4 : DataW.trod enc Tryz.prog W 0 (fun _ => true) true n2 3 (([b0, b1, b2, b3, b4].drop 4).take (Tryz.prog.cellsOf 3)) = some y4 := hf 4 _ rfl
  rw [cells_act34_int] at f4
  replace f4 : DataW.trod enc Tryz.prog W 0 (fun _ => true) true n2 3 [b4] = some y4 := f4
  obtain ⟨x0, e0, _, w0⟩ := DataW.trod_int Tryz.underlying3 f0
  simp at e0
  subst e0
  have h0 := bounds_i64 w0
  obtain ⟨x1, e1, _, w1⟩ := DataW.trod_int Tryz.underlying3 f1
  simp at e1
  subst e1
  have h1 := bounds_i64 w1
  obtain ⟨x2, e2, _, w2⟩ := DataW.trod_int Tryz.underlying3 f2
  simp at e2
  subst e2
  have h2 := bounds_i64 w2
  obtain ⟨x3, e3, _, w3⟩ := DataW.trod_int Tryz.underlying3 f3
  simp at e3
  subst e3
  have h3 := bounds_i64 w3
  obtain ⟨x4, e4, _, w4⟩ := DataW.trod_int Tryz.underlying3 f4
  simp at e4
  subst e4
  have h4 := bounds_i64 w4
  exact ⟨x0, x1, x2, x3, x4, rfl, ⟨by omega, by omega⟩, ⟨by omega, by omega⟩, ⟨by omega, by omega⟩, ⟨by omega, by omega⟩, ⟨by omega, by omega⟩⟩
set_option maxRecDepth 100000 in
theorem open_act34s {v : Value} {d : DataW H} {p : List MemPlace} (hv : Value.okWide Tryz.prog W .any base 22 v) (h : DataW.Trod enc Tryz.prog W 0 (fun _ => true) true 22 v d p) :
    ∃ A N C x0 x1 x2 x3 x4, v = .slice A N C ∧ (A = none → N = 0 ∧ C = 0) ∧ N ≤ C ∧ C ≤ 9223372036854775807 ∧ act34sAt W A N x0 x1 x2 x3 x4 := by
  obtain ⟨a0, N, C, rfl⟩ := okWide_slice Tryz.underlying22 hv
  obtain ⟨fuel, hf⟩ := h
  rcases Go.Deep.open_slice Tryz.underlying22 hf with ⟨hcs, hx⟩ | ⟨a, len, cap, m, n, D, Pl, hcs, hb, hl, hm, hmm, _, hx⟩
  · simp [Value.cells] at hcs
    obtain ⟨rfl, rfl, rfl⟩ := hcs
    exact ⟨none, 0, 0, fun _ => 0, fun _ => 0, fun _ => 0, fun _ => 0, fun _ => 0, rfl, fun _ => ⟨rfl, rfl⟩, Nat.le_refl _, by decide, ⟨RowsV.nil _ _ _ _, fun i h => absurd h (by omega), fun i h => absurd h (by omega), fun i h => absurd h (by omega), fun i h => absurd h (by omega), fun i h => absurd h (by omega)⟩⟩
  · simp only [Value.cells, List.cons.injEq, Value.slice.injEq, and_true] at hcs
    obtain ⟨rfl, rfl, rfl⟩ := hcs
    simp only [if_true] at hmm
    subst hmm
    rw [cells_act34] at hx
    obtain ⟨y, hy⟩ := Go.Deep.choose_lt (α := (Int) × (Int) × (Int) × (Int) × (Int)) (n := m) (p := fun i y => W.cells? 0 (a.add (i * 5)) 5 = some [.int .i64 y.1, .int .i64 y.2.1, .int .i64 y.2.2.1, .int .i64 y.2.2.2.1, .int .i64 y.2.2.2.2] ∧ (-9223372036854775808 ≤ y.1 ∧ y.1 < 2 ^ 63) ∧ (-9223372036854775808 ≤ y.2.1 ∧ y.2.1 < 2 ^ 63) ∧ (-9223372036854775808 ≤ y.2.2.1 ∧ y.2.2.1 < 2 ^ 63) ∧ (-9223372036854775808 ≤ y.2.2.2.1 ∧ y.2.2.2.1 < 2 ^ 63) ∧ (-9223372036854775808 ≤ y.2.2.2.2 ∧ y.2.2.2.2 < 2 ^ 63)) (fun i hi => by
      obtain ⟨cs, h1, h2⟩ := hx i hi
      obtain ⟨x0, x1, x2, x3, x4, rfl, g0, g1, g2, g3, g4⟩ := open_act34_row h2 (World.cells?_some h1).2.1
      exact ⟨(x0, x1, x2, x3, x4), h1, g0, g1, g2, g3, g4⟩)
    unfold maxLen at hm
    refine ⟨some a, N, m, fun i => (y i).1, fun i => (y i).2.1, fun i => (y i).2.2.1, fun i => (y i).2.2.2.1, fun i => (y i).2.2.2.2, rfl, (fun h => by cases h), hl, by omega, ⟨RowsV.of_cells (by decide) fun i hi => (hy i (by omega)).1, fun i hi => (hy i (by omega)).2.1, fun i hi => (hy i (by omega)).2.2.1, fun i hi => (hy i (by omega)).2.2.2.1, fun i hi => (hy i (by omega)).2.2.2.2.1, fun i hi => (hy i (by omega)).2.2.2.2.2⟩⟩
end
end Go.Proofs.YtoaepgiajooecaaGreat

namespace Go.Proofs.YtoaepgiajooecaaGreat
open Go.RowKit Go.Sort

def WAD : Nat := 1000000000000000000
def MOST : Nat := 340282366920938463463374607431768211455
theorem WAD_lt : WAD < 2 ^ 256 := by decide
theorem MOST_lt : MOST < 2 ^ 256 := by decide
theorem U_WAD : U WAD = .agg #[.int .u64 1000000000000000000, .int .u64 0, .int .u64 0, .int .u64 0] := U_small (n := 1000000000000000000) (by decide)
theorem U_MOST : U MOST = .agg #[.int .u64 18446744073709551615, .int .u64 18446744073709551615, .int .u64 0, .int .u64 0] := by
  unfold U
  rw [show limb MOST 0 = 18446744073709551615 by decide, show limb MOST 1 = 18446744073709551615 by decide, show limb MOST 2 = 0 by decide, show limb MOST 3 = 0 by decide]; rfl
set_option maxRecDepth 100000 in
theorem most_walk (w : World) : Calls Tryz.prog 59 #[] w fun e w' => e = .returned (U MOST) ∧ Below w.heap.size w w' := by
  rw [U_MOST]
  go_enter Tryz.func59, Tryz.ntmps59
  go_wp2
  refine bodyPost_ret (v := .agg #[.int .u64 18446744073709551615, .int .u64 18446744073709551615, .int .u64 0, .int .u64 0]) (by simp [results, Tryz.results59, go_sem]) rfl ⟨rfl, (Below.refl _ _).alloc (Nat.le_refl _) _⟩
end Go.Proofs.YtoaepgiajooecaaGreat
