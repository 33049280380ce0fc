/- How a slice of tallage/tallagelaw10.Act that comes in is opened. -/
import Derived.Test.YtbfmhafmncnhfaaG23
import Derived.Test.YtbfmhafmncnhfaaG24
import Derived.Test.YtbfmhafmncnhfaaG01
import Derived.Test.YtbfmhafmncnhfaaG00
import Derived.Test.YtbfmhafmncnhfaaG18
import Derived.OpenShut
import Derived.ChangeOld
import Derived.ChangeSlices
import Derived.Carry
import Derived.Deep.Slices
import Derived.ChangeSame
import Derived.Laws.IdiomArrays
import Derived.Laws.AppendOwn
namespace Go.Proofs.Ytbfmhafmncnhfaa
open Go.ChangeShapes Go.WideShapes Go.ChangeAt Go.RowKit

theorem cells_act10 : Try.prog.cellsOf 62 = 9 := by kernel_rfl
theorem cells_act10_U : Try.prog.cellsOf 55 = 4 := by kernel_rfl
theorem cells_act10_il : Try.prog.cellsOf 60 = 1 := by kernel_rfl
theorem cells_act10_int : Try.prog.cellsOf 3 = 1 := by kernel_rfl
theorem list_act10 {α : Type} (l : List α) (h : l.length = 9) : ∃ b0 b1 b2 b3 b4 b5 b6 b7 b8, l = [b0, b1, b2, b3, b4, b5, b6, b7, b8] := by
  match l, h with
  | [b0, b1, b2, b3, b4, b5, b6, b7, b8], _ => exact ⟨b0, b1, b2, b3, b4, b5, b6, b7, b8, rfl⟩
theorem listy_act10 {α : Type} (l : List α) (h : l.length = 6) : ∃ y0 y1 y2 y3 y4 y5, l = [y0, y1, y2, y3, y4, y5] := by
  match l, h with
  | [y0, y1, y2, y3, y4, y5], _ => exact ⟨y0, y1, y2, y3, y4, y5, rfl⟩
/-- N rows at A, their fields -/
structure act10sAt (W : World) (A : Option Addr) (N : Nat) (x0 : Nat → Int) (x1 : Nat → Int) (x2 : Nat → Int) (x3 : Nat → Int) (a4 : Nat → Nat) (A5 : Nat → Option Addr) (k5 : Nat → Nat) (c5 : Nat → Nat) (f55 : Nat → Nat → Int) : Prop where
  rows : RowsV W A N 9 (fun i => [.int .i64 (x0 i), .int .i64 (x1 i), .int .i64 (x2 i), .int .i64 (x3 i), .int .u64 (limb (a4 i) 0 : Nat), .int .u64 (limb (a4 i) 1 : Nat), .int .u64 (limb (a4 i) 2 : Nat), .int .u64 (limb (a4 i) 3 : Nat), .slice (A5 i) (k5 i) (c5 i)])
  f0 : ∀ i, i < N → (-9223372036854775808 ≤ (x0 i) ∧ (x0 i) < 2 ^ 63)
  f1 : ∀ i, i < N → (-9223372036854775808 ≤ (x1 i) ∧ (x1 i) < 2 ^ 63)
  f2 : ∀ i, i < N → (-9223372036854775808 ≤ (x2 i) ∧ (x2 i) < 2 ^ 63)
  f3 : ∀ i, i < N → (-9223372036854775808 ≤ (x3 i) ∧ (x3 i) < 2 ^ 63)
  f4 : ∀ i, i < N → ((a4 i) < 2 ^ 256)
  f5 : ∀ i, i < N → (((k5 i) : Int) ≤ 9223372036854775807)
  f6 : ∀ i, i < N → (Il W (A5 i) (k5 i) (f55 i))
  f7 : ∀ i, i < N → ((A5 i) = none → (k5 i) = 0 ∧ (c5 i) = 0)
theorem act10sAt.below {W W' : World} {A : Option Addr} {N : Nat} {x0 : Nat → Int} {x1 : Nat → Int} {x2 : Nat → Int} {x3 : Nat → Int} {a4 : Nat → Nat} {A5 : Nat → Option Addr} {k5 : Nat → Nat} {c5 : Nat → Nat} {f55 : Nat → Nat → Int} (h : act10sAt W A N x0 x1 x2 x3 a4 A5 k5 c5 f55) (hb : Below W.heap.size W W') : act10sAt W' A N x0 x1 x2 x3 a4 A5 k5 c5 f55 :=
  ⟨h.rows.below hb, fun i hi => (h.f0 i hi), fun i hi => (h.f1 i hi), fun i hi => (h.f2 i hi), fun i hi => (h.f3 i hi), fun i hi => (h.f4 i hi), fun i hi => (h.f5 i hi), fun i hi => (h.f6 i hi).below hb, fun i hi => (h.f7 i hi)⟩
section
variable {H : Type} {enc : TypeId × Value → H} {W : World} {base : Nat}
set_option maxRecDepth 100000 in
theorem open_il_act10 {b : Value} {m : Nat} {y : DataW H × List MemPlace} (hf : DataW.trod enc Try.prog W 0 (fun _ => true) true m 60 [b] = some y) :
    ∃ A n c f, b = .slice A n c ∧ (n : Int) ≤ 9223372036854775807 ∧ Il W A n f ∧ (A = none → n = 0 ∧ c = 0) := by
  rcases open_ints Try.underlying60 Try.underlying3 (show Try.prog.cellsOf 3 = 1 by kernel_rfl) hf with ⟨hcs, hx⟩ | ⟨a, n, c, zs, hcs, _, hl, hm, hz, hx, hcell, hwz⟩
  · simp only [List.cons.injEq, and_true] at hcs
    subst hcs
    exact ⟨none, 0, 0, fun _ => 0, rfl, by decide, ⟨fun _ => by show (0 : Int) < 2 ^ 63; decide, fun h => absurd h (by omega)⟩, fun _ => ⟨rfl, rfl⟩⟩
  · simp only [List.cons.injEq, and_true] at hcs
    subst hcs
    simp only [if_true] at hz
    refine ⟨some a, n, c, fun i => zs.getD i 0, rfl, ?_, ⟨fun i => ?_, fun hn => ?_⟩, fun h => by cases h⟩
    · have hh := hm
      simp [maxLen] at hh
      omega
    · rcases Nat.lt_or_ge i zs.length with hi | hi
      · have := bounds_i64 (hwz (zs.getD i 0) (by simp [List.getD, List.getElem?_eq_getElem hi]))
        show zs.getD i 0 < 2 ^ 63
        omega
      · simp only [List.getD, List.getElem?_eq_none hi, Option.getD_none]; decide
    · have hc0 := hcell 0 (by omega)
      have hlt := World.block_lt_of_cell? W _ hc0
      obtain ⟨g, o, sp⟩ := a
      have hspot : sp = none := by simpa [Addr.add] using World.cell?_spot hc0
      subst hspot
      exact ⟨g, o, rfl, hlt, fun i hi => by rw [← add_plain]; exact hcell i (by omega)⟩
set_option maxRecDepth 100000 in
theorem open_u_act10 {m : Nat} {c0 c1 c2 c3 : Value} {x : DataW H × List MemPlace} (hf : DataW.trod enc Try.prog W 0 (fun _ => true) true m 55 [c0, c1, c2, c3] = some x) :
    ∃ a, a < 2 ^ 256 ∧ c0 = .int .u64 (limb a 0 : Nat) ∧ c1 = .int .u64 (limb a 1 : Nat) ∧ c2 = .int .u64 (limb a 2 : Nat) ∧ c3 = .int .u64 (limb a 3 : Nat) := by
  obtain ⟨y0, y1, y2, y3, m, hx, hy0, hy1, hy2, hy3⟩ := trod_array4 Try.underlying55 (show Try.prog.cellsOf 53 = 1 by kernel_rfl) hf
  obtain ⟨x0, e0, rfl, w0⟩ := DataW.trod_int Try.underlying53 hy0
  obtain ⟨x1, e1, rfl, w1⟩ := DataW.trod_int Try.underlying53 hy1
  obtain ⟨x2, e2, rfl, w2⟩ := DataW.trod_int Try.underlying53 hy2
  obtain ⟨x3, e3, rfl, w3⟩ := DataW.trod_int Try.underlying53 hy3
  simp at e0 e1 e2 e3
  have hb0 := bounds_u64 w0
  have hb1 := bounds_u64 w1
  have hb2 := bounds_u64 w2
  have hb3 := bounds_u64 w3
  obtain ⟨n0, rfl⟩ : ∃ n : Nat, x0 = (n : Int) := ⟨x0.toNat, by omega⟩
  obtain ⟨n1, rfl⟩ : ∃ n : Nat, x1 = (n : Int) := ⟨x1.toNat, by omega⟩
  obtain ⟨n2, rfl⟩ : ∃ n : Nat, x2 = (n : Int) := ⟨x2.toNat, by omega⟩
  obtain ⟨n3, rfl⟩ : ∃ n : Nat, x3 = (n : Int) := ⟨x3.toNat, by omega⟩
  have hl : ∀ i, i < 4 → (fun i => match i with | 0 => n0 | 1 => n1 | 2 => n2 | _ => n3 : Nat → Nat) i < 2 ^ 64 := fun i hi => by
    rcases (by omega : i = 0 ∨ i = 1 ∨ i = 2 ∨ i = 3) with rfl | rfl | rfl | rfl
    · show n0 < 2 ^ 64; omega
    · show n1 < 2 ^ 64; omega
    · show n2 < 2 ^ 64; omega
    · show n3 < 2 ^ 64; omega
  refine ⟨val (fun i => match i with | 0 => n0 | 1 => n1 | 2 => n2 | _ => n3 : Nat → Nat) 4, val_lt 4 hl, ?_, ?_, ?_, ?_⟩
  · rw [e0, limb_val 4 hl 0 (by omega)]; rfl
  · rw [e1, limb_val 4 hl 1 (by omega)]; rfl
  · rw [e2, limb_val 4 hl 2 (by omega)]; rfl
  · rw [e3, limb_val 4 hl 3 (by omega)]; rfl
set_option maxRecDepth 100000 in
theorem open_act10_row {fuel : Nat} {cs : List Value} {x : DataW H × List MemPlace} (hf : DataW.trod enc Try.prog W 0 (fun _ => true) true fuel 62 cs = some x) (hsz : cs.length = 9) :
    ∃ x0 x1 x2 x3 a4 A5 k5 c5 f55, cs = [.int .i64 x0, .int .i64 x1, .int .i64 x2, .int .i64 x3, .int .u64 (limb a4 0 : Nat), .int .u64 (limb a4 1 : Nat), .int .u64 (limb a4 2 : Nat), .int .u64 (limb a4 3 : Nat), .slice A5 k5 c5] ∧ (-9223372036854775808 ≤ x0 ∧ x0 < 2 ^ 63) ∧ (-9223372036854775808 ≤ x1 ∧ x1 < 2 ^ 63) ∧ (-9223372036854775808 ≤ x2 ∧ x2 < 2 ^ 63) ∧ (-9223372036854775808 ≤ x3 ∧ x3 < 2 ^ 63) ∧ (a4 < 2 ^ 256) ∧ ((k5 : Int) ≤ 9223372036854775807) ∧ (Il W A5 k5 f55) ∧ (A5 = none → k5 = 0 ∧ c5 = 0) := by
  obtain ⟨b0, b1, b2, b3, b4, b5, b6, b7, b8, rfl⟩ := list_act10 cs hsz
  obtain ⟨ys, n2, _, _, _, hyl, hf⟩ := DataW.trod_struct Try.underlying62 hf
  obtain ⟨y0, y1, y2, y3, y4, y5, rfl⟩ := listy_act10 ys hyl
  have f0 : DataW.trod enc Try.prog W 0 (fun _ => true) true n2 3 (([b0, b1, b2, b3, b4, b5, b6, b7, b8].drop 0).take (Try.prog.cellsOf 3)) = some y0 := hf 0 _ rfl
  rw [cells_act10_int] at f0
  replace f0 : DataW.trod enc Try.prog W 0 (fun _ => true) true n2 3 [b0] = some y0 := f0
  have f1 : DataW.trod enc Try.prog W 0 (fun _ => true) true n2 3 (([b0, b1, b2, b3, b4, b5, b6, b7, b8].drop 1).take (Try.prog.cellsOf 3)) = some y1 := hf 1 _ rfl
  rw [cells_act10_int] at f1
  replace f1 : DataW.trod enc Try.prog W 0 (fun _ => true) true n2 3 [b1] = some y1 := f1
  have f2 : DataW.trod enc Try.prog W 0 (fun _ => true) true n2 3 (([b0, b1, b2, b3, b4, b5, b6, b7, b8].drop 2).take (Try.prog.cellsOf 3)) = some y2 := hf 2 _ rfl
  rw [cells_act10_int] at f2
  replace f2 : DataW.trod enc Try.prog W 0 (fun _ => true) true n2 3 [b2] = some y2 := f2
  have f3 : DataW.trod enc Try.prog W 0 (fun _ => true) true n2 3 (([b0, b1, b2, b3, b4, b5, b6, b7, b8].drop 3).take (Try.prog.cellsOf 3)) = some y3 := hf 3 _ rfl
  rw [cells_act10_int] at f3
  replace f3 : DataW.trod enc Try.prog W 0 (fun _ => true) true n2 3 [b3] = some y3 := f3
  have f4 : DataW.trod enc Try.prog W 0 (fun _ => true) true n2 55 (([b0, b1, b2, b3, b4, b5, b6, b7, b8].drop 4).take (Try.prog.cellsOf 55)) = some y4 := hf 4 _ rfl
  rw [cells_act10_U] at f4
  replace f4 : DataW.trod enc Try.prog W 0 (fun _ => true) true n2 55 [b4, b5, b6, b7] = some y4 := f4
  have f5 : DataW.trod enc Try.prog W 0 (fun _ => true) true n2 60 (([b0, b1, b2, b3, b4, b5, b6, b7, b8].drop 8).take (Try.prog.cellsOf 60)) = some y5 := hf 5 _ rfl
  rw [cells_act10_il] at f5
  replace f5 : DataW.trod enc Try.prog W 0 (fun _ => true) true n2 60 [b8] = some y5 := f5
  obtain ⟨x0, e0, _, w0⟩ := DataW.trod_int Try.underlying3 f0
  simp at e0
  subst e0
  have h0 := bounds_i64 w0
  obtain ⟨x1, e1, _, w1⟩ := DataW.trod_int Try.underlying3 f1
  simp at e1
  subst e1
  have h1 := bounds_i64 w1
  obtain ⟨x2, e2, _, w2⟩ := DataW.trod_int Try.underlying3 f2
  simp at e2
  subst e2
  have h2 := bounds_i64 w2
  obtain ⟨x3, e3, _, w3⟩ := DataW.trod_int Try.underlying3 f3
  simp at e3
  subst e3
  have h3 := bounds_i64 w3
  obtain ⟨a4, ha4, rfl, rfl, rfl, rfl⟩ := open_u_act10 f4
  obtain ⟨A5, k5, c5, f55, rfl, hn5, hl5, hz5⟩ := open_il_act10 f5
  exact ⟨x0, x1, x2, x3, a4, A5, k5, c5, f55, rfl, ⟨by omega, by omega⟩, ⟨by omega, by omega⟩, ⟨by omega, by omega⟩, ⟨by omega, by omega⟩, ha4, hn5, hl5, hz5⟩
set_option maxRecDepth 100000 in
theorem open_act10s {v : Value} {d : DataW H} {p : List MemPlace} (hv : Value.okWide Try.prog W .any base 51 v) (h : DataW.Trod enc Try.prog W 0 (fun _ => true) true 51 v d p) :
    ∃ A N C x0 x1 x2 x3 a4 A5 k5 c5 f55, v = .slice A N C ∧ (A = none → N = 0 ∧ C = 0) ∧ N ≤ C ∧ C ≤ 9223372036854775807 ∧ act10sAt W A N x0 x1 x2 x3 a4 A5 k5 c5 f55 := by
  obtain ⟨a0, N, C, rfl⟩ := okWide_slice Try.underlying51 hv
  obtain ⟨fuel, hf⟩ := h
  rcases Go.Deep.open_slice Try.underlying51 hf with ⟨hcs, hx⟩ | ⟨a, len, cap, m, n, D, Pl, hcs, hb, hl, hm, hmm, _, hx⟩
  · simp [Value.cells] at hcs
    obtain ⟨rfl, rfl, rfl⟩ := hcs
    exact ⟨none, 0, 0, fun _ => 0, fun _ => 0, fun _ => 0, fun _ => 0, fun _ => 0, fun _ => none, fun _ => 0, fun _ => 0, fun _ => fun _ => 0, rfl, fun _ => ⟨rfl, rfl⟩, Nat.le_refl _, by decide, ⟨RowsV.nil _ _ _ _, fun i h => absurd h (by omega), fun i h => absurd h (by omega), fun i h => absurd h (by omega), fun i h => absurd h (by omega), fun i h => absurd h (by omega), fun i h => absurd h (by omega), fun i h => absurd h (by omega), fun i h => absurd h (by omega)⟩⟩
  · simp only [Value.cells, List.cons.injEq, Value.slice.injEq, and_true] at hcs
    obtain ⟨rfl, rfl, rfl⟩ := hcs
    simp only [if_true] at hmm
    subst hmm
    rw [cells_act10] at hx
    obtain ⟨y, hy⟩ := Go.Deep.choose_lt (α := (Int) × (Int) × (Int) × (Int) × (Nat) × (Option Addr) × (Nat) × (Nat) × (Nat → Int)) (n := m) (p := fun i y => W.cells? 0 (a.add (i * 9)) 9 = some [.int .i64 y.1, .int .i64 y.2.1, .int .i64 y.2.2.1, .int .i64 y.2.2.2.1, .int .u64 (limb y.2.2.2.2.1 0 : Nat), .int .u64 (limb y.2.2.2.2.1 1 : Nat), .int .u64 (limb y.2.2.2.2.1 2 : Nat), .int .u64 (limb y.2.2.2.2.1 3 : Nat), .slice y.2.2.2.2.2.1 y.2.2.2.2.2.2.1 y.2.2.2.2.2.2.2.1] ∧ (-9223372036854775808 ≤ y.1 ∧ y.1 < 2 ^ 63) ∧ (-9223372036854775808 ≤ y.2.1 ∧ y.2.1 < 2 ^ 63) ∧ (-9223372036854775808 ≤ y.2.2.1 ∧ y.2.2.1 < 2 ^ 63) ∧ (-9223372036854775808 ≤ y.2.2.2.1 ∧ y.2.2.2.1 < 2 ^ 63) ∧ (y.2.2.2.2.1 < 2 ^ 256) ∧ ((y.2.2.2.2.2.2.1 : Int) ≤ 9223372036854775807) ∧ (Il W y.2.2.2.2.2.1 y.2.2.2.2.2.2.1 y.2.2.2.2.2.2.2.2) ∧ (y.2.2.2.2.2.1 = none → y.2.2.2.2.2.2.1 = 0 ∧ y.2.2.2.2.2.2.2.1 = 0)) (fun i hi => by
      obtain ⟨cs, h1, h2⟩ := hx i hi
      obtain ⟨x0, x1, x2, x3, a4, A5, k5, c5, f55, rfl, g0, g1, g2, g3, g4, g5, g6, g7⟩ := open_act10_row h2 (World.cells?_some h1).2.1
      exact ⟨(x0, x1, x2, x3, a4, A5, k5, c5, f55), h1, g0, g1, g2, g3, g4, g5, g6, g7⟩)
    unfold maxLen at hm
    refine ⟨some a, N, m, fun i => (y i).1, fun i => (y i).2.1, fun i => (y i).2.2.1, fun i => (y i).2.2.2.1, fun i => (y i).2.2.2.2.1, fun i => (y i).2.2.2.2.2.1, fun i => (y i).2.2.2.2.2.2.1, fun i => (y i).2.2.2.2.2.2.2.1, fun i => (y i).2.2.2.2.2.2.2.2, rfl, (fun h => by cases h), hl, by omega, ⟨RowsV.of_cells (by decide) fun i hi => (hy i (by omega)).1, fun i hi => (hy i (by omega)).2.1, fun i hi => (hy i (by omega)).2.2.1, fun i hi => (hy i (by omega)).2.2.2.1, fun i hi => (hy i (by omega)).2.2.2.2.1, fun i hi => (hy i (by omega)).2.2.2.2.2.1, fun i hi => (hy i (by omega)).2.2.2.2.2.2.1, fun i hi => (hy i (by omega)).2.2.2.2.2.2.2.1, fun i hi => (hy i (by omega)).2.2.2.2.2.2.2.2⟩⟩
/-- N numbers at A -/
structure usAt (W : World) (A : Option Addr) (N : Nat) (g : Nat → Nat) : Prop where
  rows : RowsV W A N 4 (fun i => [.int .u64 (limb (g i) 0 : Nat), .int .u64 (limb (g i) 1 : Nat), .int .u64 (limb (g i) 2 : Nat), .int .u64 (limb (g i) 3 : Nat)])
  f0 : ∀ i, i < N → g i < 2 ^ 256
set_option maxRecDepth 100000 in
theorem open_us {v : Value} {d : DataW H} {p : List MemPlace} (hv : Value.okWide Try.prog W .any base 50 v) (h : DataW.Trod enc Try.prog W 0 (fun _ => true) true 50 v d p) :
    ∃ A N C g, v = .slice A N C ∧ (A = none → N = 0 ∧ C = 0) ∧ N ≤ C ∧ C ≤ 9223372036854775807 ∧ usAt W A N g := by
  obtain ⟨a0, N, C, rfl⟩ := okWide_slice Try.underlying50 hv
  obtain ⟨fuel, hf⟩ := h
  rcases Go.Deep.open_slice Try.underlying50 hf with ⟨hcs, hx⟩ | ⟨a, len, cap, m, n, D, Pl, hcs, hb, hl, hm, hmm, _, hx⟩
  · simp [Value.cells] at hcs
    obtain ⟨rfl, rfl, rfl⟩ := hcs
    exact ⟨none, 0, 0, fun _ => 0, rfl, fun _ => ⟨rfl, rfl⟩, Nat.le_refl _, by decide, ⟨RowsV.nil _ _ _ _, fun i h => absurd h (by omega)⟩⟩
  · simp only [Value.cells, List.cons.injEq, Value.slice.injEq, and_true] at hcs
    obtain ⟨rfl, rfl, rfl⟩ := hcs
    simp only [if_true] at hmm
    subst hmm
    rw [cells_act10_U] at hx
    obtain ⟨y, hy⟩ := Go.Deep.choose_lt (α := Nat) (n := m) (p := fun i y => W.cells? 0 (a.add (i * 4)) 4 = some [.int .u64 (limb y 0 : Nat), .int .u64 (limb y 1 : Nat), .int .u64 (limb y 2 : Nat), .int .u64 (limb y 3 : Nat)] ∧ y < 2 ^ 256) (fun i hi => by
      obtain ⟨cs, h1, h2⟩ := hx i hi
      obtain ⟨b0, b1, b2, b3, rfl⟩ := list4 cs (World.cells?_some h1).2.1
      obtain ⟨z, hz, rfl, rfl, rfl, rfl⟩ := open_u_act10 h2
      exact ⟨z, h1, hz⟩)
    unfold maxLen at hm
    exact ⟨some a, N, m, y, rfl, (fun h => by cases h), hl, by omega, ⟨RowsV.of_cells (by decide) fun i hi => (hy i (by omega)).1, fun i hi => (hy i (by omega)).2⟩⟩
end
end Go.Proofs.Ytbfmhafmncnhfaa

namespace Go.Proofs.Ytbfmhafmncnhfaa
open Go.RowKit Go.Maps Go.Sort

abbrev A10Rows (w : World) (A : Option Addr) (N : Nat) (x0 x1 x2 x3 : Nat → Int) (a4 : Nat → Nat) (A5 : Nat → Option Addr) (k5 c5 : Nat → Nat) : Prop := RowsV w A N 9 (fun i => [.int .i64 (x0 i), .int .i64 (x1 i), .int .i64 (x2 i), .int .i64 (x3 i), .int .u64 (limb (a4 i) 0 : Nat), .int .u64 (limb (a4 i) 1 : Nat), .int .u64 (limb (a4 i) 2 : Nat), .int .u64 (limb (a4 i) 3 : Nat), .slice (A5 i) (k5 i) (c5 i)])
set_option maxRecDepth 100000 in
set_option maxHeartbeats 1000000 in
/-- light of any row of acts -/
theorem light10_rows (A : Option Addr) (N C : Nat) (x0 x1 x2 x3 : Nat → Int) (a4 : Nat → Nat) (A5 : Nat → Option Addr) (k5 c5 : Nat → Nat) (w : World) (hr : A10Rows w A N x0 x1 x2 x3 a4 A5 k5 c5) (hN : (N : Int) ≤ 9223372036854775807)
    (B : Bool) (hB : B = true ↔ N ≤ 200 ∧ ∀ j, j < N → k5 j ≤ 20) :
    Calls Try.prog 25 #[.slice A N C] w fun e w' => e = .returned (.bool B) ∧ Below w.heap.size w w' := by
  have HR := Lib.hid hr
  have HBB := Lib.hid hB
  clear hr hB
  by_cases h1 : N ≤ 200
  · have p1 : ¬ (200 : Int) < (N : Int) := by omega
    go_enter Try.func25, Try.ntmps25
    go_wp2
    go_loopw [10] (fun i wr => ∃ (j : Nat), j ≤ N ∧ i = .int .i64 (j : Nat) ∧ (∀ t, t < j → k5 t ≤ 20) ∧ Below w.heap.size w wr) (fun i _ => N - (intOf i).toNat)
    case atStart => exact ⟨0, by omega, rfl, fun t h => absurd h (Nat.not_lt_zero _), Below.refl _ _⟩
    case round =>
      obtain ⟨j, hj, rfl, hall, hb⟩ := hrel
      have HB := Lib.hid hb
      have HZ := Lib.hid hall
      by_cases hlt : j < N
      · have p2 : (j : Int) < (N : Int) := by omega
        obtain ⟨g, o, rfl, hg, hc⟩ := (RowsV.below HR.out hb) (by omega)
        have d0 := hc j hlt 0 _ rfl
        have d1 := hc j hlt 1 _ rfl
        have d2 := hc j hlt 2 _ rfl
        have d3 := hc j hlt 3 _ rfl
        have d4 := hc j hlt 4 _ rfl
        have d5 := hc j hlt 5 _ rfl
        have d6 := hc j hlt 6 _ rfl
        have d7 := hc j hlt 7 _ rfl
        have d8 := hc j hlt 8 _ rfl
        simp only [Nat.add_zero] at d0
        obtain ⟨k, ek⟩ : ∃ y, y = k5 j := ⟨_, rfl⟩
        rw [← ek] at d8
        have HK := Lib.hid ek
        clear hb hc hall ek
        by_cases h20 : k ≤ 20
        · have p3 : ¬ (20 : Int) < (k : Int) := by omega
          go_wp2
          exact ⟨⟨j + 1, by omega, by go_num, fun t ht => by
            rcases (by omega : t < j ∨ t = j) with h | rfl
            · exact HZ.out t h
            · rw [← HK.out]; exact h20, HB.out.alloc HB.out.size _⟩, by simp [intOf]; omega⟩
        · have p3 : (20 : Int) < (k : Int) := by omega
          have e0 : B = false := by
            cases hBv : B with
            | false => rfl
            | true => exact absurd ((HBB.out.1 hBv).2 j hlt) (by rw [← HK.out]; exact h20)
          subst e0
          go_wp2
          go_ret
          exact ⟨rfl, HB.out.alloc HB.out.size _⟩
      · obtain rfl : j = N := by omega
        have p2 : ¬ (j : Int) < (j : Int) := by omega
        have e0 : B = true := HBB.out.2 ⟨h1, hall⟩
        subst e0
        clear hb hall
        go_wp2
        go_ret
        exact ⟨rfl, HB.out⟩
  · have p1 : (200 : Int) < (N : Int) := by omega
    have e0 : B = false := by
      cases hBv : B with
      | false => rfl
      | true => exact absurd (HBB.out.1 hBv).1 h1
    subst e0
    go_enter Try.func25, Try.ntmps25
    go_wp2
    go_ret
    exact ⟨rfl, Below.refl _ _⟩
end Go.Proofs.Ytbfmhafmncnhfaa

namespace Go.Proofs.Ytbfmhafmncnhfaa
open Go.RowKit

/-- Σ i < k, f i * 2^(32 i) -/
def nval (f : Nat → Nat) : Nat → Nat
  | 0 => 0
  | k + 1 => nval f k + f k * 2 ^ (32 * k)
theorem nval_congr {f g : Nat → Nat} : ∀ k, (∀ i, i < k → f i = g i) → nval f k = nval g k
  | 0, _ => rfl
  | k + 1, h => by simp only [nval]; rw [nval_congr k (fun i hi => h i (by omega)), h k (by omega)]
theorem pow_succ32 (k : Nat) : 2 ^ (32 * (k + 1)) = 2 ^ 32 * 2 ^ (32 * k) := by rw [← Nat.pow_add]; congr 1; omega
theorem nval_lt {f : Nat → Nat} : ∀ k, (∀ i, i < k → f i < 2 ^ 32) → nval f k < 2 ^ (32 * k)
  | 0, _ => by simp [nval]
  | k + 1, h => by
    have h1 := nval_lt k (fun i hi => h i (by omega))
    have h2 : f k + 1 ≤ 2 ^ 32 := h k (by omega)
    have h3 := Nat.mul_le_mul_right (2 ^ (32 * k)) h2
    simp only [nval]; rw [pow_succ32]; rw [Nat.add_mul] at h3; omega
theorem nval_top {f : Nat → Nat} {k : Nat} : ∀ {n : Nat}, k ≤ n → (∀ i, k ≤ i → i < n → f i = 0) → nval f n = nval f k
  | 0, hk, _ => by rw [show k = 0 by omega]
  | n + 1, hk, h => by
    rcases Nat.eq_or_lt_of_le hk with e | e
    · rw [e]
    · simp only [nval]; rw [h n (by omega) (by omega), nval_top (n := n) (by omega) (fun i h1 h2 => h i h1 (by omega))]; omega
/-- the k-th word of 32 bits -/
def w32 (n i : Nat) : Nat := n / 2 ^ (32 * i) % 2 ^ 32
theorem w32_lt (n i : Nat) : w32 n i < 2 ^ 32 := Nat.mod_lt _ (by decide)
theorem nval_w32 (n : Nat) : ∀ k, nval (w32 n) k = n % 2 ^ (32 * k)
  | 0 => by simp [nval, Nat.mod_one]
  | k + 1 => by
    simp only [nval]; rw [nval_w32 n k, w32, pow_succ32, Nat.mul_comm (2 ^ 32), Nat.mod_mul, Nat.mul_comm (n / 2 ^ (32 * k) % 2 ^ 32)]

/-- v is a slice of n words of 32 bits, f's values -/
structure Ws (w : World) (v : Value) (n : Nat) (f : Nat → Nat) : Prop where
  small : ∀ i, f i < 2 ^ 32
  at_ : (v = .slice none 0 0 ∧ n = 0) ∨ ∃ g o c, v = .slice (some ⟨g, o, none⟩) n c ∧ n ≤ c ∧ g < w.heap.size ∧ ∀ i, i < n → w.cell? ⟨g, o + i, none⟩ = some (.int .u32 (f i : Nat))
theorem Ws.below {w w' : World} {v : Value} {n : Nat} {f : Nat → Nat} (h : Ws w v n f) (hb : Below w.heap.size w w') : Ws w' v n f := by
  refine ⟨h.small, ?_⟩
  rcases h.at_ with h1 | ⟨g, o, c, e, hc, hg, hx⟩
  · exact .inl h1
  · exact .inr ⟨g, o, c, e, hc, Nat.lt_of_lt_of_le hg hb.size, fun i hi => by rw [hb.cell (p := ⟨g, o + i, none⟩) hg]; exact hx i hi⟩
theorem Ws.cut {w : World} {g o c n k : Nat} {f : Nat → Nat} (h : Ws w (.slice (some ⟨g, o, none⟩) n c) n f) (hk : k ≤ n) : Ws w (.slice (some ⟨g, o, none⟩) k c) k f := by
  refine ⟨h.small, ?_⟩
  rcases h.at_ with ⟨h1, _⟩ | ⟨g', o', c', e, hc, hg, hx⟩
  · cases h1
  · cases e
    exact .inr ⟨g, o, c, rfl, by omega, hg, fun i hi => hx i (by omega)⟩
/-- without noughts above -/
def Trimmed (n : Nat) (f : Nat → Nat) : Prop := n = 0 ∨ f (n - 1) ≠ 0
def TrimPost (w : World) (n : Nat) (f : Nat → Nat) (e : Ending) (w' : World) : Prop :=
  ∃ v k, e = .returned v ∧ k ≤ n ∧ Ws w v k f ∧ nval f k = nval f n ∧ Trimmed k f ∧ w' = w
def TrimRel (n : Nat) (f : Nat → Nat) (w : World) (x : Value) (wr : World) : Prop :=
  ∃ k : Nat, k ≤ n ∧ x = .int .i64 (k : Nat) ∧ (∀ i, k ≤ i → i < n → f i = 0) ∧ wr = w

set_option maxRecDepth 100000 in
set_option maxHeartbeats 1000000 in
theorem trim_walk (v : Value) (n : Nat) (f : Nat → Nat) (w : World) (h : Ws w v n f) (hn : n ≤ 1000) : Calls Try.prog 76 #[v] w (TrimPost w n f) := by
  rcases h.at_ with ⟨rfl, rfl⟩ | ⟨g, o, c, rfl, hc, hg, hx⟩
  · go_enter Try.func76, Try.ntmps76
    go_wp2
    go_loopw [3] (TrimRel 0 f w) (fun x _ => (intOf x).toNat)
    case atStart => exact ⟨0, Nat.le_refl _, rfl, fun i _ h => absurd h (by omega), rfl⟩
    case round =>
      obtain ⟨k, hk, rfl, hz, rfl⟩ := hrel
      obtain rfl : k = 0 := by omega
      go_wp2
      go_ret
      exact ⟨_, 0, rfl, Nat.le_refl _, h, rfl, .inl rfl, rfl⟩
  · go_enter Try.func76, Try.ntmps76
    go_wp2
    go_loopw [3] (TrimRel n f w) (fun x _ => (intOf x).toNat)
    case atStart => exact ⟨n, Nat.le_refl _, rfl, fun i h1 h2 => absurd h2 (by omega), rfl⟩
    case round =>
      obtain ⟨k, hk, rfl, hz, rfl⟩ := hrel
      have hkc : (k : Int) ≤ (c : Int) := by omega
      by_cases hk0 : k = 0
      · have q1 : ¬ (0 : Int) < (k : Int) := by omega
        have Hk0 := Lib.hid hk0
        have Hz := Lib.hid hz
        have Hh := Lib.hid h
        clear hk0 hz h hx
        go_wp2
        go_ret
        exact ⟨_, k, rfl, by omega, Hh.out.cut (by omega), (nval_top hk Hz.out).symm, .inl Hk0.out, rfl⟩
      · obtain ⟨m, hm⟩ : ∃ m, k = m + 1 := ⟨k - 1, by omega⟩
        have q1 : (0 : Int) < (k : Int) := by omega
        have q2 : IntKind.i64.wrap ((k : Int) - 1) = (k : Int) - 1 := IntWalk.i64_in _ (by omega)
        have q3 : ((k : Int) - 1).toNat = m := by omega
        have q4 : (0 : Int) ≤ (k : Int) - 1 := by omega
        have q5 : (k : Int) - 1 < (n : Int) := by omega
        have c1 := hx m (by omega)
        have Hm := Lib.hid hm
        have Hz := Lib.hid hz
        have Hh := Lib.hid h
        clear hm hz h hx
        by_cases h0 : f m = 0
        · have q6 : ((f m : Int) == 0) = true := by rw [h0]; rfl
          have H0 := Lib.hid h0
          clear h0
          go_wp2
          go_roundw
          case rel =>
            refine ⟨m, by have := Hm.out; omega, by congr 1; have := Hm.out; omega, fun i h1 h2 => ?_, rfl⟩
            rcases Nat.eq_or_lt_of_le h1 with e | e
            · rw [← e]; exact H0.out
            · exact Hz.out i (by have := Hm.out; omega) h2
          case measure => simp [intOf]; omega
        · have q6 : ((f m : Int) == 0) = false := by rw [beq_eq_false_iff_ne]; omega
          have H0 := Lib.hid h0
          clear h0
          go_wp2
          go_ret
          exact ⟨_, k, rfl, by omega, Hh.out.cut (by omega), (nval_top hk Hz.out).symm, .inr (by rw [Hm.out, Nat.add_sub_cancel]; exact H0.out), rfl⟩
end Go.Proofs.Ytbfmhafmncnhfaa
