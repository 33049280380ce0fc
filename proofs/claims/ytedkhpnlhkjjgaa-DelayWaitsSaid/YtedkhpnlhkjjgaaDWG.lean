/- How tallage/tallagelaw28.Act that comes in is opened. -/
import Derived.Test.YtedkhpnlhkjjgaaDWF
import Derived.OpenShut
import Derived.ChangeOld
import Derived.ChangeSlices
import Derived.Carry
import Derived.Deep.Slices
import Derived.ChangeSame
import Derived.Laws.IdiomArrays
namespace Go.Proofs.Ytedkhpnlhkjjgaa
open Go.ChangeShapes Go.WideShapes Go.ChangeAt Go.RowKit

theorem cells_act28a : Try.prog.cellsOf 93 = 4 := by kernel_rfl
theorem cells_act28a_il : Try.prog.cellsOf 30 = 1 := by kernel_rfl
theorem cells_act28a_int : Try.prog.cellsOf 3 = 1 := by kernel_rfl
theorem list_act28a {α : Type} (l : List α) (h : l.length = 4) : ∃ b0 b1 b2 b3, l = [b0, b1, b2, b3] := by
  match l, h with
  | [b0, b1, b2, b3], _ => exact ⟨b0, b1, b2, b3, rfl⟩
section
variable {H : Type} {enc : TypeId × Value → H} {W : World} {base : Nat}
set_option maxRecDepth 100000 in
theorem open_il_act28a {b : Value} {m : Nat} {y : DataW H × List MemPlace} (hf : DataW.trod enc Try.prog W 0 (fun _ => true) true m 30 [b] = some y) :
    ∃ A n c f, b = .slice A n c ∧ (n : Int) ≤ 9223372036854775807 ∧ Il W A n f ∧ (A = none → n = 0 ∧ c = 0) := by
  rcases open_ints Try.underlying30 Try.underlying3 (show Try.prog.cellsOf 3 = 1 by kernel_rfl) hf with ⟨hcs, hx⟩ | ⟨a, n, c, zs, hcs, _, hl, hm, hz, hx, hcell, hwz⟩
  · simp only [List.cons.injEq, and_true] at hcs
    subst hcs
    exact ⟨none, 0, 0, fun _ => 0, rfl, by decide, ⟨fun _ => by show (0 : Int) < 2 ^ 63; decide, fun h => absurd h (by omega)⟩, fun _ => ⟨rfl, rfl⟩⟩
  · simp only [List.cons.injEq, and_true] at hcs
    subst hcs
    simp only [if_true] at hz
    refine ⟨some a, n, c, fun i => zs.getD i 0, rfl, ?_, ⟨fun i => ?_, fun hn => ?_⟩, fun h => by cases h⟩
    · have hh := hm
      simp [maxLen] at hh
      omega
    · rcases Nat.lt_or_ge i zs.length with hi | hi
      · have := bounds_i64 (hwz (zs.getD i 0) (by simp [List.getD, List.getElem?_eq_getElem hi]))
        show zs.getD i 0 < 2 ^ 63
        omega
      · simp only [List.getD, List.getElem?_eq_none hi, Option.getD_none]; decide
    · have hc0 := hcell 0 (by omega)
      have hlt := World.block_lt_of_cell? W _ hc0
      obtain ⟨g, o, sp⟩ := a
      have hspot : sp = none := by simpa [Addr.add] using World.cell?_spot hc0
      subst hspot
      exact ⟨g, o, rfl, hlt, fun i hi => by rw [← add_plain]; exact hcell i (by omega)⟩
set_option maxRecDepth 100000 in
theorem open_act28a {v : Value} {d : DataW H} {p : List MemPlace} (hv : Value.okWide Try.prog W .any base 93 v) (h : DataW.Trod enc Try.prog W 0 (fun _ => true) true 93 v d p) :
    ∃ A0 k0 c0 f50 x1 x2 x3, v = .agg #[.slice A0 k0 c0, .int .i64 x1, .int .i64 x2, .int .i64 x3] ∧ ((k0 : Int) ≤ 9223372036854775807) ∧ (Il W A0 k0 f50) ∧ (A0 = none → k0 = 0 ∧ c0 = 0) ∧ (-9223372036854775808 ≤ x1 ∧ x1 < 2 ^ 63) ∧ (-9223372036854775808 ≤ x2 ∧ x2 < 2 ^ 63) ∧ (-9223372036854775808 ≤ x3 ∧ x3 < 2 ^ 63) := by
  obtain ⟨cs, rfl, hsz, _⟩ : ∃ cs, v = .agg cs ∧ cs.size = Try.prog.cellsOf 93 ∧ Row.okWide Try.prog W .any base 93 cs := by
    simpa [Value.okWide, Try.underlying93] using hv
  rw [cells_act28a] at hsz
  obtain ⟨l⟩ := cs
  obtain ⟨b0, b1, b2, b3, rfl⟩ := list_act28a l hsz
  obtain ⟨fuel, hf⟩ := h
  obtain ⟨ys, n2, _, _, _, hyl, hf⟩ := DataW.trod_struct Try.underlying93 hf
  obtain ⟨y0, y1, y2, y3, rfl⟩ := list_act28a ys hyl
  have f0 : DataW.trod enc Try.prog W 0 (fun _ => true) true n2 30 (([b0, b1, b2, b3].drop 0).take (Try.prog.cellsOf 30)) = some y0 := hf 0 _ rfl
  rw [cells_act28a_il] at f0
  replace f0 : DataW.trod enc Try.prog W 0 (fun _ => true) true n2 30 [b0] = some y0 := f0
  have f1 : DataW.trod enc Try.prog W 0 (fun _ => true) true n2 3 (([b0, b1, b2, b3].drop 1).take (Try.prog.cellsOf 3)) = some y1 := hf 1 _ rfl
  rw [cells_act28a_int] at f1
  replace f1 : DataW.trod enc Try.prog W 0 (fun _ => true) true n2 3 [b1] = some y1 := f1
  have f2 : DataW.trod enc Try.prog W 0 (fun _ => true) true n2 3 (([b0, b1, b2, b3].drop 2).take (Try.prog.cellsOf 3)) = some y2 := hf 2 _ rfl
  rw [cells_act28a_int] at f2
  replace f2 : DataW.trod enc Try.prog W 0 (fun _ => true) true n2 3 [b2] = some y2 := f2
  have f3 : DataW.trod enc Try.prog W 0 (fun _ => true) true n2 3 (([b0, b1, b2, b3].drop 3).take (Try.prog.cellsOf 3)) = some y3 := hf 3 _ rfl
  rw [cells_act28a_int] at f3
  replace f3 : DataW.trod enc Try.prog W 0 (fun _ => true) true n2 3 [b3] = some y3 := f3
  obtain ⟨A0, k0, c0, f50, rfl, hn0, hl0, hz0⟩ := open_il_act28a f0
  obtain ⟨x1, e1, _, w1⟩ := DataW.trod_int Try.underlying3 f1
  simp at e1
  subst e1
  have h1 := bounds_i64 w1
  obtain ⟨x2, e2, _, w2⟩ := DataW.trod_int Try.underlying3 f2
  simp at e2
  subst e2
  have h2 := bounds_i64 w2
  obtain ⟨x3, e3, _, w3⟩ := DataW.trod_int Try.underlying3 f3
  simp at e3
  subst e3
  have h3 := bounds_i64 w3
  exact ⟨A0, k0, c0, f50, x1, x2, x3, rfl, hn0, hl0, hz0, ⟨by omega, by omega⟩, ⟨by omega, by omega⟩, ⟨by omega, by omega⟩⟩
end
end Go.Proofs.Ytedkhpnlhkjjgaa
