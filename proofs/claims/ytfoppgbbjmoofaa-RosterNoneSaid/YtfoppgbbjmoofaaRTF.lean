/- How tallage/tallagelaw21.Act that comes in is opened. -/
import Derived.Test.YtfoppgbbjmoofaaWFF
import Derived.Test.YtfoppgbbjmoofaaRosterNone
import Derived.OpenShut
import Derived.ChangeOld
import Derived.ChangeSlices
import Derived.Carry
import Derived.Deep.Slices
import Derived.ChangeSame
import Derived.Laws.IdiomArrays
namespace Go.Proofs.Ytfoppgbbjmoofaa
open Go.ChangeShapes Go.WideShapes Go.ChangeAt Go.RowKit

theorem cells_act21 : Try.prog.cellsOf 43 = 3 := by kernel_rfl
theorem cells_act21_int : Try.prog.cellsOf 3 = 1 := by kernel_rfl
theorem list_act21 {α : Type} (l : List α) (h : l.length = 3) : ∃ b0 b1 b2, l = [b0, b1, b2] := by
  match l, h with
  | [b0, b1, b2], _ => exact ⟨b0, b1, b2, rfl⟩
section
variable {H : Type} {enc : TypeId × Value → H} {W : World} {base : Nat}
set_option maxRecDepth 100000 in
theorem open_act21 {v : Value} {d : DataW H} {p : List MemPlace} (hv : Value.okWide Try.prog W .any base 43 v) (h : DataW.Trod enc Try.prog W 0 (fun _ => true) true 43 v d p) :
    ∃ x0 x1 x2, v = .agg #[.int .i64 x0, .int .i64 x1, .int .i64 x2] ∧ (-9223372036854775808 ≤ x0 ∧ x0 < 2 ^ 63) ∧ (-9223372036854775808 ≤ x1 ∧ x1 < 2 ^ 63) ∧ (-9223372036854775808 ≤ x2 ∧ x2 < 2 ^ 63) := by
  obtain ⟨cs, rfl, hsz, _⟩ : ∃ cs, v = .agg cs ∧ cs.size = Try.prog.cellsOf 43 ∧ Row.okWide Try.prog W .any base 43 cs := by
    simpa [Value.okWide, Try.underlying43] using hv
  rw [cells_act21] at hsz
  obtain ⟨l⟩ := cs
  obtain ⟨b0, b1, b2, rfl⟩ := list_act21 l hsz
  obtain ⟨fuel, hf⟩ := h
  obtain ⟨ys, n2, _, _, _, hyl, hf⟩ := DataW.trod_struct Try.underlying43 hf
  obtain ⟨y0, y1, y2, rfl⟩ := list_act21 ys hyl
  have f0 : DataW.trod enc Try.prog W 0 (fun _ => true) true n2 3 (([b0, b1, b2].drop 0).take (Try.prog.cellsOf 3)) = some y0 := hf 0 _ rfl
  rw [cells_act21_int] at f0
  replace f0 : DataW.trod enc Try.prog W 0 (fun _ => true) true n2 3 [b0] = some y0 := f0
  have f1 : DataW.trod enc Try.prog W 0 (fun _ => true) true n2 3 (([b0, b1, b2].drop 1).take (Try.prog.cellsOf 3)) = some y1 := hf 1 _ rfl
  rw [cells_act21_int] at f1
  replace f1 : DataW.trod enc Try.prog W 0 (fun _ => true) true n2 3 [b1] = some y1 := f1
  have f2 : DataW.trod enc Try.prog W 0 (fun _ => true) true n2 3 (([b0, b1, b2].drop 2).take (Try.prog.cellsOf 3)) = some y2 := hf 2 _ rfl
  rw [cells_act21_int] at f2
  replace f2 : DataW.trod enc Try.prog W 0 (fun _ => true) true n2 3 [b2] = some y2 := f2
  obtain ⟨x0, e0, _, w0⟩ := DataW.trod_int Try.underlying3 f0
  simp at e0
  subst e0
  have h0 := bounds_i64 w0
  obtain ⟨x1, e1, _, w1⟩ := DataW.trod_int Try.underlying3 f1
  simp at e1
  subst e1
  have h1 := bounds_i64 w1
  obtain ⟨x2, e2, _, w2⟩ := DataW.trod_int Try.underlying3 f2
  simp at e2
  subst e2
  have h2 := bounds_i64 w2
  exact ⟨x0, x1, x2, rfl, ⟨by omega, by omega⟩, ⟨by omega, by omega⟩, ⟨by omega, by omega⟩⟩
end
end Go.Proofs.Ytfoppgbbjmoofaa
