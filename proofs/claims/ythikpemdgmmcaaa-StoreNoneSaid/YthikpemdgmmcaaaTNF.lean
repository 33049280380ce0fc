/- How an act on a store that comes in is opened. -/
import Derived.Test.YthikpemdgmmcaaaWFF
import Derived.Test.YthikpemdgmmcaaaStoreNone
import Derived.Deep.Slices
import Derived.ChangeSame
namespace Go.Proofs.Ythikpemdgmmcaaa
open Go.ChangeShapes Go.WideShapes Go.ChangeAt Go.RowKit

theorem cellsAct08 : Try.prog.cellsOf 23 = 4 := by kernel_rfl
theorem cellsIntS : Try.prog.cellsOf 3 = 1 := by kernel_rfl
theorem cellsStrS : Try.prog.cellsOf 9 = 1 := by kernel_rfl
theorem list4 {α : Type} (l : List α) (h : l.length = 4) : ∃ a b c d, l = [a, b, c, d] := by
  match l, h with
  | [a, b, c, d], _ => exact ⟨a, b, c, d, rfl⟩
section
variable {H : Type} {enc : TypeId × Value → H} {W : World} {base : Nat}
set_option maxRecDepth 100000 in
theorem open_act08 {v : Value} {d : DataW H} {p : List MemPlace} (hv : Value.okWide Try.prog W .any base 23 v) (h : DataW.Trod enc Try.prog W 0 (fun _ => true) true 23 v d p) :
    ∃ c k v0 n, v = .agg #[.int .i64 c, .string k, .string v0, .int .i64 n] := by
  obtain ⟨cs, rfl, hsz, _⟩ : ∃ cs, v = .agg cs ∧ cs.size = Try.prog.cellsOf 23 ∧ Row.okWide Try.prog W .any base 23 cs := by
    simpa [Value.okWide, Try.underlying23] using hv
  rw [cellsAct08] at hsz
  obtain ⟨l⟩ := cs
  obtain ⟨b0, b1, b2, b3, rfl⟩ := list4 l hsz
  obtain ⟨fuel, hf⟩ := h
  obtain ⟨ys, n2, _, _, _, hyl, hf⟩ := DataW.trod_struct Try.underlying23 hf
  obtain ⟨y0, y1, y2, y3, rfl⟩ := list4 ys hyl
  have f0 : DataW.trod enc Try.prog W 0 (fun _ => true) true n2 3 (([b0, b1, b2, b3].drop 0).take (Try.prog.cellsOf 3)) = some y0 := hf 0 _ rfl
  have f1 : DataW.trod enc Try.prog W 0 (fun _ => true) true n2 9 (([b0, b1, b2, b3].drop 1).take (Try.prog.cellsOf 9)) = some y1 := hf 1 _ rfl
  have f2 : DataW.trod enc Try.prog W 0 (fun _ => true) true n2 9 (([b0, b1, b2, b3].drop 2).take (Try.prog.cellsOf 9)) = some y2 := hf 2 _ rfl
  have f3 : DataW.trod enc Try.prog W 0 (fun _ => true) true n2 3 (([b0, b1, b2, b3].drop 3).take (Try.prog.cellsOf 3)) = some y3 := hf 3 _ rfl
  rw [cellsIntS] at f0 f3
  rw [cellsStrS] at f1 f2
  replace f0 : DataW.trod enc Try.prog W 0 (fun _ => true) true n2 3 [b0] = some y0 := f0
  replace f1 : DataW.trod enc Try.prog W 0 (fun _ => true) true n2 9 [b1] = some y1 := f1
  replace f2 : DataW.trod enc Try.prog W 0 (fun _ => true) true n2 9 [b2] = some y2 := f2
  replace f3 : DataW.trod enc Try.prog W 0 (fun _ => true) true n2 3 [b3] = some y3 := f3
  obtain ⟨x0, e0, _, w0⟩ := DataW.trod_int Try.underlying3 f0
  obtain ⟨x1, e1, _⟩ := DataW.trod_string Try.underlying9 f1
  obtain ⟨x2, e2, _⟩ := DataW.trod_string Try.underlying9 f2
  obtain ⟨x3, e3, _, w3⟩ := DataW.trod_int Try.underlying3 f3
  simp at e0 e1 e2 e3
  subst e0 e1 e2 e3
  exact ⟨x0, x1, x2, x3, rfl⟩
end
end Go.Proofs.Ythikpemdgmmcaaa
