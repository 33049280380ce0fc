/- How settings that come in are opened. -/
import Derived.Test.YtdffnehblhehpaaDoorWFF
import Derived.Deep.Slices
import Derived.ChangeSame
namespace Go.Proofs.YtdffnehblhehpaaDoor
open Go.ChangeShapes Go.WideShapes Go.ChangeAt Go.RowKit

theorem cellsSettings : Tryd.prog.cellsOf 23 = 7 := by kernel_rfl
theorem cellsIntS : Tryd.prog.cellsOf 3 = 1 := by kernel_rfl
theorem list7 {α : Type} (l : List α) (h : l.length = 7) : ∃ a b c d e f g, l = [a, b, c, d, e, f, g] := by
  match l, h with
  | [a, b, c, d, e, f, g], _ => exact ⟨a, b, c, d, e, f, g, rfl⟩
section
variable {H : Type} {enc : TypeId × Value → H} {W : World} {base : Nat}
set_option maxRecDepth 100000 in
theorem open_settings {v : Value} {d : DataW H} {p : List MemPlace} (hv : Value.okWide Tryd.prog W .any base 23 v) (h : DataW.Trod enc Tryd.prog W 0 (fun _ => true) true 23 v d p) :
    ∃ x0 x1 x2 x3 x4 x5 x6, v = .agg #[.int .i64 x0, .int .i64 x1, .int .i64 x2, .int .i64 x3, .int .i64 x4, .int .i64 x5, .int .i64 x6] ∧ (∀ x ∈ [x0, x1, x2, x3, x4, x5, x6], -9223372036854775808 ≤ x ∧ x ≤ 9223372036854775807) := by
  obtain ⟨cs, rfl, hsz, _⟩ : ∃ cs, v = .agg cs ∧ cs.size = Tryd.prog.cellsOf 23 ∧ Row.okWide Tryd.prog W .any base 23 cs := by
    simpa [Value.okWide, Tryd.underlying23] using hv
  rw [cellsSettings] at hsz
  obtain ⟨l⟩ := cs
  obtain ⟨b0, b1, b2, b3, b4, b5, b6, rfl⟩ := list7 l hsz
  obtain ⟨fuel, hf⟩ := h
  obtain ⟨ys, n2, _, _, _, hyl, hf⟩ := DataW.trod_struct Tryd.underlying23 hf
  obtain ⟨y0, y1, y2, y3, y4, y5, y6, rfl⟩ := list7 ys hyl
  have f0 : DataW.trod enc Tryd.prog W 0 (fun _ => true) true n2 3 (([b0, b1, b2, b3, b4, b5, b6].drop 0).take (Tryd.prog.cellsOf 3)) = some y0 := hf 0 _ rfl
  have f1 : DataW.trod enc Tryd.prog W 0 (fun _ => true) true n2 3 (([b0, b1, b2, b3, b4, b5, b6].drop 1).take (Tryd.prog.cellsOf 3)) = some y1 := hf 1 _ rfl
  have f2 : DataW.trod enc Tryd.prog W 0 (fun _ => true) true n2 3 (([b0, b1, b2, b3, b4, b5, b6].drop 2).take (Tryd.prog.cellsOf 3)) = some y2 := hf 2 _ rfl
  have f3 : DataW.trod enc Tryd.prog W 0 (fun _ => true) true n2 3 (([b0, b1, b2, b3, b4, b5, b6].drop 3).take (Tryd.prog.cellsOf 3)) = some y3 := hf 3 _ rfl
  have f4 : DataW.trod enc Tryd.prog W 0 (fun _ => true) true n2 3 (([b0, b1, b2, b3, b4, b5, b6].drop 4).take (Tryd.prog.cellsOf 3)) = some y4 := hf 4 _ rfl
  have f5 : DataW.trod enc Tryd.prog W 0 (fun _ => true) true n2 3 (([b0, b1, b2, b3, b4, b5, b6].drop 5).take (Tryd.prog.cellsOf 3)) = some y5 := hf 5 _ rfl
  have f6 : DataW.trod enc Tryd.prog W 0 (fun _ => true) true n2 3 (([b0, b1, b2, b3, b4, b5, b6].drop 6).take (Tryd.prog.cellsOf 3)) = some y6 := hf 6 _ rfl
  rw [cellsIntS] at f0 f1 f2 f3 f4 f5 f6
  replace f0 : DataW.trod enc Tryd.prog W 0 (fun _ => true) true n2 3 [b0] = some y0 := f0
  replace f1 : DataW.trod enc Tryd.prog W 0 (fun _ => true) true n2 3 [b1] = some y1 := f1
  replace f2 : DataW.trod enc Tryd.prog W 0 (fun _ => true) true n2 3 [b2] = some y2 := f2
  replace f3 : DataW.trod enc Tryd.prog W 0 (fun _ => true) true n2 3 [b3] = some y3 := f3
  replace f4 : DataW.trod enc Tryd.prog W 0 (fun _ => true) true n2 3 [b4] = some y4 := f4
  replace f5 : DataW.trod enc Tryd.prog W 0 (fun _ => true) true n2 3 [b5] = some y5 := f5
  replace f6 : DataW.trod enc Tryd.prog W 0 (fun _ => true) true n2 3 [b6] = some y6 := f6
  obtain ⟨x0, e0, z0, w0⟩ := DataW.trod_int Tryd.underlying3 f0
  obtain ⟨x1, e1, z1, w1⟩ := DataW.trod_int Tryd.underlying3 f1
  obtain ⟨x2, e2, z2, w2⟩ := DataW.trod_int Tryd.underlying3 f2
  obtain ⟨x3, e3, z3, w3⟩ := DataW.trod_int Tryd.underlying3 f3
  obtain ⟨x4, e4, z4, w4⟩ := DataW.trod_int Tryd.underlying3 f4
  obtain ⟨x5, e5, z5, w5⟩ := DataW.trod_int Tryd.underlying3 f5
  obtain ⟨x6, e6, z6, w6⟩ := DataW.trod_int Tryd.underlying3 f6
  simp at e0 e1 e2 e3 e4 e5 e6
  subst e0 e1 e2 e3 e4 e5 e6
  have h0 := bounds_i64 w0
  have h1 := bounds_i64 w1
  have h2 := bounds_i64 w2
  have h3 := bounds_i64 w3
  have h4 := bounds_i64 w4
  have h5 := bounds_i64 w5
  have h6 := bounds_i64 w6
  refine ⟨x0, x1, x2, x3, x4, x5, x6, rfl, fun x hx => ?_⟩
  simp only [List.mem_cons, List.not_mem_nil, or_false] at hx
  rcases hx with rfl | rfl | rfl | rfl | rfl | rfl | rfl <;> omega
end
end Go.Proofs.YtdffnehblhehpaaDoor
