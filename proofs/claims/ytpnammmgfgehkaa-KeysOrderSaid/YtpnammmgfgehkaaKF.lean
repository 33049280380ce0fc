/- How slices of ints and boxes of two texts that come in are opened. -/
import Derived.Test.YtpnammmgfgehkaaRows
import Derived.Test.YtpnammmgfgehkaaK2
import Derived.OpenShut
import Derived.ChangeOld
import Derived.ChangeSlices
import Derived.Carry
namespace Go.Proofs.Ytpnammmgfgehkaa
open Go.ChangeShapes Go.WideShapes Go.ChangeAt Go.RowKit

theorem own : ownKnob Try.prog.godebug = none := by kernel_rfl
theorem laidOut : laidOutB Try.prog = true := by kernel_rfl
theorem cellsInt : Try.prog.cellsOf 3 = 1 := by kernel_rfl
theorem cellsStr : Try.prog.cellsOf 9 = 1 := by kernel_rfl
theorem cells2 : Try.prog.cellsOf 90 = 2 := by kernel_rfl
theorem wf_i64 {x : Int} (h : (Lit.int IntKind.i64 x).wf = true) : x < 2 ^ 63 := by
  have hb := bounds_i64 h
  omega
section
variable {H : Type} {enc : TypeId × Value → H} {W : World} {base : Nat}
set_option maxRecDepth 100000 in
theorem open_il {v : Value} {d : DataW H} {p : List MemPlace} (hv : Value.okWide Try.prog W .any base 78 v) (h : DataW.Trod enc Try.prog W 0 (fun _ => true) true 78 v d p) :
    ∃ A n c f, v = .slice A n c ∧ (n : Int) ≤ 9223372036854775807 ∧ Il W A n f := by
  obtain ⟨a0, n, c, rfl⟩ := okWide_slice Try.underlying78 hv
  obtain ⟨fuel, hf⟩ := h
  rcases open_ints Try.underlying78 Try.underlying3 cellsInt hf with ⟨hcs, hx⟩ | ⟨a, len', cap', zs, hcs, _, hl, hm, hz, hx, hcell, hwz⟩
  · simp [Value.cells] at hcs
    obtain ⟨rfl, rfl, rfl⟩ := hcs
    exact ⟨none, 0, 0, fun _ => 0, rfl, by decide, fun _ => by show (0 : Int) < 2 ^ 63; decide, fun h => absurd h (by omega)⟩
  · simp only [Value.cells, List.cons.injEq, Value.slice.injEq, and_true] at hcs
    obtain ⟨rfl, rfl, rfl⟩ := hcs
    simp only [if_true] at hz
    refine ⟨some a, n, c, fun i => zs.getD i 0, rfl, ?_, fun i => ?_, fun hn => ?_⟩
    · have hh := hm
      simp [maxLen] at hh
      omega
    · rcases Nat.lt_or_ge i zs.length with hi | hi
      · have := hwz (zs.getD i 0) (by simp [List.getD, List.getElem?_eq_getElem hi])
        exact wf_i64 this
      · simp only [List.getD, List.getElem?_eq_none hi, Option.getD_none]; decide
    · have hc0 := hcell 0 (by omega)
      have hlt := World.block_lt_of_cell? W _ hc0
      obtain ⟨g, o, sp⟩ := a
      have hspot : sp = none := by simpa [Addr.add] using World.cell?_spot hc0
      subst hspot
      exact ⟨g, o, rfl, hlt, fun i hi => by rw [← add_plain]; exact hcell i (by omega)⟩
theorem list2 {α : Type} (l : List α) (h : (⟨l⟩ : Array α).size = 2) : ∃ a b, l = [a, b] := by
  match l, h with
  | [a, b], _ => exact ⟨a, b, rfl⟩
set_option maxRecDepth 100000 in
theorem open_two {v : Value} {d : DataW H} {p : List MemPlace} (hv : Value.okWide Try.prog W .any base 90 v) (h : DataW.Trod enc Try.prog W 0 (fun _ => true) true 90 v d p) :
    ∃ s0 s1 : ByteArray, v = .agg #[.string s0, .string s1] ∧ (s0.size : Int) ≤ 9223372036854775807 ∧ (s1.size : Int) ≤ 9223372036854775807 := by
  obtain ⟨cs, rfl, hsz, _⟩ : ∃ cs, v = .agg cs ∧ cs.size = Try.prog.cellsOf 90 ∧ Row.okWide Try.prog W .any base 90 cs := by
    simpa [Value.okWide, Try.underlying90] using hv
  rw [cells2] at hsz
  obtain ⟨l⟩ := cs
  obtain ⟨c0, c1, rfl⟩ := list2 l hsz
  obtain ⟨fuel, hf⟩ := h
  obtain ⟨xs, m, _, _, _, hxl, hi⟩ := DataW.trod_array Try.underlying90 hf
  rw [cellsStr] at hi
  obtain ⟨x0, x1, rfl⟩ : ∃ x0 x1, xs = [x0, x1] := by
    match xs, hxl with
    | [a, b], _ => exact ⟨a, b, rfl⟩
  have h0 := hi 0 (by omega)
  have h1 := hi 1 (by omega)
  simp [Value.cells] at h0 h1
  obtain ⟨s0, e0, _, m0⟩ := DataW.trod_string Try.underlying9 h0
  obtain ⟨s1, e1, _, m1⟩ := DataW.trod_string Try.underlying9 h1
  simp only [List.cons.injEq, and_true] at e0 e1
  subst e0 e1
  simp [maxLen] at m0 m1
  exact ⟨s0, s1, rfl, by omega, by omega⟩
end
end Go.Proofs.Ytpnammmgfgehkaa
