/- How slices of ints that come in are opened. -/
import Derived.Test.YthglnedlbiembaaFrame
import Derived.Test.YthglnedlbiembaaK2
import Derived.OpenShut
import Derived.ChangeOld
import Derived.ChangeSlices
import Derived.Carry
namespace Go.Proofs.Ythglnedlbiembaa
open Go.ChangeShapes Go.WideShapes Go.ChangeAt Go.RowKit

theorem cellsInt : Try.prog.cellsOf 3 = 1 := by kernel_rfl
theorem wf_i64 {x : Int} (h : (Lit.int IntKind.i64 x).wf = true) : x < 2 ^ 63 := by
  have hb := bounds_i64 h
  omega
section
variable {H : Type} {enc : TypeId × Value → H} {W : World} {base : Nat}
set_option maxRecDepth 100000 in
theorem open_il {v : Value} {d : DataW H} {p : List MemPlace} (hv : Value.okWide Try.prog W .any base 62 v) (h : DataW.Trod enc Try.prog W 0 (fun _ => true) true 62 v d p) :
    ∃ A n c f, v = .slice A n c ∧ (n : Int) ≤ 9223372036854775807 ∧ Il W A n f := by
  obtain ⟨a0, n, c, rfl⟩ := okWide_slice Try.underlying62 hv
  obtain ⟨fuel, hf⟩ := h
  rcases open_ints Try.underlying62 Try.underlying3 cellsInt hf with ⟨hcs, hx⟩ | ⟨a, len', cap', zs, hcs, _, hl, hm, hz, hx, hcell, hwz⟩
  · simp [Value.cells] at hcs
    obtain ⟨rfl, rfl, rfl⟩ := hcs
    exact ⟨none, 0, 0, fun _ => 0, rfl, by decide, fun _ => by show (0 : Int) < 2 ^ 63; decide, fun h => absurd h (by omega)⟩
  · simp only [Value.cells, List.cons.injEq, Value.slice.injEq, and_true] at hcs
    obtain ⟨rfl, rfl, rfl⟩ := hcs
    simp only [if_true] at hz
    refine ⟨some a, n, c, fun i => zs.getD i 0, rfl, ?_, fun i => ?_, fun hn => ?_⟩
    · have hh := hm
      simp [maxLen] at hh
      omega
    · rcases Nat.lt_or_ge i zs.length with hi | hi
      · have := hwz (zs.getD i 0) (by simp [List.getD, List.getElem?_eq_getElem hi])
        exact wf_i64 this
      · simp only [List.getD, List.getElem?_eq_none hi, Option.getD_none]; decide
    · have hc0 := hcell 0 (by omega)
      have hlt := World.block_lt_of_cell? W _ hc0
      obtain ⟨g, o, sp⟩ := a
      have hspot : sp = none := by simpa [Addr.add] using World.cell?_spot hc0
      subst hspot
      exact ⟨g, o, rfl, hlt, fun i hi => by rw [← add_plain]; exact hcell i (by omega)⟩
end
end Go.Proofs.Ythglnedlbiembaa
