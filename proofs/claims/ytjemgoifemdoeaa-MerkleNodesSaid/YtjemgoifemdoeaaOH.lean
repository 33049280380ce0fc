/- How a hash that comes in is opened. -/
import Derived.Test.YtjemgoifemdoeaaFr0
import Derived.Test.YtjemgoifemdoeaaOa
namespace Go.Proofs.Ytjemgoifemdoeaa
open Go.ChangeShapes Go.WideShapes Go.ChangeAt Go.RowKit

theorem cellsHash : Try.prog.cellsOf 25 = 32 := by kernel_rfl
theorem cellsU8h : Try.prog.cellsOf 5 = 1 := by kernel_rfl
theorem wf_u8 {x : Int} (h : (Lit.int IntKind.u8 x).wf = true) : ∃ n : Nat, x = (n : Int) ∧ n < 256 := by
  have hb := bounds_u8 h
  exact ⟨x.toNat, by omega, by omega⟩
section
variable {H : Type} {enc : TypeId × Value → H} {W : World} {base : Nat}
/-- cells that read as a hash -/
theorem trod_hash {m : Nat} {cs : List Value} {x : DataW H × List MemPlace} (hl : cs.length = 32) (h : DataW.trod enc Try.prog W 0 (fun _ => true) true m 25 cs = some x) :
    ∃ f : Nat → Nat, (∀ i, f i < 256) ∧ cs = bys f 32 := by
  obtain ⟨ys, n2, _, _, _, hyl, hf⟩ := DataW.trod_array Try.underlying25 h
  have key : ∀ i, i < 32 → ∃ n : Nat, n < 256 ∧ cs[i]? = some (.int .u8 (n : Nat)) := fun i hi => by
    have e := hf i (by omega)
    rw [cellsU8h, Nat.mul_one] at e
    have hil : i < cs.length := by omega
    have ed : (cs.drop i).take 1 = [cs[i]] := by
      rw [List.drop_eq_getElem_cons hil]; rfl
    rw [ed, List.getElem?_eq_getElem (by omega)] at e
    obtain ⟨x, e0, _, w0⟩ := DataW.trod_int Try.underlying5 e
    obtain ⟨n, rfl, hn⟩ := wf_u8 w0
    refine ⟨n, hn, ?_⟩
    rw [List.getElem?_eq_getElem hil]
    simpa using e0
  obtain ⟨f, hfz⟩ : ∃ f : Nat → Nat, ∀ i, i < 32 → f i < 256 ∧ cs[i]? = some (.int .u8 (f i : Nat)) :=
    ⟨fun i => if h : i < 32 then (key i h).choose else 0, fun i hi => by simp only [dif_pos hi]; exact (key i hi).choose_spec⟩
  refine ⟨fun i => if i < 32 then f i else 0, fun i => ?_, ?_⟩
  · show (if i < 32 then f i else 0) < 256
    split
    · exact (hfz i (by assumption)).1
    · decide
  · refine List.ext_getElem? fun i => ?_
    by_cases hi : i < 32
    · rw [(hfz i hi).2, bys_get _ hi, if_pos hi]
    · rw [List.getElem?_eq_none (by omega), List.getElem?_eq_none (by rw [bys_length]; omega)]
set_option maxRecDepth 100000 in
theorem open_hash {v : Value} {d : DataW H} {p : List MemPlace} (hv : Value.okWide Try.prog W .any base 25 v) (h : DataW.Trod enc Try.prog W 0 (fun _ => true) true 25 v d p) :
    ∃ f : Nat → Nat, (∀ i, f i < 256) ∧ v = .agg (bys f 32).toArray := by
  obtain ⟨cs, rfl, hsz, _⟩ : ∃ cs, v = .agg cs ∧ cs.size = Try.prog.cellsOf 25 ∧ Row.okWide Try.prog W .any base 25 cs := by
    simpa [Value.okWide, Try.underlying25] using hv
  rw [cellsHash] at hsz
  obtain ⟨fuel, hf⟩ := h
  obtain ⟨f, h1, h2⟩ := trod_hash (cs := cs.toList) (by simpa using hsz) hf
  exact ⟨f, h1, by rw [← h2]⟩
end
end Go.Proofs.Ytjemgoifemdoeaa
