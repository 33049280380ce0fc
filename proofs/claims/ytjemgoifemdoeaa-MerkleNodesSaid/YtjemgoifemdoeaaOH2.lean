/- How two hashes that come in as an array are opened. -/
import Derived.Test.YtjemgoifemdoeaaOH
namespace Go.Proofs.Ytjemgoifemdoeaa
open Go.ChangeShapes Go.WideShapes Go.ChangeAt Go.RowKit

theorem cellsHash2 : Try.prog.cellsOf 61 = 64 := by kernel_rfl
section
variable {H : Type} {enc : TypeId × Value → H} {W : World} {base : Nat}
set_option maxRecDepth 100000 in
theorem open_hash2 {v : Value} {d : DataW H} {p : List MemPlace} (hv : Value.okWide Try.prog W .any base 61 v) (h : DataW.Trod enc Try.prog W 0 (fun _ => true) true 61 v d p) :
    ∃ f g : Nat → Nat, (∀ i, f i < 256) ∧ (∀ i, g i < 256) ∧ v = .agg (bys f 32 ++ bys g 32).toArray := by
  obtain ⟨cs, rfl, hsz, _⟩ : ∃ cs, v = .agg cs ∧ cs.size = Try.prog.cellsOf 61 ∧ Row.okWide Try.prog W .any base 61 cs := by
    simpa [Value.okWide, Try.underlying61] using hv
  rw [cellsHash2] at hsz
  obtain ⟨fuel, hf⟩ := h
  obtain ⟨ys, n2, _, _, _, hyl, hfe⟩ := DataW.trod_array Try.underlying61 (show DataW.trod enc Try.prog W 0 (fun _ => true) true fuel 61 cs.toList = some _ from hf)
  have hlen : cs.toList.length = 64 := by simpa using hsz
  have e0 := hfe 0 (by omega)
  have e1 := hfe 1 (by omega)
  rw [cellsHash, List.getElem?_eq_getElem (by omega)] at e0 e1
  obtain ⟨f, hf1, hf2⟩ := trod_hash (cs := (cs.toList.drop (0 * 32)).take 32) (by rw [List.length_take, List.length_drop, hlen]; decide) e0
  obtain ⟨g, hg1, hg2⟩ := trod_hash (cs := (cs.toList.drop (1 * 32)).take 32) (by rw [List.length_take, List.length_drop, hlen]; decide) e1
  refine ⟨f, g, hf1, hg1, ?_⟩
  rw [← hf2, ← hg2]
  have e : cs.toList.drop (1 * 32) = (cs.toList.drop (1 * 32)).take 32 := (List.take_of_length_le (by rw [List.length_drop, hlen]; decide)).symm
  rw [← e, Nat.zero_mul, List.drop_zero, Nat.one_mul, List.take_append_drop]
end
end Go.Proofs.Ytjemgoifemdoeaa
