/- The listed variable pause.bits: what the laws of layer 35 read of it; the door's own heap meets the condition. -/
import Derived.Test.YtamhlpjiiplmgaaDoorG31
import Derived.Test.YtamhlpjiiplmgaaDoorTie
import Derived.Test.YtamhlpjiiplmgaaDoorG00
import Derived.Test.YtamhlpjiiplmgaaDoorG01
import Derived.ProofKit
import Derived.LaidMore
import Derived.OpenShut
import Derived.Stop.Joined
import Derived.ChangeOld
import Derived.Laws.IdiomArrays
import Derived.ChangeSlices
import Derived.Carry
namespace Go.Proofs.YtamhlpjiiplmgaaDoor
open Go.ChangeShapes Go.WideShapes Go.ChangeAt Go.WideMaps Go.WideElems Go.RowKit

theorem gBits : Tryd.prog.globalNamed "tallage/pause.bits" = some 0 := by kernel_rfl
theorem tBits : (Tryd.prog.globals[0]?).map (·.type) = some 64 := by kernel_rfl
def laid35 {H : Type} : List (String × DataW H) := [("tallage/pause.bits", Rows.laid_tallage_pause_bits)]
theorem door35 (os : Os) (args : Array Value) : laidMetH Tryd.prog laid35 ((World.doorLaid Tryd.prog 400 os).forCall (fun _ _ => 0) ⟨#[], args, []⟩).memory :=
  laidMetH_of_parts3 (fuel := 8) (laidMet_of_run' 8 (by kernel_rfl) (by kernel_rfl)) (by kernel_rfl) (by kernel_rfl)
theorem laid_bitN {H : Type} : (Rows.laid_tallage_pause_bits : DataW H) = .agg ((List.range 29).map fun i => .lit (.int .i64 (bitN i : Nat))) := by
  simp only [Rows.laid_tallage_pause_bits, show List.range 29 = [0, 1, 2, 3, 4, 5, 6, 7, 8, 9, 10, 11, 12, 13, 14, 15, 16, 17, 18, 19, 20, 21, 22, 23, 24, 25, 26, 27, 28] from by decide, List.map_cons, List.map_nil]
  rfl
theorem vp_of_laid {W : World} (h : laidMetH Tryd.prog laid35 W) : Vp W := by
  rw [MakeChecks.laidMetH_plain _ _ _ (by kernel_rfl)] at h
  obtain ⟨ps, ⟨g1, t1, cs1, f1, p1, q1, hg1, ht1, hv1, hd1, _, _⟩, _, _⟩ := h
  obtain rfl := Option.some.inj (gBits.symm.trans hg1)
  obtain rfl := Option.some.inj (tBits.symm.trans ht1)
  obtain ⟨xs, m1, rfl, hx1, hlen, hn3, hel⟩ := DataW.trod_array Tryd.underlying64 hd1
  have c3 : Tryd.prog.cellsOf 3 = 1 := by kernel_rfl
  simp only [Prod.mk.injEq, laid_bitN, DataW.agg.injEq] at hx1
  have hc : ∀ i, i < 29 → W.cell? ⟨0, i, none⟩ = some (.int .i64 (bitN i : Nat)) := by
    intro i hi
    have hxi : i < xs.length := by omega
    have h0 := hel i (by omega)
    rw [c3] at h0
    have hxe : (xs[i]).1 = .lit (.int .i64 (bitN i : Nat)) := by
      have := congrArg (fun l => l[i]?) hx1.1
      simp only [List.getElem?_map, List.getElem?_range hi, List.getElem?_eq_getElem hxi, Option.map_some, Option.some.injEq] at this
      exact this.symm
    rw [List.getElem?_eq_getElem hxi] at h0
    obtain ⟨k, e1, e2, _⟩ := DataW.trod_int Tryd.underlying3 (show DataW.trod _ Tryd.prog W 0 _ false m1 3 _ = some xs[i] from h0)
    have hk : k = (bitN i : Nat) := by rw [e2] at hxe; simpa using hxe
    subst hk
    have hv := World.var?_cell hg1 hv1 i
    obtain ⟨l1⟩ := cs1
    have : l1[i]? = some (.int .i64 (bitN i : Nat)) := by
      have := congrArg (fun l => l[0]?) e1
      simpa using this
    rw [hv]
    simpa using this
  exact ⟨hc, World.block_lt_of_cell? W _ (hc 0 (by decide))⟩
end Go.Proofs.YtamhlpjiiplmgaaDoor

namespace Go.Proofs.YtamhlpjiiplmgaaDoor
open Go.ChangeShapes Go.WideShapes Go.ChangeAt Go.RowKit

theorem cells64 : Tryd.prog.cellsOf 79 = 1 := by kernel_rfl
theorem list4 {α : Type} (l : List α) (h : (⟨l⟩ : Array α).size = 4) : ∃ a b c d, l = [a, b, c, d] := by
  match l, h with
  | [a, b, c, d], _ => exact ⟨a, b, c, d, rfl⟩
def four (x0 x1 x2 x3 : Nat) : Nat → Nat
  | 0 => x0
  | 1 => x1
  | 2 => x2
  | 3 => x3
  | _ => 0
theorem wf_u64 {x : Int} (h : (Lit.int IntKind.u64 x).wf = true) : ∃ n : Nat, x = (n : Int) ∧ n < 2 ^ 64 := by
  have hb := bounds_u64 h
  exact ⟨x.toNat, by omega, by omega⟩

section
variable {H : Type} {enc : TypeId × Value → H} {W : World} {base : Nat}
end
end Go.Proofs.YtamhlpjiiplmgaaDoor

namespace Go.Proofs.YtamhlpjiiplmgaaDoor
open Go.ChangeShapes Go.WideShapes Go.ChangeAt Go.RowKit

theorem cellsInt : Tryd.prog.cellsOf 3 = 1 := by kernel_rfl
theorem wf_i64 {x : Int} (h : (Lit.int IntKind.i64 x).wf = true) : x < 2 ^ 63 := by
  have hb := bounds_i64 h
  omega
section
variable {H : Type} {enc : TypeId × Value → H} {W : World} {base : Nat}
set_option maxRecDepth 100000 in
theorem open_il {v : Value} {d : DataW H} {p : List MemPlace} (hv : Value.okWide Tryd.prog W .any base 22 v) (h : DataW.Trod enc Tryd.prog W 0 (fun _ => true) true 22 v d p) :
    ∃ A n c f, v = .slice A n c ∧ (n : Int) ≤ 9223372036854775807 ∧ Il W A n f := by
  obtain ⟨a0, n, c, rfl⟩ := okWide_slice Tryd.underlying22 hv
  obtain ⟨fuel, hf⟩ := h
  rcases open_ints Tryd.underlying22 Tryd.underlying3 cellsInt hf with ⟨hcs, hx⟩ | ⟨a, len', cap', zs, hcs, _, hl, hm, hz, hx, hcell, hwz⟩
  · simp [Value.cells] at hcs
    obtain ⟨rfl, rfl, rfl⟩ := hcs
    exact ⟨none, 0, 0, fun _ => 0, rfl, by decide, fun _ => by show (0 : Int) < 2 ^ 63; decide, fun h => absurd h (by omega)⟩
  · simp only [Value.cells, List.cons.injEq, Value.slice.injEq, and_true] at hcs
    obtain ⟨rfl, rfl, rfl⟩ := hcs
    simp only [if_true] at hz
    refine ⟨some a, n, c, fun i => zs.getD i 0, rfl, ?_, fun i => ?_, fun hn => ?_⟩
    · have hh := hm
      simp [maxLen] at hh
      omega
    · rcases Nat.lt_or_ge i zs.length with hi | hi
      · have := hwz (zs.getD i 0) (by simp [List.getD, List.getElem?_eq_getElem hi])
        exact wf_i64 this
      · simp only [List.getD, List.getElem?_eq_none hi, Option.getD_none]; decide
    · have hc0 := hcell 0 (by omega)
      have hlt := World.block_lt_of_cell? W _ hc0
      obtain ⟨g, o, sp⟩ := a
      have hspot : sp = none := by simpa [Addr.add] using World.cell?_spot hc0
      subst hspot
      exact ⟨g, o, rfl, hlt, fun i hi => by rw [← add_plain]; exact hcell i (by omega)⟩
end
end Go.Proofs.YtamhlpjiiplmgaaDoor
