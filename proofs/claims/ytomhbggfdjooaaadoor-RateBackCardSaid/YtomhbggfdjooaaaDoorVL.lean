/- The listed variable rate.added: what the laws of layer 18 read of it; the door's own heap meets the condition. -/
import Derived.Test.YtomhbggfdjooaaaDoorVR
import Derived.Test.YtomhbggfdjooaaaDoorTie
import Derived.ProofKit
import Derived.LaidMore
import Derived.OpenShut
import Derived.Stop.Joined
namespace Go.Proofs.YtomhbggfdjooaaaDoor
open Go.ChangeShapes Go.WideShapes Go.ChangeAt Go.WideMaps Go.WideElems Go.RowKit

theorem gAdded : Tryd.prog.globalNamed "tallage/rate.added" = some 0 := by kernel_rfl
theorem tAdded : (Tryd.prog.globals[0]?).map (·.type) = some 51 := by kernel_rfl
def laid18 {H : Type} : List (String × DataW H) := [("tallage/rate.added", Rows.laid_tallage_rate_added)]
theorem door18 (os : Os) (args : Array Value) : laidMetH Tryd.prog laid18 ((World.doorLaid Tryd.prog 400 os).forCall (fun _ _ => 0) ⟨#[], args, []⟩).memory :=
  laidMetH_of_parts3 (fuel := 8) (laidMet_of_run' 8 (by kernel_rfl) (by kernel_rfl)) (by kernel_rfl) (by kernel_rfl)
theorem vr_of_laid {W : World} (h : laidMetH Tryd.prog laid18 W) : Vr W := by
  rw [MakeChecks.laidMetH_plain _ _ _ (by kernel_rfl)] at h
  obtain ⟨ps, ⟨g1, t1, cs1, f1, p1, q1, hg1, ht1, hv1, hd1, _, _⟩, _, _⟩ := h
  obtain rfl := Option.some.inj (gAdded.symm.trans hg1)
  obtain rfl := Option.some.inj (tAdded.symm.trans ht1)
  obtain ⟨xs, m1, rfl, hx1, hlen, hn3, hel⟩ := DataW.trod_array Tryd.underlying51 hd1
  have c3 : Tryd.prog.cellsOf 22 = 1 := by kernel_rfl
  have h0 := hel 0 (by decide)
  simp only [Prod.mk.injEq, DataW.agg.injEq, Rows.laid_tallage_rate_added] at hx1
  match xs, hn3, hx1, h0 with
  | [x0], _, hx1, h0 =>
    simp only [List.map_cons, List.map_nil, List.cons.injEq] at hx1
    obtain ⟨k, e1, e2, _⟩ := DataW.trod_int Tryd.underlying22 (show DataW.trod _ Tryd.prog W 0 _ false m1 22 _ = some x0 from h0)
    have hk : k = 1000 := by rw [e2] at hx1; simpa using hx1.1.1.symm
    subst hk
    have := World.var?_cell hg1 hv1 0
    obtain ⟨l1⟩ := cs1
    rw [c3] at e1
    match l1, e1 with
    | c :: _, e1 =>
      simp at e1
      subst e1
      have hc : W.cell? ⟨0, 0, none⟩ = some (.int .u64 1000) := by simpa using this
      exact ⟨hc, World.block_lt_of_cell? W _ hc⟩
end Go.Proofs.YtomhbggfdjooaaaDoor
