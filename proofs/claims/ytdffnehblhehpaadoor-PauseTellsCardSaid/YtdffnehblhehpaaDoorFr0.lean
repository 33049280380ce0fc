/- The frame of a law's proof: what holds of the program. -/
import Derived.Test.YtdffnehblhehpaaDoorRows
import Derived.Test.YtdffnehblhehpaaDoorKit
import Derived.OpenShut
import Derived.ChangeOld
import Derived.Laws.IdiomArrays
namespace Go.Proofs.YtdffnehblhehpaaDoor
open Go.ChangeShapes Go.WideShapes Go.ChangeAt Go.RowKit

theorem own : ownKnob Tryd.prog.godebug = none := by kernel_rfl
theorem laidOut : laidOutB Tryd.prog = true := by kernel_rfl
end Go.Proofs.YtdffnehblhehpaaDoor
