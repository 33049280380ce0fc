/- The frame of a law's proof: what holds of the program. -/
import Derived.Test.YtedkhpnlhkjjgaaRows
import Derived.Test.YtedkhpnlhkjjgaaKit
import Derived.OpenShut
import Derived.ChangeOld
import Derived.Laws.IdiomArrays
namespace Go.Proofs.Ytedkhpnlhkjjgaa
open Go.ChangeShapes Go.WideShapes Go.ChangeAt Go.RowKit

theorem own : ownKnob Try.prog.godebug = none := by kernel_rfl
theorem laidOut : laidOutB Try.prog = true := by kernel_rfl
end Go.Proofs.Ytedkhpnlhkjjgaa
