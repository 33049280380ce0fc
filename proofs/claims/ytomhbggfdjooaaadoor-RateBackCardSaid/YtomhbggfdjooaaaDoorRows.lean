/-
  NARROWER THAN 'FOR EVERY INPUT', by the rows' own cells (each row's printed sentence says how): RateTells: laid · RateStays: laid · RateBack: laid.
  DERIVED. THE GIVEN ROWS OF THIS SEAT. 3 by the template 'for every input the law returns true; each argument reads behind the call as it read before'; 0 by the template 'total and deterministic' (their statements: YtomhbggfdjooaaaDoorTotals.lean).
  GIVEN WITH THE SEED: the statements are not yours to turn. If you find one false, say at which input.
  Laid BY PROGRAM, IN A SANDBOX (cutbox-rows.mjs): the forced cells as the released guide's own fill.sh prints them over the translation 84a4e212f8123e76… (all of the seat's roots in one cut). By AI agents, Wed Nov 11 2026. No macro, syntax, notation, axiom, sorry.
-/
import Derived.Test.YtomhbggfdjooaaaDoorChecked
import GoSem.Claim
import GoSem.ClaimJoined
import GoSem.ClaimMapViews
import Derived.JoinedTies
import Derived.KernelRfl
namespace Go.Proofs.YtomhbggfdjooaaaDoor
/- THE CELL 'sum', in the pinned program and in every row, IS THE sha256 OF THE DUMP (.gsa) THAT YtomhbggfdjooaaaDoorProg.lean LOADS. Nothing in Lean hashes anything: it is a label: what it is worth is what the hold of that sum in a sandbox is worth. -/
noncomputable def Tryd.pinned : Pinned := { name := "ytomhbggfdjooaaadoor", sum := "84a4e212f8123e76c1ae9d90cb8c0210f34dbeb11096c32a9e34442a820d6c9a", checked := Tryd.checked }
namespace Rows
def none {H : Type} : Left H := { results := [], args := [] }

/- WHAT THE LISTED PACKAGE-LEVEL VARIABLES READ AS WHEN THE CALL BEGINS. Each datum BY PROGRAM (the guide's laid-datum.mjs) off the statement by which the dump's own 'gosem.cut.vars' lays the variable. In a bare row this is a premise. The card (YtomhbggfdjooaaaDoorCards.lean) ties it to the program's text. -/
def laid_tallage_rate_added {H : Type} : DataW H := .agg [.lit (.int .u64 1000)]

/-- 'tallagelaw18.RateTells': WHATEVER THE INPUT: true; the input reads as it did. -/
def rateTellsSpec : ChangeSpec := { name := "rateTells", fn := fun _ => fun
  | [d1, d2, d3] => { results := [.lit (.bool true)], args := [d1, d2, d3] }
  | _ => none }
def rateTellsRow : OpenClaim := { program := "ytomhbggfdjooaaadoor", sum := "84a4e212f8123e76c1ae9d90cb8c0210f34dbeb11096c32a9e34442a820d6c9a", func := "tallage/tallagelaw18.RateTells", spec := "rateTells", inPlace := ["math/bits.Sub64", "math/bits.Add64"], unfollowed := true, recurses := true, named := ["tallage/rate.added", "math/bits.divideError", "math/bits.overflowError"], apart := false, laid := [("tallage/rate.added", laid_tallage_rate_added)] }
def RateTellsSaid : Prop := rateTellsRow.holds Tryd.pinned (OpenSpec.ofChange rateTellsSpec)

/-- ITS FALSE NEIGHBOUR: 'it returns false'. Refute it at one input. -/
def rateTellsWrong : ChangeSpec := { name := "rateTells", fn := fun _ => fun
  | [d1, d2, d3] => { results := [.lit (.bool false)], args := [d1, d2, d3] }
  | _ => none }
def RateTellsWrongFalsely : Prop := rateTellsRow.holds Tryd.pinned (OpenSpec.ofChange rateTellsWrong)

/-- 'tallagelaw18.RateStays': WHATEVER THE INPUT: true; the input reads as it did. -/
def rateStaysSpec : ChangeSpec := { name := "rateStays", fn := fun _ => fun
  | [d1, d2, d3] => { results := [.lit (.bool true)], args := [d1, d2, d3] }
  | _ => none }
def rateStaysRow : OpenClaim := { program := "ytomhbggfdjooaaadoor", sum := "84a4e212f8123e76c1ae9d90cb8c0210f34dbeb11096c32a9e34442a820d6c9a", func := "tallage/tallagelaw18.RateStays", spec := "rateStays", inPlace := ["math/bits.Sub64", "math/bits.Add64"], unfollowed := true, recurses := true, named := ["tallage/rate.added", "math/bits.divideError", "math/bits.overflowError"], apart := false, laid := [("tallage/rate.added", laid_tallage_rate_added)] }
def RateStaysSaid : Prop := rateStaysRow.holds Tryd.pinned (OpenSpec.ofChange rateStaysSpec)

/-- ITS FALSE NEIGHBOUR: 'it returns false'. Refute it at one input. -/
def rateStaysWrong : ChangeSpec := { name := "rateStays", fn := fun _ => fun
  | [d1, d2, d3] => { results := [.lit (.bool false)], args := [d1, d2, d3] }
  | _ => none }
def RateStaysWrongFalsely : Prop := rateStaysRow.holds Tryd.pinned (OpenSpec.ofChange rateStaysWrong)

/-- 'tallagelaw18.RateBack': WHATEVER THE INPUT: true; the input reads as it did. -/
def rateBackSpec : ChangeSpec := { name := "rateBack", fn := fun _ => fun
  | [d1, d2, d3] => { results := [.lit (.bool true)], args := [d1, d2, d3] }
  | _ => none }
def rateBackRow : OpenClaim := { program := "ytomhbggfdjooaaadoor", sum := "84a4e212f8123e76c1ae9d90cb8c0210f34dbeb11096c32a9e34442a820d6c9a", func := "tallage/tallagelaw18.RateBack", spec := "rateBack", inPlace := ["math/bits.Sub64", "math/bits.Add64"], unfollowed := true, recurses := true, named := ["tallage/rate.added", "math/bits.divideError", "math/bits.overflowError"], apart := false, laid := [("tallage/rate.added", laid_tallage_rate_added)] }
def RateBackSaid : Prop := rateBackRow.holds Tryd.pinned (OpenSpec.ofChange rateBackSpec)

/-- ITS FALSE NEIGHBOUR: 'it returns false'. Refute it at one input. -/
def rateBackWrong : ChangeSpec := { name := "rateBack", fn := fun _ => fun
  | [d1, d2, d3] => { results := [.lit (.bool false)], args := [d1, d2, d3] }
  | _ => none }
def RateBackWrongFalsely : Prop := rateBackRow.holds Tryd.pinned (OpenSpec.ofChange rateBackWrong)

/- THE SECOND FORM. 'bulk': how many values and letters a reading holds, each counted each time it is reached (what is shared counts as often as it is met; a slice's spare places count too). A statement '..UptoSaid' is the law's where the arguments, and the package variables that the reading takes, are together of bulk at most 1048576: NARROWER than '..Said'. Prove '..Said' where nothing that the law and all that it calls make is longer than what came in: it says more and counts as full. Else prove '..UptoSaid'. A law counts once. -/
mutual
def uptoBulk {H : Type} : DataW H → Nat
  | .lit (.string bytes) => bytes.length + 1
  | .lit _ => 1
  | .nil => 1
  | .ptr d => uptoBulk d + 1
  | .slice elems spare => uptoBulkAll elems + uptoBulkAll spare + 1
  | .agg parts => uptoBulkAll parts + 1
  | .iface _ d => uptoBulk d + 1
  | .map entries => uptoBulkEntries entries + 1
  | .held _ => 1
def uptoBulkAll {H : Type} : List (DataW H) → Nat
  | [] => 0
  | d :: r => uptoBulk d + uptoBulkAll r
def uptoBulkEntries {H : Type} : List (Lit × DataW H) → Nat
  | [] => 0
  | x :: r => uptoBulkEntry x + uptoBulkEntries r
def uptoBulkEntry {H : Type} : Lit × DataW H → Nat
  | (.string bytes, d) => bytes.length + uptoBulk d + 1
  | (_, d) => uptoBulk d + 1
 end
def uptoSmall : (H : Type) → List (DataW H) → Bool := fun _ ds => decide (uptoBulkAll ds ≤ 1048576)
def OpenSpec.upto (s : _root_.Go.ChangeSpec) : _root_.Go.OpenSpec := { _root_.Go.OpenSpec.ofChange s with cond := some uptoSmall }

/-- 'tallagelaw18.RateTells', WHERE WHAT IT READS IS OF BULK AT MOST 1048576: true; the input reads as it did. -/
def rateTellsUptoRow : OpenClaim := { program := "ytomhbggfdjooaaadoor", sum := "84a4e212f8123e76c1ae9d90cb8c0210f34dbeb11096c32a9e34442a820d6c9a", func := "tallage/tallagelaw18.RateTells", spec := "rateTells", inPlace := ["math/bits.Sub64", "math/bits.Add64"], unfollowed := true, recurses := true, named := ["tallage/rate.added", "math/bits.divideError", "math/bits.overflowError"], apart := false, laid := [("tallage/rate.added", laid_tallage_rate_added)], narrowed := true }
def RateTellsUptoSaid : Prop := rateTellsUptoRow.holds Tryd.pinned (OpenSpec.upto rateTellsSpec)

/-- 'tallagelaw18.RateStays', WHERE WHAT IT READS IS OF BULK AT MOST 1048576: true; the input reads as it did. -/
def rateStaysUptoRow : OpenClaim := { program := "ytomhbggfdjooaaadoor", sum := "84a4e212f8123e76c1ae9d90cb8c0210f34dbeb11096c32a9e34442a820d6c9a", func := "tallage/tallagelaw18.RateStays", spec := "rateStays", inPlace := ["math/bits.Sub64", "math/bits.Add64"], unfollowed := true, recurses := true, named := ["tallage/rate.added", "math/bits.divideError", "math/bits.overflowError"], apart := false, laid := [("tallage/rate.added", laid_tallage_rate_added)], narrowed := true }
def RateStaysUptoSaid : Prop := rateStaysUptoRow.holds Tryd.pinned (OpenSpec.upto rateStaysSpec)

/-- 'tallagelaw18.RateBack', WHERE WHAT IT READS IS OF BULK AT MOST 1048576: true; the input reads as it did. -/
def rateBackUptoRow : OpenClaim := { program := "ytomhbggfdjooaaadoor", sum := "84a4e212f8123e76c1ae9d90cb8c0210f34dbeb11096c32a9e34442a820d6c9a", func := "tallage/tallagelaw18.RateBack", spec := "rateBack", inPlace := ["math/bits.Sub64", "math/bits.Add64"], unfollowed := true, recurses := true, named := ["tallage/rate.added", "math/bits.divideError", "math/bits.overflowError"], apart := false, laid := [("tallage/rate.added", laid_tallage_rate_added)], narrowed := true }
def RateBackUptoSaid : Prop := rateBackUptoRow.holds Tryd.pinned (OpenSpec.upto rateBackSpec)

end Rows
end Go.Proofs.YtomhbggfdjooaaaDoor
