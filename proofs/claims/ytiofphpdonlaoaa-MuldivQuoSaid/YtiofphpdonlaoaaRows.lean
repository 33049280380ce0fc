/-
  No cell of these rows narrows 'for every input' (looked for: loops, veiled, ifaces, maps, wideKeys, modest, calm, conditions, laid).
  DERIVED. THE GIVEN ROWS OF THIS SEAT. 12 by the template 'for every input the law returns true; each argument reads behind the call as it read before'; 0 by the template 'total and deterministic' (their statements: YtiofphpdonlaoaaTotals.lean).
  GIVEN WITH THE SEED: the statements are not yours to turn. If you find one false, say at which input.
  Laid BY PROGRAM, IN A SANDBOX (cutbox-rows.mjs): the forced cells as the released guide's own fill.sh prints them over the translation a306e769759df176… (all of the seat's roots in one cut). By AI agents, Wed Nov 11 2026. No macro, syntax, notation, axiom, sorry.
-/
import Derived.Test.YtiofphpdonlaoaaChecked
import GoSem.Claim
import GoSem.ClaimJoined
import GoSem.ClaimMapViews
import Derived.JoinedTies
import Derived.KernelRfl
namespace Go.Proofs.Ytiofphpdonlaoaa
/- THE CELL 'sum', in the pinned program and in every row, IS THE sha256 OF THE DUMP (.gsa) THAT YtiofphpdonlaoaaProg.lean LOADS. Nothing in Lean hashes anything: it is a label: what it is worth is what the hold of that sum in a sandbox is worth. -/
noncomputable def Try.pinned : Pinned := { name := "ytiofphpdonlaoaa", sum := "a306e769759df176f561761e564c7413f11909fe526e69b60b37ff4f92c0e70e", checked := Try.checked }
namespace Rows
def none {H : Type} : Left H := { results := [], args := [] }

/-- 'tallagelaw01.WordReckons': WHATEVER THE INPUT: true; the input reads as it did. -/
def wordReckonsSpec : ChangeSpec := { name := "wordReckons", fn := fun _ => fun
  | [d1, d2] => { results := [.lit (.bool true)], args := [d1, d2] }
  | _ => none }
def wordReckonsRow : OpenClaim := { program := "ytiofphpdonlaoaa", sum := "a306e769759df176f561761e564c7413f11909fe526e69b60b37ff4f92c0e70e", func := "tallage/tallagelaw01.WordReckons", spec := "wordReckons", inPlace := ["math/bits.Add64", "math/bits.Sub64"], named := ["math/bits.divideError", "math/bits.overflowError"], apart := false }
def WordReckonsSaid : Prop := wordReckonsRow.holds Try.pinned (OpenSpec.ofChange wordReckonsSpec)

/-- ITS FALSE NEIGHBOUR: 'it returns false'. Refute it at one input. -/
def wordReckonsWrong : ChangeSpec := { name := "wordReckons", fn := fun _ => fun
  | [d1, d2] => { results := [.lit (.bool false)], args := [d1, d2] }
  | _ => none }
def WordReckonsWrongFalsely : Prop := wordReckonsRow.holds Try.pinned (OpenSpec.ofChange wordReckonsWrong)

/-- 'tallagelaw01.WordForms': WHATEVER THE INPUT: true; the input reads as it did. -/
def wordFormsSpec : ChangeSpec := { name := "wordForms", fn := fun _ => fun
  | [d1, d2, d3] => { results := [.lit (.bool true)], args := [d1, d2, d3] }
  | _ => none }
def wordFormsRow : OpenClaim := { program := "ytiofphpdonlaoaa", sum := "a306e769759df176f561761e564c7413f11909fe526e69b60b37ff4f92c0e70e", func := "tallage/tallagelaw01.WordForms", spec := "wordForms", inPlace := ["math/bits.Sub64", "math/bits.Add64"], named := ["math/bits.divideError", "math/bits.overflowError"], apart := false }
def WordFormsSaid : Prop := wordFormsRow.holds Try.pinned (OpenSpec.ofChange wordFormsSpec)

/-- ITS FALSE NEIGHBOUR: 'it returns false'. Refute it at one input. -/
def wordFormsWrong : ChangeSpec := { name := "wordForms", fn := fun _ => fun
  | [d1, d2, d3] => { results := [.lit (.bool false)], args := [d1, d2, d3] }
  | _ => none }
def WordFormsWrongFalsely : Prop := wordFormsRow.holds Try.pinned (OpenSpec.ofChange wordFormsWrong)

/-- 'tallagelaw01.WordBack': WHATEVER THE INPUT: true; the input reads as it did. -/
def wordBackSpec : ChangeSpec := { name := "wordBack", fn := fun _ => fun
  | [d1, d2] => { results := [.lit (.bool true)], args := [d1, d2] }
  | _ => none }
def wordBackRow : OpenClaim := { program := "ytiofphpdonlaoaa", sum := "a306e769759df176f561761e564c7413f11909fe526e69b60b37ff4f92c0e70e", func := "tallage/tallagelaw01.WordBack", spec := "wordBack", inPlace := ["math/bits.Add64", "math/bits.Sub64"], named := ["math/bits.divideError", "math/bits.overflowError"], apart := false }
def WordBackSaid : Prop := wordBackRow.holds Try.pinned (OpenSpec.ofChange wordBackSpec)

/-- ITS FALSE NEIGHBOUR: 'it returns false'. Refute it at one input. -/
def wordBackWrong : ChangeSpec := { name := "wordBack", fn := fun _ => fun
  | [d1, d2] => { results := [.lit (.bool false)], args := [d1, d2] }
  | _ => none }
def WordBackWrongFalsely : Prop := wordBackRow.holds Try.pinned (OpenSpec.ofChange wordBackWrong)

/-- 'tallagelaw01.WordOrder': WHATEVER THE INPUT: true; the input reads as it did. -/
def wordOrderSpec : ChangeSpec := { name := "wordOrder", fn := fun _ => fun
  | [d1, d2, d3] => { results := [.lit (.bool true)], args := [d1, d2, d3] }
  | _ => none }
def wordOrderRow : OpenClaim := { program := "ytiofphpdonlaoaa", sum := "a306e769759df176f561761e564c7413f11909fe526e69b60b37ff4f92c0e70e", func := "tallage/tallagelaw01.WordOrder", spec := "wordOrder", inPlace := ["math/bits.Add64", "math/bits.Sub64"], named := ["math/bits.divideError", "math/bits.overflowError"], apart := false }
def WordOrderSaid : Prop := wordOrderRow.holds Try.pinned (OpenSpec.ofChange wordOrderSpec)

/-- ITS FALSE NEIGHBOUR: 'it returns false'. Refute it at one input. -/
def wordOrderWrong : ChangeSpec := { name := "wordOrder", fn := fun _ => fun
  | [d1, d2, d3] => { results := [.lit (.bool false)], args := [d1, d2, d3] }
  | _ => none }
def WordOrderWrongFalsely : Prop := wordOrderRow.holds Try.pinned (OpenSpec.ofChange wordOrderWrong)

/-- 'tallagelaw02.MuldivDivides': WHATEVER THE INPUT: true; the input reads as it did. -/
def muldivDividesSpec : ChangeSpec := { name := "muldivDivides", fn := fun _ => fun
  | [d1, d2, d3] => { results := [.lit (.bool true)], args := [d1, d2, d3] }
  | _ => none }
def muldivDividesRow : OpenClaim := { program := "ytiofphpdonlaoaa", sum := "a306e769759df176f561761e564c7413f11909fe526e69b60b37ff4f92c0e70e", func := "tallage/tallagelaw02.MuldivDivides", spec := "muldivDivides", inPlace := ["math/bits.Add64", "math/bits.Sub64"], named := ["math/bits.divideError", "math/bits.overflowError"], apart := false }
def MuldivDividesSaid : Prop := muldivDividesRow.holds Try.pinned (OpenSpec.ofChange muldivDividesSpec)

/-- ITS FALSE NEIGHBOUR: 'it returns false'. Refute it at one input. -/
def muldivDividesWrong : ChangeSpec := { name := "muldivDivides", fn := fun _ => fun
  | [d1, d2, d3] => { results := [.lit (.bool false)], args := [d1, d2, d3] }
  | _ => none }
def MuldivDividesWrongFalsely : Prop := muldivDividesRow.holds Try.pinned (OpenSpec.ofChange muldivDividesWrong)

/-- 'tallagelaw02.MuldivQuo': WHATEVER THE INPUT: true; the input reads as it did. -/
def muldivQuoSpec : ChangeSpec := { name := "muldivQuo", fn := fun _ => fun
  | [d1, d2, d3] => { results := [.lit (.bool true)], args := [d1, d2, d3] }
  | _ => none }
def muldivQuoRow : OpenClaim := { program := "ytiofphpdonlaoaa", sum := "a306e769759df176f561761e564c7413f11909fe526e69b60b37ff4f92c0e70e", func := "tallage/tallagelaw02.MuldivQuo", spec := "muldivQuo", inPlace := ["math/bits.Add64", "math/bits.Sub64"], named := ["math/bits.divideError", "math/bits.overflowError"], apart := false }
def MuldivQuoSaid : Prop := muldivQuoRow.holds Try.pinned (OpenSpec.ofChange muldivQuoSpec)

/-- ITS FALSE NEIGHBOUR: 'it returns false'. Refute it at one input. -/
def muldivQuoWrong : ChangeSpec := { name := "muldivQuo", fn := fun _ => fun
  | [d1, d2, d3] => { results := [.lit (.bool false)], args := [d1, d2, d3] }
  | _ => none }
def MuldivQuoWrongFalsely : Prop := muldivQuoRow.holds Try.pinned (OpenSpec.ofChange muldivQuoWrong)

/-- 'tallagelaw02.MuldivRounds': WHATEVER THE INPUT: true; the input reads as it did. -/
def muldivRoundsSpec : ChangeSpec := { name := "muldivRounds", fn := fun _ => fun
  | [d1, d2, d3] => { results := [.lit (.bool true)], args := [d1, d2, d3] }
  | _ => none }
def muldivRoundsRow : OpenClaim := { program := "ytiofphpdonlaoaa", sum := "a306e769759df176f561761e564c7413f11909fe526e69b60b37ff4f92c0e70e", func := "tallage/tallagelaw02.MuldivRounds", spec := "muldivRounds", inPlace := ["math/bits.Add64", "math/bits.Sub64"], named := ["math/bits.divideError", "math/bits.overflowError"], apart := false }
def MuldivRoundsSaid : Prop := muldivRoundsRow.holds Try.pinned (OpenSpec.ofChange muldivRoundsSpec)

/-- ITS FALSE NEIGHBOUR: 'it returns false'. Refute it at one input. -/
def muldivRoundsWrong : ChangeSpec := { name := "muldivRounds", fn := fun _ => fun
  | [d1, d2, d3] => { results := [.lit (.bool false)], args := [d1, d2, d3] }
  | _ => none }
def MuldivRoundsWrongFalsely : Prop := muldivRoundsRow.holds Try.pinned (OpenSpec.ofChange muldivRoundsWrong)

/-- 'tallagelaw02.MuldivScales': WHATEVER THE INPUT: true; the input reads as it did. -/
def muldivScalesSpec : ChangeSpec := { name := "muldivScales", fn := fun _ => fun
  | [d1, d2] => { results := [.lit (.bool true)], args := [d1, d2] }
  | _ => none }
def muldivScalesRow : OpenClaim := { program := "ytiofphpdonlaoaa", sum := "a306e769759df176f561761e564c7413f11909fe526e69b60b37ff4f92c0e70e", func := "tallage/tallagelaw02.MuldivScales", spec := "muldivScales", inPlace := ["math/bits.Add64", "math/bits.Sub64"], named := ["math/bits.divideError", "math/bits.overflowError"], apart := false }
def MuldivScalesSaid : Prop := muldivScalesRow.holds Try.pinned (OpenSpec.ofChange muldivScalesSpec)

/-- ITS FALSE NEIGHBOUR: 'it returns false'. Refute it at one input. -/
def muldivScalesWrong : ChangeSpec := { name := "muldivScales", fn := fun _ => fun
  | [d1, d2] => { results := [.lit (.bool false)], args := [d1, d2] }
  | _ => none }
def MuldivScalesWrongFalsely : Prop := muldivScalesRow.holds Try.pinned (OpenSpec.ofChange muldivScalesWrong)

/-- 'tallagelaw03.WadReckons': WHATEVER THE INPUT: true; the input reads as it did. -/
def wadReckonsSpec : ChangeSpec := { name := "wadReckons", fn := fun _ => fun
  | [d1, d2, d3] => { results := [.lit (.bool true)], args := [d1, d2, d3] }
  | _ => none }
def wadReckonsRow : OpenClaim := { program := "ytiofphpdonlaoaa", sum := "a306e769759df176f561761e564c7413f11909fe526e69b60b37ff4f92c0e70e", func := "tallage/tallagelaw03.WadReckons", spec := "wadReckons", inPlace := ["math/bits.Add64", "math/bits.Sub64"], unfollowed := true, recurses := true, named := ["math/bits.divideError", "math/bits.overflowError"], apart := false }
def WadReckonsSaid : Prop := wadReckonsRow.holds Try.pinned (OpenSpec.ofChange wadReckonsSpec)

/-- ITS FALSE NEIGHBOUR: 'it returns false'. Refute it at one input. -/
def wadReckonsWrong : ChangeSpec := { name := "wadReckons", fn := fun _ => fun
  | [d1, d2, d3] => { results := [.lit (.bool false)], args := [d1, d2, d3] }
  | _ => none }
def WadReckonsWrongFalsely : Prop := wadReckonsRow.holds Try.pinned (OpenSpec.ofChange wadReckonsWrong)

/-- 'tallagelaw03.WadParts': WHATEVER THE INPUT: true; the input reads as it did. -/
def wadPartsSpec : ChangeSpec := { name := "wadParts", fn := fun _ => fun
  | [d1, d2] => { results := [.lit (.bool true)], args := [d1, d2] }
  | _ => none }
def wadPartsRow : OpenClaim := { program := "ytiofphpdonlaoaa", sum := "a306e769759df176f561761e564c7413f11909fe526e69b60b37ff4f92c0e70e", func := "tallage/tallagelaw03.WadParts", spec := "wadParts", inPlace := ["math/bits.Sub64", "math/bits.Add64"], unfollowed := true, recurses := true, named := ["math/bits.divideError", "math/bits.overflowError"], apart := false }
def WadPartsSaid : Prop := wadPartsRow.holds Try.pinned (OpenSpec.ofChange wadPartsSpec)

/-- ITS FALSE NEIGHBOUR: 'it returns false'. Refute it at one input. -/
def wadPartsWrong : ChangeSpec := { name := "wadParts", fn := fun _ => fun
  | [d1, d2] => { results := [.lit (.bool false)], args := [d1, d2] }
  | _ => none }
def WadPartsWrongFalsely : Prop := wadPartsRow.holds Try.pinned (OpenSpec.ofChange wadPartsWrong)

/-- 'tallagelaw03.WadScales': WHATEVER THE INPUT: true; the input reads as it did. -/
def wadScalesSpec : ChangeSpec := { name := "wadScales", fn := fun _ => fun
  | [d1, d2, d3] => { results := [.lit (.bool true)], args := [d1, d2, d3] }
  | _ => none }
def wadScalesRow : OpenClaim := { program := "ytiofphpdonlaoaa", sum := "a306e769759df176f561761e564c7413f11909fe526e69b60b37ff4f92c0e70e", func := "tallage/tallagelaw03.WadScales", spec := "wadScales", inPlace := ["math/bits.Add64", "math/bits.Sub64"], unfollowed := true, recurses := true, named := ["math/bits.divideError", "math/bits.overflowError"], apart := false }
def WadScalesSaid : Prop := wadScalesRow.holds Try.pinned (OpenSpec.ofChange wadScalesSpec)

/-- ITS FALSE NEIGHBOUR: 'it returns false'. Refute it at one input. -/
def wadScalesWrong : ChangeSpec := { name := "wadScales", fn := fun _ => fun
  | [d1, d2, d3] => { results := [.lit (.bool false)], args := [d1, d2, d3] }
  | _ => none }
def WadScalesWrongFalsely : Prop := wadScalesRow.holds Try.pinned (OpenSpec.ofChange wadScalesWrong)

/-- 'tallagelaw03.WadSteps': WHATEVER THE INPUT: true; the input reads as it did. -/
def wadStepsSpec : ChangeSpec := { name := "wadSteps", fn := fun _ => fun
  | [d1, d2, d3] => { results := [.lit (.bool true)], args := [d1, d2, d3] }
  | _ => none }
def wadStepsRow : OpenClaim := { program := "ytiofphpdonlaoaa", sum := "a306e769759df176f561761e564c7413f11909fe526e69b60b37ff4f92c0e70e", func := "tallage/tallagelaw03.WadSteps", spec := "wadSteps", inPlace := ["math/bits.Sub64", "math/bits.Add64"], unfollowed := true, recurses := true, named := ["math/bits.divideError", "math/bits.overflowError"], apart := false }
def WadStepsSaid : Prop := wadStepsRow.holds Try.pinned (OpenSpec.ofChange wadStepsSpec)

/-- ITS FALSE NEIGHBOUR: 'it returns false'. Refute it at one input. -/
def wadStepsWrong : ChangeSpec := { name := "wadSteps", fn := fun _ => fun
  | [d1, d2, d3] => { results := [.lit (.bool false)], args := [d1, d2, d3] }
  | _ => none }
def WadStepsWrongFalsely : Prop := wadStepsRow.holds Try.pinned (OpenSpec.ofChange wadStepsWrong)

/- THE SECOND FORM. 'bulk': how many values and letters a reading holds, each counted each time it is reached (what is shared counts as often as it is met; a slice's spare places count too). A statement '..UptoSaid' is the law's where the arguments, and the package variables that the reading takes, are together of bulk at most 1048576: NARROWER than '..Said'. Prove '..Said' where nothing that the law and all that it calls make is longer than what came in: it says more and counts as full. Else prove '..UptoSaid'. A law counts once. -/
mutual
def uptoBulk {H : Type} : DataW H → Nat
  | .lit (.string bytes) => bytes.length + 1
  | .lit _ => 1
  | .nil => 1
  | .ptr d => uptoBulk d + 1
  | .slice elems spare => uptoBulkAll elems + uptoBulkAll spare + 1
  | .agg parts => uptoBulkAll parts + 1
  | .iface _ d => uptoBulk d + 1
  | .map entries => uptoBulkEntries entries + 1
  | .held _ => 1
def uptoBulkAll {H : Type} : List (DataW H) → Nat
  | [] => 0
  | d :: r => uptoBulk d + uptoBulkAll r
def uptoBulkEntries {H : Type} : List (Lit × DataW H) → Nat
  | [] => 0
  | x :: r => uptoBulkEntry x + uptoBulkEntries r
def uptoBulkEntry {H : Type} : Lit × DataW H → Nat
  | (.string bytes, d) => bytes.length + uptoBulk d + 1
  | (_, d) => uptoBulk d + 1
 end
def uptoSmall : (H : Type) → List (DataW H) → Bool := fun _ ds => decide (uptoBulkAll ds ≤ 1048576)
def OpenSpec.upto (s : _root_.Go.ChangeSpec) : _root_.Go.OpenSpec := { _root_.Go.OpenSpec.ofChange s with cond := some uptoSmall }

/-- 'tallagelaw01.WordReckons', WHERE WHAT IT READS IS OF BULK AT MOST 1048576: true; the input reads as it did. -/
def wordReckonsUptoRow : OpenClaim := { program := "ytiofphpdonlaoaa", sum := "a306e769759df176f561761e564c7413f11909fe526e69b60b37ff4f92c0e70e", func := "tallage/tallagelaw01.WordReckons", spec := "wordReckons", inPlace := ["math/bits.Add64", "math/bits.Sub64"], named := ["math/bits.divideError", "math/bits.overflowError"], apart := false, narrowed := true }
def WordReckonsUptoSaid : Prop := wordReckonsUptoRow.holds Try.pinned (OpenSpec.upto wordReckonsSpec)

/-- 'tallagelaw01.WordForms', WHERE WHAT IT READS IS OF BULK AT MOST 1048576: true; the input reads as it did. -/
def wordFormsUptoRow : OpenClaim := { program := "ytiofphpdonlaoaa", sum := "a306e769759df176f561761e564c7413f11909fe526e69b60b37ff4f92c0e70e", func := "tallage/tallagelaw01.WordForms", spec := "wordForms", inPlace := ["math/bits.Sub64", "math/bits.Add64"], named := ["math/bits.divideError", "math/bits.overflowError"], apart := false, narrowed := true }
def WordFormsUptoSaid : Prop := wordFormsUptoRow.holds Try.pinned (OpenSpec.upto wordFormsSpec)

/-- 'tallagelaw01.WordBack', WHERE WHAT IT READS IS OF BULK AT MOST 1048576: true; the input reads as it did. -/
def wordBackUptoRow : OpenClaim := { program := "ytiofphpdonlaoaa", sum := "a306e769759df176f561761e564c7413f11909fe526e69b60b37ff4f92c0e70e", func := "tallage/tallagelaw01.WordBack", spec := "wordBack", inPlace := ["math/bits.Add64", "math/bits.Sub64"], named := ["math/bits.divideError", "math/bits.overflowError"], apart := false, narrowed := true }
def WordBackUptoSaid : Prop := wordBackUptoRow.holds Try.pinned (OpenSpec.upto wordBackSpec)

/-- 'tallagelaw01.WordOrder', WHERE WHAT IT READS IS OF BULK AT MOST 1048576: true; the input reads as it did. -/
def wordOrderUptoRow : OpenClaim := { program := "ytiofphpdonlaoaa", sum := "a306e769759df176f561761e564c7413f11909fe526e69b60b37ff4f92c0e70e", func := "tallage/tallagelaw01.WordOrder", spec := "wordOrder", inPlace := ["math/bits.Add64", "math/bits.Sub64"], named := ["math/bits.divideError", "math/bits.overflowError"], apart := false, narrowed := true }
def WordOrderUptoSaid : Prop := wordOrderUptoRow.holds Try.pinned (OpenSpec.upto wordOrderSpec)

/-- 'tallagelaw02.MuldivDivides', WHERE WHAT IT READS IS OF BULK AT MOST 1048576: true; the input reads as it did. -/
def muldivDividesUptoRow : OpenClaim := { program := "ytiofphpdonlaoaa", sum := "a306e769759df176f561761e564c7413f11909fe526e69b60b37ff4f92c0e70e", func := "tallage/tallagelaw02.MuldivDivides", spec := "muldivDivides", inPlace := ["math/bits.Add64", "math/bits.Sub64"], named := ["math/bits.divideError", "math/bits.overflowError"], apart := false, narrowed := true }
def MuldivDividesUptoSaid : Prop := muldivDividesUptoRow.holds Try.pinned (OpenSpec.upto muldivDividesSpec)

/-- 'tallagelaw02.MuldivQuo', WHERE WHAT IT READS IS OF BULK AT MOST 1048576: true; the input reads as it did. -/
def muldivQuoUptoRow : OpenClaim := { program := "ytiofphpdonlaoaa", sum := "a306e769759df176f561761e564c7413f11909fe526e69b60b37ff4f92c0e70e", func := "tallage/tallagelaw02.MuldivQuo", spec := "muldivQuo", inPlace := ["math/bits.Add64", "math/bits.Sub64"], named := ["math/bits.divideError", "math/bits.overflowError"], apart := false, narrowed := true }
def MuldivQuoUptoSaid : Prop := muldivQuoUptoRow.holds Try.pinned (OpenSpec.upto muldivQuoSpec)

/-- 'tallagelaw02.MuldivRounds', WHERE WHAT IT READS IS OF BULK AT MOST 1048576: true; the input reads as it did. -/
def muldivRoundsUptoRow : OpenClaim := { program := "ytiofphpdonlaoaa", sum := "a306e769759df176f561761e564c7413f11909fe526e69b60b37ff4f92c0e70e", func := "tallage/tallagelaw02.MuldivRounds", spec := "muldivRounds", inPlace := ["math/bits.Add64", "math/bits.Sub64"], named := ["math/bits.divideError", "math/bits.overflowError"], apart := false, narrowed := true }
def MuldivRoundsUptoSaid : Prop := muldivRoundsUptoRow.holds Try.pinned (OpenSpec.upto muldivRoundsSpec)

/-- 'tallagelaw02.MuldivScales', WHERE WHAT IT READS IS OF BULK AT MOST 1048576: true; the input reads as it did. -/
def muldivScalesUptoRow : OpenClaim := { program := "ytiofphpdonlaoaa", sum := "a306e769759df176f561761e564c7413f11909fe526e69b60b37ff4f92c0e70e", func := "tallage/tallagelaw02.MuldivScales", spec := "muldivScales", inPlace := ["math/bits.Add64", "math/bits.Sub64"], named := ["math/bits.divideError", "math/bits.overflowError"], apart := false, narrowed := true }
def MuldivScalesUptoSaid : Prop := muldivScalesUptoRow.holds Try.pinned (OpenSpec.upto muldivScalesSpec)

/-- 'tallagelaw03.WadReckons', WHERE WHAT IT READS IS OF BULK AT MOST 1048576: true; the input reads as it did. -/
def wadReckonsUptoRow : OpenClaim := { program := "ytiofphpdonlaoaa", sum := "a306e769759df176f561761e564c7413f11909fe526e69b60b37ff4f92c0e70e", func := "tallage/tallagelaw03.WadReckons", spec := "wadReckons", inPlace := ["math/bits.Add64", "math/bits.Sub64"], unfollowed := true, recurses := true, named := ["math/bits.divideError", "math/bits.overflowError"], apart := false, narrowed := true }
def WadReckonsUptoSaid : Prop := wadReckonsUptoRow.holds Try.pinned (OpenSpec.upto wadReckonsSpec)

/-- 'tallagelaw03.WadParts', WHERE WHAT IT READS IS OF BULK AT MOST 1048576: true; the input reads as it did. -/
def wadPartsUptoRow : OpenClaim := { program := "ytiofphpdonlaoaa", sum := "a306e769759df176f561761e564c7413f11909fe526e69b60b37ff4f92c0e70e", func := "tallage/tallagelaw03.WadParts", spec := "wadParts", inPlace := ["math/bits.Sub64", "math/bits.Add64"], unfollowed := true, recurses := true, named := ["math/bits.divideError", "math/bits.overflowError"], apart := false, narrowed := true }
def WadPartsUptoSaid : Prop := wadPartsUptoRow.holds Try.pinned (OpenSpec.upto wadPartsSpec)

/-- 'tallagelaw03.WadScales', WHERE WHAT IT READS IS OF BULK AT MOST 1048576: true; the input reads as it did. -/
def wadScalesUptoRow : OpenClaim := { program := "ytiofphpdonlaoaa", sum := "a306e769759df176f561761e564c7413f11909fe526e69b60b37ff4f92c0e70e", func := "tallage/tallagelaw03.WadScales", spec := "wadScales", inPlace := ["math/bits.Add64", "math/bits.Sub64"], unfollowed := true, recurses := true, named := ["math/bits.divideError", "math/bits.overflowError"], apart := false, narrowed := true }
def WadScalesUptoSaid : Prop := wadScalesUptoRow.holds Try.pinned (OpenSpec.upto wadScalesSpec)

/-- 'tallagelaw03.WadSteps', WHERE WHAT IT READS IS OF BULK AT MOST 1048576: true; the input reads as it did. -/
def wadStepsUptoRow : OpenClaim := { program := "ytiofphpdonlaoaa", sum := "a306e769759df176f561761e564c7413f11909fe526e69b60b37ff4f92c0e70e", func := "tallage/tallagelaw03.WadSteps", spec := "wadSteps", inPlace := ["math/bits.Sub64", "math/bits.Add64"], unfollowed := true, recurses := true, named := ["math/bits.divideError", "math/bits.overflowError"], apart := false, narrowed := true }
def WadStepsUptoSaid : Prop := wadStepsUptoRow.holds Try.pinned (OpenSpec.upto wadStepsSpec)

end Rows
end Go.Proofs.Ytiofphpdonlaoaa
