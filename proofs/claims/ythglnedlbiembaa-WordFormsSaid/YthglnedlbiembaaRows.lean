/-
  No cell of these rows narrows 'for every input' (looked for: loops, veiled, ifaces, maps, wideKeys, modest, calm, conditions, laid).
  DERIVED. THE GIVEN ROWS OF THIS SEAT. 12 by the template 'for every input the law returns true; each argument reads behind the call as it read before'; 0 by the template 'total and deterministic' (their statements: YthglnedlbiembaaTotals.lean).
  GIVEN WITH THE SEED: the statements are not yours to turn. If you find one false, say at which input.
  Laid BY PROGRAM, IN A SANDBOX (cutbox-rows.mjs): the forced cells as the released guide's own fill.sh prints them over the translation 02af1b0f8cb685c7… (all of the seat's roots in one cut). By AI agents, Wed Nov 11 2026. No macro, syntax, notation, axiom, sorry.
-/
import Derived.Test.YthglnedlbiembaaChecked
import GoSem.Claim
import GoSem.ClaimJoined
import GoSem.ClaimMapViews
import Derived.JoinedTies
import Derived.KernelRfl
namespace Go.Proofs.Ythglnedlbiembaa
/- THE CELL 'sum', in the pinned program and in every row, IS THE sha256 OF THE DUMP (.gsa) THAT YthglnedlbiembaaProg.lean LOADS. Nothing in Lean hashes anything: it is a label: what it is worth is what the hold of that sum in a sandbox is worth. -/
noncomputable def Try.pinned : Pinned := { name := "ythglnedlbiembaa", sum := "02af1b0f8cb685c772db1d1da55311c61b2d5856fc75c427e00da87b58dae39a", checked := Try.checked }
namespace Rows
def none {H : Type} : Left H := { results := [], args := [] }

/-- 'tallagelaw01.WordReckons': WHATEVER THE INPUT: true; the input reads as it did. -/
def wordReckonsSpec : ChangeSpec := { name := "wordReckons", fn := fun _ => fun
  | [d1, d2] => { results := [.lit (.bool true)], args := [d1, d2] }
  | _ => none }
def wordReckonsRow : OpenClaim := { program := "ythglnedlbiembaa", sum := "02af1b0f8cb685c772db1d1da55311c61b2d5856fc75c427e00da87b58dae39a", func := "tallage/tallagelaw01.WordReckons", spec := "wordReckons", inPlace := ["math/bits.Add64", "math/bits.Sub64"], named := ["math/bits.divideError", "math/bits.overflowError"], apart := false }
def WordReckonsSaid : Prop := wordReckonsRow.holds Try.pinned (OpenSpec.ofChange wordReckonsSpec)

/-- ITS FALSE NEIGHBOUR: 'it returns false'. Refute it at one input. -/
def wordReckonsWrong : ChangeSpec := { name := "wordReckons", fn := fun _ => fun
  | [d1, d2] => { results := [.lit (.bool false)], args := [d1, d2] }
  | _ => none }
def WordReckonsWrongFalsely : Prop := wordReckonsRow.holds Try.pinned (OpenSpec.ofChange wordReckonsWrong)

/-- 'tallagelaw01.WordForms': WHATEVER THE INPUT: true; the input reads as it did. -/
def wordFormsSpec : ChangeSpec := { name := "wordForms", fn := fun _ => fun
  | [d1, d2, d3] => { results := [.lit (.bool true)], args := [d1, d2, d3] }
  | _ => none }
def wordFormsRow : OpenClaim := { program := "ythglnedlbiembaa", sum := "02af1b0f8cb685c772db1d1da55311c61b2d5856fc75c427e00da87b58dae39a", func := "tallage/tallagelaw01.WordForms", spec := "wordForms", inPlace := ["math/bits.Sub64", "math/bits.Add64"], named := ["math/bits.divideError", "math/bits.overflowError"], apart := false }
def WordFormsSaid : Prop := wordFormsRow.holds Try.pinned (OpenSpec.ofChange wordFormsSpec)

/-- ITS FALSE NEIGHBOUR: 'it returns false'. Refute it at one input. -/
def wordFormsWrong : ChangeSpec := { name := "wordForms", fn := fun _ => fun
  | [d1, d2, d3] => { results := [.lit (.bool false)], args := [d1, d2, d3] }
  | _ => none }
def WordFormsWrongFalsely : Prop := wordFormsRow.holds Try.pinned (OpenSpec.ofChange wordFormsWrong)

/-- 'tallagelaw02.MuldivDivides': WHATEVER THE INPUT: true; the input reads as it did. -/
def muldivDividesSpec : ChangeSpec := { name := "muldivDivides", fn := fun _ => fun
  | [d1, d2, d3] => { results := [.lit (.bool true)], args := [d1, d2, d3] }
  | _ => none }
def muldivDividesRow : OpenClaim := { program := "ythglnedlbiembaa", sum := "02af1b0f8cb685c772db1d1da55311c61b2d5856fc75c427e00da87b58dae39a", func := "tallage/tallagelaw02.MuldivDivides", spec := "muldivDivides", inPlace := ["math/bits.Add64", "math/bits.Sub64"], named := ["math/bits.divideError", "math/bits.overflowError"], apart := false }
def MuldivDividesSaid : Prop := muldivDividesRow.holds Try.pinned (OpenSpec.ofChange muldivDividesSpec)

/-- ITS FALSE NEIGHBOUR: 'it returns false'. Refute it at one input. -/
def muldivDividesWrong : ChangeSpec := { name := "muldivDivides", fn := fun _ => fun
  | [d1, d2, d3] => { results := [.lit (.bool false)], args := [d1, d2, d3] }
  | _ => none }
def MuldivDividesWrongFalsely : Prop := muldivDividesRow.holds Try.pinned (OpenSpec.ofChange muldivDividesWrong)

/-- 'tallagelaw02.MuldivQuo': WHATEVER THE INPUT: true; the input reads as it did. -/
def muldivQuoSpec : ChangeSpec := { name := "muldivQuo", fn := fun _ => fun
  | [d1, d2, d3] => { results := [.lit (.bool true)], args := [d1, d2, d3] }
  | _ => none }
def muldivQuoRow : OpenClaim := { program := "ythglnedlbiembaa", sum := "02af1b0f8cb685c772db1d1da55311c61b2d5856fc75c427e00da87b58dae39a", func := "tallage/tallagelaw02.MuldivQuo", spec := "muldivQuo", inPlace := ["math/bits.Add64", "math/bits.Sub64"], named := ["math/bits.divideError", "math/bits.overflowError"], apart := false }
def MuldivQuoSaid : Prop := muldivQuoRow.holds Try.pinned (OpenSpec.ofChange muldivQuoSpec)

/-- ITS FALSE NEIGHBOUR: 'it returns false'. Refute it at one input. -/
def muldivQuoWrong : ChangeSpec := { name := "muldivQuo", fn := fun _ => fun
  | [d1, d2, d3] => { results := [.lit (.bool false)], args := [d1, d2, d3] }
  | _ => none }
def MuldivQuoWrongFalsely : Prop := muldivQuoRow.holds Try.pinned (OpenSpec.ofChange muldivQuoWrong)

/-- 'tallagelaw03.WadReckons': WHATEVER THE INPUT: true; the input reads as it did. -/
def wadReckonsSpec : ChangeSpec := { name := "wadReckons", fn := fun _ => fun
  | [d1, d2, d3] => { results := [.lit (.bool true)], args := [d1, d2, d3] }
  | _ => none }
def wadReckonsRow : OpenClaim := { program := "ythglnedlbiembaa", sum := "02af1b0f8cb685c772db1d1da55311c61b2d5856fc75c427e00da87b58dae39a", func := "tallage/tallagelaw03.WadReckons", spec := "wadReckons", inPlace := ["math/bits.Add64", "math/bits.Sub64"], unfollowed := true, recurses := true, named := ["math/bits.divideError", "math/bits.overflowError"], apart := false }
def WadReckonsSaid : Prop := wadReckonsRow.holds Try.pinned (OpenSpec.ofChange wadReckonsSpec)

/-- ITS FALSE NEIGHBOUR: 'it returns false'. Refute it at one input. -/
def wadReckonsWrong : ChangeSpec := { name := "wadReckons", fn := fun _ => fun
  | [d1, d2, d3] => { results := [.lit (.bool false)], args := [d1, d2, d3] }
  | _ => none }
def WadReckonsWrongFalsely : Prop := wadReckonsRow.holds Try.pinned (OpenSpec.ofChange wadReckonsWrong)

/-- 'tallagelaw20.FactorGrows': WHATEVER THE INPUT: true; the input reads as it did. -/
def factorGrowsSpec : ChangeSpec := { name := "factorGrows", fn := fun _ => fun
  | [d1, d2, d3] => { results := [.lit (.bool true)], args := [d1, d2, d3] }
  | _ => none }
def factorGrowsRow : OpenClaim := { program := "ythglnedlbiembaa", sum := "02af1b0f8cb685c772db1d1da55311c61b2d5856fc75c427e00da87b58dae39a", func := "tallage/tallagelaw20.FactorGrows", spec := "factorGrows", inPlace := ["math/bits.Add64", "math/bits.Sub64"], unfollowed := true, recurses := true, named := ["math/bits.divideError", "math/bits.overflowError"], apart := false }
def FactorGrowsSaid : Prop := factorGrowsRow.holds Try.pinned (OpenSpec.ofChange factorGrowsSpec)

/-- ITS FALSE NEIGHBOUR: 'it returns false'. Refute it at one input. -/
def factorGrowsWrong : ChangeSpec := { name := "factorGrows", fn := fun _ => fun
  | [d1, d2, d3] => { results := [.lit (.bool false)], args := [d1, d2, d3] }
  | _ => none }
def FactorGrowsWrongFalsely : Prop := factorGrowsRow.holds Try.pinned (OpenSpec.ofChange factorGrowsWrong)

/-- 'tallagelaw20.FactorMoves': WHATEVER THE INPUT: true; the input reads as it did. -/
def factorMovesSpec : ChangeSpec := { name := "factorMoves", fn := fun _ => fun
  | [d1, d2] => { results := [.lit (.bool true)], args := [d1, d2] }
  | _ => none }
def factorMovesRow : OpenClaim := { program := "ythglnedlbiembaa", sum := "02af1b0f8cb685c772db1d1da55311c61b2d5856fc75c427e00da87b58dae39a", func := "tallage/tallagelaw20.FactorMoves", spec := "factorMoves", inPlace := ["math/bits.Add64", "math/bits.Sub64"], unfollowed := true, recurses := true, named := ["math/bits.divideError", "math/bits.overflowError"], apart := false }
def FactorMovesSaid : Prop := factorMovesRow.holds Try.pinned (OpenSpec.ofChange factorMovesSpec)

/-- ITS FALSE NEIGHBOUR: 'it returns false'. Refute it at one input. -/
def factorMovesWrong : ChangeSpec := { name := "factorMoves", fn := fun _ => fun
  | [d1, d2] => { results := [.lit (.bool false)], args := [d1, d2] }
  | _ => none }
def FactorMovesWrongFalsely : Prop := factorMovesRow.holds Try.pinned (OpenSpec.ofChange factorMovesWrong)

/-- 'tallagelaw20.FactorParts': WHATEVER THE INPUT: true; the input reads as it did. -/
def factorPartsSpec : ChangeSpec := { name := "factorParts", fn := fun _ => fun
  | [d1, d2, d3] => { results := [.lit (.bool true)], args := [d1, d2, d3] }
  | _ => none }
def factorPartsRow : OpenClaim := { program := "ythglnedlbiembaa", sum := "02af1b0f8cb685c772db1d1da55311c61b2d5856fc75c427e00da87b58dae39a", func := "tallage/tallagelaw20.FactorParts", spec := "factorParts", inPlace := ["math/bits.Sub64", "math/bits.Add64"], unfollowed := true, recurses := true, named := ["math/bits.divideError", "math/bits.overflowError"], apart := false }
def FactorPartsSaid : Prop := factorPartsRow.holds Try.pinned (OpenSpec.ofChange factorPartsSpec)

/-- ITS FALSE NEIGHBOUR: 'it returns false'. Refute it at one input. -/
def factorPartsWrong : ChangeSpec := { name := "factorParts", fn := fun _ => fun
  | [d1, d2, d3] => { results := [.lit (.bool false)], args := [d1, d2, d3] }
  | _ => none }
def FactorPartsWrongFalsely : Prop := factorPartsRow.holds Try.pinned (OpenSpec.ofChange factorPartsWrong)

/-- 'tallagelaw34.SplitParts': WHATEVER THE INPUT: true; the input reads as it did. -/
def splitPartsSpec : ChangeSpec := { name := "splitParts", fn := fun _ => fun
  | [d1, d2] => { results := [.lit (.bool true)], args := [d1, d2] }
  | _ => none }
def splitPartsRow : OpenClaim := { program := "ythglnedlbiembaa", sum := "02af1b0f8cb685c772db1d1da55311c61b2d5856fc75c427e00da87b58dae39a", func := "tallage/tallagelaw34.SplitParts", spec := "splitParts", inPlace := ["math/bits.Sub64", "math/bits.Add64"], unfollowed := true, recurses := true, named := ["math/bits.divideError", "math/bits.overflowError"], apart := false }
def SplitPartsSaid : Prop := splitPartsRow.holds Try.pinned (OpenSpec.ofChange splitPartsSpec)

/-- ITS FALSE NEIGHBOUR: 'it returns false'. Refute it at one input. -/
def splitPartsWrong : ChangeSpec := { name := "splitParts", fn := fun _ => fun
  | [d1, d2] => { results := [.lit (.bool false)], args := [d1, d2] }
  | _ => none }
def SplitPartsWrongFalsely : Prop := splitPartsRow.holds Try.pinned (OpenSpec.ofChange splitPartsWrong)

/-- 'tallagelaw34.SplitAdds': WHATEVER THE INPUT: true; the input reads as it did. -/
def splitAddsSpec : ChangeSpec := { name := "splitAdds", fn := fun _ => fun
  | [d1, d2] => { results := [.lit (.bool true)], args := [d1, d2] }
  | _ => none }
def splitAddsRow : OpenClaim := { program := "ythglnedlbiembaa", sum := "02af1b0f8cb685c772db1d1da55311c61b2d5856fc75c427e00da87b58dae39a", func := "tallage/tallagelaw34.SplitAdds", spec := "splitAdds", inPlace := ["math/bits.Sub64", "math/bits.Add64"], unfollowed := true, recurses := true, named := ["math/bits.divideError", "math/bits.overflowError"], apart := false }
def SplitAddsSaid : Prop := splitAddsRow.holds Try.pinned (OpenSpec.ofChange splitAddsSpec)

/-- ITS FALSE NEIGHBOUR: 'it returns false'. Refute it at one input. -/
def splitAddsWrong : ChangeSpec := { name := "splitAdds", fn := fun _ => fun
  | [d1, d2] => { results := [.lit (.bool false)], args := [d1, d2] }
  | _ => none }
def SplitAddsWrongFalsely : Prop := splitAddsRow.holds Try.pinned (OpenSpec.ofChange splitAddsWrong)

/-- 'tallagelaw09.KeysBack': WHATEVER THE INPUT: true; the input reads as it did. -/
def keysBackSpec : ChangeSpec := { name := "keysBack", fn := fun _ => fun
  | [d1, d2, d3] => { results := [.lit (.bool true)], args := [d1, d2, d3] }
  | _ => none }
def keysBackRow : OpenClaim := { program := "ythglnedlbiembaa", sum := "02af1b0f8cb685c772db1d1da55311c61b2d5856fc75c427e00da87b58dae39a", func := "tallage/tallagelaw09.KeysBack", spec := "keysBack", apart := false }
def KeysBackSaid : Prop := keysBackRow.holds Try.pinned (OpenSpec.ofChange keysBackSpec)

/-- ITS FALSE NEIGHBOUR: 'it returns false'. Refute it at one input. -/
def keysBackWrong : ChangeSpec := { name := "keysBack", fn := fun _ => fun
  | [d1, d2, d3] => { results := [.lit (.bool false)], args := [d1, d2, d3] }
  | _ => none }
def KeysBackWrongFalsely : Prop := keysBackRow.holds Try.pinned (OpenSpec.ofChange keysBackWrong)

/-- 'tallagelaw09.KeysForms': WHATEVER THE INPUT: true; the input reads as it did. -/
def keysFormsSpec : ChangeSpec := { name := "keysForms", fn := fun _ => fun
  | [d1, d2, d3] => { results := [.lit (.bool true)], args := [d1, d2, d3] }
  | _ => none }
def keysFormsRow : OpenClaim := { program := "ythglnedlbiembaa", sum := "02af1b0f8cb685c772db1d1da55311c61b2d5856fc75c427e00da87b58dae39a", func := "tallage/tallagelaw09.KeysForms", spec := "keysForms", apart := false }
def KeysFormsSaid : Prop := keysFormsRow.holds Try.pinned (OpenSpec.ofChange keysFormsSpec)

/-- ITS FALSE NEIGHBOUR: 'it returns false'. Refute it at one input. -/
def keysFormsWrong : ChangeSpec := { name := "keysForms", fn := fun _ => fun
  | [d1, d2, d3] => { results := [.lit (.bool false)], args := [d1, d2, d3] }
  | _ => none }
def KeysFormsWrongFalsely : Prop := keysFormsRow.holds Try.pinned (OpenSpec.ofChange keysFormsWrong)

/- THE SECOND FORM. 'bulk': how many values and letters a reading holds, each counted each time it is reached (what is shared counts as often as it is met; a slice's spare places count too). A statement '..UptoSaid' is the law's where the arguments, and the package variables that the reading takes, are together of bulk at most 1048576: NARROWER than '..Said'. Prove '..Said' where nothing that the law and all that it calls make is longer than what came in: it says more and counts as full. Else prove '..UptoSaid'. A law counts once. -/
mutual
def uptoBulk {H : Type} : DataW H → Nat
  | .lit (.string bytes) => bytes.length + 1
  | .lit _ => 1
  | .nil => 1
  | .ptr d => uptoBulk d + 1
  | .slice elems spare => uptoBulkAll elems + uptoBulkAll spare + 1
  | .agg parts => uptoBulkAll parts + 1
  | .iface _ d => uptoBulk d + 1
  | .map entries => uptoBulkEntries entries + 1
  | .held _ => 1
def uptoBulkAll {H : Type} : List (DataW H) → Nat
  | [] => 0
  | d :: r => uptoBulk d + uptoBulkAll r
def uptoBulkEntries {H : Type} : List (Lit × DataW H) → Nat
  | [] => 0
  | x :: r => uptoBulkEntry x + uptoBulkEntries r
def uptoBulkEntry {H : Type} : Lit × DataW H → Nat
  | (.string bytes, d) => bytes.length + uptoBulk d + 1
  | (_, d) => uptoBulk d + 1
 end
def uptoSmall : (H : Type) → List (DataW H) → Bool := fun _ ds => decide (uptoBulkAll ds ≤ 1048576)
def OpenSpec.upto (s : _root_.Go.ChangeSpec) : _root_.Go.OpenSpec := { _root_.Go.OpenSpec.ofChange s with cond := some uptoSmall }

/-- 'tallagelaw01.WordReckons', WHERE WHAT IT READS IS OF BULK AT MOST 1048576: true; the input reads as it did. -/
def wordReckonsUptoRow : OpenClaim := { program := "ythglnedlbiembaa", sum := "02af1b0f8cb685c772db1d1da55311c61b2d5856fc75c427e00da87b58dae39a", func := "tallage/tallagelaw01.WordReckons", spec := "wordReckons", inPlace := ["math/bits.Add64", "math/bits.Sub64"], named := ["math/bits.divideError", "math/bits.overflowError"], apart := false, narrowed := true }
def WordReckonsUptoSaid : Prop := wordReckonsUptoRow.holds Try.pinned (OpenSpec.upto wordReckonsSpec)

/-- 'tallagelaw01.WordForms', WHERE WHAT IT READS IS OF BULK AT MOST 1048576: true; the input reads as it did. -/
def wordFormsUptoRow : OpenClaim := { program := "ythglnedlbiembaa", sum := "02af1b0f8cb685c772db1d1da55311c61b2d5856fc75c427e00da87b58dae39a", func := "tallage/tallagelaw01.WordForms", spec := "wordForms", inPlace := ["math/bits.Sub64", "math/bits.Add64"], named := ["math/bits.divideError", "math/bits.overflowError"], apart := false, narrowed := true }
def WordFormsUptoSaid : Prop := wordFormsUptoRow.holds Try.pinned (OpenSpec.upto wordFormsSpec)

/-- 'tallagelaw02.MuldivDivides', WHERE WHAT IT READS IS OF BULK AT MOST 1048576: true; the input reads as it did. -/
def muldivDividesUptoRow : OpenClaim := { program := "ythglnedlbiembaa", sum := "02af1b0f8cb685c772db1d1da55311c61b2d5856fc75c427e00da87b58dae39a", func := "tallage/tallagelaw02.MuldivDivides", spec := "muldivDivides", inPlace := ["math/bits.Add64", "math/bits.Sub64"], named := ["math/bits.divideError", "math/bits.overflowError"], apart := false, narrowed := true }
def MuldivDividesUptoSaid : Prop := muldivDividesUptoRow.holds Try.pinned (OpenSpec.upto muldivDividesSpec)

/-- 'tallagelaw02.MuldivQuo', WHERE WHAT IT READS IS OF BULK AT MOST 1048576: true; the input reads as it did. -/
def muldivQuoUptoRow : OpenClaim := { program := "ythglnedlbiembaa", sum := "02af1b0f8cb685c772db1d1da55311c61b2d5856fc75c427e00da87b58dae39a", func := "tallage/tallagelaw02.MuldivQuo", spec := "muldivQuo", inPlace := ["math/bits.Add64", "math/bits.Sub64"], named := ["math/bits.divideError", "math/bits.overflowError"], apart := false, narrowed := true }
def MuldivQuoUptoSaid : Prop := muldivQuoUptoRow.holds Try.pinned (OpenSpec.upto muldivQuoSpec)

/-- 'tallagelaw03.WadReckons', WHERE WHAT IT READS IS OF BULK AT MOST 1048576: true; the input reads as it did. -/
def wadReckonsUptoRow : OpenClaim := { program := "ythglnedlbiembaa", sum := "02af1b0f8cb685c772db1d1da55311c61b2d5856fc75c427e00da87b58dae39a", func := "tallage/tallagelaw03.WadReckons", spec := "wadReckons", inPlace := ["math/bits.Add64", "math/bits.Sub64"], unfollowed := true, recurses := true, named := ["math/bits.divideError", "math/bits.overflowError"], apart := false, narrowed := true }
def WadReckonsUptoSaid : Prop := wadReckonsUptoRow.holds Try.pinned (OpenSpec.upto wadReckonsSpec)

/-- 'tallagelaw20.FactorGrows', WHERE WHAT IT READS IS OF BULK AT MOST 1048576: true; the input reads as it did. -/
def factorGrowsUptoRow : OpenClaim := { program := "ythglnedlbiembaa", sum := "02af1b0f8cb685c772db1d1da55311c61b2d5856fc75c427e00da87b58dae39a", func := "tallage/tallagelaw20.FactorGrows", spec := "factorGrows", inPlace := ["math/bits.Add64", "math/bits.Sub64"], unfollowed := true, recurses := true, named := ["math/bits.divideError", "math/bits.overflowError"], apart := false, narrowed := true }
def FactorGrowsUptoSaid : Prop := factorGrowsUptoRow.holds Try.pinned (OpenSpec.upto factorGrowsSpec)

/-- 'tallagelaw20.FactorMoves', WHERE WHAT IT READS IS OF BULK AT MOST 1048576: true; the input reads as it did. -/
def factorMovesUptoRow : OpenClaim := { program := "ythglnedlbiembaa", sum := "02af1b0f8cb685c772db1d1da55311c61b2d5856fc75c427e00da87b58dae39a", func := "tallage/tallagelaw20.FactorMoves", spec := "factorMoves", inPlace := ["math/bits.Add64", "math/bits.Sub64"], unfollowed := true, recurses := true, named := ["math/bits.divideError", "math/bits.overflowError"], apart := false, narrowed := true }
def FactorMovesUptoSaid : Prop := factorMovesUptoRow.holds Try.pinned (OpenSpec.upto factorMovesSpec)

/-- 'tallagelaw20.FactorParts', WHERE WHAT IT READS IS OF BULK AT MOST 1048576: true; the input reads as it did. -/
def factorPartsUptoRow : OpenClaim := { program := "ythglnedlbiembaa", sum := "02af1b0f8cb685c772db1d1da55311c61b2d5856fc75c427e00da87b58dae39a", func := "tallage/tallagelaw20.FactorParts", spec := "factorParts", inPlace := ["math/bits.Sub64", "math/bits.Add64"], unfollowed := true, recurses := true, named := ["math/bits.divideError", "math/bits.overflowError"], apart := false, narrowed := true }
def FactorPartsUptoSaid : Prop := factorPartsUptoRow.holds Try.pinned (OpenSpec.upto factorPartsSpec)

/-- 'tallagelaw34.SplitParts', WHERE WHAT IT READS IS OF BULK AT MOST 1048576: true; the input reads as it did. -/
def splitPartsUptoRow : OpenClaim := { program := "ythglnedlbiembaa", sum := "02af1b0f8cb685c772db1d1da55311c61b2d5856fc75c427e00da87b58dae39a", func := "tallage/tallagelaw34.SplitParts", spec := "splitParts", inPlace := ["math/bits.Sub64", "math/bits.Add64"], unfollowed := true, recurses := true, named := ["math/bits.divideError", "math/bits.overflowError"], apart := false, narrowed := true }
def SplitPartsUptoSaid : Prop := splitPartsUptoRow.holds Try.pinned (OpenSpec.upto splitPartsSpec)

/-- 'tallagelaw34.SplitAdds', WHERE WHAT IT READS IS OF BULK AT MOST 1048576: true; the input reads as it did. -/
def splitAddsUptoRow : OpenClaim := { program := "ythglnedlbiembaa", sum := "02af1b0f8cb685c772db1d1da55311c61b2d5856fc75c427e00da87b58dae39a", func := "tallage/tallagelaw34.SplitAdds", spec := "splitAdds", inPlace := ["math/bits.Sub64", "math/bits.Add64"], unfollowed := true, recurses := true, named := ["math/bits.divideError", "math/bits.overflowError"], apart := false, narrowed := true }
def SplitAddsUptoSaid : Prop := splitAddsUptoRow.holds Try.pinned (OpenSpec.upto splitAddsSpec)

/-- 'tallagelaw09.KeysBack', WHERE WHAT IT READS IS OF BULK AT MOST 1048576: true; the input reads as it did. -/
def keysBackUptoRow : OpenClaim := { program := "ythglnedlbiembaa", sum := "02af1b0f8cb685c772db1d1da55311c61b2d5856fc75c427e00da87b58dae39a", func := "tallage/tallagelaw09.KeysBack", spec := "keysBack", apart := false, narrowed := true }
def KeysBackUptoSaid : Prop := keysBackUptoRow.holds Try.pinned (OpenSpec.upto keysBackSpec)

/-- 'tallagelaw09.KeysForms', WHERE WHAT IT READS IS OF BULK AT MOST 1048576: true; the input reads as it did. -/
def keysFormsUptoRow : OpenClaim := { program := "ythglnedlbiembaa", sum := "02af1b0f8cb685c772db1d1da55311c61b2d5856fc75c427e00da87b58dae39a", func := "tallage/tallagelaw09.KeysForms", spec := "keysForms", apart := false, narrowed := true }
def KeysFormsUptoSaid : Prop := keysFormsUptoRow.holds Try.pinned (OpenSpec.upto keysFormsSpec)

end Rows
end Go.Proofs.Ythglnedlbiembaa
