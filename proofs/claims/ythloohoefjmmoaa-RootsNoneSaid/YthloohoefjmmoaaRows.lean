/-
  No cell of these rows narrows 'for every input' (looked for: loops, veiled, ifaces, maps, wideKeys, modest, calm, conditions, laid).
  DERIVED. THE GIVEN ROWS OF THIS SEAT. 3 by the template 'for every input the law returns true; each argument reads behind the call as it read before'; 0 by the template 'total and deterministic' (their statements: YthloohoefjmmoaaTotals.lean).
  GIVEN WITH THE SEED: the statements are not yours to turn. If you find one false, say at which input.
  Laid BY PROGRAM, IN A SANDBOX (cutbox-rows.mjs): the forced cells as the released guide's own fill.sh prints them over the translation 4a251f32a6048911… (all of the seat's roots in one cut). By AI agents, Wed Nov 11 2026. No macro, syntax, notation, axiom, sorry.
-/
import Derived.Test.YthloohoefjmmoaaChecked
import GoSem.Claim
import GoSem.ClaimJoined
import GoSem.ClaimMapViews
import Derived.JoinedTies
import Derived.KernelRfl
namespace Go.Proofs.Ythloohoefjmmoaa
/- THE CELL 'sum', in the pinned program and in every row, IS THE sha256 OF THE DUMP (.gsa) THAT YthloohoefjmmoaaProg.lean LOADS. Nothing in Lean hashes anything: it is a label: what it is worth is what the hold of that sum in a sandbox is worth. -/
noncomputable def Try.pinned : Pinned := { name := "ythloohoefjmmoaa", sum := "4a251f32a6048911539ca52aae2e2d0e9c6102a73df737fdeb3e57d657622810", checked := Try.checked }
namespace Rows
def none {H : Type} : Left H := { results := [], args := [] }

/-- 'tallagelaw32.RootsActs': WHATEVER THE INPUT: true; the input reads as it did. -/
def rootsActsSpec : ChangeSpec := { name := "rootsActs", fn := fun _ => fun
  | [d1, d2] => { results := [.lit (.bool true)], args := [d1, d2] }
  | _ => none }
def rootsActsRow : OpenClaim := { program := "ythloohoefjmmoaa", sum := "4a251f32a6048911539ca52aae2e2d0e9c6102a73df737fdeb3e57d657622810", func := "tallage/tallagelaw32.RootsActs", spec := "rootsActs", inPlace := ["slices.overlaps[string]", "slices.overlaps[[]string]", "internal/abi.NoEscape"], unfollowed := true, recurses := true, apart := false }
def RootsActsSaid : Prop := rootsActsRow.holds Try.pinned (OpenSpec.ofChange rootsActsSpec)

/-- ITS FALSE NEIGHBOUR: 'it returns false'. Refute it at one input. -/
def rootsActsWrong : ChangeSpec := { name := "rootsActs", fn := fun _ => fun
  | [d1, d2] => { results := [.lit (.bool false)], args := [d1, d2] }
  | _ => none }
def RootsActsWrongFalsely : Prop := rootsActsRow.holds Try.pinned (OpenSpec.ofChange rootsActsWrong)

/-- 'tallagelaw32.RootsStay': WHATEVER THE INPUT: true; the input reads as it did. -/
def rootsStaySpec : ChangeSpec := { name := "rootsStay", fn := fun _ => fun
  | [d1, d2, d3] => { results := [.lit (.bool true)], args := [d1, d2, d3] }
  | _ => none }
def rootsStayRow : OpenClaim := { program := "ythloohoefjmmoaa", sum := "4a251f32a6048911539ca52aae2e2d0e9c6102a73df737fdeb3e57d657622810", func := "tallage/tallagelaw32.RootsStay", spec := "rootsStay", inPlace := ["slices.overlaps[string]", "slices.overlaps[[]string]", "internal/abi.NoEscape"], unfollowed := true, recurses := true, apart := false }
def RootsStaySaid : Prop := rootsStayRow.holds Try.pinned (OpenSpec.ofChange rootsStaySpec)

/-- ITS FALSE NEIGHBOUR: 'it returns false'. Refute it at one input. -/
def rootsStayWrong : ChangeSpec := { name := "rootsStay", fn := fun _ => fun
  | [d1, d2, d3] => { results := [.lit (.bool false)], args := [d1, d2, d3] }
  | _ => none }
def RootsStayWrongFalsely : Prop := rootsStayRow.holds Try.pinned (OpenSpec.ofChange rootsStayWrong)

/-- 'tallagelaw32.RootsNone': WHATEVER THE INPUT: true; the input reads as it did. -/
def rootsNoneSpec : ChangeSpec := { name := "rootsNone", fn := fun _ => fun
  | [d] => { results := [.lit (.bool true)], args := [d] }
  | _ => none }
def rootsNoneRow : OpenClaim := { program := "ythloohoefjmmoaa", sum := "4a251f32a6048911539ca52aae2e2d0e9c6102a73df737fdeb3e57d657622810", func := "tallage/tallagelaw32.RootsNone", spec := "rootsNone", inPlace := ["slices.overlaps[string]", "slices.overlaps[[]string]", "internal/abi.NoEscape"], unfollowed := true, recurses := true, apart := false }
def RootsNoneSaid : Prop := rootsNoneRow.holds Try.pinned (OpenSpec.ofChange rootsNoneSpec)

/-- ITS FALSE NEIGHBOUR: 'it returns false'. Refute it at one input. -/
def rootsNoneWrong : ChangeSpec := { name := "rootsNone", fn := fun _ => fun
  | [d] => { results := [.lit (.bool false)], args := [d] }
  | _ => none }
def RootsNoneWrongFalsely : Prop := rootsNoneRow.holds Try.pinned (OpenSpec.ofChange rootsNoneWrong)

/- THE SECOND FORM. 'bulk': how many values and letters a reading holds, each counted each time it is reached (what is shared counts as often as it is met; a slice's spare places count too). A statement '..UptoSaid' is the law's where the arguments, and the package variables that the reading takes, are together of bulk at most 1048576: NARROWER than '..Said'. Prove '..Said' where nothing that the law and all that it calls make is longer than what came in: it says more and counts as full. Else prove '..UptoSaid'. A law counts once. -/
mutual
def uptoBulk {H : Type} : DataW H → Nat
  | .lit (.string bytes) => bytes.length + 1
  | .lit _ => 1
  | .nil => 1
  | .ptr d => uptoBulk d + 1
  | .slice elems spare => uptoBulkAll elems + uptoBulkAll spare + 1
  | .agg parts => uptoBulkAll parts + 1
  | .iface _ d => uptoBulk d + 1
  | .map entries => uptoBulkEntries entries + 1
  | .held _ => 1
def uptoBulkAll {H : Type} : List (DataW H) → Nat
  | [] => 0
  | d :: r => uptoBulk d + uptoBulkAll r
def uptoBulkEntries {H : Type} : List (Lit × DataW H) → Nat
  | [] => 0
  | x :: r => uptoBulkEntry x + uptoBulkEntries r
def uptoBulkEntry {H : Type} : Lit × DataW H → Nat
  | (.string bytes, d) => bytes.length + uptoBulk d + 1
  | (_, d) => uptoBulk d + 1
 end
def uptoSmall : (H : Type) → List (DataW H) → Bool := fun _ ds => decide (uptoBulkAll ds ≤ 1048576)
def OpenSpec.upto (s : _root_.Go.ChangeSpec) : _root_.Go.OpenSpec := { _root_.Go.OpenSpec.ofChange s with cond := some uptoSmall }

/-- 'tallagelaw32.RootsActs', WHERE WHAT IT READS IS OF BULK AT MOST 1048576: true; the input reads as it did. -/
def rootsActsUptoRow : OpenClaim := { program := "ythloohoefjmmoaa", sum := "4a251f32a6048911539ca52aae2e2d0e9c6102a73df737fdeb3e57d657622810", func := "tallage/tallagelaw32.RootsActs", spec := "rootsActs", inPlace := ["slices.overlaps[string]", "slices.overlaps[[]string]", "internal/abi.NoEscape"], unfollowed := true, recurses := true, apart := false, narrowed := true }
def RootsActsUptoSaid : Prop := rootsActsUptoRow.holds Try.pinned (OpenSpec.upto rootsActsSpec)

/-- 'tallagelaw32.RootsStay', WHERE WHAT IT READS IS OF BULK AT MOST 1048576: true; the input reads as it did. -/
def rootsStayUptoRow : OpenClaim := { program := "ythloohoefjmmoaa", sum := "4a251f32a6048911539ca52aae2e2d0e9c6102a73df737fdeb3e57d657622810", func := "tallage/tallagelaw32.RootsStay", spec := "rootsStay", inPlace := ["slices.overlaps[string]", "slices.overlaps[[]string]", "internal/abi.NoEscape"], unfollowed := true, recurses := true, apart := false, narrowed := true }
def RootsStayUptoSaid : Prop := rootsStayUptoRow.holds Try.pinned (OpenSpec.upto rootsStaySpec)

/-- 'tallagelaw32.RootsNone', WHERE WHAT IT READS IS OF BULK AT MOST 1048576: true; the input reads as it did. -/
def rootsNoneUptoRow : OpenClaim := { program := "ythloohoefjmmoaa", sum := "4a251f32a6048911539ca52aae2e2d0e9c6102a73df737fdeb3e57d657622810", func := "tallage/tallagelaw32.RootsNone", spec := "rootsNone", inPlace := ["slices.overlaps[string]", "slices.overlaps[[]string]", "internal/abi.NoEscape"], unfollowed := true, recurses := true, apart := false, narrowed := true }
def RootsNoneUptoSaid : Prop := rootsNoneUptoRow.holds Try.pinned (OpenSpec.upto rootsNoneSpec)

end Rows
end Go.Proofs.Ythloohoefjmmoaa
