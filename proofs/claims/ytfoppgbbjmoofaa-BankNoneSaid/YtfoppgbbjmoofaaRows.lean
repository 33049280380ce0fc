/-
  No cell of these rows narrows 'for every input' (looked for: loops, veiled, ifaces, maps, wideKeys, modest, calm, conditions, laid).
  DERIVED. THE GIVEN ROWS OF THIS SEAT. 3 by the template 'for every input the law returns true; each argument reads behind the call as it read before'; 0 by the template 'total and deterministic' (their statements: YtfoppgbbjmoofaaTotals.lean).
  GIVEN WITH THE SEED: the statements are not yours to turn. If you find one false, say at which input.
  Laid BY PROGRAM, IN A SANDBOX (cutbox-rows.mjs): the forced cells as the released guide's own fill.sh prints them over the translation 21affd312f9765df… (all of the seat's roots in one cut). By AI agents, Wed Nov 11 2026. No macro, syntax, notation, axiom, sorry.
-/
import Derived.Test.YtfoppgbbjmoofaaChecked
import GoSem.Claim
import GoSem.ClaimJoined
import GoSem.ClaimMapViews
import Derived.JoinedTies
import Derived.KernelRfl
namespace Go.Proofs.Ytfoppgbbjmoofaa
/- THE CELL 'sum', in the pinned program and in every row, IS THE sha256 OF THE DUMP (.gsa) THAT YtfoppgbbjmoofaaProg.lean LOADS. Nothing in Lean hashes anything: it is a label: what it is worth is what the hold of that sum in a sandbox is worth. -/
noncomputable def Try.pinned : Pinned := { name := "ytfoppgbbjmoofaa", sum := "21affd312f9765dfad9d4e17413b8d555a53c537eb177785b0f51cd5e69fd4e3", checked := Try.checked }
namespace Rows
def none {H : Type} : Left H := { results := [], args := [] }

/-- 'tallagelaw17.BankNone': WHATEVER THE INPUT: true; the input reads as it did. -/
def bankNoneSpec : ChangeSpec := { name := "bankNone", fn := fun _ => fun
  | [d] => { results := [.lit (.bool true)], args := [d] }
  | _ => none }
def bankNoneRow : OpenClaim := { program := "ytfoppgbbjmoofaa", sum := "21affd312f9765dfad9d4e17413b8d555a53c537eb177785b0f51cd5e69fd4e3", func := "tallage/tallagelaw17.BankNone", spec := "bankNone", inPlace := ["math/bits.Sub64", "math/bits.Add64", "slices.overlaps[string]", "slices.overlaps[[]string]"], unfollowed := true, recurses := true, apart := false }
def BankNoneSaid : Prop := bankNoneRow.holds Try.pinned (OpenSpec.ofChange bankNoneSpec)

/-- ITS FALSE NEIGHBOUR: 'it returns false'. Refute it at one input. -/
def bankNoneWrong : ChangeSpec := { name := "bankNone", fn := fun _ => fun
  | [d] => { results := [.lit (.bool false)], args := [d] }
  | _ => none }
def BankNoneWrongFalsely : Prop := bankNoneRow.holds Try.pinned (OpenSpec.ofChange bankNoneWrong)

/-- 'tallagelaw21.RosterNone': WHATEVER THE INPUT: true; the input reads as it did. -/
def rosterNoneSpec : ChangeSpec := { name := "rosterNone", fn := fun _ => fun
  | [d] => { results := [.lit (.bool true)], args := [d] }
  | _ => none }
def rosterNoneRow : OpenClaim := { program := "ytfoppgbbjmoofaa", sum := "21affd312f9765dfad9d4e17413b8d555a53c537eb177785b0f51cd5e69fd4e3", func := "tallage/tallagelaw21.RosterNone", spec := "rosterNone", inPlace := ["slices.overlaps[string]", "slices.overlaps[[]string]"], unfollowed := true, recurses := true, apart := false }
def RosterNoneSaid : Prop := rosterNoneRow.holds Try.pinned (OpenSpec.ofChange rosterNoneSpec)

/-- ITS FALSE NEIGHBOUR: 'it returns false'. Refute it at one input. -/
def rosterNoneWrong : ChangeSpec := { name := "rosterNone", fn := fun _ => fun
  | [d] => { results := [.lit (.bool false)], args := [d] }
  | _ => none }
def RosterNoneWrongFalsely : Prop := rosterNoneRow.holds Try.pinned (OpenSpec.ofChange rosterNoneWrong)

/-- 'tallagelaw22.MagnNone': WHATEVER THE INPUT: true; the input reads as it did. -/
def magnNoneSpec : ChangeSpec := { name := "magnNone", fn := fun _ => fun
  | [d] => { results := [.lit (.bool true)], args := [d] }
  | _ => none }
def magnNoneRow : OpenClaim := { program := "ytfoppgbbjmoofaa", sum := "21affd312f9765dfad9d4e17413b8d555a53c537eb177785b0f51cd5e69fd4e3", func := "tallage/tallagelaw22.MagnNone", spec := "magnNone", inPlace := ["math/bits.Sub64", "slices.overlaps[string]", "slices.overlaps[[]string]"], unfollowed := true, recurses := true, apart := false }
def MagnNoneSaid : Prop := magnNoneRow.holds Try.pinned (OpenSpec.ofChange magnNoneSpec)

/-- ITS FALSE NEIGHBOUR: 'it returns false'. Refute it at one input. -/
def magnNoneWrong : ChangeSpec := { name := "magnNone", fn := fun _ => fun
  | [d] => { results := [.lit (.bool false)], args := [d] }
  | _ => none }
def MagnNoneWrongFalsely : Prop := magnNoneRow.holds Try.pinned (OpenSpec.ofChange magnNoneWrong)

/- THE SECOND FORM. 'bulk': how many values and letters a reading holds, each counted each time it is reached (what is shared counts as often as it is met; a slice's spare places count too). A statement '..UptoSaid' is the law's where the arguments, and the package variables that the reading takes, are together of bulk at most 1048576: NARROWER than '..Said'. Prove '..Said' where nothing that the law and all that it calls make is longer than what came in: it says more and counts as full. Else prove '..UptoSaid'. A law counts once. -/
mutual
def uptoBulk {H : Type} : DataW H → Nat
  | .lit (.string bytes) => bytes.length + 1
  | .lit _ => 1
  | .nil => 1
  | .ptr d => uptoBulk d + 1
  | .slice elems spare => uptoBulkAll elems + uptoBulkAll spare + 1
  | .agg parts => uptoBulkAll parts + 1
  | .iface _ d => uptoBulk d + 1
  | .map entries => uptoBulkEntries entries + 1
  | .held _ => 1
def uptoBulkAll {H : Type} : List (DataW H) → Nat
  | [] => 0
  | d :: r => uptoBulk d + uptoBulkAll r
def uptoBulkEntries {H : Type} : List (Lit × DataW H) → Nat
  | [] => 0
  | x :: r => uptoBulkEntry x + uptoBulkEntries r
def uptoBulkEntry {H : Type} : Lit × DataW H → Nat
  | (.string bytes, d) => bytes.length + uptoBulk d + 1
  | (_, d) => uptoBulk d + 1
 end
def uptoSmall : (H : Type) → List (DataW H) → Bool := fun _ ds => decide (uptoBulkAll ds ≤ 1048576)
def OpenSpec.upto (s : _root_.Go.ChangeSpec) : _root_.Go.OpenSpec := { _root_.Go.OpenSpec.ofChange s with cond := some uptoSmall }

/-- 'tallagelaw17.BankNone', WHERE WHAT IT READS IS OF BULK AT MOST 1048576: true; the input reads as it did. -/
def bankNoneUptoRow : OpenClaim := { program := "ytfoppgbbjmoofaa", sum := "21affd312f9765dfad9d4e17413b8d555a53c537eb177785b0f51cd5e69fd4e3", func := "tallage/tallagelaw17.BankNone", spec := "bankNone", inPlace := ["math/bits.Sub64", "math/bits.Add64", "slices.overlaps[string]", "slices.overlaps[[]string]"], unfollowed := true, recurses := true, apart := false, narrowed := true }
def BankNoneUptoSaid : Prop := bankNoneUptoRow.holds Try.pinned (OpenSpec.upto bankNoneSpec)

/-- 'tallagelaw21.RosterNone', WHERE WHAT IT READS IS OF BULK AT MOST 1048576: true; the input reads as it did. -/
def rosterNoneUptoRow : OpenClaim := { program := "ytfoppgbbjmoofaa", sum := "21affd312f9765dfad9d4e17413b8d555a53c537eb177785b0f51cd5e69fd4e3", func := "tallage/tallagelaw21.RosterNone", spec := "rosterNone", inPlace := ["slices.overlaps[string]", "slices.overlaps[[]string]"], unfollowed := true, recurses := true, apart := false, narrowed := true }
def RosterNoneUptoSaid : Prop := rosterNoneUptoRow.holds Try.pinned (OpenSpec.upto rosterNoneSpec)

/-- 'tallagelaw22.MagnNone', WHERE WHAT IT READS IS OF BULK AT MOST 1048576: true; the input reads as it did. -/
def magnNoneUptoRow : OpenClaim := { program := "ytfoppgbbjmoofaa", sum := "21affd312f9765dfad9d4e17413b8d555a53c537eb177785b0f51cd5e69fd4e3", func := "tallage/tallagelaw22.MagnNone", spec := "magnNone", inPlace := ["math/bits.Sub64", "slices.overlaps[string]", "slices.overlaps[[]string]"], unfollowed := true, recurses := true, apart := false, narrowed := true }
def MagnNoneUptoSaid : Prop := magnNoneUptoRow.holds Try.pinned (OpenSpec.upto magnNoneSpec)

end Rows
end Go.Proofs.Ytfoppgbbjmoofaa
