/-
  No cell of these rows narrows 'for every input' (looked for: loops, veiled, ifaces, maps, wideKeys, modest, calm, conditions, laid).
  DERIVED. THE GIVEN ROWS OF THIS SEAT. 6 by the template 'for every input the law returns true; each argument reads behind the call as it read before'; 0 by the template 'total and deterministic' (their statements: YtffipojlpdphiaaTotals.lean).
  GIVEN WITH THE SEED: the statements are not yours to turn. If you find one false, say at which input.
  Laid BY PROGRAM, IN A SANDBOX (cutbox-rows.mjs): the forced cells as the released guide's own fill.sh prints them over the translation ba1a2f106a19ed9e… (all of the seat's roots in one cut). By AI agents, Wed Nov 11 2026. No macro, syntax, notation, axiom, sorry.
-/
import Derived.Test.YtffipojlpdphiaaChecked
import GoSem.Claim
import GoSem.ClaimJoined
import GoSem.ClaimMapViews
import Derived.JoinedTies
import Derived.KernelRfl
namespace Go.Proofs.Ytffipojlpdphiaa
/- THE CELL 'sum', in the pinned program and in every row, IS THE sha256 OF THE DUMP (.gsa) THAT YtffipojlpdphiaaProg.lean LOADS. Nothing in Lean hashes anything: it is a label: what it is worth is what the hold of that sum in a sandbox is worth. -/
noncomputable def Try.pinned : Pinned := { name := "ytffipojlpdphiaa", sum := "ba1a2f106a19ed9e392e67e9358c57f4da01f34a63cea83f96040bfe3678d3fa", checked := Try.checked }
namespace Rows
def none {H : Type} : Left H := { results := [], args := [] }

/-- 'tallagelaw13.DueActs': WHATEVER THE INPUT: true; the input reads as it did. -/
def dueActsSpec : ChangeSpec := { name := "dueActs", fn := fun _ => fun
  | [d] => { results := [.lit (.bool true)], args := [d] }
  | _ => none }
def dueActsRow : OpenClaim := { program := "ytffipojlpdphiaa", sum := "ba1a2f106a19ed9e392e67e9358c57f4da01f34a63cea83f96040bfe3678d3fa", func := "tallage/tallagelaw13.DueActs", spec := "dueActs", inPlace := ["internal/abi.NoEscape", "slices.overlaps[string]", "slices.overlaps[[]string]"], unfollowed := true, recurses := true, apart := false }
def DueActsSaid : Prop := dueActsRow.holds Try.pinned (OpenSpec.ofChange dueActsSpec)

/-- ITS FALSE NEIGHBOUR: 'it returns false'. Refute it at one input. -/
def dueActsWrong : ChangeSpec := { name := "dueActs", fn := fun _ => fun
  | [d] => { results := [.lit (.bool false)], args := [d] }
  | _ => none }
def DueActsWrongFalsely : Prop := dueActsRow.holds Try.pinned (OpenSpec.ofChange dueActsWrong)

/-- 'tallagelaw17.BankKeeps': WHATEVER THE INPUT: true; the input reads as it did. -/
def bankKeepsSpec : ChangeSpec := { name := "bankKeeps", fn := fun _ => fun
  | [d] => { results := [.lit (.bool true)], args := [d] }
  | _ => none }
def bankKeepsRow : OpenClaim := { program := "ytffipojlpdphiaa", sum := "ba1a2f106a19ed9e392e67e9358c57f4da01f34a63cea83f96040bfe3678d3fa", func := "tallage/tallagelaw17.BankKeeps", spec := "bankKeeps", inPlace := ["math/bits.Sub64", "math/bits.Add64", "slices.overlaps[string]", "slices.overlaps[[]string]"], unfollowed := true, recurses := true, apart := false }
def BankKeepsSaid : Prop := bankKeepsRow.holds Try.pinned (OpenSpec.ofChange bankKeepsSpec)

/-- ITS FALSE NEIGHBOUR: 'it returns false'. Refute it at one input. -/
def bankKeepsWrong : ChangeSpec := { name := "bankKeeps", fn := fun _ => fun
  | [d] => { results := [.lit (.bool false)], args := [d] }
  | _ => none }
def BankKeepsWrongFalsely : Prop := bankKeepsRow.holds Try.pinned (OpenSpec.ofChange bankKeepsWrong)

/-- 'tallagelaw21.RosterActs': WHATEVER THE INPUT: true; the input reads as it did. -/
def rosterActsSpec : ChangeSpec := { name := "rosterActs", fn := fun _ => fun
  | [d] => { results := [.lit (.bool true)], args := [d] }
  | _ => none }
def rosterActsRow : OpenClaim := { program := "ytffipojlpdphiaa", sum := "ba1a2f106a19ed9e392e67e9358c57f4da01f34a63cea83f96040bfe3678d3fa", func := "tallage/tallagelaw21.RosterActs", spec := "rosterActs", inPlace := ["slices.overlaps[string]", "slices.overlaps[[]string]"], unfollowed := true, recurses := true, apart := false }
def RosterActsSaid : Prop := rosterActsRow.holds Try.pinned (OpenSpec.ofChange rosterActsSpec)

/-- ITS FALSE NEIGHBOUR: 'it returns false'. Refute it at one input. -/
def rosterActsWrong : ChangeSpec := { name := "rosterActs", fn := fun _ => fun
  | [d] => { results := [.lit (.bool false)], args := [d] }
  | _ => none }
def RosterActsWrongFalsely : Prop := rosterActsRow.holds Try.pinned (OpenSpec.ofChange rosterActsWrong)

/-- 'tallagelaw21.RosterRight': WHATEVER THE INPUT: true; the input reads as it did. -/
def rosterRightSpec : ChangeSpec := { name := "rosterRight", fn := fun _ => fun
  | [d] => { results := [.lit (.bool true)], args := [d] }
  | _ => none }
def rosterRightRow : OpenClaim := { program := "ytffipojlpdphiaa", sum := "ba1a2f106a19ed9e392e67e9358c57f4da01f34a63cea83f96040bfe3678d3fa", func := "tallage/tallagelaw21.RosterRight", spec := "rosterRight", inPlace := ["slices.overlaps[string]", "slices.overlaps[[]string]"], unfollowed := true, recurses := true, apart := false }
def RosterRightSaid : Prop := rosterRightRow.holds Try.pinned (OpenSpec.ofChange rosterRightSpec)

/-- ITS FALSE NEIGHBOUR: 'it returns false'. Refute it at one input. -/
def rosterRightWrong : ChangeSpec := { name := "rosterRight", fn := fun _ => fun
  | [d] => { results := [.lit (.bool false)], args := [d] }
  | _ => none }
def RosterRightWrongFalsely : Prop := rosterRightRow.holds Try.pinned (OpenSpec.ofChange rosterRightWrong)

/-- 'tallagelaw22.MagnActs': WHATEVER THE INPUT: true; the input reads as it did. -/
def magnActsSpec : ChangeSpec := { name := "magnActs", fn := fun _ => fun
  | [d1, d2] => { results := [.lit (.bool true)], args := [d1, d2] }
  | _ => none }
def magnActsRow : OpenClaim := { program := "ytffipojlpdphiaa", sum := "ba1a2f106a19ed9e392e67e9358c57f4da01f34a63cea83f96040bfe3678d3fa", func := "tallage/tallagelaw22.MagnActs", spec := "magnActs", inPlace := ["math/bits.Sub64", "slices.overlaps[string]", "slices.overlaps[[]string]"], unfollowed := true, recurses := true, apart := false }
def MagnActsSaid : Prop := magnActsRow.holds Try.pinned (OpenSpec.ofChange magnActsSpec)

/-- ITS FALSE NEIGHBOUR: 'it returns false'. Refute it at one input. -/
def magnActsWrong : ChangeSpec := { name := "magnActs", fn := fun _ => fun
  | [d1, d2] => { results := [.lit (.bool false)], args := [d1, d2] }
  | _ => none }
def MagnActsWrongFalsely : Prop := magnActsRow.holds Try.pinned (OpenSpec.ofChange magnActsWrong)

/-- 'tallagelaw28.DelayActs': WHATEVER THE INPUT: true; the input reads as it did. -/
def delayActsSpec : ChangeSpec := { name := "delayActs", fn := fun _ => fun
  | [d1, d2, d3] => { results := [.lit (.bool true)], args := [d1, d2, d3] }
  | _ => none }
def delayActsRow : OpenClaim := { program := "ytffipojlpdphiaa", sum := "ba1a2f106a19ed9e392e67e9358c57f4da01f34a63cea83f96040bfe3678d3fa", func := "tallage/tallagelaw28.DelayActs", spec := "delayActs", inPlace := ["internal/abi.NoEscape", "slices.overlaps[string]", "slices.overlaps[[]string]"], unfollowed := true, recurses := true, apart := false }
def DelayActsSaid : Prop := delayActsRow.holds Try.pinned (OpenSpec.ofChange delayActsSpec)

/-- ITS FALSE NEIGHBOUR: 'it returns false'. Refute it at one input. -/
def delayActsWrong : ChangeSpec := { name := "delayActs", fn := fun _ => fun
  | [d1, d2, d3] => { results := [.lit (.bool false)], args := [d1, d2, d3] }
  | _ => none }
def DelayActsWrongFalsely : Prop := delayActsRow.holds Try.pinned (OpenSpec.ofChange delayActsWrong)

/- THE SECOND FORM. 'bulk': how many values and letters a reading holds, each counted each time it is reached (what is shared counts as often as it is met; a slice's spare places count too). A statement '..UptoSaid' is the law's where the arguments, and the package variables that the reading takes, are together of bulk at most 1048576: NARROWER than '..Said'. Prove '..Said' where nothing that the law and all that it calls make is longer than what came in: it says more and counts as full. Else prove '..UptoSaid'. A law counts once. -/
mutual
def uptoBulk {H : Type} : DataW H → Nat
  | .lit (.string bytes) => bytes.length + 1
  | .lit _ => 1
  | .nil => 1
  | .ptr d => uptoBulk d + 1
  | .slice elems spare => uptoBulkAll elems + uptoBulkAll spare + 1
  | .agg parts => uptoBulkAll parts + 1
  | .iface _ d => uptoBulk d + 1
  | .map entries => uptoBulkEntries entries + 1
  | .held _ => 1
def uptoBulkAll {H : Type} : List (DataW H) → Nat
  | [] => 0
  | d :: r => uptoBulk d + uptoBulkAll r
def uptoBulkEntries {H : Type} : List (Lit × DataW H) → Nat
  | [] => 0
  | x :: r => uptoBulkEntry x + uptoBulkEntries r
def uptoBulkEntry {H : Type} : Lit × DataW H → Nat
  | (.string bytes, d) => bytes.length + uptoBulk d + 1
  | (_, d) => uptoBulk d + 1
 end
def uptoSmall : (H : Type) → List (DataW H) → Bool := fun _ ds => decide (uptoBulkAll ds ≤ 1048576)
def OpenSpec.upto (s : _root_.Go.ChangeSpec) : _root_.Go.OpenSpec := { _root_.Go.OpenSpec.ofChange s with cond := some uptoSmall }

/-- 'tallagelaw13.DueActs', WHERE WHAT IT READS IS OF BULK AT MOST 1048576: true; the input reads as it did. -/
def dueActsUptoRow : OpenClaim := { program := "ytffipojlpdphiaa", sum := "ba1a2f106a19ed9e392e67e9358c57f4da01f34a63cea83f96040bfe3678d3fa", func := "tallage/tallagelaw13.DueActs", spec := "dueActs", inPlace := ["internal/abi.NoEscape", "slices.overlaps[string]", "slices.overlaps[[]string]"], unfollowed := true, recurses := true, apart := false, narrowed := true }
def DueActsUptoSaid : Prop := dueActsUptoRow.holds Try.pinned (OpenSpec.upto dueActsSpec)

/-- 'tallagelaw17.BankKeeps', WHERE WHAT IT READS IS OF BULK AT MOST 1048576: true; the input reads as it did. -/
def bankKeepsUptoRow : OpenClaim := { program := "ytffipojlpdphiaa", sum := "ba1a2f106a19ed9e392e67e9358c57f4da01f34a63cea83f96040bfe3678d3fa", func := "tallage/tallagelaw17.BankKeeps", spec := "bankKeeps", inPlace := ["math/bits.Sub64", "math/bits.Add64", "slices.overlaps[string]", "slices.overlaps[[]string]"], unfollowed := true, recurses := true, apart := false, narrowed := true }
def BankKeepsUptoSaid : Prop := bankKeepsUptoRow.holds Try.pinned (OpenSpec.upto bankKeepsSpec)

/-- 'tallagelaw21.RosterActs', WHERE WHAT IT READS IS OF BULK AT MOST 1048576: true; the input reads as it did. -/
def rosterActsUptoRow : OpenClaim := { program := "ytffipojlpdphiaa", sum := "ba1a2f106a19ed9e392e67e9358c57f4da01f34a63cea83f96040bfe3678d3fa", func := "tallage/tallagelaw21.RosterActs", spec := "rosterActs", inPlace := ["slices.overlaps[string]", "slices.overlaps[[]string]"], unfollowed := true, recurses := true, apart := false, narrowed := true }
def RosterActsUptoSaid : Prop := rosterActsUptoRow.holds Try.pinned (OpenSpec.upto rosterActsSpec)

/-- 'tallagelaw21.RosterRight', WHERE WHAT IT READS IS OF BULK AT MOST 1048576: true; the input reads as it did. -/
def rosterRightUptoRow : OpenClaim := { program := "ytffipojlpdphiaa", sum := "ba1a2f106a19ed9e392e67e9358c57f4da01f34a63cea83f96040bfe3678d3fa", func := "tallage/tallagelaw21.RosterRight", spec := "rosterRight", inPlace := ["slices.overlaps[string]", "slices.overlaps[[]string]"], unfollowed := true, recurses := true, apart := false, narrowed := true }
def RosterRightUptoSaid : Prop := rosterRightUptoRow.holds Try.pinned (OpenSpec.upto rosterRightSpec)

/-- 'tallagelaw22.MagnActs', WHERE WHAT IT READS IS OF BULK AT MOST 1048576: true; the input reads as it did. -/
def magnActsUptoRow : OpenClaim := { program := "ytffipojlpdphiaa", sum := "ba1a2f106a19ed9e392e67e9358c57f4da01f34a63cea83f96040bfe3678d3fa", func := "tallage/tallagelaw22.MagnActs", spec := "magnActs", inPlace := ["math/bits.Sub64", "slices.overlaps[string]", "slices.overlaps[[]string]"], unfollowed := true, recurses := true, apart := false, narrowed := true }
def MagnActsUptoSaid : Prop := magnActsUptoRow.holds Try.pinned (OpenSpec.upto magnActsSpec)

/-- 'tallagelaw28.DelayActs', WHERE WHAT IT READS IS OF BULK AT MOST 1048576: true; the input reads as it did. -/
def delayActsUptoRow : OpenClaim := { program := "ytffipojlpdphiaa", sum := "ba1a2f106a19ed9e392e67e9358c57f4da01f34a63cea83f96040bfe3678d3fa", func := "tallage/tallagelaw28.DelayActs", spec := "delayActs", inPlace := ["internal/abi.NoEscape", "slices.overlaps[string]", "slices.overlaps[[]string]"], unfollowed := true, recurses := true, apart := false, narrowed := true }
def DelayActsUptoSaid : Prop := delayActsUptoRow.holds Try.pinned (OpenSpec.upto delayActsSpec)

end Rows
end Go.Proofs.Ytffipojlpdphiaa
