/-
  No cell of these rows narrows 'for every input' (looked for: loops, veiled, ifaces, maps, wideKeys, modest, calm, conditions, laid).
  DERIVED. THE GIVEN ROWS OF THIS SEAT. 8 by the template 'for every input the law returns true; each argument reads behind the call as it read before'; 0 by the template 'total and deterministic' (their statements: YtedkhpnlhkjjgaaTotals.lean).
  GIVEN WITH THE SEED: the statements are not yours to turn. If you find one false, say at which input.
  Laid BY PROGRAM, IN A SANDBOX (cutbox-rows.mjs): the forced cells as the released guide's own fill.sh prints them over the translation f247d72e302ff124… (all of the seat's roots in one cut). By AI agents, Wed Nov 11 2026. No macro, syntax, notation, axiom, sorry.
-/
import Derived.Test.YtedkhpnlhkjjgaaChecked
import GoSem.Claim
import GoSem.ClaimJoined
import GoSem.ClaimMapViews
import Derived.JoinedTies
import Derived.KernelRfl
namespace Go.Proofs.Ytedkhpnlhkjjgaa
/- THE CELL 'sum', in the pinned program and in every row, IS THE sha256 OF THE DUMP (.gsa) THAT YtedkhpnlhkjjgaaProg.lean LOADS. Nothing in Lean hashes anything: it is a label: what it is worth is what the hold of that sum in a sandbox is worth. -/
noncomputable def Try.pinned : Pinned := { name := "ytedkhpnlhkjjgaa", sum := "f247d72e302ff1240928d4c0089700d1e493193aede8edaaca6cca528289d9b3", checked := Try.checked }
namespace Rows
def none {H : Type} : Left H := { results := [], args := [] }

/-- 'tallagelaw11.HistoryTells': WHATEVER THE INPUT: true; the input reads as it did. -/
def historyTellsSpec : ChangeSpec := { name := "historyTells", fn := fun _ => fun
  | [d1, d2] => { results := [.lit (.bool true)], args := [d1, d2] }
  | _ => none }
def historyTellsRow : OpenClaim := { program := "ytedkhpnlhkjjgaa", sum := "f247d72e302ff1240928d4c0089700d1e493193aede8edaaca6cca528289d9b3", func := "tallage/tallagelaw11.HistoryTells", spec := "historyTells", inPlace := ["slices.overlaps[string]", "slices.overlaps[[]string]"], unfollowed := true, recurses := true, apart := false }
def HistoryTellsSaid : Prop := historyTellsRow.holds Try.pinned (OpenSpec.ofChange historyTellsSpec)

/-- ITS FALSE NEIGHBOUR: 'it returns false'. Refute it at one input. -/
def historyTellsWrong : ChangeSpec := { name := "historyTells", fn := fun _ => fun
  | [d1, d2] => { results := [.lit (.bool false)], args := [d1, d2] }
  | _ => none }
def HistoryTellsWrongFalsely : Prop := historyTellsRow.holds Try.pinned (OpenSpec.ofChange historyTellsWrong)

/-- 'tallagelaw11.HistoryLists': WHATEVER THE INPUT: true; the input reads as it did. -/
def historyListsSpec : ChangeSpec := { name := "historyLists", fn := fun _ => fun
  | [d] => { results := [.lit (.bool true)], args := [d] }
  | _ => none }
def historyListsRow : OpenClaim := { program := "ytedkhpnlhkjjgaa", sum := "f247d72e302ff1240928d4c0089700d1e493193aede8edaaca6cca528289d9b3", func := "tallage/tallagelaw11.HistoryLists", spec := "historyLists", inPlace := ["slices.overlaps[string]", "slices.overlaps[[]string]"], unfollowed := true, recurses := true, apart := false }
def HistoryListsSaid : Prop := historyListsRow.holds Try.pinned (OpenSpec.ofChange historyListsSpec)

/-- ITS FALSE NEIGHBOUR: 'it returns false'. Refute it at one input. -/
def historyListsWrong : ChangeSpec := { name := "historyLists", fn := fun _ => fun
  | [d] => { results := [.lit (.bool false)], args := [d] }
  | _ => none }
def HistoryListsWrongFalsely : Prop := historyListsRow.holds Try.pinned (OpenSpec.ofChange historyListsWrong)

/-- 'tallagelaw12.FifoOrder': WHATEVER THE INPUT: true; the input reads as it did. -/
def fifoOrderSpec : ChangeSpec := { name := "fifoOrder", fn := fun _ => fun
  | [d1, d2] => { results := [.lit (.bool true)], args := [d1, d2] }
  | _ => none }
def fifoOrderRow : OpenClaim := { program := "ytedkhpnlhkjjgaa", sum := "f247d72e302ff1240928d4c0089700d1e493193aede8edaaca6cca528289d9b3", func := "tallage/tallagelaw12.FifoOrder", spec := "fifoOrder", inPlace := ["internal/abi.NoEscape", "slices.overlaps[string]", "slices.overlaps[[]string]"], unfollowed := true, recurses := true, apart := false }
def FifoOrderSaid : Prop := fifoOrderRow.holds Try.pinned (OpenSpec.ofChange fifoOrderSpec)

/-- ITS FALSE NEIGHBOUR: 'it returns false'. Refute it at one input. -/
def fifoOrderWrong : ChangeSpec := { name := "fifoOrder", fn := fun _ => fun
  | [d1, d2] => { results := [.lit (.bool false)], args := [d1, d2] }
  | _ => none }
def FifoOrderWrongFalsely : Prop := fifoOrderRow.holds Try.pinned (OpenSpec.ofChange fifoOrderWrong)

/-- 'tallagelaw13.DueOnce': WHATEVER THE INPUT: true; the input reads as it did. -/
def dueOnceSpec : ChangeSpec := { name := "dueOnce", fn := fun _ => fun
  | [d1, d2] => { results := [.lit (.bool true)], args := [d1, d2] }
  | _ => none }
def dueOnceRow : OpenClaim := { program := "ytedkhpnlhkjjgaa", sum := "f247d72e302ff1240928d4c0089700d1e493193aede8edaaca6cca528289d9b3", func := "tallage/tallagelaw13.DueOnce", spec := "dueOnce", inPlace := ["internal/abi.NoEscape", "slices.overlaps[string]", "slices.overlaps[[]string]"], unfollowed := true, recurses := true, apart := false }
def DueOnceSaid : Prop := dueOnceRow.holds Try.pinned (OpenSpec.ofChange dueOnceSpec)

/-- ITS FALSE NEIGHBOUR: 'it returns false'. Refute it at one input. -/
def dueOnceWrong : ChangeSpec := { name := "dueOnce", fn := fun _ => fun
  | [d1, d2] => { results := [.lit (.bool false)], args := [d1, d2] }
  | _ => none }
def DueOnceWrongFalsely : Prop := dueOnceRow.holds Try.pinned (OpenSpec.ofChange dueOnceWrong)

/-- 'tallagelaw17.BankKeys': WHATEVER THE INPUT: true; the input reads as it did. -/
def bankKeysSpec : ChangeSpec := { name := "bankKeys", fn := fun _ => fun
  | [d1, d2] => { results := [.lit (.bool true)], args := [d1, d2] }
  | _ => none }
def bankKeysRow : OpenClaim := { program := "ytedkhpnlhkjjgaa", sum := "f247d72e302ff1240928d4c0089700d1e493193aede8edaaca6cca528289d9b3", func := "tallage/tallagelaw17.BankKeys", spec := "bankKeys", inPlace := ["math/bits.Sub64", "math/bits.Add64", "slices.overlaps[string]", "slices.overlaps[[]string]"], unfollowed := true, recurses := true, apart := false }
def BankKeysSaid : Prop := bankKeysRow.holds Try.pinned (OpenSpec.ofChange bankKeysSpec)

/-- ITS FALSE NEIGHBOUR: 'it returns false'. Refute it at one input. -/
def bankKeysWrong : ChangeSpec := { name := "bankKeys", fn := fun _ => fun
  | [d1, d2] => { results := [.lit (.bool false)], args := [d1, d2] }
  | _ => none }
def BankKeysWrongFalsely : Prop := bankKeysRow.holds Try.pinned (OpenSpec.ofChange bankKeysWrong)

/-- 'tallagelaw17.BankKeeps': WHATEVER THE INPUT: true; the input reads as it did. -/
def bankKeepsSpec : ChangeSpec := { name := "bankKeeps", fn := fun _ => fun
  | [d] => { results := [.lit (.bool true)], args := [d] }
  | _ => none }
def bankKeepsRow : OpenClaim := { program := "ytedkhpnlhkjjgaa", sum := "f247d72e302ff1240928d4c0089700d1e493193aede8edaaca6cca528289d9b3", func := "tallage/tallagelaw17.BankKeeps", spec := "bankKeeps", inPlace := ["math/bits.Sub64", "math/bits.Add64", "slices.overlaps[string]", "slices.overlaps[[]string]"], unfollowed := true, recurses := true, apart := false }
def BankKeepsSaid : Prop := bankKeepsRow.holds Try.pinned (OpenSpec.ofChange bankKeepsSpec)

/-- ITS FALSE NEIGHBOUR: 'it returns false'. Refute it at one input. -/
def bankKeepsWrong : ChangeSpec := { name := "bankKeeps", fn := fun _ => fun
  | [d] => { results := [.lit (.bool false)], args := [d] }
  | _ => none }
def BankKeepsWrongFalsely : Prop := bankKeepsRow.holds Try.pinned (OpenSpec.ofChange bankKeepsWrong)

/-- 'tallagelaw22.MagnFalls': WHATEVER THE INPUT: true; the input reads as it did. -/
def magnFallsSpec : ChangeSpec := { name := "magnFalls", fn := fun _ => fun
  | [d1, d2] => { results := [.lit (.bool true)], args := [d1, d2] }
  | _ => none }
def magnFallsRow : OpenClaim := { program := "ytedkhpnlhkjjgaa", sum := "f247d72e302ff1240928d4c0089700d1e493193aede8edaaca6cca528289d9b3", func := "tallage/tallagelaw22.MagnFalls", spec := "magnFalls", inPlace := ["math/bits.Sub64", "slices.overlaps[string]", "slices.overlaps[[]string]"], unfollowed := true, recurses := true, apart := false }
def MagnFallsSaid : Prop := magnFallsRow.holds Try.pinned (OpenSpec.ofChange magnFallsSpec)

/-- ITS FALSE NEIGHBOUR: 'it returns false'. Refute it at one input. -/
def magnFallsWrong : ChangeSpec := { name := "magnFalls", fn := fun _ => fun
  | [d1, d2] => { results := [.lit (.bool false)], args := [d1, d2] }
  | _ => none }
def MagnFallsWrongFalsely : Prop := magnFallsRow.holds Try.pinned (OpenSpec.ofChange magnFallsWrong)

/-- 'tallagelaw28.DelayWaits': WHATEVER THE INPUT: true; the input reads as it did. -/
def delayWaitsSpec : ChangeSpec := { name := "delayWaits", fn := fun _ => fun
  | [d1, d2, d3] => { results := [.lit (.bool true)], args := [d1, d2, d3] }
  | _ => none }
def delayWaitsRow : OpenClaim := { program := "ytedkhpnlhkjjgaa", sum := "f247d72e302ff1240928d4c0089700d1e493193aede8edaaca6cca528289d9b3", func := "tallage/tallagelaw28.DelayWaits", spec := "delayWaits", inPlace := ["internal/abi.NoEscape", "slices.overlaps[string]", "slices.overlaps[[]string]"], unfollowed := true, recurses := true, apart := false }
def DelayWaitsSaid : Prop := delayWaitsRow.holds Try.pinned (OpenSpec.ofChange delayWaitsSpec)

/-- ITS FALSE NEIGHBOUR: 'it returns false'. Refute it at one input. -/
def delayWaitsWrong : ChangeSpec := { name := "delayWaits", fn := fun _ => fun
  | [d1, d2, d3] => { results := [.lit (.bool false)], args := [d1, d2, d3] }
  | _ => none }
def DelayWaitsWrongFalsely : Prop := delayWaitsRow.holds Try.pinned (OpenSpec.ofChange delayWaitsWrong)

/- THE SECOND FORM. 'bulk': how many values and letters a reading holds, each counted each time it is reached (what is shared counts as often as it is met; a slice's spare places count too). A statement '..UptoSaid' is the law's where the arguments, and the package variables that the reading takes, are together of bulk at most 1048576: NARROWER than '..Said'. Prove '..Said' where nothing that the law and all that it calls make is longer than what came in: it says more and counts as full. Else prove '..UptoSaid'. A law counts once. -/
mutual
def uptoBulk {H : Type} : DataW H → Nat
  | .lit (.string bytes) => bytes.length + 1
  | .lit _ => 1
  | .nil => 1
  | .ptr d => uptoBulk d + 1
  | .slice elems spare => uptoBulkAll elems + uptoBulkAll spare + 1
  | .agg parts => uptoBulkAll parts + 1
  | .iface _ d => uptoBulk d + 1
  | .map entries => uptoBulkEntries entries + 1
  | .held _ => 1
def uptoBulkAll {H : Type} : List (DataW H) → Nat
  | [] => 0
  | d :: r => uptoBulk d + uptoBulkAll r
def uptoBulkEntries {H : Type} : List (Lit × DataW H) → Nat
  | [] => 0
  | x :: r => uptoBulkEntry x + uptoBulkEntries r
def uptoBulkEntry {H : Type} : Lit × DataW H → Nat
  | (.string bytes, d) => bytes.length + uptoBulk d + 1
  | (_, d) => uptoBulk d + 1
 end
def uptoSmall : (H : Type) → List (DataW H) → Bool := fun _ ds => decide (uptoBulkAll ds ≤ 1048576)
def OpenSpec.upto (s : _root_.Go.ChangeSpec) : _root_.Go.OpenSpec := { _root_.Go.OpenSpec.ofChange s with cond := some uptoSmall }

/-- 'tallagelaw11.HistoryTells', WHERE WHAT IT READS IS OF BULK AT MOST 1048576: true; the input reads as it did. -/
def historyTellsUptoRow : OpenClaim := { program := "ytedkhpnlhkjjgaa", sum := "f247d72e302ff1240928d4c0089700d1e493193aede8edaaca6cca528289d9b3", func := "tallage/tallagelaw11.HistoryTells", spec := "historyTells", inPlace := ["slices.overlaps[string]", "slices.overlaps[[]string]"], unfollowed := true, recurses := true, apart := false, narrowed := true }
def HistoryTellsUptoSaid : Prop := historyTellsUptoRow.holds Try.pinned (OpenSpec.upto historyTellsSpec)

/-- 'tallagelaw11.HistoryLists', WHERE WHAT IT READS IS OF BULK AT MOST 1048576: true; the input reads as it did. -/
def historyListsUptoRow : OpenClaim := { program := "ytedkhpnlhkjjgaa", sum := "f247d72e302ff1240928d4c0089700d1e493193aede8edaaca6cca528289d9b3", func := "tallage/tallagelaw11.HistoryLists", spec := "historyLists", inPlace := ["slices.overlaps[string]", "slices.overlaps[[]string]"], unfollowed := true, recurses := true, apart := false, narrowed := true }
def HistoryListsUptoSaid : Prop := historyListsUptoRow.holds Try.pinned (OpenSpec.upto historyListsSpec)

/-- 'tallagelaw12.FifoOrder', WHERE WHAT IT READS IS OF BULK AT MOST 1048576: true; the input reads as it did. -/
def fifoOrderUptoRow : OpenClaim := { program := "ytedkhpnlhkjjgaa", sum := "f247d72e302ff1240928d4c0089700d1e493193aede8edaaca6cca528289d9b3", func := "tallage/tallagelaw12.FifoOrder", spec := "fifoOrder", inPlace := ["internal/abi.NoEscape", "slices.overlaps[string]", "slices.overlaps[[]string]"], unfollowed := true, recurses := true, apart := false, narrowed := true }
def FifoOrderUptoSaid : Prop := fifoOrderUptoRow.holds Try.pinned (OpenSpec.upto fifoOrderSpec)

/-- 'tallagelaw13.DueOnce', WHERE WHAT IT READS IS OF BULK AT MOST 1048576: true; the input reads as it did. -/
def dueOnceUptoRow : OpenClaim := { program := "ytedkhpnlhkjjgaa", sum := "f247d72e302ff1240928d4c0089700d1e493193aede8edaaca6cca528289d9b3", func := "tallage/tallagelaw13.DueOnce", spec := "dueOnce", inPlace := ["internal/abi.NoEscape", "slices.overlaps[string]", "slices.overlaps[[]string]"], unfollowed := true, recurses := true, apart := false, narrowed := true }
def DueOnceUptoSaid : Prop := dueOnceUptoRow.holds Try.pinned (OpenSpec.upto dueOnceSpec)

/-- 'tallagelaw17.BankKeys', WHERE WHAT IT READS IS OF BULK AT MOST 1048576: true; the input reads as it did. -/
def bankKeysUptoRow : OpenClaim := { program := "ytedkhpnlhkjjgaa", sum := "f247d72e302ff1240928d4c0089700d1e493193aede8edaaca6cca528289d9b3", func := "tallage/tallagelaw17.BankKeys", spec := "bankKeys", inPlace := ["math/bits.Sub64", "math/bits.Add64", "slices.overlaps[string]", "slices.overlaps[[]string]"], unfollowed := true, recurses := true, apart := false, narrowed := true }
def BankKeysUptoSaid : Prop := bankKeysUptoRow.holds Try.pinned (OpenSpec.upto bankKeysSpec)

/-- 'tallagelaw17.BankKeeps', WHERE WHAT IT READS IS OF BULK AT MOST 1048576: true; the input reads as it did. -/
def bankKeepsUptoRow : OpenClaim := { program := "ytedkhpnlhkjjgaa", sum := "f247d72e302ff1240928d4c0089700d1e493193aede8edaaca6cca528289d9b3", func := "tallage/tallagelaw17.BankKeeps", spec := "bankKeeps", inPlace := ["math/bits.Sub64", "math/bits.Add64", "slices.overlaps[string]", "slices.overlaps[[]string]"], unfollowed := true, recurses := true, apart := false, narrowed := true }
def BankKeepsUptoSaid : Prop := bankKeepsUptoRow.holds Try.pinned (OpenSpec.upto bankKeepsSpec)

/-- 'tallagelaw22.MagnFalls', WHERE WHAT IT READS IS OF BULK AT MOST 1048576: true; the input reads as it did. -/
def magnFallsUptoRow : OpenClaim := { program := "ytedkhpnlhkjjgaa", sum := "f247d72e302ff1240928d4c0089700d1e493193aede8edaaca6cca528289d9b3", func := "tallage/tallagelaw22.MagnFalls", spec := "magnFalls", inPlace := ["math/bits.Sub64", "slices.overlaps[string]", "slices.overlaps[[]string]"], unfollowed := true, recurses := true, apart := false, narrowed := true }
def MagnFallsUptoSaid : Prop := magnFallsUptoRow.holds Try.pinned (OpenSpec.upto magnFallsSpec)

/-- 'tallagelaw28.DelayWaits', WHERE WHAT IT READS IS OF BULK AT MOST 1048576: true; the input reads as it did. -/
def delayWaitsUptoRow : OpenClaim := { program := "ytedkhpnlhkjjgaa", sum := "f247d72e302ff1240928d4c0089700d1e493193aede8edaaca6cca528289d9b3", func := "tallage/tallagelaw28.DelayWaits", spec := "delayWaits", inPlace := ["internal/abi.NoEscape", "slices.overlaps[string]", "slices.overlaps[[]string]"], unfollowed := true, recurses := true, apart := false, narrowed := true }
def DelayWaitsUptoSaid : Prop := delayWaitsUptoRow.holds Try.pinned (OpenSpec.upto delayWaitsSpec)

end Rows
end Go.Proofs.Ytedkhpnlhkjjgaa
