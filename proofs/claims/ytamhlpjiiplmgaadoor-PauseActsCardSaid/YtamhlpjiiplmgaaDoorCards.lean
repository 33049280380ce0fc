/-
  DERIVED. GIVEN WITH THE SEED: THE CARDS: each row of YtamhlpjiiplmgaaDoorRows.lean that lists a variable, with what it lists TIED to the program's text (the seventh form; the later family's looks); each row that meets fmt, with fmt's text TOLD by the authors' own Lean function (tested against real Go, not proved from fmt's source: count such statements apart). THE CARD IS WHAT COUNTS. Prove the row's statement (the work); the ties are given (YtamhlpjiiplmgaaDoorTie.lean); close each card by the builder's one call (the guide's Derived/Test/ToyasCard.lean, 'card_holds'). Laid BY PROGRAM, IN A SANDBOX (cutbox-door.mjs). By AI agents, Wed Nov 11 2026. No macro, syntax, notation, axiom, sorry.
-/
import Derived.Test.YtamhlpjiiplmgaaDoorRows
import GoSem.ClaimSeven
namespace Go.Proofs.YtamhlpjiiplmgaaDoor
namespace Rows

/-- THE TIED CARD OF 'tallagelaw35.PauseActs'. -/
def pauseActsCard : Claim7 := { stood := { row := pauseActsRow, standIns := [], harness := (true, "dc0b486831383ab5813dfa5eb1c2911f567937d5584d8137e205244dce00eb9b"), looks := false }, kinds := [], alts := [], laidByText := true, laidKinds := [.data], laidTests := true, laidLooks := .later }
def PauseActsCardSaid : Prop := Claim7.holds Tryd.pinned (.plain (OpenSpec.ofChange pauseActsSpec)) pauseActsCard

/-- THE SECOND FORM's CARD OF 'tallagelaw35.PauseActs'. -/
def pauseActsUptoCard : Claim7 := { stood := { row := pauseActsUptoRow, standIns := [], harness := (true, "dc0b486831383ab5813dfa5eb1c2911f567937d5584d8137e205244dce00eb9b"), looks := false }, kinds := [], alts := [], laidByText := true, laidKinds := [.data], laidTests := true, laidLooks := .later }
def PauseActsUptoCardSaid : Prop := Claim7.holds Tryd.pinned (.plain (OpenSpec.upto pauseActsSpec)) pauseActsUptoCard
end Rows
end Go.Proofs.YtamhlpjiiplmgaaDoor
