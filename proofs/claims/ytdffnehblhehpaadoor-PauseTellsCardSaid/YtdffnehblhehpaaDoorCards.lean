/-
  DERIVED. GIVEN WITH THE SEED: THE CARDS: each row of YtdffnehblhehpaaDoorRows.lean that lists a variable, with what it lists TIED to the program's text (the seventh form; the later family's looks); each row that meets fmt, with fmt's text TOLD by the authors' own Lean function (tested against real Go, not proved from fmt's source: count such statements apart). THE CARD IS WHAT COUNTS. Prove the row's statement (the work); the ties are given (YtdffnehblhehpaaDoorTie.lean); close each card by the builder's one call (the guide's Derived/Test/ToyasCard.lean, 'card_holds'). Laid BY PROGRAM, IN A SANDBOX (cutbox-door.mjs). By AI agents, Wed Nov 11 2026. No macro, syntax, notation, axiom, sorry.
-/
import Derived.Test.YtdffnehblhehpaaDoorRows
import GoSem.ClaimSeven
namespace Go.Proofs.YtdffnehblhehpaaDoor
namespace Rows

/-- THE TIED CARD OF 'tallagelaw35.PauseTells'. -/
def pauseTellsCard : Claim7 := { stood := { row := pauseTellsRow, standIns := [], harness := (true, "3d510504b1ad66d0c931d8b553f0f3777c947bf138530813f0617fe3d6c92c83"), looks := false }, kinds := [], alts := [], laidByText := true, laidKinds := [.data], laidTests := true, laidLooks := .later }
def PauseTellsCardSaid : Prop := Claim7.holds Tryd.pinned (.plain (OpenSpec.ofChange pauseTellsSpec)) pauseTellsCard

/-- THE TIED CARD OF 'tallagelaw35.PauseActs'. -/
def pauseActsCard : Claim7 := { stood := { row := pauseActsRow, standIns := [], harness := (true, "3d510504b1ad66d0c931d8b553f0f3777c947bf138530813f0617fe3d6c92c83"), looks := false }, kinds := [], alts := [], laidByText := true, laidKinds := [.data], laidTests := true, laidLooks := .later }
def PauseActsCardSaid : Prop := Claim7.holds Tryd.pinned (.plain (OpenSpec.ofChange pauseActsSpec)) pauseActsCard

/-- THE TIED CARD OF 'tallagelaw35.PauseBits'. -/
def pauseBitsCard : Claim7 := { stood := { row := pauseBitsRow, standIns := [], harness := (true, "3d510504b1ad66d0c931d8b553f0f3777c947bf138530813f0617fe3d6c92c83"), looks := false }, kinds := [], alts := [], laidByText := true, laidKinds := [.data], laidTests := true, laidLooks := .later }
def PauseBitsCardSaid : Prop := Claim7.holds Tryd.pinned (.plain (OpenSpec.ofChange pauseBitsSpec)) pauseBitsCard

/-- THE TIED CARD OF 'tallagelaw35.PauseNone'. -/
def pauseNoneCard : Claim7 := { stood := { row := pauseNoneRow, standIns := [], harness := (true, "3d510504b1ad66d0c931d8b553f0f3777c947bf138530813f0617fe3d6c92c83"), looks := false }, kinds := [], alts := [], laidByText := true, laidKinds := [.data], laidTests := true, laidLooks := .later }
def PauseNoneCardSaid : Prop := Claim7.holds Tryd.pinned (.plain (OpenSpec.ofChange pauseNoneSpec)) pauseNoneCard

/-- THE SECOND FORM's CARD OF 'tallagelaw35.PauseTells'. -/
def pauseTellsUptoCard : Claim7 := { stood := { row := pauseTellsUptoRow, standIns := [], harness := (true, "3d510504b1ad66d0c931d8b553f0f3777c947bf138530813f0617fe3d6c92c83"), looks := false }, kinds := [], alts := [], laidByText := true, laidKinds := [.data], laidTests := true, laidLooks := .later }
def PauseTellsUptoCardSaid : Prop := Claim7.holds Tryd.pinned (.plain (OpenSpec.upto pauseTellsSpec)) pauseTellsUptoCard

/-- THE SECOND FORM's CARD OF 'tallagelaw35.PauseActs'. -/
def pauseActsUptoCard : Claim7 := { stood := { row := pauseActsUptoRow, standIns := [], harness := (true, "3d510504b1ad66d0c931d8b553f0f3777c947bf138530813f0617fe3d6c92c83"), looks := false }, kinds := [], alts := [], laidByText := true, laidKinds := [.data], laidTests := true, laidLooks := .later }
def PauseActsUptoCardSaid : Prop := Claim7.holds Tryd.pinned (.plain (OpenSpec.upto pauseActsSpec)) pauseActsUptoCard

/-- THE SECOND FORM's CARD OF 'tallagelaw35.PauseBits'. -/
def pauseBitsUptoCard : Claim7 := { stood := { row := pauseBitsUptoRow, standIns := [], harness := (true, "3d510504b1ad66d0c931d8b553f0f3777c947bf138530813f0617fe3d6c92c83"), looks := false }, kinds := [], alts := [], laidByText := true, laidKinds := [.data], laidTests := true, laidLooks := .later }
def PauseBitsUptoCardSaid : Prop := Claim7.holds Tryd.pinned (.plain (OpenSpec.upto pauseBitsSpec)) pauseBitsUptoCard

/-- THE SECOND FORM's CARD OF 'tallagelaw35.PauseNone'. -/
def pauseNoneUptoCard : Claim7 := { stood := { row := pauseNoneUptoRow, standIns := [], harness := (true, "3d510504b1ad66d0c931d8b553f0f3777c947bf138530813f0617fe3d6c92c83"), looks := false }, kinds := [], alts := [], laidByText := true, laidKinds := [.data], laidTests := true, laidLooks := .later }
def PauseNoneUptoCardSaid : Prop := Claim7.holds Tryd.pinned (.plain (OpenSpec.upto pauseNoneSpec)) pauseNoneUptoCard
end Rows
end Go.Proofs.YtdffnehblhehpaaDoor
