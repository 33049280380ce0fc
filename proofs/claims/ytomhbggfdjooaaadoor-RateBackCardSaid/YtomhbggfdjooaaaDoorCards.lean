/-
  DERIVED. GIVEN WITH THE SEED: THE CARDS: each row of YtomhbggfdjooaaaDoorRows.lean that lists a variable, with what it lists TIED to the program's text (the seventh form; the later family's looks); each row that meets fmt, with fmt's text TOLD by the authors' own Lean function (tested against real Go, not proved from fmt's source: count such statements apart). THE CARD IS WHAT COUNTS. Prove the row's statement (the work); the ties are given (YtomhbggfdjooaaaDoorTie.lean); close each card by the builder's one call (the guide's Derived/Test/ToyasCard.lean, 'card_holds'). Laid BY PROGRAM, IN A SANDBOX (cutbox-door.mjs). By AI agents, Wed Nov 11 2026. No macro, syntax, notation, axiom, sorry.
-/
import Derived.Test.YtomhbggfdjooaaaDoorRows
import GoSem.ClaimSeven
namespace Go.Proofs.YtomhbggfdjooaaaDoor
namespace Rows

/-- THE TIED CARD OF 'tallagelaw18.RateTells'. -/
def rateTellsCard : Claim7 := { stood := { row := rateTellsRow, standIns := [], harness := (true, "70a022568c8fc9a99db60e2338187756ba42d6076e175898fe68047b9f96f781"), looks := false }, kinds := [], alts := [], laidByText := true, laidKinds := [.data], laidTests := true, laidLooks := .later }
def RateTellsCardSaid : Prop := Claim7.holds Tryd.pinned (.plain (OpenSpec.ofChange rateTellsSpec)) rateTellsCard

/-- THE TIED CARD OF 'tallagelaw18.RateStays'. -/
def rateStaysCard : Claim7 := { stood := { row := rateStaysRow, standIns := [], harness := (true, "70a022568c8fc9a99db60e2338187756ba42d6076e175898fe68047b9f96f781"), looks := false }, kinds := [], alts := [], laidByText := true, laidKinds := [.data], laidTests := true, laidLooks := .later }
def RateStaysCardSaid : Prop := Claim7.holds Tryd.pinned (.plain (OpenSpec.ofChange rateStaysSpec)) rateStaysCard

/-- THE TIED CARD OF 'tallagelaw18.RateBack'. -/
def rateBackCard : Claim7 := { stood := { row := rateBackRow, standIns := [], harness := (true, "70a022568c8fc9a99db60e2338187756ba42d6076e175898fe68047b9f96f781"), looks := false }, kinds := [], alts := [], laidByText := true, laidKinds := [.data], laidTests := true, laidLooks := .later }
def RateBackCardSaid : Prop := Claim7.holds Tryd.pinned (.plain (OpenSpec.ofChange rateBackSpec)) rateBackCard

/-- THE SECOND FORM's CARD OF 'tallagelaw18.RateTells'. -/
def rateTellsUptoCard : Claim7 := { stood := { row := rateTellsUptoRow, standIns := [], harness := (true, "70a022568c8fc9a99db60e2338187756ba42d6076e175898fe68047b9f96f781"), looks := false }, kinds := [], alts := [], laidByText := true, laidKinds := [.data], laidTests := true, laidLooks := .later }
def RateTellsUptoCardSaid : Prop := Claim7.holds Tryd.pinned (.plain (OpenSpec.upto rateTellsSpec)) rateTellsUptoCard

/-- THE SECOND FORM's CARD OF 'tallagelaw18.RateStays'. -/
def rateStaysUptoCard : Claim7 := { stood := { row := rateStaysUptoRow, standIns := [], harness := (true, "70a022568c8fc9a99db60e2338187756ba42d6076e175898fe68047b9f96f781"), looks := false }, kinds := [], alts := [], laidByText := true, laidKinds := [.data], laidTests := true, laidLooks := .later }
def RateStaysUptoCardSaid : Prop := Claim7.holds Tryd.pinned (.plain (OpenSpec.upto rateStaysSpec)) rateStaysUptoCard

/-- THE SECOND FORM's CARD OF 'tallagelaw18.RateBack'. -/
def rateBackUptoCard : Claim7 := { stood := { row := rateBackUptoRow, standIns := [], harness := (true, "70a022568c8fc9a99db60e2338187756ba42d6076e175898fe68047b9f96f781"), looks := false }, kinds := [], alts := [], laidByText := true, laidKinds := [.data], laidTests := true, laidLooks := .later }
def RateBackUptoCardSaid : Prop := Claim7.holds Tryd.pinned (.plain (OpenSpec.upto rateBackSpec)) rateBackUptoCard
end Rows
end Go.Proofs.YtomhbggfdjooaaaDoor
