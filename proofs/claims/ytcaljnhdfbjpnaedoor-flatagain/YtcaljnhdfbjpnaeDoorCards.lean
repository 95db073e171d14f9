/-
  DERIVED. GIVEN WITH THE SEED: THE CARDS: each row of YtcaljnhdfbjpnaeDoorRows.lean that lists a variable, with what it lists TIED to the program's text (the seventh form; the later family's looks); each row that meets fmt, with fmt's text TOLD by the authors' own Lean function (tested against real Go, not proved from fmt's source: count such statements apart). THE CARD IS WHAT COUNTS. Prove the row's statement (the work); the ties are given (YtcaljnhdfbjpnaeDoorTie.lean); close each card by the builder's one call (the guide's Derived/Test/ToyasCard.lean, 'card_holds'). Laid BY PROGRAM, IN A SANDBOX (cutbox-door.mjs). By AI agents, Wed Nov 11 2026. No macro, syntax, notation, axiom, sorry.
-/
import Derived.Test.YtcaljnhdfbjpnaeDoorRows
import GoSem.ClaimSeven
namespace Go.Proofs.YtcaljnhdfbjpnaeDoor
namespace Rows

/-- THE TIED CARD OF 'orchlaw2.DifferTells'. -/
def differTellsCard : Claim7 := { stood := { row := differTellsRow, standIns := [], harness := (true, "858ace617d151883c9420ad8c24447419792752cc651795e0574c8e61e99b9c6"), looks := true }, kinds := [], alts := [], laidByText := true, laidKinds := [.handle], laidTests := true, laidLooks := .later }
def DifferTellsCardSaid : Prop := Claim7.holds Tryd.pinned (.plain (OpenSpec.ofChange differTellsSpec)) differTellsCard

/-- THE TIED CARD OF 'orchlaw2.DifferGroves'. -/
def differGrovesCard : Claim7 := { stood := { row := differGrovesRow, standIns := [], harness := (true, "858ace617d151883c9420ad8c24447419792752cc651795e0574c8e61e99b9c6"), looks := true }, kinds := [], alts := [], laidByText := true, laidKinds := [.handle], laidTests := true, laidLooks := .later }
def DifferGrovesCardSaid : Prop := Claim7.holds Tryd.pinned (.plain (OpenSpec.ofChange differGrovesSpec)) differGrovesCard

/-- THE TIED CARD OF 'orchlaw4.FlatAgain'. -/
def flatAgainCard : Claim7 := { stood := { row := flatAgainRow, standIns := [], harness := (true, "858ace617d151883c9420ad8c24447419792752cc651795e0574c8e61e99b9c6"), looks := true }, kinds := [], alts := [], laidByText := true, laidKinds := [.handle], laidTests := true, laidLooks := .later }
def FlatAgainCardSaid : Prop := Claim7.holds Tryd.pinned (.plain (OpenSpec.ofChange flatAgainSpec)) flatAgainCard

/-- THE SECOND FORM's CARD OF 'orchlaw2.DifferTells'. -/
def differTellsUptoCard : Claim7 := { stood := { row := differTellsUptoRow, standIns := [], harness := (true, "858ace617d151883c9420ad8c24447419792752cc651795e0574c8e61e99b9c6"), looks := true }, kinds := [], alts := [], laidByText := true, laidKinds := [.handle], laidTests := true, laidLooks := .later }
def DifferTellsUptoCardSaid : Prop := Claim7.holds Tryd.pinned (.plain (OpenSpec.upto differTellsSpec)) differTellsUptoCard

/-- THE SECOND FORM's CARD OF 'orchlaw2.DifferGroves'. -/
def differGrovesUptoCard : Claim7 := { stood := { row := differGrovesUptoRow, standIns := [], harness := (true, "858ace617d151883c9420ad8c24447419792752cc651795e0574c8e61e99b9c6"), looks := true }, kinds := [], alts := [], laidByText := true, laidKinds := [.handle], laidTests := true, laidLooks := .later }
def DifferGrovesUptoCardSaid : Prop := Claim7.holds Tryd.pinned (.plain (OpenSpec.upto differGrovesSpec)) differGrovesUptoCard

/-- THE SECOND FORM's CARD OF 'orchlaw4.FlatAgain'. -/
def flatAgainUptoCard : Claim7 := { stood := { row := flatAgainUptoRow, standIns := [], harness := (true, "858ace617d151883c9420ad8c24447419792752cc651795e0574c8e61e99b9c6"), looks := true }, kinds := [], alts := [], laidByText := true, laidKinds := [.handle], laidTests := true, laidLooks := .later }
def FlatAgainUptoCardSaid : Prop := Claim7.holds Tryd.pinned (.plain (OpenSpec.upto flatAgainSpec)) flatAgainUptoCard
end Rows
end Go.Proofs.YtcaljnhdfbjpnaeDoor
