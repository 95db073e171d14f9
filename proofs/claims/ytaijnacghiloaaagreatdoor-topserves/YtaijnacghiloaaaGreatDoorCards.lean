/-
  DERIVED. GIVEN WITH THE SEED: THE CARDS: each row of YtaijnacghiloaaaGreatDoorRows.lean that lists a variable, with what it lists TIED to the program's text (the seventh form; the later family's looks); each row that meets fmt, with fmt's text TOLD by the authors' own Lean function (tested against real Go, not proved from fmt's source: count such statements apart). THE CARD IS WHAT COUNTS. Prove the row's statement (the work); the ties are given (YtaijnacghiloaaaGreatDoorTie.lean); close each card by the builder's one call (the guide's Derived/Test/ToyasCard.lean, 'card_holds'). Laid BY PROGRAM, IN A SANDBOX (cutbox-door.mjs). By AI agents, Wed Nov 11 2026. No macro, syntax, notation, axiom, sorry.
-/
import Derived.Test.YtaijnacghiloaaaGreatDoorRows
import GoSem.ClaimSeven
namespace Go.Proofs.YtaijnacghiloaaaGreatDoor
namespace Rows

/-- THE TIED CARD OF 'orchlaw3.FleetForgets'. -/
def fleetForgetsCard : Claim7 := { stood := { row := fleetForgetsRow, standIns := [], harness := (true, "e2467a3cc76ad2877f33a24f9e046b71f677a2d6754dc6124d77a142084e6084"), looks := true }, kinds := [], alts := [], laidByText := true, laidKinds := [.handle], laidTests := true, laidLooks := .later }
def FleetForgetsCardSaid : Prop := Claim7.holds Tryz.pinned (.plain (OpenSpec.ofChange fleetForgetsSpec)) fleetForgetsCard

/-- THE TIED CARD OF 'orchtop.TopServes'. -/
def topServesCard : Claim7 := { stood := { row := topServesRow, standIns := [], harness := (true, "e2467a3cc76ad2877f33a24f9e046b71f677a2d6754dc6124d77a142084e6084"), looks := true }, kinds := [], alts := [], laidByText := true, laidKinds := [.handle], laidTests := true, laidLooks := .later }
def TopServesCardSaid : Prop := Claim7.holds Tryz.pinned (.plain (OpenSpec.ofChange topServesSpec)) topServesCard

/-- THE SECOND FORM's CARD OF 'orchlaw3.FleetForgets'. -/
def fleetForgetsUptoCard : Claim7 := { stood := { row := fleetForgetsUptoRow, standIns := [], harness := (true, "e2467a3cc76ad2877f33a24f9e046b71f677a2d6754dc6124d77a142084e6084"), looks := true }, kinds := [], alts := [], laidByText := true, laidKinds := [.handle], laidTests := true, laidLooks := .later }
def FleetForgetsUptoCardSaid : Prop := Claim7.holds Tryz.pinned (.plain (OpenSpec.upto fleetForgetsSpec)) fleetForgetsUptoCard

/-- THE SECOND FORM's CARD OF 'orchtop.TopServes'. -/
def topServesUptoCard : Claim7 := { stood := { row := topServesUptoRow, standIns := [], harness := (true, "e2467a3cc76ad2877f33a24f9e046b71f677a2d6754dc6124d77a142084e6084"), looks := true }, kinds := [], alts := [], laidByText := true, laidKinds := [.handle], laidTests := true, laidLooks := .later }
def TopServesUptoCardSaid : Prop := Claim7.holds Tryz.pinned (.plain (OpenSpec.upto topServesSpec)) topServesUptoCard
end Rows
end Go.Proofs.YtaijnacghiloaaaGreatDoor
