/-
  DERIVED. GIVEN WITH THE SEED: THE CARDS: each row of YtjnkkniefpmgdadDoorRows.lean that lists a variable, with what it lists TIED to the program's text (the seventh form; the later family's looks); each row that meets fmt, with fmt's text TOLD by the authors' own Lean function (tested against real Go, not proved from fmt's source: count such statements apart). THE CARD IS WHAT COUNTS. Prove the row's statement (the work); the ties are given (YtjnkkniefpmgdadDoorTie.lean); close each card by the builder's one call (the guide's Derived/Test/ToyasCard.lean, 'card_holds'). Laid BY PROGRAM, IN A SANDBOX (cutbox-door.mjs). By AI agents, Wed Nov 11 2026. No macro, syntax, notation, axiom, sorry.
-/
import Derived.Test.YtjnkkniefpmgdadDoorRows
import GoSem.ClaimSeven
namespace Go.Proofs.YtjnkkniefpmgdadDoor
namespace Rows

/-- THE TIED CARD OF 'orchlaw1.FlatTells'. -/
def flatTellsCard : Claim7 := { stood := { row := flatTellsRow, standIns := [], harness := (true, "02f35d45be64e72892f6d5ab5485bb49868a37456842a93ba3e5c37cc47459a7"), looks := true }, kinds := [], alts := [], laidByText := true, laidKinds := [.handle], laidTests := true, laidLooks := .later }
def FlatTellsCardSaid : Prop := Claim7.holds Tryd.pinned (.plain (OpenSpec.ofChange flatTellsSpec)) flatTellsCard

/-- THE TIED CARD OF 'orchlaw2.PruneTells'. -/
def pruneTellsCard : Claim7 := { stood := { row := pruneTellsRow, standIns := [], harness := (true, "02f35d45be64e72892f6d5ab5485bb49868a37456842a93ba3e5c37cc47459a7"), looks := true }, kinds := [], alts := [], laidByText := true, laidKinds := [.handle], laidTests := true, laidLooks := .later }
def PruneTellsCardSaid : Prop := Claim7.holds Tryd.pinned (.plain (OpenSpec.ofChange pruneTellsSpec)) pruneTellsCard

/-- THE SECOND FORM's CARD OF 'orchlaw1.FlatTells'. -/
def flatTellsUptoCard : Claim7 := { stood := { row := flatTellsUptoRow, standIns := [], harness := (true, "02f35d45be64e72892f6d5ab5485bb49868a37456842a93ba3e5c37cc47459a7"), looks := true }, kinds := [], alts := [], laidByText := true, laidKinds := [.handle], laidTests := true, laidLooks := .later }
def FlatTellsUptoCardSaid : Prop := Claim7.holds Tryd.pinned (.plain (OpenSpec.upto flatTellsSpec)) flatTellsUptoCard

/-- THE SECOND FORM's CARD OF 'orchlaw2.PruneTells'. -/
def pruneTellsUptoCard : Claim7 := { stood := { row := pruneTellsUptoRow, standIns := [], harness := (true, "02f35d45be64e72892f6d5ab5485bb49868a37456842a93ba3e5c37cc47459a7"), looks := true }, kinds := [], alts := [], laidByText := true, laidKinds := [.handle], laidTests := true, laidLooks := .later }
def PruneTellsUptoCardSaid : Prop := Claim7.holds Tryd.pinned (.plain (OpenSpec.upto pruneTellsSpec)) pruneTellsUptoCard
end Rows
end Go.Proofs.YtjnkkniefpmgdadDoor
