/-
  DERIVED. GIVEN WITH THE SEED: THE CARDS: each row of YtodidokeblblgaaGreatDoorRows.lean that lists a variable, with what it lists TIED to the program's text (the seventh form; the later family's looks); each row that meets fmt, with fmt's text TOLD by the authors' own Lean function (tested against real Go, not proved from fmt's source: count such statements apart). THE CARD IS WHAT COUNTS. Prove the row's statement (the work); the ties are given (YtodidokeblblgaaGreatDoorTie.lean); close each card by the builder's one call (the guide's Derived/Test/ToyasCard.lean, 'card_holds'). Laid BY PROGRAM, IN A SANDBOX (cutbox-door.mjs). By AI agents, Wed Nov 11 2026. No macro, syntax, notation, axiom, sorry.
-/
import Derived.Test.YtodidokeblblgaaGreatDoorRows
import GoSem.ClaimSeven
namespace Go.Proofs.YtodidokeblblgaaGreatDoor
namespace Rows

/-- THE TIED CARD OF 'orchlaw3.ShelfPlays'. -/
def shelfPlaysCard : Claim7 := { stood := { row := shelfPlaysRow, standIns := [], harness := (true, "3724865850ace6bb30f8a4074bd27b1dc68d056bb1ebaddb79f99db423d3dc85"), looks := true }, kinds := [], alts := [], laidByText := true, laidKinds := [.handle], laidTests := true, laidLooks := .later }
def ShelfPlaysCardSaid : Prop := Claim7.holds Tryz.pinned (.plain (OpenSpec.ofChange shelfPlaysSpec)) shelfPlaysCard

/-- THE TIED CARD OF 'orchlaw3.LogKeeps'. -/
def logKeepsCard : Claim7 := { stood := { row := logKeepsRow, standIns := [], harness := (true, "3724865850ace6bb30f8a4074bd27b1dc68d056bb1ebaddb79f99db423d3dc85"), looks := true }, kinds := [], alts := [], laidByText := true, laidKinds := [.handle], laidTests := true, laidLooks := .later }
def LogKeepsCardSaid : Prop := Claim7.holds Tryz.pinned (.plain (OpenSpec.ofChange logKeepsSpec)) logKeepsCard

/-- THE TIED CARD OF 'orchlaw4.ScoreAgain'. -/
def scoreAgainCard : Claim7 := { stood := { row := scoreAgainRow, standIns := [], harness := (true, "3724865850ace6bb30f8a4074bd27b1dc68d056bb1ebaddb79f99db423d3dc85"), looks := true }, kinds := [], alts := [], laidByText := true, laidKinds := [.handle], laidTests := true, laidLooks := .later }
def ScoreAgainCardSaid : Prop := Claim7.holds Tryz.pinned (.plain (OpenSpec.ofChange scoreAgainSpec)) scoreAgainCard

/-- THE TIED CARD OF 'orchlaw3.ScoreTells'. -/
def scoreTellsCard : Claim7 := { stood := { row := scoreTellsRow, standIns := [], harness := (true, "3724865850ace6bb30f8a4074bd27b1dc68d056bb1ebaddb79f99db423d3dc85"), looks := true }, kinds := [], alts := [], laidByText := true, laidKinds := [.handle], laidTests := true, laidLooks := .later }
def ScoreTellsCardSaid : Prop := Claim7.holds Tryz.pinned (.plain (OpenSpec.ofChange scoreTellsSpec)) scoreTellsCard

/-- THE SECOND FORM's CARD OF 'orchlaw3.ShelfPlays'. -/
def shelfPlaysUptoCard : Claim7 := { stood := { row := shelfPlaysUptoRow, standIns := [], harness := (true, "3724865850ace6bb30f8a4074bd27b1dc68d056bb1ebaddb79f99db423d3dc85"), looks := true }, kinds := [], alts := [], laidByText := true, laidKinds := [.handle], laidTests := true, laidLooks := .later }
def ShelfPlaysUptoCardSaid : Prop := Claim7.holds Tryz.pinned (.plain (OpenSpec.upto shelfPlaysSpec)) shelfPlaysUptoCard

/-- THE SECOND FORM's CARD OF 'orchlaw3.LogKeeps'. -/
def logKeepsUptoCard : Claim7 := { stood := { row := logKeepsUptoRow, standIns := [], harness := (true, "3724865850ace6bb30f8a4074bd27b1dc68d056bb1ebaddb79f99db423d3dc85"), looks := true }, kinds := [], alts := [], laidByText := true, laidKinds := [.handle], laidTests := true, laidLooks := .later }
def LogKeepsUptoCardSaid : Prop := Claim7.holds Tryz.pinned (.plain (OpenSpec.upto logKeepsSpec)) logKeepsUptoCard

/-- THE SECOND FORM's CARD OF 'orchlaw4.ScoreAgain'. -/
def scoreAgainUptoCard : Claim7 := { stood := { row := scoreAgainUptoRow, standIns := [], harness := (true, "3724865850ace6bb30f8a4074bd27b1dc68d056bb1ebaddb79f99db423d3dc85"), looks := true }, kinds := [], alts := [], laidByText := true, laidKinds := [.handle], laidTests := true, laidLooks := .later }
def ScoreAgainUptoCardSaid : Prop := Claim7.holds Tryz.pinned (.plain (OpenSpec.upto scoreAgainSpec)) scoreAgainUptoCard

/-- THE SECOND FORM's CARD OF 'orchlaw3.ScoreTells'. -/
def scoreTellsUptoCard : Claim7 := { stood := { row := scoreTellsUptoRow, standIns := [], harness := (true, "3724865850ace6bb30f8a4074bd27b1dc68d056bb1ebaddb79f99db423d3dc85"), looks := true }, kinds := [], alts := [], laidByText := true, laidKinds := [.handle], laidTests := true, laidLooks := .later }
def ScoreTellsUptoCardSaid : Prop := Claim7.holds Tryz.pinned (.plain (OpenSpec.upto scoreTellsSpec)) scoreTellsUptoCard
end Rows
end Go.Proofs.YtodidokeblblgaaGreatDoor
