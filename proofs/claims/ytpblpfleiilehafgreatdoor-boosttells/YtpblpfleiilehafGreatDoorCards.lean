/-
  DERIVED. GIVEN WITH THE SEED: THE CARDS: each row of YtpblpfleiilehafGreatDoorRows.lean that lists a variable, with what it lists TIED to the program's text (the seventh form; the later family's looks); each row that meets fmt, with fmt's text TOLD by the authors' own Lean function (tested against real Go, not proved from fmt's source: count such statements apart). THE CARD IS WHAT COUNTS. Prove the row's statement (the work); the ties are given (YtpblpfleiilehafGreatDoorTie.lean); close each card by the builder's one call (the guide's Derived/Test/ToyasCard.lean, 'card_holds'). Laid BY PROGRAM, IN A SANDBOX (cutbox-door.mjs). By AI agents, Wed Nov 11 2026. No macro, syntax, notation, axiom, sorry.
-/
import Derived.Test.YtpblpfleiilehafGreatDoorRows
import GoSem.ClaimSeven
namespace Go.Proofs.YtpblpfleiilehafGreatDoor
namespace Rows

/-- THE TIED CARD OF 'orchlaw2.GrowTells'. -/
def growTellsCard : Claim7 := { stood := { row := growTellsRow, standIns := [], harness := (true, "9dde52ec5256323d806f616f87d890b66690277df3be5c6714e521257aeff5d0"), looks := true }, kinds := [], alts := [], laidByText := true, laidKinds := [.handle], laidTests := true, laidLooks := .later }
def GrowTellsCardSaid : Prop := Claim7.holds Tryz.pinned (.plain (OpenSpec.ofChange growTellsSpec)) growTellsCard

/-- THE TIED CARD OF 'orchlaw2.BoostTells'. -/
def boostTellsCard : Claim7 := { stood := { row := boostTellsRow, standIns := [], harness := (true, "9dde52ec5256323d806f616f87d890b66690277df3be5c6714e521257aeff5d0"), looks := true }, kinds := [], alts := [], laidByText := true, laidKinds := [.handle], laidTests := true, laidLooks := .later }
def BoostTellsCardSaid : Prop := Claim7.holds Tryz.pinned (.plain (OpenSpec.ofChange boostTellsSpec)) boostTellsCard

/-- THE SECOND FORM's CARD OF 'orchlaw2.GrowTells'. -/
def growTellsUptoCard : Claim7 := { stood := { row := growTellsUptoRow, standIns := [], harness := (true, "9dde52ec5256323d806f616f87d890b66690277df3be5c6714e521257aeff5d0"), looks := true }, kinds := [], alts := [], laidByText := true, laidKinds := [.handle], laidTests := true, laidLooks := .later }
def GrowTellsUptoCardSaid : Prop := Claim7.holds Tryz.pinned (.plain (OpenSpec.upto growTellsSpec)) growTellsUptoCard

/-- THE SECOND FORM's CARD OF 'orchlaw2.BoostTells'. -/
def boostTellsUptoCard : Claim7 := { stood := { row := boostTellsUptoRow, standIns := [], harness := (true, "9dde52ec5256323d806f616f87d890b66690277df3be5c6714e521257aeff5d0"), looks := true }, kinds := [], alts := [], laidByText := true, laidKinds := [.handle], laidTests := true, laidLooks := .later }
def BoostTellsUptoCardSaid : Prop := Claim7.holds Tryz.pinned (.plain (OpenSpec.upto boostTellsSpec)) boostTellsUptoCard
end Rows
end Go.Proofs.YtpblpfleiilehafGreatDoor
