/-
  DERIVED. GIVEN WITH THE SEED: THE CARDS: each row of YtandimbpealclacDoorRows.lean that lists a variable, with what it lists TIED to the program's text (the seventh form; the later family's looks); each row that meets fmt, with fmt's text TOLD by the authors' own Lean function (tested against real Go, not proved from fmt's source: count such statements apart). THE CARD IS WHAT COUNTS. Prove the row's statement (the work); the ties are given (YtandimbpealclacDoorTie.lean); close each card by the builder's one call (the guide's Derived/Test/ToyasCard.lean, 'card_holds'). Laid BY PROGRAM, IN A SANDBOX (cutbox-door.mjs). By AI agents, Wed Nov 11 2026. No macro, syntax, notation, axiom, sorry.
-/
import Derived.Test.YtandimbpealclacDoorRows
import GoSem.ClaimSeven
namespace Go.Proofs.YtandimbpealclacDoor
namespace Rows

/-- THE TIED CARD OF 'orchlaw4.PathWords'. -/
def pathWordsCard : Claim7 := { stood := { row := pathWordsRow, standIns := [], harness := (true, "9d7a8f9dea9c3e3f4acad408e4b35a4ce13ccab93a9799988c51ebedd9342faa"), looks := true }, kinds := [], alts := [], laidByText := true, laidKinds := [.data, .data, .data], laidTests := true, laidLooks := .later }
def PathWordsCardSaid : Prop := Claim7.holds Tryd.pinned (.plain (OpenSpec.ofChange pathWordsSpec)) pathWordsCard

/-- THE TIED CARD OF 'orchlaw1.GroveTells'. -/
def groveTellsCard : Claim7 := { stood := { row := groveTellsRow, standIns := [], harness := (true, "9d7a8f9dea9c3e3f4acad408e4b35a4ce13ccab93a9799988c51ebedd9342faa"), looks := true }, kinds := [], alts := [], laidByText := true, laidKinds := [.handle], laidTests := true, laidLooks := .later }
def GroveTellsCardSaid : Prop := Claim7.holds Tryd.pinned (.plain (OpenSpec.ofChange groveTellsSpec)) groveTellsCard

/-- THE SECOND FORM's CARD OF 'orchlaw4.PathWords'. -/
def pathWordsUptoCard : Claim7 := { stood := { row := pathWordsUptoRow, standIns := [], harness := (true, "9d7a8f9dea9c3e3f4acad408e4b35a4ce13ccab93a9799988c51ebedd9342faa"), looks := true }, kinds := [], alts := [], laidByText := true, laidKinds := [.data, .data, .data], laidTests := true, laidLooks := .later }
def PathWordsUptoCardSaid : Prop := Claim7.holds Tryd.pinned (.plain (OpenSpec.upto pathWordsSpec)) pathWordsUptoCard

/-- THE SECOND FORM's CARD OF 'orchlaw1.GroveTells'. -/
def groveTellsUptoCard : Claim7 := { stood := { row := groveTellsUptoRow, standIns := [], harness := (true, "9d7a8f9dea9c3e3f4acad408e4b35a4ce13ccab93a9799988c51ebedd9342faa"), looks := true }, kinds := [], alts := [], laidByText := true, laidKinds := [.handle], laidTests := true, laidLooks := .later }
def GroveTellsUptoCardSaid : Prop := Claim7.holds Tryd.pinned (.plain (OpenSpec.upto groveTellsSpec)) groveTellsUptoCard
end Rows
end Go.Proofs.YtandimbpealclacDoor
