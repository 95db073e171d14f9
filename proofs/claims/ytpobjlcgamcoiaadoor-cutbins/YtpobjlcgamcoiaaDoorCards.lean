/-
  DERIVED. GIVEN WITH THE SEED: THE CARDS: each row of YtpobjlcgamcoiaaDoorRows.lean that lists a variable, with what it lists TIED to the program's text (the seventh form; the later family's looks); each row that meets fmt, with fmt's text TOLD by the authors' own Lean function (tested against real Go, not proved from fmt's source: count such statements apart). THE CARD IS WHAT COUNTS. Prove the row's statement (the work); the ties are given (YtpobjlcgamcoiaaDoorTie.lean); close each card by the builder's one call (the guide's Derived/Test/ToyasCard.lean, 'card_holds'). Laid BY PROGRAM, IN A SANDBOX (cutbox-door.mjs). By AI agents, Wed Nov 11 2026. No macro, syntax, notation, axiom, sorry.
-/
import Derived.Test.YtpobjlcgamcoiaaDoorRows
import GoSem.ClaimSeven
namespace Go.Proofs.YtpobjlcgamcoiaaDoor
namespace Rows

/-- THE TIED CARD OF 'orchlaw1.CutBins'. -/
def cutBinsCard : Claim7 := { stood := { row := cutBinsRow, standIns := [], harness := (true, "edabfe976e8967e0e505da09a96fe2b2be84e8c29f2ad16e0e83690f035252b6"), looks := true }, kinds := [], alts := [], laidByText := true, laidKinds := [.handle], laidTests := true, laidLooks := .later }
def CutBinsCardSaid : Prop := Claim7.holds Tryd.pinned (.plain (OpenSpec.ofChange cutBinsSpec)) cutBinsCard

/-- THE SECOND FORM's CARD OF 'orchlaw1.CutBins'. -/
def cutBinsUptoCard : Claim7 := { stood := { row := cutBinsUptoRow, standIns := [], harness := (true, "edabfe976e8967e0e505da09a96fe2b2be84e8c29f2ad16e0e83690f035252b6"), looks := true }, kinds := [], alts := [], laidByText := true, laidKinds := [.handle], laidTests := true, laidLooks := .later }
def CutBinsUptoCardSaid : Prop := Claim7.holds Tryd.pinned (.plain (OpenSpec.upto cutBinsSpec)) cutBinsUptoCard
end Rows
end Go.Proofs.YtpobjlcgamcoiaaDoor
