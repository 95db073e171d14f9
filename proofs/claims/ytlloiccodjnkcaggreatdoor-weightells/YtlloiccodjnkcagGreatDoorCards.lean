/-
  DERIVED. GIVEN WITH THE SEED: THE CARDS: each row of YtlloiccodjnkcagGreatDoorRows.lean that lists a variable, with what it lists TIED to the program's text (the seventh form; the later family's looks); each row that meets fmt, with fmt's text TOLD by the authors' own Lean function (tested against real Go, not proved from fmt's source: count such statements apart). THE CARD IS WHAT COUNTS. Prove the row's statement (the work); the ties are given (YtlloiccodjnkcagGreatDoorTie.lean); close each card by the builder's one call (the guide's Derived/Test/ToyasCard.lean, 'card_holds'). Laid BY PROGRAM, IN A SANDBOX (cutbox-door.mjs). By AI agents, Wed Nov 11 2026. No macro, syntax, notation, axiom, sorry.
-/
import Derived.Test.YtlloiccodjnkcagGreatDoorRows
import GoSem.ClaimSeven
namespace Go.Proofs.YtlloiccodjnkcagGreatDoor
namespace Rows

/-- THE TIED CARD OF 'orchlaw2.WeighTells'. -/
def weighTellsCard : Claim7 := { stood := { row := weighTellsRow, standIns := [], harness := (true, "26a963349257b72bf60b3c50b04110787ff3a6876df2643928d9c60c4dc2826c"), looks := true }, kinds := [], alts := [], laidByText := true, laidKinds := [.handle], laidTests := true, laidLooks := .later }
def WeighTellsCardSaid : Prop := Claim7.holds Tryz.pinned (.plain (OpenSpec.ofChange weighTellsSpec)) weighTellsCard

/-- THE TIED CARD OF 'orchtop.TopCounts'. -/
def topCountsCard : Claim7 := { stood := { row := topCountsRow, standIns := [], harness := (true, "26a963349257b72bf60b3c50b04110787ff3a6876df2643928d9c60c4dc2826c"), looks := true }, kinds := [], alts := [], laidByText := true, laidKinds := [.handle], laidTests := true, laidLooks := .later }
def TopCountsCardSaid : Prop := Claim7.holds Tryz.pinned (.plain (OpenSpec.ofChange topCountsSpec)) topCountsCard

/-- THE SECOND FORM's CARD OF 'orchlaw2.WeighTells'. -/
def weighTellsUptoCard : Claim7 := { stood := { row := weighTellsUptoRow, standIns := [], harness := (true, "26a963349257b72bf60b3c50b04110787ff3a6876df2643928d9c60c4dc2826c"), looks := true }, kinds := [], alts := [], laidByText := true, laidKinds := [.handle], laidTests := true, laidLooks := .later }
def WeighTellsUptoCardSaid : Prop := Claim7.holds Tryz.pinned (.plain (OpenSpec.upto weighTellsSpec)) weighTellsUptoCard

/-- THE SECOND FORM's CARD OF 'orchtop.TopCounts'. -/
def topCountsUptoCard : Claim7 := { stood := { row := topCountsUptoRow, standIns := [], harness := (true, "26a963349257b72bf60b3c50b04110787ff3a6876df2643928d9c60c4dc2826c"), looks := true }, kinds := [], alts := [], laidByText := true, laidKinds := [.handle], laidTests := true, laidLooks := .later }
def TopCountsUptoCardSaid : Prop := Claim7.holds Tryz.pinned (.plain (OpenSpec.upto topCountsSpec)) topCountsUptoCard
end Rows
end Go.Proofs.YtlloiccodjnkcagGreatDoor
