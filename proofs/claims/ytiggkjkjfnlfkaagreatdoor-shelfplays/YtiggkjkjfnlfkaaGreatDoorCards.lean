/-
  DERIVED. GIVEN WITH THE SEED: THE CARDS: each row of YtiggkjkjfnlfkaaGreatDoorRows.lean that lists a variable, with what it lists TIED to the program's text (the seventh form; the later family's looks); each row that meets fmt, with fmt's text TOLD by the authors' own Lean function (tested against real Go, not proved from fmt's source: count such statements apart). THE CARD IS WHAT COUNTS. Prove the row's statement (the work); the ties are given (YtiggkjkjfnlfkaaGreatDoorTie.lean); close each card by the builder's one call (the guide's Derived/Test/ToyasCard.lean, 'card_holds'). Laid BY PROGRAM, IN A SANDBOX (cutbox-door.mjs). By AI agents, Wed Nov 11 2026. No macro, syntax, notation, axiom, sorry.
-/
import Derived.Test.YtiggkjkjfnlfkaaGreatDoorRows
import GoSem.ClaimSeven
namespace Go.Proofs.YtiggkjkjfnlfkaaGreatDoor
namespace Rows

/-- THE TIED CARD OF 'orchlaw3.ShelfPlays'. -/
def shelfPlaysCard : Claim7 := { stood := { row := shelfPlaysRow, standIns := [], harness := (true, "6ca123c350a33e5fde0a240e8a76755f4e1661c158c64e7c0a2d77f3fda77404"), looks := true }, kinds := [], alts := [], laidByText := true, laidKinds := [.handle], laidTests := true, laidLooks := .later }
def ShelfPlaysCardSaid : Prop := Claim7.holds Tryz.pinned (.plain (OpenSpec.ofChange shelfPlaysSpec)) shelfPlaysCard

/-- THE TIED CARD OF 'orchlaw3.RunAnswers'. -/
def runAnswersCard : Claim7 := { stood := { row := runAnswersRow, standIns := [], harness := (true, "6ca123c350a33e5fde0a240e8a76755f4e1661c158c64e7c0a2d77f3fda77404"), looks := true }, kinds := [], alts := [], laidByText := true, laidKinds := [.data, .data, .data, .data, .handle, .sentinel, .sentinel, .sentinel, .pinned], laidTests := true, laidLooks := .later }
def RunAnswersCardSaid : Prop := Claim7.holds Tryz.pinned (.plain (OpenSpec.ofChange runAnswersSpec)) runAnswersCard

/-- THE TIED CARD OF 'orchlaw3.RunBegins'. -/
def runBeginsCard : Claim7 := { stood := { row := runBeginsRow, standIns := [], harness := (true, "6ca123c350a33e5fde0a240e8a76755f4e1661c158c64e7c0a2d77f3fda77404"), looks := true }, kinds := [], alts := [], laidByText := true, laidKinds := [.data, .data, .data, .data, .handle, .sentinel, .sentinel, .sentinel, .pinned], laidTests := true, laidLooks := .later }
def RunBeginsCardSaid : Prop := Claim7.holds Tryz.pinned (.plain (OpenSpec.ofChange runBeginsSpec)) runBeginsCard

/-- THE TIED CARD OF 'orchlaw3.RunGrows'. -/
def runGrowsCard : Claim7 := { stood := { row := runGrowsRow, standIns := [], harness := (true, "6ca123c350a33e5fde0a240e8a76755f4e1661c158c64e7c0a2d77f3fda77404"), looks := true }, kinds := [], alts := [], laidByText := true, laidKinds := [.data, .data, .data, .data, .handle, .sentinel, .sentinel, .sentinel, .pinned], laidTests := true, laidLooks := .later }
def RunGrowsCardSaid : Prop := Claim7.holds Tryz.pinned (.plain (OpenSpec.ofChange runGrowsSpec)) runGrowsCard

/-- THE TIED CARD OF 'orchlaw4.RunMeans'. -/
def runMeansCard : Claim7 := { stood := { row := runMeansRow, standIns := [], harness := (true, "6ca123c350a33e5fde0a240e8a76755f4e1661c158c64e7c0a2d77f3fda77404"), looks := true }, kinds := [], alts := [], laidByText := true, laidKinds := [.data, .data, .data, .data, .handle, .sentinel, .sentinel, .sentinel, .pinned], laidTests := true, laidLooks := .later }
def RunMeansCardSaid : Prop := Claim7.holds Tryz.pinned (.plain (OpenSpec.ofChange runMeansSpec)) runMeansCard

/-- THE SECOND FORM's CARD OF 'orchlaw3.ShelfPlays'. -/
def shelfPlaysUptoCard : Claim7 := { stood := { row := shelfPlaysUptoRow, standIns := [], harness := (true, "6ca123c350a33e5fde0a240e8a76755f4e1661c158c64e7c0a2d77f3fda77404"), looks := true }, kinds := [], alts := [], laidByText := true, laidKinds := [.handle], laidTests := true, laidLooks := .later }
def ShelfPlaysUptoCardSaid : Prop := Claim7.holds Tryz.pinned (.plain (OpenSpec.upto shelfPlaysSpec)) shelfPlaysUptoCard

/-- THE SECOND FORM's CARD OF 'orchlaw3.RunAnswers'. -/
def runAnswersUptoCard : Claim7 := { stood := { row := runAnswersUptoRow, standIns := [], harness := (true, "6ca123c350a33e5fde0a240e8a76755f4e1661c158c64e7c0a2d77f3fda77404"), looks := true }, kinds := [], alts := [], laidByText := true, laidKinds := [.data, .data, .data, .data, .handle, .sentinel, .sentinel, .sentinel, .pinned], laidTests := true, laidLooks := .later }
def RunAnswersUptoCardSaid : Prop := Claim7.holds Tryz.pinned (.plain (OpenSpec.upto runAnswersSpec)) runAnswersUptoCard

/-- THE SECOND FORM's CARD OF 'orchlaw3.RunBegins'. -/
def runBeginsUptoCard : Claim7 := { stood := { row := runBeginsUptoRow, standIns := [], harness := (true, "6ca123c350a33e5fde0a240e8a76755f4e1661c158c64e7c0a2d77f3fda77404"), looks := true }, kinds := [], alts := [], laidByText := true, laidKinds := [.data, .data, .data, .data, .handle, .sentinel, .sentinel, .sentinel, .pinned], laidTests := true, laidLooks := .later }
def RunBeginsUptoCardSaid : Prop := Claim7.holds Tryz.pinned (.plain (OpenSpec.upto runBeginsSpec)) runBeginsUptoCard

/-- THE SECOND FORM's CARD OF 'orchlaw3.RunGrows'. -/
def runGrowsUptoCard : Claim7 := { stood := { row := runGrowsUptoRow, standIns := [], harness := (true, "6ca123c350a33e5fde0a240e8a76755f4e1661c158c64e7c0a2d77f3fda77404"), looks := true }, kinds := [], alts := [], laidByText := true, laidKinds := [.data, .data, .data, .data, .handle, .sentinel, .sentinel, .sentinel, .pinned], laidTests := true, laidLooks := .later }
def RunGrowsUptoCardSaid : Prop := Claim7.holds Tryz.pinned (.plain (OpenSpec.upto runGrowsSpec)) runGrowsUptoCard

/-- THE SECOND FORM's CARD OF 'orchlaw4.RunMeans'. -/
def runMeansUptoCard : Claim7 := { stood := { row := runMeansUptoRow, standIns := [], harness := (true, "6ca123c350a33e5fde0a240e8a76755f4e1661c158c64e7c0a2d77f3fda77404"), looks := true }, kinds := [], alts := [], laidByText := true, laidKinds := [.data, .data, .data, .data, .handle, .sentinel, .sentinel, .sentinel, .pinned], laidTests := true, laidLooks := .later }
def RunMeansUptoCardSaid : Prop := Claim7.holds Tryz.pinned (.plain (OpenSpec.upto runMeansSpec)) runMeansUptoCard
end Rows
end Go.Proofs.YtiggkjkjfnlfkaaGreatDoor
