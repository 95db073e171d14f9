/-
  strconv.Itoa at a cell's number; the table of powers lies as package strconv lays it.
-/
import Derived.Test.YtandimbpealclacDoorBs
import Derived.Test.YtandimbpealclacDoorShelf
import Derived.Test.YtandimbpealclacDoorMathR
import Derived.Lib.AppendIntMem
import Derived.Shelf.SlSorted.Search
namespace Go.Proofs.YtandimbpealclacDoor
open Go.ChangeShapes Go.WideShapes Go.ChangeAt Go.RowKit Go.Shelf Go.Lib Go.Sort
set_option linter.unusedVariables false

/-- what package strconv's table holds -/
def Tabs (w : World) : Prop := Lib.TabIs Tryd.prog w "internal/strconv.uint64pow10" .u64 Lib.pow10Tab
theorem Tabs.below {w w' : World} (h : Tabs w) (hb : Below w.heap.size w w') : Tabs w' := tabBelow_of_tabIs h _ hb
theorem below_grow2 (w : World) (q : Nat) (os : Array Obj) : Below w.heap.size w (grow (w.drewN q) os) := below_grown_sl w.heap.size w q os (Nat.le_refl _)
theorem itoa_tab (n : Int) (w : World) (h : M.outI n = false) (hL : Tabs w) :
    Calls Tryd.prog 44 #[.int .i64 n] w fun e w' => e = .returned (.string (bs (Lib.itoa n))) ∧ Below w.heap.size w w' := by
  have := M.out_false h
  refine (Tryd.strconv_Itoa n (by omega) (by omega) w hL).mono ?_
  rintro e w' ⟨rfl, k, os, rfl⟩
  exact ⟨rfl, below_grow2 w k os⟩

end Go.Proofs.YtandimbpealclacDoor
