/-
  What the walks of pruning's laws take of package prune.
-/
import Derived.Test.YtcaljnhdfbjpnaeDoorNodes
import Derived.Test.YtcaljnhdfbjpnaeDoorPruneMath
namespace Go.Proofs.YtcaljnhdfbjpnaeDoor
open Go.ChangeShapes Go.WideShapes Go.ChangeAt Go.RowKit Go.Lib
set_option linter.unusedVariables false

/-- what prune.Tree answers -/
def TreeGives : Prop := ∀ (a0 : Option Addr) (ts : List M.Nd) (cap : Nat) (m : Int) (W : World), RdN W a0 ts → Calls Tryd.prog 10 #[.slice a0 ts.length cap, .int .i64 m] W fun e w' => ∃ a c, e = .returned (.tuple #[.slice a (M.prunV ts m).length c, errV (M.treeF ts m).2]) ∧ RdN w' a (M.prunV ts m) ∧ Below W.heap.size W w'

end Go.Proofs.YtcaljnhdfbjpnaeDoor
