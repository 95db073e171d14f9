/-
  An error is the one that its number tells.
-/
import Derived.Test.YtelncekgjfpogahDoorError
namespace Go.Proofs.YtelncekgjfpogahDoor
open Go.ChangeShapes Go.WideShapes Go.ChangeAt Go.RowKit Go.Lib
set_option linter.unusedVariables false

theorem error_self (c : Int) (w : World) (hg : Lays w) : Calls Tryd.prog 11 #[errV c, .int .i64 c] w fun e w' => e = .returned (.bool true) ∧ Below w.heap.size w w' := by
  have := error_any c c w hg
  rwa [show (c == c) = true from by simp] at this

end Go.Proofs.YtelncekgjfpogahDoor
