/-
  What the walks of the laws on what differs take of differ.Groves.
-/
import Derived.Test.YtcaljnhdfbjpnaeDoorGroves
import Derived.Test.YtcaljnhdfbjpnaeDoorDMathC
namespace Go.Proofs.YtcaljnhdfbjpnaeDoor
open Go.ChangeShapes Go.WideShapes Go.ChangeAt Go.RowKit Go.Lib
set_option linter.unusedVariables false

def DifGrovesGives : Prop := ∀ (G O : Gr) (W : World), RdG W G → RdG W O → Calls Tryd.prog 13 #[G.v, O.v] W fun e w' => e = .returned (.tuple #[.int .i64 (M.difGV G.m O.m : Nat), errV (M.difGF G.m O.m)]) ∧ Below W.heap.size W w'

end Go.Proofs.YtcaljnhdfbjpnaeDoor
