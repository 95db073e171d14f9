/-
  What the walks of the laws on bytes take of package code's Get.
-/
import Derived.Test.YtnnhpbnnombpmaaDoorByCells
import Derived.Test.YtnnhpbnnombpmaaDoorMathCa
namespace Go.Proofs.YtnnhpbnnombpmaaDoor
open Go.ChangeShapes Go.WideShapes Go.ChangeAt Go.RowKit Go.Lib
set_option linter.unusedVariables false

def CdGetGives : Prop := ∀ (a : Option Addr) (bs : List Nat) (c : Nat) (W : World), RdB W a bs → Calls Tryd.prog 33 #[.slice a bs.length c] W fun e w' => e = .returned (.tuple #[.int .i64 (M.getL bs).1, .int .i64 ((M.getL bs).2.1 : Nat), errV (M.getL bs).2.2]) ∧ Below W.heap.size W w'

end Go.Proofs.YtnnhpbnnombpmaaDoor
