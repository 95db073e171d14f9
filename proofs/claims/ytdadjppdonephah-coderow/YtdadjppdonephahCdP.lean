/-
  What the walks of the laws on bytes take of package code's Num and Get.
-/
import Derived.Test.YtdadjppdonephahByCells
import Derived.Test.YtdadjppdonephahMathCa
namespace Go.Proofs.Ytdadjppdonephah
open Go.ChangeShapes Go.WideShapes Go.ChangeAt Go.RowKit Go.Lib
set_option linter.unusedVariables false

def CdNumGives : Prop := ∀ (a : Option Addr) (bs : List Nat) (c : Nat) (n : Int) (W : World), RdB W a bs → (a = none → c = 0) → bs.length ≤ 140737488351232 → -9223372036854775808 ≤ n → n ≤ 9223372036854775807 → Calls Try.prog 5 #[.slice a bs.length c, .int .i64 n] W fun e w' => ∃ v, e = .returned v ∧ w'.ownsRow W.heap.size 5 1 v (bs ++ M.numL n).length (byCells (bs ++ M.numL n)) ∧ Below W.heap.size W w'
def CdGetGives : Prop := ∀ (a : Option Addr) (bs : List Nat) (c : Nat) (W : World), RdB W a bs → Calls Try.prog 4 #[.slice a bs.length c] W fun e w' => e = .returned (.tuple #[.int .i64 (M.getL bs).1, .int .i64 ((M.getL bs).2.1 : Nat), errV (M.getL bs).2.2]) ∧ Below W.heap.size W w'

end Go.Proofs.Ytdadjppdonephah
