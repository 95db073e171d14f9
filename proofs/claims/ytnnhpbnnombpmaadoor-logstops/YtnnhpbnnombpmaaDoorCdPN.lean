/-
  What the walks of the laws on bytes take of package code's Num.
-/
import Derived.Test.YtnnhpbnnombpmaaDoorCdP
namespace Go.Proofs.YtnnhpbnnombpmaaDoor
open Go.ChangeShapes Go.WideShapes Go.ChangeAt Go.RowKit Go.Lib
set_option linter.unusedVariables false

def CdNumGives : Prop := ∀ (a : Option Addr) (bs : List Nat) (c : Nat) (n : Int) (W : World), RdB W a bs → (a = none → c = 0) → bs.length ≤ 140737488351232 → -9223372036854775808 ≤ n → n ≤ 9223372036854775807 → Calls Tryd.prog 30 #[.slice a bs.length c, .int .i64 n] W fun e w' => ∃ v, e = .returned v ∧ w'.ownsRow W.heap.size 5 1 v (bs ++ M.numL n).length (byCells (bs ++ M.numL n)) ∧ Below W.heap.size W w'

end Go.Proofs.YtnnhpbnnombpmaaDoor
