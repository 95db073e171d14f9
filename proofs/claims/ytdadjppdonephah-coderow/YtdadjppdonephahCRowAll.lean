/-
  CodeRow, whole: what package code's Num and Get answer put into the law's own walk.
-/
import Derived.Test.YtdadjppdonephahCdRow
import Derived.Test.YtdadjppdonephahCdNum
import Derived.Test.YtdadjppdonephahCdGet
namespace Go.Proofs.Ytdadjppdonephah
open Go.ChangeShapes Go.WideShapes Go.ChangeAt Go.RowKit Go.Lib
set_option linter.unusedVariables false

theorem coderow_all (a : Option Addr) (l : List Int) (ca : Nat) (w : World) (h : Rd w a l) (hi : ∀ x ∈ l, -9223372036854775808 ≤ x ∧ x ≤ 9223372036854775807) :
    Calls Try.prog 3 #[.slice a l.length ca] w fun e w' => e = .returned (.bool true) ∧ Below w.heap.size w w' := coderow_walk cdnum_any cdget_any a l ca w h hi

end Go.Proofs.Ytdadjppdonephah
