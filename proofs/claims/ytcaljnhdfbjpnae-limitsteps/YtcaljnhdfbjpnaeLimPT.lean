/-
  What the walks of the laws on limits take of limit.Tree.
-/
import Derived.Test.YtcaljnhdfbjpnaeNodes
import Derived.Test.YtcaljnhdfbjpnaeSpans
import Derived.Test.YtcaljnhdfbjpnaeLMathB
namespace Go.Proofs.Ytcaljnhdfbjpnae
open Go.ChangeShapes Go.WideShapes Go.ChangeAt Go.RowKit Go.Lib
set_option linter.unusedVariables false

def LimTreeGives : Prop := ∀ (a bl : Option Addr) (ts : List M.Nd) (ss : List M.Sp) (ca cl : Nat) (W : World), RdN W a ts → RdS W bl ss → Calls Try.prog 6 #[.slice a ts.length ca, .slice bl ss.length cl] W fun e w' => e = .returned (.tuple #[.int .i64 (M.limLo ts ss), .int .i64 (M.limHi ts ss), errV (M.limF ts ss)]) ∧ Below W.heap.size W w'

end Go.Proofs.Ytcaljnhdfbjpnae
