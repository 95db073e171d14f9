/-
  What the walks of the laws on limits take of limit.Tree.
-/
import Derived.Test.YthbeoaninipadafNodes
import Derived.Test.YthbeoaninipadafSpans
import Derived.Test.YthbeoaninipadafLMathB
namespace Go.Proofs.Ythbeoaninipadaf
open Go.ChangeShapes Go.WideShapes Go.ChangeAt Go.RowKit Go.Lib
set_option linter.unusedVariables false

def LimTreeGives : Prop := ∀ (a bl : Option Addr) (ts : List M.Nd) (ss : List M.Sp) (ca cl : Nat) (W : World), RdN W a ts → RdS W bl ss → Calls Try.prog 18 #[.slice a ts.length ca, .slice bl ss.length cl] W fun e w' => e = .returned (.tuple #[.int .i64 (M.limLo ts ss), .int .i64 (M.limHi ts ss), errV (M.limF ts ss)]) ∧ Below W.heap.size W w'

end Go.Proofs.Ythbeoaninipadaf
