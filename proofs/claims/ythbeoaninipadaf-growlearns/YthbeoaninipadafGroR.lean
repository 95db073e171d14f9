/-
  What the walks of the laws on what is grown take of package grow's Split and Wrong.
-/
import Derived.Test.YthbeoaninipadafGroPJ
import Derived.Test.YthbeoaninipadafSMath
namespace Go.Proofs.Ythbeoaninipadaf
open Go.ChangeShapes Go.WideShapes Go.ChangeAt Go.RowKit Go.Lib
set_option linter.unusedVariables false

def GroSplitGives : Prop := ∀ (a : Option Addr) (xs : List Sx) (ca : Nat) (m least : Int) (W : World), RdL W a xs → Calls Try.prog 11 #[.slice a xs.length ca, .int .i64 m, .int .i64 least] W fun e w' => e = .returned (.tuple #[.int .i64 (M.splX (sms xs) m least), .int .i64 (M.splC (sms xs) m least), errV (M.splF (sms xs) m least)]) ∧ Below W.heap.size W w'
def GroWrongGives : Prop := ∀ (a b : Option Addr) (ts : List M.Nd) (xs : List Sx) (ca cb : Nat) (W : World), RdN W a ts → RdL W b xs → Calls Try.prog 10 #[.slice a ts.length ca, .slice b xs.length cb] W fun e w' => e = .returned (.tuple #[.int .i64 (M.wrgV ts (sms xs)), errV (M.rdyF ts (sms xs))]) ∧ Below W.heap.size W w'

end Go.Proofs.Ythbeoaninipadaf
