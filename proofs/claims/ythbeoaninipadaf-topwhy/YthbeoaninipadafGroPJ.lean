/-
  Several texts as one: GroC, GroP.
-/
import Derived.Test.YthbeoaninipadafSams
namespace Go.Proofs.Ythbeoaninipadaf
open Go.ChangeShapes Go.WideShapes Go.ChangeAt Go.RowKit Go.Lib
set_option linter.unusedVariables false

def GroCheckGives : Prop := ∀ (a : Option Addr) (xs : List Sx) (ca : Nat) (m : Int) (W : World), RdL W a xs → Calls Try.prog 13 #[.slice a xs.length ca, .int .i64 m] W fun e w' => e = .returned (.tuple #[.int .i64 ((M.samF (sms xs) m).1 : Nat), errV (M.samF (sms xs) m).2]) ∧ Below W.heap.size W w'

end Go.Proofs.Ythbeoaninipadaf

namespace Go.Proofs.Ythbeoaninipadaf
open Go.ChangeShapes Go.WideShapes Go.ChangeAt Go.RowKit Go.Lib
set_option linter.unusedVariables false

def GroFitGives : Prop := ∀ (a : Option Addr) (xs : List Sx) (ca : Nat) (m depth least : Int) (W : World), RdL W a xs → Calls Try.prog 6 #[.slice a xs.length ca, .int .i64 m, .int .i64 depth, .int .i64 least] W fun e w' => ∃ pa pc, e = .returned (.tuple #[.slice pa (M.grwT (sms xs) m depth least).length pc, errV (M.grwF (sms xs) m depth least)]) ∧ RdN w' pa (M.grwT (sms xs) m depth least) ∧ Below W.heap.size W w'

end Go.Proofs.Ythbeoaninipadaf
