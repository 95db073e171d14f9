/-
  Several texts as one: AgaAll.
-/
import Derived.Test.YtjjfmepinpmkfaaGreatDoorRunA44
import Derived.Test.YtjjfmepinpmkfaaGreatDoorRunA18
namespace Go.Proofs.YtjjfmepinpmkfaaGreatDoor
open Go.ChangeShapes Go.WideShapes Go.ChangeAt Go.RowKit Go.Lib
set_option linter.unusedVariables false
theorem scoreagain_all (a b d : Option Addr) (l : List CaC) (xs ks : List Int) (ca cb cd : Nat) (w : World) (h : RdC w a l) (hx : Rd w b xs) (hk : Rd w d ks) (hL : Lays w) :
    Calls Tryz.prog 4 #[.slice a l.length ca, .slice b xs.length cb, .slice d ks.length cd] w fun e w' => e = .returned (.bool true) ∧ Below w.heap.size w w' := again_walkS a l ca b xs cb d ks cd w h hx hk hL
end Go.Proofs.YtjjfmepinpmkfaaGreatDoor
