/-
  FlatTells returns true for every grove and all rows; the variable of package errors lies as that package lays it.
-/
import Derived.Test.YtandimbpealcladDoorFlatWalk
namespace Go.Proofs.YtandimbpealcladDoor
open Go.ChangeShapes Go.WideShapes Go.ChangeAt Go.RowKit Go.Lib
set_option linter.unusedVariables false

theorem ftells_all (G : Gr) (b : Option Addr) (ks : List Kc) (cb : Nat) (w : World) (hg : RdG w G) (hr : RdK w b ks) (hl : Lays w) :
    Calls Tryd.prog 3 #[G.v, .slice b ks.length cb] w fun e w' => e = .returned (.bool true) ∧ Below w.heap.size w w' := by
  by_cases he : M.groveF G.m = 0
  · exact flat_good (fun a0 ts cap m W h F => rlevels_any a0 ts cap m W h F) G b ks cb w hg hr hl he
  · exact flat_bad G b ks cb w hg hl he

end Go.Proofs.YtandimbpealcladDoor
