/-
  What the walks of the groves' laws take of grove.Join.
-/
import Derived.Test.YtandimbpealclacDoorGroveP
namespace Go.Proofs.YtandimbpealclacDoor
open Go.ChangeShapes Go.WideShapes Go.ChangeAt Go.RowKit Go.Lib
set_option linter.unusedVariables false

/-- what grove.Join answers -/
def JoinGives : Prop := ∀ (G O : Gr) (W : World), RdG W G → RdG W O → Calls Tryd.prog 21 #[G.v, O.v] W fun e w' => ∃ J : Gr, e = .returned (.tuple #[J.v, errV (M.joinF G.m O.m)]) ∧ J.m = M.joinV G.m O.m ∧ RdG w' J ∧ Below W.heap.size W w'

end Go.Proofs.YtandimbpealclacDoor
