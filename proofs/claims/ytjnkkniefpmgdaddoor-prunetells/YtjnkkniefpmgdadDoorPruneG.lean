/-
  What the walk of PruneTells takes of prune.Grove.
-/
import Derived.Test.YtjnkkniefpmgdadDoorPruneP
import Derived.Test.YtjnkkniefpmgdadDoorGroves
namespace Go.Proofs.YtjnkkniefpmgdadDoor
open Go.ChangeShapes Go.WideShapes Go.ChangeAt Go.RowKit Go.Lib
set_option linter.unusedVariables false

/-- a grove, each of its trees pruned -/
noncomputable def M.prunG (g : M.Gv) : M.Gv := if M.groveF g = 0 then (M.gf g, M.gw g, M.gs g, (M.gt g).map fun t => M.prunV t (M.gf g)) else (0, 0, [], [])
def PruneGives : Prop := ∀ (G : Gr) (W : World), RdG W G → Calls Tryd.prog 24 #[G.v] W fun e w' => ∃ J : Gr, e = .returned (.tuple #[J.v, errV (M.groveF G.m)]) ∧ J.m = M.prunG G.m ∧ RdG w' J ∧ Below W.heap.size W w'

end Go.Proofs.YtjnkkniefpmgdadDoor
