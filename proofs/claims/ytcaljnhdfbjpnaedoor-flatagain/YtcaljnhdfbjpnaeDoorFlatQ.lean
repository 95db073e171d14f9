/-
  How many nodes a right grove has at most; no condition beyond those named.
-/
import Derived.Test.YtcaljnhdfbjpnaeDoorFlatO
namespace Go.Proofs.YtcaljnhdfbjpnaeDoor
open Go.ChangeShapes Go.WideShapes Go.ChangeAt Go.RowKit Go.Lib
set_option linter.unusedVariables false

theorem M.tree_in {g : M.Gv} (K : M.Good g) {k : Nat} (hk : k < (M.gt g).length) : (M.treeF ((M.gt g).getD k []) (M.gf g)).2 = 0 := by
  rw [M.getD_at hk]; exact K.trees _ (List.getElem_mem hk)
theorem M.allN_le {g : M.Gv} (K : M.Good g) : (M.allN g).length ≤ 1000 := by
  have t12 := K.t12
  have := M.laidK_bound (T := M.gt g) (fun i hi => (M.tree_ok (M.tree_in K hi)).1.1) (M.gt g).length (Nat.le_refl _)
  unfold M.allN
  omega


end Go.Proofs.YtcaljnhdfbjpnaeDoor
