/-
  What package path's Path answers, for every list of nodes and every row.
-/
import Derived.Test.YthbeoaninipadafPWay
import Derived.Test.YthbeoaninipadafTLeaf
namespace Go.Proofs.Ythbeoaninipadaf
open Go.ChangeShapes Go.WideShapes Go.ChangeAt Go.RowKit Go.Lib
set_option linter.unusedVariables false

theorem path_any (a b : Option Addr) (ts : List M.Nd) (xs : List Int) (ca cb : Nat) (w : World) (ht : RdN w a ts) (hr : Rd w b xs) :
    Calls Try.prog 15 #[.slice a ts.length ca, .slice b xs.length cb] w fun e w' =>
      ∃ ag cg, e = .returned (.tuple #[.slice ag (M.pathV ts xs).length cg, errV (M.readyF ts xs)]) ∧ Rd w' ag (M.pathV ts xs) ∧ Below w.heap.size w w' := by
  have L := hide (leaf_any a b ts xs ca cb w ht hr)
  by_cases h : M.readyF ts xs = 0
  · have F := (M.tree_ok (M.ready_ok h).2).1
    have WT := hide (fun W (hW : Below w.heap.size w W) => wayto_any a ts ca (M.leafV ts xs) W (ht.below hW) F.1 (M.leafV_leaf h).1)
    have EV := hide (M.path_up h)
    rw [err_nil h]
    rw [err_nil h] at L
    clear h F ht hr
    generalize M.pathV ts xs = P at *
    generalize M.wayN ts (M.leafV ts xs) = V at *
    generalize M.leafV ts xs = k at *
    go_enter Try.func15, Try.ntmps15
    go_wp2_with (first
      | (go_at_call 9; refine L.out.mono ?_; rintro e w1 ⟨rfl, hb1⟩)
      | (go_at_call 30; refine (WT.out _ hb1).mono ?_; rintro e w2 ⟨ag, cg, rfl, hcg, hnew, hrd, hb2⟩))
    go_ret2
    exact ⟨ag, cg, by rw [EV.out]; rfl, by rw [EV.out]; exact hrd, below_on hb1 hb2⟩
  · have EV : Hid (M.pathV ts xs = []) := by unfold Hid M.pathV; rw [if_neg h]
    have ES := hide (err_some h)
    rw [err_some h] at L
    clear h ht hr
    generalize M.pathV ts xs = P at *
    generalize errV (M.readyF ts xs) = er at *
    generalize M.readyF ts xs = f at *
    generalize M.leafV ts xs = k at *
    go_enter Try.func15, Try.ntmps15
    go_wp2_with (go_at_call 9; refine L.out.mono ?_; rintro e w1 ⟨rfl, hb1⟩)
    go_ret2
    exact ⟨none, 0, by rw [EV.out, ES.out]; rfl, by rw [EV.out]; exact ⟨Nat.zero_le _, fun h => absurd rfl h⟩, hb1⟩

end Go.Proofs.Ythbeoaninipadaf
