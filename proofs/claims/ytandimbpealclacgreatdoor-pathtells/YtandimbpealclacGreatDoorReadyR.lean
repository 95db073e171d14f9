/-
  What the reference's Ready answers, for every list of nodes and every row.
-/
import Derived.Test.YtandimbpealclacGreatDoorRefTree
namespace Go.Proofs.YtandimbpealclacGreatDoor
open Go.ChangeShapes Go.WideShapes Go.ChangeAt Go.RowKit
set_option linter.unusedVariables false

theorem ready_any (a0 b0 : Option Addr) (ts : List M.Nd) (xs : List Int) (ca cb : Nat) (w : World) (ht : RdN w a0 ts) (hr : Rd w b0 xs) :
    Calls Tryz.prog 4 #[.slice a0 ts.length ca, .slice b0 xs.length cb] w fun e w' => e = .returned (.int .i64 (M.readyF ts xs)) ∧ Below w.heap.size w w' := by
  have hm : ts.length ≤ 9223372036854775807 := ht.1
  have hm2 : xs.length ≤ 9223372036854775807 := hr.1
  have R := hide (rrow_any b0 xs cb w hr)
  have T := hide (rtree_any a0 ts ca (xs.length : Int) w ht)
  by_cases h : M.rowF xs = 0
  · have E := hide (M.ready_tree (t := ts) h)
    have q : (M.rowF xs != 0) = false := by rw [bne_eq_false_iff_eq]; exact h
    clear h ht hr
    generalize M.readyF ts xs = o at *
    generalize M.rowF xs = rf at *
    generalize (M.treeF ts (xs.length : Int)).1 = tp at *
    generalize (M.treeF ts (xs.length : Int)).2 = tf at *
    go_enter Tryz.func4, Tryz.ntmps4
    go_wp2_with (first
      | (go_at_call 20; refine R.out.mono ?_; rintro e w1 ⟨rfl, rfl⟩)
      | (go_at_call 11; refine T.out.mono ?_; rintro e w2 ⟨rfl, hb2⟩))
    go_ret
    exact ⟨ret_int E.out.symm, hb2⟩
  · have E := hide (M.ready_row (t := ts) h)
    have q : (M.rowF xs != 0) = true := by rw [bne_iff_ne]; exact h
    clear h ht hr T
    generalize M.readyF ts xs = o at *
    generalize M.rowF xs = rf at *
    go_enter Tryz.func4, Tryz.ntmps4
    go_wp2_with (go_at_call 20; refine R.out.mono ?_; rintro e w1 ⟨rfl, rfl⟩)
    go_ret
    exact ⟨ret_int E.out.symm, Below.refl _ _⟩

end Go.Proofs.YtandimbpealclacGreatDoor
