/-
  What package tree's Depth answers, for every list of nodes.
-/
import Derived.Test.YthbeoaninipadafTCheck
namespace Go.Proofs.Ythbeoaninipadaf
open Go.ChangeShapes Go.WideShapes Go.ChangeAt Go.RowKit Go.Lib
set_option linter.unusedVariables false

theorem tdepth_any (a0 : Option Addr) (ts : List M.Nd) (ca : Nat) (w : World) (ht : RdN w a0 ts) :
    Calls Try.prog 8 #[.slice a0 ts.length ca] w fun e w' => e = .returned (.tuple #[.int .i64 (M.depthV ts : Nat), errV (M.treeF ts 8).2]) ∧ Below w.heap.size w w' := by
  have hm : ts.length ≤ 9223372036854775807 := ht.1
  have T := hide (tcheck_any a0 ts ca 8 w ht)
  by_cases h2 : (M.treeF ts 8).2 = 0
  · obtain ⟨F, e2⟩ := M.tree_ok h2
    have EV : Hid (M.depthV ts = M.deepest ts ts.length) := by unfold Hid M.depthV; rw [if_pos h2, M.deepest_eq F]
    have D := hide (fun W (hW : Below w.heap.size w W) => depth_any a0 ts ca 8 W (ht.below hW) F.1 F.2.2.2.2.1)
    rw [err_nil h2]
    rw [e2, err_nil rfl] at T
    clear h2 F e2 ht
    generalize M.depthV ts = o at *
    generalize M.deepest ts ts.length = d at *
    go_enter Try.func8, Try.ntmps8
    go_wp2_with (first
      | (go_at_call 7; refine T.out.mono ?_; rintro e w1 ⟨rfl, hb1⟩)
      | (go_at_call 25; refine (D.out _ hb1).mono ?_; rintro e w2 ⟨rfl, hb2⟩))
    go_ret2
    exact ⟨by rw [EV.out]; rfl, below_on hb1 hb2⟩
  · have EV : Hid (M.depthV ts = 0) := by unfold Hid M.depthV; rw [if_neg h2]
    have ES := hide (err_some h2)
    rw [err_some h2] at T
    clear h2 ht
    generalize M.depthV ts = o at *
    generalize errV (M.treeF ts 8).2 = er at *
    generalize (M.treeF ts 8).2 = tf at *
    generalize (M.treeF ts 8).1 = tp at *
    go_enter Try.func8, Try.ntmps8
    go_wp2_with (go_at_call 7; refine T.out.mono ?_; rintro e w1 ⟨rfl, hb1⟩)
    go_ret2
    exact ⟨by rw [EV.out, ES.out]; rfl, hb1⟩

end Go.Proofs.Ythbeoaninipadaf
