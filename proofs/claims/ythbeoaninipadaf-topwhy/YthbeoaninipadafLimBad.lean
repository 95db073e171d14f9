/-
  What limit.EachLeaf answers where something is wrong.
-/
import Derived.Test.YthbeoaninipadafLMathB
import Derived.Test.YthbeoaninipadafPWit
import Derived.Test.YthbeoaninipadafPReach
namespace Go.Proofs.Ythbeoaninipadaf
open Go.ChangeShapes Go.WideShapes Go.ChangeAt Go.RowKit Go.Lib
set_option linter.unusedVariables false

set_option maxHeartbeats 4000000 in
set_option maxRecDepth 10000 in
theorem each_bad (a bl : Option Addr) (ts : List M.Nd) (ss : List M.Sp) (ca cl : Nat) (fv : Value) (w : World) (ht : RdN w a ts) (hs : RdS w bl ss) (h : M.limF ts ss ≠ 0) :
    Calls Try.prog 33 #[.slice a ts.length ca, .slice bl ss.length cl, fv] w fun e w' => e = .returned (.iface 58 (.int .i64 (M.limF ts ss))) ∧ Below w.heap.size w w' := by
  have WI := hide (witness_any bl ss cl w hs)
  have RE := hide (fun W (hW : Below w.heap.size w W) => reach_any a ts ca (ss.length : Int) W (ht.below hW))
  have hm : ss.length ≤ 9223372036854775807 := hs.1
  by_cases h1 : M.spF ss = 0
  · have h2 : (M.treeF ts (ss.length : Int)).2 ≠ 0 := fun e => h (M.lim_of h1 e)
    have E : Hid (M.limF ts ss = (M.treeF ts (ss.length : Int)).2) := by unfold Hid M.limF; rw [if_neg (by simp [h1])]
    rw [err_nil h1] at WI
    rw [err_some h2] at RE
    rw [E.out]
    clear h h1 h2 ht hs E
    generalize (M.treeF ts (ss.length : Int)).2 = tf at *
    generalize M.rchV ts (ss.length : Int) = RV at *
    generalize M.witV ss = WV at *
    go_enter Try.func33, Try.ntmps33
    go_wp2_with (first
      | (go_at_call 56; refine WI.out.mono ?_; rintro e w1 ⟨wa, wc, rfl, _, hb1⟩; have k1 := hide hb1; clear hb1)
      | (go_at_call 57; refine (RE.out _ k1.out).mono ?_; rintro e w2 ⟨xa, xc, rfl, _, hb2⟩; have k2 := hide (below_on k1.out hb2); clear hb2))
    go_ret
    exact ⟨rfl, k2.out⟩
  · have E : Hid (M.limF ts ss = M.spF ss) := by unfold Hid M.limF; rw [if_pos h1]
    rw [err_some h1] at WI
    rw [E.out]
    clear h h1 ht hs E RE
    generalize M.spF ss = sf at *
    generalize M.witV ss = WV at *
    go_enter Try.func33, Try.ntmps33
    go_wp2_with (go_at_call 56; refine WI.out.mono ?_; rintro e w1 ⟨wa, wc, rfl, _, hb1⟩; have k1 := hide hb1; clear hb1)
    go_ret
    exact ⟨rfl, k1.out⟩

end Go.Proofs.Ythbeoaninipadaf
