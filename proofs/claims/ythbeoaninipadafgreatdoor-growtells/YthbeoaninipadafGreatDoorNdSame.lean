/-
  What orchsame.Nodes answers of two that read the same.
-/
import Derived.Test.YthbeoaninipadafGreatDoorNodes
import Derived.Deep.Cut
import Derived.Deep.CutRange
import Derived.Deep.RegionWith
import Derived.RegionTactic
namespace Go.Proofs.YthbeoaninipadafGreatDoor
open Go.ChangeShapes Go.WideShapes Go.ChangeAt Go.RowKit Go.Lib
set_option linter.unusedVariables false

set_option maxHeartbeats 8000000 in
set_option maxRecDepth 10000 in
theorem nodesame_any (a b : Option Addr) (ts : List M.Nd) (ca cb : Nat) (w : World) (ha : RdN w a ts) (hb : RdN w b ts) :
    Calls Tryz.prog 11 #[.slice a ts.length ca, .slice b ts.length cb] w fun e w' => e = .returned (.bool true) ∧ Below w.heap.size w w' := by
  have hm : ts.length ≤ 9223372036854775807 := ha.1
  have HA := hide ha
  have HB := hide hb
  clear ha hb
  go_enter Tryz.func11, Tryz.ntmps11
  go_wp2
  go_loopw [5] (fun i wr => ∃ k : Nat, k ≤ ts.length ∧ i = .int .i64 k ∧ Hid (Below w.heap.size w wr)) (fun i _ => ts.length - (intOf i).toNat)
  case atStart => exact ⟨0, Nat.zero_le _, rfl, Below.refl _ _⟩
  case round =>
    obtain ⟨k, hk, rfl, K⟩ := hrel
    by_cases hlt : k < ts.length
    · have kz : (k : Int) < (ts.length : Int) := by omega
      obtain ⟨b1, o1, rfl, h1, hc1⟩ := (HA.out.below K.out).2 (by intro e; subst e; simp at hlt)
      obtain ⟨b2, o2, rfl, h2, hc2⟩ := (HB.out.below K.out).2 (by intro e; subst e; simp at hlt)
      obtain ⟨s0, s1, s2, s3, s4, s5⟩ := hc1 k hlt
      obtain ⟨u0, u1, u2, u3, u4, u5⟩ := hc2 k hlt
      clear hc1 hc2 HA HB
      generalize M.nf (M.nAt ts k) = f at *
      generalize M.nc (M.nAt ts k) = c at *
      generalize M.nl (M.nAt ts k) = l at *
      generalize M.nr (M.nAt ts k) = r at *
      generalize M.ns (M.nAt ts k) = sl at *
      generalize M.nv (M.nAt ts k) = v at *
      go_upto_region 6 with fail
      go_cut [25] from 17 to 24 (fun t wx => t = .bool false ∧ Hid (Below wr.heap.size wr wx))
      case first =>
        go_region
        all_goals go_wp2
        all_goals go_meet
        all_goals (case rel => exact ⟨by simp, (Below.refl wr.heap.size wr).drew⟩)
      case rest =>
        obtain ⟨rfl, K6⟩ := hcut
        have K7 := hide (below_on K.out K6.out)
        go_wp2
        go_roundw
        case rel => exact ⟨k + 1, by omega, by go_num, K7⟩
        case measure => simp [intOf]; omega
    · go_wp2
      go_ret
      exact ⟨rfl, K.out⟩

end Go.Proofs.YthbeoaninipadafGreatDoor
