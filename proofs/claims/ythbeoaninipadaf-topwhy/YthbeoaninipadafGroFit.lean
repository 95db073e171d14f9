/-
  What grow.Fit answers, for all samples and all numbers.
-/
import Derived.Test.YthbeoaninipadafGroLay
import Derived.BigQuiet
import Derived.Deep.QuietTactic
namespace Go.Proofs.Ythbeoaninipadaf
open Go.ChangeShapes Go.WideShapes Go.ChangeAt Go.RowKit Go.Lib
set_option linter.unusedVariables false

theorem isleast_any (n : Int) (w : World) :
    Calls Try.prog 21 #[.int .i64 n] w fun e w' => e = .returned (.bool (decide (1 ≤ n ∧ n ≤ 60))) ∧ w' = w := by
  by_cases h1 : 1 ≤ n
  · have E : Hid (decide (n ≤ 60) = decide (1 ≤ n ∧ n ≤ 60)) := by unfold Hid; rw [Bool.eq_iff_iff, decide_eq_true_eq, decide_eq_true_eq]; omega
    have q : decide (1 ≤ n) = true := decide_eq_true h1
    clear h1
    go_enter Try.func21, Try.ntmps21
    go_wp2
    go_ret
    exact ⟨ret_bool E.out, rfl⟩
  · have E : Hid (false = decide (1 ≤ n ∧ n ≤ 60)) := by unfold Hid; rw [decide_eq_false (by omega)]
    have q : decide (1 ≤ n) = false := decide_eq_false h1
    clear h1
    go_enter Try.func21, Try.ntmps21
    go_wp2
    go_ret
    exact ⟨ret_bool E.out, rfl⟩

theorem M.grwF_sam {l : List M.Sa} {m depth least : Int} (h : (M.samF l m).2 ≠ 0) : M.grwF l m depth least = (M.samF l m).2 := by unfold M.grwF; rw [if_pos h]
theorem M.grwF_num {l : List M.Sa} {m depth least : Int} (h : (M.samF l m).2 = 0) (h2 : depth < 0 ∨ 5 < depth ∨ least < 1 ∨ 60 < least) : M.grwF l m depth least = 1 := by unfold M.grwF; rw [if_neg (by simp [h]), if_pos h2]
theorem M.grwF_ok {l : List M.Sa} {m depth least : Int} (h : (M.samF l m).2 = 0) (h2 : ¬ (depth < 0 ∨ 5 < depth ∨ least < 1 ∨ 60 < least)) : M.grwF l m depth least = 0 := by unfold M.grwF; rw [if_neg (by simp [h]), if_neg h2]
theorem M.grwT_no {l : List M.Sa} {m depth least : Int} (h : M.grwF l m depth least ≠ 0) : M.grwT l m depth least = [] := by unfold M.grwT; rw [if_neg h]
theorem nil_rdN (w : World) : RdN w none [] := by
  refine ⟨Nat.zero_le _, fun h => absurd rfl h⟩

set_option maxHeartbeats 8000000 in
set_option maxRecDepth 10000 in
theorem grofit_any : GroFitGives := by
  intro a xs ca m depth least w h
  have CK := hide (grochk_any a xs ca m w h)
  by_cases h1 : (M.samF (sms xs) m).2 = 0
  · obtain ⟨G, hl, hm, hz⟩ := M.sam_ok h1
    rw [h1, err_nil rfl] at CK
    by_cases h2 : depth < 0 ∨ 5 < depth ∨ least < 1 ∨ 60 < least
    · have EF : Hid (M.grwF (sms xs) m depth least = 1) := M.grwF_num h1 h2
      have ET : Hid (M.grwT (sms xs) m depth least = []) := M.grwT_no (by rw [EF.out]; decide)
      rw [ET.out, EF.out, err_some (by decide)]
      by_cases h3 : depth < 0
      · have q1 : decide (depth < 0) = true := decide_eq_true h3
        clear h h1 h2 h3 EF ET G hl hm hz
        generalize xs.length = n at *
        go_enter Try.func6, Try.ntmps6
        go_wp2_with (go_at_call 13; refine CK.out.mono ?_; rintro e w1 ⟨rfl, hb1⟩; have K1 := hide hb1; clear hb1)
        go_ret2
        exact ⟨none, 0, rfl, nil_rdN _, K1.out⟩
      · have q1 : decide (depth < 0) = false := decide_eq_false h3
        by_cases h4 : 5 < depth
        · have q2 : decide (5 < depth) = true := decide_eq_true h4
          clear h h1 h2 h3 h4 EF ET G hl hm hz
          generalize xs.length = n at *
          go_enter Try.func6, Try.ntmps6
          go_wp2_with (go_at_call 13; refine CK.out.mono ?_; rintro e w1 ⟨rfl, hb1⟩; have K1 := hide hb1; clear hb1)
          go_ret2
          exact ⟨none, 0, rfl, nil_rdN _, K1.out⟩
        · have q2 : decide (5 < depth) = false := decide_eq_false h4
          have LS := hide (isleast_any least)
          rw [decide_eq_false (by omega)] at LS
          clear h h1 h2 h3 h4 EF ET G hl hm hz
          generalize xs.length = n at *
          go_enter Try.func6, Try.ntmps6
          go_wp2_with (first
            | (go_at_call 13; refine CK.out.mono ?_; rintro e w1 ⟨rfl, hb1⟩; have K1 := hide hb1; clear hb1)
            | (go_at_call 21; refine (LS.out _).mono ?_; rintro e w2 ⟨rfl, e2⟩; have e2' := e2.symm; subst e2'))
          go_ret2
          exact ⟨none, 0, rfl, nil_rdN _, K1.out⟩
    · have EF : Hid (M.grwF (sms xs) m depth least = 0) := M.grwF_ok h1 h2
      obtain ⟨mn, rfl⟩ : ∃ mn : Nat, m = (mn : Int) := ⟨m.toNat, hm.symm⟩
      obtain ⟨dn, rfl⟩ : ∃ dn : Nat, depth = (dn : Int) := ⟨depth.toNat, by omega⟩
      rw [Int.toNat_natCast] at G
      have ET : M.grwT (sms xs) (mn : Int) (dn : Int) least = M.lay (M.growT mn least dn (sms xs)) 0 := by
        unfold M.grwT; rw [if_pos EF.out, Int.toNat_natCast, Int.toNat_natCast]
      have g2 := (M.grow_deep mn least dn (sms xs)).2
      have p : 2 ^ (dn + 1) ≤ 2 ^ 6 := Nat.pow_le_pow_right (by decide) (by omega)
      have lp : 0 < xs.length := by rw [← sms_len]; exact hl
      have LB : Hid (∀ W, Below w.heap.size w W → Calls Try.prog 22 #[.slice none 0 0, .slice a xs.length ca, .int .i64 (mn : Nat), .int .i64 (dn : Nat), .int .i64 least] W fun e w' => ∃ g c, e = .returned (.slice (some ⟨g, 0, none⟩) (M.growT mn least dn (sms xs)).size c) ∧ w'.ownsRow W.heap.size 32 6 (.slice (some ⟨g, 0, none⟩) (M.growT mn least dn (sms xs)).size c) (M.growT mn least dn (sms xs)).size (ndCells (M.lay (M.growT mn least dn (sms xs)) 0)) ∧ Below W.heap.size W w') := fun W hW => by
        have := glay_any mn least (by omega) G.m8 W.heap.size dn xs a ca [] none 0 W (by omega) (h.below hW) G lp ⟨fun p hp e => (by cases e), fun x hx p hp e => (by cases e)⟩ (World.ownsRow_nil _ _ _ _) (Nat.le_refl _) (by show 0 + _ ≤ 1000; omega)
        refine this.mono ?_
        rintro e w' ⟨g, c, rfl, ho, hg, _⟩
        rw [show ([] : List M.Nd).length + (M.growT mn least dn (sms xs)).size = (M.growT mn least dn (sms xs)).size by simp, List.nil_append] at ho
        refine ⟨g, c, by simp, ho, ?_⟩
        exact ⟨hg.os, hg.tape, hg.output, hg.size, fun q hq => hg.block q hq (by simp [Value.ownBlock])⟩
      have LL : (M.lay (M.growT mn least dn (sms xs)) 0).length = (M.growT mn least dn (sms xs)).size := M.lay_len _ 0
      rw [ET, EF.out, err_nil rfl]
      have q1 : decide ((dn : Int) < 0) = false := decide_eq_false (by omega)
      have q2 : decide (5 < (dn : Int)) = false := decide_eq_false (by omega)
      have LS := hide (isleast_any least)
      rw [decide_eq_true (by omega)] at LS
      have HLL := hide LL
      have sz : (M.growT mn least dn (sms xs)).size ≤ 63 := by omega
      rw [LL]
      clear h h1 h2 EF ET G hl hm hz LL g2 p
      generalize M.growT mn least dn (sms xs) = T at *
      generalize hLT : M.lay T 0 = L at *
      generalize T.size = ts at *
      clear hLT
      go_enter Try.func6, Try.ntmps6
      go_wp2_with (first
        | (go_at_call 13; refine CK.out.mono ?_; rintro e w1 ⟨rfl, hb1⟩; have K1 := hide hb1; clear hb1)
        | (go_at_call 21; refine (LS.out _).mono ?_; rintro e w2 ⟨rfl, e2⟩; have e2' := e2.symm; subst e2')
        | (go_at_call 22; refine (LB.out _ K1.out).mono ?_; rintro e w3 ⟨g, c, rfl, ho, hb3⟩; have HO := hide ho; have K3 := hide (below_on K1.out hb3); clear ho hb3))
      go_ret2
      obtain ⟨pa, pc, e, hr, _⟩ := own_rdN HLL.out (by unfold maxLen; omega) HO.out
      rw [Value.slice.injEq] at e
      exact ⟨_, _, rfl, by rw [e.1]; exact hr, K3.out⟩
  · have EF : Hid (M.grwF (sms xs) m depth least = (M.samF (sms xs) m).2) := M.grwF_sam h1
    have ET : Hid (M.grwT (sms xs) m depth least = []) := M.grwT_no (by rw [EF.out]; exact h1)
    rw [ET.out, EF.out, err_some h1]
    rw [err_some h1] at CK
    clear h h1 EF ET
    generalize (M.samF (sms xs) m).2 = er at *
    generalize (M.samF (sms xs) m).1 = ep at *
    generalize xs.length = n at *
    go_enter Try.func6, Try.ntmps6
    go_wp2_with (go_at_call 13; refine CK.out.mono ?_; rintro e w1 ⟨rfl, hb1⟩; have K1 := hide hb1; clear hb1)
    go_ret2
    exact ⟨none, 0, rfl, nil_rdN _, K1.out⟩

end Go.Proofs.Ythbeoaninipadaf
