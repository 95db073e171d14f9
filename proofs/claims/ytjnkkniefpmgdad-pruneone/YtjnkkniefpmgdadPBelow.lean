/-
  What the law's own 'below' answers.
-/
import Derived.Test.YtjnkkniefpmgdadRefUp
import Derived.Test.YtjnkkniefpmgdadMathO
namespace Go.Proofs.Ytjnkkniefpmgdad
open Go.ChangeShapes Go.WideShapes Go.ChangeAt Go.RowKit
set_option linter.unusedVariables false

theorem M.upI_some {t : List M.Nd} {k u : Nat} (h : M.abv t k = some u) : M.upI t k = (u : Int) := by unfold M.upI; rw [h]
theorem M.upI_none {t : List M.Nd} {k : Nat} (h : M.abv t k = none) : M.upI t k = -1 := by unfold M.upI; rw [h]

set_option maxHeartbeats 2000000 in
theorem below_any (a0 : Option Addr) (ts : List M.Nd) (cap i k : Nat) (w : World) (h : RdN w a0 ts) (hk : k < ts.length) (hab : ∀ k u, k < ts.length → M.abv ts k = some u → u < k) :
    Calls Try.prog 18 #[.slice a0 ts.length cap, .int .i64 (i : Nat), .int .i64 (k : Nat)] w fun e w' => e = .returned (.bool (M.ancB ts i k k)) ∧ w' = w := by
  have UA := hide (fun j => up_any a0 ts cap j w h)
  have US : Hid (∀ k u, M.abv ts k = some u → M.upI ts k = (u : Int)) := fun k u => M.upI_some
  have UN : Hid (∀ k, M.abv ts k = none → M.upI ts k = -1) := fun k => M.upI_none
  have HA := hide hab
  have HK := hide hk
  clear h hab hk
  obtain ⟨o, ho⟩ : ∃ o, o = M.ancB ts i k k := ⟨_, rfl⟩
  have HO := hide ho.symm
  rw [← ho]
  clear ho
  go_enter Try.func18, Try.ntmps18
  go_wp2
  go_loop [2, 7] (fun v _ => ∃ j : Nat, v = .int .i64 j ∧ Hid (j < ts.length) ∧ Hid (∃ f, j ≤ f ∧ M.ancB ts i f j = o)) (fun v _ => (intOf v).toNat)
  case atStart => exact ⟨k, rfl, HK, ⟨k, Nat.le_refl _, HO.out⟩⟩
  case round =>
    obtain ⟨j, rfl, JL, I⟩ := hrel
    by_cases hlt : i < j
    · have q : (i : Int) < (j : Int) := by omega
      have P := hide (UA.out j)
      cases hu : M.abv ts j with
      | none =>
        have e := UN.out j hu
        rw [e] at P
        have E : Hid (o = false) := by
          obtain ⟨f, hf, hf2⟩ := I.out
          obtain ⟨g, rfl⟩ : ∃ g, f = g + 1 := ⟨f - 1, by omega⟩
          unfold M.ancB at hf2
          rw [if_neg (by omega), hu] at hf2
          exact hf2.symm
        clear UA US UN HA HO hu e I
        go_wp2_with (go_at_call 39; refine P.out.mono ?_; rintro r w1 ⟨rfl, e1⟩; subst w1)
        go_ret
        exact ⟨ret_bool E.out.symm, rfl⟩
      | some u =>
        have e := US.out j u hu
        have ul := HA.out j u JL.out hu
        have UL : Hid (u < ts.length) := Nat.lt_trans ul JL.out
        rw [e] at P
        have E : Hid (∃ f, u ≤ f ∧ M.ancB ts i f u = o) := by
          obtain ⟨f, hf, hf2⟩ := I.out
          obtain ⟨g, rfl⟩ : ∃ g, f = g + 1 := ⟨f - 1, by omega⟩
          unfold M.ancB at hf2
          rw [if_neg (by omega), hu] at hf2
          exact ⟨g, by omega, hf2⟩
        have q0 : ¬ ((u : Int) < 0) := by omega
        clear UA US UN HA HO hu e I
        go_wp2_with (go_at_call 39; refine P.out.mono ?_; rintro r w1 ⟨rfl, e1⟩; subst w1)
        go_round
        case rel => exact ⟨u, rfl, UL, E⟩
        case measure => simp [intOf]; omega
    · have q : ¬ ((i : Int) < (j : Int)) := by omega
      have E : Hid (((j : Int) == (i : Int)) = o) := by
        obtain ⟨f, hf, hf2⟩ := I.out
        have : M.ancB ts i f j = decide (j = i) := by
          cases f with
          | zero => rfl
          | succ f => unfold M.ancB; rw [if_pos (by omega)]
        rw [← hf2, this]
        unfold Hid
        by_cases e : j = i
        · subst e; simp
        · rw [beq_eq_false_iff_ne.2 (by omega)]
          simp [e]
      clear UA US UN HA HO I
      go_wp2
      go_ret
      exact ⟨ret_bool E.out, rfl⟩

end Go.Proofs.Ytjnkkniefpmgdad
