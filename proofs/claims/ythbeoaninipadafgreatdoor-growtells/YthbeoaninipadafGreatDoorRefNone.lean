/-
  What the reference's none and Row answer, for every number and every row.
-/
import Derived.Test.YthbeoaninipadafGreatDoorRefCell
import Derived.BigQuiet
import Derived.Deep.QuietTactic
namespace Go.Proofs.YthbeoaninipadafGreatDoor
open Go.ChangeShapes Go.WideShapes Go.ChangeAt Go.RowKit
set_option linter.unusedVariables false

theorem none_any (x : Int) (w : World) : Calls Tryz.prog 29 #[.int .i64 x] w fun e w' => e = .returned (.bool (decide (x = M.nilI))) ∧ w' = w := by
  have E : Hid ((x == -1125899906842624) = decide (x = M.nilI)) := by
    unfold Hid
    by_cases h : x = M.nilI
    · rw [decide_eq_true h, beq_iff_eq]; exact h
    · rw [decide_eq_false h, beq_eq_false_iff_ne]; exact h
  go_enter Tryz.func29, Tryz.ntmps29
  go_wp2
  go_ret
  exact ⟨ret_bool E.out, rfl⟩

theorem row_hit {xs : List Int} {k : Nat} (h : k < xs.length) (hl : xs.length ≤ 8) (hb : M.badCell xs[k] = true) : M.rowF xs = 1 := by
  unfold M.rowF
  rw [if_neg (by omega), if_pos]
  rw [List.any_eq_true]; exact ⟨_, List.getElem_mem h, hb⟩
theorem row_miss {xs : List Int} {k : Nat} (hk : xs.length ≤ k) (hl : xs.length ≤ 8) (h : (xs.take k).any M.badCell = false) : M.rowF xs = 0 := by
  unfold M.rowF
  rw [List.take_of_length_le hk] at h
  rw [if_neg (by omega), h]; rfl
theorem row_next {xs : List Int} {k : Nat} (hk : k < xs.length) (h : (xs.take k).any M.badCell = false) (hb : M.badCell xs[k] = false) : (xs.take (k + 1)).any M.badCell = false := by
  rw [List.take_succ_eq_append_getElem hk, List.any_append, h]; simp [hb]

set_option maxHeartbeats 1000000 in
theorem rrow_any (a : Option Addr) (xs : List Int) (cap : Nat) (w : World) (h : Rd w a xs) :
    Calls Tryz.prog 15 #[.slice a xs.length cap] w fun e w' => e = .returned (.int .i64 (M.rowF xs)) ∧ w' = w := by
  obtain ⟨hm, hr⟩ := h
  unfold maxLen at hm
  by_cases h8 : 8 < xs.length
  · have E : Hid (4 = M.rowF xs) := by unfold Hid M.rowF; rw [if_pos h8]
    have hd : decide ((8 : Int) < (xs.length : Int)) = true := decide_eq_true (by omega)
    clear hr
    go_enter Tryz.func15, Tryz.ntmps15
    go_wp2
    go_ret
    exact ⟨ret_int E.out, rfl⟩
  · have hd : decide ((8 : Int) < (xs.length : Int)) = false := decide_eq_false (by omega)
    have RH : Hid (∀ k (h : k < xs.length), M.badCell xs[k] = true → M.rowF xs = 1) := fun k h hb => row_hit h (by omega) hb
    have RM : Hid (∀ k, xs.length ≤ k → (xs.take k).any M.badCell = false → M.rowF xs = 0) := fun k hk h => row_miss hk (by omega) h
    have HR := hide hr
    clear hr
    generalize M.rowF xs = f at *
    go_enter Tryz.func15, Tryz.ntmps15
    go_wp2
    go_loop [3] (fun i => ∃ k : Nat, k ≤ xs.length ∧ i = .int .i64 k ∧ Hid ((xs.take k).any M.badCell = false)) (fun i => xs.length - (intOf i).toNat)
    case atStart => exact ⟨0, Nat.zero_le _, rfl, by unfold Hid; simp⟩
    case round =>
      obtain ⟨k, hk, rfl, I⟩ := hrel
      by_cases hlt : k < xs.length
      · obtain ⟨b, off, rfl, hb, hc⟩ := HR.out (by intro e; subst e; simp at hlt)
        have hck := Rd.at hc k hlt
        have C1 := hide (rcell_any xs[k])
        have C2 := hide (none_any xs[k])
        have NX : Hid (M.badCell xs[k] = false → (xs.take (k + 1)).any M.badCell = false) := fun h => row_next hlt I.out h
        have HT : Hid (M.badCell xs[k] = true → f = 1) := RH.out k hlt
        have BE : Hid (M.badCell xs[k] = (!decide (xs[k] = M.nilI) && M.outI xs[k])) := rfl
        clear hc I
        generalize M.badCell xs[k] = bc at *
        generalize M.outI xs[k] = o at *
        generalize decide (xs[k] = M.nilI) = z at *
        generalize xs[k] = y at *
        cases o with
        | true =>
          cases z with
          | true =>
            have N2 := hide (NX.out BE.out)
            clear NX HT BE
            go_wp2_with (first
              | (go_at_call 28; refine (C1.out _).mono ?_; rintro e w' ⟨rfl, rfl⟩)
              | (go_at_call 29; refine (C2.out _).mono ?_; rintro e w' ⟨rfl, rfl⟩))
            go_round
            case rel => exact ⟨k + 1, by omega, by go_num, N2⟩
            case measure => simp [intOf]; omega
          | false =>
            have E := hide (HT.out BE.out)
            clear NX HT BE
            go_wp2_with (first
              | (go_at_call 28; refine (C1.out _).mono ?_; rintro e w' ⟨rfl, rfl⟩)
              | (go_at_call 29; refine (C2.out _).mono ?_; rintro e w' ⟨rfl, rfl⟩))
            go_ret
            exact ⟨ret_int E.out.symm, rfl⟩
        | false =>
          have N2 := hide (NX.out (by rw [BE.out]; simp))
          clear NX HT BE
          go_wp2_with (first
            | (go_at_call 28; refine (C1.out _).mono ?_; rintro e w' ⟨rfl, rfl⟩)
            | (go_at_call 29; refine (C2.out _).mono ?_; rintro e w' ⟨rfl, rfl⟩))
          go_round
          case rel => exact ⟨k + 1, by omega, by go_num, N2⟩
          case measure => simp [intOf]; omega
      · have E := hide (RM.out k (by omega) I.out)
        go_wp2
        go_ret
        exact ⟨ret_int E.out.symm, rfl⟩

end Go.Proofs.YthbeoaninipadafGreatDoor
