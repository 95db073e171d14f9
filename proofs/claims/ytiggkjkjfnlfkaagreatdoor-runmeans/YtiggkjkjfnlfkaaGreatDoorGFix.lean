/-
  What package fixed's fit, size, Add, Mul and Total answer of numbers that are far from the end.
-/
import Derived.Test.YtiggkjkjfnlfkaaGreatDoorBase
import Derived.Test.YtiggkjkjfnlfkaaGreatDoorMathJ
namespace Go.Proofs.YtiggkjkjfnlfkaaGreatDoor
open Go.ChangeShapes Go.WideShapes Go.ChangeAt Go.RowKit Go.Lib
set_option linter.unusedVariables false

theorem fit_in (n : Int) (w : World) (h1 : -1099511627776 ≤ n) (h2 : n ≤ 1099511627776) :
    Calls Tryz.prog 78 #[.int .i64 n] w fun e w' => e = .returned (.int .i64 n) ∧ w' = w := by
  go_enter Tryz.func78, Tryz.ntmps78
  go_wp2
  go_ret
  exact ⟨rfl, rfl⟩

theorem size_pos (n : Int) (w : World) (h1 : 0 ≤ n) (h2 : n ≤ 1099511627776) :
    Calls Tryz.prog 293 #[.int .i64 n] w fun e w' => e = .returned (.int .i64 n) ∧ w' = w := by
  go_enter Tryz.func293, Tryz.ntmps293
  go_wp2
  go_ret
  exact ⟨rfl, rfl⟩

theorem size_neg (n X : Int) (w : World) (E : Hid (-n = X)) (h1 : -1099511627776 ≤ n) (h2 : n < 0) :
    Calls Tryz.prog 293 #[.int .i64 n] w fun e w' => e = .returned (.int .i64 X) ∧ w' = w := by
  go_enter Tryz.func293, Tryz.ntmps293
  go_wp2
  go_ret
  exact ⟨ret_int E.out, rfl⟩

theorem add_in (a b : Int) (w : World) (a1 : -549755813888 ≤ a) (a2 : a ≤ 549755813888) (b1 : -549755813888 ≤ b) (b2 : b ≤ 549755813888) :
    Calls Tryz.prog 278 #[.int .i64 a, .int .i64 b] w fun e w' => e = .returned (.int .i64 (a + b)) ∧ w' = w := by
  go_enter Tryz.func278, Tryz.ntmps278
  go_wp2_with (go_at_call 78; refine (fit_in _ _ (by omega) (by omega)).mono ?_; rintro e w' ⟨rfl, rfl⟩)
  go_ret
  exact ⟨rfl, rfl⟩

theorem M.mul_far {a b : Int} (a1 : -1000000 ≤ a) (a2 : a ≤ 1000000) (b1 : 1 ≤ b) (b2 : b ≤ 1000) : -1000000000 ≤ a * b ∧ a * b ≤ 1000000000 := by
  have h1 : a * b ≤ 1000000 * b := Int.mul_le_mul_of_nonneg_right a2 (by omega)
  have h2 : -1000000 * b ≤ a * b := Int.mul_le_mul_of_nonneg_right a1 (by omega)
  omega
theorem M.quo_far {x b : Int} (x1 : 0 < x) (x2 : x ≤ 1000000) (b1 : 1 ≤ b) (b2 : b ≤ 1000) : b ≤ 1099511627776 / x := by
  rw [Int.le_ediv_iff_mul_le x1]
  have h1 : x * b ≤ 1000000 * b := Int.mul_le_mul_of_nonneg_right x2 (by omega)
  rw [Int.mul_comm]
  omega

set_option maxHeartbeats 1000000 in
theorem mul_small (a b : Int) (w : World) (a1 : -1000000 ≤ a) (a2 : a ≤ 1000000) (b1 : 1 ≤ b) (b2 : b ≤ 1000) :
    Calls Tryz.prog 279 #[.int .i64 a, .int .i64 b] w fun e w' => e = .returned (.int .i64 (a * b)) ∧ w' = w := by
  obtain ⟨m1, m2⟩ := M.mul_far a1 a2 b1 b2
  rcases (show a = 0 ∨ 0 < a ∨ a < 0 from by omega) with h0 | h0 | h0
  · have E : Hid (0 = a * b) := by unfold Hid; rw [h0, Int.zero_mul]
    have hz : (a == 0) = true := by rw [h0]; rfl
    clear h0
    go_enter Tryz.func279, Tryz.ntmps279
    go_wp2_with (go_at_call 78; refine (fit_in _ _ (by omega) (by omega)).mono ?_; rintro e w' ⟨rfl, rfl⟩)
    go_ret
    exact ⟨rfl, rfl⟩
  · have hz : (a == 0) = false := by simp; omega
    have hq := M.quo_far h0 a2 b1 b2
    go_enter Tryz.func279, Tryz.ntmps279
    go_wp2_with (first | (go_at_call 78; refine (fit_in _ _ (by omega) (by omega)).mono ?_; rintro e w' ⟨rfl, rfl⟩) | (go_at_call 293; refine (size_pos _ _ (by omega) (by omega)).mono ?_; rintro e w' ⟨rfl, rfl⟩))
    go_ret
    exact ⟨rfl, rfl⟩
  · have hz : (a == 0) = false := by simp; omega
    obtain ⟨X, hX⟩ : ∃ X, -a = X := ⟨_, rfl⟩
    have x1 : 0 < X := by omega
    have x2 : X ≤ 1000000 := by omega
    have hq := M.quo_far x1 x2 b1 b2
    have HX := hide hX
    clear hX
    go_enter Tryz.func279, Tryz.ntmps279
    go_wp2_with (first | (go_at_call 78; refine (fit_in _ _ (by omega) (by omega)).mono ?_; rintro e w' ⟨rfl, rfl⟩) | (go_at_call 293; refine (size_pos _ _ (by omega) (by omega)).mono ?_; rintro e w' ⟨rfl, rfl⟩) | (go_at_call 293; refine (size_neg _ X _ HX (by omega) (by omega)).mono ?_; rintro e w' ⟨rfl, rfl⟩))
    go_ret
    exact ⟨rfl, rfl⟩

set_option maxHeartbeats 1000000 in
theorem total_in (a : Option Addr) (ws : List Int) (ca : Nat) (w : World) (h : Rd w a ws) (h0 : 0 < ws.length) (n12 : ws.length ≤ 12) (hx : ∀ i, i < ws.length → 1 ≤ ws.getD i 0 ∧ ws.getD i 0 ≤ 1000) :
    Calls Tryz.prog 242 #[.slice a ws.length ca] w fun e w' => e = .returned (.int .i64 (M.allK ws ws.length)) ∧ w' = w := by
  obtain ⟨ba, oa, rfl, hba, hca⟩ := h.2 (by intro e; rw [e] at h0; simp at h0)
  have HC := hide hca
  have HX := hide hx
  have SB := hide (fun k (hk : k ≤ ws.length) => M.all_pos (ws := ws) k (fun i hi => hx i (by omega)))
  clear h hca hx hba h0
  go_enter Tryz.func242, Tryz.ntmps242
  go_wp2
  go_loopw [3, 8] (fun s i wr => ∃ k : Nat, k ≤ ws.length ∧ s = .int .i64 (M.allK ws k) ∧ i = .int .i64 k ∧ wr = w) (fun _ i _ => ws.length - (intOf i).toNat)
  case atStart => exact ⟨0, Nat.zero_le _, rfl, rfl, rfl⟩
  case round =>
    obtain ⟨k, hk, rfl, rfl, ew⟩ := hrel
    subst wr
    by_cases hlt : k < ws.length
    · have c1 := HC.out k hlt
      obtain ⟨x1, x2⟩ := HX.out k hlt
      obtain ⟨s1, s2⟩ := SB.out k hk
      have SS : Hid (M.allK ws k + ws.getD k 0 = M.allK ws (k + 1)) := rfl
      have kz : (k : Int) < (ws.length : Int) := by omega
      clear HC HX SB
      generalize ws.getD k 0 = x at *
      go_wp2_with (go_at_call 278; refine (add_in _ _ _ (by omega) (by omega) (by omega) (by omega)).mono ?_; rintro e w1 ⟨rfl, e1⟩; subst w1)
      go_roundw
      case rel => exact ⟨k + 1, by omega, by rw [SS.out], by go_num, (by first | rfl | trivial)⟩
      case measure => simp [intOf]; omega
    · have ek : k = ws.length := by omega
      have EE := hide ek
      clear ek HC HX SB
      go_wp2
      go_ret
      exact ⟨ret_int (by rw [EE.out]), rfl⟩

end Go.Proofs.YtiggkjkjfnlfkaaGreatDoor
