/-
  What the numbers' functions of package fixed answer (fit, size, down, Add, Mul, Round), each for every argument within the bounds named.
-/
import Derived.Test.YtpjodggmbpinbaaProg
import Derived.Test.YtpjodggmbpinbaaMath
import Derived.WalkKit
import Derived.ProofKit
import Derived.OpenShut
import Derived.Below
namespace Go.Proofs.Ytpjodggmbpinbaa
open Go.ChangeShapes Go.WideShapes Go.ChangeAt Go.RowKit
set_option linter.unusedVariables false

theorem hide {p : Prop} (h : p) : Hid p := h

theorem ret_int {k : IntKind} {a b : Int} (h : a = b) : Ending.returned (.int k a) = .returned (.int k b) := by rw [h]

theorem fit_any (n : Int) (w : World) :
    Calls Try.prog 20 #[.int .i64 n] w fun e w' => e = .returned (.int .i64 (M.fitI n)) ∧ w' = w := by
  rcases (show 1099511627776 < n ∨ n < -1099511627776 ∨ (-1099511627776 ≤ n ∧ n ≤ 1099511627776) from by omega) with h | h | ⟨h1, h2⟩
  · have e : M.fitI n = 1099511627776 := by unfold M.fitI; rw [if_pos h]
    have E : Hid (1099511627776 = M.fitI n) := e.symm
    clear e
    go_enter Try.func20, Try.ntmps20
    go_wp2
    go_ret
    exact ⟨ret_int E.out, rfl⟩
  · have e : M.fitI n = -1099511627776 := by unfold M.fitI; rw [if_neg (by omega), if_pos h]
    have E : Hid (-1099511627776 = M.fitI n) := e.symm
    clear e
    go_enter Try.func20, Try.ntmps20
    go_wp2
    go_ret
    exact ⟨ret_int E.out, rfl⟩
  · have e : M.fitI n = n := M.fit_id ⟨h1, h2⟩
    have E : Hid (n = M.fitI n) := e.symm
    clear e
    go_enter Try.func20, Try.ntmps20
    go_wp2
    go_ret
    exact ⟨ret_int E.out, rfl⟩

theorem down_any (a b : Int) (w : World) (hb : 0 < b) (hb2 : b ≤ 9007199254740992) (ha : -9007199254740992 ≤ a) (ha2 : a ≤ 9007199254740992) :
    Calls Try.prog 23 #[.int .i64 a, .int .i64 b] w fun e w' => e = .returned (.int .i64 (a / b)) ∧ w' = w := by
  obtain ⟨q1, q2⟩ := M.tdiv_bd a b 9007199254740992 hb ha ha2
  have D := hide (M.down_eq a b hb)
  by_cases h : a.tmod b < 0
  · go_enter Try.func23, Try.ntmps23
    go_wp2
    go_ret
    exact ⟨ret_int (by rw [← D.out, if_pos h]), rfl⟩
  · go_enter Try.func23, Try.ntmps23
    go_wp2
    go_ret
    exact ⟨ret_int (by rw [← D.out, if_neg (by omega)]), rfl⟩

theorem size_pos (n : Int) (w : World) (h1 : 0 ≤ n) (h2 : n ≤ 1099511627776) :
    Calls Try.prog 22 #[.int .i64 n] w fun e w' => e = .returned (.int .i64 n) ∧ w' = w := by
  go_enter Try.func22, Try.ntmps22
  go_wp2
  go_ret
  exact ⟨rfl, rfl⟩

theorem size_neg (n : Int) (w : World) (h1 : -1099511627776 ≤ n) (h2 : n < 0) :
    Calls Try.prog 22 #[.int .i64 n] w fun e w' => e = .returned (.int .i64 (-n)) ∧ w' = w := by
  go_enter Try.func22, Try.ntmps22
  go_wp2
  go_ret
  exact ⟨rfl, rfl⟩

theorem size_neg_is (n X : Int) (w : World) (E : Hid (-n = X)) (h1 : -1099511627776 ≤ n) (h2 : n < 0) :
    Calls Try.prog 22 #[.int .i64 n] w fun e w' => e = .returned (.int .i64 X) ∧ w' = w :=
  (size_neg n w h1 h2).mono fun e w' h => ⟨h.1.trans (ret_int E.out), h.2⟩

theorem add_any (a b : Int) (w : World) :
    Calls Try.prog 8 #[.int .i64 a, .int .i64 b] w fun e w' => e = .returned (.int .i64 (M.addI a b)) ∧ w' = w := by
  obtain ⟨a1, a2⟩ := M.fit_le a
  obtain ⟨b1, b2⟩ := M.fit_le b
  go_enter Try.func8, Try.ntmps8
  go_wp2_with (go_at_call 20; refine (fit_any _ _).mono ?_; rintro e w' ⟨rfl, rfl⟩)
  go_ret
  exact ⟨rfl, rfl⟩

set_option maxHeartbeats 1000000 in
theorem mul_any (a b : Int) (w : World) :
    Calls Try.prog 10 #[.int .i64 a, .int .i64 b] w fun e w' => e = .returned (.int .i64 (M.mulI a b)) ∧ w' = w := by
  obtain ⟨a1, a2⟩ := M.fit_le a
  obtain ⟨b1, b2⟩ := M.fit_le b
  rcases (show M.fitI a = 0 ∨ 0 < M.fitI a ∨ M.fitI a < 0 from by omega) with h0 | h0 | h0
  · have Z := hide (M.mul_zl (b := b) h0)
    go_enter Try.func10, Try.ntmps10
    go_wp2_with (go_at_call 20; refine (fit_any _ _).mono ?_; rintro e w' ⟨rfl, rfl⟩)
    go_ret
    exact ⟨ret_int (by simpa using Z.out), rfl⟩
  · have hz : (M.fitI a == 0) = false := by simp; omega
    have hsa : decide (M.fitI a < 0) = false := by simp; omega
    by_cases hy : 0 ≤ M.fitI b
    · have hsb : decide (M.fitI b < 0) = false := by simp; omega
      have hs := M.sg_pp (x := M.fitI a) (y := M.fitI b) (by omega) (by omega)
      have Q := hide (M.quo_pp (y := M.fitI b) h0)
      by_cases ht : M.fitI b ≤ 1099511627776 / M.fitI a
      · have hm : M.fitI a * M.fitI b ≤ 1099511627776 := Q.out ▸ ht
        go_enter Try.func10, Try.ntmps10
        go_wp2_with (first | (go_at_call 20; refine (fit_any _ _).mono ?_; rintro e w' ⟨rfl, rfl⟩) | (go_at_call 22; refine (size_pos _ _ (by omega) (by omega)).mono ?_; rintro e w' ⟨rfl, rfl⟩) | (go_at_call 22; refine (size_neg _ _ (by omega) (by omega)).mono ?_; rintro e w' ⟨rfl, rfl⟩))
        go_ret
        exact ⟨ret_int (M.mul_in (by omega) (by omega)), rfl⟩
      · have hm : ¬ M.fitI a * M.fitI b ≤ 1099511627776 := Q.out ▸ ht
        have hd : decide (M.fitI b ≤ 1099511627776 / M.fitI a) = false := by simpa using ht
        go_enter Try.func10, Try.ntmps10
        go_wp2_with (first | (go_at_call 20; refine (fit_any _ _).mono ?_; rintro e w' ⟨rfl, rfl⟩) | (go_at_call 22; refine (size_pos _ _ (by omega) (by omega)).mono ?_; rintro e w' ⟨rfl, rfl⟩) | (go_at_call 22; refine (size_neg _ _ (by omega) (by omega)).mono ?_; rintro e w' ⟨rfl, rfl⟩))
        go_ret
        exact ⟨ret_int (M.mul_hi (by omega)), rfl⟩
    · have hsb : decide (M.fitI b < 0) = true := by simp; omega
      have hs := M.sg_pn (x := M.fitI a) (y := M.fitI b) (by omega) (by omega)
      have Q := hide (M.quo_pn (y := M.fitI b) h0)
      by_cases ht : -M.fitI b ≤ 1099511627776 / M.fitI a
      · have hm : -1099511627776 ≤ M.fitI a * M.fitI b := Q.out ▸ ht
        go_enter Try.func10, Try.ntmps10
        go_wp2_with (first | (go_at_call 20; refine (fit_any _ _).mono ?_; rintro e w' ⟨rfl, rfl⟩) | (go_at_call 22; refine (size_pos _ _ (by omega) (by omega)).mono ?_; rintro e w' ⟨rfl, rfl⟩) | (go_at_call 22; refine (size_neg _ _ (by omega) (by omega)).mono ?_; rintro e w' ⟨rfl, rfl⟩))
        go_ret
        exact ⟨ret_int (M.mul_in (by omega) (by omega)), rfl⟩
      · have hm : ¬ -1099511627776 ≤ M.fitI a * M.fitI b := Q.out ▸ ht
        have hd : decide (-M.fitI b ≤ 1099511627776 / M.fitI a) = false := by simpa using ht
        go_enter Try.func10, Try.ntmps10
        go_wp2_with (first | (go_at_call 20; refine (fit_any _ _).mono ?_; rintro e w' ⟨rfl, rfl⟩) | (go_at_call 22; refine (size_pos _ _ (by omega) (by omega)).mono ?_; rintro e w' ⟨rfl, rfl⟩) | (go_at_call 22; refine (size_neg _ _ (by omega) (by omega)).mono ?_; rintro e w' ⟨rfl, rfl⟩))
        go_ret
        exact ⟨ret_int (M.mul_lo (by omega)), rfl⟩
  · have hz : (M.fitI a == 0) = false := by simp; omega
    have hsa : decide (M.fitI a < 0) = true := by simp; omega
    obtain ⟨X, hX⟩ : ∃ X, -M.fitI a = X := ⟨_, rfl⟩
    have x1 : 0 < X := by omega
    have x2 : X ≤ 1099511627776 := by omega
    by_cases hy : 0 ≤ M.fitI b
    · have hsb : decide (M.fitI b < 0) = false := by simp; omega
      have hs := M.sg_np (x := M.fitI a) (y := M.fitI b) (by omega) (by omega)
      have Q := hide (M.quo_np (y := M.fitI b) h0)
      rw [hX] at Q
      have HX := hide hX
      clear hX
      by_cases ht : M.fitI b ≤ 1099511627776 / X
      · have hm : -1099511627776 ≤ M.fitI a * M.fitI b := Q.out ▸ ht
        go_enter Try.func10, Try.ntmps10
        go_wp2_with (first | (go_at_call 20; refine (fit_any _ _).mono ?_; rintro e w' ⟨rfl, rfl⟩) | (go_at_call 22; refine (size_pos _ _ (by omega) (by omega)).mono ?_; rintro e w' ⟨rfl, rfl⟩) | (go_at_call 22; refine (size_neg_is _ X _ HX (by omega) (by omega)).mono ?_; rintro e w' ⟨rfl, rfl⟩) | (go_at_call 22; refine (size_neg _ _ (by omega) (by omega)).mono ?_; rintro e w' ⟨rfl, rfl⟩))
        go_ret
        exact ⟨ret_int (M.mul_in (by omega) (by omega)), rfl⟩
      · have hm : ¬ -1099511627776 ≤ M.fitI a * M.fitI b := Q.out ▸ ht
        have hd : decide (M.fitI b ≤ 1099511627776 / X) = false := by simpa using ht
        go_enter Try.func10, Try.ntmps10
        go_wp2_with (first | (go_at_call 20; refine (fit_any _ _).mono ?_; rintro e w' ⟨rfl, rfl⟩) | (go_at_call 22; refine (size_pos _ _ (by omega) (by omega)).mono ?_; rintro e w' ⟨rfl, rfl⟩) | (go_at_call 22; refine (size_neg_is _ X _ HX (by omega) (by omega)).mono ?_; rintro e w' ⟨rfl, rfl⟩) | (go_at_call 22; refine (size_neg _ _ (by omega) (by omega)).mono ?_; rintro e w' ⟨rfl, rfl⟩))
        go_ret
        exact ⟨ret_int (M.mul_lo (by omega)), rfl⟩
    · have hsb : decide (M.fitI b < 0) = true := by simp; omega
      have hs := M.sg_nn (x := M.fitI a) (y := M.fitI b) (by omega) (by omega)
      have Q := hide (M.quo_nn (y := M.fitI b) h0)
      rw [hX] at Q
      have HX := hide hX
      clear hX
      by_cases ht : -M.fitI b ≤ 1099511627776 / X
      · have hm : M.fitI a * M.fitI b ≤ 1099511627776 := Q.out ▸ ht
        go_enter Try.func10, Try.ntmps10
        go_wp2_with (first | (go_at_call 20; refine (fit_any _ _).mono ?_; rintro e w' ⟨rfl, rfl⟩) | (go_at_call 22; refine (size_pos _ _ (by omega) (by omega)).mono ?_; rintro e w' ⟨rfl, rfl⟩) | (go_at_call 22; refine (size_neg_is _ X _ HX (by omega) (by omega)).mono ?_; rintro e w' ⟨rfl, rfl⟩) | (go_at_call 22; refine (size_neg _ _ (by omega) (by omega)).mono ?_; rintro e w' ⟨rfl, rfl⟩))
        go_ret
        exact ⟨ret_int (M.mul_in (by omega) (by omega)), rfl⟩
      · have hm : ¬ M.fitI a * M.fitI b ≤ 1099511627776 := Q.out ▸ ht
        have hd : decide (-M.fitI b ≤ 1099511627776 / X) = false := by simpa using ht
        go_enter Try.func10, Try.ntmps10
        go_wp2_with (first | (go_at_call 20; refine (fit_any _ _).mono ?_; rintro e w' ⟨rfl, rfl⟩) | (go_at_call 22; refine (size_pos _ _ (by omega) (by omega)).mono ?_; rintro e w' ⟨rfl, rfl⟩) | (go_at_call 22; refine (size_neg_is _ X _ HX (by omega) (by omega)).mono ?_; rintro e w' ⟨rfl, rfl⟩) | (go_at_call 22; refine (size_neg _ _ (by omega) (by omega)).mono ?_; rintro e w' ⟨rfl, rfl⟩))
        go_ret
        exact ⟨ret_int (M.mul_hi (by omega)), rfl⟩

theorem round_any (a b : Int) (w : World) :
    Calls Try.prog 12 #[.int .i64 a, .int .i64 b] w fun e w' => e = .returned (.int .i64 (M.roundI a b)) ∧ w' = w := by
  obtain ⟨a1, a2⟩ := M.fit_le a
  obtain ⟨b1, b2⟩ := M.fit_le b
  rcases (show M.fitI b = 0 ∨ 0 < M.fitI b ∨ M.fitI b < 0 from by omega) with h0 | h0 | h0
  · have Z : Hid (0 = M.roundI a b) := by unfold M.roundI; rw [if_pos h0]; exact rfl
    go_enter Try.func12, Try.ntmps12
    go_wp2_with (go_at_call 20; refine (fit_any _ _).mono ?_; rintro e w' ⟨rfl, rfl⟩)
    go_ret
    exact ⟨ret_int Z.out, rfl⟩
  · have Z : Hid ((2 * M.fitI a + M.fitI b) / (2 * M.fitI b) = M.roundI a b) := by unfold M.roundI; rw [if_neg (by omega), if_neg (by omega)]; exact rfl
    go_enter Try.func12, Try.ntmps12
    go_wp2_with (first | (go_at_call 20; refine (fit_any _ _).mono ?_; rintro e w' ⟨rfl, rfl⟩) | (go_at_call 23; refine (down_any _ _ _ (by omega) (by omega) (by omega) (by omega)).mono ?_; rintro e w' ⟨rfl, rfl⟩))
    go_ret
    exact ⟨ret_int Z.out, rfl⟩
  · have Z : Hid ((2 * -M.fitI a + -M.fitI b) / (2 * -M.fitI b) = M.roundI a b) := by unfold M.roundI; rw [if_neg (by omega), if_pos (by omega)]; exact rfl
    go_enter Try.func12, Try.ntmps12
    go_wp2_with (first | (go_at_call 20; refine (fit_any _ _).mono ?_; rintro e w' ⟨rfl, rfl⟩) | (go_at_call 23; refine (down_any _ _ _ (by omega) (by omega) (by omega) (by omega)).mono ?_; rintro e w' ⟨rfl, rfl⟩))
    go_ret
    exact ⟨ret_int Z.out, rfl⟩

end Go.Proofs.Ytpjodggmbpinbaa
