/-
  What the numbers' functions of package orchref1 answer (Fit, Floor, Add, Mul, Round), each for every argument within the bounds named.
-/
import Derived.Test.YtpjodggmbpinbaaFix
namespace Go.Proofs.Ytpjodggmbpinbaa
open Go.ChangeShapes Go.WideShapes Go.ChangeAt Go.RowKit
set_option linter.unusedVariables false

theorem rfit_any (n : Int) (w : World) :
    Calls Try.prog 21 #[.int .i64 n] w fun e w' => e = .returned (.int .i64 (M.fitI n)) ∧ w' = w := by
  rcases (show 1099511627776 < n ∨ n < -1099511627776 ∨ (-1099511627776 ≤ n ∧ n ≤ 1099511627776) from by omega) with h | h | ⟨h1, h2⟩
  · have E : Hid (1099511627776 = M.fitI n) := by unfold M.fitI; rw [if_pos h]; exact rfl
    go_enter Try.func21, Try.ntmps21
    go_wp2
    go_ret
    exact ⟨ret_int E.out, rfl⟩
  · have E : Hid (-1099511627776 = M.fitI n) := by unfold M.fitI; rw [if_neg (by omega), if_pos h]; exact rfl
    go_enter Try.func21, Try.ntmps21
    go_wp2
    go_ret
    exact ⟨ret_int E.out, rfl⟩
  · have E : Hid (n = M.fitI n) := (M.fit_id ⟨h1, h2⟩).symm
    go_enter Try.func21, Try.ntmps21
    go_wp2
    go_ret
    exact ⟨ret_int E.out, rfl⟩

theorem floor_any (a b : Int) (w : World) (hb : 0 < b) (hb2 : b ≤ 9007199254740992) (ha : -9007199254740992 ≤ a) (ha2 : a ≤ 9007199254740992) :
    Calls Try.prog 24 #[.int .i64 a, .int .i64 b] w fun e w' => e = .returned (.int .i64 (a / b)) ∧ w' = w := by
  have D := hide (M.floor_eq a b hb)
  by_cases h : a < 0
  · obtain ⟨q1, q2⟩ := M.ediv_bd (b - 1 - a) b 18014398509481984 hb (by omega) (by omega) (by omega)
    go_enter Try.func24, Try.ntmps24
    go_wp2
    go_ret
    exact ⟨ret_int (by rw [← D.out, if_pos h]), rfl⟩
  · go_enter Try.func24, Try.ntmps24
    go_wp2
    go_ret
    exact ⟨ret_int rfl, rfl⟩

theorem floor_is (a b q : Int) (w : World) (E : Hid (a / b = q)) (hb : 0 < b) (hb2 : b ≤ 9007199254740992) (ha : -9007199254740992 ≤ a) (ha2 : a ≤ 9007199254740992) :
    Calls Try.prog 24 #[.int .i64 a, .int .i64 b] w fun e w' => e = .returned (.int .i64 q) ∧ w' = w :=
  (floor_any a b w hb hb2 ha ha2).mono fun e w' h => ⟨h.1.trans (ret_int E.out), h.2⟩

theorem radd_any (a b : Int) (w : World) :
    Calls Try.prog 9 #[.int .i64 a, .int .i64 b] w fun e w' => e = .returned (.int .i64 (M.addI a b)) ∧ w' = w := by
  obtain ⟨a1, a2⟩ := M.fit_le a
  obtain ⟨b1, b2⟩ := M.fit_le b
  go_enter Try.func9, Try.ntmps9
  go_wp2_with (go_at_call 21; refine (rfit_any _ _).mono ?_; rintro e w' ⟨rfl, rfl⟩)
  go_ret
  exact ⟨rfl, rfl⟩

theorem rround_any (a b : Int) (w : World) :
    Calls Try.prog 13 #[.int .i64 a, .int .i64 b] w fun e w' => e = .returned (.int .i64 (M.roundI a b)) ∧ w' = w := by
  obtain ⟨a1, a2⟩ := M.fit_le a
  obtain ⟨b1, b2⟩ := M.fit_le b
  rcases (show M.fitI b = 0 ∨ 0 < M.fitI b ∨ M.fitI b < 0 from by omega) with h0 | h0 | h0
  · have Z : Hid (0 = M.roundI a b) := by unfold M.roundI; rw [if_pos h0]; exact rfl
    go_enter Try.func13, Try.ntmps13
    go_wp2_with (go_at_call 21; refine (rfit_any _ _).mono ?_; rintro e w' ⟨rfl, rfl⟩)
    go_ret
    exact ⟨ret_int Z.out, rfl⟩
  · have Z : Hid (M.nearI (M.fitI a) (M.fitI b) = M.roundI a b) := by unfold M.roundI; rw [if_neg (by omega), if_neg (by omega)]; exact rfl
    have N := hide (M.near_eq (M.fitI a) (M.fitI b) h0)
    obtain ⟨d1, d2⟩ := M.ediv_bd (M.fitI a) (M.fitI b) 1099511627776 h0 (by omega) (by omega) (by omega)
    obtain ⟨m1, m2⟩ := M.left_bd (M.fitI a) (M.fitI b) h0
    by_cases ht : M.fitI b ≤ 2 * (M.fitI a - M.fitI a / M.fitI b * M.fitI b)
    · go_enter Try.func13, Try.ntmps13
      go_wp2_with (first | (go_at_call 21; refine (rfit_any _ _).mono ?_; rintro e w' ⟨rfl, rfl⟩) | (go_at_call 24; refine (floor_any _ _ _ (by omega) (by omega) (by omega) (by omega)).mono ?_; rintro e w' ⟨rfl, rfl⟩))
      go_ret
      exact ⟨ret_int (by rw [← Z.out, ← N.out, if_pos ht]), rfl⟩
    · go_enter Try.func13, Try.ntmps13
      go_wp2_with (first | (go_at_call 21; refine (rfit_any _ _).mono ?_; rintro e w' ⟨rfl, rfl⟩) | (go_at_call 24; refine (floor_any _ _ _ (by omega) (by omega) (by omega) (by omega)).mono ?_; rintro e w' ⟨rfl, rfl⟩))
      go_ret
      exact ⟨ret_int (by rw [← Z.out, ← N.out, if_neg (by omega)]), rfl⟩
  · have Z : Hid (M.nearI (-M.fitI a) (-M.fitI b) = M.roundI a b) := by unfold M.roundI; rw [if_neg (by omega), if_pos (by omega)]; exact rfl
    have N := hide (M.near_eq (-M.fitI a) (-M.fitI b) (by omega))
    obtain ⟨d1, d2⟩ := M.ediv_bd (-M.fitI a) (-M.fitI b) 1099511627776 (by omega) (by omega) (by omega) (by omega)
    obtain ⟨m1, m2⟩ := M.left_bd (-M.fitI a) (-M.fitI b) (by omega)
    obtain ⟨q, hq⟩ : ∃ q, -M.fitI a / -M.fitI b = q := ⟨_, rfl⟩
    rw [hq] at N d1 d2 m1 m2
    have HQ := hide hq
    clear hq
    by_cases ht : -M.fitI b ≤ 2 * (-M.fitI a - q * -M.fitI b)
    · go_enter Try.func13, Try.ntmps13
      go_wp2_with (first | (go_at_call 21; refine (rfit_any _ _).mono ?_; rintro e w' ⟨rfl, rfl⟩) | (go_at_call 24; refine (floor_is _ _ q _ HQ (by omega) (by omega) (by omega) (by omega)).mono ?_; rintro e w' ⟨rfl, rfl⟩))
      go_ret
      exact ⟨ret_int (by rw [← Z.out, ← N.out, if_pos ht]), rfl⟩
    · go_enter Try.func13, Try.ntmps13
      go_wp2_with (first | (go_at_call 21; refine (rfit_any _ _).mono ?_; rintro e w' ⟨rfl, rfl⟩) | (go_at_call 24; refine (floor_is _ _ q _ HQ (by omega) (by omega) (by omega) (by omega)).mono ?_; rintro e w' ⟨rfl, rfl⟩))
      go_ret
      exact ⟨ret_int (by rw [← Z.out, ← N.out, if_neg (by omega)]), rfl⟩

set_option maxHeartbeats 1000000 in
theorem rmul_any (a b : Int) (w : World) :
    Calls Try.prog 11 #[.int .i64 a, .int .i64 b] w fun e w' => e = .returned (.int .i64 (M.mulI a b)) ∧ w' = w := by
  obtain ⟨a1, a2⟩ := M.fit_le a
  obtain ⟨b1, b2⟩ := M.fit_le b
  by_cases h0 : M.fitI a = 0
  · have Z := hide (M.mul_zl (b := b) h0)
    go_enter Try.func11, Try.ntmps11
    go_wp2_with (go_at_call 21; refine (rfit_any _ _).mono ?_; rintro e w' ⟨rfl, rfl⟩)
    go_ret
    exact ⟨ret_int Z.out, rfl⟩
  have hz : (M.fitI a == 0) = false := by simp; omega
  by_cases k0 : M.fitI b = 0
  · have Z := hide (M.mul_zr (a := a) k0)
    go_enter Try.func11, Try.ntmps11
    go_wp2_with (go_at_call 21; refine (rfit_any _ _).mono ?_; rintro e w' ⟨rfl, rfl⟩)
    go_ret
    exact ⟨ret_int Z.out, rfl⟩
  have kz : (M.fitI b == 0) = false := by simp; omega
  rcases (show 0 < M.fitI a ∨ M.fitI a < 0 from by omega) with g0 | g0
  · have hsa : decide (M.fitI a < 0) = false := by simp; omega
    rcases (show 0 < M.fitI b ∨ M.fitI b < 0 from by omega) with l0 | l0
    · have hsb : decide (M.fitI b < 0) = false := by simp; omega
      have hs := M.sg_pp (x := M.fitI a) (y := M.fitI b) (by omega) (by omega)
      have Q := hide (M.quo_pp (x := M.fitI b) (y := M.fitI a) l0)
      rw [Int.mul_comm] at Q
      by_cases ht : M.fitI a ≤ 1099511627776 / M.fitI b
      · have hm : M.fitI a * M.fitI b ≤ 1099511627776 := Q.out ▸ (show M.fitI a ≤ 1099511627776 / M.fitI b from ht)
        go_enter Try.func11, Try.ntmps11
        go_wp2_with (go_at_call 21; refine (rfit_any _ _).mono ?_; rintro e w' ⟨rfl, rfl⟩)
        go_ret
        exact ⟨ret_int (M.mul_in (by omega) (by omega)), rfl⟩
      · have hm : ¬ M.fitI a * M.fitI b ≤ 1099511627776 := Q.out ▸ (show ¬ M.fitI a ≤ 1099511627776 / M.fitI b from ht)
        have hd : decide (M.fitI a ≤ 1099511627776 / M.fitI b) = false := by simpa using ht
        go_enter Try.func11, Try.ntmps11
        go_wp2_with (go_at_call 21; refine (rfit_any _ _).mono ?_; rintro e w' ⟨rfl, rfl⟩)
        go_ret
        exact ⟨ret_int (M.mul_hi (by omega)), rfl⟩
    · have hsb : decide (M.fitI b < 0) = true := by simp; omega
      have hs := M.sg_pn (x := M.fitI a) (y := M.fitI b) (by omega) (by omega)
      have Q := hide (M.quo_np (x := M.fitI b) (y := M.fitI a) l0)
      rw [Int.mul_comm] at Q
      obtain ⟨t1, t2⟩ := M.tneg_bd l0
      have T := hide (M.tneg l0)
      by_cases ht : M.fitI a ≤ -Int.tdiv 1099511627776 (M.fitI b)
      · have hm : -1099511627776 ≤ M.fitI a * M.fitI b := Q.out ▸ (show M.fitI a ≤ 1099511627776 / -M.fitI b from (by have e := T.out; omega))
        obtain ⟨p1, p2⟩ : -1099511627776 ≤ M.fitI a * -M.fitI b ∧ M.fitI a * -M.fitI b ≤ 1099511627776 := by rw [Int.mul_neg]; omega
        go_enter Try.func11, Try.ntmps11
        go_wp2_with (go_at_call 21; refine (rfit_any _ _).mono ?_; rintro e w' ⟨rfl, rfl⟩)
        go_ret
        exact ⟨ret_int (by rw [← M.mul_in (a := a) (b := b) (by omega) (by omega)]; first | rfl | rw [Int.mul_neg, Int.neg_neg] | rw [Int.neg_mul, Int.neg_neg] | rw [Int.neg_mul, Int.mul_neg, Int.neg_neg]), rfl⟩
      · have hm : ¬ -1099511627776 ≤ M.fitI a * M.fitI b := Q.out ▸ (show ¬ M.fitI a ≤ 1099511627776 / -M.fitI b from (by have e := T.out; omega))
        have hd : decide (M.fitI a ≤ -Int.tdiv 1099511627776 (M.fitI b)) = false := by simpa using ht
        go_enter Try.func11, Try.ntmps11
        go_wp2_with (go_at_call 21; refine (rfit_any _ _).mono ?_; rintro e w' ⟨rfl, rfl⟩)
        go_ret
        exact ⟨ret_int (M.mul_lo (by omega)), rfl⟩
  · have hsa : decide (M.fitI a < 0) = true := by simp; omega
    rcases (show 0 < M.fitI b ∨ M.fitI b < 0 from by omega) with l0 | l0
    · have hsb : decide (M.fitI b < 0) = false := by simp; omega
      have hs := M.sg_np (x := M.fitI a) (y := M.fitI b) (by omega) (by omega)
      have Q := hide (M.quo_pn (x := M.fitI b) (y := M.fitI a) l0)
      rw [Int.mul_comm] at Q
      by_cases ht : -M.fitI a ≤ 1099511627776 / M.fitI b
      · have hm : -1099511627776 ≤ M.fitI a * M.fitI b := Q.out ▸ (show -M.fitI a ≤ 1099511627776 / M.fitI b from ht)
        obtain ⟨p1, p2⟩ : -1099511627776 ≤ -M.fitI a * M.fitI b ∧ -M.fitI a * M.fitI b ≤ 1099511627776 := by rw [Int.neg_mul]; omega
        go_enter Try.func11, Try.ntmps11
        go_wp2_with (go_at_call 21; refine (rfit_any _ _).mono ?_; rintro e w' ⟨rfl, rfl⟩)
        go_ret
        exact ⟨ret_int (by rw [← M.mul_in (a := a) (b := b) (by omega) (by omega)]; first | rfl | rw [Int.mul_neg, Int.neg_neg] | rw [Int.neg_mul, Int.neg_neg] | rw [Int.neg_mul, Int.mul_neg, Int.neg_neg]), rfl⟩
      · have hm : ¬ -1099511627776 ≤ M.fitI a * M.fitI b := Q.out ▸ (show ¬ -M.fitI a ≤ 1099511627776 / M.fitI b from ht)
        have hd : decide (-M.fitI a ≤ 1099511627776 / M.fitI b) = false := by simpa using ht
        go_enter Try.func11, Try.ntmps11
        go_wp2_with (go_at_call 21; refine (rfit_any _ _).mono ?_; rintro e w' ⟨rfl, rfl⟩)
        go_ret
        exact ⟨ret_int (M.mul_lo (by omega)), rfl⟩
    · have hsb : decide (M.fitI b < 0) = true := by simp; omega
      have hs := M.sg_nn (x := M.fitI a) (y := M.fitI b) (by omega) (by omega)
      have Q := hide (M.quo_nn (x := M.fitI b) (y := M.fitI a) l0)
      rw [Int.mul_comm] at Q
      obtain ⟨t1, t2⟩ := M.tneg_bd l0
      have T := hide (M.tneg l0)
      by_cases ht : -M.fitI a ≤ -Int.tdiv 1099511627776 (M.fitI b)
      · have hm : M.fitI a * M.fitI b ≤ 1099511627776 := Q.out ▸ (show -M.fitI a ≤ 1099511627776 / -M.fitI b from (by have e := T.out; omega))
        obtain ⟨p1, p2⟩ : -1099511627776 ≤ -M.fitI a * -M.fitI b ∧ -M.fitI a * -M.fitI b ≤ 1099511627776 := by rw [Int.neg_mul, Int.mul_neg]; omega
        go_enter Try.func11, Try.ntmps11
        go_wp2_with (go_at_call 21; refine (rfit_any _ _).mono ?_; rintro e w' ⟨rfl, rfl⟩)
        go_ret
        exact ⟨ret_int (by rw [← M.mul_in (a := a) (b := b) (by omega) (by omega)]; first | rfl | rw [Int.mul_neg, Int.neg_neg] | rw [Int.neg_mul, Int.neg_neg] | rw [Int.neg_mul, Int.mul_neg, Int.neg_neg]), rfl⟩
      · have hm : ¬ M.fitI a * M.fitI b ≤ 1099511627776 := Q.out ▸ (show ¬ -M.fitI a ≤ 1099511627776 / -M.fitI b from (by have e := T.out; omega))
        have hd : decide (-M.fitI a ≤ -Int.tdiv 1099511627776 (M.fitI b)) = false := by simpa using ht
        go_enter Try.func11, Try.ntmps11
        go_wp2_with (go_at_call 21; refine (rfit_any _ _).mono ?_; rintro e w' ⟨rfl, rfl⟩)
        go_ret
        exact ⟨ret_int (M.mul_hi (by omega)), rfl⟩

end Go.Proofs.Ytpjodggmbpinbaa
