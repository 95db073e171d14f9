/-
  Several texts as one: FirstWalk, GFix, FixAny, GFill, NewKept.
-/
import Derived.Test.YtpblpfleiilehagRun9
import Derived.RegionTactic
import Derived.Deep.Cut
import Derived.Deep.CutRange
import Derived.Test.YtpblpfleiilehagRun0
import Derived.Test.YtpblpfleiilehagRun8
import Derived.OwnWalk
namespace Go.Proofs.Ytpblpfleiilehag
open Go.ChangeShapes Go.WideShapes Go.ChangeAt Go.RowKit Go.Lib
set_option linter.unusedVariables false

theorem M.isum_more {L : List Int} {k : Nat} (hk : k < L.length) : (L.take (k + 1)).sum = (L.take k).sum + L.getD k 0 := by
  rw [List.take_succ_eq_append_getElem hk, List.sum_append, M.getD_at hk]; simp
theorem M.sum_in2 {L : List Int} (h : ∀ x ∈ L, -2000 ≤ x ∧ x ≤ 2000) : ∀ k, k ≤ L.length → -2000 * (k : Int) ≤ (L.take k).sum ∧ (L.take k).sum ≤ 2000 * (k : Int)
  | 0, _ => by simp
  | k + 1, hk => by
    have ih := M.sum_in2 h k (by omega)
    have := h (L.getD k 0) (by rw [M.getD_at (by omega)]; exact List.getElem_mem _)
    rw [M.isum_more (by omega)]
    have e : ((k + 1 : Nat) : Int) = (k : Int) + 1 := by simp
    omega

set_option maxHeartbeats 8000000 in
set_option maxRecDepth 10000 in
theorem first_walk (hF : BooFitGives) (hC : GroCheckGives) (hR : BooRestGives) (a : Option Addr) (xs : List Sx) (ca : Nat) (m d s : Int) (w : World) (h : RdL w a xs) :
    Calls Try.prog 3 #[.slice a xs.length ca, .int .i64 m, .int .i64 d, .int .i64 s] w fun e w' => e = .returned (.bool true) ∧ Below w.heap.size w w' := by
  have F1 := hide (hF a xs ca m 0 d s w h)
  have C1 := hide (fun W (hb : Below w.heap.size w W) => hC a xs ca m W (h.below hb))
  have hmx : xs.length ≤ 9223372036854775807 := h.1
  by_cases hz : M.booF (sms xs) m 0 d s = 0
  · obtain ⟨g1, g2, g3, g4, g5, g6, g7⟩ := M.boo_first hz
    rw [err_nil hz] at F1
    have R1 := hide (fun J W (hJ : RdG W J) (hm : J.m = M.booG (sms xs) m 0 d s) (hb : Below w.heap.size w W) => by
      have := hR J a xs ca W hJ (h.below hb)
      rw [hm, err_nil g3] at this
      exact this)
    have GJ : Hid (∀ J : Gr, J.m = M.booG (sms xs) m 0 d s → ∀ W, RdG W J → J.ks.length = 1 ∧ ∃ b o b' c, J.ta = some ⟨b, o, none⟩ ∧ b < W.heap.size ∧ W.cell? ⟨b, o, none⟩ = some (.slice b' 1 c)) := fun J hm W hJ => by
      have e1 : J.ks.length = 1 := by rw [← tl_len J.ks]; show (M.gt J.m).length = 1; rw [hm]; exact g1
      refine ⟨e1, ?_⟩
      obtain ⟨b, o, e, hb, hc⟩ := hJ.2.2.2 (by intro q; rw [q] at e1; cases e1)
      have c0 := hc 0 (by omega)
      unfold tV at c0
      have l1 : (J.ks[0]'(by omega)).2.1.length = 1 := by
        rw [← tl_at J.ks (show 0 < J.ks.length by omega)]
        show ((M.gt J.m).getD 0 []).length = 1
        rw [hm]; exact g2
      rw [l1] at c0
      exact ⟨b, o, _, _, e, hb, c0⟩
    rw [sms_len] at g4 g6
    have x60 : xs.length ≤ 60 := by
      have := (M.sam_ok (M.boo_ok hz).1).1.le
      rw [sms_len] at this; exact this
    clear hF hC hR h C1 hz g1 g2 g3
    generalize M.restV (M.booG (sms xs) m 0 d s) (sms xs) = RV at *
    generalize M.booG (sms xs) m 0 d s = BG at *
    have SI : Hid (∀ k, k ≤ RV.length → -120000 ≤ (RV.take k).sum ∧ (RV.take k).sum ≤ 120000) := fun k hk => by
      have := M.sum_in2 g7 k hk
      omega
    have SMO : Hid (∀ k, k < RV.length → (RV.take (k + 1)).sum = (RV.take k).sum + RV.getD k 0) := fun k hk => M.isum_more hk
    have RI : Hid (∀ k, k < RV.length → -2000 ≤ RV.getD k 0 ∧ RV.getD k 0 ≤ 2000) := fun k hk => g7 _ (by rw [M.getD_at hk]; exact List.getElem_mem _)
    have RL := hide g4
    have q4 : ((RV.length : Int) != (xs.length : Int)) = false := by rw [g4]; simp
    clear g7 g4
    go_enter Try.func3, Try.ntmps3
    go_upto_region 2 with (go_at_call 4; refine F1.out.mono ?_; rintro e w1 ⟨J, rfl, hm, hg, hb⟩; have k1 := hide hb; have HM := hide hm; have HG := hide hg; unfold Gr.v; clear hm hg hb)
    have GB := hide (gr_box w1 J)
    obtain ⟨w2, hw2⟩ : ∃ V, V = w1.alloc (grB J) := ⟨_, rfl⟩
    have GJ2 := GJ.out J HM.out w2 (by rw [hw2]; exact HG.out.below GB.out.1)
    have G2 : Hid (RdG w2 J) := by rw [hw2]; exact HG.out.below GB.out.1
    have k2 : Hid (Below w.heap.size w w2) := by rw [hw2]; exact below_on k1.out GB.out.1
    have l2 : Hid (w1.heap.size < w2.heap.size) := by rw [hw2]; exact GB.out.2.2.2.2.2
    have c0 : w2.cell? ⟨w1.heap.size, 0, none⟩ = some (.int .i64 J.f) := by rw [hw2]; exact GB.out.2.1
    have c1 : w2.cell? ⟨w1.heap.size, 1, none⟩ = some (.int .i64 J.w) := by rw [hw2]; exact GB.out.2.2.1
    have c2 : w2.cell? ⟨w1.heap.size, 2, none⟩ = some (.slice J.wa J.ws.length J.wc) := by rw [hw2]; exact GB.out.2.2.2.1
    have c3 : w2.cell? ⟨w1.heap.size, 3, none⟩ = some (.slice J.ta J.ks.length J.tc) := by rw [hw2]; exact GB.out.2.2.2.2.1
    rw [← hw2]
    obtain ⟨jl, jb, jo, jb', jc, ja, jlt, jc0⟩ := GJ2
    have R2 := hide (R1.out J w2 G2.out HM.out k2.out)
    rw [ja, jl] at c3
    have C3 := hide c3
    have JC := hide jc0
    have JA := hide ja
    have JL := hide jl
    clear hw2 GB GJ R1 HG HM G2 k1 F1 ja jl jc0
    unfold Gr.v at R2
    rw [JA.out, JL.out] at R2
    go_upto_region 8 with (go_at_call 6; refine R2.out.mono ?_; rintro e w3 ⟨pa, pc, rfl, hr, hb⟩; have k3 := hide (below_on k2.out hb); have R3 := hide hr; have d3 := (hb.cell (p := ⟨w1.heap.size, 3, none⟩) l2.out).trans C3.out; have d4 := (hb.cell (p := ⟨jb, jo, none⟩) jlt).trans JC.out; clear hr hb)
    clear c0 c1 c2 c3 d3 d4 R2 k2
    go_wp2
    go_loopw [15, 16] (fun u i wr => ∃ k : Nat, k ≤ RV.length ∧ i = .int .i64 k ∧ u = .int .i64 (RV.take k).sum ∧ wr = w3) (fun _ i _ => RV.length - (intOf i).toNat)
    case atStart => exact ⟨0, Nat.zero_le _, rfl, by simp, rfl⟩
    case round =>
      obtain ⟨k, hk, rfl, rfl, rfl⟩ := hrel
      by_cases hlt : k < RV.length
      · obtain ⟨bx, ox, rfl, hbx, hcx⟩ := R3.out.2 (by intro e; rw [e] at hlt; simp at hlt)
        have hx := hcx k hlt
        have kz : (k : Int) < (RV.length : Int) := by omega
        have k60 : k < 1000 := by have := RL.out; omega
        have i1 := SI.out k hk
        have i2 := RI.out k hlt
        have N := hide (SMO.out k hlt)
        clear hcx SI RI SMO R3
        generalize (RV.take k).sum = sm at *
        generalize RV.getD k 0 = x at *
        go_wp2
        go_roundw
        case rel => exact ⟨k + 1, by omega, by go_num, by rw [N.out], (by first | rfl | trivial)⟩
        case measure => simp [intOf]; omega
      · have ke : k = RV.length := by omega
        have tk : RV.take k = RV := by rw [ke, List.take_length]
        have kz : ¬ ((k : Int) < (RV.length : Int)) := by omega
        rw [tk]
        have t1 : decide (0 ≤ RV.sum) = true := decide_eq_true g5
        have t2 : decide (RV.sum < (xs.length : Int)) = true := decide_eq_true g6
        clear ke tk SI RI SMO R3 g5 g6 hlt hk
        generalize RV.sum = sm at *
        go_wp2
        go_ret
        exact ⟨rfl, k3.out⟩
  · rw [err_some hz] at F1
    have bz : M.booF (sms xs) m 0 d s = 0 ∨ (M.samF (sms xs) m).2 ≠ 0 ∨ ((M.samF (sms xs) m).2 = 0 ∧ (d < 1 ∨ 4 < d ∨ s < 1 ∨ 100 < s)) := by
      by_cases q : (M.samF (sms xs) m).2 = 0
      · by_cases y : d < 1 ∨ 4 < d ∨ s < 1 ∨ 100 < s
        · exact .inr (.inr ⟨q, y⟩)
        · left; unfold M.booF; rw [if_neg (by simp [q]), if_neg (by omega)]
      · exact .inr (.inl q)
    have B1 := hide (fun J W => (gr_box W J).1)
    clear hF hC hR
    rcases bz with bz | bz | ⟨bz, by_⟩
    · exact absurd bz hz
    · rw [err_some bz] at C1
      clear hz bz h
      generalize M.booF (sms xs) m 0 d s = bf at *
      generalize (M.samF (sms xs) m).2 = sf at *
      generalize (M.samF (sms xs) m).1 = sn at *
      go_enter Try.func3, Try.ntmps3
      go_wp2_with (first
        | (go_at_call 5; refine (C1.out _ (below_on k1.out (B1.out J w1))).mono ?_; rintro e w2 ⟨rfl, hb⟩; have k2 := hide (below_on (below_on k1.out (B1.out J w1)) hb); clear hb)
        | (go_at_call 4; refine F1.out.mono ?_; rintro e w1 ⟨J, rfl, hm, hg, hb⟩; have k1 := hide hb; unfold Gr.v; clear hm hg hb))
      go_ret
      exact ⟨rfl, k2.out⟩
    · rw [err_nil bz] at C1
      clear hz bz h
      generalize M.booF (sms xs) m 0 d s = bf at *
      generalize (M.samF (sms xs) m).1 = sn at *
      go_enter Try.func3, Try.ntmps3
      go_upto_region 4 with (first
        | (go_at_call 5; refine (C1.out _ (below_on k1.out (B1.out J w1))).mono ?_; rintro e w2 ⟨rfl, hb⟩; have k2 := hide (below_on (below_on k1.out (B1.out J w1)) hb); clear hb)
        | (go_at_call 4; refine F1.out.mono ?_; rintro e w1 ⟨J, rfl, hm, hg, hb⟩; have k1 := hide hb; unfold Gr.v; clear hm hg hb))
      clear F1 C1 B1
      by_cases y1 : d < 1
      · have t1 : decide (d < 1) = true := decide_eq_true y1
        clear y1 by_
        go_wp2
        go_ret
        exact ⟨rfl, k2.out⟩
      · have t1 : decide (d < 1) = false := decide_eq_false y1
        by_cases y2 : 4 < d
        · have t2 : decide (4 < d) = true := decide_eq_true y2
          clear y1 y2 by_
          go_wp2
          go_ret
          exact ⟨rfl, k2.out⟩
        · have t2 : decide (4 < d) = false := decide_eq_false y2
          by_cases y3 : s < 1
          · have t3 : decide (s < 1) = true := decide_eq_true y3
            clear y1 y2 y3 by_
            go_wp2
            go_ret
            exact ⟨rfl, k2.out⟩
          · have t3 : decide (s < 1) = false := decide_eq_false y3
            have t4 : decide (100 < s) = true := decide_eq_true (by omega)
            clear y1 y2 y3 by_
            go_wp2
            go_ret
            exact ⟨rfl, k2.out⟩

end Go.Proofs.Ytpblpfleiilehag

namespace Go.Proofs.Ytpblpfleiilehag
open Go.ChangeShapes Go.WideShapes Go.ChangeAt Go.RowKit Go.Lib
set_option linter.unusedVariables false

theorem fit_in (n : Int) (w : World) (h1 : -1099511627776 ≤ n) (h2 : n ≤ 1099511627776) :
    Calls Try.prog 46 #[.int .i64 n] w fun e w' => e = .returned (.int .i64 n) ∧ w' = w := by
  go_enter Try.func46, Try.ntmps46
  go_wp2
  go_ret
  exact ⟨rfl, rfl⟩

theorem size_pos (n : Int) (w : World) (h1 : 0 ≤ n) (h2 : n ≤ 1099511627776) :
    Calls Try.prog 47 #[.int .i64 n] w fun e w' => e = .returned (.int .i64 n) ∧ w' = w := by
  go_enter Try.func47, Try.ntmps47
  go_wp2
  go_ret
  exact ⟨rfl, rfl⟩

theorem size_neg (n X : Int) (w : World) (E : Hid (-n = X)) (h1 : -1099511627776 ≤ n) (h2 : n < 0) :
    Calls Try.prog 47 #[.int .i64 n] w fun e w' => e = .returned (.int .i64 X) ∧ w' = w := by
  go_enter Try.func47, Try.ntmps47
  go_wp2
  go_ret
  exact ⟨ret_int E.out, rfl⟩

theorem add_in (a b : Int) (w : World) (a1 : -549755813888 ≤ a) (a2 : a ≤ 549755813888) (b1 : -549755813888 ≤ b) (b2 : b ≤ 549755813888) :
    Calls Try.prog 48 #[.int .i64 a, .int .i64 b] w fun e w' => e = .returned (.int .i64 (a + b)) ∧ w' = w := by
  go_enter Try.func48, Try.ntmps48
  go_wp2_with (go_at_call 46; refine (fit_in _ _ (by omega) (by omega)).mono ?_; rintro e w' ⟨rfl, rfl⟩)
  go_ret
  exact ⟨rfl, rfl⟩

theorem M.mul_far {a b : Int} (a1 : -1000000 ≤ a) (a2 : a ≤ 1000000) (b1 : 1 ≤ b) (b2 : b ≤ 1000) : -1000000000 ≤ a * b ∧ a * b ≤ 1000000000 := by
  have h1 : a * b ≤ 1000000 * b := Int.mul_le_mul_of_nonneg_right a2 (by omega)
  have h2 : -1000000 * b ≤ a * b := Int.mul_le_mul_of_nonneg_right a1 (by omega)
  omega
theorem M.quo_far {x b : Int} (x1 : 0 < x) (x2 : x ≤ 1000000) (b1 : 1 ≤ b) (b2 : b ≤ 1000) : b ≤ 1099511627776 / x := by
  rw [Int.le_ediv_iff_mul_le x1]
  have h1 : x * b ≤ 1000000 * b := Int.mul_le_mul_of_nonneg_right x2 (by omega)
  rw [Int.mul_comm]
  omega

set_option maxHeartbeats 1000000 in
theorem mul_small (a b : Int) (w : World) (a1 : -1000000 ≤ a) (a2 : a ≤ 1000000) (b1 : 1 ≤ b) (b2 : b ≤ 1000) :
    Calls Try.prog 29 #[.int .i64 a, .int .i64 b] w fun e w' => e = .returned (.int .i64 (a * b)) ∧ w' = w := by
  obtain ⟨m1, m2⟩ := M.mul_far a1 a2 b1 b2
  rcases (show a = 0 ∨ 0 < a ∨ a < 0 from by omega) with h0 | h0 | h0
  · have E : Hid (0 = a * b) := by unfold Hid; rw [h0, Int.zero_mul]
    have hz : (a == 0) = true := by rw [h0]; rfl
    clear h0
    go_enter Try.func29, Try.ntmps29
    go_wp2_with (go_at_call 46; refine (fit_in _ _ (by omega) (by omega)).mono ?_; rintro e w' ⟨rfl, rfl⟩)
    go_ret
    exact ⟨rfl, rfl⟩
  · have hz : (a == 0) = false := by simp; omega
    have hq := M.quo_far h0 a2 b1 b2
    go_enter Try.func29, Try.ntmps29
    go_wp2_with (first | (go_at_call 46; refine (fit_in _ _ (by omega) (by omega)).mono ?_; rintro e w' ⟨rfl, rfl⟩) | (go_at_call 47; refine (size_pos _ _ (by omega) (by omega)).mono ?_; rintro e w' ⟨rfl, rfl⟩))
    go_ret
    exact ⟨rfl, rfl⟩
  · have hz : (a == 0) = false := by simp; omega
    obtain ⟨X, hX⟩ : ∃ X, -a = X := ⟨_, rfl⟩
    have x1 : 0 < X := by omega
    have x2 : X ≤ 1000000 := by omega
    have hq := M.quo_far x1 x2 b1 b2
    have HX := hide hX
    clear hX
    go_enter Try.func29, Try.ntmps29
    go_wp2_with (first | (go_at_call 46; refine (fit_in _ _ (by omega) (by omega)).mono ?_; rintro e w' ⟨rfl, rfl⟩) | (go_at_call 47; refine (size_pos _ _ (by omega) (by omega)).mono ?_; rintro e w' ⟨rfl, rfl⟩) | (go_at_call 47; refine (size_neg _ X _ HX (by omega) (by omega)).mono ?_; rintro e w' ⟨rfl, rfl⟩))
    go_ret
    exact ⟨rfl, rfl⟩

set_option maxHeartbeats 1000000 in
theorem total_in (a : Option Addr) (ws : List Int) (ca : Nat) (w : World) (h : Rd w a ws) (h0 : 0 < ws.length) (n12 : ws.length ≤ 12) (hx : ∀ i, i < ws.length → 1 ≤ ws.getD i 0 ∧ ws.getD i 0 ≤ 1000) :
    Calls Try.prog 30 #[.slice a ws.length ca] w fun e w' => e = .returned (.int .i64 (M.allK ws ws.length)) ∧ w' = w := by
  obtain ⟨ba, oa, rfl, hba, hca⟩ := h.2 (by intro e; rw [e] at h0; simp at h0)
  have HC := hide hca
  have HX := hide hx
  have SB := hide (fun k (hk : k ≤ ws.length) => M.all_pos (ws := ws) k (fun i hi => hx i (by omega)))
  clear h hca hx hba h0
  go_enter Try.func30, Try.ntmps30
  go_wp2
  go_loopw [3, 8] (fun s i wr => ∃ k : Nat, k ≤ ws.length ∧ s = .int .i64 (M.allK ws k) ∧ i = .int .i64 k ∧ wr = w) (fun _ i _ => ws.length - (intOf i).toNat)
  case atStart => exact ⟨0, Nat.zero_le _, rfl, rfl, rfl⟩
  case round =>
    obtain ⟨k, hk, rfl, rfl, ew⟩ := hrel
    subst wr
    by_cases hlt : k < ws.length
    · have c1 := HC.out k hlt
      obtain ⟨x1, x2⟩ := HX.out k hlt
      obtain ⟨s1, s2⟩ := SB.out k hk
      have SS : Hid (M.allK ws k + ws.getD k 0 = M.allK ws (k + 1)) := rfl
      have kz : (k : Int) < (ws.length : Int) := by omega
      clear HC HX SB
      generalize ws.getD k 0 = x at *
      go_wp2_with (go_at_call 48; refine (add_in _ _ _ (by omega) (by omega) (by omega) (by omega)).mono ?_; rintro e w1 ⟨rfl, e1⟩; subst w1)
      go_roundw
      case rel => exact ⟨k + 1, by omega, by rw [SS.out], by go_num, (by first | rfl | trivial)⟩
      case measure => simp [intOf]; omega
    · have ek : k = ws.length := by omega
      have EE := hide ek
      clear ek HC HX SB
      go_wp2
      go_ret
      exact ⟨ret_int (by rw [EE.out]), rfl⟩

end Go.Proofs.Ytpblpfleiilehag

namespace Go.Proofs.Ytpblpfleiilehag
open Go.ChangeShapes Go.WideShapes Go.ChangeAt Go.RowKit Go.Lib
set_option linter.unusedVariables false

theorem xfit_any (n : Int) (w : World) :
    Calls Try.prog 46 #[.int .i64 n] w fun e w' => e = .returned (.int .i64 (M.fitI n)) ∧ w' = w := by
  rcases (show 1099511627776 < n ∨ n < -1099511627776 ∨ (-1099511627776 ≤ n ∧ n ≤ 1099511627776) from by omega) with h | h | ⟨h1, h2⟩
  · have E : Hid (1099511627776 = M.fitI n) := by unfold M.fitI; rw [if_pos h]; exact rfl
    go_enter Try.func46, Try.ntmps46
    go_wp2
    go_ret
    exact ⟨ret_int E.out, rfl⟩
  · have E : Hid (-1099511627776 = M.fitI n) := by unfold M.fitI; rw [if_neg (by omega), if_pos h]; exact rfl
    go_enter Try.func46, Try.ntmps46
    go_wp2
    go_ret
    exact ⟨ret_int E.out, rfl⟩
  · have E : Hid (n = M.fitI n) := (M.fit_id ⟨h1, h2⟩).symm
    go_enter Try.func46, Try.ntmps46
    go_wp2
    go_ret
    exact ⟨ret_int E.out, rfl⟩

theorem xadd_any (a b : Int) (w : World) :
    Calls Try.prog 48 #[.int .i64 a, .int .i64 b] w fun e w' => e = .returned (.int .i64 (M.addI a b)) ∧ w' = w := by
  obtain ⟨a1, a2⟩ := M.fit_le a
  obtain ⟨b1, b2⟩ := M.fit_le b
  go_enter Try.func48, Try.ntmps48
  go_wp2_with (go_at_call 46; refine (xfit_any _ _).mono ?_; rintro e w' ⟨rfl, rfl⟩)
  go_ret
  exact ⟨rfl, rfl⟩

set_option maxHeartbeats 1000000 in
theorem xsq_any (a : Int) (w : World) :
    Calls Try.prog 29 #[.int .i64 a, .int .i64 a] w fun e w' => e = .returned (.int .i64 (M.mulI a a)) ∧ w' = w := by
  obtain ⟨a1, a2⟩ := M.fit_le a
  rcases (show M.fitI a = 0 ∨ 0 < M.fitI a ∨ M.fitI a < 0 from by omega) with h0 | h0 | h0
  · have Z := hide (M.mul_zl (b := a) h0)
    go_enter Try.func29, Try.ntmps29
    go_wp2_with (go_at_call 46; refine (xfit_any _ _).mono ?_; rintro e w' ⟨rfl, rfl⟩)
    go_ret
    exact ⟨ret_int (by simpa using Z.out), rfl⟩
  · have hz : (M.fitI a == 0) = false := by simp; omega
    have hsa : decide (M.fitI a < 0) = false := by simp; omega
    have hs := M.sg_pp (x := M.fitI a) (y := M.fitI a) (by omega) (by omega)
    have Q := hide (M.quo_pp (y := M.fitI a) h0)
    by_cases ht : M.fitI a ≤ 1099511627776 / M.fitI a
    · have hm : M.fitI a * M.fitI a ≤ 1099511627776 := Q.out ▸ ht
      go_enter Try.func29, Try.ntmps29
      go_wp2_with (first | (go_at_call 46; refine (xfit_any _ _).mono ?_; rintro e w' ⟨rfl, rfl⟩) | (go_at_call 47; refine (size_pos _ _ (by omega) (by omega)).mono ?_; rintro e w' ⟨rfl, rfl⟩))
      go_ret
      exact ⟨ret_int (M.mul_in (by omega) (by omega)), rfl⟩
    · have hm : ¬ M.fitI a * M.fitI a ≤ 1099511627776 := Q.out ▸ ht
      have hd : decide (M.fitI a ≤ 1099511627776 / M.fitI a) = false := by simpa using ht
      go_enter Try.func29, Try.ntmps29
      go_wp2_with (first | (go_at_call 46; refine (xfit_any _ _).mono ?_; rintro e w' ⟨rfl, rfl⟩) | (go_at_call 47; refine (size_pos _ _ (by omega) (by omega)).mono ?_; rintro e w' ⟨rfl, rfl⟩))
      go_ret
      exact ⟨ret_int (M.mul_hi (by omega)), rfl⟩
  · have hz : (M.fitI a == 0) = false := by simp; omega
    have hsa : decide (M.fitI a < 0) = true := by simp; omega
    obtain ⟨X, hX⟩ : ∃ X, -M.fitI a = X := ⟨_, rfl⟩
    have x1 : 0 < X := by omega
    have x2 : X ≤ 1099511627776 := by omega
    have hs := M.sg_nn (x := M.fitI a) (y := M.fitI a) (by omega) (by omega)
    have Q := hide (M.quo_nn (y := M.fitI a) h0)
    rw [hX] at Q
    have HX := hide hX
    clear hX
    by_cases ht : X ≤ 1099511627776 / X
    · have hm : M.fitI a * M.fitI a ≤ 1099511627776 := Q.out ▸ ht
      go_enter Try.func29, Try.ntmps29
      go_wp2_with (first | (go_at_call 46; refine (xfit_any _ _).mono ?_; rintro e w' ⟨rfl, rfl⟩) | (go_at_call 47; refine (size_neg _ X _ HX (by omega) (by omega)).mono ?_; rintro e w' ⟨rfl, rfl⟩))
      go_ret
      exact ⟨ret_int (M.mul_in (by omega) (by omega)), rfl⟩
    · have hm : ¬ M.fitI a * M.fitI a ≤ 1099511627776 := Q.out ▸ ht
      have hd : decide (X ≤ 1099511627776 / X) = false := by simpa using ht
      go_enter Try.func29, Try.ntmps29
      go_wp2_with (first | (go_at_call 46; refine (xfit_any _ _).mono ?_; rintro e w' ⟨rfl, rfl⟩) | (go_at_call 47; refine (size_neg _ X _ HX (by omega) (by omega)).mono ?_; rintro e w' ⟨rfl, rfl⟩))
      go_ret
      exact ⟨ret_int (M.mul_hi (by omega)), rfl⟩

theorem M.tot_step {L : List Int} {k : Nat} (hk : k < L.length) : M.totalI (L.take (k + 1)) = M.addI (M.totalI (L.take k)) (L.getD k 0) := by
  unfold M.totalI
  rw [List.take_succ_eq_append_getElem hk, List.foldl_append, M.getD_at hk]
  rfl

set_option maxHeartbeats 2000000 in
theorem xtotal_any (a : Option Addr) (xs : List Int) (ca : Nat) (w : World) (h : Rd w a xs) :
    Calls Try.prog 30 #[.slice a xs.length ca] w fun e w' => e = .returned (.int .i64 (M.totalI xs)) ∧ w' = w := by
  have hm : xs.length ≤ 9223372036854775807 := h.1
  have HR := hide h
  have TM : Hid (∀ k, k < xs.length → M.totalI (xs.take (k + 1)) = M.addI (M.totalI (xs.take k)) (xs.getD k 0)) := fun k hk => M.tot_step hk
  clear h
  go_enter Try.func30, Try.ntmps30
  go_wp2
  go_loopw [3, 8] (fun u i wr => ∃ k : Nat, k ≤ xs.length ∧ i = .int .i64 k ∧ u = .int .i64 (M.totalI (xs.take k)) ∧ Hid (wr = w)) (fun _ i _ => xs.length - (intOf i).toNat)
  case atStart => exact ⟨0, Nat.zero_le _, rfl, rfl, rfl⟩
  case round =>
    obtain ⟨k, hk, rfl, rfl, E⟩ := hrel
    have e := E.out
    subst e
    by_cases hlt : k < xs.length
    · obtain ⟨b, off, rfl, hb, hc⟩ := HR.out.2 (by intro e; rw [e] at hlt; simp at hlt)
      have hx := hc k hlt
      have kz : (k : Int) < (xs.length : Int) := by omega
      have N := hide (TM.out k hlt)
      clear hc TM
      generalize M.totalI (xs.take k) = t at *
      generalize xs.getD k 0 = x at *
      go_wp2_with (go_at_call 48; refine (xadd_any t x _).mono ?_; rintro e w1 ⟨rfl, e1⟩; have e2 := e1.symm; subst e2)
      go_roundw
      case rel => exact ⟨k + 1, by omega, by go_num, by rw [N.out], (by first | rfl | trivial)⟩
      case measure => simp [intOf]; omega
    · have tk : xs.take k = xs := List.take_of_length_le (by omega)
      have kz : ¬ ((k : Int) < (xs.length : Int)) := by omega
      rw [tk]
      clear TM tk
      go_wp2
      go_ret
      exact ⟨rfl, (by first | rfl | trivial)⟩

end Go.Proofs.Ytpblpfleiilehag

namespace Go.Proofs.Ytpblpfleiilehag
open Go.ChangeShapes Go.WideShapes Go.ChangeAt Go.RowKit Go.Lib
set_option linter.unusedVariables false

/-- the first k of a list, the rest still 0 -/
def M.fillK (l : List Int) (k : Nat) : List Int := l.take k ++ List.replicate (l.length - k) 0
theorem M.fillK_len (l : List Int) {k : Nat} (h : k ≤ l.length) : (M.fillK l k).length = l.length := by unfold M.fillK; simp; omega
theorem M.fillK_zero (l : List Int) : M.fillK l 0 = List.replicate l.length 0 := by unfold M.fillK; simp
theorem M.fillK_all (l : List Int) : M.fillK l l.length = l := by unfold M.fillK; simp
theorem M.fillK_set (l : List Int) {k : Nat} (h : k < l.length) : (M.fillK l k).set k (l.getD k 0) = M.fillK l (k + 1) := by
  apply List.ext_getElem?
  intro i
  rw [M.getD_at h]
  unfold M.fillK
  by_cases e : i = k
  · subst e
    rw [List.getElem?_set_self (by simp; omega), List.getElem?_append_left (by simp; omega), List.getElem?_take_of_lt (by omega), List.getElem?_eq_getElem h]
  · rw [List.getElem?_set_ne (fun c => e c.symm)]
    by_cases q : i < k
    · rw [List.getElem?_append_left (by simp; omega), List.getElem?_append_left (by simp; omega), List.getElem?_take_of_lt q, List.getElem?_take_of_lt (by omega)]
    · rw [List.getElem?_append_right (by simp; omega), List.getElem?_append_right (by simp; omega)]
      simp only [List.length_take, List.getElem?_replicate]
      rw [Nat.min_eq_left (by omega), Nat.min_eq_left (by omega)]
      by_cases q2 : i < l.length
      · rw [if_pos (by omega), if_pos (by omega)]
      · rw [if_neg (by omega), if_neg (by omega)]

theorem fillK_own {wr : World} {B g n : Nat} {F : List Int} {k : Nat} (hk : k < F.length)
    (hown : wr.ownsRow B 3 1 (.slice (some ⟨g, 0, none⟩) n n) n ((M.fillK F k).map (Value.int .i64))) :
    (wr.setCell ⟨g, k, none⟩ (.int .i64 (F.getD k 0))).ownsRow B 3 1 (.slice (some ⟨g, 0, none⟩) n n) n ((M.fillK F (k + 1)).map (Value.int .i64)) := by
  have := (hown.stored k (.int .i64 (F.getD k 0))).1
  rw [← M.fillK_set F hk, List.map_set]
  exact this
theorem fillK_cell {wr : World} {B g n : Nat} {F : List Int} {k : Nat} (hk : k < F.length) (hn : F.length = n)
    (hown : wr.ownsRow B 3 1 (.slice (some ⟨g, 0, none⟩) n n) n ((M.fillK F k).map (Value.int .i64))) : ∃ z, wr.cell? ⟨g, k, none⟩ = some (.int .i64 z) := by
  have hl : (M.fillK F k).length = n := by rw [M.fillK_len F (by omega), hn]
  exact ⟨_, own_at hown hl k (by omega)⟩

end Go.Proofs.Ytpblpfleiilehag

namespace Go.Proofs.Ytpblpfleiilehag
open Go.ChangeShapes Go.WideShapes Go.ChangeAt Go.RowKit Go.Lib
set_option linter.unusedVariables false

theorem set2 {W : World} {p : Nat} {x0 x1 y0 y1 : Value} (h0 : W.cell? ⟨p, 0, none⟩ = some y0) (h1 : W.cell? ⟨p, 1, none⟩ = some y1) :
    (W.setCell ⟨p, 0, none⟩ x0).cell? ⟨p, 0, none⟩ = some x0 ∧ ((W.setCell ⟨p, 0, none⟩ x0).setCell ⟨p, 1, none⟩ x1).cell? ⟨p, 1, none⟩ = some x1 := by
  refine ⟨World.cell?_setCell_same _ _ _ h0, World.cell?_setCell_same (u := y1) _ _ _ ?_⟩
  rw [World.cell?_setCell_other _ _ _ _ (by intro e; cases e)]; exact h1
theorem below2 {w W : World} {p : Nat} {x0 x1 : Value} (h : Below w.heap.size w W) (hp : w.heap.size ≤ p) : Below w.heap.size w ((W.setCell ⟨p, 0, none⟩ x0).setCell ⟨p, 1, none⟩ x1) :=
  (h.setCell (p := ⟨p, 0, none⟩) hp _).setCell (p := ⟨p, 1, none⟩) hp _
theorem frozen_new2 (V : World) (cs : Array Value) (t : TypeId) (j : Nat) : (V.alloc (.cells cs t)).frozen? ⟨V.heap.size, j, none⟩ = false := by
  unfold World.frozen?
  rw [show (V.alloc (.cells cs t)).heap[V.heap.size]? = some (.cells cs t) from (MapKept.heap_alloc V _).1]
  simp
theorem put4 {W : World} {p : Nat} {x0 x1 x2 x3 y0 y1 y2 y3 : Value} (h0 : W.cell? ⟨p, 0, none⟩ = some y0) (h1 : W.cell? ⟨p, 1, none⟩ = some y1) (h2 : W.cell? ⟨p, 2, none⟩ = some y2) (h3 : W.cell? ⟨p, 3, none⟩ = some y3) :
    (W.setCell ⟨p, 0, none⟩ x0).cell? ⟨p, 0, none⟩ = some x0 ∧ ((W.setCell ⟨p, 0, none⟩ x0).setCell ⟨p, 1, none⟩ x1).cell? ⟨p, 1, none⟩ = some x1 ∧
    (((W.setCell ⟨p, 0, none⟩ x0).setCell ⟨p, 1, none⟩ x1).setCell ⟨p, 2, none⟩ x2).cell? ⟨p, 2, none⟩ = some x2 ∧
    ((((W.setCell ⟨p, 0, none⟩ x0).setCell ⟨p, 1, none⟩ x1).setCell ⟨p, 2, none⟩ x2).setCell ⟨p, 3, none⟩ x3).cell? ⟨p, 3, none⟩ = some x3 := by
  have o : ∀ (V : World) (i j : Nat) (v : Value), i ≠ j → (V.setCell ⟨p, i, none⟩ v).cell? ⟨p, j, none⟩ = V.cell? ⟨p, j, none⟩ := fun V i j v hij => World.cell?_setCell_other _ _ _ _ (by intro e; cases e; exact hij rfl)
  refine ⟨World.cell?_setCell_same _ _ _ h0, World.cell?_setCell_same (u := y1) _ _ _ ?_, World.cell?_setCell_same (u := y2) _ _ _ ?_, World.cell?_setCell_same (u := y3) _ _ _ ?_⟩
  · rw [o _ _ _ _ (by decide)]; exact h1
  · rw [o _ _ _ _ (by decide), o _ _ _ _ (by decide)]; exact h2
  · rw [o _ _ _ _ (by decide), o _ _ _ _ (by decide), o _ _ _ _ (by decide)]; exact h3
theorem lay4 {w W : World} {p : Nat} {x0 x1 x2 x3 : Value} (h : Below w.heap.size w W) (hp : w.heap.size ≤ p) : Below w.heap.size w ((((W.setCell ⟨p, 0, none⟩ x0).setCell ⟨p, 1, none⟩ x1).setCell ⟨p, 2, none⟩ x2).setCell ⟨p, 3, none⟩ x3) :=
  (((h.setCell (p := ⟨p, 0, none⟩) hp _).setCell (p := ⟨p, 1, none⟩) hp _).setCell (p := ⟨p, 2, none⟩) hp _).setCell (p := ⟨p, 3, none⟩) hp _
theorem set6 {W : World} {p : Nat} {x0 x1 x2 x3 x4 x5 y0 y1 y2 y3 y4 y5 : Value} (h0 : W.cell? ⟨p, 0, none⟩ = some y0) (h1 : W.cell? ⟨p, 1, none⟩ = some y1) (h2 : W.cell? ⟨p, 2, none⟩ = some y2) (h3 : W.cell? ⟨p, 3, none⟩ = some y3) (h4 : W.cell? ⟨p, 4, none⟩ = some y4) (h5 : W.cell? ⟨p, 5, none⟩ = some y5) :
    (W.setCell ⟨p, 0, none⟩ x0).cell? ⟨p, 0, none⟩ = some x0 ∧ ((W.setCell ⟨p, 0, none⟩ x0).setCell ⟨p, 1, none⟩ x1).cell? ⟨p, 1, none⟩ = some x1 ∧
    (((W.setCell ⟨p, 0, none⟩ x0).setCell ⟨p, 1, none⟩ x1).setCell ⟨p, 2, none⟩ x2).cell? ⟨p, 2, none⟩ = some x2 ∧
    ((((W.setCell ⟨p, 0, none⟩ x0).setCell ⟨p, 1, none⟩ x1).setCell ⟨p, 2, none⟩ x2).setCell ⟨p, 3, none⟩ x3).cell? ⟨p, 3, none⟩ = some x3 ∧
    (((((W.setCell ⟨p, 0, none⟩ x0).setCell ⟨p, 1, none⟩ x1).setCell ⟨p, 2, none⟩ x2).setCell ⟨p, 3, none⟩ x3).setCell ⟨p, 4, none⟩ x4).cell? ⟨p, 4, none⟩ = some x4 ∧
    ((((((W.setCell ⟨p, 0, none⟩ x0).setCell ⟨p, 1, none⟩ x1).setCell ⟨p, 2, none⟩ x2).setCell ⟨p, 3, none⟩ x3).setCell ⟨p, 4, none⟩ x4).setCell ⟨p, 5, none⟩ x5).cell? ⟨p, 5, none⟩ = some x5 := by
  have o : ∀ (V : World) (i j : Nat) (v : Value), i ≠ j → (V.setCell ⟨p, i, none⟩ v).cell? ⟨p, j, none⟩ = V.cell? ⟨p, j, none⟩ := fun V i j v hij => World.cell?_setCell_other _ _ _ _ (by intro e; cases e; exact hij rfl)
  refine ⟨World.cell?_setCell_same _ _ _ h0, World.cell?_setCell_same (u := y1) _ _ _ ?_, World.cell?_setCell_same (u := y2) _ _ _ ?_, World.cell?_setCell_same (u := y3) _ _ _ ?_, World.cell?_setCell_same (u := y4) _ _ _ ?_, World.cell?_setCell_same (u := y5) _ _ _ ?_⟩
  · rw [o _ _ _ _ (by decide)]; exact h1
  · rw [o _ _ _ _ (by decide), o _ _ _ _ (by decide)]; exact h2
  · rw [o _ _ _ _ (by decide), o _ _ _ _ (by decide), o _ _ _ _ (by decide)]; exact h3
  · rw [o _ _ _ _ (by decide), o _ _ _ _ (by decide), o _ _ _ _ (by decide), o _ _ _ _ (by decide)]; exact h4
  · rw [o _ _ _ _ (by decide), o _ _ _ _ (by decide), o _ _ _ _ (by decide), o _ _ _ _ (by decide), o _ _ _ _ (by decide)]; exact h5
theorem below6 {w W : World} {p : Nat} {x0 x1 x2 x3 x4 x5 : Value} (h : Below w.heap.size w W) (hp : w.heap.size ≤ p) : Below w.heap.size w ((((((W.setCell ⟨p, 0, none⟩ x0).setCell ⟨p, 1, none⟩ x1).setCell ⟨p, 2, none⟩ x2).setCell ⟨p, 3, none⟩ x3).setCell ⟨p, 4, none⟩ x4).setCell ⟨p, 5, none⟩ x5) :=
  (((((h.setCell (p := ⟨p, 0, none⟩) hp _).setCell (p := ⟨p, 1, none⟩) hp _).setCell (p := ⟨p, 2, none⟩) hp _).setCell (p := ⟨p, 3, none⟩) hp _).setCell (p := ⟨p, 4, none⟩) hp _).setCell (p := ⟨p, 5, none⟩) hp _
/-- a new block, and what lies there as long as all is as it was -/
theorem new_kept {w w1 : World} {cs : Array Value} {t : TypeId} (e : w1 = w.alloc (.cells cs t)) {W : World} (hW : Below w1.heap.size w1 W) : (∀ j v, cs[j]? = some v → W.cell? ⟨w.heap.size, j, none⟩ = some v) ∧ ∀ j, W.frozen? ⟨w.heap.size, j, none⟩ = false := by
  have lt : w.heap.size < w1.heap.size := by rw [e]; simp
  refine ⟨fun j v hv => (hW.cell (p := ⟨w.heap.size, j, none⟩) lt).trans (by rw [e, World.cell?_alloc_new]; exact hv), fun j => ?_⟩
  have f := frozen_new2 w cs t j
  rw [← e] at f
  rw [← f]
  unfold World.frozen?
  rw [hW.block _ lt]

end Go.Proofs.Ytpblpfleiilehag
