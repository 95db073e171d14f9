/-
  What orchlaw2.right answers of samples that are right.
-/
import Derived.Test.YthbeoaninipadafSaPart
import Derived.Test.YthbeoaninipadafSMath
namespace Go.Proofs.Ythbeoaninipadaf
open Go.ChangeShapes Go.WideShapes Go.ChangeAt Go.RowKit Go.Lib
set_option linter.unusedVariables false

theorem wrap_in7 (x : Int) (h1 : -9223372036854775808 ≤ x) (h2 : x ≤ 9223372036854775807) : IntKind.i64.wrap x = x := by
  simp [IntKind.wrap, IntKind.bits, IntKind.signed]
  split <;> omega

set_option maxHeartbeats 8000000 in
set_option maxRecDepth 10000 in
theorem right_any (a : Option Addr) (xs : List Sx) (ca m f : Nat) (c least : Int) (w : World) (h : RdL w a xs) (A : Ask xs m) (hf : f < m) :
    Calls Try.prog 12 #[.slice a xs.length ca, .int .i64 (f : Nat), .int .i64 c, .int .i64 least] w fun e w' => e = .returned (.agg #[.int .i64 (M.rgtS (sms xs) f c least).1, .int .i64 (M.rgtS (sms xs) f c least).2]) ∧ Below w.heap.size w w' := by
  have HL := hide h
  have AA := hide A
  have l60 := A.le
  have E1 : Hid (∀ b, M.tB (sms xs) f c b = M.sumT (M.partS ((sms xs).take xs.length) f c b)) := fun b => by unfold M.tB; rw [← sms_len xs, List.take_length]
  have E2 : Hid (∀ b, M.nB (sms xs) f c b = ((M.partS ((sms xs).take xs.length) f c b).length : Nat)) := fun b => by unfold M.nB; rw [← sms_len xs, List.take_length]
  have SM : Hid (∀ b k, k < xs.length → M.sumT (M.partS ((sms xs).take (k + 1)) f c b) = (if (decide (M.colA (M.sAt (sms xs) k) f < c) == b) = true then M.sumT (M.partS ((sms xs).take k) f c b) + (M.sAt (sms xs) k).2 else M.sumT (M.partS ((sms xs).take k) f c b)) ∧ (M.partS ((sms xs).take (k + 1)) f c b).length = (if (decide (M.colA (M.sAt (sms xs) k) f < c) == b) = true then (M.partS ((sms xs).take k) f c b).length + 1 else (M.partS ((sms xs).take k) f c b).length)) := fun b k hk => M.sum_more (sms xs) f c b (by rw [sms_len]; exact hk)
  have BW : Hid (∀ o, Below w.heap.size w (w.alloc o)) := fun o => (Below.refl _ w).alloc (Nat.le_refl _) o
  have RG : Hid (M.rgtS (sms xs) f c least = if least = 0 then (((M.sumT (M.partS ((sms xs).take xs.length) f c true)) + (M.sumT (M.partS ((sms xs).take xs.length) f c false))) * ((M.sumT (M.partS ((sms xs).take xs.length) f c true)) + (M.sumT (M.partS ((sms xs).take xs.length) f c false))), ((((M.partS ((sms xs).take xs.length) f c true).length : Nat) : Int) + (((M.partS ((sms xs).take xs.length) f c false).length : Nat) : Int))) else if (((M.partS ((sms xs).take xs.length) f c true).length : Nat) : Int) < least ∨ (((M.partS ((sms xs).take xs.length) f c false).length : Nat) : Int) < least then (0, 0) else ((M.sumT (M.partS ((sms xs).take xs.length) f c true)) * (M.sumT (M.partS ((sms xs).take xs.length) f c true)) * (((M.partS ((sms xs).take xs.length) f c false).length : Nat) : Int) + (M.sumT (M.partS ((sms xs).take xs.length) f c false)) * (M.sumT (M.partS ((sms xs).take xs.length) f c false)) * (((M.partS ((sms xs).take xs.length) f c true).length : Nat) : Int), (((M.partS ((sms xs).take xs.length) f c true).length : Nat) : Int) * (((M.partS ((sms xs).take xs.length) f c false).length : Nat) : Int))) := by
    unfold Hid M.rgtS M.spU M.spD
    simp only [E1.out, E2.out]
  have RD : Hid (RdL (w.alloc (.cells #[.int .i64 0, .int .i64 0] 41)) a xs) := h.below (BW.out _)
  generalize M.rgtS (sms xs) f c least = R at *
  clear h A
  go_enter Try.func12, Try.ntmps12
  go_wp2
  go_loopw [9, 10, 11, 12, 13] (fun s t n q i wr => ∃ k : Nat, k ≤ xs.length ∧ i = .int .i64 k ∧ s = .int .i64 (M.sumT (M.partS ((sms xs).take k) f c true)) ∧ t = .int .i64 (M.sumT (M.partS ((sms xs).take k) f c false)) ∧ n = .int .i64 ((M.partS ((sms xs).take k) f c true).length : Nat) ∧ q = .int .i64 ((M.partS ((sms xs).take k) f c false).length : Nat) ∧ Hid (wr = w.alloc (.cells #[.int .i64 0, .int .i64 0] 41))) (fun _ _ _ _ i _ => xs.length - (intOf i).toNat)
  case atStart => exact ⟨0, Nat.zero_le _, rfl, rfl, rfl, rfl, rfl, rfl⟩
  case round =>
    obtain ⟨k, hk, rfl, rfl, rfl, rfl, rfl, W⟩ := hrel
    have we := W.out
    subst we
    obtain ⟨b0, b1, b2⟩ := AA.out.in f c true k
    obtain ⟨d0, d1, d2⟩ := AA.out.in f c false k
    by_cases hlt : k < xs.length
    · obtain ⟨bl, ol, rfl, hbl, hcl⟩ := RD.out.2.2 (by intro e; rw [e] at hlt; simp at hlt)
      obtain ⟨q0, q1⟩ := hcl k hlt
      have hr := AA.out.row xs[k] (List.getElem_mem hlt)
      have ht := AA.out.tgt xs[k] (List.getElem_mem hlt)
      have fr : f < xs[k].2.1.length := by omega
      obtain ⟨bx, ox, ex, hbx, hcx⟩ := (RD.out.2.1 xs[k] (List.getElem_mem hlt)).2 (by intro e; rw [e] at fr; simp at fr)
      have hx := hcx f fr
      have sa := sms_at xs hlt
      have ec : M.colA (M.sAt (sms xs) k) f = xs[k].2.1.getD f 0 := by rw [sa]; rfl
      have et : (M.sAt (sms xs) k).2 = xs[k].2.2.2 := by rw [sa]; rfl
      obtain ⟨sm1, sm2⟩ := SM.out true k hlt
      obtain ⟨sn1, sn2⟩ := SM.out false k hlt
      rw [ec, et] at sm1 sn1
      rw [ec] at sm2 sn2
      have S1 := hide sm1
      have S2 := hide sm2
      have S3 := hide sn1
      have S4 := hide sn2
      unfold sxV at q0
      rw [ex] at q0
      have kz : (k : Int) < (xs.length : Int) := by omega
      have fz : (f : Int) < (xs[k].2.1.length : Int) := by omega
      clear sa ec et sm1 sm2 sn1 sn2 hcl hcx SM hr fr ex E1 E2 RG HL RD
      generalize xs[k].2.2.2 = t at *
      generalize xs[k].2.1.getD f 0 = v at *
      generalize xs[k].2.1.length = rl at *
      generalize xs[k].2.2.1 = rc at *
      generalize M.sumT (M.partS ((sms xs).take k) f c true) = s at *
      generalize (M.partS ((sms xs).take k) f c true).length = n at *
      generalize M.sumT (M.partS ((sms xs).take k) f c false) = s' at *
      generalize (M.partS ((sms xs).take k) f c false).length = n' at *
      obtain ⟨t0, t1⟩ := ht
      by_cases hq : v < c
      · have dq : decide (v < c) = true := decide_eq_true hq
        have z1 : Hid (M.sumT (M.partS ((sms xs).take (k + 1)) f c true) = s + t) := by unfold Hid; rw [S1.out, dq]; rfl
        have z2 : Hid ((M.partS ((sms xs).take (k + 1)) f c true).length = n + 1) := by unfold Hid; rw [S2.out, dq]; rfl
        have z3 : Hid (M.sumT (M.partS ((sms xs).take (k + 1)) f c false) = s') := by unfold Hid; rw [S3.out, dq]; rfl
        have z4 : Hid ((M.partS ((sms xs).take (k + 1)) f c false).length = n') := by unfold Hid; rw [S4.out, dq]; rfl
        clear S1 S2 S3 S4 dq
        go_wp2
        go_roundw
        case rel => exact ⟨k + 1, by omega, by go_num, by rw [z1.out], by rw [z3.out], by rw [z2.out]; go_num, by rw [z4.out], (by first | rfl | trivial)⟩
        case measure => simp [intOf]; omega
      · have dq : decide (v < c) = false := decide_eq_false hq
        have z1 : Hid (M.sumT (M.partS ((sms xs).take (k + 1)) f c true) = s) := by unfold Hid; rw [S1.out, dq]; rfl
        have z2 : Hid ((M.partS ((sms xs).take (k + 1)) f c true).length = n) := by unfold Hid; rw [S2.out, dq]; rfl
        have z3 : Hid (M.sumT (M.partS ((sms xs).take (k + 1)) f c false) = s' + t) := by unfold Hid; rw [S3.out, dq]; rfl
        have z4 : Hid ((M.partS ((sms xs).take (k + 1)) f c false).length = n' + 1) := by unfold Hid; rw [S4.out, dq]; rfl
        clear S1 S2 S3 S4
        go_wp2
        go_roundw
        case rel => exact ⟨k + 1, by omega, by go_num, by rw [z1.out], by rw [z3.out], by rw [z2.out], by rw [z4.out]; go_num, (by first | rfl | trivial)⟩
        case measure => simp [intOf]; omega
    · have ke : k = xs.length := by omega
      have kz : ¬ ((k : Int) < (xs.length : Int)) := by omega
      rw [← ke] at RG
      clear SM E1 E2 HL RD AA
      generalize M.sumT (M.partS ((sms xs).take k) f c true) = s at *
      generalize (M.partS ((sms xs).take k) f c true).length = n at *
      generalize M.sumT (M.partS ((sms xs).take k) f c false) = t at *
      generalize (M.partS ((sms xs).take k) f c false).length = q at *
      clear ke hk hlt
      by_cases h0 : least = 0
      · have re : R = ((s + t) * (s + t), (n : Int) + (q : Int)) := by rw [RG.out, if_pos h0]
        subst re
        subst h0
        obtain ⟨y0, y1⟩ := M.sq_in2 (s := s + t) (by omega) (by omega)
        have x0 : IntKind.i64.wrap (s + t) = s + t := wrap_in7 _ (by omega) (by omega)
        have x1 : IntKind.i64.wrap ((s + t) * (s + t)) = (s + t) * (s + t) := wrap_in7 _ (by omega) (by omega)
        have x2 : IntKind.i64.wrap ((n : Int) + (q : Int)) = (n : Int) + (q : Int) := wrap_in7 _ (by omega) (by omega)
        clear RG
        go_wp2
        refine bodyPost_ret (v := .agg #[.int .i64 ((s + t) * (s + t)), .int .i64 ((n : Int) + (q : Int))]) (by simp [results, Try.results12, go_sem]) rfl ⟨rfl, BW.out _⟩
      · have g0 : (least == 0) = false := by simpa using h0
        by_cases h1 : (n : Int) < least
        · have re : R = (0, 0) := by rw [RG.out, if_neg h0, if_pos (.inl h1)]
          subst re
          clear RG
          go_wp2
          refine bodyPost_ret (v := .agg #[.int .i64 (0), .int .i64 (0)]) (by simp [results, Try.results12, go_sem]) rfl ⟨rfl, BW.out _⟩
        · by_cases h2 : (q : Int) < least
          · have re : R = (0, 0) := by rw [RG.out, if_neg h0, if_pos (.inr h2)]
            subst re
            clear RG
            go_wp2
            refine bodyPost_ret (v := .agg #[.int .i64 (0), .int .i64 (0)]) (by simp [results, Try.results12, go_sem]) rfl ⟨rfl, BW.out _⟩
          · have re : R = (s * s * (q : Int) + t * t * (n : Int), (n : Int) * (q : Int)) := by rw [RG.out, if_neg h0, if_neg (by omega)]
            subst re
            obtain ⟨y0, y1⟩ := M.sq_in b0 b1
            obtain ⟨y2, y3⟩ := M.sq_in d0 d1
            obtain ⟨y4, y5⟩ := M.sqn_in b0 b1 d2
            obtain ⟨y6, y7⟩ := M.sqn_in d0 d1 b2
            have y8 : n * q ≤ 3600 := Nat.mul_le_mul b2 d2
            have y9 : (n : Int) * (q : Int) = ((n * q : Nat) : Int) := by simp
            have x1 : IntKind.i64.wrap (s * s) = s * s := wrap_in7 _ (by omega) (by omega)
            have x2 : IntKind.i64.wrap (t * t) = t * t := wrap_in7 _ (by omega) (by omega)
            have x3 : IntKind.i64.wrap (s * s * (q : Int)) = s * s * (q : Int) := wrap_in7 _ (by omega) (by omega)
            have x4 : IntKind.i64.wrap (t * t * (n : Int)) = t * t * (n : Int) := wrap_in7 _ (by omega) (by omega)
            have x5 : IntKind.i64.wrap (s * s * (q : Int) + t * t * (n : Int)) = s * s * (q : Int) + t * t * (n : Int) := wrap_in7 _ (by omega) (by omega)
            have x6 : IntKind.i64.wrap ((n : Int) * (q : Int)) = (n : Int) * (q : Int) := wrap_in7 _ (by omega) (by omega)
            clear RG y8 y9
            go_wp2
            refine bodyPost_ret (v := .agg #[.int .i64 (s * s * (q : Int) + t * t * (n : Int)), .int .i64 ((n : Int) * (q : Int))]) (by simp [results, Try.results12, go_sem]) rfl ⟨rfl, BW.out _⟩

end Go.Proofs.Ythbeoaninipadaf
