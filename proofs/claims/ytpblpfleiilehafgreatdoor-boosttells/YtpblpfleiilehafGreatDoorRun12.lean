/-
  Several texts as one: RefNone, RefSamp, RefDepth.
-/
import Derived.Test.YtpblpfleiilehafGreatDoorRun11
import Derived.BigQuiet
import Derived.Deep.QuietTactic
import Derived.Test.YtpblpfleiilehafGreatDoorRun7
import Derived.Test.YtpblpfleiilehafGreatDoorRun3
namespace Go.Proofs.YtpblpfleiilehafGreatDoor
open Go.ChangeShapes Go.WideShapes Go.ChangeAt Go.RowKit
set_option linter.unusedVariables false

theorem none_any (x : Int) (w : World) : Calls Tryz.prog 49 #[.int .i64 x] w fun e w' => e = .returned (.bool (decide (x = M.nilI))) ∧ w' = w := by
  have E : Hid ((x == -1125899906842624) = decide (x = M.nilI)) := by
    unfold Hid
    by_cases h : x = M.nilI
    · rw [decide_eq_true h, beq_iff_eq]; exact h
    · rw [decide_eq_false h, beq_eq_false_iff_ne]; exact h
  go_enter Tryz.func49, Tryz.ntmps49
  go_wp2
  go_ret
  exact ⟨ret_bool E.out, rfl⟩

theorem row_hit {xs : List Int} {k : Nat} (h : k < xs.length) (hl : xs.length ≤ 8) (hb : M.badCell xs[k] = true) : M.rowF xs = 1 := by
  unfold M.rowF
  rw [if_neg (by omega), if_pos]
  rw [List.any_eq_true]; exact ⟨_, List.getElem_mem h, hb⟩
theorem row_miss {xs : List Int} {k : Nat} (hk : xs.length ≤ k) (hl : xs.length ≤ 8) (h : (xs.take k).any M.badCell = false) : M.rowF xs = 0 := by
  unfold M.rowF
  rw [List.take_of_length_le hk] at h
  rw [if_neg (by omega), h]; rfl
theorem row_next {xs : List Int} {k : Nat} (hk : k < xs.length) (h : (xs.take k).any M.badCell = false) (hb : M.badCell xs[k] = false) : (xs.take (k + 1)).any M.badCell = false := by
  rw [List.take_succ_eq_append_getElem hk, List.any_append, h]; simp [hb]

set_option maxHeartbeats 1000000 in
theorem rrow_any (a : Option Addr) (xs : List Int) (cap : Nat) (w : World) (h : Rd w a xs) :
    Calls Tryz.prog 26 #[.slice a xs.length cap] w fun e w' => e = .returned (.int .i64 (M.rowF xs)) ∧ w' = w := by
  obtain ⟨hm, hr⟩ := h
  unfold maxLen at hm
  by_cases h8 : 8 < xs.length
  · have E : Hid (4 = M.rowF xs) := by unfold Hid M.rowF; rw [if_pos h8]
    have hd : decide ((8 : Int) < (xs.length : Int)) = true := decide_eq_true (by omega)
    clear hr
    go_enter Tryz.func26, Tryz.ntmps26
    go_wp2
    go_ret
    exact ⟨ret_int E.out, rfl⟩
  · have hd : decide ((8 : Int) < (xs.length : Int)) = false := decide_eq_false (by omega)
    have RH : Hid (∀ k (h : k < xs.length), M.badCell xs[k] = true → M.rowF xs = 1) := fun k h hb => row_hit h (by omega) hb
    have RM : Hid (∀ k, xs.length ≤ k → (xs.take k).any M.badCell = false → M.rowF xs = 0) := fun k hk h => row_miss hk (by omega) h
    have HR := hide hr
    clear hr
    generalize M.rowF xs = f at *
    go_enter Tryz.func26, Tryz.ntmps26
    go_wp2
    go_loop [3] (fun i => ∃ k : Nat, k ≤ xs.length ∧ i = .int .i64 k ∧ Hid ((xs.take k).any M.badCell = false)) (fun i => xs.length - (intOf i).toNat)
    case atStart => exact ⟨0, Nat.zero_le _, rfl, by unfold Hid; simp⟩
    case round =>
      obtain ⟨k, hk, rfl, I⟩ := hrel
      by_cases hlt : k < xs.length
      · obtain ⟨b, off, rfl, hb, hc⟩ := HR.out (by intro e; subst e; simp at hlt)
        have hck := Rd.at hc k hlt
        have C1 := hide (rcell_any xs[k])
        have C2 := hide (none_any xs[k])
        have NX : Hid (M.badCell xs[k] = false → (xs.take (k + 1)).any M.badCell = false) := fun h => row_next hlt I.out h
        have HT : Hid (M.badCell xs[k] = true → f = 1) := RH.out k hlt
        have BE : Hid (M.badCell xs[k] = (!decide (xs[k] = M.nilI) && M.outI xs[k])) := rfl
        clear hc I
        generalize M.badCell xs[k] = bc at *
        generalize M.outI xs[k] = o at *
        generalize decide (xs[k] = M.nilI) = z at *
        generalize xs[k] = y at *
        cases o with
        | true =>
          cases z with
          | true =>
            have N2 := hide (NX.out BE.out)
            clear NX HT BE
            go_wp2_with (first
              | (go_at_call 48; refine (C1.out _).mono ?_; rintro e w' ⟨rfl, rfl⟩)
              | (go_at_call 49; refine (C2.out _).mono ?_; rintro e w' ⟨rfl, rfl⟩))
            go_round
            case rel => exact ⟨k + 1, by omega, by go_num, N2⟩
            case measure => simp [intOf]; omega
          | false =>
            have E := hide (HT.out BE.out)
            clear NX HT BE
            go_wp2_with (first
              | (go_at_call 48; refine (C1.out _).mono ?_; rintro e w' ⟨rfl, rfl⟩)
              | (go_at_call 49; refine (C2.out _).mono ?_; rintro e w' ⟨rfl, rfl⟩))
            go_ret
            exact ⟨ret_int E.out.symm, rfl⟩
        | false =>
          have N2 := hide (NX.out (by rw [BE.out]; simp))
          clear NX HT BE
          go_wp2_with (first
            | (go_at_call 48; refine (C1.out _).mono ?_; rintro e w' ⟨rfl, rfl⟩)
            | (go_at_call 49; refine (C2.out _).mono ?_; rintro e w' ⟨rfl, rfl⟩))
          go_round
          case rel => exact ⟨k + 1, by omega, by go_num, N2⟩
          case measure => simp [intOf]; omega
      · have E := hide (RM.out k (by omega) I.out)
        go_wp2
        go_ret
        exact ⟨ret_int E.out.symm, rfl⟩

end Go.Proofs.YtpblpfleiilehafGreatDoor

namespace Go.Proofs.YtpblpfleiilehafGreatDoor
open Go.ChangeShapes Go.WideShapes Go.ChangeAt Go.RowKit Go.Lib
set_option linter.unusedVariables false

set_option maxHeartbeats 8000000 in
set_option maxRecDepth 10000 in
theorem rsamples_any (a : Option Addr) (xs : List Sx) (ca : Nat) (m : Int) (w : World) (h : RdL w a xs) :
    Calls Tryz.prog 5 #[.slice a xs.length ca, .int .i64 m] w fun e w' => e = .returned (.tuple #[.int .i64 ((M.samF (sms xs) m).1 : Nat), .int .i64 (M.samF (sms xs) m).2]) ∧ w' = w := by
  have hmx : xs.length ≤ 9223372036854775807 := h.1
  have sl := sms_len xs
  obtain ⟨V, hV⟩ : ∃ V, V = M.samF (sms xs) m := ⟨_, rfl⟩
  have EV := hide hV
  rw [← hV]
  obtain ⟨v1, v2⟩ := V
  clear hV
  by_cases h1 : 60 < xs.length
  · have E : Hid ((v1, v2) = ((0 : Nat), (4 : Int))) := by unfold Hid; rw [EV.out]; unfold M.samF; rw [if_pos (by omega)]
    have q : decide (60 < (xs.length : Int)) = true := decide_eq_true (by omega)
    clear EV h sl h1
    go_enter Tryz.func5, Tryz.ntmps5
    go_wp2
    go_ret2
    have e := E.out
    cases e
    exact ⟨rfl, rfl⟩
  · have q : decide (60 < (xs.length : Int)) = false := decide_eq_false (by omega)
    by_cases h2 : xs.length = 0
    · have E : Hid ((v1, v2) = ((0 : Nat), (5 : Int))) := by unfold Hid; rw [EV.out]; unfold M.samF; rw [if_neg (by omega), if_pos (by omega)]
      have q2 : ((xs.length : Int) == 0) = true := by rw [beq_iff_eq]; omega
      clear EV h sl h1 h2
      generalize xs.length = n at *
      go_enter Tryz.func5, Tryz.ntmps5
      go_wp2
      go_ret2
      have e := E.out
      cases e
      exact ⟨rfl, rfl⟩
    · have q2 : ((xs.length : Int) == 0) = false := by rw [beq_eq_false_iff_ne]; omega
      by_cases h3 : m < 0 ∨ 8 < m
      · have E : Hid ((v1, v2) = ((0 : Nat), (1 : Int))) := by unfold Hid; rw [EV.out]; unfold M.samF; rw [if_neg (by omega), if_neg (by omega), if_pos h3]
        by_cases h4 : m < 0
        · have q3 : decide (m < 0) = true := decide_eq_true h4
          clear EV h sl h1 h2 h3 h4
          generalize xs.length = n at *
          go_enter Tryz.func5, Tryz.ntmps5
          go_wp2
          go_ret2
          have e := E.out
          cases e
          exact ⟨rfl, rfl⟩
        · have q3 : decide (m < 0) = false := decide_eq_false h4
          have q4 : decide (8 < m) = true := decide_eq_true (by omega)
          clear EV h sl h1 h2 h3 h4
          generalize xs.length = n at *
          go_enter Tryz.func5, Tryz.ntmps5
          go_wp2
          go_ret2
          have e := E.out
          cases e
          exact ⟨rfl, rfl⟩
      · have q3 : decide (m < 0) = false := decide_eq_false (by omega)
        have q4 : decide (8 < m) = false := decide_eq_false (by omega)
        obtain ⟨mn, rfl⟩ : ∃ mn : Nat, m = (mn : Int) := ⟨m.toNat, by omega⟩
        have FA : Hid (∀ k, k < xs.length → (∀ j, j < k → M.sa1F (mn : Int) (M.sAt (sms xs) j) = 0) → M.sa1F (mn : Int) (M.sAt (sms xs) k) ≠ 0 → (v1, v2) = (k, M.sa1F (mn : Int) (M.sAt (sms xs) k))) := fun k hk hj hn => by rw [EV.out]; exact M.sam_at (by omega) (by omega) (by omega) hj hn
        have FZ : Hid ((∀ j, j < xs.length → M.sa1F (mn : Int) (M.sAt (sms xs) j) = 0) → (v1, v2) = ((0 : Nat), (0 : Int))) := fun hj => by rw [EV.out]; exact M.sam_all (by omega) (by omega) (by omega) (fun j hj' => hj j (by omega))
        have HL := hide h
        have m8 : mn ≤ 8 := by omega
        have SA : Hid (∀ k (hk : k < xs.length), M.sAt (sms xs) k = sm xs[k]) := fun k hk => sms_at xs hk
        have LX := hide sl
        clear EV h sl h1 h2 h3
        go_enter Tryz.func5, Tryz.ntmps5
        go_wp2
        go_loopw [6] (fun i wr => ∃ k : Nat, k ≤ xs.length ∧ i = .int .i64 k ∧ Hid (∀ j, j < k → M.sa1F (mn : Int) (M.sAt (sms xs) j) = 0) ∧ Hid (wr = w)) (fun i _ => xs.length - (intOf i).toNat)
        case atStart => exact ⟨0, Nat.zero_le _, rfl, fun j hj => absurd hj (Nat.not_lt_zero _), rfl⟩
        case round =>
          clear q q2 q3 q4
          obtain ⟨k, hk, rfl, HJ, W⟩ := hrel
          have we := W.out.symm
          subst we
          by_cases hlt : k < xs.length
          · obtain ⟨bl, ol, rfl, hbl, hcl⟩ := HL.out.2.2 (by intro e; rw [e] at hlt; simp at hlt)
            obtain ⟨c0, c1⟩ := hcl k hlt
            have hrw := HL.out.2.1 xs[k] (List.getElem_mem hlt)
            have RW := hide (rrow_any xs[k].1 xs[k].2.1 xs[k].2.2.1 w hrw)
            have FK := hide (FA.out k hlt HJ.out)
            have sa := SA.out k hlt
            have kz : (k : Int) < (xs.length : Int) := by omega
            have kz1 : decide ((k : Int) < (xs.length : Int)) = true := decide_eq_true kz
            unfold sxV at c0
            by_cases e1 : M.rowF xs[k].2.1 = 0
            · rw [e1] at RW
              by_cases e2 : xs[k].2.2.2 < -1000 ∨ 1000 < xs[k].2.2.2
              · have E : Hid ((v1, v2) = (k, (1 : Int))) := by
                  have z : M.sa1F (mn : Int) (M.sAt (sms xs) k) = 1 := by rw [sa]; exact M.sa1_tgt e1 e2
                  unfold Hid; rw [FK.out (by rw [z]; decide), z]
                by_cases e3 : xs[k].2.2.2 < -1000
                · have t1 : decide (xs[k].2.2.2 < -1000) = true := decide_eq_true e3
                  clear hcl hrw FK FA FZ SA HJ HL sa e1 e2 e3 LX
                  generalize xs[k].2.2.2 = t at *
                  generalize xs[k].2.1.length = rl at *
                  generalize xs[k].2.2.1 = rc at *
                  generalize xs[k].1 = ra at *
                  go_wp2_with (go_at_call 26; refine RW.out.mono ?_; rintro e w1 ⟨rfl, e1⟩; have e1' := e1.symm; subst e1')
                  go_ret2
                  have e := E.out
                  cases e
                  exact ⟨rfl, rfl⟩
                · have t1 : decide (xs[k].2.2.2 < -1000) = false := decide_eq_false e3
                  have t2 : decide (1000 < xs[k].2.2.2) = true := decide_eq_true (by omega)
                  clear hcl hrw FK FA FZ SA HJ HL sa e1 e2 e3 LX
                  generalize xs[k].2.2.2 = t at *
                  generalize xs[k].2.1.length = rl at *
                  generalize xs[k].2.2.1 = rc at *
                  generalize xs[k].1 = ra at *
                  go_wp2_with (go_at_call 26; refine RW.out.mono ?_; rintro e w1 ⟨rfl, e1⟩; have e1' := e1.symm; subst e1')
                  go_ret2
                  have e := E.out
                  cases e
                  exact ⟨rfl, rfl⟩
              · have t1 : decide (xs[k].2.2.2 < -1000) = false := decide_eq_false (by omega)
                have t2 : decide (1000 < xs[k].2.2.2) = false := decide_eq_false (by omega)
                by_cases e4 : (xs[k].2.1.length : Int) = (mn : Int)
                · have t3 : ((xs[k].2.1.length : Int) != (mn : Int)) = false := by rw [bne_eq_false_iff_eq]; exact e4
                  have E5 : Hid (M.sa1F (mn : Int) (M.sAt (sms xs) k) = if M.nilI ∈ xs[k].2.1 then 5 else 0) := by unfold Hid; rw [sa]; exact M.sa1_nil e1 e2 e4
                  have rl8 : Hid (xs[k].2.1.length = mn) := by unfold Hid; omega
                  have HRW := hide hrw
                  clear hcl hrw FA SA HL sa e1 e2 e4
                  generalize xs[k].2.2.2 = t at *
                  generalize xs[k].2.2.1 = rc at *
                  generalize xs[k].1 = ra at *
                  generalize hR : xs[k].2.1 = R at *
                  clear hR
                  go_wp2_with (go_at_call 26; refine RW.out.mono ?_; rintro e w1 ⟨rfl, e1⟩; have e1' := e1.symm; subst e1')
                  go_loopw [8] (fun i wr => ∃ q : Nat, q ≤ mn ∧ i = .int .i64 q ∧ Hid (∀ j, j < q → R.getD j 0 ≠ M.nilI) ∧ Hid (wr = w)) (fun i _ => mn - (intOf i).toNat)
                  case atStart => exact ⟨0, Nat.zero_le _, rfl, fun j hj => absurd hj (Nat.not_lt_zero _), rfl⟩
                  case round =>
                    clear t1 t2 t3 RW
                    obtain ⟨q, hq, rfl, HQ, W2⟩ := hrel
                    have we2 := W2.out.symm
                    subst we2
                    by_cases hqm : q < mn
                    · have qr : q < R.length := by have := rl8.out; omega
                      obtain ⟨bx, ox, rfl, hbx, hcx⟩ := HRW.out.2 (by intro e; rw [e] at qr; simp at qr)
                      have hx := hcx q qr
                      have qz : (q : Int) < (mn : Int) := by omega
                      have qz2 : (q : Int) < (R.length : Int) := by omega
                      by_cases hn : R.getD q 0 = M.nilI
                      · have tq : (R.getD q 0 == -1125899906842624) = true := by rw [beq_iff_eq]; exact hn
                        have E : Hid ((v1, v2) = (k, (5 : Int))) := by
                          have mem : M.nilI ∈ R := by rw [← hn, M.getD_at qr]; exact List.getElem_mem _
                          have z : M.sa1F (mn : Int) (M.sAt (sms xs) k) = 5 := by rw [E5.out, if_pos mem]
                          unfold Hid; rw [FK.out (by rw [z]; decide), z]
                        clear hn hcx FK FZ HJ HQ E5 HRW LX
                        generalize R.getD q 0 = x at *
                        generalize R.length = rl at *
                        go_wp2
                        go_ret2
                        have e := E.out
                        cases e
                        exact ⟨rfl, rfl⟩
                      · have tq : (R.getD q 0 == -1125899906842624) = false := by rw [beq_eq_false_iff_ne]; exact hn
                        have N : Hid (∀ j, j < q + 1 → R.getD j 0 ≠ M.nilI) := fun j hj => by
                          by_cases e : j = q
                          · rw [e]; exact hn
                          · exact HQ.out j (by omega)
                        clear hn hcx FK FZ HJ HQ E5 HRW LX
                        generalize R.getD q 0 = x at *
                        generalize R.length = rl at *
                        go_wp2
                        go_roundw
                        case rel => exact ⟨q + 1, by omega, by go_num, N, (by first | rfl | trivial)⟩
                        case measure => simp [intOf]; omega
                    · have qe : q = mn := by omega
                      have Z : Hid (∀ j, j < k + 1 → M.sa1F (mn : Int) (M.sAt (sms xs) j) = 0) := fun j hj => by
                        by_cases e : j = k
                        · rw [e, E5.out, if_neg]
                          intro mem
                          obtain ⟨i, hi, hi2⟩ := List.getElem_of_mem mem
                          refine HQ.out i (by have := rl8.out; omega) ?_
                          rw [M.getD_at hi]; exact hi2
                        · exact HJ.out j (by omega)
                      clear FK FZ HJ HQ E5 HRW LX
                      generalize R.length = rl at *
                      go_wp2
                      go_roundw
                      case rel => exact ⟨k + 1, by omega, by go_num, Z, (by first | rfl | trivial)⟩
                      case measure => simp [intOf]; omega
                · have t3 : ((xs[k].2.1.length : Int) != (mn : Int)) = true := by rw [bne_iff_ne]; exact e4
                  have E : Hid ((v1, v2) = (k, (3 : Int))) := by
                    have z : M.sa1F (mn : Int) (M.sAt (sms xs) k) = 3 := by rw [sa]; exact M.sa1_len e1 e2 e4
                    unfold Hid; rw [FK.out (by rw [z]; decide), z]
                  clear hcl hrw FK FA FZ SA HJ HL sa e1 e2 e4 LX
                  generalize xs[k].2.2.2 = t at *
                  generalize xs[k].2.1.length = rl at *
                  generalize xs[k].2.2.1 = rc at *
                  generalize xs[k].1 = ra at *
                  go_wp2_with (go_at_call 26; refine RW.out.mono ?_; rintro e w1 ⟨rfl, e1⟩; have e1' := e1.symm; subst e1')
                  go_ret2
                  have e := E.out
                  cases e
                  exact ⟨rfl, rfl⟩
            · have E : Hid ((v1, v2) = (k, M.rowF xs[k].2.1)) := by
                have z : M.sa1F (mn : Int) (M.sAt (sms xs) k) = M.rowF xs[k].2.1 := by rw [sa]; exact M.sa1_row e1
                unfold Hid; rw [FK.out (by rw [z]; exact e1), z]
              have t0 : (M.rowF xs[k].2.1 != 0) = true := by rw [bne_iff_ne]; exact e1
              clear hcl hrw FK FA FZ SA HJ HL sa e1 LX
              generalize M.rowF xs[k].2.1 = rf at *
              generalize xs[k].2.1.length = rl at *
              generalize xs[k].2.2.1 = rc at *
              generalize xs[k].1 = ra at *
              go_wp2_with (go_at_call 26; refine RW.out.mono ?_; rintro e w1 ⟨rfl, e1⟩; have e1' := e1.symm; subst e1')
              go_ret2
              have e := E.out
              cases e
              exact ⟨rfl, rfl⟩
          · have kz1 : decide ((k : Int) < (xs.length : Int)) = false := decide_eq_false (by omega)
            have E : Hid ((v1, v2) = ((0 : Nat), (0 : Int))) := FZ.out (fun j hj => HJ.out j (by omega))
            clear FA FZ SA HJ HL LX
            go_wp2
            go_ret2
            have e := E.out
            cases e
            exact ⟨rfl, rfl⟩

end Go.Proofs.YtpblpfleiilehafGreatDoor

namespace Go.Proofs.YtpblpfleiilehafGreatDoor
open Go.ChangeShapes Go.WideShapes Go.ChangeAt Go.RowKit
set_option linter.unusedVariables false

set_option maxHeartbeats 1000000 in
theorem rdepth_any (a0 : Option Addr) (ts : List M.Nd) (cap : Nat) (m : Int) (w : World) (h : RdN w a0 ts) (hl : ts.length ≤ 63) (hf : ∀ j, j < ts.length → M.nodeF (M.nAt ts j) j ts.length m = 0) :
    ∀ (f i : Nat), i < ts.length → ts.length ≤ f + i → Calls Tryz.prog 59 #[.slice a0 ts.length cap, .int .i64 (i : Nat)] w fun e w' => e = .returned (.int .i64 (M.depth ts i : Nat)) ∧ w' = w
  | 0, i, hi, hk => by omega
  | f + 1, i, hi, hk => by
    obtain ⟨b, off, rfl, hb, hc⟩ := h.2 (by intro e; subst e; simp at hi)
    obtain ⟨s0, s1, s2, s3, s4, s5⟩ := hc i hi
    have C : Hid (∀ j : Nat, i < j → j < ts.length → Calls Tryz.prog 59 #[.slice (some ⟨b, off, none⟩) ts.length cap, .int .i64 (j : Nat)] w fun e w' => e = .returned (.int .i64 (M.depth ts j : Nat)) ∧ w' = w) :=
      fun j h1 h2 => rdepth_any _ ts cap m w h hl hf f j h2 (by omega)
    have hm : ts.length ≤ 9223372036854775807 := h.1
    by_cases hn : M.nf (M.nAt ts i) = -1
    · have E : Hid (M.depth ts i = 0) := M.depth_leaf hi hn
      have q : (M.nf (M.nAt ts i) == -1) = true := by rw [beq_iff_eq]; exact hn
      clear hn hc h hf C
      generalize M.depth ts i = o at *
      generalize M.nf (M.nAt ts i) = f at *
      go_enter Tryz.func59, Tryz.ntmps59
      go_wp2
      go_ret
      exact ⟨ret_int (by rw [E.out]; rfl), rfl⟩
    · obtain ⟨a, c, ea, ec, h1, h2, h3, h4, hac⟩ := M.ask_at hf hi hn
      have q : (M.nf (M.nAt ts i) == -1) = false := by rw [beq_eq_false_iff_ne]; exact hn
      have E : Hid (M.depth ts i = max (M.depth ts a) (M.depth ts c) + 1) := M.depth_ask hf hi hn ea ec
      have da : M.depth ts a ≤ 63 := by have := M.depth_le hf ts.length a h2 (by omega); omega
      have dc : M.depth ts c ≤ 63 := by have := M.depth_le hf ts.length c h4 (by omega); omega
      rw [ea] at s2
      rw [ec] at s3
      by_cases hlt : M.depth ts a < M.depth ts c
      · have EE : Hid (M.depth ts i = M.depth ts c + 1) := by unfold Hid; rw [E.out]; omega
        clear hn hc h hf ea ec E hac
        generalize M.depth ts i = o at *
        generalize M.nf (M.nAt ts i) = f at *
        go_enter Tryz.func59, Tryz.ntmps59
        go_wp2_with (go_at_call 59; refine (C.out _ (by assumption) (by assumption)).mono ?_; rintro e w1 ⟨rfl, rfl⟩)
        go_ret
        exact ⟨ret_int (by rw [EE.out]; omega), rfl⟩
      · have EE : Hid (M.depth ts i = M.depth ts a + 1) := by unfold Hid; rw [E.out]; omega
        have hle : M.depth ts c ≤ M.depth ts a := by omega
        clear hn hc h hf ea ec E hac
        generalize M.depth ts i = o at *
        generalize M.nf (M.nAt ts i) = f at *
        go_enter Tryz.func59, Tryz.ntmps59
        go_wp2_with (go_at_call 59; refine (C.out _ (by assumption) (by assumption)).mono ?_; rintro e w1 ⟨rfl, rfl⟩)
        go_ret
        exact ⟨ret_int (by rw [EE.out]; omega), rfl⟩

end Go.Proofs.YtpblpfleiilehafGreatDoor
