/-
  Several texts as one: RefSamp, MathSi, RefDepth, RefTree, RefReady.
-/
import Derived.Test.YtlloiccodjnkcagGreatDoorRunW7
import Derived.Test.YtlloiccodjnkcagGreatDoorRunW8
import Derived.Test.YtlloiccodjnkcagGreatDoorRunW1
import Derived.Test.YtlloiccodjnkcagGreatDoorRunW5
import Derived.Test.YtlloiccodjnkcagGreatDoorRunW6
import Derived.Deep.RegionHeld3
namespace Go.Proofs.YtlloiccodjnkcagGreatDoor
open Go.ChangeShapes Go.WideShapes Go.ChangeAt Go.RowKit Go.Lib
set_option linter.unusedVariables false

set_option maxHeartbeats 8000000 in
set_option maxRecDepth 10000 in
theorem rsamples_any (a : Option Addr) (xs : List Sx) (ca : Nat) (m : Int) (w : World) (h : RdL w a xs) :
    Calls Tryz.prog 35 #[.slice a xs.length ca, .int .i64 m] w fun e w' => e = .returned (.tuple #[.int .i64 ((M.samF (sms xs) m).1 : Nat), .int .i64 (M.samF (sms xs) m).2]) ∧ w' = w := by
  have hmx : xs.length ≤ 9223372036854775807 := h.1
  have sl := sms_len xs
  obtain ⟨V, hV⟩ : ∃ V, V = M.samF (sms xs) m := ⟨_, rfl⟩
  have EV := hide hV
  rw [← hV]
  obtain ⟨v1, v2⟩ := V
  clear hV
  by_cases h1 : 60 < xs.length
  · have E : Hid ((v1, v2) = ((0 : Nat), (4 : Int))) := by unfold Hid; rw [EV.out]; unfold M.samF; rw [if_pos (by omega)]
    have q : decide (60 < (xs.length : Int)) = true := decide_eq_true (by omega)
    clear EV h sl h1
    go_enter Tryz.func35, Tryz.ntmps35
    go_wp2
    go_ret2
    have e := E.out
    cases e
    exact ⟨rfl, rfl⟩
  · have q : decide (60 < (xs.length : Int)) = false := decide_eq_false (by omega)
    by_cases h2 : xs.length = 0
    · have E : Hid ((v1, v2) = ((0 : Nat), (5 : Int))) := by unfold Hid; rw [EV.out]; unfold M.samF; rw [if_neg (by omega), if_pos (by omega)]
      have q2 : ((xs.length : Int) == 0) = true := by rw [beq_iff_eq]; omega
      clear EV h sl h1 h2
      generalize xs.length = n at *
      go_enter Tryz.func35, Tryz.ntmps35
      go_wp2
      go_ret2
      have e := E.out
      cases e
      exact ⟨rfl, rfl⟩
    · have q2 : ((xs.length : Int) == 0) = false := by rw [beq_eq_false_iff_ne]; omega
      by_cases h3 : m < 0 ∨ 8 < m
      · have E : Hid ((v1, v2) = ((0 : Nat), (1 : Int))) := by unfold Hid; rw [EV.out]; unfold M.samF; rw [if_neg (by omega), if_neg (by omega), if_pos h3]
        by_cases h4 : m < 0
        · have q3 : decide (m < 0) = true := decide_eq_true h4
          clear EV h sl h1 h2 h3 h4
          generalize xs.length = n at *
          go_enter Tryz.func35, Tryz.ntmps35
          go_wp2
          go_ret2
          have e := E.out
          cases e
          exact ⟨rfl, rfl⟩
        · have q3 : decide (m < 0) = false := decide_eq_false h4
          have q4 : decide (8 < m) = true := decide_eq_true (by omega)
          clear EV h sl h1 h2 h3 h4
          generalize xs.length = n at *
          go_enter Tryz.func35, Tryz.ntmps35
          go_wp2
          go_ret2
          have e := E.out
          cases e
          exact ⟨rfl, rfl⟩
      · have q3 : decide (m < 0) = false := decide_eq_false (by omega)
        have q4 : decide (8 < m) = false := decide_eq_false (by omega)
        obtain ⟨mn, rfl⟩ : ∃ mn : Nat, m = (mn : Int) := ⟨m.toNat, by omega⟩
        have FA : Hid (∀ k, k < xs.length → (∀ j, j < k → M.sa1F (mn : Int) (M.sAt (sms xs) j) = 0) → M.sa1F (mn : Int) (M.sAt (sms xs) k) ≠ 0 → (v1, v2) = (k, M.sa1F (mn : Int) (M.sAt (sms xs) k))) := fun k hk hj hn => by rw [EV.out]; exact M.sam_at (by omega) (by omega) (by omega) hj hn
        have FZ : Hid ((∀ j, j < xs.length → M.sa1F (mn : Int) (M.sAt (sms xs) j) = 0) → (v1, v2) = ((0 : Nat), (0 : Int))) := fun hj => by rw [EV.out]; exact M.sam_all (by omega) (by omega) (by omega) (fun j hj' => hj j (by omega))
        have HL := hide h
        have m8 : mn ≤ 8 := by omega
        have SA : Hid (∀ k (hk : k < xs.length), M.sAt (sms xs) k = sm xs[k]) := fun k hk => sms_at xs hk
        have LX := hide sl
        clear EV h sl h1 h2 h3
        go_enter Tryz.func35, Tryz.ntmps35
        go_wp2
        go_loopw [6] (fun i wr => ∃ k : Nat, k ≤ xs.length ∧ i = .int .i64 k ∧ Hid (∀ j, j < k → M.sa1F (mn : Int) (M.sAt (sms xs) j) = 0) ∧ Hid (wr = w)) (fun i _ => xs.length - (intOf i).toNat)
        case atStart => exact ⟨0, Nat.zero_le _, rfl, fun j hj => absurd hj (Nat.not_lt_zero _), rfl⟩
        case round =>
          clear q q2 q3 q4
          obtain ⟨k, hk, rfl, HJ, W⟩ := hrel
          have we := W.out.symm
          subst we
          by_cases hlt : k < xs.length
          · obtain ⟨bl, ol, rfl, hbl, hcl⟩ := HL.out.2.2 (by intro e; rw [e] at hlt; simp at hlt)
            obtain ⟨c0, c1⟩ := hcl k hlt
            have hrw := HL.out.2.1 xs[k] (List.getElem_mem hlt)
            have RW := hide (rrow_any xs[k].1 xs[k].2.1 xs[k].2.2.1 w hrw)
            have FK := hide (FA.out k hlt HJ.out)
            have sa := SA.out k hlt
            have kz : (k : Int) < (xs.length : Int) := by omega
            have kz1 : decide ((k : Int) < (xs.length : Int)) = true := decide_eq_true kz
            unfold sxV at c0
            by_cases e1 : M.rowF xs[k].2.1 = 0
            · rw [e1] at RW
              by_cases e2 : xs[k].2.2.2 < -1000 ∨ 1000 < xs[k].2.2.2
              · have E : Hid ((v1, v2) = (k, (1 : Int))) := by
                  have z : M.sa1F (mn : Int) (M.sAt (sms xs) k) = 1 := by rw [sa]; exact M.sa1_tgt e1 e2
                  unfold Hid; rw [FK.out (by rw [z]; decide), z]
                by_cases e3 : xs[k].2.2.2 < -1000
                · have t1 : decide (xs[k].2.2.2 < -1000) = true := decide_eq_true e3
                  clear hcl hrw FK FA FZ SA HJ HL sa e1 e2 e3 LX
                  generalize xs[k].2.2.2 = t at *
                  generalize xs[k].2.1.length = rl at *
                  generalize xs[k].2.2.1 = rc at *
                  generalize xs[k].1 = ra at *
                  go_wp2_with (go_at_call 62; refine RW.out.mono ?_; rintro e w1 ⟨rfl, e1⟩; have e1' := e1.symm; subst e1')
                  go_ret2
                  have e := E.out
                  cases e
                  exact ⟨rfl, rfl⟩
                · have t1 : decide (xs[k].2.2.2 < -1000) = false := decide_eq_false e3
                  have t2 : decide (1000 < xs[k].2.2.2) = true := decide_eq_true (by omega)
                  clear hcl hrw FK FA FZ SA HJ HL sa e1 e2 e3 LX
                  generalize xs[k].2.2.2 = t at *
                  generalize xs[k].2.1.length = rl at *
                  generalize xs[k].2.2.1 = rc at *
                  generalize xs[k].1 = ra at *
                  go_wp2_with (go_at_call 62; refine RW.out.mono ?_; rintro e w1 ⟨rfl, e1⟩; have e1' := e1.symm; subst e1')
                  go_ret2
                  have e := E.out
                  cases e
                  exact ⟨rfl, rfl⟩
              · have t1 : decide (xs[k].2.2.2 < -1000) = false := decide_eq_false (by omega)
                have t2 : decide (1000 < xs[k].2.2.2) = false := decide_eq_false (by omega)
                by_cases e4 : (xs[k].2.1.length : Int) = (mn : Int)
                · have t3 : ((xs[k].2.1.length : Int) != (mn : Int)) = false := by rw [bne_eq_false_iff_eq]; exact e4
                  have E5 : Hid (M.sa1F (mn : Int) (M.sAt (sms xs) k) = if M.nilI ∈ xs[k].2.1 then 5 else 0) := by unfold Hid; rw [sa]; exact M.sa1_nil e1 e2 e4
                  have rl8 : Hid (xs[k].2.1.length = mn) := by unfold Hid; omega
                  have HRW := hide hrw
                  clear hcl hrw FA SA HL sa e1 e2 e4
                  generalize xs[k].2.2.2 = t at *
                  generalize xs[k].2.2.1 = rc at *
                  generalize xs[k].1 = ra at *
                  generalize hR : xs[k].2.1 = R at *
                  clear hR
                  go_wp2_with (go_at_call 62; refine RW.out.mono ?_; rintro e w1 ⟨rfl, e1⟩; have e1' := e1.symm; subst e1')
                  go_loopw [8] (fun i wr => ∃ q : Nat, q ≤ mn ∧ i = .int .i64 q ∧ Hid (∀ j, j < q → R.getD j 0 ≠ M.nilI) ∧ Hid (wr = w)) (fun i _ => mn - (intOf i).toNat)
                  case atStart => exact ⟨0, Nat.zero_le _, rfl, fun j hj => absurd hj (Nat.not_lt_zero _), rfl⟩
                  case round =>
                    clear t1 t2 t3 RW
                    obtain ⟨q, hq, rfl, HQ, W2⟩ := hrel
                    have we2 := W2.out.symm
                    subst we2
                    by_cases hqm : q < mn
                    · have qr : q < R.length := by have := rl8.out; omega
                      obtain ⟨bx, ox, rfl, hbx, hcx⟩ := HRW.out.2 (by intro e; rw [e] at qr; simp at qr)
                      have hx := hcx q qr
                      have qz : (q : Int) < (mn : Int) := by omega
                      have qz2 : (q : Int) < (R.length : Int) := by omega
                      by_cases hn : R.getD q 0 = M.nilI
                      · have tq : (R.getD q 0 == -1125899906842624) = true := by rw [beq_iff_eq]; exact hn
                        have E : Hid ((v1, v2) = (k, (5 : Int))) := by
                          have mem : M.nilI ∈ R := by rw [← hn, M.getD_at qr]; exact List.getElem_mem _
                          have z : M.sa1F (mn : Int) (M.sAt (sms xs) k) = 5 := by rw [E5.out, if_pos mem]
                          unfold Hid; rw [FK.out (by rw [z]; decide), z]
                        clear hn hcx FK FZ HJ HQ E5 HRW LX
                        generalize R.getD q 0 = x at *
                        generalize R.length = rl at *
                        go_wp2
                        go_ret2
                        have e := E.out
                        cases e
                        exact ⟨rfl, rfl⟩
                      · have tq : (R.getD q 0 == -1125899906842624) = false := by rw [beq_eq_false_iff_ne]; exact hn
                        have N : Hid (∀ j, j < q + 1 → R.getD j 0 ≠ M.nilI) := fun j hj => by
                          by_cases e : j = q
                          · rw [e]; exact hn
                          · exact HQ.out j (by omega)
                        clear hn hcx FK FZ HJ HQ E5 HRW LX
                        generalize R.getD q 0 = x at *
                        generalize R.length = rl at *
                        go_wp2
                        go_roundw
                        case rel => exact ⟨q + 1, by omega, by go_num, N, (by first | rfl | trivial)⟩
                        case measure => simp [intOf]; omega
                    · have qe : q = mn := by omega
                      have Z : Hid (∀ j, j < k + 1 → M.sa1F (mn : Int) (M.sAt (sms xs) j) = 0) := fun j hj => by
                        by_cases e : j = k
                        · rw [e, E5.out, if_neg]
                          intro mem
                          obtain ⟨i, hi, hi2⟩ := List.getElem_of_mem mem
                          refine HQ.out i (by have := rl8.out; omega) ?_
                          rw [M.getD_at hi]; exact hi2
                        · exact HJ.out j (by omega)
                      clear FK FZ HJ HQ E5 HRW LX
                      generalize R.length = rl at *
                      go_wp2
                      go_roundw
                      case rel => exact ⟨k + 1, by omega, by go_num, Z, (by first | rfl | trivial)⟩
                      case measure => simp [intOf]; omega
                · have t3 : ((xs[k].2.1.length : Int) != (mn : Int)) = true := by rw [bne_iff_ne]; exact e4
                  have E : Hid ((v1, v2) = (k, (3 : Int))) := by
                    have z : M.sa1F (mn : Int) (M.sAt (sms xs) k) = 3 := by rw [sa]; exact M.sa1_len e1 e2 e4
                    unfold Hid; rw [FK.out (by rw [z]; decide), z]
                  clear hcl hrw FK FA FZ SA HJ HL sa e1 e2 e4 LX
                  generalize xs[k].2.2.2 = t at *
                  generalize xs[k].2.1.length = rl at *
                  generalize xs[k].2.2.1 = rc at *
                  generalize xs[k].1 = ra at *
                  go_wp2_with (go_at_call 62; refine RW.out.mono ?_; rintro e w1 ⟨rfl, e1⟩; have e1' := e1.symm; subst e1')
                  go_ret2
                  have e := E.out
                  cases e
                  exact ⟨rfl, rfl⟩
            · have E : Hid ((v1, v2) = (k, M.rowF xs[k].2.1)) := by
                have z : M.sa1F (mn : Int) (M.sAt (sms xs) k) = M.rowF xs[k].2.1 := by rw [sa]; exact M.sa1_row e1
                unfold Hid; rw [FK.out (by rw [z]; exact e1), z]
              have t0 : (M.rowF xs[k].2.1 != 0) = true := by rw [bne_iff_ne]; exact e1
              clear hcl hrw FK FA FZ SA HJ HL sa e1 LX
              generalize M.rowF xs[k].2.1 = rf at *
              generalize xs[k].2.1.length = rl at *
              generalize xs[k].2.2.1 = rc at *
              generalize xs[k].1 = ra at *
              go_wp2_with (go_at_call 62; refine RW.out.mono ?_; rintro e w1 ⟨rfl, e1⟩; have e1' := e1.symm; subst e1')
              go_ret2
              have e := E.out
              cases e
              exact ⟨rfl, rfl⟩
          · have kz1 : decide ((k : Int) < (xs.length : Int)) = false := decide_eq_false (by omega)
            have E : Hid ((v1, v2) = ((0 : Nat), (0 : Int))) := FZ.out (fun j hj => HJ.out j (by omega))
            clear FA FZ SA HJ HL LX
            go_wp2
            go_ret2
            have e := E.out
            cases e
            exact ⟨rfl, rfl⟩

end Go.Proofs.YtlloiccodjnkcagGreatDoor

namespace Go.Proofs.YtlloiccodjnkcagGreatDoor
open Go.ChangeShapes Go.WideShapes Go.ChangeAt Go.RowKit Go.Lib
set_option linter.unusedVariables false

theorem wrap_in6 (x : Int) (h1 : -9223372036854775808 ≤ x) (h2 : x ≤ 9223372036854775807) : IntKind.i64.wrap x = x := by
  simp [IntKind.wrap, IntKind.bits, IntKind.signed]
  split <;> omega
theorem M.sq_in5 {s B : Int} (h1 : -B ≤ s) (h2 : s ≤ B) : 0 ≤ s * s ∧ s * s ≤ B * B := by
  by_cases h : 0 ≤ s
  · exact ⟨Int.mul_nonneg h h, Int.mul_le_mul h2 h2 h (by omega)⟩
  · have e : s * s = (-s) * (-s) := by grind
    rw [e]
    exact ⟨Int.mul_nonneg (by omega) (by omega), Int.mul_le_mul (by omega) (by omega) (by omega) (by omega)⟩
theorem M.wrg_in {t : List M.Nd} (hv : ∀ r, -1000000 ≤ M.nv (M.nAt t (M.toD t r 0)) ∧ M.nv (M.nAt t (M.toD t r 0)) ≤ 1000000) : ∀ {l : List M.Sa}, (∀ s ∈ l, -1000 ≤ s.2 ∧ s.2 ≤ 1000) → 0 ≤ M.wrgS t l ∧ M.wrgS t l ≤ 1002001000000 * (l.length : Nat)
  | [], _ => by simp [M.wrgS]
  | s :: l, h => by
    have ih := M.wrg_in hv (l := l) fun x hx => h x (List.mem_cons_of_mem _ hx)
    have h1 := h s (List.mem_cons_self ..)
    have h2 := hv s.1
    have q := M.sq_in5 (s := s.2 - M.nv (M.nAt t (M.toD t s.1 0))) (B := 1001000) (by omega) (by omega)
    show 0 ≤ _ + M.wrgS t l ∧ _ + M.wrgS t l ≤ _
    rw [List.length_cons]
    omega

end Go.Proofs.YtlloiccodjnkcagGreatDoor

namespace Go.Proofs.YtlloiccodjnkcagGreatDoor
open Go.ChangeShapes Go.WideShapes Go.ChangeAt Go.RowKit
set_option linter.unusedVariables false

set_option maxHeartbeats 1000000 in
theorem rdepth_any (a0 : Option Addr) (ts : List M.Nd) (cap : Nat) (m : Int) (w : World) (h : RdN w a0 ts) (hl : ts.length ≤ 63) (hf : ∀ j, j < ts.length → M.nodeF (M.nAt ts j) j ts.length m = 0) :
    ∀ (f i : Nat), i < ts.length → ts.length ≤ f + i → Calls Tryz.prog 51 #[.slice a0 ts.length cap, .int .i64 (i : Nat)] w fun e w' => e = .returned (.int .i64 (M.depth ts i : Nat)) ∧ w' = w
  | 0, i, hi, hk => by omega
  | f + 1, i, hi, hk => by
    obtain ⟨b, off, rfl, hb, hc⟩ := h.2 (by intro e; subst e; simp at hi)
    obtain ⟨s0, s1, s2, s3, s4, s5⟩ := hc i hi
    have C : Hid (∀ j : Nat, i < j → j < ts.length → Calls Tryz.prog 51 #[.slice (some ⟨b, off, none⟩) ts.length cap, .int .i64 (j : Nat)] w fun e w' => e = .returned (.int .i64 (M.depth ts j : Nat)) ∧ w' = w) :=
      fun j h1 h2 => rdepth_any _ ts cap m w h hl hf f j h2 (by omega)
    have hm : ts.length ≤ 9223372036854775807 := h.1
    by_cases hn : M.nf (M.nAt ts i) = -1
    · have E : Hid (M.depth ts i = 0) := M.depth_leaf hi hn
      have q : (M.nf (M.nAt ts i) == -1) = true := by rw [beq_iff_eq]; exact hn
      clear hn hc h hf C
      generalize M.depth ts i = o at *
      generalize M.nf (M.nAt ts i) = f at *
      go_enter Tryz.func51, Tryz.ntmps51
      go_wp2
      go_ret
      exact ⟨ret_int (by rw [E.out]; rfl), rfl⟩
    · obtain ⟨a, c, ea, ec, h1, h2, h3, h4, hac⟩ := M.ask_at hf hi hn
      have q : (M.nf (M.nAt ts i) == -1) = false := by rw [beq_eq_false_iff_ne]; exact hn
      have E : Hid (M.depth ts i = max (M.depth ts a) (M.depth ts c) + 1) := M.depth_ask hf hi hn ea ec
      have da : M.depth ts a ≤ 63 := by have := M.depth_le hf ts.length a h2 (by omega); omega
      have dc : M.depth ts c ≤ 63 := by have := M.depth_le hf ts.length c h4 (by omega); omega
      rw [ea] at s2
      rw [ec] at s3
      by_cases hlt : M.depth ts a < M.depth ts c
      · have EE : Hid (M.depth ts i = M.depth ts c + 1) := by unfold Hid; rw [E.out]; omega
        clear hn hc h hf ea ec E hac
        generalize M.depth ts i = o at *
        generalize M.nf (M.nAt ts i) = f at *
        go_enter Tryz.func51, Tryz.ntmps51
        go_wp2_with (go_at_call 51; refine (C.out _ (by assumption) (by assumption)).mono ?_; rintro e w1 ⟨rfl, rfl⟩)
        go_ret
        exact ⟨ret_int (by rw [EE.out]; omega), rfl⟩
      · have EE : Hid (M.depth ts i = M.depth ts a + 1) := by unfold Hid; rw [E.out]; omega
        have hle : M.depth ts c ≤ M.depth ts a := by omega
        clear hn hc h hf ea ec E hac
        generalize M.depth ts i = o at *
        generalize M.nf (M.nAt ts i) = f at *
        go_enter Tryz.func51, Tryz.ntmps51
        go_wp2_with (go_at_call 51; refine (C.out _ (by assumption) (by assumption)).mono ?_; rintro e w1 ⟨rfl, rfl⟩)
        go_ret
        exact ⟨ret_int (by rw [EE.out]; omega), rfl⟩

end Go.Proofs.YtlloiccodjnkcagGreatDoor

namespace Go.Proofs.YtlloiccodjnkcagGreatDoor
open Go.ChangeShapes Go.WideShapes Go.ChangeAt Go.RowKit
set_option linter.unusedVariables false

theorem two_int {n : Nat} {c : Int} {tf : Nat × Int} (h : tf = (n, c)) : Ending.returned (.tuple #[.int .i64 (n : Nat), .int .i64 c]) = .returned (.tuple #[.int .i64 (tf.1 : Nat), .int .i64 tf.2]) := by rw [h]
theorem node_alt (n : M.Nd) (i len : Nat) (m : Int) : M.nodeF n i len m = if M.nf n = -1 then (if M.outI (M.nv n) = true then 1 else if M.nc n ≠ 0 ∨ M.nl n ≠ 0 ∨ M.nr n ≠ 0 ∨ M.ns n = true then 3 else 0) else
    if M.nf n < 0 ∨ m ≤ M.nf n ∨ M.outI (M.nc n) = true ∨ M.nl n ≤ i ∨ (len : Int) ≤ M.nl n ∨ M.nr n ≤ i ∨ (len : Int) ≤ M.nr n then 1 else if M.nv n ≠ 0 ∨ M.nl n = M.nr n then 3 else 0 := by
  have hb : ∀ x : Int, M.inB x i len = false ↔ (x ≤ i ∨ (len : Int) ≤ x) := fun x => by
    unfold M.inB
    rw [Bool.and_eq_false_iff, decide_eq_false_iff_not, decide_eq_false_iff_not]
    omega
  unfold M.nodeF M.lfF M.asF
  by_cases h : M.nf n = -1
  · rw [if_pos h, if_pos h]
  · rw [if_neg h, if_neg h]
    simp only [hb, or_assoc]

set_option maxHeartbeats 16000000 in
set_option maxRecDepth 10000 in
theorem rtree_any (a0 : Option Addr) (ts : List M.Nd) (cap : Nat) (m : Int) (w : World) (h : RdN w a0 ts) :
    Calls Tryz.prog 20 #[.slice a0 ts.length cap, .int .i64 m] w fun e w' => e = .returned (.tuple #[.int .i64 ((M.treeF ts m).1 : Nat), .int .i64 (M.treeF ts m).2]) ∧ Below w.heap.size w w' := by
  have hm : ts.length ≤ 9223372036854775807 := h.1
  by_cases h63 : 63 < ts.length
  · have hd : decide ((63 : Int) < (ts.length : Int)) = true := decide_eq_true (by omega)
    have E := hide (M.tree_full (m := m) h63)
    clear h h63
    generalize M.treeF ts m = tf at *
    generalize ts.length = len at *
    go_enter Tryz.func20, Tryz.ntmps20
    go_wp2
    go_ret2
    exact ⟨two_int E.out, Below.refl _ _⟩
  · have hd : decide ((63 : Int) < (ts.length : Int)) = false := decide_eq_false (by omega)
    by_cases h0 : ts.length = 0
    · have q0 : ((ts.length : Int) == 0) = true := by rw [beq_iff_eq]; omega
      have E := hide (M.tree_none (m := m) h0)
      clear h h63 h0
      generalize M.treeF ts m = tf at *
      generalize ts.length = len at *
      go_enter Tryz.func20, Tryz.ntmps20
      go_wp2
      go_ret2
      exact ⟨two_int E.out, Below.refl _ _⟩
    · have q0 : ((ts.length : Int) == 0) = false := by rw [beq_eq_false_iff_ne]; omega
      by_cases h1 : m < 0
      · have q1 : decide (m < 0) = true := decide_eq_true h1
        have E := hide (M.tree_range h63 h0 (.inl h1))
        clear h h63 h0 h1
        generalize M.treeF ts m = tf at *
        generalize ts.length = len at *
        go_enter Tryz.func20, Tryz.ntmps20
        go_wp2
        go_ret2
        exact ⟨two_int E.out, Below.refl _ _⟩
      · have q1 : decide (m < 0) = false := decide_eq_false h1
        by_cases h2 : 8 < m
        · have q2 : decide (8 < m) = true := decide_eq_true h2
          have E := hide (M.tree_range h63 h0 (.inr h2))
          clear h h63 h0 h1 h2
          generalize M.treeF ts m = tf at *
          generalize ts.length = len at *
          go_enter Tryz.func20, Tryz.ntmps20
          go_wp2
          go_ret2
          exact ⟨two_int E.out, Below.refl _ _⟩
        · have q2 : decide (8 < m) = false := decide_eq_false h2
          have l63 : ts.length ≤ 63 := by omega
          have TN : Hid (∀ i c, i < ts.length → M.nodeF (M.nAt ts i) i ts.length m = c → c ≠ 0 → (∀ j, j < i → M.nodeF (M.nAt ts j) j ts.length m = 0) → M.treeF ts m = (i, c)) := fun i c hi hb hc hj => by
            have := M.tree_node h63 h0 (by omega) hi (by rw [hb]; exact hc) hj
            rw [hb] at this; exact this
          have TS : Hid (∀ i, (∀ j, j < ts.length → M.nodeF (M.nAt ts j) j ts.length m = 0) → i < ts.length → 0 < i → M.ups ts i ≠ 1 → (∀ j, 0 < j → j < i → M.ups ts j = 1) → M.treeF ts m = (i, 7)) := fun i hb hi hp hu hj => M.tree_stray h63 h0 (by omega) hb hi hp hu hj
          have TF : Hid ((∀ j, j < ts.length → M.nodeF (M.nAt ts j) j ts.length m = 0) → (∀ j, 0 < j → j < ts.length → M.ups ts j = 1) → M.treeF ts m = if 10 < M.depth ts 0 then (0, 4) else (0, 0)) := fun hb hs => M.tree_fair ⟨by omega, by omega, by omega, by omega, hb, hs⟩
          have CD : Hid (∀ W, Below w.heap.size w W → (∀ j, j < ts.length → M.nodeF (M.nAt ts j) j ts.length m = 0) → Calls Tryz.prog 51 #[.slice a0 ts.length cap, .int .i64 0] W fun e w' => e = .returned (.int .i64 (M.depth ts 0 : Nat)) ∧ w' = W) := fun W hW hb => rdepth_any a0 ts cap m W (h.below hW) l63 hb ts.length 0 (by omega) (by omega)
          have DB : Hid ((∀ j, j < ts.length → M.nodeF (M.nAt ts j) j ts.length m = 0) → M.depth ts 0 ≤ 63) := fun hb => by have := M.depth_le hb ts.length 0 (by omega) (by omega); omega
          have CC := hide rcell_any
          have HR := hide h.2
          clear h h63 h0 h1 h2
          generalize M.treeF ts m = tf at *
          generalize M.depth ts 0 = dv at *
          go_enter Tryz.func20, Tryz.ntmps20
          go_wp2
          go_loopw [6] (fun i wr => ∃ k : Nat, k ≤ ts.length ∧ i = .int .i64 k ∧ Below w.heap.size w wr ∧ Hid (∀ j, j < k → M.nodeF (M.nAt ts j) j ts.length m = 0)) (fun i _ => ts.length - (intOf i).toNat)
          case atStart => exact ⟨0, Nat.zero_le _, rfl, Below.refl _ _, fun j hj => by omega⟩
          case round =>
            obtain ⟨k, hk, rfl, hbl, I⟩ := hrel
            by_cases hlt : k < ts.length
            · obtain ⟨b0, off, rfl, hb0, hc⟩ := HR.out (by intro e; subst e; simp at hlt)
              obtain ⟨s0, s1, s2, s3, s4, s5⟩ := (hc k hlt).below hbl hb0
              have NB : Hid (∀ o, Below w.heap.size w (wr.alloc o)) := fun o => hbl.alloc hbl.size _
              have N : Hid (M.nodeF (M.nAt ts k) k ts.length m = 0 → ∀ j, j < k + 1 → M.nodeF (M.nAt ts j) j ts.length m = 0) := fun hf j hj => by
                by_cases e : j = k
                · subst e; exact hf
                · exact I.out j (by omega)
              have EN : Hid (∀ c, M.nodeF (M.nAt ts k) k ts.length m = c → c ≠ 0 → tf = (k, c)) := fun c h1 h2 => TN.out k c hlt h1 h2 I.out
              have D := hide (node_alt (M.nAt ts k) k ts.length m)
              clear hc hbl TN TS TF CD DB I
              generalize M.nodeF (M.nAt ts k) k ts.length m = nfv at *
              generalize M.nf (M.nAt ts k) = f at *
              generalize M.nc (M.nAt ts k) = c at *
              generalize M.nl (M.nAt ts k) = l at *
              generalize M.nr (M.nAt ts k) = r at *
              generalize M.ns (M.nAt ts k) = sl at *
              generalize M.nv (M.nAt ts k) = v at *
              by_cases hf : f = -1
              · have qf : (f == -1) = true := by rw [beq_iff_eq]; exact hf
                cases zv : M.outI v with
                | true =>
                  have E := hide (EN.out 1 (D.out.trans (by simp [hf, zv])) (by decide))
                  clear D EN N hf
                  go_wp2_with (go_at_call 50; refine (CC.out _ _).mono ?_; rintro e w1 ⟨rfl, rfl⟩)
                  go_ret2
                  exact ⟨two_int E.out, NB.out _⟩
                | false =>
                  by_cases hc : c = 0
                  · have qc : (c != 0) = false := by rw [bne_eq_false_iff_eq]; exact hc
                    by_cases hl : l = 0
                    · have ql : (l != 0) = false := by rw [bne_eq_false_iff_eq]; exact hl
                      by_cases hr : r = 0
                      · have qr : (r != 0) = false := by rw [bne_eq_false_iff_eq]; exact hr
                        cases sl with
                        | true =>
                          have E := hide (EN.out 3 (D.out.trans (by simp [hf, zv, hc, hl, hr])) (by decide))
                          clear D EN N hf hc hl hr
                          go_wp2_with (go_at_call 50; refine (CC.out _ _).mono ?_; rintro e w1 ⟨rfl, rfl⟩)
                          go_ret2
                          exact ⟨two_int E.out, NB.out _⟩
                        | false =>
                          have E := hide (N.out (D.out.trans (by simp [hf, zv, hc, hl, hr])))
                          clear D EN N hf hc hl hr
                          go_wp2_with (go_at_call 50; refine (CC.out _ _).mono ?_; rintro e w1 ⟨rfl, rfl⟩)
                          go_roundw
                          case rel => exact ⟨k + 1, by omega, by go_num, NB.out _, E⟩
                          case measure => simp [intOf]; omega
                      · have qr : (r != 0) = true := by rw [bne_iff_ne]; exact hr
                        have E := hide (EN.out 3 (D.out.trans (by simp [hf, zv, hr])) (by decide))
                        clear D EN N hf hr
                        go_wp2_with (go_at_call 50; refine (CC.out _ _).mono ?_; rintro e w1 ⟨rfl, rfl⟩)
                        go_ret2
                        exact ⟨two_int E.out, NB.out _⟩
                    · have ql : (l != 0) = true := by rw [bne_iff_ne]; exact hl
                      have E := hide (EN.out 3 (D.out.trans (by simp [hf, zv, hl])) (by decide))
                      clear D EN N hf hl
                      go_wp2_with (go_at_call 50; refine (CC.out _ _).mono ?_; rintro e w1 ⟨rfl, rfl⟩)
                      go_ret2
                      exact ⟨two_int E.out, NB.out _⟩
                  · have qc : (c != 0) = true := by rw [bne_iff_ne]; exact hc
                    have E := hide (EN.out 3 (D.out.trans (by simp [hf, zv, hc])) (by decide))
                    clear D EN N hf hc
                    go_wp2_with (go_at_call 50; refine (CC.out _ _).mono ?_; rintro e w1 ⟨rfl, rfl⟩)
                    go_ret2
                    exact ⟨two_int E.out, NB.out _⟩
              · have qf : (f == -1) = false := by rw [beq_eq_false_iff_ne]; exact hf
                by_cases h1 : f < 0
                · have q1 : decide (f < 0) = true := decide_eq_true h1
                  have E := hide (EN.out 1 (D.out.trans (by simp [hf, h1])) (by decide))
                  clear D EN N hf h1
                  go_wp2_with (go_at_call 50; refine (CC.out _ _).mono ?_; rintro e w1 ⟨rfl, rfl⟩)
                  go_ret2
                  exact ⟨two_int E.out, NB.out _⟩
                · have q1 : decide (f < 0) = false := decide_eq_false h1
                  by_cases h2 : m ≤ f
                  · have q2 : decide (m ≤ f) = true := decide_eq_true h2
                    have E := hide (EN.out 1 (D.out.trans (by simp [hf, h2])) (by decide))
                    clear D EN N hf h2
                    go_wp2_with (go_at_call 50; refine (CC.out _ _).mono ?_; rintro e w1 ⟨rfl, rfl⟩)
                    go_ret2
                    exact ⟨two_int E.out, NB.out _⟩
                  · have q2 : decide (m ≤ f) = false := decide_eq_false h2
                    cases zc : M.outI c with
                    | true =>
                      have E := hide (EN.out 1 (D.out.trans (by simp [hf, zc])) (by decide))
                      clear D EN N hf
                      go_wp2_with (go_at_call 50; refine (CC.out _ _).mono ?_; rintro e w1 ⟨rfl, rfl⟩)
                      go_ret2
                      exact ⟨two_int E.out, NB.out _⟩
                    | false =>
                      by_cases h3 : l ≤ (k : Int)
                      · have q3 : decide (l ≤ (k : Int)) = true := decide_eq_true h3
                        have E := hide (EN.out 1 (D.out.trans (by simp [hf, h3])) (by decide))
                        clear D EN N hf h3
                        go_wp2_with (go_at_call 50; refine (CC.out _ _).mono ?_; rintro e w1 ⟨rfl, rfl⟩)
                        go_ret2
                        exact ⟨two_int E.out, NB.out _⟩
                      · have q3 : decide (l ≤ (k : Int)) = false := decide_eq_false h3
                        by_cases h4 : (ts.length : Int) ≤ l
                        · have q4 : decide ((ts.length : Int) ≤ l) = true := decide_eq_true h4
                          have E := hide (EN.out 1 (D.out.trans (by simp [hf, h4])) (by decide))
                          clear D EN N hf h4
                          go_wp2_with (go_at_call 50; refine (CC.out _ _).mono ?_; rintro e w1 ⟨rfl, rfl⟩)
                          go_ret2
                          exact ⟨two_int E.out, NB.out _⟩
                        · have q4 : decide ((ts.length : Int) ≤ l) = false := decide_eq_false h4
                          by_cases h5 : r ≤ (k : Int)
                          · have q5 : decide (r ≤ (k : Int)) = true := decide_eq_true h5
                            have E := hide (EN.out 1 (D.out.trans (by simp [hf, h5])) (by decide))
                            clear D EN N hf h5
                            go_wp2_with (go_at_call 50; refine (CC.out _ _).mono ?_; rintro e w1 ⟨rfl, rfl⟩)
                            go_ret2
                            exact ⟨two_int E.out, NB.out _⟩
                          · have q5 : decide (r ≤ (k : Int)) = false := decide_eq_false h5
                            by_cases h6 : (ts.length : Int) ≤ r
                            · have q6 : decide ((ts.length : Int) ≤ r) = true := decide_eq_true h6
                              have E := hide (EN.out 1 (D.out.trans (by simp [hf, h6])) (by decide))
                              clear D EN N hf h6
                              go_wp2_with (go_at_call 50; refine (CC.out _ _).mono ?_; rintro e w1 ⟨rfl, rfl⟩)
                              go_ret2
                              exact ⟨two_int E.out, NB.out _⟩
                            · have q6 : decide ((ts.length : Int) ≤ r) = false := decide_eq_false h6
                              by_cases hv : v = 0
                              · have qv : (v != 0) = false := by rw [bne_eq_false_iff_eq]; exact hv
                                by_cases hlr : l = r
                                · have qlr : (l == r) = true := by rw [beq_iff_eq]; exact hlr
                                  have E := hide (EN.out 3 (D.out.trans (by simp [hf, h1, h2, zc, h5, h6, hv, hlr])) (by decide))
                                  clear D EN N hf h1 h2 h5 h6 hv hlr
                                  go_wp2_with (go_at_call 50; refine (CC.out _ _).mono ?_; rintro e w1 ⟨rfl, rfl⟩)
                                  go_ret2
                                  exact ⟨two_int E.out, NB.out _⟩
                                · have qlr : (l == r) = false := by rw [beq_eq_false_iff_ne]; exact hlr
                                  have E := hide (N.out (D.out.trans (by simp [hf, h1, h2, zc, h3, h4, h5, h6, hv, hlr])))
                                  clear D EN N hf h1 h2 h3 h4 h5 h6 hv hlr
                                  go_wp2_with (go_at_call 50; refine (CC.out _ _).mono ?_; rintro e w1 ⟨rfl, rfl⟩)
                                  go_roundw
                                  case rel => exact ⟨k + 1, by omega, by go_num, NB.out _, E⟩
                                  case measure => simp [intOf]; omega
                              · have qv : (v != 0) = true := by rw [bne_iff_ne]; exact hv
                                have E := hide (EN.out 3 (D.out.trans (by simp [hf, h1, h2, zc, h3, h4, h5, h6, hv])) (by decide))
                                clear D EN N hf h1 h2 h3 h4 h5 h6 hv
                                go_wp2_with (go_at_call 50; refine (CC.out _ _).mono ?_; rintro e w1 ⟨rfl, rfl⟩)
                                go_ret2
                                exact ⟨two_int E.out, NB.out _⟩
            · have A : Hid (∀ j, j < ts.length → M.nodeF (M.nAt ts j) j ts.length m = 0) := fun j hj => I.out j (by omega)
              have D1 := hide (CD.out wr hbl A.out)
              have S1 := hide (fun i => TS.out i A.out)
              have F1 := hide (TF.out A.out)
              have db := DB.out A.out
              have HS : Hid (∀ j, j < ts.length → ∃ b off, a0 = some ⟨b, off, none⟩ ∧ SixAt wr b (off + j * 6) (M.nAt ts j)) := fun j hj => by
                obtain ⟨b0, off, e, hb0, hc⟩ := HR.out (by intro e; subst e; simp at hj)
                exact ⟨b0, off, e, (hc j hj).below hbl hb0⟩
              clear TN TS TF CD DB A I HR CC
              go_wp2
              go_loop [10] (fun i => ∃ p : Nat, 0 < p ∧ p ≤ ts.length + 1 ∧ i = .int .i64 p ∧ Hid (∀ j, 0 < j → j < p → M.ups ts j = 1)) (fun i => ts.length + 1 - (intOf i).toNat)
              case atStart => exact ⟨1, by omega, by omega, rfl, fun j h1 h2 => by omega⟩
              case round =>
                obtain ⟨p, hp0, hp, rfl, J⟩ := hrel
                by_cases hpl : p < ts.length
                · go_wp2
                  go_loop [11, 12] (fun mm kk => ∃ j : Nat, j ≤ ts.length ∧ kk = .int .i64 j ∧ mm = .int .i64 ((M.ups (ts.take j) (p : Int) : Nat) : Int)) (fun _ kk => ts.length - (intOf kk).toNat)
                  case atStart => exact ⟨0, Nat.zero_le _, rfl, rfl⟩
                  case round =>
                    obtain ⟨j, hj, rfl, rfl⟩ := hrel
                    have ub : M.ups (ts.take j) (p : Int) ≤ 126 := by
                      have := M.ups_le (ts.take j) (p : Int)
                      rw [List.length_take] at this
                      omega
                    by_cases hjl : j < ts.length
                    · obtain ⟨b0, off, rfl, s0, s1, s2, s3, s4, s5⟩ := HS.out j hjl
                      have U := hide (M.ups_take hjl (p : Int))
                      have EDG : Hid (M.edge (p : Int) ts[j] = if M.nf (M.nAt ts j) = -1 then 0 else (if M.nl (M.nAt ts j) = (p : Int) then 1 else 0) + (if M.nr (M.nAt ts j) = (p : Int) then 1 else 0)) := by unfold Hid; rw [← M.nAt_eq hjl]; rfl
                      generalize M.ups (ts.take j) (p : Int) = u at *
                      generalize M.edge (p : Int) ts[j] = ed at *
                      generalize M.nf (M.nAt ts j) = f at *
                      generalize M.nl (M.nAt ts j) = l at *
                      generalize M.nr (M.nAt ts j) = r at *
                      by_cases hf : f = -1
                      · have qf : (f == -1) = true := by rw [beq_iff_eq]; exact hf
                        have N : Hid (M.ups (ts.take (j + 1)) (p : Int) = u) := by unfold Hid; rw [U.out, EDG.out, if_pos hf]; rfl
                        clear hf U EDG
                        go_wp2
                        go_round
                        case rel => exact ⟨j + 1, by omega, by go_num, by rw [N.out]⟩
                        case measure => simp [intOf]; omega
                      · have qf : (f == -1) = false := by rw [beq_eq_false_iff_ne]; exact hf
                        by_cases h1 : l = (p : Int)
                        · have q1 : (l == (p : Int)) = true := by rw [beq_iff_eq]; exact h1
                          by_cases h2 : r = (p : Int)
                          · have q2 : (r == (p : Int)) = true := by rw [beq_iff_eq]; exact h2
                            have N : Hid (M.ups (ts.take (j + 1)) (p : Int) = u + 1 + 1) := by unfold Hid; rw [U.out, EDG.out, if_neg hf, if_pos h1, if_pos h2]
                            clear hf U EDG h1 h2
                            go_wp2
                            go_round
                            case rel => exact ⟨j + 1, by omega, by go_num, by rw [N.out]; go_num⟩
                            case measure => simp [intOf]; omega
                          · have q2 : (r == (p : Int)) = false := by rw [beq_eq_false_iff_ne]; exact h2
                            have N : Hid (M.ups (ts.take (j + 1)) (p : Int) = u + 1) := by unfold Hid; rw [U.out, EDG.out, if_neg hf, if_pos h1, if_neg h2]
                            clear hf U EDG h1 h2
                            go_wp2
                            go_round
                            case rel => exact ⟨j + 1, by omega, by go_num, by rw [N.out]; go_num⟩
                            case measure => simp [intOf]; omega
                        · have q1 : (l == (p : Int)) = false := by rw [beq_eq_false_iff_ne]; exact h1
                          by_cases h2 : r = (p : Int)
                          · have q2 : (r == (p : Int)) = true := by rw [beq_iff_eq]; exact h2
                            have N : Hid (M.ups (ts.take (j + 1)) (p : Int) = u + 1) := by unfold Hid; rw [U.out, EDG.out, if_neg hf, if_neg h1, if_pos h2]
                            clear hf U EDG h1 h2
                            go_wp2
                            go_round
                            case rel => exact ⟨j + 1, by omega, by go_num, by rw [N.out]; go_num⟩
                            case measure => simp [intOf]; omega
                          · have q2 : (r == (p : Int)) = false := by rw [beq_eq_false_iff_ne]; exact h2
                            have N : Hid (M.ups (ts.take (j + 1)) (p : Int) = u) := by unfold Hid; rw [U.out, EDG.out, if_neg hf, if_neg h1, if_neg h2]; rfl
                            clear hf U EDG h1 h2
                            go_wp2
                            go_round
                            case rel => exact ⟨j + 1, by omega, by go_num, by rw [N.out]⟩
                            case measure => simp [intOf]; omega
                    · have e : ts.take j = ts := List.take_of_length_le (by omega)
                      rw [e] at ub ⊢
                      clear e
                      by_cases hu : M.ups ts (p : Int) = 1
                      · have N : Hid (∀ j, 0 < j → j < p + 1 → M.ups ts j = 1) := fun j h1 h2 => by
                          by_cases e : j = p
                          · subst e; exact hu
                          · exact J.out j h1 (by omega)
                        have q : (((M.ups ts (p : Int) : Nat) : Int) != 1) = false := by rw [bne_eq_false_iff_eq]; omega
                        clear hu
                        generalize ((M.ups ts (p : Int) : Nat) : Int) = u at *
                        go_wp2
                        go_round
                        case rel => exact ⟨p + 1, by omega, by omega, by go_num, N⟩
                        case measure => simp [intOf]; omega
                      · have E := hide (S1.out p hpl hp0 hu J.out)
                        have q : (((M.ups ts (p : Int) : Nat) : Int) != 1) = true := by rw [bne_iff_ne]; omega
                        clear hu
                        generalize ((M.ups ts (p : Int) : Nat) : Int) = u at *
                        go_wp2
                        go_ret2
                        exact ⟨two_int E.out, hbl⟩
                · have E1 := hide (F1.out fun j h1 h2 => J.out j h1 (by omega))
                  by_cases h10 : 10 < dv
                  · have qd : decide ((10 : Int) < (dv : Int)) = true := decide_eq_true (by omega)
                    have E : Hid (tf = (0, 4)) := by have := E1.out; rw [if_pos h10] at this; exact this
                    clear E1 h10
                    go_wp2_with (go_at_call 51; refine D1.out.mono ?_; rintro e w1 ⟨rfl, rfl⟩)
                    go_ret2
                    exact ⟨two_int E.out, hbl⟩
                  · have qd : decide ((10 : Int) < (dv : Int)) = false := decide_eq_false (by omega)
                    have E : Hid (tf = (0, 0)) := by have := E1.out; rw [if_neg h10] at this; exact this
                    clear E1 h10
                    go_wp2_with (go_at_call 51; refine D1.out.mono ?_; rintro e w1 ⟨rfl, rfl⟩)
                    go_ret2
                    exact ⟨two_int E.out, hbl⟩

end Go.Proofs.YtlloiccodjnkcagGreatDoor

namespace Go.Proofs.YtlloiccodjnkcagGreatDoor
open Go.ChangeShapes Go.WideShapes Go.ChangeAt Go.RowKit Go.Lib
set_option linter.unusedVariables false

set_option maxHeartbeats 4000000 in
set_option maxRecDepth 10000 in
theorem rready_any (a b : Option Addr) (ts : List M.Nd) (xs : List Sx) (ca cb : Nat) (w : World) (ht : RdN w a ts) (h : RdL w b xs) :
    Calls Tryz.prog 13 #[.slice a ts.length ca, .slice b xs.length cb] w fun e w' => e = .returned (.int .i64 (M.rdyF ts (sms xs))) ∧ Below w.heap.size w w' := by
  have hmx : xs.length ≤ 9223372036854775807 := h.1
  have sl := sms_len xs
  by_cases h0 : xs.length = 0
  · have E : Hid (M.rdyF ts (sms xs) = 5) := by unfold Hid M.rdyF; rw [if_pos (by omega)]
    have q : ((xs.length : Int) == 0) = true := by rw [beq_iff_eq]; omega
    clear h ht h0 sl
    generalize M.rdyF ts (sms xs) = o at *
    generalize xs.length = n at *
    go_enter Tryz.func13, Tryz.ntmps13
    go_wp2
    go_ret
    exact ⟨ret_int E.out.symm, Below.refl _ _⟩
  · have q : ((xs.length : Int) == 0) = false := by rw [beq_eq_false_iff_ne]; omega
    have hp : 0 < xs.length := by omega
    obtain ⟨bl, ol, rfl, hbl, hcl⟩ := h.2.2 (by intro e; rw [e] at hp; simp at hp)
    have c0 := (hcl 0 hp).1
    simp only [Nat.zero_mul, Nat.add_zero] at c0
    unfold sxV at c0
    have e0 : (M.sAt (sms xs) 0).1.length = xs[0].2.1.length := by rw [sms_at xs hp]; rfl
    have hrl : xs[0].2.1.length ≤ 9223372036854775807 := (h.2.1 xs[0] (List.getElem_mem hp)).1
    have T := hide (rtree_any a ts ca (xs[0].2.1.length : Int) w ht)
    have S := hide (fun W (hW : Below w.heap.size w W) => rsamples_any (some ⟨bl, ol, none⟩) xs cb (xs[0].2.1.length : Int) W (h.below hW))
    have RF : M.rdyF ts (sms xs) = if (M.treeF ts (xs[0].2.1.length : Int)).2 ≠ 0 then (M.treeF ts (xs[0].2.1.length : Int)).2 else (M.samF (sms xs) (xs[0].2.1.length : Int)).2 := by unfold M.rdyF; rw [if_neg (by omega), e0]
    have nz : (0 : Int) < (xs.length : Int) := by omega
    by_cases h2 : (M.treeF ts (xs[0].2.1.length : Int)).2 = 0
    · have E : Hid (M.rdyF ts (sms xs) = (M.samF (sms xs) (xs[0].2.1.length : Int)).2) := by unfold Hid; rw [RF, if_neg (by simp [h2])]
      rw [h2] at T
      clear h ht h0 sl hcl RF h2 e0
      generalize M.rdyF ts (sms xs) = o at *
      generalize (M.samF (sms xs) (xs[0].2.1.length : Int)).2 = sf at *
      generalize (M.samF (sms xs) (xs[0].2.1.length : Int)).1 = sp at *
      generalize (M.treeF ts (xs[0].2.1.length : Int)).1 = tp at *
      generalize xs[0].2.1.length = rl at *
      generalize xs[0].2.2.1 = rc at *
      generalize xs[0].1 = ra at *
      go_enter Tryz.func13, Tryz.ntmps13
      go_wp2_with (first
        | (go_at_call 20; refine T.out.mono ?_; rintro e w1 ⟨rfl, hb1⟩; have k1 := hide hb1; clear hb1)
        | (go_at_call 35; refine (S.out _ k1.out).mono ?_; rintro e w2 ⟨rfl, e2⟩; have e2' := e2.symm; subst e2'))
      go_ret
      exact ⟨ret_int E.out.symm, k1.out⟩
    · have E : Hid (M.rdyF ts (sms xs) = (M.treeF ts (xs[0].2.1.length : Int)).2) := by unfold Hid; rw [RF, if_pos h2]
      have q2 : ((M.treeF ts (xs[0].2.1.length : Int)).2 == 0) = false := by rw [beq_eq_false_iff_ne]; exact h2
      clear h ht h0 sl hcl RF h2 e0 S
      generalize M.rdyF ts (sms xs) = o at *
      generalize (M.treeF ts (xs[0].2.1.length : Int)).1 = tp at *
      generalize (M.treeF ts (xs[0].2.1.length : Int)).2 = tf at *
      generalize xs[0].2.1.length = rl at *
      generalize xs[0].2.2.1 = rc at *
      generalize xs[0].1 = ra at *
      go_enter Tryz.func13, Tryz.ntmps13
      go_wp2_with (go_at_call 20; refine T.out.mono ?_; rintro e w1 ⟨rfl, hb1⟩; have k1 := hide hb1; clear hb1)
      go_ret
      exact ⟨ret_int E.out.symm, k1.out⟩

end Go.Proofs.YtlloiccodjnkcagGreatDoor
