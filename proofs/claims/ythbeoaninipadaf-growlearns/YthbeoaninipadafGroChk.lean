/-
  What grow.checkSample and grow.Check answer, for all samples and every number.
-/
import Derived.Test.YthbeoaninipadafGroPJ
import Derived.Test.YthbeoaninipadafRowCheck
import Derived.Test.YthbeoaninipadafGroIn
import Derived.Test.YthbeoaninipadafSMath
import Derived.Deep.Cut
import Derived.Deep.CutRange
namespace Go.Proofs.Ythbeoaninipadaf
open Go.ChangeShapes Go.WideShapes Go.ChangeAt Go.RowKit Go.Lib
set_option linter.unusedVariables false

set_option maxHeartbeats 4000000 in
set_option maxRecDepth 10000 in
theorem chksample_any (ra : Option Addr) (xs : List Int) (rc : Nat) (t m : Int) (w : World) (h : Rd w ra xs) :
    Calls Try.prog 29 #[.agg #[.slice ra xs.length rc, .int .i64 t], .int .i64 m] w fun e w' => e = .returned (errV (M.sa1F m (xs, t))) ∧ Below w.heap.size w w' := by
  have hm : xs.length ≤ 9223372036854775807 := h.1
  have KA : Hid (∀ o, Below w.heap.size w (w.alloc o)) := fun o => (Below.refl _ w).alloc (Nat.le_refl _) o
  have RC := hide (fun W (hW : Below w.heap.size w W) => rcheck_any ra xs rc W (h.below hW))
  have CT := hide (fun W (hW : Below w.heap.size w W) => gcontains_any ra xs rc (-1125899906842624) W (h.below hW))
  have BX : Hid (∀ (o : Obj) W, Below (w.alloc o).heap.size (w.alloc o) W → ∀ j v, (w.alloc o).cell? ⟨w.heap.size, j, none⟩ = some v → W.cell? ⟨w.heap.size, j, none⟩ = some v) := fun o W hW j v hv => (hW.cell (p := ⟨w.heap.size, j, none⟩) (show w.heap.size < (w.alloc o).heap.size by simp)).trans hv
  obtain ⟨w1, hw1⟩ : ∃ W, W = w.alloc (.cells #[.slice ra xs.length rc, .int .i64 t] 25) := ⟨_, rfl⟩
  have K1 : Hid (Below w.heap.size w w1) := by unfold Hid; rw [hw1]; exact KA.out _
  have B1 : Hid (∀ W, Below w1.heap.size w1 W → W.cell? ⟨w.heap.size, 0, none⟩ = some (.slice ra xs.length rc) ∧ W.cell? ⟨w.heap.size, 1, none⟩ = some (.int .i64 t)) := fun W hW => by
    rw [hw1] at hW
    exact ⟨BX.out _ W hW 0 _ (World.cell?_alloc_at _ _ _ 0 rfl), BX.out _ W hW 1 _ (World.cell?_alloc_at _ _ _ 1 rfl)⟩
  have R1 := hide (RC.out w1 K1.out)
  obtain ⟨x0, x1⟩ := B1.out w1 (Below.refl _ _)
  have HW := hide hw1
  clear h KA RC BX hw1
  by_cases e1 : M.rowF xs = 0
  · rw [e1, err_nil rfl] at R1
    by_cases e2 : t < -1000 ∨ 1000 < t
    · have E : Hid ((1 : Int) = M.sa1F m (xs, t)) := (M.sa1_tgt (s := (xs, t)) e1 e2).symm
      by_cases e3 : t < -1000
      · have t1 : decide (t < -1000) = true := decide_eq_true e3
        clear e1 e2 e3 CT
        generalize M.sa1F m (xs, t) = o at *
        generalize xs.length = n at *
        go_enter Try.func29, Try.ntmps29
        go_upto_region 1 with fail
        rw [← HW.out]
        go_wp2_with (go_at_call 20; refine R1.out.mono ?_; rintro e w2 ⟨rfl, hb⟩; obtain ⟨y0, y1⟩ := B1.out w2 hb; have K2 := hide (below_on K1.out hb); clear hb)
        go_ret
        exact ⟨by rw [← E.out]; rfl, K2.out⟩
      · have t1 : decide (t < -1000) = false := decide_eq_false e3
        have t2 : decide (1000 < t) = true := decide_eq_true (by omega)
        clear e1 e2 e3 CT
        generalize M.sa1F m (xs, t) = o at *
        generalize xs.length = n at *
        go_enter Try.func29, Try.ntmps29
        go_upto_region 1 with fail
        rw [← HW.out]
        go_wp2_with (go_at_call 20; refine R1.out.mono ?_; rintro e w2 ⟨rfl, hb⟩; obtain ⟨y0, y1⟩ := B1.out w2 hb; have K2 := hide (below_on K1.out hb); clear hb)
        go_ret
        exact ⟨by rw [← E.out]; rfl, K2.out⟩
    · have t1 : decide (t < -1000) = false := decide_eq_false (by omega)
      have t2 : decide (1000 < t) = false := decide_eq_false (by omega)
      by_cases e3 : (xs.length : Int) = m
      · have q : ((xs.length : Int) != m) = false := by rw [bne_eq_false_iff_eq]; exact e3
        have E : Hid ((if decide (M.nilI ∈ xs) = true then 5 else 0 : Int) = M.sa1F m (xs, t)) := by
          unfold Hid
          rw [M.sa1_nil (s := (xs, t)) e1 e2 e3]
          by_cases z : M.nilI ∈ xs
          · rw [if_pos (decide_eq_true z), if_pos z]
          · rw [if_neg (by rw [decide_eq_false z]; decide), if_neg z]
        have CT2 : Hid (∀ W, Below w.heap.size w W → Calls Try.prog 50 #[.slice ra xs.length rc, .int .i64 (-1125899906842624)] W fun e w' => e = .returned (.bool (decide (M.nilI ∈ xs))) ∧ w' = W) := CT.out
        clear e1 e2 e3 CT
        generalize M.sa1F m (xs, t) = o at *
        generalize xs.length = n at *
        cases hd : decide (M.nilI ∈ xs) with
        | true =>
          rw [hd] at E CT2
          clear hd
          go_enter Try.func29, Try.ntmps29
          go_upto_region 1 with fail
          rw [← HW.out]
          go_wp2_with (first
            | (go_at_call 20; refine R1.out.mono ?_; rintro e w2 ⟨rfl, hb⟩; obtain ⟨y0, y1⟩ := B1.out w2 hb; have K2 := hide (below_on K1.out hb); clear hb)
            | (go_at_call 50; refine (CT2.out _ K2.out).mono ?_; rintro e w3 ⟨rfl, e3⟩; have e3' := e3.symm; subst e3'))
          go_ret
          exact ⟨by rw [← E.out]; rfl, K2.out⟩
        | false =>
          rw [hd] at E CT2
          clear hd
          go_enter Try.func29, Try.ntmps29
          go_upto_region 1 with fail
          rw [← HW.out]
          go_wp2_with (first
            | (go_at_call 20; refine R1.out.mono ?_; rintro e w2 ⟨rfl, hb⟩; obtain ⟨y0, y1⟩ := B1.out w2 hb; have K2 := hide (below_on K1.out hb); clear hb)
            | (go_at_call 50; refine (CT2.out _ K2.out).mono ?_; rintro e w3 ⟨rfl, e3⟩; have e3' := e3.symm; subst e3'))
          go_ret
          exact ⟨by rw [← E.out]; rfl, K2.out⟩
      · have q : ((xs.length : Int) != m) = true := by rw [bne_iff_ne]; exact e3
        have E : Hid ((3 : Int) = M.sa1F m (xs, t)) := (M.sa1_len (s := (xs, t)) e1 e2 e3).symm
        clear e1 e2 e3 CT
        generalize M.sa1F m (xs, t) = o at *
        generalize xs.length = n at *
        go_enter Try.func29, Try.ntmps29
        go_upto_region 1 with fail
        rw [← HW.out]
        go_wp2_with (go_at_call 20; refine R1.out.mono ?_; rintro e w2 ⟨rfl, hb⟩; obtain ⟨y0, y1⟩ := B1.out w2 hb; have K2 := hide (below_on K1.out hb); clear hb)
        go_ret
        exact ⟨by rw [← E.out]; rfl, K2.out⟩
  · have E : Hid (M.rowF xs = M.sa1F m (xs, t)) := (M.sa1_row (s := (xs, t)) e1).symm
    rw [err_some e1] at R1
    have ER : Hid (errV (M.rowF xs) = .iface 58 (.int .i64 (M.rowF xs))) := err_some e1
    clear e1 CT
    generalize M.sa1F m (xs, t) = o at *
    generalize M.rowF xs = rf at *
    generalize xs.length = n at *
    go_enter Try.func29, Try.ntmps29
    go_upto_region 1 with fail
    rw [← HW.out]
    go_wp2_with (go_at_call 20; refine R1.out.mono ?_; rintro e w2 ⟨rfl, hb⟩; obtain ⟨y0, y1⟩ := B1.out w2 hb; have K2 := hide (below_on K1.out hb); clear hb)
    go_ret
    exact ⟨by rw [← E.out, ER.out]; rfl, K2.out⟩

set_option maxHeartbeats 8000000 in
set_option maxRecDepth 10000 in
theorem grochk_any : GroCheckGives := by
  intro a xs ca m w h
  have hmx : xs.length ≤ 9223372036854775807 := h.1
  have sl := sms_len xs
  obtain ⟨V, hV⟩ : ∃ V, V = M.samF (sms xs) m := ⟨_, rfl⟩
  have EV := hide hV
  rw [← hV]
  obtain ⟨v1, v2⟩ := V
  clear hV
  by_cases h1 : 60 < xs.length
  · have E : Hid ((v1, v2) = ((0 : Nat), (4 : Int))) := by unfold Hid; rw [EV.out]; unfold M.samF; rw [if_pos (by omega)]
    have q : decide (60 < (xs.length : Int)) = true := decide_eq_true (by omega)
    clear EV h sl h1
    go_enter Try.func13, Try.ntmps13
    go_wp2
    go_ret2
    have e := E.out
    cases e
    exact ⟨rfl, Below.refl _ _⟩
  · have q : decide (60 < (xs.length : Int)) = false := decide_eq_false (by omega)
    by_cases h2 : xs.length = 0
    · have E : Hid ((v1, v2) = ((0 : Nat), (5 : Int))) := by unfold Hid; rw [EV.out]; unfold M.samF; rw [if_neg (by omega), if_pos (by omega)]
      have q2 : ((xs.length : Int) == 0) = true := by rw [beq_iff_eq]; omega
      clear EV h sl h1 h2
      generalize xs.length = n at *
      go_enter Try.func13, Try.ntmps13
      go_wp2
      go_ret2
      have e := E.out
      cases e
      exact ⟨rfl, Below.refl _ _⟩
    · have q2 : ((xs.length : Int) == 0) = false := by rw [beq_eq_false_iff_ne]; omega
      by_cases h3 : m < 0 ∨ 8 < m
      · have E : Hid ((v1, v2) = ((0 : Nat), (1 : Int))) := by unfold Hid; rw [EV.out]; unfold M.samF; rw [if_neg (by omega), if_neg (by omega), if_pos h3]
        by_cases h4 : m < 0
        · have q3 : decide (m < 0) = true := decide_eq_true h4
          clear EV h sl h1 h2 h3 h4
          generalize xs.length = n at *
          go_enter Try.func13, Try.ntmps13
          go_wp2
          go_ret2
          have e := E.out
          cases e
          exact ⟨rfl, Below.refl _ _⟩
        · have q3 : decide (m < 0) = false := decide_eq_false h4
          have q4 : decide (8 < m) = true := decide_eq_true (by omega)
          clear EV h sl h1 h2 h3 h4
          generalize xs.length = n at *
          go_enter Try.func13, Try.ntmps13
          go_wp2
          go_ret2
          have e := E.out
          cases e
          exact ⟨rfl, Below.refl _ _⟩
      · have q3 : decide (m < 0) = false := decide_eq_false (by omega)
        have q4 : decide (8 < m) = false := decide_eq_false (by omega)
        have FA : Hid (∀ k, k < xs.length → (∀ j, j < k → M.sa1F m (M.sAt (sms xs) j) = 0) → M.sa1F m (M.sAt (sms xs) k) ≠ 0 → (v1, v2) = (k, M.sa1F m (M.sAt (sms xs) k))) := fun k hk hj hn => by rw [EV.out]; exact M.sam_at (by omega) (by omega) (by omega) hj hn
        have FZ : Hid ((∀ j, j < xs.length → M.sa1F m (M.sAt (sms xs) j) = 0) → (v1, v2) = ((0 : Nat), (0 : Int))) := fun hj => by rw [EV.out]; exact M.sam_all (by omega) (by omega) (by omega) (fun j hj' => hj j (by omega))
        have HL := hide h
        have SA : Hid (∀ k (hk : k < xs.length), M.sAt (sms xs) k = sm xs[k]) := fun k hk => sms_at xs hk
        have LX := hide sl
        clear EV h sl h1 h2 h3
        go_enter Try.func13, Try.ntmps13
        go_wp2
        go_loopw [26] (fun i wr => ∃ k : Nat, k ≤ xs.length ∧ i = .int .i64 k ∧ Hid (∀ j, j < k → M.sa1F m (M.sAt (sms xs) j) = 0) ∧ Hid (Below w.heap.size w wr)) (fun i _ => xs.length - (intOf i).toNat)
        case atStart => exact ⟨0, Nat.zero_le _, rfl, fun j hj => absurd hj (Nat.not_lt_zero _), Below.refl _ _⟩
        case round =>
          clear q q2 q3 q4
          obtain ⟨k, hk, rfl, HJ, K⟩ := hrel
          by_cases hlt : k < xs.length
          · obtain ⟨bl, ol, rfl, hbl, hcl⟩ := (HL.out.below K.out).2.2 (by intro e; rw [e] at hlt; simp at hlt)
            obtain ⟨c0, c1⟩ := hcl k hlt
            have hrw := (HL.out.below K.out).2.1 xs[k] (List.getElem_mem hlt)
            have UA : Hid (∀ o, Below wr.heap.size wr (wr.alloc o)) := fun o => (Below.refl _ wr).alloc (Nat.le_refl _) o
            have CS : Hid (∀ o, Calls Try.prog 29 #[.agg #[.slice xs[k].1 xs[k].2.1.length xs[k].2.2.1, .int .i64 xs[k].2.2.2], .int .i64 m] (wr.alloc o) fun e w' => e = .returned (errV (M.sa1F m (M.sAt (sms xs) k))) ∧ Below (wr.alloc o).heap.size (wr.alloc o) w') := fun o => by
              rw [SA.out k hlt]
              exact chksample_any _ _ _ _ _ _ (hrw.below (UA.out o))
            have FK := hide (FA.out k hlt HJ.out)
            have kz : (k : Int) < (xs.length : Int) := by omega
            unfold sxV at c0
            by_cases e1 : M.sa1F m (M.sAt (sms xs) k) = 0
            · have HK : Hid (∀ j, j < k + 1 → M.sa1F m (M.sAt (sms xs) j) = 0) := fun j hj => by
                by_cases e : j = k
                · subst e; exact e1
                · exact HJ.out j (by omega)
              rw [e1, err_nil rfl] at CS
              clear hcl hrw FK FA FZ SA HJ HL e1 LX
              generalize xs[k].2.2.2 = t at *
              generalize xs[k].2.1.length = rl at *
              generalize xs[k].2.2.1 = rc at *
              generalize xs[k].1 = ra at *
              go_wp2_with (go_at_call 29; refine (CS.out _).mono ?_; rintro e w2 ⟨rfl, hb⟩; have K2 := hide (below_on K.out (below_on (UA.out _) hb)); clear hb)
              go_roundw
              case rel => exact ⟨k + 1, by omega, by go_num, HK, K2⟩
              case measure => simp [intOf]; omega
            · have E := hide (FK.out e1)
              rw [err_some e1] at CS
              have ER : Hid (errV (M.sa1F m (M.sAt (sms xs) k)) = .iface 58 (.int .i64 (M.sa1F m (M.sAt (sms xs) k)))) := err_some e1
              clear hcl hrw FK FA FZ SA HJ HL e1 LX
              generalize M.sa1F m (M.sAt (sms xs) k) = er at *
              generalize xs[k].2.2.2 = t at *
              generalize xs[k].2.1.length = rl at *
              generalize xs[k].2.2.1 = rc at *
              generalize xs[k].1 = ra at *
              go_wp2_with (go_at_call 29; refine (CS.out _).mono ?_; rintro e w2 ⟨rfl, hb⟩; have K2 := hide (below_on K.out (below_on (UA.out _) hb)); clear hb)
              go_ret2
              have e := E.out
              cases e
              exact ⟨by rw [ER.out]; rfl, K2.out⟩
          · have E := hide (FZ.out (fun j hj => HJ.out j (by omega)))
            clear FA FZ SA HJ HL LX
            go_wp2
            go_ret2
            have e := E.out
            cases e
            exact ⟨rfl, K.out⟩

end Go.Proofs.Ythbeoaninipadaf
