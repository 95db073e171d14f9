/-
  Several texts as one: BLearn, GFix, FixAny, GFill.
-/
import Derived.Test.YtpblpfleiilehafRun9
import Derived.RegionTactic
import Derived.Deep.Cut
import Derived.Deep.CutRange
import Derived.BigQuiet
import Derived.Deep.QuietTactic
import Derived.Test.YtpblpfleiilehafRun0
import Derived.Test.YtpblpfleiilehafRun8
import Derived.OwnWalk
namespace Go.Proofs.Ytpblpfleiilehaf
open Go.ChangeShapes Go.WideShapes Go.ChangeAt Go.RowKit Go.Lib
set_option linter.unusedVariables false

def GrvCheckGives : Prop := ∀ (G : Gr) (W : World), RdG W G → Calls Try.prog 24 #[G.v] W fun e w' => e = .returned (errV (M.groveF G.m)) ∧ Below W.heap.size W w'
set_option maxHeartbeats 16000000 in
set_option maxRecDepth 10000 in
theorem blearns_walk (hF : BooFitGives) (hW : BooWrongGives) (hK : GrvCheckGives) (a : Option Addr) (xs : List Sx) (ca : Nat) (m r d s : Int) (w : World) (h : RdL w a xs) :
    Calls Try.prog 6 #[.slice a xs.length ca, .int .i64 m, .int .i64 r, .int .i64 d, .int .i64 s] w fun e w' => e = .returned (.bool true) ∧ Below w.heap.size w w' := by
  have F0 := hide (fun (n : Nat) (W : World) (h : RdL W (some ⟨n + 1 + 1 + 1 + 1, 0, none⟩) (eightX n)) => hF (some ⟨n + 1 + 1 + 1 + 1, 0, none⟩) (eightX n) 4 1 1 1 100 W h)
  have es : ∀ n, sms (eightX n) = [([1], 0), ([2], 0), ([3], 8), ([4], 8)] := fun n => rfl
  have W0 : Hid (∀ (J : Gr) (n : Nat) (W : World), J.m = M.booG [([1], 0), ([2], 0), ([3], 8), ([4], 8)] 1 1 1 100 → RdG W J → RdL W (some ⟨n + 1 + 1 + 1 + 1, 0, none⟩) (eightX n) → Calls Try.prog 23 #[J.v, .slice (some ⟨n + 1 + 1 + 1 + 1, 0, none⟩) 4 4] W fun e w' => e = .returned (.tuple #[.int .i64 0, .nilIface]) ∧ Below W.heap.size W w') := fun J n W hm hJ hx => by
    have := hW J (some ⟨n + 1 + 1 + 1 + 1, 0, none⟩) (eightX n) 4 W hJ hx
    rw [es, hm, err_nil (M.boo_rest M.boo_four.1).1, (M.boo_rest M.boo_four.1).2.2.1, M.boo_four.2.2] at this
    exact this
  have L0 : Hid (∀ J : Gr, J.m = M.booG [([1], 0), ([2], 0), ([3], 8), ([4], 8)] 1 1 1 100 → J.ks.length = 2) := fun J hm => by
    rw [← tl_len J.ks]
    show (M.gt J.m).length = 2
    rw [hm]; exact M.boo_four.2.1
  simp only [es, M.boo_four.1] at F0
  rw [err_nil rfl] at F0
  simp only [Gr.v] at W0
  have R0 := hide (eight_rd w 3 25)
  have B3 := hide (eight_below w 3 25)
  unfold eightW at R0 B3
  have F1 := hide (fun W (hb : Below w.heap.size w W) => hF a xs ca m r d s W (h.below hb))
  have NB := hide Bx4.new
  have HL := hide h
  have hmx : xs.length ≤ 9223372036854775807 := h.1
  clear es
  by_cases hz : M.booF (sms xs) m r d s = 0
  · rw [err_nil hz] at F1
    by_cases r1 : r < 1
    · have t1 : decide (r < 1) = true := decide_eq_true r1
      clear hF hW hK h r1 hz
      go_enter Try.func6, Try.ntmps6
      go_upto_region 3 with (go_at_call 22; refine (F0.out w.heap.size _ R0.out).mono ?_; rintro e w1 ⟨J, rfl, hm, hg, hb⟩; have k1 := hide (below_on B3.out hb); have R1 := hide (R0.out.below hb); have HM := hide hm; have N1 := hide (NB.out w1 J hg); unfold Gr.v; clear hm hg hb)
      obtain ⟨w2, hw2⟩ : ∃ V, V = w1.alloc (grB J) := ⟨_, rfl⟩
      have X2 : Hid (Bx4 w2 w1.heap.size J) := by rw [hw2]; exact N1.out.1
      have k2 : Hid (Below w.heap.size w w2) := by rw [hw2]; exact below_on k1.out N1.out.2
      have R2 : Hid (RdL w2 (some ⟨w.heap.size + 1 + 1 + 1 + 1, 0, none⟩) (eightX w.heap.size)) := by rw [hw2]; exact R1.out.below N1.out.2
      have q2 : ((J.ks.length : Int) != 2) = false := by rw [L0.out J HM.out]; rfl
      have c0 := X2.out.c0
      have c1 := X2.out.c1
      have c2 := X2.out.c2
      have c3 := X2.out.c3
      have WW := hide (W0.out J w.heap.size w2 HM.out X2.out.rd R2.out)
      rw [← hw2]
      clear hw2 N1 k1 R1 R2 F0 R0 B3 L0 W0 HM
      go_upto_region 9 with (first
        | (go_at_call 23; refine WW.out.mono ?_; rintro e w3 ⟨rfl, hb⟩; have k3 := hide (below_on k2.out hb); clear hb)
        | (go_at_call 22; refine (F1.out _ k3.out).mono ?_; rintro e w4 ⟨P, rfl, hm, hg, hb⟩; have k4 := hide (below_on k3.out hb); have HP := hide hm; have N4 := hide (NB.out w4 P hg); unfold Gr.v; clear hm hg hb))
      clear c0 c1 c2 c3 X2 k2 WW q2
      obtain ⟨w5, hw5⟩ : ∃ V, V = w4.alloc (grB P) := ⟨_, rfl⟩
      have X5 : Hid (Bx4 w5 w4.heap.size P) := by rw [hw5]; exact N4.out.1
      have k5 : Hid (Below w.heap.size w w5) := by rw [hw5]; exact below_on k4.out N4.out.2
      rw [← hw5]
      clear hw5 N4 k4 k3 F1
      go_wp2
      go_ret
      exact ⟨rfl, k5.out⟩
    · have t1 : decide (r < 1) = false := decide_eq_false r1
      obtain ⟨b0, b1, b2, b3, b4, b5⟩ := M.boo_less hz (by omega)
      obtain ⟨_, z0, z8, _⟩ := M.boo_ok hz
      have F2 := hide (fun W (hb : Below w.heap.size w W) => hF a xs ca m (r - 1) d s W (h.below hb))
      rw [err_nil b0] at F2
      have V1 : Hid (∀ (J : Gr) (W : World), J.m = M.booG (sms xs) m r d s → RdG W J → Below w.heap.size w W → Calls Try.prog 23 #[J.v, .slice a xs.length ca] W fun e w' => e = .returned (.tuple #[.int .i64 (M.wrgG (M.booG (sms xs) m r d s) (sms xs)), .nilIface]) ∧ Below W.heap.size W w') := fun J W hm hJ hb => by
        have := hW J a xs ca W hJ (h.below hb)
        rw [hm, err_nil (M.boo_rest hz).1] at this
        exact this
      have V2 : Hid (∀ (J : Gr) (W : World), J.m = M.booG (sms xs) m (r - 1) d s → RdG W J → Below w.heap.size w W → Calls Try.prog 23 #[J.v, .slice a xs.length ca] W fun e w' => e = .returned (.tuple #[.int .i64 (M.wrgG (M.booG (sms xs) m (r - 1) d s) (sms xs)), .nilIface]) ∧ Below W.heap.size W w') := fun J W hm hJ hb => by
        have := hW J a xs ca W hJ (h.below hb)
        rw [hm, err_nil (M.boo_rest b0).1] at this
        exact this
      have CK : Hid (∀ (J : Gr) (W : World), J.m = M.booG (sms xs) m r d s → RdG W J → Calls Try.prog 24 #[J.v] W fun e w' => e = .returned .nilIface ∧ Below W.heap.size W w') := fun J W hm hJ => by
        have := hK J W hJ
        rw [hm, err_nil (M.boo_rest hz).2.2.2] at this
        exact this
      have G1 : Hid (∀ J : Gr, J.m = M.booG (sms xs) m r d s → J.ks.length = (M.gt (M.booG (sms xs) m r d s)).length ∧ ∀ k (hk : k < J.ks.length), J.ks[k].2.1.length = ((M.gt (M.booG (sms xs) m r d s)).getD k []).length) := fun J hm => by
        rw [← hm]
        exact ⟨(tl_len J.ks).symm, fun k hk => by rw [show (M.gt J.m).getD k [] = J.ks[k].2.1 from tl_at J.ks hk]⟩
      have G2 : Hid (∀ J : Gr, J.m = M.booG (sms xs) m (r - 1) d s → J.ks.length = (M.gt (M.booG (sms xs) m (r - 1) d s)).length ∧ ∀ k (hk : k < J.ks.length), J.ks[k].2.1.length = ((M.gt (M.booG (sms xs) m (r - 1) d s)).getD k []).length) := fun J hm => by
        rw [← hm]
        exact ⟨(tl_len J.ks).symm, fun k hk => by rw [show (M.gt J.m).getD k [] = J.ks[k].2.1 from tl_at J.ks hk]⟩
      have BB := hide (And.intro b1 (And.intro b2 (And.intro b3 (And.intro b4 b5))))
      have zr : 1 ≤ r := by omega
      clear hF hW hK h r1 hz b0 b1 b2 b3 b4 b5 z0
      generalize M.wrgG (M.booG (sms xs) m r d s) (sms xs) = wa at *
      generalize M.wrgG (M.booG (sms xs) m (r - 1) d s) (sms xs) = wb at *
      generalize M.booG (sms xs) m r d s = gA at *
      generalize M.booG (sms xs) m (r - 1) d s = gB at *
      go_enter Try.func6, Try.ntmps6
      go_upto_region 3 with (go_at_call 22; refine (F0.out w.heap.size _ R0.out).mono ?_; rintro e w1 ⟨J, rfl, hm, hg, hb⟩; have k1 := hide (below_on B3.out hb); have R1 := hide (R0.out.below hb); have HM := hide hm; have N1 := hide (NB.out w1 J hg); unfold Gr.v; clear hm hg hb)
      obtain ⟨w2, hw2⟩ : ∃ V, V = w1.alloc (grB J) := ⟨_, rfl⟩
      have X2 : Hid (Bx4 w2 w1.heap.size J) := by rw [hw2]; exact N1.out.1
      have k2 : Hid (Below w.heap.size w w2) := by rw [hw2]; exact below_on k1.out N1.out.2
      have R2 : Hid (RdL w2 (some ⟨w.heap.size + 1 + 1 + 1 + 1, 0, none⟩) (eightX w.heap.size)) := by rw [hw2]; exact R1.out.below N1.out.2
      have q2 : ((J.ks.length : Int) != 2) = false := by rw [L0.out J HM.out]; rfl
      have c0 := X2.out.c0
      have c1 := X2.out.c1
      have c2 := X2.out.c2
      have c3 := X2.out.c3
      have WW := hide (W0.out J w.heap.size w2 HM.out X2.out.rd R2.out)
      rw [← hw2]
      clear hw2 N1 k1 R1 R2 F0 R0 B3 L0 W0 HM
      go_upto_region 9 with (first
        | (go_at_call 23; refine WW.out.mono ?_; rintro e w3 ⟨rfl, hb⟩; have k3 := hide (below_on k2.out hb); clear hb)
        | (go_at_call 22; refine (F1.out _ k3.out).mono ?_; rintro e w4 ⟨P, rfl, hm, hg, hb⟩; have k4 := hide (below_on k3.out hb); have HP := hide hm; have N4 := hide (NB.out w4 P hg); unfold Gr.v; clear hm hg hb))
      clear c0 c1 c2 c3 X2 k2 WW q2
      obtain ⟨w5, hw5⟩ : ∃ V, V = w4.alloc (grB P) := ⟨_, rfl⟩
      have X5 : Hid (Bx4 w5 w4.heap.size P) := by rw [hw5]; exact N4.out.1
      have k5 : Hid (Below w.heap.size w w5) := by rw [hw5]; exact below_on k4.out N4.out.2
      rw [← hw5]
      clear hw5 N4 k4 k3 F1
      go_upto_region 12 with (go_at_call 22; refine (F2.out _ k5.out).mono ?_; rintro e w6 ⟨Q, rfl, hm, hg, hb⟩; have k6 := hide (below_on k5.out hb); have X6 := hide (X5.out.up hb); have HQ := hide hm; have N6 := hide (NB.out w6 Q hg); unfold Gr.v; clear hm hg hb)
      obtain ⟨w7, hw7⟩ : ∃ V, V = w6.alloc (grB Q) := ⟨_, rfl⟩
      have Y7 : Hid (Bx4 w7 w6.heap.size Q) := by rw [hw7]; exact N6.out.1
      have X7 : Hid (Bx4 w7 w4.heap.size P) := by rw [hw7]; exact X6.out.up N6.out.2
      have k7 : Hid (Below w.heap.size w w7) := by rw [hw7]; exact below_on k6.out N6.out.2
      rw [← hw7]
      clear hw7 N6 k6 k5 F2 X6 X5 NB
      have A1 := hide (fun W hJ hb => V1.out P W HP.out hJ hb)
      have A2 := hide (fun W hJ hb => V2.out Q W HQ.out hJ hb)
      have A3 := hide (fun W hJ => CK.out P W HP.out hJ)
      have L1 := hide (G1.out P HP.out)
      have L2 := hide (G2.out Q HQ.out)
      clear V1 V2 CK G1 G2 HP HQ
      unfold Gr.v at A1 A2 A3
      have pl := L1.out.1
      have ql := L2.out.1
      have g1 : decide (r + 1 < (P.ks.length : Int)) = false := decide_eq_false (by have := BB.out.1; omega)
      have g2 : decide ((P.ks.length : Int) < (Q.ks.length : Int)) = false := decide_eq_false (by have := BB.out.2.1; omega)
      have g3 : decide (P.ks.length < Q.ks.length) = false := decide_eq_false (by have := BB.out.2.1; omega)
      have SL : Hid (∀ k (hk : k < Q.ks.length) (hk1 : k < P.ks.length), P.ks[k].2.1.length = Q.ks[k].2.1.length) := fun k hk hk1 => by
        rw [L1.out.2 k hk1, L2.out.2 k hk]
        exact BB.out.2.2.1 k (by rw [← ql]; exact hk)
      have QP : Hid (Q.ks.length ≤ P.ks.length) := by have := BB.out.2.1; unfold Hid; omega
      have E1 : Hid (P.ks.length = Q.ks.length → wa = wb) := fun e => BB.out.2.2.2.1 (by omega)
      have E2 : Hid (P.ks.length ≠ Q.ks.length → wa < wb) := fun e => BB.out.2.2.2.2 (by omega)
      clear pl ql L1 L2 BB
      have x0 := X7.out.c0
      have x1 := X7.out.c1
      have x2 := X7.out.c2
      have x3 := X7.out.c3
      go_upto_region 14 with (first
        | (go_at_call 23; have lean := k8; refine (A2.out _ Y8.out.rd k8.out).mono ?_; rintro e w9 ⟨rfl, hb⟩; have k9 := hide (below_on k8.out hb); have X9 := hide (X8.out.up hb); have Y9 := hide (Y8.out.up hb); clear hb)
        | (go_at_call 23; refine (A1.out _ X7.out.rd k7.out).mono ?_; rintro e w8 ⟨rfl, hb⟩; have k8 := hide (below_on k7.out hb); have X8 := hide (X7.out.up hb); have Y8 := hide (Y7.out.up hb); have y0 := Y8.out.c0; have y1 := Y8.out.c1; have y2 := Y8.out.c2; have y3 := Y8.out.c3; clear hb))
      clear x0 x1 x2 x3 y0 y1 y2 y3 A1 A2 X7 X8 Y7 Y8 k7 k8
      have x0 := X9.out.c0
      have x1 := X9.out.c1
      have x2 := X9.out.c2
      have x3 := X9.out.c3
      have y3 := Y9.out.c3
      go_upto_region 16 with (go_at_call 24; refine (A3.out _ X9.out.rd).mono ?_; rintro e w10 ⟨rfl, hb⟩; have k10 := hide (below_on k9.out hb); have X10 := hide (X9.out.up hb); have Y10 := hide (Y9.out.up hb); have v3 := X10.out.c3; have u3 := Y10.out.c3; clear hb)
      clear x0 x1 x2 x3 y3 v3 u3 A3 X9 Y9 k9 g1 g2 g3
      have qm : Q.ks.length ≤ 9223372036854775807 := Y10.out.rd.2.1
      have pm : P.ks.length ≤ 9223372036854775807 := X10.out.rd.2.1
      go_wp2
      go_loopw [24] (fun i' wr => ∃ k : Nat, k ≤ Q.ks.length ∧ i' = .int .i64 k ∧ Hid (Below w10.heap.size w10 wr)) (fun i' _ => Q.ks.length - (intOf i').toNat)
      case atStart => exact ⟨0, Nat.zero_le _, rfl, Below.refl _ _⟩
      case round =>
        obtain ⟨k, hk, rfl, K⟩ := hrel
        have x3 := (X10.out.up K.out).c3
        have y3 := (Y10.out.up K.out).c3
        by_cases hlt : k < Q.ks.length
        · have hlt2 : k < P.ks.length := by have := QP.out; omega
          have kz : (k : Int) < (Q.ks.length : Int) := by omega
          have kz2 : (k : Int) < (P.ks.length : Int) := by omega
          obtain ⟨b1, o1, e1, l1, h1⟩ := (X10.out.up K.out).rd.2.2.2 (by intro e; rw [e] at hlt2; simp at hlt2)
          obtain ⟨b2, o2, e2, l2, h2⟩ := (Y10.out.up K.out).rd.2.2.2 (by intro e; rw [e] at hlt; simp at hlt)
          have r1 := h1 k hlt2
          have r2 := h2 k hlt
          unfold tV at r1 r2
          rw [SL.out k hlt hlt2] at r1
          rw [e1] at x3
          rw [e2] at y3
          have tq : ((Q.ks[k].2.1.length : Int) != (Q.ks[k].2.1.length : Int)) = false := by simp
          have KD := hide (fun q => K.out.trans (below_drew (Below.refl _ _) q K.out.size))
          clear h1 h2 e1 e2 SL E1 E2 X10 Y10
          generalize Q.ks[k].2.1.length = tn at *
          generalize P.ks[k].2.2 = pc at *
          generalize P.ks[k].1 = pa at *
          generalize Q.ks[k].2.2 = qc at *
          generalize Q.ks[k].1 = qa at *
          go_upto_region 19 with fail
          go_quiet (fail)
          go_wp2
          go_roundw
          case rel => exact ⟨k + 1, by omega, by go_num, KD.out _⟩
          case measure => simp [intOf]; omega
        · have kz : ¬ ((k : Int) < (Q.ks.length : Int)) := by omega
          have KE := hide (below_on k10.out K.out)
          clear SL X10 Y10 K k10 hlt hk
          by_cases he : P.ks.length = Q.ks.length
          · have t2 : ((P.ks.length : Int) == (Q.ks.length : Int)) = true := by rw [he]; simp
            have t3 : (wa == wb) = true := by rw [E1.out he]; simp
            clear E1 E2 he
            go_wp2
            go_ret
            exact ⟨rfl, KE.out⟩
          · have t2 : ((P.ks.length : Int) == (Q.ks.length : Int)) = false := by rw [beq_eq_false_iff_ne]; omega
            have t3 : decide (wa < wb) = true := decide_eq_true (E2.out he)
            clear E1 E2 he
            go_wp2
            go_ret
            exact ⟨rfl, KE.out⟩
  · rw [err_some hz] at F1
    clear hF hW hK h
    generalize M.booF (sms xs) m r d s = bf at *
    go_enter Try.func6, Try.ntmps6
    go_upto_region 3 with (go_at_call 22; refine (F0.out w.heap.size _ R0.out).mono ?_; rintro e w1 ⟨J, rfl, hm, hg, hb⟩; have k1 := hide (below_on B3.out hb); have R1 := hide (R0.out.below hb); have HM := hide hm; have N1 := hide (NB.out w1 J hg); unfold Gr.v; clear hm hg hb)
    obtain ⟨w2, hw2⟩ : ∃ V, V = w1.alloc (grB J) := ⟨_, rfl⟩
    have X2 : Hid (Bx4 w2 w1.heap.size J) := by rw [hw2]; exact N1.out.1
    have k2 : Hid (Below w.heap.size w w2) := by rw [hw2]; exact below_on k1.out N1.out.2
    have R2 : Hid (RdL w2 (some ⟨w.heap.size + 1 + 1 + 1 + 1, 0, none⟩) (eightX w.heap.size)) := by rw [hw2]; exact R1.out.below N1.out.2
    have q2 : ((J.ks.length : Int) != 2) = false := by rw [L0.out J HM.out]; rfl
    have c0 := X2.out.c0
    have c1 := X2.out.c1
    have c2 := X2.out.c2
    have c3 := X2.out.c3
    have WW := hide (W0.out J w.heap.size w2 HM.out X2.out.rd R2.out)
    rw [← hw2]
    clear hw2 N1 k1 R1 R2 F0 R0 B3 L0 W0 HM
    go_upto_region 9 with (first
      | (go_at_call 23; refine WW.out.mono ?_; rintro e w3 ⟨rfl, hb⟩; have k3 := hide (below_on k2.out hb); clear hb)
      | (go_at_call 22; refine (F1.out _ k3.out).mono ?_; rintro e w4 ⟨P, rfl, hm, hg, hb⟩; have k4 := hide (below_on k3.out hb); have HP := hide hm; have N4 := hide (NB.out w4 P hg); unfold Gr.v; clear hm hg hb))
    clear c0 c1 c2 c3 X2 k2 WW q2
    obtain ⟨w5, hw5⟩ : ∃ V, V = w4.alloc (grB P) := ⟨_, rfl⟩
    have X5 : Hid (Bx4 w5 w4.heap.size P) := by rw [hw5]; exact N4.out.1
    have k5 : Hid (Below w.heap.size w w5) := by rw [hw5]; exact below_on k4.out N4.out.2
    rw [← hw5]
    clear hw5 N4 k4 k3 F1
    go_wp2
    go_ret
    exact ⟨rfl, k5.out⟩

end Go.Proofs.Ytpblpfleiilehaf

namespace Go.Proofs.Ytpblpfleiilehaf
open Go.ChangeShapes Go.WideShapes Go.ChangeAt Go.RowKit Go.Lib
set_option linter.unusedVariables false

theorem fit_in (n : Int) (w : World) (h1 : -1099511627776 ≤ n) (h2 : n ≤ 1099511627776) :
    Calls Try.prog 93 #[.int .i64 n] w fun e w' => e = .returned (.int .i64 n) ∧ w' = w := by
  go_enter Try.func93, Try.ntmps93
  go_wp2
  go_ret
  exact ⟨rfl, rfl⟩

theorem size_pos (n : Int) (w : World) (h1 : 0 ≤ n) (h2 : n ≤ 1099511627776) :
    Calls Try.prog 94 #[.int .i64 n] w fun e w' => e = .returned (.int .i64 n) ∧ w' = w := by
  go_enter Try.func94, Try.ntmps94
  go_wp2
  go_ret
  exact ⟨rfl, rfl⟩

theorem size_neg (n X : Int) (w : World) (E : Hid (-n = X)) (h1 : -1099511627776 ≤ n) (h2 : n < 0) :
    Calls Try.prog 94 #[.int .i64 n] w fun e w' => e = .returned (.int .i64 X) ∧ w' = w := by
  go_enter Try.func94, Try.ntmps94
  go_wp2
  go_ret
  exact ⟨ret_int E.out, rfl⟩

theorem add_in (a b : Int) (w : World) (a1 : -549755813888 ≤ a) (a2 : a ≤ 549755813888) (b1 : -549755813888 ≤ b) (b2 : b ≤ 549755813888) :
    Calls Try.prog 95 #[.int .i64 a, .int .i64 b] w fun e w' => e = .returned (.int .i64 (a + b)) ∧ w' = w := by
  go_enter Try.func95, Try.ntmps95
  go_wp2_with (go_at_call 93; refine (fit_in _ _ (by omega) (by omega)).mono ?_; rintro e w' ⟨rfl, rfl⟩)
  go_ret
  exact ⟨rfl, rfl⟩

theorem M.mul_far {a b : Int} (a1 : -1000000 ≤ a) (a2 : a ≤ 1000000) (b1 : 1 ≤ b) (b2 : b ≤ 1000) : -1000000000 ≤ a * b ∧ a * b ≤ 1000000000 := by
  have h1 : a * b ≤ 1000000 * b := Int.mul_le_mul_of_nonneg_right a2 (by omega)
  have h2 : -1000000 * b ≤ a * b := Int.mul_le_mul_of_nonneg_right a1 (by omega)
  omega
theorem M.quo_far {x b : Int} (x1 : 0 < x) (x2 : x ≤ 1000000) (b1 : 1 ≤ b) (b2 : b ≤ 1000) : b ≤ 1099511627776 / x := by
  rw [Int.le_ediv_iff_mul_le x1]
  have h1 : x * b ≤ 1000000 * b := Int.mul_le_mul_of_nonneg_right x2 (by omega)
  rw [Int.mul_comm]
  omega

set_option maxHeartbeats 1000000 in
theorem mul_small (a b : Int) (w : World) (a1 : -1000000 ≤ a) (a2 : a ≤ 1000000) (b1 : 1 ≤ b) (b2 : b ≤ 1000) :
    Calls Try.prog 76 #[.int .i64 a, .int .i64 b] w fun e w' => e = .returned (.int .i64 (a * b)) ∧ w' = w := by
  obtain ⟨m1, m2⟩ := M.mul_far a1 a2 b1 b2
  rcases (show a = 0 ∨ 0 < a ∨ a < 0 from by omega) with h0 | h0 | h0
  · have E : Hid (0 = a * b) := by unfold Hid; rw [h0, Int.zero_mul]
    have hz : (a == 0) = true := by rw [h0]; rfl
    clear h0
    go_enter Try.func76, Try.ntmps76
    go_wp2_with (go_at_call 93; refine (fit_in _ _ (by omega) (by omega)).mono ?_; rintro e w' ⟨rfl, rfl⟩)
    go_ret
    exact ⟨rfl, rfl⟩
  · have hz : (a == 0) = false := by simp; omega
    have hq := M.quo_far h0 a2 b1 b2
    go_enter Try.func76, Try.ntmps76
    go_wp2_with (first | (go_at_call 93; refine (fit_in _ _ (by omega) (by omega)).mono ?_; rintro e w' ⟨rfl, rfl⟩) | (go_at_call 94; refine (size_pos _ _ (by omega) (by omega)).mono ?_; rintro e w' ⟨rfl, rfl⟩))
    go_ret
    exact ⟨rfl, rfl⟩
  · have hz : (a == 0) = false := by simp; omega
    obtain ⟨X, hX⟩ : ∃ X, -a = X := ⟨_, rfl⟩
    have x1 : 0 < X := by omega
    have x2 : X ≤ 1000000 := by omega
    have hq := M.quo_far x1 x2 b1 b2
    have HX := hide hX
    clear hX
    go_enter Try.func76, Try.ntmps76
    go_wp2_with (first | (go_at_call 93; refine (fit_in _ _ (by omega) (by omega)).mono ?_; rintro e w' ⟨rfl, rfl⟩) | (go_at_call 94; refine (size_pos _ _ (by omega) (by omega)).mono ?_; rintro e w' ⟨rfl, rfl⟩) | (go_at_call 94; refine (size_neg _ X _ HX (by omega) (by omega)).mono ?_; rintro e w' ⟨rfl, rfl⟩))
    go_ret
    exact ⟨rfl, rfl⟩

set_option maxHeartbeats 1000000 in
theorem total_in (a : Option Addr) (ws : List Int) (ca : Nat) (w : World) (h : Rd w a ws) (h0 : 0 < ws.length) (n12 : ws.length ≤ 12) (hx : ∀ i, i < ws.length → 1 ≤ ws.getD i 0 ∧ ws.getD i 0 ≤ 1000) :
    Calls Try.prog 77 #[.slice a ws.length ca] w fun e w' => e = .returned (.int .i64 (M.allK ws ws.length)) ∧ w' = w := by
  obtain ⟨ba, oa, rfl, hba, hca⟩ := h.2 (by intro e; rw [e] at h0; simp at h0)
  have HC := hide hca
  have HX := hide hx
  have SB := hide (fun k (hk : k ≤ ws.length) => M.all_pos (ws := ws) k (fun i hi => hx i (by omega)))
  clear h hca hx hba h0
  go_enter Try.func77, Try.ntmps77
  go_wp2
  go_loopw [3, 8] (fun s i wr => ∃ k : Nat, k ≤ ws.length ∧ s = .int .i64 (M.allK ws k) ∧ i = .int .i64 k ∧ wr = w) (fun _ i _ => ws.length - (intOf i).toNat)
  case atStart => exact ⟨0, Nat.zero_le _, rfl, rfl, rfl⟩
  case round =>
    obtain ⟨k, hk, rfl, rfl, ew⟩ := hrel
    subst wr
    by_cases hlt : k < ws.length
    · have c1 := HC.out k hlt
      obtain ⟨x1, x2⟩ := HX.out k hlt
      obtain ⟨s1, s2⟩ := SB.out k hk
      have SS : Hid (M.allK ws k + ws.getD k 0 = M.allK ws (k + 1)) := rfl
      have kz : (k : Int) < (ws.length : Int) := by omega
      clear HC HX SB
      generalize ws.getD k 0 = x at *
      go_wp2_with (go_at_call 95; refine (add_in _ _ _ (by omega) (by omega) (by omega) (by omega)).mono ?_; rintro e w1 ⟨rfl, e1⟩; subst w1)
      go_roundw
      case rel => exact ⟨k + 1, by omega, by rw [SS.out], by go_num, (by first | rfl | trivial)⟩
      case measure => simp [intOf]; omega
    · have ek : k = ws.length := by omega
      have EE := hide ek
      clear ek HC HX SB
      go_wp2
      go_ret
      exact ⟨ret_int (by rw [EE.out]), rfl⟩

end Go.Proofs.Ytpblpfleiilehaf

namespace Go.Proofs.Ytpblpfleiilehaf
open Go.ChangeShapes Go.WideShapes Go.ChangeAt Go.RowKit Go.Lib
set_option linter.unusedVariables false

theorem xfit_any (n : Int) (w : World) :
    Calls Try.prog 93 #[.int .i64 n] w fun e w' => e = .returned (.int .i64 (M.fitI n)) ∧ w' = w := by
  rcases (show 1099511627776 < n ∨ n < -1099511627776 ∨ (-1099511627776 ≤ n ∧ n ≤ 1099511627776) from by omega) with h | h | ⟨h1, h2⟩
  · have E : Hid (1099511627776 = M.fitI n) := by unfold M.fitI; rw [if_pos h]; exact rfl
    go_enter Try.func93, Try.ntmps93
    go_wp2
    go_ret
    exact ⟨ret_int E.out, rfl⟩
  · have E : Hid (-1099511627776 = M.fitI n) := by unfold M.fitI; rw [if_neg (by omega), if_pos h]; exact rfl
    go_enter Try.func93, Try.ntmps93
    go_wp2
    go_ret
    exact ⟨ret_int E.out, rfl⟩
  · have E : Hid (n = M.fitI n) := (M.fit_id ⟨h1, h2⟩).symm
    go_enter Try.func93, Try.ntmps93
    go_wp2
    go_ret
    exact ⟨ret_int E.out, rfl⟩

theorem xadd_any (a b : Int) (w : World) :
    Calls Try.prog 95 #[.int .i64 a, .int .i64 b] w fun e w' => e = .returned (.int .i64 (M.addI a b)) ∧ w' = w := by
  obtain ⟨a1, a2⟩ := M.fit_le a
  obtain ⟨b1, b2⟩ := M.fit_le b
  go_enter Try.func95, Try.ntmps95
  go_wp2_with (go_at_call 93; refine (xfit_any _ _).mono ?_; rintro e w' ⟨rfl, rfl⟩)
  go_ret
  exact ⟨rfl, rfl⟩

set_option maxHeartbeats 1000000 in
theorem xsq_any (a : Int) (w : World) :
    Calls Try.prog 76 #[.int .i64 a, .int .i64 a] w fun e w' => e = .returned (.int .i64 (M.mulI a a)) ∧ w' = w := by
  obtain ⟨a1, a2⟩ := M.fit_le a
  rcases (show M.fitI a = 0 ∨ 0 < M.fitI a ∨ M.fitI a < 0 from by omega) with h0 | h0 | h0
  · have Z := hide (M.mul_zl (b := a) h0)
    go_enter Try.func76, Try.ntmps76
    go_wp2_with (go_at_call 93; refine (xfit_any _ _).mono ?_; rintro e w' ⟨rfl, rfl⟩)
    go_ret
    exact ⟨ret_int (by simpa using Z.out), rfl⟩
  · have hz : (M.fitI a == 0) = false := by simp; omega
    have hsa : decide (M.fitI a < 0) = false := by simp; omega
    have hs := M.sg_pp (x := M.fitI a) (y := M.fitI a) (by omega) (by omega)
    have Q := hide (M.quo_pp (y := M.fitI a) h0)
    by_cases ht : M.fitI a ≤ 1099511627776 / M.fitI a
    · have hm : M.fitI a * M.fitI a ≤ 1099511627776 := Q.out ▸ ht
      go_enter Try.func76, Try.ntmps76
      go_wp2_with (first | (go_at_call 93; refine (xfit_any _ _).mono ?_; rintro e w' ⟨rfl, rfl⟩) | (go_at_call 94; refine (size_pos _ _ (by omega) (by omega)).mono ?_; rintro e w' ⟨rfl, rfl⟩))
      go_ret
      exact ⟨ret_int (M.mul_in (by omega) (by omega)), rfl⟩
    · have hm : ¬ M.fitI a * M.fitI a ≤ 1099511627776 := Q.out ▸ ht
      have hd : decide (M.fitI a ≤ 1099511627776 / M.fitI a) = false := by simpa using ht
      go_enter Try.func76, Try.ntmps76
      go_wp2_with (first | (go_at_call 93; refine (xfit_any _ _).mono ?_; rintro e w' ⟨rfl, rfl⟩) | (go_at_call 94; refine (size_pos _ _ (by omega) (by omega)).mono ?_; rintro e w' ⟨rfl, rfl⟩))
      go_ret
      exact ⟨ret_int (M.mul_hi (by omega)), rfl⟩
  · have hz : (M.fitI a == 0) = false := by simp; omega
    have hsa : decide (M.fitI a < 0) = true := by simp; omega
    obtain ⟨X, hX⟩ : ∃ X, -M.fitI a = X := ⟨_, rfl⟩
    have x1 : 0 < X := by omega
    have x2 : X ≤ 1099511627776 := by omega
    have hs := M.sg_nn (x := M.fitI a) (y := M.fitI a) (by omega) (by omega)
    have Q := hide (M.quo_nn (y := M.fitI a) h0)
    rw [hX] at Q
    have HX := hide hX
    clear hX
    by_cases ht : X ≤ 1099511627776 / X
    · have hm : M.fitI a * M.fitI a ≤ 1099511627776 := Q.out ▸ ht
      go_enter Try.func76, Try.ntmps76
      go_wp2_with (first | (go_at_call 93; refine (xfit_any _ _).mono ?_; rintro e w' ⟨rfl, rfl⟩) | (go_at_call 94; refine (size_neg _ X _ HX (by omega) (by omega)).mono ?_; rintro e w' ⟨rfl, rfl⟩))
      go_ret
      exact ⟨ret_int (M.mul_in (by omega) (by omega)), rfl⟩
    · have hm : ¬ M.fitI a * M.fitI a ≤ 1099511627776 := Q.out ▸ ht
      have hd : decide (X ≤ 1099511627776 / X) = false := by simpa using ht
      go_enter Try.func76, Try.ntmps76
      go_wp2_with (first | (go_at_call 93; refine (xfit_any _ _).mono ?_; rintro e w' ⟨rfl, rfl⟩) | (go_at_call 94; refine (size_neg _ X _ HX (by omega) (by omega)).mono ?_; rintro e w' ⟨rfl, rfl⟩))
      go_ret
      exact ⟨ret_int (M.mul_hi (by omega)), rfl⟩

theorem M.tot_step {L : List Int} {k : Nat} (hk : k < L.length) : M.totalI (L.take (k + 1)) = M.addI (M.totalI (L.take k)) (L.getD k 0) := by
  unfold M.totalI
  rw [List.take_succ_eq_append_getElem hk, List.foldl_append, M.getD_at hk]
  rfl

set_option maxHeartbeats 2000000 in
theorem xtotal_any (a : Option Addr) (xs : List Int) (ca : Nat) (w : World) (h : Rd w a xs) :
    Calls Try.prog 77 #[.slice a xs.length ca] w fun e w' => e = .returned (.int .i64 (M.totalI xs)) ∧ w' = w := by
  have hm : xs.length ≤ 9223372036854775807 := h.1
  have HR := hide h
  have TM : Hid (∀ k, k < xs.length → M.totalI (xs.take (k + 1)) = M.addI (M.totalI (xs.take k)) (xs.getD k 0)) := fun k hk => M.tot_step hk
  clear h
  go_enter Try.func77, Try.ntmps77
  go_wp2
  go_loopw [3, 8] (fun u i wr => ∃ k : Nat, k ≤ xs.length ∧ i = .int .i64 k ∧ u = .int .i64 (M.totalI (xs.take k)) ∧ Hid (wr = w)) (fun _ i _ => xs.length - (intOf i).toNat)
  case atStart => exact ⟨0, Nat.zero_le _, rfl, rfl, rfl⟩
  case round =>
    obtain ⟨k, hk, rfl, rfl, E⟩ := hrel
    have e := E.out
    subst e
    by_cases hlt : k < xs.length
    · obtain ⟨b, off, rfl, hb, hc⟩ := HR.out.2 (by intro e; rw [e] at hlt; simp at hlt)
      have hx := hc k hlt
      have kz : (k : Int) < (xs.length : Int) := by omega
      have N := hide (TM.out k hlt)
      clear hc TM
      generalize M.totalI (xs.take k) = t at *
      generalize xs.getD k 0 = x at *
      go_wp2_with (go_at_call 95; refine (xadd_any t x _).mono ?_; rintro e w1 ⟨rfl, e1⟩; have e2 := e1.symm; subst e2)
      go_roundw
      case rel => exact ⟨k + 1, by omega, by go_num, by rw [N.out], (by first | rfl | trivial)⟩
      case measure => simp [intOf]; omega
    · have tk : xs.take k = xs := List.take_of_length_le (by omega)
      have kz : ¬ ((k : Int) < (xs.length : Int)) := by omega
      rw [tk]
      clear TM tk
      go_wp2
      go_ret
      exact ⟨rfl, (by first | rfl | trivial)⟩

end Go.Proofs.Ytpblpfleiilehaf

namespace Go.Proofs.Ytpblpfleiilehaf
open Go.ChangeShapes Go.WideShapes Go.ChangeAt Go.RowKit Go.Lib
set_option linter.unusedVariables false

/-- the first k of a list, the rest still 0 -/
def M.fillK (l : List Int) (k : Nat) : List Int := l.take k ++ List.replicate (l.length - k) 0
theorem M.fillK_len (l : List Int) {k : Nat} (h : k ≤ l.length) : (M.fillK l k).length = l.length := by unfold M.fillK; simp; omega
theorem M.fillK_zero (l : List Int) : M.fillK l 0 = List.replicate l.length 0 := by unfold M.fillK; simp
theorem M.fillK_all (l : List Int) : M.fillK l l.length = l := by unfold M.fillK; simp
theorem M.fillK_set (l : List Int) {k : Nat} (h : k < l.length) : (M.fillK l k).set k (l.getD k 0) = M.fillK l (k + 1) := by
  apply List.ext_getElem?
  intro i
  rw [M.getD_at h]
  unfold M.fillK
  by_cases e : i = k
  · subst e
    rw [List.getElem?_set_self (by simp; omega), List.getElem?_append_left (by simp; omega), List.getElem?_take_of_lt (by omega), List.getElem?_eq_getElem h]
  · rw [List.getElem?_set_ne (fun c => e c.symm)]
    by_cases q : i < k
    · rw [List.getElem?_append_left (by simp; omega), List.getElem?_append_left (by simp; omega), List.getElem?_take_of_lt q, List.getElem?_take_of_lt (by omega)]
    · rw [List.getElem?_append_right (by simp; omega), List.getElem?_append_right (by simp; omega)]
      simp only [List.length_take, List.getElem?_replicate]
      rw [Nat.min_eq_left (by omega), Nat.min_eq_left (by omega)]
      by_cases q2 : i < l.length
      · rw [if_pos (by omega), if_pos (by omega)]
      · rw [if_neg (by omega), if_neg (by omega)]

theorem fillK_own {wr : World} {B g n : Nat} {F : List Int} {k : Nat} (hk : k < F.length)
    (hown : wr.ownsRow B 3 1 (.slice (some ⟨g, 0, none⟩) n n) n ((M.fillK F k).map (Value.int .i64))) :
    (wr.setCell ⟨g, k, none⟩ (.int .i64 (F.getD k 0))).ownsRow B 3 1 (.slice (some ⟨g, 0, none⟩) n n) n ((M.fillK F (k + 1)).map (Value.int .i64)) := by
  have := (hown.stored k (.int .i64 (F.getD k 0))).1
  rw [← M.fillK_set F hk, List.map_set]
  exact this
theorem fillK_cell {wr : World} {B g n : Nat} {F : List Int} {k : Nat} (hk : k < F.length) (hn : F.length = n)
    (hown : wr.ownsRow B 3 1 (.slice (some ⟨g, 0, none⟩) n n) n ((M.fillK F k).map (Value.int .i64))) : ∃ z, wr.cell? ⟨g, k, none⟩ = some (.int .i64 z) := by
  have hl : (M.fillK F k).length = n := by rw [M.fillK_len F (by omega), hn]
  exact ⟨_, own_at hown hl k (by omega)⟩

end Go.Proofs.Ytpblpfleiilehaf
