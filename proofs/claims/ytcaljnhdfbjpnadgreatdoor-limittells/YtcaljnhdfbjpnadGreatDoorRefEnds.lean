/-
  What the reference's Ends answers of a tree that is right with as many features as there are spans.
-/
import Derived.Test.YtcaljnhdfbjpnadGreatDoorRefAJ
namespace Go.Proofs.YtcaljnhdfbjpnadGreatDoor
open Go.ChangeShapes Go.WideShapes Go.ChangeAt Go.RowKit
set_option linter.unusedVariables false

theorem M.ends_no {t : List M.Nd} {l : List M.Sp} {k : Nat} (h : M.cnt t l k = false) : M.endsK t l (k + 1) = M.endsK t l k := by
  rw [M.endsK, if_neg (by rw [h]; decide)]
theorem M.ends_yes {t : List M.Nd} {l : List M.Sp} {k : Nat} (h : M.cnt t l k = true) : M.endsK t l (k + 1) = M.endS (M.endsK t l k) (M.nv (M.nAt t k)) (M.pick (M.meet (M.region t l.length k) l)) := by
  rw [M.endsK, if_pos h]

set_option maxHeartbeats 16000000 in
set_option maxRecDepth 10000 in
theorem rends_any (a bl : Option Addr) (ts : List M.Nd) (ss : List M.Sp) (ca cl : Nat) (w : World) (ht : RdN w a ts) (hs : RdS w bl ss) (F : M.Fair ts (ss.length : Int)) :
    Calls Tryz.prog 6 #[.slice a ts.length ca, .slice bl ss.length cl] w fun e w' => ∃ pa pc qa qc, e = .returned (.tuple #[.int .i64 (M.endsK ts ss ts.length).2.1, .int .i64 (M.endsK ts ss ts.length).2.2.1, .slice pa (M.endsK ts ss ts.length).2.2.2.1.length pc, .slice qa (M.endsK ts ss ts.length).2.2.2.2.length qc]) ∧ Rd w' pa (M.endsK ts ss ts.length).2.2.2.1 ∧ Rd w' qa (M.endsK ts ss ts.length).2.2.2.2 ∧ Below w.heap.size w w' := by
  have hm : ts.length ≤ 9223372036854775807 := ht.1
  have hm3 : ss.length ≤ 9223372036854775807 := hs.1
  have l63 := F.1
  have l0 := F.2.1
  have s8 : ss.length ≤ 8 := by have := F.2.2.2.1; omega
  have RG : Hid (∀ k W, k < ts.length → Below w.heap.size w W → Calls Tryz.prog 20 #[.slice a ts.length ca, .int .i64 (ss.length : Nat), .int .i64 (k : Nat)] W fun e w' => ∃ ra rc, e = .returned (.slice ra (M.region ts ss.length k).length rc) ∧ RdS w' ra (M.region ts ss.length k) ∧ Below W.heap.size W w') := fun k W hk hW => by
    refine (rregion_any a ts ca ss.length k W (ht.below hW) F hk).mono ?_
    rintro e w' ⟨v, rfl, ho, hb⟩
    obtain ⟨ra, rc, rfl, hr⟩ := own_rdS (M.region_len _ _ _) (by unfold maxLen; omega) ho
    exact ⟨ra, rc, by rw [M.region_len], hr, hb⟩
  have MT : Hid (∀ k ra rc W, Below w.heap.size w W → RdS W ra (M.region ts ss.length k) → Calls Tryz.prog 21 #[.slice ra (M.region ts ss.length k).length rc, .slice bl ss.length cl] W fun e w' => ∃ ga gc, e = .returned (.slice ga (M.meet (M.region ts ss.length k) ss).length gc) ∧ RdS w' ga (M.meet (M.region ts ss.length k) ss) ∧ Below W.heap.size W w') := fun k ra rc W hW hr => rmeet_any ra bl _ ss rc cl W hr (hs.below hW) (M.region_len _ _ _) (by rw [M.region_len]; exact s8)
  have AN := hide (fun ga (L : List M.Sp) gc W (h : RdS W ga L) => any_any ga L gc W h)
  have PK : Hid (∀ k ga gc W, RdS W ga (M.meet (M.region ts ss.length k) ss) → Calls Tryz.prog 23 #[.slice ga (M.meet (M.region ts ss.length k) ss).length gc] W fun e w' => ∃ pa pc, e = .returned (.slice pa (M.pick (M.meet (M.region ts ss.length k) ss)).length pc) ∧ Rd w' pa (M.pick (M.meet (M.region ts ss.length k) ss)) ∧ Below W.heap.size W w') := fun k ga gc W h => rpick_any ga _ gc W h (by rw [M.meet_len (M.region_len _ _ _), M.region_len]; exact s8)
  obtain ⟨b0, off, rfl, hb0, hc⟩ := ht.2 (by intro e; rw [e] at l0; simp at l0)
  have HN : Hid (∀ W, Below w.heap.size w W → ∀ j, j < ts.length → SixAt W b0 (off + j * 6) (M.nAt ts j)) := fun W hW j hj => (hc j hj).below hW hb0
  have EN : Hid (∀ k, M.cnt ts ss k = false → M.endsK ts ss (k + 1) = M.endsK ts ss k) := fun k h => M.ends_no h
  have EY : Hid (∀ k, M.cnt ts ss k = true → M.endsK ts ss (k + 1) = M.endS (M.endsK ts ss k) (M.nv (M.nAt ts k)) (M.pick (M.meet (M.region ts ss.length k) ss))) := fun k h => M.ends_yes h
  clear ht hs F hc
  go_enter Tryz.func6, Tryz.ntmps6
  go_wp2
  go_loopw [8, 9, 10, 11, 12, 13, 14, 15, 16] (fun lo hi le mo so i _ _ _ wr => ∃ (k : Nat) (pa qa : Option Addr) (pc qc : Nat), k ≤ ts.length ∧ i = .int .i64 k ∧ lo = .int .i64 (M.endsK ts ss k).2.1 ∧ hi = .int .i64 (M.endsK ts ss k).2.2.1 ∧ le = .slice pa (M.endsK ts ss k).2.2.2.1.length pc ∧ mo = .slice qa (M.endsK ts ss k).2.2.2.2.length qc ∧ so = .bool (M.endsK ts ss k).1 ∧ Hid (Rd wr pa (M.endsK ts ss k).2.2.2.1) ∧ Hid (Rd wr qa (M.endsK ts ss k).2.2.2.2) ∧ Hid (Below w.heap.size w wr)) (fun _ _ _ _ _ i _ _ _ _ => ts.length - (intOf i).toNat)
  case atStart => exact ⟨0, none, none, 0, 0, Nat.zero_le _, rfl, rfl, rfl, rfl, rfl, rfl, ⟨Nat.zero_le _, fun h => absurd rfl h⟩, ⟨Nat.zero_le _, fun h => absurd rfl h⟩, Below.refl _ _⟩
  case round =>
    obtain ⟨k, pa, qa, pc, qc, hk, rfl, rfl, rfl, rfl, rfl, rfl, RP, RQ, K⟩ := hrel
    by_cases hlt : k < ts.length
    · have kz : (k : Int) < (ts.length : Int) := by omega
      obtain ⟨s0, s1, s2, s3, s4, s5⟩ := HN.out _ K.out k hlt
      by_cases hf : M.nf (M.nAt ts k) = -1
      · have q : (M.nf (M.nAt ts k) != -1) = false := by rw [bne_eq_false_iff_eq]; exact hf
        have lf : M.leafB (M.nAt ts k) = true := decide_eq_true hf
        have RG1 := hide (RG.out k _ hlt K.out)
        have MT1 := hide (fun ra rc W h1 h2 => MT.out k ra rc W h1 h2)
        have PK1 := hide (fun ga gc W h => PK.out k ga gc W h)
        have V : Hid (∀ W, Below w.heap.size w W → W.cell? ⟨b0, off + k * 6 + 5, none⟩ = some (.int .i64 (M.nv (M.nAt ts k)))) := fun W hW => (HN.out W hW k hlt).2.2.2.2.2
        cases hA : M.anyS (M.meet (M.region ts ss.length k) ss) with
        | false =>
          have AN1 := hide (fun ga gc W (h : RdS W ga (M.meet (M.region ts ss.length k) ss)) => AN.out ga _ gc W h)
          rw [hA] at AN1
          have N := hide (EN.out k (by unfold M.cnt; rw [lf, hA]; rfl))
          clear hA AN RG MT PK EN EY HN hf lf PK1 V s1 s2 s3 s4 s5
          generalize M.endsK ts ss k = S at *
          generalize M.meet (M.region ts ss.length k) ss = ML at *
          generalize M.region ts ss.length k = RL at *
          go_wp2_with (first
            | (go_at_call 22; refine (AN1.out _ _ _ HM2.out).mono ?_; rintro e w3 ⟨rfl, h3⟩; have k3 := hide (below_on k2.out h3); have RP3 := hide (RP2.out.below h3); have RQ3 := hide (RQ2.out.below h3))
            | (go_at_call 21; refine (MT1.out _ _ _ k1.out HR1.out).mono ?_; rintro e w2 ⟨ga, gc, rfl, hm2, h2⟩; have k2 := hide (below_on k1.out h2); have HM2 := hide hm2; have RP2 := hide (RP1.out.below h2); have RQ2 := hide (RQ1.out.below h2); clear hm2 h2)
            | (go_at_call 20; refine RG1.out.mono ?_; rintro e w1 ⟨ra, rc, rfl, hr1, h1⟩; have k1 := hide (below_on K.out h1); have HR1 := hide hr1; have RP1 := hide (RP.out.below h1); have RQ1 := hide (RQ.out.below h1); clear hr1 h1))
          go_roundw
          case rel => exact ⟨k + 1, pa, qa, pc, qc, by omega, by go_num, by rw [N.out], by rw [N.out], by rw [N.out], by rw [N.out], by rw [N.out], by rw [N.out]; exact RP3.out, by rw [N.out]; exact RQ3.out, k3⟩
          case measure => simp [intOf] <;> omega
        | true =>
          have AN1 := hide (fun ga gc W (h : RdS W ga (M.meet (M.region ts ss.length k) ss)) => AN.out ga _ gc W h)
          rw [hA] at AN1
          have N := hide (EY.out k (by unfold M.cnt; rw [lf, hA]; rfl))
          clear hA AN RG MT PK EN EY HN hf lf s1 s2 s3 s4 s5
          generalize M.endsK ts ss k = S at *
          generalize M.meet (M.region ts ss.length k) ss = ML at *
          generalize M.region ts ss.length k = RL at *
          generalize M.nv (M.nAt ts k) = v at *
          generalize M.nf (M.nAt ts k) = nf at *
          generalize M.pick ML = PL at *
          obtain ⟨so, lo, hi, LA, LB⟩ := S
          simp only at RP RQ
          go_upto_region 13 with (first
            | (go_at_call 22; refine (AN1.out _ _ _ HM2.out).mono ?_; rintro e w3 ⟨rfl, h3⟩; have k3 := hide (below_on k2.out h3); have HM3 := hide (HM2.out.below h3); have RP3 := hide (RP2.out.below h3); have RQ3 := hide (RQ2.out.below h3); have v3 := V.out _ k3.out)
            | (go_at_call 21; refine (MT1.out _ _ _ k1.out HR1.out).mono ?_; rintro e w2 ⟨ga, gc, rfl, hm2, h2⟩; have k2 := hide (below_on k1.out h2); have HM2 := hide hm2; have RP2 := hide (RP1.out.below h2); have RQ2 := hide (RQ1.out.below h2); clear hm2 h2)
            | (go_at_call 20; refine RG1.out.mono ?_; rintro e w1 ⟨ra, rc, rfl, hr1, h1⟩; have k1 := hide (below_on K.out h1); have HR1 := hide hr1; have RP1 := hide (RP.out.below h1); have RQ1 := hide (RQ.out.below h1); clear hr1 h1))
          cases so with
          | false =>
            have E : Hid (M.endsK ts ss (k + 1) = (true, v, v, PL, PL)) := by unfold Hid; rw [N.out]; unfold M.endS; simp
            clear N
            go_wp2_with (first
              | (go_at_call 23; have lean := HX4; refine (PK1.out _ _ _ HM4.out).mono ?_; rintro e w5 ⟨ya, yc, rfl, hy5, h5⟩; have k5 := hide (below_on k4.out h5); have HY5 := hide hy5; have HX5 := hide (HX4.out.below h5); clear hy5 h5)
              | (go_at_call 23; refine (PK1.out _ _ _ HM3.out).mono ?_; rintro e w4 ⟨xa, xc, rfl, hx4, h4⟩; have k4 := hide (below_on k3.out h4); have HM4 := hide (HM3.out.below h4); have HX4 := hide hx4; have RP4 := hide (RP3.out.below h4); have RQ4 := hide (RQ3.out.below h4); have v4 := V.out _ k4.out; clear hx4 h4))
            go_roundw
            case rel => exact ⟨k + 1, xa, ya, xc, yc, by omega, by go_num, by rw [E.out], by rw [E.out], by rw [E.out], by rw [E.out], by rw [E.out], by rw [E.out]; exact HX5.out, by rw [E.out]; exact HY5.out, k5⟩
            case measure => simp [intOf] <;> omega
          | true =>
            by_cases d1 : v < lo
            · have t1 : decide (v < lo) = true := decide_eq_true d1
              by_cases d2 : hi < v
              · have t2 : decide (hi < v) = true := decide_eq_true d2
                have E : Hid (M.endsK ts ss (k + 1) = (true, v, v, PL, PL)) := by unfold Hid; rw [N.out]; unfold M.endS; simp only; rw [if_pos (.inr d1), if_pos (.inr d2), if_pos (.inr d1), if_pos (.inr d2)]
                clear N
                go_wp2_with (first
                  | (go_at_call 23; have lean := HX4; refine (PK1.out _ _ _ HM4.out).mono ?_; rintro e w5 ⟨ya, yc, rfl, hy5, h5⟩; have k5 := hide (below_on k4.out h5); have HY5 := hide hy5; have HX5 := hide (HX4.out.below h5); clear hy5 h5)
                  | (go_at_call 23; refine (PK1.out _ _ _ HM3.out).mono ?_; rintro e w4 ⟨xa, xc, rfl, hx4, h4⟩; have k4 := hide (below_on k3.out h4); have HM4 := hide (HM3.out.below h4); have HX4 := hide hx4; have RP4 := hide (RP3.out.below h4); have RQ4 := hide (RQ3.out.below h4); have v4 := V.out _ k4.out; clear hx4 h4))
                go_roundw
                case rel => exact ⟨k + 1, xa, ya, xc, yc, by omega, by go_num, by rw [E.out], by rw [E.out], by rw [E.out], by rw [E.out], by rw [E.out], by rw [E.out]; exact HX5.out, by rw [E.out]; exact HY5.out, k5⟩
                case measure => simp [intOf] <;> omega
              · have t2 : decide (hi < v) = false := decide_eq_false d2
                have E : Hid (M.endsK ts ss (k + 1) = (true, v, hi, PL, LB)) := by unfold Hid; rw [N.out]; unfold M.endS; simp only; rw [if_pos (.inr d1), if_neg (fun q => q.elim (fun z => by cases z) d2), if_pos (.inr d1), if_neg (fun q => q.elim (fun z => by cases z) d2)]
                clear N
                go_wp2_with ((go_at_call 23; refine (PK1.out _ _ _ HM3.out).mono ?_; rintro e w4 ⟨xa, xc, rfl, hx4, h4⟩; have k4 := hide (below_on k3.out h4); have HM4 := hide (HM3.out.below h4); have HX4 := hide hx4; have RP4 := hide (RP3.out.below h4); have RQ4 := hide (RQ3.out.below h4); have v4 := V.out _ k4.out; clear hx4 h4))
                go_roundw
                case rel => exact ⟨k + 1, xa, qa, xc, qc, by omega, by go_num, by rw [E.out], by rw [E.out], by rw [E.out], by rw [E.out], by rw [E.out], by rw [E.out]; exact HX4.out, by rw [E.out]; exact RQ4.out, k4⟩
                case measure => simp [intOf] <;> omega
            · have t1 : decide (v < lo) = false := decide_eq_false d1
              by_cases d2 : hi < v
              · have t2 : decide (hi < v) = true := decide_eq_true d2
                have E : Hid (M.endsK ts ss (k + 1) = (true, lo, v, LA, PL)) := by unfold Hid; rw [N.out]; unfold M.endS; simp only; rw [if_neg (fun q => q.elim (fun z => by cases z) d1), if_pos (.inr d2), if_neg (fun q => q.elim (fun z => by cases z) d1), if_pos (.inr d2)]
                clear N
                go_wp2_with ((go_at_call 23; refine (PK1.out _ _ _ HM3.out).mono ?_; rintro e w4 ⟨xa, xc, rfl, hx4, h4⟩; have k4 := hide (below_on k3.out h4); have HM4 := hide (HM3.out.below h4); have HX4 := hide hx4; have RP4 := hide (RP3.out.below h4); have RQ4 := hide (RQ3.out.below h4); have v4 := V.out _ k4.out; clear hx4 h4))
                go_roundw
                case rel => exact ⟨k + 1, pa, xa, pc, xc, by omega, by go_num, by rw [E.out], by rw [E.out], by rw [E.out], by rw [E.out], by rw [E.out], by rw [E.out]; exact RP4.out, by rw [E.out]; exact HX4.out, k4⟩
                case measure => simp [intOf] <;> omega
              · have t2 : decide (hi < v) = false := decide_eq_false d2
                have E : Hid (M.endsK ts ss (k + 1) = (true, lo, hi, LA, LB)) := by unfold Hid; rw [N.out]; unfold M.endS; simp only; rw [if_neg (fun q => q.elim (fun z => by cases z) d1), if_neg (fun q => q.elim (fun z => by cases z) d2), if_neg (fun q => q.elim (fun z => by cases z) d1), if_neg (fun q => q.elim (fun z => by cases z) d2)]
                clear N
                go_wp2
                go_roundw
                case rel => exact ⟨k + 1, pa, qa, pc, qc, by omega, by go_num, by rw [E.out], by rw [E.out], by rw [E.out], by rw [E.out], by rw [E.out], by rw [E.out]; exact RP3.out, by rw [E.out]; exact RQ3.out, k3⟩
                case measure => simp [intOf] <;> omega
      · have q : (M.nf (M.nAt ts k) != -1) = true := by rw [bne_iff_ne]; exact hf
        have N := hide (EN.out k (by unfold M.cnt M.leafB; rw [decide_eq_false hf]; rfl))
        clear hf RG MT PK EN EY HN s1 s2 s3 s4 s5
        generalize M.endsK ts ss k = S at *
        go_wp2
        go_roundw
        case rel => exact ⟨k + 1, pa, qa, pc, qc, by omega, by go_num, by rw [N.out], by rw [N.out], by rw [N.out], by rw [N.out], by rw [N.out], by rw [N.out]; exact RP.out, by rw [N.out]; exact RQ.out, K⟩
        case measure => simp [intOf] <;> omega
    · have hke : k = ts.length := by omega
      have kz : ¬ ((k : Int) < (ts.length : Int)) := by omega
      subst hke
      clear RG MT PK EN EY HN AN
      go_wp2
      refine bodyPost_ret (v := .tuple #[.int .i64 (M.endsK ts ss ts.length).2.1, .int .i64 (M.endsK ts ss ts.length).2.2.1, .slice pa (M.endsK ts ss ts.length).2.2.2.1.length pc, .slice qa (M.endsK ts ss ts.length).2.2.2.2.length qc]) (by simp [results, Tryz.results6, go_sem]) rfl ?_
      exact ⟨pa, pc, qa, ⟨qc, rfl⟩, RP.out, RQ.out, K.out⟩

end Go.Proofs.YtcaljnhdfbjpnadGreatDoor
