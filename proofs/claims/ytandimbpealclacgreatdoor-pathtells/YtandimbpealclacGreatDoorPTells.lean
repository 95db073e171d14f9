/-
  The walk of the law PathTells: for every list of nodes, every row, any numbers and all spans it returns true, where package path's calls answer what the chapter says; the variable of package errors lies as that package lays it.
-/
import Derived.Test.YtandimbpealclacGreatDoorRefReg
import Derived.Test.YtandimbpealclacGreatDoorRefWhy
import Derived.Test.YtandimbpealclacGreatDoorRefTree
import Derived.Test.YtandimbpealclacGreatDoorSpSame
import Derived.Test.YtandimbpealclacGreatDoorInts
import Derived.Test.YtandimbpealclacGreatDoorError
import Derived.Deep.CutBlock
namespace Go.Proofs.YtandimbpealclacGreatDoor
open Go.ChangeShapes Go.WideShapes Go.ChangeAt Go.RowKit Go.Lib
set_option linter.unusedVariables false

set_option maxHeartbeats 32000000 in
set_option maxRecDepth 10000 in
theorem ptells_core (a b c : Option Addr) (ts : List M.Nd) (xs : List Int) (ss : List M.Sp) (ca cb cc : Nat) (m lf : Int) (w : World) (p X : Nat) (rf e2 fF sf : Int) (P RR Q : List Int) (T : ByteArray) (V : List M.Sp) (B : Bool) (GR : Nat → List M.Sp)
    (HT : Hid (∀ W, Below w.heap.size w W → RdN W a ts)) (mt : ts.length ≤ 9223372036854775807) (mx : xs.length ≤ 9223372036854775807) (ms : ss.length ≤ 9223372036854775807)
    (ER : Hid (∀ c W, Below w.heap.size w W → Calls Tryz.prog 8 #[errV c, .int .i64 c] W fun r w' => r = .returned (.bool true) ∧ Below W.heap.size W w'))
    (IN : Hid (∀ ag cg bg dg R W, Rd W ag R → Rd W bg R → Calls Tryz.prog 10 #[.slice ag R.length cg, .slice bg R.length dg] W fun r w' => r = .returned (.bool true) ∧ Below W.heap.size W w'))
    (SA : Hid (∀ ag cg bg dg R W, RdS W ag R → RdS W bg R → Calls Tryz.prog 15 #[.slice ag R.length cg, .slice bg R.length dg] W fun r w' => r = .returned (.bool true) ∧ Below W.heap.size W w'))
    (RD : Hid (∀ W, Below w.heap.size w W → Calls Tryz.prog 4 #[.slice a ts.length ca, .slice b xs.length cb] W fun r w' => r = .returned (.int .i64 rf) ∧ Below W.heap.size W w'))
    (RL : Hid (rf = 0 → ∀ W, Below w.heap.size w W → Calls Tryz.prog 5 #[.slice a ts.length ca, .slice b xs.length cb] W fun r w' => ∃ ag cg, r = .returned (.tuple #[.int .i64 (X : Nat), .slice ag P.length cg]) ∧ Rd w' ag P ∧ Below W.heap.size W w'))
    (RY : Hid (rf = 0 → ∀ W, Below w.heap.size w W → Calls Tryz.prog 6 #[.slice a ts.length ca, .slice b xs.length cb] W fun r w' => r = .returned (.string T) ∧ Below W.heap.size W w'))
    (RZ : Hid (rf ≠ 0 → P = [] ∧ T = ⟨#[]⟩))
    (PP : Hid (∀ W, Below w.heap.size w W → Calls Tryz.prog 7 #[.slice a ts.length ca, .slice b xs.length cb] W fun r w' => ∃ ag cg, r = .returned (.tuple #[.slice ag P.length cg, errV rf]) ∧ Rd w' ag P ∧ Below W.heap.size W w'))
    (PW : Hid (∀ W, Below w.heap.size w W → Calls Tryz.prog 9 #[.slice a ts.length ca, .slice b xs.length cb] W fun r w' => r = .returned (.tuple #[.string T, errV rf]) ∧ Below W.heap.size W w'))
    (TM : Hid (∀ W, Below w.heap.size w W → Calls Tryz.prog 11 #[.slice a ts.length ca, .int .i64 m] W fun r w' => r = .returned (.tuple #[.int .i64 (p : Nat), .int .i64 e2]) ∧ Below W.heap.size W w'))
    (FE : Hid ((e2 ≠ 0 → fF = e2) ∧ (e2 = 0 → ¬ (0 ≤ lf ∧ lf < (ts.length : Int) ∧ M.nf (M.nAt ts lf.toNat) = -1) → fF = 1) ∧ (e2 = 0 → (0 ≤ lf ∧ lf < (ts.length : Int) ∧ M.nf (M.nAt ts lf.toNat) = -1) → fF = 0)))
    (FZ : Hid (fF = 0 → e2 = 0 ∧ 0 ≤ lf ∧ lf < (ts.length : Int))) (FN : Hid (fF ≠ 0 → V = [] ∧ B = false))
    (RG : Hid (e2 = 0 → ∀ i : Nat, i < ts.length → ∀ W, Below w.heap.size w W → Calls Tryz.prog 12 #[.slice a ts.length ca, .int .i64 m, .int .i64 (i : Nat)] W fun r w' => ∃ v, r = .returned v ∧ w'.ownsRow W.heap.size 44 3 v (GR i).length (spCells (GR i)) ∧ Below W.heap.size W w'))
    (GB : Hid (∀ i, (GR i).length ≤ 8)) (GV : Hid (fF = 0 → V = (GR lf.toNat).map M.norm ∧ B = M.anyS (GR lf.toNat)))
    (AN : Hid (∀ ag cg R W, RdS W ag R → Calls Tryz.prog 13 #[.slice ag R.length cg] W fun r w' => r = .returned (.bool (M.anyS R)) ∧ Below W.heap.size W w'))
    (PR : Hid (∀ W, Below w.heap.size w W → Calls Tryz.prog 14 #[.slice a ts.length ca, .int .i64 m, .int .i64 lf] W fun r w' => ∃ ag cg, r = .returned (.tuple #[.slice ag V.length cg, .bool B, errV fF]) ∧ RdS w' ag V ∧ Below W.heap.size W w'))
    (l63 : Hid (e2 = 0 → ts.length ≤ 63))
    (RV : Hid ((e2 = 0 → RR = M.rchL GR ts ts.length) ∧ (e2 ≠ 0 → RR = [])))
    (PC : Hid (∀ W, Below w.heap.size w W → Calls Tryz.prog 16 #[.slice a ts.length ca, .int .i64 m] W fun r w' => ∃ ag cg, r = .returned (.tuple #[.slice ag RR.length cg, errV e2]) ∧ Rd w' ag RR ∧ Below W.heap.size W w'))
    (SF : Hid (∀ W, Below w.heap.size w W → Calls Tryz.prog 17 #[.slice c ss.length cc] W fun r w' => r = .returned (.int .i64 sf) ∧ Below W.heap.size W w'))
    (PK : Hid (sf = 0 → ∀ W, Below w.heap.size w W → Calls Tryz.prog 18 #[.slice c ss.length cc] W fun r w' => ∃ ag cg, r = .returned (.slice ag Q.length cg) ∧ Rd w' ag Q ∧ Below W.heap.size W w'))
    (QZ : Hid (sf ≠ 0 → Q = []))
    (WT : Hid (∀ W, Below w.heap.size w W → Calls Tryz.prog 19 #[.slice c ss.length cc] W fun r w' => ∃ ag cg, r = .returned (.tuple #[.slice ag Q.length cg, errV sf]) ∧ Rd w' ag Q ∧ Below W.heap.size W w')) :
    Calls Tryz.prog 3 #[.slice a ts.length ca, .slice b xs.length cb, .int .i64 m, .int .i64 lf, .slice c ss.length cc] w fun e w' => e = .returned (.bool true) ∧ Below w.heap.size w w' := by
  have B0 := hide (Below.refl w.heap.size w)
  go_enter Tryz.func3, Tryz.ntmps3
  go_upto_region 4 with (go_at_call 4; refine (RD.out _ B0.out).mono ?_; rintro r w1 ⟨rfl, k1⟩)
  clear B0 RD
  go_cut [42] from 41 to 42 (fun v wx => ∃ q : Bool, v = .bool q ∧ Hid (q = decide (rf = 0)) ∧ wx = w1)
  case first =>
    by_cases h : rf = 0
    · have t : (rf == 0) = true := by rw [beq_iff_eq]; exact h
      have E : Hid (true = decide (rf = 0)) := (decide_eq_true h).symm
      clear h
      go_wp2
      go_meet
      case rel => exact ⟨true, rfl, E, rfl⟩
    · have t : (rf == 0) = false := by rw [beq_eq_false_iff_ne]; exact h
      have E : Hid (false = decide (rf = 0)) := (decide_eq_false h).symm
      clear h
      go_wp2
      go_meet
      case rel => exact ⟨false, rfl, E, rfl⟩
  case rest =>
    obtain ⟨q, rfl, HQ, rfl⟩ := hcut
    go_upto_if 42 with fail
    go_cut [12, 13] from 43 to 51 (fun u v wx => (∃ ag cg, u = .slice ag P.length cg ∧ Hid (Rd wx ag P)) ∧ v = .string T ∧ Hid (Below w.heap.size w wx))
    case first =>
      cases q with
      | false =>
        have E := hide (RZ.out (of_decide_eq_false HQ.out.symm))
        have RN : Hid (Rd wc none P) := by unfold Hid; rw [E.out.1]; exact ⟨Nat.zero_le _, fun h => absurd rfl h⟩
        clear HQ RL RY RZ PP PW TM FE FZ FN RG GB GV AN PR l63 RV PC SF PK QZ WT ER IN SA HT
        go_wp2
        go_meet
        case rel => exact ⟨⟨none, 0, by rw [E.out.1]; rfl, RN⟩, by rw [E.out.2], k1⟩
      | true =>
        have h0 : rf = 0 := of_decide_eq_true HQ.out.symm
        have L1 := hide (RL.out h0 _ k1)
        have Y1 := hide (RY.out h0)
        clear HQ RL RY RZ PP PW TM FE FZ FN RG GB GV AN PR l63 RV PC SF PK QZ WT ER IN SA HT h0
        go_wp2_with (first
          | (go_at_call 5; refine L1.out.mono ?_; rintro r w2 ⟨ag, cg, rfl, R2, hb2⟩; have k2 := below_on k1 hb2)
          | (go_at_call 6; refine (Y1.out _ k2).mono ?_; rintro r w3 ⟨rfl, hb3⟩))
        go_meet
        case rel => exact ⟨⟨ag, cg, rfl, R2.below hb3⟩, rfl, below_on k2 hb3⟩
    case rest =>
      obtain ⟨⟨aw, cw, rfl, R4⟩, rfl, K4⟩ := hcut
      have k4 := K4.out
      clear K4 RL RY RZ HQ k1
      go_upto_region 9 with (first
        | (go_at_call 7; refine (PP.out _ k4).mono ?_; rintro r w5 ⟨ap, cp, rfl, R5, hb5⟩; have k5 := below_on k4 hb5)
        | (go_at_call 8; refine (ER.out _ _ k5).mono ?_; rintro r w6 ⟨rfl, hb6⟩; have k6 := below_on k5 hb6))
      have R6 := hide (R5.below hb6)
      have Q6 := hide ((R4.out.below hb5).below hb6)
      clear R5 R4 hb5 hb6 k5 k4 PP
      go_upto_region 11 with (first
        | (go_at_call 9; refine (PW.out _ k6).mono ?_; rintro r w7 ⟨rfl, hb7⟩; have k7 := below_on k6 hb7)
        | (go_at_call 8; refine (ER.out _ _ k7).mono ?_; rintro r w8 ⟨rfl, hb8⟩; have k8 := below_on k7 hb8))
      have I1 := hide (IN.out ap cp aw cw P _ ((R6.out.below hb7).below hb8) ((Q6.out.below hb7).below hb8))
      clear R6 Q6 hb7 hb8 k6 k7 PW
      go_upto_region 14 with (first
        | (go_at_call 10; refine I1.out.mono ?_; rintro r w9 ⟨rfl, hb9⟩; have k9 := below_on k8 hb9)
        | (go_at_call 11; refine (TM.out _ k9).mono ?_; rintro r w10 ⟨rfl, hb10⟩; have k10 := below_on k9 hb10))
      clear hb9 hb10 k8 k9 I1 TM
      have H10 := hide (HT.out _ k10).2
      go_cut [99] from 80 to 99 (fun v wx => ∃ q : Bool, v = .bool q ∧ Hid (q = decide (e2 = 0 ∧ ¬ (0 ≤ lf ∧ lf < (ts.length : Int) ∧ M.nf (M.nAt ts lf.toNat) = -1))) ∧ wx = w10)
      case first =>
        clear PR PC SF PK QZ WT ER IN SA RG GB GV AN RV FE FZ FN l63 HT
        by_cases h : e2 = 0
        · have t : (e2 == 0) = true := by rw [beq_iff_eq]; exact h
          by_cases h1 : lf < 0
          · have t1 : decide (lf < 0) = true := decide_eq_true h1
            have E : Hid (true = decide (e2 = 0 ∧ ¬ (0 ≤ lf ∧ lf < (ts.length : Int) ∧ M.nf (M.nAt ts lf.toNat) = -1))) := (decide_eq_true ⟨h, fun g => by omega⟩).symm
            clear h h1
            go_wp2
            go_meet
            case rel => exact ⟨true, rfl, E, rfl⟩
          · have t1 : decide (lf < 0) = false := decide_eq_false h1
            by_cases h2 : (ts.length : Int) ≤ lf
            · have t2 : decide ((ts.length : Int) ≤ lf) = true := decide_eq_true h2
              have E : Hid (true = decide (e2 = 0 ∧ ¬ (0 ≤ lf ∧ lf < (ts.length : Int) ∧ M.nf (M.nAt ts lf.toNat) = -1))) := (decide_eq_true ⟨h, fun g => by omega⟩).symm
              clear h h1 h2
              go_wp2
              go_meet
              case rel => exact ⟨true, rfl, E, rfl⟩
            · have t2 : decide ((ts.length : Int) ≤ lf) = false := decide_eq_false h2
              obtain ⟨li, rfl⟩ : ∃ li : Nat, lf = li := ⟨lf.toNat, by omega⟩
              have hli : li < ts.length := by omega
              have hlz : (li : Int) < (ts.length : Int) := by omega
              have t3 : decide (ts.length ≤ li) = false := decide_eq_false (by omega)
              obtain ⟨b1, off, rfl, hb1, hc⟩ := H10.out (by intro e; subst e; simp at hli)
              have s0 := (hc li hli).1
              have EQ : Hid (∀ r : Bool, (M.nf (M.nAt ts li) != -1) = r → r = decide (e2 = 0 ∧ ¬ (0 ≤ (li : Int) ∧ (li : Int) < (ts.length : Int) ∧ M.nf (M.nAt ts (li : Int).toNat) = -1))) := fun r hr => by
                rw [Int.toNat_natCast, ← hr]
                by_cases g : M.nf (M.nAt ts li) = -1
                · rw [show (M.nf (M.nAt ts li) != -1) = false by rw [bne_eq_false_iff_eq]; exact g]
                  exact (decide_eq_false (fun q => q.2 ⟨by omega, hlz, g⟩)).symm
                · rw [show (M.nf (M.nAt ts li) != -1) = true by rw [bne_iff_ne]; exact g]
                  exact (decide_eq_true ⟨h, fun q => g q.2.2⟩).symm
              clear hc h h1 h2
              generalize M.nf (M.nAt ts li) = y at *
              go_wp2
              go_meet
              case rel => exact ⟨_, rfl, EQ.out _ rfl, rfl⟩
        · have t : (e2 == 0) = false := by rw [beq_eq_false_iff_ne]; exact h
          have E : Hid (false = decide (e2 = 0 ∧ ¬ (0 ≤ lf ∧ lf < (ts.length : Int) ∧ M.nf (M.nAt ts lf.toNat) = -1))) := (decide_eq_false (fun g => h g.1)).symm
          clear h
          go_wp2
          go_meet
          case rel => exact ⟨false, rfl, E, rfl⟩
      case rest =>
        obtain ⟨q99, rfl, H99, rfl⟩ := hcut
        go_upto_if 99 with fail
        go_cut [20] from 99 to 99 (fun v wx => v = .int .i64 fF ∧ wx = wc)
        case first =>
          cases q99 with
          | true =>
            have g := of_decide_eq_true H99.out.symm
            have E := hide (FE.out.2.1 g.1 g.2)
            clear g H99 PR PC SF PK QZ WT ER IN SA RG GB GV AN RV FE FZ FN l63 HT
            go_wp2
            go_meet
            case rel => exact ⟨by rw [E.out], rfl⟩
          | false =>
            have g := of_decide_eq_false H99.out.symm
            have E : Hid (fF = e2) := by
              unfold Hid
              by_cases h : e2 = 0
              · rw [h]
                refine FE.out.2.2 h ?_
                by_cases hz : 0 ≤ lf ∧ lf < (ts.length : Int) ∧ M.nf (M.nAt ts lf.toNat) = -1
                · exact hz
                · exact absurd ⟨h, hz⟩ g
              · exact FE.out.1 h
            clear g H99 PR PC SF PK QZ WT ER IN SA RG GB GV AN RV FE FZ FN l63 HT
            go_wp2
            go_meet
            case rel => exact ⟨by rw [E.out], rfl⟩
        case rest =>
          obtain ⟨rfl, rfl⟩ := hcut
          clear H99 FE H10
          go_upto_region 18 with fail
          go_cut [101] from 100 to 101 (fun v wx => ∃ q : Bool, v = .bool q ∧ Hid (q = decide (fF = 0)) ∧ wx = wc)
          case first =>
            by_cases h : fF = 0
            · have t : (fF == 0) = true := by rw [beq_iff_eq]; exact h
              have E : Hid (true = decide (fF = 0)) := (decide_eq_true h).symm
              clear h
              go_wp2
              go_meet
              case rel => exact ⟨true, rfl, E, rfl⟩
            · have t : (fF == 0) = false := by rw [beq_eq_false_iff_ne]; exact h
              have E : Hid (false = decide (fF = 0)) := (decide_eq_false h).symm
              clear h
              go_wp2
              go_meet
              case rel => exact ⟨false, rfl, E, rfl⟩
          case rest =>
            obtain ⟨q, rfl, HQ, rfl⟩ := hcut
            go_upto_if 101 with fail
            go_cut [21, 22, 23] from 102 to 132 (fun u v i wx => (∃ ag cg, u = .slice ag V.length cg ∧ Hid (RdS wx ag V)) ∧ v = .bool B ∧ Hid (Below w.heap.size w wx))
            case first =>
              cases q with
              | false =>
                have E := hide (FN.out (of_decide_eq_false HQ.out.symm))
                have RN : Hid (RdS wc none V) := by unfold Hid; rw [E.out.1]; exact ⟨Nat.zero_le _, fun h => absurd rfl h⟩
                clear HQ FZ FN RG GB GV AN PR l63 RV PC SF PK QZ WT ER IN SA HT
                go_wp2
                go_meet
                case rel => exact ⟨⟨none, 0, by rw [E.out.1]; rfl, RN⟩, by rw [E.out.2], k10⟩
              | true =>
                have h0 : fF = 0 := of_decide_eq_true HQ.out.symm
                obtain ⟨f1, f2, f3⟩ := FZ.out h0
                obtain ⟨li, rfl⟩ : ∃ li : Nat, lf = li := ⟨lf.toNat, by omega⟩
                have G1 := hide (RG.out f1 li (by omega) _ k10)
                have g8 := GB.out li
                have EV := hide (GV.out h0)
                rw [Int.toNat_natCast] at EV
                clear HQ FZ FN RG GB GV PR l63 RV PC SF PK QZ WT ER IN SA HT h0 f1 f2 f3
                generalize GR li = G at *
                have A1 := hide (fun ag cg W (hs : RdS W ag G) => AN.out ag cg G W hs)
                have EB := hide EV.out.2.symm
                have EW := hide EV.out.1
                clear AN EV
                generalize hB : M.anyS G = B2 at *
                clear hB
                go_wp2_with (first
                  | (go_at_call 12; refine G1.out.mono ?_; rintro r w11 ⟨v, rfl, O11, hb11⟩; obtain ⟨av, cv, rfl, S11⟩ := own_rdS rfl (by unfold maxLen; omega) O11)
                  | (go_at_call 13; refine (A1.out av cv _ S11).mono ?_; rintro r w12 ⟨rfl, hb12⟩))
                have O12 := hide (own_up O11 hb12)
                have k12 := below_on (below_on k10 hb11) hb12
                have kb := k10.size
                have kb2 := hb11.size
                clear O11 S11 hb11 hb12 A1 G1
                go_loopw [23] (fun i wr => ∃ k : Nat, k ≤ G.length ∧ i = .int .i64 k ∧ wr.ownsRow wc.heap.size 44 3 (.slice av G.length cv) G.length (spCells (M.normU G k)) ∧ Below w.heap.size w wr) (fun i _ => G.length - (intOf i).toNat)
                case atStart => exact ⟨0, Nat.zero_le _, rfl, by rw [M.normU_zero]; exact O12.out, k12⟩
                case round =>
                  clear O12 k12
                  obtain ⟨k, hk, rfl, hown, hbl⟩ := hrel
                  by_cases hlt : k < G.length
                  · obtain ⟨g, cap2, e, hg1, hg2⟩ := own_shape3 hown (by omega)
                    cases e
                    have hlen := M.normU_len G k
                    have hk2 : k < (M.normU G k).length := by omega
                    obtain ⟨p0, p1, p2⟩ := own_spanAt hown hlen hk2
                    rw [M.normU_at G hlt hk2] at p0 p1 p2
                    have z0 := hown.frozenAt (k * 3)
                    have z1 := hown.frozenAt (k * 3 + 1)
                    have NX := hide (M.normU_next G hlt)
                    have NN : Hid (M.norm G[k] = if G[k].2.1 < G[k].1 then (1, 0, G[k].2.2) else G[k]) := rfl
                    have SG : Hid (∀ q, (((wr.drewN q).setCell ⟨g, k * 3, none⟩ (.int .i64 1)).setCell ⟨g, k * 3 + 1, none⟩ (.int .i64 0)).ownsRow wc.heap.size 44 3 (.slice (some ⟨g, 0, none⟩) G.length cv) G.length (spCells ((M.normU G k).set k (1, 0, G[k].2.2)))) := fun q => by
                      have := own_setS2 (own_up hown (below_drew (Below.refl _ _) q (Nat.le_refl _))) hk2 1 0
                      rw [M.normU_at G hlt hk2] at this
                      exact this
                    have SK : Hid (∀ q, (wr.drewN q).ownsRow wc.heap.size 44 3 (.slice (some ⟨g, 0, none⟩) G.length cv) G.length (spCells (M.normU G k))) := fun q => own_up hown (below_drew (Below.refl _ _) q (Nat.le_refl _))
                    have SE : Hid (M.norm G[k] = G[k] → M.normU G k = M.normU G (k + 1)) := fun e => by
                      rw [← M.normU_next G hlt, e]
                      have q := M.normU_at G hlt hk2
                      conv => rhs; rw [← q]
                      exact (List.set_getElem_self _).symm
                    have kg : w.heap.size ≤ g := by omega
                    clear hown
                    by_cases hd : G[k].2.1 < G[k].1
                    · have qd : decide (G[k].2.1 < G[k].1) = true := decide_eq_true hd
                      have EN : Hid ((M.normU G k).set k (1, 0, G[k].2.2) = M.normU G (k + 1)) := by unfold Hid; rw [← NX.out, NN.out, if_pos hd]
                      rw [EN.out] at SG
                      clear hd NX NN EN SK SE
                      generalize G[k].1 = lo at *
                      generalize G[k].2.1 = hi at *
                      generalize G[k].2.2 = nl at *
                      go_wp2
                      go_quiet (fail)
                      go_wp2
                      go_roundw
                      case rel => exact ⟨k + 1, by omega, by go_num, SG.out _, ((below_drew hbl _ hbl.size).setCell (p := ⟨g, k * 3, none⟩) kg _).setCell (p := ⟨g, k * 3 + 1, none⟩) kg _⟩
                      case measure => simp [intOf]; omega
                    · have qd : decide (G[k].2.1 < G[k].1) = false := decide_eq_false hd
                      have EN := hide (SE.out (by rw [NN.out, if_neg hd]))
                      rw [EN.out] at SK
                      clear hd NX NN EN SG SE
                      generalize G[k].1 = lo at *
                      generalize G[k].2.1 = hi at *
                      generalize G[k].2.2 = nl at *
                      go_wp2
                      go_quiet (fail)
                      go_wp2
                      go_roundw
                      case rel => exact ⟨k + 1, by omega, by go_num, SK.out _, below_drew hbl _ hbl.size⟩
                      case measure => simp [intOf]; omega
                  · rw [M.normU_all G (by omega), ← EW.out] at hown
                    have hVl : V.length = G.length := by rw [EW.out, List.length_map]
                    obtain ⟨av2, cv2, e, SV⟩ := own_rdS hVl (by unfold maxLen; omega) hown
                    cases e
                    have HV := hide hVl
                    have SV2 := hide SV
                    clear hVl SV hown
                    go_wp2
                    go_meet
                    case rel => exact ⟨⟨av, cv, by rw [HV.out], SV2⟩, by rw [EB.out], hbl⟩
            case rest =>
              obtain ⟨⟨av, cv, rfl, S13⟩, rfl, K13⟩ := hcut
              have k13 := K13.out
              clear K13 k10 HQ FZ FN GV
              go_upto_region 29 with (first
                | (go_at_call 14; refine (PR.out _ k13).mono ?_; rintro r w14 ⟨ax, cx, rfl, S14, hb14⟩; have k14 := below_on k13 hb14)
                | (go_at_call 8; refine (ER.out _ _ k14).mono ?_; rintro r w15 ⟨rfl, hb15⟩; have k15 := below_on k14 hb15))
              have SS1 := hide (SA.out ax cx av cv V _ (S14.below hb15) ((S13.out.below hb14).below hb15))
              clear S13 S14 hb14 hb15 k13 k14 PR SA
              go_upto_region 33 with (go_at_call 15; refine SS1.out.mono ?_; rintro r w16 ⟨rfl, hb16⟩; have k16 := below_on k15 hb16)
              clear hb16 k15 SS1
              go_upto_block 2 with fail
              go_cut [28, 29, 30] from 175 to 200 (fun u i ok wx => (∃ ag cg, u = .slice ag RR.length cg ∧ Hid (Rd wx ag RR)) ∧ Hid (Below w.heap.size w wx))
              case first =>
                clear PC SF PK QZ WT ER IN
                by_cases h2 : e2 = 0
                · have t : (e2 == 0) = true := by rw [beq_iff_eq]; exact h2
                  have EL := hide (RV.out.1 h2)
                  have n63 := l63.out h2
                  have RG2 := hide (RG.out h2)
                  have H16 := hide (HT.out _ k16).2
                  obtain ⟨i0, hi, hz0, hz1, hz2⟩ := info_parts info3
                  have I0 := hide hi
                  clear h2 RV l63 RG HT hi
                  go_wp2
                  go_loopw [28, 29] (fun v i wr => ∃ k : Nat, k ≤ ts.length ∧ i = .int .i64 k ∧ wr.ownsRow w16.heap.size 3 1 v (M.rchL GR ts k).length ((M.rchL GR ts k).map (Value.int .i64)) ∧ Below w16.heap.size w16 wr) (fun _ i _ => ts.length - (intOf i).toNat)
                  case atStart => exact ⟨0, Nat.zero_le _, rfl, World.ownsRow_nil _ _ _ _, Below.refl _ _⟩
                  case round =>
                    obtain ⟨k, hk, rfl, hown, hbl⟩ := hrel
                    obtain ⟨va, vc, rfl, RVV, _⟩ := own_rd hown
                    have HO := hide hown
                    have HV := hide RVV
                    have LL := M.rchL_len GR ts k
                    have kw := below_on k16 hbl
                    clear hown RVV
                    by_cases hlt : k < ts.length
                    · obtain ⟨b1, off, rfl, hb1, hc⟩ := H16.out (by intro e; subst e; simp at hlt)
                      have s0 := ((hc k hlt).below hbl hb1).1
                      have G1 := hide (RG2.out k hlt wr kw)
                      have g8 := GB.out k
                      have LE : Hid (M.rchL GR ts (k + 1) = if M.leafB (M.nAt ts k) = true ∧ M.anyS (GR k) = true then M.rchL GR ts k ++ [(k : Int)] else M.rchL GR ts k) := rfl
                      have LB : Hid (M.leafB (M.nAt ts k) = decide (M.nf (M.nAt ts k) = -1)) := rfl
                      clear hc
                      by_cases hf : M.nf (M.nAt ts k) = -1
                      · have qf : (M.nf (M.nAt ts k) != -1) = false := by rw [bne_eq_false_iff_eq]; exact hf
                        have A1 := hide (fun ag cg W (hs : RdS W ag (GR k)) => AN.out ag cg (GR k) W hs)
                        rw [LB.out, decide_eq_true hf] at LE
                        clear hf LB RG2 AN GB
                        generalize M.rchL GR ts k = K at *
                        generalize M.nf (M.nAt ts k) = y at *
                        generalize hG : GR k = G at *
                        clear hG
                        cases hA : M.anyS G with
                        | true =>
                          rw [hA] at A1 LE
                          have L2 : Hid (M.rchL GR ts (k + 1) = K ++ [(k : Int)]) := by unfold Hid; rw [LE.out]; simp
                          clear hA LE
                          go_wp2_with (first
                            | (go_at_call 12; refine G1.out.mono ?_; rintro r w17 ⟨v, rfl, O17, hb17⟩; obtain ⟨av2, cv2, rfl, S17⟩ := own_rdS rfl (by unfold maxLen; omega) O17)
                            | (go_at_call 13; refine (A1.out av2 cv2 _ S17).mono ?_; rintro r w18 ⟨rfl, hb18⟩; have k18 := below_on (below_on hbl hb17) hb18; have kw18 := k18.size; have j18 := below_on hb17 hb18)
                            | (at_builtin; refine wpList_append_lies _ rfl (.tmp 197) (.tmp 199) 23 rfl w16.heap.size 3 i0 (.int .i64 0) 1 8 Tryz.underlying23 I0.out hz0 hz1 hz2 rfl (by omega) (.slice va K.length vc) K.length (K.map (Value.int .i64)) rfl ((own_up HO.out j18).alloc _) ⟨w18.heap.size, 0, none⟩ 1 1 [.int .i64 (k : Int)] rfl rfl (World.news_of_block (heap_alloc_new _ _)) (by simp [Value.oneCell']) (by omega) (by unfold maxLen; omega) (by omega) (by simp; omega) (w18.heap.size + 1) (by simp) ?_))
                          intro g cap w19 hov hgrow hat hlt19
                          have hb19 : Below w16.heap.size w16 w19 := (k18.alloc k18.size _).grown hgrow (by simp; omega) (fun k hk => (HO.out.lt k hk).1)
                          have HO19 : Hid (w19.ownsRow w16.heap.size 3 1 (.slice (some ⟨g, 0, none⟩) (K.length + 1) cap) (M.rchL GR ts (k + 1)).length ((M.rchL GR ts (k + 1)).map (Value.int .i64))) := by
                            unfold Hid; rw [L2.out, List.map_append, List.length_append]; exact hov
                          clear hov hgrow hat
                          go_wp2
                          go_roundw
                          case rel => exact ⟨k + 1, by omega, by go_num, HO19.out, hb19⟩
                          case measure => simp [intOf]; omega
                        | false =>
                          rw [hA] at A1 LE
                          have L2 : Hid (M.rchL GR ts (k + 1) = K) := by unfold Hid; rw [LE.out]; simp
                          clear hA LE
                          go_wp2_with (first
                            | (go_at_call 12; refine G1.out.mono ?_; rintro r w17 ⟨v, rfl, O17, hb17⟩; obtain ⟨av2, cv2, rfl, S17⟩ := own_rdS rfl (by unfold maxLen; omega) O17)
                            | (go_at_call 13; refine (A1.out av2 cv2 _ S17).mono ?_; rintro r w18 ⟨rfl, hb18⟩; have k18 := below_on (below_on hbl hb17) hb18; have j18 := below_on hb17 hb18))
                          go_roundw
                          case rel => exact ⟨k + 1, by omega, by go_num, by rw [L2.out]; exact own_up HO.out j18, k18⟩
                          case measure => simp [intOf]; omega
                      · have qf : (M.nf (M.nAt ts k) != -1) = true := by rw [bne_iff_ne]; exact hf
                        have L2 : Hid (M.rchL GR ts (k + 1) = M.rchL GR ts k) := by unfold Hid; rw [LE.out, LB.out, decide_eq_false hf]; simp
                        clear hf LB RG2 AN GB LE G1
                        generalize M.rchL GR ts k = K at *
                        generalize M.nf (M.nAt ts k) = y at *
                        go_wp2
                        go_roundw
                        case rel => exact ⟨k + 1, by omega, by go_num, by rw [L2.out]; exact HO.out, hbl⟩
                        case measure => simp [intOf]; omega
                    · have E : Hid (RR = M.rchL GR ts k) := by unfold Hid; rw [EL.out, show k = ts.length by omega]
                      clear RG2 AN GB
                      generalize M.rchL GR ts k = K at *
                      go_wp2
                      go_meet
                      case rel => exact ⟨⟨va, vc, by rw [E.out], by unfold Hid; rw [E.out]; exact HV.out⟩, kw⟩
                · have t : (e2 == 0) = false := by rw [beq_eq_false_iff_ne]; exact h2
                  have E := hide (RV.out.2 h2)
                  have RN : Hid (∀ W, Rd W none RR) := fun W => by rw [E.out]; exact ⟨Nat.zero_le _, fun h => absurd rfl h⟩
                  clear h2 RV l63 RG HT AN GB
                  go_wp2
                  refine wp_loop_rounds 1 ?_
                  rw [rounds_succ]
                  by_cases hl : 0 < ts.length
                  · go_wp2
                    go_meet
                    case rel => exact ⟨⟨none, 0, by rw [E.out]; rfl, RN.out _⟩, k16⟩
                  · have hl0 : ts.length = 0 := by omega
                    go_wp2
                    go_meet
                    case rel => exact ⟨⟨none, 0, by rw [E.out]; rfl, RN.out _⟩, k16⟩
              case rest =>
                obtain ⟨⟨ar, cr, rfl, R20⟩, K20⟩ := hcut
                have k20 := K20.out
                clear K20 k16 RG GB AN RV l63 HT
                go_upto_region 42 with (first
                  | (go_at_call 16; refine (PC.out _ k20).mono ?_; rintro r w21 ⟨ay, cy, rfl, R21, hb21⟩; have k21 := below_on k20 hb21)
                  | (go_at_call 8; refine (ER.out _ _ k21).mono ?_; rintro r w22 ⟨rfl, hb22⟩; have k22 := below_on k21 hb22))
                have I2 := hide (IN.out ay cy ar cr RR _ (R21.below hb22) ((R20.out.below hb21).below hb22))
                clear R20 R21 hb21 hb22 k20 k21 PC
                go_upto_region 45 with (first
                  | (go_at_call 10; refine I2.out.mono ?_; rintro r w23 ⟨rfl, hb23⟩; have k23 := below_on k22 hb23)
                  | (go_at_call 17; refine (SF.out _ k23).mono ?_; rintro r w24 ⟨rfl, hb24⟩; have k24 := below_on k23 hb24))
                clear hb23 hb24 k22 k23 I2 SF
                go_cut [216] from 215 to 216 (fun v wx => ∃ q : Bool, v = .bool q ∧ Hid (q = decide (sf = 0)) ∧ wx = w24)
                case first =>
                  by_cases h : sf = 0
                  · have t : (sf == 0) = true := by rw [beq_iff_eq]; exact h
                    have E : Hid (true = decide (sf = 0)) := (decide_eq_true h).symm
                    clear h
                    go_wp2
                    go_meet
                    case rel => exact ⟨true, rfl, E, rfl⟩
                  · have t : (sf == 0) = false := by rw [beq_eq_false_iff_ne]; exact h
                    have E : Hid (false = decide (sf = 0)) := (decide_eq_false h).symm
                    clear h
                    go_wp2
                    go_meet
                    case rel => exact ⟨false, rfl, E, rfl⟩
                case rest =>
                  obtain ⟨q, rfl, HQ, rfl⟩ := hcut
                  go_upto_if 216 with fail
                  go_cut [34] from 217 to 218 (fun u wx => (∃ ag cg, u = .slice ag Q.length cg ∧ Hid (Rd wx ag Q)) ∧ Hid (Below w.heap.size w wx))
                  case first =>
                    cases q with
                    | false =>
                      have E := hide (QZ.out (of_decide_eq_false HQ.out.symm))
                      have RN : Hid (Rd wc none Q) := by unfold Hid; rw [E.out]; exact ⟨Nat.zero_le _, fun h => absurd rfl h⟩
                      clear HQ PK QZ WT ER IN
                      go_wp2
                      go_meet
                      case rel => exact ⟨⟨none, 0, by rw [E.out]; rfl, RN⟩, k24⟩
                    | true =>
                      have P1 := hide (PK.out (of_decide_eq_true HQ.out.symm) _ k24)
                      clear HQ PK QZ WT ER IN
                      go_wp2_with (go_at_call 18; refine P1.out.mono ?_; rintro r w25 ⟨ag, cg, rfl, R25, hb25⟩)
                      go_meet
                      case rel => exact ⟨⟨ag, cg, rfl, R25⟩, below_on k24 hb25⟩
                  case rest =>
                    obtain ⟨⟨aq, cq, rfl, R26⟩, K26⟩ := hcut
                    have k26 := K26.out
                    clear K26 k24 PK QZ HQ
                    go_upto_region 49 with (first
                      | (go_at_call 19; refine (WT.out _ k26).mono ?_; rintro r w27 ⟨az, cz, rfl, R27, hb27⟩; have k27 := below_on k26 hb27)
                      | (go_at_call 8; refine (ER.out _ _ k27).mono ?_; rintro r w28 ⟨rfl, hb28⟩; have k28 := below_on k27 hb28))
                    have I3 := hide (IN.out az cz aq cq Q _ (R27.below hb28) ((R26.out.below hb27).below hb28))
                    clear R26 R27 hb27 hb28 k26 k27 WT ER IN
                    go_wp2_with (go_at_call 10; refine I3.out.mono ?_; rintro r w29 ⟨rfl, hb29⟩)
                    go_ret
                    exact ⟨rfl, below_on k28 hb29⟩

end Go.Proofs.YtandimbpealclacGreatDoor
