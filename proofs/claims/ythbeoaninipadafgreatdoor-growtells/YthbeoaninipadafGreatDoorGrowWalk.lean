/-
  GrowTells' own walk, over plain variables: what its callees answer as premises.
-/
import Derived.Test.YthbeoaninipadafGreatDoorGroR
import Derived.Deep.Cut
import Derived.Deep.CutRange
namespace Go.Proofs.YthbeoaninipadafGreatDoor
open Go.ChangeShapes Go.WideShapes Go.ChangeAt Go.RowKit Go.Lib
set_option linter.unusedVariables false

set_option maxHeartbeats 32000000 in
set_option maxRecDepth 10000 in
theorem gtells_core (a c0 : Option Addr) (ts GT : List M.Nd) (xn ca cc n0 : Nat) (m d l e SF SX SC GF RF WV : Int) (w : World)
    (R1 : Hid (∀ W, Below w.heap.size w W → Calls Tryz.prog 4 #[.slice a xn ca, .int .i64 m] W fun r w' => r = .returned (.tuple #[.int .i64 (n0 : Nat), .int .i64 e]) ∧ Below W.heap.size W w'))
    (R2 : Hid (∀ W, Below w.heap.size w W → Calls Tryz.prog 5 #[.slice a xn ca, .int .i64 m] W fun r w' => r = .returned (.tuple #[.int .i64 (n0 : Nat), errV e]) ∧ Below W.heap.size W w'))
    (ER : Hid (∀ c W, Below w.heap.size w W → Calls Tryz.prog 6 #[errV c, .int .i64 c] W fun r w' => r = .returned (.bool true) ∧ Below W.heap.size W w'))
    (SR : Hid (e = 0 → ¬ (l < 1 ∨ 60 < l) → ∀ W, Below w.heap.size w W → Calls Tryz.prog 7 #[.slice a xn ca, .int .i64 m, .int .i64 l] W fun r w' => ∃ (x y : Int) (b : Bool), r = .returned (.tuple #[.int .i64 x, .int .i64 y, .bool b]) ∧ w' = W ∧ Hid ((b = true → SF = 0 ∧ SX = x ∧ SC = y) ∧ (b = false → SF = 5 ∧ SX = 0 ∧ SC = 0))))
    (SF1 : Hid ((e ≠ 0 → SF = e ∧ SX = 0 ∧ SC = 0) ∧ (e = 0 → (l < 1 ∨ 60 < l) → SF = 1 ∧ SX = 0 ∧ SC = 0)))
    (SG : Hid (∀ W, Below w.heap.size w W → Calls Tryz.prog 8 #[.slice a xn ca, .int .i64 m, .int .i64 l] W fun r w' => r = .returned (.tuple #[.int .i64 SX, .int .i64 SC, errV SF]) ∧ Below W.heap.size W w'))
    (GF1 : Hid ((e ≠ 0 → GF = e) ∧ (e = 0 → (d < 0 ∨ 5 < d ∨ l < 1 ∨ 60 < l) → GF = 1) ∧ (e = 0 → ¬ (d < 0 ∨ 5 < d ∨ l < 1 ∨ 60 < l) → GF = 0)))
    (GT0 : Hid (GF ≠ 0 → GT = []))
    (GR : Hid (GF = 0 → ∀ W, Below w.heap.size w W → Calls Tryz.prog 9 #[.slice none 0 0, .slice a xn ca, .int .i64 m, .int .i64 d, .int .i64 l] W fun r w' => ∃ pa pc, r = .returned (.slice pa GT.length pc) ∧ RdN w' pa GT ∧ Below W.heap.size W w'))
    (FIT : Hid (∀ W, Below w.heap.size w W → Calls Tryz.prog 10 #[.slice a xn ca, .int .i64 m, .int .i64 d, .int .i64 l] W fun r w' => ∃ pa pc, r = .returned (.tuple #[.slice pa GT.length pc, errV GF]) ∧ RdN w' pa GT ∧ Below W.heap.size W w'))
    (ND : Hid (∀ pa pc qa qc W, RdN W pa GT → RdN W qa GT → Calls Tryz.prog 11 #[.slice pa GT.length pc, .slice qa GT.length qc] W fun r w' => r = .returned (.bool true) ∧ Below W.heap.size W w'))
    (RY : Hid (∀ W, Below w.heap.size w W → Calls Tryz.prog 12 #[.slice c0 ts.length cc, .slice a xn ca] W fun r w' => r = .returned (.int .i64 RF) ∧ Below W.heap.size W w'))
    (RW : Hid (RF = 0 → ∀ W, Below w.heap.size w W → Calls Tryz.prog 13 #[.slice c0 ts.length cc, .slice a xn ca] W fun r w' => r = .returned (.int .i64 WV) ∧ Below W.heap.size W w'))
    (WV0 : Hid (RF ≠ 0 → WV = 0))
    (WG : Hid (∀ W, Below w.heap.size w W → Calls Tryz.prog 14 #[.slice c0 ts.length cc, .slice a xn ca] W fun r w' => r = .returned (.tuple #[.int .i64 WV, errV RF]) ∧ Below W.heap.size W w')) :
    Calls Tryz.prog 3 #[.slice a xn ca, .int .i64 m, .int .i64 d, .int .i64 l, .slice c0 ts.length cc] w fun r w' => r = .returned (.bool true) ∧ Below w.heap.size w w' := by
  have B0 := hide (Below.refl w.heap.size w)
  have N0 : ((n0 : Int) != (n0 : Int)) = false := by simp
  go_enter Tryz.func3, Tryz.ntmps3
  go_upto_region 7 with (first
    | (go_at_call 4; refine (R1.out _ B0.out).mono ?_; rintro r w1 ⟨rfl, hb⟩; have k1 := hide hb; clear hb)
    | (go_at_call 5; refine (R2.out _ k1.out).mono ?_; rintro r w2 ⟨rfl, hb⟩; have k2 := hide (below_on k1.out hb); clear hb)
    | (go_at_call 6; refine (ER.out e _ k2.out).mono ?_; rintro r w3 ⟨rfl, hb⟩; have k3 := hide (below_on k2.out hb); clear hb))
  clear R1 R2 N0
  go_cut [64] from 55 to 64 (fun v wx => ∃ q : Bool, v = .bool q ∧ Hid (q = decide (e = 0 ∧ (l < 1 ∨ 60 < l))) ∧ wx = w3)
  case first =>
    by_cases he : e = 0
    · have t0 : (e == 0) = true := by simp [he]
      by_cases h1 : l < 1
      · have t1 : decide (l < 1) = true := decide_eq_true h1
        have E : Hid (true = decide (e = 0 ∧ (l < 1 ∨ 60 < l))) := (decide_eq_true ⟨he, .inl h1⟩).symm
        clear h1 he
        go_wp2
        go_meet
        case rel => exact ⟨true, rfl, E, rfl⟩
      · have t1 : decide (l < 1) = false := decide_eq_false h1
        have E : Hid (decide (60 < l) = decide (e = 0 ∧ (l < 1 ∨ 60 < l))) := by unfold Hid; simp [h1, he]
        clear h1 he
        go_wp2
        go_meet
        case rel => exact ⟨_, rfl, E, rfl⟩
    · have t0 : (e == 0) = false := by simp [he]
      have E : Hid (false = decide (e = 0 ∧ (l < 1 ∨ 60 < l))) := (decide_eq_false (fun q => he q.1)).symm
      clear he
      go_wp2
      go_meet
      case rel => exact ⟨false, rfl, E, rfl⟩
  case rest =>
    obtain ⟨q, rfl, HQ, rfl⟩ := hcut
    go_upto_if 64 with fail
    go_cut [16] from 64 to 64 (fun v wx => ∃ f1 : Int, v = .int .i64 f1 ∧ Hid ((e = 0 → (l < 1 ∨ 60 < l) → f1 = 1) ∧ (¬ (e = 0 ∧ (l < 1 ∨ 60 < l)) → f1 = e)) ∧ wx = wc)
    case first =>
      cases q with
      | true =>
        have hP := of_decide_eq_true HQ.out.symm
        go_wp2
        go_meet
        case rel => exact ⟨1, rfl, ⟨fun _ _ => rfl, fun h => absurd hP h⟩, rfl⟩
      | false =>
        have hP := of_decide_eq_false HQ.out.symm
        go_wp2
        go_meet
        case rel => exact ⟨e, rfl, ⟨fun h1 h2 => absurd ⟨h1, h2⟩ hP, fun _ => rfl⟩, rfl⟩
    case rest =>
      obtain ⟨f1, rfl, HF, rfl⟩ := hcut
      clear HQ
      go_upto_if 66 with fail
      go_cut [16, 17, 18, 19, 20, 21] from 65 to 77 (fun v1 v2 v3 _ _ _ wx => v1 = .int .i64 SF ∧ v2 = .int .i64 SX ∧ v3 = .int .i64 SC ∧ wx = wc)
      case first =>
        by_cases hz : f1 = 0
        · have t0 : (f1 == 0) = true := by simp [hz]
          have hp : ¬ (e = 0 ∧ (l < 1 ∨ 60 < l)) := fun q => by have := HF.out.1 q.1 q.2; omega
          have he : e = 0 := by have := HF.out.2 hp; omega
          have S1 := hide (SR.out he (fun q => hp ⟨he, q⟩))
          have hz0 := hide hz
          clear hp he hz
          go_upto_region 13 with (go_at_call 7; refine (S1.out _ k3.out).mono ?_; rintro r w4 ⟨x, y, b, rfl, rfl, HS⟩)
          cases b with
          | true =>
            obtain ⟨s1, s2, s3⟩ := HS.out.1 rfl
            go_wp2
            go_meet
            case rel => exact ⟨by rw [s1, hz0.out], by rw [s2], by rw [s3], rfl⟩
          | false =>
            obtain ⟨s1, s2, s3⟩ := HS.out.2 rfl
            go_wp2
            go_meet
            case rel => exact ⟨by rw [s1], by rw [s2], by rw [s3], rfl⟩
        · have t0 : (f1 == 0) = false := by simp [hz]
          have hs : SF = f1 ∧ SX = 0 ∧ SC = 0 := by
            by_cases he : e = 0
            · by_cases hl : l < 1 ∨ 60 < l
              · have := SF1.out.2 he hl
                have := HF.out.1 he hl
                omega
              · have := HF.out.2 (fun q => hl q.2)
                omega
            · have := SF1.out.1 he
              have := HF.out.2 (fun q => he q.1)
              omega
          obtain ⟨s1, s2, s3⟩ := hs
          clear hz
          go_wp2
          go_meet
          case rel => exact ⟨by rw [s1], by rw [s2], by rw [s3], rfl⟩
      case rest =>
        obtain ⟨rfl, rfl, rfl, rfl⟩ := hcut
        clear SR SF1 HF
        go_upto_region 20 with (first
          | (go_at_call 6; refine (ER.out SF _ k5.out).mono ?_; rintro r w6 ⟨rfl, hb⟩; have k6 := hide (below_on k5.out hb); clear hb)
          | (go_at_call 8; refine (SG.out _ k3.out).mono ?_; rintro r w5 ⟨rfl, hb⟩; have k5 := hide (below_on k3.out hb); clear hb))
        clear SG k3 k5
        go_cut [107] from 90 to 107 (fun v wx => ∃ q : Bool, v = .bool q ∧ Hid (q = decide (e = 0 ∧ (d < 0 ∨ 5 < d ∨ l < 1 ∨ 60 < l))) ∧ wx = w6)
        case first =>
          by_cases he : e = 0
          · have t0 : (e == 0) = true := by simp [he]
            by_cases h1 : d < 0
            · have t1 : decide (d < 0) = true := decide_eq_true h1
              have E : Hid (true = decide (e = 0 ∧ (d < 0 ∨ 5 < d ∨ l < 1 ∨ 60 < l))) := (decide_eq_true ⟨he, .inl h1⟩).symm
              clear h1 he
              go_wp2
              go_meet
              case rel => exact ⟨true, rfl, E, rfl⟩
            · have t1 : decide (d < 0) = false := decide_eq_false h1
              by_cases h2 : 5 < d
              · have t2 : decide (5 < d) = true := decide_eq_true h2
                have E : Hid (true = decide (e = 0 ∧ (d < 0 ∨ 5 < d ∨ l < 1 ∨ 60 < l))) := (decide_eq_true ⟨he, .inr (.inl h2)⟩).symm
                clear h1 h2 he
                go_wp2
                go_meet
                case rel => exact ⟨true, rfl, E, rfl⟩
              · have t2 : decide (5 < d) = false := decide_eq_false h2
                by_cases h3 : l < 1
                · have t3 : decide (l < 1) = true := decide_eq_true h3
                  have E : Hid (true = decide (e = 0 ∧ (d < 0 ∨ 5 < d ∨ l < 1 ∨ 60 < l))) := (decide_eq_true ⟨he, .inr (.inr (.inl h3))⟩).symm
                  clear h1 h2 h3 he
                  go_wp2
                  go_meet
                  case rel => exact ⟨true, rfl, E, rfl⟩
                · have t3 : decide (l < 1) = false := decide_eq_false h3
                  have E : Hid (decide (60 < l) = decide (e = 0 ∧ (d < 0 ∨ 5 < d ∨ l < 1 ∨ 60 < l))) := by unfold Hid; simp [h1, h2, h3, he]
                  clear h1 h2 h3 he
                  go_wp2
                  go_meet
                  case rel => exact ⟨_, rfl, E, rfl⟩
          · have t0 : (e == 0) = false := by simp [he]
            have E : Hid (false = decide (e = 0 ∧ (d < 0 ∨ 5 < d ∨ l < 1 ∨ 60 < l))) := (decide_eq_false (fun q => he q.1)).symm
            clear he
            go_wp2
            go_meet
            case rel => exact ⟨false, rfl, E, rfl⟩
        case rest =>
          obtain ⟨q, rfl, HQ, rfl⟩ := hcut
          go_upto_if 107 with fail
          go_cut [16] from 107 to 107 (fun v wx => v = .int .i64 GF ∧ wx = wc)
          case first =>
            cases q with
            | true =>
              have hP := of_decide_eq_true HQ.out.symm
              have g := hide (GF1.out.2.1 hP.1 hP.2)
              clear hP
              go_wp2
              go_meet
              case rel => exact ⟨by rw [g.out], rfl⟩
            | false =>
              have hP := of_decide_eq_false HQ.out.symm
              have g : Hid (GF = e) := by
                unfold Hid
                by_cases he : e = 0
                · rw [GF1.out.2.2 he (fun q => hP ⟨he, q⟩), he]
                · exact GF1.out.1 he
              clear hP
              go_wp2
              go_meet
              case rel => exact ⟨by rw [g.out], rfl⟩
          case rest =>
            obtain ⟨rfl, rfl⟩ := hcut
            clear HQ GF1
            go_upto_if 109 with fail
            go_cut [25] from 108 to 114 (fun v wx => ∃ qa qc, v = .slice qa GT.length qc ∧ Hid (RdN wx qa GT) ∧ Hid (Below w.heap.size w wx))
            case first =>
              by_cases hz : GF = 0
              · have t0 : (GF == 0) = true := by simp [hz]
                have G1 := hide (GR.out hz)
                clear hz
                go_wp2_with (go_at_call 9; refine (G1.out _ k6.out).mono ?_; rintro r w7 ⟨pa, pc, rfl, hr, hb⟩; have k7 := hide (below_on k6.out hb); have R7 := hide hr; clear hr hb)
                go_meet
                case rel => exact ⟨pa, pc, rfl, R7, k7⟩
              · have t0 : (GF == 0) = false := by simp [hz]
                have g := hide (GT0.out hz)
                clear hz
                go_wp2
                go_meet
                case rel => exact ⟨none, 0, by rw [g.out]; rfl, by unfold Hid; rw [g.out]; exact ⟨Nat.zero_le _, fun h => absurd rfl h⟩, k6⟩
            case rest =>
              obtain ⟨qa, qc, rfl, RQ, k7⟩ := hcut
              clear GR GT0 k6
              go_upto_if 133 with (first
                | (go_at_call 12; refine (RY.out _ k10.out).mono ?_; rintro r w11 ⟨rfl, hb⟩; have k11 := hide (below_on k10.out hb); clear hb)
                | (go_at_call 11; refine (ND.out _ _ _ _ _ (R8.out.below k9.out) ((RQ.out.below B8.out).below k9.out)).mono ?_; rintro r w10 ⟨rfl, hb⟩; have k10 := hide (below_on (below_on k8.out k9.out) hb); clear hb)
                | (go_at_call 6; refine (ER.out GF _ k8.out).mono ?_; rintro r w9 ⟨rfl, hb⟩; have k9 := hide hb; clear hb)
                | (go_at_call 10; refine (FIT.out _ k7.out).mono ?_; rintro r w8 ⟨pa, pc, rfl, hr, hb⟩; have k8 := hide (below_on k7.out hb); have B8 := hide hb; have R8 := hide hr; clear hr hb))
              clear FIT ND RY k7 k8 k9 k10 R8 B8 RQ
              go_cut [29] from 132 to 136 (fun v wx => v = .int .i64 WV ∧ Hid (Below w.heap.size w wx))
              case first =>
                by_cases hz : RF = 0
                · have t0 : (RF == 0) = true := by simp [hz]
                  have G1 := hide (RW.out hz)
                  clear hz
                  go_wp2_with (go_at_call 13; refine (G1.out _ k11.out).mono ?_; rintro r w12 ⟨rfl, hb⟩; have k12 := hide (below_on k11.out hb); clear hb)
                  go_meet
                  case rel => exact ⟨rfl, k12⟩
                · have t0 : (RF == 0) = false := by simp [hz]
                  have g := hide (WV0.out hz)
                  clear hz
                  go_wp2
                  go_meet
                  case rel => exact ⟨by rw [g.out], k11⟩
              case rest =>
                obtain ⟨rfl, k12⟩ := hcut
                have u1 : (SX == SX) = true := by simp
                have u2 : (SC == SC) = true := by simp
                have u3 : (WV == WV) = true := by simp
                clear RW WV0 k11
                go_wp2_with (first
                  | (go_at_call 6; refine (ER.out RF _ k13.out).mono ?_; rintro r w14 ⟨rfl, hb⟩; have k14 := hide (below_on k13.out hb); clear hb)
                  | (go_at_call 14; refine (WG.out _ k12.out).mono ?_; rintro r w13 ⟨rfl, hb⟩; have k13 := hide (below_on k12.out hb); clear hb))
                go_ret
                exact ⟨rfl, k14.out⟩

end Go.Proofs.YthbeoaninipadafGreatDoor
