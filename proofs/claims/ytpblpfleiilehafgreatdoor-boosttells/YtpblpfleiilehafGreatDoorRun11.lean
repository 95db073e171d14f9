/-
  Several texts as one: BTellW, MathSh, RefCell.
-/
import Derived.Test.YtpblpfleiilehafGreatDoorRun9
import Derived.Test.YtpblpfleiilehafGreatDoorRun10
import Derived.Deep.Cut
import Derived.Deep.CutRange
import Derived.Test.YtpblpfleiilehafGreatDoorRun7
import Derived.Test.YtpblpfleiilehafGreatDoorRun0
import Derived.Test.YtpblpfleiilehafGreatDoorMathR
import Derived.BigQuiet
import Derived.Deep.QuietTactic
namespace Go.Proofs.YtpblpfleiilehafGreatDoor
open Go.ChangeShapes Go.WideShapes Go.ChangeAt Go.RowKit Go.Lib
set_option linter.unusedVariables false

/-- a grove is stored where another one was -/
theorem Bx4.put {W V : World} {b c : Nat} {P Q G : Gr} (h : Bx4 V b P) (hx : Bx4 V c G) (hn : NewG W V Q) (hb : b < W.heap.size) (hc : c < b) (gl : ∀ W' : World, Below b V W' → RdG W' G) (B0 : Nat) (w : World) (hw : Below B0 w V) (hB : B0 ≤ b) :
    Bx4 ((((V.setCell ⟨b, 0, none⟩ (.int .i64 Q.f)).setCell ⟨b, 1, none⟩ (.int .i64 Q.w)).setCell ⟨b, 2, none⟩ (.slice Q.wa Q.ws.length Q.wc)).setCell ⟨b, 3, none⟩ (.slice Q.ta Q.ks.length Q.tc)) b Q ∧
    Bx4 ((((V.setCell ⟨b, 0, none⟩ (.int .i64 Q.f)).setCell ⟨b, 1, none⟩ (.int .i64 Q.w)).setCell ⟨b, 2, none⟩ (.slice Q.wa Q.ws.length Q.wc)).setCell ⟨b, 3, none⟩ (.slice Q.ta Q.ks.length Q.tc)) c G ∧
    Below B0 w ((((V.setCell ⟨b, 0, none⟩ (.int .i64 Q.f)).setCell ⟨b, 1, none⟩ (.int .i64 Q.w)).setCell ⟨b, 2, none⟩ (.slice Q.wa Q.ws.length Q.wc)).setCell ⟨b, 3, none⟩ (.slice Q.ta Q.ks.length Q.tc)) := by
  have far : ∀ (W : World) (o q : Nat) (v : Value), o ≠ q → (W.setCell ⟨b, o, none⟩ v).cell? ⟨b, q, none⟩ = W.cell? ⟨b, q, none⟩ := fun W o q v hq => World.cell?_setCell_other _ _ _ _ (by intro e; cases e; exact hq rfl)
  have off : ∀ (W : World) (o b' q : Nat) (v : Value), b ≠ b' → (W.setCell ⟨b, o, none⟩ v).cell? ⟨b', q, none⟩ = W.cell? ⟨b', q, none⟩ := fun W o b' q v hq => World.cell?_setCell_other _ _ _ _ (by intro e; cases e; exact hq rfl)
  have oth : ∀ b' q, b ≠ b' → ((((V.setCell ⟨b, 0, none⟩ (.int .i64 Q.f)).setCell ⟨b, 1, none⟩ (.int .i64 Q.w)).setCell ⟨b, 2, none⟩ (.slice Q.wa Q.ws.length Q.wc)).setCell ⟨b, 3, none⟩ (.slice Q.ta Q.ks.length Q.tc)).cell? ⟨b', q, none⟩ = V.cell? ⟨b', q, none⟩ := fun b' q hq => by
    rw [off _ _ _ _ _ hq, off _ _ _ _ _ hq, off _ _ _ _ _ hq, off _ _ _ _ _ hq]
  have bl : Below b V ((((V.setCell ⟨b, 0, none⟩ (.int .i64 Q.f)).setCell ⟨b, 1, none⟩ (.int .i64 Q.w)).setCell ⟨b, 2, none⟩ (.slice Q.wa Q.ws.length Q.wc)).setCell ⟨b, 3, none⟩ (.slice Q.ta Q.ks.length Q.tc)) := ((((Below.refl b V).setCell (p := ⟨b, 0, none⟩) (Nat.le_refl _) _).setCell (p := ⟨b, 1, none⟩) (Nat.le_refl _) _).setCell (p := ⟨b, 2, none⟩) (Nat.le_refl _) _).setCell (p := ⟨b, 3, none⟩) (Nat.le_refl _) _
  refine ⟨⟨?_, ?_, ?_, ?_, ?_, ?_⟩, ⟨?_, ?_, ?_, ?_, ?_, ?_⟩, (((hw.setCell (p := ⟨b, 0, none⟩) hB _).setCell (p := ⟨b, 1, none⟩) hB _).setCell (p := ⟨b, 2, none⟩) hB _).setCell (p := ⟨b, 3, none⟩) hB _⟩
  · rw [far _ _ _ _ (by decide), far _ _ _ _ (by decide), far _ _ _ _ (by decide)]; exact World.cell?_setCell_same _ _ _ h.c0
  · rw [far _ _ _ _ (by decide), far _ _ _ _ (by decide)]; exact World.cell?_setCell_same (u := .int .i64 P.w) _ _ _ (by rw [far _ _ _ _ (by decide)]; exact h.c1)
  · rw [far _ _ _ _ (by decide)]; exact World.cell?_setCell_same (u := .slice P.wa P.ws.length P.wc) _ _ _ (by rw [far _ _ _ _ (by decide), far _ _ _ _ (by decide)]; exact h.c2)
  · exact World.cell?_setCell_same (u := .slice P.ta P.ks.length P.tc) _ _ _ (by rw [far _ _ _ _ (by decide), far _ _ _ _ (by decide), far _ _ _ _ (by decide)]; exact h.c3)
  · simpa using h.lt
  · exact hn _ (by simp) (fun b' o hb' => oth b' o (by omega))
  · rw [oth _ _ (by omega)]; exact hx.c0
  · rw [oth _ _ (by omega)]; exact hx.c1
  · rw [oth _ _ (by omega)]; exact hx.c2
  · rw [oth _ _ (by omega)]; exact hx.c3
  · simpa using hx.lt
  · exact gl _ bl

set_option maxHeartbeats 32000000 in
set_option maxRecDepth 10000 in
theorem btells_core (a : Option Addr) (xs : List Sx) (ca n0 n1 : Nat) (G : Gr) (gB : M.Gv) (m r d s e e2 BF GF RF WV : Int) (RV : List Int) (w : World) (h : RdL w a xs) (hg : RdG w G)
    (R1 : Hid (∀ W, Below w.heap.size w W → Calls Tryz.prog 5 #[.slice a xs.length ca, .int .i64 m] W fun r w' => r = .returned (.tuple #[.int .i64 (n0 : Nat), .int .i64 e]) ∧ Below W.heap.size W w'))
    (BF1 : Hid ((e ≠ 0 → BF = e) ∧ (e = 0 → (r < 0 ∨ 8 < r ∨ d < 1 ∨ 4 < d ∨ s < 1 ∨ 100 < s) → BF = 1) ∧ (e = 0 → ¬ (r < 0 ∨ 8 < r ∨ d < 1 ∨ 4 < d ∨ s < 1 ∨ 100 < s) → BF = 0)))
    (BZ : Hid (BF ≠ 0 → gB = (0, 0, [], [])))
    (BO : Hid (BF = 0 → ∀ W, Below w.heap.size w W → Calls Tryz.prog 16 #[.slice a xs.length ca, .int .i64 m, .int .i64 r, .int .i64 d, .int .i64 s] W fun e w' => ∃ J : Gr, e = .returned J.v ∧ J.m = gB ∧ NewG W w' J ∧ Below W.heap.size W w'))
    (FT : Hid (∀ W, Below w.heap.size w W → Calls Tryz.prog 17 #[.slice a xs.length ca, .int .i64 m, .int .i64 r, .int .i64 d, .int .i64 s] W fun e w' => ∃ J : Gr, e = .returned (.tuple #[J.v, errV BF]) ∧ J.m = gB ∧ RdG w' J ∧ Below W.heap.size W w'))
    (ER : Hid (∀ c W, Below w.heap.size w W → Calls Tryz.prog 7 #[errV c, .int .i64 c] W fun r w' => r = .returned (.bool true) ∧ Below W.heap.size W w'))
    (GS : Hid (∀ (P Q : Gr) W, P.m = gB → Q.m = gB → RdG W P → RdG W Q → Calls Tryz.prog 18 #[P.v, Q.v] W fun r w' => r = .returned (.bool true) ∧ Below W.heap.size W w'))
    (RG : Hid (∀ W, Below w.heap.size w W → Calls Tryz.prog 19 #[G.v] W fun r w' => r = .returned (.int .i64 GF) ∧ Below W.heap.size W w'))
    (R2 : Hid (∀ W, Below w.heap.size w W → Calls Tryz.prog 5 #[.slice a xs.length ca, .int .i64 G.f] W fun r w' => r = .returned (.tuple #[.int .i64 (n1 : Nat), .int .i64 e2]) ∧ Below W.heap.size W w'))
    (RF1 : Hid ((GF ≠ 0 → RF = GF) ∧ (GF = 0 → RF = e2)))
    (RZ : Hid (RF ≠ 0 → RV = [] ∧ WV = 0))
    (RL : Hid (RF = 0 → RV.length = xs.length ∧ xs.length ≤ 60 ∧ WV = M.sqF RV))
    (EC : Hid (RF = 0 → ∀ k (hk : k < xs.length) W, Below w.heap.size w W → Calls Tryz.prog 21 #[G.v, .slice xs[k].1 xs[k].2.1.length xs[k].2.2.1] W fun e w' => ∃ ag ln cg, e = .returned (.slice ag ln cg) ∧ Below W.heap.size W w' ∧ ∀ W', Below w'.heap.size w' W' → Calls Tryz.prog 20 #[G.v, .slice ag ln cg] W' fun e w' => e = .returned (.int .i64 (xs[k].2.2.2 - RV.getD k 0)) ∧ Below W'.heap.size W' w'))
    (RI : Hid (RF = 0 → ∀ k, k < xs.length → -20000000000 ≤ RV.getD k 0 ∧ RV.getD k 0 ≤ 20000000000))
    (TI : Hid (RF = 0 → ∀ k (hk : k < xs.length), -1000 ≤ xs[k].2.2.2 ∧ xs[k].2.2.2 ≤ 1000))
    (RE : Hid (∀ W, Below w.heap.size w W → Calls Tryz.prog 23 #[G.v, .slice a xs.length ca] W fun e w' => ∃ pa pc, e = .returned (.tuple #[.slice pa RV.length pc, errV RF]) ∧ Rd w' pa RV ∧ Below W.heap.size W w'))
    (WR : Hid (∀ W, Below w.heap.size w W → Calls Tryz.prog 24 #[G.v, .slice a xs.length ca] W fun e w' => e = .returned (.tuple #[.int .i64 WV, errV RF]) ∧ Below W.heap.size W w'))
    (IN : Hid (∀ pa pc qa qc W, Rd W pa RV → Rd W qa RV → Calls Tryz.prog 25 #[.slice pa RV.length pc, .slice qa RV.length qc] W fun r w' => r = .returned (.bool true) ∧ Below W.heap.size W w')) :
    Calls Tryz.prog 4 #[.slice a xs.length ca, .int .i64 m, .int .i64 r, .int .i64 d, .int .i64 s, G.v] w fun r w' => r = .returned (.bool true) ∧ Below w.heap.size w w' := by
  have hmx : xs.length ≤ 9223372036854775807 := h.1
  have HL := hide h
  have NB := hide Bx4.new
  have N0 := hide (NB.out w G hg)
  have HG := hide hg
  have C : ∃ q : Bool, q = decide (e = 0 ∧ (r < 0 ∨ 8 < r ∨ d < 1 ∨ 4 < d ∨ s < 1 ∨ 100 < s)) := ⟨_, rfl⟩
  clear h hg
  simp only [Gr.v] at RG EC RE WR GS BO FT
  unfold Gr.v
  go_enter Tryz.func4, Tryz.ntmps4
  go_upto_region 2 with (go_at_call 5; refine (R1.out _ N0.out.2).mono ?_; rintro r w1 ⟨rfl, hb⟩; have k1 := hide (below_on N0.out.2 hb); have X1 := hide (N0.out.1.up hb); clear hb)
  clear R1 N0
  go_cut [60] from 35 to 60 (fun v wx => ∃ q : Bool, v = .bool q ∧ Hid (q = decide (e = 0 ∧ (r < 0 ∨ 8 < r ∨ d < 1 ∨ 4 < d ∨ s < 1 ∨ 100 < s))) ∧ wx = w1)
  case first =>
    by_cases he : e = 0
    · have t0 : (e == 0) = true := by simp [he]
      by_cases h0 : r < 0
      · have t1 : decide (r < 0) = true := decide_eq_true h0
        have E : Hid (true = decide (e = 0 ∧ (r < 0 ∨ 8 < r ∨ d < 1 ∨ 4 < d ∨ s < 1 ∨ 100 < s))) := (decide_eq_true ⟨he, .inl h0⟩).symm
        clear h0 he
        go_wp2
        go_meet
        case rel => exact ⟨true, rfl, E, rfl⟩
      · have t1 : decide (r < 0) = false := decide_eq_false h0
        by_cases h1 : 8 < r
        · have t2 : decide (8 < r) = true := decide_eq_true h1
          have E : Hid (true = decide (e = 0 ∧ (r < 0 ∨ 8 < r ∨ d < 1 ∨ 4 < d ∨ s < 1 ∨ 100 < s))) := (decide_eq_true ⟨he, .inr (.inl h1)⟩).symm
          clear h0 h1 he
          go_wp2
          go_meet
          case rel => exact ⟨true, rfl, E, rfl⟩
        · have t2 : decide (8 < r) = false := decide_eq_false h1
          by_cases h2 : d < 1
          · have t3 : decide (d < 1) = true := decide_eq_true h2
            have E : Hid (true = decide (e = 0 ∧ (r < 0 ∨ 8 < r ∨ d < 1 ∨ 4 < d ∨ s < 1 ∨ 100 < s))) := (decide_eq_true ⟨he, .inr (.inr (.inl h2))⟩).symm
            clear h0 h1 h2 he
            go_wp2
            go_meet
            case rel => exact ⟨true, rfl, E, rfl⟩
          · have t3 : decide (d < 1) = false := decide_eq_false h2
            by_cases h3 : 4 < d
            · have t4 : decide (4 < d) = true := decide_eq_true h3
              have E : Hid (true = decide (e = 0 ∧ (r < 0 ∨ 8 < r ∨ d < 1 ∨ 4 < d ∨ s < 1 ∨ 100 < s))) := (decide_eq_true ⟨he, .inr (.inr (.inr (.inl h3)))⟩).symm
              clear h0 h1 h2 h3 he
              go_wp2
              go_meet
              case rel => exact ⟨true, rfl, E, rfl⟩
            · have t4 : decide (4 < d) = false := decide_eq_false h3
              by_cases h4 : s < 1
              · have t5 : decide (s < 1) = true := decide_eq_true h4
                have E : Hid (true = decide (e = 0 ∧ (r < 0 ∨ 8 < r ∨ d < 1 ∨ 4 < d ∨ s < 1 ∨ 100 < s))) := (decide_eq_true ⟨he, .inr (.inr (.inr (.inr (.inl h4))))⟩).symm
                clear h0 h1 h2 h3 h4 he
                go_wp2
                go_meet
                case rel => exact ⟨true, rfl, E, rfl⟩
              · have t5 : decide (s < 1) = false := decide_eq_false h4
                have E : Hid (decide (100 < s) = decide (e = 0 ∧ (r < 0 ∨ 8 < r ∨ d < 1 ∨ 4 < d ∨ s < 1 ∨ 100 < s))) := by unfold Hid; simp [h0, h1, h2, h3, h4, he]
                clear h0 h1 h2 h3 h4 he
                go_wp2
                go_meet
                case rel => exact ⟨_, rfl, E, rfl⟩
    · have t0 : (e == 0) = false := by simp [he]
      have E : Hid (false = decide (e = 0 ∧ (r < 0 ∨ 8 < r ∨ d < 1 ∨ 4 < d ∨ s < 1 ∨ 100 < s))) := (decide_eq_false (fun q => he q.1)).symm
      clear he
      go_wp2
      go_meet
      case rel => exact ⟨false, rfl, E, rfl⟩
  case rest =>
    obtain ⟨q, rfl, HQ, rfl⟩ := hcut
    go_upto_if 60 with fail
    go_cut [14] from 60 to 60 (fun v wx => v = .int .i64 BF ∧ wx = wc)
    case first =>
      cases q with
      | true =>
        have hP := of_decide_eq_true HQ.out.symm
        have g := hide (BF1.out.2.1 hP.1 hP.2)
        clear hP
        go_wp2
        go_meet
        case rel => exact ⟨by rw [g.out], rfl⟩
      | false =>
        have hP := of_decide_eq_false HQ.out.symm
        have g : Hid (BF = e) := by
          unfold Hid
          by_cases he : e = 0
          · rw [BF1.out.2.2 he (fun q => hP ⟨he, q⟩), he]
          · exact BF1.out.1 he
        clear hP
        go_wp2
        go_meet
        case rel => exact ⟨by rw [g.out], rfl⟩
    case rest =>
      obtain ⟨rfl, rfl⟩ := hcut
      clear HQ BF1 C
      generalize wc = w1 at *
      have Z0 : Hid (RdG w1 ⟨0, 0, none, [], 0, none, [], 0⟩) := ⟨⟨Nat.zero_le _, fun h => absurd rfl h⟩, ⟨Nat.zero_le _, (fun k hk => by cases hk), fun h => absurd rfl h⟩⟩
      have N1 := hide (NB.out w1 ⟨0, 0, none, [], 0, none, [], 0⟩ Z0.out)
      have FZ : Hid (∀ i, (w1.alloc (grB ⟨0, 0, none, [], 0, none, [], 0⟩)).frozen? ⟨w1.heap.size, i, none⟩ = false) := fun i => by simp
      go_upto_if 62 with fail
      obtain ⟨wz, hwz⟩ : ∃ V, V = w1.alloc (.cells #[.int .i64 0, .int .i64 0, .slice none 0 0, .slice none 0 0] 45) := ⟨_, rfl⟩
      have Y2 : Hid (Bx4 wz w1.heap.size ⟨0, 0, none, [], 0, none, [], 0⟩) := by rw [hwz]; exact N1.out.1
      have X2 : Hid (Bx4 wz w.heap.size G) := by rw [hwz]; exact X1.out.up N1.out.2
      have k2 : Hid (Below w.heap.size w wz) := by rw [hwz]; exact below_on k1.out N1.out.2
      have f2 : Hid (∀ i, wz.frozen? ⟨w1.heap.size, i, none⟩ = false) := by rw [hwz]; exact FZ.out
      have g2 : Hid (w.heap.size ≤ w1.heap.size) := k1.out.size
      have l2 : Hid (w.heap.size < w1.heap.size) := X1.out.lt
      rw [← hwz]
      clear hwz N1 FZ Z0 X1 k1
      go_cut [68] from 61 to 67 (fun _ wx => ∃ Q : Gr, Hid (Bx4 wx w1.heap.size Q) ∧ Hid (Q.m = gB) ∧ Hid (Bx4 wx w.heap.size G) ∧ Hid (Below w.heap.size w wx))
      case first =>
        by_cases hz : BF = 0
        · have t0 : (BF == 0) = true := by simp [hz]
          have B1 := hide (BO.out hz wz k2.out)
          have ST : Hid (∀ (Q : Gr) w3, Below wz.heap.size wz w3 → NewG wz w3 Q → (w3.cell? ⟨w1.heap.size, 0, none⟩ = some (.int .i64 0) ∧ w3.cell? ⟨w1.heap.size, 1, none⟩ = some (.int .i64 0) ∧ w3.cell? ⟨w1.heap.size, 2, none⟩ = some (.slice none 0 0) ∧ w3.cell? ⟨w1.heap.size, 3, none⟩ = some (.slice none 0 0) ∧ ∀ i, w3.frozen? ⟨w1.heap.size, i, none⟩ = false) ∧ Hid (Bx4 ((((w3.setCell ⟨w1.heap.size, 0, none⟩ (.int .i64 Q.f)).setCell ⟨w1.heap.size, 1, none⟩ (.int .i64 Q.w)).setCell ⟨w1.heap.size, 2, none⟩ (.slice Q.wa Q.ws.length Q.wc)).setCell ⟨w1.heap.size, 3, none⟩ (.slice Q.ta Q.ks.length Q.tc)) w1.heap.size Q ∧
              Bx4 ((((w3.setCell ⟨w1.heap.size, 0, none⟩ (.int .i64 Q.f)).setCell ⟨w1.heap.size, 1, none⟩ (.int .i64 Q.w)).setCell ⟨w1.heap.size, 2, none⟩ (.slice Q.wa Q.ws.length Q.wc)).setCell ⟨w1.heap.size, 3, none⟩ (.slice Q.ta Q.ks.length Q.tc)) w.heap.size G ∧
              Below w.heap.size w ((((w3.setCell ⟨w1.heap.size, 0, none⟩ (.int .i64 Q.f)).setCell ⟨w1.heap.size, 1, none⟩ (.int .i64 Q.w)).setCell ⟨w1.heap.size, 2, none⟩ (.slice Q.wa Q.ws.length Q.wc)).setCell ⟨w1.heap.size, 3, none⟩ (.slice Q.ta Q.ks.length Q.tc)))) := fun Q w3 hb hQ => by
            have u := Y2.out.up hb
            refine ⟨⟨u.c0, u.c1, u.c2, u.c3, fun i => (hb.frozen (p := ⟨w1.heap.size, i, none⟩) Y2.out.lt).trans (f2.out i)⟩, ?_⟩
            exact u.put (X2.out.up hb) hQ Y2.out.lt l2.out (fun W' hB => HG.out.below ((below_on k2.out hb).trans (hB.mono g2.out))) w.heap.size w (below_on k2.out hb) g2.out
          clear hz BO
          go_wp2_with (go_at_call 16; refine B1.out.mono ?_; rintro r w3 ⟨Q, rfl, hm, hq, hb⟩; have S3 := (ST.out Q w3 hb hq).1; have F3 := (ST.out Q w3 hb hq).2; have s0 := S3.1; have s1 := S3.2.1; have s2 := S3.2.2.1; have s3 := S3.2.2.2.1; have s4 := S3.2.2.2.2; have HM := hide hm; clear hm hq hb S3)
          go_meet
          case rel => exact ⟨Q, F3.out.1, HM, F3.out.2.1, F3.out.2.2⟩
        · have t0 : (BF == 0) = false := by simp [hz]
          have bz := hide (BZ.out hz)
          clear hz
          go_wp2
          go_meet
          case rel => exact ⟨_, Y2, by unfold Hid; rw [bz.out]; rfl, X2, k2⟩
      case rest =>
        obtain ⟨Q, Y, HQ, X, K⟩ := hcut
        clear BO BZ Y2 X2 k2 f2
        generalize wc = w4 at *
        go_upto_region 8 with (go_at_call 17; refine (FT.out _ K.out).mono ?_; rintro r w5 ⟨J, rfl, hm, hg, hb⟩; have k5 := hide (below_on K.out hb); have Y5 := hide (Y.out.up hb); have X5 := hide (X.out.up hb); have HJ := hide hm; have N5 := hide (NB.out w5 J hg); clear hm hg hb)
        obtain ⟨w6, hw6⟩ : ∃ V, V = w5.alloc (grB J) := ⟨_, rfl⟩
        have Z6 : Hid (Bx4 w6 w5.heap.size J) := by rw [hw6]; exact N5.out.1
        have Y6 : Hid (Bx4 w6 w1.heap.size Q) := by rw [hw6]; exact Y5.out.up N5.out.2
        have X6 : Hid (Bx4 w6 w.heap.size G) := by rw [hw6]; exact X5.out.up N5.out.2
        have k6 : Hid (Below w.heap.size w w6) := by rw [hw6]; exact below_on k5.out N5.out.2
        rw [← hw6]
        clear hw6 N5 Y5 X5 k5 Y X K FT NB
        go_upto_region 9 with (go_at_call 7; refine (ER.out BF _ k6.out).mono ?_; rintro r w7 ⟨rfl, hb⟩; have k7 := hide (below_on k6.out hb); have Z7 := hide (Z6.out.up hb); have Y7 := hide (Y6.out.up hb); have X7 := hide (X6.out.up hb); clear hb)
        have a0 := Z7.out.c0
        have a1 := Z7.out.c1
        have a2 := Z7.out.c2
        have a3 := Z7.out.c3
        have b0 := Y7.out.c0
        have b1 := Y7.out.c1
        have b2 := Y7.out.c2
        have b3 := Y7.out.c3
        have G7 := hide (GS.out J Q w7 HJ.out HQ.out Z7.out.rd Y7.out.rd)
        go_upto_region 10 with (go_at_call 18; refine G7.out.mono ?_; rintro r w8 ⟨rfl, hb⟩; have k8 := hide (below_on k7.out hb); have X8 := hide (X7.out.up hb); clear hb)
        clear a0 a1 a2 a3 b0 b1 b2 b3 G7 Z6 Y6 X6 Z7 Y7 X7 k6 k7 GS HJ HQ
        have x0 := X8.out.c0
        have x1 := X8.out.c1
        have x2 := X8.out.c2
        have x3 := X8.out.c3
        go_upto_if 87 with (go_at_call 19; refine (RG.out _ k8.out).mono ?_; rintro r w9 ⟨rfl, hb⟩; have k9 := hide (below_on k8.out hb); have X9 := hide (X8.out.up hb); clear hb)
        clear x0 x1 x2 x3 X8 k8 RG
        go_cut [14] from 86 to 94 (fun v wx => v = .int .i64 RF ∧ Hid (Bx4 wx w.heap.size G) ∧ Hid (Below w.heap.size w wx))
        case first =>
          have x0 := X9.out.c0
          by_cases hz : GF = 0
          · have t0 : (GF == 0) = true := by simp [hz]
            have g := hide (RF1.out.2 hz)
            clear hz
            go_wp2_with (go_at_call 5; refine (R2.out _ k9.out).mono ?_; rintro r w10 ⟨rfl, hb⟩; have k10 := hide (below_on k9.out hb); have X10 := hide (X9.out.up hb); clear hb)
            go_meet
            case rel => exact ⟨by rw [g.out], X10, k10⟩
          · have t0 : (GF == 0) = false := by simp [hz]
            have g := hide (RF1.out.1 hz)
            clear hz
            go_wp2
            go_meet
            case rel => exact ⟨by rw [g.out], X9, k9⟩
        case rest =>
          obtain ⟨rfl, X, K⟩ := hcut
          clear RF1 R2 X9 k9
          generalize wc = w10 at *
          by_cases hz : RF = 0
          · have t0 : (RF == 0) = true := by simp [hz]
            obtain ⟨rl, x60, wv⟩ := RL.out hz
            have EK := hide (EC.out hz)
            have RK := hide (RI.out hz)
            have TK := hide (TI.out hz)
            have RVL := hide rl
            have WVV := hide wv
            obtain ⟨i0, hi, hz0, hz1, hz2⟩ := info_parts info3
            have I0 := hide hi
            have MK : Hid (∀ k, k < xs.length → RV.take (k + 1) = RV.take k ++ [RV.getD k 0]) := fun k hk => by
              rw [List.take_succ_eq_append_getElem (by omega), M.getD_at (by omega)]
            have MN : Hid (∀ k, k ≤ xs.length → (RV.take k).length ≤ 60) := fun k hk => by rw [List.length_take]; omega
            have ML : Hid (RV.take xs.length = RV) := List.take_of_length_le (by omega)
            clear hz rl wv EC RI TI RL RZ hi
            go_wp2
            go_loopw [20, 22, 23] (fun u i _ wr => ∃ (k : Nat) (va : Option Addr) (vc : Nat), k ≤ xs.length ∧ i = .int .i64 k ∧ u = .slice va (RV.take k).length vc ∧ Hid (wr.ownsRow w10.heap.size 3 1 (.slice va (RV.take k).length vc) (RV.take k).length ((RV.take k).map (Value.int .i64))) ∧ Hid (Below w10.heap.size w10 wr)) (fun _ i _ _ => xs.length - (intOf i).toNat)
            case atStart => exact ⟨0, none, 0, Nat.zero_le _, rfl, rfl, World.ownsRow_nil _ _ _ _, Below.refl _ _⟩
            case round =>
              obtain ⟨k, va, vc, hk, rfl, rfl, HO, KB⟩ := hrel
              by_cases hlt : k < xs.length
              · obtain ⟨bl, ol, rfl, hbl, hcl⟩ := HL.out.2.2 (by intro e; rw [e] at hlt; simp at hlt)
                have kz : (k : Int) < (xs.length : Int) := by omega
                have k60 : k < 60 := by omega
                have KW := hide (below_on K.out KB.out)
                have lb := MN.out k hk
                have N := hide (MK.out k hlt)
                have rb := RK.out k hlt
                have tb := TK.out k hlt
                have E1 := hide (EK.out k hlt)
                have CB : Hid (∀ W, Below w.heap.size w W → Below w10.heap.size w10 W → W.cell? ⟨w.heap.size, 0, none⟩ = some (.int .i64 G.f) ∧ W.cell? ⟨w.heap.size, 1, none⟩ = some (.int .i64 G.w) ∧ W.cell? ⟨w.heap.size, 2, none⟩ = some (.slice G.wa G.ws.length G.wc) ∧ W.cell? ⟨w.heap.size, 3, none⟩ = some (.slice G.ta G.ks.length G.tc) ∧ W.cell? ⟨bl, ol + k * 2, none⟩ = some (.slice xs[k].1 xs[k].2.1.length xs[k].2.2.1)) := fun W hW hX => by
                  have u := X.out.up hX
                  have c := (hcl k hlt).1
                  unfold sxV at c
                  exact ⟨u.c0, u.c1, u.c2, u.c3, (hW.cell (p := ⟨bl, ol + k * 2, none⟩) hbl).trans c⟩
                have q1 : Hid (∀ W, Below w.heap.size w W → W.cell? ⟨bl, ol + k * 2 + 1, none⟩ = some (.int .i64 xs[k].2.2.2)) := fun W hW => (hW.cell (p := ⟨bl, ol + k * 2 + 1, none⟩) hbl).trans (hcl k hlt).2
                clear EK RK TK MK MN ML hcl
                generalize RV.take k = L at *
                generalize RV.getD k 0 = rk at *
                generalize xs[k].2.2.2 = t at *
                generalize xs[k].2.1.length = rn at *
                generalize xs[k].2.2.1 = rc at *
                generalize xs[k].1 = ra at *
                go_upto_region 18 with fail
                go_cut [23] from 105 to 113 (fun v wx => v = .int .i64 (t - rk) ∧ Hid (Below wr.heap.size wr wx))
                case first =>
                  have DW : Hid (Below w.heap.size w wr.drew) := KW.out.drew
                  have DB : Hid (Below w10.heap.size w10 wr.drew) := KB.out.drew
                  have DR : Hid (Below wr.heap.size wr wr.drew) := (Below.refl _ _).drew
                  obtain ⟨s0, s1, s2, s3, s5⟩ := CB.out wr KW.out KB.out
                  clear HO I0 N rb tb q1
                  go_region_held3 (fun V => V.cell? ⟨w.heap.size, 0, none⟩ = some (.int .i64 G.f) ∧ V.cell? ⟨w.heap.size, 1, none⟩ = some (.int .i64 G.w) ∧ V.cell? ⟨w.heap.size, 2, none⟩ = some (.slice G.wa G.ws.length G.wc) ∧ V.cell? ⟨w.heap.size, 3, none⟩ = some (.slice G.ta G.ks.length G.tc) ∧ V.cell? ⟨bl, ol + k * 2, none⟩ = some (.slice ra rn rc)) (go_keep) ((first
                    | (go_at_call 20; refine (T5.out _ (Below.refl _ _)).mono ?_; rintro e w6 ⟨rfl, h6⟩; have R6 := hide (below_on R5.out h6); obtain ⟨s0, s1, s2, s3, s5⟩ := CB.out w6 (below_on W5.out h6) (B5.out.trans (h6.mono B5.out.size)); clear h6)
                    | (go_at_call 21; refine (E1.out _ DW.out).mono ?_; rintro e w5 ⟨ag, ln, cg, rfl, h5, T5'⟩; have T5 := hide T5'; have R5 := hide (DR.out.trans (h5.mono DR.out.size)); have W5 := hide (DW.out.trans (h5.mono DW.out.size)); have B5 := hide (DB.out.trans (h5.mono DB.out.size)); obtain ⟨s0, s1, s2, s3, s5⟩ := CB.out w5 W5.out B5.out; clear h5 T5')))
                  all_goals (
                    go_wp2
                    go_meet
                    case rel => exact ⟨rfl, R6⟩)
                case rest =>
                  obtain ⟨rfl, KX⟩ := hcut
                  have k4 := hide (KB.out.trans (KX.out.mono KB.out.size))
                  have kw4 := k4.out.size
                  have c1 := q1.out wc (below_on KW.out KX.out)
                  have et : Hid (t - (t - rk) = rk) := by unfold Hid; omega
                  obtain ⟨rb1, rb2⟩ := rb
                  obtain ⟨tb1, tb2⟩ := tb
                  clear CB E1 q1 KW
                  go_wp2_with (at_builtin; refine wpList_append_lies _ rfl (.tmp 114) (.tmp 122) 42 rfl w10.heap.size 3 i0 (.int .i64 0) 1 8 Tryz.underlying42 I0.out hz0 hz1 hz2 rfl (by omega) (.slice va L.length vc) L.length (L.map (Value.int .i64)) rfl ((own_up HO.out KX.out).alloc _) ⟨wc.heap.size, 0, none⟩ 1 1 [.int .i64 (t - (t - rk))] rfl rfl (World.news_of_block (heap_alloc_new _ _)) (by simp [Value.oneCell']) (by omega) (by unfold maxLen; omega) (by omega) (by simp; omega) (wc.heap.size + 1) (by simp) ?_)
                  intro g cap w5 hov5 hgrow hat hlt5
                  have hb5 : Hid (Below w10.heap.size w10 w5) := (k4.out.alloc k4.out.size _).grown hgrow (by simp; omega) (fun k hk => (HO.out.lt k hk).1)
                  have HO5 : Hid (w5.ownsRow w10.heap.size 3 1 (.slice (some ⟨g, 0, none⟩) (RV.take (k + 1)).length cap) (RV.take (k + 1)).length ((RV.take (k + 1)).map (Value.int .i64))) := by
                    rw [et.out] at hov5
                    unfold Hid; rw [N.out, List.map_append, List.length_append]; exact hov5
                  have NL : Hid (L.length + 1 = (RV.take (k + 1)).length) := by unfold Hid; rw [N.out, List.length_append]; rfl
                  clear hov5 hgrow hat
                  go_wp2
                  go_roundw
                  case rel => exact ⟨k + 1, some ⟨g, 0, none⟩, cap, by omega, by go_num, by rw [NL.out], HO5, hb5⟩
                  case measure => simp [intOf]; omega
              · have ek : k = xs.length := by omega
                have kz : ¬ ((k : Int) < (xs.length : Int)) := by omega
                have MQ : Hid (RV.take k = RV) := by unfold Hid; rw [ek]; exact ML.out
                rw [MQ.out] at HO
                rw [MQ.out]
                have rlen : RV.length ≤ 60 := by have := RVL.out; omega
                obtain ⟨pa, pc, hp1, hp2, _⟩ := own_rd HO.out
                have Q0 : Hid (Rd wr va RV) := by cases hp1; exact hp2
                have K0 := hide (below_on K.out KB.out)
                have X0 := hide (X.out.up KB.out)
                clear MK MN ML MQ HO hp1 hp2 ek EK RK TK KB K X RVL
                go_upto_if 125 with fail
                go_cut [21] from 124 to 127 (fun v wx => v = .int .i64 WV ∧ Hid (Below wr.heap.size wr wx))
                case first =>
                  have T := hide (rsq_any va RV vc wr Q0.out (by omega))
                  clear Q0
                  go_wp2_with (go_at_call 22; refine T.out.mono ?_; rintro r w11 ⟨rfl, hb⟩; have k11 := hide hb; clear hb)
                  go_meet
                  case rel => exact ⟨by rw [WVV.out], k11⟩
                case rest =>
                  obtain ⟨rfl, KX⟩ := hcut
                  have K13 := hide (below_on K0.out KX.out)
                  have X13 := hide (X0.out.up KX.out)
                  have Q13 := hide (Q0.out.below KX.out)
                  have y0 := X13.out.c0
                  have y1 := X13.out.c1
                  have y2 := X13.out.c2
                  have y3 := X13.out.c3
                  clear K0 X0 Q0 KX WVV
                  go_upto_region 23 with (go_at_call 23; refine (RE.out _ K13.out).mono ?_; rintro r w14 ⟨pa, pc, rfl, hr, hb⟩; have k14 := hide (below_on K13.out hb); have X14 := hide (X13.out.up hb); have P14 := hide hr; have Q14 := hide (Q13.out.below hb); clear hr hb)
                  clear y0 y1 y2 y3 X13 Q13 K13
                  go_upto_region 24 with (go_at_call 7; refine (ER.out RF _ k14.out).mono ?_; rintro r w15 ⟨rfl, hb⟩; have k15 := hide (below_on k14.out hb); have X15 := hide (X14.out.up hb); have P15 := hide (P14.out.below hb); have Q15 := hide (Q14.out.below hb); clear hb)
                  have z0 := X15.out.c0
                  have z1 := X15.out.c1
                  have z2 := X15.out.c2
                  have z3 := X15.out.c3
                  have u3 : (WV == WV) = true := by simp
                  go_wp2_with (first
                    | (go_at_call 25; refine (IN.out _ _ _ _ _ P17.out Q17.out).mono ?_; rintro r w18 ⟨rfl, hb⟩; have k18 := hide (below_on k17.out hb); clear hb)
                    | (go_at_call 7; refine (ER.out RF _ k16.out).mono ?_; rintro r w17 ⟨rfl, hb⟩; have k17 := hide (below_on k16.out hb); have P17 := hide (P16.out.below hb); have Q17 := hide (Q16.out.below hb); clear hb)
                    | (go_at_call 24; refine (WR.out _ k15.out).mono ?_; rintro r w16 ⟨rfl, hb⟩; have k16 := hide (below_on k15.out hb); have P16 := hide (P15.out.below hb); have Q16 := hide (Q15.out.below hb); clear hb))
                  go_ret
                  exact ⟨rfl, k18.out⟩
          · have t0 : (RF == 0) = false := by simp [hz]
            obtain ⟨rz, wz0⟩ := RZ.out hz
            subst rz wz0
            have Q13 : Hid (Rd w10 none []) := ⟨Nat.zero_le _, fun h => absurd rfl h⟩
            have K13 := K
            have X13 := X
            have y0 := X13.out.c0
            have y1 := X13.out.c1
            have y2 := X13.out.c2
            have y3 := X13.out.c3
            clear EC RI TI RL RZ hz K X
            go_wp2
            go_loopw [20, 22, 23] (fun u i _ wr => u = .slice none 0 0 ∧ i = .int .i64 0 ∧ Hid (wr = w10)) (fun _ _ _ _ => 0)
            case atStart => exact ⟨rfl, rfl, rfl⟩
            case round =>
              obtain ⟨rfl, rfl, E⟩ := hrel
              have e := E.out
              subst e
              by_cases hl : 0 < xs.length
              · have l1 : decide ((0 : Int) < (xs.length : Int)) = true := decide_eq_true (by omega)
                have l2 : decide (0 < xs.length) = true := decide_eq_true hl
                clear hl E
                go_upto_region 23 with (go_at_call 23; refine (RE.out _ K13.out).mono ?_; rintro r w14 ⟨pa, pc, rfl, hr, hb⟩; have k14 := hide (below_on K13.out hb); have X14 := hide (X13.out.up hb); have P14 := hide hr; have Q14 := hide (Q13.out.below hb); clear hr hb)
                clear y0 y1 y2 y3 X13 Q13 K13
                go_upto_region 24 with (go_at_call 7; refine (ER.out RF _ k14.out).mono ?_; rintro r w15 ⟨rfl, hb⟩; have k15 := hide (below_on k14.out hb); have X15 := hide (X14.out.up hb); have P15 := hide (P14.out.below hb); have Q15 := hide (Q14.out.below hb); clear hb)
                have z0 := X15.out.c0
                have z1 := X15.out.c1
                have z2 := X15.out.c2
                have z3 := X15.out.c3
                have u3 : ((0 : Int) == 0) = true := by simp
                go_wp2_with (first
                  | (go_at_call 25; refine (IN.out _ _ _ _ _ P17.out Q17.out).mono ?_; rintro r w18 ⟨rfl, hb⟩; have k18 := hide (below_on k17.out hb); clear hb)
                  | (go_at_call 7; refine (ER.out RF _ k16.out).mono ?_; rintro r w17 ⟨rfl, hb⟩; have k17 := hide (below_on k16.out hb); have P17 := hide (P16.out.below hb); have Q17 := hide (Q16.out.below hb); clear hb)
                  | (go_at_call 24; refine (WR.out _ k15.out).mono ?_; rintro r w16 ⟨rfl, hb⟩; have k16 := hide (below_on k15.out hb); have P16 := hide (P15.out.below hb); have Q16 := hide (Q15.out.below hb); clear hb))
                go_ret
                exact ⟨rfl, k18.out⟩
              · have l1 : decide ((0 : Int) < (xs.length : Int)) = false := decide_eq_false (by omega)
                have l2 : decide (0 < xs.length) = false := decide_eq_false hl
                clear hl E
                go_upto_region 23 with (go_at_call 23; refine (RE.out _ K13.out).mono ?_; rintro r w14 ⟨pa, pc, rfl, hr, hb⟩; have k14 := hide (below_on K13.out hb); have X14 := hide (X13.out.up hb); have P14 := hide hr; have Q14 := hide (Q13.out.below hb); clear hr hb)
                clear y0 y1 y2 y3 X13 Q13 K13
                go_upto_region 24 with (go_at_call 7; refine (ER.out RF _ k14.out).mono ?_; rintro r w15 ⟨rfl, hb⟩; have k15 := hide (below_on k14.out hb); have X15 := hide (X14.out.up hb); have P15 := hide (P14.out.below hb); have Q15 := hide (Q14.out.below hb); clear hb)
                have z0 := X15.out.c0
                have z1 := X15.out.c1
                have z2 := X15.out.c2
                have z3 := X15.out.c3
                have u3 : ((0 : Int) == 0) = true := by simp
                go_wp2_with (first
                  | (go_at_call 25; refine (IN.out _ _ _ _ _ P17.out Q17.out).mono ?_; rintro r w18 ⟨rfl, hb⟩; have k18 := hide (below_on k17.out hb); clear hb)
                  | (go_at_call 7; refine (ER.out RF _ k16.out).mono ?_; rintro r w17 ⟨rfl, hb⟩; have k17 := hide (below_on k16.out hb); have P17 := hide (P16.out.below hb); have Q17 := hide (Q16.out.below hb); clear hb)
                  | (go_at_call 24; refine (WR.out _ k15.out).mono ?_; rintro r w16 ⟨rfl, hb⟩; have k16 := hide (below_on k15.out hb); have P16 := hide (P15.out.below hb); have Q16 := hide (Q15.out.below hb); clear hb))
                go_ret
                exact ⟨rfl, k18.out⟩

end Go.Proofs.YtpblpfleiilehafGreatDoor

namespace Go.Proofs.YtpblpfleiilehafGreatDoor
set_option linter.unusedVariables false

theorem M.sam_at {l : List M.Sa} {m : Int} (c1 : l.length ≤ 60) (c3 : 0 ≤ m ∧ m ≤ 8) {k : Nat} (hk : k < l.length) (h : ∀ j, j < k → M.sa1F m (M.sAt l j) = 0) (hn : M.sa1F m (M.sAt l k) ≠ 0) : M.samF l m = (k, M.sa1F m (M.sAt l k)) := by
  unfold M.samF
  rw [if_neg (by omega), if_neg (by omega), if_neg (by omega), M.first_hit (k := k) (by show (!decide (M.sa1F m (M.sAt l k) = 0)) = true; rw [decide_eq_false hn]; rfl) (fun j hj => by show (!decide (M.sa1F m (M.sAt l j) = 0)) = false; rw [decide_eq_true (h j hj)]; rfl) hk]
theorem M.sam_all {l : List M.Sa} {m : Int} (c1 : l.length ≤ 60) (c2 : 0 < l.length) (c3 : 0 ≤ m ∧ m ≤ 8) (h : ∀ j, j < l.length → M.sa1F m (M.sAt l j) = 0) : M.samF l m = (0, 0) := by
  unfold M.samF
  rw [if_neg (by omega), if_neg (by omega), if_neg (by omega), M.first_miss (fun j hj => by show (!decide (M.sa1F m (M.sAt l j) = 0)) = false; rw [decide_eq_true (h j hj)]; rfl)]
theorem M.sa1_row {m : Int} {s : M.Sa} (h : M.rowF s.1 ≠ 0) : M.sa1F m s = M.rowF s.1 := by unfold M.sa1F; rw [if_pos h]
theorem M.sa1_tgt {m : Int} {s : M.Sa} (h : M.rowF s.1 = 0) (h2 : s.2 < -1000 ∨ 1000 < s.2) : M.sa1F m s = 1 := by unfold M.sa1F; rw [if_neg (by simp [h]), if_pos h2]
theorem M.sa1_len {m : Int} {s : M.Sa} (h : M.rowF s.1 = 0) (h2 : ¬ (s.2 < -1000 ∨ 1000 < s.2)) (h3 : (s.1.length : Int) ≠ m) : M.sa1F m s = 3 := by unfold M.sa1F; rw [if_neg (by simp [h]), if_neg h2, if_pos h3]
theorem M.sa1_nil {m : Int} {s : M.Sa} (h : M.rowF s.1 = 0) (h2 : ¬ (s.2 < -1000 ∨ 1000 < s.2)) (h3 : (s.1.length : Int) = m) : M.sa1F m s = if M.nilI ∈ s.1 then 5 else 0 := by unfold M.sa1F; rw [if_neg (by simp [h]), if_neg h2, if_neg (by simp [h3])]

end Go.Proofs.YtpblpfleiilehafGreatDoor

namespace Go.Proofs.YtpblpfleiilehafGreatDoor
open Go.ChangeShapes Go.WideShapes Go.ChangeAt Go.RowKit
set_option linter.unusedVariables false

theorem rcell_any (x : Int) (w : World) : Calls Tryz.prog 48 #[.int .i64 x] w fun e w' => e = .returned (.bool (!M.outI x)) ∧ w' = w := by
  by_cases h1 : -1000000 ≤ x
  · have E : Hid (decide (x ≤ 1000000) = !M.outI x) := by
      unfold Hid M.outI
      rw [decide_eq_false (show ¬ x < -1000000 by omega), Bool.false_or]
      by_cases h : x ≤ 1000000
      · rw [decide_eq_true h, decide_eq_false (by omega)]; rfl
      · rw [decide_eq_false h, decide_eq_true (by omega)]; rfl
    have h1' : decide (-1000000 ≤ x) = true := decide_eq_true h1
    clear h1
    go_enter Tryz.func48, Tryz.ntmps48
    go_wp2
    go_ret
    exact ⟨ret_bool E.out, rfl⟩
  · have E : Hid (false = !M.outI x) := by
      unfold Hid M.outI
      rw [decide_eq_true (show x < -1000000 by omega)]; rfl
    have h1' : decide (-1000000 ≤ x) = false := decide_eq_false h1
    clear h1
    go_enter Tryz.func48, Tryz.ntmps48
    go_wp2
    go_ret
    exact ⟨ret_bool E.out, rfl⟩

end Go.Proofs.YtpblpfleiilehafGreatDoor
