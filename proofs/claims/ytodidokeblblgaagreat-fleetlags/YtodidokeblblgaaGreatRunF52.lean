/-
  Several texts as one: LagW, LagAll.
-/
import Derived.Test.YtodidokeblblgaaGreatRunF9
import Derived.Test.YtodidokeblblgaaGreatRunF49
import Derived.Test.YtodidokeblblgaaGreatRunF51
import Derived.Test.YtodidokeblblgaaGreatRunF2
import Derived.BigQuiet
import Derived.Deep.Cut
import Derived.Deep.CutRange
import Derived.Test.YtodidokeblblgaaGreatRunF19
namespace Go.Proofs.YtodidokeblblgaaGreat
open Go.ChangeShapes Go.WideShapes Go.ChangeAt Go.RowKit Go.Lib Go.Maps
set_option linter.unusedVariables false
theorem FH.bl {W w : World} {f : Nat} {X : M.Fl} {Z : Nat → Nat} (h : FH W w f X Z) : Below W.heap.size W w := by
  obtain ⟨ok, lf, va, sf, T, ra, rc, ss, B, h⟩ := h
  exact h.bl
theorem FH.up {W w w' : World} {f : Nat} {X : M.Fl} {Z : Nat → Nat} (h : FH W w f X Z) (hb : Below w.heap.size w w') : FH W w' f X Z := by
  obtain ⟨ok, lf, va, sf, T, ra, rc, ss, B, h⟩ := h
  exact ⟨ok, lf, va, sf, T, ra, rc, ss, B, h.up hb⟩
theorem FH.z0 {W w : World} {f : Nat} {X : M.Fl} {Z : Nat → Nat} (h : FH W w f X Z) {q : Nat} (hq : q < W.heap.size ∨ w.heap.size ≤ q) : Z q = 0 := by
  obtain ⟨ok, lf, va, sf, T, ra, rc, ss, B, h⟩ := h
  by_cases y : Z q = 0
  · exact y
  · have := h.tn q y
    omega
theorem rdc_in {w : World} {a : Option Addr} {l : List CaC} (h : RdC w a l) {k : Nat} (hk : k < l.length) : CaIn w (l.getD k ca0).1 (l.getD k ca0).2.1 (l.getD k ca0).2.2 := h.2.1 _ (by rw [List.getD, List.getElem?_eq_getElem hk]; exact List.getElem_mem hk)
theorem rep_at (n j : Nat) : (List.replicate n 0).getD j 0 = 0 := by
  by_cases h : j < n
  · simp [List.getD, h]
  · simp [List.getD, h]
/-- a call that came in is done -/
theorem FH.doIn {W w : World} {f : Nat} {X : M.Fl} {Z : Nat → Nat} (h : FH W w f X Z) {k : CaC} (hc : CaIn W k.1 k.2.1 k.2.2) (hm : X.m ≤ 900000) :
    Calls Tryz.prog 5 #[.pointer (some ⟨f, 0, none⟩), caV k.1 k.2.1 k.2.2] w fun e w' => e = .returned (.tuple #[anV (M.doX X k.1).1, errV (M.doX X k.1).2.1]) ∧ ∃ Z', FH W w' f (M.doX X k.1).2.2 Z' ∧ KeptF w Z Z' w' :=
  fl_Do h (hc.below h.bl) (fun hne p hp => by
    obtain ⟨b, off, e, hl, _⟩ := hc.rd.2.2 hne
    rw [e] at hp; cases hp
    exact h.z0 (.inl hl)) hm

set_option maxHeartbeats 32000000 in
set_option maxRecDepth 10000 in
theorem lags_walkS (a b : Option Addr) (l : List CaC) (xs : List Int) (ca cb : Nat) (n : Nat) (key : Int) (W : World) (hc : RdC W a l) (hx : Rd W b xs) (n1 : 1 ≤ n) (n8 : n ≤ 8) :
    Calls Tryz.prog 3 #[.int .i64 (n : Int), .slice a l.length ca, .slice b xs.length cb, .int .i64 key] W fun e w' => e = .returned (.bool true) ∧ Below W.heap.size W w' := by
  have NW := hide (fl_New (Below.refl W.heap.size W) n n1 n8)
  have DO : Hid (∀ V f X Z j, FH W V f X Z → X.m ≤ 900000 → j < l.length → Calls Tryz.prog 5 #[.pointer (some ⟨f, 0, none⟩), caV (l.getD j ca0).1 (l.getD j ca0).2.1 (l.getD j ca0).2.2] V fun e w' => e = .returned (.tuple #[anV (M.doX X (l.getD j ca0).1).1, errV (M.doX X (l.getD j ca0).1).2.1]) ∧ ∃ Z', FH W w' f (M.doX X (l.getD j ca0).1).2.2 Z' ∧ KeptF V Z Z' w') := fun V f X Z j hf hm hj => hf.doIn (rdc_in hc hj) hm
  have LAG : Hid (∀ V f X Z (j d : Nat), FH W V f X Z → X.m ≤ 900 → j < X.ks.length → X.m - X.ks.getD j 0 = d → Calls Tryz.prog 6 #[.pointer (some ⟨f, 0, none⟩), .int .i64 (j : Int)] V fun e w' => e = .returned (.tuple #[.int .i64 (d : Int), .nilIface]) ∧ w' = V) := fun V f X Z j d hf hm hj hd => by
    have := fl_Lag hf hj (by omega)
    rw [hd] at this
    exact this
  have HC := hide hc
  have HX := hide hx
  have hmx : xs.length ≤ 9223372036854775807 := hx.1
  have ll : l.length ≤ 9223372036854775807 := hc.1
  clear hc hx
  go_enter Tryz.func3, Tryz.ntmps3
  go_upto_region 5 with (go_at_call 4; refine NW.out.mono ?_; rintro e w1 ⟨f, Z0, rfl, hf, hb, hz⟩; have F0 := hide hf; clear hf hb hz)
  clear NW
  go_wp2
  go_loopw [11, 12, 13, 14, 15, 16] (fun al i _ _ _ _ wr => ∃ (k m : Nat) (X : M.Fl) (Z : Nat → Nat), k ≤ l.length ∧ k ≤ 12 ∧ m ≤ k ∧ al = .int .i64 (m : Int) ∧ i = .int .i64 (k : Int) ∧ Hid (FH W wr f X Z) ∧ Hid (X.m = m ∧ X.ks = List.replicate n 0)) (fun _ i _ _ _ _ _ => 12 - (intOf i).toNat)
  case atStart => exact ⟨0, 0, M.fl0 n, Z0, Nat.zero_le _, by omega, Nat.le_refl _, rfl, rfl, F0, rfl, rfl⟩
  case round =>
    clear F0
    obtain ⟨k, m, X, Z, hk, hk12, hmk, rfl, rfl, HF, HM⟩ := hrel
    by_cases klt : k < l.length ∧ k < 12
    case pos =>
      obtain ⟨k1, k2⟩ := klt
      have g1 : decide ((k : Int) < (l.length : Int)) = true := decide_eq_true (by omega)
      have g2 : decide ((k : Int) < 12) = true := decide_eq_true (by omega)
      have g1' : decide (k < l.length) = true := decide_eq_true k1
      have g2' : decide (k < 12) = true := decide_eq_true k2
      have kz : (k : Int) < (l.length : Int) := by omega
      obtain ⟨bb, off, rfl, hbl, sv, _⟩ := RdC.at (HC.out.below HF.out.bl) k1
      obtain ⟨c0, c1, c2, c3, c4, c5, c6⟩ := sv
      have D1 := hide (DO.out wr f X Z k HF.out (by have := HM.out.1; omega) k1)
      -- what is behind the call
      have AFT : Hid (∃ m' : Nat, (M.doX X (l.getD k ca0).1).2.2.m = m' ∧ (M.doX X (l.getD k ca0).1).2.2.ks = List.replicate n 0 ∧ m ≤ m' ∧ m' ≤ m + 1 ∧ ((M.doX X (l.getD k ca0).1).2.1 = 0 → 1 ≤ m')) := by
        obtain ⟨ok, lf, va, sf, T, ra, rc, ss, B, hh⟩ := HF.out
        have ci := rdc_in HC.out k1
        obtain ⟨d1, d2, d3, d4, d5, d6, d7⟩ := M.do_fl ok hh.hl.ok ci.nb ci.rd.2.1
        have h1 := HM.out.1
        refine ⟨_, rfl, by rw [d7]; exact HM.out.2, ?_, ?_, fun z => M.do_nil ok _ z⟩
        · rw [d3]; split <;> omega
        · rw [d3]; split <;> omega
      obtain ⟨m', e1, e2, q1, q2, q3⟩ := AFT.out
      have NM : Hid ((M.doX X (l.getD k ca0).1).2.2.m = m' ∧ (M.doX X (l.getD k ca0).1).2.2.ks = List.replicate n 0) := ⟨e1, e2⟩
      have NN : (M.doX X (l.getD k ca0).1).2.1 = 0 → 1 ≤ m' := q3
      clear AFT e1 e2 q3 HF HM DO
      unfold caV anV at D1
      generalize hY : (M.doX X (l.getD k ca0).1).2.2 = Y at *
      clear hY
      generalize (M.doX X (l.getD k ca0).1).1.num = r1 at *
      generalize (M.doX X (l.getD k ca0).1).1.idx = r2 at *
      have W3 : (errV (M.doX X (l.getD k ca0).1).2.1 = .nilIface ∧ 1 ≤ m') ∨ (∃ x, errV (M.doX X (l.getD k ca0).1).2.1 = .iface 44 (.int .i64 x)) := by
        by_cases z : (M.doX X (l.getD k ca0).1).2.1 = 0
        · exact .inl ⟨err_nil z, NN z⟩
        · exact .inr ⟨_, err_some z⟩
      generalize errV (M.doX X (l.getD k ca0).1).2.1 = ev at *
      generalize l.getD k ca0 = ck at *
      have u1 : decide ((m' : Int) < (m : Int)) = false := decide_eq_false (by omega)
      have u1' : decide (m' < m) = false := decide_eq_false (by omega)
      have u2 : decide ((m : Int) + 1 < (m' : Int)) = false := decide_eq_false (by omega)
      have u2' : decide (m + 1 < m') = false := decide_eq_false (by omega)
      have u3 : IntKind.i64.wrap ((m : Int) + 1) = (m : Int) + 1 := i64_in (by omega) (by omega)
      have L2 : Hid (∀ V Z', FH W V f Y Z' → Calls Tryz.prog 6 #[.pointer (some ⟨f, 0, none⟩), .int .i64 0] V fun e w' => e = .returned (.tuple #[.int .i64 (m' : Int), .nilIface]) ∧ w' = V) := fun V Z' hf => LAG.out V f Y Z' 0 m' hf (by rw [NM.out.1]; omega) (by rw [NM.out.2, List.length_replicate]; omega) (by rw [NM.out.1, NM.out.2, rep_at, Nat.sub_zero])
      clear LAG NN
      go_upto_region 10 with (first
        | (go_at_call 6; refine (L2.out _ _ FA2.out).mono ?_; rintro e w3 ⟨rfl, ew⟩; have ew2 := ew.symm; subst ew2)
        | (go_at_call 5; refine D1.out.mono ?_; rintro e w2 ⟨rfl, Z2, h2, k2'⟩; have FA2 : Hid (FH W (w2.alloc (.cells #[.int .i64 r1, .int .i64 r2] 30)) f Y Z2) := (h2.up ((Below.refl _ w2).alloc (Nat.le_refl _) _)); clear h2 k2'))
      clear c0 c1 c2 c3 c4 c5 c6 D1 L2
      rcases W3 with ⟨rfl, m1⟩ | ⟨x, rfl⟩
      · have v1 : ((m' : Int) == 0) = false := by rw [beq_eq_false_iff_ne]; omega
        have v1' : (m' == 0) = false := by rw [beq_eq_false_iff_ne]; omega
        go_wp2
        go_roundw
        case rel => exact ⟨k + 1, m', Y, Z2, by omega, by omega, by omega, rfl, by go_num, FA2, NM⟩
        case measure => simp [intOf]; omega
      · go_wp2
        go_roundw
        case rel => exact ⟨k + 1, m', Y, Z2, by omega, by omega, by omega, rfl, by go_num, FA2, NM⟩
        case measure => simp [intOf]; omega
    case neg =>
      have ways : (decide ((k : Int) < (l.length : Int)) = false ∧ decide (k < l.length) = false) ∨ (decide ((k : Int) < (l.length : Int)) = true ∧ decide (k < l.length) = true ∧ decide ((k : Int) < 12) = false ∧ decide (k < 12) = false) := by
        simp only [decide_eq_true_iff, decide_eq_false_iff_not]; omega
      have L0 : Hid (M.Lg3 X m n 0 0) := ⟨HM.out.1, by rw [HM.out.2, List.length_replicate], (fun j hj => by omega), (fun h => by rw [HM.out.2, rep_at, Nat.zero_min]), fun j h1 h2 => by rw [HM.out.2, rep_at]⟩
      have m12 : m ≤ 12 := by omega
      clear HM klt DO hmk
      go_upto_region 6 with fail
      go_cut [51] from 44 to 51 (fun v wx => v = .bool false ∧ wx = wr)
      case first =>
        rcases ways with ⟨t1, t1'⟩ | ⟨t1, t1', t2, t2'⟩
        all_goals (
          go_wp2
          go_meet
          case rel => exact ⟨rfl, rfl⟩)
      case rest =>
      obtain ⟨rfl, ewr⟩ := hcut
      subst ewr
      obtain ⟨wr, hwr⟩ : ∃ V, V = wc := ⟨_, rfl⟩
      subst hwr
      clear ways
      have SCO : Hid (∀ V X Z (j q : Nat), FH W V f X Z → X.m ≤ 1000 → j < X.ks.length → q < l.length → Calls Tryz.prog 8 #[.pointer (some ⟨f, 0, none⟩), .int .i64 (j : Int), .string (byStr (l.getD q ca0).1.name), .slice b xs.length cb, .int .i64 key, .int .i64 (m : Int)] V fun e w' => e = .returned (.tuple #[scoV (M.scV (M.shN X.L.calls (X.ks.getD j 0)) (X.ks.getD j 0) (l.getD q ca0).1.name xs key m), errV (M.scF (M.shN X.L.calls (X.ks.getD j 0)) (X.ks.getD j 0) (l.getD q ca0).1.name xs key m)]) ∧ ∃ Z', FH W w' f X Z' ∧ KeptF V Z Z' w') := fun V X Z j q hf hm hj hq => fl_Score hf hj hm (rdc_in HC.out hq).nb (rdc_in HC.out hq).nl b xs cb (HX.out.below hf.bl) key m
      go_wp2
      go_loopw [17, 18, 19, 20, 21, 22, 23, 24, 25, 26, 27] (fun i _ _ _ _ _ _ _ _ _ _ wr => ∃ (i' : Nat) (X : M.Fl) (Z : Nat → Nat), i' ≤ n ∧ i = .int .i64 (i' : Int) ∧ Hid (FH W wr f X Z) ∧ Hid (M.Lg3 X m n i' 0)) (fun i _ _ _ _ _ _ _ _ _ _ _ => n - (intOf i).toNat)
      case atStart => exact ⟨0, X, Z, Nat.zero_le _, rfl, HF, L0⟩
      case round =>
        clear HF L0 X Z
        obtain ⟨i', X, Z, hi, rfl, HF, HL⟩ := hrel
        by_cases hlt : i' < n
        case neg =>
          have ei : i' = n := by omega
          have g1 : decide ((i' : Int) < (n : Int)) = false := decide_eq_false (by omega)
          have g1' : decide (i' < n) = false := decide_eq_false (by omega)
          have kl : 0 < X.ks.length := by rw [HL.out.len]; omega
          have RS := hide (fl_Restart HF.out kl)
          have LG : Hid (∀ V Z', FH W V f (M.rsX X 0) Z' → Calls Tryz.prog 6 #[.pointer (some ⟨f, 0, none⟩), .int .i64 0] V fun e w' => e = .returned (.tuple #[.int .i64 (m : Int), .nilIface]) ∧ w' = V) := fun V Z' hf => LAG.out V f (M.rsX X 0) Z' 0 m hf (by have := HL.out.ms; show X.m ≤ 900; omega) (by show 0 < (X.ks.set 0 0).length; rw [List.length_set]; exact kl) (by
            show X.m - (X.ks.set 0 0).getD 0 0 = m
            rw [M.set_at kl, if_pos rfl, HL.out.ms, Nat.sub_zero])
          clear HL LAG SCO kl ei HF HC HX
          go_wp2_with (first
            | (go_at_call 9; refine RS.out.mono ?_; rintro e w2 ⟨rfl, Z2, h2, k2⟩; have F2 := hide h2; have B2 := hide h2.bl; clear h2 k2)
            | (go_at_call 6; refine (LG.out _ _ F2.out).mono ?_; rintro e w3 ⟨rfl, ew⟩; have ew2 := ew.symm; subst ew2))
          go_ret
          exact ⟨rfl, B2.out⟩
        case pos =>
          have g1 : decide ((i' : Int) < (n : Int)) = true := decide_eq_true (by omega)
          have g1' : decide (i' < n) = true := decide_eq_true (by omega)
          go_wp2
          go_loopw [18, 19, 20] (fun kk _ _ wr => ∃ (t : Nat) (X : M.Fl) (Z : Nat → Nat), t ≤ m + 1 ∧ kk = .int .i64 ((m : Int) - (t : Int)) ∧ Hid (FH W wr f X Z) ∧ Hid (M.Lg3 X m n i' t)) (fun kk _ _ _ => ((intOf kk) + 1).toNat)
          case atStart => exact ⟨0, X, Z, Nat.zero_le _, by simp, HF, HL⟩
          case round =>
            clear HF HL X Z
            obtain ⟨t, X, Z, ht, rfl, HF, HL⟩ := hrel
            have kl : i' < X.ks.length := by rw [HL.out.len]; exact hlt
            by_cases tm : t ≤ m
            case pos =>
              have e2 : ((m - t : Nat) : Int) = (m : Int) - (t : Int) := by omega
              have LG := LAG.out wr f X Z i' (m - t) HF.out (by have := HL.out.ms; omega) kl (by rw [HL.out.ms, HL.out.here hlt]; omega)
              rw [e2] at LG
              have TL := hide (fl_Tell HF.out kl (by have := HL.out.ms; omega))
              have NL := hide (HL.out.tell hlt)
              obtain ⟨dd, hdd⟩ : ∃ x, x = (m : Int) - (t : Int) := ⟨_, rfl⟩
              rw [← hdd] at LG ⊢
              replace LG := hide LG
              have v1 : decide ((0 : Int) ≤ dd) = true := decide_eq_true (by omega)
              have v2 : 0 ≤ dd := by omega
              have v3 : dd ≤ 12 := by omega
              have w1 : IntKind.i64.wrap (dd - 1) = dd - 1 := i64_in (by omega) (by omega)
              have HD := hide hdd
              clear HF HL LAG SCO HC HX e2 hdd
              go_wp2_with (first
                | (go_at_call 6; refine LG.out.mono ?_; rintro e w3 ⟨rfl, ew⟩; have ew2 := ew.symm; subst ew2)
                | (go_at_call 7; refine TL.out.mono ?_; rintro e w4 ⟨rfl, Z4, h4, k4⟩; have F4 := hide h4; clear h4 k4))
              go_roundw
              case rel => exact ⟨t + 1, M.tlX X i', Z4, by omega, (by rw [HD.out]; congr 1; omega), F4, NL⟩
              case measure => (have := HD.out; simp [intOf]; omega)
            case neg =>
              have v1 : decide ((0 : Int) ≤ (m : Int) - (t : Int)) = false := decide_eq_false (by omega)
              have LG := hide (LAG.out wr f X Z i' 0 HF.out (by have := HL.out.ms; omega) kl (by rw [HL.out.ms, HL.out.here hlt]; omega))
              have LN := hide (HL.out.next hlt (by omega))
              have SC0 : Hid (∀ V Z (q : Nat), FH W V f X Z → q < l.length → Calls Tryz.prog 8 #[.pointer (some ⟨f, 0, none⟩), .int .i64 0, .string (byStr (l.getD q ca0).1.name), .slice b xs.length cb, .int .i64 key, .int .i64 (m : Int)] V fun e w' => e = .returned (.tuple #[scoV (M.scV (M.shN X.L.calls m) m (l.getD q ca0).1.name xs key m), errV (M.scF (M.shN X.L.calls m) m (l.getD q ca0).1.name xs key m)]) ∧ ∃ Z', FH W w' f X Z' ∧ KeptF V Z Z' w') := fun V Z q hf hq => by
                have := SCO.out V X Z 0 q hf (by have := HL.out.ms; omega) (by omega) hq
                rw [LN.out.ahead 0 (by omega)] at this
                exact this
              have SCi : Hid (∀ V Z (q : Nat), FH W V f X Z → q < l.length → Calls Tryz.prog 8 #[.pointer (some ⟨f, 0, none⟩), .int .i64 (i' : Int), .string (byStr (l.getD q ca0).1.name), .slice b xs.length cb, .int .i64 key, .int .i64 (m : Int)] V fun e w' => e = .returned (.tuple #[scoV (M.scV (M.shN X.L.calls m) m (l.getD q ca0).1.name xs key m), errV (M.scF (M.shN X.L.calls m) m (l.getD q ca0).1.name xs key m)]) ∧ ∃ Z', FH W w' f X Z' ∧ KeptF V Z Z' w') := fun V Z q hf hq => by
                have := SCO.out V X Z i' q hf (by have := HL.out.ms; omega) kl hq
                rw [LN.out.ahead i' (by omega)] at this
                exact this
              clear SCO LAG HL kl
              obtain ⟨dd, hdd⟩ : ∃ x, x = (m : Int) - (t : Int) := ⟨_, rfl⟩
              rw [← hdd]
              have v1 : decide ((0 : Int) ≤ dd) = false := decide_eq_false (by omega)
              have v2 : ¬ 0 ≤ dd := by omega
              clear hdd
              go_wp2_with (go_at_call 6; refine LG.out.mono ?_; rintro e w3 ⟨rfl, ew⟩; have ew2 := ew.symm; subst ew2)
              go_loopw [23, 24, 25, 26, 27] (fun kq _ _ _ _ wr => ∃ (q : Nat) (Z : Nat → Nat), q ≤ l.length ∧ q ≤ 12 ∧ kq = .int .i64 (q : Int) ∧ Hid (FH W wr f X Z)) (fun kq _ _ _ _ _ => 12 - (intOf kq).toNat)
              case atStart => exact ⟨0, Z, Nat.zero_le _, by omega, rfl, HF⟩
              case round =>
                clear HF LG Z
                obtain ⟨q, Z, hq, hq12, rfl, HF⟩ := hrel
                by_cases qlt : q < l.length ∧ q < 12
                case pos =>
                  obtain ⟨k1, k2⟩ := qlt
                  have h1 : decide ((q : Int) < (l.length : Int)) = true := decide_eq_true (by omega)
                  have h2 : decide ((q : Int) < 12) = true := decide_eq_true (by omega)
                  have h1' : decide (q < l.length) = true := decide_eq_true k1
                  have h2' : decide (q < 12) = true := decide_eq_true k2
                  have qz : (q : Int) < (l.length : Int) := by omega
                  obtain ⟨bb, off, rfl, hbl, _, _⟩ := RdC.at (HC.out.below HF.out.bl) k1
                  have NAM : Hid (∀ V, Below W.heap.size W V → V.cell? ⟨bb, off + q * 7 + 3, none⟩ = some (.string (byStr (l.getD q ca0).1.name))) := fun V hV => by
                    obtain ⟨b2, o2, e2, _, sv, _⟩ := RdC.at (HC.out.below hV) k1
                    cases e2
                    exact sv.2.2.2.1
                  have c3 := NAM.out wr HF.out.bl
                  have S0 := hide (SC0.out wr Z q HF.out k1)
                  have SI := hide (fun V Z hf => SCi.out V Z q hf k1)
                  clear SC0 SCi HC HX LN HF
                  generalize M.scV (M.shN X.L.calls m) m (l.getD q ca0).1.name xs key m = sv at *
                  generalize M.scF (M.shN X.L.calls m) m (l.getD q ca0).1.name xs key m = sf at *
                  generalize byStr (l.getD q ca0).1.name = nm at *
                  unfold scoV at S0 SI
                  go_upto_region 30 with (first
                    | (go_at_call 8; refine S1.out.mono ?_; rintro e w4 ⟨rfl, Z4, h4, k4⟩; have HXB := hide (XB4.out w4 Z4 k4); have F4 := hide (h4.up ((Below.refl _ w4).alloc (Nat.le_refl _) (.cells #[.int .i64 sv.1, .int .i64 sv.2.1, .int .i64 sv.2.2] 40))); clear h4 k4)
                    | (go_at_call 8; refine S0.out.mono ?_; rintro e w2 ⟨rfl, Z2, h2, k2⟩; have ba2 : Below w2.heap.size w2 (w2.alloc (.cells #[.int .i64 sv.1, .int .i64 sv.2.1, .int .i64 sv.2.2] 40)) := (Below.refl _ w2).alloc (Nat.le_refl _) _; have S1 := hide (SI.out _ Z2 (h2.up ba2)); have d3 := NAM.out _ (h2.up ba2).bl; have XB4 : Hid (∀ (w4 : World) (Z4 : Nat → Nat), KeptF (w2.alloc (.cells #[.int .i64 sv.1, .int .i64 sv.2.1, .int .i64 sv.2.2] 40)) Z2 Z4 w4 → Bx (w4.alloc (.cells #[.int .i64 sv.1, .int .i64 sv.2.1, .int .i64 sv.2.2] 40)) w2.heap.size [.int .i64 sv.1, .int .i64 sv.2.1, .int .i64 sv.2.2] ∧ Bx (w4.alloc (.cells #[.int .i64 sv.1, .int .i64 sv.2.1, .int .i64 sv.2.2] 40)) w4.heap.size [.int .i64 sv.1, .int .i64 sv.2.1, .int .i64 sv.2.2]) := (fun w4 Z4 k4 => by
                        have b0 := bx_new w2 [.int .i64 sv.1, .int .i64 sv.2.1, .int .i64 sv.2.2] 40
                        have b1 := b0.keep (k4.2 _ b0.lt (h2.z0 (.inr (Nat.le_refl _)))).2
                        exact ⟨b1.keep (((Below.refl _ w4).alloc (Nat.le_refl _) _).block _ b1.lt), bx_new w4 _ _⟩); clear h2 k2))
                  clear S1 S0 SI XB4 d3 c3
                  obtain ⟨wz, hwz⟩ : ∃ V, V = w4.alloc (.cells #[.int .i64 sv.1, .int .i64 sv.2.1, .int .i64 sv.2.2] 40) := ⟨_, rfl⟩
                  rw [← hwz] at HXB F4 ⊢
                  clear hwz
                  obtain ⟨xa, hxa⟩ : ∃ x, x = w2.heap.size := ⟨_, rfl⟩
                  obtain ⟨xb, hxb⟩ : ∃ x, x = w4.heap.size := ⟨_, rfl⟩
                  rw [← hxa, ← hxb] at HXB ⊢
                  clear hxa hxb
                  have XA := hide HXB.out.1
                  have XB := hide HXB.out.2
                  clear HXB
                  by_cases hs : sf = 0
                  · rw [err_nil hs]
                    clear hs
                    have kd : Bx wz.drew xa [.int .i64 sv.1, .int .i64 sv.2.1, .int .i64 sv.2.2] ∧ Bx wz.drew xb [.int .i64 sv.1, .int .i64 sv.2.1, .int .i64 sv.2.2] := ⟨XA.out.keep rfl, XB.out.keep rfl⟩
                    refine wp_region_held_drew (S := fun V => Bx V xa [.int .i64 sv.1, .int .i64 sv.2.1, .int .i64 sv.2.2] ∧ Bx V xb [.int .i64 sv.1, .int .i64 sv.2.1, .int .i64 sv.2.2]) (by kernel_rfl) kd (fun hHeld => ?_)
                    refine take_lg (i := 0) (d := some 168) (v := ?v1) rfl rfl (by kernel_rfl) (by kernel_rfl) (by kernel_rfl) (fun _ _ _ h => h) (Or.inl ⟨by rfl, ?h1⟩) (by assumption) ?r1
                    case h1 => (intro V hSw; have p0 := hSw.1.cell 0 _ rfl; have p1 := hSw.1.cell 1 _ rfl; have p2 := hSw.1.cell 2 _ rfl; have r0 := hSw.2.cell 0 _ rfl; have r1 := hSw.2.cell 1 _ rfl; have r2 := hSw.2.cell 2 _ rfl; clear hSw; go_simp; (try with_reducible rfl))
                    simp only [Act.put, List.setIfInBounds_toArray, List.set_cons_zero, List.set_cons_succ]
                    refine take_lg (i := 1) (d := some 169) (v := ?v2) rfl rfl (by kernel_rfl) (by kernel_rfl) (by kernel_rfl) (fun _ _ _ h => h) (Or.inl ⟨by rfl, ?h2⟩) (by assumption) ?r2
                    case h2 => (intro V hSw; have p0 := hSw.1.cell 0 _ rfl; have p1 := hSw.1.cell 1 _ rfl; have p2 := hSw.1.cell 2 _ rfl; have r0 := hSw.2.cell 0 _ rfl; have r1 := hSw.2.cell 1 _ rfl; have r2 := hSw.2.cell 2 _ rfl; clear hSw; go_simp; (try with_reducible rfl))
                    simp only [Act.put, List.setIfInBounds_toArray, List.set_cons_zero, List.set_cons_succ]
                    refine take_lg (i := 2) (d := some 170) (v := ?v3) rfl rfl (by kernel_rfl) (by kernel_rfl) (by kernel_rfl) (fun _ _ _ h => h) (Or.inl ⟨by rfl, ?h3⟩) (by assumption) ?r3
                    case h3 => (intro V hSw; have p0 := hSw.1.cell 0 _ rfl; have p1 := hSw.1.cell 1 _ rfl; have p2 := hSw.1.cell 2 _ rfl; have r0 := hSw.2.cell 0 _ rfl; have r1 := hSw.2.cell 1 _ rfl; have r2 := hSw.2.cell 2 _ rfl; clear hSw; go_simp; (try with_reducible rfl))
                    simp only [Act.put, List.setIfInBounds_toArray, List.set_cons_zero, List.set_cons_succ]
                    refine take_lg (i := 3) (d := some 171) (v := ?v4) rfl rfl (by kernel_rfl) (by kernel_rfl) (by kernel_rfl) (fun _ _ _ h => h) (Or.inl ⟨by rfl, ?h4⟩) (by assumption) ?r4
                    case h4 => (intro V hSw; have p0 := hSw.1.cell 0 _ rfl; have p1 := hSw.1.cell 1 _ rfl; have p2 := hSw.1.cell 2 _ rfl; have r0 := hSw.2.cell 0 _ rfl; have r1 := hSw.2.cell 1 _ rfl; have r2 := hSw.2.cell 2 _ rfl; clear hSw; go_simp; (try with_reducible rfl))
                    simp only [Act.put, List.setIfInBounds_toArray, List.set_cons_zero, List.set_cons_succ]
                    refine take_lg (i := 4) (d := some 172) (v := ?v5) rfl rfl (by kernel_rfl) (by kernel_rfl) (by kernel_rfl) (fun _ _ _ h => h) (Or.inl ⟨by rfl, ?h5⟩) (by assumption) ?r5
                    case h5 => (intro V hSw; have p0 := hSw.1.cell 0 _ rfl; have p1 := hSw.1.cell 1 _ rfl; have p2 := hSw.1.cell 2 _ rfl; have r0 := hSw.2.cell 0 _ rfl; have r1 := hSw.2.cell 1 _ rfl; have r2 := hSw.2.cell 2 _ rfl; clear hSw; go_simp; (try with_reducible rfl))
                    simp only [Act.put, List.setIfInBounds_toArray, List.set_cons_zero, List.set_cons_succ]
                    refine take_lg (i := 5) (d := some 173) (v := ?v6) rfl rfl (by kernel_rfl) (by kernel_rfl) (by kernel_rfl) (fun _ _ _ h => h) (Or.inl ⟨by rfl, ?h6⟩) (by assumption) ?r6
                    case h6 => (intro V hSw; have p0 := hSw.1.cell 0 _ rfl; have p1 := hSw.1.cell 1 _ rfl; have p2 := hSw.1.cell 2 _ rfl; have r0 := hSw.2.cell 0 _ rfl; have r1 := hSw.2.cell 1 _ rfl; have r2 := hSw.2.cell 2 _ rfl; clear hSw; go_simp; (try with_reducible rfl))
                    simp only [Act.put, List.setIfInBounds_toArray, List.set_cons_zero, List.set_cons_succ]
                    refine take_lg (i := 6) (d := some 174) (v := ?v7) rfl rfl (by kernel_rfl) (by kernel_rfl) (by kernel_rfl) (fun _ _ _ h => h) (Or.inl ⟨by rfl, ?h7⟩) (by assumption) ?r7
                    case h7 => (intro V hSw; have p0 := hSw.1.cell 0 _ rfl; have p1 := hSw.1.cell 1 _ rfl; have p2 := hSw.1.cell 2 _ rfl; have r0 := hSw.2.cell 0 _ rfl; have r1 := hSw.2.cell 1 _ rfl; have r2 := hSw.2.cell 2 _ rfl; clear hSw; go_simp; (try with_reducible rfl))
                    simp only [Act.put, List.setIfInBounds_toArray, List.set_cons_zero, List.set_cons_succ]
                    refine take_lg (i := 7) (d := some 175) (v := ?v8) rfl rfl (by kernel_rfl) (by kernel_rfl) (by kernel_rfl) (fun _ _ _ h => h) (Or.inl ⟨by rfl, ?h8⟩) (by assumption) ?r8
                    case h8 => (intro V hSw; have p0 := hSw.1.cell 0 _ rfl; have p1 := hSw.1.cell 1 _ rfl; have p2 := hSw.1.cell 2 _ rfl; have r0 := hSw.2.cell 0 _ rfl; have r1 := hSw.2.cell 1 _ rfl; have r2 := hSw.2.cell 2 _ rfl; clear hSw; go_simp; (try with_reducible rfl))
                    simp only [Act.put, List.setIfInBounds_toArray, List.set_cons_zero, List.set_cons_succ]
                    refine take_lg (i := 8) (d := some 176) (v := ?v9) rfl rfl (by kernel_rfl) (by kernel_rfl) (by kernel_rfl) (fun _ _ _ h => h) (Or.inl ⟨by rfl, ?h9⟩) (by assumption) ?r9
                    case h9 => (intro V hSw; have p0 := hSw.1.cell 0 _ rfl; have p1 := hSw.1.cell 1 _ rfl; have p2 := hSw.1.cell 2 _ rfl; have r0 := hSw.2.cell 0 _ rfl; have r1 := hSw.2.cell 1 _ rfl; have r2 := hSw.2.cell 2 _ rfl; clear hSw; go_simp; (try with_reducible rfl))
                    simp only [Act.put, List.setIfInBounds_toArray, List.set_cons_zero, List.set_cons_succ]
                    refine take_lg (i := 9) (d := some 177) (v := ?v10) rfl rfl (by kernel_rfl) (by kernel_rfl) (by kernel_rfl) (fun _ _ _ h => h) (Or.inl ⟨by rfl, ?h10⟩) (by assumption) ?r10
                    case h10 => (intro V hSw; have p0 := hSw.1.cell 0 _ rfl; have p1 := hSw.1.cell 1 _ rfl; have p2 := hSw.1.cell 2 _ rfl; have r0 := hSw.2.cell 0 _ rfl; have r1 := hSw.2.cell 1 _ rfl; have r2 := hSw.2.cell 2 _ rfl; clear hSw; go_simp; (try with_reducible rfl))
                    simp only [Act.put, List.setIfInBounds_toArray, List.set_cons_zero, List.set_cons_succ]
                    refine wpAnyH_done (by kernel_rfl) ?_ _
                    go_wp2
                    go_roundw
                    case rel => exact ⟨q + 1, Z4, by omega, by omega, by go_num, F4.out.up ((Below.refl _ wz).drew)⟩
                    case measure => simp [intOf]; omega
                  · rw [err_some hs]
                    clear hs
                    have kd : Bx wz.drew xa [.int .i64 sv.1, .int .i64 sv.2.1, .int .i64 sv.2.2] ∧ Bx wz.drew xb [.int .i64 sv.1, .int .i64 sv.2.1, .int .i64 sv.2.2] := ⟨XA.out.keep rfl, XB.out.keep rfl⟩
                    refine wp_region_held_drew (S := fun V => Bx V xa [.int .i64 sv.1, .int .i64 sv.2.1, .int .i64 sv.2.2] ∧ Bx V xb [.int .i64 sv.1, .int .i64 sv.2.1, .int .i64 sv.2.2]) (by kernel_rfl) kd (fun hHeld => ?_)
                    refine take_lg (i := 0) (d := some 168) (v := ?v11) rfl rfl (by kernel_rfl) (by kernel_rfl) (by kernel_rfl) (fun _ _ _ h => h) (Or.inl ⟨by rfl, ?h11⟩) (by assumption) ?r11
                    case h11 => (intro V hSw; have p0 := hSw.1.cell 0 _ rfl; have p1 := hSw.1.cell 1 _ rfl; have p2 := hSw.1.cell 2 _ rfl; have r0 := hSw.2.cell 0 _ rfl; have r1 := hSw.2.cell 1 _ rfl; have r2 := hSw.2.cell 2 _ rfl; clear hSw; go_simp; (try with_reducible rfl))
                    simp only [Act.put, List.setIfInBounds_toArray, List.set_cons_zero, List.set_cons_succ]
                    refine take_lg (i := 1) (d := some 169) (v := ?v12) rfl rfl (by kernel_rfl) (by kernel_rfl) (by kernel_rfl) (fun _ _ _ h => h) (Or.inl ⟨by rfl, ?h12⟩) (by assumption) ?r12
                    case h12 => (intro V hSw; have p0 := hSw.1.cell 0 _ rfl; have p1 := hSw.1.cell 1 _ rfl; have p2 := hSw.1.cell 2 _ rfl; have r0 := hSw.2.cell 0 _ rfl; have r1 := hSw.2.cell 1 _ rfl; have r2 := hSw.2.cell 2 _ rfl; clear hSw; go_simp; (try with_reducible rfl))
                    simp only [Act.put, List.setIfInBounds_toArray, List.set_cons_zero, List.set_cons_succ]
                    refine take_lg (i := 2) (d := some 170) (v := ?v13) rfl rfl (by kernel_rfl) (by kernel_rfl) (by kernel_rfl) (fun _ _ _ h => h) (Or.inl ⟨by rfl, ?h13⟩) (by assumption) ?r13
                    case h13 => (intro V hSw; have p0 := hSw.1.cell 0 _ rfl; have p1 := hSw.1.cell 1 _ rfl; have p2 := hSw.1.cell 2 _ rfl; have r0 := hSw.2.cell 0 _ rfl; have r1 := hSw.2.cell 1 _ rfl; have r2 := hSw.2.cell 2 _ rfl; clear hSw; go_simp; (try with_reducible rfl))
                    simp only [Act.put, List.setIfInBounds_toArray, List.set_cons_zero, List.set_cons_succ]
                    refine take_lg (i := 3) (d := some 171) (v := ?v14) rfl rfl (by kernel_rfl) (by kernel_rfl) (by kernel_rfl) (fun _ _ _ h => h) (Or.inl ⟨by rfl, ?h14⟩) (by assumption) ?r14
                    case h14 => (intro V hSw; have p0 := hSw.1.cell 0 _ rfl; have p1 := hSw.1.cell 1 _ rfl; have p2 := hSw.1.cell 2 _ rfl; have r0 := hSw.2.cell 0 _ rfl; have r1 := hSw.2.cell 1 _ rfl; have r2 := hSw.2.cell 2 _ rfl; clear hSw; go_simp; (try with_reducible rfl))
                    simp only [Act.put, List.setIfInBounds_toArray, List.set_cons_zero, List.set_cons_succ]
                    refine take_lg (i := 4) (d := some 172) (v := ?v15) rfl rfl (by kernel_rfl) (by kernel_rfl) (by kernel_rfl) (fun _ _ _ h => h) (Or.inl ⟨by rfl, ?h15⟩) (by assumption) ?r15
                    case h15 => (intro V hSw; have p0 := hSw.1.cell 0 _ rfl; have p1 := hSw.1.cell 1 _ rfl; have p2 := hSw.1.cell 2 _ rfl; have r0 := hSw.2.cell 0 _ rfl; have r1 := hSw.2.cell 1 _ rfl; have r2 := hSw.2.cell 2 _ rfl; clear hSw; go_simp; (try with_reducible rfl))
                    simp only [Act.put, List.setIfInBounds_toArray, List.set_cons_zero, List.set_cons_succ]
                    refine take_lg (i := 5) (d := some 173) (v := ?v16) rfl rfl (by kernel_rfl) (by kernel_rfl) (by kernel_rfl) (fun _ _ _ h => h) (Or.inl ⟨by rfl, ?h16⟩) (by assumption) ?r16
                    case h16 => (intro V hSw; have p0 := hSw.1.cell 0 _ rfl; have p1 := hSw.1.cell 1 _ rfl; have p2 := hSw.1.cell 2 _ rfl; have r0 := hSw.2.cell 0 _ rfl; have r1 := hSw.2.cell 1 _ rfl; have r2 := hSw.2.cell 2 _ rfl; clear hSw; go_simp; (try with_reducible rfl))
                    simp only [Act.put, List.setIfInBounds_toArray, List.set_cons_zero, List.set_cons_succ]
                    refine take_lg (i := 6) (d := some 174) (v := ?v17) rfl rfl (by kernel_rfl) (by kernel_rfl) (by kernel_rfl) (fun _ _ _ h => h) (Or.inl ⟨by rfl, ?h17⟩) (by assumption) ?r17
                    case h17 => (intro V hSw; have p0 := hSw.1.cell 0 _ rfl; have p1 := hSw.1.cell 1 _ rfl; have p2 := hSw.1.cell 2 _ rfl; have r0 := hSw.2.cell 0 _ rfl; have r1 := hSw.2.cell 1 _ rfl; have r2 := hSw.2.cell 2 _ rfl; clear hSw; go_simp; (try with_reducible rfl))
                    simp only [Act.put, List.setIfInBounds_toArray, List.set_cons_zero, List.set_cons_succ]
                    refine take_lg (i := 7) (d := some 175) (v := ?v18) rfl rfl (by kernel_rfl) (by kernel_rfl) (by kernel_rfl) (fun _ _ _ h => h) (Or.inl ⟨by rfl, ?h18⟩) (by assumption) ?r18
                    case h18 => (intro V hSw; have p0 := hSw.1.cell 0 _ rfl; have p1 := hSw.1.cell 1 _ rfl; have p2 := hSw.1.cell 2 _ rfl; have r0 := hSw.2.cell 0 _ rfl; have r1 := hSw.2.cell 1 _ rfl; have r2 := hSw.2.cell 2 _ rfl; clear hSw; go_simp; (try with_reducible rfl))
                    simp only [Act.put, List.setIfInBounds_toArray, List.set_cons_zero, List.set_cons_succ]
                    refine take_lg (i := 8) (d := some 176) (v := ?v19) rfl rfl (by kernel_rfl) (by kernel_rfl) (by kernel_rfl) (fun _ _ _ h => h) (Or.inl ⟨by rfl, ?h19⟩) (by assumption) ?r19
                    case h19 => (intro V hSw; have p0 := hSw.1.cell 0 _ rfl; have p1 := hSw.1.cell 1 _ rfl; have p2 := hSw.1.cell 2 _ rfl; have r0 := hSw.2.cell 0 _ rfl; have r1 := hSw.2.cell 1 _ rfl; have r2 := hSw.2.cell 2 _ rfl; clear hSw; go_simp; (try with_reducible rfl))
                    simp only [Act.put, List.setIfInBounds_toArray, List.set_cons_zero, List.set_cons_succ]
                    refine take_lg (i := 9) (d := some 177) (v := ?v20) rfl rfl (by kernel_rfl) (by kernel_rfl) (by kernel_rfl) (fun _ _ _ h => h) (Or.inl ⟨by rfl, ?h20⟩) (by assumption) ?r20
                    case h20 => (intro V hSw; have p0 := hSw.1.cell 0 _ rfl; have p1 := hSw.1.cell 1 _ rfl; have p2 := hSw.1.cell 2 _ rfl; have r0 := hSw.2.cell 0 _ rfl; have r1 := hSw.2.cell 1 _ rfl; have r2 := hSw.2.cell 2 _ rfl; clear hSw; go_simp; (try with_reducible rfl))
                    simp only [Act.put, List.setIfInBounds_toArray, List.set_cons_zero, List.set_cons_succ]
                    refine wpAnyH_done (by kernel_rfl) ?_ _
                    go_wp2
                    go_roundw
                    case rel => exact ⟨q + 1, Z4, by omega, by omega, by go_num, F4.out.up ((Below.refl _ wz).drew)⟩
                    case measure => simp [intOf]; omega
                case neg =>
                  have ways : (decide ((q : Int) < (l.length : Int)) = false ∧ decide (q < l.length) = false) ∨ (decide ((q : Int) < (l.length : Int)) = true ∧ decide (q < l.length) = true ∧ decide ((q : Int) < 12) = false ∧ decide (q < 12) = false) := by
                    simp only [decide_eq_true_iff, decide_eq_false_iff_not]; omega
                  clear qlt SC0 SCi HC HX
                  rcases ways with ⟨t1, t1'⟩ | ⟨t1, t1', t2, t2'⟩
                  all_goals (
                    go_wp2
                    go_roundw
                    case rel => exact ⟨i' + 1, X, Z, by omega, by go_num, HF, LN⟩
                    case measure => simp [intOf]; omega)
set_option maxHeartbeats 8000000 in
set_option maxRecDepth 10000 in
theorem lags_no (x1 x2 : Value) (n key : Int) (W : World) (hn : n < 1 ∨ 8 < n) :
    Calls Tryz.prog 3 #[.int .i64 n, x1, x2, .int .i64 key] W fun e w' => e = .returned (.bool true) ∧ Below W.heap.size W w' := by
  have NW := hide (fl_New_no n W hn)
  rw [err_some (show (1 : Int) ≠ 0 by decide)] at NW
  have ways : decide (n < 1) = true ∨ (decide (n < 1) = false ∧ decide (8 < n) = true) := by
    simp only [decide_eq_true_iff, decide_eq_false_iff_not]; omega
  have B0 := hide (Below.refl W.heap.size W)
  clear hn
  rcases ways with g1 | ⟨g1, g2⟩
  all_goals (
    go_enter Tryz.func3, Tryz.ntmps3
    go_wp2_with (go_at_call 4; refine NW.out.mono ?_; rintro e w1 ⟨rfl, ew⟩; have ew2 := ew.symm; subst ew2)
    go_ret
    exact ⟨rfl, B0.out⟩)
theorem lags_all (a1 a2 : Option Addr) (l1 : List CaC) (l2 : List Int) (c1 c2 : Nat) (n key : Int) (W : World) (h1 : RdC W a1 l1) (h2 : Rd W a2 l2) :
    Calls Tryz.prog 3 #[.int .i64 n, .slice a1 l1.length c1, .slice a2 l2.length c2, .int .i64 key] W fun e w' => e = .returned (.bool true) ∧ Below W.heap.size W w' := by
  by_cases q : n < 1 ∨ 8 < n
  · exact lags_no _ _ n key W q
  · obtain ⟨k, rfl⟩ : ∃ k : Nat, n = (k : Int) := ⟨n.toNat, by omega⟩
    exact lags_walkS a1 a2 l1 l2 c1 c2 k key W h1 h2 (by omega) (by omega)
end Go.Proofs.YtodidokeblblgaaGreat
