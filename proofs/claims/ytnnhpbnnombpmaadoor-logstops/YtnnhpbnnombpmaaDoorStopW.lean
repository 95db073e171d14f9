/-
  LogStops' walk: who has stopped has stopped.
-/
import Derived.Test.YtnnhpbnnombpmaaDoorLgH
import Derived.Test.YtnnhpbnnombpmaaDoorLgMs
import Derived.Test.YtnnhpbnnombpmaaDoorError
import Derived.BigQuiet
namespace Go.Proofs.YtnnhpbnnombpmaaDoor
open Go.ChangeShapes Go.WideShapes Go.ChangeAt Go.RowKit Go.Lib
set_option linter.unusedVariables false

/-- the law's own call -/
def caA : M.Ca := ⟨4, 0, 1, [97], 0, 0, []⟩
theorem caA_in (W : World) : CaIn W caA none 0 := ⟨by unfold isB caA; decide, by decide, ⟨Nat.zero_le _, (fun x hx => by cases hx), fun hn => absurd rfl hn⟩, Nat.le_refl _, by omega, ⟨by decide, by decide⟩, ⟨by decide, by decide⟩, fun _ => rfl⟩
theorem caA_ok : M.CaOk caA := ⟨by decide, by decide, by decide, by decide, by decide⟩
theorem caA_str : byStr [97] = ⟨#[97]⟩ := by kernel_rfl
theorem first_lost (n : Int) (hn : n = 0) : M.apF ⟨[], [], 0, n, false⟩ caA = 9 ∧ (M.apL ⟨[], [], 0, n, false⟩ caA).calls = [] ∧ (M.apL ⟨[], [], 0, n, false⟩ caA).bytes.length ≠ 0 := by
  subst hn
  have r := caA_ok.rec_le
  have r7 := M.CaOk.rec_seven caA_ok
  have f : M.apF ⟨[], [], 0, 0, false⟩ caA = 9 := by
    unfold M.apF
    rw [if_neg (by decide), if_neg (by show ¬ (100 < 1 ∨ 6000 < 0 ∨ 100000 < 0 + (M.recL caA).length); omega)]
    rfl
  have e : M.apL ⟨[], [], 0, 0, false⟩ caA = ⟨[], (M.recL caA).take ((M.recL caA).length / 2), 0, 0, true⟩ := by
    unfold M.apL
    rw [f, if_neg (by decide)]
    rfl
  rw [e]
  refine ⟨f, rfl, ?_⟩
  show ([] ++ (M.recL caA).take ((M.recL caA).length / 2)).length ≠ 0
  rw [List.nil_append, List.length_take]
  omega

set_option maxHeartbeats 16000000 in
set_option maxRecDepth 10000 in
theorem stops_walk (a : Option Addr) (l : List CaC) (ca : Nat) (after keep : Int) (W : World) (h : RdC W a l) (ha : M.I64 after) (hk : M.I64 keep) (hL : Lays W) :
    Calls Tryd.prog 3 #[.slice a l.length ca, .int .i64 after, .int .i64 keep] W fun e w' => e = .returned (.bool true) ∧ Below W.heap.size W w' := by
  have ll : l.length ≤ 9223372036854775807 := h.1
  have HC := hide h
  have ER : Hid (∀ c V, Below W.heap.size W V → Calls Tryd.prog 8 #[errV c, .int .i64 9] V fun e w' => e = .returned (.bool (c == 9)) ∧ Below V.heap.size V w') := fun c V hV => error_any c 9 V (hL.below hV)
  have FL := hide (first_lost 0 rfl)
  have HA := hide ha
  have HK := hide hk
  clear h hL ha hk
  go_enter Tryd.func3, Tryd.ntmps3
  go_upto_region 2 with fail
  obtain ⟨W1, hW1⟩ : ∃ X, X = W.alloc (.cells #[.int .i64 4, .int .i64 0, .int .i64 1, .string ⟨#[97]⟩, .int .i64 0, .int .i64 0, .slice none 0 0] 25) := ⟨_, rfl⟩
  rw [← hW1]
  have K1 : Hid (Below W.heap.size W W1) := by unfold Hid; rw [hW1]; exact (Below.refl _ _).alloc (Nat.le_refl _) _
  have BX : Hid (Bx W1 W.heap.size [.int .i64 4, .int .i64 0, .int .i64 1, .string ⟨#[97]⟩, .int .i64 0, .int .i64 0, .slice none 0 0]) := by unfold Hid; rw [hW1]; exact bx_new W _ _
  clear hW1
  have NW := hide (HL.new K1.out)
  go_upto_region 3 with (go_at_call 5; refine NW.out.mono ?_; rintro e w2 ⟨f, rfl, h2, b2, ef⟩; have H2 := hide h2; have B2 := hide (BX.out.keep (b2.block _ BX.out.lt)); have EF : Hid (W.heap.size < f) := (by unfold Hid; rw [ef]; exact BX.out.lt); clear h2 b2 ef)
  clear NW BX K1
  have FA := hide (H2.out.fail 0 ⟨by decide, by decide⟩)
  go_upto_region 4 with (go_at_call 6; refine FA.out.mono ?_; rintro e w3 ⟨rfl, h3, k3⟩; have H3 := hide h3; have B3 := hide (B2.out.keep (k3.2 _ B2.out.lt (fun z => by rcases z with z | ⟨p, z, _⟩; (have := EF.out; omega); cases z)).2); clear h3 k3)
  clear FA H2 B2
  have AP := hide (H3.out.append (caA_in w3))
  unfold caV at AP
  rw [show byStr caA.name = ⟨#[97]⟩ from caA_str] at AP
  rw [show M.apF ⟨M.lg0.calls, M.lg0.tail, M.lg0.safe, 0, M.lg0.stop⟩ caA = 9 from FL.out.1] at AP
  have c0 := B3.out.cell 0 _ rfl
  have c1 := B3.out.cell 1 _ rfl
  have c2 := B3.out.cell 2 _ rfl
  have c3 := B3.out.cell 3 _ rfl
  have c4 := B3.out.cell 4 _ rfl
  have c5 := B3.out.cell 5 _ rfl
  have c6 := B3.out.cell 6 _ rfl
  go_upto_region 5 with (go_at_call 7; refine AP.out.mono ?_; rintro e w4 ⟨rfl, va4, h4, k4⟩; have H4 := hide h4; clear h4 k4)
  clear AP H3 B3 c0 c1 c2 c3 c4 c5 c6
  have E1 := hide (ER.out 9 w4 H4.out.bl)
  rw [err_some (by decide)] at E1
  rw [err_some (by decide)]
  go_upto_region 6 with (go_at_call 8; refine E1.out.mono ?_; rintro e w5 ⟨rfl, b5⟩; have H5 := hide (H4.out.up b5); clear b5)
  clear E1 H4
  have CL := hide H5.out.callsG
  have n0 : (M.apL ⟨M.lg0.calls, M.lg0.tail, M.lg0.safe, 0, M.lg0.stop⟩ caA).calls.length = 0 := by rw [show (M.apL ⟨M.lg0.calls, M.lg0.tail, M.lg0.safe, 0, M.lg0.stop⟩ caA).calls = [] from FL.out.2.1]; rfl
  rw [n0] at CL
  clear n0
  have nb : (M.apL ⟨M.lg0.calls, M.lg0.tail, M.lg0.safe, 0, M.lg0.stop⟩ caA).bytes.length ≠ 0 := FL.out.2.2
  generalize hLA : M.apL ⟨M.lg0.calls, M.lg0.tail, M.lg0.safe, 0, M.lg0.stop⟩ caA = LA1 at *
  clear hLA FL
  have BY : Hid (∀ w6, HL W w6 f va4 LA1 → Calls Tryd.prog 10 #[.pointer (some ⟨f, 0, none⟩)] w6 fun e w' => ∃ a c, e = .returned (.slice a LA1.bytes.length c) ∧ Below w6.heap.size w6 w') := fun w6 h6 => h6.bytesG.mono (by rintro e w' ⟨a, c, rfl, _, b⟩; exact ⟨a, c, rfl, b⟩)
  have nb1 : ((LA1.bytes.length : Int) == 0) = false := by rw [beq_eq_false_iff_ne]; omega
  have nb2 : (LA1.bytes.length == 0) = false := by rw [beq_eq_false_iff_ne]; exact nb
  generalize LA1.bytes.length = bn at *
  go_upto_region 8 with (first
    | (go_at_call 9; refine CL.out.mono ?_; rintro e w6 ⟨a6, c6, l6, rfl, _, _, b6⟩; have H6 := hide (H5.out.up b6); clear b6)
    | (go_at_call 10; refine (BY.out w6 H6.out).mono ?_; rintro e w7 ⟨a7, c7, rfl, b7⟩; have K7 := hide (below_on H6.out.bl b7); clear b7))
  have NW := hide (HL.new K7.out)
  clear CL BY H5 H6 EF nb nb1 nb2
  go_upto_region 9 with (go_at_call 5; refine NW.out.mono ?_; rintro e w8 ⟨h, rfl, h8, b8, ef⟩; have H8 := hide h8; clear h8 b8 ef)
  clear NW K7
  have FA := hide (H8.out.fail after HA.out)
  go_upto_region 10 with (go_at_call 6; refine FA.out.mono ?_; rintro e w9 ⟨rfl, h9, k9⟩; have H9 := hide h9; clear h9 k9)
  clear FA H8
  have J0 : Hid (M.JS after ⟨M.lg0.calls, M.lg0.tail, M.lg0.safe, after, M.lg0.stop⟩ 0) := fun _ => by
    by_cases q : after < 0
    · exact .inl ⟨q, rfl⟩
    · exact .inr ⟨by omega, by omega, by show after = after - ((0 : Nat) : Int); omega⟩
  generalize hL0 : (⟨M.lg0.calls, M.lg0.tail, M.lg0.safe, after, M.lg0.stop⟩ : M.Lg) = LF at *
  have S0 : Hid (LF.stop = false) := by unfold Hid; rw [← hL0]; rfl
  clear hL0
  go_wp2
  go_loopw [6, 12, 13, 14, 15, 16, 17] (fun _ st ns i _ _ _ wr => ∃ (k n : Nat) (L : M.Lg) (va : Option Addr), k ≤ l.length ∧ k ≤ 16 ∧ i = .int .i64 k ∧ st = .bool L.stop ∧ ns = .int .i64 (n : Int) ∧ n ≤ 2 * k ∧ Hid (HL W wr h va L) ∧ Hid (M.JS after L n)) (fun _ _ _ i _ _ _ _ => 16 - (intOf i).toNat)
  case atStart => exact ⟨0, 0, LF, none, Nat.zero_le _, by omega, rfl, by rw [S0.out], rfl, by omega, H9, J0⟩
  case round =>
    clear H9 J0 S0
    obtain ⟨k, n, L, va, hk, hk16, rfl, rfl, rfl, hn, HH, JJ⟩ := hrel
    by_cases hlt : k < l.length ∧ k < 16
    case neg =>
      have ways : (decide ((k : Int) < (l.length : Int)) = false ∧ decide (k < l.length) = false) ∨ (decide ((k : Int) < (l.length : Int)) = true ∧ decide (k < l.length) = true ∧ decide ((k : Int) < 16) = false ∧ decide (k < 16) = false) := by
        simp only [decide_eq_true_iff, decide_eq_false_iff_not]; omega
      have ok := HH.out.ok
      have SF := hide HH.out.safe
      have CR := hide (HH.out.crash keep HK.out)
      have sf : M.stpF (M.crL L keep) = false := rfl
      have SY := hide (fun w (hw : HL W w h va (M.crL L keep)) => hw.sync)
      unfold M.syF at SY
      rw [if_neg (by rw [sf]; decide), err_nil rfl] at SY
      have es : M.syL (M.crL L keep) = ⟨(M.crL L keep).calls, (M.crL L keep).tail, (M.crL L keep).bytes.length, (M.stpL (M.crL L keep)).ahead, false⟩ := by unfold M.syL; rw [if_neg (by rw [sf]; decide)]
      have ss : (M.syL (M.crL L keep)).safe = (M.syL (M.crL L keep)).bytes.length := by rw [es]; rfl
      have le : L.safe ≤ (M.syL (M.crL L keep)).bytes.length := by
        have e : (M.syL (M.crL L keep)).bytes = (M.crL L keep).bytes := by rw [es]; rfl
        have := M.crN_le ok keep
        rw [e, M.cr_bytes ok, List.length_take]
        omega
      clear hlt HC es sf ok HH JJ
      generalize M.syL (M.crL L keep) = L2 at *
      generalize M.crL L keep = L1 at *
      have SG : Hid (∀ w, HL W w h va L2 → Calls Tryd.prog 12 #[.pointer (some ⟨h, 0, none⟩)] w fun e w' => e = .returned (.int .i64 (L2.bytes.length : Int)) ∧ w' = w) := fun w hw => by
        have := hw.safe
        rw [ss] at this
        exact this
      have BY : Hid (∀ w, HL W w h va L2 → Calls Tryd.prog 10 #[.pointer (some ⟨h, 0, none⟩)] w fun e w' => ∃ a c, e = .returned (.slice a L2.bytes.length c) ∧ Below w.heap.size w w') := fun w hw => hw.bytesG.mono (by rintro e w' ⟨a, c, rfl, _, b⟩; exact ⟨a, c, rfl, b⟩)
      have d1 : decide ((L.safe : Int) ≤ (L2.bytes.length : Int)) = true := decide_eq_true (by omega)
      have d2 : decide (L.safe ≤ L2.bytes.length) = true := decide_eq_true le
      clear ss
      generalize L2.bytes.length = bn at *
      generalize L.safe = sn at *
      rcases ways with ⟨g1, g1'⟩ | ⟨g1, g1', g2, g2'⟩
      all_goals (
        go_upto_region 29 with (go_at_call 12; refine SF.out.mono ?_; rintro e w5 ⟨rfl, ew⟩; have ew2 := ew.symm; subst ew2)
        clear SF
        go_upto_region 30 with (go_at_call 13; refine CR.out.mono ?_; rintro e w6 ⟨rfl, h6, k6⟩; have H6 := hide h6; clear h6 k6)
        go_upto_region 31 with (go_at_call 11; refine (SY.out w6 H6.out).mono ?_; rintro e w7 ⟨rfl, h7, k7⟩; have H7 := hide h7; clear h7 k7)
        have SG1 := hide (SG.out w7 H7.out)
        go_wp2_with (first
          | (go_at_call 10; refine (BY.out w7 H7.out).mono ?_; rintro e w8 ⟨a8, c8, rfl, b8⟩; have H8 := hide (H7.out.up b8); clear b8)
          | (go_at_call 12; refine (SG.out _ H8.out).mono ?_; rintro e w9 ⟨rfl, ew⟩; have ew2 := ew.symm; subst ew2)
          | (go_at_call 12; refine SG1.out.mono ?_; rintro e w9 ⟨rfl, ew⟩; have ew2 := ew.symm; subst ew2))
        go_ret
        exact ⟨by first | rfl | simp, H8.out.bl⟩)
    obtain ⟨hl1, hl2⟩ := hlt
    have g1 : decide ((k : Int) < (l.length : Int)) = true := decide_eq_true (by omega)
    have g2 : decide ((k : Int) < 16) = true := decide_eq_true (by omega)
    have g1' : decide (k < l.length) = true := decide_eq_true hl1
    have g2' : decide (k < 16) = true := decide_eq_true hl2
    have kz : (k : Int) < (l.length : Int) := by omega
    obtain ⟨bb, off, rfl, hbl, hce⟩ := (HC.out.below HH.out.bl).2.2 (by intro e; rw [e] at hl1; simp at hl1)
    have mem : l.getD k ca0 ∈ l := by rw [List.getD, List.getElem?_eq_getElem hl1]; exact List.getElem_mem hl1
    have CI := hide ((HC.out.2.1 _ mem).below HH.out.bl)
    obtain ⟨c0, c1, c2, c3, c4, c5, c6⟩ := hce k hl1
    clear hce mem hbl
    generalize l.getD k ca0 = ck at *
    by_cases no : M.apF L ck.1 = 1 ∨ M.apF L ck.1 = 4
    · have same := M.ap_same no
      have AP := hide (HH.out.append CI.out)
      unfold caV at AP
      rw [same] at AP
      have nz : M.apF L ck.1 ≠ 0 := by omega
      rw [err_some nz] at AP
      have ER1 := hide (ER.out (M.apF L ck.1))
      rw [err_some nz] at ER1
      have n9 : (M.apF L ck.1 == 9) = false := by rw [beq_eq_false_iff_ne]; omega
      rw [n9] at ER1
      clear same nz n9 no HC HH
      generalize M.apF L ck.1 = ae at *
      go_wp2_with (first
        | (go_at_call 7; refine AP.out.mono ?_; rintro e w5 ⟨rfl, va5, h5, k5⟩; have H5 := hide h5; clear h5 k5)
        | (go_at_call 8; refine (ER1.out w5 H5.out.bl).mono ?_; rintro e w6 ⟨rfl, b6⟩; have H6 := hide (H5.out.up b6); clear b6))
      go_roundw
      case rel => exact ⟨k + 1, n, L, va5, by omega, by omega, by go_num, rfl, rfl, by omega, H6, JJ⟩
      case measure => simp [intOf]; omega
    · have hne : M.apF L ck.1 ≠ 1 ∧ M.apF L ck.1 ≠ 4 := ⟨fun z => no (.inl z), fun z => no (.inr z)⟩
      obtain ⟨ES, ST, SA⟩ := M.ap_step hne.1 hne.2
      have J1 : Hid (M.JS after (M.apL L ck.1) (n + 1)) := JJ.out.step ST SA
      have g3 : IntKind.i64.wrap ((n : Int) + 1) = (n : Int) + 1 := i64_in (by omega) (by omega)
      have g4 : IntKind.i64.wrap ((n : Int) + 1 + 1) = (n : Int) + 1 + 1 := i64_in (by omega) (by omega)
      have WY := M.JS.ways JJ.out
      clear hne SA JJ no HC
      rcases WY with ⟨hs, hl⟩ | ⟨hs, d0, hl⟩ | ⟨hs, d0, d1, hl⟩ | ⟨hs, d0, d1, hl⟩
      · have AP := hide (HH.out.append CI.out)
        unfold caV at AP
        rw [ES] at AP
        rw [hl, if_pos rfl, err_some (by decide)] at AP
        have ER1 := hide (ER.out 9)
        rw [err_some (by decide)] at ER1
        rw [hs]
        have S1 : (M.apL L ck.1).stop = true := ST.trans hl
        clear hs hl ES
        go_upto_region 22 with (first
          | (go_at_call 7; refine AP.out.mono ?_; rintro e w5 ⟨rfl, va5, h5, k5⟩; have H5 := hide h5; clear h5 k5)
          | (go_at_call 8; refine (ER1.out w5 H5.out.bl).mono ?_; rintro e w6 ⟨rfl, b6⟩; have H6 := hide (H5.out.up b6); clear b6))
        clear AP ER1 H5 HH CI c0 c1 c2 c3 c4 c5 c6
        have hl1 : M.stpF (M.apL L ck.1) = true := by unfold M.stpF; rw [S1]; rfl
        clear S1
        have SY := hide (fun w (hw : HL W w h va5 (M.apL L ck.1)) => hw.sync)
        unfold M.syF at SY
        rw [hl1, if_pos rfl, err_some (by decide)] at SY
        have ER2 := hide (ER.out 9)
        rw [err_some (by decide)] at ER2
        have J2 : Hid (M.JS after (M.syL (M.apL L ck.1)) (n + 1 + 1)) := J1.out.step (M.sy_step _).1 (M.sy_step _).2
        have T2 : Hid ((M.syL (M.apL L ck.1)).stop = true) := (M.sy_step _).1.trans hl1
        clear hl1 J1 ER
        generalize hL2 : M.syL (M.apL L ck.1) = L2 at *
        clear hL2
        generalize hL1 : M.apL L ck.1 = L1 at *
        clear hL1
        go_wp2_with (first
          | (go_at_call 11; refine (SY.out w6 H6.out).mono ?_; rintro e w7 ⟨rfl, h7, k7⟩; have H7 := hide h7; clear h7 k7)
          | (go_at_call 8; refine (ER2.out w7 H7.out.bl).mono ?_; rintro e w8 ⟨rfl, b8⟩; have H8 := hide (H7.out.up b8); clear b8))
        go_roundw
        case rel => exact ⟨k + 1, n + 1 + 1, L2, va5, by omega, by omega, by go_num, by rw [T2.out], by go_num, by omega, H8, J2⟩
        case measure => simp [intOf]; omega
      · have AP := hide (HH.out.append CI.out)
        unfold caV at AP
        rw [ES] at AP
        rw [hl, if_neg (by decide), err_nil rfl] at AP
        have ER1 := hide (ER.out 0)
        rw [err_nil rfl] at ER1
        rw [hs]
        have S1 : (M.apL L ck.1).stop = false := ST.trans hl
        clear hs hl ES
        go_upto_region 22 with (first
          | (go_at_call 7; refine AP.out.mono ?_; rintro e w5 ⟨rfl, va5, h5, k5⟩; have H5 := hide h5; clear h5 k5)
          | (go_at_call 8; refine (ER1.out w5 H5.out.bl).mono ?_; rintro e w6 ⟨rfl, b6⟩; have H6 := hide (H5.out.up b6); clear b6))
        clear AP ER1 H5 HH CI c0 c1 c2 c3 c4 c5 c6
        have hl1 : M.stpF (M.apL L ck.1) = false := by rw [J1.out.lost, S1, d0]; rfl
        clear S1
        have SY := hide (fun w (hw : HL W w h va5 (M.apL L ck.1)) => hw.sync)
        unfold M.syF at SY
        rw [hl1, if_neg (by decide), err_nil rfl] at SY
        have ER2 := hide (ER.out 0)
        rw [err_nil rfl] at ER2
        have J2 : Hid (M.JS after (M.syL (M.apL L ck.1)) (n + 1 + 1)) := J1.out.step (M.sy_step _).1 (M.sy_step _).2
        have T2 : Hid ((M.syL (M.apL L ck.1)).stop = false) := (M.sy_step _).1.trans hl1
        clear hl1 J1 ER
        generalize hL2 : M.syL (M.apL L ck.1) = L2 at *
        clear hL2
        generalize hL1 : M.apL L ck.1 = L1 at *
        clear hL1
        go_wp2_with (first
          | (go_at_call 11; refine (SY.out w6 H6.out).mono ?_; rintro e w7 ⟨rfl, h7, k7⟩; have H7 := hide h7; clear h7 k7)
          | (go_at_call 8; refine (ER2.out w7 H7.out.bl).mono ?_; rintro e w8 ⟨rfl, b8⟩; have H8 := hide (H7.out.up b8); clear b8))
        go_roundw
        case rel => exact ⟨k + 1, n + 1 + 1, L2, va5, by omega, by omega, by go_num, by rw [T2.out], by go_num, by omega, H8, J2⟩
        case measure => simp [intOf]; omega
      · have AP := hide (HH.out.append CI.out)
        unfold caV at AP
        rw [ES] at AP
        rw [hl, if_pos rfl, err_some (by decide)] at AP
        have ER1 := hide (ER.out 9)
        rw [err_some (by decide)] at ER1
        rw [hs]
        have S1 : (M.apL L ck.1).stop = true := ST.trans hl
        clear hs hl ES
        go_upto_region 22 with (first
          | (go_at_call 7; refine AP.out.mono ?_; rintro e w5 ⟨rfl, va5, h5, k5⟩; have H5 := hide h5; clear h5 k5)
          | (go_at_call 8; refine (ER1.out w5 H5.out.bl).mono ?_; rintro e w6 ⟨rfl, b6⟩; have H6 := hide (H5.out.up b6); clear b6))
        clear AP ER1 H5 HH CI c0 c1 c2 c3 c4 c5 c6
        have hl1 : M.stpF (M.apL L ck.1) = true := by unfold M.stpF; rw [S1]; rfl
        clear S1
        have SY := hide (fun w (hw : HL W w h va5 (M.apL L ck.1)) => hw.sync)
        unfold M.syF at SY
        rw [hl1, if_pos rfl, err_some (by decide)] at SY
        have ER2 := hide (ER.out 9)
        rw [err_some (by decide)] at ER2
        have J2 : Hid (M.JS after (M.syL (M.apL L ck.1)) (n + 1 + 1)) := J1.out.step (M.sy_step _).1 (M.sy_step _).2
        have T2 : Hid ((M.syL (M.apL L ck.1)).stop = true) := (M.sy_step _).1.trans hl1
        clear hl1 J1 ER
        generalize hL2 : M.syL (M.apL L ck.1) = L2 at *
        clear hL2
        generalize hL1 : M.apL L ck.1 = L1 at *
        clear hL1
        go_wp2_with (first
          | (go_at_call 11; refine (SY.out w6 H6.out).mono ?_; rintro e w7 ⟨rfl, h7, k7⟩; have H7 := hide h7; clear h7 k7)
          | (go_at_call 8; refine (ER2.out w7 H7.out.bl).mono ?_; rintro e w8 ⟨rfl, b8⟩; have H8 := hide (H7.out.up b8); clear b8))
        go_roundw
        case rel => exact ⟨k + 1, n + 1 + 1, L2, va5, by omega, by omega, by go_num, by rw [T2.out], by go_num, by omega, H8, J2⟩
        case measure => simp [intOf]; omega
      · have AP := hide (HH.out.append CI.out)
        unfold caV at AP
        rw [ES] at AP
        rw [hl, if_neg (by decide), err_nil rfl] at AP
        have ER1 := hide (ER.out 0)
        rw [err_nil rfl] at ER1
        rw [hs]
        have S1 : (M.apL L ck.1).stop = false := ST.trans hl
        clear hs hl ES
        go_upto_region 22 with (first
          | (go_at_call 7; refine AP.out.mono ?_; rintro e w5 ⟨rfl, va5, h5, k5⟩; have H5 := hide h5; clear h5 k5)
          | (go_at_call 8; refine (ER1.out w5 H5.out.bl).mono ?_; rintro e w6 ⟨rfl, b6⟩; have H6 := hide (H5.out.up b6); clear b6))
        clear AP ER1 H5 HH CI c0 c1 c2 c3 c4 c5 c6
        by_cases q2 : (n : Int) + 1 = after
        · have hl1 : M.stpF (M.apL L ck.1) = true := by rw [J1.out.lost, S1, d0]; simp; omega
          have d2 : ((n : Int) + 1 == after) = true := by rw [beq_iff_eq]; exact q2
          clear S1 q2
          have SY := hide (fun w (hw : HL W w h va5 (M.apL L ck.1)) => hw.sync)
          unfold M.syF at SY
          rw [hl1, if_pos rfl, err_some (by decide)] at SY
          have ER2 := hide (ER.out 9)
          rw [err_some (by decide)] at ER2
          have J2 : Hid (M.JS after (M.syL (M.apL L ck.1)) (n + 1 + 1)) := J1.out.step (M.sy_step _).1 (M.sy_step _).2
          have T2 : Hid ((M.syL (M.apL L ck.1)).stop = true) := (M.sy_step _).1.trans hl1
          clear hl1 J1 ER
          generalize hL2 : M.syL (M.apL L ck.1) = L2 at *
          clear hL2
          generalize hL1 : M.apL L ck.1 = L1 at *
          clear hL1
          go_wp2_with (first
            | (go_at_call 11; refine (SY.out w6 H6.out).mono ?_; rintro e w7 ⟨rfl, h7, k7⟩; have H7 := hide h7; clear h7 k7)
            | (go_at_call 8; refine (ER2.out w7 H7.out.bl).mono ?_; rintro e w8 ⟨rfl, b8⟩; have H8 := hide (H7.out.up b8); clear b8))
          go_roundw
          case rel => exact ⟨k + 1, n + 1 + 1, L2, va5, by omega, by omega, by go_num, by rw [T2.out], by go_num, by omega, H8, J2⟩
          case measure => simp [intOf]; omega
        · have hl1 : M.stpF (M.apL L ck.1) = false := by rw [J1.out.lost, S1, d0]; simp; omega
          have d2 : ((n : Int) + 1 == after) = false := by rw [beq_eq_false_iff_ne]; exact q2
          clear S1 q2
          have SY := hide (fun w (hw : HL W w h va5 (M.apL L ck.1)) => hw.sync)
          unfold M.syF at SY
          rw [hl1, if_neg (by decide), err_nil rfl] at SY
          have ER2 := hide (ER.out 0)
          rw [err_nil rfl] at ER2
          have J2 : Hid (M.JS after (M.syL (M.apL L ck.1)) (n + 1 + 1)) := J1.out.step (M.sy_step _).1 (M.sy_step _).2
          have T2 : Hid ((M.syL (M.apL L ck.1)).stop = false) := (M.sy_step _).1.trans hl1
          clear hl1 J1 ER
          generalize hL2 : M.syL (M.apL L ck.1) = L2 at *
          clear hL2
          generalize hL1 : M.apL L ck.1 = L1 at *
          clear hL1
          go_wp2_with (first
            | (go_at_call 11; refine (SY.out w6 H6.out).mono ?_; rintro e w7 ⟨rfl, h7, k7⟩; have H7 := hide h7; clear h7 k7)
            | (go_at_call 8; refine (ER2.out w7 H7.out.bl).mono ?_; rintro e w8 ⟨rfl, b8⟩; have H8 := hide (H7.out.up b8); clear b8))
          go_roundw
          case rel => exact ⟨k + 1, n + 1 + 1, L2, va5, by omega, by omega, by go_num, by rw [T2.out], by go_num, by omega, H8, J2⟩
          case measure => simp [intOf]; omega

end Go.Proofs.YtnnhpbnnombpmaaDoor
