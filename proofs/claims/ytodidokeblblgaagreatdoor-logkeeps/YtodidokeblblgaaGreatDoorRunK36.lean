/-
  Several texts as one: KeepW, KeepsAll.
-/
import Derived.Test.YtodidokeblblgaaGreatDoorRunK31
import Derived.Test.YtodidokeblblgaaGreatDoorRunK34
import Derived.Test.YtodidokeblblgaaGreatDoorRunK13
import Derived.Test.YtodidokeblblgaaGreatDoorRunK20
import Derived.Test.YtodidokeblblgaaGreatDoorRunK35
import Derived.Deep.Cut
import Derived.Deep.CutRange
import Derived.Test.YtodidokeblblgaaGreatDoorRunK23
namespace Go.Proofs.YtodidokeblblgaaGreatDoor
open Go.ChangeShapes Go.WideShapes Go.ChangeAt Go.RowKit Go.Lib Go.Maps
set_option linter.unusedVariables false
theorem first_kept : M.apF M.lg0 caA = 0 ∧ M.stpF (M.apL M.lg0 caA) = false ∧ M.LgOk (M.apL M.lg0 caA) ∧ (M.crL (M.syL (M.apL M.lg0 caA)) 0).calls = [caA] := by
  have r := caA_ok.rec_le
  have f : M.apF M.lg0 caA = 0 := by
    unfold M.apF
    rw [if_neg (by decide), if_neg (by show ¬ (100 < 1 ∨ 6000 < 0 ∨ 100000 < 0 + (M.recL caA).length); omega)]
    rfl
  have e := M.ap_push f
  have s : M.stpF (M.apL M.lg0 caA) = false := by rw [e]; rfl
  have ok := M.ap_ok M.lg0_ok (c := caA) caA_ok.nb caA_ok.bb
  refine ⟨f, s, ok, ?_⟩
  rw [M.sync_crash ok s, e]
  rfl

set_option maxHeartbeats 32000000 in
set_option maxRecDepth 10000 in
theorem keeps_walk (a : Option Addr) (l : List CaC) (ca : Nat) (synced keep fail : Int) (W : World) (h : RdC W a l) (h1 : M.I64 synced) (h2 : M.I64 keep) (h3 : M.I64 fail) (hL : Lays W) :
    Calls Tryz.prog 4 #[.slice a l.length ca, .int .i64 synced, .int .i64 keep, .int .i64 fail] W fun e w' => e = .returned (.bool true) ∧ Below W.heap.size W w' := by
  have ll : l.length ≤ 9223372036854775807 := h.1
  have HK := hide h2
  have HF := hide h3
  have FK := hide first_kept
  obtain ⟨W1, hW1⟩ : ∃ X, X = W.alloc (.cells #[.int .i64 4, .int .i64 0, .int .i64 1, .string ⟨#[97]⟩, .int .i64 0, .int .i64 0, .slice none 0 0] 36) := ⟨_, rfl⟩
  have b1 : Below W.heap.size W W1 := by rw [hW1]; exact (Below.refl _ _).alloc (Nat.le_refl _) _
  have K1 := hide b1
  have BX : Hid (Bx W1 W.heap.size [.int .i64 4, .int .i64 0, .int .i64 1, .string ⟨#[97]⟩, .int .i64 0, .int .i64 0, .slice none 0 0]) := by unfold Hid; rw [hW1]; exact bx_new W _ _
  have HC := hide (h.below b1)
  have ER : Hid (∀ c V, Below W1.heap.size W1 V → Calls Tryz.prog 10 #[errV c, .int .i64 4] V fun e w' => e = .returned (.bool (c == 4)) ∧ Below V.heap.size V w') := fun c V hV => error_any c 4 V (hL.below (b1.trans (hV.mono b1.size)))
  have BW : Hid (∀ w, Below W1.heap.size W1 w → Bx w W.heap.size [.int .i64 4, .int .i64 0, .int .i64 1, .string ⟨#[97]⟩, .int .i64 0, .int .i64 0, .slice none 0 0]) := fun w hw => BX.out.keep (hw.block _ BX.out.lt)
  have END : Hid (∀ w, Below W1.heap.size W1 w → Below W.heap.size W w) := fun w hw => K1.out.trans (hw.mono K1.out.size)
  have AA : Hid (∀ (w : World) (f : Nat) (va : Option Addr) (L : M.Lg), HL W1 w f va L → Calls Tryz.prog 23 #[.pointer (some ⟨f, 0, none⟩), .agg #[.int .i64 4, .int .i64 0, .int .i64 1, .string ⟨#[97]⟩, .int .i64 0, .int .i64 0, .slice none 0 0]] w fun e w' => e = .returned (errV (M.apF L caA)) ∧ ∃ va', HL W1 w' f va' (M.apL L caA) ∧ KeptL w f va va' w') := fun w f va L hl => by
    have := hl.append (caA_in w)
    unfold caV at this
    rw [show byStr caA.name = ⟨#[97]⟩ from caA_str] at this
    exact this
  clear h hL h1 h2 h3 b1
  go_enter Tryz.func4, Tryz.ntmps4
  go_upto_region 2 with fail
  rw [← hW1]
  clear hW1 K1
  have NW := hide (HL.new (Below.refl W1.heap.size W1))
  go_upto_region 3 with (go_at_call 22; refine NW.out.mono ?_; rintro e w2 ⟨f1, rfl, h2, b2, ef⟩; have H2 := hide h2; clear h2 b2 ef)
  clear NW BX
  obtain ⟨c0, c1, c2, c3, c4, c5, c6⟩ : w2.cell? ⟨W.heap.size, 0, none⟩ = some (.int .i64 4) ∧ w2.cell? ⟨W.heap.size, 1, none⟩ = some (.int .i64 0) ∧ w2.cell? ⟨W.heap.size, 2, none⟩ = some (.int .i64 1) ∧ w2.cell? ⟨W.heap.size, 3, none⟩ = some (.string ⟨#[97]⟩) ∧ w2.cell? ⟨W.heap.size, 4, none⟩ = some (.int .i64 0) ∧ w2.cell? ⟨W.heap.size, 5, none⟩ = some (.int .i64 0) ∧ w2.cell? ⟨W.heap.size, 6, none⟩ = some (.slice none 0 0) := by
    have b := BW.out w2 H2.out.bl
    exact ⟨b.cell 0 _ rfl, b.cell 1 _ rfl, b.cell 2 _ rfl, b.cell 3 _ rfl, b.cell 4 _ rfl, b.cell 5 _ rfl, b.cell 6 _ rfl⟩
  have AP := hide (AA.out w2 f1 none M.lg0 H2.out)
  rw [FK.out.1, err_nil rfl] at AP
  go_upto_region 4 with (go_at_call 23; refine AP.out.mono ?_; rintro e w3 ⟨rfl, v3, h3, k3⟩; have H3 := hide h3; clear h3 k3)
  clear AP H2 c0 c1 c2 c3 c4 c5 c6
  have SY := hide H3.out.sync
  rw [show M.syF (M.apL M.lg0 caA) = 0 by unfold M.syF; rw [if_neg (by rw [FK.out.2.1]; decide)], err_nil rfl] at SY
  go_upto_region 5 with (go_at_call 24; refine SY.out.mono ?_; rintro e w4 ⟨rfl, h4, k4⟩; have H4 := hide h4; clear h4 k4)
  clear SY H3
  have CR := hide (H4.out.crash 0 ⟨by decide, by decide⟩)
  go_upto_region 6 with (go_at_call 25; refine CR.out.mono ?_; rintro e w5 ⟨rfl, h5, k5⟩; have H5 := hide h5; clear h5 k5)
  clear CR H4
  have CL := hide H5.out.callsG
  rw [show (M.crL (M.syL (M.apL M.lg0 caA)) 0).calls.length = 1 by rw [FK.out.2.2.2]; rfl] at CL
  go_upto_region 8 with (go_at_call 26; refine CL.out.mono ?_; rintro e w6 ⟨a6, c6, l6, rfl, _, _, b6⟩; have K6 := hide (below_on H5.out.bl b6); clear b6)
  clear CL H5 FK
  have NW := hide (HL.new K6.out)
  go_upto_region 11 with (go_at_call 22; refine NW.out.mono ?_; rintro e w7 ⟨g, rfl, h7, b7, ef⟩; have H7 := hide h7; clear h7 b7 ef)
  clear NW K6
  go_upto_if 51 with fail
  go_cut [] from 51 to 54 (fun wx => ∃ L0 : M.Lg, Hid (HL W1 wx g none L0) ∧ Hid (L0.calls = []))
  case first =>
    have FA := hide (H7.out.fail fail HF.out)
    by_cases q : 0 ≤ fail
    · have d1 : decide (0 ≤ fail) = true := decide_eq_true q
      go_wp2_with (go_at_call 27; refine FA.out.mono ?_; rintro e w8 ⟨rfl, h8, k8⟩; have H8 := hide h8; clear h8 k8)
      go_meet
      case rel => exact ⟨_, H8, rfl⟩
    · have d1 : decide (0 ≤ fail) = false := decide_eq_false q
      go_wp2
      go_meet
      case rel => exact ⟨_, H7, rfl⟩
  case rest =>
    clear H7
    obtain ⟨L0, H8, E0⟩ := hcut
    obtain ⟨j0, hj0, hz0, hz1, hz2⟩ := info_parts infoCa
    have J0 := hide hj0
    clear hj0
    have KW0 : Hid (KW W1 wc g none L0 none 0 []) := ⟨H8.out, World.ownsRow_nil _ _ _ _, fun p hp => by cases hp⟩
    have KS0 : Hid (M.KS L0 0) := ⟨Nat.zero_le _, by rw [List.take_zero]; exact Nat.zero_le _⟩
    go_wp2
    go_loopw [14, 15, 16, 17] (fun al sf i _ wr => ∃ (k sN : Nat) (va : Option Addr) (L : M.Lg) (a' : Option Addr) (c' : Nat) (AL : List CaC), k ≤ l.length ∧ k ≤ 30 ∧ i = .int .i64 k ∧ al = .slice a' AL.length c' ∧ sf = .int .i64 (sN : Int) ∧ AL.length ≤ k ∧ Hid (KW W1 wr g va L a' c' AL) ∧ Hid (AL.map (·.1) = L.calls) ∧ Hid (∀ x ∈ AL, CaIn W1 x.1 x.2.1 x.2.2) ∧ Hid (M.KS L sN)) (fun _ _ i _ _ => 30 - (intOf i).toNat)
    case atStart => exact ⟨0, 0, none, L0, none, 0, [], Nat.zero_le _, by omega, rfl, rfl, rfl, Nat.le_refl _, KW0, E0.out.symm, (fun x hx => by cases hx), KS0⟩
    case round =>
      clear KW0 KS0 H8 E0
      obtain ⟨k, sN, va, L, a', c', AL, hk, hk30, rfl, rfl, rfl, hal, KK, EM, CA, KS⟩ := hrel
      by_cases hlt : k < l.length ∧ k < 30
      case neg =>
        -- behind the loop
        have ways : (decide ((k : Int) < (l.length : Int)) = false ∧ decide (k < l.length) = false) ∨ (decide ((k : Int) < (l.length : Int)) = true ∧ decide (k < l.length) = true ∧ decide ((k : Int) < 30) = false ∧ decide (k < 30) = false) := by
          simp only [decide_eq_true_iff, decide_eq_false_iff_not]; omega
        have OKL := KK.out.hl.ok
        have KCR := hide (KS.out.cr OKL keep)
        have CR := hide (KK.out.hl.crash keep HK.out)
        have ECC : Hid ((M.crL L keep).calls = (AL.map (·.1)).take (M.crL L keep).calls.length) := by
          unfold Hid
          rw [EM.out]
          have e := M.cr_calls L keep
          have le := M.fitN_le L.calls (M.crN L keep)
          have ln : (M.crL L keep).calls.length = M.fitN L.calls (M.crN L keep) := by rw [e, List.length_take]; omega
          rw [ln]
          exact e
        have SFC : Hid (M.stpF (M.crL L keep) = false) := rfl
        have HCRS : Hid ((M.crL L keep).stop = false ∧ (M.crL L keep).ahead = -1) := ⟨rfl, rfl⟩
        have AL30 : AL.length ≤ 30 := by omega
        have MAP : Hid ((M.crL L keep).calls.length ≤ AL.length) := by
          have := KCR.out.2
          rw [← EM.out, List.length_map] at this
          exact this
        have kcr1 := KCR.out.1
        have map1 := MAP.out
        have CAP : Hid (AL.length ≤ c') := by
          rcases KK.out.own.2 with ⟨hv, h0⟩ | ⟨g0, cap0, cur0, hv, _, _, h1, _⟩
          · unfold Hid; rw [h0]; exact Nat.zero_le _
          · cases hv; exact h1
        clear hlt HC EM KS KCR MAP OKL
        generalize M.crL L keep = LC at *
        obtain ⟨gn, hgn⟩ : ∃ x, x = LC.calls.length := ⟨_, rfl⟩
        have GN := hide hgn
        rw [← hgn] at ECC kcr1 map1
        clear hgn
        obtain ⟨an, han⟩ : ∃ x, x = AL.length := ⟨_, rfl⟩
        have AN := hide han
        rw [← han] at AL30 CAP map1 hal ⊢
        clear han
        have cap1 := CAP.out
        have d1 : decide ((gn : Int) < (sN : Int)) = false := decide_eq_false (by omega)
        have d2 : decide ((an : Int) < (gn : Int)) = false := decide_eq_false (by omega)
        have d1' : decide (gn < sN) = false := decide_eq_false (by omega)
        have d2' : decide (an < gn) = false := decide_eq_false (by omega)
        have y1 : (gn : Int) ≤ (c' : Int) := by omega
        have y2 : gn ≤ c' := by omega
        go_upto_region 14 with fail
        go_cut [62] from 55 to 62 (fun v wx => v = .bool false ∧ wx = wr)
        case first =>
          rcases ways with ⟨g1, g1'⟩ | ⟨g1, g1', g2, g2'⟩
          all_goals (
            go_wp2
            go_meet
            case rel => exact ⟨rfl, rfl⟩)
        case rest =>
        obtain ⟨rfl, ewr⟩ := hcut
        subst ewr
        clear ways
        go_upto_region 22 with (go_at_call 25; refine CR.out.mono ?_; rintro e w5 ⟨rfl, h5, k5⟩; have K5 := hide (KK.out.turn h5 k5); clear h5 k5)
        clear CR KK
        have CL := hide K5.out.hl.callsG
        rw [← GN.out] at CL
        go_upto_region 25 with (go_at_call 26; refine CL.out.mono ?_; rintro e w6 ⟨a8, c8, lg, rfl, em, cw, b6⟩; have EG := hide em; have CW6 := hide cw; have K6 := hide (K5.out.up b6); clear em cw b6)
        clear CL K5
        have lgl : lg.length = gn := by rw [GN.out, ← EG.out, List.length_map]
        have RG : Hid (RdC w6 a8 lg) := own_rdC rfl (by unfold maxLen; omega) CW6.out.ci CW6.out.own
        have RA : Hid (RdC w6 a' (AL.take gn)) := (K6.out.rd CA.out (by rw [← AN.out]; unfold maxLen; omega)).take gn
        have tl : (AL.take gn).length = gn := by rw [List.length_take, ← AN.out]; omega
        have SM := hide (calls_same a8 a' lg (AL.take gn) c8 c' w6 RG.out RA.out (by rw [EG.out, List.map_take]; exact ECC.out))
        rw [lgl, tl] at SM
        clear RA tl CA ECC CW6
        go_upto_region 26 with (go_at_call 28; refine SM.out.mono ?_; rintro e w7 ⟨rfl, b7⟩; have K7 := hide (K6.out.hl.up b7); have RG7 := hide (RG.out.below b7); clear b7)
        clear SM K6 RG
        have NW := hide (sh_New w7)
        go_wp2_with (go_at_call 7; refine NW.out.mono ?_; rintro e w8 ⟨s, T0, rfl, sa, bl, tn⟩; have H0 : Hid (Has w7 w8 s T0 M.sh0) := ⟨sa, bl, tn⟩; clear sa bl tn)
        clear NW
        have IX := hide M.sh0_all
        have LGL := hide lgl
        clear lgl d1 d2 d1' d2' y1 y2 kcr1 cap1
        go_loopw [21] (fun i wx => ∃ (j : Nat) (T : Nat → Nat), j ≤ gn ∧ i = .int .i64 j ∧ Hid (Has w7 wx s T (M.shAll M.sh0 ((lg.take j).map (·.1))))) (fun i _ => gn - (intOf i).toNat)
        case atStart => exact ⟨0, T0, Nat.zero_le _, rfl, H0⟩
        case round =>
          clear H0
          obtain ⟨j, T, hj, rfl, HS⟩ := hrel
          by_cases hjl : j < gn
          · have jz : (j : Int) < (gn : Int) := by omega
            have j1 : decide ((j : Int) < (gn : Int)) = true := decide_eq_true jz
            have j1' : decide (j < gn) = true := decide_eq_true hjl
            have hjl' : j < lg.length := by have := LGL.out; omega
            obtain ⟨b9, o9, rfl, _, sv, _⟩ := (RG7.out.below HS.out.bl).at hjl'
            obtain ⟨c0, c1, c2, c3, c4, c5, c6⟩ := sv
            have ci7 := RG7.out.2.1 (lg.getD j ca0) (by rw [List.getD, List.getElem?_eq_getElem hjl']; exact List.getElem_mem hjl')
            have DO := hide (HS.out.doIt ci7 (by
              have := IX.out ((lg.take j).map (·.1))
              rw [List.length_map, List.length_take] at this
              omega))
            have ES : Hid (M.shAll M.sh0 ((lg.take (j + 1)).map (·.1)) = (M.shDo (M.shAll M.sh0 ((lg.take j).map (·.1))) (lg.getD j ca0).1).2.2) := by
              unfold Hid
              rw [List.take_succ_eq_append_getElem hjl', List.map_append, M.shAll_app]
              have : lg.getD j ca0 = lg[j] := by simp [List.getD, hjl']
              rw [this]
              rfl
            rw [← ES.out] at DO
            unfold caV at DO
            clear ES ci7 HS IX RG7 hjl'
            generalize anV (M.shDo (M.shAll M.sh0 ((lg.take j).map (·.1))) (lg.getD j ca0).1).1 = av at *
            generalize errV (M.shDo (M.shAll M.sh0 ((lg.take j).map (·.1))) (lg.getD j ca0).1).2.1 = ev at *
            generalize lg.getD j ca0 = ck at *
            go_wp2_with (go_at_call 9; refine DO.out.mono ?_; rintro e w9 ⟨rfl, T9, h9, _, _⟩; have H9 := hide h9; clear h9)
            go_roundw
            case rel => exact ⟨j + 1, T9, by omega, by go_num, H9⟩
            case measure => simp [intOf]; omega
          · have jz : ¬ ((j : Int) < (gn : Int)) := by omega
            have j1 : decide ((j : Int) < (gn : Int)) = false := decide_eq_false jz
            have j1' : decide (j < gn) = false := decide_eq_false hjl
            have ej : j = lg.length := by have := LGL.out; omega
            have HS2 : Hid (Has w7 wr s T (M.shAll M.sh0 LC.calls)) := by
              have := HS.out
              rw [ej, List.take_length, EG.out] at this
              exact this
            have SI : (M.shAll M.sh0 LC.calls).idx ≤ 900 := by
              have := IX.out LC.calls
              rw [← GN.out] at this
              omega
            have KX := hide (K7.out.up HS2.out.bl)
            have SHF := hide (lg_Shelf KX.out (by rw [← GN.out]; omega))
            clear HS ej IX
            go_upto_region 32 with (go_at_call 29; refine SHF.out.mono ?_; rintro e w10 ⟨x, Tx, rfl, hx⟩; have HX := hide hx; have HS3 := hide (HS2.out.up hx.bl); have K10 := hide (KX.out.up hx.bl); clear hx)
            clear SHF HS2 KX
            generalize M.shAll M.sh0 LC.calls = SS at *
            have AX := hide (sh_All HX.out.sa SI)
            go_upto_region 33 with (first
              | (go_at_call 11; refine VS.out.mono ?_; rintro e w13 ⟨rfl, b13⟩; have B13 := hide (below_on B12.out b13); clear b13)
              | (go_at_call 12; refine AS.out.mono ?_; rintro e w12 ⟨ay, cy, rfl, ry, b12, _⟩; have RY := hide ry; have RX2 := hide (RX.out.below b12); have B12 := hide (below_on B11.out b12); have VS := hide (vnsame_any ax ay (M.allS SS) cx cy w12 (RX.out.below b12) ry); clear ry b12)
              | (go_at_call 12; refine AX.out.mono ?_; rintro e w11 ⟨ax, cx, rfl, rx, b11, _⟩; have RX := hide rx; have B11 := hide b11; have AS := hide (sh_All (HS3.out.up b11).sa SI); clear rx b11))
            have HX13 := hide (HX.out.up B13.out)
            have HS13 := hide (HS3.out.up B13.out)
            have K13 := hide (K10.out.up B13.out)
            have IXX := hide (sh_Index HX13.out.sa)
            have ISS : Hid (∀ w, w = w13 → Calls Tryz.prog 14 #[.pointer (some ⟨s, 0, none⟩)] w fun e w' => e = .returned (.int .i64 SS.idx) ∧ w' = w) := fun w hw => by rw [hw]; exact sh_Index HS13.out.sa
            clear HX HS3 K10 B11 B12 B13 RX RY RX2 AX AS VS SI K7 RG7 HX13 HS13
            generalize SS.idx = ix at *
            go_upto_region 35 with (first
              | (go_at_call 14; refine IS2.out.mono ?_; rintro e w15 ⟨rfl, ew⟩; have ew2 := ew.symm; subst ew2)
              | (go_at_call 14; refine IXX.out.mono ?_; rintro e w14 ⟨rfl, ew⟩; have ew2 := ew.symm; subst ew2; have IS2 := hide (ISS.out _ rfl)))
            clear ISS IXX
            have bx13 := BW.out w13 K13.out.bl
            have c0 := bx13.cell 0 _ rfl
            have c1 := bx13.cell 1 _ rfl
            have c2 := bx13.cell 2 _ rfl
            have c3 := bx13.cell 3 _ rfl
            have c4 := bx13.cell 4 _ rfl
            have c5 := bx13.cell 5 _ rfl
            have c6 := bx13.cell 6 _ rfl
            have okC := K13.out.ok
            have AP := hide (AA.out w13 g va LC K13.out)
            have AG := M.again (L := LC) (c := caA) SFC.out caA_ok
            clear bx13
            rcases AG with q4 | q0
            · rw [q4, err_some (by decide)] at AP
              rw [M.ap_same (.inr q4)] at AP
              have n1 : (M.crL (M.syL LC) 0).calls.length = gn := by rw [M.sync_crash okC SFC.out]; exact GN.out.symm
              have sy0 : M.syF LC = 0 := by unfold M.syF; rw [if_neg (by rw [SFC.out]; decide)]
              have ER1 := hide (ER.out 4)
              rw [err_some (by decide)] at ER1
              clear q4 okC
              go_upto_region 36 with (go_at_call 23; refine AP.out.mono ?_; rintro e w16 ⟨rfl, v16, h16, _⟩; have H16 := hide h16; clear h16)
              clear AP K13 c0 c1 c2 c3 c4 c5 c6
              have SY := hide H16.out.sync
              rw [sy0, err_nil rfl] at SY
              go_upto_region 37 with (go_at_call 24; refine SY.out.mono ?_; rintro e w17 ⟨rfl, h17, _⟩; have H17 := hide h17; clear h17)
              clear SY H16 sy0
              have CR := hide (H17.out.crash 0 ⟨by decide, by decide⟩)
              go_upto_region 38 with (go_at_call 25; refine CR.out.mono ?_; rintro e w18 ⟨rfl, h18, _⟩; have H18 := hide h18; clear h18)
              clear CR H17
              have CL := hide H18.out.callsG
              rw [n1] at CL
              clear n1
              go_upto_region 39 with (go_at_call 26; refine CL.out.mono ?_; rintro e w19 ⟨a19, c19, l19, rfl, _, _, b19⟩; have K19 := hide (below_on H18.out.bl b19); clear b19)
              clear CL H18
              go_wp2_with (go_at_call 10; refine (ER1.out w19 K19.out).mono ?_; rintro e w20 ⟨rfl, b20⟩; have K20 := hide (below_on K19.out b20); clear b20)
              go_ret
              exact ⟨by first | rfl | simp, END.out _ K20.out⟩
            · rw [q0, err_nil rfl] at AP
              have ep := M.ap_push q0
              have okP := M.ap_ok okC (c := caA) caA_ok.nb caA_ok.bb
              have sp : M.stpF (M.apL LC caA) = false := by
                rw [ep]
                unfold M.stpF
                show (LC.stop || decide ((if 0 < LC.ahead then LC.ahead - 1 else LC.ahead) = 0)) = false
                rw [HCRS.out.1, HCRS.out.2]
                rfl
              have cs : (M.crL (M.syL (M.apL LC caA)) 0).calls = LC.calls ++ [caA] := by rw [M.sync_crash okP sp, ep]
              have n1 : (M.crL (M.syL (M.apL LC caA)) 0).calls.length = gn + 1 := by rw [cs, List.length_append, ← GN.out]; rfl
              have sy0 : M.syF (M.apL LC caA) = 0 := by unfold M.syF; rw [if_neg (by rw [sp]; decide)]
              have ER1 := hide (ER.out 0)
              rw [err_nil rfl] at ER1
              have CS := hide cs
              clear q0 okC okP ep sp cs
              generalize M.apL LC caA = LP at *
              go_upto_region 36 with (go_at_call 23; refine AP.out.mono ?_; rintro e w16 ⟨rfl, v16, h16, _⟩; have H16 := hide h16; clear h16)
              clear AP K13 c0 c1 c2 c3 c4 c5 c6
              have SY := hide H16.out.sync
              rw [sy0, err_nil rfl] at SY
              go_upto_region 37 with (go_at_call 24; refine SY.out.mono ?_; rintro e w17 ⟨rfl, h17, _⟩; have H17 := hide h17; clear h17)
              clear SY H16 sy0
              have CR := hide (H17.out.crash 0 ⟨by decide, by decide⟩)
              go_upto_region 38 with (go_at_call 25; refine CR.out.mono ?_; rintro e w18 ⟨rfl, h18, _⟩; have H18 := hide h18; clear h18)
              clear CR H17
              have CL := hide H18.out.callsG
              rw [n1] at CL
              clear n1
              go_upto_region 39 with (go_at_call 26; refine CL.out.mono ?_; rintro e w19 ⟨a19, c19, l19, rfl, em19, cw19, b19⟩; have K19 := hide (below_on H18.out.bl b19); have EM19 := hide (em19.trans CS.out); have CW19 := hide cw19; clear b19 em19 cw19)
              clear CL H18 CS
              have wr1 : IntKind.i64.wrap ((gn : Int) + 1) = (gn : Int) + 1 := i64_in (by omega) (by omega)
              go_upto_region 43 with (go_at_call 10; refine (ER1.out w19 K19.out).mono ?_; rintro e w20 ⟨rfl, b20⟩; have K20 := hide (below_on K19.out b20); have B20 := hide b20; clear b20)
              -- the last region
              have le19 : l19.length = gn + 1 := by
                have := congrArg List.length EM19.out
                rw [List.length_map, List.length_append, ← GN.out] at this
                exact this
              have RM : Hid (RdC w20 a19 l19) := (own_rdC rfl (by unfold maxLen; omega) CW19.out.ci CW19.out.own).below B20.out
              have ee : (l19.getD gn ca0).1 = caA := by
                have hk : gn < l19.length := by omega
                have := congrArg (fun z => z[gn]?) EM19.out
                simp only [List.getElem?_map] at this
                rw [List.getElem?_eq_getElem hk, List.getElem?_append_right (by rw [← GN.out]; exact Nat.le_refl _), ← GN.out, Nat.sub_self] at this
                have t2 : l19[gn].1 = caA := by simpa using this
                rw [List.getD, List.getElem?_eq_getElem hk, Option.getD_some, t2]
              obtain ⟨b9, o9, rfl, lt9, sv, ci⟩ := RM.out.at (k := gn) (by omega)
              unfold SevenAt at sv
              have rdE := ci.rd
              rw [ee] at sv rdE
              have CSM : Hid (∀ V, Below w20.heap.size w20 V → Calls Tryz.prog 30 #[.agg #[.int .i64 4, .int .i64 0, .int .i64 1, .string ⟨#[97]⟩, .int .i64 0, .int .i64 0, .slice (l19.getD gn ca0).2.1 0 (l19.getD gn ca0).2.2], .agg #[.int .i64 4, .int .i64 0, .int .i64 1, .string ⟨#[97]⟩, .int .i64 0, .int .i64 0, .slice none 0 0]] V fun e w' => e = .returned (.bool true) ∧ Below V.heap.size V w') := fun V hV => by
                have := call_same caA (l19.getD gn ca0).2.1 none (l19.getD gn ca0).2.2 0 V (rdE.below hV) ⟨Nat.zero_le _, (fun x hx => by cases hx), fun hn => absurd rfl hn⟩
                unfold caV at this
                rw [show byStr caA.name = ⟨#[97]⟩ from caA_str] at this
                exact this
              have CF : Hid (∀ V, Below w20.heap.size w20 V → (V.cell? ⟨b9, o9 + gn * 7, none⟩ = some (.int .i64 4) ∧ V.cell? ⟨b9, o9 + gn * 7 + 1, none⟩ = some (.int .i64 0) ∧ V.cell? ⟨b9, o9 + gn * 7 + 2, none⟩ = some (.int .i64 1) ∧ V.cell? ⟨b9, o9 + gn * 7 + 3, none⟩ = some (.string ⟨#[97]⟩) ∧ V.cell? ⟨b9, o9 + gn * 7 + 4, none⟩ = some (.int .i64 0) ∧ V.cell? ⟨b9, o9 + gn * 7 + 5, none⟩ = some (.int .i64 0) ∧ V.cell? ⟨b9, o9 + gn * 7 + 6, none⟩ = some (.slice (l19.getD gn ca0).2.1 0 (l19.getD gn ca0).2.2)) ∧ (V.cell? ⟨W.heap.size, 0, none⟩ = some (.int .i64 4) ∧ V.cell? ⟨W.heap.size, 1, none⟩ = some (.int .i64 0) ∧ V.cell? ⟨W.heap.size, 2, none⟩ = some (.int .i64 1) ∧ V.cell? ⟨W.heap.size, 3, none⟩ = some (.string ⟨#[97]⟩) ∧ V.cell? ⟨W.heap.size, 4, none⟩ = some (.int .i64 0) ∧ V.cell? ⟨W.heap.size, 5, none⟩ = some (.int .i64 0) ∧ V.cell? ⟨W.heap.size, 6, none⟩ = some (.slice none 0 0))) := fun V hV => by
                have ke : ∀ j v, w20.cell? ⟨b9, j, none⟩ = some v → V.cell? ⟨b9, j, none⟩ = some v := fun j v hv => (hV.cell (p := ⟨b9, j, none⟩) lt9).trans hv
                have b := BW.out V (below_on K20.out hV)
                obtain ⟨p0, p1, p2, p3, p4, p5, p6⟩ := sv
                rw [show byStr caA.name = ⟨#[97]⟩ from caA_str] at p3
                exact ⟨⟨ke _ _ p0, ke _ _ p1, ke _ _ p2, ke _ _ p3, ke _ _ p4, ke _ _ p5, ke _ _ p6⟩, ⟨b.cell 0 _ rfl, b.cell 1 _ rfl, b.cell 2 _ rfl, b.cell 3 _ rfl, b.cell 4 _ rfl, b.cell 5 _ rfl, b.cell 6 _ rfl⟩⟩
              clear sv ci rdE ee RM CW19 EM19 le19 lt9 ER1 AA BW ER
              generalize (l19.getD gn ca0).2.1 = e1 at *
              generalize (l19.getD gn ca0).2.2 = e2 at *
              have kd : Below w20.heap.size w20 w20.drew := (Below.refl _ w20).drew
              have gz : (gn : Int) < (gn : Int) + 1 := by omega
              have gz' : gn < gn + 1 := by omega
              refine wp_region_held_drew (S := fun V => Below w20.heap.size w20 V) (by kernel_rfl) kd (fun hHeld => ?_)
              refine take_lg (i := 0) (d := some 179) (v := ?v1) rfl rfl (by kernel_rfl) (by kernel_rfl) (by kernel_rfl) (fun _ _ _ h => h) (Or.inl ⟨by rfl, ?h1⟩) (by assumption) ?r1
              case h1 => (intro V hSw; obtain ⟨⟨p0, p1, p2, p3, p4, p5, p6⟩, ⟨q0, q1, q2, q3, q4, q5, q6⟩⟩ := CF.out V hSw; clear hSw; go_simp; (try with_reducible rfl))
              simp only [Act.put, List.setIfInBounds_toArray, List.set_cons_zero, List.set_cons_succ]
              refine take_lg (i := 1) (d := some 180) (v := ?v2) rfl rfl (by kernel_rfl) (by kernel_rfl) (by kernel_rfl) (fun _ _ _ h => h) (Or.inl ⟨by rfl, ?h2⟩) (by assumption) ?r2
              case h2 => (intro V hSw; obtain ⟨⟨p0, p1, p2, p3, p4, p5, p6⟩, ⟨q0, q1, q2, q3, q4, q5, q6⟩⟩ := CF.out V hSw; clear hSw; go_simp; (try with_reducible rfl))
              simp only [Act.put, List.setIfInBounds_toArray, List.set_cons_zero, List.set_cons_succ]
              refine take_lg (i := 2) (d := some 181) (v := ?v3) rfl rfl (by kernel_rfl) (by kernel_rfl) (by kernel_rfl) (fun _ _ _ h => h) (Or.inl ⟨by rfl, ?h3⟩) (by assumption) ?r3
              case h3 => (intro V hSw; obtain ⟨⟨p0, p1, p2, p3, p4, p5, p6⟩, ⟨q0, q1, q2, q3, q4, q5, q6⟩⟩ := CF.out V hSw; clear hSw; go_simp; (try with_reducible rfl))
              simp only [Act.put, List.setIfInBounds_toArray, List.set_cons_zero, List.set_cons_succ]
              refine take_lg (i := 3) (d := some 182) (v := ?v4) rfl rfl (by kernel_rfl) (by kernel_rfl) (by kernel_rfl) (fun _ _ _ h => h) (Or.inl ⟨by rfl, ?h4⟩) (by assumption) ?r4
              case h4 => (intro V hSw; obtain ⟨⟨p0, p1, p2, p3, p4, p5, p6⟩, ⟨q0, q1, q2, q3, q4, q5, q6⟩⟩ := CF.out V hSw; clear hSw; go_simp; (try with_reducible rfl))
              simp only [Act.put, List.setIfInBounds_toArray, List.set_cons_zero, List.set_cons_succ]
              refine take_lg (i := 4) (d := some 183) (v := ?v5) rfl rfl (by kernel_rfl) (by kernel_rfl) (by kernel_rfl) (fun _ _ _ h => h) (Or.inl ⟨by rfl, ?h5⟩) (by assumption) ?r5
              case h5 => (intro V hSw; obtain ⟨⟨p0, p1, p2, p3, p4, p5, p6⟩, ⟨q0, q1, q2, q3, q4, q5, q6⟩⟩ := CF.out V hSw; clear hSw; go_simp; (try with_reducible rfl))
              simp only [Act.put, List.setIfInBounds_toArray, List.set_cons_zero, List.set_cons_succ]
              refine take_lg (i := 5) (d := some 184) (v := ?v6) rfl rfl (by kernel_rfl) (by kernel_rfl) (by kernel_rfl) (fun _ _ _ h => h) (Or.inl ⟨by rfl, ?h6⟩) (by assumption) ?r6
              case h6 => (intro V hSw; obtain ⟨⟨p0, p1, p2, p3, p4, p5, p6⟩, ⟨q0, q1, q2, q3, q4, q5, q6⟩⟩ := CF.out V hSw; clear hSw; go_simp; (try with_reducible rfl))
              simp only [Act.put, List.setIfInBounds_toArray, List.set_cons_zero, List.set_cons_succ]
              refine wpAnyH_ready (rs := [6]) (by kernel_rfl) (by simp) ?_
              refine AllReadyH.cons rfl (fun K hK => ?_) AllReadyH.nil
              go_simp
              go_at_call 30
              refine (CSM.out _ kd).mono ?_
              rintro e w21 ⟨rfl, b21⟩
              have k21 : Below w20.heap.size w20 w21 := below_on kd b21
              clear b21
              try go_wp2_with fail
              refine hK.out _ _ k21 (fun hHeld3 => ?_)
              clear hK K
              try simp only [Act.put, List.setIfInBounds_toArray, List.set_cons_zero, List.set_cons_succ]
              refine take_lg (i := 7) (d := some 27) (v := ?v7) rfl rfl (by kernel_rfl) (by kernel_rfl) (by kernel_rfl) (fun _ _ _ h => h) (Or.inl ⟨by rfl, ?h7⟩) (by assumption) ?r7
              case h7 => (intro V hSw; obtain ⟨⟨p0, p1, p2, p3, p4, p5, p6⟩, ⟨q0, q1, q2, q3, q4, q5, q6⟩⟩ := CF.out V hSw; clear hSw; go_simp; (try with_reducible rfl))
              simp only [Act.put, List.setIfInBounds_toArray, List.set_cons_zero, List.set_cons_succ]
              refine wpAnyH_done (by kernel_rfl) ?_ _
              have K21 := hide (below_on K20.out k21)
              clear CSM CF kd k21
              go_wp2
              go_ret
              exact ⟨by first | rfl | simp, END.out _ K21.out⟩
      obtain ⟨hl1, hl2⟩ := hlt
      have g1 : decide ((k : Int) < (l.length : Int)) = true := decide_eq_true (by omega)
      have g2 : decide ((k : Int) < 30) = true := decide_eq_true (by omega)
      have g1' : decide (k < l.length) = true := decide_eq_true hl1
      have g2' : decide (k < 30) = true := decide_eq_true hl2
      have kz : (k : Int) < (l.length : Int) := by omega
      obtain ⟨bb, off, rfl, hbl, sv, ci⟩ := (HC.out.below KK.out.hl.bl).at hl1
      obtain ⟨c0, c1, c2, c3, c4, c5, c6⟩ := sv
      have mem : l.getD k ca0 ∈ l := by rw [List.getD, List.getElem?_eq_getElem hl1]; exact List.getElem_mem hl1
      have CK := hide (HC.out.2.1 _ mem)
      have CELLS : Hid (∀ w, Below W1.heap.size W1 w → SevenAt w bb (off + k * 7) (l.getD k ca0)) := fun w hw => by
        obtain ⟨b2, o2, e2, _, sv2, _⟩ := (HC.out.below hw).at hl1
        cases e2
        exact sv2
      have AP := hide (KK.out.hl.append ci)
      have OKL := hide KK.out.hl.ok
      clear mem ci hbl
      unfold caV at AP
      generalize l.getD k ca0 = ck at *
      by_cases nz : M.apF L ck.1 = 0
      case neg =>
        rw [err_some nz] at AP
        have E2 : Hid (AL.map (·.1) = (M.apL L ck.1).calls) := by unfold Hid; rw [M.ap_calls nz]; exact EM.out
        have KS2 := hide (KS.out.ap ck.1)
        clear EM KS nz CELLS CK OKL
        generalize M.apL L ck.1 = L1 at *
        generalize M.apF L ck.1 = ae at *
        go_wp2_with (go_at_call 23; refine AP.out.mono ?_; rintro e w5 ⟨rfl, va5, h5, k5⟩; have K5 := hide (KK.out.turn h5 k5); clear h5 k5)
        go_roundw
        case rel => exact ⟨k + 1, sN, va5, L1, a', c', AL, by omega, by omega, by go_num, rfl, rfl, by omega, K5, E2, CA, KS2⟩
        case measure => simp [intOf]; omega
      rw [nz, err_nil rfl] at AP
      have E2 : Hid ((AL ++ [ck]).map (·.1) = (M.apL L ck.1).calls) := by unfold Hid; rw [M.ap_push nz, List.map_append, EM.out]; rfl
      have CA2 : Hid (∀ x ∈ AL ++ [ck], CaIn W1 x.1 x.2.1 x.2.2) := fun x hx => by
        rcases List.mem_append.1 hx with z | z
        · exact CA.out x z
        · rw [List.mem_singleton] at z; subst z; exact CK.out
      have KS2 := hide (KS.out.ap ck.1)
      have OK2 : Hid (M.LgOk (M.apL L ck.1)) := M.ap_ok OKL.out CK.out.nb CK.out.rd.2.1
      have AL30 : AL.length ≤ 30 := by omega
      clear EM KS nz CA OKL
      generalize M.apL L ck.1 = L1 at *
      go_upto_region 18 with (go_at_call 23; refine AP.out.mono ?_; rintro e w5 ⟨rfl, va5, h5, k5⟩; have K5 := hide (KK.out.turn h5 k5); clear h5 k5)
      clear AP KK c0 c1 c2 c3 c4 c5 c6
      obtain ⟨c0, c1, c2, c3, c4, c5, c6⟩ := CELLS.out w5 K5.out.hl.bl
      have NX : Hid (∀ o : Obj, (w5.alloc o).ownsRow W1.heap.size 36 7 (.slice a' AL.length c') AL.length (caCs AL) ∧ W1.heap.size ≤ (w5.alloc o).heap.size ∧ ∀ (g' cap : Nat) (w6 : World), w6.ownsRow W1.heap.size 36 7 (.slice (some ⟨g', 0, none⟩) (AL.length + 1) cap) (AL.length + 1) (caCs AL ++ ca7 ck) → (w5.alloc o).grownBy w6 (Value.slice a' AL.length c').ownBlock → ((Value.slice a' AL.length c').ownBlock = some g' ∨ g' = w5.heap.size + 1) → KW W1 w6 g va5 L1 (some ⟨g', 0, none⟩) cap (AL ++ [ck])) := fun o => by
        have bo : Below w5.heap.size w5 (w5.alloc o) := (Below.refl _ _).alloc (Nat.le_refl _) o
        have k6 := K5.out.up bo
        have zo : (w5.alloc o).heap.size = w5.heap.size + 1 := by simp
        exact ⟨k6.own, k6.hl.bl.size, fun g' cap w6 ho hg ha => k6.push ho hg (by rw [zo]; exact ha)⟩
      have XO := NX.out (.cells #[.int .i64 ck.1.what, .int .i64 ck.1.ses, .int .i64 ck.1.seq, .string (byStr ck.1.name), .int .i64 ck.1.num, .int .i64 ck.1.share, .slice ck.2.1 ck.1.bys.length ck.2.2] 36)
      have O3 := hide XO.1
      have Z3 := hide XO.2.1
      have N3 := hide XO.2.2
      clear XO NX K5 CELLS
      have LN : Hid ((AL ++ [ck]).length = AL.length + 1) := by unfold Hid; rw [List.length_append]; rfl
      obtain ⟨an, han⟩ : ∃ x, x = AL.length := ⟨_, rfl⟩
      rw [← han] at O3 N3 LN AL30 hal ⊢
      clear han
      go_upto_region 19 with (at_builtin; refine wpList_append_lies _ rfl (.tmp 73) (.tmp 78) 22 rfl W1.heap.size 36 j0 (.agg #[.int .i64 0, .int .i64 0, .int .i64 0, .string ⟨#[]⟩, .int .i64 0, .int .i64 0, .slice none 0 0]) 7 80 Tryz.underlying22 J0.out hz0 hz1 hz2 rfl (by omega) (.slice a' an c') an (caCs AL) rfl O3.out ⟨w5.heap.size, 0, none⟩ 1 1 [.int .i64 ck.1.what, .int .i64 ck.1.ses, .int .i64 ck.1.seq, .string (byStr ck.1.name), .int .i64 ck.1.num, .int .i64 ck.1.share, .slice ck.2.1 ck.1.bys.length ck.2.2] rfl rfl (World.news_of_block (heap_alloc_new _ _)) (by simp [Value.oneCell']) (by omega) (by unfold maxLen; omega) (by omega) Z3.out (w5.heap.size + 1) (by simp) ?_; intro g' cg w6 ho6 hg6 ha6 hl6; have K6 := hide (N3.out g' cg w6 ho6 hg6 ha6); clear ho6 hg6 ha6 hl6)
      clear O3 Z3 N3 c0 c1 c2 c3 c4 c5 c6
      by_cases qs : (k : Int) < synced
      case neg =>
        have s1 : decide ((k : Int) < synced) = false := decide_eq_false qs
        go_wp2
        go_roundw
        case rel => exact ⟨k + 1, sN, va5, L1, some ⟨g', 0, none⟩, cg, AL ++ [ck], by omega, by omega, by go_num, by rw [LN.out], rfl, by rw [LN.out]; omega, K6, E2, CA2, KS2⟩
        case measure => simp [intOf]; omega
      have s1 : decide ((k : Int) < synced) = true := decide_eq_true qs
      have SY := hide K6.out.hl.sync
      have ESY : Hid ((AL ++ [ck]).map (·.1) = (M.syL L1).calls) := by unfold Hid; rw [M.sy_calls]; exact E2.out
      by_cases sz : M.syF L1 = 0
      · rw [sz, err_nil rfl] at SY
        have KS3 : Hid (M.KS (M.syL L1) (an + 1)) := by
          have := M.KS.sy0 sz OK2.out
          rw [← E2.out, List.length_map, LN.out] at this
          exact this
        clear sz KS2 E2 OK2 qs
        generalize M.syL L1 = L2 at *
        go_wp2_with (go_at_call 24; refine SY.out.mono ?_; rintro e w7 ⟨rfl, h7, k7⟩; have K7 := hide (K6.out.turn h7 k7); clear h7 k7)
        go_roundw
        case rel => exact ⟨k + 1, an + 1, va5, L2, some ⟨g', 0, none⟩, cg, AL ++ [ck], by omega, by omega, by go_num, by rw [LN.out], by go_num, by rw [LN.out]; omega, K7, ESY, CA2, KS3⟩
        case measure => simp [intOf]; omega
      · rw [err_some sz] at SY
        have KS3 := hide (KS2.out.sy OK2.out)
        clear sz KS2 E2 OK2 qs
        generalize M.syL L1 = L2 at *
        generalize M.syF L1 = se at *
        go_wp2_with (go_at_call 24; refine SY.out.mono ?_; rintro e w7 ⟨rfl, h7, k7⟩; have K7 := hide (K6.out.turn h7 k7); clear h7 k7)
        go_roundw
        case rel => exact ⟨k + 1, sN, va5, L2, some ⟨g', 0, none⟩, cg, AL ++ [ck], by omega, by omega, by go_num, by rw [LN.out], rfl, by rw [LN.out]; omega, K7, ESY, CA2, KS3⟩
        case measure => simp [intOf]; omega
end Go.Proofs.YtodidokeblblgaaGreatDoor

namespace Go.Proofs.YtodidokeblblgaaGreatDoor
open Go.ChangeShapes Go.WideShapes Go.ChangeAt Go.RowKit Go.Lib
set_option linter.unusedVariables false
theorem keeps_all (a : Option Addr) (l : List CaC) (ca : Nat) (synced keep fail : Int) (w : World) (h : RdC w a l) (h1 : -9223372036854775808 ≤ synced ∧ synced ≤ 9223372036854775807) (h2 : -9223372036854775808 ≤ keep ∧ keep ≤ 9223372036854775807) (h3 : -9223372036854775808 ≤ fail ∧ fail ≤ 9223372036854775807) (hL : Lays w) :
    Calls Tryz.prog 4 #[.slice a l.length ca, .int .i64 synced, .int .i64 keep, .int .i64 fail] w fun e w' => e = .returned (.bool true) ∧ Below w.heap.size w w' := keeps_walk a l ca synced keep fail w h h1 h2 h3 hL
end Go.Proofs.YtodidokeblblgaaGreatDoor
