/-
  The walk of the law RowTexts: for every row, every text of at most two million bytes, all spans and all lists of cuts it returns true; the variables of packages errors and strconv lie as these packages lay them.
-/
import Derived.Test.YtihaphicidjooabGreatDoorRefRead
import Derived.Test.YtihaphicidjooabGreatDoorRCuts
import Derived.Test.YtihaphicidjooabGreatDoorRowBins
import Derived.Test.YtihaphicidjooabGreatDoorInts
import Derived.Test.YtihaphicidjooabGreatDoorError
import Derived.Deep.Cut
import Derived.Deep.CutRange
import Derived.Deep.CutBlock
import Derived.Deep.RegionWith
import Derived.BigQuiet
import Derived.Deep.QuietTactic
namespace Go.Proofs.YtihaphicidjooabGreatDoor
open Go.ChangeShapes Go.WideShapes Go.ChangeAt Go.RowKit Go.Shelf Go.Lib Go.Sort
set_option linter.unusedVariables false

/-- the reference's bin of a cell -/
def M.rawB (x : Int) (cs : List Int) : Int := if x = M.nilI then M.nilI else (M.binI cs x : Nat)
def M.raw (xs : List Int) (ks : List (List Int)) : List Int := (List.range xs.length).map fun i => M.rawB (xs.getD i 0) (ks.getD i [])
theorem M.raw_len (xs : List Int) (ks : List (List Int)) : (M.raw xs ks).length = xs.length := by simp [M.raw]
theorem M.raw_at (xs : List Int) (ks : List (List Int)) (k : Nat) (h : k < xs.length) (h' : k < (M.raw xs ks).length) : (M.raw xs ks)[k] = M.rawB xs[k] (ks.getD k []) := by
  simp [M.raw, List.getD, List.getElem?_eq_getElem h]
theorem M.fault_zero : ∀ (ks : List (List Int)), M.faultC ks = 0 → ∀ c ∈ ks, M.cutsI c = 0
  | [], _, c, hc => by simp at hc
  | x :: t, h, c, hc => by
    by_cases hx : M.cutsI x = 0
    · have h' : M.faultC t = 0 := by
        have e : M.faultC (x :: t) = if M.cutsI x ≠ 0 then M.cutsI x else M.faultC t := rfl
        rw [e, if_neg (by simp [hx])] at h; exact h
      rw [List.mem_cons] at hc
      rcases hc with rfl | hc
      · exact hx
      · exact M.fault_zero t h' c hc
    · have e : M.faultC (x :: t) = if M.cutsI x ≠ 0 then M.cutsI x else M.faultC t := rfl
      rw [e, if_pos hx] at h; exact absurd h hx
theorem M.raw_bins {xs : List Int} {ks : List (List Int)} (hl : ks.length = xs.length) (h : M.faultC ks = 0) : M.raw xs ks = M.bins xs ks := by
  unfold M.raw M.bins
  refine List.map_congr_left fun i hi => ?_
  have hi' : i < ks.length := by rw [hl]; exact List.mem_range.1 hi
  have e : ks.getD i [] = ks[i] := by simp [List.getD, List.getElem?_eq_getElem hi']
  have hc := M.fault_zero ks h _ (List.getElem_mem hi')
  rw [e]
  unfold M.rawB M.binC
  rw [if_neg (show ¬ M.cutsI ks[i] ≠ 0 by simp [hc])]

set_option maxHeartbeats 8000000 in
set_option maxRecDepth 10000 in
theorem texts_core (a b c : Option Addr) (xs : List Int) (s : ByteArray) (ss : List M.Sp) (ks : List Kc) (ca cb cc : Nat) (w : World) (e P2 FF BF : Int) (T : ByteArray) (L BV : List Int) (FV : Bool)
    (HA : Hid (∀ W, Below w.heap.size w W → Rd W a xs)) (HB : Hid (∀ W, Below w.heap.size w W → RdS W b ss)) (HC : Hid (∀ W, Below w.heap.size w W → RdK W c ks))
    (mx : xs.length ≤ 9223372036854775807) (ms : ss.length ≤ 9223372036854775807) (mk : ks.length ≤ 9223372036854775807)
    (RW : Hid (∀ W, Below w.heap.size w W → Calls Tryz.prog 4 #[.slice a xs.length ca] W fun r w' => r = .returned (.int .i64 e) ∧ w' = W))
    (CK : Hid (∀ W, Below w.heap.size w W → Calls Tryz.prog 6 #[.slice a xs.length ca] W fun r w' => r = .returned (errV e) ∧ Below W.heap.size W w'))
    (ER : Hid (∀ c W, Below w.heap.size w W → Calls Tryz.prog 5 #[errV c, .int .i64 c] W fun r w' => r = .returned (.bool true) ∧ Below W.heap.size W w'))
    (SH : Hid (e = 0 → ∀ W, Below w.heap.size w W → Calls Tryz.prog 7 #[.slice a xs.length ca] W fun r w' => r = .returned (.string T) ∧ w' = W)) (TZ : Hid (e ≠ 0 → T = ⟨#[]⟩))
    (PR : Hid (∀ W, Below w.heap.size w W → Calls Tryz.prog 8 #[.slice a xs.length ca] W fun r w' => r = .returned (.tuple #[.string T, errV e]) ∧ Below W.heap.size W w'))
    (RR : Hid (∀ W, Below w.heap.size w W → Calls Tryz.prog 9 #[.string s] W fun r w' => ∃ ag cg, r = .returned (.tuple #[.slice ag L.length cg, .int .i64 P2]) ∧ Rd w' ag L ∧ Below W.heap.size W w'))
    (PA : Hid (∀ W, Below w.heap.size w W → Calls Tryz.prog 10 #[.string s] W fun r w' => ∃ ag cg, r = .returned (.tuple #[.slice ag L.length cg, errV P2]) ∧ Rd w' ag L ∧ Below W.heap.size W w'))
    (IN : Hid (∀ ag cg bg dg R W, Rd W ag R → Rd W bg R → Calls Tryz.prog 11 #[.slice ag R.length cg, .slice bg R.length dg] W fun r w' => r = .returned (.bool true) ∧ Below W.heap.size W w'))
    (FI : Hid (∀ W, Below w.heap.size w W → Calls Tryz.prog 13 #[.slice a xs.length ca, .slice b ss.length cb] W fun r w' => r = .returned (.tuple #[.bool FV, errV FF]) ∧ Below W.heap.size W w'))
    (FFa : Hid ((e ≠ 0 → FF = e) ∧ (e = 0 → ss.length ≠ xs.length → FF = 3) ∧ (e = 0 → ss.length = xs.length → FF = 0)))
    (FVa : Hid ((FF ≠ 0 → FV = false) ∧ (FF = 0 → FV = (!(List.range xs.length).any (M.outAt xs ss)) ∧ ss.length = xs.length ∧ xs.length ≤ 8)))
    (BI : Hid (∀ W, Below w.heap.size w W → Calls Tryz.prog 16 #[.slice a xs.length ca, .slice c ks.length cc] W fun r w' => ∃ ag cg, r = .returned (.tuple #[.slice ag BV.length cg, errV BF]) ∧ Rd w' ag BV ∧ Below W.heap.size W w'))
    (BFa : Hid ((e ≠ 0 → BF = e) ∧ (e = 0 → ks.length ≠ xs.length → BF = 3) ∧ (e = 0 → ks.length = xs.length → BF = M.faultC (kl ks) ∧ xs.length ≤ 8)))
    (BVa : Hid ((BF ≠ 0 → BV = []) ∧ (BF = 0 → BV = M.bins xs (kl ks)))) :
    Calls Tryz.prog 3 #[.slice a xs.length ca, .string s, .slice b ss.length cb, .slice c ks.length cc] w fun e w' => e = .returned (.bool true) ∧ Below w.heap.size w w' := by
  have B0 := hide (Below.refl w.heap.size w)
  go_enter Tryz.func3, Tryz.ntmps3
  go_upto_region 4 with (first
    | (go_at_call 4; refine (RW.out _ B0.out).mono ?_; rintro r w1 ⟨rfl, h1⟩; have h1' := h1.symm; clear h1; subst h1')
    | (go_at_call 6; refine (CK.out _ B0.out).mono ?_; rintro r w2 ⟨rfl, hb2⟩)
    | (go_at_call 5; refine (ER.out _ _ hb2).mono ?_; rintro r w3 ⟨rfl, hb3⟩))
  have K3 := hide (below_on hb2 hb3)
  clear hb2 hb3 RW CK
  go_cut [38] from 37 to 38 (fun v wx => ∃ q : Bool, v = .bool q ∧ Hid (q = decide (e = 0)) ∧ wx = w3)
  case first =>
    by_cases h : e = 0
    · have t : (e == 0) = true := by rw [beq_iff_eq]; exact h
      have E : Hid (true = decide (e = 0)) := (decide_eq_true h).symm
      clear h
      go_wp2
      go_meet
      case rel => exact ⟨true, rfl, E, rfl⟩
    · have t : (e == 0) = false := by rw [beq_eq_false_iff_ne]; exact h
      have E : Hid (false = decide (e = 0)) := (decide_eq_false h).symm
      clear h
      go_wp2
      go_meet
      case rel => exact ⟨false, rfl, E, rfl⟩
  case rest =>
    obtain ⟨q, rfl, HQ, rfl⟩ := hcut
    go_upto_if 38 with fail
    go_cut [11] from 39 to 40 (fun v wx => v = .string T ∧ wx = wc)
    case first =>
      cases q with
      | true =>
        have S2 := hide (SH.out (of_decide_eq_true HQ.out.symm) _ K3.out)
        clear HQ SH
        go_wp2_with (go_at_call 7; refine S2.out.mono ?_; rintro r w4 ⟨rfl, rfl⟩)
        go_meet
        case rel => exact ⟨rfl, rfl⟩
      | false =>
        have E := hide (TZ.out (of_decide_eq_false HQ.out.symm))
        clear HQ SH
        go_wp2
        go_meet
        case rel => exact ⟨by rw [E.out], rfl⟩
    case rest =>
      obtain ⟨rfl, rfl⟩ := hcut
      clear HQ SH TZ
      go_upto_region 8 with (first
        | (go_at_call 8; refine (PR.out _ K3.out).mono ?_; rintro r w5 ⟨rfl, hb5⟩; have k5 := below_on K3.out hb5)
        | (go_at_call 5; refine (ER.out _ _ k5).mono ?_; rintro r w6 ⟨rfl, hb6⟩))
      have K6 := hide (below_on k5 hb6)
      clear hb5 k5 hb6 PR K3
      go_upto_region 12 with (first
        | (go_at_call 9; refine (RR.out _ K6.out).mono ?_; rintro r w7 ⟨xg, xc, rfl, RX, hb7⟩; have k7 := below_on K6.out hb7)
        | (go_at_call 10; refine (PA.out _ k7).mono ?_; rintro r w8 ⟨yg, yc, rfl, RY, hb8⟩; have k8 := below_on k7 hb8)
        | (go_at_call 5; refine (ER.out _ _ k8).mono ?_; rintro r w9 ⟨rfl, hb9⟩; have k9 := below_on k8 hb9)
        | (go_at_call 11; refine (IN.out _ _ _ _ _ _ (RY.below hb9) ((RX.below hb8).below hb9)).mono ?_; rintro r w10 ⟨rfl, hb10⟩))
      have K10 := hide (below_on k9 hb10)
      clear hb7 hb8 hb9 hb10 k7 k8 k9 RX RY RR PA K6
      go_upto_region 15 with fail
      go_cut [93] from 85 to 93 (fun v wx => ∃ q : Bool, v = .bool q ∧ Hid (q = decide (e = 0 ∧ ss.length ≠ xs.length)) ∧ wx = w10)
      case first =>
        by_cases h : e = 0
        · have t : (e == 0) = true := by rw [beq_iff_eq]; exact h
          by_cases hl : ss.length = xs.length
          · have t2 : ((ss.length : Int) != (xs.length : Int)) = false := by rw [bne_eq_false_iff_eq]; omega
            have E : Hid (false = decide (e = 0 ∧ ss.length ≠ xs.length)) := (decide_eq_false (fun g => g.2 hl)).symm
            clear h hl
            go_wp2
            go_meet
            case rel => exact ⟨false, rfl, E, rfl⟩
          · have t2 : ((ss.length : Int) != (xs.length : Int)) = true := by rw [bne_iff_ne]; omega
            have E : Hid (true = decide (e = 0 ∧ ss.length ≠ xs.length)) := (decide_eq_true ⟨h, hl⟩).symm
            clear h hl
            go_wp2
            go_meet
            case rel => exact ⟨true, rfl, E, rfl⟩
        · have t : (e == 0) = false := by rw [beq_eq_false_iff_ne]; exact h
          have E : Hid (false = decide (e = 0 ∧ ss.length ≠ xs.length)) := (decide_eq_false (fun g => h g.1)).symm
          clear h
          go_wp2
          go_meet
          case rel => exact ⟨false, rfl, E, rfl⟩
      case rest =>
        obtain ⟨q1, rfl, HQ1, rfl⟩ := hcut
        go_upto_if 93 with fail
        go_cut [16] from 93 to 93 (fun v wx => v = .int .i64 FF ∧ wx = wc)
        case first =>
          cases q1 with
          | true =>
            have g := of_decide_eq_true HQ1.out.symm
            have E := hide (FFa.out.2.1 g.1 g.2)
            clear HQ1 g
            go_wp2
            go_meet
            case rel => exact ⟨by rw [E.out], rfl⟩
          | false =>
            have g := of_decide_eq_false HQ1.out.symm
            have E : Hid (FF = e) := by
              by_cases h : e = 0
              · by_cases hl : ss.length = xs.length
                · exact (FFa.out.2.2 h hl).trans h.symm
                · exact absurd ⟨h, hl⟩ g
              · exact FFa.out.1 h
            clear HQ1 g
            go_wp2
            go_meet
            case rel => exact ⟨by rw [E.out], rfl⟩
        case rest =>
          obtain ⟨rfl, rfl⟩ := hcut
          clear HQ1 FFa
          go_upto_region 17 with fail
          go_cut [20] from 94 to 95 (fun v wx => v = .bool (decide (FF = 0)) ∧ wx = wc)
          case first =>
            by_cases h : FF = 0
            · have t : (FF == 0) = true := by rw [beq_iff_eq]; exact h
              have E : Hid (decide (FF = 0) = true) := decide_eq_true h
              clear h
              go_wp2
              go_meet
              case rel => exact ⟨by rw [E.out], rfl⟩
            · have t : (FF == 0) = false := by rw [beq_eq_false_iff_ne]; exact h
              have E : Hid (decide (FF = 0) = false) := decide_eq_false h
              clear h
              go_wp2
              go_meet
              case rel => exact ⟨by rw [E.out], rfl⟩
          case rest =>
            obtain ⟨rfl, rfl⟩ := hcut
            go_upto_block 0 with fail
            go_cut [20, 21, 22] from 96 to 118 (fun v _ _ wx => v = .bool FV ∧ Hid (Below w.heap.size w wx))
            case first =>
              clear IN ER BI BFa BVa FI HC
              by_cases h : FF = 0
              · obtain ⟨hFV, hl, h8⟩ := FVa.out.2 h
                have t : (FF == 0) = true := by rw [beq_iff_eq]; exact h
                rw [decide_eq_true h]
                have E0 : Hid (FV = !(List.range xs.length).any (M.outAt xs ss)) := hFV
                have HL := hide hl
                have Z0 : Hid (true = !(List.range 0).any (M.outAt xs ss)) := rfl
                clear h hFV hl FVa
                go_wp2
                go_loopw [20, 21] (fun v i wr => ∃ k : Nat, k ≤ xs.length ∧ i = .int .i64 k ∧ v = .bool (!(List.range k).any (M.outAt xs ss)) ∧ Below w.heap.size w wr) (fun _ i _ => xs.length - (intOf i).toNat)
                case atStart => exact ⟨0, Nat.zero_le _, rfl, by rw [← Z0.out], K10.out⟩
                case round =>
                  clear Z0
                  obtain ⟨k, hk, rfl, rfl, hbl⟩ := hrel
                  by_cases hlt : k < xs.length
                  · have hks : k < ss.length := by have := HL.out; omega
                    obtain ⟨rb, ro, rfl, hrb, hrc⟩ := (HA.out wr hbl).2 (by intro e; subst e; simp at hlt)
                    obtain ⟨sb, so, rfl, hsb, hsc⟩ := (HB.out wr hbl).2 (by intro e; subst e; simp at hks)
                    have hck := Rd.at hrc k hlt
                    obtain ⟨d0, d1, d2⟩ := hsc k hks
                    have klt : (k : Int) < (ss.length : Int) := by omega
                    have klt' : (k : Int) < (xs.length : Int) := by omega
                    have OA : Hid (M.outAt xs ss k = !M.inS xs[k] (ss.getD k (0, 0, false))) := by
                      unfold Hid M.outAt
                      rw [show xs.getD k 0 = xs[k] by simp [List.getD, List.getElem?_eq_getElem hlt]]
                    have NX : Hid ((!(List.range (k + 1)).any (M.outAt xs ss)) = ((!(List.range k).any (M.outAt xs ss)) && !M.outAt xs ss k)) := by
                      unfold Hid; rw [List.range_succ, List.any_append]; simp
                    rw [OA.out] at NX
                    have RI := hide (rin_any xs[k] (ss.getD k (0, 0, false)).1 (ss.getD k (0, 0, false)).2.1 (ss.getD k (0, 0, false)).2.2)
                    clear hrc hsc OA
                    generalize (!(List.range k).any (M.outAt xs ss)) = u at *
                    generalize M.inS xs[k] (ss.getD k (0, 0, false)) = ok at *
                    generalize (ss.getD k (0, 0, false)).1 = lo at *
                    generalize (ss.getD k (0, 0, false)).2.1 = hi at *
                    generalize (ss.getD k (0, 0, false)).2.2 = nl at *
                    generalize xs[k] = y at *
                    go_upto_region 21 with fail
                    go_cut [22] from 106 to 114 (fun v wx => v = .bool ok ∧ Hid (Below w.heap.size w wx))
                    case first =>
                      go_region_with (go_at_call 12; refine (RI.out _).mono ?_; rintro r w1 ⟨rfl, hb1⟩)
                      all_goals go_wp2
                      all_goals go_meet
                      all_goals (case rel => exact ⟨rfl, below_on hbl ((Below.refl wr.heap.size wr).drew.trans hb1)⟩)
                    case rest =>
                      obtain ⟨rfl, K12⟩ := hcut
                      cases u with
                      | true =>
                        go_wp2
                        go_roundw
                        case rel => exact ⟨k + 1, by omega, by go_num, by rw [NX.out]; simp, K12.out⟩
                        case measure => simp [intOf]; omega
                      | false =>
                        go_wp2
                        go_roundw
                        case rel => exact ⟨k + 1, by omega, by go_num, by rw [NX.out]; simp, K12.out⟩
                        case measure => simp [intOf]; omega
                  · have hke : k = xs.length := by omega
                    subst hke
                    rw [← E0.out]
                    go_wp2
                    go_meet
                    case rel => exact ⟨rfl, hbl⟩
              · have hFV := FVa.out.1 h
                have t : (FF == 0) = false := by rw [beq_eq_false_iff_ne]; exact h
                rw [decide_eq_false h]
                have E0 := hide hFV
                clear h hFV FVa
                by_cases hn : 0 < xs.length
                · have t2 : decide ((0 : Int) < (xs.length : Int)) = true := decide_eq_true (by omega)
                  go_wp2
                  refine wp_loop_rounds 1 ?_
                  rw [rounds_succ]
                  go_wp2
                  go_meet
                  case rel => exact ⟨by rw [E0.out], K10.out⟩
                · have hx : xs = [] := List.length_eq_zero_iff.1 (by omega)
                  subst hx
                  go_wp2
                  refine wp_loop_rounds 1 ?_
                  rw [rounds_succ]
                  go_wp2
                  go_meet
                  case rel => exact ⟨by rw [E0.out], K10.out⟩
            case rest =>
              obtain ⟨rfl, K11⟩ := hcut
              clear FVa K10
              go_upto_region 26 with (first
                | (go_at_call 13; refine (FI.out _ K11.out).mono ?_; rintro r w12 ⟨rfl, hb12⟩; have k12 := below_on K11.out hb12)
                | (go_at_call 5; refine (ER.out _ _ k12).mono ?_; rintro r w13 ⟨rfl, hb13⟩))
              have K13 := hide (below_on k12 hb13)
              clear hb12 k12 hb13 FI K11 HB
              go_cut [137] from 129 to 137 (fun v wx => ∃ q : Bool, v = .bool q ∧ Hid (q = decide (e = 0 ∧ ks.length ≠ xs.length)) ∧ wx = w13)
              case first =>
                by_cases h : e = 0
                · have t : (e == 0) = true := by rw [beq_iff_eq]; exact h
                  by_cases hl : ks.length = xs.length
                  · have t2 : ((ks.length : Int) != (xs.length : Int)) = false := by rw [bne_eq_false_iff_eq]; omega
                    have E : Hid (false = decide (e = 0 ∧ ks.length ≠ xs.length)) := (decide_eq_false (fun g => g.2 hl)).symm
                    clear h hl
                    go_wp2
                    go_meet
                    case rel => exact ⟨false, rfl, E, rfl⟩
                  · have t2 : ((ks.length : Int) != (xs.length : Int)) = true := by rw [bne_iff_ne]; omega
                    have E : Hid (true = decide (e = 0 ∧ ks.length ≠ xs.length)) := (decide_eq_true ⟨h, hl⟩).symm
                    clear h hl
                    go_wp2
                    go_meet
                    case rel => exact ⟨true, rfl, E, rfl⟩
                · have t : (e == 0) = false := by rw [beq_eq_false_iff_ne]; exact h
                  have E : Hid (false = decide (e = 0 ∧ ks.length ≠ xs.length)) := (decide_eq_false (fun g => h g.1)).symm
                  clear h
                  go_wp2
                  go_meet
                  case rel => exact ⟨false, rfl, E, rfl⟩
              case rest =>
                obtain ⟨q2, rfl, HQ2, rfl⟩ := hcut
                go_upto_if 137 with fail
                go_cut [16] from 137 to 137 (fun v wx => ∃ G : Int, v = .int .i64 G ∧ Hid ((G ≠ 0 → BF = G) ∧ (G = 0 → ks.length = xs.length ∧ BF = M.faultC (kl ks) ∧ xs.length ≤ 8)) ∧ wx = wc)
                case first =>
                  cases q2 with
                  | true =>
                    have g := of_decide_eq_true HQ2.out.symm
                    have E := hide (BFa.out.2.1 g.1 g.2)
                    clear HQ2 g
                    go_wp2
                    go_meet
                    case rel => exact ⟨3, rfl, ⟨fun _ => E.out, fun h => by cases h⟩, rfl⟩
                  | false =>
                    have g := of_decide_eq_false HQ2.out.symm
                    have E : Hid ((e ≠ 0 → BF = e) ∧ (e = 0 → ks.length = xs.length ∧ BF = M.faultC (kl ks) ∧ xs.length ≤ 8)) := by
                      refine ⟨BFa.out.1, fun h => ?_⟩
                      by_cases hl : ks.length = xs.length
                      · exact ⟨hl, BFa.out.2.2 h hl⟩
                      · exact absurd ⟨h, hl⟩ g
                    clear HQ2 g
                    go_wp2
                    go_meet
                    case rel => exact ⟨e, rfl, E, rfl⟩
                case rest =>
                  obtain ⟨G, rfl, HG, rfl⟩ := hcut
                  clear HQ2 BFa
                  go_upto_block 2 with fail
                  go_cut [16, 25, 26, 27] from 138 to 168 (fun f v _ _ wx => f = .int .i64 BF ∧ Hid (BF = 0 → wx.ownsRow w.heap.size 3 1 v BV.length (BV.map (Value.int .i64))) ∧ Hid (Below w.heap.size w wx))
                  case first =>
                    clear IN ER BI
                    by_cases hg : G = 0
                    · obtain ⟨hl, hBF, h8⟩ := HG.out.2 hg
                      subst hg
                      have HL := hide hl
                      have F0 : Hid (M.faultC ((kl ks).drop 0) = BF) := hBF.symm
                      have RB : Hid (BF = 0 → M.raw xs (kl ks) = BV) := fun h => by
                        rw [BVa.out.2 h]; exact M.raw_bins (by rw [kl_len]; exact hl) (by rw [← hBF]; exact h)
                      have RL := hide (M.raw_len xs (kl ks))
                      have RA := hide (M.raw_at xs (kl ks))
                      clear hl hBF HG BVa
                      generalize M.raw xs (kl ks) = Q at *
                      obtain ⟨i0, hi, hz0, hz1, hz2⟩ := info_parts info3
                      have I0 := hide hi
                      clear hi
                      go_wp2
                      go_loopw [16, 25, 26] (fun fv v i wr => ∃ (k : Nat) (f : Int), k ≤ xs.length ∧ i = .int .i64 k ∧ fv = .int .i64 f ∧ wr.ownsRow w.heap.size 3 1 v k ((Q.take k).map (Value.int .i64)) ∧ Below w.heap.size w wr ∧ Hid ((f = 0 → M.faultC ((kl ks).drop k) = BF) ∧ (f ≠ 0 → BF = f))) (fun _ _ i _ => xs.length - (intOf i).toNat)
                      case atStart => exact ⟨0, 0, Nat.zero_le _, rfl, rfl, World.ownsRow_nil _ _ _ _, K13.out, ⟨fun _ => F0.out, fun h => absurd rfl h⟩⟩
                      case round =>
                        clear F0
                        obtain ⟨k, f, hk, rfl, rfl, hown, hbl, I⟩ := hrel
                        by_cases hf : f = 0
                        · by_cases hlt : k < xs.length
                          · have I2 := hide (I.out.1 hf)
                            have t : (f == 0) = true := by rw [beq_iff_eq]; exact hf
                            clear I hf
                            have hkl : k < ks.length := by have := HL.out; omega
                            have hkl' : k < (kl ks).length := by rw [kl_len]; exact hkl
                            have hQl : k < Q.length := by rw [RL.out]; exact hlt
                            obtain ⟨rb, ro, rfl, hrb, hrc⟩ := (HA.out wr hbl).2 (by intro e; subst e; simp at hlt)
                            obtain ⟨kb, ko, rfl, hkb, hkc⟩ := (HC.out wr hbl).2.2 (by intro e; subst e; simp at hkl)
                            have RK := (HC.out wr hbl).2.1 _ (List.getElem_mem hkl)
                            have C1 : Hid (∀ W, Below wr.heap.size wr W → W.cell? ⟨rb, ro + k, none⟩ = some (.int .i64 xs[k])) := fun W hW => (hW.cell (p := ⟨rb, ro + k, none⟩) hrb).trans (Rd.at hrc k hlt)
                            have C2 : Hid (∀ W, Below wr.heap.size wr W → W.cell? ⟨kb, ko + k, none⟩ = some (.slice ks[k].1 ks[k].2.1.length ks[k].2.2)) := fun W hW => (hW.cell (p := ⟨kb, ko + k, none⟩) hkb).trans (hkc k hkl)
                            have c2 := C2.out wr (Below.refl _ _)
                            have klt : (k : Int) < (ks.length : Int) := by omega
                            have klt' : (k : Int) < (xs.length : Int) := by omega
                            have QK : Hid (Q.take (k + 1) = Q.take k ++ [M.rawB xs[k] ks[k].2.1]) := by
                              unfold Hid
                              rw [List.take_succ_eq_append_getElem hQl, RA.out k hlt hQl, List.getD, List.getElem?_eq_getElem hkl', kl_at ks k hkl]; rfl
                            have FN : Hid (∀ f', f' = M.cutsI ks[k].2.1 → (f' = 0 → M.faultC ((kl ks).drop (k + 1)) = BF) ∧ (f' ≠ 0 → BF = f')) := fun f' hf' => by
                              constructor
                              · intro h0; rw [← I2.out, M.fault_next hkl' (by rw [kl_at ks k hkl, ← hf']; exact h0)]
                              · intro h0; rw [← I2.out, M.fault_at hkl' (by rw [kl_at ks k hkl, ← hf']; exact h0), kl_at ks k hkl, hf']
                            have RC := hide (rcuts_any ks[k].1 ks[k].2.1 ks[k].2.2 wr RK)
                            have RB2 : Hid (∀ W, Below wr.heap.size wr W → Calls Tryz.prog 15 #[.slice ks[k].1 ks[k].2.1.length ks[k].2.2, .int .i64 xs[k]] W fun r w' => r = .returned (.int .i64 (M.binI ks[k].2.1 xs[k] : Nat)) ∧ w' = W) := fun W hW => rbin_any ks[k].1 ks[k].2.1 ks[k].2.2 xs[k] W (RK.below hW)
                            have RW1 : Hid (xs[k] = M.nilI → M.rawB xs[k] ks[k].2.1 = xs[k]) := fun h => by unfold M.rawB; rw [if_pos h, h]
                            have RW2 : Hid (xs[k] ≠ M.nilI → M.rawB xs[k] ks[k].2.1 = (M.binI ks[k].2.1 xs[k] : Nat)) := fun h => by unfold M.rawB; rw [if_neg h]
                            have HOw := hide hown
                            have F2 := hide (FN.out _ rfl)
                            have ql : (Q.take k).length = k := by rw [List.length_take, RL.out]; omega
                            clear hrc hkc RK hown I2 FN
                            generalize M.rawB xs[k] ks[k].2.1 = z at *
                            generalize M.binI ks[k].2.1 xs[k] = bn at *
                            generalize M.cutsI ks[k].2.1 = f' at *
                            generalize ks[k].2.1 = yl at *
                            generalize ks[k].1 = ka at *
                            generalize ks[k].2.2 = kc at *
                            generalize hy : xs[k] = y at *
                            clear hy
                            go_upto_if 158 with (go_at_call 14; refine RC.out.mono ?_; rintro r w20 ⟨rfl, hb20⟩; have c1 := C1.out w20 hb20; have c3 := C2.out w20 hb20)
                            have K20 := hide hb20
                            clear hb20
                            go_cut [27] from 157 to 164 (fun v wx => v = .int .i64 z ∧ wx = w20)
                            case first =>
                              by_cases hn : y = M.nilI
                              · have q : (y != -1125899906842624) = false := by rw [bne_eq_false_iff_eq]; exact hn
                                have E := hide (RW1.out hn)
                                clear hn
                                go_wp2
                                go_meet
                                case rel => exact ⟨by rw [E.out], rfl⟩
                              · have q : (y != -1125899906842624) = true := by rw [bne_iff_ne]; exact hn
                                have E := hide (RW2.out hn)
                                clear hn
                                go_wp2_with (go_at_call 15; refine (RB2.out _ K20.out).mono ?_; rintro r w21 ⟨rfl, rfl⟩)
                                go_meet
                                case rel => exact ⟨by rw [E.out], rfl⟩
                            case rest =>
                              obtain ⟨rfl, rfl⟩ := hcut
                              have k20 := below_on hbl K20.out
                              have kw20 : w.heap.size ≤ wc.heap.size := k20.size
                              clear RW1 RW2 RB2 RC C1 C2 c1 c2 c3
                              go_wp2_with (at_builtin; refine wpList_append_lies _ rfl (.tmp 165) (.tmp 167) 22 rfl w.heap.size 3 i0 (.int .i64 0) 1 8 Tryz.underlying22 I0.out hz0 hz1 hz2 rfl (by omega) u25 k ((Q.take k).map (Value.int .i64)) rfl ((own_up HOw.out K20.out).alloc _) ⟨wc.heap.size, 0, none⟩ 1 1 [.int .i64 z] rfl rfl (World.news_of_block (heap_alloc_new _ _)) (by simp [Value.oneCell']) (by omega) (by unfold maxLen; omega) (by omega) (by simp; omega) (wc.heap.size + 1) (by simp) ?_)
                              intro g3 cap3 w22 hov3 hgrow hat hlt3
                              have hb22 : Below w.heap.size w w22 := (k20.alloc k20.size _).grown hgrow (by simp; omega) (fun k hk => (HOw.out.lt k hk).1)
                              have HO3 : Hid (w22.ownsRow w.heap.size 3 1 (.slice (some ⟨g3, 0, none⟩) (k + 1) cap3) (k + 1) ((Q.take (k + 1)).map (Value.int .i64))) := by
                                unfold Hid; rw [QK.out, List.map_append, List.map_take]; exact hov3
                              clear hov3 hgrow hat
                              go_wp2
                              go_roundw
                              case rel => exact ⟨k + 1, f', by omega, by go_num, rfl, HO3.out, hb22, F2⟩
                              case measure => simp [intOf]; omega
                          · have hke : k = xs.length := by omega
                            have hB0 : BF = 0 := by rw [← I.out.1 hf]; exact M.fault_end (by rw [kl_len, HL.out]; omega)
                            have E : Hid (f = BF) := hf.trans hB0.symm
                            have HOw : Hid (BF = 0 → wr.ownsRow w.heap.size 3 1 u25 BV.length (BV.map (Value.int .i64))) := fun h => by
                              rw [← RB.out h, RL.out, ← hke]
                              have e : Q.take k = Q := List.take_of_length_le (by rw [RL.out]; omega)
                              rw [e] at hown; exact hown
                            have t : decide ((k : Int) < (xs.length : Int)) = false := decide_eq_false (by omega)
                            clear hown I hf hB0 hke
                            go_wp2
                            go_meet
                            case rel => exact ⟨by rw [E.out], HOw, hbl⟩
                        · have hB := I.out.2 hf
                          have t : (f == 0) = false := by rw [beq_eq_false_iff_ne]; exact hf
                          have E : Hid (f = BF) := hB.symm
                          have HOw : Hid (BF = 0 → wr.ownsRow w.heap.size 3 1 u25 BV.length (BV.map (Value.int .i64))) := fun h => absurd (hB.symm.trans h) hf
                          clear hown I hf hB
                          by_cases hlt : k < xs.length
                          · have t2 : decide ((k : Int) < (xs.length : Int)) = true := decide_eq_true (by omega)
                            go_wp2
                            go_meet
                            case rel => exact ⟨by rw [E.out], HOw, hbl⟩
                          · have t2 : decide ((k : Int) < (xs.length : Int)) = false := decide_eq_false (by omega)
                            go_wp2
                            go_meet
                            case rel => exact ⟨by rw [E.out], HOw, hbl⟩
                    · have hB := HG.out.1 hg
                      have t : (G == 0) = false := by rw [beq_eq_false_iff_ne]; exact hg
                      have E : Hid (G = BF) := hB.symm
                      have BZ : Hid (BF ≠ 0) := by rw [hB]; exact hg
                      clear hg hB HG
                      by_cases hn : 0 < xs.length
                      · have t2 : decide ((0 : Int) < (xs.length : Int)) = true := decide_eq_true (by omega)
                        go_wp2
                        refine wp_loop_rounds 1 ?_
                        rw [rounds_succ]
                        go_wp2
                        go_meet
                        case rel => exact ⟨by rw [E.out], fun h => absurd h BZ.out, K13⟩
                      · have hx : xs = [] := List.length_eq_zero_iff.1 (by omega)
                        subst hx
                        go_wp2
                        refine wp_loop_rounds 1 ?_
                        rw [rounds_succ]
                        go_wp2
                        go_meet
                        case rel => exact ⟨by rw [E.out], fun h => absurd h BZ.out, K13⟩
                  case rest =>
                    obtain ⟨rfl, HO, K14⟩ := hcut
                    clear HG
                    by_cases hB : BF = 0
                    · have t : (BF != 0) = false := by rw [bne_eq_false_iff_eq]; exact hB
                      obtain ⟨va, vc, rfl, RV, _⟩ := own_rd (HO.out hB)
                      have HRV := hide RV
                      clear hB HO RV BVa
                      go_wp2_with (first
                        | (go_at_call 16; refine (BI.out _ K14.out).mono ?_; rintro r w15 ⟨zg, zc, rfl, RZ, hb15⟩; have k15 := below_on K14.out hb15; have HRZ := hide RZ; clear RZ)
                        | (go_at_call 5; refine (ER.out _ _ k15).mono ?_; rintro r w16 ⟨rfl, hb16⟩; have k16 := below_on k15 hb16)
                        | (go_at_call 11; refine (IN.out _ _ _ _ _ _ (HRZ.out.below hb16) ((HRV.out.below hb15).below hb16)).mono ?_; rintro r w17 ⟨rfl, hb17⟩))
                      go_ret
                      exact ⟨rfl, below_on k16 hb17⟩
                    · have t : (BF != 0) = true := by rw [bne_iff_ne]; exact hB
                      have hV := BVa.out.1 hB
                      have IN0 : Hid (∀ ag cg W, Rd W ag BV → Calls Tryz.prog 11 #[.slice ag BV.length cg, .slice none 0 0] W fun r w' => r = .returned (.bool true) ∧ Below W.heap.size W w') := fun ag cg W hR => by
                        rw [hV] at hR ⊢
                        exact IN.out ag cg none 0 [] W hR ⟨Nat.zero_le _, fun h => absurd rfl h⟩
                      clear hB hV HO BVa IN
                      go_wp2_with (first
                        | (go_at_call 16; refine (BI.out _ K14.out).mono ?_; rintro r w15 ⟨zg, zc, rfl, RZ, hb15⟩; have k15 := below_on K14.out hb15; have HRZ := hide RZ; clear RZ)
                        | (go_at_call 5; refine (ER.out _ _ k15).mono ?_; rintro r w16 ⟨rfl, hb16⟩; have k16 := below_on k15 hb16)
                        | (go_at_call 11; refine (IN0.out _ _ _ (HRZ.out.below hb16)).mono ?_; rintro r w17 ⟨rfl, hb17⟩))
                      go_ret
                      exact ⟨rfl, below_on k16 hb17⟩

theorem error_same (c : Int) (w : World) (hg : Lays w) : Calls Tryz.prog 5 #[errV c, .int .i64 c] w fun e w' => e = .returned (.bool true) ∧ Below w.heap.size w w' := by
  have := error_any c c w hg
  rwa [show (c == c) = true by simp] at this

theorem texts_walk (a b c : Option Addr) (xs : List Int) (s : ByteArray) (ss : List M.Sp) (ks : List Kc) (ca cb cc : Nat) (w : World) (ha : Rd w a xs) (hb : RdS w b ss) (hc : RdK w c ks) (hs : s.size ≤ 2000000) (hL : Lies w) (hg : Lays w) :
    Calls Tryz.prog 3 #[.slice a xs.length ca, .string s, .slice b ss.length cb, .slice c ks.length cc] w fun e w' => e = .returned (.bool true) ∧ Below w.heap.size w w' :=
  texts_core a b c xs s ss ks ca cb cc w (M.rowF xs) (M.parseL s.data.toList).2 (M.fitF xs ss) (M.binsF xs (kl ks)) (bs (M.printL xs)) (M.parseL s.data.toList).1 (M.binsV xs (kl ks)) (M.fitV xs ss)
    (fun W hW => ha.below hW) (fun W hW => hb.below hW) (fun W hW => hc.below hW) ha.1 hb.1 hc.1
    (fun W hW => rrow_any a xs ca W (ha.below hW))
    (fun W hW => rcheck_any a xs ca W (ha.below hW))
    (fun c W hW => error_same c W (hg.below hW))
    (fun h W hW => by
      have := rshow_any a xs ca W (ha.below hW) h
      rwa [show M.showL xs = M.printL xs by unfold M.printL; rw [if_pos h]] at this)
    (fun h => by unfold M.printL; rw [if_neg h]; rfl)
    (fun W hW => print_any a xs ca W (ha.below hW) (hL.below hW))
    (fun W hW => readrow_any s W hs)
    (fun W hW => parse_any s W (by omega) (hL.below hW))
    (fun ag cg bg dg R W h1 h2 => by
      have := ints_any ag bg R R cg dg W h1 h2
      rwa [decide_eq_true rfl] at this)
    (fun W hW => fits_any a b xs ss ca cb W (ha.below hW) (hb.below hW))
    ⟨fun h => (M.fit_row h).1, fun h hl => (M.fit_len h hl).1, fun h hl => (M.fit_ok h hl).1⟩
    ⟨fun h => by unfold M.fitV; rw [if_neg h], fun h => by
      by_cases h0 : M.rowF xs = 0
      · by_cases hl : ss.length = xs.length
        · exact ⟨(M.fit_ok h0 hl).2, hl, ((M.row_ok xs).1 h0).1⟩
        · rw [(M.fit_len h0 hl).1] at h; cases h
      · rw [(M.fit_row h0).1] at h; exact absurd h h0⟩
    (fun W hW => bins_any a c xs ks ca cc W (ha.below hW) (hc.below hW))
    ⟨fun h => (M.bins_row h).1, fun h hl => (M.bins_shape h (by rw [kl_len]; exact hl)).1, fun h hl => ⟨M.bins_some h (by rw [kl_len]; exact hl), ((M.row_ok xs).1 h).1⟩⟩
    ⟨fun h => by unfold M.binsV; rw [if_neg h], fun h => by unfold M.binsV; rw [if_pos h]⟩

end Go.Proofs.YtihaphicidjooabGreatDoor
