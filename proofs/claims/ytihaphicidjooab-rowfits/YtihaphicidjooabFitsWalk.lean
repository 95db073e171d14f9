/-
  The law RowFits: for every row, every second row and every list of cuts it returns true.
-/
import Derived.Test.YtihaphicidjooabFitsMath
import Derived.Deep.Cut
import Derived.Deep.CutRange
import Derived.BigQuiet
import Derived.Deep.QuietTactic
namespace Go.Proofs.Ytihaphicidjooab
open Go.ChangeShapes Go.WideShapes Go.ChangeAt Go.RowKit Go.Shelf Go.Lib Go.Sort
set_option linter.unusedVariables false

theorem first_fits (w : World) (t t' : TypeId) :
    Calls Try.prog 7 #[.slice (some ⟨w.heap.size, 0, none⟩) 1 1, .slice (some ⟨w.heap.size + 1, 0, none⟩) 1 1] ((w.alloc (.cells #[.int .i64 3] t)).alloc (.cells #[.int .i64 3, .int .i64 3, .bool false] t')) fun e w' => e = .returned (.tuple #[.bool true, .nilIface]) ∧ Below w.heap.size w w' := by
  have hB0 : Below w.heap.size w ((w.alloc (.cells #[.int .i64 3] t)).alloc (.cells #[.int .i64 3, .int .i64 3, .bool false] t')) := ((Below.refl _ w).alloc (Nat.le_refl _) _).alloc (by simp) _
  have R1 : Rd ((w.alloc (.cells #[.int .i64 3] t)).alloc (.cells #[.int .i64 3, .int .i64 3, .bool false] t')) (some ⟨w.heap.size, 0, none⟩) [3] := (one_rd w 3 t).below ((Below.refl _ _).alloc (Nat.le_refl _) _)
  have R2 : RdS ((w.alloc (.cells #[.int .i64 3] t)).alloc (.cells #[.int .i64 3, .int .i64 3, .bool false] t')) (some ⟨w.heap.size + 1, 0, none⟩) [(3, 3, false)] := by
    refine ⟨by show 1 ≤ maxLen; unfold maxLen; decide, fun _ => ⟨w.heap.size + 1, 0, rfl, by simp, fun i hi => ?_⟩⟩
    have : i = 0 := by simp at hi; exact hi
    subst this
    have hb := heap_alloc_new (w.alloc (.cells #[.int .i64 3] t)) (.cells #[.int .i64 3, .int .i64 3, .bool false] t')
    rw [World.size_alloc] at hb
    exact ⟨by rw [cell_of_row _ _ _ _ _ _ hb]; rfl, by rw [cell_of_row _ _ _ _ _ _ hb]; rfl, by rw [cell_of_row _ _ _ _ _ _ hb]; rfl⟩
  have := fits_any _ _ [3] [(3, 3, false)] 1 1 _ R1 R2
  refine this.mono ?_
  rintro e w' ⟨rfl, hb⟩
  exact ⟨rfl, hB0.trans (hb.mono hB0.size)⟩

set_option maxHeartbeats 4000000 in
set_option maxRecDepth 10000 in
theorem fits_bad (a b c : Option Addr) (xs ys cs : List Int) (ca cb cc : Nat) (w : World) (ha : Rd w a xs) (h : M.rowF xs ≠ 0) :
    Calls Try.prog 4 #[.slice a xs.length ca, .slice b ys.length cb, .slice c cs.length cc] w fun e w' => e = .returned (.bool true) ∧ Below w.heap.size w w' := by
  have FI := hide (fun W => first_fits W 3 33)
  have CH : Hid (∀ W, Below w.heap.size w W → Calls Try.prog 8 #[.slice a xs.length ca] W fun e w' => e = .returned (.iface 41 (.int .i64 (M.rowF xs))) ∧ Below W.heap.size W w') := fun W hW => by
    have := rcheck_any a xs ca W (ha.below hW); rwa [err_some h] at this
  clear ha h
  generalize M.rowF xs = f at *
  go_enter Try.func4, Try.ntmps4
  go_wp2_with (first
    | (go_at_call 7; refine (FI.out _).mono ?_; rintro e w1 ⟨rfl, hb1⟩)
    | (go_at_call 8; refine (CH.out _ hb1).mono ?_; rintro e w2 ⟨rfl, hb2⟩))
  go_ret
  exact ⟨rfl, below_on hb1 hb2⟩

theorem own_up {w w' : World} {base n e size : Nat} {v : Value} {l : List Value} (h : w.ownsRow base e size v n l) (hb : Below w.heap.size w w') : w'.ownsRow base e size v n l := by
  refine ⟨h.1, ?_⟩
  rcases h.2 with h0 | ⟨g, cap, cur, hv, h1, h2, h3⟩
  · exact .inl h0
  · exact .inr ⟨g, cap, cur, hv, h1, (hb.block g (Array.getElem?_eq_some_iff.1 h2).1).trans h2, h3⟩

set_option maxHeartbeats 8000000 in
set_option maxRecDepth 10000 in
theorem fits_good (a b c : Option Addr) (xs ys cs : List Int) (ca cb cc : Nat) (w : World) (ha : Rd w a xs) (hb : Rd w b ys) (hc : Rd w c cs) (h : M.rowF xs = 0) :
    Calls Try.prog 4 #[.slice a xs.length ca, .slice b ys.length cb, .slice c cs.length cc] w fun e w' => e = .returned (.bool true) ∧ Below w.heap.size w w' := by
  have FI := hide (fun W => first_fits W 3 33)
  have CH : Hid (∀ W, Below w.heap.size w W → Calls Try.prog 8 #[.slice a xs.length ca] W fun e w' => e = .returned .nilIface ∧ Below W.heap.size W w') := fun W hW => by
    have := rcheck_any a xs ca W (ha.below hW); rwa [err_nil h] at this
  have l8 : xs.length ≤ 8 := ((M.row_ok xs).1 h).1
  have mb : ys.length ≤ 9223372036854775807 := hb.1
  have mc : cs.length ≤ 9223372036854775807 := hc.1
  have HA := hide ha
  have HB := hide hb
  have HC := hide hc
  have HR := hide h
  clear ha hb hc h
  obtain ⟨i0, hi, hz0, hz1, hz2⟩ := info_parts info33
  obtain ⟨i1, ji, jz0, jz1, jz2⟩ := info_parts info22
  have I0 := hide hi
  have I1 := hide ji
  go_enter Try.func4, Try.ntmps4
  go_wp2_with (first
    | (go_at_call 7; refine (FI.out _).mono ?_; rintro e w1 ⟨rfl, hb1⟩)
    | (go_at_call 8; refine (CH.out _ hb1).mono ?_; rintro e w2 ⟨rfl, hb2⟩))
  have k2 := below_on hb1 hb2
  clear hb1 hb2 FI CH
  go_loopw [9, 10, 11] (fun v u i wr => ∃ k : Nat, k ≤ xs.length ∧ i = .int .i64 k ∧ wr.ownsRow w.heap.size 33 3 v k (spCells ((xs.take k).map M.spOf)) ∧ wr.ownsRow w.heap.size 22 1 u k ((List.replicate k ((c, cs, cc) : Kc)).map kV) ∧ (v.ownBlock = none ∨ v.ownBlock ≠ u.ownBlock) ∧ Below w.heap.size w wr) (fun _ _ i _ => xs.length - (intOf i).toNat)
  case atStart => exact ⟨0, Nat.zero_le _, rfl, World.ownsRow_nil _ _ _ _, World.ownsRow_nil _ _ _ _, .inl rfl, k2⟩
  case round =>
    clear k2
    obtain ⟨k, hk, rfl, hov, hou, hne, hbl⟩ := hrel
    by_cases hlt : k < xs.length
    · obtain ⟨rb, ro, rfl, hrb, hrc⟩ := HA.out.2 (by intro e; subst e; simp at hlt)
      have hck := (hbl.cell (p := ⟨rb, ro + k, none⟩) hrb).trans (Rd.at hrc k hlt)
      have hrw : rb < wr.heap.size := Nat.lt_of_lt_of_le hrb hbl.size
      have HO := hide hov
      have HU := hide hou
      have HN := hide hne
      clear hrc hov hou hne
      generalize hy : xs[k] = y at *
      have HY := hide hy
      clear hy
      go_upto_if 52 with fail
      go_cut [] from 53 to 61 (fun wx => wx.heap.size = wr.heap.size + 1 ∧ wx.heap[wr.heap.size]? = some (.cells #[.int .i64 (M.spOf y).1, .int .i64 (M.spOf y).2.1, .bool (M.spOf y).2.2] 33 (0, 0)) ∧ Below wr.heap.size wr wx)
      case first =>
        by_cases hn : y = M.nilI
        · have q : (y != -1125899906842624) = false := by rw [bne_eq_false_iff_eq]; exact hn
          have E : Hid (M.spOf y = (1, 0, true)) := by unfold Hid M.spOf; rw [if_pos hn]
          clear hn
          go_wp2
          go_meet
          case rel => exact ⟨by simp, by rw [E.out]; exact heap_alloc_new _ _, (Below.refl _ _).alloc (Nat.le_refl _) _⟩
        · have q : (y != -1125899906842624) = true := by rw [bne_iff_ne]; exact hn
          have E : Hid (M.spOf y = (y, y, false)) := by unfold Hid M.spOf; rw [if_neg hn]
          clear hn
          go_wp2
          go_region
          all_goals go_wp2
          all_goals go_meet
          case rel => exact ⟨by simp, by rw [E.out]; exact heap_alloc_new wr (.cells #[.int .i64 y, .int .i64 y, .bool false] 33), ((Below.refl _ _).alloc (Nat.le_refl _) _).drew⟩
      case rest =>
        obtain ⟨hs, hbk, hbw⟩ := hcut
        have d0 := cell_of_row wc wr.heap.size 0 _ _ _ hbk
        have d1 := cell_of_row wc wr.heap.size 1 _ _ _ hbk
        have d2 := cell_of_row wc wr.heap.size 2 _ _ _ hbk
        simp at d0 d1 d2
        have hbc := below_on hbl hbw
        have HO2 : Hid (wc.ownsRow w.heap.size 33 3 u9 k (spCells ((xs.take k).map M.spOf))) := own_up HO.out hbw
        have HU2 : Hid (wc.ownsRow w.heap.size 22 1 u10 k ((List.replicate k ((c, cs, cc) : Kc)).map kV)) := own_up HU.out hbw
        have UL : Hid (∀ g, u10.ownBlock = some g → g < wr.heap.size) := fun g hg => (HU.out.lt g hg).2
        have VL : Hid (∀ g, u9.ownBlock = some g → w.heap.size ≤ g) := fun g hg => (HO.out.lt g hg).1
        have UL2 : Hid (∀ g, u10.ownBlock = some g → w.heap.size ≤ g) := fun g hg => (HU.out.lt g hg).1
        have HS := hide hs
        have hwc : w.heap.size ≤ wc.heap.size := hbc.size
        have hww : w.heap.size ≤ wr.heap.size := hbl.size
        clear hbk hbw hs HO HU
        have SPE : Hid (M.spOf y = M.spOf y) := rfl
        generalize hsp : M.spOf y = sp at *
        obtain ⟨lo, hi', nl⟩ := sp
        have HSP := hide hsp
        clear hsp SPE
        go_wp2_with (at_builtin; refine wpList_append_lies _ rfl (.tmp 62) (.tmp 64) 34 rfl w.heap.size 33 i0 (.agg #[.int .i64 0, .int .i64 0, .bool false]) 3 24 Try.underlying34 I0.out hz0 hz1 hz2 rfl (by omega) u9 k (spCells ((xs.take k).map M.spOf)) rfl (HO2.out.alloc _) ⟨wc.heap.size, 0, none⟩ 1 1 [.int .i64 lo, .int .i64 hi', .bool nl] rfl rfl (World.news_of_block (heap_alloc_new _ _)) (by simp [Value.oneCell']) (by omega) (by unfold maxLen; omega) (by omega) (by simp; omega) (wc.heap.size + 1) (by simp) ?_)
        intro g cap w3 hov3 hgrow hat hlt3
        have hb3 : Below w.heap.size w w3 := (hbc.alloc hbc.size _).grown hgrow (by simp; omega) (fun k hk => VL.out k hk)
        have hu3 : w3.ownsRow w.heap.size 22 1 u10 k ((List.replicate k ((c, cs, cc) : Kc)).map kV) := by
          refine (HU2.out.alloc _).kept hgrow ?_
          rcases HN.out with hn | hn
          · rw [hn]; cases u10.ownBlock with
            | none => exact .inl rfl
            | some x => exact .inr (by simp)
          · exact .inr fun e => hn e.symm
        have HG : Hid (some g ≠ u10.ownBlock) := fun e => by
          rcases hat with h4 | h4
          · rcases HN.out with hn | hn
            · rw [hn] at h4; cases h4
            · exact hn (h4.trans e)
          · have := UL.out g e.symm; have := HS.out; omega
        have hov4 : w3.ownsRow w.heap.size 33 3 (.slice (some ⟨g, 0, none⟩) (k + 1) cap) (k + 1) (spCells ((xs.take (k + 1)).map M.spOf)) := by
          rw [List.take_succ_eq_append_getElem hlt, List.map_append, List.map_singleton, spCells_snoc, HY.out, HSP.out, List.map_take]; exact hov3
        have HO3 := hide hov4
        have HU3 := hide hu3
        have hw3 : w.heap.size ≤ w3.heap.size := hb3.size
        clear hov3 hov4 hu3 hgrow hat d0 d1 d2 HO2 HU2
        go_wp2_with (at_builtin; refine wpList_append_lies _ rfl (.tmp 66) (.tmp 68) 36 rfl w.heap.size 22 i1 (.slice none 0 0) 1 24 Try.underlying36 I1.out jz0 jz1 jz2 rfl (by omega) u10 k ((List.replicate k ((c, cs, cc) : Kc)).map kV) rfl (HU3.out.alloc _) ⟨w3.heap.size, 0, none⟩ 1 1 [.slice c cs.length cc] rfl rfl (World.news_of_block (heap_alloc_new _ _)) (by simp [Value.oneCell']) (by omega) (by unfold maxLen; omega) (by omega) (by simp; omega) (w3.heap.size + 1) (by simp) ?_)
        intro g2 cap2 w4 hou4 hgrow2 hat2 hlt4
        have hb4 : Below w.heap.size w w4 := (hb3.alloc hb3.size _).grown hgrow2 (by simp; omega) (fun k hk => UL2.out k hk)
        have HO4 : Hid (w4.ownsRow w.heap.size 33 3 (.slice (some ⟨g, 0, none⟩) (k + 1) cap) (k + 1) (spCells ((xs.take (k + 1)).map M.spOf))) := (HO3.out.alloc _).kept hgrow2 (.inr HG.out)
        have HU4 : Hid (w4.ownsRow w.heap.size 22 1 (.slice (some ⟨g2, 0, none⟩) (k + 1) cap2) (k + 1) ((List.replicate (k + 1) ((c, cs, cc) : Kc)).map kV)) := by
          unfold Hid; rw [List.replicate_succ', List.map_append, List.map_replicate]; exact hou4
        have HN4 : Hid ((Value.slice (some ⟨g, 0, none⟩) (k + 1) cap).ownBlock = none ∨ (Value.slice (some ⟨g, 0, none⟩) (k + 1) cap).ownBlock ≠ (Value.slice (some ⟨g2, 0, none⟩) (k + 1) cap2).ownBlock) := .inr fun e => by
          have e' : some g = some g2 := e
          rcases hat2 with h4 | h4
          · exact HG.out (e'.trans h4.symm)
          · cases e'; omega
        clear hou4 hgrow2 hat2 HO3 HU3 HG HN
        go_wp2
        go_roundw
        case rel => exact ⟨k + 1, by omega, by go_num, HO4.out, HU4.out, HN4.out, hb4⟩
        case measure => simp [intOf]; omega
    · have hke : k = xs.length := by omega
      subst hke
      rw [List.take_length] at hov
      obtain ⟨la, lc, rfl, RS⟩ := own_rdS (by simp) (by unfold maxLen; omega) hov
      obtain ⟨ka, kc, rfl, RK⟩ := own_rdK (by simp) (by unfold maxLen; omega) (by intro q hq; rw [List.eq_of_mem_replicate hq]; exact HC.out.below hbl) hou
      clear hov hou hne hi hz0 hz1 hz2 ji jz0 jz1 jz2 I0 I1
      have F1 : Hid (∀ W, Below wr.heap.size wr W → Calls Try.prog 7 #[.slice a xs.length ca, .slice la xs.length lc] W fun e w' => e = .returned (.tuple #[.bool true, .nilIface]) ∧ Below W.heap.size W w') := fun W hW => by
        have := fits_any a la xs (xs.map M.spOf) ca lc W ((HA.out.below hbl).below hW) (RS.below hW)
        obtain ⟨e1, e2⟩ := M.fit_same xs xs HR.out rfl
        rw [e1, e2, err_nil rfl, List.length_map] at this
        simpa using this
      have F2 : Hid (M.rowF ys = 0 → ys.length = xs.length → ∀ W, Below wr.heap.size wr W → Calls Try.prog 7 #[.slice b ys.length cb, .slice la xs.length lc] W fun e w' => e = .returned (.tuple #[.bool (decide (ys = xs)), .nilIface]) ∧ Below W.heap.size W w') := fun h1 h2 W hW => by
        have := fits_any b la ys (xs.map M.spOf) cb lc W ((HB.out.below hbl).below hW) (RS.below hW)
        obtain ⟨e1, e2⟩ := M.fit_same xs ys h1 h2
        rw [e1, e2, err_nil rfl, List.length_map] at this
        exact this
      have C2 : Hid (∀ W, Below wr.heap.size wr W → Calls Try.prog 8 #[.slice b ys.length cb] W fun e w' => e = .returned (errV (M.rowF ys)) ∧ Below W.heap.size W w') := fun W hW => rcheck_any b ys cb W ((HB.out.below hbl).below hW)
      have IN : Hid (∀ W, Below wr.heap.size wr W → Calls Try.prog 9 #[.slice b ys.length cb, .slice a xs.length ca] W fun e w' => e = .returned (.bool (decide (ys = xs))) ∧ Below W.heap.size W w') := fun W hW => ints_any b a ys xs cb ca W ((HB.out.below hbl).below hW) ((HA.out.below hbl).below hW)
      have BI : Hid (∀ W, Below wr.heap.size wr W → Calls Try.prog 10 #[.slice a xs.length ca, .slice ka xs.length kc] W fun e w' => ∃ ag cg, e = .returned (.tuple #[.slice ag (M.binsV xs (List.replicate xs.length cs)).length cg, errV (M.binsF xs (List.replicate xs.length cs))]) ∧ Rd w' ag (M.binsV xs (List.replicate xs.length cs)) ∧ Below W.heap.size W w') := fun W hW => by
        have := bins_any a ka xs (List.replicate xs.length (c, cs, cc)) ca kc W ((HA.out.below hbl).below hW) (RK.below hW)
        rw [show kl (List.replicate xs.length (c, cs, cc)) = List.replicate xs.length cs by simp [kl], List.length_replicate] at this
        exact this
      have CC : Hid (∀ W, Below wr.heap.size wr W → Calls Try.prog 11 #[.slice c cs.length cc] W fun e w' => e = .returned (errV (M.cutsI cs)) ∧ Below W.heap.size W w') := fun W hW => check_any c cs cc W ((HC.out.below hbl).below hW)
      have RA : Hid (∀ W, Below wr.heap.size wr W → Rd W a xs) := fun W hW => (HA.out.below hbl).below hW
      clear RS RK HA HB HC
      go_upto_region 15 with (go_at_call 7; refine (F1.out _ (Below.refl _ _)).mono ?_; rintro e w5 ⟨rfl, hb5⟩)
      go_upto_region 17 with fail
      have K5 := hide hb5
      clear hb5 F1
      go_cut [91] from 82 to 91 (fun s wx => ∃ q : Bool, s = .bool q ∧ Hid (q = true → M.rowF ys = 0 ∧ ys.length = xs.length) ∧ Hid (Below wr.heap.size wr wx))
      case first =>
        by_cases hl : ys.length = xs.length
        · have q1 : ((ys.length : Int) == (xs.length : Int)) = true := by rw [beq_iff_eq]; omega
          have HL := hide hl
          clear hl
          by_cases hf : M.rowF ys = 0
          · have HF := hide hf
            rw [err_nil hf] at C2
            clear hf
            go_wp2_with (go_at_call 8; refine (C2.out _ K5.out).mono ?_; rintro e w6 ⟨rfl, hb6⟩)
            go_meet
            case rel => exact ⟨true, rfl, fun _ => ⟨HF.out, HL.out⟩, below_on K5.out hb6⟩
          · rw [err_some hf] at C2
            clear hf
            generalize M.rowF ys = f at *
            go_wp2_with (go_at_call 8; refine (C2.out _ K5.out).mono ?_; rintro e w6 ⟨rfl, hb6⟩)
            go_meet
            case rel => exact ⟨false, rfl, (fun h => by cases h), below_on K5.out hb6⟩
        · have q1 : ((ys.length : Int) == (xs.length : Int)) = false := by rw [beq_eq_false_iff_ne]; omega
          clear hl
          go_wp2
          go_meet
          case rel => exact ⟨false, rfl, (fun h => by cases h), K5.out⟩
      case rest =>
        obtain ⟨q, rfl, HQ, K6⟩ := hcut
        clear C2
        go_upto_if 91 with fail
        go_cut [13, 14, 15] from 92 to 107 (fun _ _ _ wx => Hid (Below wr.heap.size wr wx))
        case first =>
          cases q with
          | true =>
            obtain ⟨h1, h2⟩ := HQ.out rfl
            have F3 := hide (F2.out h1 h2)
            clear h1 h2 HQ F2
            generalize decide (ys = xs) = z at *
            have zz : (z != z) = false := by simp
            go_wp2_with (first
              | (go_at_call 7; refine (F3.out _ K6.out).mono ?_; rintro e w7 ⟨rfl, hb7⟩; have k7 := below_on K6.out hb7)
              | (go_at_call 9; refine (IN.out _ k7).mono ?_; rintro e w8 ⟨rfl, hb8⟩))
            go_meet
            case rel => exact below_on k7 hb8
          | false =>
            go_wp2
            go_meet
            case rel => exact K6
        case rest =>
          have K8 : Hid (Below wr.heap.size wr wc) := hcut
          clear hcut HQ K6 K5 F2 IN
          have BE := hide (M.bins_rep (c := cs) HR.out)
          have BV : Hid (M.binsF xs (List.replicate xs.length cs) = 0 → M.binsV xs (List.replicate xs.length cs) = M.bins xs (List.replicate xs.length cs)) := fun h => by unfold M.binsV; rw [if_pos h]
          have BL := hide (M.bins_len xs (List.replicate xs.length cs))
          have BA := hide (M.bins_rep_at xs cs)
          go_upto_region 23 with (go_at_call 10; refine (BI.out _ K8.out).mono ?_; rintro e w9 ⟨ag, cg, rfl, RB, hb9⟩)
          have k9 := below_on K8.out hb9
          have K9 := hide k9
          have RA9 := hide (RA.out _ k9)
          have HRB := hide RB
          have KW : Hid (Below w.heap.size w w9) := below_on hbl k9
          clear hb9 k9 RB K8 BI RA
          have e := BE.out
          generalize hF : M.binsF xs (List.replicate xs.length cs) = F at *
          generalize hV : M.binsV xs (List.replicate xs.length cs) = V at *
          generalize hB : M.bins xs (List.replicate xs.length cs) = B at *
          clear hF hV hB BE
          by_cases hz : F = 0
          · have e2 := BV.out hz
            subst e2
            rw [err_nil hz]
            have hcut : 0 < xs.length → M.cutsI cs = 0 := fun h => by rw [hz, if_neg (by omega)] at e; exact e.symm
            have HCU := hide hcut
            clear hcut e BV hz CC
            by_cases hx : xs = []
            · have hVe : V = [] := List.length_eq_zero_iff.1 (by rw [BL.out, hx]; rfl)
              subst hVe
              subst hx
              go_wp2
              refine wp_loop_rounds 1 ?_
              rw [rounds_succ]
              go_wp2
              go_ret
              exact ⟨rfl, KW.out⟩
            · have hp : 0 < xs.length := List.length_pos_iff.2 hx
              obtain ⟨rb, ro, rfl, hrb, hrc⟩ := RA9.out.2 hx
              obtain ⟨vb, vo, rfl, hvb, hvc⟩ := HRB.out.2 (by intro e; have := BL.out; rw [e] at this; simp at this; omega)
              have HRC := hide hrc
              have HVC := hide hvc
              have hcz := HCU.out hp
              have HCZ := hide hcz
              have LE : (V.length : Int) = (xs.length : Int) := by rw [BL.out]
              have LE' := hide LE
              have lv : V.length ≤ 8 := by rw [BL.out]; exact l8
              clear hrc hvc hcz HCU RA9 HRB hx LE
              go_wp2
              go_loopw [17] (fun i wl => ∃ k : Nat, k ≤ V.length ∧ i = .int .i64 k ∧ Below w9.heap.size w9 wl) (fun i _ => V.length - (intOf i).toNat)
              case atStart => exact ⟨0, Nat.zero_le _, rfl, Below.refl _ _⟩
              case round =>
                obtain ⟨k, hk, rfl, hbq⟩ := hrel
                by_cases hlt : k < V.length
                · have hlx : k < xs.length := by rw [← BL.out]; exact hlt
                  have c1 := (hbq.cell (p := ⟨vb, vo + k, none⟩) hvb).trans (Rd.at HVC.out k hlt)
                  have c2 := (hbq.cell (p := ⟨rb, ro + k, none⟩) hrb).trans (Rd.at HRC.out k hlx)
                  have hlx' : (k : Int) < (xs.length : Int) := by omega
                  rw [BA.out k hlx hlt] at c1
                  rcases M.binC_is (x := xs[k]) HCZ.out with ⟨h1, h2⟩ | ⟨h1, h2, h3⟩
                  · have q1 : (M.binC xs[k] cs == -1125899906842624) = true := by rw [beq_iff_eq]; exact h2
                    have q2 : (xs[k] == -1125899906842624) = true := by rw [beq_iff_eq]; exact h1
                    have q3 : (M.binC xs[k] cs != -1125899906842624) = false := by rw [bne_eq_false_iff_eq]; exact h2
                    clear h1 h2
                    generalize M.binC xs[k] cs = z at *
                    generalize xs[k] = y at *
                    go_wp2
                    go_quiet (fail)
                    go_wp2
                    go_roundw
                    case rel => exact ⟨k + 1, by omega, by go_num, by first | exact below_drew hbq _ hbq.size | exact hbq.drew | exact below_on hbq ⟨rfl, rfl, rfl, Nat.le_refl _, fun _ _ => rfl⟩⟩
                    case measure => simp [intOf]; omega
                  · have q1 : (M.binC xs[k] cs == -1125899906842624) = false := by rw [beq_eq_false_iff_ne]; omega
                    have q2 : (xs[k] == -1125899906842624) = false := by rw [beq_eq_false_iff_ne]; exact h1
                    have q3 : (M.binC xs[k] cs != -1125899906842624) = true := by rw [bne_iff_ne]; omega
                    have q4 : decide (M.binC xs[k] cs < 0) = false := decide_eq_false (by omega)
                    have q5 : decide ((cs.length : Int) < M.binC xs[k] cs) = false := decide_eq_false (by omega)
                    clear h1 h2 h3
                    generalize M.binC xs[k] cs = z at *
                    generalize xs[k] = y at *
                    go_wp2
                    go_quiet (fail)
                    go_wp2
                    go_roundw
                    case rel => exact ⟨k + 1, by omega, by go_num, by first | exact below_drew hbq _ hbq.size | exact hbq.drew | exact below_on hbq ⟨rfl, rfl, rfl, Nat.le_refl _, fun _ _ => rfl⟩⟩
                    case measure => simp [intOf]; omega
                · have q : ((V.length : Int) == (xs.length : Int)) = true := by rw [beq_iff_eq]; exact LE'.out
                  go_wp2
                  go_ret
                  exact ⟨rfl, below_on KW.out hbq⟩
          · have hp : 0 < xs.length := by
              rcases Nat.eq_zero_or_pos xs.length with h0 | h0
              · rw [if_pos h0] at e; exact absurd e hz
              · exact h0
            rw [if_neg (by omega)] at e
            rw [← e, err_some hz] at CC
            rw [err_some hz]
            clear e hz BV BL BA HRB RA9
            go_wp2_with (go_at_call 11; refine (CC.out _ K9.out).mono ?_; rintro e w10 ⟨rfl, hb10⟩)
            go_ret
            exact ⟨rfl, below_on KW.out hb10⟩

theorem fits_walk (a b c : Option Addr) (xs ys cs : List Int) (ca cb cc : Nat) (w : World) (ha : Rd w a xs) (hb : Rd w b ys) (hc : Rd w c cs) :
    Calls Try.prog 4 #[.slice a xs.length ca, .slice b ys.length cb, .slice c cs.length cc] w fun e w' => e = .returned (.bool true) ∧ Below w.heap.size w w' := by
  by_cases h : M.rowF xs = 0
  · exact fits_good a b c xs ys cs ca cb cc w ha hb hc h
  · exact fits_bad a b c xs ys cs ca cb cc w ha h

end Go.Proofs.Ytihaphicidjooab
