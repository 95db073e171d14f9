/-
  ShelfPlays' walk: package shelf's shelf and the reference's side by side.
-/
import Derived.Test.YtiggkjkjfnlfkaaGreatDoorRunP7
import Derived.Test.YtiggkjkjfnlfkaaGreatDoorRunP2
import Derived.Test.YtiggkjkjfnlfkaaGreatDoorRunS17
import Derived.Test.YtiggkjkjfnlfkaaGreatDoorRunS26
import Derived.Test.YtiggkjkjfnlfkaaGreatDoorRunS13
import Derived.BigQuiet
import Derived.Deep.Cut
import Derived.Deep.CutRange
import Derived.Deep.QuietTactic
import Derived.Deep.RegionLaw
import Derived.Deep.RegionHeld3
namespace Go.Proofs.YtiggkjkjfnlfkaaGreatDoor
open Go.ChangeShapes Go.WideShapes Go.ChangeAt Go.RowKit Go.Lib Go.Maps
set_option linter.unusedVariables false

theorem ciFree {W w : World} {f s : Nat} {T R : Nat → Nat} {S S' : M.Sh} (h : Side W w f T s R S S') {c : M.Ca} {a : Option Addr} {cap : Nat} (hc : CaIn W c a cap) : (c.bys ≠ [] → ∀ p, a = some p → T p.block = 0) ∧ (c.bys ≠ [] → ∀ p, a = some p → R p.block = 0) := by
  have key : c.bys ≠ [] → ∀ p, a = some p → p.block < W.heap.size := fun hne p hp => by
    obtain ⟨b, off, e, hl, _⟩ := hc.rd.2.2 hne
    rw [e] at hp
    cases hp
    exact hl
  refine ⟨fun hne p hp => ?_, fun hne p hp => ?_⟩
  · have := key hne p hp
    by_cases z : T p.block = 0
    · exact z
    · have := h.sh.tn _ z; omega
  · have := key hne p hp
    by_cases z : R p.block = 0
    · exact z
    · have := h.rn _ z; omega

set_option maxHeartbeats 64000000 in
set_option maxRecDepth 10000 in
theorem plays_walk (a : Option Addr) (l : List CaC) (ca : Nat) (nl : List Nat) (key num : Int) (W : World) (h : RdC W a l) (hn : isB nl) (hnl : nl.length ≤ 9223372036854775807) (hnum : I64 num) (hL : Lays W) :
    Calls Tryz.prog 3 #[.slice a l.length ca, .string (byStr nl), .int .i64 key, .int .i64 num] W fun e w' => e = .returned (.bool true) ∧ Below W.heap.size W w' := by
  have ll : l.length ≤ 9223372036854775807 := h.1
  have HC := hide h
  have HN := hide (And.intro hn hnl)
  have HM := hide hnum
  have ER : Hid (∀ c V, Below W.heap.size W V → Calls Tryz.prog 11 #[errV c, .int .i64 c] V fun e w' => e = .returned (.bool true) ∧ Below V.heap.size V w') := fun c V hV => by
    have := error_any c c V (hL.below hV)
    rwa [beq_self_eq_true] at this
  have NW := hide (sh_New W)
  clear h hL hn hnl hnum
  go_enter Tryz.func3, Tryz.ntmps3
  go_upto_region 2 with (go_at_call 8; refine NW.out.mono ?_; rintro e w1 ⟨f, T0, rfl, sa, bl, tn⟩; have H0 : Hid (Has W w1 f T0 M.sh0) := ⟨sa, bl, tn⟩; clear sa bl tn)
  clear NW
  go_upto_region 3 with fail
  have S1 := hide (Side.start H0.out)
  clear H0
  obtain ⟨w2, hw2⟩ : ∃ X, X = w1.alloc (.cells #[.int .i64 0, .slice none 0 0, .slice none 0 0] 29) := ⟨_, rfl⟩
  rw [← hw2] at S1 ⊢
  clear hw2
  generalize newR w1.heap.size = R0 at *
  generalize w1.heap.size = s at *
  go_wp2
  go_loopw [1, 11] (fun y1 y11 wr => ∃ (k : Nat) (nm : List Nat) (T R : Nat → Nat) (S : M.Sh), k ≤ l.length ∧ k ≤ 40 ∧ y1 = .string (byStr nm) ∧ y11 = .int .i64 k ∧ Hid (isB nm ∧ nm.length ≤ 9223372036854775807) ∧ Hid (Side W wr f T s R S S) ∧ Hid (S.idx ≤ k ∧ M.GG S)) (fun _ y11 _ => 40 - (intOf y11).toNat)
  case atStart => exact ⟨0, nl, T0, R0, M.sh0, Nat.zero_le _, by omega, rfl, rfl, HN, S1, ⟨Int.le_refl _, fun k hk => by simp [M.sh0] at hk⟩⟩
  case round =>
    clear S1 HN
    obtain ⟨k, nm, T, R, S, hk, hk40, rfl, rfl, HN, SD, SI⟩ := hrel
    by_cases hlt : k < l.length ∧ k < 40
    case neg =>
      have ways : (decide ((k : Int) < (l.length : Int)) = false ∧ decide (k < l.length) = false) ∨ (decide ((k : Int) < (l.length : Int)) = true ∧ decide (k < l.length) = true ∧ decide ((k : Int) < 40) = false ∧ decide (k < 40) = false) := by
        simp only [decide_eq_true_iff, decide_eq_false_iff_not]; omega
      have BL := hide SD.out.sh.bl
      clear hlt HC SD HN HM
      rcases ways with ⟨g1, g1'⟩ | ⟨g1, g1', g2, g2'⟩
      all_goals (
        go_wp2
        go_ret
        exact ⟨rfl, BL.out⟩)
    obtain ⟨hl1, hl2⟩ := hlt
    have g1 : decide ((k : Int) < (l.length : Int)) = true := decide_eq_true (by omega)
    have g2 : decide ((k : Int) < 40) = true := decide_eq_true (by omega)
    have g1' : decide (k < l.length) = true := decide_eq_true hl1
    have g2' : decide (k < 40) = true := decide_eq_true hl2
    have kz : (k : Int) < (l.length : Int) := by omega
    have mem : l.getD k ca0 ∈ l := by rw [List.getD, List.getElem?_eq_getElem hl1]; exact List.getElem_mem hl1
    have CI := hide (HC.out.2.1 _ mem)
    obtain ⟨bb, off, rfl, hbl, _⟩ := HC.out.2.2 (by intro e; rw [e] at hl1; simp at hl1)
    have CELLS : Hid (∀ w, Below W.heap.size W w → SevenAt w bb (off + k * 7) (l.getD k ca0)) := fun w hw => by
      obtain ⟨b2, o2, e2, _, hc2⟩ := (HC.out.below hw).2.2 (by intro e; rw [e] at hl1; simp at hl1)
      cases e2
      exact hc2 k hl1
    obtain ⟨fr1, fr2⟩ := ciFree SD.out CI.out
    have IX := SI.out.1
    have RD := hide (rDo rgrove_any SD.out.rf (CI.out.below SD.out.sh.bl) fr2 (by omega))
    have SH : Hid (∀ w R', Side W w f T s R' S (M.shDo S (l.getD k ca0).1).2.2 → Calls Tryz.prog 10 #[.pointer (some ⟨f, 0, none⟩), caV (l.getD k ca0).1 (l.getD k ca0).2.1 (l.getD k ca0).2.2] w fun e w' => e = .returned (.tuple #[anV (M.shDo S (l.getD k ca0).1).1, errV (M.shDo S (l.getD k ca0).1).2.1]) ∧ Left w f T (M.shDo S (l.getD k ca0).1).2.2 w') := fun w R' hw => sh_Do hw.sh.sa (CI.out.below hw.sh.bl) fr1 (by omega)
    have S2I : Hid ((M.shDo S (l.getD k ca0).1).2.2.idx ≤ (k : Int) + 1 ∧ M.GG (M.shDo S (l.getD k ca0).1).2.2) := by
      obtain ⟨mm, ml, D, E, kb, mb, va, vc, G, sv⟩ := SD.out.sh.sa
      have := (M.do_ok sv.inv.ok (l.getD k ca0).1).2.2.2
      exact ⟨by omega, M.gg_do SI.out.2 _⟩
    have NIN : Hid (isB (l.getD k ca0).1.name ∧ (l.getD k ca0).1.name.length ≤ 9223372036854775807) := ⟨CI.out.nb, CI.out.nl⟩
    obtain ⟨c0, c1, c2, c3, c4, c5, c6⟩ := CELLS.out wr SD.out.sh.bl
    clear mem fr1 fr2 CI SI IX HC
    unfold caV at RD SH
    unfold anV at RD SH
    generalize (M.shDo S (l.getD k ca0).1).2.2 = S2 at *
    generalize (M.shDo S (l.getD k ca0).1).2.1 = er at *
    generalize (M.shDo S (l.getD k ca0).1).1.num = an at *
    generalize (M.shDo S (l.getD k ca0).1).1.idx = ai at *
    generalize l.getD k ca0 = ck at *
    go_upto_region 7 with (go_at_call 9; refine RD.out.mono ?_; rintro e w3 ⟨rfl, lf⟩; obtain ⟨R3, s3⟩ := SD.out.rdo lf; have S3 := hide s3; clear lf s3)
    -- the reference has done it
    obtain ⟨w4, hw4⟩ : ∃ X, X = w3.alloc (.cells #[.int .i64 an, .int .i64 ai] 31) := ⟨_, rfl⟩
    rw [← hw4]
    have S4 : Hid (Side W w4 f T s R3 S S2) := by unfold Hid; rw [hw4]; exact S3.out.up ((Below.refl _ _).alloc (Nat.le_refl _) _)
    have A4 : Hid (Bx w4 w3.heap.size [.int .i64 an, .int .i64 ai]) := by unfold Hid; rw [hw4]; exact bx_new w3 _ _
    have T4 : Hid (T w3.heap.size = 0) := S3.out.sh.sa.lt (Nat.le_refl _)
    clear hw4 S3 RD SD c0 c1 c2 c3 c4 c5 c6
    generalize w3.heap.size = q12 at *
    obtain ⟨c0, c1, c2, c3, c4, c5, c6⟩ := CELLS.out w4 S4.out.sh.bl
    go_upto_region 8 with (go_at_call 10; refine (SH.out _ _ S4.out).mono ?_; rintro e w5 ⟨rfl, lf⟩; have k5 : w5.heap[q12]? = w4.heap[q12]? := (by obtain ⟨_, _, st, _⟩ := lf; exact st.block _ A4.out.lt (fun z => z T4.out)); obtain ⟨T5, s5⟩ := S4.out.sdo lf; have S5 := hide s5; clear lf s5)
    have A5 := hide (A4.out.keep k5)
    obtain ⟨w6, hw6⟩ : ∃ X, X = w5.alloc (.cells #[.int .i64 an, .int .i64 ai] 31) := ⟨_, rfl⟩
    rw [← hw6]
    have S6 : Hid (Side W w6 f T5 s R3 S2 S2) := by unfold Hid; rw [hw6]; exact S5.out.up ((Below.refl _ _).alloc (Nat.le_refl _) _)
    have A6 : Hid (Bx w6 q12 [.int .i64 an, .int .i64 ai]) := by unfold Hid; rw [hw6]; exact A5.out.keep (((Below.refl _ _).alloc (Nat.le_refl _) _).block _ A5.out.lt)
    have B6 : Hid (Bx w6 w5.heap.size [.int .i64 an, .int .i64 ai]) := by unfold Hid; rw [hw6]; exact bx_new w5 _ _
    clear hw6 S5 A5 A4 S4 SH T4 k5 c0 c1 c2 c3 c4 c5 c6
    generalize w5.heap.size = q14 at *
    have I9 : S2.idx ≤ 900 := by have := S2I.out.1; omega
    go_upto_region 10 with (first
      | (go_at_call 12; refine (vnsame_any av a2 (M.allS S2) cv c2 w9 (RV8.out.below B9.out) RV9.out).mono ?_; rintro e w10 ⟨rfl, b10⟩; have S10 := hide (S9.out.up b10); have B10 := hide b10; clear b10)
      | (go_at_call 14; refine (ra_all S8.out.rf I9).mono ?_; rintro e w9 ⟨a2, c2, rfl, rd, b9⟩; have S9 := hide (S8.out.up b9); have RV9 := hide rd; have B9 := hide b9; clear rd b9)
      | (go_at_call 13; refine (sh_All S7.out.sh.sa I9).mono ?_; rintro e w8 ⟨av, cv, rfl, rd, b8, _⟩; have S8 := hide (S7.out.up b8); have RV8 := hide rd; have B8 := hide b8; clear rd b8)
      | (go_at_call 11; refine (ER.out er w6 S6.out.sh.bl).mono ?_; rintro e w7 ⟨rfl, b7⟩; have S7 := hide (S6.out.up b7); have B7 := hide b7; clear b7))
    have BB := hide (below_on B7.out (below_on B8.out (below_on B9.out B10.out)))
    have AA := hide (A6.out.keep (BB.out.block _ A6.out.lt))
    have AB := hide (B6.out.keep (BB.out.block _ B6.out.lt))
    have a0 := AA.out.cell 0 _ rfl
    have a1 := AA.out.cell 1 _ rfl
    have b0 := AB.out.cell 0 _ rfl
    have b1 := AB.out.cell 1 _ rfl
    have x0 := S10.out.rf.idx
    have INX : Hid (∀ V, Below w10.heap.size w10 V → Calls Tryz.prog 15 #[.pointer (some ⟨f, 0, none⟩)] V fun e w' => e = .returned (.int .i64 S2.idx) ∧ w' = V) := fun V hV => sh_Index (S10.out.up hV).sh.sa
    clear S7 S8 S9 RV8 RV9 B7 B8 B9 B10 BB A6 B6 S6
    generalize hI : S2.idx = I at *
    have EI := hide hI
    clear hI
    go_cut [82] from 27 to 203 (fun v wx => v = .bool false ∧ Hid (Below w10.heap.size w10 wx))
    case first =>
      as_aux_lemma =>
      go_upto_region 10 with fail
      go_region_held3 (fun V => V.cell? ⟨q12, 0, none⟩ = some (.int .i64 an) ∧ V.cell? ⟨q12, 1, none⟩ = some (.int .i64 ai) ∧ V.cell? ⟨q14, 0, none⟩ = some (.int .i64 an) ∧ V.cell? ⟨q14, 1, none⟩ = some (.int .i64 ai) ∧ V.cell? ⟨s, 0, none⟩ = some (.int .i64 I)) (go_keep) (first | (go_at_call 15; refine (INX.out _ (by first | exact Below.refl _ _ | exact (Below.refl _ _).drew)).mono ?_; rintro e wq ⟨rfl, ew⟩; have ew2 := ew.symm; subst ew2))
      all_goals (
        go_wp2
        go_meet
        case rel => first | exact ⟨rfl, Below.refl _ _⟩ | exact ⟨rfl, (Below.refl _ _).drew⟩)
    case rest =>
    as_aux_lemma =>
    obtain ⟨rfl, B11⟩ := hcut
    clear INX a0 a1 b0 b1 x0 AA AB
    have S11 := hide (S10.out.up B11.out)
    clear S10 B11
    obtain ⟨wa, hwa⟩ : ∃ X, X = wc := ⟨_, rfl⟩
    subst hwa
    have c3 := (CELLS.out wa S11.out.sh.bl).2.2.2.1
    obtain ⟨nmk, hnmk⟩ : ∃ x, x = byStr ck.1.name := ⟨_, rfl⟩
    rw [← hnmk] at c3
    have HNM : Hid (nmk = byStr ck.1.name) := hnmk
    clear hnmk
    go_upto_if 89 with fail
    go_cut [1] from 27 to 203 (fun v wx => ∃ nl2 : List Nat, v = .string (byStr nl2) ∧ Hid (isB nl2 ∧ nl2.length ≤ 9223372036854775807) ∧ wx = wa)
    case first =>
      by_cases z : 0 < nmk.size
      · have t1 : decide (0 < (nmk.size : Int)) = true := decide_eq_true (by omega)
        have t2 : decide (0 < nmk.size) = true := decide_eq_true z
        go_wp2
        go_meet
        case rel => exact ⟨_, by rw [HNM.out], NIN, rfl⟩
      · have t1 : decide (0 < (nmk.size : Int)) = false := decide_eq_false (by omega)
        have t2 : decide (0 < nmk.size) = false := decide_eq_false z
        go_wp2
        go_meet
        case rel => exact ⟨_, rfl, HN, rfl⟩
    case rest =>
    as_aux_lemma =>
    obtain ⟨n, rfl, HB, ewr⟩ := hcut
    subst ewr
    obtain ⟨wo, hwo⟩ : ∃ X, X = wc := ⟨_, rfl⟩
    subst hwo
    clear HN NIN CELLS c3 HNM
    -- which one is picked
    have PK := hide (ra_pick S11.out.rf HB.out.1 key)
    go_upto_region 15 with (go_at_call 16; refine PK.out.mono ?_; rintro e wq ⟨rfl, ew⟩; have ew2 := ew.symm; subst ew2)
    have FAC : Hid (∀ V, Below wo.heap.size wo V → Side W V f T5 s R3 S2 S2) := fun V hV => S11.out.up hV
    go_upto_region 16 with fail
    obtain ⟨wb, hwb⟩ : ∃ X, X = wo.alloc (.cells #[.string ⟨#[]⟩, .int .i64 0, .int .i64 0, .int .i64 0] 49) := ⟨_, rfl⟩
    rw [← hwb]
    have S12 : Hid (Side W wb f T5 s R3 S2 S2) := by unfold Hid; rw [hwb]; exact FAC.out _ ((Below.refl _ _).alloc (Nat.le_refl _) _)
    have V12 : Hid (Bx wb wo.heap.size [.string ⟨#[]⟩, .int .i64 0, .int .i64 0, .int .i64 0]) := by unfold Hid; rw [hwb]; exact bx_new wo _ _
    have W12 : Hid (W.heap.size ≤ wo.heap.size) := S11.out.sh.bl.size
    have Q12 : Hid (T5 wo.heap.size = 0 ∧ R3 wo.heap.size = 0) := ⟨S11.out.sh.sa.lt (Nat.le_refl _), by
      by_cases z : R3 wo.heap.size = 0
      · exact z
      · have := S11.out.rf.lt z; omega⟩
    clear hwb FAC S11
    generalize wo.heap.size = qv at *
    have PUT : Hid (∀ V, Side W V f T5 s R3 S2 S2 → ∀ j v, Side W (V.setCell ⟨qv, j, none⟩ v) f T5 s R3 S2 S2) := fun V hV j v => hV.set W12.out Q12.out.1 Q12.out.2
    obtain ⟨vp, hvp⟩ : ∃ x, x = M.pickV S2 n key := ⟨_, rfl⟩
    obtain ⟨fp, hfp⟩ : ∃ x, x = M.pickF S2 n key := ⟨_, rfl⟩
    have SP : Hid (∀ V, Side W V f T5 s R3 S2 S2 → Calls Tryz.prog 17 #[.pointer (some ⟨f, 0, none⟩), .string (byStr n), .int .i64 key] V fun e w' => e = .returned (.tuple #[vnV vp, errV fp]) ∧ Below V.heap.size V w') := fun V hV => by rw [hvp, hfp]; exact sa_pick hV.sh.sa HB.out.1 HB.out.2 key
    have SL : Hid (∀ V, Side W V f T5 s R3 S2 S2 → Calls Tryz.prog 19 #[.pointer (some ⟨f, 0, none⟩), .string (byStr n)] V fun e w' => e = .returned (.tuple #[vnV (M.told S2 (M.atN S2 n 3)), errV (M.toldF (M.atN S2 n 3))]) ∧ Below V.heap.size V w') := fun V hV => sa_live hV.sh.sa HB.out.1 HB.out.2
    have SG : Hid (∀ V, Side W V f T5 s R3 S2 S2 → Calls Tryz.prog 21 #[.pointer (some ⟨f, 0, none⟩), .string (byStr n), .int .i64 num] V fun e w' => ∃ J : Gr, e = .returned (.tuple #[.agg #[.int .i64 J.f, .int .i64 J.w, .slice J.wa J.ws.length J.wc, .slice J.ta J.ks.length J.tc], errV (M.gE S2 n num)]) ∧ J.m = M.gM S2 n num ∧ RdG w' J ∧ Below V.heap.size V w') := fun V hV => sa_grove hV.sh.sa S2I.out.2 HB.out.1 HB.out.2 HM.out
    have RT : Hid (∀ V, Side W V f T5 s R3 S2 S2 → Calls Tryz.prog 18 #[.pointer (some ⟨s, 0, none⟩), .string (byStr n), .int .i64 3] V fun e w' => e = .returned (.int .i64 (optI (M.atN S2 n 3))) ∧ w' = V) := fun V hV => ra_at hV.rf HB.out.1 3
    have RV : Hid (∀ V, Side W V f T5 s R3 S2 S2 → Calls Tryz.prog 20 #[.pointer (some ⟨s, 0, none⟩), .string (byStr n), .int .i64 num] V fun e w' => e = .returned (.int .i64 (optI (M.verN S2 n num))) ∧ w' = V) := fun V hV => ra_ver hV.rf HB.out.1 num
    have SNE : s ≠ qv := fun e => by
      obtain ⟨la, lc, da, dc, G, rv⟩ := S12.out.rf
      have := rv.ts
      rw [e, Q12.out.2] at this
      cases this
    have ways := pick_ways S2 n key
    have i2 := S2I.out.1
    have S2J := hide S2I.out
    rw [← hvp, ← hfp] at ways
    rw [← hfp]
    clear hvp hfp PK Q12 W12 HM i2
    generalize M.pickI S2 n key = pi at *
    go_upto_if 103 with fail
    go_cut [13] from 27 to 203 (fun v wx => v = .int .i64 fp ∧ Hid (Side W wx f T5 s R3 S2 S2 ∧ Bx wx qv [.string (byStr vp.name), .int .i64 vp.num, .int .i64 vp.stage, .int .i64 vp.share]))
    case first =>
      rcases ways with ⟨z, kk, kl, ki, kv⟩ | ⟨z, kv⟩
      · have t1 : (fp == 0) = true := by rw [z]; rfl
        obtain ⟨b, lc, O, y1, ⟨d0, d1, d2, d3, _⟩, _, _, mxs, _⟩ := S12.out.rf.item kl
        have kz2 : (kk : Int) < (S2.l.length : Int) := by omega
        have x0 := V12.out.cell 0 _ rfl
        have x1 := V12.out.cell 1 _ rfl
        have x2 := V12.out.cell 2 _ rfl
        have x3 := V12.out.cell 3 _ rfl
        have f0 := V12.out.free 0
        have f1 := V12.out.free 1
        have f2 := V12.out.free 2
        have f3 := V12.out.free 3
        subst ki
        subst kv
        have FIN := hide (And.intro (PUT.out _ (PUT.out _ (PUT.out _ (PUT.out _ S12.out 0 (.string (byStr (vAt S2 kk).name))) 1 (.int .i64 (vAt S2 kk).num)) 2 (.int .i64 (vAt S2 kk).stage)) 3 (.int .i64 (vAt S2 kk).share)) (four_put (y0 := .string (byStr (vAt S2 kk).name)) (y1 := .int .i64 (vAt S2 kk).num) (y2 := .int .i64 (vAt S2 kk).stage) (y3 := .int .i64 (vAt S2 kk).share) V12.out))
        clear SP SL SG RT RV PUT V12 S12 S2J S2I HB
        generalize byStr (vAt S2 kk).name = sv at *
        generalize (vAt S2 kk).num = v1 at *
        generalize (vAt S2 kk).stage = v2 at *
        generalize (vAt S2 kk).share = v3 at *
        go_wp2
        go_meet
        case rel => exact ⟨rfl, FIN⟩
      · have t1 : (fp == 0) = false := by rw [beq_eq_false_iff_ne]; exact z
        subst kv
        have FIN := hide (And.intro S12.out V12.out)
        clear SP SL SG RT RV PUT V12 S12 S2J S2I HB
        go_wp2
        go_meet
        case rel => exact ⟨rfl, FIN⟩
    case rest =>
    as_aux_lemma =>
    obtain ⟨rfl, HX⟩ := hcut
    have S13 := hide HX.out.1
    have V13 := hide HX.out.2
    clear HX S12 V12 ways
    obtain ⟨wd, hwd⟩ : ∃ X, X = wc := ⟨_, rfl⟩
    subst hwd
    have SP2 := hide (SP.out wd S13.out)
    unfold vnV at SP2
    go_upto_region 19 with (go_at_call 17; refine SP2.out.mono ?_; rintro e we ⟨rfl, be⟩; have S14 := hide (S13.out.up be); have V14 := hide (V13.out.keep (be.block _ V13.out.lt)); clear be)
    obtain ⟨wf, hwf⟩ : ∃ X, X = we.alloc (.cells #[.string (byStr vp.name), .int .i64 vp.num, .int .i64 vp.stage, .int .i64 vp.share] 49) := ⟨_, rfl⟩
    rw [← hwf]
    have S15 : Hid (Side W wf f T5 s R3 S2 S2) := by unfold Hid; rw [hwf]; exact S14.out.up ((Below.refl _ _).alloc (Nat.le_refl _) _)
    have V15 : Hid (Bx wf qv [.string (byStr vp.name), .int .i64 vp.num, .int .i64 vp.stage, .int .i64 vp.share]) := by unfold Hid; rw [hwf]; exact V14.out.keep (((Below.refl _ _).alloc (Nat.le_refl _) _).block _ V14.out.lt)
    have P15 : Hid (Bx wf we.heap.size [.string (byStr vp.name), .int .i64 vp.num, .int .i64 vp.stage, .int .i64 vp.share]) := by unfold Hid; rw [hwf]; exact bx_new we _ _
    have W15 : Hid (W.heap.size ≤ we.heap.size) := S14.out.sh.bl.size
    have Q15 : Hid (T5 we.heap.size = 0 ∧ R3 we.heap.size = 0) := ⟨S14.out.sh.sa.lt (Nat.le_refl _), by
      by_cases z : R3 we.heap.size = 0
      · exact z
      · have := S14.out.rf.lt z; omega⟩
    have PQ : we.heap.size ≠ qv := by have := V14.out.lt; omega
    clear hwf S14 V14 SP SP2 S13 V13
    generalize we.heap.size = qp at *
    have PUTP : Hid (∀ V, Side W V f T5 s R3 S2 S2 → ∀ j v, Side W (V.setCell ⟨qp, j, none⟩ v) f T5 s R3 S2 S2) := fun V hV j v => hV.set W15.out Q15.out.1 Q15.out.2
    clear W15 Q15
    go_upto_region 20 with (go_at_call 11; refine (ER.out fp wf S15.out.sh.bl).mono ?_; rintro e wg ⟨rfl, bg⟩; have S16 := hide (S15.out.up bg); have V16 := hide (V15.out.keep (bg.block _ V15.out.lt)); have P16 := hide (P15.out.keep (bg.block _ P15.out.lt)); clear bg)
    clear S15 V15 P15
    have x0 := V16.out.cell 0 _ rfl
    have x1 := V16.out.cell 1 _ rfl
    have x2 := V16.out.cell 2 _ rfl
    have x3 := V16.out.cell 3 _ rfl
    have f0 := V16.out.free 0
    have f1 := V16.out.free 1
    have f2 := V16.out.free 2
    have f3 := V16.out.free 3
    have p0 := P16.out.cell 0 _ rfl
    have p1 := P16.out.cell 1 _ rfl
    have p2 := P16.out.cell 2 _ rfl
    have p3 := P16.out.cell 3 _ rfl
    generalize byStr vp.name = ps at *
    generalize vp.num = pn at *
    generalize vp.stage = pt at *
    generalize vp.share = pr at *
    obtain ⟨oa, hoa⟩ : ∃ x, x = M.atN S2 n 3 := ⟨_, rfl⟩
    have OA : Hid (∀ j, oa = some j → j < S2.l.length) := fun j hj => (M.at_is (by rw [← hoa]; exact hj)).1
    rw [← hoa] at RT SL
    clear hoa
    have RT2 := hide (RT.out wg S16.out)
    go_upto_if 134 with (go_at_call 18; refine RT2.out.mono ?_; rintro e wq ⟨rfl, ew⟩; have ew2 := ew.symm; subst ew2)
    obtain ⟨wh, hwh⟩ : ∃ X, X = (((wg.setCell ⟨qv, 0, none⟩ (.string ⟨#[]⟩)).setCell ⟨qv, 1, none⟩ (.int .i64 0)).setCell ⟨qv, 2, none⟩ (.int .i64 0)).setCell ⟨qv, 3, none⟩ (.int .i64 0) := ⟨_, rfl⟩
    rw [← hwh]
    have S17 : Hid (Side W wh f T5 s R3 S2 S2) := by unfold Hid; rw [hwh]; exact PUT.out _ (PUT.out _ (PUT.out _ (PUT.out _ S16.out 0 _) 1 _) 2 _) 3 _
    have V17 : Hid (Bx wh qv [.string ⟨#[]⟩, .int .i64 0, .int .i64 0, .int .i64 0]) := by unfold Hid; rw [hwh]; exact four_put V16.out
    have P17 : Hid (Bx wh qp [.string ps, .int .i64 pn, .int .i64 pt, .int .i64 pr]) := by unfold Hid; rw [hwh]; exact (((P16.out.else PQ).else PQ).else PQ).else PQ
    clear hwh x0 x1 x2 x3 f0 f1 f2 f3 p0 p1 p2 p3 S16 V16 P16 RT2 RT
    obtain ⟨lvp, hlv⟩ : ∃ x, x = M.told S2 oa := ⟨_, rfl⟩
    obtain ⟨lf, hlf⟩ : ∃ x, x = M.toldF oa := ⟨_, rfl⟩
    rw [← hlv, ← hlf] at SL
    obtain ⟨oi, hoi⟩ : ∃ x, x = optI oa := ⟨_, rfl⟩
    rw [← hoi]
    go_cut [13] from 27 to 203 (fun v wx => v = .int .i64 lf ∧ Hid (Side W wx f T5 s R3 S2 S2 ∧ Bx wx qv [.string (byStr lvp.name), .int .i64 lvp.num, .int .i64 lvp.stage, .int .i64 lvp.share] ∧ Bx wx qp [.string ps, .int .i64 pn, .int .i64 pt, .int .i64 pr]))
    case first =>
      cases oa with
      | none =>
        have elf : lf = 5 := hlf
        have eo : oi = -1 := hoi
        clear hoi
        subst eo
        subst elf hlv
        have FIN := hide (And.intro S17.out (And.intro V17.out P17.out))
        clear SL SG RV PUT PUTP V17 S17 P17 S2J S2I HB OA hlf
        go_wp2
        go_meet
        case rel => exact ⟨rfl, FIN⟩
      | some kk =>
        have elf : lf = 0 := hlf
        have kl := OA.out kk rfl
        obtain ⟨b, lc, O, y1, ⟨d0, d1, d2, d3, _⟩, _, _, mxs, _⟩ := S17.out.rf.item kl
        have kz2 : (kk : Int) < (S2.l.length : Int) := by omega
        have kn : ¬ ((kk : Int) < 0) := by omega
        have x0 := V17.out.cell 0 _ rfl
        have x1 := V17.out.cell 1 _ rfl
        have x2 := V17.out.cell 2 _ rfl
        have x3 := V17.out.cell 3 _ rfl
        have f0 := V17.out.free 0
        have f1 := V17.out.free 1
        have f2 := V17.out.free 2
        have f3 := V17.out.free 3
        have hlv' : lvp = vAt S2 kk := hlv
        have eo : oi = (kk : Int) := hoi
        clear hlv hlf hoi
        subst eo
        subst elf hlv'
        have FIN := hide (And.intro (PUT.out _ (PUT.out _ (PUT.out _ (PUT.out _ S17.out 0 (.string (byStr (vAt S2 kk).name))) 1 (.int .i64 (vAt S2 kk).num)) 2 (.int .i64 (vAt S2 kk).stage)) 3 (.int .i64 (vAt S2 kk).share)) (And.intro (four_put (y0 := .string (byStr (vAt S2 kk).name)) (y1 := .int .i64 (vAt S2 kk).num) (y2 := .int .i64 (vAt S2 kk).stage) (y3 := .int .i64 (vAt S2 kk).share) V17.out) ((((P17.out.else (j := 0) (v := .string (byStr (vAt S2 kk).name)) PQ).else (j := 1) (v := .int .i64 (vAt S2 kk).num) PQ).else (j := 2) (v := .int .i64 (vAt S2 kk).stage) PQ).else (j := 3) (v := .int .i64 (vAt S2 kk).share) PQ)))
        clear SL SG RV PUT PUTP V17 S17 P17 S2J S2I HB OA
        generalize byStr (vAt S2 kk).name = sv at *
        generalize (vAt S2 kk).num = v1 at *
        generalize (vAt S2 kk).stage = v2 at *
        generalize (vAt S2 kk).share = v3 at *
        go_wp2
        go_meet
        case rel => exact ⟨rfl, FIN⟩
    case rest =>
    as_aux_lemma =>
    obtain ⟨rfl, HX⟩ := hcut
    have S18 := hide HX.out.1
    have V18 := hide HX.out.2.1
    have P18 := hide HX.out.2.2
    clear HX S17 V17 P17 OA hlv hlf PUT hoi
    obtain ⟨wi, hwi⟩ : ∃ X, X = wc := ⟨_, rfl⟩
    subst hwi
    have SL2 := hide (SL.out wi S18.out)
    unfold vnV at SL2
    clear SL
    go_upto_region 29 with (go_at_call 19; refine SL2.out.mono ?_; rintro e wj ⟨rfl, bj⟩; have S19 := hide (S18.out.up bj); have V19 := hide (V18.out.keep (bj.block _ V18.out.lt)); have P19 := hide (P18.out.keep (bj.block _ P18.out.lt)); have y0 := P19.out.cell 0 _ rfl; have y1 := P19.out.cell 1 _ rfl; have y2 := P19.out.cell 2 _ rfl; have y3 := P19.out.cell 3 _ rfl; have h0 := P19.out.free 0; have h1 := P19.out.free 1; have h2 := P19.out.free 2; have h3 := P19.out.free 3; clear bj)
    generalize byStr lvp.name = ls at *
    generalize lvp.num = ln at *
    generalize lvp.stage = lt at *
    generalize lvp.share = lr at *
    have QP : qv ≠ qp := fun e => PQ e.symm
    obtain ⟨wk, hwk⟩ : ∃ X, X = (((wj.setCell ⟨qp, 0, none⟩ (.string ls)).setCell ⟨qp, 1, none⟩ (.int .i64 ln)).setCell ⟨qp, 2, none⟩ (.int .i64 lt)).setCell ⟨qp, 3, none⟩ (.int .i64 lr) := ⟨_, rfl⟩
    rw [← hwk]
    have S20 : Hid (Side W wk f T5 s R3 S2 S2) := by unfold Hid; rw [hwk]; exact PUTP.out _ (PUTP.out _ (PUTP.out _ (PUTP.out _ S19.out 0 _) 1 _) 2 _) 3 _
    have P20 : Hid (Bx wk qp [.string ls, .int .i64 ln, .int .i64 lt, .int .i64 lr]) := by unfold Hid; rw [hwk]; exact four_put P19.out
    have V20 : Hid (Bx wk qv [.string ls, .int .i64 ln, .int .i64 lt, .int .i64 lr]) := by unfold Hid; rw [hwk]; exact (((V19.out.else QP).else QP).else QP).else QP
    clear hwk y0 y1 y2 y3 h0 h1 h2 h3 S19 P19 V19 S18 V18 P18 SL2 PUTP
    go_upto_region 30 with (go_at_call 11; refine (ER.out lf wk S20.out.sh.bl).mono ?_; rintro e wl ⟨rfl, bl⟩; have S21 := hide (S20.out.up bl); have V21 := hide (V20.out.keep (bl.block _ V20.out.lt)); have P21 := hide (P20.out.keep (bl.block _ P20.out.lt)); clear bl)
    clear S20 V20 P20
    have x0 := V21.out.cell 0 _ rfl
    have x1 := V21.out.cell 1 _ rfl
    have x2 := V21.out.cell 2 _ rfl
    have x3 := V21.out.cell 3 _ rfl
    have p0 := P21.out.cell 0 _ rfl
    have p1 := P21.out.cell 1 _ rfl
    have p2 := P21.out.cell 2 _ rfl
    have p3 := P21.out.cell 3 _ rfl
    have RV2 := hide (RV.out wl S21.out)
    go_upto_region 35 with (go_at_call 20; refine RV2.out.mono ?_; rintro e wq ⟨rfl, ew⟩; have ew2 := ew.symm; subst ew2)
    obtain ⟨wm, hwm⟩ : ∃ X, X = wl.alloc (.cells #[.int .i64 0, .int .i64 0, .slice none 0 0, .slice none 0 0] 53) := ⟨_, rfl⟩
    rw [← hwm]
    have B22 : Hid (Below wl.heap.size wl wm) := by unfold Hid; rw [hwm]; exact (Below.refl _ _).alloc (Nat.le_refl _) _
    have S22 : Hid (Side W wm f T5 s R3 S2 S2) := S21.out.up B22.out
    have G22 : Hid (Bx wm wl.heap.size [.int .i64 0, .int .i64 0, .slice none 0 0, .slice none 0 0]) := by unfold Hid; rw [hwm]; exact bx_new wl _ _
    have W22 : Hid (W.heap.size ≤ wl.heap.size) := S21.out.sh.bl.size
    have Q22 : Hid (T5 wl.heap.size = 0 ∧ R3 wl.heap.size = 0) := ⟨S21.out.sh.sa.lt (Nat.le_refl _), by
      by_cases z : R3 wl.heap.size = 0
      · exact z
      · have := S21.out.rf.lt z; omega⟩
    have PUTG : Hid (∀ V, Side W V f T5 s R3 S2 S2 → ∀ j v, Side W (V.setCell ⟨wl.heap.size, j, none⟩ v) f T5 s R3 S2 S2) := fun V hV j v => hV.set W22.out Q22.out.1 Q22.out.2
    obtain ⟨vi, hvi⟩ : ∃ x, x = optI (M.verN S2 n num) := ⟨_, rfl⟩
    obtain ⟨ge, hge⟩ : ∃ x, x = M.gE S2 n num := ⟨_, rfl⟩
    obtain ⟨gm, hgm⟩ : ∃ x, x = M.gM S2 n num := ⟨_, rfl⟩
    obtain ⟨bq, hbq⟩ : ∃ x, x = (ge != 0) := ⟨_, rfl⟩
    have WY : (vi = -1 ∧ bq = true ∧ ge = 5 ∧ gm = gr0.m) ∨ (∃ kk : Nat, kk < S2.l.length ∧ vi = (kk : Int) ∧ (((vAt S2 kk).stage = 4 ∧ bq = true ∧ ge = 5 ∧ gm = gr0.m) ∨ ((vAt S2 kk).stage ≠ 4 ∧ bq = false ∧ ge = 0 ∧ gm = (S2.l.getD kk M.vg0).2))) := by
      rw [hbq, hvi, hge, hgm]
      unfold M.gE M.gM
      cases hv : M.verN S2 n num with
      | none => exact .inl ⟨rfl, rfl, rfl, rfl⟩
      | some kk =>
        obtain ⟨_, h1, _⟩ := M.find_more _ S2.l 0 kk hv
        rw [Nat.sub_zero] at h1
        refine .inr ⟨kk, h1, rfl, ?_⟩
        by_cases q : (vAt S2 kk).stage = 4
        · simp only [if_pos q]; exact .inl ⟨q, rfl, trivial, trivial⟩
        · simp only [if_neg q]; exact .inr ⟨q, rfl, trivial, trivial⟩
    rw [← hge, ← hgm] at SG
    rw [← hvi]
    clear hwm hvi hge hgm hbq x0 x1 x2 x3 p0 p1 p2 p3 RV RV2 V21 P21 W22 Q22
    go_cut [176] from 27 to 203 (fun v wx => v = .bool bq ∧ wx = wm)
    case first =>
      rcases WY with ⟨e1, e2, _, _⟩ | ⟨kk, kl, e1, w⟩
      · subst e1 e2
        clear SG PUTG G22 B22 S22 S21 S2J HB
        go_wp2
        go_meet
        case rel => exact ⟨rfl, rfl⟩
      · obtain ⟨b, lc, O, y1, ⟨_, _, d2, _⟩, _, _, mxs, _⟩ := S22.out.rf.item kl
        have kz2 : (kk : Int) < (S2.l.length : Int) := by omega
        have kn : ¬ ((kk : Int) < 0) := by omega
        subst e1
        rcases w with ⟨q, e2, _, _⟩ | ⟨q, e2, _, _⟩
        · rw [q] at d2
          subst e2
          clear SG PUTG G22 B22 S22 S21 S2J HB
          go_wp2
          go_meet
          case rel => exact ⟨rfl, rfl⟩
        · have t1 : ((vAt S2 kk).stage == 4) = false := by rw [beq_eq_false_iff_ne]; exact q
          subst e2
          clear SG PUTG G22 B22 S22 S21 S2J HB q
          generalize (vAt S2 kk).stage = sg at *
          go_wp2
          go_meet
          case rel => exact ⟨rfl, rfl⟩
    case rest =>
    as_aux_lemma =>
    obtain ⟨rfl, ewr⟩ := hcut
    subst ewr
    obtain ⟨wm2, hwm2⟩ : ∃ X, X = wc := ⟨_, rfl⟩
    subst hwm2
    go_upto_if 176 with fail
    go_cut [13] from 27 to 203 (fun v wx => v = .int .i64 ge ∧ ∃ O : Gr, Hid (Side W wx f T5 s R3 S2 S2) ∧ Hid (Bx wx wl.heap.size [.int .i64 O.f, .int .i64 O.w, .slice O.wa O.ws.length O.wc, .slice O.ta O.ks.length O.tc]) ∧ Hid (O.m = gm ∧ RdG wx O))
    case first =>
      have one : bq = true → ge = 5 → gm = gr0.m → Hid (∃ O : Gr, Hid (Side W wm2 f T5 s R3 S2 S2) ∧ Hid (Bx wm2 wl.heap.size [.int .i64 O.f, .int .i64 O.w, .slice O.wa O.ws.length O.wc, .slice O.ta O.ks.length O.tc]) ∧ Hid (O.m = gm ∧ RdG wm2 O)) := fun _ _ e4 => ⟨gr0, S22, G22, e4.symm, gr0_rd wm2⟩
      rcases WY with ⟨e1, e2, e3, e4⟩ | ⟨kk, kl, e1, w⟩
      · have FIN := one e2 e3 e4
        subst e1 e2 e3
        clear SG PUTG G22 B22 S22 S21 S2J HB one
        go_wp2
        go_meet
        case rel => exact ⟨rfl, FIN.out⟩
      · rcases w with ⟨q, e2, e3, e4⟩ | ⟨q, e2, e3, e4⟩
        · have FIN := one e2 e3 e4
          subst e1 e2 e3
          clear SG PUTG G22 B22 S22 S21 S2J HB one
          go_wp2
          go_meet
          case rel => exact ⟨rfl, FIN.out⟩
        · obtain ⟨b, lc, O, y1', ⟨_, _, _, _, d4', d5', d6', d7'⟩, om, ro, mxs, bl⟩ := S21.out.rf.item kl
          obtain ⟨la, lc2, da, dc, G, rv⟩ := S21.out.rf
          have sl : s < wl.heap.size := rv.tlt s (by rw [rv.ts]; decide)
          clear rv
          have y1 := (B22.out.cell (p := ⟨s, 1, none⟩) sl).trans y1'
          have d4 := (B22.out.cell (p := ⟨b, kk * 8 + 4, none⟩) bl).trans d4'
          have d5 := (B22.out.cell (p := ⟨b, kk * 8 + 5, none⟩) bl).trans d5'
          have d6 := (B22.out.cell (p := ⟨b, kk * 8 + 6, none⟩) bl).trans d6'
          have d7 := (B22.out.cell (p := ⟨b, kk * 8 + 7, none⟩) bl).trans d7'
          have kz2 : (kk : Int) < (S2.l.length : Int) := by omega
          have kn : ¬ ((kk : Int) < 0) := by omega
          have x0 := G22.out.cell 0 _ rfl
          have x1 := G22.out.cell 1 _ rfl
          have x2 := G22.out.cell 2 _ rfl
          have x3 := G22.out.cell 3 _ rfl
          have f0 := G22.out.free 0
          have f1 := G22.out.free 1
          have f2 := G22.out.free 2
          have f3 := G22.out.free 3
          subst e1 e2 e3
          have b4 : Below wl.heap.size wl ((((wm2.setCell ⟨wl.heap.size, 0, none⟩ (.int .i64 O.f)).setCell ⟨wl.heap.size, 1, none⟩ (.int .i64 O.w)).setCell ⟨wl.heap.size, 2, none⟩ (.slice O.wa O.ws.length O.wc)).setCell ⟨wl.heap.size, 3, none⟩ (.slice O.ta O.ks.length O.tc)) := (((B22.out.setCell (Nat.le_refl _) _).setCell (Nat.le_refl _) _).setCell (Nat.le_refl _) _).setCell (Nat.le_refl _) _
          have FIN : Hid (∃ O' : Gr, Hid (Side W ((((wm2.setCell ⟨wl.heap.size, 0, none⟩ (.int .i64 O.f)).setCell ⟨wl.heap.size, 1, none⟩ (.int .i64 O.w)).setCell ⟨wl.heap.size, 2, none⟩ (.slice O.wa O.ws.length O.wc)).setCell ⟨wl.heap.size, 3, none⟩ (.slice O.ta O.ks.length O.tc)) f T5 s R3 S2 S2) ∧ Hid (Bx ((((wm2.setCell ⟨wl.heap.size, 0, none⟩ (.int .i64 O.f)).setCell ⟨wl.heap.size, 1, none⟩ (.int .i64 O.w)).setCell ⟨wl.heap.size, 2, none⟩ (.slice O.wa O.ws.length O.wc)).setCell ⟨wl.heap.size, 3, none⟩ (.slice O.ta O.ks.length O.tc)) wl.heap.size [.int .i64 O'.f, .int .i64 O'.w, .slice O'.wa O'.ws.length O'.wc, .slice O'.ta O'.ks.length O'.tc]) ∧ Hid (O'.m = gm ∧ RdG ((((wm2.setCell ⟨wl.heap.size, 0, none⟩ (.int .i64 O.f)).setCell ⟨wl.heap.size, 1, none⟩ (.int .i64 O.w)).setCell ⟨wl.heap.size, 2, none⟩ (.slice O.wa O.ws.length O.wc)).setCell ⟨wl.heap.size, 3, none⟩ (.slice O.ta O.ks.length O.tc)) O')) := ⟨O, PUTG.out _ (PUTG.out _ (PUTG.out _ (PUTG.out _ S22.out 0 _) 1 _) 2 _) 3 _, four_put G22.out, om.trans e4.symm, ro.below b4⟩
          clear SG PUTG G22 B22 S22 S21 S2J HB one q e4 om ro b4 y1' d4' d5' d6' d7' bl sl
          go_wp2
          go_meet
          case rel => exact ⟨rfl, FIN.out⟩
    case rest =>
    as_aux_lemma =>
    obtain ⟨rfl, O, S23, G23, O23⟩ := hcut
    clear WY S22 G22 B22 S21 PUTG
    obtain ⟨wn, hwn⟩ : ∃ X, X = wc := ⟨_, rfl⟩
    subst hwn
    generalize wl.heap.size = qg at *
    have SG2 := hide (SG.out wn S23.out)
    clear SG
    go_upto_region 39 with (go_at_call 21; refine SG2.out.mono ?_; rintro e wp ⟨J, rfl, jm, rj, bp⟩; have JM := hide jm; have RJ := hide rj; have S24 := hide (S23.out.up bp); have G24 := hide (G23.out.keep (bp.block _ G23.out.lt)); have RO := hide (O23.out.2.below bp); clear jm rj bp)
    obtain ⟨wq, hwq⟩ : ∃ X, X = wp.alloc (.cells #[.int .i64 J.f, .int .i64 J.w, .slice J.wa J.ws.length J.wc, .slice J.ta J.ks.length J.tc] 53) := ⟨_, rfl⟩
    rw [← hwq]
    have B25 : Hid (Below wp.heap.size wp wq) := by unfold Hid; rw [hwq]; exact (Below.refl _ _).alloc (Nat.le_refl _) _
    have S25 : Hid (Side W wq f T5 s R3 S2 S2) := S24.out.up B25.out
    have J25 : Hid (Bx wq wp.heap.size [.int .i64 J.f, .int .i64 J.w, .slice J.wa J.ws.length J.wc, .slice J.ta J.ks.length J.tc]) := by unfold Hid; rw [hwq]; exact bx_new wp _ _
    have G25 := hide (G24.out.keep (B25.out.block _ G24.out.lt))
    have RJ5 := hide (RJ.out.below B25.out)
    have RO5 := hide (RO.out.below B25.out)
    clear hwq S24 G24 RJ RO B25 S23 G23 SG2
    generalize wp.heap.size = qo at *
    go_upto_region 40 with (go_at_call 11; refine (ER.out ge wq S25.out.sh.bl).mono ?_; rintro e wt ⟨rfl, bt⟩; have S26 := hide (S25.out.up bt); have G26 := hide (G25.out.keep (bt.block _ G25.out.lt)); have J26 := hide (J25.out.keep (bt.block _ J25.out.lt)); have RJ6 := hide (RJ5.out.below bt); have RO6 := hide (RO5.out.below bt); clear bt)
    have GS := hide (grovesame_any J O wt RJ6.out RO6.out (JM.out.trans O23.out.1.symm))
    unfold Gr.v at GS
    have j0 := J26.out.cell 0 _ rfl
    have j1 := J26.out.cell 1 _ rfl
    have j2 := J26.out.cell 2 _ rfl
    have j3 := J26.out.cell 3 _ rfl
    have x0 := G26.out.cell 0 _ rfl
    have x1 := G26.out.cell 1 _ rfl
    have x2 := G26.out.cell 2 _ rfl
    have x3 := G26.out.cell 3 _ rfl
    clear S25 G25 J25 RJ5 RO5 G26 J26 RJ6 RO6 JM O23
    go_wp2_with (go_at_call 22; refine GS.out.mono ?_; rintro e wz ⟨rfl, bz⟩; have S27 := hide (S26.out.up bz); clear bz)
    have DONE : Hid (S2.idx ≤ ((k + 1 : Nat) : Int) ∧ M.GG S2) := by
      have := S2J.out
      refine ⟨?_, this.2⟩
      rw [EI.out]
      have := this.1
      omega
    go_roundw
    case rel => exact ⟨k + 1, n, T5, R3, S2, by omega, by omega, rfl, by go_num, HB, S27, DONE⟩
    case measure => simp [intOf]; omega

end Go.Proofs.YtiggkjkjfnlfkaaGreatDoor
