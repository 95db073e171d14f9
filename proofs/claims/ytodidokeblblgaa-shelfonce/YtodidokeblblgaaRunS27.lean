/-
  Several texts as one: ShOnce, OnceAll.
-/
import Derived.Test.YtodidokeblblgaaRunS23
import Derived.Test.YtodidokeblblgaaRunS26
import Derived.Test.YtodidokeblblgaaRunS13
import Derived.BigQuiet
import Derived.Deep.CutBlock
import Derived.Deep.QuietTactic
import Derived.Test.YtodidokeblblgaaRunS16
namespace Go.Proofs.Ytodidokeblblgaa
open Go.ChangeShapes Go.WideShapes Go.ChangeAt Go.RowKit Go.Lib Go.Maps
set_option linter.unusedVariables false
theorem eql_nil (b : Int) : ∃ q : Bool, (q = true ↔ b = 0) ∧ ∀ V : World, (binOp .eql 29 (errV b) .nilIface).run Try.prog V = .ok (.bool q) V := by
  by_cases h : b = 0
  · refine ⟨true, ⟨fun _ => h, fun _ => rfl⟩, fun V => ?_⟩
    rw [err_nil h]
    simp [go_sem, Try.underlying29]
  · refine ⟨false, ⟨(fun z => by cases z), fun z => absurd z h⟩, fun V => ?_⟩
    rw [err_some h]
    simp [go_sem, Try.underlying29]

set_option maxHeartbeats 32000000 in
set_option maxRecDepth 10000 in
theorem once_walk (a : Option Addr) (l : List CaC) (ca : Nat) (b : Option Addr) (m cb : Nat) (W : World) (h : RdC W a l) (hm : m ≤ 9223372036854775807) :
    Calls Try.prog 3 #[.slice a l.length ca, .slice b m cb] W fun e w' => e = .returned (.bool true) ∧ Below W.heap.size W w' := by
  have ll : l.length ≤ 9223372036854775807 := h.1
  have HC := hide h
  have NW := hide (sh_New W)
  clear h
  go_enter Try.func3, Try.ntmps3
  go_wp2_with (go_at_call 4; refine NW.out.mono ?_; rintro e w1 ⟨f, T0, rfl, sa, bl, tn⟩; have H0 : Hid (Has W w1 f T0 M.sh0) := ⟨sa, bl, tn⟩; clear sa bl tn)
  clear NW
  go_loopw [6] (fun i wr => ∃ (k : Nat) (T : Nat → Nat) (S : M.Sh), k ≤ l.length ∧ k ≤ 30 ∧ i = .int .i64 k ∧ Hid (Has W wr f T S) ∧ Hid (S.idx ≤ k)) (fun i _ => 30 - (intOf i).toNat)
  case atStart => exact ⟨0, T0, M.sh0, Nat.zero_le _, by omega, rfl, H0, Int.le_refl _⟩
  case round =>
    obtain ⟨k, T, S, hk, hk30, rfl, HH, HX⟩ := hrel
    clear H0
    by_cases hlt : k < l.length ∧ k < 30
    case neg =>
      have ways : (decide ((k : Int) < (l.length : Int)) = false ∧ decide (k < l.length) = false) ∨ (decide ((k : Int) < (l.length : Int)) = true ∧ decide (k < l.length) = true ∧ decide ((k : Int) < 30) = false ∧ decide (k < 30) = false) := by
        simp only [decide_eq_true_iff, decide_eq_false_iff_not]; omega
      have IX := hide (sh_Index HH.out.sa)
      have le : decide (S.idx ≤ (l.length : Int)) = true := decide_eq_true (by have := HX.out; omega)
      have BL := hide HH.out.bl
      clear hlt HC
      generalize S.idx = I at *
      rcases ways with ⟨g1, g1'⟩ | ⟨g1, g1', g2, g2'⟩
      all_goals (
        go_wp2_with (go_at_call 6; refine IX.out.mono ?_; rintro e w2 ⟨rfl, ew⟩; have ew2 := ew.symm; subst ew2)
        go_ret
        exact ⟨by first | rfl | (rw [le]; rfl) | simp [le], BL.out⟩)
    obtain ⟨hl1, hl2⟩ := hlt
    have g1 : decide ((k : Int) < (l.length : Int)) = true := decide_eq_true (by omega)
    have g2 : decide ((k : Int) < 30) = true := decide_eq_true (by omega)
    have g1' : decide (k < l.length) = true := decide_eq_true hl1
    have g2' : decide (k < 30) = true := decide_eq_true hl2
    have kz : (k : Int) < (l.length : Int) := by omega
    obtain ⟨bb, off, rfl, hbl, hce⟩ := (HC.out.below HH.out.bl).2.2 (by intro e; rw [e] at hl1; simp at hl1)
    have mem : l.getD k ca0 ∈ l := by rw [List.getD, List.getElem?_eq_getElem hl1]; exact List.getElem_mem hl1
    have CI := hide (HC.out.2.1 _ mem)
    obtain ⟨c0, c1, c2, c3, c4, c5, c6⟩ := hce k hl1
    have idx0 := HX.out
    have DO := hide (HH.out.doIt CI.out (by omega))
    obtain ⟨mm, ml, D, E, kb, mb, va, vc, G, sv⟩ := HH.out.sa
    have OKS := hide (M.do_ok sv.inv.ok (l.getD k ca0).1)
    have AG := hide (M.sh_again S (l.getD k ca0).1)
    clear sv hce mem
    unfold caV at DO
    have ED : Hid (∀ x, x = M.shDo S (l.getD k ca0).1 → True) := fun _ _ => trivial
    obtain ⟨q, qz, hev⟩ := eql_nil (M.shDo S (l.getD k ca0).1).2.1
    have QZ := hide qz
    have HEV := hide hev
    clear qz hev ED
    generalize hS1 : (M.shDo S (l.getD k ca0).1).2.2 = S1 at *
    generalize hev' : errV (M.shDo S (l.getD k ca0).1).2.1 = ev at *
    have EV := hide hev'
    have WY : Hid ((ev = .nilIface ∧ (M.shDo S (l.getD k ca0).1).2.1 = 0) ∨ ∃ x, ev = .iface 67 (.int .i64 x)) := by
      unfold Hid
      rw [← hev']
      by_cases z : (M.shDo S (l.getD k ca0).1).2.1 = 0
      · exact .inl ⟨err_nil z, z⟩
      · exact .inr ⟨_, err_some z⟩
    clear hev'
    have EA : Hid (anV (M.shDo S (l.getD k ca0).1).1 = .agg #[.int .i64 (M.shDo S (l.getD k ca0).1).1.num, .int .i64 (M.shDo S (l.getD k ca0).1).1.idx]) := rfl
    rw [EA.out] at DO
    have OK1 : Hid (((M.shDo S (l.getD k ca0).1).2.1 = 0 → 1 ≤ (M.shDo S (l.getD k ca0).1).1.idx ∧ (M.shDo S (l.getD k ca0).1).1.idx ≤ S1.idx) ∧ S1.idx ≤ S.idx + 1) := ⟨OKS.out.2.1, OKS.out.2.2.2⟩
    -- said again it is answered as it was
    have AGD : Hid (∀ (w : World) (T' : Nat → Nat), Has W w f T' S1 → Calls Try.prog 5 #[.pointer (some ⟨f, 0, none⟩), .agg #[.int .i64 (l.getD k ca0).1.what, .int .i64 (l.getD k ca0).1.ses, .int .i64 (l.getD k ca0).1.seq, .string (byStr (l.getD k ca0).1.name), .int .i64 (l.getD k ca0).1.num, .int .i64 (l.getD k ca0).1.share, .slice (l.getD k ca0).2.1 (l.getD k ca0).1.bys.length (l.getD k ca0).2.2]] w fun e w' => e = .returned (.tuple #[.agg #[.int .i64 (M.shDo S (l.getD k ca0).1).1.num, .int .i64 (M.shDo S (l.getD k ca0).1).1.idx], ev]) ∧ ∃ T2, Has W w' f T2 S1 ∧ (∀ q, q < w.heap.size → T' q = 0 → T2 q = 0 ∧ w'.heap[q]? = w.heap[q]?) ∧ w.heap.size ≤ w'.heap.size) := fun w T' hw => by
      have d := hw.doIt CI.out (by have := OK1.out.2; omega)
      rw [AG.out] at d
      rw [← EV.out]
      exact d
    have CELLS : Hid (∀ w, Below W.heap.size W w → SevenAt w bb (off + k * 7) (l.getD k ca0)) := fun w hw => by
      obtain ⟨b2, o2, e2, _, hc2⟩ := (HC.out.below hw).2.2 (by intro e; rw [e] at hl1; simp at hl1)
      cases e2
      exact hc2 k hl1
    have ALL : Hid (∀ (w : World) (T' : Nat → Nat), Has W w f T' S1 → Calls Try.prog 7 #[.pointer (some ⟨f, 0, none⟩)] w fun e w' => ∃ a cap, e = .returned (.slice a (M.allS S1).length cap) ∧ RdV w' a (M.allS S1) ∧ Below w.heap.size w w' ∧ ∀ p, a = some p → w.heap.size ≤ p.block ∧ p.block < w'.heap.size) := fun w T' hw => sh_All hw.sa (by have := OK1.out.2; omega)
    have INX : Hid (∀ (w : World) (T' : Nat → Nat), Has W w f T' S1 → Calls Try.prog 6 #[.pointer (some ⟨f, 0, none⟩)] w fun e w' => e = .returned (.int .i64 S1.idx) ∧ w' = w) := fun w T' hw => sh_Index hw.sa
    have ONE : Hid (∀ w T', Has W w f T' S1 → (∀ i j, i < j → j < (M.allS S1).length → ¬ ((M.vAtL (M.allS S1) i).name = (M.vAtL (M.allS S1) j).name ∧ (M.vAtL (M.allS S1) i).stage = (M.vAtL (M.allS S1) j).stage ∧ ((M.vAtL (M.allS S1) i).stage = 3 ∨ (M.vAtL (M.allS S1) i).stage = 2))) ∧ (∀ i, i < (M.allS S1).length → (0 < (M.vAtL (M.allS S1) i).share ↔ (M.vAtL (M.allS S1) i).stage = 2)) ∧ ∀ i, i < (M.allS S1).length → isB (M.vAtL (M.allS S1) i).name) := fun w T' hw => by
      obtain ⟨mm, ml, D, E, kb, mb, va, vc, G, sv⟩ := hw.sa
      refine ⟨fun i j hij hj => M.all_one sv.inv.nu sv.inv.ok.one hij hj, fun i hi => M.all_shr sv.inv.nu sv.inv.ok.shr hi, fun i hi => ?_⟩
      obtain ⟨p, p1, p2⟩ := M.all_at sv.inv.nu hi
      show isB ((M.allS S1).getD i M.vn0).name
      rw [p2]
      exact sv.inv.nb p p1
    clear OKS AG hS1 CI HH
    generalize (M.shDo S (l.getD k ca0).1).1.num = an at *
    generalize (M.shDo S (l.getD k ca0).1).1.idx = ai at *
    generalize (M.shDo S (l.getD k ca0).1).2.1 = ae at *
    generalize hVL : M.allS S1 = VL at *
    clear hVL
    generalize hI1 : S1.idx = I1 at *
    have EI := hide hI1
    clear hI1
    generalize hck : l.getD k ca0 = ck at *
    clear hck
    go_upto_region 6 with (go_at_call 5; refine DO.out.mono ?_; rintro e w2 ⟨rfl, T2, h2, k2, z2⟩; have H2 := hide h2; clear h2 k2 z2)
    clear DO c0 c1 c2 c3 c4 c5 c6
    have H3 : Hid (Has W (w2.alloc (.cells #[.int .i64 an, .int .i64 ai] 27)) f T2 S1) := H2.out.up ((Below.refl _ _).alloc (Nat.le_refl _) _)
    have B3 : Hid (Bx (w2.alloc (.cells #[.int .i64 an, .int .i64 ai] 27)) w2.heap.size [.int .i64 an, .int .i64 ai]) := bx_new w2 [.int .i64 an, .int .i64 ai] 27
    have T3 : Hid (T2 w2.heap.size = 0) := H2.out.sa.lt (Nat.le_refl _)
    generalize w2.alloc (.cells #[.int .i64 an, .int .i64 ai] 27) = w3 at *
    generalize w2.heap.size = ab at *
    clear H2
    go_upto_region 8 with (first
      | (go_at_call 6; refine (INX.out _ _ H3.out).mono ?_; rintro e w4 ⟨rfl, ew⟩; have ew2 := ew.symm; subst ew2)
      | (go_at_call 7; refine (ALL.out _ _ H3.out).mono ?_; rintro e w4 ⟨av, cv, rfl, rd, b4, p4⟩; have RV := hide rd; have B4 := hide b4; have P4 := hide p4; clear rd b4 p4))
    have H4 : Hid (Has W w4 f T2 S1) := H3.out.up B4.out
    have X4 : Hid (Bx w4 ab [.int .i64 an, .int .i64 ai]) := B3.out.keep (B4.out.block _ B3.out.lt)
    have Q4 : Hid (T2 ab = 0 ∧ ∀ p, av = some p → T2 p.block = 0 ∧ p.block < w4.heap.size) := ⟨T3.out, fun p hp => ⟨H3.out.sa.lt (P4.out p hp).1, (P4.out p hp).2⟩⟩
    obtain ⟨one, shr, nmb⟩ := ONE.out _ _ H4.out
    have ON := hide one
    have SR := hide shr
    have NB := hide nmb
    have VS : Hid (∀ (a2 : Option Addr) (c2 : Nat) w, RdV w av VL → RdV w a2 VL → Calls Try.prog 8 #[.slice av VL.length cv, .slice a2 VL.length c2] w fun e w' => e = .returned (.bool true) ∧ Below w.heap.size w w') := fun a2 c2 w h1 h2 => vnsame_any av a2 VL cv c2 w h1 h2
    have vl : VL.length ≤ 9223372036854775807 := RV.out.1
    clear H3 B3 T3 P4 B4 one shr nmb ONE
    go_upto_block 2 with fail
    go_cut [11] from 42 to 85 (fun _ wx => ∃ T' : Nat → Nat, Hid (Has W wx f T' S1) ∧ Hid (RdV wx av VL) ∧ Hid (Bx wx ab [.int .i64 an, .int .i64 ai]))
    case first =>
      go_wp2
      go_loopw [11] (fun kk wi => ∃ (j : Nat) (T' : Nat → Nat), j ≤ 3 ∧ kk = .int .i64 j ∧ Hid (Has W wi f T' S1) ∧ Hid (RdV wi av VL) ∧ Hid (Bx wi ab [.int .i64 an, .int .i64 ai]) ∧ Hid (T' ab = 0 ∧ ∀ p, av = some p → T' p.block = 0 ∧ p.block < wi.heap.size)) (fun kk _ => 3 - (intOf kk).toNat)
      case atStart => exact ⟨0, T2, by omega, rfl, H4, RV, X4, Q4⟩
      case round =>
        obtain ⟨j, T', hj, rfl, Hi, Ri, Xi, Qi⟩ := hrel
        clear H4 RV X4 Q4
        by_cases hjl : j < m ∧ j < 3
        · have j1 : decide ((j : Int) < (m : Int)) = true := decide_eq_true (by omega)
          have j2 : decide ((j : Int) < 3) = true := decide_eq_true (by omega)
          have j1' : decide (j < m) = true := decide_eq_true hjl.1
          have j2' : decide (j < 3) = true := decide_eq_true hjl.2
          obtain ⟨c0, c1, c2, c3, c4, c5, c6⟩ := CELLS.out _ Hi.out.bl
          obtain ⟨hj1, hj2⟩ := hjl
          clear hj1
          have DO2 := hide (AGD.out _ _ Hi.out)
          go_upto_region 11 with fail
          go_upto_region 12 with (go_at_call 5; refine DO2.out.mono ?_; rintro e w5 ⟨rfl, T5, h5, k5, z5⟩; have H5 := hide h5; have K5 := hide k5; have Z5 := hide z5; clear h5 k5 z5)
          clear c0 c1 c2 c3 c4 c5 c6
          have R5 : Hid (RdV w5 av VL) := Ri.out.keep Z5.out (fun p hp => (K5.out p.block (Qi.out.2 p hp).2 (Qi.out.2 p hp).1).2)
          have X5 : Hid (Bx w5 ab [.int .i64 an, .int .i64 ai]) := Xi.out.keep (K5.out ab Xi.out.lt Qi.out.1).2
          have Q5 : Hid (T5 ab = 0 ∧ ∀ p, av = some p → T5 p.block = 0 ∧ p.block < w5.heap.size) := ⟨(K5.out ab Xi.out.lt Qi.out.1).1, fun p hp => ⟨(K5.out p.block (Qi.out.2 p hp).2 (Qi.out.2 p hp).1).1, Nat.lt_of_lt_of_le (Qi.out.2 p hp).2 Z5.out⟩⟩
          have b6 : Below w5.heap.size w5 (w5.alloc (.cells #[.int .i64 an, .int .i64 ai] 27)) := (Below.refl _ _).alloc (Nat.le_refl _) _
          have H6 := hide (H5.out.up b6)
          have R6 := hide (R5.out.below b6)
          have X6 : Hid (Bx (w5.alloc (.cells #[.int .i64 an, .int .i64 ai] 27)) ab [.int .i64 an, .int .i64 ai]) := X5.out.keep (b6.block _ X5.out.lt)
          have Y6 := hide (bx_new w5 [.int .i64 an, .int .i64 ai] 27)
          have Q6 : Hid (T5 ab = 0 ∧ ∀ p, av = some p → T5 p.block = 0 ∧ p.block < (w5.alloc (.cells #[.int .i64 an, .int .i64 ai] 27)).heap.size) := ⟨Q5.out.1, fun p hp => ⟨(Q5.out.2 p hp).1, Nat.lt_of_lt_of_le (Q5.out.2 p hp).2 b6.size⟩⟩
          clear b6 H5 R5 X5 Q5 K5 Z5 Hi Ri Xi Qi
          generalize w5.alloc (.cells #[.int .i64 an, .int .i64 ai] 27) = w6 at *
          generalize w5.heap.size = bbk at *
          go_upto_region 14 with (first
            | (go_at_call 7; refine (ALL.out _ _ H6.out).mono ?_; rintro e w7 ⟨aw, cw, rfl, rd, b7, p7⟩; have RW := hide rd; have B7 := hide b7; clear rd b7 p7)
            | (go_at_call 8; refine (VS.out _ _ _ (R6.out.below B7.out) RW.out).mono ?_; rintro e w8 ⟨rfl, b8⟩; have B8 := hide (below_on B7.out b8); clear b8))
          have H8 := hide (H6.out.up B8.out)
          have R8 := hide (R6.out.below B8.out)
          have X8 := hide (X6.out.keep (B8.out.block _ X6.out.lt))
          have Y8 := hide (Y6.out.keep (B8.out.block _ Y6.out.lt))
          have Q8 : Hid (T5 ab = 0 ∧ ∀ p, av = some p → T5 p.block = 0 ∧ p.block < w8.heap.size) := ⟨Q6.out.1, fun p hp => ⟨(Q6.out.2 p hp).1, Nat.lt_of_lt_of_le (Q6.out.2 p hp).2 B8.out.size⟩⟩
          have x0 := X8.out.cell 0 _ rfl
          have x1 := X8.out.cell 1 _ rfl
          have y0 := Y8.out.cell 0 _ rfl
          have y1 := Y8.out.cell 1 _ rfl
          have INQ : Hid (∀ n, Calls Try.prog 6 #[.pointer (some ⟨f, 0, none⟩)] (w8.drewN n) fun e w' => e = .returned (.int .i64 I1) ∧ w' = w8.drewN n) := fun n => INX.out _ _ (H8.out.up (below_drew (Below.refl _ w8) n (Nat.le_refl _)))
          clear H6 R6 X6 Y6 Q6 B7 RW B8
          have wy := WY.out
          clear EV WY HEV QZ AGD
          obtain ⟨rfl, _⟩ | ⟨x9, rfl⟩ := wy
          all_goals (
            go_quiet ((go_at_call 6; exact Calls.quiet_of_same (INQ.out _)))
            have bq : Below w8.heap.size w8 (w8.drewN nq) := below_drew (Below.refl _ w8) nq (Nat.le_refl _)
            have H9 := hide (H8.out.up bq)
            have R9 := hide (R8.out.below bq)
            have X9 := hide (X8.out.keep (bq.block _ X8.out.lt))
            have Q9 : Hid (T5 ab = 0 ∧ ∀ p, av = some p → T5 p.block = 0 ∧ p.block < (w8.drewN nq).heap.size) := Q8
            clear bq
            go_wp2
            go_roundw
            case rel => exact ⟨j + 1, T5, by omega, by go_num, H9, R9, X9, Q9⟩
            case measure => simp [intOf]; omega)
        · have ways : (decide ((j : Int) < (m : Int)) = false ∧ decide (j < m) = false) ∨ (decide ((j : Int) < (m : Int)) = true ∧ decide (j < m) = true ∧ decide ((j : Int) < 3) = false ∧ decide (j < 3) = false) := by
            simp only [decide_eq_true_iff, decide_eq_false_iff_not]; omega
          clear WY EV HEV QZ AGD ALL INX VS CELLS OK1 ON SR NB
          rcases ways with ⟨g3, g3'⟩ | ⟨g3, g3', g4, g4'⟩
          all_goals (
            go_wp2
            go_meet
            case rel => exact ⟨T', Hi, Ri, Xi⟩)
    case rest =>
      obtain ⟨T', Hi, Ri, Xi⟩ := hcut
      obtain ⟨w9, hw9⟩ : ∃ x, x = wc := ⟨_, rfl⟩
      subst hw9
      have x1 := Xi.out.cell 1 _ rfl
      have wy := WY.out
      have CEL : Hid (∀ w i, Below w9.heap.size w9 w → i < VL.length → ∃ bv ov, av = some ⟨bv, ov, none⟩ ∧ FourAt w bv (ov + i * 4) (M.vAtL VL i)) := fun w i hw hi => by
        obtain ⟨bv, ov, e, _, hc⟩ := (Ri.out.below hw).2 (by intro e; rw [e] at hi; simp at hi)
        exact ⟨bv, ov, e, hc i hi⟩
      have DONE : Hid (∀ w, Below w9.heap.size w9 w → Has W w f T' S1) := fun w hw => Hi.out.up hw
      have I30 : Hid (S1.idx ≤ ((k + 1 : Nat) : Int)) := by unfold Hid; rw [EI.out]; have := OK1.out.2; omega
      have BF : Hid (ae = 0 → decide (ai < 1) = false ∧ decide (I1 < ai) = false) := fun z => ⟨decide_eq_false (by have := OK1.out.1 z; omega), decide_eq_false (by have := OK1.out.1 z; omega)⟩
      clear EV WY HEV QZ AGD ALL INX VS CELLS OK1 Hi Ri HC HX H4 RV X4 Q4
      have go : (ev = .nilIface ∧ decide (ai < 1) = false ∧ decide (I1 < ai) = false) ∨ ∃ x, ev = .iface 67 (.int .i64 x) := by
        rcases wy with ⟨z1, z2⟩ | z
        · exact .inl ⟨z1, BF.out z2⟩
        · exact .inr z
      clear wy BF
      go_upto_region 16 with fail
      go_cut [98] from 86 to 97 (fun v wx => v = .bool false ∧ wx = w9)
      case first =>
        obtain ⟨rfl, i1, i2⟩ | ⟨x9, rfl⟩ := go
        all_goals (
          go_wp2
          go_meet
          case rel => exact ⟨rfl, rfl⟩)
      case rest =>
        obtain ⟨rfl, hw9⟩ := hcut
        have hw8 := hw9.symm
        subst hw8
        clear hw9
        clear go x1 Xi
        go_wp2
        go_loopw [16] (fun kk wi => ∃ (p : Nat), p ≤ VL.length ∧ kk = .int .i64 p ∧ Hid (Below w9.heap.size w9 wi)) (fun kk _ => VL.length - (intOf kk).toNat)
        case atStart => exact ⟨0, Nat.zero_le _, rfl, Below.refl _ _⟩
        case round =>
          obtain ⟨p, hp, rfl, Bp⟩ := hrel
          by_cases hpl : p < VL.length
          · have pz : (p : Int) < (VL.length : Int) := by omega
            go_wp2
            go_loopw [17] (fun kk wi => ∃ (r : Nat), p + 1 ≤ r ∧ r ≤ VL.length ∧ kk = .int .i64 r ∧ Hid (Below w9.heap.size w9 wi)) (fun kk _ => VL.length - (intOf kk).toNat)
            case atStart => exact ⟨p + 1, Nat.le_refl _, by omega, by go_num, Bp⟩
            case round =>
              obtain ⟨r, hr1, hr2, rfl, Br⟩ := hrel
              obtain ⟨bv, ov, eav, f1⟩ := CEL.out _ p Br.out hpl
              by_cases hrl : r < VL.length
              · have rz : (r : Int) < (VL.length : Int) := by omega
                obtain ⟨b2, o2, e2, f2⟩ := CEL.out _ r Br.out hrl
                rw [eav] at e2
                cases e2
                obtain ⟨c0, _, c2, _⟩ := f1
                obtain ⟨d0, _, d2, _⟩ := f2
                have one := ON.out p r (by omega) hrl
                have nq1 := NB.out p hpl
                have nq2 := NB.out r hrl
                clear CEL ON SR NB DONE
                subst eav
                go_upto_region 24 with fail
                by_cases e1 : (M.vAtL VL p).name = (M.vAtL VL r).name
                · rw [e1] at c0
                  by_cases e3 : (M.vAtL VL p).stage = (M.vAtL VL r).stage
                  · have t3 : ((M.vAtL VL r).stage == 3) = false := by rw [beq_eq_false_iff_ne]; intro z; exact one ⟨e1, e3, .inl (e3.trans z)⟩
                    have t4 : ((M.vAtL VL r).stage == 2) = false := by rw [beq_eq_false_iff_ne]; intro z; exact one ⟨e1, e3, .inr (e3.trans z)⟩
                    rw [e3] at c2
                    clear one e1 e3 nq1 nq2
                    generalize byStr (M.vAtL VL r).name = s1 at *
                    generalize (M.vAtL VL r).stage = s2 at *
                    go_quiet (fail)
                    have bq := hide (below_drew Br.out nq Br.out.size)
                    go_wp2
                    go_roundw
                    case rel => exact ⟨r + 1, by omega, by omega, by go_num, bq⟩
                    case measure => simp [intOf]; omega
                  · have t2 : ((M.vAtL VL p).stage == (M.vAtL VL r).stage) = false := by rw [beq_eq_false_iff_ne]; exact e3
                    clear one e1 e3 nq1 nq2
                    generalize byStr (M.vAtL VL r).name = s1 at *
                    generalize (M.vAtL VL r).stage = s2 at *
                    generalize (M.vAtL VL p).stage = s3 at *
                    go_quiet (fail)
                    have bq := hide (below_drew Br.out nq Br.out.size)
                    go_wp2
                    go_roundw
                    case rel => exact ⟨r + 1, by omega, by omega, by go_num, bq⟩
                    case measure => simp [intOf]; omega
                · have t1 : ((byStr (M.vAtL VL p).name).toList == (byStr (M.vAtL VL r).name).toList) = false := by
                    rw [beq_eq_false_iff_ne, byStr_bytes, byStr_bytes]
                    intro z
                    exact e1 (ofs_inj _ _ nq1 nq2 z)
                  have t1' : ¬ (byStr (M.vAtL VL p).name).toList = (byStr (M.vAtL VL r).name).toList := by simpa using t1
                  clear one e1 nq1 nq2
                  generalize byStr (M.vAtL VL r).name = s1 at *
                  generalize byStr (M.vAtL VL p).name = s0 at *
                  generalize (M.vAtL VL r).stage = s2 at *
                  generalize (M.vAtL VL p).stage = s3 at *
                  go_quiet (fail)
                  have bq := hide (below_drew Br.out nq Br.out.size)
                  go_wp2
                  go_roundw
                  case rel => exact ⟨r + 1, by omega, by omega, by go_num, bq⟩
                  case measure => simp [intOf]; omega
              · have rz : ¬ ((r : Int) < (VL.length : Int)) := by omega
                obtain ⟨_, _, c2, c3⟩ := f1
                have sr := SR.out p hpl
                clear CEL ON SR NB DONE
                subst eav
                go_upto_region 26 with fail
                by_cases e2 : (M.vAtL VL p).stage = 2
                · have t1 : decide (0 < (M.vAtL VL p).share) = true := decide_eq_true (sr.2 e2)
                  have t2 : ((M.vAtL VL p).stage == 2) = true := by rw [e2]; rfl
                  clear sr e2
                  generalize (M.vAtL VL p).stage = s3 at *
                  generalize (M.vAtL VL p).share = s4 at *
                  go_quiet (fail)
                  have bq := hide (below_drew Br.out nq Br.out.size)
                  go_wp2
                  go_roundw
                  case rel => exact ⟨p + 1, by omega, by go_num, bq⟩
                  case measure => simp [intOf]; omega
                · have t1 : decide (0 < (M.vAtL VL p).share) = false := decide_eq_false (fun z => e2 (sr.1 z))
                  have t2 : ((M.vAtL VL p).stage == 2) = false := by rw [beq_eq_false_iff_ne]; exact e2
                  clear sr e2
                  generalize (M.vAtL VL p).stage = s3 at *
                  generalize (M.vAtL VL p).share = s4 at *
                  go_quiet (fail)
                  have bq := hide (below_drew Br.out nq Br.out.size)
                  go_wp2
                  go_roundw
                  case rel => exact ⟨p + 1, by omega, by go_num, bq⟩
                  case measure => simp [intOf]; omega
          · have pz : ¬ ((p : Int) < (VL.length : Int)) := by omega
            have HD := hide (DONE.out _ Bp.out)
            clear CEL DONE
            go_wp2
            go_roundw
            case rel => exact ⟨k + 1, T', S1, by omega, by omega, by go_num, HD, I30⟩
            case measure => simp [intOf]; omega
end Go.Proofs.Ytodidokeblblgaa

namespace Go.Proofs.Ytodidokeblblgaa
open Go.ChangeShapes Go.WideShapes Go.ChangeAt Go.RowKit
set_option linter.unusedVariables false
theorem once_all (a0 a1 : Option Addr) (l0 : List CaC) (l1 : List Int) (c0 c1 : Nat) (W : World) (h0 : RdC W a0 l0) (h1 : Rd W a1 l1) :
    Calls Try.prog 3 #[.slice a0 l0.length c0, .slice a1 l1.length c1] W fun e w' => e = .returned (.bool true) ∧ Below W.heap.size W w' :=
  once_walk a0 l0 c0 a1 l1.length c1 W h0 h1.1
end Go.Proofs.Ytodidokeblblgaa
