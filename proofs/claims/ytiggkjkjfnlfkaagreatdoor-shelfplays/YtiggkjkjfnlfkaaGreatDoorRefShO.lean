/-
  What the reference's act leaves of a grove that is put to the shelf.
-/
import Derived.Test.YtiggkjkjfnlfkaaGreatDoorRunP4
import Derived.Test.YtiggkjkjfnlfkaaGreatDoorRunP3
import Derived.Deep.AppendLies
import Derived.Deep.RegionLaw
namespace Go.Proofs.YtiggkjkjfnlfkaaGreatDoor
open Go.ChangeShapes Go.WideShapes Go.ChangeAt Go.RowKit Go.Lib
set_option linter.unusedVariables false

theorem infoIt : (Tryz.prog.info? 55).map (fun i => (i.zero, i.size, i.bytes)) = some (some (.agg #[.string ⟨#[]⟩, .int .i64 0, .int .i64 0, .int .i64 0, .int .i64 0, .int .i64 0, .slice none 0 0, .slice none 0 0]), 8, 104) := by kernel_rfl
set_option maxHeartbeats 16000000 in
set_option maxRecDepth 10000 in
theorem ract_put (hR : RGrvGives) {W : World} {s : Nat} {T : Nat → Nat} {S : M.Sh} {la : Option Addr} {lc : Nat} {da : Option Addr} {dc : Nat} {G : Nat → Gr} (h : RV W s T S la lc da dc G) (c : M.Ca) (a : Option Addr) (cap : Nat) (hb : isB c.name) (hr : RdB W a c.bys) (hc : c.bys.length ≤ cap) (h63 : cap ≤ 9223372036854775807) (hw : c.what = 1) (hd : (M.decF c.bys).2 = 0) (hi : S.idx ≤ 1000000) (hl : (S.l.length : Int) + 1 ≤ S.idx) (hm8 : ¬ (M.many S c.name = 0 ∧ 8 ≤ M.names S)) :
    Calls Tryz.prog 32 #[.pointer (some ⟨s, 0, none⟩), caV c a cap] W fun e w' => e = .returned (.tuple #[.int .i64 ((M.many S c.name : Int) + 1), .int .i64 0]) ∧ RLeft W s T (M.addS S c.name (M.decV c.bys)) w' := by
  unfold caV
  obtain ⟨W1, hW1⟩ : ∃ X, X = W.alloc (.cells #[.int .i64 c.what, .int .i64 c.ses, .int .i64 c.seq, .string (byStr c.name), .int .i64 c.num, .int .i64 c.share, .slice a c.bys.length cap] 36) := ⟨_, rfl⟩
  have b1 : Hid (Below W.heap.size W W1) := by unfold Hid; rw [hW1]; exact (Below.refl _ _).alloc (Nat.le_refl _) _
  have bx := caCells W c a cap
  rw [← hW1] at bx
  have c0 := bx.cell 0 _ rfl
  have c6 := bx.cell 6 _ rfl
  have CX := hide bx
  clear bx
  have z1W : Hid (W1.heap.size = W.heap.size + 1) := by unfold Hid; rw [hW1]; simp
  have HB := hide hb
  have DEC := hide (rdec_new hR a c.bys cap W1 (hr.below b1.out) hc h63)
  have H := hide h
  have STR : Hid (∀ k, k < S.l.length → ((byStr (vAt S k).name).toList = (byStr c.name).toList ↔ (vAt S k).name = c.name)) := fun k hk => by
    rw [ByteArray.toList_eq, ByteArray.toList_eq, byStr_list, byStr_list]
    exact ⟨fun z => ofs_inj _ _ (h.inv.nb k hk) hb z, fun z => by rw [z]⟩
  have mx : S.l.length ≤ 1000000 := by have := h.inv.ll; omega
  have g1 : (c.what == 1) = true := by rw [hw]; rfl
  rw [hd] at DEC
  have M8 : Hid (¬ (M.cntP (M.pn c.name) S.l S.l.length = 0 ∧ 8 ≤ M.cntP M.p1 S.l S.l.length) ∧ M.cntP (M.pn c.name) S.l S.l.length = M.many S c.name) := by
    unfold Hid
    rw [M.cntP_all, M.cntP_all]
    exact ⟨hm8, rfl⟩
  have LL := hide hl
  have sl : s < W.heap.size := h.tlt s (by rw [h.ts]; decide)
  obtain ⟨i0, hi0, hz0, hz1, hz2⟩ := info_parts infoIt
  have I0 := hide hi0
  clear h hr hc h63 hw hd hb hm8 hi hl hi0
  generalize hnm : c.name = nm at *
  generalize (M.decF c.bys).1 = er at *
  generalize c.what = x0 at *
  generalize c.num = x4 at *
  generalize c.share = x5 at *
  generalize c.ses = x1 at *
  generalize c.seq = x2 at *
  generalize hby : c.bys.length = x6 at *
  generalize M.decV c.bys = dv at *
  clear hby
  go_enter Tryz.func32, Tryz.ntmps32
  go_upto_region 1 with fail
  rw [← hW1]
  clear hW1
  go_upto_region 3 with (go_at_call 79; refine DEC.out.mono ?_; rintro e w2 ⟨O, rfl, hm, hn, b2⟩; unfold Gr.v; have B2 := hide (below_on b1.out b2); have CX2 := hide (CX.out.keep (b2.block _ CX.out.lt)); have NH := hide hn; have OM := hide hm; have lt2 : W.heap.size < w2.heap.size := (by have := b2.size; have := z1W.out; omega); clear hm hn b2)
  clear DEC c0 c6 CX
  obtain ⟨V, hV⟩ : ∃ V, V = w2.alloc (.cells #[.int .i64 O.f, .int .i64 O.w, .slice O.wa O.ws.length O.wc, .slice O.ta O.ks.length O.tc] 53) := ⟨_, rfl⟩
  rw [← hV]
  have BV : Hid (Below W.heap.size W V) := by unfold Hid; rw [hV]; exact B2.out.alloc B2.out.size _
  have CV : Hid (Bx V W.heap.size [.int .i64 x0, .int .i64 x1, .int .i64 x2, .string (byStr nm), .int .i64 x4, .int .i64 x5, .slice a x6 cap]) := by
    unfold Hid
    rw [hV]
    exact CX2.out.keep (((Below.refl _ w2).alloc (Nat.le_refl _) _).block _ CX2.out.lt)
  have GV : Hid (Bx V w2.heap.size [.int .i64 O.f, .int .i64 O.w, .slice O.wa O.ws.length O.wc, .slice O.ta O.ks.length O.tc]) := by unfold Hid; rw [hV]; exact bx_new w2 _ _
  have V2 : Hid (Below w2.heap.size w2 V) := by unfold Hid; rw [hV]; exact (Below.refl _ _).alloc (Nat.le_refl _) _
  clear hV B2 CX2
  go_wp2
  go_loopw [9, 10, 11] (fun y9 y10 y11 wr => ∃ (k m1 m2 : Nat), k ≤ S.l.length ∧ m1 ≤ k ∧ m2 ≤ k ∧ y9 = .int .i64 (m1 : Int) ∧ y10 = .int .i64 ((m2 : Int) + 1) ∧ y11 = .int .i64 (k : Int) ∧ Hid (m1 = M.cntP M.p1 S.l k) ∧ Hid (m2 = M.cntP (M.pn nm) S.l k) ∧ Hid (Below V.heap.size V wr)) (fun _ _ y11 _ => S.l.length - (intOf y11).toNat)
  case atStart => exact ⟨0, 0, 0, Nat.zero_le _, Nat.le_refl _, Nat.le_refl _, rfl, rfl, rfl, rfl, rfl, Below.refl _ _⟩
  case round =>
    obtain ⟨k, m1, m2, hk, l1, l2, rfl, rfl, rfl, E1, E2, BW⟩ := hrel
    have HW := hide (H.out.below (below_on BV.out BW.out))
    have s1 := HW.out.box.cell 1 _ rfl
    have CW := CV.out.keep (BW.out.block _ CV.out.lt)
    have c3 := CW.cell 3 _ rfl
    clear CW
    by_cases hlt : k < S.l.length
    · have kz : (k : Int) < (S.l.length : Int) := by omega
      obtain ⟨b, rfl, bl, hc⟩ := HW.out.item hlt
      have d0 := hc 0 _ (by omega) rfl
      have d1 := hc 1 _ (by omega) rfl
      rw [Nat.add_zero] at d0
      have st := STR.out k hlt
      have BD : Hid (Below V.heap.size V wr.drew) := BW.out.drew
      have S1 := hide (M.cntP_step M.p1 S.l hlt)
      have S2 := hide (M.cntP_step (M.pn nm) S.l hlt)
      by_cases q1 : (vAt S k).num = 1
      · have e1 : Hid (m1 + 1 = M.cntP M.p1 S.l (k + 1)) := by unfold Hid; rw [S1.out, ← E1.out, if_pos (show M.p1 (S.l.getD k M.vg0) = true from decide_eq_true q1)]
        have r1 : ((vAt S k).num == 1) = true := by rw [q1]; rfl
        by_cases q2 : (vAt S k).name = nm
        · have e2 : Hid (m2 + 1 = M.cntP (M.pn nm) S.l (k + 1)) := by unfold Hid; rw [S2.out, ← E2.out, if_pos (show M.pn nm (S.l.getD k M.vg0) = true from decide_eq_true q2)]
          rw [q2] at d0
          clear hc q1 q2 E1 E2 S1 S2 HW M8 STR st BW
          generalize (vAt S k).num = y at *
          generalize byStr nm = sn at *
          go_upto_region 12 with fail
          go_region_with fail
          all_goals (
            go_wp2
            go_roundw
            case rel => exact ⟨k + 1, m1 + 1, m2 + 1, by omega, by omega, by omega, by go_num, by go_num, by go_num, e1, e2, BD⟩
            case measure => simp [intOf]; omega)
        · have e2 : Hid (m2 = M.cntP (M.pn nm) S.l (k + 1)) := by unfold Hid; rw [S2.out, ← E2.out, if_neg (show ¬ M.pn nm (S.l.getD k M.vg0) = true from fun z => q2 (of_decide_eq_true z))]; rfl
          have t1 : ((byStr (vAt S k).name).toList == (byStr nm).toList) = false := by rw [beq_eq_false_iff_ne]; exact fun z => q2 (st.1 z)
          have t2 : ¬ (byStr (vAt S k).name).toList = (byStr nm).toList := fun z => q2 (st.1 z)
          clear hc q1 q2 E1 E2 S1 S2 HW M8 STR st BW
          generalize (vAt S k).num = y at *
          generalize byStr (vAt S k).name = sk at *
          generalize byStr nm = sn at *
          go_upto_region 12 with fail
          go_region_with fail
          all_goals (
            go_wp2
            go_roundw
            case rel => exact ⟨k + 1, m1 + 1, m2, by omega, by omega, by omega, by go_num, by go_num, by go_num, e1, e2, BD⟩
            case measure => simp [intOf]; omega)
      · have e1 : Hid (m1 = M.cntP M.p1 S.l (k + 1)) := by unfold Hid; rw [S1.out, ← E1.out, if_neg (show ¬ M.p1 (S.l.getD k M.vg0) = true from fun z => q1 (of_decide_eq_true z))]; rfl
        have r1 : ((vAt S k).num == 1) = false := by rw [beq_eq_false_iff_ne]; exact q1
        by_cases q2 : (vAt S k).name = nm
        · have e2 : Hid (m2 + 1 = M.cntP (M.pn nm) S.l (k + 1)) := by unfold Hid; rw [S2.out, ← E2.out, if_pos (show M.pn nm (S.l.getD k M.vg0) = true from decide_eq_true q2)]
          rw [q2] at d0
          clear hc q1 q2 E1 E2 S1 S2 HW M8 STR st BW
          generalize (vAt S k).num = y at *
          generalize byStr nm = sn at *
          go_upto_region 12 with fail
          go_region_with fail
          all_goals (
            go_wp2
            go_roundw
            case rel => exact ⟨k + 1, m1, m2 + 1, by omega, by omega, by omega, by go_num, by go_num, by go_num, e1, e2, BD⟩
            case measure => simp [intOf]; omega)
        · have e2 : Hid (m2 = M.cntP (M.pn nm) S.l (k + 1)) := by unfold Hid; rw [S2.out, ← E2.out, if_neg (show ¬ M.pn nm (S.l.getD k M.vg0) = true from fun z => q2 (of_decide_eq_true z))]; rfl
          have t1 : ((byStr (vAt S k).name).toList == (byStr nm).toList) = false := by rw [beq_eq_false_iff_ne]; exact fun z => q2 (st.1 z)
          have t2 : ¬ (byStr (vAt S k).name).toList = (byStr nm).toList := fun z => q2 (st.1 z)
          clear hc q1 q2 E1 E2 S1 S2 HW M8 STR st BW
          generalize (vAt S k).num = y at *
          generalize byStr (vAt S k).name = sk at *
          generalize byStr nm = sn at *
          go_upto_region 12 with fail
          go_region_with fail
          all_goals (
            go_wp2
            go_roundw
            case rel => exact ⟨k + 1, m1, m2, by omega, by omega, by omega, by go_num, by go_num, by go_num, e1, e2, BD⟩
            case measure => simp [intOf]; omega)
    · have ek : k = S.l.length := by omega
      have kz : ¬ ((k : Int) < (S.l.length : Int)) := by omega
      subst ek
      have lo := HW.out.lo
      have gx := GV.out.keep (BW.out.block _ GV.out.lt)
      have g0 := gx.cell 0 _ rfl
      have g1' := gx.cell 1 _ rfl
      have g2 := gx.cell 2 _ rfl
      have g3 := gx.cell 3 _ rfl
      have e2 : (m2 : Int) = (M.many S nm : Int) := by rw [E2.out, M8.out.2]
      have EE := hide e2
      have slr : s < wr.heap.size := HW.out.box.lt
      have FL : Hid (∀ (X : World) (g cg : Nat) (w12 : World), Below wr.heap.size wr X → X.heap.size = wr.heap.size + 1 → w12.ownsRow 0 55 8 (.slice (some ⟨g, 0, none⟩) (S.l.length + 1) cg) (S.l.length + 1) (flatR (fun k => kpL (vAt S k) (G k)) S.l.length ++ [.string (byStr nm), .int .i64 ((m2 : Int) + 1), .int .i64 1, .int .i64 0, .int .i64 O.f, .int .i64 O.w, .slice O.wa O.ws.length O.wc, .slice O.ta O.ks.length O.tc]) → X.grownBy w12 (Value.slice la S.l.length lc).ownBlock → ((Value.slice la S.l.length lc).ownBlock = some g ∨ g = wr.heap.size + 1) →
          (w12.cell? ⟨s, 1, none⟩ = some (.slice la S.l.length lc) ∧ w12.frozen? ⟨s, 1, none⟩ = false) ∧ RLeft W s T (M.addS S nm dv) (w12.setCell ⟨s, 1, none⟩ (.slice (some ⟨g, 0, none⟩) (S.l.length + 1) cg))) := fun X g cg w12 bX zX ho hg ha => by
        have bV := below_on BW.out bX
        have r := H.out.appended (n := nm) HB.out NH.out (by have := z1W.out; omega) (below_on V2.out bV) (below_on BV.out bV) LL.out (g := g) (cg := cg) (w12 := w12) (by rw [EE.out] at ho; exact ho) hg (ha.imp id (fun z => by omega))
        rw [OM.out] at r
        exact ⟨⟨r.1.cell 1 _ rfl, r.1.free 1⟩, r.2⟩
      have ways : (m2 = 0 ∧ ¬ (8 : Int) ≤ (m1 : Int)) ∨ (((m2 : Int) + 1 == 1) = false ∧ ¬ ((m2 : Int) + 1 = 1)) := by
        have z := M8.out.1
        rw [← E2.out, ← E1.out] at z
        by_cases q0 : m2 = 0
        · exact .inl ⟨q0, by omega⟩
        · exact .inr ⟨by rw [beq_eq_false_iff_ne]; omega, by omega⟩
      have LO := hide lo
      have slw : s ≠ wr.heap.size := by omega
      have Z : Hid (∀ o : Obj, (wr.alloc o).ownsRow 0 55 8 (.slice la S.l.length lc) S.l.length (flatR (fun k => kpL (vAt S k) (G k)) S.l.length) ∧ (wr.drew.alloc o).ownsRow 0 55 8 (.slice la S.l.length lc) S.l.length (flatR (fun k => kpL (vAt S k) (G k)) S.l.length)) := fun o => ⟨lo.alloc o, lo.drew.alloc o⟩
      have BLW : Hid (∀ o : Obj, Below wr.heap.size wr (wr.alloc o) ∧ Below wr.heap.size wr (wr.drew.alloc o)) := fun o => ⟨(Below.refl _ _).alloc (Nat.le_refl _) _, ((Below.refl _ _).drew).alloc (Nat.le_refl _) _⟩
      have s1a : ∀ o : Obj, (wr.drew.alloc o).cell? ⟨s, 1, none⟩ = some (.slice la S.l.length lc) := fun o => ((BLW.out o).2.cell (p := ⟨s, 1, none⟩) slr).trans s1
      clear lo gx E1 E2 BW HW M8 STR HB NH OM H LL GV V2 CV BV hk l1 l2 e2 kz
      generalize S.l.length = n at *
      generalize byStr nm = sn at *
      generalize flatR (fun k => kpL (vAt S k) (G k)) n = FC at *
      rcases ways with ⟨z2, z3⟩ | ⟨r1, r2⟩
      · subst z2
        go_upto_region 16 with fail
        go_region_law (refine step_append_lies _ rfl (.tmp 73) (.tmp 80) 26 rfl 0 55 i0 (.agg #[.string ⟨#[]⟩, .int .i64 0, .int .i64 0, .int .i64 0, .int .i64 0, .int .i64 0, .slice none 0 0, .slice none 0 0]) 8 104 Tryz.underlying26 I0.out hz0 hz1 hz2 rfl (by omega) (.slice la n lc) n FC rfl (by first | exact (Z.out _).1 | exact (Z.out _).2) ⟨wr.heap.size, 0, none⟩ 1 1 [.string sn, .int .i64 (1 : Int), .int .i64 1, .int .i64 0, .int .i64 O.f, .int .i64 O.w, .slice O.wa O.ws.length O.wc, .slice O.ta O.ks.length O.tc] rfl rfl (World.news_of_block (by first | exact heap_alloc_new _ _ | (simp; done))) (by simp [Value.oneCell']) (by omega) (by unfold maxLen; omega) (by omega) (Nat.zero_le _) (wr.heap.size + 1) (by simp) ?_; intro g cg w12 ho12 hg12 ha12 hl12; obtain ⟨⟨y0, y1⟩, fn⟩ := FL.out _ g cg w12 (by first | exact (BLW.out _).1 | exact (BLW.out _).2) (by simp) (by simpa using ho12) hg12 ha12; have FN := hide fn; clear ho12 hg12 ha12 hl12 fn)
        all_goals (
          go_wp2
          go_ret2
          exact ⟨by rw [← EE.out]; rfl, FN.out⟩)
      · go_upto_region 16 with fail
        go_region_law (refine step_append_lies _ rfl (.tmp 73) (.tmp 80) 26 rfl 0 55 i0 (.agg #[.string ⟨#[]⟩, .int .i64 0, .int .i64 0, .int .i64 0, .int .i64 0, .int .i64 0, .slice none 0 0, .slice none 0 0]) 8 104 Tryz.underlying26 I0.out hz0 hz1 hz2 rfl (by omega) (.slice la n lc) n FC rfl (by first | exact (Z.out _).1 | exact (Z.out _).2) ⟨wr.heap.size, 0, none⟩ 1 1 [.string sn, .int .i64 ((m2 : Int) + 1), .int .i64 1, .int .i64 0, .int .i64 O.f, .int .i64 O.w, .slice O.wa O.ws.length O.wc, .slice O.ta O.ks.length O.tc] rfl rfl (World.news_of_block (by first | exact heap_alloc_new _ _ | (simp; done))) (by simp [Value.oneCell']) (by omega) (by unfold maxLen; omega) (by omega) (Nat.zero_le _) (wr.heap.size + 1) (by simp) ?_; intro g cg w12 ho12 hg12 ha12 hl12; obtain ⟨⟨y0, y1⟩, fn⟩ := FL.out _ g cg w12 (by first | exact (BLW.out _).1 | exact (BLW.out _).2) (by simp) ho12 hg12 ha12; have FN := hide fn; clear ho12 hg12 ha12 hl12 fn)
        all_goals (
          go_wp2
          go_ret2
          exact ⟨by rw [← EE.out]; rfl, FN.out⟩)

end Go.Proofs.YtiggkjkjfnlfkaaGreatDoor
