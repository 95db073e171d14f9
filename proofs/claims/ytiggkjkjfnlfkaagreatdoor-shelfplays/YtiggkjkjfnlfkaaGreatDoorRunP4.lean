/-
  Several texts as one: RefShG, RefShH.
-/
import Derived.Test.YtiggkjkjfnlfkaaGreatDoorRunP3
import Derived.Test.YtiggkjkjfnlfkaaGreatDoorRunS20
import Derived.Test.YtiggkjkjfnlfkaaGreatDoorRunS21
import Derived.Test.YtiggkjkjfnlfkaaGreatDoorRunS18
namespace Go.Proofs.YtiggkjkjfnlfkaaGreatDoor
open Go.ChangeShapes Go.WideShapes Go.ChangeAt Go.RowKit Go.Lib
set_option linter.unusedVariables false
/-- how many of the first are so -/
def M.cntP (p : M.Vn × M.Gv → Bool) (l : List (M.Vn × M.Gv)) (k : Nat) : Nat := ((l.take k).filter p).length
theorem M.cntP_zero (p : M.Vn × M.Gv → Bool) (l : List (M.Vn × M.Gv)) : M.cntP p l 0 = 0 := rfl
theorem M.cntP_step (p : M.Vn × M.Gv → Bool) (l : List (M.Vn × M.Gv)) {k : Nat} (hk : k < l.length) : M.cntP p l (k + 1) = M.cntP p l k + if p (l.getD k M.vg0) then 1 else 0 := by
  unfold M.cntP
  rw [List.take_succ_eq_append_getElem hk, List.filter_append, List.length_append, show l.getD k M.vg0 = l[k] by simp [List.getD, hk]]
  by_cases q : p l[k] = true
  · rw [List.filter_cons_of_pos q, if_pos q]; rfl
  · rw [List.filter_cons_of_neg q, if_neg q]; rfl
theorem M.cntP_all (p : M.Vn × M.Gv → Bool) (l : List (M.Vn × M.Gv)) : M.cntP p l l.length = (l.filter p).length := by
  unfold M.cntP
  rw [List.take_length]
theorem M.cntP_le (p : M.Vn × M.Gv → Bool) (l : List (M.Vn × M.Gv)) (k : Nat) : M.cntP p l k ≤ k := by
  unfold M.cntP
  exact Nat.le_trans (List.length_filter_le _ _) (by rw [List.length_take]; omega)

set_option maxHeartbeats 8000000 in
set_option maxRecDepth 10000 in
theorem ract_bad (hR : RGrvGives) {W : World} {s : Nat} {T : Nat → Nat} {S : M.Sh} {la : Option Addr} {lc : Nat} {da : Option Addr} {dc : Nat} {G : Nat → Gr} (h : RV W s T S la lc da dc G) (c : M.Ca) (a : Option Addr) (cap : Nat) (hr : RdB W a c.bys) (hc : c.bys.length ≤ cap) (h63 : cap ≤ 9223372036854775807) (hw : c.what = 1) (hd : (M.decF c.bys).2 ≠ 0) :
    Calls Tryz.prog 32 #[.pointer (some ⟨s, 0, none⟩), caV c a cap] W fun e w' => e = .returned (.tuple #[.int .i64 0, .int .i64 (M.decF c.bys).2]) ∧ RLeft W s T S w' := by
  unfold caV
  obtain ⟨W1, hW1⟩ : ∃ X, X = W.alloc (.cells #[.int .i64 c.what, .int .i64 c.ses, .int .i64 c.seq, .string (byStr c.name), .int .i64 c.num, .int .i64 c.share, .slice a c.bys.length cap] 36) := ⟨_, rfl⟩
  have b1 : Hid (Below W.heap.size W W1) := by unfold Hid; rw [hW1]; exact (Below.refl _ _).alloc (Nat.le_refl _) _
  have bx := caCells W c a cap
  rw [← hW1] at bx
  have c0 := bx.cell 0 _ rfl
  have c6 := bx.cell 6 _ rfl
  clear bx
  have SAME : Hid (∀ w', Below W.heap.size W w' → RLeft W s T S w') := fun w' hb => ⟨T, ⟨la, lc, da, dc, G, h.below hb⟩, stay_of hb (Nat.le_refl _), fun q hq => .inl hq⟩
  have DEC := hide (rdec_new hR a c.bys cap W1 (hr.below b1.out) hc h63)
  have g1 : (c.what == 1) = true := by rw [hw]; rfl
  have g2 : ((M.decF c.bys).2 == 0) = false := by rw [beq_eq_false_iff_ne]; exact hd
  have g3 : ((M.decF c.bys).2 != 0) = true := by rw [bne, g2]; rfl
  clear h hr hc h63 hw hd
  generalize (M.decF c.bys).2 = ef at *
  generalize (M.decF c.bys).1 = er at *
  generalize byStr c.name = sn at *
  generalize c.what = x0 at *
  generalize c.num = x4 at *
  generalize c.share = x5 at *
  generalize c.ses = x1 at *
  generalize c.seq = x2 at *
  generalize c.bys.length = x6 at *
  go_enter Tryz.func32, Tryz.ntmps32
  go_upto_region 1 with fail
  rw [← hW1]
  clear hW1
  go_upto_region 3 with (go_at_call 79; refine DEC.out.mono ?_; rintro e w2 ⟨O, rfl, hm, hn, b2⟩; unfold Gr.v; have B2 := hide (below_on b1.out b2); clear hm hn b2)
  clear DEC
  go_wp2
  go_ret2
  refine ⟨rfl, SAME.out _ ?_⟩
  repeat (first | exact B2.out | refine Below.drew ?_ | refine Below.alloc ?_ B2.out.size _ | refine Below.setCell ?_ B2.out.size _)
def M.p1 (v : M.Vn × M.Gv) : Bool := decide (v.1.num = 1)
def M.pn (n : List Nat) (v : M.Vn × M.Gv) : Bool := decide (v.1.name = n)
set_option maxHeartbeats 16000000 in
set_option maxRecDepth 10000 in
theorem ract_many (hR : RGrvGives) {W : World} {s : Nat} {T : Nat → Nat} {S : M.Sh} {la : Option Addr} {lc : Nat} {da : Option Addr} {dc : Nat} {G : Nat → Gr} (h : RV W s T S la lc da dc G) (c : M.Ca) (a : Option Addr) (cap : Nat) (hb : isB c.name) (hr : RdB W a c.bys) (hc : c.bys.length ≤ cap) (h63 : cap ≤ 9223372036854775807) (hw : c.what = 1) (hd : (M.decF c.bys).2 = 0) (hi : S.idx ≤ 1000000) (hm8 : M.many S c.name = 0 ∧ 8 ≤ M.names S) :
    Calls Tryz.prog 32 #[.pointer (some ⟨s, 0, none⟩), caV c a cap] W fun e w' => e = .returned (.tuple #[.int .i64 0, .int .i64 4]) ∧ RLeft W s T S w' := by
  unfold caV
  obtain ⟨W1, hW1⟩ : ∃ X, X = W.alloc (.cells #[.int .i64 c.what, .int .i64 c.ses, .int .i64 c.seq, .string (byStr c.name), .int .i64 c.num, .int .i64 c.share, .slice a c.bys.length cap] 36) := ⟨_, rfl⟩
  have b1 : Hid (Below W.heap.size W W1) := by unfold Hid; rw [hW1]; exact (Below.refl _ _).alloc (Nat.le_refl _) _
  have bx := caCells W c a cap
  rw [← hW1] at bx
  have c0 := bx.cell 0 _ rfl
  have c6 := bx.cell 6 _ rfl
  have CX := hide bx
  clear bx
  have SAME : Hid (∀ w', Below W.heap.size W w' → RLeft W s T S w') := fun w' hb => ⟨T, ⟨la, lc, da, dc, G, h.below hb⟩, stay_of hb (Nat.le_refl _), fun q hq => .inl hq⟩
  have DEC := hide (rdec_new hR a c.bys cap W1 (hr.below b1.out) hc h63)
  have H := hide h
  have STR : Hid (∀ k, k < S.l.length → ((byStr (vAt S k).name).toList = (byStr c.name).toList ↔ (vAt S k).name = c.name)) := fun k hk => by
    rw [ByteArray.toList_eq, ByteArray.toList_eq, byStr_list, byStr_list]
    exact ⟨fun z => ofs_inj _ _ (h.inv.nb k hk) hb z, fun z => by rw [z]⟩
  have mx : S.l.length ≤ 1000000 := by have := h.inv.ll; omega
  have g1 : (c.what == 1) = true := by rw [hw]; rfl
  rw [hd] at DEC
  have M8 : Hid (M.cntP (M.pn c.name) S.l S.l.length = 0 ∧ 8 ≤ M.cntP M.p1 S.l S.l.length) := by
    unfold Hid
    rw [M.cntP_all, M.cntP_all]
    exact hm8
  have sl : s < W.heap.size := h.tlt s (by rw [h.ts]; decide)
  clear h hr hc h63 hw hd hb hm8 hi
  generalize hnm : c.name = nm at *
  generalize (M.decF c.bys).1 = er at *
  generalize c.what = x0 at *
  generalize c.num = x4 at *
  generalize c.share = x5 at *
  generalize c.ses = x1 at *
  generalize c.seq = x2 at *
  generalize c.bys.length = x6 at *
  go_enter Tryz.func32, Tryz.ntmps32
  go_upto_region 1 with fail
  rw [← hW1]
  clear hW1
  go_upto_region 3 with (go_at_call 79; refine DEC.out.mono ?_; rintro e w2 ⟨O, rfl, hm, hn, b2⟩; unfold Gr.v; have B2 := hide (below_on b1.out b2); have CX2 := hide (CX.out.keep (b2.block _ CX.out.lt)); clear hm hn b2)
  clear DEC c0 c6 CX
  obtain ⟨V, hV⟩ : ∃ V, V = w2.alloc (.cells #[.int .i64 O.f, .int .i64 O.w, .slice O.wa O.ws.length O.wc, .slice O.ta O.ks.length O.tc] 53) := ⟨_, rfl⟩
  rw [← hV]
  have BV : Hid (Below W.heap.size W V) := by unfold Hid; rw [hV]; exact B2.out.alloc B2.out.size _
  have CV : Hid (Bx V W.heap.size [.int .i64 x0, .int .i64 x1, .int .i64 x2, .string (byStr nm), .int .i64 x4, .int .i64 x5, .slice a x6 cap]) := by
    unfold Hid
    rw [hV]
    exact CX2.out.keep (((Below.refl _ w2).alloc (Nat.le_refl _) _).block _ CX2.out.lt)
  clear hV B2 CX2
  go_wp2
  go_loopw [9, 10, 11] (fun y9 y10 y11 wr => ∃ (k m1 m2 : Nat), k ≤ S.l.length ∧ m1 ≤ k ∧ m2 ≤ k ∧ y9 = .int .i64 (m1 : Int) ∧ y10 = .int .i64 ((m2 : Int) + 1) ∧ y11 = .int .i64 (k : Int) ∧ Hid (m1 = M.cntP M.p1 S.l k) ∧ Hid (m2 = M.cntP (M.pn nm) S.l k) ∧ Hid (Below V.heap.size V wr)) (fun _ _ y11 _ => S.l.length - (intOf y11).toNat)
  case atStart => exact ⟨0, 0, 0, Nat.zero_le _, Nat.le_refl _, Nat.le_refl _, rfl, rfl, rfl, rfl, rfl, Below.refl _ _⟩
  case round =>
    obtain ⟨k, m1, m2, hk, l1, l2, rfl, rfl, rfl, E1, E2, BW⟩ := hrel
    have HW := hide (H.out.below (below_on BV.out BW.out))
    have s1 := HW.out.box.cell 1 _ rfl
    have CW := CV.out.keep (BW.out.block _ CV.out.lt)
    have c3 := CW.cell 3 _ rfl
    clear CW
    by_cases hlt : k < S.l.length
    · have kz : (k : Int) < (S.l.length : Int) := by omega
      obtain ⟨b, rfl, bl, hc⟩ := HW.out.item hlt
      have d0 := hc 0 _ (by omega) rfl
      have d1 := hc 1 _ (by omega) rfl
      rw [Nat.add_zero] at d0
      have st := STR.out k hlt
      have BD : Hid (Below V.heap.size V wr.drew) := BW.out.drew
      have S1 := hide (M.cntP_step M.p1 S.l hlt)
      have S2 := hide (M.cntP_step (M.pn nm) S.l hlt)
      by_cases q1 : (vAt S k).num = 1
      · have e1 : Hid (m1 + 1 = M.cntP M.p1 S.l (k + 1)) := by unfold Hid; rw [S1.out, ← E1.out, if_pos (show M.p1 (S.l.getD k M.vg0) = true from decide_eq_true q1)]
        have r1 : ((vAt S k).num == 1) = true := by rw [q1]; rfl
        by_cases q2 : (vAt S k).name = nm
        · have e2 : Hid (m2 + 1 = M.cntP (M.pn nm) S.l (k + 1)) := by unfold Hid; rw [S2.out, ← E2.out, if_pos (show M.pn nm (S.l.getD k M.vg0) = true from decide_eq_true q2)]
          rw [q2] at d0
          clear hc q1 q2 E1 E2 S1 S2 HW M8 STR SAME st BW
          generalize (vAt S k).num = y at *
          generalize byStr nm = sn at *
          go_upto_region 12 with fail
          go_region_with fail
          all_goals (
            go_wp2
            go_roundw
            case rel => exact ⟨k + 1, m1 + 1, m2 + 1, by omega, by omega, by omega, by go_num, by go_num, by go_num, e1, e2, BD⟩
            case measure => simp [intOf]; omega)
        · have e2 : Hid (m2 = M.cntP (M.pn nm) S.l (k + 1)) := by unfold Hid; rw [S2.out, ← E2.out, if_neg (show ¬ M.pn nm (S.l.getD k M.vg0) = true from fun z => q2 (of_decide_eq_true z))]; rfl
          have t1 : ((byStr (vAt S k).name).toList == (byStr nm).toList) = false := by rw [beq_eq_false_iff_ne]; exact fun z => q2 (st.1 z)
          have t2 : ¬ (byStr (vAt S k).name).toList = (byStr nm).toList := fun z => q2 (st.1 z)
          clear hc q1 q2 E1 E2 S1 S2 HW M8 STR SAME st BW
          generalize (vAt S k).num = y at *
          generalize byStr (vAt S k).name = sk at *
          generalize byStr nm = sn at *
          go_upto_region 12 with fail
          go_region_with fail
          all_goals (
            go_wp2
            go_roundw
            case rel => exact ⟨k + 1, m1 + 1, m2, by omega, by omega, by omega, by go_num, by go_num, by go_num, e1, e2, BD⟩
            case measure => simp [intOf]; omega)
      · have e1 : Hid (m1 = M.cntP M.p1 S.l (k + 1)) := by unfold Hid; rw [S1.out, ← E1.out, if_neg (show ¬ M.p1 (S.l.getD k M.vg0) = true from fun z => q1 (of_decide_eq_true z))]; rfl
        have r1 : ((vAt S k).num == 1) = false := by rw [beq_eq_false_iff_ne]; exact q1
        by_cases q2 : (vAt S k).name = nm
        · have e2 : Hid (m2 + 1 = M.cntP (M.pn nm) S.l (k + 1)) := by unfold Hid; rw [S2.out, ← E2.out, if_pos (show M.pn nm (S.l.getD k M.vg0) = true from decide_eq_true q2)]
          rw [q2] at d0
          clear hc q1 q2 E1 E2 S1 S2 HW M8 STR SAME st BW
          generalize (vAt S k).num = y at *
          generalize byStr nm = sn at *
          go_upto_region 12 with fail
          go_region_with fail
          all_goals (
            go_wp2
            go_roundw
            case rel => exact ⟨k + 1, m1, m2 + 1, by omega, by omega, by omega, by go_num, by go_num, by go_num, e1, e2, BD⟩
            case measure => simp [intOf]; omega)
        · have e2 : Hid (m2 = M.cntP (M.pn nm) S.l (k + 1)) := by unfold Hid; rw [S2.out, ← E2.out, if_neg (show ¬ M.pn nm (S.l.getD k M.vg0) = true from fun z => q2 (of_decide_eq_true z))]; rfl
          have t1 : ((byStr (vAt S k).name).toList == (byStr nm).toList) = false := by rw [beq_eq_false_iff_ne]; exact fun z => q2 (st.1 z)
          have t2 : ¬ (byStr (vAt S k).name).toList = (byStr nm).toList := fun z => q2 (st.1 z)
          clear hc q1 q2 E1 E2 S1 S2 HW M8 STR SAME st BW
          generalize (vAt S k).num = y at *
          generalize byStr (vAt S k).name = sk at *
          generalize byStr nm = sn at *
          go_upto_region 12 with fail
          go_region_with fail
          all_goals (
            go_wp2
            go_roundw
            case rel => exact ⟨k + 1, m1, m2, by omega, by omega, by omega, by go_num, by go_num, by go_num, e1, e2, BD⟩
            case measure => simp [intOf]; omega)
    · have ek : k = S.l.length := by omega
      have kz : ¬ ((k : Int) < (S.l.length : Int)) := by omega
      subst ek
      have z2 : m2 = 0 := by have := E2.out; rw [M8.out.1] at this; exact this
      have z1 : 8 ≤ m1 := by have := E1.out; have := M8.out.2; omega
      subst z2
      have z3 : (8 : Int) ≤ (m1 : Int) := by omega
      have F := hide (SAME.out _ (below_on BV.out BW.out))
      clear E1 E2 BW HW M8 STR SAME
      go_wp2
      go_ret2
      exact ⟨rfl, F.out⟩
end Go.Proofs.YtiggkjkjfnlfkaaGreatDoor
