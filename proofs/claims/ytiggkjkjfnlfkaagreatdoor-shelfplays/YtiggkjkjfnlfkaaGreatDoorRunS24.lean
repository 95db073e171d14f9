/-
  Several texts as one: RefShC, ShUnc.
-/
import Derived.Test.YtiggkjkjfnlfkaaGreatDoorRunS21
import Derived.Test.YtiggkjkjfnlfkaaGreatDoorRunS23
import Derived.Test.YtiggkjkjfnlfkaaGreatDoorRunS20
import Derived.RegionTactic
import Derived.Deep.RegionWith
namespace Go.Proofs.YtiggkjkjfnlfkaaGreatDoor
open Go.ChangeShapes Go.WideShapes Go.ChangeAt Go.RowKit Go.Lib
set_option linter.unusedVariables false
theorem idx_str {n : List Nat} (hb : isB n) {k : Nat} (hk : k < n.length) (W : World) : (Instr.index 9 (.string (byStr n)) (.int .i64 (k : Int))).run Tryz.prog W = .ok (.int .u8 ((n.getD k 0 : Nat) : Int)) W := by
  have sz := byStr_size n
  have hk' : k < (byStr n).size := by rw [sz]; exact hk
  rw [run_index_string W 9 (byStr n) .i64 (k : Int) Tryz.underlying9, dif_pos ⟨by omega, by omega⟩]
  have e : ((byStr n)[(k : Int).toNat]'(by omega)).toNat = n.getD k 0 := by
    rw [← byStr_at hb hk]
    have : ((byStr n)[(k : Int).toNat]'(by omega)) = (byStr n).data.toList.getD k 0 := by
      have h2 : k < (byStr n).data.toList.length := by rw [byStr_list, List.length_map]; exact hk
      rw [List.getD, List.getElem?_eq_getElem h2]
      rfl
    rw [this]
  rw [e]

set_option maxHeartbeats 16000000 in
set_option maxRecDepth 10000 in
theorem rcall_any (c : M.Ca) (a : Option Addr) (cap : Nat) (hb : isB c.name) (hl : c.name.length ≤ 9223372036854775807) (W : World) :
    Calls Tryz.prog 30 #[caV c a cap] W fun e w' => e = .returned (.int .i64 (M.callF c)) ∧ Below W.heap.size W w' := by
  rw [M.call_is]
  unfold caV
  obtain ⟨W1, hW1⟩ : ∃ X, X = W.alloc (.cells #[.int .i64 c.what, .int .i64 c.ses, .int .i64 c.seq, .string (byStr c.name), .int .i64 c.num, .int .i64 c.share, .slice a c.bys.length cap] 36) := ⟨_, rfl⟩
  have b1 : Hid (Below W.heap.size W W1) := by unfold Hid; rw [hW1]; exact (Below.refl _ _).alloc (Nat.le_refl _) _
  have bx := caCells W c a cap
  rw [← hW1] at bx
  have c0 := bx.cell 0 _ rfl
  have c1 := bx.cell 1 _ rfl
  have c2 := bx.cell 2 _ rfl
  have c3 := bx.cell 3 _ rfl
  clear bx
  have TM := hide rtime_any
  by_cases bad : c.what < 1 ∨ 4 < c.what ∨ M.timeB c.ses = false ∨ M.timeB c.seq = false ∨ c.seq = 0
  · rw [if_pos bad]
    have ways : decide (c.what < 1) = true ∨ (decide (c.what < 1) = false ∧ decide (4 < c.what) = true) ∨ (decide (c.what < 1) = false ∧ decide (4 < c.what) = false ∧ M.timeB c.ses = false) ∨ (decide (c.what < 1) = false ∧ decide (4 < c.what) = false ∧ M.timeB c.ses = true ∧ M.timeB c.seq = false) ∨ (decide (c.what < 1) = false ∧ decide (4 < c.what) = false ∧ M.timeB c.ses = true ∧ M.timeB c.seq = true ∧ (c.seq == 0) = true) := by
      by_cases z1 : c.what < 1
      · exact .inl (decide_eq_true z1)
      · by_cases z2 : 4 < c.what
        · exact .inr (.inl ⟨decide_eq_false z1, decide_eq_true z2⟩)
        · cases z3 : M.timeB c.ses with
          | false => exact .inr (.inr (.inl ⟨decide_eq_false z1, decide_eq_false z2, rfl⟩))
          | true =>
            cases z4 : M.timeB c.seq with
            | false => exact .inr (.inr (.inr (.inl ⟨decide_eq_false z1, decide_eq_false z2, rfl, rfl⟩)))
            | true =>
              refine .inr (.inr (.inr (.inr ⟨decide_eq_false z1, decide_eq_false z2, rfl, rfl, ?_⟩)))
              rcases bad with y | y | y | y | y
              · exact absurd y z1
              · exact absurd y z2
              · rw [z3] at y; cases y
              · rw [z4] at y; cases y
              · rw [y]; rfl
    clear bad hb hl c3
    rcases ways with g1 | ⟨g1, g2⟩ | ⟨g1, g2, g3⟩ | ⟨g1, g2, g3, g4⟩ | ⟨g1, g2, g3, g4, g5⟩
    all_goals (
      go_enter Tryz.func30, Tryz.ntmps30
      go_upto_region 1 with fail
      rw [← hW1]
      clear hW1
      go_wp2_with (go_at_call 42; refine (TM.out _ _).mono ?_; rintro e w2 ⟨rfl, ew⟩; have ew2 := ew.symm; subst ew2)
      go_ret
      exact ⟨rfl, b1.out⟩)
  rw [if_neg bad]
  have w1 : decide (c.what < 1) = false := decide_eq_false (fun z => bad (.inl z))
  have w2 : decide (4 < c.what) = false := decide_eq_false (fun z => bad (.inr (.inl z)))
  have w3 : M.timeB c.ses = true := by
    cases z : M.timeB c.ses with
    | true => rfl
    | false => exact absurd (.inr (.inr (.inl z))) bad
  have w4 : M.timeB c.seq = true := by
    cases z : M.timeB c.seq with
    | true => rfl
    | false => exact absurd (.inr (.inr (.inr (.inl z)))) bad
  have w5 : (c.seq == 0) = false := by rw [beq_eq_false_iff_ne]; exact fun z => bad (.inr (.inr (.inr (.inr z))))
  clear bad
  have sz := byStr_size c.name
  by_cases h1 : c.name = []
  · have E : Hid (M.nameB c.name = false) := by unfold Hid M.nameB; simp [h1]
    have q : (byStr c.name).toList.isEmpty = true := by rw [byStr_tl, h1]; rfl
    have q' : (byStr c.name).toList = [] := by rw [byStr_tl, h1]; rfl
    rw [E.out]
    clear h1 hb sz hl
    generalize byStr c.name = s at *
    go_enter Tryz.func30, Tryz.ntmps30
    go_upto_region 1 with fail
    rw [← hW1]
    clear hW1
    go_wp2_with (go_at_call 42; refine (TM.out _ _).mono ?_; rintro e w2 ⟨rfl, ew⟩; have ew2 := ew.symm; subst ew2)
    go_ret
    exact ⟨rfl, b1.out⟩
  have q' : ¬ (byStr c.name).toList = [] := by
    rw [byStr_tl]
    intro e
    exact h1 (List.map_eq_nil_iff.1 e)
  have q : (byStr c.name).toList.isEmpty = false := by
    rw [Bool.eq_false_iff, ne_eq, List.isEmpty_iff]
    exact q'
  by_cases h2 : 12 < c.name.length
  · have E : Hid (M.nameB c.name = false) := by
      unfold Hid M.nameB
      have : ¬ (c.name.length ≤ 12) := by omega
      simp [this]
    have g : decide ((12 : Int) < (c.name.length : Int)) = true := decide_eq_true (by omega)
    have g' : decide (12 < c.name.length) = true := decide_eq_true (by omega)
    rw [E.out]
    clear h1 hb
    generalize byStr c.name = s at *
    go_enter Tryz.func30, Tryz.ntmps30
    go_upto_region 1 with fail
    rw [← hW1]
    clear hW1
    go_wp2_with (go_at_call 42; refine (TM.out _ _).mono ?_; rintro e w2 ⟨rfl, ew⟩; have ew2 := ew.symm; subst ew2)
    go_ret
    exact ⟨rfl, b1.out⟩
  have g : decide ((12 : Int) < (c.name.length : Int)) = false := decide_eq_false (by omega)
  have g' : decide (12 < c.name.length) = false := decide_eq_false (by omega)
  have l12 : c.name.length ≤ 12 := by omega
  have EB : Hid (M.nameB c.name = c.name.all M.letB) := by
    unfold Hid M.nameB
    simp [h1, l12]
  generalize hR : (if M.nameB c.name = true then (0 : Int) else 2) = R at *
  have ER := hide hR
  clear hR
  have IX := hide (fun k (hk : k < c.name.length) V => idx_str hb hk V)
  clear h1 h2 hb
  generalize hnm : c.name = n at *
  clear hnm
  generalize byStr n = s at *
  go_enter Tryz.func30, Tryz.ntmps30
  go_upto_region 1 with fail
  rw [← hW1]
  clear hW1
  go_wp2_with (go_at_call 42; refine (TM.out _ _).mono ?_; rintro e w2 ⟨rfl, ew⟩; have ew2 := ew.symm; subst ew2)
  go_loopw [5] (fun i wr => ∃ k : Nat, k ≤ n.length ∧ i = .int .i64 k ∧ Hid ((n.take k).all M.letB = true) ∧ Hid (wr = W1)) (fun i _ => n.length - (intOf i).toNat)
  case atStart => exact ⟨0, Nat.zero_le _, rfl, rfl, rfl⟩
  case round =>
    obtain ⟨k, hk, rfl, OK, EW⟩ := hrel
    have ew := EW.out
    subst ew
    by_cases hlt : k < n.length
    · have kz : (k : Int) < (n.length : Int) := by omega
      have ix := IX.out k hlt wr
      have TK : Hid ((n.take (k + 1)).all M.letB = M.letB (n.getD k 0)) := by
        unfold Hid
        rw [List.take_succ_eq_append_getElem hlt, List.all_append, OK.out]
        simp [List.getD, hlt]
      have AL : Hid (M.letB (n.getD k 0) = false → n.all M.letB = false) := fun z => by
        rw [List.all_eq_false]
        exact ⟨n.getD k 0, by rw [show n.getD k 0 = n[k] by simp [List.getD, hlt]]; exact List.getElem_mem hlt, by rw [z]; decide⟩
      clear IX OK TM
      generalize n.getD k 0 = x at *
      by_cases bad : M.letB x = true
      · have b2 : 97 ≤ x ∧ x ≤ 122 := by unfold M.letB at bad; simpa using bad
        have t1 : decide ((x : Int) < 97) = false := decide_eq_false (by omega)
        have t2 : decide ((122 : Int) < (x : Int)) = false := decide_eq_false (by omega)
        have t3 : decide (x < 97) = false := decide_eq_false (by omega)
        have t4 : decide (122 < x) = false := decide_eq_false (by omega)
        have BD := hide bad
        clear bad b2
        go_wp2
        go_roundw
        case rel => exact ⟨k + 1, by omega, by go_num, (show Hid _ by unfold Hid; rw [TK.out]; exact BD.out), trivial⟩
        case measure => simp [intOf]; omega
      · have bd : M.letB x = false := by simpa using bad
        have E : Hid (M.nameB n = false) := by unfold Hid; rw [EB.out, AL.out bd]
        have ways : (decide ((x : Int) < 97) = true ∧ decide (x < 97) = true) ∨ (decide ((x : Int) < 97) = false ∧ decide (x < 97) = false ∧ decide ((122 : Int) < (x : Int)) = true ∧ decide (122 < x) = true) := by
          unfold M.letB at bd
          simp only [decide_eq_true_iff, decide_eq_false_iff_not, Bool.and_eq_false_iff] at bd ⊢
          omega
        clear bad bd TK AL EB
        rcases ways with ⟨t1, t2⟩ | ⟨t1, t2, t3, t4⟩
        all_goals (
          go_wp2
          go_ret
          exact ⟨by rw [← ER.out, E.out]; rfl, b1.out⟩)
    · have ek : k = n.length := by omega
      have kz : ¬ ((k : Int) < (n.length : Int)) := by omega
      have E : Hid (M.nameB n = true) := by
        unfold Hid
        rw [EB.out, ← OK.out, ek, List.take_length]
      clear ek OK EB IX TM
      go_wp2
      go_ret
      exact ⟨by rw [← ER.out, E.out]; rfl, b1.out⟩
end Go.Proofs.YtiggkjkjfnlfkaaGreatDoor

namespace Go.Proofs.YtiggkjkjfnlfkaaGreatDoor
open Go.ChangeShapes Go.WideShapes Go.ChangeAt Go.RowKit Go.Lib Go.Maps
set_option linter.unusedVariables false
set_option maxHeartbeats 16000000 in
set_option maxRecDepth 10000 in
theorem sh_unc {W : World} {f : Nat} {T : Nat → Nat} {S : M.Sh} {mm ml : Nat} {D E : DataW Value} {kb : Nat → Nat} {mb : List Nat → Nat} {va : List Nat → Option Addr} {vc : List Nat → Nat} {G : Nat → Gr} (h : SV W f T S mm ml D E kb mb va vc G) (c : M.Ca) (a : Option Addr) (cap : Nat) (hb : isB c.name) (hl : c.name.length ≤ 9223372036854775807) (hq : M.callF c ≠ 0 ∨ (M.was S c.ses).seq = c.seq ∨ c.seq < (M.was S c.ses).seq) :
    Calls Tryz.prog 34 #[.pointer (some ⟨f, 0, none⟩), caV c a cap] W fun e w' => e = .returned (.tuple #[anV (M.shDo S c).1, errV (M.shDo S c).2.1]) ∧ Below W.heap.size W w' := by
  unfold caV
  obtain ⟨W1, hW1⟩ : ∃ X, X = (W.alloc (.cells #[.int .i64 c.what, .int .i64 c.ses, .int .i64 c.seq, .string (byStr c.name), .int .i64 c.num, .int .i64 c.share, .slice a c.bys.length cap] 36)).alloc (.cells #[.int .i64 0, .int .i64 0] 31) := ⟨_, rfl⟩
  have z1 : W1.heap.size = W.heap.size + 1 + 1 := by rw [hW1]; simp
  have b1 : Hid (Below W.heap.size W W1) := by unfold Hid; rw [hW1]; exact ((Below.refl _ _).alloc (Nat.le_refl _) _).alloc (by simp) _
  have bx : Bx W1 W.heap.size [.int .i64 c.what, .int .i64 c.ses, .int .i64 c.seq, .string (byStr c.name), .int .i64 c.num, .int .i64 c.share, .slice a c.bys.length cap] := by rw [hW1]; exact (bx_new W _ _).keep (((Below.refl _ _).alloc (Nat.le_refl _) _).block _ (by simp))
  have ba : Bx W1 (W.heap.size + 1) [.int .i64 0, .int .i64 0] := by
    rw [hW1]
    have := bx_new (W.alloc (.cells #[.int .i64 c.what, .int .i64 c.ses, .int .i64 c.seq, .string (byStr c.name), .int .i64 c.num, .int .i64 c.share, .slice a c.bys.length cap] 36)) [.int .i64 0, .int .i64 0] 31
    rwa [show (W.alloc (.cells #[.int .i64 c.what, .int .i64 c.ses, .int .i64 c.seq, .string (byStr c.name), .int .i64 c.num, .int .i64 c.share, .slice a c.bys.length cap] 36)).heap.size = W.heap.size + 1 by simp] at this
  have SAME : Hid (∀ w', Below W.heap.size W w' → Below W.heap.size W w') := fun w' hw => hw
  have CK := hide (sh_check c a cap hb hl W1)
  unfold caV at CK
  have BX := hide bx
  have BA := hide ba
  have c0 := bx.cell 0 _ rfl
  have c1 := bx.cell 1 _ rfl
  have c2 := bx.cell 2 _ rfl
  have c3 := bx.cell 3 _ rfl
  have c4 := bx.cell 4 _ rfl
  have c5 := bx.cell 5 _ rfl
  have c6 := bx.cell 6 _ rfl
  clear bx ba
  by_cases q1 : M.callF c = 0
  case neg =>
    have ED : Hid (M.shDo S c = (M.an0, M.callF c, S)) := by unfold Hid M.shDo; rw [if_pos q1]
    rw [ED.out]
    simp only
    rw [err_some q1] at CK ⊢
    have KP : Hid (∀ w2, Below W1.heap.size W1 w2 → (w2.cell? ⟨W.heap.size + 1, 0, none⟩ = some (.int .i64 0) ∧ w2.cell? ⟨W.heap.size + 1, 1, none⟩ = some (.int .i64 0) ∧ w2.frozen? ⟨W.heap.size + 1, 0, none⟩ = false ∧ w2.frozen? ⟨W.heap.size + 1, 1, none⟩ = false)) := fun w2 hw => by
      have := BA.out.keep (hw.block _ BA.out.lt)
      exact ⟨this.cell 0 _ rfl, this.cell 1 _ rfl, this.free 0, this.free 1⟩
    have EA : Hid (anV M.an0 = .agg #[.int .i64 0, .int .i64 0]) := rfl
    rw [EA.out]
    have Z1 := hide z1
    clear h hq q1 ED hb hl z1
    generalize M.callF c = ce at *
    generalize byStr c.name = s at *
    go_enter Tryz.func34, Tryz.ntmps34
    go_upto_region 1 with fail
    rw [← hW1]
    clear hW1
    go_upto_region 3 with (go_at_call 80; refine CK.out.mono ?_; rintro e w2 ⟨rfl, h2⟩; obtain ⟨k0, k1, k2, k3⟩ := KP.out _ h2; have H2 := hide h2; clear h2)
    go_wp2
    refine bodyPost_ret (v := .tuple #[.agg #[.int .i64 0, .int .i64 0], .iface 90 (.int .i64 ce)]) (by simp [results, Tryz.results34, go_sem, k0, k1]) rfl ?_
    refine ⟨rfl, SAME.out _ ?_⟩
    have := Z1.out
    exact ((below_on b1.out H2.out).setCell (by show W.heap.size ≤ W.heap.size + 1; omega) _).setCell (by show W.heap.size ≤ W.heap.size + 1; omega) _
  have q2 := hq.resolve_left (fun z => z q1)
  obtain ⟨_, ses1, seq1, _⟩ := M.call_seq q1
  have KP : Hid (∀ w2, Below W1.heap.size W1 w2 → (∀ j, w2.cell? ⟨W.heap.size, j, none⟩ = W1.cell? ⟨W.heap.size, j, none⟩) ∧ Bx w2 (W.heap.size + 1) [.int .i64 0, .int .i64 0] ∧ w2.cell? ⟨f, 1, none⟩ = some (.map (some ml)) ∧ (Instr.lookup 77 (.map (some ml)) (.int .i64 c.ses) false).run Tryz.prog w2 = .ok (lastV (M.was S c.ses)) w2 ∧ (Instr.lookup 77 (.map (some ml)) (.int .i64 c.ses) false).run Tryz.prog w2.drew = .ok (lastV (M.was S c.ses)) w2.drew ∧ (Instr.lookup 77 (.map (some ml)) (.int .i64 c.ses) false).run Tryz.prog (w2.alloc (.cells #[.int .i64 0, .int .i64 0, .int .i64 0, .nilIface] 87)) = .ok (lastV (M.was S c.ses)) (w2.alloc (.cells #[.int .i64 0, .int .i64 0, .int .i64 0, .nilIface] 87)) ∧ (Instr.lookup 77 (.map (some ml)) (.int .i64 c.ses) false).run Tryz.prog (w2.alloc (.cells #[.int .i64 0, .int .i64 0, .int .i64 0, .nilIface] 87)).drew = .ok (lastV (M.was S c.ses)) (w2.alloc (.cells #[.int .i64 0, .int .i64 0, .int .i64 0, .nilIface] 87)).drew) := fun w2 hw => by
    have hb := below_on b1.out hw
    have h2 := h.below hb
    have h3 := h.below hb.drew
    exact ⟨fun j => hw.cell (p := ⟨W.heap.size, j, none⟩) BX.out.lt, BA.out.keep (hw.block _ BA.out.lt), h2.box.cell 1 _ rfl, h2.lookL ses1, h3.lookL ses1, (h.below (hb.alloc hb.size _)).lookL ses1, (h.below (hb.alloc hb.size _).drew).lookL ses1⟩
  unfold lastV at KP
  rw [err_nil q1] at CK
  rw [M.do_is q1]
  have Z1 := hide z1
  have fl : f < W.heap.size := h.lt
  by_cases q3 : (M.was S c.ses).seq = c.seq
  · rw [if_pos q3]
    simp only
    have g1 : (c.seq == (M.was S c.ses).seq) = true := by rw [q3, beq_self_eq_true]
    have EA : Hid (anV (M.was S c.ses).ans = .agg #[.int .i64 (M.was S c.ses).ans.num, .int .i64 (M.was S c.ses).ans.idx]) := rfl
    rw [EA.out]
    clear h hq q1 q2 q3 hb hl z1 ses1 seq1
    generalize (M.was S c.ses).seq = y0 at *
    generalize (M.was S c.ses).ans.num = y1 at *
    generalize (M.was S c.ses).ans.idx = y2 at *
    have ways := err_ways (M.was S c.ses).bad
    generalize errV (M.was S c.ses).bad = y3 at *
    generalize byStr c.name = s at *
    obtain rfl | ⟨x3, rfl⟩ := ways
    · go_enter Tryz.func34, Tryz.ntmps34
      go_upto_region 1 with fail
      rw [← hW1]
      clear hW1
      go_upto_region 4 with (go_at_call 80; refine CK.out.mono ?_; rintro e w2 ⟨rfl, h2⟩; obtain ⟨kc, ka, k1, lk, lkd, lka, lkad⟩ := KP.out _ h2; have H2 := hide h2; clear h2)
      have d1 := (kc 1).trans c1
      have d2 := (kc 2).trans c2
      have zl : Hid (W.heap.size + 1 < w2.heap.size) := ka.lt
      have l1 : W.heap.size < w2.heap.size := by have := zl.out; omega
      have l2 : ¬ W.heap.size = w2.heap.size := by omega
      have l3 : W.heap.size + 1 < w2.heap.size := zl.out
      have l4 : ¬ W.heap.size + 1 = w2.heap.size := by omega
      have l5 : ¬ w2.heap.size = W.heap.size + 1 := by omega
      have l6 : f < w2.heap.size := by omega
      have l7 : ¬ f = w2.heap.size := by omega
      have pb : Bx (((w2.setCell ⟨W.heap.size + 1, 0, none⟩ (.int .i64 y1)).setCell ⟨W.heap.size + 1, 1, none⟩ (.int .i64 y2)).alloc (.cells #[.int .i64 y0, .int .i64 y1, .int .i64 y2, .nilIface] 87)) (W.heap.size + 1) [.int .i64 y1, .int .i64 y2] := ((ka.put (j := 0) (v := .int .i64 y1)).put (j := 1) (v := .int .i64 y2)).keep (((Below.refl _ _).alloc (Nat.le_refl _) _).block _ (by simp; exact zl.out))
      have e0 := pb.cell 0 _ rfl
      have e1 := pb.cell 1 _ rfl
      clear pb
      have a0 := ka.cell 0 _ rfl
      have a1 := ka.cell 1 _ rfl
      have f0 := ka.free 0
      have f1 := ka.free 1
      clear kc ka c0 c1 c2 c3 c4 c5 c6 CK KP
      go_region_with (fail)
      all_goals (
        go_upto_region 6 with fail
        go_region_with (fail)
        all_goals (
          go_simp
          go_wp2
          refine bodyPost_ret (v := .tuple #[.agg #[.int .i64 y1, .int .i64 y2], .nilIface]) (by simp [results, Tryz.results34, go_sem, e0, e1]) rfl ?_
          refine ⟨rfl, SAME.out _ ?_⟩
          have B2 := below_on b1.out H2.out
          repeat (first
            | exact B2
            | refine Below.setCell ?_ (show W.heap.size ≤ W.heap.size + 1 by omega) _
            | refine Below.drew ?_
            | refine Below.alloc ?_ (show W.heap.size ≤ _ by simp only [World.size_setCell]; omega) _)))
    · go_enter Tryz.func34, Tryz.ntmps34
      go_upto_region 1 with fail
      rw [← hW1]
      clear hW1
      go_upto_region 4 with (go_at_call 80; refine CK.out.mono ?_; rintro e w2 ⟨rfl, h2⟩; obtain ⟨kc, ka, k1, lk, lkd, lka, lkad⟩ := KP.out _ h2; have H2 := hide h2; clear h2)
      have d1 := (kc 1).trans c1
      have d2 := (kc 2).trans c2
      have zl : Hid (W.heap.size + 1 < w2.heap.size) := ka.lt
      have l1 : W.heap.size < w2.heap.size := by have := zl.out; omega
      have l2 : ¬ W.heap.size = w2.heap.size := by omega
      have l3 : W.heap.size + 1 < w2.heap.size := zl.out
      have l4 : ¬ W.heap.size + 1 = w2.heap.size := by omega
      have l5 : ¬ w2.heap.size = W.heap.size + 1 := by omega
      have l6 : f < w2.heap.size := by omega
      have l7 : ¬ f = w2.heap.size := by omega
      have pb : Bx (((w2.setCell ⟨W.heap.size + 1, 0, none⟩ (.int .i64 y1)).setCell ⟨W.heap.size + 1, 1, none⟩ (.int .i64 y2)).alloc (.cells #[.int .i64 y0, .int .i64 y1, .int .i64 y2, .iface 90 (.int .i64 x3)] 87)) (W.heap.size + 1) [.int .i64 y1, .int .i64 y2] := ((ka.put (j := 0) (v := .int .i64 y1)).put (j := 1) (v := .int .i64 y2)).keep (((Below.refl _ _).alloc (Nat.le_refl _) _).block _ (by simp; exact zl.out))
      have e0 := pb.cell 0 _ rfl
      have e1 := pb.cell 1 _ rfl
      clear pb
      have a0 := ka.cell 0 _ rfl
      have a1 := ka.cell 1 _ rfl
      have f0 := ka.free 0
      have f1 := ka.free 1
      clear kc ka c0 c1 c2 c3 c4 c5 c6 CK KP
      go_region_with (fail)
      all_goals (
        go_upto_region 6 with fail
        go_region_with (fail)
        all_goals (
          go_simp
          go_wp2
          refine bodyPost_ret (v := .tuple #[.agg #[.int .i64 y1, .int .i64 y2], .iface 90 (.int .i64 x3)]) (by simp [results, Tryz.results34, go_sem, e0, e1]) rfl ?_
          refine ⟨rfl, SAME.out _ ?_⟩
          have B2 := below_on b1.out H2.out
          repeat (first
            | exact B2
            | refine Below.setCell ?_ (show W.heap.size ≤ W.heap.size + 1 by omega) _
            | refine Below.drew ?_
            | refine Below.alloc ?_ (show W.heap.size ≤ _ by simp only [World.size_setCell]; omega) _)))
  have q4 : c.seq < (M.was S c.ses).seq := q2.resolve_left q3
  rw [if_neg q3, if_pos q4]
  simp only
  have g1 : (c.seq == (M.was S c.ses).seq) = false := by rw [beq_eq_false_iff_ne]; omega
  have g2 : decide (c.seq < (M.was S c.ses).seq) = true := decide_eq_true q4
  have EA : Hid (anV M.an0 = .agg #[.int .i64 0, .int .i64 0]) := rfl
  rw [EA.out, err_some (show (6 : Int) ≠ 0 by decide)]
  clear h hq q1 q2 q3 q4 hb hl z1 ses1 seq1
  generalize (M.was S c.ses).seq = y0 at *
  generalize (M.was S c.ses).ans.num = y1 at *
  generalize (M.was S c.ses).ans.idx = y2 at *
  have ways := err_ways (M.was S c.ses).bad
  generalize errV (M.was S c.ses).bad = y3 at *
  generalize byStr c.name = s at *
  obtain rfl | ⟨x3, rfl⟩ := ways
  · go_enter Tryz.func34, Tryz.ntmps34
    go_upto_region 1 with fail
    rw [← hW1]
    clear hW1
    go_upto_region 4 with (go_at_call 80; refine CK.out.mono ?_; rintro e w2 ⟨rfl, h2⟩; obtain ⟨kc, ka, k1, lk, lkd, lka, lkad⟩ := KP.out _ h2; have H2 := hide h2; clear h2)
    have d1 := (kc 1).trans c1
    have d2 := (kc 2).trans c2
    have zl : Hid (W.heap.size + 1 < w2.heap.size) := ka.lt
    have l1 : W.heap.size < w2.heap.size := by have := zl.out; omega
    have l2 : ¬ W.heap.size = w2.heap.size := by omega
    have l3 : W.heap.size + 1 < w2.heap.size := zl.out
    have l4 : ¬ W.heap.size + 1 = w2.heap.size := by omega
    have l5 : ¬ w2.heap.size = W.heap.size + 1 := by omega
    have l6 : f < w2.heap.size := by omega
    have l7 : ¬ f = w2.heap.size := by omega
    have pb : Bx (((w2.setCell ⟨W.heap.size + 1, 0, none⟩ (.int .i64 0)).setCell ⟨W.heap.size + 1, 1, none⟩ (.int .i64 0)).alloc (.cells #[.int .i64 y0, .int .i64 y1, .int .i64 y2, .nilIface] 87)) (W.heap.size + 1) [.int .i64 0, .int .i64 0] := ((ka.put (j := 0) (v := .int .i64 0)).put (j := 1) (v := .int .i64 0)).keep (((Below.refl _ _).alloc (Nat.le_refl _) _).block _ (by simp; exact zl.out))
    have e0 := pb.cell 0 _ rfl
    have e1 := pb.cell 1 _ rfl
    clear pb
    have a0 := ka.cell 0 _ rfl
    have a1 := ka.cell 1 _ rfl
    have f0 := ka.free 0
    have f1 := ka.free 1
    clear kc ka c0 c1 c2 c3 c4 c5 c6 CK KP
    go_region_with (fail)
    all_goals (
      go_wp2
      refine bodyPost_ret (v := .tuple #[.agg #[.int .i64 0, .int .i64 0], .iface 90 (.int .i64 6)]) (by simp [results, Tryz.results34, go_sem, e0, e1]) rfl ?_
      refine ⟨rfl, SAME.out _ ?_⟩
      have B2 := below_on b1.out H2.out
      repeat (first
        | exact B2
        | refine Below.setCell ?_ (show W.heap.size ≤ W.heap.size + 1 by omega) _
        | refine Below.drew ?_
        | refine Below.alloc ?_ (show W.heap.size ≤ _ by simp only [World.size_setCell]; omega) _))
  · go_enter Tryz.func34, Tryz.ntmps34
    go_upto_region 1 with fail
    rw [← hW1]
    clear hW1
    go_upto_region 4 with (go_at_call 80; refine CK.out.mono ?_; rintro e w2 ⟨rfl, h2⟩; obtain ⟨kc, ka, k1, lk, lkd, lka, lkad⟩ := KP.out _ h2; have H2 := hide h2; clear h2)
    have d1 := (kc 1).trans c1
    have d2 := (kc 2).trans c2
    have zl : Hid (W.heap.size + 1 < w2.heap.size) := ka.lt
    have l1 : W.heap.size < w2.heap.size := by have := zl.out; omega
    have l2 : ¬ W.heap.size = w2.heap.size := by omega
    have l3 : W.heap.size + 1 < w2.heap.size := zl.out
    have l4 : ¬ W.heap.size + 1 = w2.heap.size := by omega
    have l5 : ¬ w2.heap.size = W.heap.size + 1 := by omega
    have l6 : f < w2.heap.size := by omega
    have l7 : ¬ f = w2.heap.size := by omega
    have pb : Bx (((w2.setCell ⟨W.heap.size + 1, 0, none⟩ (.int .i64 0)).setCell ⟨W.heap.size + 1, 1, none⟩ (.int .i64 0)).alloc (.cells #[.int .i64 y0, .int .i64 y1, .int .i64 y2, .iface 90 (.int .i64 x3)] 87)) (W.heap.size + 1) [.int .i64 0, .int .i64 0] := ((ka.put (j := 0) (v := .int .i64 0)).put (j := 1) (v := .int .i64 0)).keep (((Below.refl _ _).alloc (Nat.le_refl _) _).block _ (by simp; exact zl.out))
    have e0 := pb.cell 0 _ rfl
    have e1 := pb.cell 1 _ rfl
    clear pb
    have a0 := ka.cell 0 _ rfl
    have a1 := ka.cell 1 _ rfl
    have f0 := ka.free 0
    have f1 := ka.free 1
    clear kc ka c0 c1 c2 c3 c4 c5 c6 CK KP
    go_region_with (fail)
    all_goals (
      go_wp2
      refine bodyPost_ret (v := .tuple #[.agg #[.int .i64 0, .int .i64 0], .iface 90 (.int .i64 6)]) (by simp [results, Tryz.results34, go_sem, e0, e1]) rfl ?_
      refine ⟨rfl, SAME.out _ ?_⟩
      have B2 := below_on b1.out H2.out
      repeat (first
        | exact B2
        | refine Below.setCell ?_ (show W.heap.size ≤ W.heap.size + 1 by omega) _
        | refine Below.drew ?_
        | refine Below.alloc ?_ (show W.heap.size ≤ _ by simp only [World.size_setCell]; omega) _))
end Go.Proofs.YtiggkjkjfnlfkaaGreatDoor
