/-
  Several texts as one: RefLgF.
-/
import Derived.Test.YtjjfmepinpmkfaaDoorRunP16
import Derived.Deep.QuietTactic
namespace Go.Proofs.YtjjfmepinpmkfaaDoor
open Go.ChangeShapes Go.WideShapes Go.ChangeAt Go.RowKit Go.Lib
set_option linter.unusedVariables false
theorem rng_true {c : M.Ca} (h : M.rngF c = true) : decide (c.what < 1) = false ∧ decide (4 < c.what) = false ∧ M.timeB c.ses = true ∧ M.timeB c.seq = true ∧ M.timeB c.num = true ∧ M.timeB c.share = true := by
  have r := M.rng_in h
  unfold M.rngF at h
  simp only [Bool.and_eq_true] at h
  exact ⟨decide_eq_false (by omega), decide_eq_false (by omega), h.1.1.1.2, h.1.1.2, h.1.2, h.2⟩

set_option maxHeartbeats 16000000 in
set_option maxRecDepth 10000 in
theorem rl_Append_ok {w : World} {r : Nat} {ca : Option Addr} {cc : Nat} {al : List CaC} {ba : Option Addr} {bc : Nat} {L : M.Lg} {left : Int} (h : RL w r ca cc al ba bc L left) {c : M.Ca} {a : Option Addr} {cap : Nat} (hi : CaIn w c a cap) (hr : M.rngF c = true) (hl : c.name.length + c.bys.length ≤ 140737488350000) :
    Calls Tryd.prog 7 #[.pointer (some ⟨r, 0, none⟩), caV c a cap] w fun e w' => e = .returned (.int .i64 (M.apF L c)) ∧ LeftR w r ca ba (if M.apF L c = 0 then al ++ [(c, a, cap)] else al) (M.apL L c) w' := by
  have FIN := hide (fun w' (hb : Below w.heap.size w w') => h.leave hb)
  have HB := hide (fun w' (hb : Below w.heap.size w w') => h.below hb)
  have six : ∀ x ∈ M.sixL c, M.I64 x := fun x hx => by
    have g := M.rng_in hr
    unfold M.sixL at hx
    simp only [List.mem_cons, List.not_mem_nil, or_false] at hx
    unfold M.I64
    rcases hx with e | e | e | e | e | e <;> omega
  have RCD := hide (fun V (hV : Below w.heap.size w V) => rl_record c a cap V (hi.below hV) six hl)
  have wl := h.ok.wh
  have LO := hide h.ok
  have NM := hide hi.nb
  have BY := hide hi.rd.2.1
  have CIN := hide hi
  have RB8 : Hid (∀ x ∈ M.recL c, x < 256) := fun x hx => by
    unfold M.recL at hx
    rcases List.mem_append.1 hx with q | q
    · exact M.sev_byte _ x q
    · unfold M.bodL at q
      rcases List.mem_append.1 q with q | q
      · rcases List.mem_append.1 q with q | q
        · exact M.bys_byte _ x q
        · exact hi.nb x q
      · exact hi.rd.2.1 x q
  have sz := byStr_sizeN c.name
  unfold caV at RCD ⊢
  obtain ⟨W1, hW1⟩ : ∃ X, X = w.alloc (.cells #[.int .i64 c.what, .int .i64 c.ses, .int .i64 c.seq, .string (byStr c.name), .int .i64 c.num, .int .i64 c.share, .slice a c.bys.length cap] 33) := ⟨_, rfl⟩
  have b1 : Hid (Below w.heap.size w W1) := by unfold Hid; rw [hW1]; exact (Below.refl _ _).alloc (Nat.le_refl _) _
  have bx := caBx w c a cap
  rw [← hW1] at bx
  have c0 := bx.cell 0 _ rfl
  have c1 := bx.cell 1 _ rfl
  have c2 := bx.cell 2 _ rfl
  have c3 := bx.cell 3 _ rfl
  have c4 := bx.cell 4 _ rfl
  have c5 := bx.cell 5 _ rfl
  have c6 := bx.cell 6 _ rfl
  have BXH := hide bx
  obtain ⟨g1, g2, t1, t2, t3, t4⟩ := rng_true hr
  have T1 := hide (rl_time c.ses W1)
  have T2 := hide (rl_time c.seq W1)
  have T3 := hide (rl_time c.num W1)
  have T4 := hide (rl_time c.share W1)
  rw [t1] at T1
  rw [t2] at T2
  rw [t3] at T3
  rw [t4] at T4
  have AF : Hid (M.apF L c = if 100 < c.name.length ∨ 6000 < c.bys.length ∨ 100000 < L.whole + (M.recL c).length then 4 else if M.stpF L = true then 9 else 0) := by unfold Hid M.apF; rw [if_neg (by rw [hr]; decide)]
  have BWX : Hid (∀ V, Below W1.heap.size W1 V → Bx V w.heap.size [.int .i64 c.what, .int .i64 c.ses, .int .i64 c.seq, .string (byStr c.name), .int .i64 c.num, .int .i64 c.share, .slice a c.bys.length cap] ∧ Below w.heap.size w V) := fun V hV => ⟨BXH.out.keep (hV.block _ BXH.out.lt), b1.out.trans (hV.mono b1.out.size)⟩
  have RL8 : Hid ((M.recL c).length ≤ 140737488350100) := by
    have e : (M.bodL c).length = (M.bysL (M.sixL c)).length + c.name.length + c.bys.length := by unfold M.bodL; rw [List.length_append, List.length_append]
    have b := M.bys_len (M.sixL c) six
    have s6 : (M.sixL c).length = 6 := rfl
    have n := (M.num_len (n := ((M.bodL c).length : Int)) (by omega) (by omega)).2
    unfold Hid M.recL
    rw [List.length_append]
    omega
  clear bx h hi t1 t2 t3 t4 six BXH
  obtain ⟨al2, hal2⟩ : ∃ x, x = if M.apF L c = 0 then al ++ [(c, a, cap)] else al := ⟨_, rfl⟩
  obtain ⟨ae, hae⟩ : ∃ x, x = M.apF L c := ⟨_, rfl⟩
  rw [← hal2, ← hae]
  have AL2 := hide hal2
  have AE := hide hae
  clear hal2 hae
  go_enter Tryd.func7, Tryd.ntmps7
  go_upto_region 1 with fail
  rw [← hW1]
  clear hW1
  go_upto_region 2 with (go_at_call 22; refine T1.out.mono ?_; rintro e w2 ⟨rfl, ew⟩; have ew2 := ew.symm; subst ew2)
  go_upto_region 3 with (go_at_call 22; refine T2.out.mono ?_; rintro e w2 ⟨rfl, ew⟩; have ew2 := ew.symm; subst ew2)
  go_upto_region 4 with (go_at_call 22; refine T3.out.mono ?_; rintro e w2 ⟨rfl, ew⟩; have ew2 := ew.symm; subst ew2)
  go_upto_region 5 with (go_at_call 22; refine T4.out.mono ?_; rintro e w2 ⟨rfl, ew⟩; have ew2 := ew.symm; subst ew2)
  clear T1 T2 T3 T4
  have RC1 := hide (RCD.out W1 b1.out)
  go_upto_region 8 with (go_at_call 23; refine RC1.out.mono ?_; rintro e w3 ⟨vb, vbc, rfl, ho3, hb3⟩; have O3 := hide ho3; have K31 := hide hb3; clear ho3 hb3)
  clear RC1 RCD c0 c1 c2 c3 c4 c5 c6 g1 g2
  obtain ⟨bx3, bl3⟩ := BWX.out w3 K31.out
  have K3 := hide bl3
  have H3 := hide (HB.out w3 bl3)
  have d3 := bx3.cell 3 _ rfl
  have d6 := bx3.cell 6 _ rfl
  have f2 := H3.out.box.cell 2 _ rfl
  have f5 := H3.out.box.cell 5 _ rfl
  clear bl3 bx3
  have rl8 := RL8.out
  obtain ⟨wh, hwh⟩ : ∃ x, x = L.whole := ⟨_, rfl⟩
  obtain ⟨rn, hrn⟩ : ∃ x, x = (M.recL c).length := ⟨_, rfl⟩
  have EW := hide hwh
  have EN := hide hrn
  rw [← hwh, ← hrn] at AF
  rw [← hwh] at wl
  replace f2 : w3.cell? ⟨r, 2, none⟩ = some (.int .i64 (wh : Int)) := by rw [hwh]; exact f2
  rw [← hrn] at O3 rl8 ⊢
  clear hwh hrn RL8
  have wr : IntKind.i64.wrap ((wh : Int) + (rn : Int)) = (wh : Int) + (rn : Int) := i64_in (by omega) (by omega)
  by_cases q4 : 100 < c.name.length ∨ 6000 < c.bys.length ∨ 100000 < wh + rn
  · have e4 := AF.out
    rw [if_pos q4] at e4
    have E4 : Hid (ae = 4) := AE.out.trans e4
    have DONE : Hid (LeftR w r ca ba al2 (M.apL L c) w3) := by
      unfold Hid
      rw [AL2.out, if_neg (by rw [e4]; decide), M.ap_same (.inr e4)]
      exact FIN.out w3 K3.out
    have ways : decide ((100 : Int) < (c.name.length : Int)) = true ∨ (decide ((100 : Int) < (c.name.length : Int)) = false ∧ decide ((6000 : Int) < (c.bys.length : Int)) = true) ∨ (decide ((100 : Int) < (c.name.length : Int)) = false ∧ decide ((6000 : Int) < (c.bys.length : Int)) = false ∧ decide ((100000 : Int) < (wh : Int) + (rn : Int)) = true) := by
      simp only [decide_eq_true_iff, decide_eq_false_iff_not]; omega
    have ways' : (decide (100 < c.name.length) = decide ((100 : Int) < (c.name.length : Int))) ∧ (decide (6000 < c.bys.length) = decide ((6000 : Int) < (c.bys.length : Int))) := ⟨decide_eq_decide.2 (by omega), decide_eq_decide.2 (by omega)⟩
    obtain ⟨u1, u2⟩ := ways'
    clear q4 e4 AF
    generalize c.name.length = nn at *
    generalize c.bys.length = bn at *
    rcases ways with g1 | ⟨g1, g2⟩ | ⟨g1, g2, g3⟩
    all_goals (
      go_wp2
      go_ret
      exact ⟨by rw [E4.out]; rfl, DONE.out⟩)
  have e4 := AF.out
  rw [if_neg q4] at e4
  clear AF
  have g1 : decide ((100 : Int) < (c.name.length : Int)) = false := decide_eq_false (by omega)
  have g1' : decide (100 < c.name.length) = false := decide_eq_false (by omega)
  have g2 : decide ((6000 : Int) < (c.bys.length : Int)) = false := decide_eq_false (by omega)
  have g2' : decide (6000 < c.bys.length) = false := decide_eq_false (by omega)
  have g3 : decide ((100000 : Int) < (wh : Int) + (rn : Int)) = false := decide_eq_false (by omega)
  have sm : wh + rn ≤ 100000 := by omega
  cases hst : L.stop with
  | true =>
    have f5' : w3.cell? ⟨r, 5, none⟩ = some (.bool true) := by rw [← hst]; exact f5
    rw [if_pos (by unfold M.stpF; rw [hst]; rfl)] at e4
    have E9 : Hid (ae = 9) := AE.out.trans e4
    have DONE : Hid (LeftR w r ca ba al2 (M.apL L c) w3) := by
      unfold Hid
      have same : M.apL L c = L := by unfold M.apL; rw [if_pos (.inr (.inr hst))]
      rw [AL2.out, if_neg (by rw [e4]; decide), same]
      exact FIN.out w3 K3.out
    clear e4 q4 f5
    go_wp2
    go_ret
    exact ⟨by rw [E9.out]; rfl, DONE.out⟩
  | false =>
    have f5' : w3.cell? ⟨r, 5, none⟩ = some (.bool false) := by rw [← hst]; exact f5
    have f1 := H3.out.box.cell 1 _ rfl
    have z1 := H3.out.box.free 1
    have yb : wh ≤ bc := by
      have a1 := LO.out.len.1
      have : L.bytes.length ≤ bc := by
        rcases H3.out.bo.2 with ⟨hv, h0⟩ | ⟨g, cp, cur, hv, _, _, hc1, _⟩
        · rw [h0]; exact Nat.zero_le _
        · cases hv; exact hc1
      have := EW.out
      omega
    have yb' : (wh : Int) ≤ (bc : Int) := by omega
    clear f5 q4
    generalize L.bytes.length = bn0 at *
    go_upto_region 12 with fail
    have kd : w3.drew.cell? ⟨r, 2, none⟩ = some (.int .i64 (wh : Int)) := f2
    refine wp_region_held_drew (S := fun V => V.cell? ⟨r, 2, none⟩ = some (.int .i64 (wh : Int))) (by kernel_rfl) kd (fun hHeld => ?_)
    refine take_lg (i := 0) (d := some 75) (v := ?v1) rfl rfl (by kernel_rfl) (by kernel_rfl) (by kernel_rfl) (fun _ _ _ h => h) (Or.inl ⟨by rfl, ?h1⟩) (by assumption) ?r1
    case h1 => (intro V hSw; go_simp; (try with_reducible rfl))
    simp only [Act.put, List.setIfInBounds_toArray, List.set_cons_zero, List.set_cons_succ]
    refine take_lg (i := 1) (d := some 76) (v := ?v2) rfl rfl (by kernel_rfl) (by kernel_rfl) (by kernel_rfl) (fun _ _ _ h => h) (Or.inl ⟨by rfl, ?h2⟩) (by assumption) ?r2
    case h2 => (intro V hSw; go_simp; (try with_reducible rfl))
    simp only [Act.put, List.setIfInBounds_toArray, List.set_cons_zero, List.set_cons_succ]
    refine take_lg (i := 2) (d := some 77) (v := ?v3) rfl rfl (by kernel_rfl) (by kernel_rfl) (by kernel_rfl) (fun _ _ _ h => h) (Or.inl ⟨by rfl, ?h3⟩) (by assumption) ?r3
    case h3 => (intro V hSw; go_simp; (try with_reducible rfl))
    simp only [Act.put, List.setIfInBounds_toArray, List.set_cons_zero, List.set_cons_succ]
    refine take_lg (i := 3) (d := some 78) (v := ?v4) rfl rfl (by kernel_rfl) (by kernel_rfl) (by kernel_rfl) (fun _ _ _ h => h) (Or.inl ⟨by rfl, ?h4⟩) (by assumption) ?r4
    case h4 => (intro V hSw; go_simp; (try with_reducible rfl))
    simp only [Act.put, List.setIfInBounds_toArray, List.set_cons_zero, List.set_cons_succ]
    refine take_lg (i := 5) (d := some 80) (v := ?v5) rfl rfl (by kernel_rfl) (by kernel_rfl) (by kernel_rfl) (fun _ _ _ h => h) (Or.inl ⟨by rfl, ?h5⟩) (by assumption) ?r5
    case h5 => (intro V hSw; go_simp; (try with_reducible rfl))
    simp only [Act.put, List.setIfInBounds_toArray, List.set_cons_zero, List.set_cons_succ]
    refine take_lg (i := 6) (d := some 81) (v := ?v6) rfl rfl (by kernel_rfl) (by kernel_rfl) (by kernel_rfl) (fun _ _ _ h => h) (Or.inl ⟨by rfl, ?h6⟩) (by assumption) ?r6
    case h6 => (intro V hSw; go_simp; (try with_reducible rfl))
    simp only [Act.put, List.setIfInBounds_toArray, List.set_cons_zero, List.set_cons_succ]
    refine take_lg (i := 7) (d := some 82) (v := ?v7) rfl rfl (by kernel_rfl) (by kernel_rfl) (by kernel_rfl) (fun _ _ _ h => h) (Or.inl ⟨by rfl, ?h7⟩) (by assumption) ?r7
    case h7 => (intro V hSw; go_simp; (try with_reducible rfl))
    simp only [Act.put, List.setIfInBounds_toArray, List.set_cons_zero, List.set_cons_succ]
    refine take_lg (i := 8) (d := some 83) (v := ?v8) rfl rfl (by kernel_rfl) (by kernel_rfl) (by kernel_rfl) (fun _ _ _ h => h) (Or.inl ⟨by rfl, ?h8⟩) (by assumption) ?r8
    case h8 => (intro V hSw; go_simp; (try with_reducible rfl))
    simp only [Act.put, List.setIfInBounds_toArray, List.set_cons_zero, List.set_cons_succ]
    refine wpAnyH_ready (rs := [4]) (by kernel_rfl) (by simp) ?_
    refine AllReadyH.cons rfl (fun K hK => ?_) AllReadyH.nil
    go_simp
    refine hK.out _ _ (by assumption) (fun hHeld4 => ?_)
    clear hK K hHeld4
    try simp only [Act.put, List.setIfInBounds_toArray, List.set_cons_zero, List.set_cons_succ]
    refine take_lg (i := 9) (d := some 84) (v := ?v9) rfl rfl (by kernel_rfl) (by kernel_rfl) (by kernel_rfl) (fun _ _ _ h => h) (Or.inl ⟨by rfl, ?h9⟩) (by assumption) ?r9
    case h9 => (intro V hSw; go_simp; (try with_reducible rfl))
    simp only [Act.put, List.setIfInBounds_toArray, List.set_cons_zero, List.set_cons_succ]
    refine take_lg (i := 10) (d := some 85) (v := ?v10) rfl rfl (by kernel_rfl) (by kernel_rfl) (by kernel_rfl) (fun _ _ _ h => h) (Or.inl ⟨by rfl, ?h10⟩) (by assumption) ?r10
    case h10 => (intro V hSw; go_simp; (try with_reducible rfl))
    simp only [Act.put, List.setIfInBounds_toArray, List.set_cons_zero, List.set_cons_succ]
    refine take_lg (i := 11) (d := some 86) (v := ?v11) rfl rfl (by kernel_rfl) (by kernel_rfl) (by kernel_rfl) (fun _ _ _ h => h) (Or.inl ⟨by rfl, ?h11⟩) (by assumption) ?r11
    case h11 => (intro V hSw; go_simp; (try with_reducible rfl))
    simp only [Act.put, List.setIfInBounds_toArray, List.set_cons_zero, List.set_cons_succ]
    refine wpAnyH_ready (rs := [12]) (by kernel_rfl) (by simp) ?_
    refine AllReadyH.cons rfl (fun K hK => ?_) AllReadyH.nil
    go_simp
    have kd2 : (w3.drew.setCell ⟨r, 1, none⟩ (.slice ba wh bc)).cell? ⟨r, 2, none⟩ = some (.int .i64 (wh : Int)) := cell_set_other kd (by decide)
    refine hK.out _ _ kd2 (fun hHeld5 => ?_)
    clear hK K hHeld5
    try simp only [Act.put, List.setIfInBounds_toArray, List.set_cons_zero, List.set_cons_succ]
    refine wpAnyH_done (by kernel_rfl) ?_ _
    obtain ⟨W4, hW4⟩ : ∃ X, X = (w3.setCell ⟨r, 1, none⟩ (.slice ba wh bc)).drew := ⟨_, rfl⟩
    rw [← hW4]
    have bx4 : Bx W4 r [.slice ca al.length cc, .slice ba wh bc, .int .i64 (wh : Int), .int .i64 (L.safe : Int), .int .i64 left, .bool L.stop] := by
      rw [hW4]
      have := H3.out.box.put (j := 1) (v := .slice ba wh bc)
      have e : (rlL ca cc al.length ba bc L left).set 1 (.slice ba wh bc) = [.slice ca al.length cc, .slice ba wh bc, .int .i64 (wh : Int), .int .i64 (L.safe : Int), .int .i64 left, .bool L.stop] := by unfold rlL; rw [← EW.out]; rfl
      rw [e] at this
      exact this.keep rfl
    have S4 : Hid (StayBut (fun q => q = r) w3 W4) := by
      unfold Hid
      rw [hW4]
      exact StayBut.trans (K := fun q => q = r) (stay_set (K := fun q => q = r) rfl) (stay_of ((Below.refl _ _).drew) (Nat.le_refl _))
    clear hW4 kd kd2 f1 f2 f5' z1 hHeld d3 d6 g1 g1' g2 g2' g3
    have f2 := bx4.cell 2 _ rfl
    have f3 := bx4.cell 3 _ rfl
    have z3 := bx4.free 3
    have okC : M.LgOk ⟨L.calls, [], min L.safe wh, L.ahead, L.stop⟩ := by
      have := M.cutG_ok LO.out L.whole LO.out.len.1
      rw [M.cutG_whole LO.out, ← EW.out] at this
      exact this
    have MK : Hid (∀ V : World, Bx V r [.slice ca al.length cc, .slice ba wh bc, .int .i64 (wh : Int), .int .i64 ((min L.safe wh : Nat) : Int), .int .i64 left, .bool L.stop] → StayBut (fun q => q = r) w3 V → RL V r ca cc al ba bc ⟨L.calls, [], min L.safe wh, L.ahead, L.stop⟩ left) := fun V hbx hs => by
      have bl : (M.Lg.bytes ⟨L.calls, [], min L.safe wh, L.ahead, L.stop⟩) = M.recs L.calls := List.append_nil _
      have ln : (M.recs L.calls).length = wh := EW.out.symm
      refine ⟨okC, ⟨H3.out.lr.1, fun z => H3.out.lr.2 z⟩, H3.out.em, ?_, own_stay H3.out.co (fun p hp => hs.block _ (own_spot H3.out.co p hp).2.1 (H3.out.nc p hp)), ?_, H3.out.nc, H3.out.nb, H3.out.nn⟩
      · unfold rlL
        rw [bl, ln]
        have w0 : M.Lg.whole ⟨L.calls, [], min L.safe wh, L.ahead, L.stop⟩ = wh := ln
        rw [w0]
        exact hbx
      · rw [bl, ln]
        have := own_take rfl H3.out.bo (n := wh) (by rw [EW.out]; exact LO.out.len.1)
        have tk : L.bytes.take wh = M.recs L.calls := by rw [← ln]; exact List.take_left
        rw [tk] at this
        exact own_stay this (fun p hp => hs.block _ (own_spot H3.out.bo p hp).2.1 (H3.out.nb p hp))
    have BX4 := hide bx4
    clear bx4
    go_upto_region 13 with fail
    go_quiet (fail)
    have bq : Below W4.heap.size W4 (W4.drewN nq) := below_drew (Below.refl _ W4) nq (Nat.le_refl _)
    obtain ⟨W5, hW5⟩ : ∃ X, X = W4.drewN nq := ⟨_, rfl⟩
    rw [← hW5] at bq ⊢
    have bx5 := BX4.out.keep (bq.block _ BX4.out.lt)
    have S5 := hide (S4.out.trans (stay_of bq (Nat.le_refl _)))
    have v2 := bx5.cell 2 _ rfl
    have v3 := bx5.cell 3 _ rfl
    have y3 := bx5.free 3
    have BX5 := hide bx5
    clear bq hW5 bx5 BX4 S4 f2 f3 z3
    have H3k := H3
    go_upto_if 95 with fail
    go_cut [] from 95 to 102 (fun wx => Hid (RL wx r ca cc al ba bc ⟨L.calls, [], min L.safe wh, L.ahead, L.stop⟩ left) ∧ Hid (StayBut (fun q => q = r) w3 wx))
    case first =>
      by_cases qs : wh < L.safe
      · have s1 : decide ((wh : Int) < (L.safe : Int)) = true := decide_eq_true (by omega)
        have s1' : decide (wh < L.safe) = true := decide_eq_true qs
        have bp := BX5.out.put (j := 3) (v := .int .i64 (wh : Int))
        have mn : ((min L.safe wh : Nat) : Int) = (wh : Int) := by omega
        have sp : StayBut (fun q => q = r) w3 (W5.setCell ⟨r, 3, none⟩ (.int .i64 (wh : Int))) := S5.out.trans (stay_set (K := fun q => q = r) rfl)
        have RF := hide (MK.out _ (by rw [mn]; exact bp) sp)
        have SP := hide sp
        clear bp mn sp MK
        generalize L.safe = sf0 at *
        go_wp2
        go_meet
        case rel => exact ⟨RF, SP⟩
      · have s1 : decide ((wh : Int) < (L.safe : Int)) = false := decide_eq_false (by omega)
        have s1' : decide (wh < L.safe) = false := decide_eq_false qs
        have mn : ((min L.safe wh : Nat) : Int) = (L.safe : Int) := by omega
        have RF := hide (MK.out _ (by rw [mn]; exact BX5.out) S5.out)
        clear mn MK
        generalize L.safe = sf0 at *
        go_wp2
        go_meet
        case rel => exact ⟨RF, S5⟩
    case rest =>
    obtain ⟨HC0, SC0⟩ := hcut
    clear BX5 S5 v2 v3 y3 MK okC
    have hL0 : M.stpL ⟨L.calls, [], min L.safe wh, L.ahead, L.stop⟩ = L0 L := by unfold L0; rw [EW.out]
    have hF0 : M.stpF ⟨L.calls, [], min L.safe wh, L.ahead, L.stop⟩ = decide (L.ahead = 0) := by unfold M.stpF; rw [hst, Bool.false_or]
    have STP := hide (rl_step HC0.out)
    rw [hL0, hF0] at STP
    clear hL0 hF0
    generalize (if 0 ≤ left then left - 1 else left) = lf at *
    have fl : M.stpF L = decide (L.ahead = 0) := by unfold M.stpF; rw [hst, Bool.false_or]
    rw [fl] at e4
    have HST := hide hst
    have rlt : r < w.heap.size := (HB.out w (Below.refl _ _)).box.lt
    have w1z : Hid (w.heap.size ≤ W1.heap.size ∧ W1.heap.size ≤ w3.heap.size) := ⟨b1.out.size, K31.out.size⟩
    have SROW : Hid (∀ V, StayBut (fun q => q = r) w3 V → RdB V vb (M.recL c) ∧ rn ≤ vbc ∧ (vb = none → vbc = 0)) := fun V hs => by
      obtain ⟨a', c', e, rr, rn0, rl0, _⟩ := own_rdB1 EN.out.symm (by unfold maxLen; omega) RB8.out O3.out
      cases e
      have sp := own_spot O3.out
      refine ⟨rdB_keep rr (fun _ p hp => hs.block _ (sp p hp).2.1 ?_) hs.size, rl0, rn0⟩
      have := (O3.out.lt p.block (sp p hp).2.2).1
      have := w1z.out
      show p.block ≠ r
      omega
    have CBY : Hid (∀ V, RL V r ca cc al ba bc (L0 L) lf → RdB V ba (M.recs L.calls) ∧ (ba = none → bc = 0) ∧ V.cell? ⟨r, 1, none⟩ = some (.slice ba wh bc)) := fun V hV => by
      have lnb : (L0 L).bytes.length = wh := by rw [L0_bytes, EW.out]; rfl
      obtain ⟨a', c', e, rr, rn0, _⟩ := own_rdB1 rfl (by rw [lnb]; unfold maxLen; omega) hV.ok.byte hV.bo
      cases e
      have c1 := hV.box.cell 1 _ rfl
      rw [lnb] at c1
      rw [L0_bytes] at rr
      exact ⟨rr, rn0, c1⟩
    -- bytes behind the log's: where they lie then
    have GROW : Hid (∀ (w6 w8 : World) (va8 : Option Addr) (vc8 n : Nat) (X : List Nat), X.length = n → RL w6 r ca cc al ba bc (L0 L) lf → w8.ownsRow w6.heap.size 5 1 (.slice va8 (wh + n) vc8) (wh + n) (byCells (M.recs L.calls ++ X)) → Below w6.heap.size w6 w8 → Bx w8 r (rlL ca cc al.length ba bc (L0 L) lf) ∧ (∀ p, va8 = some p → p.block ≠ r ∧ w6.heap.size ≤ p.block ∧ ∀ q, ca = some q → q.block ≠ p.block)) := fun w6 w8 va8 vc8 n X hX h6 ho hb => by
      refine ⟨h6.box.keep (hb.block _ h6.box.lt), fun p hp => ?_⟩
      have sp := own_spot ho p hp
      have ge := (ho.lt _ sp.2.2).1
      refine ⟨by have := h6.box.lt; omega, ge, fun q hq => ?_⟩
      have := (own_spot h6.co q hq).2.1
      omega
    by_cases q0 : L.ahead = 0
    · rw [decide_eq_true q0] at STP e4
      rw [if_pos rfl] at e4
      have E9 : Hid (ae = 9) := AE.out.trans e4
      go_upto_region 16 with (go_at_call 24; refine STP.out.mono ?_; rintro e w6 ⟨rfl, h6, s6⟩; have H6 := hide h6; have S6 := hide (StayBut.trans SC0.out s6); clear h6 s6)
      clear STP
      obtain ⟨hf, hhf⟩ : ∃ x, x = rn / 2 := ⟨_, rfl⟩
      have hd2 : (rn : Int) / 2 = (hf : Int) := by omega
      have hd1 : Int.tdiv (rn : Int) 2 = (hf : Int) := by rw [Int.tdiv_eq_ediv_of_nonneg (by omega)]; omega
      have hw0 : IntKind.i64.wrap (hf : Int) = (hf : Int) := i64_in (by omega) (by omega)
      obtain ⟨sr6, sle, sni⟩ := SROW.out w6 S6.out
      obtain ⟨cb6, cn6, cc1⟩ := CBY.out w6 H6.out
      have y1 : (hf : Int) ≤ (vbc : Int) := by omega
      have y2 : hf ≤ vbc := by omega
      have O0 : Hid (w6.ownsRow w6.heap.size 5 1 (.slice none 0 0) 0 (byCells [])) := World.ownsRow_nil _ _ _ _
      have LN : Hid ((M.recs L.calls).length = wh) := EW.out.symm
      have LTK : Hid (((M.recL c).take hf).length = hf) := by unfold Hid; rw [List.length_take, ← EN.out]; omega
      have CB6 := hide cb6
      have CN6 := hide cn6
      have SR6 := hide (sr6.take hf)
      have SNI := hide sni
      have LM0 : Hid (0 + (M.recs L.calls).length ≤ 140737488355328) := by have := LN.out; unfold Hid; omega
      have LM1 : Hid (wh + ((M.recL c).take hf).length ≤ 140737488355328) := by have := LTK.out; unfold Hid; omega
      have APL : M.apL L c = ⟨L.calls, (M.recL c).take hf, min L.safe L.whole, L.ahead, true⟩ := by
        unfold M.apL
        rw [if_neg (by rw [e4]; intro z; rcases z with z | z | z <;> first | cases z | (rw [HST.out] at z; cases z)), if_pos q0, hhf, EN.out]
      have FN9 : Hid (∀ (w8 : World) (va8 : Option Addr) (vc8 : Nat), w8.ownsRow w6.heap.size 5 1 (.slice va8 (wh + hf) vc8) (wh + hf) (byCells (M.recs L.calls ++ (M.recL c).take hf)) → Below w6.heap.size w6 w8 → w8.cell? ⟨r, 1, none⟩ = some (.slice ba wh bc) ∧ w8.frozen? ⟨r, 1, none⟩ = false ∧ LeftR w r ca ba al2 (M.apL L c) (w8.setCell ⟨r, 1, none⟩ (.slice va8 (wh + hf) vc8))) := fun w8 va8 vc8 ho hb => by
        obtain ⟨bx8, ap8⟩ := GROW.out w6 w8 va8 vc8 hf _ LTK.out H6.out ho hb
        have lnb : (L0 L).bytes.length = wh := by rw [L0_bytes, EW.out]; rfl
        have cc8 := bx8.cell 1 _ rfl
        rw [lnb] at cc8
        refine ⟨cc8, bx8.free 1, ?_⟩
        have ok' := M.ap_ok LO.out (c := c) NM.out BY.out
        have bl : (M.apL L c).bytes = M.recs L.calls ++ (M.recL c).take hf := by rw [APL]; rfl
        have bn' : (M.apL L c).bytes.length = wh + hf := by rw [bl, List.length_append, LN.out, LTK.out]
        have st8 : StayBut (fun q => q = r) w6 (w8.setCell ⟨r, 1, none⟩ (.slice va8 (wh + hf) vc8)) := StayBut.trans (K := fun q => q = r) (stay_of hb (Nat.le_refl _)) (stay_set (K := fun q => q = r) rfl)
        have s03 : StayBut (RBk r ca ba) w w3 := stay_of K3.out (Nat.le_refl _)
        have up : ∀ {x y : World}, StayBut (fun q => q = r) x y → StayBut (RBk r ca ba) x y := fun hxy => hxy.mono (fun q _ e => .inl e)
        refine ⟨ca, cc, va8, vc8, lf, ⟨ok', ⟨H6.out.lr.1, fun z => by rw [APL] at z; cases z⟩, ?_, ?_, ?_, ?_, H6.out.nc, fun p hp => (ap8 p hp).1, fun p q hp hq => (ap8 q hq).2.2 p hp⟩, s03.trans ((up S6.out).trans (up st8)), fun q hq => ?_⟩
        · rw [AL2.out, if_neg (by rw [e4]; decide), APL]; exact H6.out.em
        · have := bx8.put (j := 1) (v := .slice va8 (wh + hf) vc8)
          have e : (rlL ca cc al.length ba bc (L0 L) lf).set 1 (.slice va8 (wh + hf) vc8) = rlL ca cc al2.length va8 vc8 (M.apL L c) lf := by
            unfold rlL
            rw [bn', AL2.out, if_neg (by rw [e4]; decide), APL]
            unfold L0 M.stpL
            simp only [M.stpF, q0, decide_true, Bool.or_true, if_true]
            rfl
          rw [e] at this
          exact this
        · rw [AL2.out, if_neg (by rw [e4]; decide)]
          exact own_stay H6.out.co (fun p hp => st8.block _ (own_spot H6.out.co p hp).2.1 (H6.out.nc p hp))
        · rw [bn', bl]
          exact own_stay (own_lowL (Nat.zero_le _) ho) (fun p hp => heap_setCell_other _ _ _ _ (ap8 p hp).1)
        · have z6 : w.heap.size ≤ w6.heap.size := Nat.le_trans K3.out.size S6.out.size
          rcases hq with z | ⟨p, z, e⟩ | ⟨p, z, e⟩
          · exact .inl (.inl z)
          · exact .inl (.inr (.inl ⟨p, z, e⟩))
          · right
            have := (ap8 p z).2.1
            omega
      clear sr6 sle sni cb6 cn6 APL hhf SROW CBY GROW HC0 SC0 q0 e4 O3 K31 H3 H3k HB BWX b1 FIN
      go_upto_region 22 with (first
        | (at_builtin; refine wpList_append_by rfl (.tmp 117) (.tmp 120) rfl w6.heap.size (.slice va7 wh vc7) wh (M.recs L.calls) rfl O7.out vb ((M.recL c).take hf) hf vbc LTK.out rfl SR7.out SNI.out LM1.out z67.out ?_; intro va8 vc8 w8 ho8 hb8 _; obtain ⟨cc8, cz8, fn8⟩ := FN9.out w8 va8 vc8 ho8 (K7.out.trans hb8); have FN8 := hide fn8; clear ho8 hb8 fn8)
        | (at_builtin; refine wpList_append_by rfl (.tmp 110) (.tmp 114) rfl w6.heap.size (.slice none 0 0) 0 [] rfl O0.out ba (M.recs L.calls) wh bc LN.out rfl CB6.out CN6.out LM0.out (Nat.le_refl _) ?_; intro va7 vc7 w7 ho7 hb7 _; rw [Nat.zero_add, List.nil_append] at ho7; have O7 := hide ho7; have K7 := hide hb7; have SR7 := hide (SR6.out.below hb7); have z67 := hide hb7.size; clear ho7 hb7; rw [Nat.zero_add]))
      clear FN9
      go_wp2
      go_ret
      exact ⟨by rw [E9.out]; rfl, FN8.out⟩
    · rw [decide_eq_false q0] at STP e4
      rw [if_neg (by decide)] at e4
      have E0 : Hid (ae = 0) := AE.out.trans e4
      go_upto_region 16 with (go_at_call 24; refine STP.out.mono ?_; rintro e w6 ⟨rfl, h6, s6⟩; have H6 := hide h6; have S6 := hide (StayBut.trans SC0.out s6); clear h6 s6)
      clear STP
      obtain ⟨sr6, sle, sni⟩ := SROW.out w6 S6.out
      obtain ⟨cb6, cn6, cc1⟩ := CBY.out w6 H6.out
      have y1 : (rn : Int) ≤ (vbc : Int) := by omega
      have y2 : rn ≤ vbc := sle
      have O0 : Hid (w6.ownsRow w6.heap.size 5 1 (.slice none 0 0) 0 (byCells [])) := World.ownsRow_nil _ _ _ _
      have LN : Hid ((M.recs L.calls).length = wh) := EW.out.symm
      have CB6 := hide cb6
      have CN6 := hide cn6
      have SR6 := hide sr6
      have SNI := hide sni
      have LM0 : Hid (0 + (M.recs L.calls).length ≤ 140737488355328) := by have := LN.out; unfold Hid; omega
      have LM1 : Hid (wh + (M.recL c).length ≤ 140737488355328) := by have := EN.out; unfold Hid; omega
      have APL := M.ap_push e4
      have BXK : Hid (∀ V, StayBut (fun q => q = r) w3 V → Bx V w.heap.size [.int .i64 c.what, .int .i64 c.ses, .int .i64 c.seq, .string (byStr c.name), .int .i64 c.num, .int .i64 c.share, .slice a c.bys.length cap]) := fun V hs => by
        have b := (BWX.out w3 K31.out).1
        exact b.keep (hs.block _ b.lt (by show w.heap.size ≠ r; omega))
      have MID : Hid (∀ (w8 : World) (va8 : Option Addr) (vc8 : Nat), w8.ownsRow w6.heap.size 5 1 (.slice va8 (wh + rn) vc8) (wh + rn) (byCells (M.recs L.calls ++ M.recL c)) → Below w6.heap.size w6 w8 → w8.cell? ⟨r, 1, none⟩ = some (.slice ba wh bc) ∧ w8.frozen? ⟨r, 1, none⟩ = false ∧ Bx (w8.setCell ⟨r, 1, none⟩ (.slice va8 (wh + rn) vc8)) r [.slice ca al.length cc, .slice va8 (wh + rn) vc8, .int .i64 (wh : Int), .int .i64 ((min L.safe L.whole : Nat) : Int), .int .i64 lf, .bool L.stop]) := fun w8 va8 vc8 ho hb => by
        obtain ⟨bx8, ap8⟩ := GROW.out w6 w8 va8 vc8 rn _ EN.out.symm H6.out ho hb
        have lnb : (L0 L).bytes.length = wh := by rw [L0_bytes, EW.out]; rfl
        have cc8 := bx8.cell 1 _ rfl
        rw [lnb] at cc8
        refine ⟨cc8, bx8.free 1, ?_⟩
        have := bx8.put (j := 1) (v := .slice va8 (wh + rn) vc8)
        have e : (rlL ca cc al.length ba bc (L0 L) lf).set 1 (.slice va8 (wh + rn) vc8) = [.slice ca al.length cc, .slice va8 (wh + rn) vc8, .int .i64 (wh : Int), .int .i64 ((min L.safe L.whole : Nat) : Int), .int .i64 lf, .bool L.stop] := by
          unfold rlL
          have w0 : (L0 L).whole = wh := EW.out.symm
          rw [w0]
          unfold L0 M.stpL
          simp only [M.stpF, q0, HST.out, decide_false, Bool.or_false]
          rfl
        rw [e] at this
        exact this
      go_upto_region 24 with (first
        | (at_builtin; refine wpList_append_by rfl (.tmp 117) (.tmp 120) rfl w6.heap.size (.slice va7 wh vc7) wh (M.recs L.calls) rfl O7.out vb (M.recL c) rn vbc EN.out.symm rfl SR7.out SNI.out LM1.out z67.out ?_; intro va8 vc8 w8 ho8 hb8 _; have K8 := hide (K7.out.trans hb8); obtain ⟨cc8, cz8, m8⟩ := MID.out w8 va8 vc8 ho8 K8.out; have M8 := hide m8; have O8 := hide ho8; clear ho8 hb8 m8)
        | (at_builtin; refine wpList_append_by rfl (.tmp 110) (.tmp 114) rfl w6.heap.size (.slice none 0 0) 0 [] rfl O0.out ba (M.recs L.calls) wh bc LN.out rfl CB6.out CN6.out LM0.out (Nat.le_refl _) ?_; intro va7 vc7 w7 ho7 hb7 _; rw [Nat.zero_add, List.nil_append] at ho7; have O7 := hide ho7; have K7 := hide hb7; have SR7 := hide (SR6.out.below hb7); have z67 := hide hb7.size; clear ho7 hb7; rw [Nat.zero_add]))
      obtain ⟨w9, hw9⟩ : ∃ X, X = w8.setCell ⟨r, 1, none⟩ (.slice va8 (wh + rn) vc8) := ⟨_, rfl⟩
      rw [← hw9] at M8 ⊢
      have v1 := M8.out.cell 1 _ rfl
      have v2 := M8.out.cell 2 _ rfl
      have x2 := M8.out.free 2
      have S9 : Hid (StayBut (fun q => q = r) w6 w9) := by unfold Hid; rw [hw9]; exact StayBut.trans (K := fun q => q = r) (stay_of K8.out (Nat.le_refl _)) (stay_set (K := fun q => q = r) rfl)
      have O9 : Hid (w9.ownsRow w6.heap.size 5 1 (.slice va8 (wh + rn) vc8) (wh + rn) (byCells (M.recs L.calls ++ M.recL c))) := by
        unfold Hid
        rw [hw9]
        have hne : ∀ p : Addr, va8 = some p → p.block ≠ r := fun p hp => by
          have sp := own_spot O8.out p hp
          have g1 := (O8.out.lt p.block sp.2.2).1
          have g2 := H6.out.box.lt
          omega
        exact own_stay O8.out (fun p hp => heap_setCell_other _ _ _ _ (hne p hp))
      clear hw9 cc8 cz8 MID O8 O7 K7 SR7 z67 SR6 CB6 CN6 O0 LM0 LM1 SNI cc1
      go_upto_region 25 with fail
      obtain ⟨w10, hw10⟩ : ∃ X, X = w9.setCell ⟨r, 2, none⟩ (.int .i64 ((wh : Int) + (rn : Int))) := ⟨_, rfl⟩
      rw [← hw10]
      have bx10 : Bx w10 r [.slice ca al.length cc, .slice va8 (wh + rn) vc8, .int .i64 ((wh : Int) + (rn : Int)), .int .i64 ((min L.safe L.whole : Nat) : Int), .int .i64 lf, .bool L.stop] := by rw [hw10]; exact M8.out.put (j := 2) (v := .int .i64 ((wh : Int) + (rn : Int)))
      have s10 : StayBut (fun q => q = r) w6 w10 := by rw [hw10]; exact S9.out.trans (stay_set (K := fun q => q = r) rfl)
      have hne8 : ∀ p : Addr, va8 = some p → p.block ≠ r ∧ w6.heap.size ≤ p.block := fun p hp => by
        have sp := own_spot O9.out p hp
        have g1 := (O9.out.lt p.block sp.2.2).1
        have g2 := H6.out.box.lt
        exact ⟨by omega, g1⟩
      have o10 : w10.ownsRow w6.heap.size 5 1 (.slice va8 (wh + rn) vc8) (wh + rn) (byCells (M.recs L.calls ++ M.recL c)) := by rw [hw10]; exact own_stay O9.out (fun p hp => heap_setCell_other _ _ _ _ (hne8 p hp).1)
      have co10 : w10.ownsRow 0 33 7 (.slice ca al.length cc) al.length (caCs al) := own_stay H6.out.co (fun p hp => s10.block _ (own_spot H6.out.co p hp).2.1 (H6.out.nc p hp))
      have bxB := BXK.out w10 (S6.out.trans s10)
      have p0 := bxB.cell 0 _ rfl
      have p1 := bxB.cell 1 _ rfl
      have p2 := bxB.cell 2 _ rfl
      have p3 := bxB.cell 3 _ rfl
      have p4 := bxB.cell 4 _ rfl
      have p5 := bxB.cell 5 _ rfl
      have p6 := bxB.cell 6 _ rfl
      have u0 := bx10.cell 0 _ rfl
      have aln : al.length ≤ 100000 := by
        have e := H6.out.em
        have m := M.recs_more L.calls LO.out.ok
        have e2 : al.length = L.calls.length := by
          have := congrArg List.length e
          rw [List.length_map] at this
          exact this
        have := EW.out
        unfold M.Lg.whole at this
        omega
      have e0 : M.apF L c = 0 := e4
      have z6 : w.heap.size ≤ w6.heap.size := Nat.le_trans K3.out.size S6.out.size
      have FL : Hid (∀ (o : Obj) (g cg : Nat) (w12 : World), w12.ownsRow 0 33 7 (.slice (some ⟨g, 0, none⟩) (al.length + 1) cg) (al.length + 1) (caCs al ++ ca7 (c, a, cap)) → (w10.drew.alloc o).grownBy w12 (Value.slice ca al.length cc).ownBlock → ((Value.slice ca al.length cc).ownBlock = some g ∨ g = w10.drew.heap.size + 1) → Bx w12 w.heap.size [.int .i64 c.what, .int .i64 c.ses, .int .i64 c.seq, .string (byStr c.name), .int .i64 c.num, .int .i64 c.share, .slice a c.bys.length cap] ∧ Bx w12 r [.slice ca al.length cc, .slice va8 (wh + rn) vc8, .int .i64 ((wh : Int) + (rn : Int)), .int .i64 ((min L.safe L.whole : Nat) : Int), .int .i64 lf, .bool L.stop] ∧ LeftR w r ca ba al2 (M.apL L c) (w12.setCell ⟨r, 0, none⟩ (.slice (some ⟨g, 0, none⟩) (al.length + 1) cg))) := fun o g cg w12 ho hg ha => by
        have bo : Below w10.heap.size w10 (w10.drew.alloc o) := ((Below.refl _ w10).drew).alloc (Nat.le_refl _) o
        have zo : (w10.drew.alloc o).heap.size = w10.heap.size + 1 := by simp
        have ob : ∀ q, (Value.slice ca al.length cc).ownBlock = some q → ∃ p, ca = some p ∧ p.block = q := fun q hq => by
          cases ca with
          | none => cases hq
          | some p => exact ⟨p, rfl, by simpa [Value.ownBlock] using hq⟩
        have cal : ∀ p, ca = some p → p.block < w6.heap.size ∧ p.block < w.heap.size ∧ p.block ≠ r := fun p hp => ⟨(own_spot H6.out.co p hp).2.1, (HB.out w (Below.refl _ _)).lt (.inr (.inl ⟨p, hp, rfl⟩)), H6.out.nc p hp⟩
        have keepB : ∀ q, q < w10.heap.size → (∀ p, ca = some p → p.block ≠ q) → w12.heap[q]? = w10.heap[q]? := fun q hq hn => by
          rw [hg.block q (by rw [zo]; omega) (fun e => by
            obtain ⟨p, e1, e2⟩ := ob q e.symm
            exact hn p e1 e2)]
          exact bo.block q hq
        have gne : g ≠ r ∧ (∀ q, va8 = some q → g ≠ q.block) ∧ (RBk r ca ba g ∨ w.heap.size ≤ g) := by
          rcases ha with y | y
          · obtain ⟨p, e1, e2⟩ := ob g y
            have cl := cal p e1
            refine ⟨by omega, fun q hq => ?_, .inl (.inr (.inl ⟨p, e1, e2⟩))⟩
            have := (hne8 q hq).2
            omega
          · have s1 := s10.size
            have e2 : w10.drew.heap.size = w10.heap.size := rfl
            refine ⟨by have := bx10.lt; omega, fun q hq => ?_, .inr (by omega)⟩
            have := (own_spot o10 q hq).2.1
            omega
        have bxr := bx10.keep (keepB r bx10.lt (fun p hp => (cal p hp).2.2))
        have bxw := bxB.keep (keepB w.heap.size bxB.lt (fun p hp => by have := (cal p hp).2.1; omega))
        refine ⟨bxw, bxr, ?_⟩
        have ok' := M.ap_ok LO.out (c := c) NM.out BY.out
        have bl : (M.apL L c).bytes = M.recs L.calls ++ M.recL c := by
          rw [APL]
          show M.recs (L.calls ++ [c]) ++ [] = _
          rw [List.append_nil, M.recs_app, M.recs_one]
        have bn' : (M.apL L c).bytes.length = wh + rn := by rw [bl, List.length_append, LN.out, ← EN.out]
        have wn : (M.apL L c).whole = wh + rn := by
          rw [APL]
          show (M.recs (L.calls ++ [c])).length = _
          rw [M.recs_app, M.recs_one, List.length_append, LN.out, ← EN.out]
        have al2e : al2 = al ++ [(c, a, cap)] := by rw [AL2.out, if_pos e0]
        have al2l : al2.length = al.length + 1 := by rw [al2e, List.length_append]; rfl
        have up : ∀ {x y : World}, StayBut (fun q => q = r) x y → StayBut (RBk r ca ba) x y := fun hxy => hxy.mono (fun q _ e => .inl e)
        have s12 : StayBut (RBk r ca ba) w10 w12 := by
          refine ⟨hg.os.trans bo.os, hg.tape.trans bo.tape, hg.output.trans bo.output, Nat.le_trans bo.size hg.size, fun q hq hn => keepB q hq (fun p hp e => hn (.inr (.inl ⟨p, hp, e⟩)))⟩
        have sAll : StayBut (RBk r ca ba) w (w12.setCell ⟨r, 0, none⟩ (.slice (some ⟨g, 0, none⟩) (al.length + 1) cg)) := (stay_of K3.out (Nat.le_refl _) : StayBut (RBk r ca ba) w w3).trans ((up S6.out).trans ((up s10).trans (s12.trans (stay_set (K := RBk r ca ba) (.inl rfl)))))
        refine ⟨some ⟨g, 0, none⟩, cg, va8, vc8, lf, ⟨ok', ⟨H6.out.lr.1, fun z => ?_⟩, ?_, ?_, ?_, ?_, fun p hp => by cases hp; exact gne.1, fun p hp => (hne8 p hp).1, fun p q hp hq => by cases hp; exact gne.2.1 q hq⟩, sAll, fun q hq => ?_⟩
        · have st0 : (L0 L).stop = false := by unfold L0 M.stpL M.stpF; rw [HST.out, decide_eq_false q0]; rfl
          have := H6.out.lr.2 st0
          have ah : (L0 L).ahead = (M.apL L c).ahead := by
            rw [APL]
            unfold L0 M.stpL
            simp only [M.stpF, q0, HST.out, decide_false, Bool.or_false, Bool.false_eq_true, if_false]
          rw [← ah]
          exact this
        · rw [al2e, List.map_append, APL]
          show al.map (·.1) ++ [c] = L.calls ++ [c]
          rw [show al.map (·.1) = L.calls from H6.out.em]
        · have := bxr.put (j := 0) (v := .slice (some ⟨g, 0, none⟩) (al.length + 1) cg)
          have e : rlL (some ⟨g, 0, none⟩) cg al2.length va8 vc8 (M.apL L c) lf = [.slice (some ⟨g, 0, none⟩) (al.length + 1) cg, .slice va8 (wh + rn) vc8, .int .i64 ((wh : Int) + (rn : Int)), .int .i64 ((min L.safe L.whole : Nat) : Int), .int .i64 lf, .bool L.stop] := by
            unfold rlL
            rw [bn', wn, al2l, APL]
            rfl
          rw [e]
          exact this
        · rw [al2l, al2e, caCs_app, caCs_one]
          exact own_stay ho (fun p hp => by cases hp; exact heap_setCell_other _ _ _ _ gne.1)
        · rw [bn', bl]
          exact own_stay (own_lowL (Nat.zero_le _) o10) (fun p hp => by
            rw [heap_setCell_other _ _ _ _ (hne8 p hp).1]
            exact keepB _ (own_spot o10 p hp).2.1 (fun q hq e => by have := (cal q hq).1; have := (hne8 p hp).2; omega))
        · rcases hq with z | ⟨p, z, e⟩ | ⟨p, z, e⟩
          · exact .inl (.inl z)
          · cases z; subst e; exact gne.2.2
          · right
            have := (hne8 p z).2
            omega
      have OC := hide co10
      have BB : Hid (Bx w10.drew w.heap.size [.int .i64 c.what, .int .i64 c.ses, .int .i64 c.seq, .string (byStr c.name), .int .i64 c.num, .int .i64 c.share, .slice a c.bys.length cap]) := bxB
      have rl10 : r < w10.heap.size := bx10.lt
      have u0a : ∀ o : Obj, (w10.drew.alloc o).cell? ⟨r, 0, none⟩ = some (.slice ca al.length cc) := fun o => by
        have bo : Below w10.heap.size w10 (w10.drew.alloc o) := ((Below.refl _ w10).drew).alloc (Nat.le_refl _) o
        exact (bo.cell (p := ⟨r, 0, none⟩) rl10).trans u0
      have BA : Hid (∀ o : Obj, Bx (w10.drew.alloc o) w.heap.size [.int .i64 c.what, .int .i64 c.ses, .int .i64 c.seq, .string (byStr c.name), .int .i64 c.num, .int .i64 c.share, .slice a c.bys.length cap]) := fun o => by
        have bo : Below w10.heap.size w10 (w10.drew.alloc o) := ((Below.refl _ w10).drew).alloc (Nat.le_refl _) o
        exact bxB.keep (bo.block _ bxB.lt)
      have OA : Hid (∀ o : Obj, (w10.drew.alloc o).ownsRow 0 33 7 (.slice ca al.length cc) al.length (caCs al)) := fun o => OC.out.drew.alloc o
      have RNE : Hid (w.heap.size ≠ r) := by unfold Hid; omega
      have rne : ¬ r = w10.heap.size := by omega
      have rne' : ¬ w10.heap.size = r := by omega
      obtain ⟨j0, hj0, hz0, hz1, hz2⟩ := info_parts infoCa
      have J0 := hide hj0
      clear hj0 hw10 bx10 s10 hne8 o10 co10 bxB M8 v1 v2 x2 S9 O9 SROW CBY GROW BXK HC0 SC0 FIN HB RB8 CIN BWX H3 H3k K31 O3 APL e0 z6 K3 H6 S6 K8 LN
      generalize al.length = an at *
      have hB0 := BB.out
      refine wp_region_held_drew (S := fun V => Bx V w.heap.size [.int .i64 c.what, .int .i64 c.ses, .int .i64 c.seq, .string (byStr c.name), .int .i64 c.num, .int .i64 c.share, .slice a c.bys.length cap]) (by kernel_rfl) hB0 (fun hHeld => ?_)
      refine take_lg (i := 0) (d := some 133) (v := ?v12) rfl rfl (by kernel_rfl) (by kernel_rfl) (by kernel_rfl) (fun _ _ _ h => h) (Or.inl ⟨by rfl, ?h12⟩) (by assumption) ?r12
      case h12 => (intro V hSw; have m0 := hSw.cell 0 _ rfl; have m1 := hSw.cell 1 _ rfl; have m2 := hSw.cell 2 _ rfl; have m3 := hSw.cell 3 _ rfl; have m4 := hSw.cell 4 _ rfl; have m5 := hSw.cell 5 _ rfl; have m6 := hSw.cell 6 _ rfl; clear hSw; go_simp; (try with_reducible rfl))
      simp only [Act.put, List.setIfInBounds_toArray, List.set_cons_zero, List.set_cons_succ]
      refine take_lg (i := 1) (d := some 134) (v := ?v13) rfl rfl (by kernel_rfl) (by kernel_rfl) (by kernel_rfl) (fun _ _ _ h => h) (Or.inl ⟨by rfl, ?h13⟩) (by assumption) ?r13
      case h13 => (intro V hSw; have m0 := hSw.cell 0 _ rfl; have m1 := hSw.cell 1 _ rfl; have m2 := hSw.cell 2 _ rfl; have m3 := hSw.cell 3 _ rfl; have m4 := hSw.cell 4 _ rfl; have m5 := hSw.cell 5 _ rfl; have m6 := hSw.cell 6 _ rfl; clear hSw; go_simp; (try with_reducible rfl))
      simp only [Act.put, List.setIfInBounds_toArray, List.set_cons_zero, List.set_cons_succ]
      refine take_lg (i := 2) (d := some 135) (v := ?v14) rfl rfl (by kernel_rfl) (by kernel_rfl) (by kernel_rfl) (fun _ _ _ h => h) (Or.inl ⟨by rfl, ?h14⟩) (by assumption) ?r14
      case h14 => (intro V hSw; have m0 := hSw.cell 0 _ rfl; have m1 := hSw.cell 1 _ rfl; have m2 := hSw.cell 2 _ rfl; have m3 := hSw.cell 3 _ rfl; have m4 := hSw.cell 4 _ rfl; have m5 := hSw.cell 5 _ rfl; have m6 := hSw.cell 6 _ rfl; clear hSw; go_simp; (try with_reducible rfl))
      simp only [Act.put, List.setIfInBounds_toArray, List.set_cons_zero, List.set_cons_succ]
      refine take_lg (i := 3) (d := some 136) (v := ?v15) rfl rfl (by kernel_rfl) (by kernel_rfl) (by kernel_rfl) (fun _ _ _ h => h) (Or.inl ⟨by rfl, ?h15⟩) (by assumption) ?r15
      case h15 => (intro V hSw; have m0 := hSw.cell 0 _ rfl; have m1 := hSw.cell 1 _ rfl; have m2 := hSw.cell 2 _ rfl; have m3 := hSw.cell 3 _ rfl; have m4 := hSw.cell 4 _ rfl; have m5 := hSw.cell 5 _ rfl; have m6 := hSw.cell 6 _ rfl; clear hSw; go_simp; (try with_reducible rfl))
      simp only [Act.put, List.setIfInBounds_toArray, List.set_cons_zero, List.set_cons_succ]
      refine take_lg (i := 5) (d := some 138) (v := ?v16) rfl rfl (by kernel_rfl) (by kernel_rfl) (by kernel_rfl) (fun _ _ _ h => h) (Or.inl ⟨by rfl, ?h16⟩) (by assumption) ?r16
      case h16 => (intro V hSw; have m0 := hSw.cell 0 _ rfl; have m1 := hSw.cell 1 _ rfl; have m2 := hSw.cell 2 _ rfl; have m3 := hSw.cell 3 _ rfl; have m4 := hSw.cell 4 _ rfl; have m5 := hSw.cell 5 _ rfl; have m6 := hSw.cell 6 _ rfl; clear hSw; go_simp; (try with_reducible rfl))
      simp only [Act.put, List.setIfInBounds_toArray, List.set_cons_zero, List.set_cons_succ]
      refine wpAnyH_ready (rs := [4, 6]) (by kernel_rfl) (by simp) ?_
      refine AllReadyH.cons rfl (fun K hK => ?_) ?_
      · go_simp
        refine hK.out _ _ hB0 (fun hHeld4 => ?_)
        clear hK K hHeld4
        try simp only [Act.put, List.setIfInBounds_toArray, List.set_cons_zero, List.set_cons_succ]
        refine wpAnyH_ready (rs := [6]) (by kernel_rfl) (by simp) ?_
        refine AllReadyH.cons rfl (fun K hK => ?_) AllReadyH.nil
        go_simp
        have hB1 := BA.out (.cells #[.int .i64 c.what, .int .i64 c.ses, .int .i64 c.seq, .string (byStr c.name), .int .i64 c.num, .int .i64 c.share, .slice a c.bys.length cap] 33)
        refine hK.out _ _ hB1 (fun hHeld6 => ?_)
        clear hK K hHeld6
        try simp only [Act.put, List.setIfInBounds_toArray, List.set_cons_zero, List.set_cons_succ]
        refine wpAnyH_ready (rs := [7]) (by kernel_rfl) (by simp) ?_
        refine AllReadyH.cons rfl (fun K hK => ?_) AllReadyH.nil
        refine step_append_lies _ rfl (.tmp 137) (.tmp 139) 22 rfl 0 33 j0 (.agg #[.int .i64 0, .int .i64 0, .int .i64 0, .string ⟨#[]⟩, .int .i64 0, .int .i64 0, .slice none 0 0]) 7 80 Tryd.underlying22 J0.out hz0 hz1 hz2 rfl (by omega) (.slice ca an cc) an (caCs al) rfl (OA.out _) ⟨w10.drew.heap.size, 0, none⟩ 1 1 [.int .i64 c.what, .int .i64 c.ses, .int .i64 c.seq, .string (byStr c.name), .int .i64 c.num, .int .i64 c.share, .slice a c.bys.length cap] rfl rfl (World.news_of_block (heap_alloc_new _ _)) (by simp [Value.oneCell']) (by omega) (by unfold maxLen; omega) (by omega) (Nat.zero_le _) (w10.drew.heap.size + 1) (by simp) ?_
        intro g cg w12 ho12 hg12 ha12 hl12
        obtain ⟨bw12, br12, fn⟩ := FL.out _ g cg w12 ho12 hg12 ha12
        have FN := hide fn
        have k0 := br12.cell 0 _ rfl
        have kz := br12.free 0
        have bs12 := bw12.else (p := r) (j := 0) (v := .slice (some ⟨g, 0, none⟩) (an + 1) cg) RNE.out
        clear ho12 hg12 ha12 hl12 fn br12 FL OA BA
        refine hK.out _ _ bw12 (fun hHeld7 => ?_)
        clear hK K hHeld7
        try simp only [Act.put, List.setIfInBounds_toArray]
        refine take_lg (i := 8) (d := some 141) (v := ?v17) rfl rfl (by kernel_rfl) (by kernel_rfl) (by kernel_rfl) (fun _ _ _ h => h) (Or.inl ⟨by rfl, ?h17⟩) (by assumption) ?r17
        case h17 => (intro V hSw; have m0 := hSw.cell 0 _ rfl; have m1 := hSw.cell 1 _ rfl; have m2 := hSw.cell 2 _ rfl; have m3 := hSw.cell 3 _ rfl; have m4 := hSw.cell 4 _ rfl; have m5 := hSw.cell 5 _ rfl; have m6 := hSw.cell 6 _ rfl; clear hSw; go_simp; (try with_reducible rfl))
        simp only [Act.put]
        refine take_lg (i := 9) (d := some 142) (v := ?v18) rfl rfl (by kernel_rfl) (by kernel_rfl) (by kernel_rfl) (fun _ _ _ h => h) (Or.inl ⟨by rfl, ?h18⟩) (by assumption) ?r18
        case h18 => (intro V hSw; have m0 := hSw.cell 0 _ rfl; have m1 := hSw.cell 1 _ rfl; have m2 := hSw.cell 2 _ rfl; have m3 := hSw.cell 3 _ rfl; have m4 := hSw.cell 4 _ rfl; have m5 := hSw.cell 5 _ rfl; have m6 := hSw.cell 6 _ rfl; clear hSw; go_simp; (try with_reducible rfl))
        simp only [Act.put]
        refine wpAnyH_ready (rs := [10]) (by kernel_rfl) (by simp) ?_
        refine AllReadyH.cons rfl (fun K hK => ?_) AllReadyH.nil
        go_simp
        refine hK.out _ _ bs12 (fun hHeld8 => ?_)
        clear hK K hHeld8
        try simp only [Act.put, List.setIfInBounds_toArray, List.set_cons_zero, List.set_cons_succ]
        refine wpAnyH_done (by kernel_rfl) ?_ _
        go_wp2
        go_ret
        exact ⟨by rw [E0.out]; rfl, FN.out⟩
      · refine AllReadyH.cons rfl (fun K hK => ?_) AllReadyH.nil
        go_simp
        have hB1 := BA.out (.cells #[.int .i64 c.what, .int .i64 c.ses, .int .i64 c.seq, .string (byStr c.name), .int .i64 c.num, .int .i64 c.share, .slice a c.bys.length cap] 33)
        refine hK.out _ _ hB1 (fun hHeld6 => ?_)
        clear hK K hHeld6
        try simp only [Act.put, List.setIfInBounds_toArray, List.set_cons_zero, List.set_cons_succ]
        refine wpAnyH_ready (rs := [4]) (by kernel_rfl) (by simp) ?_
        refine AllReadyH.cons rfl (fun K hK => ?_) AllReadyH.nil
        go_simp
        refine hK.out _ _ hB1 (fun hHeld4 => ?_)
        clear hK K hHeld4
        try simp only [Act.put, List.setIfInBounds_toArray, List.set_cons_zero, List.set_cons_succ]
        refine wpAnyH_ready (rs := [7]) (by kernel_rfl) (by simp) ?_
        refine AllReadyH.cons rfl (fun K hK => ?_) AllReadyH.nil
        refine step_append_lies _ rfl (.tmp 137) (.tmp 139) 22 rfl 0 33 j0 (.agg #[.int .i64 0, .int .i64 0, .int .i64 0, .string ⟨#[]⟩, .int .i64 0, .int .i64 0, .slice none 0 0]) 7 80 Tryd.underlying22 J0.out hz0 hz1 hz2 rfl (by omega) (.slice ca an cc) an (caCs al) rfl (OA.out _) ⟨w10.drew.heap.size, 0, none⟩ 1 1 [.int .i64 c.what, .int .i64 c.ses, .int .i64 c.seq, .string (byStr c.name), .int .i64 c.num, .int .i64 c.share, .slice a c.bys.length cap] rfl rfl (World.news_of_block (heap_alloc_new _ _)) (by simp [Value.oneCell']) (by omega) (by unfold maxLen; omega) (by omega) (Nat.zero_le _) (w10.drew.heap.size + 1) (by simp) ?_
        intro g cg w12 ho12 hg12 ha12 hl12
        obtain ⟨bw12, br12, fn⟩ := FL.out _ g cg w12 ho12 hg12 ha12
        have FN := hide fn
        have k0 := br12.cell 0 _ rfl
        have kz := br12.free 0
        have bs12 := bw12.else (p := r) (j := 0) (v := .slice (some ⟨g, 0, none⟩) (an + 1) cg) RNE.out
        clear ho12 hg12 ha12 hl12 fn br12 FL OA BA
        refine hK.out _ _ bw12 (fun hHeld7 => ?_)
        clear hK K hHeld7
        try simp only [Act.put, List.setIfInBounds_toArray]
        refine take_lg (i := 8) (d := some 141) (v := ?v19) rfl rfl (by kernel_rfl) (by kernel_rfl) (by kernel_rfl) (fun _ _ _ h => h) (Or.inl ⟨by rfl, ?h19⟩) (by assumption) ?r19
        case h19 => (intro V hSw; have m0 := hSw.cell 0 _ rfl; have m1 := hSw.cell 1 _ rfl; have m2 := hSw.cell 2 _ rfl; have m3 := hSw.cell 3 _ rfl; have m4 := hSw.cell 4 _ rfl; have m5 := hSw.cell 5 _ rfl; have m6 := hSw.cell 6 _ rfl; clear hSw; go_simp; (try with_reducible rfl))
        simp only [Act.put]
        refine take_lg (i := 9) (d := some 142) (v := ?v20) rfl rfl (by kernel_rfl) (by kernel_rfl) (by kernel_rfl) (fun _ _ _ h => h) (Or.inl ⟨by rfl, ?h20⟩) (by assumption) ?r20
        case h20 => (intro V hSw; have m0 := hSw.cell 0 _ rfl; have m1 := hSw.cell 1 _ rfl; have m2 := hSw.cell 2 _ rfl; have m3 := hSw.cell 3 _ rfl; have m4 := hSw.cell 4 _ rfl; have m5 := hSw.cell 5 _ rfl; have m6 := hSw.cell 6 _ rfl; clear hSw; go_simp; (try with_reducible rfl))
        simp only [Act.put]
        refine wpAnyH_ready (rs := [10]) (by kernel_rfl) (by simp) ?_
        refine AllReadyH.cons rfl (fun K hK => ?_) AllReadyH.nil
        go_simp
        refine hK.out _ _ bs12 (fun hHeld8 => ?_)
        clear hK K hHeld8
        try simp only [Act.put, List.setIfInBounds_toArray, List.set_cons_zero, List.set_cons_succ]
        refine wpAnyH_done (by kernel_rfl) ?_ _
        go_wp2
        go_ret
        exact ⟨by rw [E0.out]; rfl, FN.out⟩
end Go.Proofs.YtjjfmepinpmkfaaDoor
