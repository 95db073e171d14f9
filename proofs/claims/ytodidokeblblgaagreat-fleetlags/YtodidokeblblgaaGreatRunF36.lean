/-
  Several texts as one: ShPkL.
-/
import Derived.Test.YtodidokeblblgaaGreatRunF34
namespace Go.Proofs.YtodidokeblblgaaGreat
open Go.ChangeShapes Go.WideShapes Go.ChangeAt Go.RowKit Go.Lib Go.Maps
set_option linter.unusedVariables false
theorem keyOfW {n : List Nat} (h : n.length ≤ 9223372036854775807) : keyOf Tryz.prog 9 (.string (byStr n)) = some (nmK n) := by
  have e := Go.WideMaps.keyOf_string_mk (P := Tryz.prog) (k := 9) Tryz.underlying9 (s := byStr n) (by
    have : (byStr n).size = n.length := by
      have := congrArg List.length (byStr_list n)
      simpa using this
    rw [this]; unfold maxLen; omega)
  rw [e, byStr_list]
  rfl
theorem SV.lookW {W : World} {f : Nat} {T : Nat → Nat} {S : M.Sh} {mm ml : Nat} {D E : DataW Value} {kb : Nat → Nat} {mb : List Nat → Nat} {va : List Nat → Option Addr} {vc : List Nat → Nat} {G : Nat → Gr} (h : SV W f T S mm ml D E kb mb va vc G) {n : List Nat} (hl : n.length ≤ 9223372036854775807) (hn : M.posL S.l n ≠ []) : (Instr.lookup 65 (.map (some mm)) (.string (byStr n)) false).run Tryz.prog W = .ok (.pointer (some ⟨mb n, 0, none⟩)) W := by
  obtain ⟨v, ps, hrun, hv⟩ := h.mo.lookup keyS Tryz.underlying65 (zeroM W) (zd := .held (.pointer none)) rfl (keyOfW hl)
  rw [h.ms n hn] at hv
  unfold selfE at hv
  simp only [Option.some.injEq, Prod.mk.injEq, DataW.held.injEq] at hv
  rw [hrun, hv.1]
  rfl
theorem SV.look0W {W : World} {f : Nat} {T : Nat → Nat} {S : M.Sh} {mm ml : Nat} {D E : DataW Value} {kb : Nat → Nat} {mb : List Nat → Nat} {va : List Nat → Option Addr} {vc : List Nat → Nat} {G : Nat → Gr} (h : SV W f T S mm ml D E kb mb va vc G) {n : List Nat} (hb : isB n) (hl : n.length ≤ 9223372036854775807) (hn : M.posL S.l n = []) : (Instr.lookup 65 (.map (some mm)) (.string (byStr n)) false).run Tryz.prog W = .ok (.pointer none) W := by
  obtain ⟨v, ps, hrun, hv⟩ := h.mo.lookup keyS Tryz.underlying65 (zeroM W) (zd := .held (.pointer none)) rfl (keyOfW hl)
  rw [atKey_of_not_has (h.mn n hb hn)] at hv
  unfold selfE at hv
  simp only [Option.some.injEq, Prod.mk.injEq, DataW.held.injEq] at hv
  rw [hrun, hv.1]

set_option maxHeartbeats 4000000 in
theorem sh_modelW {W : World} {f : Nat} {T : Nat → Nat} {S : M.Sh} {mm ml : Nat} {D E : DataW Value} {kb : Nat → Nat} {mb : List Nat → Nat} {va : List Nat → Option Addr} {vc : List Nat → Nat} {G : Nat → Gr} (h : SV W f T S mm ml D E kb mb va vc G) {n : List Nat} (hl : n.length ≤ 9223372036854775807) (hn : M.posL S.l n ≠ []) :
    Calls Tryz.prog 42 #[.pointer (some ⟨f, 0, none⟩), .string (byStr n)] W fun e w' => e = .returned (.pointer (some ⟨mb n, 0, none⟩)) ∧ w' = W := by
  have hrun := h.lookW hl hn
  have c0 := h.box.cell 0 _ rfl
  clear h hl hn
  generalize byStr n = s at *
  generalize mb n = b at *
  go_enter Tryz.func42, Tryz.ntmps42
  go_wp2
  go_ret
  exact ⟨rfl, rfl⟩
set_option maxHeartbeats 4000000 in
theorem sh_model0W {W : World} {f : Nat} {T : Nat → Nat} {S : M.Sh} {mm ml : Nat} {D E : DataW Value} {kb : Nat → Nat} {mb : List Nat → Nat} {va : List Nat → Option Addr} {vc : List Nat → Nat} {G : Nat → Gr} (h : SV W f T S mm ml D E kb mb va vc G) {n : List Nat} (hb : isB n) (hl : n.length ≤ 9223372036854775807) (hn : M.posL S.l n = []) :
    Calls Tryz.prog 42 #[.pointer (some ⟨f, 0, none⟩), .string (byStr n)] W fun e w' => e = .returned (.pointer (some ⟨W.heap.size, 0, none⟩)) ∧ w' = W.alloc (.cells #[.slice none 0 0, .pointer none, .pointer none] 107) := by
  have hrun := h.look0W hb hl hn
  have c0 := h.box.cell 0 _ rfl
  clear h hl hn hb
  generalize byStr n = s at *
  go_enter Tryz.func42, Tryz.ntmps42
  go_wp2
  go_ret
  exact ⟨rfl, rfl⟩

set_option maxHeartbeats 8000000 in
set_option maxRecDepth 10000 in
theorem sh_PickW {W : World} {f : Nat} {T : Nat → Nat} {S : M.Sh} {mm ml : Nat} {D E : DataW Value} {kb : Nat → Nat} {mb : List Nat → Nat} {va : List Nat → Option Addr} {vc : List Nat → Nat} {G : Nat → Gr} (h : SV W f T S mm ml D E kb mb va vc G) {n : List Nat} (hb : isB n) (hl : n.length ≤ 9223372036854775807) (key : Int) :
    Calls Tryz.prog 30 #[.pointer (some ⟨f, 0, none⟩), .string (byStr n), .int .i64 key] W fun e w' => e = .returned (.tuple #[vnV (M.pickV S n key), errV (M.pickF S n key)]) ∧ Below W.heap.size W w' := by
  obtain ⟨W1, hW1⟩ : ∃ X, X = W.alloc (.cells #[.string ⟨#[]⟩, .int .i64 0, .int .i64 0, .int .i64 0] 81) := ⟨_, rfl⟩
  have b1 : Below W.heap.size W W1 := by rw [hW1]; exact (Below.refl _ _).alloc (Nat.le_refl _) _
  have h1 := h.below b1
  have B1 := hide b1
  by_cases bad : M.timeB key = false
  · have E1 : Hid (M.pickV S n key = M.vn0 ∧ M.pickF S n key = 1) := by unfold Hid M.pickV M.pickF; rw [if_pos bad, if_pos bad]; exact ⟨rfl, rfl⟩
    rw [E1.out.1, E1.out.2, err_some (show (1 : Int) ≠ 0 by decide)]
    have ways : decide (key < 0) = true ∨ (decide (key < 0) = false ∧ decide (1000000 < key) = true) := by
      unfold M.timeB at bad
      simp only [decide_eq_true_iff, decide_eq_false_iff_not, Bool.and_eq_false_iff] at bad ⊢
      omega
    have FIN : Hid ((Bx W1 W.heap.size [.string ⟨#[]⟩, .int .i64 0, .int .i64 0, .int .i64 0] ∧ Bx ((((W1.setCell ⟨W.heap.size, 0, none⟩ (.string ⟨#[]⟩)).setCell ⟨W.heap.size, 1, none⟩ (.int .i64 0)).setCell ⟨W.heap.size, 2, none⟩ (.int .i64 0)).setCell ⟨W.heap.size, 3, none⟩ (.int .i64 0)) W.heap.size [.string ⟨#[]⟩, .int .i64 0, .int .i64 0, .int .i64 0]) ∧ Below W.heap.size W ((((W1.setCell ⟨W.heap.size, 0, none⟩ (.string ⟨#[]⟩)).setCell ⟨W.heap.size, 1, none⟩ (.int .i64 0)).setCell ⟨W.heap.size, 2, none⟩ (.int .i64 0)).setCell ⟨W.heap.size, 3, none⟩ (.int .i64 0))) := by
      rw [hW1]
      exact box_out (Below.refl _ _)
    have EV : Hid (vnV M.vn0 = .agg #[.string ⟨#[]⟩, .int .i64 0, .int .i64 0, .int .i64 0]) := rfl
    rw [EV.out]
    obtain ⟨⟨k0, k1⟩, k2⟩ := FIN.out
    have r0 := k0.cell 0 _ rfl
    have r1 := k0.cell 1 _ rfl
    have r2 := k0.cell 2 _ rfl
    have r3 := k0.cell 3 _ rfl
    have f0 := k0.free 0
    have f1 := k0.free 1
    have f2 := k0.free 2
    have f3 := k0.free 3
    have e0 := k1.cell 0 _ rfl
    have e1 := k1.cell 1 _ rfl
    have e2 := k1.cell 2 _ rfl
    have e3 := k1.cell 3 _ rfl
    have K2 := hide k2
    clear k0 k1 k2 FIN h h1 bad E1 b1 hb hl
    generalize byStr n = s at *
    rcases ways with g1 | ⟨g1, g2⟩
    all_goals (
      go_enter Tryz.func30, Tryz.ntmps30
      go_upto_region 1 with fail
      rw [← hW1]
      clear hW1
      go_wp2
      refine bodyPost_ret (v := .tuple #[.agg #[.string ⟨#[]⟩, .int .i64 0, .int .i64 0, .int .i64 0], .iface 44 (.int .i64 1)]) (by simp [results, Tryz.results30, go_sem, e0, e1, e2, e3]) rfl ?_
      exact ⟨rfl, K2.out⟩)
  have E1 : Hid (M.pickV S n key = M.told S (M.pickO S n key) ∧ M.pickF S n key = M.toldF (M.pickO S n key)) := by unfold Hid M.pickV M.pickF; rw [if_neg bad, if_neg bad]; exact ⟨rfl, rfl⟩
  rw [E1.out.1, E1.out.2]
  have kr : 0 ≤ key ∧ key ≤ 1000000 := by
    unfold M.timeB at bad
    simp only [Bool.and_eq_false_iff, decide_eq_false_iff_not] at bad
    omega
  have g1 : decide (key < 0) = false := decide_eq_false (by omega)
  have g2 : decide (1000000 < key) = false := decide_eq_false (by omega)
  have k37 : IntKind.i64.wrap (key * 37) = key * 37 := wrap_i64n (by omega) (by omega)
  obtain ⟨kr1, kr2⟩ := kr
  have TD : Hid (∀ o, (o = M.pickO S n key) → ∀ w, Below W.heap.size W w → Calls Tryz.prog 46 #[ptB (o.map kb)] w fun e w' => e = .returned (.tuple #[vnV (M.told S o), errV (M.toldF o)]) ∧ Below w.heap.size w w') := fun o ho w hw => sh_told (h.below hw) (fun k hk => by
    rw [ho] at hk
    unfold M.pickO at hk
    cases e : M.atN S n 2 with
    | none => rw [e] at hk; exact (M.at_is hk).1
    | some c =>
      rw [e] at hk
      simp only at hk
      split at hk
      · cases hk; exact (M.at_is e).1
      · exact (M.at_is hk).1)
  have FIN : Hid (∀ o, ∀ w, Below W1.heap.size W1 w → (Bx w W.heap.size [.string ⟨#[]⟩, .int .i64 0, .int .i64 0, .int .i64 0] ∧ Bx ((((w.setCell ⟨W.heap.size, 0, none⟩ (.string (byStr (M.told S o).name))).setCell ⟨W.heap.size, 1, none⟩ (.int .i64 (M.told S o).num)).setCell ⟨W.heap.size, 2, none⟩ (.int .i64 (M.told S o).stage)).setCell ⟨W.heap.size, 3, none⟩ (.int .i64 (M.told S o).share)) W.heap.size [.string (byStr (M.told S o).name), .int .i64 (M.told S o).num, .int .i64 (M.told S o).stage, .int .i64 (M.told S o).share]) ∧ Below W.heap.size W ((((w.setCell ⟨W.heap.size, 0, none⟩ (.string (byStr (M.told S o).name))).setCell ⟨W.heap.size, 1, none⟩ (.int .i64 (M.told S o).num)).setCell ⟨W.heap.size, 2, none⟩ (.int .i64 (M.told S o).stage)).setCell ⟨W.heap.size, 3, none⟩ (.int .i64 (M.told S o).share))) := fun o w hw => by
    rw [hW1] at hw
    exact box_out hw
  obtain ⟨o, ho⟩ : ∃ o, o = M.pickO S n key := ⟨_, rfl⟩
  have TD := hide (TD.out o ho)
  have FIN := hide (FIN.out o)
  rw [← ho]
  by_cases hn : M.posL S.l n = []
  · have EO : Hid (M.pickO S n key = none) := by unfold Hid M.pickO; rw [at_no hn, at_no hn]
    have MD := hide (sh_model0W h1 hb hl hn)
    have BM : Hid (Below W1.heap.size W1 (W1.alloc (.cells #[.slice none 0 0, .pointer none, .pointer none] 107))) := (Below.refl _ _).alloc (Nat.le_refl _) _
    have CM : Hid (Bx (W1.alloc (.cells #[.slice none 0 0, .pointer none, .pointer none] 107)) W1.heap.size [.slice none 0 0, .pointer none, .pointer none]) := bx_new W1 _ _
    have PN : Hid (ptB (o.map kb) = .pointer none) := by unfold Hid; rw [ho, EO.out]; rfl
    rw [PN.out] at TD
    unfold vnV at TD ⊢
    clear h h1 hb hl hn b1 PN EO E1 bad ho
    generalize byStr n = s at *
    generalize byStr (M.told S o).name = x0 at *
    generalize (M.told S o).num = x1 at *
    generalize (M.told S o).stage = x2 at *
    generalize (M.told S o).share = x3 at *
    generalize errV (M.toldF o) = ev at *
    go_enter Tryz.func30, Tryz.ntmps30
    go_upto_region 1 with fail
    rw [← hW1]
    clear hW1
    have m1 := CM.out.cell 1 _ rfl
    have m2 := CM.out.cell 2 _ rfl
    go_wp2_with (first
      | (go_at_call 42; refine MD.out.mono ?_; rintro e w2 ⟨rfl, e2⟩; have e2' := e2; subst e2')
      | (go_at_call 46; refine (TD.out _ (below_on B1.out BM.out)).mono ?_; rintro e w3 ⟨rfl, b3⟩; obtain ⟨⟨k0, k1⟩, k2⟩ := FIN.out _ (below_on BM.out b3); have r0 := k0.cell 0 _ rfl; have r1 := k0.cell 1 _ rfl; have r2 := k0.cell 2 _ rfl; have r3 := k0.cell 3 _ rfl; have f0 := k0.free 0; have f1 := k0.free 1; have f2 := k0.free 2; have f3 := k0.free 3; have e0 := k1.cell 0 _ rfl; have e1 := k1.cell 1 _ rfl; have e2 := k1.cell 2 _ rfl; have e3 := k1.cell 3 _ rfl; have K2 := hide k2; clear k0 k1 k2 b3))
    refine bodyPost_ret (v := .tuple #[.agg #[.string x0, .int .i64 x1, .int .i64 x2, .int .i64 x3], ev]) (by simp [results, Tryz.results30, go_sem, e0, e1, e2, e3]) rfl ?_
    exact ⟨rfl, K2.out⟩
  have MD := hide (sh_modelW h1 hl hn)
  have m1 := (h1.mc n hn).cell 1 _ rfl
  have m2 := (h1.mc n hn).cell 2 _ rfl
  cases hc : M.atN S n 2 with
  | none =>
    have EO : Hid (o = M.atN S n 3) := by unfold Hid; rw [ho]; unfold M.pickO; rw [hc]
    rw [hc] at m1
    replace m1 : W1.cell? ⟨mb n, 1, none⟩ = some (.pointer none) := m1
    rw [← EO.out] at m2
    unfold vnV at TD ⊢
    clear h h1 hb hl hn b1 EO E1 bad ho hc
    generalize ptB (o.map kb) = pv at *
    generalize byStr n = s at *
    generalize mb n = mq at *
    generalize byStr (M.told S o).name = x0 at *
    generalize (M.told S o).num = x1 at *
    generalize (M.told S o).stage = x2 at *
    generalize (M.told S o).share = x3 at *
    generalize errV (M.toldF o) = ev at *
    go_enter Tryz.func30, Tryz.ntmps30
    go_upto_region 1 with fail
    rw [← hW1]
    clear hW1
    go_wp2_with (first
      | (go_at_call 42; refine MD.out.mono ?_; rintro e w2 ⟨rfl, e2⟩; have e2' := e2.symm; subst e2')
      | (go_at_call 46; refine (TD.out _ B1.out).mono ?_; rintro e w3 ⟨rfl, b3⟩; obtain ⟨⟨k0, k1⟩, k2⟩ := FIN.out _ b3; have r0 := k0.cell 0 _ rfl; have r1 := k0.cell 1 _ rfl; have r2 := k0.cell 2 _ rfl; have r3 := k0.cell 3 _ rfl; have f0 := k0.free 0; have f1 := k0.free 1; have f2 := k0.free 2; have f3 := k0.free 3; have e0 := k1.cell 0 _ rfl; have e1 := k1.cell 1 _ rfl; have e2 := k1.cell 2 _ rfl; have e3 := k1.cell 3 _ rfl; have K2 := hide k2; clear k0 k1 k2 b3))
    refine bodyPost_ret (v := .tuple #[.agg #[.string x0, .int .i64 x1, .int .i64 x2, .int .i64 x3], ev]) (by simp [results, Tryz.results30, go_sem, e0, e1, e2, e3]) rfl ?_
    exact ⟨rfl, K2.out⟩
  | some c =>
    obtain ⟨k1', k2', k3'⟩ := M.at_is hc
    rw [hc] at m1
    replace m1 : W1.cell? ⟨mb n, 1, none⟩ = some (.pointer (some ⟨kb c, 0, none⟩)) := m1
    have s3 := (h1.kc c k1').cell 3 _ rfl
    by_cases lt : key * 37 % 100 < (vAt S c).share
    · have EO : Hid (o = some c) := by unfold Hid; rw [ho]; unfold M.pickO; rw [hc]; exact if_pos lt
      have t1 : decide (key * 37 % 100 < (vAt S c).share) = true := decide_eq_true lt
      have PN : Hid (ptB (o.map kb) = .pointer (some ⟨kb c, 0, none⟩)) := by unfold Hid; rw [EO.out]; rfl
      rw [PN.out] at TD
      unfold vnV at TD ⊢
      clear h h1 hb hl hn b1 EO E1 bad ho hc PN lt k1' k2' k3' m2
      generalize byStr n = s at *
      generalize mb n = mq at *
      generalize kb c = kq at *
      generalize (vAt S c).share = sh at *
      generalize byStr (M.told S o).name = x0 at *
      generalize (M.told S o).num = x1 at *
      generalize (M.told S o).stage = x2 at *
      generalize (M.told S o).share = x3 at *
      generalize errV (M.toldF o) = ev at *
      go_enter Tryz.func30, Tryz.ntmps30
      go_upto_region 1 with fail
      rw [← hW1]
      clear hW1
      go_wp2_with (first
        | (go_at_call 42; refine MD.out.mono ?_; rintro e w2 ⟨rfl, e2⟩; have e2' := e2.symm; subst e2')
        | (go_at_call 46; refine (TD.out _ B1.out).mono ?_; rintro e w3 ⟨rfl, b3⟩; obtain ⟨⟨k0, k1⟩, k2⟩ := FIN.out _ b3; have r0 := k0.cell 0 _ rfl; have r1 := k0.cell 1 _ rfl; have r2 := k0.cell 2 _ rfl; have r3 := k0.cell 3 _ rfl; have f0 := k0.free 0; have f1 := k0.free 1; have f2 := k0.free 2; have f3 := k0.free 3; have e0 := k1.cell 0 _ rfl; have e1 := k1.cell 1 _ rfl; have e2 := k1.cell 2 _ rfl; have e3 := k1.cell 3 _ rfl; have K2 := hide k2; clear k0 k1 k2 b3))
      refine bodyPost_ret (v := .tuple #[.agg #[.string x0, .int .i64 x1, .int .i64 x2, .int .i64 x3], ev]) (by simp [results, Tryz.results30, go_sem, e0, e1, e2, e3]) rfl ?_
      exact ⟨rfl, K2.out⟩
    · have EO : Hid (o = M.atN S n 3) := by unfold Hid; rw [ho]; unfold M.pickO; rw [hc]; exact if_neg lt
      have t1 : decide (key * 37 % 100 < (vAt S c).share) = false := decide_eq_false lt
      rw [← EO.out] at m2
      unfold vnV at TD ⊢
      clear h h1 hb hl hn b1 EO E1 bad ho hc lt k1' k2' k3'
      generalize ptB (o.map kb) = pv at *
      generalize byStr n = s at *
      generalize mb n = mq at *
      generalize kb c = kq at *
      generalize (vAt S c).share = sh at *
      generalize byStr (M.told S o).name = x0 at *
      generalize (M.told S o).num = x1 at *
      generalize (M.told S o).stage = x2 at *
      generalize (M.told S o).share = x3 at *
      generalize errV (M.toldF o) = ev at *
      go_enter Tryz.func30, Tryz.ntmps30
      go_upto_region 1 with fail
      rw [← hW1]
      clear hW1
      go_wp2_with (first
        | (go_at_call 42; refine MD.out.mono ?_; rintro e w2 ⟨rfl, e2⟩; have e2' := e2.symm; subst e2')
        | (go_at_call 46; refine (TD.out _ B1.out).mono ?_; rintro e w3 ⟨rfl, b3⟩; obtain ⟨⟨k0, k1⟩, k2⟩ := FIN.out _ b3; have r0 := k0.cell 0 _ rfl; have r1 := k0.cell 1 _ rfl; have r2 := k0.cell 2 _ rfl; have r3 := k0.cell 3 _ rfl; have f0 := k0.free 0; have f1 := k0.free 1; have f2 := k0.free 2; have f3 := k0.free 3; have e0 := k1.cell 0 _ rfl; have e1 := k1.cell 1 _ rfl; have e2 := k1.cell 2 _ rfl; have e3 := k1.cell 3 _ rfl; have K2 := hide k2; clear k0 k1 k2 b3))
      refine bodyPost_ret (v := .tuple #[.agg #[.string x0, .int .i64 x1, .int .i64 x2, .int .i64 x3], ev]) (by simp [results, Tryz.results30, go_sem, e0, e1, e2, e3]) rfl ?_
      exact ⟨rfl, K2.out⟩
end Go.Proofs.YtodidokeblblgaaGreat
