/-
  Several texts as one: ShPick, ShAdd.
-/
import Derived.Test.YtodidokeblblgaaGreatRunF33
import Derived.Test.YtodidokeblblgaaGreatRunF11
import Derived.Test.YtodidokeblblgaaGreatRunF16
namespace Go.Proofs.YtodidokeblblgaaGreat
open Go.ChangeShapes Go.WideShapes Go.ChangeAt Go.RowKit Go.Lib Go.Maps
set_option linter.unusedVariables false
def vnV (v : M.Vn) : Value := .agg #[.string (byStr v.name), .int .i64 v.num, .int .i64 v.stage, .int .i64 v.share]
/-- what is told of a version, if there is one -/
def M.told (S : M.Sh) (o : Option Nat) : M.Vn := match o with
  | none => M.vn0
  | some k => vAt S k
def M.toldF (o : Option Nat) : Int := match o with
  | none => 5
  | some _ => 0
theorem byNil : byStr [] = ⟨#[]⟩ := rfl
theorem four_box {W w : World} {x0 x1 x2 x3 : Value} {t : TypeId} (hb : Below (W.alloc (.cells #[x0, x1, x2, x3] t)).heap.size (W.alloc (.cells #[x0, x1, x2, x3] t)) w) : Bx w W.heap.size [x0, x1, x2, x3] := (bx_new W [x0, x1, x2, x3] t).keep (hb.block _ (by simp))
theorem four_put {w : World} {p : Nat} {x0 x1 x2 x3 y0 y1 y2 y3 : Value} (h : Bx w p [x0, x1, x2, x3]) : Bx ((((w.setCell ⟨p, 0, none⟩ y0).setCell ⟨p, 1, none⟩ y1).setCell ⟨p, 2, none⟩ y2).setCell ⟨p, 3, none⟩ y3) p [y0, y1, y2, y3] := (((h.put (j := 0)).put (j := 1)).put (j := 2)).put (j := 3)

set_option maxHeartbeats 4000000 in
theorem sh_versionOf0 (W : World) : Calls Tryz.prog 46 #[.pointer none] W fun e w' => e = .returned (.tuple #[vnV M.vn0, errV 5]) ∧ Below W.heap.size W w' := by
  have E5 : Hid (errV 5 = .iface 44 (.int .i64 5)) := err_some (by decide)
  have EV : Hid (vnV M.vn0 = .agg #[.string ⟨#[]⟩, .int .i64 0, .int .i64 0, .int .i64 0]) := rfl
  rw [E5.out, EV.out]
  go_enter Tryz.func46, Tryz.ntmps46
  go_wp2
  refine bodyPost_ret (v := .tuple #[.agg #[.string ⟨#[]⟩, .int .i64 0, .int .i64 0, .int .i64 0], .iface 44 (.int .i64 5)]) (by simp [results, Tryz.results46, go_sem]) rfl ?_
  refine ⟨rfl, ?_⟩
  repeat (first | exact Below.refl _ _ | refine Below.alloc ?_ (by simp) _ | refine Below.setCell ?_ (by simp) _)
set_option maxHeartbeats 4000000 in
theorem sh_versionOf {W : World} {f : Nat} {T : Nat → Nat} {S : M.Sh} {mm ml : Nat} {D E : DataW Value} {kb : Nat → Nat} {mb : List Nat → Nat} {va : List Nat → Option Addr} {vc : List Nat → Nat} {G : Nat → Gr} (h : SV W f T S mm ml D E kb mb va vc G) {k : Nat} (hk : k < S.l.length) : Calls Tryz.prog 46 #[.pointer (some ⟨kb k, 0, none⟩)] W fun e w' => e = .returned (.tuple #[vnV (vAt S k), errV 0]) ∧ Below W.heap.size W w' := by
  have bk := h.kc k hk
  have c0 := bk.cell 0 _ rfl
  have c1 := bk.cell 1 _ rfl
  have c2 := bk.cell 2 _ rfl
  have c3 := bk.cell 3 _ rfl
  have l1 : kb k < W.heap.size := bk.lt
  have l2 : ¬ kb k = W.heap.size := by omega
  have l3 : ¬ W.heap.size = kb k := by omega
  have E0 : Hid (errV 0 = .nilIface) := err_nil rfl
  unfold vnV
  rw [E0.out]
  clear h bk
  generalize byStr (vAt S k).name = x0 at *
  generalize (vAt S k).num = x1 at *
  generalize (vAt S k).stage = x2 at *
  generalize (vAt S k).share = x3 at *
  generalize kb k = q at *
  go_enter Tryz.func46, Tryz.ntmps46
  go_wp2
  refine bodyPost_ret (v := .tuple #[.agg #[.string x0, .int .i64 x1, .int .i64 x2, .int .i64 x3], .nilIface]) (by simp [results, Tryz.results46, go_sem]) rfl ?_
  refine ⟨rfl, ?_⟩
  repeat (first | exact Below.refl _ _ | refine Below.alloc ?_ (by simp) _ | refine Below.setCell ?_ (by simp) _)

/-- what versionOf answers of a version, or of none -/
theorem sh_told {W : World} {f : Nat} {T : Nat → Nat} {S : M.Sh} {mm ml : Nat} {D E : DataW Value} {kb : Nat → Nat} {mb : List Nat → Nat} {va : List Nat → Option Addr} {vc : List Nat → Nat} {G : Nat → Gr} (h : SV W f T S mm ml D E kb mb va vc G) {o : Option Nat} (ho : ∀ k, o = some k → k < S.l.length) : Calls Tryz.prog 46 #[ptB (o.map kb)] W fun e w' => e = .returned (.tuple #[vnV (M.told S o), errV (M.toldF o)]) ∧ Below W.heap.size W w' := by
  cases o with
  | none => exact sh_versionOf0 W
  | some k => exact sh_versionOf h (ho k rfl)
theorem at_no {S : M.Sh} {n : List Nat} (hn : M.posL S.l n = []) (st : Int) : M.atN S n st = none := M.at_none (fun k hk z => by
  have := M.pos_mem.2 ⟨hk, z.1⟩
  rw [hn] at this
  cases this)
/-- the box of an answer stays, and takes what is put there -/
theorem box_out {W w : World} {y0 y1 y2 y3 : Value} (hb : Below (W.alloc (.cells #[.string ⟨#[]⟩, .int .i64 0, .int .i64 0, .int .i64 0] 81)).heap.size (W.alloc (.cells #[.string ⟨#[]⟩, .int .i64 0, .int .i64 0, .int .i64 0] 81)) w) : (Bx w W.heap.size [.string ⟨#[]⟩, .int .i64 0, .int .i64 0, .int .i64 0] ∧ Bx ((((w.setCell ⟨W.heap.size, 0, none⟩ y0).setCell ⟨W.heap.size, 1, none⟩ y1).setCell ⟨W.heap.size, 2, none⟩ y2).setCell ⟨W.heap.size, 3, none⟩ y3) W.heap.size [y0, y1, y2, y3]) ∧ Below W.heap.size W ((((w.setCell ⟨W.heap.size, 0, none⟩ y0).setCell ⟨W.heap.size, 1, none⟩ y1).setCell ⟨W.heap.size, 2, none⟩ y2).setCell ⟨W.heap.size, 3, none⟩ y3) := by
  have b := four_box hb
  exact ⟨⟨b, four_put b⟩, ((((below_on ((Below.refl _ W).alloc (Nat.le_refl _) _) hb).setCell (Nat.le_refl _) _).setCell (Nat.le_refl _) _).setCell (Nat.le_refl _) _).setCell (Nat.le_refl _) _⟩

def M.pickO (S : M.Sh) (n : List Nat) (key : Int) : Option Nat := match M.atN S n 2 with
  | none => M.atN S n 3
  | some k => if key * 37 % 100 < (vAt S k).share then some k else M.atN S n 3
def M.pickF (S : M.Sh) (n : List Nat) (key : Int) : Int := if M.timeB key = false then 1 else M.toldF (M.pickO S n key)
def M.pickV (S : M.Sh) (n : List Nat) (key : Int) : M.Vn := if M.timeB key = false then M.vn0 else M.told S (M.pickO S n key)
set_option maxHeartbeats 8000000 in
set_option maxRecDepth 10000 in
theorem sh_Pick {W : World} {f : Nat} {T : Nat → Nat} {S : M.Sh} {mm ml : Nat} {D E : DataW Value} {kb : Nat → Nat} {mb : List Nat → Nat} {va : List Nat → Option Addr} {vc : List Nat → Nat} {G : Nat → Gr} (h : SV W f T S mm ml D E kb mb va vc G) {n : List Nat} (hb : isB n) (hl : n.length ≤ 140737488351232) (key : Int) :
    Calls Tryz.prog 30 #[.pointer (some ⟨f, 0, none⟩), .string (byStr n), .int .i64 key] W fun e w' => e = .returned (.tuple #[vnV (M.pickV S n key), errV (M.pickF S n key)]) ∧ Below W.heap.size W w' := by
  obtain ⟨W1, hW1⟩ : ∃ X, X = W.alloc (.cells #[.string ⟨#[]⟩, .int .i64 0, .int .i64 0, .int .i64 0] 81) := ⟨_, rfl⟩
  have b1 : Below W.heap.size W W1 := by rw [hW1]; exact (Below.refl _ _).alloc (Nat.le_refl _) _
  have h1 := h.below b1
  have B1 := hide b1
  by_cases bad : M.timeB key = false
  · have E1 : Hid (M.pickV S n key = M.vn0 ∧ M.pickF S n key = 1) := by unfold Hid M.pickV M.pickF; rw [if_pos bad, if_pos bad]; exact ⟨rfl, rfl⟩
    rw [E1.out.1, E1.out.2, err_some (show (1 : Int) ≠ 0 by decide)]
    have ways : decide (key < 0) = true ∨ (decide (key < 0) = false ∧ decide (1000000 < key) = true) := by
      unfold M.timeB at bad
      simp only [decide_eq_true_iff, decide_eq_false_iff_not, Bool.and_eq_false_iff] at bad ⊢
      omega
    have FIN : Hid ((Bx W1 W.heap.size [.string ⟨#[]⟩, .int .i64 0, .int .i64 0, .int .i64 0] ∧ Bx ((((W1.setCell ⟨W.heap.size, 0, none⟩ (.string ⟨#[]⟩)).setCell ⟨W.heap.size, 1, none⟩ (.int .i64 0)).setCell ⟨W.heap.size, 2, none⟩ (.int .i64 0)).setCell ⟨W.heap.size, 3, none⟩ (.int .i64 0)) W.heap.size [.string ⟨#[]⟩, .int .i64 0, .int .i64 0, .int .i64 0]) ∧ Below W.heap.size W ((((W1.setCell ⟨W.heap.size, 0, none⟩ (.string ⟨#[]⟩)).setCell ⟨W.heap.size, 1, none⟩ (.int .i64 0)).setCell ⟨W.heap.size, 2, none⟩ (.int .i64 0)).setCell ⟨W.heap.size, 3, none⟩ (.int .i64 0))) := by
      rw [hW1]
      exact box_out (Below.refl _ _)
    have EV : Hid (vnV M.vn0 = .agg #[.string ⟨#[]⟩, .int .i64 0, .int .i64 0, .int .i64 0]) := rfl
    rw [EV.out]
    obtain ⟨⟨k0, k1⟩, k2⟩ := FIN.out
    have r0 := k0.cell 0 _ rfl
    have r1 := k0.cell 1 _ rfl
    have r2 := k0.cell 2 _ rfl
    have r3 := k0.cell 3 _ rfl
    have f0 := k0.free 0
    have f1 := k0.free 1
    have f2 := k0.free 2
    have f3 := k0.free 3
    have e0 := k1.cell 0 _ rfl
    have e1 := k1.cell 1 _ rfl
    have e2 := k1.cell 2 _ rfl
    have e3 := k1.cell 3 _ rfl
    have K2 := hide k2
    clear k0 k1 k2 FIN h h1 bad E1 b1 hb hl
    generalize byStr n = s at *
    rcases ways with g1 | ⟨g1, g2⟩
    all_goals (
      go_enter Tryz.func30, Tryz.ntmps30
      go_upto_region 1 with fail
      rw [← hW1]
      clear hW1
      go_wp2
      refine bodyPost_ret (v := .tuple #[.agg #[.string ⟨#[]⟩, .int .i64 0, .int .i64 0, .int .i64 0], .iface 44 (.int .i64 1)]) (by simp [results, Tryz.results30, go_sem, e0, e1, e2, e3]) rfl ?_
      exact ⟨rfl, K2.out⟩)
  have E1 : Hid (M.pickV S n key = M.told S (M.pickO S n key) ∧ M.pickF S n key = M.toldF (M.pickO S n key)) := by unfold Hid M.pickV M.pickF; rw [if_neg bad, if_neg bad]; exact ⟨rfl, rfl⟩
  rw [E1.out.1, E1.out.2]
  have kr : 0 ≤ key ∧ key ≤ 1000000 := by
    unfold M.timeB at bad
    simp only [Bool.and_eq_false_iff, decide_eq_false_iff_not] at bad
    omega
  have g1 : decide (key < 0) = false := decide_eq_false (by omega)
  have g2 : decide (1000000 < key) = false := decide_eq_false (by omega)
  have k37 : IntKind.i64.wrap (key * 37) = key * 37 := wrap_i64n (by omega) (by omega)
  obtain ⟨kr1, kr2⟩ := kr
  have TD : Hid (∀ o, (o = M.pickO S n key) → ∀ w, Below W.heap.size W w → Calls Tryz.prog 46 #[ptB (o.map kb)] w fun e w' => e = .returned (.tuple #[vnV (M.told S o), errV (M.toldF o)]) ∧ Below w.heap.size w w') := fun o ho w hw => sh_told (h.below hw) (fun k hk => by
    rw [ho] at hk
    unfold M.pickO at hk
    cases e : M.atN S n 2 with
    | none => rw [e] at hk; exact (M.at_is hk).1
    | some c =>
      rw [e] at hk
      simp only at hk
      split at hk
      · cases hk; exact (M.at_is e).1
      · exact (M.at_is hk).1)
  have FIN : Hid (∀ o, ∀ w, Below W1.heap.size W1 w → (Bx w W.heap.size [.string ⟨#[]⟩, .int .i64 0, .int .i64 0, .int .i64 0] ∧ Bx ((((w.setCell ⟨W.heap.size, 0, none⟩ (.string (byStr (M.told S o).name))).setCell ⟨W.heap.size, 1, none⟩ (.int .i64 (M.told S o).num)).setCell ⟨W.heap.size, 2, none⟩ (.int .i64 (M.told S o).stage)).setCell ⟨W.heap.size, 3, none⟩ (.int .i64 (M.told S o).share)) W.heap.size [.string (byStr (M.told S o).name), .int .i64 (M.told S o).num, .int .i64 (M.told S o).stage, .int .i64 (M.told S o).share]) ∧ Below W.heap.size W ((((w.setCell ⟨W.heap.size, 0, none⟩ (.string (byStr (M.told S o).name))).setCell ⟨W.heap.size, 1, none⟩ (.int .i64 (M.told S o).num)).setCell ⟨W.heap.size, 2, none⟩ (.int .i64 (M.told S o).stage)).setCell ⟨W.heap.size, 3, none⟩ (.int .i64 (M.told S o).share))) := fun o w hw => by
    rw [hW1] at hw
    exact box_out hw
  obtain ⟨o, ho⟩ : ∃ o, o = M.pickO S n key := ⟨_, rfl⟩
  have TD := hide (TD.out o ho)
  have FIN := hide (FIN.out o)
  rw [← ho]
  by_cases hn : M.posL S.l n = []
  · have EO : Hid (M.pickO S n key = none) := by unfold Hid M.pickO; rw [at_no hn, at_no hn]
    have MD := hide (sh_model0 h1 hb hl hn)
    have BM : Hid (Below W1.heap.size W1 (W1.alloc (.cells #[.slice none 0 0, .pointer none, .pointer none] 107))) := (Below.refl _ _).alloc (Nat.le_refl _) _
    have CM : Hid (Bx (W1.alloc (.cells #[.slice none 0 0, .pointer none, .pointer none] 107)) W1.heap.size [.slice none 0 0, .pointer none, .pointer none]) := bx_new W1 _ _
    have PN : Hid (ptB (o.map kb) = .pointer none) := by unfold Hid; rw [ho, EO.out]; rfl
    rw [PN.out] at TD
    unfold vnV at TD ⊢
    clear h h1 hb hl hn b1 PN EO E1 bad ho
    generalize byStr n = s at *
    generalize byStr (M.told S o).name = x0 at *
    generalize (M.told S o).num = x1 at *
    generalize (M.told S o).stage = x2 at *
    generalize (M.told S o).share = x3 at *
    generalize errV (M.toldF o) = ev at *
    go_enter Tryz.func30, Tryz.ntmps30
    go_upto_region 1 with fail
    rw [← hW1]
    clear hW1
    have m1 := CM.out.cell 1 _ rfl
    have m2 := CM.out.cell 2 _ rfl
    go_wp2_with (first
      | (go_at_call 42; refine MD.out.mono ?_; rintro e w2 ⟨rfl, e2⟩; have e2' := e2; subst e2')
      | (go_at_call 46; refine (TD.out _ (below_on B1.out BM.out)).mono ?_; rintro e w3 ⟨rfl, b3⟩; obtain ⟨⟨k0, k1⟩, k2⟩ := FIN.out _ (below_on BM.out b3); have r0 := k0.cell 0 _ rfl; have r1 := k0.cell 1 _ rfl; have r2 := k0.cell 2 _ rfl; have r3 := k0.cell 3 _ rfl; have f0 := k0.free 0; have f1 := k0.free 1; have f2 := k0.free 2; have f3 := k0.free 3; have e0 := k1.cell 0 _ rfl; have e1 := k1.cell 1 _ rfl; have e2 := k1.cell 2 _ rfl; have e3 := k1.cell 3 _ rfl; have K2 := hide k2; clear k0 k1 k2 b3))
    refine bodyPost_ret (v := .tuple #[.agg #[.string x0, .int .i64 x1, .int .i64 x2, .int .i64 x3], ev]) (by simp [results, Tryz.results30, go_sem, e0, e1, e2, e3]) rfl ?_
    exact ⟨rfl, K2.out⟩
  have MD := hide (sh_model h1 hl hn)
  have m1 := (h1.mc n hn).cell 1 _ rfl
  have m2 := (h1.mc n hn).cell 2 _ rfl
  cases hc : M.atN S n 2 with
  | none =>
    have EO : Hid (o = M.atN S n 3) := by unfold Hid; rw [ho]; unfold M.pickO; rw [hc]
    rw [hc] at m1
    replace m1 : W1.cell? ⟨mb n, 1, none⟩ = some (.pointer none) := m1
    rw [← EO.out] at m2
    unfold vnV at TD ⊢
    clear h h1 hb hl hn b1 EO E1 bad ho hc
    generalize ptB (o.map kb) = pv at *
    generalize byStr n = s at *
    generalize mb n = mq at *
    generalize byStr (M.told S o).name = x0 at *
    generalize (M.told S o).num = x1 at *
    generalize (M.told S o).stage = x2 at *
    generalize (M.told S o).share = x3 at *
    generalize errV (M.toldF o) = ev at *
    go_enter Tryz.func30, Tryz.ntmps30
    go_upto_region 1 with fail
    rw [← hW1]
    clear hW1
    go_wp2_with (first
      | (go_at_call 42; refine MD.out.mono ?_; rintro e w2 ⟨rfl, e2⟩; have e2' := e2.symm; subst e2')
      | (go_at_call 46; refine (TD.out _ B1.out).mono ?_; rintro e w3 ⟨rfl, b3⟩; obtain ⟨⟨k0, k1⟩, k2⟩ := FIN.out _ b3; have r0 := k0.cell 0 _ rfl; have r1 := k0.cell 1 _ rfl; have r2 := k0.cell 2 _ rfl; have r3 := k0.cell 3 _ rfl; have f0 := k0.free 0; have f1 := k0.free 1; have f2 := k0.free 2; have f3 := k0.free 3; have e0 := k1.cell 0 _ rfl; have e1 := k1.cell 1 _ rfl; have e2 := k1.cell 2 _ rfl; have e3 := k1.cell 3 _ rfl; have K2 := hide k2; clear k0 k1 k2 b3))
    refine bodyPost_ret (v := .tuple #[.agg #[.string x0, .int .i64 x1, .int .i64 x2, .int .i64 x3], ev]) (by simp [results, Tryz.results30, go_sem, e0, e1, e2, e3]) rfl ?_
    exact ⟨rfl, K2.out⟩
  | some c =>
    obtain ⟨k1', k2', k3'⟩ := M.at_is hc
    rw [hc] at m1
    replace m1 : W1.cell? ⟨mb n, 1, none⟩ = some (.pointer (some ⟨kb c, 0, none⟩)) := m1
    have s3 := (h1.kc c k1').cell 3 _ rfl
    by_cases lt : key * 37 % 100 < (vAt S c).share
    · have EO : Hid (o = some c) := by unfold Hid; rw [ho]; unfold M.pickO; rw [hc]; exact if_pos lt
      have t1 : decide (key * 37 % 100 < (vAt S c).share) = true := decide_eq_true lt
      have PN : Hid (ptB (o.map kb) = .pointer (some ⟨kb c, 0, none⟩)) := by unfold Hid; rw [EO.out]; rfl
      rw [PN.out] at TD
      unfold vnV at TD ⊢
      clear h h1 hb hl hn b1 EO E1 bad ho hc PN lt k1' k2' k3' m2
      generalize byStr n = s at *
      generalize mb n = mq at *
      generalize kb c = kq at *
      generalize (vAt S c).share = sh at *
      generalize byStr (M.told S o).name = x0 at *
      generalize (M.told S o).num = x1 at *
      generalize (M.told S o).stage = x2 at *
      generalize (M.told S o).share = x3 at *
      generalize errV (M.toldF o) = ev at *
      go_enter Tryz.func30, Tryz.ntmps30
      go_upto_region 1 with fail
      rw [← hW1]
      clear hW1
      go_wp2_with (first
        | (go_at_call 42; refine MD.out.mono ?_; rintro e w2 ⟨rfl, e2⟩; have e2' := e2.symm; subst e2')
        | (go_at_call 46; refine (TD.out _ B1.out).mono ?_; rintro e w3 ⟨rfl, b3⟩; obtain ⟨⟨k0, k1⟩, k2⟩ := FIN.out _ b3; have r0 := k0.cell 0 _ rfl; have r1 := k0.cell 1 _ rfl; have r2 := k0.cell 2 _ rfl; have r3 := k0.cell 3 _ rfl; have f0 := k0.free 0; have f1 := k0.free 1; have f2 := k0.free 2; have f3 := k0.free 3; have e0 := k1.cell 0 _ rfl; have e1 := k1.cell 1 _ rfl; have e2 := k1.cell 2 _ rfl; have e3 := k1.cell 3 _ rfl; have K2 := hide k2; clear k0 k1 k2 b3))
      refine bodyPost_ret (v := .tuple #[.agg #[.string x0, .int .i64 x1, .int .i64 x2, .int .i64 x3], ev]) (by simp [results, Tryz.results30, go_sem, e0, e1, e2, e3]) rfl ?_
      exact ⟨rfl, K2.out⟩
    · have EO : Hid (o = M.atN S n 3) := by unfold Hid; rw [ho]; unfold M.pickO; rw [hc]; exact if_neg lt
      have t1 : decide (key * 37 % 100 < (vAt S c).share) = false := decide_eq_false lt
      rw [← EO.out] at m2
      unfold vnV at TD ⊢
      clear h h1 hb hl hn b1 EO E1 bad ho hc lt k1' k2' k3'
      generalize ptB (o.map kb) = pv at *
      generalize byStr n = s at *
      generalize mb n = mq at *
      generalize kb c = kq at *
      generalize (vAt S c).share = sh at *
      generalize byStr (M.told S o).name = x0 at *
      generalize (M.told S o).num = x1 at *
      generalize (M.told S o).stage = x2 at *
      generalize (M.told S o).share = x3 at *
      generalize errV (M.toldF o) = ev at *
      go_enter Tryz.func30, Tryz.ntmps30
      go_upto_region 1 with fail
      rw [← hW1]
      clear hW1
      go_wp2_with (first
        | (go_at_call 42; refine MD.out.mono ?_; rintro e w2 ⟨rfl, e2⟩; have e2' := e2.symm; subst e2')
        | (go_at_call 46; refine (TD.out _ B1.out).mono ?_; rintro e w3 ⟨rfl, b3⟩; obtain ⟨⟨k0, k1⟩, k2⟩ := FIN.out _ b3; have r0 := k0.cell 0 _ rfl; have r1 := k0.cell 1 _ rfl; have r2 := k0.cell 2 _ rfl; have r3 := k0.cell 3 _ rfl; have f0 := k0.free 0; have f1 := k0.free 1; have f2 := k0.free 2; have f3 := k0.free 3; have e0 := k1.cell 0 _ rfl; have e1 := k1.cell 1 _ rfl; have e2 := k1.cell 2 _ rfl; have e3 := k1.cell 3 _ rfl; have K2 := hide k2; clear k0 k1 k2 b3))
      refine bodyPost_ret (v := .tuple #[.agg #[.string x0, .int .i64 x1, .int .i64 x2, .int .i64 x3], ev]) (by simp [results, Tryz.results30, go_sem, e0, e1, e2, e3]) rfl ?_
      exact ⟨rfl, K2.out⟩
/-- a version that is new -/
def M.newV (S : M.Sh) (n : List Nat) (g : M.Gv) : M.Vn × M.Gv := (⟨n, (M.many S n : Int) + 1, 1, 0⟩, g)
/-- a version put to it -/
def M.addS (S : M.Sh) (n : List Nat) (g : M.Gv) : M.Sh := ⟨S.idx, S.l ++ [M.newV S n g], S.done⟩
theorem M.names_add (S : M.Sh) (n : List Nat) (g : M.Gv) : M.names (M.addS S n g) = if M.posL S.l n = [] then M.names S + 1 else M.names S := by
  have pl := M.pos_len S n
  show ((S.l ++ [M.newV S n g]).filter fun v => decide (v.1.num = 1)).length = _
  rw [List.filter_append, List.length_append]
  by_cases q : M.posL S.l n = []
  · rw [if_pos q]
    rw [q] at pl
    have m0 : M.many S n = 0 := pl.symm
    have : List.filter (fun v : M.Vn × M.Gv => decide (v.1.num = 1)) [M.newV S n g] = [M.newV S n g] := by
      rw [List.filter_cons_of_pos (by show decide ((M.many S n : Int) + 1 = 1) = true; rw [m0]; rfl)]; rfl
    rw [this]
    rfl
  · rw [if_neg q]
    have : 0 < (M.posL S.l n).length := by
      cases e : M.posL S.l n with
      | nil => exact absurd e q
      | cons _ _ => simp
    have m1 : M.many S n ≠ 0 := by omega
    have : List.filter (fun v : M.Vn × M.Gv => decide (v.1.num = 1)) [M.newV S n g] = [] := by
      rw [List.filter_cons_of_neg (by
        rw [decide_eq_true_iff]
        show ¬ ((M.many S n : Int) + 1 = 1)
        omega)]; rfl
    rw [this]
    rfl
theorem Inv.add {S : M.Sh} (h : Inv S) {n : List Nat} (hb : isB n) (g : M.Gv) (hl : (S.l.length : Int) + 1 ≤ S.idx) : Inv (M.addS S n g) where
  ok := ⟨M.one_app h.ok.one rfl, M.shr_app h.ok.shr (by show (0 : Int) < 0 ↔ (1 : Int) = 2; decide), h.ok.i0, h.ok.ans⟩
  zr := M.zer_app h.zr (fun _ => rfl)
  nu := by
    show M.numY (M.kyL (S.l ++ [M.newV S n g]))
    have e : M.kyL (S.l ++ [M.newV S n g]) = M.kyL S.l ++ [(n, (M.cntY (M.kyL S.l) n : Int) + 1)] := by
      unfold M.kyL
      rw [List.map_append]
      show _ ++ [(n, (M.many S n : Int) + 1)] = _
      rw [M.many_is]
      rfl
    rw [e]
    exact M.num_app h.nu n
  ll := by
    show ((S.l ++ [M.newV S n g]).length : Int) ≤ S.idx
    rw [List.length_append, List.length_singleton]
    omega
  dl := h.dl
  nb := fun j hj => by
    have hj' : j < S.l.length + 1 := by
      have : j < (S.l ++ [M.newV S n g]).length := hj
      simpa using this
    show isB ((S.l ++ [M.newV S n g]).getD j M.vg0).1.name
    by_cases q : j < S.l.length
    · rw [show (S.l ++ [M.newV S n g]).getD j M.vg0 = S.l.getD j M.vg0 by simp [List.getD, List.getElem?_append_left q]]
      exact h.nb j q
    · rw [show j = S.l.length by omega]
      simp [List.getD]
      exact hb

def addT (T : Nat → Nat) (a b kq mq pq : Nat) (q : Nat) : Nat := if q < a then T q else if q = kq then 6 else if q = mq then 4 else if q = pq then 5 else if q < b then 7 else 0

theorem SV.added {W W' : World} {f : Nat} {T : Nat → Nat} {S : M.Sh} {mm ml : Nat} {D E : DataW Value} {kb : Nat → Nat} {mb : List Nat → Nat} {va : List Nat → Option Addr} {vc : List Nat → Nat} {G : Nat → Gr} (h : SV W f T S mm ml D E kb mb va vc G) {n : List Nat} (hb : isB n) {O : Gr} {kq mq pq cq : Nat} {D' : DataW Value} (hl : (S.l.length : Int) + 1 ≤ S.idx)
    (c1 : ∀ q, q < W.heap.size → T q ≠ 0 → q ≠ mm → q ≠ mq → (∀ p, M.posL S.l n ≠ [] → va n = some p → q ≠ p.block) → W'.heap[q]? = W.heap[q]?)
    (c2 : (M.posL S.l n ≠ [] → mq = mb n) ∧ (M.posL S.l n = [] → W.heap.size ≤ mq))
    (c3 : Bx W' mq [.slice (some ⟨pq, 0, none⟩) ((M.posL S.l n).length + 1) cq, ptB ((M.atN S n 2).map kb), ptB ((M.atN S n 3).map kb)])
    (c4 : W'.ownsRow 0 105 1 (.slice (some ⟨pq, 0, none⟩) ((M.posL S.l n).length + 1) cq) ((M.posL S.l n).length + 1) (((M.posL S.l n).map fun k => ptB (some (kb k))) ++ [ptB (some kq)]))
    (c5 : (W.heap.size ≤ pq ∧ pq ≠ kq ∧ pq ≠ mq) ∨ (M.posL S.l n ≠ [] ∧ ∃ p, va n = some p ∧ p.block = pq))
    (c6 : Bx W' kq (kpL ⟨n, (M.many S n : Int) + 1, 1, 0⟩ O)) (c7 : W.heap.size ≤ kq) (c8 : kq ≠ mq)
    (c9 : W'.ownsMap Tryz.prog 9 selfE mm (M.names (M.addS S n O.m)) D') (cm : Maps.size D' = M.names (M.addS S n O.m)) (cd : (M.posL S.l n ≠ [] → D' = D) ∧ (M.posL S.l n = [] → D' = D.put (nmK n) (.held (ptB (some mq)))))
    (cg : GIn (fun q => W.heap.size ≤ q ∧ q < W'.heap.size ∧ q ≠ kq ∧ q ≠ mq ∧ q ≠ pq) W' O) (cz : W.heap.size ≤ W'.heap.size) :
    SV W' f (addT T W.heap.size W'.heap.size kq mq pq) (M.addS S n O.m) mm ml D' E (fun j => if j = S.l.length then kq else kb j) (fun x => if x = n then mq else mb x) (fun x => if x = n then some ⟨pq, 0, none⟩ else va x) (fun x => if x = n then cq else vc x) (fun j => if j = S.l.length then O else G j) := by
  have old : ∀ q, q < W.heap.size → addT T W.heap.size W'.heap.size kq mq pq q = T q := fun q hq => by unfold addT; rw [if_pos hq]
  have kbl : ∀ j, j < S.l.length → kb j < W.heap.size := fun j hj => h.tlt _ (by rw [h.tk j hj]; decide)
  have mbl : ∀ x, M.posL S.l x ≠ [] → mb x < W.heap.size := fun x hx => h.tlt _ (by rw [h.tb x hx]; decide)
  have val : ∀ x p, M.posL S.l x ≠ [] → va x = some p → p.block < W.heap.size := fun x p hx hp => h.tlt _ (by rw [h.rt x p hx hp]; decide)
  have mq4 : M.posL S.l n ≠ [] → T mq = 4 := fun hn => by rw [c2.1 hn]; exact h.tb n hn
  have mql : M.posL S.l n ≠ [] → mq < W.heap.size := fun hn => by rw [c2.1 hn]; exact mbl n hn
  have keep : ∀ q, T q ≠ 0 → T q ≠ 2 → T q ≠ 4 → T q ≠ 5 → W'.heap[q]? = W.heap[q]? := fun q h0 h2 h4 h5 => by
    have ql := h.tlt q h0
    refine c1 q ql h0 (fun e => h2 (by rw [e]; exact h.tm)) (fun e => ?_) (fun p hn hp e => h5 (by rw [e]; exact h.rt n p hn hp))
    by_cases hn : M.posL S.l n = []
    · have := c2.2 hn; omega
    · exact h4 (by rw [e]; exact mq4 hn)
  have pl : ∀ x, M.posL (M.addS S n O.m).l x = M.posL S.l x ++ (if n = x then [S.l.length] else []) := fun x => M.pos_app S.l _ x
  have pne : ∀ x, x ≠ n → M.posL (M.addS S n O.m).l x = M.posL S.l x := fun x hx => by rw [pl x, if_neg (Ne.symm hx), List.append_nil]
  have pn : M.posL (M.addS S n O.m).l n = M.posL S.l n ++ [S.l.length] := by rw [pl n, if_pos rfl]
  have ln : (M.addS S n O.m).l.length = S.l.length + 1 := by show (S.l ++ [_]).length = _; rw [List.length_append]; rfl
  have vo : ∀ j, j < S.l.length → vAt (M.addS S n O.m) j = vAt S j := fun j hj => by
    show ((S.l ++ [_]).getD j M.vg0).1 = (S.l.getD j M.vg0).1
    simp [List.getD, List.getElem?_append_left hj]
  have vn : vAt (M.addS S n O.m) S.l.length = ⟨n, (M.many S n : Int) + 1, 1, 0⟩ := by
    show ((S.l ++ [_]).getD S.l.length M.vg0).1 = _
    simp [List.getD, M.newV]
  have ats : ∀ x st', (st' = 3 ∨ st' = 2) → M.atN (M.addS S n O.m) x st' = M.atN S x st' := fun x st' hs => M.at_app h.inv.ok.one rfl S.idx S.done x hs
  have atk : ∀ x st', (M.atN S x st').map (fun j => if j = S.l.length then kq else kb j) = (M.atN S x st').map kb := fun x st' => by
    cases e : M.atN S x st' with
    | none => rfl
    | some o =>
      have := (M.at_is e).1
      show some (if o = S.l.length then kq else kb o) = some (kb o)
      rw [if_neg (by omega)]
  have rowk : ∀ x, (M.posL S.l x).map (fun k => ptB (some (if k = S.l.length then kq else kb k))) = (M.posL S.l x).map (fun k => ptB (some (kb k))) := fun x => List.map_congr_left (fun k hk => by
    have := (M.pos_mem.1 hk).1
    rw [if_neg (by omega)])
  have ky : ∀ x, isB x → x ≠ n → nmK x ≠ nmK n := fun x hx hne e => hne (nmK_inj hx hb e)
  have isBx : ∀ x, M.posL S.l x ≠ [] → isB x := fun x hx => by
    cases e : M.posL S.l x with
    | nil => exact absurd e hx
    | cons k r =>
      have := M.pos_mem.1 (show k ∈ M.posL S.l x by rw [e]; exact List.mem_cons_self ..)
      rw [← this.2]
      exact h.inv.nb k this.1
  have tkq : addT T W.heap.size W'.heap.size kq mq pq kq = 6 := by unfold addT; rw [if_neg (by omega), if_pos rfl]
  have tmq : addT T W.heap.size W'.heap.size kq mq pq mq = 4 := by
    unfold addT
    by_cases hn : M.posL S.l n = []
    · have := c2.2 hn
      rw [if_neg (by omega), if_neg (Ne.symm c8), if_pos rfl]
    · rw [if_pos (mql hn)]; exact mq4 hn
  have tpq : addT T W.heap.size W'.heap.size kq mq pq pq = 5 := by
    rcases c5 with ⟨z1, z2, z3⟩ | ⟨hn, p, hp, e⟩
    · unfold addT
      rw [if_neg (by omega), if_neg z2, if_neg z3, if_pos rfl]
    · subst e
      rw [old _ (val n p hn hp)]
      exact h.rt n p hn hp
  exact {
    inv := h.inv.add hb O.m hl
    tlt := fun q hq => by
      unfold addT at hq
      by_cases q1 : q < W.heap.size
      · omega
      · rw [if_neg q1] at hq
        by_cases q2 : q = kq
        · rw [q2]; exact c6.lt
        · rw [if_neg q2] at hq
          by_cases q3 : q = mq
          · rw [q3]; exact c3.lt
          · rw [if_neg q3] at hq
            by_cases q4 : q = pq
            · rw [q4]; exact (c4.lt pq rfl).2
            · rw [if_neg q4] at hq
              by_cases q5 : q < W'.heap.size
              · exact q5
              · rw [if_neg q5] at hq; exact absurd rfl hq
    box := h.box.keep (keep f (by rw [h.tf]; decide) (by rw [h.tf]; decide) (by rw [h.tf]; decide) (by rw [h.tf]; decide))
    tf := by rw [old f h.lt]; exact h.tf
    tm := by rw [old mm (h.tlt mm (by rw [h.tm]; decide))]; exact h.tm
    tl := by rw [old ml (h.tlt ml (by rw [h.tl]; decide))]; exact h.tl
    lo := by
      obtain ⟨m, h1⟩ := h.lo
      exact ⟨m, ownsMap_keep h1 (keep ml (by rw [h.tl]; decide) (by rw [h.tl]; decide) (by rw [h.tl]; decide) (by rw [h.tl]; decide))⟩
    lz := h.lz
    la := h.la
    ln := h.ln
    mo := c9
    mz := cm
    mn := fun x hx hpx => by
      have xn : x ≠ n := fun e => by rw [e, pn] at hpx; simp at hpx
      rw [pne x xn] at hpx
      by_cases hn : M.posL S.l n = []
      · rw [cd.2 hn, has_put_other (ky x hx xn)]
        exact h.mn x hx hpx
      · rw [cd.1 hn]
        exact h.mn x hx hpx
    ms := fun x hpx z => by
      by_cases xn : x = n
      · subst xn
        rw [if_pos rfl]
        by_cases hn : M.posL S.l x = []
        · rw [cd.2 hn]
          exact atKey_put_same h.mo.isMap (isKeyS x) _ z
        · rw [cd.1 hn, c2.1 hn]
          exact h.ms x hn z
      · rw [pne x xn] at hpx
        rw [if_neg xn]
        by_cases hn : M.posL S.l n = []
        · rw [cd.2 hn, atKey_put_other (ky x (isBx x hpx) xn)]
          exact h.ms x hpx z
        · rw [cd.1 hn]
          exact h.ms x hpx z
    tb := fun x hpx => by
      by_cases xn : x = n
      · rw [if_pos xn]; exact tmq
      · rw [pne x xn] at hpx
        rw [if_neg xn, old _ (mbl x hpx)]
        exact h.tb x hpx
    mi := fun x y hx hy e => by
      by_cases xn : x = n
      · by_cases yn : y = n
        · rw [xn, yn]
        · rw [pne y yn] at hy
          rw [if_pos xn, if_neg yn] at e
          by_cases hn : M.posL S.l n = []
          · have := c2.2 hn; have := mbl y hy; omega
          · rw [c2.1 hn] at e
            rw [xn]
            exact h.mi n y hn hy e
      · rw [pne x xn] at hx
        by_cases yn : y = n
        · rw [if_neg xn, if_pos yn] at e
          by_cases hn : M.posL S.l n = []
          · have := c2.2 hn; have := mbl x hx; omega
          · rw [c2.1 hn] at e
            rw [yn]
            exact h.mi x n hx hn e
        · rw [pne y yn] at hy
          rw [if_neg xn, if_neg yn] at e
          exact h.mi x y hx hy e
    mc := fun x hpx => by
      rw [ats x 2 (.inr rfl), ats x 3 (.inl rfl), atk x 2, atk x 3]
      by_cases xn : x = n
      · subst xn
        rw [if_pos rfl, if_pos rfl, if_pos rfl, pn, List.length_append]
        exact c3
      · rw [pne x xn] at hpx ⊢
        rw [if_neg xn, if_neg xn, if_neg xn]
        refine (h.mc x hpx).keep (c1 _ (mbl x hpx) (by rw [h.tb x hpx]; decide) (fun e => ?_) (fun e => ?_) (fun p hn hp e => ?_))
        · have a := h.tb x hpx
          rw [e, h.tm] at a
          cases a
        · by_cases hn : M.posL S.l n = []
          · have := c2.2 hn; have := mbl x hpx; omega
          · rw [c2.1 hn] at e
            exact xn (h.mi x n hpx hn e)
        · have a := h.tb x hpx
          rw [e, h.rt n p hn hp] at a
          cases a
    ro := fun x hpx => by
      by_cases xn : x = n
      · subst xn
        rw [if_pos rfl, if_pos rfl, pn, List.length_append, List.map_append, rowk x]
        show W'.ownsRow 0 105 1 (.slice (some ⟨pq, 0, none⟩) ((M.posL S.l x).length + 1) cq) ((M.posL S.l x).length + 1) (((M.posL S.l x).map fun k => ptB (some (kb k))) ++ [ptB (some (if S.l.length = S.l.length then kq else kb S.l.length))])
        rw [if_pos rfl]
        exact c4
      · rw [pne x xn] at hpx ⊢
        rw [if_neg xn, if_neg xn, rowk x]
        exact own_keep_at (h.ro x hpx) (fun q hq => by
          cases e : va x with
          | none => rw [e] at hq; cases hq
          | some p =>
            rw [e] at hq
            have hq' : p.block = q := by cases hq; rfl
            subst hq'
            have t5 := h.rt x p hpx e
            refine c1 _ (val x p hpx e) (by rw [t5]; decide) (fun z => ?_) (fun z => ?_) (fun p' hn hp' z => ?_)
            · rw [z, h.tm] at t5; cases t5
            · by_cases hn : M.posL S.l n = []
              · have := c2.2 hn; have := val x p hpx e; omega
              · rw [z, mq4 hn] at t5; cases t5
            · exact xn (h.ri x n p p' hpx hn e hp' z))
    rt := fun x p hpx hp => by
      by_cases xn : x = n
      · rw [if_pos xn] at hp
        cases hp
        exact tpq
      · rw [pne x xn] at hpx
        rw [if_neg xn] at hp
        rw [old _ (val x p hpx hp)]
        exact h.rt x p hpx hp
    ri := fun x y p p' hx hy hp hp' e => by
      have one : ∀ z pz, z ≠ n → M.posL S.l z ≠ [] → va z = some pz → pz.block = pq → False := fun z pz zn hz hpz ez => by
        rcases c5 with ⟨a, _⟩ | ⟨hn, p0, hp0, e0⟩
        · have := val z pz hz hpz; omega
        · exact zn (h.ri z n pz p0 hz hn hpz hp0 (ez.trans e0.symm))
      by_cases xn : x = n
      · by_cases yn : y = n
        · rw [xn, yn]
        · rw [pne y yn] at hy
          rw [if_pos xn] at hp
          rw [if_neg yn] at hp'
          cases hp
          exact absurd (one y p' yn hy hp' e.symm) id
      · rw [pne x xn] at hx
        rw [if_neg xn] at hp
        by_cases yn : y = n
        · rw [if_pos yn] at hp'
          cases hp'
          exact absurd (one x p xn hx hp e) id
        · rw [pne y yn] at hy
          rw [if_neg yn] at hp'
          exact h.ri x y p p' hx hy hp hp' e
    tk := fun j hj => by
      rw [ln] at hj
      by_cases q : j = S.l.length
      · rw [if_pos q]; exact tkq
      · rw [if_neg q, old _ (kbl j (by omega))]
        exact h.tk j (by omega)
    ki := fun i j hi hj e => by
      rw [ln] at hi hj
      by_cases q1 : i = S.l.length
      · by_cases q2 : j = S.l.length
        · rw [q1, q2]
        · rw [if_pos q1, if_neg q2] at e
          have := kbl j (by omega); omega
      · by_cases q2 : j = S.l.length
        · rw [if_neg q1, if_pos q2] at e
          have := kbl i (by omega); omega
        · rw [if_neg q1, if_neg q2] at e
          exact h.ki i j (by omega) (by omega) e
    kc := fun j hj => by
      rw [ln] at hj
      by_cases q : j = S.l.length
      · subst q
        rw [if_pos rfl, if_pos rfl, vn]
        exact c6
      · have hj' : j < S.l.length := by omega
        rw [if_neg q, if_neg q, vo j hj']
        have t6 := h.tk j hj'
        exact (h.kc j hj').keep (keep _ (by rw [t6]; decide) (by rw [t6]; decide) (by rw [t6]; decide) (by rw [t6]; decide))
    kg := fun j hj hs => by
      rw [ln] at hj
      by_cases q : j = S.l.length
      · subst q
        rw [if_pos rfl]
        refine ⟨?_, cg.up (Nat.le_refl _) (fun _ _ => rfl) (fun q hq => ?_)⟩
        · show O.m = ((S.l ++ [_]).getD S.l.length M.vg0).2
          simp [List.getD, M.newV]
        · obtain ⟨z1, z2, z3, z4, z5⟩ := hq
          unfold addT
          rw [if_neg (by omega), if_neg z3, if_neg z4, if_neg z5, if_pos z2]
      · have hj' : j < S.l.length := by omega
        rw [vo j hj'] at hs
        rw [if_neg q]
        obtain ⟨g1, g2⟩ := h.kg j hj' hs
        refine ⟨?_, g2.up cz (fun q hq => keep q (by rw [hq]; decide) (by rw [hq]; decide) (by rw [hq]; decide) (by rw [hq]; decide)) (fun q hq => ?_)⟩
        · rw [g1]
          show (S.l.getD j M.vg0).2 = ((S.l ++ [_]).getD j M.vg0).2
          simp [List.getD, List.getElem?_append_left hj']
        · rw [old q (h.tlt q (by rw [hq]; decide))]
          exact hq }
end Go.Proofs.YtodidokeblblgaaGreat
