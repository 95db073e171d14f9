/-
  DifferTells' own walk, with what package differ and package prune answer as premises.
-/
import Derived.Test.YtcaljnhdfbjpnaeDoorDifJ
import Derived.Test.YtcaljnhdfbjpnaeDoorPruneMath
import Derived.Test.YtcaljnhdfbjpnaeDoorTEval
import Derived.Test.YtcaljnhdfbjpnaeDoorRefTree
import Derived.Test.YtcaljnhdfbjpnaeDoorErrJ
import Derived.BigQuiet
import Derived.Deep.QuietTactic
namespace Go.Proofs.YtcaljnhdfbjpnaeDoor
open Go.ChangeShapes Go.WideShapes Go.ChangeAt Go.RowKit Go.Lib
set_option linter.unusedVariables false

def PTreeGives : Prop := ∀ (a0 : Option Addr) (ts : List M.Nd) (cap : Nat) (m : Int) (W : World), RdN W a0 ts → Calls Tryd.prog 10 #[.slice a0 ts.length cap, .int .i64 m] W fun e w' => ∃ a c, e = .returned (.tuple #[.slice a (M.prunV ts m).length c, errV (M.treeF ts m).2]) ∧ RdN w' a (M.prunV ts m) ∧ Below W.heap.size W w'

def M.x7 : List M.Nd := [(-1, 0, 0, 0, false, 7)]
def M.y3 : List M.Nd := [(0, 5, 1, 2, false, 0), (-1, 0, 0, 0, false, 7), (-1, 0, 0, 0, false, 9)]
theorem M.xy_facts : M.difF M.x7 M.y3 1 = 0 ∧ M.movedV M.x7 M.y3 1 ≠ 0 ∧ (M.treeF M.x7 1).2 = 0 ∧ (M.treeF M.y3 1).2 = 0 := by decide +kernel
theorem M.xy_row {L : List Int} (h : M.rowF L = 0) (hl : (L.length : Int) = 1) (hn : M.evalV M.x7 L ≠ M.evalV M.y3 L) : ∃ v, L = [v] ∧ (decide (v < 5) = false ∨ (decide (v < 5) = true ∧ (v != -1125899906842624) = false)) := by
  obtain ⟨v, rfl⟩ : ∃ v, L = [v] := by
    rcases L with _ | ⟨v, _ | ⟨u, l⟩⟩
    · simp at hl
    · exact ⟨v, rfl⟩
    · simp at hl; omega
  refine ⟨v, rfl, ?_⟩
  by_cases c : v < 5
  · refine .inr ⟨decide_eq_true c, ?_⟩
    rw [bne_eq_false_iff_eq]
    refine Decidable.byContradiction (fun d => hn ?_)
    unfold M.evalV M.readyF
    rw [if_neg (show ¬ (M.rowF [v] ≠ 0) by simp [h]), if_neg (show ¬ (M.rowF [v] ≠ 0) by simp [h])]
    rw [show (([v] : List Int).length : Int) = 1 from rfl, if_pos M.xy_facts.2.2.1, if_pos M.xy_facts.2.2.2]
    have e : M.toD M.y3 [v] 0 = 1 := by
      simp [M.toD, M.goD, M.y3, M.nAt, M.nf, M.nextI, M.lessC, M.nc, M.nl, M.nilI, c, d]
    rw [e]
    rfl
  · exact .inl (decide_eq_false c)
abbrev x7Obj : Obj := .cells #[.int .i64 (-1), .int .i64 0, .int .i64 0, .int .i64 0, .bool false, .int .i64 7] 25
abbrev y3Obj : Obj := .cells #[.int .i64 0, .int .i64 5, .int .i64 1, .int .i64 2, .bool false, .int .i64 0, .int .i64 (-1), .int .i64 0, .int .i64 0, .int .i64 0, .bool false, .int .i64 7, .int .i64 (-1), .int .i64 0, .int .i64 0, .int .i64 0, .bool false, .int .i64 9] 25
theorem x7_rdn (w : World) : RdN (w.alloc x7Obj) (some ⟨w.heap.size, 0, none⟩) M.x7 := by
  refine ⟨by show 1 ≤ maxLen; unfold maxLen; decide, fun _ => ⟨w.heap.size, 0, rfl, by simp, fun i hi => ?_⟩⟩
  have c : ∀ j x, #[Value.int .i64 (-1), .int .i64 0, .int .i64 0, .int .i64 0, .bool false, .int .i64 7][j]? = some x → (w.alloc x7Obj).cell? ⟨w.heap.size, j, none⟩ = some x := fun j x hx => by
    rw [World.cell?_alloc_at _ _ _ j rfl]; exact hx
  have hi' : i < 1 := hi
  obtain rfl : i = 0 := by omega
  exact ⟨c _ _ rfl, c _ _ rfl, c _ _ rfl, c _ _ rfl, c _ _ rfl, c _ _ rfl⟩
theorem y3_rdn (w : World) : RdN (w.alloc y3Obj) (some ⟨w.heap.size, 0, none⟩) M.y3 := by
  refine ⟨by show 3 ≤ maxLen; unfold maxLen; decide, fun _ => ⟨w.heap.size, 0, rfl, by simp, fun i hi => ?_⟩⟩
  have c : ∀ j x, #[Value.int .i64 0, .int .i64 5, .int .i64 1, .int .i64 2, .bool false, .int .i64 0, .int .i64 (-1), .int .i64 0, .int .i64 0, .int .i64 0, .bool false, .int .i64 7, .int .i64 (-1), .int .i64 0, .int .i64 0, .int .i64 0, .bool false, .int .i64 9][j]? = some x → (w.alloc y3Obj).cell? ⟨w.heap.size, j, none⟩ = some x := fun j x hx => by
    rw [World.cell?_alloc_at _ _ _ j rfl]; exact hx
  have hi' : i < 3 := hi
  rcases i with _ | _ | _ | i
  · exact ⟨c _ _ rfl, c _ _ rfl, c _ _ rfl, c _ _ rfl, c _ _ rfl, c _ _ rfl⟩
  · exact ⟨c _ _ rfl, c _ _ rfl, c _ _ rfl, c _ _ rfl, c _ _ rfl, c _ _ rfl⟩
  · exact ⟨c _ _ rfl, c _ _ rfl, c _ _ rfl, c _ _ rfl, c _ _ rfl, c _ _ rfl⟩
  · omega
theorem xy_call (hT : DifTreesGives) (w : World) : Calls Tryd.prog 6 #[.slice (some ⟨w.heap.size, 0, none⟩) 1 1, .slice (some ⟨w.heap.size + 1, 0, none⟩) 3 3, .int .i64 1] ((w.alloc x7Obj).alloc y3Obj) fun e w' => ∃ v b o c, e = .returned (.tuple #[.slice (some ⟨b, o, none⟩) 1 c, .nilIface]) ∧ w'.cell? ⟨b, o, none⟩ = some (.int .i64 v) ∧ (decide (v < 5) = false ∨ (decide (v < 5) = true ∧ (v != -1125899906842624) = false)) ∧ Below w.heap.size w w' := by
  have r2 := y3_rdn (w.alloc x7Obj)
  rw [show (w.alloc x7Obj).heap.size = w.heap.size + 1 by simp] at r2
  have h := hT (some ⟨w.heap.size, 0, none⟩) (some ⟨w.heap.size + 1, 0, none⟩) M.x7 M.y3 1 3 1 _ ((x7_rdn w).below ((Below.refl _ _).alloc (Nat.le_refl _) _)) r2
  rw [M.dift_not M.xy_facts.1 M.xy_facts.2.1, err_nil rfl] at h
  refine h.mono ?_
  rintro e w' ⟨L, wa, wc, rfl, hr, hz, hb⟩
  obtain ⟨z1, z2, z3⟩ := hz rfl
  obtain ⟨v, rfl, hv⟩ := M.xy_row z1 z2 z3
  obtain ⟨b, o, rfl, _, hc⟩ := hr.2 (by simp)
  exact ⟨v, b, o, wc, rfl, hc 0 (by simp), hv, below_on (((Below.refl _ w).alloc (Nat.le_refl _) _).alloc (by simp) _) hb⟩

set_option maxHeartbeats 16000000 in
set_option maxRecDepth 10000 in
theorem dt_a (hT : DifTreesGives) (a b c0 : Option Addr) (ts us : List M.Nd) (xs : List Int) (ca cb cc : Nat) (m : Int) (w : World) (ha : RdN w a ts) (hb : RdN w b us) (hr : Rd w c0 xs) (hl : Lays w) (he : (M.treeF ts m).2 ≠ 0) :
    Calls Tryd.prog 3 #[.slice a ts.length ca, .slice b us.length cb, .int .i64 m, .slice c0 xs.length cc] w fun e w' => e = .returned (.bool true) ∧ Below w.heap.size w w' := by
  have E1 := hide (xy_call hT w)
  have ER := hide (fun c W (hW : Below w.heap.size w W) => (error_any c c W (hl.below hW)).mono (R' := fun r w' => r = .returned (.bool true) ∧ Below W.heap.size W w') fun r w' h => ⟨by rw [h.1, beq_self_eq_true], h.2⟩)
  have RA := hide (fun W (hW : Below w.heap.size w W) => rtree_any a ts ca m W (ha.below hW))
  have RB := hide (fun W (hW : Below w.heap.size w W) => rtree_any b us cb m W (hb.below hW))
  have hma : ts.length ≤ 9223372036854775807 := ha.1
  have hmb : us.length ≤ 9223372036854775807 := hb.1
  have hmc : xs.length ≤ 9223372036854775807 := hr.1
  have ef : M.difTF ts us m = (M.treeF ts m).2 := by rw [M.dift_bad (by unfold M.difF; rw [if_pos he]; exact he)]; unfold M.difF; rw [if_pos he]
  have T1 : Hid (∀ W, Below w.heap.size w W → Calls Tryd.prog 6 #[.slice a ts.length ca, .slice b us.length cb, .int .i64 m] W fun e w' => ∃ n wa wc, e = .returned (.tuple #[.slice wa n wc, errV (M.treeF ts m).2]) ∧ Below W.heap.size W w') := fun W hW => (hT a b ts us ca cb m W (ha.below hW) (hb.below hW)).mono (fun e w' q => by
    obtain ⟨L, wa, wc, q1, _, _, q4⟩ := q
    rw [ef] at q1
    exact ⟨L.length, wa, wc, q1, q4⟩)
  have E2 := hide (ER.out (M.treeF ts m).2)
  have q1 : ((M.treeF ts m).2 == 0) = false := by rw [beq_eq_false_iff_ne]; exact he
  have q2 : ((M.treeF ts m).2 != 0) = true := by rw [bne_iff_ne]; exact he
  rw [err_some he] at T1 E2
  clear ER RB ef he ha hb hr hl hT
  generalize (M.treeF ts m).2 = ea at *
  generalize (M.treeF ts m).1 = na at *
  go_enter Tryd.func3, Tryd.ntmps3
  go_upto_region 4 with (go_at_call 6; refine E1.out.mono ?_; rintro e w1 ⟨v, b1, o1, c1, rfl, d1, hv, h1⟩; have K1 := hide h1; clear h1)
  rcases hv with v1 | ⟨v1, v2⟩
  all_goals (
    go_upto_region 6 with fail
    clear d1
    go_wp2_with (first
      | (go_at_call 8; refine (E2.out _ K3.out).mono ?_; rintro e w4 ⟨rfl, h4⟩; have K4 := hide (below_on K3.out h4); clear h4)
      | (go_at_call 7; refine (RA.out _ K2.out).mono ?_; rintro e w3 ⟨rfl, h3⟩; have K3 := hide (below_on K2.out h3); clear h3)
      | (go_at_call 6; refine (T1.out _ K1.out).mono ?_; rintro e w2 ⟨n2, wa2, wc2, rfl, h2⟩; have K2 := hide (below_on K1.out h2); clear h2))
    go_ret
    exact ⟨rfl, K4.out⟩)

set_option maxHeartbeats 16000000 in
set_option maxRecDepth 10000 in
theorem dt_b (hT : DifTreesGives) (a b c0 : Option Addr) (ts us : List M.Nd) (xs : List Int) (ca cb cc : Nat) (m : Int) (w : World) (ha : RdN w a ts) (hb : RdN w b us) (hr : Rd w c0 xs) (hl : Lays w) (he : (M.treeF ts m).2 = 0) (hf : (M.treeF us m).2 ≠ 0) :
    Calls Tryd.prog 3 #[.slice a ts.length ca, .slice b us.length cb, .int .i64 m, .slice c0 xs.length cc] w fun e w' => e = .returned (.bool true) ∧ Below w.heap.size w w' := by
  have E1 := hide (xy_call hT w)
  have ER := hide (fun c W (hW : Below w.heap.size w W) => (error_any c c W (hl.below hW)).mono (R' := fun r w' => r = .returned (.bool true) ∧ Below W.heap.size W w') fun r w' h => ⟨by rw [h.1, beq_self_eq_true], h.2⟩)
  have RA := hide (fun W (hW : Below w.heap.size w W) => rtree_any a ts ca m W (ha.below hW))
  have RB := hide (fun W (hW : Below w.heap.size w W) => rtree_any b us cb m W (hb.below hW))
  have hma : ts.length ≤ 9223372036854775807 := ha.1
  have hmb : us.length ≤ 9223372036854775807 := hb.1
  have hmc : xs.length ≤ 9223372036854775807 := hr.1
  have ed : M.difF ts us m = (M.treeF us m).2 := by unfold M.difF; rw [if_neg (by simp [he])]
  have ef : M.difTF ts us m = (M.treeF us m).2 := by rw [M.dift_bad (by rw [ed]; exact hf), ed]
  have T1 : Hid (∀ W, Below w.heap.size w W → Calls Tryd.prog 6 #[.slice a ts.length ca, .slice b us.length cb, .int .i64 m] W fun e w' => ∃ n wa wc, e = .returned (.tuple #[.slice wa n wc, errV (M.treeF us m).2]) ∧ Below W.heap.size W w') := fun W hW => (hT a b ts us ca cb m W (ha.below hW) (hb.below hW)).mono (fun e w' q => by
    obtain ⟨L, wa, wc, q1, _, _, q4⟩ := q
    rw [ef] at q1
    exact ⟨L.length, wa, wc, q1, q4⟩)
  have E2 := hide (ER.out (M.treeF us m).2)
  have q2 : ((M.treeF us m).2 != 0) = true := by rw [bne_iff_ne]; exact hf
  rw [err_some hf] at T1 E2
  rw [he] at RA
  clear ER ed ef he hf ha hb hr hl hT
  generalize (M.treeF us m).2 = eb at *
  generalize (M.treeF us m).1 = nb at *
  generalize (M.treeF ts m).1 = na at *
  go_enter Tryd.func3, Tryd.ntmps3
  go_upto_region 4 with (go_at_call 6; refine E1.out.mono ?_; rintro e w1 ⟨v, b1, o1, c1, rfl, d1, hv, h1⟩; have K1 := hide h1; clear h1)
  rcases hv with v1 | ⟨v1, v2⟩
  all_goals (
    go_upto_region 6 with fail
    clear d1
    go_wp2_with (first
      | (go_at_call 8; refine (E2.out _ K4.out).mono ?_; rintro e w5 ⟨rfl, h5⟩; have K5 := hide (below_on K4.out h5); clear h5)
      | (go_at_call 7; have lean := K3; refine (RB.out _ K3.out).mono ?_; rintro e w4 ⟨rfl, h4⟩; have K4 := hide (below_on K3.out h4); clear h4)
      | (go_at_call 7; refine (RA.out _ K2.out).mono ?_; rintro e w3 ⟨rfl, h3⟩; have K3 := hide (below_on K2.out h3); clear h3)
      | (go_at_call 6; refine (T1.out _ K1.out).mono ?_; rintro e w2 ⟨n2, wa2, wc2, rfl, h2⟩; have K2 := hide (below_on K1.out h2); clear h2))
    go_ret
    exact ⟨rfl, K5.out⟩)

set_option maxHeartbeats 16000000 in
set_option maxRecDepth 10000 in
theorem dt_c (hT : DifTreesGives) (a b c0 : Option Addr) (ts us : List M.Nd) (xs : List Int) (ca cb cc : Nat) (m : Int) (w : World) (ha : RdN w a ts) (hb : RdN w b us) (hr : Rd w c0 xs) (hl : Lays w) (he : M.difF ts us m = 0) (hv : M.movedV ts us m ≠ 0) :
    Calls Tryd.prog 3 #[.slice a ts.length ca, .slice b us.length cb, .int .i64 m, .slice c0 xs.length cc] w fun e w' => e = .returned (.bool true) ∧ Below w.heap.size w w' := by
  have E1 := hide (xy_call hT w)
  have ER := hide (fun c W (hW : Below w.heap.size w W) => (error_any c c W (hl.below hW)).mono (R' := fun r w' => r = .returned (.bool true) ∧ Below W.heap.size W w') fun r w' h => ⟨by rw [h.1, beq_self_eq_true], h.2⟩)
  have RA := hide (fun W (hW : Below w.heap.size w W) => rtree_any a ts ca m W (ha.below hW))
  have RB := hide (fun W (hW : Below w.heap.size w W) => rtree_any b us cb m W (hb.below hW))
  have hma : ts.length ≤ 9223372036854775807 := ha.1
  have hmb : us.length ≤ 9223372036854775807 := hb.1
  have hmc : xs.length ≤ 9223372036854775807 := hr.1
  obtain ⟨e1, e2⟩ := M.dif_ok he
  have T1 : Hid (∀ W, Below w.heap.size w W → Calls Tryd.prog 6 #[.slice a ts.length ca, .slice b us.length cb, .int .i64 m] W fun e w' => ∃ (L : List Int) (wa : Option Addr) (wc : Nat), e = .returned (.tuple #[.slice wa L.length wc, .nilIface]) ∧ Rd w' wa L ∧ ((L.length : Int) == m) = true ∧ (M.evalV ts L != M.evalV us L) = true ∧ M.readyF ts L = 0 ∧ M.readyF us L = 0 ∧ Below W.heap.size W w') := fun W hW => (hT a b ts us ca cb m W (ha.below hW) (hb.below hW)).mono (fun e w' q => by
    obtain ⟨L, wa, wc, q1, q2, q3, q4⟩ := q
    obtain ⟨z1, z2, z3⟩ := q3 (M.dift_not he hv)
    rw [M.dift_not he hv, err_nil rfl] at q1
    exact ⟨L, wa, wc, q1, q2, by rw [beq_iff_eq]; exact z2, by rw [bne_iff_ne]; exact z3, by rw [M.ready_tree z1, z2]; exact e1, by rw [M.ready_tree z1, z2]; exact e2, q4⟩)
  have VA : Hid (∀ (L : List Int) wa wc W, Below w.heap.size w W → Rd W wa L → M.readyF ts L = 0 → Calls Tryd.prog 9 #[.slice a ts.length ca, .slice wa L.length wc] W fun e w' => e = .returned (.tuple #[.int .i64 (M.evalV ts L), .nilIface]) ∧ Below W.heap.size W w') := fun L wa wc W hW hL hz => by
    have q := eval_any a wa ts L ca wc W (ha.below hW) hL
    rw [hz, err_nil rfl] at q
    exact q
  have VB : Hid (∀ (L : List Int) wa wc W, Below w.heap.size w W → Rd W wa L → M.readyF us L = 0 → Calls Tryd.prog 9 #[.slice b us.length cb, .slice wa L.length wc] W fun e w' => e = .returned (.tuple #[.int .i64 (M.evalV us L), .nilIface]) ∧ Below W.heap.size W w') := fun L wa wc W hW hL hz => by
    have q := eval_any b wa us L cb wc W (hb.below hW) hL
    rw [hz, err_nil rfl] at q
    exact q
  rw [e1] at RA
  rw [e2] at RB
  clear ER e1 e2 he hv ha hb hr hl hT
  generalize (M.treeF us m).1 = nb at *
  generalize (M.treeF ts m).1 = na at *
  go_enter Tryd.func3, Tryd.ntmps3
  go_upto_region 4 with (go_at_call 6; refine E1.out.mono ?_; rintro e w1 ⟨v, b1, o1, c1, rfl, d1, hv, h1⟩; have K1 := hide h1; clear h1)
  rcases hv with v1 | ⟨v1, v2⟩
  all_goals (
    go_upto_region 6 with fail
    clear d1
    go_upto_region 7 with (go_at_call 6; refine (T1.out _ K1.out).mono ?_; rintro e w2 ⟨L, la, lc, rfl, hL, l1, l2, l3, l4, h2⟩; have K2 := hide (below_on K1.out h2); have HL := hide hL; clear h2 hL)
    go_wp2_with (first
      | (go_at_call 9; have lean := K5; refine (VB.out L _ _ _ K5.out ((HL.out.below G4.out).below G5.out) l4).mono ?_; rintro e w6 ⟨rfl, h6⟩; have K6 := hide (below_on K5.out h6); clear h6)
      | (go_at_call 9; refine (VA.out L _ _ _ K4.out (HL.out.below G4.out) l3).mono ?_; rintro e w5 ⟨rfl, h5⟩; have K5 := hide (below_on K4.out h5); have G5 := hide h5; clear h5)
      | (go_at_call 7; have lean := K3; refine (RB.out _ K3.out).mono ?_; rintro e w4 ⟨rfl, h4⟩; have K4 := hide (below_on K3.out h4); have G4 := hide (below_on G3.out h4); clear h4)
      | (go_at_call 7; refine (RA.out _ K2.out).mono ?_; rintro e w3 ⟨rfl, h3⟩; have K3 := hide (below_on K2.out h3); have G3 := hide h3; clear h3))
    go_ret
    exact ⟨rfl, K6.out⟩)

/-- a pruned tree differs nowhere -/
theorem M.prun_dif {t : List M.Nd} {m : Int} (h : (M.treeF t m).2 = 0) : M.difTF t (M.prunV t m) m = 5 := by
  have d := M.dif_of h (M.prun_tree h).1
  refine M.dift_same d (M.moved_zero d (fun x h1 h2 => ?_))
  have q := (M.prun_eval (t := t) (r := x) (by rw [M.ready_tree h1, h2]; exact h)).2
  rw [h2] at q
  exact q.symm
theorem M.same_eval {t u : List M.Nd} {m : Int} (he : M.difF t u m = 0) (hv : M.movedV t u m = 0) {x : List Int} (hx : (x.length : Int) = m) : M.readyF t x = M.readyF u x ∧ M.evalV t x = M.evalV u x := by
  obtain ⟨e1, e2⟩ := M.dif_ok he
  by_cases h : M.rowF x = 0
  · refine ⟨by rw [M.ready_tree h, M.ready_tree h, hx, e1, e2], Decidable.byContradiction (fun n => ?_)⟩
    have := (M.moved_iff he).2 ⟨x, h, hx, n⟩
    omega
  · have r : ∀ z : List M.Nd, M.readyF z x = M.rowF x := fun z => by unfold M.readyF; rw [if_pos h]
    refine ⟨by rw [r, r], ?_⟩
    unfold M.evalV
    rw [r, r, if_neg h, if_neg h]

set_option maxHeartbeats 32000000 in
set_option maxRecDepth 10000 in
theorem dt_d (hT : DifTreesGives) (hP : PTreeGives) (a b c0 : Option Addr) (ts us : List M.Nd) (xs : List Int) (ca cb cc : Nat) (m : Int) (w : World) (ha : RdN w a ts) (hb : RdN w b us) (hr : Rd w c0 xs) (hl : Lays w) (he : M.difF ts us m = 0) (hv : M.movedV ts us m = 0) :
    Calls Tryd.prog 3 #[.slice a ts.length ca, .slice b us.length cb, .int .i64 m, .slice c0 xs.length cc] w fun e w' => e = .returned (.bool true) ∧ Below w.heap.size w w' := by
  have E1 := hide (xy_call hT w)
  have ER := hide (fun c W (hW : Below w.heap.size w W) => (error_any c c W (hl.below hW)).mono (R' := fun r w' => r = .returned (.bool true) ∧ Below W.heap.size W w') fun r w' h => ⟨by rw [h.1, beq_self_eq_true], h.2⟩)
  have RA := hide (fun W (hW : Below w.heap.size w W) => rtree_any a ts ca m W (ha.below hW))
  have RB := hide (fun W (hW : Below w.heap.size w W) => rtree_any b us cb m W (hb.below hW))
  have hma : ts.length ≤ 9223372036854775807 := ha.1
  have hmb : us.length ≤ 9223372036854775807 := hb.1
  have hmc : xs.length ≤ 9223372036854775807 := hr.1
  obtain ⟨e1, e2⟩ := M.dif_ok he
  have T1 : Hid (∀ W, Below w.heap.size w W → Calls Tryd.prog 6 #[.slice a ts.length ca, .slice b us.length cb, .int .i64 m] W fun e w' => ∃ n wa wc, e = .returned (.tuple #[.slice wa n wc, errV 5]) ∧ Below W.heap.size W w') := fun W hW => (hT a b ts us ca cb m W (ha.below hW) (hb.below hW)).mono (fun e w' q => by
    obtain ⟨L, wa, wc, q1, _, _, q4⟩ := q
    rw [M.dift_same he hv] at q1
    exact ⟨L.length, wa, wc, q1, q4⟩)
  have P1 := hide (fun W (hW : Below w.heap.size w W) => hP a ts ca m W (ha.below hW))
  have T2 : Hid (∀ sa sc W, Below w.heap.size w W → RdN W sa (M.prunV ts m) → Calls Tryd.prog 6 #[.slice a ts.length ca, .slice sa (M.prunV ts m).length sc, .int .i64 m] W fun e w' => ∃ n wa wc, e = .returned (.tuple #[.slice wa n wc, errV 5]) ∧ Below W.heap.size W w') := fun sa sc W hW hS => (hT a sa ts (M.prunV ts m) ca sc m W (ha.below hW) hS).mono (fun e w' q => by
    obtain ⟨L, wa, wc, q1, _, _, q4⟩ := q
    rw [M.prun_dif e1] at q1
    exact ⟨L.length, wa, wc, q1, q4⟩)
  have E5 := hide (ER.out 5)
  rw [err_some (show (5 : Int) ≠ 0 by decide)] at T1 T2 E5
  have VA := hide (fun W (hW : Below w.heap.size w W) => eval_any a c0 ts xs ca cc W (ha.below hW) (hr.below hW))
  have VB := hide (fun W (hW : Below w.heap.size w W) => eval_any b c0 us xs cb cc W (hb.below hW) (hr.below hW))
  have SE := hide (fun (hx : (xs.length : Int) = m) => M.same_eval he hv hx)
  rw [e1] at RA P1
  rw [err_nil rfl] at P1
  rw [e2] at RB
  clear ER e1 e2 he hv ha hb hr hl hT hP
  generalize (M.treeF us m).1 = nb at *
  generalize (M.treeF ts m).1 = na at *
  generalize M.prunV ts m = S at *
  generalize M.evalV ts xs = va at *
  generalize M.evalV us xs = vb at *
  generalize M.readyF ts xs = ra at *
  generalize M.readyF us xs = rb at *
  go_enter Tryd.func3, Tryd.ntmps3
  go_upto_region 4 with (go_at_call 6; refine E1.out.mono ?_; rintro e w1 ⟨v, b1, o1, c1, rfl, d1, hv, h1⟩; have K1 := hide h1; clear h1)
  rcases hv with v1 | ⟨v1, v2⟩
  all_goals (
    go_upto_region 6 with fail
    clear d1
    go_upto_region 22 with (first
      | (go_at_call 8; have lean := K7; refine (E5.out _ K7.out).mono ?_; rintro e w8 ⟨rfl, h8⟩; have K8 := hide (below_on K7.out h8); clear h8)
      | (go_at_call 6; have lean := K6; refine (T2.out _ _ _ K6.out HS.out).mono ?_; rintro e w7 ⟨n7, wa7, wc7, rfl, h7⟩; have K7 := hide (below_on K6.out h7); clear h7)
      | (go_at_call 10; refine (P1.out _ K5.out).mono ?_; rintro e w6 ⟨sa, sc, rfl, hS, h6⟩; have K6 := hide (below_on K5.out h6); have HS := hide hS; clear h6 hS)
      | (go_at_call 8; refine (E5.out _ K4.out).mono ?_; rintro e w5 ⟨rfl, h5⟩; have K5 := hide (below_on K4.out h5); clear h5)
      | (go_at_call 7; have lean := K3; refine (RB.out _ K3.out).mono ?_; rintro e w4 ⟨rfl, h4⟩; have K4 := hide (below_on K3.out h4); clear h4)
      | (go_at_call 7; refine (RA.out _ K2.out).mono ?_; rintro e w3 ⟨rfl, h3⟩; have K3 := hide (below_on K2.out h3); clear h3)
      | (go_at_call 6; refine (T1.out _ K1.out).mono ?_; rintro e w2 ⟨n2, wa2, wc2, rfl, h2⟩; have K2 := hide (below_on K1.out h2); clear h2))
    by_cases hx : (xs.length : Int) = m
    · have t1 : ((xs.length : Int) != m) = false := by rw [bne_eq_false_iff_eq]; exact hx
      obtain ⟨g1, g2⟩ := SE.out hx
      subst g1
      subst g2
      clear SE hx
      by_cases hz : ra = 0
      · rw [err_nil hz] at VA VB
        clear hz
        go_upto_region 24 with (first
          | (go_at_call 9; have lean := K9; refine (VB.out _ K9.out).mono ?_; rintro e w10 ⟨rfl, h10⟩; have K10 := hide (below_on K9.out h10); clear h10)
          | (go_at_call 9; refine (VA.out _ K8.out).mono ?_; rintro e w9 ⟨rfl, h9⟩; have K9 := hide (below_on K8.out h9); clear h9))
        go_quiet (fail)
        go_wp2
        go_ret
        exact ⟨rfl, below_drew K10.out _ K10.out.size⟩
      · rw [err_some hz] at VA VB
        clear hz
        go_upto_region 24 with (first
          | (go_at_call 9; have lean := K9; refine (VB.out _ K9.out).mono ?_; rintro e w10 ⟨rfl, h10⟩; have K10 := hide (below_on K9.out h10); clear h10)
          | (go_at_call 9; refine (VA.out _ K8.out).mono ?_; rintro e w9 ⟨rfl, h9⟩; have K9 := hide (below_on K8.out h9); clear h9))
        go_quiet (fail)
        go_wp2
        go_ret
        exact ⟨rfl, below_drew K10.out _ K10.out.size⟩
    · have t1 : ((xs.length : Int) != m) = true := by rw [bne_iff_ne]; exact hx
      clear SE hx
      go_upto_region 24 with (first
        | (go_at_call 9; have lean := K9; refine (VB.out _ K9.out).mono ?_; rintro e w10 ⟨rfl, h10⟩; have K10 := hide (below_on K9.out h10); clear h10)
        | (go_at_call 9; refine (VA.out _ K8.out).mono ?_; rintro e w9 ⟨rfl, h9⟩; have K9 := hide (below_on K8.out h9); clear h9))
      go_quiet (fail)
      go_wp2
      go_ret
      exact ⟨rfl, below_drew K10.out _ K10.out.size⟩)

theorem dtells_walk (hT : DifTreesGives) (hP : PTreeGives) (a b c0 : Option Addr) (ts us : List M.Nd) (xs : List Int) (ca cb cc : Nat) (m : Int) (w : World) (ha : RdN w a ts) (hb : RdN w b us) (hr : Rd w c0 xs) (hl : Lays w) :
    Calls Tryd.prog 3 #[.slice a ts.length ca, .slice b us.length cb, .int .i64 m, .slice c0 xs.length cc] w fun e w' => e = .returned (.bool true) ∧ Below w.heap.size w w' := by
  by_cases h1 : (M.treeF ts m).2 = 0
  · by_cases h2 : (M.treeF us m).2 = 0
    · have he := M.dif_of h1 h2
      by_cases h3 : M.movedV ts us m = 0
      · exact dt_d hT hP a b c0 ts us xs ca cb cc m w ha hb hr hl he h3
      · exact dt_c hT a b c0 ts us xs ca cb cc m w ha hb hr hl he h3
    · exact dt_b hT a b c0 ts us xs ca cb cc m w ha hb hr hl h1 h2
  · exact dt_a hT a b c0 ts us xs ca cb cc m w ha hb hr hl h1

end Go.Proofs.YtcaljnhdfbjpnaeDoor
