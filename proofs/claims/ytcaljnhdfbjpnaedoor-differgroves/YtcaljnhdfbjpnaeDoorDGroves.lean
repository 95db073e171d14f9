/-
  DifferGroves' own walk, with what package differ answers as premises.
-/
import Derived.Test.YtcaljnhdfbjpnaeDoorDifJ
import Derived.Test.YtcaljnhdfbjpnaeDoorDifPG
import Derived.Test.YtcaljnhdfbjpnaeDoorGrTwo
import Derived.Test.YtcaljnhdfbjpnaeDoorRefMoved
import Derived.Test.YtcaljnhdfbjpnaeDoorRefTree
import Derived.Test.YtcaljnhdfbjpnaeDoorRefGrove
import Derived.Test.YtcaljnhdfbjpnaeDoorErrJ
import Derived.Deep.Cut
import Derived.Deep.CutRange
import Derived.Deep.RegionWith
import Derived.RegionTactic
import Derived.BigQuiet
import Derived.Deep.QuietTactic
namespace Go.Proofs.YtcaljnhdfbjpnaeDoor
open Go.ChangeShapes Go.WideShapes Go.ChangeAt Go.RowKit Go.Lib
set_option linter.unusedVariables false

theorem rmoved_two (a b : Option Addr) (ts us : List M.Nd) (ca cb : Nat) (m : Int) (w : World) (ha : RdN w a ts) (hb : RdN w b us) (h1 : (M.treeF ts m).2 = 0) (h2 : (M.treeF us m).2 = 0) :
    Calls Tryd.prog 12 #[.slice a ts.length ca, .slice b us.length cb, .int .i64 m] w fun e w' => e = .returned (.int .i64 (M.movedV ts us m : Nat)) ∧ Below w.heap.size w w' := by
  obtain ⟨n, rfl⟩ := Int.eq_ofNat_of_zero_le (M.tree_ok h1).1.2.2.1
  unfold M.movedV
  rw [if_pos (M.dif_of h1 h2)]
  exact rmoved_any a b ts us ca cb n w ha hb (M.tree_ok h1).1 (M.tree_ok h2).1

set_option maxHeartbeats 32000000 in
set_option maxRecDepth 10000 in
theorem dg_a (hG : DifGrovesGives) (hM : DifMovedGives) (G O : Gr) (a b : Option Addr) (ts us : List M.Nd) (ca cb : Nat) (m : Int) (w : World) (hg : RdG w G) (ho : RdG w O) (ha : RdN w a ts) (hb : RdN w b us) (hl : Lays w) (he : M.groveF G.m ≠ 0) :
    Calls Tryd.prog 4 #[G.v, O.v, .slice a ts.length ca, .slice b us.length cb, .int .i64 m] w fun e w' => e = .returned (.bool true) ∧ Below w.heap.size w w' := by
  have hma : ts.length ≤ 9223372036854775807 := ha.1
  have hmb : us.length ≤ 9223372036854775807 := hb.1
  have hmg : G.ks.length ≤ 9223372036854775807 := hg.2.1
  have hmo : O.ks.length ≤ 9223372036854775807 := ho.2.1
  have ER := hide (fun c W (hW : Below w.heap.size w W) => (error_any c c W (hl.below hW)).mono (R' := fun r w' => r = .returned (.bool true) ∧ Below W.heap.size W w') fun r w' h => ⟨by rw [h.1, beq_self_eq_true], h.2⟩)
  have RA := hide (fun W (hW : Below w.heap.size w W) => rtree_any a ts ca m W (ha.below hW))
  have RB := hide (fun W (hW : Below w.heap.size w W) => rtree_any b us cb m W (hb.below hW))
  have GG := hide (fun W (hW : Below w.heap.size w W) => rgrove_any G W (hg.below hW))
  have GO := hide (fun W (hW : Below w.heap.size w W) => rgrove_any O W (ho.below hW))
  have DM := hide (fun W (hW : Below w.heap.size w W) => hM a b ts us ca cb m W (ha.below hW) (hb.below hW))
  have DG := hide (fun W (hW : Below w.heap.size w W) => hG G O W (hg.below hW) (ho.below hW))
  have RM := hide (fun h1 h2 W (hW : Below w.heap.size w W) => rmoved_two a b ts us ca cb m W (ha.below hW) (hb.below hW) h1 h2)
  have F1 : Hid ((M.treeF ts m).2 ≠ 0 → M.difF ts us m = (M.treeF ts m).2 ∧ M.movedV ts us m = 0) := fun h => by
    have q : M.difF ts us m = (M.treeF ts m).2 := by unfold M.difF; rw [if_pos h]
    exact ⟨q, by unfold M.movedV; rw [if_neg (by rw [q]; exact h)]⟩
  have F2 : Hid ((M.treeF ts m).2 = 0 → (M.treeF us m).2 ≠ 0 → M.difF ts us m = (M.treeF us m).2 ∧ M.movedV ts us m = 0) := fun h h2 => by
    have q : M.difF ts us m = (M.treeF us m).2 := by unfold M.difF; rw [if_neg (by simp [h])]
    exact ⟨q, by unfold M.movedV; rw [if_neg (by rw [q]; exact h2)]⟩
  have F3 : Hid ((M.treeF ts m).2 = 0 → (M.treeF us m).2 = 0 → M.difF ts us m = 0) := fun h h2 => M.dif_of h h2
  have C0 := hide (Cx.new w G O)
  have ed : M.gdF G.m O.m = M.groveF G.m := by unfold M.gdF; rw [if_pos he]
  obtain ⟨q1, q2⟩ := M.gd_bad (g := G.m) (o := O.m) (by rw [ed]; exact he)
  rw [q1, q2, ed] at DG
  have t0 : (M.groveF G.m == 0) = false := by rw [beq_eq_false_iff_ne]; exact he
  clear hg ho ha hb hl hG hM he ed q1 q2
  generalize (M.treeF ts m).2 = ea at *
  generalize (M.treeF us m).2 = eb at *
  generalize (M.treeF ts m).1 = na at *
  generalize (M.treeF us m).1 = nb at *
  generalize M.difF ts us m = dF at *
  generalize M.movedV ts us m = mV at *
  generalize M.groveF G.m = gG at *
  generalize M.groveF O.m = gO at *
  unfold Gr.v at GG GO DG ⊢
  go_enter Tryd.func4, Tryd.ntmps4
  go_upto_region 16 with (go_at_call 11; refine (GG.out _ C0.out.k).mono ?_; rintro e w1 ⟨rfl, h⟩; have c1 := hide (C0.out.up h); obtain ⟨_, x0, x1, x2, x3, y0, y1, y2, y3, _⟩ := c1.out; clear h)
  clear x0 x1 x2 x3 y0 y1 y2 y3
  have E1 := hide (ER.out (gG))
  obtain ⟨_, x0, x1, x2, x3, y0, y1, y2, y3, _⟩ := c1.out
  go_upto_region 18 with (first
    | (go_at_call 8; refine (E1.out _ j1.out.k).mono ?_; rintro e v2 ⟨rfl, h⟩; have j2 := hide (below_on j1.out.k h); clear h)
    | (go_at_call 13; refine (DG.out _ c1.out.k).mono ?_; rintro e v1 ⟨rfl, h⟩; have j1 := hide (c1.out.up h); clear h))
  clear x0 x1 x2 x3 y0 y1 y2 y3 DG E1 GG GO
  by_cases ta : ea = 0
  · by_cases tb : eb = 0
    · have d := F3.out ta tb
      have RM1 := hide (RM.out ta tb)
      subst d ta tb
      have E2 := hide (ER.out 0)
      clear F1 F2 F3 RM ER
      go_wp2_with (first
        | (go_at_call 8; refine (E2.out _ j6.out).mono ?_; rintro e v7 ⟨rfl, h⟩; have j7 := hide (below_on j6.out h); clear h)
        | (go_at_call 14; refine (DM.out _ j5.out).mono ?_; rintro e v6 ⟨rfl, h⟩; have j6 := hide (below_on j5.out h); clear h)
        | (go_at_call 12; refine (RM1.out _ j4.out).mono ?_; rintro e v5 ⟨rfl, h⟩; have j5 := hide (below_on j4.out h); clear h)
        | (go_at_call 7; have lean := j3; refine (RB.out _ j3.out).mono ?_; rintro e v4 ⟨rfl, h⟩; have j4 := hide (below_on j3.out h); clear h)
        | (go_at_call 7; refine (RA.out _ j2.out).mono ?_; rintro e v3 ⟨rfl, h⟩; have j3 := hide (below_on j2.out h); clear h))
      go_ret
      exact ⟨rfl, j7.out⟩
    · have d := F2.out ta tb
      have t1 : (eb == 0) = false := by rw [beq_eq_false_iff_ne]; exact tb
      obtain ⟨d1, d2⟩ := d
      subst d1 d2 ta
      have E2 := hide (ER.out dF)
      clear F1 F2 F3 RM ER tb
      go_wp2_with (first
        | (go_at_call 8; refine (E2.out _ j6.out).mono ?_; rintro e v7 ⟨rfl, h⟩; have j7 := hide (below_on j6.out h); clear h)
        | (go_at_call 14; refine (DM.out _ j4.out).mono ?_; rintro e v6 ⟨rfl, h⟩; have j6 := hide (below_on j4.out h); clear h)
        | (go_at_call 7; have lean := j3; refine (RB.out _ j3.out).mono ?_; rintro e v4 ⟨rfl, h⟩; have j4 := hide (below_on j3.out h); clear h)
        | (go_at_call 7; refine (RA.out _ j2.out).mono ?_; rintro e v3 ⟨rfl, h⟩; have j3 := hide (below_on j2.out h); clear h))
      go_ret
      exact ⟨rfl, j7.out⟩
  · have d := F1.out ta
    have t1 : (ea == 0) = false := by rw [beq_eq_false_iff_ne]; exact ta
    obtain ⟨d1, d2⟩ := d
    subst d1 d2
    have E2 := hide (ER.out dF)
    clear F1 F2 F3 RM ER ta
    go_wp2_with (first
      | (go_at_call 8; refine (E2.out _ j6.out).mono ?_; rintro e v7 ⟨rfl, h⟩; have j7 := hide (below_on j6.out h); clear h)
      | (go_at_call 14; refine (DM.out _ j3.out).mono ?_; rintro e v6 ⟨rfl, h⟩; have j6 := hide (below_on j3.out h); clear h)
      | (go_at_call 7; refine (RA.out _ j2.out).mono ?_; rintro e v3 ⟨rfl, h⟩; have j3 := hide (below_on j2.out h); clear h))
    go_ret
    exact ⟨rfl, j7.out⟩

set_option maxHeartbeats 32000000 in
set_option maxRecDepth 10000 in
theorem dg_b (hG : DifGrovesGives) (hM : DifMovedGives) (G O : Gr) (a b : Option Addr) (ts us : List M.Nd) (ca cb : Nat) (m : Int) (w : World) (hg : RdG w G) (ho : RdG w O) (ha : RdN w a ts) (hb : RdN w b us) (hl : Lays w) (h0 : M.groveF G.m = 0) (he : M.groveF O.m ≠ 0) :
    Calls Tryd.prog 4 #[G.v, O.v, .slice a ts.length ca, .slice b us.length cb, .int .i64 m] w fun e w' => e = .returned (.bool true) ∧ Below w.heap.size w w' := by
  have hma : ts.length ≤ 9223372036854775807 := ha.1
  have hmb : us.length ≤ 9223372036854775807 := hb.1
  have hmg : G.ks.length ≤ 9223372036854775807 := hg.2.1
  have hmo : O.ks.length ≤ 9223372036854775807 := ho.2.1
  have ER := hide (fun c W (hW : Below w.heap.size w W) => (error_any c c W (hl.below hW)).mono (R' := fun r w' => r = .returned (.bool true) ∧ Below W.heap.size W w') fun r w' h => ⟨by rw [h.1, beq_self_eq_true], h.2⟩)
  have RA := hide (fun W (hW : Below w.heap.size w W) => rtree_any a ts ca m W (ha.below hW))
  have RB := hide (fun W (hW : Below w.heap.size w W) => rtree_any b us cb m W (hb.below hW))
  have GG := hide (fun W (hW : Below w.heap.size w W) => rgrove_any G W (hg.below hW))
  have GO := hide (fun W (hW : Below w.heap.size w W) => rgrove_any O W (ho.below hW))
  have DM := hide (fun W (hW : Below w.heap.size w W) => hM a b ts us ca cb m W (ha.below hW) (hb.below hW))
  have DG := hide (fun W (hW : Below w.heap.size w W) => hG G O W (hg.below hW) (ho.below hW))
  have RM := hide (fun h1 h2 W (hW : Below w.heap.size w W) => rmoved_two a b ts us ca cb m W (ha.below hW) (hb.below hW) h1 h2)
  have F1 : Hid ((M.treeF ts m).2 ≠ 0 → M.difF ts us m = (M.treeF ts m).2 ∧ M.movedV ts us m = 0) := fun h => by
    have q : M.difF ts us m = (M.treeF ts m).2 := by unfold M.difF; rw [if_pos h]
    exact ⟨q, by unfold M.movedV; rw [if_neg (by rw [q]; exact h)]⟩
  have F2 : Hid ((M.treeF ts m).2 = 0 → (M.treeF us m).2 ≠ 0 → M.difF ts us m = (M.treeF us m).2 ∧ M.movedV ts us m = 0) := fun h h2 => by
    have q : M.difF ts us m = (M.treeF us m).2 := by unfold M.difF; rw [if_neg (by simp [h])]
    exact ⟨q, by unfold M.movedV; rw [if_neg (by rw [q]; exact h2)]⟩
  have F3 : Hid ((M.treeF ts m).2 = 0 → (M.treeF us m).2 = 0 → M.difF ts us m = 0) := fun h h2 => M.dif_of h h2
  have C0 := hide (Cx.new w G O)
  have ed : M.gdF G.m O.m = M.groveF O.m := by unfold M.gdF; rw [if_neg (by simp [h0]), if_pos he]
  obtain ⟨q1, q2⟩ := M.gd_bad (g := G.m) (o := O.m) (by rw [ed]; exact he)
  rw [q1, q2, ed] at DG
  rw [h0] at GG
  have t0 : (M.groveF O.m == 0) = false := by rw [beq_eq_false_iff_ne]; exact he
  clear hg ho ha hb hl hG hM he ed q1 q2 h0
  generalize (M.treeF ts m).2 = ea at *
  generalize (M.treeF us m).2 = eb at *
  generalize (M.treeF ts m).1 = na at *
  generalize (M.treeF us m).1 = nb at *
  generalize M.difF ts us m = dF at *
  generalize M.movedV ts us m = mV at *
  generalize M.groveF O.m = gO at *
  unfold Gr.v at GG GO DG ⊢
  go_enter Tryd.func4, Tryd.ntmps4
  go_upto_region 16 with (first
    | (go_at_call 11; have lean := c1; refine (GO.out _ c1.out.k).mono ?_; rintro e w2 ⟨rfl, h⟩; have c2 := hide (c1.out.up h); obtain ⟨_, x0, x1, x2, x3, y0, y1, y2, y3, _⟩ := c2.out; clear h)
    | (go_at_call 11; refine (GG.out _ C0.out.k).mono ?_; rintro e w1 ⟨rfl, h⟩; have c1 := hide (C0.out.up h); obtain ⟨_, x0, x1, x2, x3, y0, y1, y2, y3, _⟩ := c1.out; clear h))
  clear x0 x1 x2 x3 y0 y1 y2 y3
  have E1 := hide (ER.out (gO))
  obtain ⟨_, x0, x1, x2, x3, y0, y1, y2, y3, _⟩ := c2.out
  go_upto_region 18 with (first
    | (go_at_call 8; refine (E1.out _ j1.out.k).mono ?_; rintro e v2 ⟨rfl, h⟩; have j2 := hide (below_on j1.out.k h); clear h)
    | (go_at_call 13; refine (DG.out _ c2.out.k).mono ?_; rintro e v1 ⟨rfl, h⟩; have j1 := hide (c2.out.up h); clear h))
  clear x0 x1 x2 x3 y0 y1 y2 y3 DG E1 GG GO
  by_cases ta : ea = 0
  · by_cases tb : eb = 0
    · have d := F3.out ta tb
      have RM1 := hide (RM.out ta tb)
      subst d ta tb
      have E2 := hide (ER.out 0)
      clear F1 F2 F3 RM ER
      go_wp2_with (first
        | (go_at_call 8; refine (E2.out _ j6.out).mono ?_; rintro e v7 ⟨rfl, h⟩; have j7 := hide (below_on j6.out h); clear h)
        | (go_at_call 14; refine (DM.out _ j5.out).mono ?_; rintro e v6 ⟨rfl, h⟩; have j6 := hide (below_on j5.out h); clear h)
        | (go_at_call 12; refine (RM1.out _ j4.out).mono ?_; rintro e v5 ⟨rfl, h⟩; have j5 := hide (below_on j4.out h); clear h)
        | (go_at_call 7; have lean := j3; refine (RB.out _ j3.out).mono ?_; rintro e v4 ⟨rfl, h⟩; have j4 := hide (below_on j3.out h); clear h)
        | (go_at_call 7; refine (RA.out _ j2.out).mono ?_; rintro e v3 ⟨rfl, h⟩; have j3 := hide (below_on j2.out h); clear h))
      go_ret
      exact ⟨rfl, j7.out⟩
    · have d := F2.out ta tb
      have t1 : (eb == 0) = false := by rw [beq_eq_false_iff_ne]; exact tb
      obtain ⟨d1, d2⟩ := d
      subst d1 d2 ta
      have E2 := hide (ER.out dF)
      clear F1 F2 F3 RM ER tb
      go_wp2_with (first
        | (go_at_call 8; refine (E2.out _ j6.out).mono ?_; rintro e v7 ⟨rfl, h⟩; have j7 := hide (below_on j6.out h); clear h)
        | (go_at_call 14; refine (DM.out _ j4.out).mono ?_; rintro e v6 ⟨rfl, h⟩; have j6 := hide (below_on j4.out h); clear h)
        | (go_at_call 7; have lean := j3; refine (RB.out _ j3.out).mono ?_; rintro e v4 ⟨rfl, h⟩; have j4 := hide (below_on j3.out h); clear h)
        | (go_at_call 7; refine (RA.out _ j2.out).mono ?_; rintro e v3 ⟨rfl, h⟩; have j3 := hide (below_on j2.out h); clear h))
      go_ret
      exact ⟨rfl, j7.out⟩
  · have d := F1.out ta
    have t1 : (ea == 0) = false := by rw [beq_eq_false_iff_ne]; exact ta
    obtain ⟨d1, d2⟩ := d
    subst d1 d2
    have E2 := hide (ER.out dF)
    clear F1 F2 F3 RM ER ta
    go_wp2_with (first
      | (go_at_call 8; refine (E2.out _ j6.out).mono ?_; rintro e v7 ⟨rfl, h⟩; have j7 := hide (below_on j6.out h); clear h)
      | (go_at_call 14; refine (DM.out _ j3.out).mono ?_; rintro e v6 ⟨rfl, h⟩; have j6 := hide (below_on j3.out h); clear h)
      | (go_at_call 7; refine (RA.out _ j2.out).mono ?_; rintro e v3 ⟨rfl, h⟩; have j3 := hide (below_on j2.out h); clear h))
    go_ret
    exact ⟨rfl, j7.out⟩

set_option maxHeartbeats 32000000 in
set_option maxRecDepth 10000 in
theorem dg_c (hG : DifGrovesGives) (hM : DifMovedGives) (G O : Gr) (a b : Option Addr) (ts us : List M.Nd) (ca cb : Nat) (m : Int) (w : World) (hg : RdG w G) (ho : RdG w O) (ha : RdN w a ts) (hb : RdN w b us) (hl : Lays w) (h0 : M.groveF G.m = 0) (h1 : M.groveF O.m = 0) (he : G.f ≠ O.f ∨ G.w ≠ O.w ∨ G.ks.length ≠ O.ks.length) :
    Calls Tryd.prog 4 #[G.v, O.v, .slice a ts.length ca, .slice b us.length cb, .int .i64 m] w fun e w' => e = .returned (.bool true) ∧ Below w.heap.size w w' := by
  have hma : ts.length ≤ 9223372036854775807 := ha.1
  have hmb : us.length ≤ 9223372036854775807 := hb.1
  have hmg : G.ks.length ≤ 9223372036854775807 := hg.2.1
  have hmo : O.ks.length ≤ 9223372036854775807 := ho.2.1
  have ER := hide (fun c W (hW : Below w.heap.size w W) => (error_any c c W (hl.below hW)).mono (R' := fun r w' => r = .returned (.bool true) ∧ Below W.heap.size W w') fun r w' h => ⟨by rw [h.1, beq_self_eq_true], h.2⟩)
  have RA := hide (fun W (hW : Below w.heap.size w W) => rtree_any a ts ca m W (ha.below hW))
  have RB := hide (fun W (hW : Below w.heap.size w W) => rtree_any b us cb m W (hb.below hW))
  have GG := hide (fun W (hW : Below w.heap.size w W) => rgrove_any G W (hg.below hW))
  have GO := hide (fun W (hW : Below w.heap.size w W) => rgrove_any O W (ho.below hW))
  have DM := hide (fun W (hW : Below w.heap.size w W) => hM a b ts us ca cb m W (ha.below hW) (hb.below hW))
  have DG := hide (fun W (hW : Below w.heap.size w W) => hG G O W (hg.below hW) (ho.below hW))
  have RM := hide (fun h1 h2 W (hW : Below w.heap.size w W) => rmoved_two a b ts us ca cb m W (ha.below hW) (hb.below hW) h1 h2)
  have F1 : Hid ((M.treeF ts m).2 ≠ 0 → M.difF ts us m = (M.treeF ts m).2 ∧ M.movedV ts us m = 0) := fun h => by
    have q : M.difF ts us m = (M.treeF ts m).2 := by unfold M.difF; rw [if_pos h]
    exact ⟨q, by unfold M.movedV; rw [if_neg (by rw [q]; exact h)]⟩
  have F2 : Hid ((M.treeF ts m).2 = 0 → (M.treeF us m).2 ≠ 0 → M.difF ts us m = (M.treeF us m).2 ∧ M.movedV ts us m = 0) := fun h h2 => by
    have q : M.difF ts us m = (M.treeF us m).2 := by unfold M.difF; rw [if_neg (by simp [h])]
    exact ⟨q, by unfold M.movedV; rw [if_neg (by rw [q]; exact h2)]⟩
  have F3 : Hid ((M.treeF ts m).2 = 0 → (M.treeF us m).2 = 0 → M.difF ts us m = 0) := fun h h2 => M.dif_of h h2
  have C0 := hide (Cx.new w G O)
  have ed : M.gdF G.m O.m = 3 := by
    unfold M.gdF
    rw [if_neg (by simp [h0]), if_neg (by simp [h1]), if_pos]
    rcases he with h | h | h
    · exact .inl h
    · exact .inr (.inl h)
    · refine .inr (.inr ?_)
      show (tl G.ks).length ≠ (tl O.ks).length
      rw [tl_len, tl_len]
      exact h
  obtain ⟨q1, q2⟩ := M.gd_bad (g := G.m) (o := O.m) (by rw [ed]; decide)
  rw [q1, q2, ed] at DG
  rw [h0] at GG
  rw [h1] at GO
  clear hg ho ha hb hl hG hM ed q1 q2 h0 h1
  generalize (M.treeF ts m).2 = ea at *
  generalize (M.treeF us m).2 = eb at *
  generalize (M.treeF ts m).1 = na at *
  generalize (M.treeF us m).1 = nb at *
  generalize M.difF ts us m = dF at *
  generalize M.movedV ts us m = mV at *
  unfold Gr.v at GG GO DG ⊢
  by_cases d1 : G.f = O.f
  · have t1 : (G.f != O.f) = false := by rw [bne_eq_false_iff_eq]; exact d1
    by_cases d2 : G.w = O.w
    · have t2 : (G.w != O.w) = false := by rw [bne_eq_false_iff_eq]; exact d2
      have d3 : G.ks.length ≠ O.ks.length := he.elim (fun q => absurd d1 q) (fun q => q.elim (fun q => absurd d2 q) id)
      have t3 : ((G.ks.length : Int) != (O.ks.length : Int)) = true := by rw [bne_iff_ne]; omega
      clear he d1 d2 d3
      go_enter Tryd.func4, Tryd.ntmps4
      go_upto_region 16 with (first
        | (go_at_call 11; have lean := c1; refine (GO.out _ c1.out.k).mono ?_; rintro e w2 ⟨rfl, h⟩; have c2 := hide (c1.out.up h); obtain ⟨_, x0, x1, x2, x3, y0, y1, y2, y3, _⟩ := c2.out; clear h)
        | (go_at_call 11; refine (GG.out _ C0.out.k).mono ?_; rintro e w1 ⟨rfl, h⟩; have c1 := hide (C0.out.up h); obtain ⟨_, x0, x1, x2, x3, y0, y1, y2, y3, _⟩ := c1.out; clear h))
      clear x0 x1 x2 x3 y0 y1 y2 y3
      have E1 := hide (ER.out (3))
      obtain ⟨_, x0, x1, x2, x3, y0, y1, y2, y3, _⟩ := c2.out
      go_upto_region 18 with (first
        | (go_at_call 8; refine (E1.out _ j1.out.k).mono ?_; rintro e v2 ⟨rfl, h⟩; have j2 := hide (below_on j1.out.k h); clear h)
        | (go_at_call 13; refine (DG.out _ c2.out.k).mono ?_; rintro e v1 ⟨rfl, h⟩; have j1 := hide (c2.out.up h); clear h))
      clear x0 x1 x2 x3 y0 y1 y2 y3 DG E1 GG GO
      by_cases ta : ea = 0
      · by_cases tb : eb = 0
        · have d := F3.out ta tb
          have RM1 := hide (RM.out ta tb)
          subst d ta tb
          have E2 := hide (ER.out 0)
          clear F1 F2 F3 RM ER
          go_wp2_with (first
            | (go_at_call 8; refine (E2.out _ j6.out).mono ?_; rintro e v7 ⟨rfl, h⟩; have j7 := hide (below_on j6.out h); clear h)
            | (go_at_call 14; refine (DM.out _ j5.out).mono ?_; rintro e v6 ⟨rfl, h⟩; have j6 := hide (below_on j5.out h); clear h)
            | (go_at_call 12; refine (RM1.out _ j4.out).mono ?_; rintro e v5 ⟨rfl, h⟩; have j5 := hide (below_on j4.out h); clear h)
            | (go_at_call 7; have lean := j3; refine (RB.out _ j3.out).mono ?_; rintro e v4 ⟨rfl, h⟩; have j4 := hide (below_on j3.out h); clear h)
            | (go_at_call 7; refine (RA.out _ j2.out).mono ?_; rintro e v3 ⟨rfl, h⟩; have j3 := hide (below_on j2.out h); clear h))
          go_ret
          exact ⟨rfl, j7.out⟩
        · have d := F2.out ta tb
          have t1 : (eb == 0) = false := by rw [beq_eq_false_iff_ne]; exact tb
          obtain ⟨d1, d2⟩ := d
          subst d1 d2 ta
          have E2 := hide (ER.out dF)
          clear F1 F2 F3 RM ER tb
          go_wp2_with (first
            | (go_at_call 8; refine (E2.out _ j6.out).mono ?_; rintro e v7 ⟨rfl, h⟩; have j7 := hide (below_on j6.out h); clear h)
            | (go_at_call 14; refine (DM.out _ j4.out).mono ?_; rintro e v6 ⟨rfl, h⟩; have j6 := hide (below_on j4.out h); clear h)
            | (go_at_call 7; have lean := j3; refine (RB.out _ j3.out).mono ?_; rintro e v4 ⟨rfl, h⟩; have j4 := hide (below_on j3.out h); clear h)
            | (go_at_call 7; refine (RA.out _ j2.out).mono ?_; rintro e v3 ⟨rfl, h⟩; have j3 := hide (below_on j2.out h); clear h))
          go_ret
          exact ⟨rfl, j7.out⟩
      · have d := F1.out ta
        have t1 : (ea == 0) = false := by rw [beq_eq_false_iff_ne]; exact ta
        obtain ⟨d1, d2⟩ := d
        subst d1 d2
        have E2 := hide (ER.out dF)
        clear F1 F2 F3 RM ER ta
        go_wp2_with (first
          | (go_at_call 8; refine (E2.out _ j6.out).mono ?_; rintro e v7 ⟨rfl, h⟩; have j7 := hide (below_on j6.out h); clear h)
          | (go_at_call 14; refine (DM.out _ j3.out).mono ?_; rintro e v6 ⟨rfl, h⟩; have j6 := hide (below_on j3.out h); clear h)
          | (go_at_call 7; refine (RA.out _ j2.out).mono ?_; rintro e v3 ⟨rfl, h⟩; have j3 := hide (below_on j2.out h); clear h))
        go_ret
        exact ⟨rfl, j7.out⟩
    · have t2 : (G.w != O.w) = true := by rw [bne_iff_ne]; exact d2
      clear he d1 d2
      go_enter Tryd.func4, Tryd.ntmps4
      go_upto_region 16 with (first
        | (go_at_call 11; have lean := c1; refine (GO.out _ c1.out.k).mono ?_; rintro e w2 ⟨rfl, h⟩; have c2 := hide (c1.out.up h); obtain ⟨_, x0, x1, x2, x3, y0, y1, y2, y3, _⟩ := c2.out; clear h)
        | (go_at_call 11; refine (GG.out _ C0.out.k).mono ?_; rintro e w1 ⟨rfl, h⟩; have c1 := hide (C0.out.up h); obtain ⟨_, x0, x1, x2, x3, y0, y1, y2, y3, _⟩ := c1.out; clear h))
      clear x0 x1 x2 x3 y0 y1 y2 y3
      have E1 := hide (ER.out (3))
      obtain ⟨_, x0, x1, x2, x3, y0, y1, y2, y3, _⟩ := c2.out
      go_upto_region 18 with (first
        | (go_at_call 8; refine (E1.out _ j1.out.k).mono ?_; rintro e v2 ⟨rfl, h⟩; have j2 := hide (below_on j1.out.k h); clear h)
        | (go_at_call 13; refine (DG.out _ c2.out.k).mono ?_; rintro e v1 ⟨rfl, h⟩; have j1 := hide (c2.out.up h); clear h))
      clear x0 x1 x2 x3 y0 y1 y2 y3 DG E1 GG GO
      by_cases ta : ea = 0
      · by_cases tb : eb = 0
        · have d := F3.out ta tb
          have RM1 := hide (RM.out ta tb)
          subst d ta tb
          have E2 := hide (ER.out 0)
          clear F1 F2 F3 RM ER
          go_wp2_with (first
            | (go_at_call 8; refine (E2.out _ j6.out).mono ?_; rintro e v7 ⟨rfl, h⟩; have j7 := hide (below_on j6.out h); clear h)
            | (go_at_call 14; refine (DM.out _ j5.out).mono ?_; rintro e v6 ⟨rfl, h⟩; have j6 := hide (below_on j5.out h); clear h)
            | (go_at_call 12; refine (RM1.out _ j4.out).mono ?_; rintro e v5 ⟨rfl, h⟩; have j5 := hide (below_on j4.out h); clear h)
            | (go_at_call 7; have lean := j3; refine (RB.out _ j3.out).mono ?_; rintro e v4 ⟨rfl, h⟩; have j4 := hide (below_on j3.out h); clear h)
            | (go_at_call 7; refine (RA.out _ j2.out).mono ?_; rintro e v3 ⟨rfl, h⟩; have j3 := hide (below_on j2.out h); clear h))
          go_ret
          exact ⟨rfl, j7.out⟩
        · have d := F2.out ta tb
          have t1 : (eb == 0) = false := by rw [beq_eq_false_iff_ne]; exact tb
          obtain ⟨d1, d2⟩ := d
          subst d1 d2 ta
          have E2 := hide (ER.out dF)
          clear F1 F2 F3 RM ER tb
          go_wp2_with (first
            | (go_at_call 8; refine (E2.out _ j6.out).mono ?_; rintro e v7 ⟨rfl, h⟩; have j7 := hide (below_on j6.out h); clear h)
            | (go_at_call 14; refine (DM.out _ j4.out).mono ?_; rintro e v6 ⟨rfl, h⟩; have j6 := hide (below_on j4.out h); clear h)
            | (go_at_call 7; have lean := j3; refine (RB.out _ j3.out).mono ?_; rintro e v4 ⟨rfl, h⟩; have j4 := hide (below_on j3.out h); clear h)
            | (go_at_call 7; refine (RA.out _ j2.out).mono ?_; rintro e v3 ⟨rfl, h⟩; have j3 := hide (below_on j2.out h); clear h))
          go_ret
          exact ⟨rfl, j7.out⟩
      · have d := F1.out ta
        have t1 : (ea == 0) = false := by rw [beq_eq_false_iff_ne]; exact ta
        obtain ⟨d1, d2⟩ := d
        subst d1 d2
        have E2 := hide (ER.out dF)
        clear F1 F2 F3 RM ER ta
        go_wp2_with (first
          | (go_at_call 8; refine (E2.out _ j6.out).mono ?_; rintro e v7 ⟨rfl, h⟩; have j7 := hide (below_on j6.out h); clear h)
          | (go_at_call 14; refine (DM.out _ j3.out).mono ?_; rintro e v6 ⟨rfl, h⟩; have j6 := hide (below_on j3.out h); clear h)
          | (go_at_call 7; refine (RA.out _ j2.out).mono ?_; rintro e v3 ⟨rfl, h⟩; have j3 := hide (below_on j2.out h); clear h))
        go_ret
        exact ⟨rfl, j7.out⟩
  · have t1 : (G.f != O.f) = true := by rw [bne_iff_ne]; exact d1
    clear he d1
    go_enter Tryd.func4, Tryd.ntmps4
    go_upto_region 16 with (first
      | (go_at_call 11; have lean := c1; refine (GO.out _ c1.out.k).mono ?_; rintro e w2 ⟨rfl, h⟩; have c2 := hide (c1.out.up h); obtain ⟨_, x0, x1, x2, x3, y0, y1, y2, y3, _⟩ := c2.out; clear h)
      | (go_at_call 11; refine (GG.out _ C0.out.k).mono ?_; rintro e w1 ⟨rfl, h⟩; have c1 := hide (C0.out.up h); obtain ⟨_, x0, x1, x2, x3, y0, y1, y2, y3, _⟩ := c1.out; clear h))
    clear x0 x1 x2 x3 y0 y1 y2 y3
    have E1 := hide (ER.out (3))
    obtain ⟨_, x0, x1, x2, x3, y0, y1, y2, y3, _⟩ := c2.out
    go_upto_region 18 with (first
      | (go_at_call 8; refine (E1.out _ j1.out.k).mono ?_; rintro e v2 ⟨rfl, h⟩; have j2 := hide (below_on j1.out.k h); clear h)
      | (go_at_call 13; refine (DG.out _ c2.out.k).mono ?_; rintro e v1 ⟨rfl, h⟩; have j1 := hide (c2.out.up h); clear h))
    clear x0 x1 x2 x3 y0 y1 y2 y3 DG E1 GG GO
    by_cases ta : ea = 0
    · by_cases tb : eb = 0
      · have d := F3.out ta tb
        have RM1 := hide (RM.out ta tb)
        subst d ta tb
        have E2 := hide (ER.out 0)
        clear F1 F2 F3 RM ER
        go_wp2_with (first
          | (go_at_call 8; refine (E2.out _ j6.out).mono ?_; rintro e v7 ⟨rfl, h⟩; have j7 := hide (below_on j6.out h); clear h)
          | (go_at_call 14; refine (DM.out _ j5.out).mono ?_; rintro e v6 ⟨rfl, h⟩; have j6 := hide (below_on j5.out h); clear h)
          | (go_at_call 12; refine (RM1.out _ j4.out).mono ?_; rintro e v5 ⟨rfl, h⟩; have j5 := hide (below_on j4.out h); clear h)
          | (go_at_call 7; have lean := j3; refine (RB.out _ j3.out).mono ?_; rintro e v4 ⟨rfl, h⟩; have j4 := hide (below_on j3.out h); clear h)
          | (go_at_call 7; refine (RA.out _ j2.out).mono ?_; rintro e v3 ⟨rfl, h⟩; have j3 := hide (below_on j2.out h); clear h))
        go_ret
        exact ⟨rfl, j7.out⟩
      · have d := F2.out ta tb
        have t1 : (eb == 0) = false := by rw [beq_eq_false_iff_ne]; exact tb
        obtain ⟨d1, d2⟩ := d
        subst d1 d2 ta
        have E2 := hide (ER.out dF)
        clear F1 F2 F3 RM ER tb
        go_wp2_with (first
          | (go_at_call 8; refine (E2.out _ j6.out).mono ?_; rintro e v7 ⟨rfl, h⟩; have j7 := hide (below_on j6.out h); clear h)
          | (go_at_call 14; refine (DM.out _ j4.out).mono ?_; rintro e v6 ⟨rfl, h⟩; have j6 := hide (below_on j4.out h); clear h)
          | (go_at_call 7; have lean := j3; refine (RB.out _ j3.out).mono ?_; rintro e v4 ⟨rfl, h⟩; have j4 := hide (below_on j3.out h); clear h)
          | (go_at_call 7; refine (RA.out _ j2.out).mono ?_; rintro e v3 ⟨rfl, h⟩; have j3 := hide (below_on j2.out h); clear h))
        go_ret
        exact ⟨rfl, j7.out⟩
    · have d := F1.out ta
      have t1 : (ea == 0) = false := by rw [beq_eq_false_iff_ne]; exact ta
      obtain ⟨d1, d2⟩ := d
      subst d1 d2
      have E2 := hide (ER.out dF)
      clear F1 F2 F3 RM ER ta
      go_wp2_with (first
        | (go_at_call 8; refine (E2.out _ j6.out).mono ?_; rintro e v7 ⟨rfl, h⟩; have j7 := hide (below_on j6.out h); clear h)
        | (go_at_call 14; refine (DM.out _ j3.out).mono ?_; rintro e v6 ⟨rfl, h⟩; have j6 := hide (below_on j3.out h); clear h)
        | (go_at_call 7; refine (RA.out _ j2.out).mono ?_; rintro e v3 ⟨rfl, h⟩; have j3 := hide (below_on j2.out h); clear h))
      go_ret
      exact ⟨rfl, j7.out⟩

end Go.Proofs.YtcaljnhdfbjpnaeDoor
