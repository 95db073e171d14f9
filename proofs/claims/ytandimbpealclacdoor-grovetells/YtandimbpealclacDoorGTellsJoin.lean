/-
  What package grove's Join and Bounds answer; GroveTells' own walk, and that it returns true for every two groves and every row; the variable of package errors lies as that package lays it.
-/
import Derived.Test.YtandimbpealclacDoorGCheck
import Derived.Test.YtandimbpealclacDoorGConcat
import Derived.Test.YtandimbpealclacDoorGroveP
import Derived.OwnWalk
import Derived.Deep.Cut
import Derived.Deep.CutRange
import Derived.Deep.RegionWith
import Derived.Deep.RegionLaw
import Derived.Deep.AppendLies
import Derived.RegionTactic
import Derived.Test.YtandimbpealclacDoorGroveQ
import Derived.Deep.RegionHeld3
import Derived.Test.YtandimbpealclacDoorGroves
import Derived.Test.YtandimbpealclacDoorGEach
import Derived.Deep.OwnRows
import Derived.Test.YtandimbpealclacDoorGVote
import Derived.Test.YtandimbpealclacDoorRefEach
import Derived.Test.YtandimbpealclacDoorRefBtw
import Derived.Test.YtandimbpealclacDoorGrSame
import Derived.Test.YtandimbpealclacDoorError
import Derived.Deep.CutBlock
namespace Go.Proofs.YtandimbpealclacDoor
open Go.ChangeShapes Go.WideShapes Go.ChangeAt Go.RowKit Go.Lib
set_option linter.unusedVariables false

/-- the three blocks that Join lays first -/
structure Kj (a0 a1 a2 a3 b0 b1 b2 b3 : Value) (w W : World) : Prop where
  a : W.cell? ⟨w.heap.size, 0, none⟩ = some a0 ∧ W.cell? ⟨w.heap.size, 1, none⟩ = some a1 ∧ W.cell? ⟨w.heap.size, 2, none⟩ = some a2 ∧ W.cell? ⟨w.heap.size, 3, none⟩ = some a3
  b : W.cell? ⟨w.heap.size + 1, 0, none⟩ = some b0 ∧ W.cell? ⟨w.heap.size + 1, 1, none⟩ = some b1 ∧ W.cell? ⟨w.heap.size + 1, 2, none⟩ = some b2 ∧ W.cell? ⟨w.heap.size + 1, 3, none⟩ = some b3
  c : W.cell? ⟨w.heap.size + 1 + 1, 0, none⟩ = some (.int .i64 0) ∧ W.cell? ⟨w.heap.size + 1 + 1, 1, none⟩ = some (.int .i64 0) ∧ W.cell? ⟨w.heap.size + 1 + 1, 2, none⟩ = some (.slice none 0 0) ∧ W.cell? ⟨w.heap.size + 1 + 1, 3, none⟩ = some (.slice none 0 0)
  fr : ∀ j, W.frozen? ⟨w.heap.size + 1 + 1, j, none⟩ = false
  size : w.heap.size + 3 ≤ W.heap.size
  below : Below w.heap.size w W
abbrev jw (w : World) (a0 a1 a2 a3 b0 b1 b2 b3 : Value) : World := ((w.alloc (.cells #[a0, a1, a2, a3] 38)).alloc (.cells #[b0, b1, b2, b3] 38)).alloc (.cells #[.int .i64 0, .int .i64 0, .slice none 0 0, .slice none 0 0] 38)
theorem frozen_new (V : World) (cs : Array Value) (t : TypeId) (j : Nat) : (V.alloc (.cells cs t)).frozen? ⟨V.heap.size, j, none⟩ = false := by
  unfold World.frozen?
  rw [show (V.alloc (.cells cs t)).heap[V.heap.size]? = some (.cells cs t) from (MapKept.heap_alloc V _).1]
  simp
theorem kj_start (w : World) (a0 a1 a2 a3 b0 b1 b2 b3 : Value) : Kj a0 a1 a2 a3 b0 b1 b2 b3 w (jw w a0 a1 a2 a3 b0 b1 b2 b3) := by
  have s1 : (w.alloc (.cells #[a0, a1, a2, a3] 38)).heap.size = w.heap.size + 1 := by simp
  have s2 : ((w.alloc (.cells #[a0, a1, a2, a3] 38)).alloc (.cells #[b0, b1, b2, b3] 38)).heap.size = w.heap.size + 1 + 1 := by simp
  have k1 : Below (w.alloc (.cells #[a0, a1, a2, a3] 38)).heap.size (w.alloc (.cells #[a0, a1, a2, a3] 38)) (jw w a0 a1 a2 a3 b0 b1 b2 b3) := ((Below.refl _ _).alloc (Nat.le_refl _) _).alloc (by simp) _
  have k2 : Below ((w.alloc (.cells #[a0, a1, a2, a3] 38)).alloc (.cells #[b0, b1, b2, b3] 38)).heap.size ((w.alloc (.cells #[a0, a1, a2, a3] 38)).alloc (.cells #[b0, b1, b2, b3] 38)) (jw w a0 a1 a2 a3 b0 b1 b2 b3) := (Below.refl _ _).alloc (Nat.le_refl _) _
  have q2 := kept_box k2
  rw [s1] at q2
  refine ⟨kept_box k1, q2, ?_, ?_, by simp, ((((Below.refl _ w).alloc (Nat.le_refl _) _).alloc (by simp) _).alloc (by simp; omega) _)⟩
  · rw [← s2]
    exact ⟨World.cell?_alloc_at _ _ _ 0 rfl, World.cell?_alloc_at _ _ _ 1 rfl, World.cell?_alloc_at _ _ _ 2 rfl, World.cell?_alloc_at _ _ _ 3 rfl⟩
  · intro j
    rw [← s2]
    exact frozen_new _ _ _ j
theorem Kj.up {a0 a1 a2 a3 b0 b1 b2 b3 : Value} {w W W' : World} (h : Kj a0 a1 a2 a3 b0 b1 b2 b3 w W) (hb : Below W.heap.size W W') : Kj a0 a1 a2 a3 b0 b1 b2 b3 w W' := by
  have hs := h.size
  have c : ∀ (p j : Nat) (v : Value), p < w.heap.size + 3 → W.cell? ⟨p, j, none⟩ = some v → W'.cell? ⟨p, j, none⟩ = some v := fun p j v hp hv => (hb.cell (p := ⟨p, j, none⟩) (show p < _ by omega)).trans hv
  refine ⟨⟨c _ _ _ (by omega) h.a.1, c _ _ _ (by omega) h.a.2.1, c _ _ _ (by omega) h.a.2.2.1, c _ _ _ (by omega) h.a.2.2.2⟩, ⟨c _ _ _ (by omega) h.b.1, c _ _ _ (by omega) h.b.2.1, c _ _ _ (by omega) h.b.2.2.1, c _ _ _ (by omega) h.b.2.2.2⟩, ⟨c _ _ _ (by omega) h.c.1, c _ _ _ (by omega) h.c.2.1, c _ _ _ (by omega) h.c.2.2.1, c _ _ _ (by omega) h.c.2.2.2⟩, fun j => ?_, Nat.le_trans hs hb.size, below_on h.below hb⟩
  rw [← h.fr j]
  unfold World.frozen?
  rw [hb.block _ (show w.heap.size + 1 + 1 < _ by omega)]

def noGr : Gr := ⟨0, 0, none, [], 0, none, [], 0⟩
theorem noGr_rdg (w : World) : RdG w noGr := ⟨⟨Nat.zero_le _, fun h => absurd rfl h⟩, ⟨Nat.zero_le _, (fun k hk => by cases hk), fun h => absurd rfl h⟩⟩

theorem below4 {w W : World} {p : Nat} {x0 x1 x2 x3 : Value} (h : Below w.heap.size w W) (hp : w.heap.size ≤ p) : Below w.heap.size w ((((W.setCell ⟨p, 0, none⟩ x0).setCell ⟨p, 1, none⟩ x1).setCell ⟨p, 2, none⟩ x2).setCell ⟨p, 3, none⟩ x3) :=
  (((h.setCell (p := ⟨p, 0, none⟩) hp _).setCell (p := ⟨p, 1, none⟩) hp _).setCell (p := ⟨p, 2, none⟩) hp _).setCell (p := ⟨p, 3, none⟩) hp _
theorem set4 {W : World} {p : Nat} {x0 x1 x2 x3 y0 y1 y2 y3 : Value} (h0 : W.cell? ⟨p, 0, none⟩ = some y0) (h1 : W.cell? ⟨p, 1, none⟩ = some y1) (h2 : W.cell? ⟨p, 2, none⟩ = some y2) (h3 : W.cell? ⟨p, 3, none⟩ = some y3) :
    (W.setCell ⟨p, 0, none⟩ x0).cell? ⟨p, 0, none⟩ = some x0 ∧ ((W.setCell ⟨p, 0, none⟩ x0).setCell ⟨p, 1, none⟩ x1).cell? ⟨p, 1, none⟩ = some x1 ∧
    (((W.setCell ⟨p, 0, none⟩ x0).setCell ⟨p, 1, none⟩ x1).setCell ⟨p, 2, none⟩ x2).cell? ⟨p, 2, none⟩ = some x2 ∧
    ((((W.setCell ⟨p, 0, none⟩ x0).setCell ⟨p, 1, none⟩ x1).setCell ⟨p, 2, none⟩ x2).setCell ⟨p, 3, none⟩ x3).cell? ⟨p, 3, none⟩ = some x3 := by
  have o : ∀ (V : World) (i j : Nat) (v : Value), i ≠ j → (V.setCell ⟨p, i, none⟩ v).cell? ⟨p, j, none⟩ = V.cell? ⟨p, j, none⟩ := fun V i j v hij => World.cell?_setCell_other _ _ _ _ (by intro e; cases e; exact hij rfl)
  refine ⟨World.cell?_setCell_same _ _ _ h0, World.cell?_setCell_same (u := y1) _ _ _ ?_, World.cell?_setCell_same (u := y2) _ _ _ ?_, World.cell?_setCell_same (u := y3) _ _ _ ?_⟩
  · rw [o _ _ _ _ (by decide)]; exact h1
  · rw [o _ _ _ _ (by decide), o _ _ _ _ (by decide)]; exact h2
  · rw [o _ _ _ _ (by decide), o _ _ _ _ (by decide), o _ _ _ _ (by decide)]; exact h3

set_option maxHeartbeats 8000000 in
set_option maxRecDepth 10000 in
/-- where something is wrong -/
theorem gjoin_bad (G O : Gr) (w : World) (h : RdG w G) (ho : RdG w O) (hne : M.joinF G.m O.m ≠ 0) :
    Calls Tryd.prog 21 #[G.v, O.v] w fun e w' => e = .returned (.tuple #[noGr.v, errV (M.joinF G.m O.m)]) ∧ Below w.heap.size w w' := by
  have C1 := hide (fun W (hW : Below w.heap.size w W) => gcheck_any G W (h.below hW))
  have C2 := hide (fun W (hW : Below w.heap.size w W) => gcheck_any O W (ho.below hW))
  have K0 := hide (kj_start w (.int .i64 G.f) (.int .i64 G.w) (.slice G.wa G.ws.length G.wc) (.slice G.ta G.ks.length G.tc) (.int .i64 O.f) (.int .i64 O.w) (.slice O.wa O.ws.length O.wc) (.slice O.ta O.ks.length O.tc))
  have hm1 : G.ks.length ≤ 9223372036854775807 := h.2.1
  have hm2 : O.ks.length ≤ 9223372036854775807 := ho.2.1
  have tg : (M.gt G.m).length = G.ks.length := tl_len G.ks
  have to' : (M.gt O.m).length = O.ks.length := tl_len O.ks
  unfold Gr.v at C1 C2
  unfold Gr.v noGr
  clear h ho
  by_cases h1 : M.groveF G.m = 0
  · by_cases h2 : M.groveF O.m = 0
    · have G1 := (M.good_iff _).1 h1
      have G2 := (M.good_iff _).1 h2
      have g12 : G.ks.length ≤ 12 := by rw [← tg]; exact G1.t12
      have o12 : O.ks.length ≤ 12 := by rw [← to']; exact G2.t12
      rw [h1, err_nil rfl] at C1
      rw [h2, err_nil rfl] at C2
      by_cases h3 : G.f ≠ O.f ∨ G.w ≠ O.w
      · have E : Hid (M.joinF G.m O.m = 3) := by unfold Hid M.joinF; rw [if_neg (by simp [h1]), if_neg (by simp [h2]), if_pos (show M.gf G.m ≠ M.gf O.m ∨ M.gw G.m ≠ M.gw O.m from h3)]
        rw [E.out, err_some (by decide)]
        clear h1 h2 G1 G2 hne E tg to'
        by_cases h4 : G.f = O.f
        · have q1 : (G.f != O.f) = false := by rw [bne_eq_false_iff_eq]; exact h4
          have q2 : (G.w != O.w) = true := by rw [bne_iff_ne]; rcases h3 with h3 | h3; exact absurd h4 h3; exact h3
          clear h3 h4
          go_enter Tryd.func21, Tryd.ntmps21
          go_wp2_with (first
            | (go_at_call 11; have hone := z1; refine (C2.out _ K1.out.below).mono ?_; rintro e w2 ⟨rfl, hb2⟩; have K2 := hide (K1.out.up hb2); have y0 := K2.out.a.1; have y1 := K2.out.a.2.1; have y3 := K2.out.a.2.2.2; have z2 := K2.out.b.1; have z3 := K2.out.b.2.1; have z4 := K2.out.b.2.2.2; have r0 := K2.out.c.1; have r1 := K2.out.c.2.1; have r2 := K2.out.c.2.2.1; have r3 := K2.out.c.2.2.2; have f0 := K2.out.fr 0; have f1 := K2.out.fr 1; have f2 := K2.out.fr 2; have f3 := K2.out.fr 3; obtain ⟨e0, e1, e2, e3⟩ := set4 (x0 := .int .i64 0) (x1 := .int .i64 0) (x2 := .slice none 0 0) (x3 := .slice none 0 0) r0 r1 r2 r3; clear z1)
            | (go_at_call 11; refine (C1.out _ K0.out.below).mono ?_; rintro e w1 ⟨rfl, hb1⟩; have K1 := hide (K0.out.up hb1); have z1 := K1.out.b.1; have z11 := K1.out.b.2.1; have z12 := K1.out.b.2.2.1; have z13 := K1.out.b.2.2.2))
          refine bodyPost_ret (v := .tuple #[.agg #[.int .i64 0, .int .i64 0, .slice none 0 0, .slice none 0 0], .iface 61 (.int .i64 3)]) (by simp [results, Tryd.results21, go_sem, e0, e1, e2, e3]) rfl ?_
          exact ⟨rfl, below4 K2.out.below (by omega)⟩
        · have q1 : (G.f != O.f) = true := by rw [bne_iff_ne]; exact h4
          clear h3 h4
          go_enter Tryd.func21, Tryd.ntmps21
          go_wp2_with (first
            | (go_at_call 11; have hone := z1; refine (C2.out _ K1.out.below).mono ?_; rintro e w2 ⟨rfl, hb2⟩; have K2 := hide (K1.out.up hb2); have y0 := K2.out.a.1; have y1 := K2.out.a.2.1; have y3 := K2.out.a.2.2.2; have z2 := K2.out.b.1; have z3 := K2.out.b.2.1; have z4 := K2.out.b.2.2.2; have r0 := K2.out.c.1; have r1 := K2.out.c.2.1; have r2 := K2.out.c.2.2.1; have r3 := K2.out.c.2.2.2; have f0 := K2.out.fr 0; have f1 := K2.out.fr 1; have f2 := K2.out.fr 2; have f3 := K2.out.fr 3; obtain ⟨e0, e1, e2, e3⟩ := set4 (x0 := .int .i64 0) (x1 := .int .i64 0) (x2 := .slice none 0 0) (x3 := .slice none 0 0) r0 r1 r2 r3; clear z1)
            | (go_at_call 11; refine (C1.out _ K0.out.below).mono ?_; rintro e w1 ⟨rfl, hb1⟩; have K1 := hide (K0.out.up hb1); have z1 := K1.out.b.1; have z11 := K1.out.b.2.1; have z12 := K1.out.b.2.2.1; have z13 := K1.out.b.2.2.2))
          refine bodyPost_ret (v := .tuple #[.agg #[.int .i64 0, .int .i64 0, .slice none 0 0, .slice none 0 0], .iface 61 (.int .i64 3)]) (by simp [results, Tryd.results21, go_sem, e0, e1, e2, e3]) rfl ?_
          exact ⟨rfl, below4 K2.out.below (by omega)⟩
      · have E : Hid (M.joinF G.m O.m = 4) := by
          have E := hne
          unfold Hid
          unfold M.joinF at E ⊢
          rw [if_neg (by simp [h1]), if_neg (by simp [h2]), if_neg (show ¬ (M.gf G.m ≠ M.gf O.m ∨ M.gw G.m ≠ M.gw O.m) from h3)] at E ⊢
          by_cases q : 12 < (M.gt G.m).length + (M.gt O.m).length
          · rw [if_pos q]
          · rw [if_neg q] at E; exact absurd rfl E
        have L12 : 12 < G.ks.length + O.ks.length := by
          have E2 := E.out
          unfold M.joinF at E2
          rw [if_neg (by simp [h1]), if_neg (by simp [h2]), if_neg (show ¬ (M.gf G.m ≠ M.gf O.m ∨ M.gw G.m ≠ M.gw O.m) from h3)] at E2
          by_cases q : 12 < (M.gt G.m).length + (M.gt O.m).length
          · rw [tg, to'] at q; exact q
          · rw [if_neg q] at E2; cases E2
        rw [E.out, err_some (by decide)]
        have q1 : (G.f != O.f) = false := by rw [bne_eq_false_iff_eq]; by_cases q : G.f = O.f; exact q; exact absurd (.inl q) h3
        have q2 : (G.w != O.w) = false := by rw [bne_eq_false_iff_eq]; by_cases q : G.w = O.w; exact q; exact absurd (.inr q) h3
        have q3 : decide (12 < (G.ks.length : Int) + (O.ks.length : Int)) = true := decide_eq_true (by omega)
        clear h1 h2 h3 G1 G2 hne E tg to' L12
        go_enter Tryd.func21, Tryd.ntmps21
        go_wp2_with (first
          | (go_at_call 11; have hone := z1; refine (C2.out _ K1.out.below).mono ?_; rintro e w2 ⟨rfl, hb2⟩; have K2 := hide (K1.out.up hb2); have y0 := K2.out.a.1; have y1 := K2.out.a.2.1; have y3 := K2.out.a.2.2.2; have z2 := K2.out.b.1; have z3 := K2.out.b.2.1; have z4 := K2.out.b.2.2.2; have r0 := K2.out.c.1; have r1 := K2.out.c.2.1; have r2 := K2.out.c.2.2.1; have r3 := K2.out.c.2.2.2; have f0 := K2.out.fr 0; have f1 := K2.out.fr 1; have f2 := K2.out.fr 2; have f3 := K2.out.fr 3; obtain ⟨e0, e1, e2, e3⟩ := set4 (x0 := .int .i64 0) (x1 := .int .i64 0) (x2 := .slice none 0 0) (x3 := .slice none 0 0) r0 r1 r2 r3; clear z1)
          | (go_at_call 11; refine (C1.out _ K0.out.below).mono ?_; rintro e w1 ⟨rfl, hb1⟩; have K1 := hide (K0.out.up hb1); have z1 := K1.out.b.1; have z11 := K1.out.b.2.1; have z12 := K1.out.b.2.2.1; have z13 := K1.out.b.2.2.2))
        refine bodyPost_ret (v := .tuple #[.agg #[.int .i64 0, .int .i64 0, .slice none 0 0, .slice none 0 0], .iface 61 (.int .i64 4)]) (by simp [results, Tryd.results21, go_sem, e0, e1, e2, e3]) rfl ?_
        exact ⟨rfl, below4 K2.out.below (by omega)⟩
    · have E : Hid (M.joinF G.m O.m = M.groveF O.m) := by unfold Hid M.joinF; rw [if_neg (by simp [h1]), if_pos h2]
      rw [E.out, err_some h2]
      rw [h1, err_nil rfl] at C1
      rw [err_some h2] at C2
      clear h1 h2 hne E tg to'
      generalize M.groveF O.m = gF at *
      go_enter Tryd.func21, Tryd.ntmps21
      go_wp2_with (first
        | (go_at_call 11; have hone := z1; refine (C2.out _ K1.out.below).mono ?_; rintro e w2 ⟨rfl, hb2⟩; have K2 := hide (K1.out.up hb2); have y0 := K2.out.a.1; have y1 := K2.out.a.2.1; have y3 := K2.out.a.2.2.2; have z2 := K2.out.b.1; have z3 := K2.out.b.2.1; have z4 := K2.out.b.2.2.2; have r0 := K2.out.c.1; have r1 := K2.out.c.2.1; have r2 := K2.out.c.2.2.1; have r3 := K2.out.c.2.2.2; have f0 := K2.out.fr 0; have f1 := K2.out.fr 1; have f2 := K2.out.fr 2; have f3 := K2.out.fr 3; obtain ⟨e0, e1, e2, e3⟩ := set4 (x0 := .int .i64 0) (x1 := .int .i64 0) (x2 := .slice none 0 0) (x3 := .slice none 0 0) r0 r1 r2 r3; clear z1)
        | (go_at_call 11; refine (C1.out _ K0.out.below).mono ?_; rintro e w1 ⟨rfl, hb1⟩; have K1 := hide (K0.out.up hb1); have z1 := K1.out.b.1; have z11 := K1.out.b.2.1; have z12 := K1.out.b.2.2.1; have z13 := K1.out.b.2.2.2))
      refine bodyPost_ret (v := .tuple #[.agg #[.int .i64 0, .int .i64 0, .slice none 0 0, .slice none 0 0], .iface 61 (.int .i64 gF)]) (by simp [results, Tryd.results21, go_sem, e0, e1, e2, e3]) rfl ?_
      exact ⟨rfl, below4 K2.out.below (by omega)⟩
  · have E : Hid (M.joinF G.m O.m = M.groveF G.m) := by unfold Hid M.joinF; rw [if_pos h1]
    rw [E.out, err_some h1]
    rw [err_some h1] at C1
    clear h1 hne E tg to' C2
    generalize M.groveF G.m = gF at *
    go_enter Tryd.func21, Tryd.ntmps21
    go_wp2_with (go_at_call 11; refine (C1.out _ K0.out.below).mono ?_; rintro e w1 ⟨rfl, hb1⟩; have K1 := hide (K0.out.up hb1); have z1 := K1.out.b.1; have z11 := K1.out.b.2.1; have z12 := K1.out.b.2.2.1; have z13 := K1.out.b.2.2.2; have r0 := K1.out.c.1; have r1 := K1.out.c.2.1; have r2 := K1.out.c.2.2.1; have r3 := K1.out.c.2.2.2; have f0 := K1.out.fr 0; have f1 := K1.out.fr 1; have f2 := K1.out.fr 2; have f3 := K1.out.fr 3; obtain ⟨e0, e1, e2, e3⟩ := set4 (x0 := .int .i64 0) (x1 := .int .i64 0) (x2 := .slice none 0 0) (x3 := .slice none 0 0) r0 r1 r2 r3)
    refine bodyPost_ret (v := .tuple #[.agg #[.int .i64 0, .int .i64 0, .slice none 0 0, .slice none 0 0], .iface 61 (.int .i64 gF)]) (by simp [results, Tryd.results21, go_sem, e0, e1, e2, e3]) rfl ?_
    exact ⟨rfl, below4 K1.out.below (by omega)⟩

end Go.Proofs.YtandimbpealclacDoor

namespace Go.Proofs.YtandimbpealclacDoor
open Go.ChangeShapes Go.WideShapes Go.ChangeAt Go.RowKit Go.Lib
set_option linter.unusedVariables false

theorem own_far0 {w : World} {base n e size p o : Nat} {v x : Value} {l : List Value} (h : w.ownsRow base e size v n l) (hp : p < base) : (w.setCell ⟨p, o, none⟩ x).ownsRow base e size v n l := by
  refine ⟨h.1, ?_⟩
  rcases h.2 with h0 | ⟨g, cap, cur, hv, h1, h2, h3⟩
  · exact .inl h0
  · refine .inr ⟨g, cap, cur, hv, h1, ?_, h3⟩
    rw [← h2]
    have : ¬ p = g := by omega
    simp [World.setCell, Array.getElem?_modify, this]
theorem far_set {W : World} {p o q : Nat} {v : Value} (h : p ≠ q) : (W.setCell ⟨p, o, none⟩ v).heap[q]? = W.heap[q]? := by
  simp [World.setCell, Array.getElem?_modify, h]
theorem same_cell {W W' : World} {q j : Nat} (h : W'.heap[q]? = W.heap[q]?) : W'.cell? ⟨q, j, none⟩ = W.cell? ⟨q, j, none⟩ := World.cell?_of_block h
theorem same_frozen {W W' : World} {q j : Nat} (h : W'.heap[q]? = W.heap[q]?) : W'.frozen? ⟨q, j, none⟩ = W.frozen? ⟨q, j, none⟩ := World.frozen?_of_block h
/-- blocks that stay -/
theorem Kj.same {a0 a1 a2 a3 b0 b1 b2 b3 : Value} {w W W' : World} (h : Kj a0 a1 a2 a3 b0 b1 b2 b3 w W) (hs : ∀ q, w.heap.size ≤ q → q < w.heap.size + 3 → W'.heap[q]? = W.heap[q]?) (hz : W.heap.size ≤ W'.heap.size) (hb : Below w.heap.size w W') : Kj a0 a1 a2 a3 b0 b1 b2 b3 w W' := by
  have c : ∀ (p j : Nat) (v : Value), w.heap.size ≤ p → p < w.heap.size + 3 → W.cell? ⟨p, j, none⟩ = some v → W'.cell? ⟨p, j, none⟩ = some v := fun p j v h0 hp hv => (same_cell (hs p h0 hp)).trans hv
  refine ⟨⟨c _ _ _ (by omega) (by omega) h.a.1, c _ _ _ (by omega) (by omega) h.a.2.1, c _ _ _ (by omega) (by omega) h.a.2.2.1, c _ _ _ (by omega) (by omega) h.a.2.2.2⟩, ⟨c _ _ _ (by omega) (by omega) h.b.1, c _ _ _ (by omega) (by omega) h.b.2.1, c _ _ _ (by omega) (by omega) h.b.2.2.1, c _ _ _ (by omega) (by omega) h.b.2.2.2⟩, ⟨c _ _ _ (by omega) (by omega) h.c.1, c _ _ _ (by omega) (by omega) h.c.2.1, c _ _ _ (by omega) (by omega) h.c.2.2.1, c _ _ _ (by omega) (by omega) h.c.2.2.2⟩, fun j => (same_frozen (hs _ (by omega) (by omega))).trans (h.fr j), Nat.le_trans h.size hz, hb⟩

/-- the new grove, while it is laid -/
structure Jt (a0 a1 a2 a3 b0 b1 b2 b3 : Value) (w : World) (Ws : List Int) (W : World) (gb bA cg : Nat) (x : Value) : Prop where
  kj : Kj a0 a1 a2 a3 b0 b1 b2 b3 w W
  c0 : W.cell? ⟨gb, 0, none⟩ = some a0
  c1 : W.cell? ⟨gb, 1, none⟩ = some a1
  c2 : W.cell? ⟨gb, 2, none⟩ = some (.slice (some ⟨bA, 0, none⟩) Ws.length cg)
  c3 : W.cell? ⟨gb, 3, none⟩ = some x
  fr : W.frozen? ⟨gb, 3, none⟩ = false
  ne : bA ≠ gb
  ge : w.heap.size + 3 ≤ bA
  gg : w.heap.size + 3 ≤ gb
  sz : gb < W.heap.size
  sA : bA < W.heap.size
  ws : ∀ i, i < Ws.length → W.cell? ⟨bA, i, none⟩ = some (.int .i64 (Ws.getD i 0))
theorem Jt.same {a0 a1 a2 a3 b0 b1 b2 b3 : Value} {w W W' : World} {Ws : List Int} {gb bA cg : Nat} {x : Value} (h : Jt a0 a1 a2 a3 b0 b1 b2 b3 w Ws W gb bA cg x) (hs : ∀ q, w.heap.size ≤ q → (q < w.heap.size + 3 ∨ q = gb ∨ q = bA) → W'.heap[q]? = W.heap[q]?) (hz : W.heap.size ≤ W'.heap.size) (hb : Below w.heap.size w W') : Jt a0 a1 a2 a3 b0 b1 b2 b3 w Ws W' gb bA cg x := by
  have hg := h.ge
  have hgg := h.gg
  have sg := hs gb (by omega) (.inr (.inl rfl))
  have sA := hs bA (by omega) (.inr (.inr rfl))
  exact ⟨h.kj.same (fun q h0 h1 => hs q h0 (.inl h1)) hz hb, (same_cell sg).trans h.c0, (same_cell sg).trans h.c1, (same_cell sg).trans h.c2, (same_cell sg).trans h.c3, (same_frozen sg).trans h.fr, h.ne, hg, hgg, Nat.lt_of_lt_of_le h.sz hz, Nat.lt_of_lt_of_le h.sA hz, fun i hi => (same_cell sA).trans (h.ws i hi)⟩
theorem Jt.up {a0 a1 a2 a3 b0 b1 b2 b3 : Value} {w W W' : World} {Ws : List Int} {gb bA cg : Nat} {x : Value} (h : Jt a0 a1 a2 a3 b0 b1 b2 b3 w Ws W gb bA cg x) (hb : Below W.heap.size W W') : Jt a0 a1 a2 a3 b0 b1 b2 b3 w Ws W' gb bA cg x :=
  h.same (fun q _ h1 => hb.block q (by have := h.sz; have := h.sA; have := h.kj.size; omega)) hb.size (below_on h.kj.below hb)
theorem Jt.put {a0 a1 a2 a3 b0 b1 b2 b3 : Value} {w W : World} {Ws : List Int} {gb bA cg : Nat} {x : Value} (h : Jt a0 a1 a2 a3 b0 b1 b2 b3 w Ws W gb bA cg x) (y : Value) : Jt a0 a1 a2 a3 b0 b1 b2 b3 w Ws (W.setCell ⟨gb, 3, none⟩ y) gb bA cg y := by
  have hl := h.ne
  have hg := h.gg
  have o : ∀ (j : Nat), j ≠ 3 → (W.setCell ⟨gb, 3, none⟩ y).cell? ⟨gb, j, none⟩ = W.cell? ⟨gb, j, none⟩ := fun j hj => World.cell?_setCell_other _ _ _ _ (by intro e; cases e; exact hj rfl)
  have sz : (W.setCell ⟨gb, 3, none⟩ y).heap.size = W.heap.size := by simp
  refine ⟨h.kj.same (fun q _ hq => far_set (by omega)) (by rw [sz]; exact Nat.le_refl _) (h.kj.below.setCell (p := ⟨gb, 3, none⟩) (show w.heap.size ≤ gb by omega) y), (o 0 (by decide)).trans h.c0, (o 1 (by decide)).trans h.c1, (o 2 (by decide)).trans h.c2, World.cell?_setCell_same _ _ _ h.c3, ?_, hl, h.ge, hg, by rw [sz]; exact h.sz, by rw [sz]; exact h.sA, fun i hi => (same_cell (far_set (fun e => hl e.symm))).trans (h.ws i hi)⟩
  simpa using h.fr

theorem rdn_same {W W' : World} {a : Option Addr} {ts : List M.Nd} (h : RdN W a ts) (hs : ∀ p, a = some p → W'.heap[p.block]? = W.heap[p.block]?) (hz : W.heap.size ≤ W'.heap.size) : RdN W' a ts :=
  ⟨h.1, fun hn => by
    obtain ⟨b, off, e, hl, hc⟩ := h.2 hn
    have hb : W'.heap[b]? = W.heap[b]? := hs _ e
    refine ⟨b, off, e, Nat.lt_of_lt_of_le hl hz, fun i hi => ?_⟩
    obtain ⟨h0, h1, h2, h3, h4, h5⟩ := hc i hi
    exact ⟨(same_cell hb).trans h0, (same_cell hb).trans h1, (same_cell hb).trans h2, (same_cell hb).trans h3, (same_cell hb).trans h4, (same_cell hb).trans h5⟩⟩

/-- .. with the first k trees copied -/
structure Lj (a0 a1 a2 a3 b0 b1 b2 b3 : Value) (w : World) (Ws : List Int) (S : List Tc) (B gb bA cg g : Nat) (W : World) (k : Nat) (x : Value) (C : List Tc) : Prop where
  jt : Jt a0 a1 a2 a3 b0 b1 b2 b3 w Ws W gb bA cg x
  own : W.ownsRow B 22 1 x k (C.map tV)
  len : C.length = k
  same : tl C = (tl S).take k
  rd : ∀ c ∈ C, RdN W c.1 c.2.1
  apart : ∀ c ∈ C, ∀ p, c.1 = some p → B ≤ p.block ∧ p.block < W.heap.size ∧ x.ownBlock ≠ some p.block
  src : ∀ i (h : i < S.length), W.cell? ⟨g, i, none⟩ = some (tV S[i])
  gB : g < B
  gbB : gb < g
  gA : bA < g
  sz : B ≤ W.heap.size
theorem Lj.up {a0 a1 a2 a3 b0 b1 b2 b3 : Value} {w W W' : World} {Ws : List Int} {S : List Tc} {B gb bA cg g k : Nat} {x : Value} {C : List Tc} (h : Lj a0 a1 a2 a3 b0 b1 b2 b3 w Ws S B gb bA cg g W k x C) (hb : Below W.heap.size W W') : Lj a0 a1 a2 a3 b0 b1 b2 b3 w Ws S B gb bA cg g W' k x C :=
  ⟨h.jt.up hb, own_up h.own hb, h.len, h.same, fun c hc => (h.rd c hc).below hb, fun c hc p hp => ⟨(h.apart c hc p hp).1, Nat.lt_of_lt_of_le (h.apart c hc p hp).2.1 hb.size, (h.apart c hc p hp).2.2⟩, fun i hi => (hb.cell (p := ⟨g, i, none⟩) (show g < _ by have := h.gB; have := h.sz; omega)).trans (h.src i hi), h.gB, h.gbB, h.gA, Nat.le_trans h.sz hb.size⟩
/-- behind an append -/
theorem Lj.mid {a0 a1 a2 a3 b0 b1 b2 b3 : Value} {w W W' : World} {Ws : List Int} {S : List Tc} {B gb bA cg g k : Nat} {x : Value} {C : List Tc} (h : Lj a0 a1 a2 a3 b0 b1 b2 b3 w Ws S B gb bA cg g W k x C) (hg : W.grownBy W' x.ownBlock) : Jt a0 a1 a2 a3 b0 b1 b2 b3 w Ws W' gb bA cg x := by
  have h1 : gb < B := Nat.lt_trans h.gbB h.gB
  have h2 := h.sz
  have hB : ∀ q, x.ownBlock = some q → B ≤ q := fun q hq => (h.own.lt q hq).1
  have := h.jt.ge
  have := h.jt.gg
  have := h.gA
  have := h.gB
  refine h.jt.same (fun q _ hq => hg.block q (by omega) (fun e => by have := hB q e.symm; omega)) hg.size ?_
  exact h.jt.kj.below.grown hg (by omega) (fun q hq => by have := hB q hq; omega)
theorem Lj.more {a0 a1 a2 a3 b0 b1 b2 b3 : Value} {w W0 W W' : World} {Ws : List Int} {S : List Tc} {B gb bA cg g k : Nat} {x : Value} {C : List Tc} (h : Lj a0 a1 a2 a3 b0 b1 b2 b3 w Ws S B gb bA cg g W k x C) (hW : W0.heap.size ≤ W.heap.size) (hx : ∀ q, x.ownBlock = some q → q < W0.heap.size) (hB0 : B ≤ W0.heap.size) {a : Option Addr} {ts : List M.Nd} {cp g2 cap2 : Nat} (hk : k < S.length) (hts : S[k].2.1 = ts) (hne : ts ≠ []) (hr : RdN W a ts) (ha : ∀ p, a = some p → W0.heap.size ≤ p.block)
    (hg : W.grownBy W' x.ownBlock) (ho : W'.ownsRow B 22 1 (.slice (some ⟨g2, 0, none⟩) (k + 1) cap2) (k + 1) (C.map tV ++ [.slice a ts.length cp])) (hor : x.ownBlock = some g2 ∨ g2 = W.heap.size) :
    Lj a0 a1 a2 a3 b0 b1 b2 b3 w Ws S B gb bA cg g (W'.setCell ⟨gb, 3, none⟩ (.slice (some ⟨g2, 0, none⟩) (k + 1) cap2)) (k + 1) (.slice (some ⟨g2, 0, none⟩) (k + 1) cap2) (C ++ [(a, ts, cp)]) := by
  have h1 : gb < B := Nat.lt_trans h.gbB h.gB
  have h2 := h.sz
  have h3 := h.gB
  have hB : ∀ q, x.ownBlock = some q → B ≤ q := fun q hq => (h.own.lt q hq).1
  have sz : (W'.setCell ⟨gb, 3, none⟩ (.slice (some ⟨g2, 0, none⟩) (k + 1) cap2)).heap.size = W'.heap.size := by simp
  have blk : ∀ q, B ≤ q → q < W.heap.size → x.ownBlock ≠ some q → (W'.setCell ⟨gb, 3, none⟩ (.slice (some ⟨g2, 0, none⟩) (k + 1) cap2)).heap[q]? = W.heap[q]? := fun q q1 q2 q3 => (far_set (by omega)).trans (hg.block q q2 (fun e => q3 e.symm))
  have nb : ∀ p, a = some p → B ≤ p.block ∧ p.block < W.heap.size ∧ x.ownBlock ≠ some p.block ∧ p.block ≠ g2 := fun p hp => by
    obtain ⟨b, off, e, hl, _⟩ := hr.2 hne
    have q0 := ha p hp
    rw [hp] at e
    cases e
    refine ⟨by simp at q0 ⊢; omega, hl, fun e => by have := hx _ e; simp at q0 this; omega, fun e => ?_⟩
    rcases hor with q | q
    · have := hx _ q; simp at q0 e; omega
    · simp at e; omega
  refine ⟨(h.mid hg).put _, ?_, by simp [h.len], ?_, ?_, ?_, fun i hi => ?_, h3, h.gbB, h.gA, by rw [sz]; exact Nat.le_trans h2 hg.size⟩
  · have := own_far0 ho (p := gb) (o := 3) (x := .slice (some ⟨g2, 0, none⟩) (k + 1) cap2) h1
    rw [List.map_append]
    exact this
  · have e : tl (C ++ [(a, ts, cp)]) = tl C ++ [ts] := by simp [tl]
    have hk' : k < (tl S).length := by rw [tl_len]; exact hk
    rw [e, h.same, List.take_add_one, List.getElem?_eq_getElem hk']
    simp [tl, hts]
  · intro c hc
    rcases List.mem_append.1 hc with q | q
    · exact rdn_same (h.rd c q) (fun p hp => blk _ (h.apart c q p hp).1 (h.apart c q p hp).2.1 (h.apart c q p hp).2.2) (by rw [sz]; exact hg.size)
    · have e : c = (a, ts, cp) := by simpa using q
      subst e
      exact rdn_same hr (fun p hp => blk _ (nb p hp).1 (nb p hp).2.1 (nb p hp).2.2.1) (by rw [sz]; exact hg.size)
  · intro c hc p hp
    rw [sz]
    have ow : Value.ownBlock (.slice (some ⟨g2, 0, none⟩) (k + 1) cap2) = some g2 := rfl
    rw [ow]
    rcases List.mem_append.1 hc with q | q
    · obtain ⟨q1, q2, q3⟩ := h.apart c q p hp
      refine ⟨q1, Nat.lt_of_lt_of_le q2 hg.size, fun e => ?_⟩
      cases e
      rcases hor with r | r
      · exact q3 r
      · omega
    · have e : c = (a, ts, cp) := by simpa using q
      subst e
      obtain ⟨q1, q2, q3, q4⟩ := nb p hp
      exact ⟨q1, Nat.lt_of_lt_of_le q2 hg.size, fun e => q4 (by cases e; rfl)⟩
  · exact (same_cell (far_set (by have := h.gbB; omega))).trans ((same_cell (hg.block g (by omega) (fun e => by have := hB g e.symm; omega))).trans (h.src i hi))

/-- the new grove, as it is handed back -/
theorem Lj.done {a2 a3 b0 b1 b2 b3 : Value} {f wy : Int} {w W : World} {Ws : List Int} {S : List Tc} {B gb bA cg g : Nat} {x : Value} {C : List Tc} (h : Lj (.int .i64 f) (.int .i64 wy) a2 a3 b0 b1 b2 b3 w Ws S B gb bA cg g W S.length x C) (hp : 0 < S.length) (h12 : S.length ≤ 12) (hw : Ws.length ≤ 12) (y0 y1 y2 y3 : Value) :
    ∃ J : Gr, x = .slice J.ta J.ks.length J.tc ∧ J.f = f ∧ J.w = wy ∧ J.wa = some ⟨bA, 0, none⟩ ∧ J.ws = Ws ∧ J.wc = cg ∧ tl J.ks = tl S ∧ RdG ((((W.setCell ⟨w.heap.size + 1 + 1, 0, none⟩ y0).setCell ⟨w.heap.size + 1 + 1, 1, none⟩ y1).setCell ⟨w.heap.size + 1 + 1, 2, none⟩ y2).setCell ⟨w.heap.size + 1 + 1, 3, none⟩ y3) J := by
  have far : ∀ q, w.heap.size + 3 ≤ q → ((((W.setCell ⟨w.heap.size + 1 + 1, 0, none⟩ y0).setCell ⟨w.heap.size + 1 + 1, 1, none⟩ y1).setCell ⟨w.heap.size + 1 + 1, 2, none⟩ y2).setCell ⟨w.heap.size + 1 + 1, 3, none⟩ y3).heap[q]? = W.heap[q]? := fun q hq => by
    rw [far_set (by omega), far_set (by omega), far_set (by omega), far_set (by omega)]
  have sz : ((((W.setCell ⟨w.heap.size + 1 + 1, 0, none⟩ y0).setCell ⟨w.heap.size + 1 + 1, 1, none⟩ y1).setCell ⟨w.heap.size + 1 + 1, 2, none⟩ y2).setCell ⟨w.heap.size + 1 + 1, 3, none⟩ y3).heap.size = W.heap.size := by simp
  generalize ((((W.setCell ⟨w.heap.size + 1 + 1, 0, none⟩ y0).setCell ⟨w.heap.size + 1 + 1, 1, none⟩ y1).setCell ⟨w.heap.size + 1 + 1, 2, none⟩ y2).setCell ⟨w.heap.size + 1 + 1, 3, none⟩ y3) = V at *
  have i1 := h.jt.ge
  have i2 := h.jt.gg
  have i3 := h.gbB
  have i6 := h.jt.sA
  have i4 := h.gB
  have i5 := h.jt.sz
  rcases h.own.2 with ⟨_, h0⟩ | ⟨gx, cap, cur, hv, hb, hg, q1, q2, q3, q4⟩
  · omega
  · refine ⟨⟨f, wy, some ⟨bA, 0, none⟩, Ws, cg, some ⟨gx, 0, none⟩, C, cap⟩, by rw [hv, h.len], rfl, rfl, rfl, rfl, rfl, ?_, ⟨?_, ?_⟩, ?_, ?_⟩
    · show tl C = tl S
      rw [h.same, List.take_of_length_le (by rw [tl_len]; exact Nat.le_refl _)]
    · show Ws.length ≤ maxLen
      unfold maxLen; omega
    · intro _
      exact ⟨bA, 0, rfl, by rw [sz]; omega, fun i hi => by rw [Nat.zero_add]; exact (same_cell (far bA i1)).trans (h.jt.ws i hi)⟩
    · show C.length ≤ maxLen
      rw [h.len]; unfold maxLen; omega
    · refine ⟨fun c hc => rdn_same (h.rd c hc) (fun p hp => far _ (by have := (h.apart c hc p hp).1; omega)) (by rw [sz]; exact Nat.le_refl _), fun _ => ⟨gx, 0, rfl, by rw [sz]; exact (Array.getElem?_eq_some_iff.1 hg).1, fun i hi => ?_⟩⟩
      have hi' : i < C.length := hi
      have e := h.own
      rw [hv] at e
      have hlen := h.len
      have := e.cellAt i (by omega)
      rw [Nat.zero_add]
      refine (same_cell (far gx (by omega))).trans (this.trans ?_)
      rw [List.getElem?_map, List.getElem?_eq_getElem hi']
      rfl

end Go.Proofs.YtandimbpealclacDoor

namespace Go.Proofs.YtandimbpealclacDoor
open Go.ChangeShapes Go.WideShapes Go.ChangeAt Go.RowKit Go.Lib
set_option linter.unusedVariables false

/-- two lists of weights as one, where the call lays them -/
theorem concat_weights (b1 o1 b2 o2 : Nat) (xs ys : List Int) (ca cb : Nat) (V : World) (hx : Rd V (some ⟨b1, o1, none⟩) xs) (hy : Rd V (some ⟨b2, o2, none⟩) ys) (lp : 0 < xs.length) (la : xs.length ≤ 12) (lb : ys.length ≤ 12)
    (B : Nat) (hB : B < V.heap.size) (h0 : V.cell? ⟨B, 0, none⟩ = some (.slice (some ⟨b1, o1, none⟩) xs.length ca)) (h1 : V.cell? ⟨B, 1, none⟩ = some (.slice (some ⟨b2, o2, none⟩) ys.length cb)) :
    Calls Tryd.prog 40 #[.slice (some ⟨B, 0, none⟩) 2 2] V fun e w' => ∃ bA cg, e = .returned (.slice (some ⟨bA, 0, none⟩) (xs ++ ys).length cg) ∧ V.heap.size ≤ bA ∧ bA < w'.heap.size ∧ (∀ i, i < (xs ++ ys).length → w'.cell? ⟨bA, i, none⟩ = some (.int .i64 ((xs ++ ys).getD i 0))) ∧ Below V.heap.size V w' := by
  refine (concat_two B (some ⟨b1, o1, none⟩) (some ⟨b2, o2, none⟩) xs ys ca cb V hB h0 h1 hx hy (fun e => by cases e) (fun e => by cases e) (by omega) (by omega)).mono ?_
  rintro e w' ⟨v, rfl, ho, hb⟩
  obtain ⟨g, cap, rfl, h1, h2⟩ := own_shape ho (by rw [List.length_append]; omega)
  refine ⟨g, cap, rfl, h1, h2, fun i hi => ?_, hb⟩
  rw [own_at ho rfl i hi, M.getD_at hi]
/-- two lists of trees as one -/
theorem concat_both (b1 o1 b2 o2 : Nat) (xs ys : List Tc) (ca cb : Nat) (w V : World) (T : TypeId) (hx : RdT w (some ⟨b1, o1, none⟩) xs) (hy : RdT w (some ⟨b2, o2, none⟩) ys) (lp : 0 < xs.length) (lq : 0 < ys.length) (la : xs.length ≤ 12) (lb : ys.length ≤ 12)
    (hV : V = w.alloc (.cells #[.slice (some ⟨b1, o1, none⟩) xs.length ca, .slice (some ⟨b2, o2, none⟩) ys.length cb] T)) (B : Nat) (hB : B = w.heap.size) :
    Calls Tryd.prog 41 #[.slice (some ⟨B, 0, none⟩) 2 2] V fun e w' => ∃ g cg, e = .returned (.slice (some ⟨g, 0, none⟩) (xs ++ ys).length cg) ∧ w.heap.size < g ∧ g < w'.heap.size ∧ (∀ i (h : i < (xs ++ ys).length), w'.cell? ⟨g, i, none⟩ = some (tV (xs ++ ys)[i])) ∧ Below w.heap.size w w' := by
  subst hV
  subst hB
  have b0 : Below w.heap.size w (w.alloc (.cells #[.slice (some ⟨b1, o1, none⟩) xs.length ca, .slice (some ⟨b2, o2, none⟩) ys.length cb] T)) := (Below.refl _ w).alloc (Nat.le_refl _) _
  obtain ⟨_, _, e1, l1, c1⟩ := (hx.below b0).2.2 (by intro e; rw [e] at lp; simp at lp)
  obtain ⟨_, _, e2, l2, c2⟩ := (hy.below b0).2.2 (by intro e; rw [e] at lq; simp at lq)
  cases e1
  cases e2
  refine (concat_trees w.heap.size b1 o1 b2 o2 xs ys ca cb _ (by simp) (World.cell?_alloc_at _ _ _ 0 rfl) (World.cell?_alloc_at _ _ _ 1 rfl) l1 l2 c1 c2 la lb lp).mono ?_
  rintro e w' ⟨v, rfl, ho, hb⟩
  rcases ho.2 with ⟨_, h0⟩ | ⟨g, cap, cur, rfl, h1, hg, h3⟩
  · rw [List.length_append] at h0; omega
  · refine ⟨g, cap, rfl, by simp at h1; omega, (Array.getElem?_eq_some_iff.1 hg).1, fun i hi => ?_, below_on b0 hb⟩
    refine (ho.cellAt i (by omega)).trans ?_
    rw [List.getElem?_map, List.getElem?_eq_getElem hi]
    rfl

theorem jt_start {a0 a1 a2 a3 b0 b1 b2 b3 : Value} {w W : World} {Ws : List Int} {bA cg : Nat} (h : Kj a0 a1 a2 a3 b0 b1 b2 b3 w W) (h1 : w.heap.size + 3 ≤ bA) (h2 : bA < W.heap.size) (hc : ∀ i, i < Ws.length → W.cell? ⟨bA, i, none⟩ = some (.int .i64 (Ws.getD i 0))) :
    Jt a0 a1 a2 a3 b0 b1 b2 b3 w Ws (W.alloc (.cells #[a0, a1, .slice (some ⟨bA, 0, none⟩) Ws.length cg, .slice none 0 0] 38)) W.heap.size bA cg (.slice none 0 0) := by
  have hb : Below W.heap.size W (W.alloc (.cells #[a0, a1, .slice (some ⟨bA, 0, none⟩) Ws.length cg, .slice none 0 0] 38)) := (Below.refl _ W).alloc (Nat.le_refl _) _
  exact ⟨h.up hb, World.cell?_alloc_at _ _ _ 0 rfl, World.cell?_alloc_at _ _ _ 1 rfl, World.cell?_alloc_at _ _ _ 2 rfl, World.cell?_alloc_at _ _ _ 3 rfl, frozen_new _ _ _ 3, by omega, h1, h.size, by simp, by simp; omega, fun i hi => (hb.cell (p := ⟨bA, i, none⟩) h2).trans (hc i hi)⟩

theorem below_two (W : World) (o1 o2 : Obj) : Below W.heap.size W ((W.alloc o1).alloc o2).drew := (((Below.refl _ W).alloc (Nat.le_refl _) _).alloc (by simp) _).drew
theorem below_one (W : World) (o1 : Obj) : Below W.heap.size W (W.alloc o1).drew := ((Below.refl _ W).alloc (Nat.le_refl _) _).drew
theorem pair_a (W : World) (x y : Value) (T : TypeId) (o : Obj) : ((W.alloc (.cells #[x, y] T)).alloc o).drew.cell? ⟨W.heap.size, 0, none⟩ = some x ∧ ((W.alloc (.cells #[x, y] T)).alloc o).drew.cell? ⟨W.heap.size, 1, none⟩ = some y :=
  ⟨(((Below.refl _ _).alloc (Nat.le_refl _) o).drew.cell (p := ⟨W.heap.size, 0, none⟩) (by simp)).trans (World.cell?_alloc_at _ _ _ 0 rfl), (((Below.refl _ _).alloc (Nat.le_refl _) o).drew.cell (p := ⟨W.heap.size, 1, none⟩) (by simp)).trans (World.cell?_alloc_at _ _ _ 1 rfl)⟩
theorem pair_b (W : World) (x y : Value) (T : TypeId) (o : Obj) : ((W.alloc o).alloc (.cells #[x, y] T)).drew.cell? ⟨W.heap.size + 1, 0, none⟩ = some x ∧ ((W.alloc o).alloc (.cells #[x, y] T)).drew.cell? ⟨W.heap.size + 1, 1, none⟩ = some y := by
  have e : (W.alloc o).heap.size = W.heap.size + 1 := by simp
  rw [← e]
  exact ⟨World.cell?_alloc_at (w := W.alloc o) _ _ _ 0 rfl, World.cell?_alloc_at (w := W.alloc o) _ _ _ 1 rfl⟩
theorem lt_two (W : World) (o1 o2 : Obj) : W.heap.size < ((W.alloc o1).alloc o2).drew.heap.size ∧ W.heap.size + 1 < ((W.alloc o1).alloc o2).drew.heap.size := by
  have e : ((W.alloc o1).alloc o2).drew.heap.size = W.heap.size + 1 + 1 := by
    show ((W.alloc o1).alloc o2).heap.size = _
    simp
  omega
abbrev zObj : Obj := .cells #[.int .i64 0, .int .i64 0, .slice none 0 0, .slice none 0 0] 38
/-- a block of nothing -/
structure Z4 (V : World) (gb : Nat) : Prop where
  c0 : V.cell? ⟨gb, 0, none⟩ = some (.int .i64 0)
  c1 : V.cell? ⟨gb, 1, none⟩ = some (.int .i64 0)
  c2 : V.cell? ⟨gb, 2, none⟩ = some (.slice none 0 0)
  c3 : V.cell? ⟨gb, 3, none⟩ = some (.slice none 0 0)
  fr : ∀ j, V.frozen? ⟨gb, j, none⟩ = false
  sz : gb < V.heap.size
theorem z_made (W : World) : Z4 (W.alloc zObj) W.heap.size := ⟨World.cell?_alloc_at _ _ _ 0 rfl, World.cell?_alloc_at _ _ _ 1 rfl, World.cell?_alloc_at _ _ _ 2 rfl, World.cell?_alloc_at _ _ _ 3 rfl, fun j => frozen_new _ _ _ j, by simp⟩
theorem Z4.up {V V' : World} {gb : Nat} (h : Z4 V gb) (hb : Below V.heap.size V V') : Z4 V' gb := by
  have s := hb.block gb h.sz
  exact ⟨(same_cell s).trans h.c0, (same_cell s).trans h.c1, (same_cell s).trans h.c2, (same_cell s).trans h.c3, fun j => (same_frozen s).trans (h.fr j), Nat.lt_of_lt_of_le h.sz hb.size⟩
theorem z_a (W : World) (o : Obj) : Z4 ((W.alloc o).alloc zObj).drew (W.heap.size + 1) := by
  have h := (z_made (W.alloc o)).up (Below.refl _ _).drew
  have e : (W.alloc o).heap.size = W.heap.size + 1 := by simp
  rw [e] at h
  exact h
theorem z_b (W : World) (o : Obj) : Z4 ((W.alloc zObj).alloc o).drew W.heap.size := (z_made W).up (((Below.refl _ _).alloc (Nat.le_refl _) _).drew)
theorem jt_put4 {a0 a1 a2 a3 b0 b1 b2 b3 : Value} {w W : World} {Ws : List Int} {gb bA cg : Nat} (h : Kj a0 a1 a2 a3 b0 b1 b2 b3 w W) (z : Z4 W gb) (hg : w.heap.size + 3 ≤ gb) (h0 : gb < bA) (h2 : bA < W.heap.size) (hc : ∀ i, i < Ws.length → W.cell? ⟨bA, i, none⟩ = some (.int .i64 (Ws.getD i 0))) :
    Jt a0 a1 a2 a3 b0 b1 b2 b3 w Ws ((((W.setCell ⟨gb, 0, none⟩ a0).setCell ⟨gb, 1, none⟩ a1).setCell ⟨gb, 2, none⟩ (.slice (some ⟨bA, 0, none⟩) Ws.length cg)).setCell ⟨gb, 3, none⟩ (.slice none 0 0)) gb bA cg (.slice none 0 0) := by
  obtain ⟨e0, e1, e2, e3⟩ := set4 (x0 := a0) (x1 := a1) (x2 := .slice (some ⟨bA, 0, none⟩) Ws.length cg) (x3 := .slice none 0 0) z.c0 z.c1 z.c2 z.c3
  have o : ∀ (V : World) (i j : Nat) (v : Value), i ≠ j → (V.setCell ⟨gb, i, none⟩ v).cell? ⟨gb, j, none⟩ = V.cell? ⟨gb, j, none⟩ := fun V i j v hij => World.cell?_setCell_other _ _ _ _ (by intro e; cases e; exact hij rfl)
  have far : ∀ q, q ≠ gb → ((((W.setCell ⟨gb, 0, none⟩ a0).setCell ⟨gb, 1, none⟩ a1).setCell ⟨gb, 2, none⟩ (.slice (some ⟨bA, 0, none⟩) Ws.length cg)).setCell ⟨gb, 3, none⟩ (.slice none 0 0)).heap[q]? = W.heap[q]? := fun q hq => by
    rw [far_set (fun e => hq e.symm), far_set (fun e => hq e.symm), far_set (fun e => hq e.symm), far_set (fun e => hq e.symm)]
  have sz : ((((W.setCell ⟨gb, 0, none⟩ a0).setCell ⟨gb, 1, none⟩ a1).setCell ⟨gb, 2, none⟩ (.slice (some ⟨bA, 0, none⟩) Ws.length cg)).setCell ⟨gb, 3, none⟩ (.slice none 0 0)).heap.size = W.heap.size := by simp
  refine ⟨h.same (fun q _ hq => far q (by omega)) (by rw [sz]; exact Nat.le_refl _) (below4 h.below (by omega)), ?_, ?_, ?_, e3, ?_, by omega, by omega, hg, by rw [sz]; exact z.sz, by rw [sz]; exact h2, fun i hi => (same_cell (far bA (by omega))).trans (hc i hi)⟩
  · rw [o _ _ _ _ (by decide), o _ _ _ _ (by decide), o _ _ _ _ (by decide)]; exact e0
  · rw [o _ _ _ _ (by decide), o _ _ _ _ (by decide)]; exact e1
  · rw [o _ _ _ _ (by decide)]; exact e2
  · have := z.fr 3
    simpa using this

/-- behind the weights' call, the block that is to hold the grove already laid -/
structure Wf (a0 a1 a2 a3 b0 b1 b2 b3 : Value) (w : World) (Ws : List Int) (W : World) (gb bA cg : Nat) : Prop where
  kj : Kj a0 a1 a2 a3 b0 b1 b2 b3 w W
  z : Z4 W gb
  jt : Jt a0 a1 a2 a3 b0 b1 b2 b3 w Ws ((((W.setCell ⟨gb, 0, none⟩ a0).setCell ⟨gb, 1, none⟩ a1).setCell ⟨gb, 2, none⟩ (.slice (some ⟨bA, 0, none⟩) Ws.length cg)).setCell ⟨gb, 3, none⟩ (.slice none 0 0)) gb bA cg (.slice none 0 0)
theorem after_a {a0 a1 a2 a3 c0 c1 c2 c3 : Value} {w W w3 : World} {o : Obj} {Ws : List Int} {bA : Nat} (cg : Nat) (K : Kj a0 a1 a2 a3 c0 c1 c2 c3 w W) (h1 : ((W.alloc o).alloc zObj).drew.heap.size ≤ bA) (h2 : bA < w3.heap.size) (h3 : ∀ i, i < Ws.length → w3.cell? ⟨bA, i, none⟩ = some (.int .i64 (Ws.getD i 0))) (hb : Below ((W.alloc o).alloc zObj).drew.heap.size ((W.alloc o).alloc zObj).drew w3) : Wf a0 a1 a2 a3 c0 c1 c2 c3 w Ws w3 (W.heap.size + 1) bA cg := by
  have s := K.size
  have K3 := K.up (below_on (below_two W o zObj) hb)
  have Z := (z_a W o).up hb
  refine ⟨K3, Z, jt_put4 K3 Z (by omega) ?_ h2 h3⟩
  simp at h1
  omega
theorem after_b {a0 a1 a2 a3 c0 c1 c2 c3 : Value} {w W w3 : World} {o : Obj} {Ws : List Int} {bA : Nat} (cg : Nat) (K : Kj a0 a1 a2 a3 c0 c1 c2 c3 w W) (h1 : ((W.alloc zObj).alloc o).drew.heap.size ≤ bA) (h2 : bA < w3.heap.size) (h3 : ∀ i, i < Ws.length → w3.cell? ⟨bA, i, none⟩ = some (.int .i64 (Ws.getD i 0))) (hb : Below ((W.alloc zObj).alloc o).drew.heap.size ((W.alloc zObj).alloc o).drew w3) : Wf a0 a1 a2 a3 c0 c1 c2 c3 w Ws w3 W.heap.size bA cg := by
  have s := K.size
  have K3 := K.up (below_on (below_two W zObj o) hb)
  have Z := (z_b W o).up hb
  refine ⟨K3, Z, jt_put4 K3 Z (by omega) ?_ h2 h3⟩
  simp at h1
  omega
theorem after_c {a0 a1 a2 a3 c0 c1 c2 c3 : Value} {w W w3 : World} {o : Obj} {Ws : List Int} {bA : Nat} (cg : Nat) (K : Kj a0 a1 a2 a3 c0 c1 c2 c3 w W) (h1 : (W.alloc o).drew.heap.size ≤ bA) (h2 : bA < w3.heap.size) (h3 : ∀ i, i < Ws.length → w3.cell? ⟨bA, i, none⟩ = some (.int .i64 (Ws.getD i 0))) (hb : Below (W.alloc o).drew.heap.size (W.alloc o).drew w3) :
    Kj a0 a1 a2 a3 c0 c1 c2 c3 w w3 ∧ Jt a0 a1 a2 a3 c0 c1 c2 c3 w Ws (w3.alloc (.cells #[a0, a1, .slice (some ⟨bA, 0, none⟩) Ws.length cg, .slice none 0 0] 38)) w3.heap.size bA cg (.slice none 0 0) := by
  have s := K.size
  have K3 := K.up (below_on (below_one W o) hb)
  refine ⟨K3, jt_start K3 ?_ h2 h3⟩
  simp at h1
  omega

theorem lj_start {a0 a1 a2 a3 b0 b1 b2 b3 : Value} {w W W' : World} {Ws : List Int} {S : List Tc} {gb bA cg g : Nat} (h : Jt a0 a1 a2 a3 b0 b1 b2 b3 w Ws W gb bA cg (.slice none 0 0)) (h1 : W.heap.size < g) (h2 : g < W'.heap.size) (h3 : ∀ i (h : i < S.length), W'.cell? ⟨g, i, none⟩ = some (tV S[i])) (hb : Below W.heap.size W W') :
    Lj a0 a1 a2 a3 b0 b1 b2 b3 w Ws S W'.heap.size gb bA cg g W' 0 (.slice none 0 0) [] :=
  ⟨h.up hb, World.ownsRow_nil _ _ _ _, rfl, (by simp [tl]), (fun c hc => by cases hc), (fun c hc => by cases hc), h3, h2, by have := h.sz; omega, by have := h.sA; omega, Nat.le_refl _⟩
theorem one_new (W : World) (v : Value) (t : TypeId) : ∀ j u, [v][j]? = some u → (W.alloc (.cells #[v] t)).cell? ((⟨W.heap.size, 0, none⟩ : Addr).add j) = some u := by
  intro j u hj
  rcases j with _ | j
  · cases hj
    rw [add_flat]
    exact World.cell?_alloc_at _ _ _ 0 rfl
  · cases hj

set_option maxHeartbeats 16000000 in
set_option maxRecDepth 10000 in
theorem gjoin_good (G O : Gr) (w : World) (h : RdG w G) (ho : RdG w O) (he : M.joinF G.m O.m = 0) :
    Calls Tryd.prog 21 #[G.v, O.v] w fun e w' => ∃ J : Gr, e = .returned (.tuple #[J.v, .nilIface]) ∧ J.m = M.joinG G.m O.m ∧ RdG w' J ∧ Below w.heap.size w w' := by
  obtain ⟨A, B, e1, e2, e3⟩ := M.join_ok he
  have tg : (M.gt G.m).length = G.ks.length := tl_len G.ks
  have to' : (M.gt O.m).length = O.ks.length := tl_len O.ks
  have g0 : 0 < G.ks.length := by rw [← tg]; exact A.t0
  have o0 : 0 < O.ks.length := by rw [← to']; exact B.t0
  have n12 : G.ks.length + O.ks.length ≤ 12 := by rw [← tg, ← to']; exact e3
  have lg : G.ws.length = G.ks.length := by rw [← tg]; exact A.len
  have lo : O.ws.length = O.ks.length := by rw [← to']; exact B.len
  have gg : M.groveF G.m = 0 := (M.good_iff _).2 A
  have go : M.groveF O.m = 0 := (M.good_iff _).2 B
  have C1 := hide (fun W (hW : Below w.heap.size w W) => gcheck_any G W (h.below hW))
  have C2 := hide (fun W (hW : Below w.heap.size w W) => gcheck_any O W (ho.below hW))
  rw [gg, err_nil rfl] at C1
  rw [go, err_nil rfl] at C2
  obtain ⟨bt, ot, eta, hbt, hct⟩ := h.2.2.2 (by intro e; rw [e] at g0; simp at g0)
  obtain ⟨bu, ou, etu, hbu, hcu⟩ := ho.2.2.2 (by intro e; rw [e] at o0; simp at o0)
  obtain ⟨bw, ow, ewa, hbw, hcw⟩ := h.1.2 (by intro e; rw [e] at lg; simp at lg; omega)
  obtain ⟨bv, ov, ewo, hbv, hcv⟩ := ho.1.2 (by intro e; rw [e] at lo; simp at lo; omega)
  have CW := hide (fun V (hV : Below w.heap.size w V) B hB h0 h1 => concat_weights bw ow bv ov G.ws O.ws G.wc O.wc V (by rw [← ewa]; exact h.1.below hV) (by rw [← ewo]; exact ho.1.below hV) (by omega) (by omega) (by omega) B hB h0 h1)
  have CT := hide (fun W V T (hW : Below w.heap.size w W) hV B hB => concat_both bt ot bu ou G.ks O.ks G.tc O.tc W V T (by rw [← eta]; exact h.2.below hW) (by rw [← etu]; exact ho.2.below hW) (by omega) (by omega) (by omega) (by omega) hV B hB)
  have K0 := hide (kj_start w (.int .i64 G.f) (.int .i64 G.w) (.slice (some ⟨bw, ow, none⟩) G.ws.length G.wc) (.slice (some ⟨bt, ot, none⟩) G.ks.length G.tc) (.int .i64 O.f) (.int .i64 O.w) (.slice (some ⟨bv, ov, none⟩) O.ws.length O.wc) (.slice (some ⟨bu, ou, none⟩) O.ks.length O.tc))
  have TS : Hid (∀ k ∈ G.ks ++ O.ks, M.Fair k.2.1 G.f ∧ ∀ W, Below w.heap.size w W → RdN W k.1 k.2.1) := fun k hk => by
    rcases List.mem_append.1 hk with q | q
    · exact ⟨(M.tree_ok (A.trees k.2.1 (List.mem_map.2 ⟨k, q, rfl⟩))).1, fun W hW => (h.below hW).2.2.1 k q⟩
    · refine ⟨?_, fun W hW => (ho.below hW).2.2.1 k q⟩
      have := (M.tree_ok (B.trees k.2.1 (List.mem_map.2 ⟨k, q, rfl⟩))).1
      rw [← e1] at this
      exact this
  have EJ : Hid (∀ J : Gr, J.f = G.f → J.w = G.w → J.ws = G.ws ++ O.ws → tl J.ks = tl (G.ks ++ O.ks) → J.m = M.joinG G.m O.m) := fun J q1 q2 q3 q4 => by
    unfold Gr.m M.joinG
    rw [q1, q2, q3, q4]
    show _ = (G.f, G.w, G.ws ++ O.ws, tl G.ks ++ tl O.ks)
    simp [tl]
  have q1 : (G.f != O.f) = false := by rw [bne_eq_false_iff_eq]; exact e1
  have q2 : (G.w != O.w) = false := by rw [bne_eq_false_iff_eq]; exact e2
  have q3 : decide (12 < (G.ks.length : Int) + (O.ks.length : Int)) = false := decide_eq_false (by omega)
  have N12 : (G.ks ++ O.ks).length ≤ 12 := by rw [List.length_append]; exact n12
  have N0 : 0 < (G.ks ++ O.ks).length := by rw [List.length_append]; omega
  have W12 : Hid ((G.ws ++ O.ws).length ≤ 12) := by unfold Hid; rw [List.length_append]; omega
  have gk : G.ks.length ≤ 12 := by omega
  have ok : O.ks.length ≤ 12 := by omega
  unfold Gr.v at C1 C2 ⊢
  rw [ewa, eta] at C1 ⊢
  rw [ewo, etu] at C2 ⊢
  clear h ho he A B e1 e2 e3 tg to' lg lo gg go hbt hct hbu hcu hbw hcw hbv hcv eta etu ewa ewo n12 g0 o0
  generalize hS : G.ks ++ O.ks = S at *
  have HS := hide hS
  clear hS
  generalize hWs : G.ws ++ O.ws = Ws at *
  have HWs := hide hWs
  clear hWs
  go_enter Tryd.func21, Tryd.ntmps21
  go_upto_region 11 with (first
    | (go_at_call 11; have hone := z1; refine (C2.out _ K1.out.below).mono ?_; rintro e w2 ⟨rfl, hb2⟩; have K2 := hide (K1.out.up hb2); have y0 := K2.out.a.1; have y1 := K2.out.a.2.1; have y2 := K2.out.a.2.2.1; have y3 := K2.out.a.2.2.2; have z2 := K2.out.b.1; have z3 := K2.out.b.2.1; have z5 := K2.out.b.2.2.1; have z4 := K2.out.b.2.2.2; clear z1)
    | (go_at_call 11; refine (C1.out _ K0.out.below).mono ?_; rintro e w1 ⟨rfl, hb1⟩; have K1 := hide (K0.out.up hb1); have z1 := K1.out.b.1; have z11 := K1.out.b.2.1; have z12 := K1.out.b.2.2.1; have z13 := K1.out.b.2.2.2))
  go_cut [8] from 47 to 57 (fun u wx => ∃ gb bA cg, u = .pointer (some ⟨gb, 0, none⟩) ∧ Hid (Jt (.int .i64 G.f) (.int .i64 G.w) (.slice (some ⟨bw, ow, none⟩) G.ws.length G.wc) (.slice (some ⟨bt, ot, none⟩) G.ks.length G.tc) (.int .i64 O.f) (.int .i64 O.w) (.slice (some ⟨bv, ov, none⟩) O.ws.length O.wc) (.slice (some ⟨bu, ou, none⟩) O.ks.length O.tc) w Ws wx gb bA cg (.slice none 0 0)))
  case first =>
    have n1 : ¬ w2.heap.size + 1 = w.heap.size := by have := K2.out.size; omega
    have n2 : ¬ w2.heap.size = w.heap.size := by have := K2.out.size; omega
    have n3 : ¬ w2.heap.size = w.heap.size + 1 := by have := K2.out.size; omega
    go_region_held3 (fun W => W.cell? ⟨w.heap.size, 0, none⟩ = some (.int .i64 G.f) ∧ W.cell? ⟨w.heap.size, 1, none⟩ = some (.int .i64 G.w) ∧ W.cell? ⟨w.heap.size, 2, none⟩ = some (.slice (some ⟨bw, ow, none⟩) G.ws.length G.wc) ∧ W.cell? ⟨w.heap.size + 1, 2, none⟩ = some (.slice (some ⟨bv, ov, none⟩) O.ws.length O.wc)) (go_keep) (first
      | ((go_at_call 40; refine (CW.out _ ?qw _ ?qB ?q0 ?q1).mono ?_; (case qw => exact below_on K2.out.below (below_two _ _ _)); (case qB => first | exact (lt_two _ _ _).1 | exact (lt_two _ _ _).2); (case q0 => first | exact (pair_a _ _ _ _ _).1 | exact (pair_b _ _ _ _ _).1); (case q1 => first | exact (pair_a _ _ _ _ _).2 | exact (pair_b _ _ _ _ _).2); rintro e w3 ⟨bA, cg, rfl, h1, h2, h3, hb3⟩; first | (have HW := after_a cg K2.out h1 h2 h3 hb3; have za := HW.z.c0; have zb := HW.z.c1; have zc := HW.z.c2; have zd := HW.z.c3; have fa := HW.z.fr 0; have fb := HW.z.fr 1; have fc := HW.z.fr 2; have fd := HW.z.fr 3; have y00 := HW.kj.a.1; have y11 := HW.kj.a.2.1; have y22 := HW.kj.a.2.2.1; have z55 := HW.kj.b.2.2.1; have J3 := hide HW.jt; clear HW) | (have HW := after_b cg K2.out h1 h2 h3 hb3; have za := HW.z.c0; have zb := HW.z.c1; have zc := HW.z.c2; have zd := HW.z.c3; have fa := HW.z.fr 0; have fb := HW.z.fr 1; have fc := HW.z.fr 2; have fd := HW.z.fr 3; have y00 := HW.kj.a.1; have y11 := HW.kj.a.2.1; have y22 := HW.kj.a.2.2.1; have z55 := HW.kj.b.2.2.1; have J3 := hide HW.jt; clear HW)))
      | (go_at_call 40; refine (CW.out _ ?qw _ ?qB ?q0 ?q1).mono ?_; (case qw => exact below_on K2.out.below (below_one _ _)); (case qB => simp); (case q0 => go_simp); (case q1 => go_simp); rintro e w3 ⟨bA, cg, rfl, h1, h2, h3, hb3⟩; obtain ⟨HK, HJ⟩ := after_c cg K2.out h1 h2 h3 hb3; have y00 := HK.a.1; have y11 := HK.a.2.1; have y22 := HK.a.2.2.1; have z55 := HK.b.2.2.1; have J3 := hide HJ; clear HJ HK))
    all_goals go_wp2
    all_goals go_meet
    all_goals (case rel => exact ⟨_, _, _, rfl, J3⟩)
  case rest =>
    obtain ⟨gb, bA, cg, rfl, JT⟩ := hcut
    have t3 := JT.out.kj.a.2.2.2
    have u3 := JT.out.kj.b.2.2.2
    clear y0 y1 y2 y3 z2 z3 z4 z5 K2 CW C1 C2 K0 K1
    go_wp2_with (go_at_call 41; refine (CT.out _ _ _ JT.out.kj.below rfl _ rfl).mono ?_; rintro e w4 ⟨g, cg2, rfl, h1, h2, h3, hb4⟩; have L0 := hide (lj_start (S := S) JT.out h1 h2 h3 hb4); clear h3)
    generalize w4.heap.size = B at *
    go_loopw [65] (fun i wr => ∃ k : Nat, k ≤ S.length ∧ i = .int .i64 k ∧ Hid (∃ x C, Lj (.int .i64 G.f) (.int .i64 G.w) (.slice (some ⟨bw, ow, none⟩) G.ws.length G.wc) (.slice (some ⟨bt, ot, none⟩) G.ks.length G.tc) (.int .i64 O.f) (.int .i64 O.w) (.slice (some ⟨bv, ov, none⟩) O.ws.length O.wc) (.slice (some ⟨bu, ou, none⟩) O.ks.length O.tc) w Ws S B gb bA cg g wr k x C)) (fun i _ => S.length - (intOf i).toNat)
    case atStart => exact ⟨0, Nat.zero_le _, rfl, ⟨_, _, L0.out⟩⟩
    case round =>
      clear L0 hb4 h1 h2 JT t3 u3 CT
      obtain ⟨k, hk, rfl, LJ⟩ := hrel
      obtain ⟨x, C, hL⟩ := LJ.out
      have HL := hide hL
      by_cases hlt : k < S.length
      · obtain ⟨i0, hi, hz0, hz1, hz2⟩ := info_parts infoT
        obtain ⟨F, hrk⟩ := TS.out _ (List.getElem_mem hlt)
        have ne : S[k].2.1 ≠ [] := by
          intro e
          have := F.2.1
          rw [e] at this
          simp at this
        obtain ⟨bs, os, es, hbs, hcs⟩ := (hrk wr hL.jt.kj.below).2 ne
        have ct := hL.src k hlt
        unfold tV at ct
        rw [es] at ct
        have kz : (k : Int) < (S.length : Int) := by omega
        have CL := hide (clone_nodes bs os S[k].2.2 S[k].2.1 wr.drew hcs F.1 hbs)
        have c30 := hL.jt.c3
        have c31 : wr.drew.cell? ⟨gb, 3, none⟩ = some x := c30
        have HT : Hid (S[k].2.1 = S[k].2.1) := rfl
        have NE := hide ne
        have OX : Hid (∀ q, x.ownBlock = some q → q < wr.heap.size) := fun q hq => (hL.own.lt q hq).2
        have hn1 := hL.sz
        have MO : Hid (∀ (w5 : World) (o : Obj) a cp g2 cap2 w6, Below wr.heap.size wr w5 → RdN w5 a S[k].2.1 → (∀ p, a = some p → wr.heap.size ≤ p.block) → (w5.alloc o).grownBy w6 x.ownBlock → w6.ownsRow B 22 1 (.slice (some ⟨g2, 0, none⟩) (k + 1) cap2) (k + 1) (C.map tV ++ [.slice a S[k].2.1.length cp]) → (x.ownBlock = some g2 ∨ g2 = w5.heap.size + 1) → Jt (.int .i64 G.f) (.int .i64 G.w) (.slice (some ⟨bw, ow, none⟩) G.ws.length G.wc) (.slice (some ⟨bt, ot, none⟩) G.ks.length G.tc) (.int .i64 O.f) (.int .i64 O.w) (.slice (some ⟨bv, ov, none⟩) O.ws.length O.wc) (.slice (some ⟨bu, ou, none⟩) O.ks.length O.tc) w Ws w6 gb bA cg x ∧ ∃ x2 C2, x2 = .slice (some ⟨g2, 0, none⟩) (k + 1) cap2 ∧ Lj (.int .i64 G.f) (.int .i64 G.w) (.slice (some ⟨bw, ow, none⟩) G.ws.length G.wc) (.slice (some ⟨bt, ot, none⟩) G.ks.length G.tc) (.int .i64 O.f) (.int .i64 O.w) (.slice (some ⟨bv, ov, none⟩) O.ws.length O.wc) (.slice (some ⟨bu, ou, none⟩) O.ks.length O.tc) w Ws S B gb bA cg g (w6.setCell ⟨gb, 3, none⟩ x2) (k + 1) x2 C2) := by
          intro w5 o a cp g2 cap2 w6 hb hr ha hg ho hor
          have hb2 : Below w5.heap.size w5 (w5.alloc o) := (Below.refl _ w5).alloc (Nat.le_refl _) o
          have L6 := (hL.up hb).up hb2
          refine ⟨L6.mid hg, _, _, rfl, L6.more (W0 := wr) ?_ OX.out hn1 hlt rfl ne (hr.below hb2) ha hg ho ?_⟩
          · have := hb.size
            simp
            omega
          · simpa using hor
        have OW : Hid (∀ (w5 : World) (o : Obj), Below wr.heap.size wr w5 → (w5.alloc o).ownsRow B 22 1 x k (C.map tV) ∧ B ≤ (w5.alloc o).heap.size ∧ w5.cell? ⟨gb, 3, none⟩ = some x ∧ (w5.alloc o).cell? ⟨gb, 3, none⟩ = some x) := by
          intro w5 o hb
          have hb2 : Below w5.heap.size w5 (w5.alloc o) := (Below.refl _ w5).alloc (Nat.le_refl _) o
          have L6 := (hL.up hb).up hb2
          exact ⟨L6.own, L6.sz, (hL.up hb).jt.c3, L6.jt.c3⟩
        clear hL F hrk hbs hcs es HT LJ NE OX TS EJ
        generalize S[k].2.1 = ts at *
        generalize S[k].2.2 = tcc at *
        go_upto_region 15 with fail
        go_region_law (first
          | (refine step_append_lies _ rfl (.tmp 70) (.tmp 73) 36 rfl B 22 i0 (.slice none 0 0) 1 24 Tryd.underlying36 hi hz0 hz1 hz2 rfl (by decide) x k (C.map tV) rfl A5.out.1 ⟨w5.heap.size, 0, none⟩ 1 1 [.slice ac ts.length cap5] rfl rfl (one_new _ _ _) (by intro u hu; simp at hu; subst hu; rfl) (by decide) (by unfold maxLen; omega) (by omega) A5.out.2.1 (w5.heap.size + 1) (by simp) ?_; intro g2 cap2 w6 hown6 hgrow6 hor6 hlt6; obtain ⟨J6, x2, C2, ex2, NL⟩ := MO.out w5 _ ac cap5 g2 cap2 w6 hb5' hr5 ha5 hgrow6 hown6 hor6; have c37 := J6.c3; have f37 := J6.fr; subst ex2; have NX := hide NL; clear NL J6 hown6 hgrow6 hor6)
          | (go_simp; go_at_call 42; refine CL.out.mono ?_; rintro e w5 ⟨ac, cap5, rfl, hr5, ha5, hb5⟩; have hb5' : Below wr.heap.size wr w5 := below_on (Below.refl _ wr).drew hb5; have A5 := hide (OW.out w5 (.cells #[.slice ac ts.length cap5] 22) hb5'); have c35 := A5.out.2.2.1; have c36 := A5.out.2.2.2))
        all_goals (
          go_wp2
          go_roundw
          case rel => exact ⟨k + 1, by omega, by go_num, ⟨_, _, NX.out⟩⟩
          case measure => simp [intOf]; omega)
      · have ek : k = S.length := by omega
        subst ek
        obtain ⟨gx, cpx, ex⟩ : ∃ gx cpx, x = .slice (some ⟨gx, 0, none⟩) S.length cpx := by
          rcases hL.own.2 with ⟨_, h0⟩ | ⟨gx, cap, cur, hv, _⟩
          · omega
          · exact ⟨gx, cap, hv⟩
        subst ex
        have d0 := hL.jt.c0
        have d1 := hL.jt.c1
        have d2 := hL.jt.c2
        have d3 := hL.jt.c3
        have r0 := hL.jt.kj.c.1
        have r1 := hL.jt.kj.c.2.1
        have r2 := hL.jt.kj.c.2.2.1
        have r3 := hL.jt.kj.c.2.2.2
        have f0 := hL.jt.kj.fr 0
        have f1 := hL.jt.kj.fr 1
        have f2 := hL.jt.kj.fr 2
        have f3 := hL.jt.kj.fr 3
        obtain ⟨e0, e1, e2, e3⟩ := set4 (x0 := .int .i64 G.f) (x1 := .int .i64 G.w) (x2 := .slice (some ⟨bA, 0, none⟩) Ws.length cg) (x3 := .slice (some ⟨gx, 0, none⟩) S.length cpx) r0 r1 r2 r3
        clear hL TS LJ hk hlt
        go_wp2
        (try simp only [Exit.inBlock, Exit.then])
        refine bodyPost_ret (v := .tuple #[.agg #[.int .i64 G.f, .int .i64 G.w, .slice (some ⟨bA, 0, none⟩) Ws.length cg, .slice (some ⟨gx, 0, none⟩) S.length cpx], .nilIface]) (by simp [results, Tryd.results21, go_sem, e0, e1, e2, e3]) rfl ?_
        obtain ⟨J, j1, j2, j3, j4, j5, j6, j7, hR⟩ := HL.out.done N0 N12 W12.out (.int .i64 G.f) (.int .i64 G.w) (.slice (some ⟨bA, 0, none⟩) Ws.length cg) (.slice (some ⟨gx, 0, none⟩) S.length cpx)
        refine ⟨J, ?_, EJ.out J j2 j3 j5 j7, hR, below4 HL.out.jt.kj.below (by omega)⟩
        rw [j2, j3, j4, j5, j6, ← j1]

theorem gjoin_any : JoinGives := by
  intro G O W h ho
  by_cases he : M.joinF G.m O.m = 0
  · refine (gjoin_good G O W h ho he).mono ?_
    rintro e w' ⟨J, rfl, hm, hr, hb⟩
    refine ⟨J, by rw [err_nil he], ?_, hr, hb⟩
    rw [hm]; unfold M.joinV; rw [if_pos he]
  · refine (gjoin_bad G O W h ho he).mono ?_
    rintro e w' ⟨rfl, hb⟩
    refine ⟨noGr, rfl, ?_, noGr_rdg w', hb⟩
    unfold M.joinV; rw [if_neg he]; rfl

end Go.Proofs.YtandimbpealclacDoor

namespace Go.Proofs.YtandimbpealclacDoor
open Go.ChangeShapes Go.WideShapes Go.ChangeAt Go.RowKit Go.Lib
set_option linter.unusedVariables false

def M.loK (t : List M.Nd) : Nat → Int
  | 0 => 1000000
  | k + 1 => if M.leafB (M.nAt t k) = true ∧ M.nv (M.nAt t k) < M.loK t k then M.nv (M.nAt t k) else M.loK t k
def M.hiK (t : List M.Nd) : Nat → Int
  | 0 => -1000000
  | k + 1 => if M.leafB (M.nAt t k) = true ∧ M.hiK t k < M.nv (M.nAt t k) then M.nv (M.nAt t k) else M.hiK t k
theorem M.lo_spec (t : List M.Nd) : ∀ k, M.loK t k ≤ 1000000 ∧ (∀ x ∈ M.lvK t k, M.loK t k ≤ x) ∧ (M.loK t k = 1000000 ∨ M.loK t k ∈ M.lvK t k)
  | 0 => ⟨Int.le_refl _, (fun x hx => by cases hx), .inl rfl⟩
  | k + 1 => by
    obtain ⟨h1, h2, h3⟩ := M.lo_spec t k
    unfold M.loK M.lvK
    by_cases hl : M.leafB (M.nAt t k) = true
    · rw [if_pos hl]
      by_cases hv : M.nv (M.nAt t k) < M.loK t k
      · rw [if_pos ⟨hl, hv⟩]
        refine ⟨by omega, fun x hx => ?_, .inr (by simp)⟩
        rcases List.mem_append.1 hx with q | q
        · have := h2 x q; omega
        · rw [List.mem_singleton.1 q]; exact Int.le_refl _
      · rw [if_neg (fun c => hv c.2)]
        refine ⟨h1, fun x hx => ?_, h3.imp id (fun q => List.mem_append.2 (.inl q))⟩
        rcases List.mem_append.1 hx with q | q
        · exact h2 x q
        · rw [List.mem_singleton.1 q]; omega
    · rw [if_neg hl, if_neg (fun c => hl c.1)]
      exact ⟨h1, h2, h3⟩
theorem M.hi_spec (t : List M.Nd) : ∀ k, -1000000 ≤ M.hiK t k ∧ (∀ x ∈ M.lvK t k, x ≤ M.hiK t k) ∧ (M.hiK t k = -1000000 ∨ M.hiK t k ∈ M.lvK t k)
  | 0 => ⟨Int.le_refl _, (fun x hx => by cases hx), .inl rfl⟩
  | k + 1 => by
    obtain ⟨h1, h2, h3⟩ := M.hi_spec t k
    unfold M.hiK M.lvK
    by_cases hl : M.leafB (M.nAt t k) = true
    · rw [if_pos hl]
      by_cases hv : M.hiK t k < M.nv (M.nAt t k)
      · rw [if_pos ⟨hl, hv⟩]
        refine ⟨by omega, fun x hx => ?_, .inr (by simp)⟩
        rcases List.mem_append.1 hx with q | q
        · have := h2 x q; omega
        · rw [List.mem_singleton.1 q]; exact Int.le_refl _
      · rw [if_neg (fun c => hv c.2)]
        refine ⟨h1, fun x hx => ?_, h3.imp id (fun q => List.mem_append.2 (.inl q))⟩
        rcases List.mem_append.1 hx with q | q
        · exact h2 x q
        · rw [List.mem_singleton.1 q]; omega
    · rw [if_neg hl, if_neg (fun c => hl c.1)]
      exact ⟨h1, h2, h3⟩
theorem M.lo_low {t : List M.Nd} {m : Int} (F : M.Fair t m) : M.lowT t = M.loK t t.length := by
  obtain ⟨h1, h2, h3⟩ := M.lo_spec t t.length
  have hp := M.lv_some F
  refine M.low_unique ?_ h2
  rcases h3 with h3 | h3
  · have hx := List.getElem_mem hp
    have a := h2 _ hx
    have b := (M.lv_in F _ hx).2
    rw [show M.loK t t.length = (M.lvK t t.length)[0] by omega]
    exact hx
  · exact h3
theorem M.hi_high {t : List M.Nd} {m : Int} (F : M.Fair t m) : M.highT t = M.hiK t t.length := by
  obtain ⟨h1, h2, h3⟩ := M.hi_spec t t.length
  have hp := M.lv_some F
  refine M.high_unique ?_ h2
  rcases h3 with h3 | h3
  · have hx := List.getElem_mem hp
    have a := h2 _ hx
    have b := (M.lv_in F _ hx).1
    rw [show M.hiK t t.length = (M.lvK t t.length)[0] by omega]
    exact hx
  · exact h3

theorem two_ret {a b c d : Int} (h1 : a = b) (h2 : c = d) : Ending.returned (.tuple #[.int .i64 a, .int .i64 c]) = .returned (.tuple #[.int .i64 b, .int .i64 d]) := by rw [h1, h2]

set_option maxHeartbeats 4000000 in
theorem ends_in (a0 : Option Addr) (ts : List M.Nd) (ca : Nat) (m : Int) (w : World) (ht : RdN w a0 ts) (F : M.Fair ts m) :
    Calls Tryd.prog 37 #[.slice a0 ts.length ca] w fun e w' => e = .returned (.tuple #[.int .i64 (M.lowT ts), .int .i64 (M.highT ts)]) ∧ Below w.heap.size w w' := by
  have hm : ts.length ≤ 9223372036854775807 := ht.1
  have EL := hide (M.lo_low F)
  have EH := hide (M.hi_high F)
  have n0 : 0 < ts.length := F.2.1
  obtain ⟨b1, off, rfl, hb, hc⟩ := ht.2 (by intro e; subst e; simp at n0)
  have NS : Hid (∀ W, Below w.heap.size w W → ∀ k, k < ts.length → SixAt W b1 (off + k * 6) (M.nAt ts k)) := fun W hW k hk => (hc k hk).below hW hb
  have SP : Hid (∀ k, M.loK ts k ≤ 1000000 ∧ -1000000 ≤ M.hiK ts k) := fun k => ⟨(M.lo_spec ts k).1, (M.hi_spec ts k).1⟩
  clear ht hc F
  generalize M.lowT ts = LT at *
  generalize M.highT ts = HT at *
  go_enter Tryd.func37, Tryd.ntmps37
  go_wp2
  go_loopw [2, 3, 8] (fun lo hi i wr => ∃ k : Nat, k ≤ ts.length ∧ lo = .int .i64 (M.loK ts k) ∧ hi = .int .i64 (M.hiK ts k) ∧ i = .int .i64 k ∧ Below w.heap.size w wr) (fun _ _ i _ => ts.length - (intOf i).toNat)
  case atStart => exact ⟨0, Nat.zero_le _, rfl, rfl, rfl, Below.refl _ _⟩
  case round =>
    obtain ⟨k, hk, rfl, rfl, rfl, hbl⟩ := hrel
    by_cases hlt : k < ts.length
    · obtain ⟨c0, c1, c2, c3, c4, c5⟩ := NS.out wr hbl k hlt
      have kz : (k : Int) < (ts.length : Int) := by omega
      have B2 : Hid (∀ o, Below w.heap.size w (wr.alloc o)) := fun o => hbl.alloc hbl.size o
      have B3 : Hid (∀ o, Below w.heap.size w (wr.alloc o).drew) := fun o => (hbl.alloc hbl.size o).drew
      have lE : M.leafB (M.nAt ts k) = decide (M.nf (M.nAt ts k) = -1) := rfl
      have SL : Hid (M.loK ts (k + 1) = if M.leafB (M.nAt ts k) = true ∧ M.nv (M.nAt ts k) < M.loK ts k then M.nv (M.nAt ts k) else M.loK ts k) := rfl
      have SH : Hid (M.hiK ts (k + 1) = if M.leafB (M.nAt ts k) = true ∧ M.hiK ts k < M.nv (M.nAt ts k) then M.nv (M.nAt ts k) else M.hiK ts k) := rfl
      clear NS SP EL EH
      generalize hlo : M.loK ts k = lo at *
      generalize hhi : M.hiK ts k = hi at *
      clear hlo hhi
      by_cases hf : M.nf (M.nAt ts k) = -1
      · have qf : (M.nf (M.nAt ts k) == -1) = true := by rw [beq_iff_eq]; exact hf
        have lT : Hid (M.leafB (M.nAt ts k) = true) := by unfold Hid; rw [lE, decide_eq_true hf]
        clear hf lE
        generalize M.nv (M.nAt ts k) = v at *
        generalize M.nf (M.nAt ts k) = ff at *
        generalize M.nc (M.nAt ts k) = fc at *
        generalize M.nl (M.nAt ts k) = fl at *
        generalize M.nr (M.nAt ts k) = fr at *
        generalize M.ns (M.nAt ts k) = fs at *
        by_cases h1 : v < lo
        · have E1 : Hid (M.loK ts (k + 1) = v) := by unfold Hid; rw [SL.out, if_pos ⟨lT.out, h1⟩]
          by_cases h2 : hi < v
          · have E2 : Hid (M.hiK ts (k + 1) = v) := by unfold Hid; rw [SH.out, if_pos ⟨lT.out, h2⟩]
            go_upto_region 6 with fail
            go_region
            all_goals (
              go_wp2
              go_roundw
              case rel => exact ⟨k + 1, by omega, by rw [E1.out], by rw [E2.out], by go_num, B3.out _⟩
              case measure => simp [intOf]; omega)
          · have E2 : Hid (M.hiK ts (k + 1) = hi) := by unfold Hid; rw [SH.out, if_neg (fun c => h2 c.2)]
            go_upto_region 6 with fail
            go_region
            all_goals (
              go_wp2
              go_roundw
              case rel => exact ⟨k + 1, by omega, by rw [E1.out], by rw [E2.out], by go_num, B3.out _⟩
              case measure => simp [intOf]; omega)
        · have E1 : Hid (M.loK ts (k + 1) = lo) := by unfold Hid; rw [SL.out, if_neg (fun c => h1 c.2)]
          by_cases h2 : hi < v
          · have E2 : Hid (M.hiK ts (k + 1) = v) := by unfold Hid; rw [SH.out, if_pos ⟨lT.out, h2⟩]
            go_upto_region 6 with fail
            go_region
            all_goals (
              go_wp2
              go_roundw
              case rel => exact ⟨k + 1, by omega, by rw [E1.out], by rw [E2.out], by go_num, B3.out _⟩
              case measure => simp [intOf]; omega)
          · have E2 : Hid (M.hiK ts (k + 1) = hi) := by unfold Hid; rw [SH.out, if_neg (fun c => h2 c.2)]
            go_upto_region 6 with fail
            go_region
            all_goals (
              go_wp2
              go_roundw
              case rel => exact ⟨k + 1, by omega, by rw [E1.out], by rw [E2.out], by go_num, B3.out _⟩
              case measure => simp [intOf]; omega)
      · have qf : (M.nf (M.nAt ts k) == -1) = false := by rw [beq_eq_false_iff_ne]; exact hf
        have lT : Hid (¬ M.leafB (M.nAt ts k) = true) := by unfold Hid; rw [lE, decide_eq_false hf]; decide
        have E1 : Hid (M.loK ts (k + 1) = lo) := by unfold Hid; rw [SL.out, if_neg (fun c => lT.out c.1)]
        have E2 : Hid (M.hiK ts (k + 1) = hi) := by unfold Hid; rw [SH.out, if_neg (fun c => lT.out c.1)]
        clear hf lE SL SH
        generalize M.nv (M.nAt ts k) = v at *
        generalize M.nf (M.nAt ts k) = ff at *
        generalize M.nc (M.nAt ts k) = fc at *
        generalize M.nl (M.nAt ts k) = fl at *
        generalize M.nr (M.nAt ts k) = fr at *
        generalize M.ns (M.nAt ts k) = fs at *
        go_wp2
        go_roundw
        case rel => exact ⟨k + 1, by omega, by rw [E1.out], by rw [E2.out], by go_num, B2.out _⟩
        case measure => simp [intOf]; omega
    · have ek : k = ts.length := by omega
      have L1 : Hid (M.loK ts k = LT) := by unfold Hid; rw [ek, EL.out]
      have L2 : Hid (M.hiK ts k = HT) := by unfold Hid; rw [ek, EH.out]
      clear NS SP EL EH ek
      go_wp2
      go_ret2
      exact ⟨two_ret L1.out L2.out, hbl⟩

end Go.Proofs.YtandimbpealclacDoor

namespace Go.Proofs.YtandimbpealclacDoor
open Go.ChangeShapes Go.WideShapes Go.ChangeAt Go.RowKit Go.Lib
set_option linter.unusedVariables false

def M.minK (l : List Int) : Nat → Int
  | 0 => l.getD 0 0
  | k + 1 => if l.getD k 0 < M.minK l k then l.getD k 0 else M.minK l k
def M.maxK (l : List Int) : Nat → Int
  | 0 => l.getD 0 0
  | k + 1 => if M.maxK l k < l.getD k 0 then l.getD k 0 else M.maxK l k
theorem M.min_spec {l : List Int} (h0 : 0 < l.length) : ∀ k, k ≤ l.length → M.minK l k ∈ l ∧ ∀ i, i < k → M.minK l k ≤ l.getD i 0
  | 0, _ => ⟨by show l.getD 0 0 ∈ l; rw [M.getD_at h0]; exact List.getElem_mem h0, fun i hi => by omega⟩
  | k + 1, hk => by
    obtain ⟨h1, h2⟩ := M.min_spec h0 k (by omega)
    unfold M.minK
    split
    · rename_i hc
      refine ⟨by rw [M.getD_at (by omega)]; exact List.getElem_mem _, fun i hi => ?_⟩
      by_cases e : i = k
      · rw [e]; exact Int.le_refl _
      · have := h2 i (by omega); omega
    · rename_i hc
      refine ⟨h1, fun i hi => ?_⟩
      by_cases e : i = k
      · rw [e]; omega
      · exact h2 i (by omega)
theorem M.max_spec {l : List Int} (h0 : 0 < l.length) : ∀ k, k ≤ l.length → M.maxK l k ∈ l ∧ ∀ i, i < k → l.getD i 0 ≤ M.maxK l k
  | 0, _ => ⟨by show l.getD 0 0 ∈ l; rw [M.getD_at h0]; exact List.getElem_mem h0, fun i hi => by omega⟩
  | k + 1, hk => by
    obtain ⟨h1, h2⟩ := M.max_spec h0 k (by omega)
    unfold M.maxK
    split
    · rename_i hc
      refine ⟨by rw [M.getD_at (by omega)]; exact List.getElem_mem _, fun i hi => ?_⟩
      by_cases e : i = k
      · rw [e]; exact Int.le_refl _
      · have := h2 i (by omega); omega
    · rename_i hc
      refine ⟨h1, fun i hi => ?_⟩
      by_cases e : i = k
      · rw [e]; omega
      · exact h2 i (by omega)
theorem M.low_min {l : List Int} (h0 : 0 < l.length) : M.lowL l = M.minK l l.length := by
  obtain ⟨h1, h2⟩ := M.min_spec h0 l.length (Nat.le_refl _)
  refine M.low_unique h1 (fun x hx => ?_)
  obtain ⟨i, hi, rfl⟩ := List.getElem_of_mem hx
  have := h2 i hi
  rwa [M.getD_at hi] at this
theorem M.high_max {l : List Int} (h0 : 0 < l.length) : M.highL l = M.maxK l l.length := by
  obtain ⟨h1, h2⟩ := M.max_spec h0 l.length (Nat.le_refl _)
  refine M.high_unique h1 (fun x hx => ?_)
  obtain ⟨i, hi, rfl⟩ := List.getElem_of_mem hx
  have := h2 i hi
  rwa [M.getD_at hi] at this
theorem M.min_one (l : List Int) : M.minK l 1 = l.getD 0 0 := by
  show (if l.getD 0 0 < l.getD 0 0 then _ else _) = _
  rw [if_neg (by omega)]; rfl
theorem M.max_one (l : List Int) : M.maxK l 1 = l.getD 0 0 := by
  show (if l.getD 0 0 < l.getD 0 0 then _ else _) = _
  rw [if_neg (by omega)]; rfl

set_option maxHeartbeats 2000000 in
theorem smin_in (a : Option Addr) (vs : List Int) (ca : Nat) (w : World) (h : Rd w a vs) (h0 : 0 < vs.length) (n12 : vs.length ≤ 12) :
    Calls Tryd.prog 38 #[.slice a vs.length ca] w fun e w' => e = .returned (.int .i64 (M.lowL vs)) ∧ w' = w := by
  obtain ⟨ba, oa, rfl, hba, hca⟩ := h.2 (by intro e; rw [e] at h0; simp at h0)
  have HC := hide hca
  have EL := hide (M.low_min h0)
  have c0 := hca 0 h0
  have E1 := hide (M.min_one vs)
  have g1 : decide ((vs.length : Int) < 1) = false := decide_eq_false (by omega)
  rw [Nat.add_zero] at c0
  clear h hca hba
  generalize M.lowL vs = LT at *
  generalize vs.getD 0 0 = x0 at *
  go_enter Tryd.func38, Tryd.ntmps38
  go_wp2
  go_loopw [3, 4] (fun s i wr => ∃ k : Nat, 1 ≤ k ∧ k ≤ vs.length ∧ s = .int .i64 (M.minK vs k) ∧ i = .int .i64 k ∧ wr = w) (fun _ i _ => vs.length - (intOf i).toNat)
  case atStart => exact ⟨1, Nat.le_refl _, h0, by rw [E1.out], rfl, rfl⟩
  case round =>
    obtain ⟨k, k1, hk, rfl, rfl, ew⟩ := hrel
    subst wr
    clear c0 E1
    by_cases hlt : k < vs.length
    · have c1 := HC.out k hlt
      have kz : (k : Int) < (vs.length : Int) := by omega
      have SS : Hid (M.minK vs (k + 1) = if vs.getD k 0 < M.minK vs k then vs.getD k 0 else M.minK vs k) := rfl
      clear HC EL
      generalize vs.getD k 0 = x at *
      by_cases hv : x < M.minK vs k
      · have E : Hid (M.minK vs (k + 1) = x) := by unfold Hid; rw [SS.out, if_pos hv]
        clear SS
        generalize M.minK vs k = mk at *
        go_wp2
        go_roundw
        case rel => exact ⟨k + 1, by omega, by omega, (by rw [E.out]; first | rfl | (congr 1; omega)), by go_num, (by first | rfl | trivial)⟩
        case measure => simp [intOf]; omega
      · have E : Hid (M.minK vs (k + 1) = M.minK vs k) := by unfold Hid; rw [SS.out, if_neg hv]
        clear SS
        generalize M.minK vs k = mk at *
        go_wp2
        go_roundw
        case rel => exact ⟨k + 1, by omega, by omega, (by rw [E.out]; first | rfl | (congr 1; omega)), by go_num, (by first | rfl | trivial)⟩
        case measure => simp [intOf]; omega
    · have ek : k = vs.length := by omega
      have E : Hid (M.minK vs k = LT) := by unfold Hid; rw [ek, EL.out]
      clear HC EL ek
      go_wp2
      go_ret
      exact ⟨ret_int E.out, rfl⟩

set_option maxHeartbeats 2000000 in
theorem smax_in (a : Option Addr) (vs : List Int) (ca : Nat) (w : World) (h : Rd w a vs) (h0 : 0 < vs.length) (n12 : vs.length ≤ 12) :
    Calls Tryd.prog 39 #[.slice a vs.length ca] w fun e w' => e = .returned (.int .i64 (M.highL vs)) ∧ w' = w := by
  obtain ⟨ba, oa, rfl, hba, hca⟩ := h.2 (by intro e; rw [e] at h0; simp at h0)
  have HC := hide hca
  have EL := hide (M.high_max h0)
  have c0 := hca 0 h0
  have E1 := hide (M.max_one vs)
  have g1 : decide ((vs.length : Int) < 1) = false := decide_eq_false (by omega)
  rw [Nat.add_zero] at c0
  clear h hca hba
  generalize M.highL vs = LT at *
  generalize vs.getD 0 0 = x0 at *
  go_enter Tryd.func39, Tryd.ntmps39
  go_wp2
  go_loopw [3, 4] (fun s i wr => ∃ k : Nat, 1 ≤ k ∧ k ≤ vs.length ∧ s = .int .i64 (M.maxK vs k) ∧ i = .int .i64 k ∧ wr = w) (fun _ i _ => vs.length - (intOf i).toNat)
  case atStart => exact ⟨1, Nat.le_refl _, h0, by rw [E1.out], rfl, rfl⟩
  case round =>
    obtain ⟨k, k1, hk, rfl, rfl, ew⟩ := hrel
    subst wr
    clear c0 E1
    by_cases hlt : k < vs.length
    · have c1 := HC.out k hlt
      have kz : (k : Int) < (vs.length : Int) := by omega
      have SS : Hid (M.maxK vs (k + 1) = if M.maxK vs k < vs.getD k 0 then vs.getD k 0 else M.maxK vs k) := rfl
      clear HC EL
      generalize vs.getD k 0 = x at *
      by_cases hv : M.maxK vs k < x
      · have E : Hid (M.maxK vs (k + 1) = x) := by unfold Hid; rw [SS.out, if_pos hv]
        clear SS
        generalize M.maxK vs k = mk at *
        go_wp2
        go_roundw
        case rel => exact ⟨k + 1, by omega, by omega, (by rw [E.out]; first | rfl | (congr 1; omega)), by go_num, (by first | rfl | trivial)⟩
        case measure => simp [intOf]; omega
      · have E : Hid (M.maxK vs (k + 1) = M.maxK vs k) := by unfold Hid; rw [SS.out, if_neg hv]
        clear SS
        generalize M.maxK vs k = mk at *
        go_wp2
        go_roundw
        case rel => exact ⟨k + 1, by omega, by omega, (by rw [E.out]; first | rfl | (congr 1; omega)), by go_num, (by first | rfl | trivial)⟩
        case measure => simp [intOf]; omega
    · have ek : k = vs.length := by omega
      have E : Hid (M.maxK vs k = LT) := by unfold Hid; rw [ek, EL.out]
      clear HC EL ek
      go_wp2
      go_ret
      exact ⟨ret_int E.out, rfl⟩

theorem own_near {w : World} {base n e size p o g cap m : Nat} {x : Value} {l : List Value} (h : w.ownsRow base e size (.slice (some ⟨g, 0, none⟩) m cap) n l) (hp : p ≠ g) : (w.setCell ⟨p, o, none⟩ x).ownsRow base e size (.slice (some ⟨g, 0, none⟩) m cap) n l := by
  refine ⟨h.1, ?_⟩
  rcases h.2 with ⟨h0, _⟩ | ⟨g', cap', cur, hv, h1, h2, h3⟩
  · cases h0
  · cases hv
    refine .inr ⟨g, cap, cur, rfl, h1, ?_, h3⟩
    rw [← h2]
    simp [World.setCell, Array.getElem?_modify, hp]
/-- the trees' least and greatest so far -/
structure Bd (a0 a1 a2 a3 : Value) (w : World) (n : Nat) (L H : List Int) (W : World) (k g1 g2 : Nat) : Prop where
  o1 : W.ownsRow w.heap.size 3 1 (.slice (some ⟨g1, 0, none⟩) n n) n ((M.fillK L k).map (Value.int .i64))
  o2 : W.ownsRow w.heap.size 3 1 (.slice (some ⟨g2, 0, none⟩) n n) n ((M.fillK H k).map (Value.int .i64))
  ne : g1 ≠ g2
  l1 : w.heap.size < g1
  l2 : w.heap.size < g2
  b0 : W.cell? ⟨w.heap.size, 0, none⟩ = some a0
  b1 : W.cell? ⟨w.heap.size, 1, none⟩ = some a1
  b2 : W.cell? ⟨w.heap.size, 2, none⟩ = some a2
  b3 : W.cell? ⟨w.heap.size, 3, none⟩ = some a3
  below : Below w.heap.size w W
theorem Bd.up {a0 a1 a2 a3 : Value} {w : World} {n : Nat} {L H : List Int} {W W' : World} {k g1 g2 : Nat} (h : Bd a0 a1 a2 a3 w n L H W k g1 g2) (hb : Below W.heap.size W W') : Bd a0 a1 a2 a3 w n L H W' k g1 g2 := by
  have hl := block_lt_of_cell h.b0
  exact ⟨own_up h.o1 hb, own_up h.o2 hb, h.ne, h.l1, h.l2, (hb.cell (p := ⟨w.heap.size, 0, none⟩) hl).trans h.b0, (hb.cell (p := ⟨w.heap.size, 1, none⟩) hl).trans h.b1, (hb.cell (p := ⟨w.heap.size, 2, none⟩) hl).trans h.b2, (hb.cell (p := ⟨w.heap.size, 3, none⟩) hl).trans h.b3, below_on h.below hb⟩
theorem Bd.cells {a0 a1 a2 a3 : Value} {w : World} {n : Nat} {L H : List Int} {W : World} {k g1 g2 : Nat} (h : Bd a0 a1 a2 a3 w n L H W k g1 g2) (hL : L.length = n) (hH : H.length = n) (hk : k < n) : (∃ z, W.cell? ⟨g1, k, none⟩ = some (.int .i64 z)) ∧ (∃ z, W.cell? ⟨g2, k, none⟩ = some (.int .i64 z)) ∧ W.frozen? ⟨g1, k, none⟩ = false ∧ W.frozen? ⟨g2, k, none⟩ = false :=
  ⟨fillK_cell (by omega) hL h.o1, fillK_cell (by omega) hH h.o2, h.o1.frozenAt k, h.o2.frozenAt k⟩
theorem Bd.put {a0 a1 a2 a3 : Value} {w : World} {n : Nat} {L H : List Int} {W : World} {k g1 g2 : Nat} (h : Bd a0 a1 a2 a3 w n L H W k g1 g2) (hL : L.length = n) (hH : H.length = n) (hk : k < n) : Bd a0 a1 a2 a3 w n L H ((W.setCell ⟨g1, k, none⟩ (.int .i64 (L.getD k 0))).setCell ⟨g2, k, none⟩ (.int .i64 (H.getD k 0))) (k + 1) g1 g2 := by
  have l1 := h.l1
  have l2 := h.l2
  have ne := h.ne
  have far : ∀ (j : Nat), ((W.setCell ⟨g1, k, none⟩ (.int .i64 (L.getD k 0))).setCell ⟨g2, k, none⟩ (.int .i64 (H.getD k 0))).cell? ⟨w.heap.size, j, none⟩ = W.cell? ⟨w.heap.size, j, none⟩ := fun j => by
    rw [World.cell?_setCell_other _ _ _ _ (by intro e; have := congrArg Addr.block e; simp at this; omega), World.cell?_setCell_other _ _ _ _ (by intro e; have := congrArg Addr.block e; simp at this; omega)]
  exact ⟨own_near (fillK_own (by omega) h.o1) (fun e => ne e.symm), fillK_own (by omega) (own_near h.o2 ne), ne, l1, l2, (far 0).trans h.b0, (far 1).trans h.b1, (far 2).trans h.b2, (far 3).trans h.b3, (h.below.setCell (p := ⟨g1, k, none⟩) (show w.heap.size ≤ g1 by omega) _).setCell (p := ⟨g2, k, none⟩) (show w.heap.size ≤ g2 by omega) _⟩
theorem Bd.rd {a0 a1 a2 a3 : Value} {w : World} {n : Nat} {L H : List Int} {W : World} {g1 g2 : Nat} (h : Bd a0 a1 a2 a3 w n L H W n g1 g2) (hL : L.length = n) (hH : H.length = n) : Rd W (some ⟨g1, 0, none⟩) L ∧ Rd W (some ⟨g2, 0, none⟩) H := by
  have o1 := h.o1
  have o2 := h.o2
  rw [show M.fillK L n = L by rw [← hL]; exact M.fillK_all L] at o1
  rw [show M.fillK H n = H by rw [← hH]; exact M.fillK_all H] at o2
  have p1 : W.ownsRow w.heap.size 3 1 (.slice (some ⟨g1, 0, none⟩) L.length L.length) L.length (L.map (Value.int .i64)) := by rw [hL]; exact o1
  have p2 : W.ownsRow w.heap.size 3 1 (.slice (some ⟨g2, 0, none⟩) H.length H.length) H.length (H.map (Value.int .i64)) := by rw [hH]; exact o2
  obtain ⟨x, c, e, hr, _⟩ := own_rd p1
  obtain ⟨y, d, f, hs, _⟩ := own_rd p2
  cases e
  cases f
  exact ⟨hr, hs⟩
theorem made_row (W : World) (L : List Int) (base : Nat) (hb : base ≤ W.heap.size) (h12 : L.length ≤ 12) : (W.alloc (.cells (madeCells #[Value.int .i64 0] L.length) 3)).ownsRow base 3 1 (.slice (some ⟨W.heap.size, 0, none⟩) L.length L.length) L.length ((M.fillK L 0).map (Value.int .i64)) := by
  have e : (madeCells #[Value.int .i64 0] L.length).toList = (M.fillK L 0).map (Value.int .i64) := by
    have := made L.length
    rw [Nat.mul_one] at this
    rw [M.fillK_zero, ← this]
    rfl
  refine ⟨by rw [← e]; simp [size_madeCells], .inr ⟨W.heap.size, L.length, madeCells #[Value.int .i64 0] L.length, rfl, hb, (MapKept.heap_alloc W _).1, Nat.le_refl _, by unfold maxLen; omega, by simp [size_madeCells], ?_⟩⟩
  rw [Nat.mul_one, e, List.take_of_length_le]
  simp [M.fillK_len]
theorem bd_two {a0 a1 a2 a3 : Value} {w W : World} {L H : List Int} {n : Nat} (hL : L.length = n) (hH : H.length = n) (h12 : n ≤ 12) (hb : Below (w.alloc (.cells #[a0, a1, a2, a3] 38)).heap.size (w.alloc (.cells #[a0, a1, a2, a3] 38)) W) :
    Bd a0 a1 a2 a3 w n L H ((W.alloc (.cells (madeCells #[Value.int .i64 0] n) 3)).alloc (.cells (madeCells #[Value.int .i64 0] n) 3)).drew 0 W.heap.size (W.heap.size + 1) ∧ Bd a0 a1 a2 a3 w n L H ((W.alloc (.cells (madeCells #[Value.int .i64 0] n) 3)).alloc (.cells (madeCells #[Value.int .i64 0] n) 3)).drew 0 (W.heap.size + 1) W.heap.size := by
  have s := hb.size
  simp at s
  have b2 : Below W.heap.size W ((W.alloc (.cells (madeCells #[Value.int .i64 0] n) 3)).alloc (.cells (madeCells #[Value.int .i64 0] n) 3)).drew := (((Below.refl _ W).alloc (Nat.le_refl _) _).alloc (by simp) _).drew
  have b3 : Below (W.alloc (.cells (madeCells #[Value.int .i64 0] n) 3)).heap.size (W.alloc (.cells (madeCells #[Value.int .i64 0] n) 3)) ((W.alloc (.cells (madeCells #[Value.int .i64 0] n) 3)).alloc (.cells (madeCells #[Value.int .i64 0] n) 3)).drew := ((Below.refl _ _).alloc (Nat.le_refl _) _).drew
  have e1 : (W.alloc (.cells (madeCells #[Value.int .i64 0] n) 3)).heap.size = W.heap.size + 1 := by simp
  have first : ∀ X : List Int, X.length = n → ((W.alloc (.cells (madeCells #[Value.int .i64 0] n) 3)).alloc (.cells (madeCells #[Value.int .i64 0] n) 3)).drew.ownsRow w.heap.size 3 1 (.slice (some ⟨W.heap.size, 0, none⟩) n n) n ((M.fillK X 0).map (Value.int .i64)) := fun X hX => by
    have := made_row W X w.heap.size (by omega) (by omega)
    rw [hX] at this
    exact own_up this b3
  have second : ∀ X : List Int, X.length = n → ((W.alloc (.cells (madeCells #[Value.int .i64 0] n) 3)).alloc (.cells (madeCells #[Value.int .i64 0] n) 3)).drew.ownsRow w.heap.size 3 1 (.slice (some ⟨W.heap.size + 1, 0, none⟩) n n) n ((M.fillK X 0).map (Value.int .i64)) := fun X hX => by
    have := made_row (W.alloc (.cells (madeCells #[Value.int .i64 0] n) 3)) X w.heap.size (by omega) (by omega)
    rw [hX, e1] at this
    exact own_up this (Below.refl _ _).drew
  obtain ⟨k0, k1, k2, k3⟩ := kept_box (below_on hb b2)
  have bw := below_on ((Below.refl _ w).alloc (Nat.le_refl _) _) (below_on hb b2)
  exact ⟨⟨first L hL, second H hH, by omega, by omega, by omega, k0, k1, k2, k3, bw⟩, ⟨second L hL, first H hH, by omega, by omega, by omega, k0, k1, k2, k3, bw⟩⟩
theorem M.ends_vw {g : M.Gv} (K : M.Good g) : Vw (M.gs g) ((M.gt g).map M.lowT) ∧ Vw (M.gs g) ((M.gt g).map M.highT) := by
  have rng : ∀ i (hi : i < (M.gt g).length), (-1000000 ≤ M.lowT (M.gt g)[i] ∧ M.lowT (M.gt g)[i] ≤ 1000000) ∧ (-1000000 ≤ M.highT (M.gt g)[i] ∧ M.highT (M.gt g)[i] ≤ 1000000) := fun i hi => by
    have F := (M.tree_ok (K.trees _ (List.getElem_mem hi))).1
    have hp := M.lv_some F
    exact ⟨M.lv_in F _ (M.low_mem hp), M.lv_in F _ (M.high_mem hp)⟩
  refine ⟨⟨by rw [List.length_map]; exact K.len, by rw [List.length_map]; exact K.t0, by rw [List.length_map]; exact K.t12, fun i hi => ?_, fun i hi => M.wt_at K (by simpa using hi)⟩, ⟨by rw [List.length_map]; exact K.len, by rw [List.length_map]; exact K.t0, by rw [List.length_map]; exact K.t12, fun i hi => ?_, fun i hi => M.wt_at K (by simpa using hi)⟩⟩
  · have hi' : i < (M.gt g).length := by simpa using hi
    rw [M.getD_at hi, List.getElem_map]
    exact (rng i hi').1
  · have hi' : i < (M.gt g).length := by simpa using hi
    rw [M.getD_at hi, List.getElem_map]
    exact (rng i hi').2

end Go.Proofs.YtandimbpealclacDoor

namespace Go.Proofs.YtandimbpealclacDoor
open Go.ChangeShapes Go.WideShapes Go.ChangeAt Go.RowKit Go.Lib
set_option linter.unusedVariables false

theorem three_ret {a b c d : Int} {x y : Value} (h1 : a = b) (h2 : c = d) (h3 : x = y) : Ending.returned (.tuple #[.int .i64 a, .int .i64 c, x]) = .returned (.tuple #[.int .i64 b, .int .i64 d, y]) := by rw [h1, h2, h3]

set_option maxHeartbeats 16000000 in
set_option maxRecDepth 10000 in
theorem gbounds_any (G : Gr) (w : World) (h : RdG w G) :
    Calls Tryd.prog 20 #[G.v] w fun e w' => e = .returned (.tuple #[.int .i64 (M.boundsV G.m).1, .int .i64 (M.boundsV G.m).2, errV (M.groveF G.m)]) ∧ Below w.heap.size w w' := by
  have C1 := hide (fun W (hW : Below w.heap.size w W) => gcheck_any G W (h.below hW))
  have B0 : Hid (∀ o, Below w.heap.size w (w.alloc o)) := fun o => (Below.refl _ w).alloc (Nat.le_refl _) o
  by_cases hg : M.groveF G.m = 0
  · have K := (M.good_iff _).1 hg
    have tlen : (M.gt G.m).length = G.ks.length := tl_len G.ks
    have n0 : 0 < G.ks.length := by rw [← tlen]; exact K.t0
    have n12 : G.ks.length ≤ 12 := by rw [← tlen]; exact K.t12
    obtain ⟨V1, V2⟩ := M.ends_vw K
    have w1 := K.w1
    have w3 := K.w3
    have w1' : 1 ≤ G.w := w1
    have w3' : G.w ≤ 3 := w3
    have LL : Hid (((M.gt G.m).map M.lowT).length = G.ks.length) := by unfold Hid; rw [List.length_map]; exact tlen
    have LH : Hid (((M.gt G.m).map M.highT).length = G.ks.length) := by unfold Hid; rw [List.length_map]; exact tlen
    have AL : Hid (∀ k (hk : k < G.ks.length), ((M.gt G.m).map M.lowT).getD k 0 = M.lowT G.ks[k].2.1 ∧ ((M.gt G.m).map M.highT).getD k 0 = M.highT G.ks[k].2.1) := fun k hk => by
      have e : (M.gt G.m)[k]'(by rw [tlen]; exact hk) = G.ks[k].2.1 := by show (tl G.ks)[k]'(by rw [tl_len]; exact hk) = _; simp [tl]
      rw [M.getD_at (by rw [LL.out]; exact hk), M.getD_at (by rw [LH.out]; exact hk), List.getElem_map, List.getElem_map, e]
      exact ⟨rfl, rfl⟩
    have FT : Hid (∀ k (hk : k < G.ks.length), M.Fair G.ks[k].2.1 G.f) := fun k hk => (M.tree_ok (K.trees G.ks[k].2.1 (List.mem_map.2 ⟨_, List.getElem_mem hk, rfl⟩))).1
    have RT : Hid (∀ W, Below w.heap.size w W → ∀ k (hk : k < G.ks.length), RdN W G.ks[k].1 G.ks[k].2.1) := fun W hW k hk => (h.below hW).2.2.1 _ (List.getElem_mem hk)
    obtain ⟨bt, ot, eta, hbt, hct0⟩ := h.2.2.2 (by intro e; rw [e] at n0; simp at n0)
    have HCT : Hid (∀ W, Below w.heap.size w W → ∀ i (hi : i < G.ks.length), W.cell? ⟨bt, ot + i, none⟩ = some (tV G.ks[i])) := fun W hW i hi => (hW.cell (p := ⟨bt, ot + i, none⟩) hbt).trans (hct0 i hi)
    have TG : Hid (∀ W ag cg vs, Vw G.ws vs → Below w.heap.size w W → Rd W ag vs → Calls Tryd.prog 36 #[.int .i64 G.w, .slice G.wa G.ws.length G.wc, .slice ag vs.length cg] W fun e w' => e = .returned (.int .i64 (M.together G.w G.ws vs)) ∧ Below W.heap.size W w') := fun W ag cg vs V hW hv => gtog_in G.w G.wa ag G.ws vs G.wc cg W (h.below hW).1 hv V w1' w3'
    have MI : Hid (∀ W ag cg vs, Vw G.ws vs → Rd W ag vs → Calls Tryd.prog 38 #[.slice ag vs.length cg] W fun e w' => e = .returned (.int .i64 (M.lowL vs)) ∧ w' = W) := fun W ag cg vs V hv => smin_in ag vs cg W hv V.pos V.top
    have MA : Hid (∀ W ag cg vs, Vw G.ws vs → Rd W ag vs → Calls Tryd.prog 39 #[.slice ag vs.length cg] W fun e w' => e = .returned (.int .i64 (M.highL vs)) ∧ w' = W) := fun W ag cg vs V hv => smax_in ag vs cg W hv V.pos V.top
    have BV : Hid (M.boundsV G.m = M.between G.w G.ws ((M.gt G.m).map M.lowT) ((M.gt G.m).map M.highT)) := by unfold Hid M.boundsV; rw [if_pos hg]; rfl
    have HV1 : Hid (Vw G.ws ((M.gt G.m).map M.lowT)) := V1
    have HV2 : Hid (Vw G.ws ((M.gt G.m).map M.highT)) := V2
    have mk := fun W => run_make_row' (P := Tryd.prog) 23 3 (.int .i64 0) 8 Tryd.underlying23 info3 (by simp [Value.cells]) .i64 .i64 G.ks.length (by omega) (by omega) W
    have ES : Hid (errV (M.groveF G.m) = .nilIface) := err_nil hg
    rw [err_nil hg] at C1
    unfold Gr.v at C1 ⊢
    rw [eta] at C1 ⊢
    clear hg K tlen hct0 hbt eta h V1 V2 w1 w3
    generalize errV (M.groveF G.m) = er at *
    generalize (M.gt G.m).map M.lowT = L at *
    generalize (M.gt G.m).map M.highT = H at *
    generalize M.boundsV G.m = bv at *
    go_enter Tryd.func20, Tryd.ntmps20
    go_upto_region 4 with (go_at_call 11; refine (C1.out _ (B0.out _)).mono ?_; rintro e w1 ⟨rfl, hb1⟩; have c3 := (kept_box hb1).2.2.2; have T2 := hide (bd_two LL.out LH.out n12 hb1))
    go_cut [6, 7] from 15 to 22 (fun u v wx => ∃ g1 g2, u = .slice (some ⟨g1, 0, none⟩) G.ks.length G.ks.length ∧ v = .slice (some ⟨g2, 0, none⟩) G.ks.length G.ks.length ∧ Hid (Bd (.int .i64 G.f) (.int .i64 G.w) (.slice G.wa G.ws.length G.wc) (.slice (some ⟨bt, ot, none⟩) G.ks.length G.tc) w G.ks.length L H wx 0 g1 g2))
    case first =>
      go_region_held3 (fun W => W.cell? ⟨w.heap.size, 3, none⟩ = some (.slice (some ⟨bt, ot, none⟩) G.ks.length G.tc)) (go_keep) (fail)
      all_goals go_wp2
      all_goals go_meet
      all_goals (case rel => first | exact ⟨_, _, rfl, rfl, T2.out.1⟩ | exact ⟨_, _, rfl, rfl, T2.out.2⟩)
    case rest =>
      obtain ⟨g1, g2, rfl, rfl, BD⟩ := hcut
      have d3 := BD.out.b3
      clear T2 c3 hb1 C1 mk
      go_wp2
      go_loopw [26] (fun i wr => ∃ k : Nat, k ≤ G.ks.length ∧ i = .int .i64 k ∧ Hid (Bd (.int .i64 G.f) (.int .i64 G.w) (.slice G.wa G.ws.length G.wc) (.slice (some ⟨bt, ot, none⟩) G.ks.length G.tc) w G.ks.length L H wr k g1 g2)) (fun i _ => G.ks.length - (intOf i).toNat)
      case atStart => exact ⟨0, Nat.zero_le _, rfl, BD⟩
      case round =>
        clear BD d3
        obtain ⟨k, hk, rfl, BK⟩ := hrel
        by_cases hlt : k < G.ks.length
        · have ct := HCT.out wr BK.out.below k hlt
          unfold tV at ct
          have kz : (k : Int) < (G.ks.length : Int) := by omega
          have EC := hide (ends_in G.ks[k].1 G.ks[k].2.1 G.ks[k].2.2 G.f wr (RT.out wr BK.out.below k hlt) (FT.out k hlt))
          have PK : Hid (∀ W, Below wr.heap.size wr W → Bd (.int .i64 G.f) (.int .i64 G.w) (.slice G.wa G.ws.length G.wc) (.slice (some ⟨bt, ot, none⟩) G.ks.length G.tc) w G.ks.length L H ((W.setCell ⟨g1, k, none⟩ (.int .i64 (M.lowT G.ks[k].2.1))).setCell ⟨g2, k, none⟩ (.int .i64 (M.highT G.ks[k].2.1))) (k + 1) g1 g2) := fun W hW => by
            have := (BK.out.up hW).put LL.out LH.out hlt
            rw [(AL.out k hlt).1, (AL.out k hlt).2] at this
            exact this
          have CC : Hid (∀ W, Below wr.heap.size wr W → (∃ z, W.cell? ⟨g1, k, none⟩ = some (.int .i64 z)) ∧ (∃ z, W.cell? ⟨g2, k, none⟩ = some (.int .i64 z)) ∧ W.frozen? ⟨g1, k, none⟩ = false ∧ W.frozen? ⟨g2, k, none⟩ = false) := fun W hW => (BK.out.up hW).cells LL.out LH.out hlt
          have nn : ¬ g1 = g2 := BK.out.ne
          clear HCT RT FT AL TG MI MA HV1 HV2
          generalize M.lowT G.ks[k].2.1 = lo at *
          generalize M.highT G.ks[k].2.1 = hi at *
          generalize G.ks[k].2.1.length = tn at *
          generalize G.ks[k].2.2 = tcc at *
          generalize G.ks[k].1 = ta at *
          go_wp2_with (go_at_call 37; refine EC.out.mono ?_; rintro e w4 ⟨rfl, hb4⟩; obtain ⟨⟨za, ca⟩, ⟨zb, cb⟩, fa, fb⟩ := CC.out w4 hb4; have P4 := hide (PK.out w4 hb4))
          go_roundw
          case rel => exact ⟨k + 1, by omega, by go_num, P4⟩
          case measure => simp [intOf]; omega
        · have ek : k = G.ks.length := by omega
          subst ek
          obtain ⟨r1, r2⟩ := BK.out.rd LL.out LH.out
          have b0 := BK.out.b0
          have b1 := BK.out.b1
          have b2 := BK.out.b2
          have b3 := BK.out.b3
          have bb := BK.out.below
          have R1 := hide r1
          have R2 := hide r2
          clear r1 r2 HCT RT FT AL hk hlt
          by_cases hv : G.w = 3
          · have qv : (G.w == 3) = true := by rw [beq_iff_eq]; exact hv
            have E1 : Hid (M.lowL L = bv.1) := by unfold Hid; rw [BV.out]; unfold M.between; rw [if_neg (by simp [hv])]
            have E2 : Hid (M.highL H = bv.2) := by unfold Hid; rw [BV.out]; unfold M.between; rw [if_neg (by simp [hv])]
            have c1 := hide (MI.out wr (some ⟨g1, 0, none⟩) G.ks.length L HV1.out R1.out)
            have c2 := hide (MA.out wr (some ⟨g2, 0, none⟩) G.ks.length H HV2.out R2.out)
            rw [LL.out] at c1
            rw [LH.out] at c2
            clear hv TG MI MA HV1 HV2 R1 R2 BK BV
            generalize M.lowL L = lo at *
            generalize M.highL H = hi at *
            go_wp2_with (first
              | (go_at_call 38; refine c1.out.mono ?_; rintro e w5 ⟨rfl, e5⟩; subst w5)
              | (go_at_call 39; refine c2.out.mono ?_; rintro e w5 ⟨rfl, e5⟩; subst w5))
            go_ret3
            exact ⟨three_ret E1.out E2.out ES.out.symm, bb⟩
          · have qv : (G.w == 3) = false := by rw [beq_eq_false_iff_ne]; exact hv
            have E1 : Hid (M.together G.w G.ws L = bv.1) := by unfold Hid; rw [BV.out]; unfold M.between; rw [if_pos hv]
            have E2 : Hid (M.together G.w G.ws H = bv.2) := by unfold Hid; rw [BV.out]; unfold M.between; rw [if_pos hv]
            have c1 := hide (fun W (hW : Below wr.heap.size wr W) => TG.out W (some ⟨g1, 0, none⟩) G.ks.length L HV1.out (below_on bb hW) (R1.out.below hW))
            have c2 := hide (fun W (hW : Below wr.heap.size wr W) => TG.out W (some ⟨g2, 0, none⟩) G.ks.length H HV2.out (below_on bb hW) (R2.out.below hW))
            rw [LL.out] at c1
            rw [LH.out] at c2
            have CB : Hid (∀ W, Below wr.heap.size wr W → W.cell? ⟨w.heap.size, 0, none⟩ = some (.int .i64 G.f) ∧ W.cell? ⟨w.heap.size, 1, none⟩ = some (.int .i64 G.w) ∧ W.cell? ⟨w.heap.size, 2, none⟩ = some (.slice G.wa G.ws.length G.wc) ∧ W.cell? ⟨w.heap.size, 3, none⟩ = some (.slice (some ⟨bt, ot, none⟩) G.ks.length G.tc)) := fun W hW => ⟨(BK.out.up hW).b0, (BK.out.up hW).b1, (BK.out.up hW).b2, (BK.out.up hW).b3⟩
            have bd : Below wr.heap.size wr wr.drew := (Below.refl _ wr).drew
            clear hv TG MI MA HV1 HV2 R1 R2 BK BV
            generalize M.together G.w G.ws L = lo at *
            generalize M.together G.w G.ws H = hi at *
            go_upto_region 12 with fail
            go_region_held3 (fun W => W.cell? ⟨w.heap.size, 0, none⟩ = some (.int .i64 G.f) ∧ W.cell? ⟨w.heap.size, 1, none⟩ = some (.int .i64 G.w) ∧ W.cell? ⟨w.heap.size, 2, none⟩ = some (.slice G.wa G.ws.length G.wc) ∧ W.cell? ⟨w.heap.size, 3, none⟩ = some (.slice (some ⟨bt, ot, none⟩) G.ks.length G.tc)) (go_keep) (first
              | (go_at_call_of 36 (Value.slice (some ⟨g1, 0, none⟩) G.ks.length G.ks.length); refine (c1.out _ ?_).mono ?_; (first | exact bd | exact bx); rintro e w5 ⟨rfl, hb5⟩; (first | (have by' := below_on bx hb5; have bz := hide by') | (have bx := below_on bd hb5)); obtain ⟨k0, k1, k2, k3⟩ := CB.out w5 (by first | exact by' | exact bx))
              | (go_at_call_of 36 (Value.slice (some ⟨g2, 0, none⟩) G.ks.length G.ks.length); refine (c2.out _ ?_).mono ?_; (first | exact bd | exact bx); rintro e w5 ⟨rfl, hb5⟩; (first | (have by' := below_on bx hb5; have bz := hide by') | (have bx := below_on bd hb5)); obtain ⟨k0, k1, k2, k3⟩ := CB.out w5 (by first | exact by' | exact bx)))
            all_goals go_wp2
            all_goals go_ret3
            all_goals exact ⟨three_ret E1.out E2.out ES.out.symm, below_on bb bz.out⟩
  · have EB : Hid (M.boundsV G.m = (0, 0)) := by unfold Hid M.boundsV; rw [if_neg hg]
    have ES := hide (err_some hg)
    rw [err_some hg] at C1
    unfold Gr.v at C1 ⊢
    clear hg h
    generalize errV (M.groveF G.m) = er at *
    generalize M.boundsV G.m = bv at *
    generalize M.groveF G.m = gF at *
    go_enter Tryd.func20, Tryd.ntmps20
    go_wp2_with (go_at_call 11; refine (C1.out _ (B0.out _)).mono ?_; rintro e w1 ⟨rfl, hb1⟩; have hb1' := below_on (B0.out _) hb1)
    go_ret3
    exact ⟨three_ret (by rw [EB.out]) (by rw [EB.out]) ES.out.symm, hb1'⟩

end Go.Proofs.YtandimbpealclacDoor

namespace Go.Proofs.YtandimbpealclacDoor
open Go.ChangeShapes Go.WideShapes Go.ChangeAt Go.RowKit Go.Lib
set_option linter.unusedVariables false

theorem infoTr : (Tryd.prog.info? 22).map (fun i => (i.zero, i.size, i.bytes)) = some (some (.slice none 0 0), 1, 24) := by kernel_rfl
theorem tr_one (ks : List Tc) : ∀ u ∈ ks.map tV, u.oneCell' = true := by
  intro u hu
  obtain ⟨k, _, rfl⟩ := List.mem_map.1 hu
  rfl
theorem tr_cells {w : World} {b off : Nat} {ks : List Tc} (hc : ∀ i (h : i < ks.length), w.cell? ⟨b, off + i, none⟩ = some (tV ks[i])) :
    ∀ j u, (ks.map tV)[j]? = some u → w.cell? ((⟨b, off, none⟩ : Addr).add j) = some u := by
  intro j u hj
  rw [List.getElem?_map] at hj
  by_cases h : j < ks.length
  · rw [List.getElem?_eq_getElem h] at hj
    rw [add_flat, hc j h]
    exact hj
  · rw [List.getElem?_eq_none (by omega)] at hj
    cases hj
theorem set_far {W : World} {p o q : Nat} {v : Value} (h : p ≠ q) : (W.setCell ⟨p, o, none⟩ v).heap[q]? = W.heap[q]? := by
  simp [World.setCell, Array.getElem?_modify, h]
theorem own_away {w : World} {base n e size p o : Nat} {v x : Value} {l : List Value} (h : w.ownsRow base e size v n l) (hp : p < base) : (w.setCell ⟨p, o, none⟩ x).ownsRow base e size v n l := by
  refine ⟨h.1, ?_⟩
  rcases h.2 with h0 | ⟨g, cap, cur, hv, h1, h2, h3⟩
  · exact .inl h0
  · refine .inr ⟨g, cap, cur, hv, h1, ?_, h3⟩
    rw [← h2]
    have : ¬ p = g := by omega
    simp [World.setCell, Array.getElem?_modify, this]

structure Bo (W0 : World) (f wy : Int) (bb BB : Nat) (W : World) (x y : Value) (n m : Nat) (Ws : List Int) (C : List Tc) : Prop where
  c0 : W.cell? ⟨bb, 0, none⟩ = some (.int .i64 f)
  c1 : W.cell? ⟨bb, 1, none⟩ = some (.int .i64 wy)
  c2 : W.cell? ⟨bb, 2, none⟩ = some x
  c3 : W.cell? ⟨bb, 3, none⟩ = some y
  f2 : W.frozen? ⟨bb, 2, none⟩ = false
  f3 : W.frozen? ⟨bb, 3, none⟩ = false
  ox : W.ownsRow BB 3 1 x n (Ws.map (Value.int .i64))
  oy : W.ownsRow BB 22 1 y m (C.map tV)
  dj : x.ownBlock = none ∨ y.ownBlock = none ∨ x.ownBlock ≠ y.ownBlock
  lt : bb < BB
  ge : W0.heap.size ≤ bb
  sz : BB ≤ W.heap.size
  below : Below W0.heap.size W0 W
theorem Bo.same {W0 W W' : World} {f wy : Int} {bb BB : Nat} {x y : Value} {n m : Nat} {Ws : List Int} {C : List Tc} (h : Bo W0 f wy bb BB W x y n m Ws C) (hb : W'.heap[bb]? = W.heap[bb]?) (ox : W'.ownsRow BB 3 1 x n (Ws.map (Value.int .i64))) (oy : W'.ownsRow BB 22 1 y m (C.map tV)) (hz : W.heap.size ≤ W'.heap.size) (hB : Below W0.heap.size W0 W') : Bo W0 f wy bb BB W' x y n m Ws C := by
  have c : ∀ j, W'.cell? ⟨bb, j, none⟩ = W.cell? ⟨bb, j, none⟩ := fun j => World.cell?_of_block (a := ⟨bb, j, none⟩) hb
  have fr : ∀ j, W'.frozen? ⟨bb, j, none⟩ = W.frozen? ⟨bb, j, none⟩ := fun j => World.frozen?_of_block (a := ⟨bb, j, none⟩) hb
  exact ⟨(c 0).trans h.c0, (c 1).trans h.c1, (c 2).trans h.c2, (c 3).trans h.c3, (fr 2).trans h.f2, (fr 3).trans h.f3, ox, oy, h.dj, h.lt, h.ge, Nat.le_trans h.sz hz, hB⟩
theorem Bo.up {W0 W W' : World} {f wy : Int} {bb BB : Nat} {x y : Value} {n m : Nat} {Ws : List Int} {C : List Tc} (h : Bo W0 f wy bb BB W x y n m Ws C) (hb : Below W.heap.size W W') : Bo W0 f wy bb BB W' x y n m Ws C :=
  h.same (hb.block bb (by have := h.lt; have := h.sz; omega)) (own_up h.ox hb) (own_up h.oy hb) hb.size (below_on h.below hb)
/-- more weights -/
theorem Bo.moreX {W0 W W' : World} {f wy : Int} {bb BB : Nat} {x y : Value} {n m : Nat} {Ws : List Int} {C : List Tc} (h : Bo W0 f wy bb BB W x y n m Ws C) {g cap k : Nat} {ys : List Int} (hg : W.grownBy W' x.ownBlock) (ho : W'.ownsRow BB 3 1 (.slice (some ⟨g, 0, none⟩) k cap) k ((Ws ++ ys).map (Value.int .i64))) (hor : x.ownBlock = some g ∨ g = W.heap.size) (hl : g < W'.heap.size) :
    W'.cell? ⟨bb, 2, none⟩ = some x ∧ W'.frozen? ⟨bb, 2, none⟩ = false ∧ W'.cell? ⟨bb, 3, none⟩ = some y ∧ Below W0.heap.size W0 W' ∧ Bo W0 f wy bb BB (W'.setCell ⟨bb, 2, none⟩ (.slice (some ⟨g, 0, none⟩) k cap)) (.slice (some ⟨g, 0, none⟩) k cap) y k m (Ws ++ ys) C := by
  have h1 := h.lt
  have h2 := h.sz
  have h3 := h.ge
  have hX : ∀ q, x.ownBlock = some q → BB ≤ q := fun q hq => (h.ox.lt q hq).1
  have sb : W'.heap[bb]? = W.heap[bb]? := hg.block bb (by omega) (fun e => by have := hX bb e.symm; omega)
  have c : ∀ j, W'.cell? ⟨bb, j, none⟩ = W.cell? ⟨bb, j, none⟩ := fun j => World.cell?_of_block (a := ⟨bb, j, none⟩) sb
  have fr : ∀ j, W'.frozen? ⟨bb, j, none⟩ = W.frozen? ⟨bb, j, none⟩ := fun j => World.frozen?_of_block (a := ⟨bb, j, none⟩) sb
  have o : ∀ (j : Nat), j ≠ 2 → (W'.setCell ⟨bb, 2, none⟩ (.slice (some ⟨g, 0, none⟩) k cap)).cell? ⟨bb, j, none⟩ = W'.cell? ⟨bb, j, none⟩ := fun j hj => World.cell?_setCell_other _ _ _ _ (by intro e; cases e; exact hj rfl)
  have c2' := (c 2).trans h.c2
  have f2' := (fr 2).trans h.f2
  have ky : y.ownBlock = none ∨ y.ownBlock ≠ x.ownBlock := by
    by_cases hy : y.ownBlock = none
    · exact .inl hy
    · rcases h.dj with q | q | q
      · exact .inr (by rw [q]; exact hy)
      · exact absurd q hy
      · exact .inr (fun e => q e.symm)
  have bg := h.below.grown hg (by omega) (fun q hq => by have := hX q hq; omega)
  refine ⟨c2', f2', (c 3).trans h.c3, bg, (o 0 (by decide)).trans ((c 0).trans h.c0), (o 1 (by decide)).trans ((c 1).trans h.c1), World.cell?_setCell_same _ _ _ c2', (o 3 (by decide)).trans ((c 3).trans h.c3), by simpa using f2', by simpa using (fr 3).trans h.f3, own_away ho h1, own_away (h.oy.kept hg ky) h1, ?_, h1, h3, by simp; exact Nat.le_trans h2 hg.size, ?_⟩
  · show some g = none ∨ y.ownBlock = none ∨ some g ≠ y.ownBlock
    by_cases hy : y.ownBlock = none
    · exact .inr (.inl hy)
    · refine .inr (.inr (fun e => ?_))
      rcases hor with q | q
      · rcases h.dj with d | d | d
        · rw [d] at q; cases q
        · exact hy d
        · exact d (q.trans e)
      · have := (h.oy.lt g e.symm).2
        omega
  · exact (h.below.grown hg (by omega) (fun q hq => by have := hX q hq; omega)).setCell (p := ⟨bb, 2, none⟩) h3 _
/-- more trees -/
theorem Bo.moreY {W0 W W' : World} {f wy : Int} {bb BB : Nat} {x y : Value} {n m : Nat} {Ws : List Int} {C : List Tc} (h : Bo W0 f wy bb BB W x y n m Ws C) {g cap k : Nat} {ys : List Tc} (hg : W.grownBy W' y.ownBlock) (ho : W'.ownsRow BB 22 1 (.slice (some ⟨g, 0, none⟩) k cap) k ((C ++ ys).map tV)) (hor : y.ownBlock = some g ∨ g = W.heap.size) (hl : g < W'.heap.size) :
    W'.cell? ⟨bb, 3, none⟩ = some y ∧ W'.frozen? ⟨bb, 3, none⟩ = false ∧ W'.cell? ⟨bb, 2, none⟩ = some x ∧ Below W0.heap.size W0 W' ∧ Bo W0 f wy bb BB (W'.setCell ⟨bb, 3, none⟩ (.slice (some ⟨g, 0, none⟩) k cap)) x (.slice (some ⟨g, 0, none⟩) k cap) n k Ws (C ++ ys) := by
  have h1 := h.lt
  have h2 := h.sz
  have h3 := h.ge
  have hX : ∀ q, y.ownBlock = some q → BB ≤ q := fun q hq => (h.oy.lt q hq).1
  have sb : W'.heap[bb]? = W.heap[bb]? := hg.block bb (by omega) (fun e => by have := hX bb e.symm; omega)
  have c : ∀ j, W'.cell? ⟨bb, j, none⟩ = W.cell? ⟨bb, j, none⟩ := fun j => World.cell?_of_block (a := ⟨bb, j, none⟩) sb
  have fr : ∀ j, W'.frozen? ⟨bb, j, none⟩ = W.frozen? ⟨bb, j, none⟩ := fun j => World.frozen?_of_block (a := ⟨bb, j, none⟩) sb
  have o : ∀ (j : Nat), j ≠ 3 → (W'.setCell ⟨bb, 3, none⟩ (.slice (some ⟨g, 0, none⟩) k cap)).cell? ⟨bb, j, none⟩ = W'.cell? ⟨bb, j, none⟩ := fun j hj => World.cell?_setCell_other _ _ _ _ (by intro e; cases e; exact hj rfl)
  have c3' := (c 3).trans h.c3
  have f3' := (fr 3).trans h.f3
  have kx : x.ownBlock = none ∨ x.ownBlock ≠ y.ownBlock := by
    by_cases hx : x.ownBlock = none
    · exact .inl hx
    · rcases h.dj with q | q | q
      · exact absurd q hx
      · exact .inr (by rw [q]; exact hx)
      · exact .inr q
  have bg := h.below.grown hg (by omega) (fun q hq => by have := hX q hq; omega)
  refine ⟨c3', f3', (c 2).trans h.c2, bg, (o 0 (by decide)).trans ((c 0).trans h.c0), (o 1 (by decide)).trans ((c 1).trans h.c1), (o 2 (by decide)).trans ((c 2).trans h.c2), World.cell?_setCell_same _ _ _ c3', by simpa using (fr 2).trans h.f2, by simpa using f3', own_away (h.ox.kept hg kx) h1, own_away ho h1, ?_, h1, h3, by simp; exact Nat.le_trans h2 hg.size, ?_⟩
  · show x.ownBlock = none ∨ some g = none ∨ x.ownBlock ≠ some g
    by_cases hy : x.ownBlock = none
    · exact .inl hy
    · refine .inr (.inr (fun e => ?_))
      rcases hor with q | q
      · rcases h.dj with d | d | d
        · exact hy d
        · rw [d] at q; cases q
        · exact d (e.trans q.symm)
      · have := (h.ox.lt g e).2
        omega
  · exact (h.below.grown hg (by omega) (fun q hq => by have := hX q hq; omega)).setCell (p := ⟨bb, 3, none⟩) h3 _

theorem bo_start {W0 W : World} (f wy : Int) (hb : Below W0.heap.size W0 W) : Bo W0 f wy W.heap.size (W.heap.size + 1) (W.alloc (.cells #[.int .i64 f, .int .i64 wy, .slice none 0 0, .slice none 0 0] 38)) (.slice none 0 0) (.slice none 0 0) 0 0 [] [] := by
  have fz : ∀ j, (W.alloc (.cells #[.int .i64 f, .int .i64 wy, .slice none 0 0, .slice none 0 0] 38)).frozen? ⟨W.heap.size, j, none⟩ = false := fun j => by
    unfold World.frozen?
    rw [show (W.alloc (.cells #[.int .i64 f, .int .i64 wy, .slice none 0 0, .slice none 0 0] 38)).heap[W.heap.size]? = some (.cells #[.int .i64 f, .int .i64 wy, .slice none 0 0, .slice none 0 0] 38) from (MapKept.heap_alloc W _).1]
    simp
  exact ⟨World.cell?_alloc_at _ _ _ 0 rfl, World.cell?_alloc_at _ _ _ 1 rfl, World.cell?_alloc_at _ _ _ 2 rfl, World.cell?_alloc_at _ _ _ 3 rfl, fz 2, fz 3, World.ownsRow_nil _ _ _ _, World.ownsRow_nil _ _ _ _, .inl rfl, by omega, hb.size, by simp, hb.alloc hb.size _⟩
/-- as a grove -/
theorem Bo.rdg {W0 W : World} {f wy : Int} {bb BB : Nat} {g1 g2 c1 c2 n m : Nat} {Ws : List Int} {C : List Tc} (h : Bo W0 f wy bb BB W (.slice (some ⟨g1, 0, none⟩) n c1) (.slice (some ⟨g2, 0, none⟩) m c2) n m Ws C) (hn : Ws.length = n) (hm : C.length = m) (h12 : m ≤ 12) (hC : ∀ k ∈ C, RdN W k.1 k.2.1) : RdG W ⟨f, wy, some ⟨g1, 0, none⟩, Ws, c1, some ⟨g2, 0, none⟩, C, c2⟩ := by
  have ox : W.ownsRow BB 3 1 (.slice (some ⟨g1, 0, none⟩) Ws.length c1) Ws.length (Ws.map (Value.int .i64)) := by rw [hn]; exact h.ox
  obtain ⟨a, c, e, hr, _⟩ := own_rd ox
  cases e
  refine ⟨hr, by show C.length ≤ maxLen; rw [hm]; unfold maxLen; omega, hC, fun _ => ⟨g2, 0, rfl, ?_, fun i hi => ?_⟩⟩
  · rcases h.oy.2 with ⟨hv, _⟩ | ⟨g, cp, cur, hv, _, hg, _⟩
    · cases hv
    · cases hv
      exact (Array.getElem?_eq_some_iff.1 hg).1
  · have hi' : i < C.length := hi
    rw [Nat.zero_add]
    refine (h.oy.cellAt i (by omega)).trans ?_
    rw [List.getElem?_map, List.getElem?_eq_getElem hi']
    rfl

end Go.Proofs.YtandimbpealclacDoor

namespace Go.Proofs.YtandimbpealclacDoor
open Go.ChangeShapes Go.WideShapes Go.ChangeAt Go.RowKit Go.Lib
set_option linter.unusedVariables false

theorem kept_pair {w W : World} {a0 a1 a2 a3 b0 b1 b2 b3 : Value} {t u : TypeId} (h : Below ((w.alloc (.cells #[a0, a1, a2, a3] t)).alloc (.cells #[b0, b1, b2, b3] u)).heap.size ((w.alloc (.cells #[a0, a1, a2, a3] t)).alloc (.cells #[b0, b1, b2, b3] u)) W) :
    Below w.heap.size w W ∧ (W.cell? ⟨w.heap.size, 0, none⟩ = some a0 ∧ W.cell? ⟨w.heap.size, 1, none⟩ = some a1 ∧ W.cell? ⟨w.heap.size, 2, none⟩ = some a2 ∧ W.cell? ⟨w.heap.size, 3, none⟩ = some a3) ∧
    (W.cell? ⟨w.heap.size + 1, 0, none⟩ = some b0 ∧ W.cell? ⟨w.heap.size + 1, 1, none⟩ = some b1 ∧ W.cell? ⟨w.heap.size + 1, 2, none⟩ = some b2 ∧ W.cell? ⟨w.heap.size + 1, 3, none⟩ = some b3) := by
  have e : (w.alloc (.cells #[a0, a1, a2, a3] t)).heap.size = w.heap.size + 1 := by simp
  have h2 : Below (w.alloc (.cells #[a0, a1, a2, a3] t)).heap.size (w.alloc (.cells #[a0, a1, a2, a3] t)) W := below_on ((Below.refl _ _).alloc (Nat.le_refl _) _) h
  have := kept_grove h
  rw [e] at this
  exact ⟨below_on ((Below.refl _ w).alloc (Nat.le_refl _) _) h2, kept_grove h2, this⟩

theorem cell_grown {w w' : World} {row : Option Nat} {g o : Nat} (hg : w.grownBy w' row) (hl : g < w.heap.size) (hne : row ≠ some g) : w'.cell? ⟨g, o, none⟩ = w.cell? ⟨g, o, none⟩ :=
  World.cell?_of_block (w := w) (a := ⟨g, o, none⟩) (hg.block g hl (fun e => hne e.symm))

set_option maxHeartbeats 32000000 in
set_option maxRecDepth 10000 in
theorem gtells_core (G O : Gr) (b : Option Addr) (xs : List Int) (cb : Nat) (w : World) (e f eo ej : Int) (EL LW HI : List Int) (V lo hi : Int) (JM : M.Gv)
    (RG : Hid (∀ W, Below w.heap.size w W → Calls Tryd.prog 9 #[.agg #[.int .i64 G.f, .int .i64 G.w, .slice G.wa G.ws.length G.wc, .slice G.ta G.ks.length G.tc]] W fun r w' => r = .returned (.int .i64 e) ∧ Below W.heap.size W w'))
    (RO : Hid (∀ W, Below w.heap.size w W → Calls Tryd.prog 9 #[.agg #[.int .i64 O.f, .int .i64 O.w, .slice O.wa O.ws.length O.wc, .slice O.ta O.ks.length O.tc]] W fun r w' => r = .returned (.int .i64 eo) ∧ Below W.heap.size W w'))
    (CK : Hid (∀ W, Below w.heap.size w W → Calls Tryd.prog 11 #[.agg #[.int .i64 G.f, .int .i64 G.w, .slice G.wa G.ws.length G.wc, .slice G.ta G.ks.length G.tc]] W fun r w' => r = .returned (errV e) ∧ Below W.heap.size W w'))
    (ER : Hid (∀ c W, Below w.heap.size w W → Calls Tryd.prog 10 #[errV c, .int .i64 c] W fun r w' => r = .returned (.bool true) ∧ Below W.heap.size W w'))
    (IN : Hid (∀ ag cg bg dg R W, Rd W ag R → Rd W bg R → Calls Tryd.prog 17 #[.slice ag R.length cg, .slice bg R.length dg] W fun r w' => r = .returned (.bool true) ∧ Below W.heap.size W w'))
    (RS : Hid (∀ W, Below w.heap.size w W → Calls Tryd.prog 12 #[.agg #[.int .i64 G.f, .int .i64 G.w, .slice G.wa G.ws.length G.wc, .slice G.ta G.ks.length G.tc], .slice b xs.length cb] W fun r w' => r = .returned (.int .i64 f) ∧ Below W.heap.size W w'))
    (RE : Hid (f = 0 → ∀ W, Below w.heap.size w W → Calls Tryd.prog 13 #[.agg #[.int .i64 G.f, .int .i64 G.w, .slice G.wa G.ws.length G.wc, .slice G.ta G.ks.length G.tc], .slice b xs.length cb] W fun r w' => ∃ ag cg, r = .returned (.slice ag EL.length cg) ∧ Rd w' ag EL ∧ Below W.heap.size W w'))
    (RT : Hid (f = 0 → ∀ ag cg W, Below w.heap.size w W → Rd W ag EL → Calls Tryd.prog 14 #[.agg #[.int .i64 G.f, .int .i64 G.w, .slice G.wa G.ws.length G.wc, .slice G.ta G.ks.length G.tc], .slice ag EL.length cg] W fun r w' => r = .returned (.int .i64 V) ∧ Below W.heap.size W w'))
    (RZ : Hid (f ≠ 0 → EL = [] ∧ V = 0))
    (PE : Hid (∀ W, Below w.heap.size w W → Calls Tryd.prog 15 #[.agg #[.int .i64 G.f, .int .i64 G.w, .slice G.wa G.ws.length G.wc, .slice G.ta G.ks.length G.tc], .slice b xs.length cb] W fun r w' => ∃ ag cg, r = .returned (.tuple #[.slice ag EL.length cg, errV f]) ∧ Rd w' ag EL ∧ Below W.heap.size W w'))
    (PV : Hid (∀ W, Below w.heap.size w W → Calls Tryd.prog 16 #[.agg #[.int .i64 G.f, .int .i64 G.w, .slice G.wa G.ws.length G.wc, .slice G.ta G.ks.length G.tc], .slice b xs.length cb] W fun r w' => r = .returned (.tuple #[.int .i64 V, errV f]) ∧ Below W.heap.size W w'))
    (n12 : Hid (e = 0 → G.ks.length ≤ 12))
    (TR : Hid (∀ W, Below w.heap.size w W → RdT W G.ta G.ks))
    (TB : Hid (e = 0 → ∀ k (h : k < G.ks.length), G.ks[k].2.1.length ≤ 63 ∧ 0 < (M.lvK G.ks[k].2.1 G.ks[k].2.1.length).length))
    (LK : Hid (∀ k (h : k < G.ks.length), LW.take (k + 1) = LW.take k ++ [M.lowL (M.lvK G.ks[k].2.1 G.ks[k].2.1.length)] ∧ HI.take (k + 1) = HI.take k ++ [M.highL (M.lvK G.ks[k].2.1 G.ks[k].2.1.length)]))
    (LN : Hid (LW.length = G.ks.length ∧ HI.length = G.ks.length))
    (BT : Hid (e = 0 → ∀ ag cg bg dg W, Below w.heap.size w W → Rd W ag LW → Rd W bg HI → Calls Tryd.prog 19 #[.agg #[.int .i64 G.f, .int .i64 G.w, .slice G.wa G.ws.length G.wc, .slice G.ta G.ks.length G.tc], .slice ag LW.length cg, .slice bg HI.length dg] W fun r w' => r = .returned (.tuple #[.int .i64 lo, .int .i64 hi]) ∧ Below W.heap.size W w'))
    (BN : Hid (e ≠ 0 → lo = 0 ∧ hi = 0))
    (PB : Hid (∀ W, Below w.heap.size w W → Calls Tryd.prog 20 #[.agg #[.int .i64 G.f, .int .i64 G.w, .slice G.wa G.ws.length G.wc, .slice G.ta G.ks.length G.tc]] W fun r w' => r = .returned (.tuple #[.int .i64 lo, .int .i64 hi, errV e]) ∧ Below W.heap.size W w'))
    (E1 : Hid (e ≠ 0 → ej = e)) (E2 : Hid (e = 0 → eo ≠ 0 → ej = eo)) (E3 : Hid (e = 0 → eo = 0 → (G.f ≠ O.f ∨ G.w ≠ O.w) → ej = 3)) (E4 : Hid (e = 0 → eo = 0 → G.f = O.f → G.w = O.w → 12 < G.ks.length + O.ks.length → ej = 4)) (E5 : Hid (e = 0 → eo = 0 → G.f = O.f → G.w = O.w → G.ks.length + O.ks.length ≤ 12 → ej = 0))
    (mo : O.ks.length ≤ 9223372036854775807) (o12 : Hid (eo = 0 → O.ks.length ≤ 12))
    (JZ : Hid (ej ≠ 0 → JM = (0, 0, [], [])))
    (PJ : Hid (∀ W, Below w.heap.size w W → Calls Tryd.prog 21 #[.agg #[.int .i64 G.f, .int .i64 G.w, .slice G.wa G.ws.length G.wc, .slice G.ta G.ks.length G.tc], .agg #[.int .i64 O.f, .int .i64 O.w, .slice O.wa O.ws.length O.wc, .slice O.ta O.ks.length O.tc]] W fun r w' => ∃ J : Gr, r = .returned (.tuple #[J.v, errV ej]) ∧ J.m = JM ∧ RdG w' J ∧ Below W.heap.size W w'))
    (GS : Hid (∀ (G1 G2 : Gr) W, RdG W G1 → RdG W G2 → G1.m = G2.m → Calls Tryd.prog 22 #[G1.v, G2.v] W fun r w' => r = .returned (.bool true) ∧ Below W.heap.size W w'))
    (PG : Hid (ej = 0 → RdG w G ∧ RdG w O ∧ 0 < G.ks.length ∧ 0 < O.ks.length ∧ G.ws.length = G.ks.length ∧ O.ws.length = O.ks.length)) (JG : Hid (ej = 0 → JM = M.joinG G.m O.m))
    :
    Calls Tryd.prog 4 #[.agg #[.int .i64 G.f, .int .i64 G.w, .slice G.wa G.ws.length G.wc, .slice G.ta G.ks.length G.tc], .agg #[.int .i64 O.f, .int .i64 O.w, .slice O.wa O.ws.length O.wc, .slice O.ta O.ks.length O.tc], .slice b xs.length cb] w fun r w' => r = .returned (.bool true) ∧ Below w.heap.size w w' := by
  have KP : Hid (∀ W, Below ((w.alloc (.cells #[.int .i64 G.f, .int .i64 G.w, .slice G.wa G.ws.length G.wc, .slice G.ta G.ks.length G.tc] 38)).alloc (.cells #[.int .i64 O.f, .int .i64 O.w, .slice O.wa O.ws.length O.wc, .slice O.ta O.ks.length O.tc] 38)).heap.size ((w.alloc (.cells #[.int .i64 G.f, .int .i64 G.w, .slice G.wa G.ws.length G.wc, .slice G.ta G.ks.length G.tc] 38)).alloc (.cells #[.int .i64 O.f, .int .i64 O.w, .slice O.wa O.ws.length O.wc, .slice O.ta O.ks.length O.tc] 38)) W → Below w.heap.size w W ∧ (W.cell? ⟨w.heap.size, 0, none⟩ = some (.int .i64 G.f) ∧ W.cell? ⟨w.heap.size, 1, none⟩ = some (.int .i64 G.w) ∧ W.cell? ⟨w.heap.size, 2, none⟩ = some (.slice G.wa G.ws.length G.wc) ∧ W.cell? ⟨w.heap.size, 3, none⟩ = some (.slice G.ta G.ks.length G.tc)) ∧ (W.cell? ⟨w.heap.size + 1, 0, none⟩ = some (.int .i64 O.f) ∧ W.cell? ⟨w.heap.size + 1, 1, none⟩ = some (.int .i64 O.w) ∧ W.cell? ⟨w.heap.size + 1, 2, none⟩ = some (.slice O.wa O.ws.length O.wc) ∧ W.cell? ⟨w.heap.size + 1, 3, none⟩ = some (.slice O.ta O.ks.length O.tc))) := fun W hW => kept_pair hW
  have B0 : Hid (Below ((w.alloc (.cells #[.int .i64 G.f, .int .i64 G.w, .slice G.wa G.ws.length G.wc, .slice G.ta G.ks.length G.tc] 38)).alloc (.cells #[.int .i64 O.f, .int .i64 O.w, .slice O.wa O.ws.length O.wc, .slice O.ta O.ks.length O.tc] 38)).heap.size ((w.alloc (.cells #[.int .i64 G.f, .int .i64 G.w, .slice G.wa G.ws.length G.wc, .slice G.ta G.ks.length G.tc] 38)).alloc (.cells #[.int .i64 O.f, .int .i64 O.w, .slice O.wa O.ws.length O.wc, .slice O.ta O.ks.length O.tc] 38)) ((w.alloc (.cells #[.int .i64 G.f, .int .i64 G.w, .slice G.wa G.ws.length G.wc, .slice G.ta G.ks.length G.tc] 38)).alloc (.cells #[.int .i64 O.f, .int .i64 O.w, .slice O.wa O.ws.length O.wc, .slice O.ta O.ks.length O.tc] 38))) := Below.refl _ _
  go_enter Tryd.func4, Tryd.ntmps4
  go_upto_region 6 with (first
    | (go_at_call 12; refine (RS.out _ k3).mono ?_; rintro r w4 ⟨rfl, h4⟩; have g4 := below_on g3 h4; have q4 := KP.out _ g4; have k4 := q4.1; have x40 := q4.2.1.1; have x41 := q4.2.1.2.1; have x42 := q4.2.1.2.2.1; have x43 := q4.2.1.2.2.2; clear q4)
    | (go_at_call 10; refine (ER.out _ _ k2).mono ?_; rintro r w3 ⟨rfl, h3⟩; have g3 := below_on g2 h3; have q3 := KP.out _ g3; have k3 := q3.1; have x30 := q3.2.1.1; have x31 := q3.2.1.2.1; have x32 := q3.2.1.2.2.1; have x33 := q3.2.1.2.2.2; clear q3)
    | (go_at_call 11; refine (CK.out _ k1).mono ?_; rintro r w2 ⟨rfl, h2⟩; have g2 := below_on g1 h2; have q2 := KP.out _ g2; have k2 := q2.1; have x20 := q2.2.1.1; have x21 := q2.2.1.2.1; have x22 := q2.2.1.2.2.1; have x23 := q2.2.1.2.2.2; clear q2)
    | (go_at_call 9; refine (RG.out _ (KP.out _ B0.out).1).mono ?_; rintro r w1 ⟨rfl, h1⟩; have g1 := below_on B0.out h1; have q1 := KP.out _ g1; have k1 := q1.1; have x10 := q1.2.1.1; have x11 := q1.2.1.2.1; have x12 := q1.2.1.2.2.1; have x13 := q1.2.1.2.2.2; clear q1))
  have G4 := hide g4
  clear g1 g2 g3 g4 k1 k2 k3 h1 h2 h3 h4 x10 x11 x12 x13 x20 x21 x22 x23 x30 x31 x32 x33 x40 x41 x42 x43 k4 RG CK RS B0
  go_cut [42] from 41 to 42 (fun v wx => ∃ q : Bool, v = .bool q ∧ Hid (q = decide (f = 0)) ∧ wx = w4)
  case first =>
    by_cases h : f = 0
    · have t : (f == 0) = true := by rw [beq_iff_eq]; exact h
      have E : Hid (true = decide (f = 0)) := (decide_eq_true h).symm
      clear h
      go_wp2
      go_meet
      case rel => exact ⟨true, rfl, E, rfl⟩
    · have t : (f == 0) = false := by rw [beq_eq_false_iff_ne]; exact h
      have E : Hid (false = decide (f = 0)) := (decide_eq_false h).symm
      clear h
      go_wp2
      go_meet
      case rel => exact ⟨false, rfl, E, rfl⟩
  case rest =>
    obtain ⟨q, rfl, HQ, rfl⟩ := hcut
    go_upto_if 42 with fail
    go_cut [10, 11] from 43 to 48 (fun u v wx => (∃ ag cg, u = .slice ag EL.length cg ∧ Hid (Rd wx ag EL)) ∧ v = .int .i64 V ∧ Hid (Below ((w.alloc (.cells #[.int .i64 G.f, .int .i64 G.w, .slice G.wa G.ws.length G.wc, .slice G.ta G.ks.length G.tc] 38)).alloc (.cells #[.int .i64 O.f, .int .i64 O.w, .slice O.wa O.ws.length O.wc, .slice O.ta O.ks.length O.tc] 38)).heap.size ((w.alloc (.cells #[.int .i64 G.f, .int .i64 G.w, .slice G.wa G.ws.length G.wc, .slice G.ta G.ks.length G.tc] 38)).alloc (.cells #[.int .i64 O.f, .int .i64 O.w, .slice O.wa O.ws.length O.wc, .slice O.ta O.ks.length O.tc] 38)) wx))
    case first =>
      cases q with
      | false =>
        have E := hide (RZ.out (of_decide_eq_false HQ.out.symm))
        have RN : Hid (Rd wc none EL) := by unfold Hid; rw [E.out.1]; exact ⟨Nat.zero_le _, fun h => absurd rfl h⟩
        clear HQ RE RT RZ PE PV ER IN RO KP
        go_wp2
        go_meet
        case rel => exact ⟨⟨none, 0, by rw [E.out.1]; rfl, RN⟩, by rw [E.out.2], G4⟩
      | true =>
        have f0 := of_decide_eq_true HQ.out.symm
        have R1 := hide (RE.out f0)
        have R2 := hide (RT.out f0)
        obtain ⟨k4, ⟨x0, x1, x2, x3⟩, _⟩ := KP.out _ G4.out
        clear HQ RE RT RZ PE PV ER IN RO f0
        go_wp2_with (first
          | (go_at_call 14; refine (R2.out _ _ _ k5 HR.out).mono ?_; rintro r w6 ⟨rfl, h6⟩; have g6 := below_on g5 h6; have HR6 := hide (HR.out.below h6))
          | (go_at_call 13; refine (R1.out _ k4).mono ?_; rintro r w5 ⟨ag, cg, rfl, hrd, h5⟩; have g5 := below_on G4.out h5; have q5 := KP.out _ g5; have k5 := q5.1; have y0 := q5.2.1.1; have y1 := q5.2.1.2.1; have y2 := q5.2.1.2.2.1; have y3 := q5.2.1.2.2.2; have HR := hide hrd; clear q5 hrd))
        go_meet
        case rel => exact ⟨⟨ag, cg, rfl, HR6⟩, rfl, g6⟩
    case rest =>
      obtain ⟨⟨ag, cg, rfl, HR⟩, rfl, G6⟩ := hcut
      obtain ⟨k6, ⟨x0, x1, x2, x3⟩, _⟩ := KP.out _ G6.out
      have g6 := G6.out
      clear RE RT RZ HQ G4
      go_upto_region 14 with (first
        | (go_at_call 17; refine (IN.out _ _ _ _ _ _ HL10.out HR10.out).mono ?_; rintro r w11 ⟨rfl, h11⟩; have g11 := below_on g10 h11)
        | (go_at_call 10; refine (ER.out _ _ k9).mono ?_; rintro r w10 ⟨rfl, h10⟩; have g10 := below_on g9 h10; have q10 := KP.out _ g10; have k10 := q10.1; have y100 := q10.2.1.1; have y101 := q10.2.1.2.1; have y102 := q10.2.1.2.2.1; have y103 := q10.2.1.2.2.2; have HL10 := hide (HL9.out.below h10); have HR10 := hide (HR9.out.below h10); clear q10)
        | (go_at_call 16; refine (PV.out _ k8).mono ?_; rintro r w9 ⟨rfl, h9⟩; have g9 := below_on g8 h9; have q9 := KP.out _ g9; have k9 := q9.1; have y90 := q9.2.1.1; have y91 := q9.2.1.2.1; have y92 := q9.2.1.2.2.1; have y93 := q9.2.1.2.2.2; have HL9 := hide (HL8.out.below h9); have HR9 := hide (HR8.out.below h9); clear q9)
        | (go_at_call 10; refine (ER.out _ _ k7).mono ?_; rintro r w8 ⟨rfl, h8⟩; have g8 := below_on g7 h8; have q8 := KP.out _ g8; have k8 := q8.1; have y80 := q8.2.1.1; have y81 := q8.2.1.2.1; have y82 := q8.2.1.2.2.1; have y83 := q8.2.1.2.2.2; have HL8 := hide (HL7.out.below h8); have HR8 := hide (HR7.out.below h8); clear q8)
        | (go_at_call 15; refine (PE.out _ k6).mono ?_; rintro r w7 ⟨al, cl, rfl, hl7, h7⟩; have g7 := below_on g6 h7; have q7 := KP.out _ g7; have k7 := q7.1; have y70 := q7.2.1.1; have y71 := q7.2.1.2.1; have y72 := q7.2.1.2.2.1; have y73 := q7.2.1.2.2.2; have HL7 := hide hl7; have HR7 := hide (HR.out.below h7); clear q7))
      have G11 := hide g11
      clear g6 g7 g8 g9 g10 g11 h7 h8 h9 h10 h11 k6 k7 k8 k9 k10 x0 x1 x2 x3 y70 y71 y72 y73 y80 y81 y82 y83 y90 y91 y92 y93 y100 y101 y102 y103 HL7 HL8 HL9 HL10 HR HR7 HR8 HR9 HR10 PE PV IN G6 hl7
      go_upto_region 16 with fail
      go_cut [71] from 70 to 71 (fun v wx => ∃ q : Bool, v = .bool q ∧ Hid (q = decide (e = 0)) ∧ wx = w11)
      case first =>
        by_cases h : e = 0
        · have t : (e == 0) = true := by rw [beq_iff_eq]; exact h
          have E : Hid (true = decide (e = 0)) := (decide_eq_true h).symm
          clear h
          go_wp2
          go_meet
          case rel => exact ⟨true, rfl, E, rfl⟩
        · have t : (e == 0) = false := by rw [beq_eq_false_iff_ne]; exact h
          have E : Hid (false = decide (e = 0)) := (decide_eq_false h).symm
          clear h
          go_wp2
          go_meet
          case rel => exact ⟨false, rfl, E, rfl⟩
      case rest =>
        obtain ⟨q, rfl, HQ, rfl⟩ := hcut
        go_upto_if 71 with fail
        go_cut [18, 19, 20, 21, 22, 23, 24] from 72 to 134 (fun u v _ _ _ _ _ wx => u = .int .i64 lo ∧ v = .int .i64 hi ∧ Hid (Below ((w.alloc (.cells #[.int .i64 G.f, .int .i64 G.w, .slice G.wa G.ws.length G.wc, .slice G.ta G.ks.length G.tc] 38)).alloc (.cells #[.int .i64 O.f, .int .i64 O.w, .slice O.wa O.ws.length O.wc, .slice O.ta O.ks.length O.tc] 38)).heap.size ((w.alloc (.cells #[.int .i64 G.f, .int .i64 G.w, .slice G.wa G.ws.length G.wc, .slice G.ta G.ks.length G.tc] 38)).alloc (.cells #[.int .i64 O.f, .int .i64 O.w, .slice O.wa O.ws.length O.wc, .slice O.ta O.ks.length O.tc] 38)) wx))
        case first =>
          cases q with
          | false =>
            have E := hide (BN.out (of_decide_eq_false HQ.out.symm))
            clear HQ n12 TR TB LK LN BT BN ER RO KP
            go_wp2
            go_meet
            case rel => exact ⟨by rw [E.out.1], by rw [E.out.2], G11⟩
          | true =>
            have e0 := of_decide_eq_true HQ.out.symm
            have m12 := n12.out e0
            have TB0 := hide (TB.out e0)
            have BT0 := hide (BT.out e0)
            obtain ⟨i0, hi, hz0, hz1, hz2⟩ := info_parts info3
            have I0 := hide hi
            clear HQ n12 TB BT BN ER RO e0 hi
            have eB : ((w.alloc (.cells #[.int .i64 G.f, .int .i64 G.w, .slice G.wa G.ws.length G.wc, .slice G.ta G.ks.length G.tc] 38)).alloc (.cells #[.int .i64 O.f, .int .i64 O.w, .slice O.wa O.ws.length O.wc, .slice O.ta O.ks.length O.tc] 38)).heap.size = (w.heap.size + 1 + 1) := by simp
            have KB : Hid (∀ W, Below (w.heap.size + 1 + 1) ((w.alloc (.cells #[.int .i64 G.f, .int .i64 G.w, .slice G.wa G.ws.length G.wc, .slice G.ta G.ks.length G.tc] 38)).alloc (.cells #[.int .i64 O.f, .int .i64 O.w, .slice O.wa O.ws.length O.wc, .slice O.ta O.ks.length O.tc] 38)) W → Below w.heap.size w W ∧ (W.cell? ⟨w.heap.size, 0, none⟩ = some (.int .i64 G.f) ∧ W.cell? ⟨w.heap.size, 1, none⟩ = some (.int .i64 G.w) ∧ W.cell? ⟨w.heap.size, 2, none⟩ = some (.slice G.wa G.ws.length G.wc) ∧ W.cell? ⟨w.heap.size, 3, none⟩ = some (.slice G.ta G.ks.length G.tc)) ∧ Hid (Below ((w.alloc (.cells #[.int .i64 G.f, .int .i64 G.w, .slice G.wa G.ws.length G.wc, .slice G.ta G.ks.length G.tc] 38)).alloc (.cells #[.int .i64 O.f, .int .i64 O.w, .slice O.wa O.ws.length O.wc, .slice O.ta O.ks.length O.tc] 38)).heap.size ((w.alloc (.cells #[.int .i64 G.f, .int .i64 G.w, .slice G.wa G.ws.length G.wc, .slice G.ta G.ks.length G.tc] 38)).alloc (.cells #[.int .i64 O.f, .int .i64 O.w, .slice O.wa O.ws.length O.wc, .slice O.ta O.ks.length O.tc] 38)) W) ∧ (w.heap.size + 1 + 1) ≤ W.heap.size) := fun W hW => by
              have hS := hW.size
              rw [eB] at hS
              rw [← eB] at hW
              have q := KP.out W hW
              exact ⟨q.1, q.2.1, hW, hS⟩
            have GB : Hid (Below (w.heap.size + 1 + 1) ((w.alloc (.cells #[.int .i64 G.f, .int .i64 G.w, .slice G.wa G.ws.length G.wc, .slice G.ta G.ks.length G.tc] 38)).alloc (.cells #[.int .i64 O.f, .int .i64 O.w, .slice O.wa O.ws.length O.wc, .slice O.ta O.ks.length O.tc] 38)) wc) := by have := G11.out; rw [eB] at this; exact this
            clear eB KP
            go_wp2
            go_loopw [20, 21, 22] (fun u v i wr => ∃ (k : Nat) (X Y : List Int), k ≤ G.ks.length ∧ i = .int .i64 k ∧ Hid (X = LW.take k ∧ Y = HI.take k ∧ X.length = k ∧ Y.length = k) ∧ wr.ownsRow (w.heap.size + 1 + 1) 3 1 u X.length (X.map (Value.int .i64)) ∧ wr.ownsRow (w.heap.size + 1 + 1) 3 1 v Y.length (Y.map (Value.int .i64)) ∧ Hid (u.ownBlock = none ∨ v.ownBlock = none ∨ u.ownBlock ≠ v.ownBlock) ∧ Hid (Below (w.heap.size + 1 + 1) ((w.alloc (.cells #[.int .i64 G.f, .int .i64 G.w, .slice G.wa G.ws.length G.wc, .slice G.ta G.ks.length G.tc] 38)).alloc (.cells #[.int .i64 O.f, .int .i64 O.w, .slice O.wa O.ws.length O.wc, .slice O.ta O.ks.length O.tc] 38)) wr)) (fun _ _ i _ => G.ks.length - (intOf i).toNat)
            case atStart => exact ⟨0, [], [], Nat.zero_le _, rfl, ⟨rfl, rfl, rfl, rfl⟩, World.ownsRow_nil _ _ _ _, World.ownsRow_nil _ _ _ _, .inl rfl, GB⟩
            case round =>
              obtain ⟨W0, hW0⟩ : ∃ W0, W0 = wr := ⟨_, rfl⟩
              subst hW0
              obtain ⟨k, X, Y, hk, rfl, HXY, hox, hoy, DJ, K⟩ := hrel
              obtain ⟨kw, ⟨x0, x1, x2, x3⟩, KW, ksz⟩ := KB.out _ K.out
              by_cases hlt : k < G.ks.length
              · have hT := TR.out _ kw
                obtain ⟨bt, ot, eta, hbt, hct⟩ := hT.2.2 (by intro e; rw [e] at hlt; simp at hlt)
                have rk := hT.2.1 _ (List.getElem_mem hlt)
                have ct := hct k hlt
                unfold tV at ct
                have HTA := hide eta
                obtain ⟨t63, l0⟩ := TB0.out k hlt
                obtain ⟨lk1, lk2⟩ := LK.out k hlt
                have kz : (k : Int) < (G.ks.length : Int) := by omega
                have NX : Hid ((X ++ [M.lowL (M.lvK G.ks[k].2.1 G.ks[k].2.1.length)] = LW.take (k + 1) ∧ Y ++ [M.highL (M.lvK G.ks[k].2.1 G.ks[k].2.1.length)] = HI.take (k + 1))) := by unfold Hid; rw [HXY.out.1, HXY.out.2.1, lk1, lk2]; exact ⟨rfl, rfl⟩
                obtain ⟨xa, xc, rfl, RX, _⟩ := own_rd hox
                obtain ⟨ya, yc, rfl, RY, _⟩ := own_rd hoy
                have HOX := hide hox
                have HOY := hide hoy
                rw [HTA.out] at x3
                have RK := hide rk
                have UP : Hid (∀ W, Below W0.heap.size W0 W → W.cell? ⟨w.heap.size, 3, none⟩ = some (.slice (some ⟨bt, ot, none⟩) G.ks.length G.tc) ∧ W.cell? ⟨bt, ot + k, none⟩ = some (.slice G.ks[k].1 G.ks[k].2.1.length G.ks[k].2.2)) := fun W hW => by
                  have q := (KB.out W (K.out.trans (hW.mono ksz))).2.1.2.2.2
                  rw [HTA.out] at q
                  exact ⟨q, (hW.cell (p := ⟨bt, ot + k, none⟩) hbt).trans ct⟩
                clear hT hct rk lk1 lk2 hox hoy RX RY LK TB0 eta TR
                go_wp2
                go_loopw [23, 24] (fun u j wx => ∃ (q : Nat) (Z : List Int), q ≤ G.ks[k].2.1.length ∧ j = .int .i64 q ∧ Hid (Z = M.lvK G.ks[k].2.1 q ∧ Z.length ≤ q) ∧ wx.ownsRow W0.heap.size 3 1 u Z.length (Z.map (Value.int .i64)) ∧ Hid (Below W0.heap.size W0 wx)) (fun _ j _ => G.ks[k].2.1.length - (intOf j).toNat)
                case atStart => exact ⟨0, [], Nat.zero_le _, rfl, ⟨rfl, Nat.le_refl _⟩, World.ownsRow_nil _ _ _ _, Below.refl _ _⟩
                case round =>
                  obtain ⟨q, Z, hq, rfl, HZ, hoz, KQ⟩ := hrel
                  obtain ⟨u3, ut⟩ := UP.out wr KQ.out
                  have zl := HZ.out.2
                  obtain ⟨za, zc, rfl, RZ', _⟩ := own_rd hoz
                  have HOZ := hide hoz
                  clear hoz RZ'
                  by_cases hql : q < G.ks[k].2.1.length
                  · have qz : (q : Int) < (G.ks[k].2.1.length : Int) := by omega
                    obtain ⟨bn, on, en, hbn, hcn⟩ := (RK.out.below KQ.out).2 (by intro e; rw [e] at hql; simp at hql)
                    obtain ⟨n0, n1, n2, n3, n4, n5⟩ := hcn q hql
                    rw [en] at ut
                    cases hf : M.leafB (M.nAt G.ks[k].2.1 q) with
                    | false =>
                      have qf : (M.nf (M.nAt G.ks[k].2.1 q) == -1) = false := by
                        unfold M.leafB at hf
                        rw [beq_eq_false_iff_ne]; exact of_decide_eq_false hf
                      have N : Hid (Z = M.lvK G.ks[k].2.1 (q + 1) ∧ Z.length ≤ q + 1) := by
                        refine ⟨?_, by omega⟩
                        rw [M.lvK, hf]; exact HZ.out.1
                      clear hcn hf HZ n1 n2 n3 n4 n5
                      generalize M.nf (M.nAt G.ks[k].2.1 q) = nf at *
                      go_wp2
                      go_roundw
                      case rel => exact ⟨q + 1, Z, by omega, by go_num, N, HOZ.out, KQ⟩
                      case measure => simp [intOf]; omega
                    | true =>
                      have qf : (M.nf (M.nAt G.ks[k].2.1 q) == -1) = true := by
                        unfold M.leafB at hf
                        rw [beq_iff_eq]; exact of_decide_eq_true hf
                      have N : Hid (Z ++ [M.nv (M.nAt G.ks[k].2.1 q)] = M.lvK G.ks[k].2.1 (q + 1) ∧ (Z ++ [M.nv (M.nAt G.ks[k].2.1 q)]).length ≤ q + 1) := by
                        refine ⟨?_, by rw [List.length_append]; simp; omega⟩
                        rw [M.lvK, if_pos hf, HZ.out.1]
                      have wq := KQ.out.size
                      clear hcn hf HZ n1 n2 n3 n4
                      generalize M.nv (M.nAt G.ks[k].2.1 q) = zv at *
                      generalize M.nf (M.nAt G.ks[k].2.1 q) = nf at *
                      go_wp2_with (at_builtin; refine wpList_append_lies _ rfl (.tmp 99) (.tmp 109) 23 rfl W0.heap.size 3 i0 (.int .i64 0) 1 8 Tryd.underlying23 I0.out hz0 hz1 hz2 rfl (by omega) (.slice za Z.length zc) Z.length (Z.map (Value.int .i64)) rfl (HOZ.out.alloc _) ⟨wr.heap.size, 0, none⟩ 1 1 [.int .i64 zv] rfl rfl (World.news_of_block (heap_alloc_new _ _)) (by simp [Value.oneCell']) (by omega) (by unfold maxLen; omega) (by omega) (by simp; omega) (wr.heap.size + 1) (by simp) ?_)
                      intro g cap w5 hov5 hgrow hat hlt5
                      have hb5 : Hid (Below W0.heap.size W0 w5) := (KQ.out.alloc wq _).grown hgrow (by simp; omega) (fun k hk => (HOZ.out.lt k hk).1)
                      have HO5 : Hid (w5.ownsRow W0.heap.size 3 1 (.slice (some ⟨g, 0, none⟩) (Z.length + 1) cap) (Z ++ [zv]).length ((Z ++ [zv]).map (Value.int .i64))) := by
                        unfold Hid; rw [List.map_append, List.length_append]; exact hov5
                      clear hov5 hgrow hat
                      go_wp2
                      go_roundw
                      case rel => exact ⟨q + 1, Z ++ [zv], by omega, by go_num, N, HO5.out, hb5⟩
                      case measure => simp [intOf]; omega
                  · have hqe : q = G.ks[k].2.1.length := by omega
                    have ZE : Hid (Z = M.lvK G.ks[k].2.1 G.ks[k].2.1.length) := by unfold Hid; rw [HZ.out.1, hqe]
                    rw [← ZE.out] at NX
                    have z0 : 0 < Z.length := by rw [ZE.out]; exact l0
                    obtain ⟨zg, zcap, ez, hz1', hz2'⟩ := own_shape HOZ.out z0
                    cases ez
                    have lx : ∀ c, (Value.slice xa X.length xc).ownBlock = some c → c < W0.heap.size := fun c hc => (HOX.out.lt c hc).2
                    have ly : ∀ c, (Value.slice ya Y.length yc).ownBlock = some c → c < W0.heap.size := fun c hc => (HOY.out.lt c hc).2
                    have LX := hide lx
                    have LY := hide ly
                    have xl : X.length ≤ 12 := by have := HXY.out.2.2.1; omega
                    have yl : Y.length ≤ 12 := by have := HXY.out.2.2.2; omega
                    have zl63 : Z.length ≤ 63 := by omega
                    have wq := KQ.out.size
                    have SO := hide (sorted_some zg 0 Z zc wr z0 (by omega) hz2' (fun i hi => by rw [Nat.zero_add, own_at HOZ.out rfl i hi]; simp [List.getD, List.getElem?_eq_getElem hi]))
                    have NE : Hid ((Value.slice ya Y.length yc).ownBlock = none ∨ (Value.slice ya Y.length yc).ownBlock ≠ (Value.slice xa X.length xc).ownBlock) := by
                      rcases DJ.out with q | q | q
                      · cases hy : (Value.slice ya Y.length yc).ownBlock with
                        | none => exact .inl rfl
                        | some c => exact .inr (by rw [q]; simp)
                      · exact .inl q
                      · exact .inr (fun e => q e.symm)
                    have XN : Hid ((X ++ [M.lowL Z]).length = k + 1 ∧ (Y ++ [M.highL Z]).length = k + 1) := by unfold Hid; rw [List.length_append, List.length_append, HXY.out.2.2.1, HXY.out.2.2.2]; exact ⟨rfl, rfl⟩
                    have LO : Hid (∀ (W : World) g cap, W.ownsRow wr.heap.size 3 1 (.slice (some ⟨g, 0, none⟩) Z.length cap) Z.length ((M.sortI Z).map (Value.int .i64)) → W.cell? ⟨g, 0, none⟩ = some (.int .i64 (M.lowL Z)) ∧ W.cell? ⟨g, Z.length - 1, none⟩ = some (.int .i64 (M.highL Z))) := fun W g cap ho => by
                      refine ⟨?_, ?_⟩
                      · rw [own_at ho (M.sort_length Z) 0 (by rw [M.sort_length]; exact z0)]
                        unfold M.lowL; rw [M.getD_at (by rw [M.sort_length]; exact z0)]
                      · rw [own_at ho (M.sort_length Z) (Z.length - 1) (by rw [M.sort_length]; omega)]
                        unfold M.highL; rw [M.getD_at (by rw [M.sort_length]; omega)]
                    clear lx ly HZ ZE HXY hqe zl t63 l0
                    generalize M.lowL Z = zlo at *
                    generalize M.highL Z = zhi at *
                    go_wp2_with (first
                      | (go_at_call 18; refine SO.out.mono ?_; rintro r w6 ⟨sg, sc, rfl, sg1, sg2, hos, h6⟩; have k06 := below_on KQ.out h6; have w06 := k06.size; have lo6 := (LO.out w6 sg sc hos).1; have hi6 := (LO.out w6 sg sc hos).2; have HOX6 := hide (own_up HOX.out k06); have HOY6 := hide (own_up HOY.out k06); have K6 := K.out.trans (k06.mono ksz); clear hos)
                      | (at_builtin; refine wpList_append_lies _ rfl (.tmp 113) (.tmp 117) 23 rfl (w.heap.size + 1 + 1) 3 i0 (.int .i64 0) 1 8 Tryd.underlying23 I0.out hz0 hz1 hz2 rfl (by omega) (.slice xa X.length xc) X.length (X.map (Value.int .i64)) rfl (HOX6.out.alloc _) ⟨w6.heap.size, 0, none⟩ 1 1 [.int .i64 zlo] rfl rfl (World.news_of_block (heap_alloc_new _ _)) (by simp [Value.oneCell']) (by omega) (by unfold maxLen; omega) (by omega) (by simp; omega) (w6.heap.size + 1) (by simp) ?_; intro g7 c7 w7 hov7 hgr7 hat7 hlt7; have hi7 := (cell_grown (o := Z.length - 1) hgr7 (show sg < (w6.alloc _).heap.size by simp; omega) (fun e => by have := LX.out _ e; omega)).trans (((Below.refl _ w6).alloc (Nat.le_refl _) _).cell (p := ⟨sg, Z.length - 1, none⟩) sg2 |>.trans hi6); have HOY7 := hide ((HOY6.out.alloc _).kept hgr7 NE.out); have K7 := hide ((K6.alloc (by omega) _).grown hgr7 (by simp; omega) (fun c hc => (HOX6.out.lt c hc).1)); have HG7 := hide hgr7; have HA7 := hide hat7; have HOV7 := hide hov7; have w67 : w6.heap.size + 1 ≤ w7.heap.size := (by have := hgr7.size; simpa using this); clear hov7 hgr7 hat7)
                      | (at_builtin; refine wpList_append_lies _ rfl (.tmp 119) (.tmp 126) 23 rfl (w.heap.size + 1 + 1) 3 i0 (.int .i64 0) 1 8 Tryd.underlying23 I0.out hz0 hz1 hz2 rfl (by omega) (.slice ya Y.length yc) Y.length (Y.map (Value.int .i64)) rfl (HOY7.out.alloc _) ⟨w7.heap.size, 0, none⟩ 1 1 [.int .i64 zhi] rfl rfl (World.news_of_block (heap_alloc_new _ _)) (by simp [Value.oneCell']) (by omega) (by unfold maxLen; omega) (by omega) (by simp; omega) (w7.heap.size + 1) (by simp) ?_; intro g8 c8 w8 hov8 hgr8 hat8 hlt8))
                    have N7 : Hid (some g7 ≠ (Value.slice ya Y.length yc).ownBlock) := fun e => by
                      rcases HA7.out with q | q
                      · rcases NE.out with p | p
                        · rw [p] at e; cases e
                        · exact p (by rw [q, e])
                      · have := LY.out g7 e.symm
                        omega
                    have HOX8 := hide ((HOV7.out.alloc (.cells #[.int .i64 zhi] 3)).kept hgr8 (.inr (fun e => N7.out (by simpa [Value.ownBlock] using e))))
                    have DJ8 : Hid ((Value.slice (some ⟨g7, 0, none⟩) (X.length + 1) c7).ownBlock = none ∨ (Value.slice (some ⟨g8, 0, none⟩) (Y.length + 1) c8).ownBlock = none ∨ (Value.slice (some ⟨g7, 0, none⟩) (X.length + 1) c7).ownBlock ≠ (Value.slice (some ⟨g8, 0, none⟩) (Y.length + 1) c8).ownBlock) := .inr (.inr (fun e => by
                      have e' : g7 = g8 := by simpa [Value.ownBlock] using e
                      rcases hat8 with q | q
                      · exact N7.out (by rw [q, e'])
                      · omega))
                    have K8 := hide ((K7.out.alloc (by omega) (.cells #[.int .i64 zhi] 3)).grown hgr8 (by simp; omega) (fun c hc => (HOY7.out.lt c hc).1))
                    have HX8 : Hid (w8.ownsRow (w.heap.size + 1 + 1) 3 1 (.slice (some ⟨g7, 0, none⟩) (X.length + 1) c7) (X ++ [zlo]).length ((X ++ [zlo]).map (Value.int .i64))) := by
                      unfold Hid; rw [List.map_append, List.length_append]; exact HOX8.out
                    have HY8 : Hid (w8.ownsRow (w.heap.size + 1 + 1) 3 1 (.slice (some ⟨g8, 0, none⟩) (Y.length + 1) c8) (Y ++ [zhi]).length ((Y ++ [zhi]).map (Value.int .i64))) := by
                      unfold Hid; rw [List.map_append, List.length_append]; exact hov8
                    clear hov8 hgr8 hat8 HOX8 HOV7 HG7 HA7 N7
                    go_wp2
                    go_roundw
                    case rel => exact ⟨k + 1, X ++ [zlo], Y ++ [zhi], by omega, by go_num, ⟨NX.out.1, NX.out.2, XN.out.1, XN.out.2⟩, HX8.out, HY8.out, DJ8, K8⟩
                    case measure => simp [intOf]; omega
              · have E : Hid (X = LW ∧ Y = HI) := by
                  refine ⟨?_, ?_⟩
                  · rw [HXY.out.1, List.take_of_length_le (by rw [LN.out.1]; omega)]
                  · rw [HXY.out.2.1, List.take_of_length_le (by rw [LN.out.2]; omega)]
                obtain ⟨xa, xc, rfl, RX, _⟩ := own_rd hox
                obtain ⟨ya, yc, rfl, RY, _⟩ := own_rd hoy
                have B1 := hide (BT0.out xa xc ya yc W0 kw (by rw [← E.out.1]; exact RX) (by rw [← E.out.2]; exact RY))
                rw [← E.out.1, ← E.out.2] at B1
                clear RX RY hox hoy LK TB0 TR LN BT0
                go_wp2_with (go_at_call 19; refine B1.out.mono ?_; rintro r w5 ⟨rfl, h5⟩; have g5 := hide (below_on KW.out h5))
                go_meet
                case rel => exact ⟨rfl, rfl, g5⟩
        case rest =>
          obtain ⟨rfl, rfl, G17⟩ := hcut
          obtain ⟨k17, ⟨x0, x1, x2, x3⟩, _⟩ := KP.out _ G17.out
          clear TR TB LK LN BT BN HQ G11
          go_upto_region 35 with (first
            | (go_at_call 10; refine (ER.out _ _ k19).mono ?_; rintro r w20 ⟨rfl, h20⟩; have g20 := below_on g19 h20)
            | (go_at_call 20; refine (PB.out _ k17).mono ?_; rintro r w19 ⟨rfl, h19⟩; have g19 := below_on G17.out h19; have k19 := (KP.out _ g19).1))
          have G20 := hide g20
          clear g19 k19 h19 h20 k17 x0 x1 x2 x3 PB g20 G17
          by_cases hne : ej ≠ 0
          · have ZG : Hid (∀ W, RdG W ⟨0, 0, none, [], 0, none, [], 0⟩) := fun W => ⟨⟨Nat.zero_le _, fun h => absurd rfl h⟩, Nat.zero_le _, (fun k hk => by cases hk), fun h => absurd rfl h⟩
            have JM0 := JZ.out hne
            have GSZ : Hid (∀ (J : Gr) W, RdG W J → J.m = JM → Calls Tryd.prog 22 #[.agg #[.int .i64 J.f, .int .i64 J.w, .slice J.wa J.ws.length J.wc, .slice J.ta J.ks.length J.tc], .agg #[.int .i64 0, .int .i64 0, .slice none 0 0, .slice none 0 0]] W fun r w' => r = .returned (.bool true) ∧ Below W.heap.size W w') := fun J W hJ hm => GS.out J ⟨0, 0, none, [], 0, none, [], 0⟩ W hJ (ZG.out W) (by rw [hm, JM0]; rfl)
            obtain ⟨k20, ⟨x0, x1, x2, x3⟩, ⟨y0', y1', y2', y3'⟩⟩ := KP.out _ G20.out
            have l1' : w.heap.size < w20.heap.size := by have := G20.out.size; simp at this; omega
            have l2' : w.heap.size + 1 < w20.heap.size := by have := G20.out.size; simp at this; omega
            unfold Gr.v at PJ
            clear GS ZG JM0 JZ
            by_cases h1 : e = 0
            · by_cases h2 : eo = 0
              · by_cases h3 : G.f = O.f ∧ G.w = O.w
                · by_cases h4 : 12 < G.ks.length + O.ks.length
                  · have EJ := hide (E4.out h1 h2 h3.1 h3.2 h4)
                    have p1 : (e == 0) = true := by rw [beq_iff_eq]; exact h1
                    have p2 : (eo == 0) = true := by rw [beq_iff_eq]; exact h2
                    have p3 : (G.f != O.f) = false := by rw [bne_eq_false_iff_eq]; exact h3.1
                    have p4 : (G.w != O.w) = false := by rw [bne_eq_false_iff_eq]; exact h3.2
                    have p5 : decide (12 < (G.ks.length : Int) + (O.ks.length : Int)) = true := decide_eq_true (by omega)
                    have os := o12.out h2
                    have gs' := n12.out h1
                    have wr9 : IntKind.i64.wrap ((G.ks.length : Int) + (O.ks.length : Int)) = (G.ks.length : Int) + (O.ks.length : Int) := wrap_in4 _ (by omega) (by omega)
                    clear h1 h2 h3 h4 E1 E2 E3 E4 E5 hne o12
                    rw [show ej = 4 from EJ.out] at PJ
                    go_wp2_with (first
                      | (go_at_call 22; refine (GSZ.out J _ (HJ.out.below (below_on ((Below.refl _ _).alloc (Nat.le_refl _) _) h5)) HM.out).mono ?_; rintro r w6 ⟨rfl, h6⟩)
                      | (go_at_call 10; refine (ER.out _ _ k4).mono ?_; rintro r w5 ⟨rfl, h5⟩; have b5 := below_on b4j h5; have z5 := kept_grove b5; have z0 := z5.1; have z1 := z5.2.1; have z2 := z5.2.2.1; have z3 := z5.2.2.2; have y5 := kept_grove h5; have y0 := y5.1; have y1 := y5.2.1; have y2 := y5.2.2.1; have y3 := y5.2.2.2; have k5 := below_on k4 h5; clear z5 y5)
                      | (go_at_call 21; refine (PJ.out _ (k21.alloc k21.size _)).mono ?_; rintro r w4 ⟨J, rfl, hJm, hJr, h4⟩; have HM := hide hJm; have HJ := hide hJr; have b4 := h4; have k4' := below_on (k21.alloc k21.size _) h4; have k4 := k4'.alloc k4'.size (.cells #[.int .i64 J.f, .int .i64 J.w, .slice J.wa J.ws.length J.wc, .slice J.ta J.ks.length J.tc] 38); have b4j := below_on b4 ((Below.refl _ w4).alloc (Nat.le_refl _) (.cells #[.int .i64 J.f, .int .i64 J.w, .slice J.wa J.ws.length J.wc, .slice J.ta J.ks.length J.tc] 38)); clear hJm hJr)
                      | (go_at_call 9; refine (RO.out _ k20).mono ?_; rintro r w21 ⟨rfl, h21⟩; have g21 := below_on G20.out h21; have q21 := KP.out _ g21; have k21 := q21.1; have v0 := q21.2.1.1; have v1 := q21.2.1.2.1; have v2 := q21.2.1.2.2.1; have v3 := q21.2.1.2.2.2; have u0 := q21.2.2.1; have u1 := q21.2.2.2.1; have u2 := q21.2.2.2.2.1; have u3 := q21.2.2.2.2.2; have l1 : w.heap.size < w21.heap.size := (by have := g21.size; simp at this; omega); have l2 : w.heap.size + 1 < w21.heap.size := (by have := g21.size; simp at this; omega); clear q21))
                    go_ret
                    exact ⟨rfl, below_on k5 h6⟩
                  · exact absurd (E5.out h1 h2 h3.1 h3.2 (by omega)) hne
                · by_cases h4 : G.f = O.f
                  · have EJ := hide (E3.out h1 h2 (.inr (fun h => h3 ⟨h4, h⟩)))
                    have p1 : (e == 0) = true := by rw [beq_iff_eq]; exact h1
                    have p2 : (eo == 0) = true := by rw [beq_iff_eq]; exact h2
                    have p3 : (G.f != O.f) = false := by rw [bne_eq_false_iff_eq]; exact h4
                    have p4 : (G.w != O.w) = true := by rw [bne_iff_ne]; exact fun h => h3 ⟨h4, h⟩
                    clear h1 h2 h3 h4 E1 E2 E3 E4 E5 hne o12
                    rw [show ej = 3 from EJ.out] at PJ
                    go_wp2_with (first
                      | (go_at_call 22; refine (GSZ.out J _ (HJ.out.below (below_on ((Below.refl _ _).alloc (Nat.le_refl _) _) h5)) HM.out).mono ?_; rintro r w6 ⟨rfl, h6⟩)
                      | (go_at_call 10; refine (ER.out _ _ k4).mono ?_; rintro r w5 ⟨rfl, h5⟩; have b5 := below_on b4j h5; have z5 := kept_grove b5; have z0 := z5.1; have z1 := z5.2.1; have z2 := z5.2.2.1; have z3 := z5.2.2.2; have y5 := kept_grove h5; have y0 := y5.1; have y1 := y5.2.1; have y2 := y5.2.2.1; have y3 := y5.2.2.2; have k5 := below_on k4 h5; clear z5 y5)
                      | (go_at_call 21; refine (PJ.out _ (k21.alloc k21.size _)).mono ?_; rintro r w4 ⟨J, rfl, hJm, hJr, h4⟩; have HM := hide hJm; have HJ := hide hJr; have b4 := h4; have k4' := below_on (k21.alloc k21.size _) h4; have k4 := k4'.alloc k4'.size (.cells #[.int .i64 J.f, .int .i64 J.w, .slice J.wa J.ws.length J.wc, .slice J.ta J.ks.length J.tc] 38); have b4j := below_on b4 ((Below.refl _ w4).alloc (Nat.le_refl _) (.cells #[.int .i64 J.f, .int .i64 J.w, .slice J.wa J.ws.length J.wc, .slice J.ta J.ks.length J.tc] 38)); clear hJm hJr)
                      | (go_at_call 9; refine (RO.out _ k20).mono ?_; rintro r w21 ⟨rfl, h21⟩; have g21 := below_on G20.out h21; have q21 := KP.out _ g21; have k21 := q21.1; have v0 := q21.2.1.1; have v1 := q21.2.1.2.1; have v2 := q21.2.1.2.2.1; have v3 := q21.2.1.2.2.2; have u0 := q21.2.2.1; have u1 := q21.2.2.2.1; have u2 := q21.2.2.2.2.1; have u3 := q21.2.2.2.2.2; have l1 : w.heap.size < w21.heap.size := (by have := g21.size; simp at this; omega); have l2 : w.heap.size + 1 < w21.heap.size := (by have := g21.size; simp at this; omega); clear q21))
                    go_ret
                    exact ⟨rfl, below_on k5 h6⟩
                  · have EJ := hide (E3.out h1 h2 (.inl h4))
                    have p1 : (e == 0) = true := by rw [beq_iff_eq]; exact h1
                    have p2 : (eo == 0) = true := by rw [beq_iff_eq]; exact h2
                    have p3 : (G.f != O.f) = true := by rw [bne_iff_ne]; exact h4
                    clear h1 h2 h3 h4 E1 E2 E3 E4 E5 hne o12
                    rw [show ej = 3 from EJ.out] at PJ
                    go_wp2_with (first
                      | (go_at_call 22; refine (GSZ.out J _ (HJ.out.below (below_on ((Below.refl _ _).alloc (Nat.le_refl _) _) h5)) HM.out).mono ?_; rintro r w6 ⟨rfl, h6⟩)
                      | (go_at_call 10; refine (ER.out _ _ k4).mono ?_; rintro r w5 ⟨rfl, h5⟩; have b5 := below_on b4j h5; have z5 := kept_grove b5; have z0 := z5.1; have z1 := z5.2.1; have z2 := z5.2.2.1; have z3 := z5.2.2.2; have y5 := kept_grove h5; have y0 := y5.1; have y1 := y5.2.1; have y2 := y5.2.2.1; have y3 := y5.2.2.2; have k5 := below_on k4 h5; clear z5 y5)
                      | (go_at_call 21; refine (PJ.out _ (k21.alloc k21.size _)).mono ?_; rintro r w4 ⟨J, rfl, hJm, hJr, h4⟩; have HM := hide hJm; have HJ := hide hJr; have b4 := h4; have k4' := below_on (k21.alloc k21.size _) h4; have k4 := k4'.alloc k4'.size (.cells #[.int .i64 J.f, .int .i64 J.w, .slice J.wa J.ws.length J.wc, .slice J.ta J.ks.length J.tc] 38); have b4j := below_on b4 ((Below.refl _ w4).alloc (Nat.le_refl _) (.cells #[.int .i64 J.f, .int .i64 J.w, .slice J.wa J.ws.length J.wc, .slice J.ta J.ks.length J.tc] 38)); clear hJm hJr)
                      | (go_at_call 9; refine (RO.out _ k20).mono ?_; rintro r w21 ⟨rfl, h21⟩; have g21 := below_on G20.out h21; have q21 := KP.out _ g21; have k21 := q21.1; have v0 := q21.2.1.1; have v1 := q21.2.1.2.1; have v2 := q21.2.1.2.2.1; have v3 := q21.2.1.2.2.2; have u0 := q21.2.2.1; have u1 := q21.2.2.2.1; have u2 := q21.2.2.2.2.1; have u3 := q21.2.2.2.2.2; have l1 : w.heap.size < w21.heap.size := (by have := g21.size; simp at this; omega); have l2 : w.heap.size + 1 < w21.heap.size := (by have := g21.size; simp at this; omega); clear q21))
                    go_ret
                    exact ⟨rfl, below_on k5 h6⟩
              · have EJ := hide (E2.out h1 h2)
                have p1 : (e == 0) = true := by rw [beq_iff_eq]; exact h1
                have p2 : (eo == 0) = false := by rw [beq_eq_false_iff_ne]; exact h2
                clear h1 h2 E1 E2 E3 E4 E5 hne o12
                rw [show ej = eo from EJ.out] at PJ
                go_wp2_with (first
                  | (go_at_call 22; refine (GSZ.out J _ (HJ.out.below (below_on ((Below.refl _ _).alloc (Nat.le_refl _) _) h5)) HM.out).mono ?_; rintro r w6 ⟨rfl, h6⟩)
                  | (go_at_call 10; refine (ER.out _ _ k4).mono ?_; rintro r w5 ⟨rfl, h5⟩; have b5 := below_on b4j h5; have z5 := kept_grove b5; have z0 := z5.1; have z1 := z5.2.1; have z2 := z5.2.2.1; have z3 := z5.2.2.2; have y5 := kept_grove h5; have y0 := y5.1; have y1 := y5.2.1; have y2 := y5.2.2.1; have y3 := y5.2.2.2; have k5 := below_on k4 h5; clear z5 y5)
                  | (go_at_call 21; refine (PJ.out _ (k21.alloc k21.size _)).mono ?_; rintro r w4 ⟨J, rfl, hJm, hJr, h4⟩; have HM := hide hJm; have HJ := hide hJr; have b4 := h4; have k4' := below_on (k21.alloc k21.size _) h4; have k4 := k4'.alloc k4'.size (.cells #[.int .i64 J.f, .int .i64 J.w, .slice J.wa J.ws.length J.wc, .slice J.ta J.ks.length J.tc] 38); have b4j := below_on b4 ((Below.refl _ w4).alloc (Nat.le_refl _) (.cells #[.int .i64 J.f, .int .i64 J.w, .slice J.wa J.ws.length J.wc, .slice J.ta J.ks.length J.tc] 38)); clear hJm hJr)
                  | (go_at_call 9; refine (RO.out _ k20).mono ?_; rintro r w21 ⟨rfl, h21⟩; have g21 := below_on G20.out h21; have q21 := KP.out _ g21; have k21 := q21.1; have v0 := q21.2.1.1; have v1 := q21.2.1.2.1; have v2 := q21.2.1.2.2.1; have v3 := q21.2.1.2.2.2; have u0 := q21.2.2.1; have u1 := q21.2.2.2.1; have u2 := q21.2.2.2.2.1; have u3 := q21.2.2.2.2.2; have l1 : w.heap.size < w21.heap.size := (by have := g21.size; simp at this; omega); have l2 : w.heap.size + 1 < w21.heap.size := (by have := g21.size; simp at this; omega); clear q21))
                go_ret
                exact ⟨rfl, below_on k5 h6⟩
            · have EJ := hide (E1.out h1)
              have p1 : (e == 0) = false := by rw [beq_eq_false_iff_ne]; exact h1
              clear h1 E1 E2 E3 E4 E5 hne o12 RO
              rw [show ej = e from EJ.out] at PJ
              go_wp2_with (first
                | (go_at_call 22; refine (GSZ.out J _ (HJ.out.below (below_on ((Below.refl _ _).alloc (Nat.le_refl _) _) h5)) HM.out).mono ?_; rintro r w6 ⟨rfl, h6⟩)
                | (go_at_call 10; refine (ER.out _ _ k4).mono ?_; rintro r w5 ⟨rfl, h5⟩; have b5 := below_on b4j h5; have z5 := kept_grove b5; have z0 := z5.1; have z1 := z5.2.1; have z2 := z5.2.2.1; have z3 := z5.2.2.2; have y5 := kept_grove h5; have y0 := y5.1; have y1 := y5.2.1; have y2 := y5.2.2.1; have y3 := y5.2.2.2; have k5 := below_on k4 h5; clear z5 y5)
                | (go_at_call 21; refine (PJ.out _ (k20.alloc k20.size _)).mono ?_; rintro r w4 ⟨J, rfl, hJm, hJr, h4⟩; have HM := hide hJm; have HJ := hide hJr; have b4 := h4; have k4' := below_on (k20.alloc k20.size _) h4; have k4 := k4'.alloc k4'.size (.cells #[.int .i64 J.f, .int .i64 J.w, .slice J.wa J.ws.length J.wc, .slice J.ta J.ks.length J.tc] 38); have b4j := below_on b4 ((Below.refl _ w4).alloc (Nat.le_refl _) (.cells #[.int .i64 J.f, .int .i64 J.w, .slice J.wa J.ws.length J.wc, .slice J.ta J.ks.length J.tc] 38)); clear hJm hJr))
              go_ret
              exact ⟨rfl, below_on k5 h6⟩
          · have ez : ej = 0 := Decidable.not_not.1 hne
            have h1 : e = 0 := by
              by_cases q : e = 0
              · exact q
              · exact absurd ((E1.out q).symm.trans ez) q
            have h2 : eo = 0 := by
              by_cases q : eo = 0
              · exact q
              · exact absurd ((E2.out h1 q).symm.trans ez) q
            have h3 : G.f = O.f ∧ G.w = O.w := by
              by_cases q : G.f = O.f ∧ G.w = O.w
              · exact q
              · have r := E3.out h1 h2 (by
                  by_cases s : G.f = O.f
                  · exact .inr (fun t => q ⟨s, t⟩)
                  · exact .inl s)
                rw [ez] at r
                cases r
            have h4 : G.ks.length + O.ks.length ≤ 12 := by
              by_cases q : 12 < G.ks.length + O.ks.length
              · have r := E4.out h1 h2 h3.1 h3.2 q
                rw [ez] at r
                cases r
              · omega
            obtain ⟨rg, ro, g0, o0, lg, lo'⟩ := PG.out ez
            have JE := hide (JG.out ez)
            obtain ⟨bt, ot, eta, hbt, hct⟩ := rg.2.2.2 (by intro q; rw [q] at g0; simp at g0)
            obtain ⟨bu, ou, etu, hbu, hcu⟩ := ro.2.2.2 (by intro q; rw [q] at o0; simp at o0)
            obtain ⟨bw, ow, ewa, hbw, hcw⟩ := rg.1.2 (by intro q; rw [q] at lg; simp at lg; omega)
            obtain ⟨bv, ov, ewo, hbv, hcv⟩ := ro.1.2 (by intro q; rw [q] at lo'; simp at lo'; omega)
            have p1 : (e == 0) = true := by rw [beq_iff_eq]; exact h1
            have p2 : (eo == 0) = true := by rw [beq_iff_eq]; exact h2
            have p3 : (G.f != O.f) = false := by rw [bne_eq_false_iff_eq]; exact h3.1
            have p4 : (G.w != O.w) = false := by rw [bne_eq_false_iff_eq]; exact h3.2
            have p5 : decide (12 < (G.ks.length : Int) + (O.ks.length : Int)) = false := decide_eq_false (by omega)
            have wr9 : IntKind.i64.wrap ((G.ks.length : Int) + (O.ks.length : Int)) = (G.ks.length : Int) + (O.ks.length : Int) := wrap_in4 _ (by omega) (by omega)
            obtain ⟨i0, hi, hz0, hz1, hz2⟩ := info_parts info3
            have I0 := hide hi
            obtain ⟨j0, hj, jz0, jz1, jz2⟩ := info_parts infoTr
            have J0 := hide hj
            unfold Gr.v at PJ
            rw [ewa, eta, ewo, etu] at KP PJ G20
            rw [ewo, etu] at RO
            have KW : Hid (∀ W, Below ((w.alloc (.cells #[.int .i64 G.f, .int .i64 G.w, .slice (some ⟨bw, ow, none⟩) G.ws.length G.wc, .slice (some ⟨bt, ot, none⟩) G.ks.length G.tc] 38)).alloc (.cells #[.int .i64 O.f, .int .i64 O.w, .slice (some ⟨bv, ov, none⟩) O.ws.length O.wc, .slice (some ⟨bu, ou, none⟩) O.ks.length O.tc] 38)).heap.size ((w.alloc (.cells #[.int .i64 G.f, .int .i64 G.w, .slice (some ⟨bw, ow, none⟩) G.ws.length G.wc, .slice (some ⟨bt, ot, none⟩) G.ks.length G.tc] 38)).alloc (.cells #[.int .i64 O.f, .int .i64 O.w, .slice (some ⟨bv, ov, none⟩) O.ws.length O.wc, .slice (some ⟨bu, ou, none⟩) O.ks.length O.tc] 38)) W → Below w.heap.size w W) := fun W hW => (KP.out W hW).1
            have SW1 : Hid (∀ W, Below ((w.alloc (.cells #[.int .i64 G.f, .int .i64 G.w, .slice (some ⟨bw, ow, none⟩) G.ws.length G.wc, .slice (some ⟨bt, ot, none⟩) G.ks.length G.tc] 38)).alloc (.cells #[.int .i64 O.f, .int .i64 O.w, .slice (some ⟨bv, ov, none⟩) O.ws.length O.wc, .slice (some ⟨bu, ou, none⟩) O.ks.length O.tc] 38)).heap.size ((w.alloc (.cells #[.int .i64 G.f, .int .i64 G.w, .slice (some ⟨bw, ow, none⟩) G.ws.length G.wc, .slice (some ⟨bt, ot, none⟩) G.ks.length G.tc] 38)).alloc (.cells #[.int .i64 O.f, .int .i64 O.w, .slice (some ⟨bv, ov, none⟩) O.ws.length O.wc, .slice (some ⟨bu, ou, none⟩) O.ks.length O.tc] 38)) W → ∀ j u, (G.ws.map (Value.int .i64))[j]? = some u → W.cell? ((⟨bw, ow, none⟩ : Addr).add j) = some u) := fun W hW => src_cells (fun i hi => ((KW.out W hW).cell (p := ⟨bw, ow + i, none⟩) hbw).trans (hcw i hi))
            have SW2 : Hid (∀ W, Below ((w.alloc (.cells #[.int .i64 G.f, .int .i64 G.w, .slice (some ⟨bw, ow, none⟩) G.ws.length G.wc, .slice (some ⟨bt, ot, none⟩) G.ks.length G.tc] 38)).alloc (.cells #[.int .i64 O.f, .int .i64 O.w, .slice (some ⟨bv, ov, none⟩) O.ws.length O.wc, .slice (some ⟨bu, ou, none⟩) O.ks.length O.tc] 38)).heap.size ((w.alloc (.cells #[.int .i64 G.f, .int .i64 G.w, .slice (some ⟨bw, ow, none⟩) G.ws.length G.wc, .slice (some ⟨bt, ot, none⟩) G.ks.length G.tc] 38)).alloc (.cells #[.int .i64 O.f, .int .i64 O.w, .slice (some ⟨bv, ov, none⟩) O.ws.length O.wc, .slice (some ⟨bu, ou, none⟩) O.ks.length O.tc] 38)) W → ∀ j u, (O.ws.map (Value.int .i64))[j]? = some u → W.cell? ((⟨bv, ov, none⟩ : Addr).add j) = some u) := fun W hW => src_cells (fun i hi => ((KW.out W hW).cell (p := ⟨bv, ov + i, none⟩) hbv).trans (hcv i hi))
            have ST1 : Hid (∀ W, Below ((w.alloc (.cells #[.int .i64 G.f, .int .i64 G.w, .slice (some ⟨bw, ow, none⟩) G.ws.length G.wc, .slice (some ⟨bt, ot, none⟩) G.ks.length G.tc] 38)).alloc (.cells #[.int .i64 O.f, .int .i64 O.w, .slice (some ⟨bv, ov, none⟩) O.ws.length O.wc, .slice (some ⟨bu, ou, none⟩) O.ks.length O.tc] 38)).heap.size ((w.alloc (.cells #[.int .i64 G.f, .int .i64 G.w, .slice (some ⟨bw, ow, none⟩) G.ws.length G.wc, .slice (some ⟨bt, ot, none⟩) G.ks.length G.tc] 38)).alloc (.cells #[.int .i64 O.f, .int .i64 O.w, .slice (some ⟨bv, ov, none⟩) O.ws.length O.wc, .slice (some ⟨bu, ou, none⟩) O.ks.length O.tc] 38)) W → ∀ j u, (G.ks.map tV)[j]? = some u → W.cell? ((⟨bt, ot, none⟩ : Addr).add j) = some u) := fun W hW => tr_cells (fun i hi => ((KW.out W hW).cell (p := ⟨bt, ot + i, none⟩) hbt).trans (hct i hi))
            have ST2 : Hid (∀ W, Below ((w.alloc (.cells #[.int .i64 G.f, .int .i64 G.w, .slice (some ⟨bw, ow, none⟩) G.ws.length G.wc, .slice (some ⟨bt, ot, none⟩) G.ks.length G.tc] 38)).alloc (.cells #[.int .i64 O.f, .int .i64 O.w, .slice (some ⟨bv, ov, none⟩) O.ws.length O.wc, .slice (some ⟨bu, ou, none⟩) O.ks.length O.tc] 38)).heap.size ((w.alloc (.cells #[.int .i64 G.f, .int .i64 G.w, .slice (some ⟨bw, ow, none⟩) G.ws.length G.wc, .slice (some ⟨bt, ot, none⟩) G.ks.length G.tc] 38)).alloc (.cells #[.int .i64 O.f, .int .i64 O.w, .slice (some ⟨bv, ov, none⟩) O.ws.length O.wc, .slice (some ⟨bu, ou, none⟩) O.ks.length O.tc] 38)) W → ∀ j u, (O.ks.map tV)[j]? = some u → W.cell? ((⟨bu, ou, none⟩ : Addr).add j) = some u) := fun W hW => tr_cells (fun i hi => ((KW.out W hW).cell (p := ⟨bu, ou + i, none⟩) hbu).trans (hcu i hi))
            have RK : Hid (∀ W, Below ((w.alloc (.cells #[.int .i64 G.f, .int .i64 G.w, .slice (some ⟨bw, ow, none⟩) G.ws.length G.wc, .slice (some ⟨bt, ot, none⟩) G.ks.length G.tc] 38)).alloc (.cells #[.int .i64 O.f, .int .i64 O.w, .slice (some ⟨bv, ov, none⟩) O.ws.length O.wc, .slice (some ⟨bu, ou, none⟩) O.ks.length O.tc] 38)).heap.size ((w.alloc (.cells #[.int .i64 G.f, .int .i64 G.w, .slice (some ⟨bw, ow, none⟩) G.ws.length G.wc, .slice (some ⟨bt, ot, none⟩) G.ks.length G.tc] 38)).alloc (.cells #[.int .i64 O.f, .int .i64 O.w, .slice (some ⟨bv, ov, none⟩) O.ws.length O.wc, .slice (some ⟨bu, ou, none⟩) O.ks.length O.tc] 38)) W → ∀ k ∈ ([] ++ G.ks) ++ O.ks, RdN W k.1 k.2.1) := fun W hW k hk => by
              rcases List.mem_append.1 hk with q | q
              · exact (rg.below (KW.out W hW)).2.2.1 k (by simpa using q)
              · exact (ro.below (KW.out W hW)).2.2.1 k q
            have GSB : Hid (∀ (J : Gr) W ga ca gt ct, RdG W J → J.m = JM → RdG W ⟨G.f, G.w, some ⟨ga, 0, none⟩, ([] ++ G.ws) ++ O.ws, ca, some ⟨gt, 0, none⟩, ([] ++ G.ks) ++ O.ks, ct⟩ → Calls Tryd.prog 22 #[.agg #[.int .i64 J.f, .int .i64 J.w, .slice J.wa J.ws.length J.wc, .slice J.ta J.ks.length J.tc], .agg #[.int .i64 G.f, .int .i64 G.w, .slice (some ⟨ga, 0, none⟩) (G.ws.length + O.ws.length) ca, .slice (some ⟨gt, 0, none⟩) (G.ks.length + O.ks.length) ct]] W fun r w' => r = .returned (.bool true) ∧ Below W.heap.size W w') := by
              intro J W ga ca gt ct hJ hm hB
              have q := GS.out J _ W hJ hB (by
                rw [hm, JE.out]
                unfold Gr.m M.joinG
                simp [tl, M.gf, M.gw, M.gs, M.gt])
              unfold Gr.v at q
              have l1 : (([] ++ G.ws) ++ O.ws).length = G.ws.length + O.ws.length := by simp
              have l2 : (([] ++ G.ks) ++ O.ks).length = G.ks.length + O.ks.length := by simp
              simp only [l1, l2] at q
              exact q
            have LW0 : Hid ((([] ++ G.ws) ++ O.ws).length = G.ws.length + O.ws.length) := by unfold Hid; simp
            have LK0 : Hid ((([] ++ G.ks) ++ O.ks).length = G.ks.length + O.ks.length) := by unfold Hid; simp
            have EZ := hide ez
            rw [show ej = 0 from EZ.out, err_nil rfl] at PJ
            have ER0 : Hid (∀ W, Below w.heap.size w W → Calls Tryd.prog 10 #[.nilIface, .int .i64 eo] W fun r w' => r = .returned (.bool true) ∧ Below W.heap.size W w') := fun W hW => by
              have q := ER.out eo W hW
              rw [err_nil h2] at q
              exact q
            have g12 : G.ws.length ≤ 12 := by omega
            have o12' : O.ws.length ≤ 12 := by omega
            have gw0 : 0 < G.ws.length := by omega
            have ow0 : 0 < O.ws.length := by omega
            obtain ⟨k20, ⟨x0, x1, x2, x3⟩, ⟨y0', y1', y2', y3'⟩⟩ := KP.out _ G20.out
            have l1' : w.heap.size < w20.heap.size := by have := G20.out.size; simp at this; omega
            have l2' : w.heap.size + 1 < w20.heap.size := by have := G20.out.size; simp at this; omega
            clear GS JZ h1 h2 h3 E1 E2 E3 E4 E5 hne o12 PG JG JE ez rg ro lg lo' eta etu ewa ewo hbt hct hbu hcu hbw hcw hbv hcv hi hj n12 ER
            go_wp2_with (first
              | (go_at_call 22; refine (GSB.out J _ _ _ _ _ (HJ.out.below (below_on ((Below.refl _ _).alloc (Nat.le_refl _) _) h5)) HM.out (S6.out.rdg LW0.out LK0.out (by omega) (RK.out _ S6.out.below))).mono ?_; rintro r w6 ⟨rfl, h6⟩)
              | (go_at_call 10; refine (ER0.out _ k4).mono ?_; rintro r w5 ⟨rfl, h5⟩; have y5 := kept_grove h5; have y0 := y5.1; have y1 := y5.2.1; have y2 := y5.2.2.1; have y3 := y5.2.2.2; have k5 := below_on k4 h5; have S6 := hide ((S5.out.up ((Below.refl _ w4).alloc (Nat.le_refl _) _)).up h5); have z0 := S6.out.c0; have z1 := S6.out.c1; have z2 := S6.out.c2; have z3 := S6.out.c3; clear y5)
              | (go_at_call 21; refine (PJ.out _ (KW.out _ S4.out.below)).mono ?_; rintro r w4 ⟨J, rfl, hJm, hJr, h4'⟩; have HM := hide hJm; have HJ := hide hJr; have S5 := hide (S4.out.up h4'); have k4' := below_on (KW.out _ S4.out.below) h4'; have k4 := k4'.alloc k4'.size (.cells #[.int .i64 J.f, .int .i64 J.w, .slice J.wa J.ws.length J.wc, .slice J.ta J.ks.length J.tc] 38); clear hJm hJr)
              | (at_builtin; have hone := S3; refine wpList_append_lies _ rfl (.tmp 236) (.tmp 238) 36 rfl (w21.heap.size + 1) 22 j0 (.slice none 0 0) 1 24 Tryd.underlying36 J0.out jz0 jz1 jz2 rfl (by decide) (.slice (some ⟨ga3, 0, none⟩) G.ks.length cp3) G.ks.length _ rfl S3.out.oy ⟨bu, ou, none⟩ O.ks.length O.tc (O.ks.map tV) rfl (by simp) (ST2.out _ S3.out.below) (tr_one O.ks) (by omega) (by unfold maxLen; omega) (by omega) S3.out.sz _ rfl ?_; intro ga4 cp4 wa4 ho4 hg4 hor4 hl4; obtain ⟨d4, e4, n4, bg4, T4⟩ := S3.out.moreY (ys := O.ks) hg4 (by rw [List.map_append]; exact ho4) hor4 hl4; have S4 := hide T4; have qb4 := KP.out _ (bg4); have ab40 := qb4.2.1.1; have ab41 := qb4.2.1.2.1; have ab42 := qb4.2.1.2.2.1; have ab43 := qb4.2.1.2.2.2; have ob40 := qb4.2.2.1; have ob41 := qb4.2.2.2.1; have ob42 := qb4.2.2.2.2.1; have ob43 := qb4.2.2.2.2.2; clear qb4; have qc4 := KP.out _ (S4.out.below); have ac40 := qc4.2.1.1; have ac41 := qc4.2.1.2.1; have ac42 := qc4.2.1.2.2.1; have ac43 := qc4.2.1.2.2.2; have oc40 := qc4.2.2.1; have oc41 := qc4.2.2.2.1; have oc42 := qc4.2.2.2.2.1; have oc43 := qc4.2.2.2.2.2; clear qc4; have m24 := S4.out.c2; have m34 := S4.out.c3; clear T4 ho4 hg4 hor4 hl4 hone)
              | (at_builtin; have hone := S2; refine wpList_append_lies _ rfl (.tmp 230) (.tmp 232) 36 rfl (w21.heap.size + 1) 22 j0 (.slice none 0 0) 1 24 Tryd.underlying36 J0.out jz0 jz1 jz2 rfl (by decide) (.slice none 0 0) 0 _ rfl S2.out.oy ⟨bt, ot, none⟩ G.ks.length G.tc (G.ks.map tV) rfl (by simp) (ST1.out _ S2.out.below) (tr_one G.ks) (by omega) (by unfold maxLen; omega) (by omega) S2.out.sz _ rfl ?_; intro ga3 cp3 wa3 ho3 hg3 hor3 hl3; rw [Nat.zero_add] at ho3; obtain ⟨d3, e3, n3, bg3, T3⟩ := S2.out.moreY (ys := G.ks) hg3 (by rw [List.map_append]; exact ho3) hor3 hl3; have S3 := hide T3; have qb3 := KP.out _ (bg3); have ab30 := qb3.2.1.1; have ab31 := qb3.2.1.2.1; have ab32 := qb3.2.1.2.2.1; have ab33 := qb3.2.1.2.2.2; have ob30 := qb3.2.2.1; have ob31 := qb3.2.2.2.1; have ob32 := qb3.2.2.2.2.1; have ob33 := qb3.2.2.2.2.2; clear qb3; have qc3 := KP.out _ (S3.out.below); have ac30 := qc3.2.1.1; have ac31 := qc3.2.1.2.1; have ac32 := qc3.2.1.2.2.1; have ac33 := qc3.2.1.2.2.2; have oc30 := qc3.2.2.1; have oc31 := qc3.2.2.2.1; have oc32 := qc3.2.2.2.2.1; have oc33 := qc3.2.2.2.2.2; clear qc3; have m23 := S3.out.c2; have m33 := S3.out.c3; clear T3 ho3 hg3 hor3 hl3 hone)
              | (at_builtin; have hone := S1; refine wpList_append_lies _ rfl (.tmp 224) (.tmp 226) 23 rfl (w21.heap.size + 1) 3 i0 (.int .i64 0) 1 8 Tryd.underlying23 I0.out hz0 hz1 hz2 rfl (by decide) (.slice (some ⟨ga1, 0, none⟩) G.ws.length cp1) G.ws.length _ rfl S1.out.ox ⟨bv, ov, none⟩ O.ws.length O.wc (O.ws.map (Value.int .i64)) rfl (by simp) (SW2.out _ S1.out.below) (one_cells O.ws) (by omega) (by unfold maxLen; omega) (by omega) S1.out.sz _ rfl ?_; intro ga2 cp2 wa2 ho2 hg2 hor2 hl2; obtain ⟨d2, e2, n2, bg2, T2⟩ := S1.out.moreX (ys := O.ws) hg2 (by rw [List.map_append]; exact ho2) hor2 hl2; have S2 := hide T2; have qb2 := KP.out _ (bg2); have ab20 := qb2.2.1.1; have ab21 := qb2.2.1.2.1; have ab22 := qb2.2.1.2.2.1; have ab23 := qb2.2.1.2.2.2; have ob20 := qb2.2.2.1; have ob21 := qb2.2.2.2.1; have ob22 := qb2.2.2.2.2.1; have ob23 := qb2.2.2.2.2.2; clear qb2; have qc2 := KP.out _ (S2.out.below); have ac20 := qc2.2.1.1; have ac21 := qc2.2.1.2.1; have ac22 := qc2.2.1.2.2.1; have ac23 := qc2.2.1.2.2.2; have oc20 := qc2.2.2.1; have oc21 := qc2.2.2.2.1; have oc22 := qc2.2.2.2.2.1; have oc23 := qc2.2.2.2.2.2; clear qc2; have m22 := S2.out.c2; have m32 := S2.out.c3; clear T2 ho2 hg2 hor2 hl2 hone)
              | (at_builtin; have hone := S0; refine wpList_append_lies _ rfl (.tmp 218) (.tmp 220) 23 rfl (w21.heap.size + 1) 3 i0 (.int .i64 0) 1 8 Tryd.underlying23 I0.out hz0 hz1 hz2 rfl (by decide) (.slice none 0 0) 0 _ rfl S0.out.ox ⟨bw, ow, none⟩ G.ws.length G.wc (G.ws.map (Value.int .i64)) rfl (by simp) (SW1.out _ S0.out.below) (one_cells G.ws) (by omega) (by unfold maxLen; omega) (by omega) S0.out.sz _ rfl ?_; intro ga1 cp1 wa1 ho1 hg1 hor1 hl1; rw [Nat.zero_add] at ho1; obtain ⟨d1, e1, n1, bg1, T1⟩ := S0.out.moreX (ys := G.ws) hg1 (by rw [List.map_append]; exact ho1) hor1 hl1; have S1 := hide T1; have qb1 := KP.out _ (bg1); have ab10 := qb1.2.1.1; have ab11 := qb1.2.1.2.1; have ab12 := qb1.2.1.2.2.1; have ab13 := qb1.2.1.2.2.2; have ob10 := qb1.2.2.1; have ob11 := qb1.2.2.2.1; have ob12 := qb1.2.2.2.2.1; have ob13 := qb1.2.2.2.2.2; clear qb1; have qc1 := KP.out _ (S1.out.below); have ac10 := qc1.2.1.1; have ac11 := qc1.2.1.2.1; have ac12 := qc1.2.1.2.2.1; have ac13 := qc1.2.1.2.2.2; have oc10 := qc1.2.2.1; have oc11 := qc1.2.2.2.1; have oc12 := qc1.2.2.2.2.1; have oc13 := qc1.2.2.2.2.2; clear qc1; have m21 := S1.out.c2; have m31 := S1.out.c3; clear T1 ho1 hg1 hor1 hl1 hone)
              | (go_at_call 9; refine (RO.out _ k20).mono ?_; rintro r w21 ⟨rfl, h21⟩; have g21 := below_on G20.out h21; have qz := KP.out _ (g21); have az0 := qz.2.1.1; have az1 := qz.2.1.2.1; have az2 := qz.2.1.2.2.1; have az3 := qz.2.1.2.2.2; have oz0 := qz.2.2.1; have oz1 := qz.2.2.2.1; have oz2 := qz.2.2.2.2.1; have oz3 := qz.2.2.2.2.2; clear qz; have l1 : w.heap.size < w21.heap.size := (by have := g21.size; simp at this; omega); have l2 : w.heap.size + 1 < w21.heap.size := (by have := g21.size; simp at this; omega); have S0 := hide (bo_start G.f G.w g21)))
            go_ret
            exact ⟨rfl, below_on k5 h6⟩

end Go.Proofs.YtandimbpealclacDoor

namespace Go.Proofs.YtandimbpealclacDoor
open Go.ChangeShapes Go.WideShapes Go.ChangeAt Go.RowKit Go.Lib
set_option linter.unusedVariables false

theorem gtells_all (G O : Gr) (b : Option Addr) (xs : List Int) (cb : Nat) (w : World) (hg : RdG w G) (ho : RdG w O) (hr : Rd w b xs) (hl : Lays w) :
    Calls Tryd.prog 4 #[G.v, O.v, .slice b xs.length cb] w fun e w' => e = .returned (.bool true) ∧ Below w.heap.size w w' := by
  have tg : (M.gt G.m).length = G.ks.length := tl_len G.ks
  have to' : (M.gt O.m).length = O.ks.length := tl_len O.ks
  have gt : ∀ k (h : k < G.ks.length), (M.gt G.m)[k]'(by rw [tg]; exact h) = G.ks[k].2.1 := fun k h => by
    show (tl G.ks)[k]'(by rw [tl_len]; exact h) = _
    simp [tl]
  refine gtells_core G O b xs cb w (M.groveF G.m) (M.standF G.m xs) (M.groveF O.m) (M.joinF G.m O.m) (M.eachV G.m xs) ((M.gt G.m).map M.lowT) ((M.gt G.m).map M.highT) (M.evalG G.m xs) (M.boundsV G.m).1 (M.boundsV G.m).2 (M.joinV G.m O.m)
    (fun W hW => rgrove_any G W (hg.below hW)) (fun W hW => rgrove_any O W (ho.below hW)) (fun W hW => gcheck_any G W (hg.below hW))
    (fun c W hW => (error_any c c W (hl.below hW)).mono fun r w' h => ⟨by rw [h.1, beq_self_eq_true], h.2⟩)
    (fun ag cg bg dg R W h1 h2 => (ints_any ag bg R R cg dg W h1 h2).mono fun r w' h => ⟨by rw [h.1]; simp, h.2⟩)
    (fun W hW => rstand_any G b xs cb W (hg.below hW) (hr.below hW)) ?RE ?RT ?RZ
    (fun W hW => geach_any G b xs cb W (hg.below hW) (hr.below hW)) (fun W hW => geval_any G b xs cb W (hg.below hW) (hr.below hW))
    ?n12 (fun W hW => (hg.below hW).2) ?TB ?LK ⟨by rw [List.length_map]; exact tg, by rw [List.length_map]; exact tg⟩ ?BT ?BN
    (fun W hW => gbounds_any G W (hg.below hW)) ?E1 ?E2 ?E3 ?E4 ?E5 ho.2.1 ?o12 ?JZ
    (fun W hW => gjoin_any G O W (hg.below hW) (ho.below hW)) (fun G1 G2 W h1 h2 hm => grovesame_any G1 G2 W h1 h2 hm) ?PG ?JG
  case RE =>
    intro h W hW
    have e : M.eachV G.m xs = M.eachL G.m xs := by unfold M.eachV; rw [if_pos h]
    rw [e]
    exact reachg_any G b xs cb W (hg.below hW) (hr.below hW) h
  case RT =>
    intro h ag cg W hW hv
    have e : M.eachV G.m xs = M.eachL G.m xs := by unfold M.eachV; rw [if_pos h]
    have e2 : M.evalG G.m xs = M.together G.w G.ws (M.eachL G.m xs) := by unfold M.evalG; rw [if_pos h]; rfl
    rw [e] at hv ⊢
    rw [e2]
    have hE := M.each_len G.m xs
    exact rtog_any G ag (M.eachL G.m xs) cg W (hg.below hW) hv (M.stand_ok h).1 (by rw [hE]; exact tg) (fun i hi => M.each_in h (by rw [← hE]; exact hi))
  case RZ => exact fun h => ⟨by unfold M.eachV; rw [if_neg h], by unfold M.evalG; rw [if_neg h]⟩
  case n12 => exact fun h => by rw [← tg]; exact ((M.good_iff _).1 h).t12
  case TB =>
    intro h k hk
    have K := (M.good_iff _).1 h
    have F := (M.tree_ok (K.trees G.ks[k].2.1 (List.mem_map.2 ⟨_, List.getElem_mem hk, rfl⟩))).1
    exact ⟨F.1, M.lv_some F⟩
  case LK =>
    intro k hk
    have h1 : k < ((M.gt G.m).map M.lowT).length := by rw [List.length_map, tg]; exact hk
    have h2 : k < ((M.gt G.m).map M.highT).length := by rw [List.length_map, tg]; exact hk
    rw [List.take_succ_eq_append_getElem h1, List.take_succ_eq_append_getElem h2, List.getElem_map, List.getElem_map, gt k hk]
    exact ⟨rfl, rfl⟩
  case BT =>
    intro h ag cg bg dg W hW h1 h2
    have K := (M.good_iff _).1 h
    obtain ⟨V1, V2⟩ := M.ends_vw K
    have e : M.boundsV G.m = M.between G.w G.ws ((M.gt G.m).map M.lowT) ((M.gt G.m).map M.highT) := by unfold M.boundsV; rw [if_pos h]; rfl
    rw [e]
    exact rbtw_any G ag bg _ _ cg dg W (hg.below hW) h1 h2 K (by rw [List.length_map]; exact tg) (by rw [List.length_map]; exact tg) V1.vals V2.vals
  case BN => exact fun h => by unfold M.boundsV; rw [if_neg h]; exact ⟨rfl, rfl⟩
  case E1 => exact fun h => by unfold M.joinF; rw [if_pos h]
  case E2 => exact fun h h2 => by unfold M.joinF; rw [if_neg (by simp [h]), if_pos h2]
  case E3 => exact fun h h2 h3 => by unfold M.joinF; rw [if_neg (by simp [h]), if_neg (by simp [h2]), if_pos (show M.gf G.m ≠ M.gf O.m ∨ M.gw G.m ≠ M.gw O.m from h3)]
  case E4 => exact fun h h2 h3 h4 h5 => by unfold M.joinF; rw [if_neg (by simp [h]), if_neg (by simp [h2]), if_neg (show ¬ (M.gf G.m ≠ M.gf O.m ∨ M.gw G.m ≠ M.gw O.m) from fun c => c.elim (fun q => q h3) (fun q => q h4)), if_pos (by rw [tg, to']; exact h5)]
  case E5 => exact fun h h2 h3 h4 h5 => by unfold M.joinF; rw [if_neg (by simp [h]), if_neg (by simp [h2]), if_neg (show ¬ (M.gf G.m ≠ M.gf O.m ∨ M.gw G.m ≠ M.gw O.m) from fun c => c.elim (fun q => q h3) (fun q => q h4)), if_neg (by rw [tg, to']; omega)]
  case o12 => exact fun h => by rw [← to']; exact ((M.good_iff _).1 h).t12
  case JZ => exact fun h => by unfold M.joinV; rw [if_neg h]
  case PG =>
    intro h
    obtain ⟨A, B, _, _, _⟩ := M.join_ok h
    exact ⟨hg, ho, by rw [← tg]; exact A.t0, by rw [← to']; exact B.t0, by rw [← tg]; exact A.len, by rw [← to']; exact B.len⟩
  case JG => exact fun h => by unfold M.joinV; rw [if_pos h]

end Go.Proofs.YtandimbpealclacDoor
