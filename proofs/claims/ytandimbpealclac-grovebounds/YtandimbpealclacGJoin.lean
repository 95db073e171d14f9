/-
  What package grove's Join answers, for every two groves.
-/
import Derived.Test.YtandimbpealclacGCheck
import Derived.Test.YtandimbpealclacGConcat
import Derived.Test.YtandimbpealclacGroveP
import Derived.OwnWalk
import Derived.Deep.Cut
import Derived.Deep.CutRange
import Derived.Deep.RegionWith
import Derived.Deep.RegionLaw
import Derived.Deep.AppendLies
import Derived.RegionTactic
namespace Go.Proofs.Ytandimbpealclac
open Go.ChangeShapes Go.WideShapes Go.ChangeAt Go.RowKit Go.Lib
set_option linter.unusedVariables false

/-- the three blocks that Join lays first -/
structure Kj (a0 a1 a2 a3 b0 b1 b2 b3 : Value) (w W : World) : Prop where
  a : W.cell? ⟨w.heap.size, 0, none⟩ = some a0 ∧ W.cell? ⟨w.heap.size, 1, none⟩ = some a1 ∧ W.cell? ⟨w.heap.size, 2, none⟩ = some a2 ∧ W.cell? ⟨w.heap.size, 3, none⟩ = some a3
  b : W.cell? ⟨w.heap.size + 1, 0, none⟩ = some b0 ∧ W.cell? ⟨w.heap.size + 1, 1, none⟩ = some b1 ∧ W.cell? ⟨w.heap.size + 1, 2, none⟩ = some b2 ∧ W.cell? ⟨w.heap.size + 1, 3, none⟩ = some b3
  c : W.cell? ⟨w.heap.size + 1 + 1, 0, none⟩ = some (.int .i64 0) ∧ W.cell? ⟨w.heap.size + 1 + 1, 1, none⟩ = some (.int .i64 0) ∧ W.cell? ⟨w.heap.size + 1 + 1, 2, none⟩ = some (.slice none 0 0) ∧ W.cell? ⟨w.heap.size + 1 + 1, 3, none⟩ = some (.slice none 0 0)
  fr : ∀ j, W.frozen? ⟨w.heap.size + 1 + 1, j, none⟩ = false
  size : w.heap.size + 3 ≤ W.heap.size
  below : Below w.heap.size w W
abbrev jw (w : World) (a0 a1 a2 a3 b0 b1 b2 b3 : Value) : World := ((w.alloc (.cells #[a0, a1, a2, a3] 46)).alloc (.cells #[b0, b1, b2, b3] 46)).alloc (.cells #[.int .i64 0, .int .i64 0, .slice none 0 0, .slice none 0 0] 46)
theorem frozen_new (V : World) (cs : Array Value) (t : TypeId) (j : Nat) : (V.alloc (.cells cs t)).frozen? ⟨V.heap.size, j, none⟩ = false := by
  unfold World.frozen?
  rw [show (V.alloc (.cells cs t)).heap[V.heap.size]? = some (.cells cs t) from (MapKept.heap_alloc V _).1]
  simp
theorem kj_start (w : World) (a0 a1 a2 a3 b0 b1 b2 b3 : Value) : Kj a0 a1 a2 a3 b0 b1 b2 b3 w (jw w a0 a1 a2 a3 b0 b1 b2 b3) := by
  have s1 : (w.alloc (.cells #[a0, a1, a2, a3] 46)).heap.size = w.heap.size + 1 := by simp
  have s2 : ((w.alloc (.cells #[a0, a1, a2, a3] 46)).alloc (.cells #[b0, b1, b2, b3] 46)).heap.size = w.heap.size + 1 + 1 := by simp
  have k1 : Below (w.alloc (.cells #[a0, a1, a2, a3] 46)).heap.size (w.alloc (.cells #[a0, a1, a2, a3] 46)) (jw w a0 a1 a2 a3 b0 b1 b2 b3) := ((Below.refl _ _).alloc (Nat.le_refl _) _).alloc (by simp) _
  have k2 : Below ((w.alloc (.cells #[a0, a1, a2, a3] 46)).alloc (.cells #[b0, b1, b2, b3] 46)).heap.size ((w.alloc (.cells #[a0, a1, a2, a3] 46)).alloc (.cells #[b0, b1, b2, b3] 46)) (jw w a0 a1 a2 a3 b0 b1 b2 b3) := (Below.refl _ _).alloc (Nat.le_refl _) _
  have q2 := kept_box k2
  rw [s1] at q2
  refine ⟨kept_box k1, q2, ?_, ?_, by simp, ((((Below.refl _ w).alloc (Nat.le_refl _) _).alloc (by simp) _).alloc (by simp; omega) _)⟩
  · rw [← s2]
    exact ⟨World.cell?_alloc_at _ _ _ 0 rfl, World.cell?_alloc_at _ _ _ 1 rfl, World.cell?_alloc_at _ _ _ 2 rfl, World.cell?_alloc_at _ _ _ 3 rfl⟩
  · intro j
    rw [← s2]
    exact frozen_new _ _ _ j
theorem Kj.up {a0 a1 a2 a3 b0 b1 b2 b3 : Value} {w W W' : World} (h : Kj a0 a1 a2 a3 b0 b1 b2 b3 w W) (hb : Below W.heap.size W W') : Kj a0 a1 a2 a3 b0 b1 b2 b3 w W' := by
  have hs := h.size
  have c : ∀ (p j : Nat) (v : Value), p < w.heap.size + 3 → W.cell? ⟨p, j, none⟩ = some v → W'.cell? ⟨p, j, none⟩ = some v := fun p j v hp hv => (hb.cell (p := ⟨p, j, none⟩) (show p < _ by omega)).trans hv
  refine ⟨⟨c _ _ _ (by omega) h.a.1, c _ _ _ (by omega) h.a.2.1, c _ _ _ (by omega) h.a.2.2.1, c _ _ _ (by omega) h.a.2.2.2⟩, ⟨c _ _ _ (by omega) h.b.1, c _ _ _ (by omega) h.b.2.1, c _ _ _ (by omega) h.b.2.2.1, c _ _ _ (by omega) h.b.2.2.2⟩, ⟨c _ _ _ (by omega) h.c.1, c _ _ _ (by omega) h.c.2.1, c _ _ _ (by omega) h.c.2.2.1, c _ _ _ (by omega) h.c.2.2.2⟩, fun j => ?_, Nat.le_trans hs hb.size, below_on h.below hb⟩
  rw [← h.fr j]
  unfold World.frozen?
  rw [hb.block _ (show w.heap.size + 1 + 1 < _ by omega)]

def noGr : Gr := ⟨0, 0, none, [], 0, none, [], 0⟩
theorem noGr_rdg (w : World) : RdG w noGr := ⟨⟨Nat.zero_le _, fun h => absurd rfl h⟩, ⟨Nat.zero_le _, (fun k hk => by cases hk), fun h => absurd rfl h⟩⟩

theorem below4 {w W : World} {p : Nat} {x0 x1 x2 x3 : Value} (h : Below w.heap.size w W) (hp : w.heap.size ≤ p) : Below w.heap.size w ((((W.setCell ⟨p, 0, none⟩ x0).setCell ⟨p, 1, none⟩ x1).setCell ⟨p, 2, none⟩ x2).setCell ⟨p, 3, none⟩ x3) :=
  (((h.setCell (p := ⟨p, 0, none⟩) hp _).setCell (p := ⟨p, 1, none⟩) hp _).setCell (p := ⟨p, 2, none⟩) hp _).setCell (p := ⟨p, 3, none⟩) hp _
theorem set4 {W : World} {p : Nat} {x0 x1 x2 x3 y0 y1 y2 y3 : Value} (h0 : W.cell? ⟨p, 0, none⟩ = some y0) (h1 : W.cell? ⟨p, 1, none⟩ = some y1) (h2 : W.cell? ⟨p, 2, none⟩ = some y2) (h3 : W.cell? ⟨p, 3, none⟩ = some y3) :
    (W.setCell ⟨p, 0, none⟩ x0).cell? ⟨p, 0, none⟩ = some x0 ∧ ((W.setCell ⟨p, 0, none⟩ x0).setCell ⟨p, 1, none⟩ x1).cell? ⟨p, 1, none⟩ = some x1 ∧
    (((W.setCell ⟨p, 0, none⟩ x0).setCell ⟨p, 1, none⟩ x1).setCell ⟨p, 2, none⟩ x2).cell? ⟨p, 2, none⟩ = some x2 ∧
    ((((W.setCell ⟨p, 0, none⟩ x0).setCell ⟨p, 1, none⟩ x1).setCell ⟨p, 2, none⟩ x2).setCell ⟨p, 3, none⟩ x3).cell? ⟨p, 3, none⟩ = some x3 := by
  have o : ∀ (V : World) (i j : Nat) (v : Value), i ≠ j → (V.setCell ⟨p, i, none⟩ v).cell? ⟨p, j, none⟩ = V.cell? ⟨p, j, none⟩ := fun V i j v hij => World.cell?_setCell_other _ _ _ _ (by intro e; cases e; exact hij rfl)
  refine ⟨World.cell?_setCell_same _ _ _ h0, World.cell?_setCell_same (u := y1) _ _ _ ?_, World.cell?_setCell_same (u := y2) _ _ _ ?_, World.cell?_setCell_same (u := y3) _ _ _ ?_⟩
  · rw [o _ _ _ _ (by decide)]; exact h1
  · rw [o _ _ _ _ (by decide), o _ _ _ _ (by decide)]; exact h2
  · rw [o _ _ _ _ (by decide), o _ _ _ _ (by decide), o _ _ _ _ (by decide)]; exact h3

set_option maxHeartbeats 8000000 in
set_option maxRecDepth 10000 in
/-- where something is wrong -/
theorem gjoin_bad (G O : Gr) (w : World) (h : RdG w G) (ho : RdG w O) (hne : M.joinF G.m O.m ≠ 0) :
    Calls Try.prog 17 #[G.v, O.v] w fun e w' => e = .returned (.tuple #[noGr.v, errV (M.joinF G.m O.m)]) ∧ Below w.heap.size w w' := by
  have C1 := hide (fun W (hW : Below w.heap.size w W) => gcheck_any G W (h.below hW))
  have C2 := hide (fun W (hW : Below w.heap.size w W) => gcheck_any O W (ho.below hW))
  have K0 := hide (kj_start w (.int .i64 G.f) (.int .i64 G.w) (.slice G.wa G.ws.length G.wc) (.slice G.ta G.ks.length G.tc) (.int .i64 O.f) (.int .i64 O.w) (.slice O.wa O.ws.length O.wc) (.slice O.ta O.ks.length O.tc))
  have hm1 : G.ks.length ≤ 9223372036854775807 := h.2.1
  have hm2 : O.ks.length ≤ 9223372036854775807 := ho.2.1
  have tg : (M.gt G.m).length = G.ks.length := tl_len G.ks
  have to' : (M.gt O.m).length = O.ks.length := tl_len O.ks
  unfold Gr.v at C1 C2
  unfold Gr.v noGr
  clear h ho
  by_cases h1 : M.groveF G.m = 0
  · by_cases h2 : M.groveF O.m = 0
    · have G1 := (M.good_iff _).1 h1
      have G2 := (M.good_iff _).1 h2
      have g12 : G.ks.length ≤ 12 := by rw [← tg]; exact G1.t12
      have o12 : O.ks.length ≤ 12 := by rw [← to']; exact G2.t12
      rw [h1, err_nil rfl] at C1
      rw [h2, err_nil rfl] at C2
      by_cases h3 : G.f ≠ O.f ∨ G.w ≠ O.w
      · have E : Hid (M.joinF G.m O.m = 3) := by unfold Hid M.joinF; rw [if_neg (by simp [h1]), if_neg (by simp [h2]), if_pos (show M.gf G.m ≠ M.gf O.m ∨ M.gw G.m ≠ M.gw O.m from h3)]
        rw [E.out, err_some (by decide)]
        clear h1 h2 G1 G2 hne E tg to'
        by_cases h4 : G.f = O.f
        · have q1 : (G.f != O.f) = false := by rw [bne_eq_false_iff_eq]; exact h4
          have q2 : (G.w != O.w) = true := by rw [bne_iff_ne]; rcases h3 with h3 | h3; exact absurd h4 h3; exact h3
          clear h3 h4
          go_enter Try.func17, Try.ntmps17
          go_wp2_with (first
            | (go_at_call 37; have hone := z1; refine (C2.out _ K1.out.below).mono ?_; rintro e w2 ⟨rfl, hb2⟩; have K2 := hide (K1.out.up hb2); have y0 := K2.out.a.1; have y1 := K2.out.a.2.1; have y3 := K2.out.a.2.2.2; have z2 := K2.out.b.1; have z3 := K2.out.b.2.1; have z4 := K2.out.b.2.2.2; have r0 := K2.out.c.1; have r1 := K2.out.c.2.1; have r2 := K2.out.c.2.2.1; have r3 := K2.out.c.2.2.2; have f0 := K2.out.fr 0; have f1 := K2.out.fr 1; have f2 := K2.out.fr 2; have f3 := K2.out.fr 3; obtain ⟨e0, e1, e2, e3⟩ := set4 (x0 := .int .i64 0) (x1 := .int .i64 0) (x2 := .slice none 0 0) (x3 := .slice none 0 0) r0 r1 r2 r3; clear z1)
            | (go_at_call 37; refine (C1.out _ K0.out.below).mono ?_; rintro e w1 ⟨rfl, hb1⟩; have K1 := hide (K0.out.up hb1); have z1 := K1.out.b.1; have z11 := K1.out.b.2.1; have z12 := K1.out.b.2.2.1; have z13 := K1.out.b.2.2.2))
          refine bodyPost_ret (v := .tuple #[.agg #[.int .i64 0, .int .i64 0, .slice none 0 0, .slice none 0 0], .iface 55 (.int .i64 3)]) (by simp [results, Try.results17, go_sem, e0, e1, e2, e3]) rfl ?_
          exact ⟨rfl, below4 K2.out.below (by omega)⟩
        · have q1 : (G.f != O.f) = true := by rw [bne_iff_ne]; exact h4
          clear h3 h4
          go_enter Try.func17, Try.ntmps17
          go_wp2_with (first
            | (go_at_call 37; have hone := z1; refine (C2.out _ K1.out.below).mono ?_; rintro e w2 ⟨rfl, hb2⟩; have K2 := hide (K1.out.up hb2); have y0 := K2.out.a.1; have y1 := K2.out.a.2.1; have y3 := K2.out.a.2.2.2; have z2 := K2.out.b.1; have z3 := K2.out.b.2.1; have z4 := K2.out.b.2.2.2; have r0 := K2.out.c.1; have r1 := K2.out.c.2.1; have r2 := K2.out.c.2.2.1; have r3 := K2.out.c.2.2.2; have f0 := K2.out.fr 0; have f1 := K2.out.fr 1; have f2 := K2.out.fr 2; have f3 := K2.out.fr 3; obtain ⟨e0, e1, e2, e3⟩ := set4 (x0 := .int .i64 0) (x1 := .int .i64 0) (x2 := .slice none 0 0) (x3 := .slice none 0 0) r0 r1 r2 r3; clear z1)
            | (go_at_call 37; refine (C1.out _ K0.out.below).mono ?_; rintro e w1 ⟨rfl, hb1⟩; have K1 := hide (K0.out.up hb1); have z1 := K1.out.b.1; have z11 := K1.out.b.2.1; have z12 := K1.out.b.2.2.1; have z13 := K1.out.b.2.2.2))
          refine bodyPost_ret (v := .tuple #[.agg #[.int .i64 0, .int .i64 0, .slice none 0 0, .slice none 0 0], .iface 55 (.int .i64 3)]) (by simp [results, Try.results17, go_sem, e0, e1, e2, e3]) rfl ?_
          exact ⟨rfl, below4 K2.out.below (by omega)⟩
      · have E : Hid (M.joinF G.m O.m = 4) := by
          have E := hne
          unfold Hid
          unfold M.joinF at E ⊢
          rw [if_neg (by simp [h1]), if_neg (by simp [h2]), if_neg (show ¬ (M.gf G.m ≠ M.gf O.m ∨ M.gw G.m ≠ M.gw O.m) from h3)] at E ⊢
          by_cases q : 12 < (M.gt G.m).length + (M.gt O.m).length
          · rw [if_pos q]
          · rw [if_neg q] at E; exact absurd rfl E
        have L12 : 12 < G.ks.length + O.ks.length := by
          have E2 := E.out
          unfold M.joinF at E2
          rw [if_neg (by simp [h1]), if_neg (by simp [h2]), if_neg (show ¬ (M.gf G.m ≠ M.gf O.m ∨ M.gw G.m ≠ M.gw O.m) from h3)] at E2
          by_cases q : 12 < (M.gt G.m).length + (M.gt O.m).length
          · rw [tg, to'] at q; exact q
          · rw [if_neg q] at E2; cases E2
        rw [E.out, err_some (by decide)]
        have q1 : (G.f != O.f) = false := by rw [bne_eq_false_iff_eq]; by_cases q : G.f = O.f; exact q; exact absurd (.inl q) h3
        have q2 : (G.w != O.w) = false := by rw [bne_eq_false_iff_eq]; by_cases q : G.w = O.w; exact q; exact absurd (.inr q) h3
        have q3 : decide (12 < (G.ks.length : Int) + (O.ks.length : Int)) = true := decide_eq_true (by omega)
        clear h1 h2 h3 G1 G2 hne E tg to' L12
        go_enter Try.func17, Try.ntmps17
        go_wp2_with (first
          | (go_at_call 37; have hone := z1; refine (C2.out _ K1.out.below).mono ?_; rintro e w2 ⟨rfl, hb2⟩; have K2 := hide (K1.out.up hb2); have y0 := K2.out.a.1; have y1 := K2.out.a.2.1; have y3 := K2.out.a.2.2.2; have z2 := K2.out.b.1; have z3 := K2.out.b.2.1; have z4 := K2.out.b.2.2.2; have r0 := K2.out.c.1; have r1 := K2.out.c.2.1; have r2 := K2.out.c.2.2.1; have r3 := K2.out.c.2.2.2; have f0 := K2.out.fr 0; have f1 := K2.out.fr 1; have f2 := K2.out.fr 2; have f3 := K2.out.fr 3; obtain ⟨e0, e1, e2, e3⟩ := set4 (x0 := .int .i64 0) (x1 := .int .i64 0) (x2 := .slice none 0 0) (x3 := .slice none 0 0) r0 r1 r2 r3; clear z1)
          | (go_at_call 37; refine (C1.out _ K0.out.below).mono ?_; rintro e w1 ⟨rfl, hb1⟩; have K1 := hide (K0.out.up hb1); have z1 := K1.out.b.1; have z11 := K1.out.b.2.1; have z12 := K1.out.b.2.2.1; have z13 := K1.out.b.2.2.2))
        refine bodyPost_ret (v := .tuple #[.agg #[.int .i64 0, .int .i64 0, .slice none 0 0, .slice none 0 0], .iface 55 (.int .i64 4)]) (by simp [results, Try.results17, go_sem, e0, e1, e2, e3]) rfl ?_
        exact ⟨rfl, below4 K2.out.below (by omega)⟩
    · have E : Hid (M.joinF G.m O.m = M.groveF O.m) := by unfold Hid M.joinF; rw [if_neg (by simp [h1]), if_pos h2]
      rw [E.out, err_some h2]
      rw [h1, err_nil rfl] at C1
      rw [err_some h2] at C2
      clear h1 h2 hne E tg to'
      generalize M.groveF O.m = gF at *
      go_enter Try.func17, Try.ntmps17
      go_wp2_with (first
        | (go_at_call 37; have hone := z1; refine (C2.out _ K1.out.below).mono ?_; rintro e w2 ⟨rfl, hb2⟩; have K2 := hide (K1.out.up hb2); have y0 := K2.out.a.1; have y1 := K2.out.a.2.1; have y3 := K2.out.a.2.2.2; have z2 := K2.out.b.1; have z3 := K2.out.b.2.1; have z4 := K2.out.b.2.2.2; have r0 := K2.out.c.1; have r1 := K2.out.c.2.1; have r2 := K2.out.c.2.2.1; have r3 := K2.out.c.2.2.2; have f0 := K2.out.fr 0; have f1 := K2.out.fr 1; have f2 := K2.out.fr 2; have f3 := K2.out.fr 3; obtain ⟨e0, e1, e2, e3⟩ := set4 (x0 := .int .i64 0) (x1 := .int .i64 0) (x2 := .slice none 0 0) (x3 := .slice none 0 0) r0 r1 r2 r3; clear z1)
        | (go_at_call 37; refine (C1.out _ K0.out.below).mono ?_; rintro e w1 ⟨rfl, hb1⟩; have K1 := hide (K0.out.up hb1); have z1 := K1.out.b.1; have z11 := K1.out.b.2.1; have z12 := K1.out.b.2.2.1; have z13 := K1.out.b.2.2.2))
      refine bodyPost_ret (v := .tuple #[.agg #[.int .i64 0, .int .i64 0, .slice none 0 0, .slice none 0 0], .iface 55 (.int .i64 gF)]) (by simp [results, Try.results17, go_sem, e0, e1, e2, e3]) rfl ?_
      exact ⟨rfl, below4 K2.out.below (by omega)⟩
  · have E : Hid (M.joinF G.m O.m = M.groveF G.m) := by unfold Hid M.joinF; rw [if_pos h1]
    rw [E.out, err_some h1]
    rw [err_some h1] at C1
    clear h1 hne E tg to' C2
    generalize M.groveF G.m = gF at *
    go_enter Try.func17, Try.ntmps17
    go_wp2_with (go_at_call 37; refine (C1.out _ K0.out.below).mono ?_; rintro e w1 ⟨rfl, hb1⟩; have K1 := hide (K0.out.up hb1); have z1 := K1.out.b.1; have z11 := K1.out.b.2.1; have z12 := K1.out.b.2.2.1; have z13 := K1.out.b.2.2.2; have r0 := K1.out.c.1; have r1 := K1.out.c.2.1; have r2 := K1.out.c.2.2.1; have r3 := K1.out.c.2.2.2; have f0 := K1.out.fr 0; have f1 := K1.out.fr 1; have f2 := K1.out.fr 2; have f3 := K1.out.fr 3; obtain ⟨e0, e1, e2, e3⟩ := set4 (x0 := .int .i64 0) (x1 := .int .i64 0) (x2 := .slice none 0 0) (x3 := .slice none 0 0) r0 r1 r2 r3)
    refine bodyPost_ret (v := .tuple #[.agg #[.int .i64 0, .int .i64 0, .slice none 0 0, .slice none 0 0], .iface 55 (.int .i64 gF)]) (by simp [results, Try.results17, go_sem, e0, e1, e2, e3]) rfl ?_
    exact ⟨rfl, below4 K1.out.below (by omega)⟩

end Go.Proofs.Ytandimbpealclac
