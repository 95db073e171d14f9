/-
  What the library's slices.Concat answers of trees, and what package grove's Join answers, as one text (a claim has at most 60 files).
-/
import Derived.Test.YtandimbpealclacDoorGroves
import Derived.Test.YtandimbpealclacDoorConcat
import Derived.Test.YtandimbpealclacDoorNdClone
import Derived.Lib.SliceRun
import Derived.Test.YtandimbpealclacDoorGCheck
import Derived.Test.YtandimbpealclacDoorGroveP
import Derived.OwnWalk
import Derived.Deep.Cut
import Derived.Deep.CutRange
import Derived.Deep.RegionWith
import Derived.Deep.RegionLaw
import Derived.Deep.AppendLies
import Derived.RegionTactic
import Derived.Test.YtandimbpealclacDoorGroveQ
import Derived.Deep.RegionHeld3
namespace Go.Proofs.YtandimbpealclacDoor
open Go.ChangeShapes Go.WideShapes Go.ChangeAt Go.RowKit Go.Shelf Go.Lib Go.Sort
set_option linter.unusedVariables false

theorem infoT : (Tryd.prog.info? 22).map (fun i => (i.zero, i.size, i.bytes)) = some (some (.slice none 0 0), 1, 24) := by kernel_rfl
theorem tV_one (ks : List Tc) : ∀ u ∈ ks.map tV, u.oneCell' = true := by
  intro u hu
  obtain ⟨k, _, rfl⟩ := List.mem_map.1 hu
  rfl
theorem tV_cells {w : World} {b off : Nat} {ks : List Tc} (hc : ∀ i (h : i < ks.length), w.cell? ⟨b, off + i, none⟩ = some (tV ks[i])) :
    ∀ j u, (ks.map tV)[j]? = some u → w.cell? ((⟨b, off, none⟩ : Addr).add j) = some u := by
  intro j u hj
  rw [List.getElem?_map] at hj
  by_cases h : j < ks.length
  · rw [List.getElem?_eq_getElem h] at hj
    rw [add_flat, hc j h]
    exact hj
  · rw [List.getElem?_eq_none (by omega)] at hj
    cases hj

theorem zero_cellsT (k : Nat) : (Builtin.zeroCells (Value.slice none 0 0).cells k).size = k := by
  unfold Builtin.zeroCells
  rw [Array.size_map, Array.size_range]
  exact Nat.mul_one k

theorem growT_nil (z : Int) (n : Nat) (w : World) (hz : z = n) (h0 : 0 < n) (hn : n ≤ 1000000) :
    Calls Tryd.prog 65 #[.slice none 0 0, .int .i64 z] w fun e w' => ∃ v, e = .returned v ∧ w'.ownsRow w.heap.size 22 1 v 0 [] ∧ Below w.heap.size w w' := by
  obtain ⟨i0, hi, hz0, hz1, hz2⟩ := info_parts infoT
  subst hz
  refine (Tryd.slices_GrowT_grow i0 (.slice none 0 0) hi hz0 (by rw [hz1]; decide) none 0 0 n [] w (Nat.le_refl _) (by omega) (by rw [hz2]; omega) (by omega) (by simp) (fun _ => rfl) (fun a ha => by cases ha)).mono ?_
  rintro e w' ⟨rfl, rfl⟩
  refine ⟨_, rfl, ?_, (Below.refl _ w).drew.alloc (Nat.le_refl _) _⟩
  have hge : 0 + n ≤ grownCap w (0 + n) 0 22 := grownCap_ge w _ _ _
  have hle := grownCap_le_maxLen w (0 + n) 0 22 (by unfold maxLen; omega)
  exact World.ownsRow_made w.drew _ _ (Nat.le_refl _) hle (by rw [Array.size_append, Array.size_append, zero_cellsT, zero_cellsT]; show 0 + (0 + n - 0) + _ = _; omega)

/-- an append of trees that are read to a row of our own -/
theorem wpList_append_rdT {w : World} {ops : Array Oper} {rest : List Oper} {o : Oper} {act : Act} {Q : Exit → Act → World → Prop} (hgd : o.guard = none) (s x : Operand)
    (ho : o.op = .call { callee := .builtin .append, args := #[s, x], argTypes := #[36, 36] })
    (base : Nat) (v : Value) (n : Nat) (zs : List Value) (hs : act.eval s = v) (hown : w.ownsRow base 22 1 v n zs)
    (b off : Nat) (ys : List Tc) (cap : Nat) (hx : act.eval x = .slice (some ⟨b, off, none⟩) ys.length cap) (hc : ∀ i (h : i < ys.length), w.cell? ⟨b, off + i, none⟩ = some (tV ys[i])) (hlen : n + ys.length ≤ 1000000) (hbase : base ≤ w.heap.size)
    (h : ∀ v' w', w'.ownsRow base 22 1 v' (n + ys.length) (zs ++ ys.map tV) → Below base w w' → wpList Tryd.prog ops Q rest (act.put o.dst v') w') : wpList Tryd.prog ops Q (o :: rest) act w := by
  obtain ⟨i0, hi, hz0, hz1, hz2⟩ := info_parts infoT
  refine wpList_append_own _ hgd s x 36 ho base 22 i0 (.slice none 0 0) 1 24 Tryd.underlying36 hi hz0 hz1 hz2 rfl (by decide) v n zs hs hown ⟨b, off, none⟩ ys.length cap (ys.map tV) hx (by simp) (tV_cells hc) (tV_one ys) (by unfold maxLen; omega) (by omega) hbase ?_
  intro v' w' hown' hgrow _
  exact h v' w' hown' ((Below.refl _ w).grown hgrow hbase (fun k hk => (hown.lt k hk).1))

set_option maxHeartbeats 2000000 in
set_option maxRecDepth 10000 in
theorem concat_trees (B b1 o1 b2 o2 : Nat) (xs ys : List Tc) (ca cb : Nat) (w : World) (hB : B < w.heap.size)
    (h0 : w.cell? ⟨B, 0, none⟩ = some (.slice (some ⟨b1, o1, none⟩) xs.length ca)) (h1 : w.cell? ⟨B, 1, none⟩ = some (.slice (some ⟨b2, o2, none⟩) ys.length cb))
    (l1 : b1 < w.heap.size) (l2 : b2 < w.heap.size) (hc1 : ∀ i (h : i < xs.length), w.cell? ⟨b1, o1 + i, none⟩ = some (tV xs[i])) (hc2 : ∀ i (h : i < ys.length), w.cell? ⟨b2, o2 + i, none⟩ = some (tV ys[i]))
    (la : xs.length ≤ 12) (lb : ys.length ≤ 12) (lp : 0 < xs.length) :
    Calls Tryd.prog 41 #[.slice (some ⟨B, 0, none⟩) 2 2] w fun e w' => ∃ v, e = .returned v ∧ w'.ownsRow w.heap.size 22 1 v (xs ++ ys).length ((xs ++ ys).map tV) ∧ Below w.heap.size w w' := by
  have HA : Hid (∀ W, Below w.heap.size w W → ∀ i (h : i < xs.length), W.cell? ⟨b1, o1 + i, none⟩ = some (tV xs[i])) := fun W hW i hi => (hW.cell (p := ⟨b1, o1 + i, none⟩) l1).trans (hc1 i hi)
  have HB : Hid (∀ W, Below w.heap.size w W → ∀ i (h : i < ys.length), W.cell? ⟨b2, o2 + i, none⟩ = some (tV ys[i])) := fun W hW i hi => (hW.cell (p := ⟨b2, o2 + i, none⟩) l2).trans (hc2 i hi)
  clear hc1 hc2
  have g0 : ¬ ((xs.length : Int) < 0) := by omega
  have g1 : ¬ ((xs.length : Int) + (ys.length : Int) < 0) := by omega
  go_enter Tryd.func41, Tryd.ntmps41
  go_wp2
  refine wp_loop_rounds 3 ?_
  rw [rounds_succ]
  go_wp2
  rw [rounds_succ]
  go_wp2
  rw [rounds_succ]
  go_wp2_with (go_at_call 65; refine (growT_nil _ (xs.length + ys.length) _ (by omega) (by omega) (by omega)).mono ?_; rintro e w1 ⟨v, rfl, hown, hb1⟩)
  have c0 := (hb1.cell (p := ⟨B, 0, none⟩) hB).trans h0
  have c1 := (hb1.cell (p := ⟨B, 1, none⟩) hB).trans h1
  have HO := hide hown
  clear h0 h1 hown
  refine wp_loop_rounds 3 ?_
  rw [rounds_succ]
  go_wp2_with (at_builtin; refine wpList_append_rdT rfl (.tmp 31) (.tmp 32) rfl w.heap.size v 0 [] rfl HO.out b1 o1 xs ca rfl (HA.out _ hb1) (by omega) hb1.size ?_)
  intro v2 w2 hown hb2
  have c2 := (hb2.cell (p := ⟨B, 1, none⟩) hB).trans c1
  have HO2 : Hid (w2.ownsRow w.heap.size 22 1 v2 xs.length (xs.map tV)) := hide (by simpa using hown)
  have hb2' := hb1.trans hb2
  clear c0 c1 hown hb2
  go_wp2
  rw [rounds_succ]
  go_wp2_with (at_builtin; (refine wpList_append_rdT rfl (.tmp 31) (.tmp 32) rfl w.heap.size v2 xs.length (xs.map tV) rfl HO2.out b2 o2 ys cb rfl (HB.out _ hb2') (by omega) hb2'.size ?_))
  intro v3 w3 hown hb3
  have HO3 := hide hown
  clear c2 hown
  go_wp2
  rw [rounds_succ]
  go_wp2
  go_ret
  refine ⟨v3, rfl, ?_, hb2'.trans hb3⟩
  have := HO3.out
  rw [List.map_append, List.length_append]
  simpa using this

end Go.Proofs.YtandimbpealclacDoor

namespace Go.Proofs.YtandimbpealclacDoor
open Go.ChangeShapes Go.WideShapes Go.ChangeAt Go.RowKit Go.Lib
set_option linter.unusedVariables false

/-- the three blocks that Join lays first -/
structure Kj (a0 a1 a2 a3 b0 b1 b2 b3 : Value) (w W : World) : Prop where
  a : W.cell? ⟨w.heap.size, 0, none⟩ = some a0 ∧ W.cell? ⟨w.heap.size, 1, none⟩ = some a1 ∧ W.cell? ⟨w.heap.size, 2, none⟩ = some a2 ∧ W.cell? ⟨w.heap.size, 3, none⟩ = some a3
  b : W.cell? ⟨w.heap.size + 1, 0, none⟩ = some b0 ∧ W.cell? ⟨w.heap.size + 1, 1, none⟩ = some b1 ∧ W.cell? ⟨w.heap.size + 1, 2, none⟩ = some b2 ∧ W.cell? ⟨w.heap.size + 1, 3, none⟩ = some b3
  c : W.cell? ⟨w.heap.size + 1 + 1, 0, none⟩ = some (.int .i64 0) ∧ W.cell? ⟨w.heap.size + 1 + 1, 1, none⟩ = some (.int .i64 0) ∧ W.cell? ⟨w.heap.size + 1 + 1, 2, none⟩ = some (.slice none 0 0) ∧ W.cell? ⟨w.heap.size + 1 + 1, 3, none⟩ = some (.slice none 0 0)
  fr : ∀ j, W.frozen? ⟨w.heap.size + 1 + 1, j, none⟩ = false
  size : w.heap.size + 3 ≤ W.heap.size
  below : Below w.heap.size w W
abbrev jw (w : World) (a0 a1 a2 a3 b0 b1 b2 b3 : Value) : World := ((w.alloc (.cells #[a0, a1, a2, a3] 38)).alloc (.cells #[b0, b1, b2, b3] 38)).alloc (.cells #[.int .i64 0, .int .i64 0, .slice none 0 0, .slice none 0 0] 38)
theorem frozen_new (V : World) (cs : Array Value) (t : TypeId) (j : Nat) : (V.alloc (.cells cs t)).frozen? ⟨V.heap.size, j, none⟩ = false := by
  unfold World.frozen?
  rw [show (V.alloc (.cells cs t)).heap[V.heap.size]? = some (.cells cs t) from (MapKept.heap_alloc V _).1]
  simp
theorem kj_start (w : World) (a0 a1 a2 a3 b0 b1 b2 b3 : Value) : Kj a0 a1 a2 a3 b0 b1 b2 b3 w (jw w a0 a1 a2 a3 b0 b1 b2 b3) := by
  have s1 : (w.alloc (.cells #[a0, a1, a2, a3] 38)).heap.size = w.heap.size + 1 := by simp
  have s2 : ((w.alloc (.cells #[a0, a1, a2, a3] 38)).alloc (.cells #[b0, b1, b2, b3] 38)).heap.size = w.heap.size + 1 + 1 := by simp
  have k1 : Below (w.alloc (.cells #[a0, a1, a2, a3] 38)).heap.size (w.alloc (.cells #[a0, a1, a2, a3] 38)) (jw w a0 a1 a2 a3 b0 b1 b2 b3) := ((Below.refl _ _).alloc (Nat.le_refl _) _).alloc (by simp) _
  have k2 : Below ((w.alloc (.cells #[a0, a1, a2, a3] 38)).alloc (.cells #[b0, b1, b2, b3] 38)).heap.size ((w.alloc (.cells #[a0, a1, a2, a3] 38)).alloc (.cells #[b0, b1, b2, b3] 38)) (jw w a0 a1 a2 a3 b0 b1 b2 b3) := (Below.refl _ _).alloc (Nat.le_refl _) _
  have q2 := kept_box k2
  rw [s1] at q2
  refine ⟨kept_box k1, q2, ?_, ?_, by simp, ((((Below.refl _ w).alloc (Nat.le_refl _) _).alloc (by simp) _).alloc (by simp; omega) _)⟩
  · rw [← s2]
    exact ⟨World.cell?_alloc_at _ _ _ 0 rfl, World.cell?_alloc_at _ _ _ 1 rfl, World.cell?_alloc_at _ _ _ 2 rfl, World.cell?_alloc_at _ _ _ 3 rfl⟩
  · intro j
    rw [← s2]
    exact frozen_new _ _ _ j
theorem Kj.up {a0 a1 a2 a3 b0 b1 b2 b3 : Value} {w W W' : World} (h : Kj a0 a1 a2 a3 b0 b1 b2 b3 w W) (hb : Below W.heap.size W W') : Kj a0 a1 a2 a3 b0 b1 b2 b3 w W' := by
  have hs := h.size
  have c : ∀ (p j : Nat) (v : Value), p < w.heap.size + 3 → W.cell? ⟨p, j, none⟩ = some v → W'.cell? ⟨p, j, none⟩ = some v := fun p j v hp hv => (hb.cell (p := ⟨p, j, none⟩) (show p < _ by omega)).trans hv
  refine ⟨⟨c _ _ _ (by omega) h.a.1, c _ _ _ (by omega) h.a.2.1, c _ _ _ (by omega) h.a.2.2.1, c _ _ _ (by omega) h.a.2.2.2⟩, ⟨c _ _ _ (by omega) h.b.1, c _ _ _ (by omega) h.b.2.1, c _ _ _ (by omega) h.b.2.2.1, c _ _ _ (by omega) h.b.2.2.2⟩, ⟨c _ _ _ (by omega) h.c.1, c _ _ _ (by omega) h.c.2.1, c _ _ _ (by omega) h.c.2.2.1, c _ _ _ (by omega) h.c.2.2.2⟩, fun j => ?_, Nat.le_trans hs hb.size, below_on h.below hb⟩
  rw [← h.fr j]
  unfold World.frozen?
  rw [hb.block _ (show w.heap.size + 1 + 1 < _ by omega)]

def noGr : Gr := ⟨0, 0, none, [], 0, none, [], 0⟩
theorem noGr_rdg (w : World) : RdG w noGr := ⟨⟨Nat.zero_le _, fun h => absurd rfl h⟩, ⟨Nat.zero_le _, (fun k hk => by cases hk), fun h => absurd rfl h⟩⟩

theorem below4 {w W : World} {p : Nat} {x0 x1 x2 x3 : Value} (h : Below w.heap.size w W) (hp : w.heap.size ≤ p) : Below w.heap.size w ((((W.setCell ⟨p, 0, none⟩ x0).setCell ⟨p, 1, none⟩ x1).setCell ⟨p, 2, none⟩ x2).setCell ⟨p, 3, none⟩ x3) :=
  (((h.setCell (p := ⟨p, 0, none⟩) hp _).setCell (p := ⟨p, 1, none⟩) hp _).setCell (p := ⟨p, 2, none⟩) hp _).setCell (p := ⟨p, 3, none⟩) hp _
theorem set4 {W : World} {p : Nat} {x0 x1 x2 x3 y0 y1 y2 y3 : Value} (h0 : W.cell? ⟨p, 0, none⟩ = some y0) (h1 : W.cell? ⟨p, 1, none⟩ = some y1) (h2 : W.cell? ⟨p, 2, none⟩ = some y2) (h3 : W.cell? ⟨p, 3, none⟩ = some y3) :
    (W.setCell ⟨p, 0, none⟩ x0).cell? ⟨p, 0, none⟩ = some x0 ∧ ((W.setCell ⟨p, 0, none⟩ x0).setCell ⟨p, 1, none⟩ x1).cell? ⟨p, 1, none⟩ = some x1 ∧
    (((W.setCell ⟨p, 0, none⟩ x0).setCell ⟨p, 1, none⟩ x1).setCell ⟨p, 2, none⟩ x2).cell? ⟨p, 2, none⟩ = some x2 ∧
    ((((W.setCell ⟨p, 0, none⟩ x0).setCell ⟨p, 1, none⟩ x1).setCell ⟨p, 2, none⟩ x2).setCell ⟨p, 3, none⟩ x3).cell? ⟨p, 3, none⟩ = some x3 := by
  have o : ∀ (V : World) (i j : Nat) (v : Value), i ≠ j → (V.setCell ⟨p, i, none⟩ v).cell? ⟨p, j, none⟩ = V.cell? ⟨p, j, none⟩ := fun V i j v hij => World.cell?_setCell_other _ _ _ _ (by intro e; cases e; exact hij rfl)
  refine ⟨World.cell?_setCell_same _ _ _ h0, World.cell?_setCell_same (u := y1) _ _ _ ?_, World.cell?_setCell_same (u := y2) _ _ _ ?_, World.cell?_setCell_same (u := y3) _ _ _ ?_⟩
  · rw [o _ _ _ _ (by decide)]; exact h1
  · rw [o _ _ _ _ (by decide), o _ _ _ _ (by decide)]; exact h2
  · rw [o _ _ _ _ (by decide), o _ _ _ _ (by decide), o _ _ _ _ (by decide)]; exact h3

set_option maxHeartbeats 8000000 in
set_option maxRecDepth 10000 in
/-- where something is wrong -/
theorem gjoin_bad (G O : Gr) (w : World) (h : RdG w G) (ho : RdG w O) (hne : M.joinF G.m O.m ≠ 0) :
    Calls Tryd.prog 21 #[G.v, O.v] w fun e w' => e = .returned (.tuple #[noGr.v, errV (M.joinF G.m O.m)]) ∧ Below w.heap.size w w' := by
  have C1 := hide (fun W (hW : Below w.heap.size w W) => gcheck_any G W (h.below hW))
  have C2 := hide (fun W (hW : Below w.heap.size w W) => gcheck_any O W (ho.below hW))
  have K0 := hide (kj_start w (.int .i64 G.f) (.int .i64 G.w) (.slice G.wa G.ws.length G.wc) (.slice G.ta G.ks.length G.tc) (.int .i64 O.f) (.int .i64 O.w) (.slice O.wa O.ws.length O.wc) (.slice O.ta O.ks.length O.tc))
  have hm1 : G.ks.length ≤ 9223372036854775807 := h.2.1
  have hm2 : O.ks.length ≤ 9223372036854775807 := ho.2.1
  have tg : (M.gt G.m).length = G.ks.length := tl_len G.ks
  have to' : (M.gt O.m).length = O.ks.length := tl_len O.ks
  unfold Gr.v at C1 C2
  unfold Gr.v noGr
  clear h ho
  by_cases h1 : M.groveF G.m = 0
  · by_cases h2 : M.groveF O.m = 0
    · have G1 := (M.good_iff _).1 h1
      have G2 := (M.good_iff _).1 h2
      have g12 : G.ks.length ≤ 12 := by rw [← tg]; exact G1.t12
      have o12 : O.ks.length ≤ 12 := by rw [← to']; exact G2.t12
      rw [h1, err_nil rfl] at C1
      rw [h2, err_nil rfl] at C2
      by_cases h3 : G.f ≠ O.f ∨ G.w ≠ O.w
      · have E : Hid (M.joinF G.m O.m = 3) := by unfold Hid M.joinF; rw [if_neg (by simp [h1]), if_neg (by simp [h2]), if_pos (show M.gf G.m ≠ M.gf O.m ∨ M.gw G.m ≠ M.gw O.m from h3)]
        rw [E.out, err_some (by decide)]
        clear h1 h2 G1 G2 hne E tg to'
        by_cases h4 : G.f = O.f
        · have q1 : (G.f != O.f) = false := by rw [bne_eq_false_iff_eq]; exact h4
          have q2 : (G.w != O.w) = true := by rw [bne_iff_ne]; rcases h3 with h3 | h3; exact absurd h4 h3; exact h3
          clear h3 h4
          go_enter Tryd.func21, Tryd.ntmps21
          go_wp2_with (first
            | (go_at_call 11; have hone := z1; refine (C2.out _ K1.out.below).mono ?_; rintro e w2 ⟨rfl, hb2⟩; have K2 := hide (K1.out.up hb2); have y0 := K2.out.a.1; have y1 := K2.out.a.2.1; have y3 := K2.out.a.2.2.2; have z2 := K2.out.b.1; have z3 := K2.out.b.2.1; have z4 := K2.out.b.2.2.2; have r0 := K2.out.c.1; have r1 := K2.out.c.2.1; have r2 := K2.out.c.2.2.1; have r3 := K2.out.c.2.2.2; have f0 := K2.out.fr 0; have f1 := K2.out.fr 1; have f2 := K2.out.fr 2; have f3 := K2.out.fr 3; obtain ⟨e0, e1, e2, e3⟩ := set4 (x0 := .int .i64 0) (x1 := .int .i64 0) (x2 := .slice none 0 0) (x3 := .slice none 0 0) r0 r1 r2 r3; clear z1)
            | (go_at_call 11; refine (C1.out _ K0.out.below).mono ?_; rintro e w1 ⟨rfl, hb1⟩; have K1 := hide (K0.out.up hb1); have z1 := K1.out.b.1; have z11 := K1.out.b.2.1; have z12 := K1.out.b.2.2.1; have z13 := K1.out.b.2.2.2))
          refine bodyPost_ret (v := .tuple #[.agg #[.int .i64 0, .int .i64 0, .slice none 0 0, .slice none 0 0], .iface 61 (.int .i64 3)]) (by simp [results, Tryd.results21, go_sem, e0, e1, e2, e3]) rfl ?_
          exact ⟨rfl, below4 K2.out.below (by omega)⟩
        · have q1 : (G.f != O.f) = true := by rw [bne_iff_ne]; exact h4
          clear h3 h4
          go_enter Tryd.func21, Tryd.ntmps21
          go_wp2_with (first
            | (go_at_call 11; have hone := z1; refine (C2.out _ K1.out.below).mono ?_; rintro e w2 ⟨rfl, hb2⟩; have K2 := hide (K1.out.up hb2); have y0 := K2.out.a.1; have y1 := K2.out.a.2.1; have y3 := K2.out.a.2.2.2; have z2 := K2.out.b.1; have z3 := K2.out.b.2.1; have z4 := K2.out.b.2.2.2; have r0 := K2.out.c.1; have r1 := K2.out.c.2.1; have r2 := K2.out.c.2.2.1; have r3 := K2.out.c.2.2.2; have f0 := K2.out.fr 0; have f1 := K2.out.fr 1; have f2 := K2.out.fr 2; have f3 := K2.out.fr 3; obtain ⟨e0, e1, e2, e3⟩ := set4 (x0 := .int .i64 0) (x1 := .int .i64 0) (x2 := .slice none 0 0) (x3 := .slice none 0 0) r0 r1 r2 r3; clear z1)
            | (go_at_call 11; refine (C1.out _ K0.out.below).mono ?_; rintro e w1 ⟨rfl, hb1⟩; have K1 := hide (K0.out.up hb1); have z1 := K1.out.b.1; have z11 := K1.out.b.2.1; have z12 := K1.out.b.2.2.1; have z13 := K1.out.b.2.2.2))
          refine bodyPost_ret (v := .tuple #[.agg #[.int .i64 0, .int .i64 0, .slice none 0 0, .slice none 0 0], .iface 61 (.int .i64 3)]) (by simp [results, Tryd.results21, go_sem, e0, e1, e2, e3]) rfl ?_
          exact ⟨rfl, below4 K2.out.below (by omega)⟩
      · have E : Hid (M.joinF G.m O.m = 4) := by
          have E := hne
          unfold Hid
          unfold M.joinF at E ⊢
          rw [if_neg (by simp [h1]), if_neg (by simp [h2]), if_neg (show ¬ (M.gf G.m ≠ M.gf O.m ∨ M.gw G.m ≠ M.gw O.m) from h3)] at E ⊢
          by_cases q : 12 < (M.gt G.m).length + (M.gt O.m).length
          · rw [if_pos q]
          · rw [if_neg q] at E; exact absurd rfl E
        have L12 : 12 < G.ks.length + O.ks.length := by
          have E2 := E.out
          unfold M.joinF at E2
          rw [if_neg (by simp [h1]), if_neg (by simp [h2]), if_neg (show ¬ (M.gf G.m ≠ M.gf O.m ∨ M.gw G.m ≠ M.gw O.m) from h3)] at E2
          by_cases q : 12 < (M.gt G.m).length + (M.gt O.m).length
          · rw [tg, to'] at q; exact q
          · rw [if_neg q] at E2; cases E2
        rw [E.out, err_some (by decide)]
        have q1 : (G.f != O.f) = false := by rw [bne_eq_false_iff_eq]; by_cases q : G.f = O.f; exact q; exact absurd (.inl q) h3
        have q2 : (G.w != O.w) = false := by rw [bne_eq_false_iff_eq]; by_cases q : G.w = O.w; exact q; exact absurd (.inr q) h3
        have q3 : decide (12 < (G.ks.length : Int) + (O.ks.length : Int)) = true := decide_eq_true (by omega)
        clear h1 h2 h3 G1 G2 hne E tg to' L12
        go_enter Tryd.func21, Tryd.ntmps21
        go_wp2_with (first
          | (go_at_call 11; have hone := z1; refine (C2.out _ K1.out.below).mono ?_; rintro e w2 ⟨rfl, hb2⟩; have K2 := hide (K1.out.up hb2); have y0 := K2.out.a.1; have y1 := K2.out.a.2.1; have y3 := K2.out.a.2.2.2; have z2 := K2.out.b.1; have z3 := K2.out.b.2.1; have z4 := K2.out.b.2.2.2; have r0 := K2.out.c.1; have r1 := K2.out.c.2.1; have r2 := K2.out.c.2.2.1; have r3 := K2.out.c.2.2.2; have f0 := K2.out.fr 0; have f1 := K2.out.fr 1; have f2 := K2.out.fr 2; have f3 := K2.out.fr 3; obtain ⟨e0, e1, e2, e3⟩ := set4 (x0 := .int .i64 0) (x1 := .int .i64 0) (x2 := .slice none 0 0) (x3 := .slice none 0 0) r0 r1 r2 r3; clear z1)
          | (go_at_call 11; refine (C1.out _ K0.out.below).mono ?_; rintro e w1 ⟨rfl, hb1⟩; have K1 := hide (K0.out.up hb1); have z1 := K1.out.b.1; have z11 := K1.out.b.2.1; have z12 := K1.out.b.2.2.1; have z13 := K1.out.b.2.2.2))
        refine bodyPost_ret (v := .tuple #[.agg #[.int .i64 0, .int .i64 0, .slice none 0 0, .slice none 0 0], .iface 61 (.int .i64 4)]) (by simp [results, Tryd.results21, go_sem, e0, e1, e2, e3]) rfl ?_
        exact ⟨rfl, below4 K2.out.below (by omega)⟩
    · have E : Hid (M.joinF G.m O.m = M.groveF O.m) := by unfold Hid M.joinF; rw [if_neg (by simp [h1]), if_pos h2]
      rw [E.out, err_some h2]
      rw [h1, err_nil rfl] at C1
      rw [err_some h2] at C2
      clear h1 h2 hne E tg to'
      generalize M.groveF O.m = gF at *
      go_enter Tryd.func21, Tryd.ntmps21
      go_wp2_with (first
        | (go_at_call 11; have hone := z1; refine (C2.out _ K1.out.below).mono ?_; rintro e w2 ⟨rfl, hb2⟩; have K2 := hide (K1.out.up hb2); have y0 := K2.out.a.1; have y1 := K2.out.a.2.1; have y3 := K2.out.a.2.2.2; have z2 := K2.out.b.1; have z3 := K2.out.b.2.1; have z4 := K2.out.b.2.2.2; have r0 := K2.out.c.1; have r1 := K2.out.c.2.1; have r2 := K2.out.c.2.2.1; have r3 := K2.out.c.2.2.2; have f0 := K2.out.fr 0; have f1 := K2.out.fr 1; have f2 := K2.out.fr 2; have f3 := K2.out.fr 3; obtain ⟨e0, e1, e2, e3⟩ := set4 (x0 := .int .i64 0) (x1 := .int .i64 0) (x2 := .slice none 0 0) (x3 := .slice none 0 0) r0 r1 r2 r3; clear z1)
        | (go_at_call 11; refine (C1.out _ K0.out.below).mono ?_; rintro e w1 ⟨rfl, hb1⟩; have K1 := hide (K0.out.up hb1); have z1 := K1.out.b.1; have z11 := K1.out.b.2.1; have z12 := K1.out.b.2.2.1; have z13 := K1.out.b.2.2.2))
      refine bodyPost_ret (v := .tuple #[.agg #[.int .i64 0, .int .i64 0, .slice none 0 0, .slice none 0 0], .iface 61 (.int .i64 gF)]) (by simp [results, Tryd.results21, go_sem, e0, e1, e2, e3]) rfl ?_
      exact ⟨rfl, below4 K2.out.below (by omega)⟩
  · have E : Hid (M.joinF G.m O.m = M.groveF G.m) := by unfold Hid M.joinF; rw [if_pos h1]
    rw [E.out, err_some h1]
    rw [err_some h1] at C1
    clear h1 hne E tg to' C2
    generalize M.groveF G.m = gF at *
    go_enter Tryd.func21, Tryd.ntmps21
    go_wp2_with (go_at_call 11; refine (C1.out _ K0.out.below).mono ?_; rintro e w1 ⟨rfl, hb1⟩; have K1 := hide (K0.out.up hb1); have z1 := K1.out.b.1; have z11 := K1.out.b.2.1; have z12 := K1.out.b.2.2.1; have z13 := K1.out.b.2.2.2; have r0 := K1.out.c.1; have r1 := K1.out.c.2.1; have r2 := K1.out.c.2.2.1; have r3 := K1.out.c.2.2.2; have f0 := K1.out.fr 0; have f1 := K1.out.fr 1; have f2 := K1.out.fr 2; have f3 := K1.out.fr 3; obtain ⟨e0, e1, e2, e3⟩ := set4 (x0 := .int .i64 0) (x1 := .int .i64 0) (x2 := .slice none 0 0) (x3 := .slice none 0 0) r0 r1 r2 r3)
    refine bodyPost_ret (v := .tuple #[.agg #[.int .i64 0, .int .i64 0, .slice none 0 0, .slice none 0 0], .iface 61 (.int .i64 gF)]) (by simp [results, Tryd.results21, go_sem, e0, e1, e2, e3]) rfl ?_
    exact ⟨rfl, below4 K1.out.below (by omega)⟩

end Go.Proofs.YtandimbpealclacDoor

namespace Go.Proofs.YtandimbpealclacDoor
open Go.ChangeShapes Go.WideShapes Go.ChangeAt Go.RowKit Go.Lib
set_option linter.unusedVariables false

theorem own_far0 {w : World} {base n e size p o : Nat} {v x : Value} {l : List Value} (h : w.ownsRow base e size v n l) (hp : p < base) : (w.setCell ⟨p, o, none⟩ x).ownsRow base e size v n l := by
  refine ⟨h.1, ?_⟩
  rcases h.2 with h0 | ⟨g, cap, cur, hv, h1, h2, h3⟩
  · exact .inl h0
  · refine .inr ⟨g, cap, cur, hv, h1, ?_, h3⟩
    rw [← h2]
    have : ¬ p = g := by omega
    simp [World.setCell, Array.getElem?_modify, this]
theorem far_set {W : World} {p o q : Nat} {v : Value} (h : p ≠ q) : (W.setCell ⟨p, o, none⟩ v).heap[q]? = W.heap[q]? := by
  simp [World.setCell, Array.getElem?_modify, h]
theorem same_cell {W W' : World} {q j : Nat} (h : W'.heap[q]? = W.heap[q]?) : W'.cell? ⟨q, j, none⟩ = W.cell? ⟨q, j, none⟩ := World.cell?_of_block h
theorem same_frozen {W W' : World} {q j : Nat} (h : W'.heap[q]? = W.heap[q]?) : W'.frozen? ⟨q, j, none⟩ = W.frozen? ⟨q, j, none⟩ := World.frozen?_of_block h
/-- blocks that stay -/
theorem Kj.same {a0 a1 a2 a3 b0 b1 b2 b3 : Value} {w W W' : World} (h : Kj a0 a1 a2 a3 b0 b1 b2 b3 w W) (hs : ∀ q, w.heap.size ≤ q → q < w.heap.size + 3 → W'.heap[q]? = W.heap[q]?) (hz : W.heap.size ≤ W'.heap.size) (hb : Below w.heap.size w W') : Kj a0 a1 a2 a3 b0 b1 b2 b3 w W' := by
  have c : ∀ (p j : Nat) (v : Value), w.heap.size ≤ p → p < w.heap.size + 3 → W.cell? ⟨p, j, none⟩ = some v → W'.cell? ⟨p, j, none⟩ = some v := fun p j v h0 hp hv => (same_cell (hs p h0 hp)).trans hv
  refine ⟨⟨c _ _ _ (by omega) (by omega) h.a.1, c _ _ _ (by omega) (by omega) h.a.2.1, c _ _ _ (by omega) (by omega) h.a.2.2.1, c _ _ _ (by omega) (by omega) h.a.2.2.2⟩, ⟨c _ _ _ (by omega) (by omega) h.b.1, c _ _ _ (by omega) (by omega) h.b.2.1, c _ _ _ (by omega) (by omega) h.b.2.2.1, c _ _ _ (by omega) (by omega) h.b.2.2.2⟩, ⟨c _ _ _ (by omega) (by omega) h.c.1, c _ _ _ (by omega) (by omega) h.c.2.1, c _ _ _ (by omega) (by omega) h.c.2.2.1, c _ _ _ (by omega) (by omega) h.c.2.2.2⟩, fun j => (same_frozen (hs _ (by omega) (by omega))).trans (h.fr j), Nat.le_trans h.size hz, hb⟩

/-- the new grove, while it is laid -/
structure Jt (a0 a1 a2 a3 b0 b1 b2 b3 : Value) (w : World) (Ws : List Int) (W : World) (gb bA cg : Nat) (x : Value) : Prop where
  kj : Kj a0 a1 a2 a3 b0 b1 b2 b3 w W
  c0 : W.cell? ⟨gb, 0, none⟩ = some a0
  c1 : W.cell? ⟨gb, 1, none⟩ = some a1
  c2 : W.cell? ⟨gb, 2, none⟩ = some (.slice (some ⟨bA, 0, none⟩) Ws.length cg)
  c3 : W.cell? ⟨gb, 3, none⟩ = some x
  fr : W.frozen? ⟨gb, 3, none⟩ = false
  ne : bA ≠ gb
  ge : w.heap.size + 3 ≤ bA
  gg : w.heap.size + 3 ≤ gb
  sz : gb < W.heap.size
  sA : bA < W.heap.size
  ws : ∀ i, i < Ws.length → W.cell? ⟨bA, i, none⟩ = some (.int .i64 (Ws.getD i 0))
theorem Jt.same {a0 a1 a2 a3 b0 b1 b2 b3 : Value} {w W W' : World} {Ws : List Int} {gb bA cg : Nat} {x : Value} (h : Jt a0 a1 a2 a3 b0 b1 b2 b3 w Ws W gb bA cg x) (hs : ∀ q, w.heap.size ≤ q → (q < w.heap.size + 3 ∨ q = gb ∨ q = bA) → W'.heap[q]? = W.heap[q]?) (hz : W.heap.size ≤ W'.heap.size) (hb : Below w.heap.size w W') : Jt a0 a1 a2 a3 b0 b1 b2 b3 w Ws W' gb bA cg x := by
  have hg := h.ge
  have hgg := h.gg
  have sg := hs gb (by omega) (.inr (.inl rfl))
  have sA := hs bA (by omega) (.inr (.inr rfl))
  exact ⟨h.kj.same (fun q h0 h1 => hs q h0 (.inl h1)) hz hb, (same_cell sg).trans h.c0, (same_cell sg).trans h.c1, (same_cell sg).trans h.c2, (same_cell sg).trans h.c3, (same_frozen sg).trans h.fr, h.ne, hg, hgg, Nat.lt_of_lt_of_le h.sz hz, Nat.lt_of_lt_of_le h.sA hz, fun i hi => (same_cell sA).trans (h.ws i hi)⟩
theorem Jt.up {a0 a1 a2 a3 b0 b1 b2 b3 : Value} {w W W' : World} {Ws : List Int} {gb bA cg : Nat} {x : Value} (h : Jt a0 a1 a2 a3 b0 b1 b2 b3 w Ws W gb bA cg x) (hb : Below W.heap.size W W') : Jt a0 a1 a2 a3 b0 b1 b2 b3 w Ws W' gb bA cg x :=
  h.same (fun q _ h1 => hb.block q (by have := h.sz; have := h.sA; have := h.kj.size; omega)) hb.size (below_on h.kj.below hb)
theorem Jt.put {a0 a1 a2 a3 b0 b1 b2 b3 : Value} {w W : World} {Ws : List Int} {gb bA cg : Nat} {x : Value} (h : Jt a0 a1 a2 a3 b0 b1 b2 b3 w Ws W gb bA cg x) (y : Value) : Jt a0 a1 a2 a3 b0 b1 b2 b3 w Ws (W.setCell ⟨gb, 3, none⟩ y) gb bA cg y := by
  have hl := h.ne
  have hg := h.gg
  have o : ∀ (j : Nat), j ≠ 3 → (W.setCell ⟨gb, 3, none⟩ y).cell? ⟨gb, j, none⟩ = W.cell? ⟨gb, j, none⟩ := fun j hj => World.cell?_setCell_other _ _ _ _ (by intro e; cases e; exact hj rfl)
  have sz : (W.setCell ⟨gb, 3, none⟩ y).heap.size = W.heap.size := by simp
  refine ⟨h.kj.same (fun q _ hq => far_set (by omega)) (by rw [sz]; exact Nat.le_refl _) (h.kj.below.setCell (p := ⟨gb, 3, none⟩) (show w.heap.size ≤ gb by omega) y), (o 0 (by decide)).trans h.c0, (o 1 (by decide)).trans h.c1, (o 2 (by decide)).trans h.c2, World.cell?_setCell_same _ _ _ h.c3, ?_, hl, h.ge, hg, by rw [sz]; exact h.sz, by rw [sz]; exact h.sA, fun i hi => (same_cell (far_set (fun e => hl e.symm))).trans (h.ws i hi)⟩
  simpa using h.fr

theorem rdn_same {W W' : World} {a : Option Addr} {ts : List M.Nd} (h : RdN W a ts) (hs : ∀ p, a = some p → W'.heap[p.block]? = W.heap[p.block]?) (hz : W.heap.size ≤ W'.heap.size) : RdN W' a ts :=
  ⟨h.1, fun hn => by
    obtain ⟨b, off, e, hl, hc⟩ := h.2 hn
    have hb : W'.heap[b]? = W.heap[b]? := hs _ e
    refine ⟨b, off, e, Nat.lt_of_lt_of_le hl hz, fun i hi => ?_⟩
    obtain ⟨h0, h1, h2, h3, h4, h5⟩ := hc i hi
    exact ⟨(same_cell hb).trans h0, (same_cell hb).trans h1, (same_cell hb).trans h2, (same_cell hb).trans h3, (same_cell hb).trans h4, (same_cell hb).trans h5⟩⟩

/-- .. with the first k trees copied -/
structure Lj (a0 a1 a2 a3 b0 b1 b2 b3 : Value) (w : World) (Ws : List Int) (S : List Tc) (B gb bA cg g : Nat) (W : World) (k : Nat) (x : Value) (C : List Tc) : Prop where
  jt : Jt a0 a1 a2 a3 b0 b1 b2 b3 w Ws W gb bA cg x
  own : W.ownsRow B 22 1 x k (C.map tV)
  len : C.length = k
  same : tl C = (tl S).take k
  rd : ∀ c ∈ C, RdN W c.1 c.2.1
  apart : ∀ c ∈ C, ∀ p, c.1 = some p → B ≤ p.block ∧ p.block < W.heap.size ∧ x.ownBlock ≠ some p.block
  src : ∀ i (h : i < S.length), W.cell? ⟨g, i, none⟩ = some (tV S[i])
  gB : g < B
  gbB : gb < g
  gA : bA < g
  sz : B ≤ W.heap.size
theorem Lj.up {a0 a1 a2 a3 b0 b1 b2 b3 : Value} {w W W' : World} {Ws : List Int} {S : List Tc} {B gb bA cg g k : Nat} {x : Value} {C : List Tc} (h : Lj a0 a1 a2 a3 b0 b1 b2 b3 w Ws S B gb bA cg g W k x C) (hb : Below W.heap.size W W') : Lj a0 a1 a2 a3 b0 b1 b2 b3 w Ws S B gb bA cg g W' k x C :=
  ⟨h.jt.up hb, own_up h.own hb, h.len, h.same, fun c hc => (h.rd c hc).below hb, fun c hc p hp => ⟨(h.apart c hc p hp).1, Nat.lt_of_lt_of_le (h.apart c hc p hp).2.1 hb.size, (h.apart c hc p hp).2.2⟩, fun i hi => (hb.cell (p := ⟨g, i, none⟩) (show g < _ by have := h.gB; have := h.sz; omega)).trans (h.src i hi), h.gB, h.gbB, h.gA, Nat.le_trans h.sz hb.size⟩
/-- behind an append -/
theorem Lj.mid {a0 a1 a2 a3 b0 b1 b2 b3 : Value} {w W W' : World} {Ws : List Int} {S : List Tc} {B gb bA cg g k : Nat} {x : Value} {C : List Tc} (h : Lj a0 a1 a2 a3 b0 b1 b2 b3 w Ws S B gb bA cg g W k x C) (hg : W.grownBy W' x.ownBlock) : Jt a0 a1 a2 a3 b0 b1 b2 b3 w Ws W' gb bA cg x := by
  have h1 : gb < B := Nat.lt_trans h.gbB h.gB
  have h2 := h.sz
  have hB : ∀ q, x.ownBlock = some q → B ≤ q := fun q hq => (h.own.lt q hq).1
  have := h.jt.ge
  have := h.jt.gg
  have := h.gA
  have := h.gB
  refine h.jt.same (fun q _ hq => hg.block q (by omega) (fun e => by have := hB q e.symm; omega)) hg.size ?_
  exact h.jt.kj.below.grown hg (by omega) (fun q hq => by have := hB q hq; omega)
theorem Lj.more {a0 a1 a2 a3 b0 b1 b2 b3 : Value} {w W0 W W' : World} {Ws : List Int} {S : List Tc} {B gb bA cg g k : Nat} {x : Value} {C : List Tc} (h : Lj a0 a1 a2 a3 b0 b1 b2 b3 w Ws S B gb bA cg g W k x C) (hW : W0.heap.size ≤ W.heap.size) (hx : ∀ q, x.ownBlock = some q → q < W0.heap.size) (hB0 : B ≤ W0.heap.size) {a : Option Addr} {ts : List M.Nd} {cp g2 cap2 : Nat} (hk : k < S.length) (hts : S[k].2.1 = ts) (hne : ts ≠ []) (hr : RdN W a ts) (ha : ∀ p, a = some p → W0.heap.size ≤ p.block)
    (hg : W.grownBy W' x.ownBlock) (ho : W'.ownsRow B 22 1 (.slice (some ⟨g2, 0, none⟩) (k + 1) cap2) (k + 1) (C.map tV ++ [.slice a ts.length cp])) (hor : x.ownBlock = some g2 ∨ g2 = W.heap.size) :
    Lj a0 a1 a2 a3 b0 b1 b2 b3 w Ws S B gb bA cg g (W'.setCell ⟨gb, 3, none⟩ (.slice (some ⟨g2, 0, none⟩) (k + 1) cap2)) (k + 1) (.slice (some ⟨g2, 0, none⟩) (k + 1) cap2) (C ++ [(a, ts, cp)]) := by
  have h1 : gb < B := Nat.lt_trans h.gbB h.gB
  have h2 := h.sz
  have h3 := h.gB
  have hB : ∀ q, x.ownBlock = some q → B ≤ q := fun q hq => (h.own.lt q hq).1
  have sz : (W'.setCell ⟨gb, 3, none⟩ (.slice (some ⟨g2, 0, none⟩) (k + 1) cap2)).heap.size = W'.heap.size := by simp
  have blk : ∀ q, B ≤ q → q < W.heap.size → x.ownBlock ≠ some q → (W'.setCell ⟨gb, 3, none⟩ (.slice (some ⟨g2, 0, none⟩) (k + 1) cap2)).heap[q]? = W.heap[q]? := fun q q1 q2 q3 => (far_set (by omega)).trans (hg.block q q2 (fun e => q3 e.symm))
  have nb : ∀ p, a = some p → B ≤ p.block ∧ p.block < W.heap.size ∧ x.ownBlock ≠ some p.block ∧ p.block ≠ g2 := fun p hp => by
    obtain ⟨b, off, e, hl, _⟩ := hr.2 hne
    have q0 := ha p hp
    rw [hp] at e
    cases e
    refine ⟨by simp at q0 ⊢; omega, hl, fun e => by have := hx _ e; simp at q0 this; omega, fun e => ?_⟩
    rcases hor with q | q
    · have := hx _ q; simp at q0 e; omega
    · simp at e; omega
  refine ⟨(h.mid hg).put _, ?_, by simp [h.len], ?_, ?_, ?_, fun i hi => ?_, h3, h.gbB, h.gA, by rw [sz]; exact Nat.le_trans h2 hg.size⟩
  · have := own_far0 ho (p := gb) (o := 3) (x := .slice (some ⟨g2, 0, none⟩) (k + 1) cap2) h1
    rw [List.map_append]
    exact this
  · have e : tl (C ++ [(a, ts, cp)]) = tl C ++ [ts] := by simp [tl]
    have hk' : k < (tl S).length := by rw [tl_len]; exact hk
    rw [e, h.same, List.take_add_one, List.getElem?_eq_getElem hk']
    simp [tl, hts]
  · intro c hc
    rcases List.mem_append.1 hc with q | q
    · exact rdn_same (h.rd c q) (fun p hp => blk _ (h.apart c q p hp).1 (h.apart c q p hp).2.1 (h.apart c q p hp).2.2) (by rw [sz]; exact hg.size)
    · have e : c = (a, ts, cp) := by simpa using q
      subst e
      exact rdn_same hr (fun p hp => blk _ (nb p hp).1 (nb p hp).2.1 (nb p hp).2.2.1) (by rw [sz]; exact hg.size)
  · intro c hc p hp
    rw [sz]
    have ow : Value.ownBlock (.slice (some ⟨g2, 0, none⟩) (k + 1) cap2) = some g2 := rfl
    rw [ow]
    rcases List.mem_append.1 hc with q | q
    · obtain ⟨q1, q2, q3⟩ := h.apart c q p hp
      refine ⟨q1, Nat.lt_of_lt_of_le q2 hg.size, fun e => ?_⟩
      cases e
      rcases hor with r | r
      · exact q3 r
      · omega
    · have e : c = (a, ts, cp) := by simpa using q
      subst e
      obtain ⟨q1, q2, q3, q4⟩ := nb p hp
      exact ⟨q1, Nat.lt_of_lt_of_le q2 hg.size, fun e => q4 (by cases e; rfl)⟩
  · exact (same_cell (far_set (by have := h.gbB; omega))).trans ((same_cell (hg.block g (by omega) (fun e => by have := hB g e.symm; omega))).trans (h.src i hi))

/-- the new grove, as it is handed back -/
theorem Lj.done {a2 a3 b0 b1 b2 b3 : Value} {f wy : Int} {w W : World} {Ws : List Int} {S : List Tc} {B gb bA cg g : Nat} {x : Value} {C : List Tc} (h : Lj (.int .i64 f) (.int .i64 wy) a2 a3 b0 b1 b2 b3 w Ws S B gb bA cg g W S.length x C) (hp : 0 < S.length) (h12 : S.length ≤ 12) (hw : Ws.length ≤ 12) (y0 y1 y2 y3 : Value) :
    ∃ J : Gr, x = .slice J.ta J.ks.length J.tc ∧ J.f = f ∧ J.w = wy ∧ J.wa = some ⟨bA, 0, none⟩ ∧ J.ws = Ws ∧ J.wc = cg ∧ tl J.ks = tl S ∧ RdG ((((W.setCell ⟨w.heap.size + 1 + 1, 0, none⟩ y0).setCell ⟨w.heap.size + 1 + 1, 1, none⟩ y1).setCell ⟨w.heap.size + 1 + 1, 2, none⟩ y2).setCell ⟨w.heap.size + 1 + 1, 3, none⟩ y3) J := by
  have far : ∀ q, w.heap.size + 3 ≤ q → ((((W.setCell ⟨w.heap.size + 1 + 1, 0, none⟩ y0).setCell ⟨w.heap.size + 1 + 1, 1, none⟩ y1).setCell ⟨w.heap.size + 1 + 1, 2, none⟩ y2).setCell ⟨w.heap.size + 1 + 1, 3, none⟩ y3).heap[q]? = W.heap[q]? := fun q hq => by
    rw [far_set (by omega), far_set (by omega), far_set (by omega), far_set (by omega)]
  have sz : ((((W.setCell ⟨w.heap.size + 1 + 1, 0, none⟩ y0).setCell ⟨w.heap.size + 1 + 1, 1, none⟩ y1).setCell ⟨w.heap.size + 1 + 1, 2, none⟩ y2).setCell ⟨w.heap.size + 1 + 1, 3, none⟩ y3).heap.size = W.heap.size := by simp
  generalize ((((W.setCell ⟨w.heap.size + 1 + 1, 0, none⟩ y0).setCell ⟨w.heap.size + 1 + 1, 1, none⟩ y1).setCell ⟨w.heap.size + 1 + 1, 2, none⟩ y2).setCell ⟨w.heap.size + 1 + 1, 3, none⟩ y3) = V at *
  have i1 := h.jt.ge
  have i2 := h.jt.gg
  have i3 := h.gbB
  have i6 := h.jt.sA
  have i4 := h.gB
  have i5 := h.jt.sz
  rcases h.own.2 with ⟨_, h0⟩ | ⟨gx, cap, cur, hv, hb, hg, q1, q2, q3, q4⟩
  · omega
  · refine ⟨⟨f, wy, some ⟨bA, 0, none⟩, Ws, cg, some ⟨gx, 0, none⟩, C, cap⟩, by rw [hv, h.len], rfl, rfl, rfl, rfl, rfl, ?_, ⟨?_, ?_⟩, ?_, ?_⟩
    · show tl C = tl S
      rw [h.same, List.take_of_length_le (by rw [tl_len]; exact Nat.le_refl _)]
    · show Ws.length ≤ maxLen
      unfold maxLen; omega
    · intro _
      exact ⟨bA, 0, rfl, by rw [sz]; omega, fun i hi => by rw [Nat.zero_add]; exact (same_cell (far bA i1)).trans (h.jt.ws i hi)⟩
    · show C.length ≤ maxLen
      rw [h.len]; unfold maxLen; omega
    · refine ⟨fun c hc => rdn_same (h.rd c hc) (fun p hp => far _ (by have := (h.apart c hc p hp).1; omega)) (by rw [sz]; exact Nat.le_refl _), fun _ => ⟨gx, 0, rfl, by rw [sz]; exact (Array.getElem?_eq_some_iff.1 hg).1, fun i hi => ?_⟩⟩
      have hi' : i < C.length := hi
      have e := h.own
      rw [hv] at e
      have hlen := h.len
      have := e.cellAt i (by omega)
      rw [Nat.zero_add]
      refine (same_cell (far gx (by omega))).trans (this.trans ?_)
      rw [List.getElem?_map, List.getElem?_eq_getElem hi']
      rfl

end Go.Proofs.YtandimbpealclacDoor

namespace Go.Proofs.YtandimbpealclacDoor
open Go.ChangeShapes Go.WideShapes Go.ChangeAt Go.RowKit Go.Lib
set_option linter.unusedVariables false

/-- two lists of weights as one, where the call lays them -/
theorem concat_weights (b1 o1 b2 o2 : Nat) (xs ys : List Int) (ca cb : Nat) (V : World) (hx : Rd V (some ⟨b1, o1, none⟩) xs) (hy : Rd V (some ⟨b2, o2, none⟩) ys) (lp : 0 < xs.length) (la : xs.length ≤ 12) (lb : ys.length ≤ 12)
    (B : Nat) (hB : B < V.heap.size) (h0 : V.cell? ⟨B, 0, none⟩ = some (.slice (some ⟨b1, o1, none⟩) xs.length ca)) (h1 : V.cell? ⟨B, 1, none⟩ = some (.slice (some ⟨b2, o2, none⟩) ys.length cb)) :
    Calls Tryd.prog 40 #[.slice (some ⟨B, 0, none⟩) 2 2] V fun e w' => ∃ bA cg, e = .returned (.slice (some ⟨bA, 0, none⟩) (xs ++ ys).length cg) ∧ V.heap.size ≤ bA ∧ bA < w'.heap.size ∧ (∀ i, i < (xs ++ ys).length → w'.cell? ⟨bA, i, none⟩ = some (.int .i64 ((xs ++ ys).getD i 0))) ∧ Below V.heap.size V w' := by
  refine (concat_two B (some ⟨b1, o1, none⟩) (some ⟨b2, o2, none⟩) xs ys ca cb V hB h0 h1 hx hy (fun e => by cases e) (fun e => by cases e) (by omega) (by omega)).mono ?_
  rintro e w' ⟨v, rfl, ho, hb⟩
  obtain ⟨g, cap, rfl, h1, h2⟩ := own_shape ho (by rw [List.length_append]; omega)
  refine ⟨g, cap, rfl, h1, h2, fun i hi => ?_, hb⟩
  rw [own_at ho rfl i hi, M.getD_at hi]
/-- two lists of trees as one -/
theorem concat_both (b1 o1 b2 o2 : Nat) (xs ys : List Tc) (ca cb : Nat) (w V : World) (T : TypeId) (hx : RdT w (some ⟨b1, o1, none⟩) xs) (hy : RdT w (some ⟨b2, o2, none⟩) ys) (lp : 0 < xs.length) (lq : 0 < ys.length) (la : xs.length ≤ 12) (lb : ys.length ≤ 12)
    (hV : V = w.alloc (.cells #[.slice (some ⟨b1, o1, none⟩) xs.length ca, .slice (some ⟨b2, o2, none⟩) ys.length cb] T)) (B : Nat) (hB : B = w.heap.size) :
    Calls Tryd.prog 41 #[.slice (some ⟨B, 0, none⟩) 2 2] V fun e w' => ∃ g cg, e = .returned (.slice (some ⟨g, 0, none⟩) (xs ++ ys).length cg) ∧ w.heap.size < g ∧ g < w'.heap.size ∧ (∀ i (h : i < (xs ++ ys).length), w'.cell? ⟨g, i, none⟩ = some (tV (xs ++ ys)[i])) ∧ Below w.heap.size w w' := by
  subst hV
  subst hB
  have b0 : Below w.heap.size w (w.alloc (.cells #[.slice (some ⟨b1, o1, none⟩) xs.length ca, .slice (some ⟨b2, o2, none⟩) ys.length cb] T)) := (Below.refl _ w).alloc (Nat.le_refl _) _
  obtain ⟨_, _, e1, l1, c1⟩ := (hx.below b0).2.2 (by intro e; rw [e] at lp; simp at lp)
  obtain ⟨_, _, e2, l2, c2⟩ := (hy.below b0).2.2 (by intro e; rw [e] at lq; simp at lq)
  cases e1
  cases e2
  refine (concat_trees w.heap.size b1 o1 b2 o2 xs ys ca cb _ (by simp) (World.cell?_alloc_at _ _ _ 0 rfl) (World.cell?_alloc_at _ _ _ 1 rfl) l1 l2 c1 c2 la lb lp).mono ?_
  rintro e w' ⟨v, rfl, ho, hb⟩
  rcases ho.2 with ⟨_, h0⟩ | ⟨g, cap, cur, rfl, h1, hg, h3⟩
  · rw [List.length_append] at h0; omega
  · refine ⟨g, cap, rfl, by simp at h1; omega, (Array.getElem?_eq_some_iff.1 hg).1, fun i hi => ?_, below_on b0 hb⟩
    refine (ho.cellAt i (by omega)).trans ?_
    rw [List.getElem?_map, List.getElem?_eq_getElem hi]
    rfl

theorem jt_start {a0 a1 a2 a3 b0 b1 b2 b3 : Value} {w W : World} {Ws : List Int} {bA cg : Nat} (h : Kj a0 a1 a2 a3 b0 b1 b2 b3 w W) (h1 : w.heap.size + 3 ≤ bA) (h2 : bA < W.heap.size) (hc : ∀ i, i < Ws.length → W.cell? ⟨bA, i, none⟩ = some (.int .i64 (Ws.getD i 0))) :
    Jt a0 a1 a2 a3 b0 b1 b2 b3 w Ws (W.alloc (.cells #[a0, a1, .slice (some ⟨bA, 0, none⟩) Ws.length cg, .slice none 0 0] 38)) W.heap.size bA cg (.slice none 0 0) := by
  have hb : Below W.heap.size W (W.alloc (.cells #[a0, a1, .slice (some ⟨bA, 0, none⟩) Ws.length cg, .slice none 0 0] 38)) := (Below.refl _ W).alloc (Nat.le_refl _) _
  exact ⟨h.up hb, World.cell?_alloc_at _ _ _ 0 rfl, World.cell?_alloc_at _ _ _ 1 rfl, World.cell?_alloc_at _ _ _ 2 rfl, World.cell?_alloc_at _ _ _ 3 rfl, frozen_new _ _ _ 3, by omega, h1, h.size, by simp, by simp; omega, fun i hi => (hb.cell (p := ⟨bA, i, none⟩) h2).trans (hc i hi)⟩

theorem below_two (W : World) (o1 o2 : Obj) : Below W.heap.size W ((W.alloc o1).alloc o2).drew := (((Below.refl _ W).alloc (Nat.le_refl _) _).alloc (by simp) _).drew
theorem below_one (W : World) (o1 : Obj) : Below W.heap.size W (W.alloc o1).drew := ((Below.refl _ W).alloc (Nat.le_refl _) _).drew
theorem pair_a (W : World) (x y : Value) (T : TypeId) (o : Obj) : ((W.alloc (.cells #[x, y] T)).alloc o).drew.cell? ⟨W.heap.size, 0, none⟩ = some x ∧ ((W.alloc (.cells #[x, y] T)).alloc o).drew.cell? ⟨W.heap.size, 1, none⟩ = some y :=
  ⟨(((Below.refl _ _).alloc (Nat.le_refl _) o).drew.cell (p := ⟨W.heap.size, 0, none⟩) (by simp)).trans (World.cell?_alloc_at _ _ _ 0 rfl), (((Below.refl _ _).alloc (Nat.le_refl _) o).drew.cell (p := ⟨W.heap.size, 1, none⟩) (by simp)).trans (World.cell?_alloc_at _ _ _ 1 rfl)⟩
theorem pair_b (W : World) (x y : Value) (T : TypeId) (o : Obj) : ((W.alloc o).alloc (.cells #[x, y] T)).drew.cell? ⟨W.heap.size + 1, 0, none⟩ = some x ∧ ((W.alloc o).alloc (.cells #[x, y] T)).drew.cell? ⟨W.heap.size + 1, 1, none⟩ = some y := by
  have e : (W.alloc o).heap.size = W.heap.size + 1 := by simp
  rw [← e]
  exact ⟨World.cell?_alloc_at (w := W.alloc o) _ _ _ 0 rfl, World.cell?_alloc_at (w := W.alloc o) _ _ _ 1 rfl⟩
theorem lt_two (W : World) (o1 o2 : Obj) : W.heap.size < ((W.alloc o1).alloc o2).drew.heap.size ∧ W.heap.size + 1 < ((W.alloc o1).alloc o2).drew.heap.size := by
  have e : ((W.alloc o1).alloc o2).drew.heap.size = W.heap.size + 1 + 1 := by
    show ((W.alloc o1).alloc o2).heap.size = _
    simp
  omega
abbrev zObj : Obj := .cells #[.int .i64 0, .int .i64 0, .slice none 0 0, .slice none 0 0] 38
/-- a block of nothing -/
structure Z4 (V : World) (gb : Nat) : Prop where
  c0 : V.cell? ⟨gb, 0, none⟩ = some (.int .i64 0)
  c1 : V.cell? ⟨gb, 1, none⟩ = some (.int .i64 0)
  c2 : V.cell? ⟨gb, 2, none⟩ = some (.slice none 0 0)
  c3 : V.cell? ⟨gb, 3, none⟩ = some (.slice none 0 0)
  fr : ∀ j, V.frozen? ⟨gb, j, none⟩ = false
  sz : gb < V.heap.size
theorem z_made (W : World) : Z4 (W.alloc zObj) W.heap.size := ⟨World.cell?_alloc_at _ _ _ 0 rfl, World.cell?_alloc_at _ _ _ 1 rfl, World.cell?_alloc_at _ _ _ 2 rfl, World.cell?_alloc_at _ _ _ 3 rfl, fun j => frozen_new _ _ _ j, by simp⟩
theorem Z4.up {V V' : World} {gb : Nat} (h : Z4 V gb) (hb : Below V.heap.size V V') : Z4 V' gb := by
  have s := hb.block gb h.sz
  exact ⟨(same_cell s).trans h.c0, (same_cell s).trans h.c1, (same_cell s).trans h.c2, (same_cell s).trans h.c3, fun j => (same_frozen s).trans (h.fr j), Nat.lt_of_lt_of_le h.sz hb.size⟩
theorem z_a (W : World) (o : Obj) : Z4 ((W.alloc o).alloc zObj).drew (W.heap.size + 1) := by
  have h := (z_made (W.alloc o)).up (Below.refl _ _).drew
  have e : (W.alloc o).heap.size = W.heap.size + 1 := by simp
  rw [e] at h
  exact h
theorem z_b (W : World) (o : Obj) : Z4 ((W.alloc zObj).alloc o).drew W.heap.size := (z_made W).up (((Below.refl _ _).alloc (Nat.le_refl _) _).drew)
theorem jt_put4 {a0 a1 a2 a3 b0 b1 b2 b3 : Value} {w W : World} {Ws : List Int} {gb bA cg : Nat} (h : Kj a0 a1 a2 a3 b0 b1 b2 b3 w W) (z : Z4 W gb) (hg : w.heap.size + 3 ≤ gb) (h0 : gb < bA) (h2 : bA < W.heap.size) (hc : ∀ i, i < Ws.length → W.cell? ⟨bA, i, none⟩ = some (.int .i64 (Ws.getD i 0))) :
    Jt a0 a1 a2 a3 b0 b1 b2 b3 w Ws ((((W.setCell ⟨gb, 0, none⟩ a0).setCell ⟨gb, 1, none⟩ a1).setCell ⟨gb, 2, none⟩ (.slice (some ⟨bA, 0, none⟩) Ws.length cg)).setCell ⟨gb, 3, none⟩ (.slice none 0 0)) gb bA cg (.slice none 0 0) := by
  obtain ⟨e0, e1, e2, e3⟩ := set4 (x0 := a0) (x1 := a1) (x2 := .slice (some ⟨bA, 0, none⟩) Ws.length cg) (x3 := .slice none 0 0) z.c0 z.c1 z.c2 z.c3
  have o : ∀ (V : World) (i j : Nat) (v : Value), i ≠ j → (V.setCell ⟨gb, i, none⟩ v).cell? ⟨gb, j, none⟩ = V.cell? ⟨gb, j, none⟩ := fun V i j v hij => World.cell?_setCell_other _ _ _ _ (by intro e; cases e; exact hij rfl)
  have far : ∀ q, q ≠ gb → ((((W.setCell ⟨gb, 0, none⟩ a0).setCell ⟨gb, 1, none⟩ a1).setCell ⟨gb, 2, none⟩ (.slice (some ⟨bA, 0, none⟩) Ws.length cg)).setCell ⟨gb, 3, none⟩ (.slice none 0 0)).heap[q]? = W.heap[q]? := fun q hq => by
    rw [far_set (fun e => hq e.symm), far_set (fun e => hq e.symm), far_set (fun e => hq e.symm), far_set (fun e => hq e.symm)]
  have sz : ((((W.setCell ⟨gb, 0, none⟩ a0).setCell ⟨gb, 1, none⟩ a1).setCell ⟨gb, 2, none⟩ (.slice (some ⟨bA, 0, none⟩) Ws.length cg)).setCell ⟨gb, 3, none⟩ (.slice none 0 0)).heap.size = W.heap.size := by simp
  refine ⟨h.same (fun q _ hq => far q (by omega)) (by rw [sz]; exact Nat.le_refl _) (below4 h.below (by omega)), ?_, ?_, ?_, e3, ?_, by omega, by omega, hg, by rw [sz]; exact z.sz, by rw [sz]; exact h2, fun i hi => (same_cell (far bA (by omega))).trans (hc i hi)⟩
  · rw [o _ _ _ _ (by decide), o _ _ _ _ (by decide), o _ _ _ _ (by decide)]; exact e0
  · rw [o _ _ _ _ (by decide), o _ _ _ _ (by decide)]; exact e1
  · rw [o _ _ _ _ (by decide)]; exact e2
  · have := z.fr 3
    simpa using this

/-- behind the weights' call, the block that is to hold the grove already laid -/
structure Wf (a0 a1 a2 a3 b0 b1 b2 b3 : Value) (w : World) (Ws : List Int) (W : World) (gb bA cg : Nat) : Prop where
  kj : Kj a0 a1 a2 a3 b0 b1 b2 b3 w W
  z : Z4 W gb
  jt : Jt a0 a1 a2 a3 b0 b1 b2 b3 w Ws ((((W.setCell ⟨gb, 0, none⟩ a0).setCell ⟨gb, 1, none⟩ a1).setCell ⟨gb, 2, none⟩ (.slice (some ⟨bA, 0, none⟩) Ws.length cg)).setCell ⟨gb, 3, none⟩ (.slice none 0 0)) gb bA cg (.slice none 0 0)
theorem after_a {a0 a1 a2 a3 c0 c1 c2 c3 : Value} {w W w3 : World} {o : Obj} {Ws : List Int} {bA : Nat} (cg : Nat) (K : Kj a0 a1 a2 a3 c0 c1 c2 c3 w W) (h1 : ((W.alloc o).alloc zObj).drew.heap.size ≤ bA) (h2 : bA < w3.heap.size) (h3 : ∀ i, i < Ws.length → w3.cell? ⟨bA, i, none⟩ = some (.int .i64 (Ws.getD i 0))) (hb : Below ((W.alloc o).alloc zObj).drew.heap.size ((W.alloc o).alloc zObj).drew w3) : Wf a0 a1 a2 a3 c0 c1 c2 c3 w Ws w3 (W.heap.size + 1) bA cg := by
  have s := K.size
  have K3 := K.up (below_on (below_two W o zObj) hb)
  have Z := (z_a W o).up hb
  refine ⟨K3, Z, jt_put4 K3 Z (by omega) ?_ h2 h3⟩
  simp at h1
  omega
theorem after_b {a0 a1 a2 a3 c0 c1 c2 c3 : Value} {w W w3 : World} {o : Obj} {Ws : List Int} {bA : Nat} (cg : Nat) (K : Kj a0 a1 a2 a3 c0 c1 c2 c3 w W) (h1 : ((W.alloc zObj).alloc o).drew.heap.size ≤ bA) (h2 : bA < w3.heap.size) (h3 : ∀ i, i < Ws.length → w3.cell? ⟨bA, i, none⟩ = some (.int .i64 (Ws.getD i 0))) (hb : Below ((W.alloc zObj).alloc o).drew.heap.size ((W.alloc zObj).alloc o).drew w3) : Wf a0 a1 a2 a3 c0 c1 c2 c3 w Ws w3 W.heap.size bA cg := by
  have s := K.size
  have K3 := K.up (below_on (below_two W zObj o) hb)
  have Z := (z_b W o).up hb
  refine ⟨K3, Z, jt_put4 K3 Z (by omega) ?_ h2 h3⟩
  simp at h1
  omega
theorem after_c {a0 a1 a2 a3 c0 c1 c2 c3 : Value} {w W w3 : World} {o : Obj} {Ws : List Int} {bA : Nat} (cg : Nat) (K : Kj a0 a1 a2 a3 c0 c1 c2 c3 w W) (h1 : (W.alloc o).drew.heap.size ≤ bA) (h2 : bA < w3.heap.size) (h3 : ∀ i, i < Ws.length → w3.cell? ⟨bA, i, none⟩ = some (.int .i64 (Ws.getD i 0))) (hb : Below (W.alloc o).drew.heap.size (W.alloc o).drew w3) :
    Kj a0 a1 a2 a3 c0 c1 c2 c3 w w3 ∧ Jt a0 a1 a2 a3 c0 c1 c2 c3 w Ws (w3.alloc (.cells #[a0, a1, .slice (some ⟨bA, 0, none⟩) Ws.length cg, .slice none 0 0] 38)) w3.heap.size bA cg (.slice none 0 0) := by
  have s := K.size
  have K3 := K.up (below_on (below_one W o) hb)
  refine ⟨K3, jt_start K3 ?_ h2 h3⟩
  simp at h1
  omega

theorem lj_start {a0 a1 a2 a3 b0 b1 b2 b3 : Value} {w W W' : World} {Ws : List Int} {S : List Tc} {gb bA cg g : Nat} (h : Jt a0 a1 a2 a3 b0 b1 b2 b3 w Ws W gb bA cg (.slice none 0 0)) (h1 : W.heap.size < g) (h2 : g < W'.heap.size) (h3 : ∀ i (h : i < S.length), W'.cell? ⟨g, i, none⟩ = some (tV S[i])) (hb : Below W.heap.size W W') :
    Lj a0 a1 a2 a3 b0 b1 b2 b3 w Ws S W'.heap.size gb bA cg g W' 0 (.slice none 0 0) [] :=
  ⟨h.up hb, World.ownsRow_nil _ _ _ _, rfl, (by simp [tl]), (fun c hc => by cases hc), (fun c hc => by cases hc), h3, h2, by have := h.sz; omega, by have := h.sA; omega, Nat.le_refl _⟩
theorem one_new (W : World) (v : Value) (t : TypeId) : ∀ j u, [v][j]? = some u → (W.alloc (.cells #[v] t)).cell? ((⟨W.heap.size, 0, none⟩ : Addr).add j) = some u := by
  intro j u hj
  rcases j with _ | j
  · cases hj
    rw [add_flat]
    exact World.cell?_alloc_at _ _ _ 0 rfl
  · cases hj

set_option maxHeartbeats 16000000 in
set_option maxRecDepth 10000 in
theorem gjoin_good (G O : Gr) (w : World) (h : RdG w G) (ho : RdG w O) (he : M.joinF G.m O.m = 0) :
    Calls Tryd.prog 21 #[G.v, O.v] w fun e w' => ∃ J : Gr, e = .returned (.tuple #[J.v, .nilIface]) ∧ J.m = M.joinG G.m O.m ∧ RdG w' J ∧ Below w.heap.size w w' := by
  obtain ⟨A, B, e1, e2, e3⟩ := M.join_ok he
  have tg : (M.gt G.m).length = G.ks.length := tl_len G.ks
  have to' : (M.gt O.m).length = O.ks.length := tl_len O.ks
  have g0 : 0 < G.ks.length := by rw [← tg]; exact A.t0
  have o0 : 0 < O.ks.length := by rw [← to']; exact B.t0
  have n12 : G.ks.length + O.ks.length ≤ 12 := by rw [← tg, ← to']; exact e3
  have lg : G.ws.length = G.ks.length := by rw [← tg]; exact A.len
  have lo : O.ws.length = O.ks.length := by rw [← to']; exact B.len
  have gg : M.groveF G.m = 0 := (M.good_iff _).2 A
  have go : M.groveF O.m = 0 := (M.good_iff _).2 B
  have C1 := hide (fun W (hW : Below w.heap.size w W) => gcheck_any G W (h.below hW))
  have C2 := hide (fun W (hW : Below w.heap.size w W) => gcheck_any O W (ho.below hW))
  rw [gg, err_nil rfl] at C1
  rw [go, err_nil rfl] at C2
  obtain ⟨bt, ot, eta, hbt, hct⟩ := h.2.2.2 (by intro e; rw [e] at g0; simp at g0)
  obtain ⟨bu, ou, etu, hbu, hcu⟩ := ho.2.2.2 (by intro e; rw [e] at o0; simp at o0)
  obtain ⟨bw, ow, ewa, hbw, hcw⟩ := h.1.2 (by intro e; rw [e] at lg; simp at lg; omega)
  obtain ⟨bv, ov, ewo, hbv, hcv⟩ := ho.1.2 (by intro e; rw [e] at lo; simp at lo; omega)
  have CW := hide (fun V (hV : Below w.heap.size w V) B hB h0 h1 => concat_weights bw ow bv ov G.ws O.ws G.wc O.wc V (by rw [← ewa]; exact h.1.below hV) (by rw [← ewo]; exact ho.1.below hV) (by omega) (by omega) (by omega) B hB h0 h1)
  have CT := hide (fun W V T (hW : Below w.heap.size w W) hV B hB => concat_both bt ot bu ou G.ks O.ks G.tc O.tc W V T (by rw [← eta]; exact h.2.below hW) (by rw [← etu]; exact ho.2.below hW) (by omega) (by omega) (by omega) (by omega) hV B hB)
  have K0 := hide (kj_start w (.int .i64 G.f) (.int .i64 G.w) (.slice (some ⟨bw, ow, none⟩) G.ws.length G.wc) (.slice (some ⟨bt, ot, none⟩) G.ks.length G.tc) (.int .i64 O.f) (.int .i64 O.w) (.slice (some ⟨bv, ov, none⟩) O.ws.length O.wc) (.slice (some ⟨bu, ou, none⟩) O.ks.length O.tc))
  have TS : Hid (∀ k ∈ G.ks ++ O.ks, M.Fair k.2.1 G.f ∧ ∀ W, Below w.heap.size w W → RdN W k.1 k.2.1) := fun k hk => by
    rcases List.mem_append.1 hk with q | q
    · exact ⟨(M.tree_ok (A.trees k.2.1 (List.mem_map.2 ⟨k, q, rfl⟩))).1, fun W hW => (h.below hW).2.2.1 k q⟩
    · refine ⟨?_, fun W hW => (ho.below hW).2.2.1 k q⟩
      have := (M.tree_ok (B.trees k.2.1 (List.mem_map.2 ⟨k, q, rfl⟩))).1
      rw [← e1] at this
      exact this
  have EJ : Hid (∀ J : Gr, J.f = G.f → J.w = G.w → J.ws = G.ws ++ O.ws → tl J.ks = tl (G.ks ++ O.ks) → J.m = M.joinG G.m O.m) := fun J q1 q2 q3 q4 => by
    unfold Gr.m M.joinG
    rw [q1, q2, q3, q4]
    show _ = (G.f, G.w, G.ws ++ O.ws, tl G.ks ++ tl O.ks)
    simp [tl]
  have q1 : (G.f != O.f) = false := by rw [bne_eq_false_iff_eq]; exact e1
  have q2 : (G.w != O.w) = false := by rw [bne_eq_false_iff_eq]; exact e2
  have q3 : decide (12 < (G.ks.length : Int) + (O.ks.length : Int)) = false := decide_eq_false (by omega)
  have N12 : (G.ks ++ O.ks).length ≤ 12 := by rw [List.length_append]; exact n12
  have N0 : 0 < (G.ks ++ O.ks).length := by rw [List.length_append]; omega
  have W12 : Hid ((G.ws ++ O.ws).length ≤ 12) := by unfold Hid; rw [List.length_append]; omega
  have gk : G.ks.length ≤ 12 := by omega
  have ok : O.ks.length ≤ 12 := by omega
  unfold Gr.v at C1 C2 ⊢
  rw [ewa, eta] at C1 ⊢
  rw [ewo, etu] at C2 ⊢
  clear h ho he A B e1 e2 e3 tg to' lg lo gg go hbt hct hbu hcu hbw hcw hbv hcv eta etu ewa ewo n12 g0 o0
  generalize hS : G.ks ++ O.ks = S at *
  have HS := hide hS
  clear hS
  generalize hWs : G.ws ++ O.ws = Ws at *
  have HWs := hide hWs
  clear hWs
  go_enter Tryd.func21, Tryd.ntmps21
  go_upto_region 11 with (first
    | (go_at_call 11; have hone := z1; refine (C2.out _ K1.out.below).mono ?_; rintro e w2 ⟨rfl, hb2⟩; have K2 := hide (K1.out.up hb2); have y0 := K2.out.a.1; have y1 := K2.out.a.2.1; have y2 := K2.out.a.2.2.1; have y3 := K2.out.a.2.2.2; have z2 := K2.out.b.1; have z3 := K2.out.b.2.1; have z5 := K2.out.b.2.2.1; have z4 := K2.out.b.2.2.2; clear z1)
    | (go_at_call 11; refine (C1.out _ K0.out.below).mono ?_; rintro e w1 ⟨rfl, hb1⟩; have K1 := hide (K0.out.up hb1); have z1 := K1.out.b.1; have z11 := K1.out.b.2.1; have z12 := K1.out.b.2.2.1; have z13 := K1.out.b.2.2.2))
  go_cut [8] from 47 to 57 (fun u wx => ∃ gb bA cg, u = .pointer (some ⟨gb, 0, none⟩) ∧ Hid (Jt (.int .i64 G.f) (.int .i64 G.w) (.slice (some ⟨bw, ow, none⟩) G.ws.length G.wc) (.slice (some ⟨bt, ot, none⟩) G.ks.length G.tc) (.int .i64 O.f) (.int .i64 O.w) (.slice (some ⟨bv, ov, none⟩) O.ws.length O.wc) (.slice (some ⟨bu, ou, none⟩) O.ks.length O.tc) w Ws wx gb bA cg (.slice none 0 0)))
  case first =>
    have n1 : ¬ w2.heap.size + 1 = w.heap.size := by have := K2.out.size; omega
    have n2 : ¬ w2.heap.size = w.heap.size := by have := K2.out.size; omega
    have n3 : ¬ w2.heap.size = w.heap.size + 1 := by have := K2.out.size; omega
    go_region_held3 (fun W => W.cell? ⟨w.heap.size, 0, none⟩ = some (.int .i64 G.f) ∧ W.cell? ⟨w.heap.size, 1, none⟩ = some (.int .i64 G.w) ∧ W.cell? ⟨w.heap.size, 2, none⟩ = some (.slice (some ⟨bw, ow, none⟩) G.ws.length G.wc) ∧ W.cell? ⟨w.heap.size + 1, 2, none⟩ = some (.slice (some ⟨bv, ov, none⟩) O.ws.length O.wc)) (go_keep) (first
      | ((go_at_call 40; refine (CW.out _ ?qw _ ?qB ?q0 ?q1).mono ?_; (case qw => exact below_on K2.out.below (below_two _ _ _)); (case qB => first | exact (lt_two _ _ _).1 | exact (lt_two _ _ _).2); (case q0 => first | exact (pair_a _ _ _ _ _).1 | exact (pair_b _ _ _ _ _).1); (case q1 => first | exact (pair_a _ _ _ _ _).2 | exact (pair_b _ _ _ _ _).2); rintro e w3 ⟨bA, cg, rfl, h1, h2, h3, hb3⟩; first | (have HW := after_a cg K2.out h1 h2 h3 hb3; have za := HW.z.c0; have zb := HW.z.c1; have zc := HW.z.c2; have zd := HW.z.c3; have fa := HW.z.fr 0; have fb := HW.z.fr 1; have fc := HW.z.fr 2; have fd := HW.z.fr 3; have y00 := HW.kj.a.1; have y11 := HW.kj.a.2.1; have y22 := HW.kj.a.2.2.1; have z55 := HW.kj.b.2.2.1; have J3 := hide HW.jt; clear HW) | (have HW := after_b cg K2.out h1 h2 h3 hb3; have za := HW.z.c0; have zb := HW.z.c1; have zc := HW.z.c2; have zd := HW.z.c3; have fa := HW.z.fr 0; have fb := HW.z.fr 1; have fc := HW.z.fr 2; have fd := HW.z.fr 3; have y00 := HW.kj.a.1; have y11 := HW.kj.a.2.1; have y22 := HW.kj.a.2.2.1; have z55 := HW.kj.b.2.2.1; have J3 := hide HW.jt; clear HW)))
      | (go_at_call 40; refine (CW.out _ ?qw _ ?qB ?q0 ?q1).mono ?_; (case qw => exact below_on K2.out.below (below_one _ _)); (case qB => simp); (case q0 => go_simp); (case q1 => go_simp); rintro e w3 ⟨bA, cg, rfl, h1, h2, h3, hb3⟩; obtain ⟨HK, HJ⟩ := after_c cg K2.out h1 h2 h3 hb3; have y00 := HK.a.1; have y11 := HK.a.2.1; have y22 := HK.a.2.2.1; have z55 := HK.b.2.2.1; have J3 := hide HJ; clear HJ HK))
    all_goals go_wp2
    all_goals go_meet
    all_goals (case rel => exact ⟨_, _, _, rfl, J3⟩)
  case rest =>
    obtain ⟨gb, bA, cg, rfl, JT⟩ := hcut
    have t3 := JT.out.kj.a.2.2.2
    have u3 := JT.out.kj.b.2.2.2
    clear y0 y1 y2 y3 z2 z3 z4 z5 K2 CW C1 C2 K0 K1
    go_wp2_with (go_at_call 41; refine (CT.out _ _ _ JT.out.kj.below rfl _ rfl).mono ?_; rintro e w4 ⟨g, cg2, rfl, h1, h2, h3, hb4⟩; have L0 := hide (lj_start (S := S) JT.out h1 h2 h3 hb4); clear h3)
    generalize w4.heap.size = B at *
    go_loopw [65] (fun i wr => ∃ k : Nat, k ≤ S.length ∧ i = .int .i64 k ∧ Hid (∃ x C, Lj (.int .i64 G.f) (.int .i64 G.w) (.slice (some ⟨bw, ow, none⟩) G.ws.length G.wc) (.slice (some ⟨bt, ot, none⟩) G.ks.length G.tc) (.int .i64 O.f) (.int .i64 O.w) (.slice (some ⟨bv, ov, none⟩) O.ws.length O.wc) (.slice (some ⟨bu, ou, none⟩) O.ks.length O.tc) w Ws S B gb bA cg g wr k x C)) (fun i _ => S.length - (intOf i).toNat)
    case atStart => exact ⟨0, Nat.zero_le _, rfl, ⟨_, _, L0.out⟩⟩
    case round =>
      clear L0 hb4 h1 h2 JT t3 u3 CT
      obtain ⟨k, hk, rfl, LJ⟩ := hrel
      obtain ⟨x, C, hL⟩ := LJ.out
      have HL := hide hL
      by_cases hlt : k < S.length
      · obtain ⟨i0, hi, hz0, hz1, hz2⟩ := info_parts infoT
        obtain ⟨F, hrk⟩ := TS.out _ (List.getElem_mem hlt)
        have ne : S[k].2.1 ≠ [] := by
          intro e
          have := F.2.1
          rw [e] at this
          simp at this
        obtain ⟨bs, os, es, hbs, hcs⟩ := (hrk wr hL.jt.kj.below).2 ne
        have ct := hL.src k hlt
        unfold tV at ct
        rw [es] at ct
        have kz : (k : Int) < (S.length : Int) := by omega
        have CL := hide (clone_nodes bs os S[k].2.2 S[k].2.1 wr.drew hcs F.1 hbs)
        have c30 := hL.jt.c3
        have c31 : wr.drew.cell? ⟨gb, 3, none⟩ = some x := c30
        have HT : Hid (S[k].2.1 = S[k].2.1) := rfl
        have NE := hide ne
        have OX : Hid (∀ q, x.ownBlock = some q → q < wr.heap.size) := fun q hq => (hL.own.lt q hq).2
        have hn1 := hL.sz
        have MO : Hid (∀ (w5 : World) (o : Obj) a cp g2 cap2 w6, Below wr.heap.size wr w5 → RdN w5 a S[k].2.1 → (∀ p, a = some p → wr.heap.size ≤ p.block) → (w5.alloc o).grownBy w6 x.ownBlock → w6.ownsRow B 22 1 (.slice (some ⟨g2, 0, none⟩) (k + 1) cap2) (k + 1) (C.map tV ++ [.slice a S[k].2.1.length cp]) → (x.ownBlock = some g2 ∨ g2 = w5.heap.size + 1) → Jt (.int .i64 G.f) (.int .i64 G.w) (.slice (some ⟨bw, ow, none⟩) G.ws.length G.wc) (.slice (some ⟨bt, ot, none⟩) G.ks.length G.tc) (.int .i64 O.f) (.int .i64 O.w) (.slice (some ⟨bv, ov, none⟩) O.ws.length O.wc) (.slice (some ⟨bu, ou, none⟩) O.ks.length O.tc) w Ws w6 gb bA cg x ∧ ∃ x2 C2, x2 = .slice (some ⟨g2, 0, none⟩) (k + 1) cap2 ∧ Lj (.int .i64 G.f) (.int .i64 G.w) (.slice (some ⟨bw, ow, none⟩) G.ws.length G.wc) (.slice (some ⟨bt, ot, none⟩) G.ks.length G.tc) (.int .i64 O.f) (.int .i64 O.w) (.slice (some ⟨bv, ov, none⟩) O.ws.length O.wc) (.slice (some ⟨bu, ou, none⟩) O.ks.length O.tc) w Ws S B gb bA cg g (w6.setCell ⟨gb, 3, none⟩ x2) (k + 1) x2 C2) := by
          intro w5 o a cp g2 cap2 w6 hb hr ha hg ho hor
          have hb2 : Below w5.heap.size w5 (w5.alloc o) := (Below.refl _ w5).alloc (Nat.le_refl _) o
          have L6 := (hL.up hb).up hb2
          refine ⟨L6.mid hg, _, _, rfl, L6.more (W0 := wr) ?_ OX.out hn1 hlt rfl ne (hr.below hb2) ha hg ho ?_⟩
          · have := hb.size
            simp
            omega
          · simpa using hor
        have OW : Hid (∀ (w5 : World) (o : Obj), Below wr.heap.size wr w5 → (w5.alloc o).ownsRow B 22 1 x k (C.map tV) ∧ B ≤ (w5.alloc o).heap.size ∧ w5.cell? ⟨gb, 3, none⟩ = some x ∧ (w5.alloc o).cell? ⟨gb, 3, none⟩ = some x) := by
          intro w5 o hb
          have hb2 : Below w5.heap.size w5 (w5.alloc o) := (Below.refl _ w5).alloc (Nat.le_refl _) o
          have L6 := (hL.up hb).up hb2
          exact ⟨L6.own, L6.sz, (hL.up hb).jt.c3, L6.jt.c3⟩
        clear hL F hrk hbs hcs es HT LJ NE OX TS EJ
        generalize S[k].2.1 = ts at *
        generalize S[k].2.2 = tcc at *
        go_upto_region 15 with fail
        go_region_law (first
          | (refine step_append_lies _ rfl (.tmp 70) (.tmp 73) 36 rfl B 22 i0 (.slice none 0 0) 1 24 Tryd.underlying36 hi hz0 hz1 hz2 rfl (by decide) x k (C.map tV) rfl A5.out.1 ⟨w5.heap.size, 0, none⟩ 1 1 [.slice ac ts.length cap5] rfl rfl (one_new _ _ _) (by intro u hu; simp at hu; subst hu; rfl) (by decide) (by unfold maxLen; omega) (by omega) A5.out.2.1 (w5.heap.size + 1) (by simp) ?_; intro g2 cap2 w6 hown6 hgrow6 hor6 hlt6; obtain ⟨J6, x2, C2, ex2, NL⟩ := MO.out w5 _ ac cap5 g2 cap2 w6 hb5' hr5 ha5 hgrow6 hown6 hor6; have c37 := J6.c3; have f37 := J6.fr; subst ex2; have NX := hide NL; clear NL J6 hown6 hgrow6 hor6)
          | (go_simp; go_at_call 42; refine CL.out.mono ?_; rintro e w5 ⟨ac, cap5, rfl, hr5, ha5, hb5⟩; have hb5' : Below wr.heap.size wr w5 := below_on (Below.refl _ wr).drew hb5; have A5 := hide (OW.out w5 (.cells #[.slice ac ts.length cap5] 22) hb5'); have c35 := A5.out.2.2.1; have c36 := A5.out.2.2.2))
        all_goals (
          go_wp2
          go_roundw
          case rel => exact ⟨k + 1, by omega, by go_num, ⟨_, _, NX.out⟩⟩
          case measure => simp [intOf]; omega)
      · have ek : k = S.length := by omega
        subst ek
        obtain ⟨gx, cpx, ex⟩ : ∃ gx cpx, x = .slice (some ⟨gx, 0, none⟩) S.length cpx := by
          rcases hL.own.2 with ⟨_, h0⟩ | ⟨gx, cap, cur, hv, _⟩
          · omega
          · exact ⟨gx, cap, hv⟩
        subst ex
        have d0 := hL.jt.c0
        have d1 := hL.jt.c1
        have d2 := hL.jt.c2
        have d3 := hL.jt.c3
        have r0 := hL.jt.kj.c.1
        have r1 := hL.jt.kj.c.2.1
        have r2 := hL.jt.kj.c.2.2.1
        have r3 := hL.jt.kj.c.2.2.2
        have f0 := hL.jt.kj.fr 0
        have f1 := hL.jt.kj.fr 1
        have f2 := hL.jt.kj.fr 2
        have f3 := hL.jt.kj.fr 3
        obtain ⟨e0, e1, e2, e3⟩ := set4 (x0 := .int .i64 G.f) (x1 := .int .i64 G.w) (x2 := .slice (some ⟨bA, 0, none⟩) Ws.length cg) (x3 := .slice (some ⟨gx, 0, none⟩) S.length cpx) r0 r1 r2 r3
        clear hL TS LJ hk hlt
        go_wp2
        (try simp only [Exit.inBlock, Exit.then])
        refine bodyPost_ret (v := .tuple #[.agg #[.int .i64 G.f, .int .i64 G.w, .slice (some ⟨bA, 0, none⟩) Ws.length cg, .slice (some ⟨gx, 0, none⟩) S.length cpx], .nilIface]) (by simp [results, Tryd.results21, go_sem, e0, e1, e2, e3]) rfl ?_
        obtain ⟨J, j1, j2, j3, j4, j5, j6, j7, hR⟩ := HL.out.done N0 N12 W12.out (.int .i64 G.f) (.int .i64 G.w) (.slice (some ⟨bA, 0, none⟩) Ws.length cg) (.slice (some ⟨gx, 0, none⟩) S.length cpx)
        refine ⟨J, ?_, EJ.out J j2 j3 j5 j7, hR, below4 HL.out.jt.kj.below (by omega)⟩
        rw [j2, j3, j4, j5, j6, ← j1]

theorem gjoin_any : JoinGives := by
  intro G O W h ho
  by_cases he : M.joinF G.m O.m = 0
  · refine (gjoin_good G O W h ho he).mono ?_
    rintro e w' ⟨J, rfl, hm, hr, hb⟩
    refine ⟨J, by rw [err_nil he], ?_, hr, hb⟩
    rw [hm]; unfold M.joinV; rw [if_pos he]
  · refine (gjoin_bad G O W h ho he).mono ?_
    rintro e w' ⟨rfl, hb⟩
    refine ⟨noGr, rfl, ?_, noGr_rdg w', hb⟩
    unfold M.joinV; rw [if_neg he]; rfl

end Go.Proofs.YtandimbpealclacDoor
