/-
  Two groves that come together, while the law lays them side by side: its block, the weights' row and the trees' row.
-/
import Derived.Test.YtandimbpealclacDoorGroves
import Derived.Deep.AppendLies
namespace Go.Proofs.YtandimbpealclacDoor
open Go.ChangeShapes Go.WideShapes Go.ChangeAt Go.RowKit Go.Lib
set_option linter.unusedVariables false

theorem infoTr : (Tryd.prog.info? 22).map (fun i => (i.zero, i.size, i.bytes)) = some (some (.slice none 0 0), 1, 24) := by kernel_rfl
theorem tr_one (ks : List Tc) : ∀ u ∈ ks.map tV, u.oneCell' = true := by
  intro u hu
  obtain ⟨k, _, rfl⟩ := List.mem_map.1 hu
  rfl
theorem tr_cells {w : World} {b off : Nat} {ks : List Tc} (hc : ∀ i (h : i < ks.length), w.cell? ⟨b, off + i, none⟩ = some (tV ks[i])) :
    ∀ j u, (ks.map tV)[j]? = some u → w.cell? ((⟨b, off, none⟩ : Addr).add j) = some u := by
  intro j u hj
  rw [List.getElem?_map] at hj
  by_cases h : j < ks.length
  · rw [List.getElem?_eq_getElem h] at hj
    rw [add_flat, hc j h]
    exact hj
  · rw [List.getElem?_eq_none (by omega)] at hj
    cases hj
theorem set_far {W : World} {p o q : Nat} {v : Value} (h : p ≠ q) : (W.setCell ⟨p, o, none⟩ v).heap[q]? = W.heap[q]? := by
  simp [World.setCell, Array.getElem?_modify, h]
theorem own_away {w : World} {base n e size p o : Nat} {v x : Value} {l : List Value} (h : w.ownsRow base e size v n l) (hp : p < base) : (w.setCell ⟨p, o, none⟩ x).ownsRow base e size v n l := by
  refine ⟨h.1, ?_⟩
  rcases h.2 with h0 | ⟨g, cap, cur, hv, h1, h2, h3⟩
  · exact .inl h0
  · refine .inr ⟨g, cap, cur, hv, h1, ?_, h3⟩
    rw [← h2]
    have : ¬ p = g := by omega
    simp [World.setCell, Array.getElem?_modify, this]

structure Bo (W0 : World) (f wy : Int) (bb BB : Nat) (W : World) (x y : Value) (n m : Nat) (Ws : List Int) (C : List Tc) : Prop where
  c0 : W.cell? ⟨bb, 0, none⟩ = some (.int .i64 f)
  c1 : W.cell? ⟨bb, 1, none⟩ = some (.int .i64 wy)
  c2 : W.cell? ⟨bb, 2, none⟩ = some x
  c3 : W.cell? ⟨bb, 3, none⟩ = some y
  f2 : W.frozen? ⟨bb, 2, none⟩ = false
  f3 : W.frozen? ⟨bb, 3, none⟩ = false
  ox : W.ownsRow BB 3 1 x n (Ws.map (Value.int .i64))
  oy : W.ownsRow BB 22 1 y m (C.map tV)
  dj : x.ownBlock = none ∨ y.ownBlock = none ∨ x.ownBlock ≠ y.ownBlock
  lt : bb < BB
  ge : W0.heap.size ≤ bb
  sz : BB ≤ W.heap.size
  below : Below W0.heap.size W0 W
theorem Bo.same {W0 W W' : World} {f wy : Int} {bb BB : Nat} {x y : Value} {n m : Nat} {Ws : List Int} {C : List Tc} (h : Bo W0 f wy bb BB W x y n m Ws C) (hb : W'.heap[bb]? = W.heap[bb]?) (ox : W'.ownsRow BB 3 1 x n (Ws.map (Value.int .i64))) (oy : W'.ownsRow BB 22 1 y m (C.map tV)) (hz : W.heap.size ≤ W'.heap.size) (hB : Below W0.heap.size W0 W') : Bo W0 f wy bb BB W' x y n m Ws C := by
  have c : ∀ j, W'.cell? ⟨bb, j, none⟩ = W.cell? ⟨bb, j, none⟩ := fun j => World.cell?_of_block (a := ⟨bb, j, none⟩) hb
  have fr : ∀ j, W'.frozen? ⟨bb, j, none⟩ = W.frozen? ⟨bb, j, none⟩ := fun j => World.frozen?_of_block (a := ⟨bb, j, none⟩) hb
  exact ⟨(c 0).trans h.c0, (c 1).trans h.c1, (c 2).trans h.c2, (c 3).trans h.c3, (fr 2).trans h.f2, (fr 3).trans h.f3, ox, oy, h.dj, h.lt, h.ge, Nat.le_trans h.sz hz, hB⟩
theorem Bo.up {W0 W W' : World} {f wy : Int} {bb BB : Nat} {x y : Value} {n m : Nat} {Ws : List Int} {C : List Tc} (h : Bo W0 f wy bb BB W x y n m Ws C) (hb : Below W.heap.size W W') : Bo W0 f wy bb BB W' x y n m Ws C :=
  h.same (hb.block bb (by have := h.lt; have := h.sz; omega)) (own_up h.ox hb) (own_up h.oy hb) hb.size (below_on h.below hb)
/-- more weights -/
theorem Bo.moreX {W0 W W' : World} {f wy : Int} {bb BB : Nat} {x y : Value} {n m : Nat} {Ws : List Int} {C : List Tc} (h : Bo W0 f wy bb BB W x y n m Ws C) {g cap k : Nat} {ys : List Int} (hg : W.grownBy W' x.ownBlock) (ho : W'.ownsRow BB 3 1 (.slice (some ⟨g, 0, none⟩) k cap) k ((Ws ++ ys).map (Value.int .i64))) (hor : x.ownBlock = some g ∨ g = W.heap.size) (hl : g < W'.heap.size) :
    W'.cell? ⟨bb, 2, none⟩ = some x ∧ W'.frozen? ⟨bb, 2, none⟩ = false ∧ W'.cell? ⟨bb, 3, none⟩ = some y ∧ Below W0.heap.size W0 W' ∧ Bo W0 f wy bb BB (W'.setCell ⟨bb, 2, none⟩ (.slice (some ⟨g, 0, none⟩) k cap)) (.slice (some ⟨g, 0, none⟩) k cap) y k m (Ws ++ ys) C := by
  have h1 := h.lt
  have h2 := h.sz
  have h3 := h.ge
  have hX : ∀ q, x.ownBlock = some q → BB ≤ q := fun q hq => (h.ox.lt q hq).1
  have sb : W'.heap[bb]? = W.heap[bb]? := hg.block bb (by omega) (fun e => by have := hX bb e.symm; omega)
  have c : ∀ j, W'.cell? ⟨bb, j, none⟩ = W.cell? ⟨bb, j, none⟩ := fun j => World.cell?_of_block (a := ⟨bb, j, none⟩) sb
  have fr : ∀ j, W'.frozen? ⟨bb, j, none⟩ = W.frozen? ⟨bb, j, none⟩ := fun j => World.frozen?_of_block (a := ⟨bb, j, none⟩) sb
  have o : ∀ (j : Nat), j ≠ 2 → (W'.setCell ⟨bb, 2, none⟩ (.slice (some ⟨g, 0, none⟩) k cap)).cell? ⟨bb, j, none⟩ = W'.cell? ⟨bb, j, none⟩ := fun j hj => World.cell?_setCell_other _ _ _ _ (by intro e; cases e; exact hj rfl)
  have c2' := (c 2).trans h.c2
  have f2' := (fr 2).trans h.f2
  have ky : y.ownBlock = none ∨ y.ownBlock ≠ x.ownBlock := by
    by_cases hy : y.ownBlock = none
    · exact .inl hy
    · rcases h.dj with q | q | q
      · exact .inr (by rw [q]; exact hy)
      · exact absurd q hy
      · exact .inr (fun e => q e.symm)
  have bg := h.below.grown hg (by omega) (fun q hq => by have := hX q hq; omega)
  refine ⟨c2', f2', (c 3).trans h.c3, bg, (o 0 (by decide)).trans ((c 0).trans h.c0), (o 1 (by decide)).trans ((c 1).trans h.c1), World.cell?_setCell_same _ _ _ c2', (o 3 (by decide)).trans ((c 3).trans h.c3), by simpa using f2', by simpa using (fr 3).trans h.f3, own_away ho h1, own_away (h.oy.kept hg ky) h1, ?_, h1, h3, by simp; exact Nat.le_trans h2 hg.size, ?_⟩
  · show some g = none ∨ y.ownBlock = none ∨ some g ≠ y.ownBlock
    by_cases hy : y.ownBlock = none
    · exact .inr (.inl hy)
    · refine .inr (.inr (fun e => ?_))
      rcases hor with q | q
      · rcases h.dj with d | d | d
        · rw [d] at q; cases q
        · exact hy d
        · exact d (q.trans e)
      · have := (h.oy.lt g e.symm).2
        omega
  · exact (h.below.grown hg (by omega) (fun q hq => by have := hX q hq; omega)).setCell (p := ⟨bb, 2, none⟩) h3 _
/-- more trees -/
theorem Bo.moreY {W0 W W' : World} {f wy : Int} {bb BB : Nat} {x y : Value} {n m : Nat} {Ws : List Int} {C : List Tc} (h : Bo W0 f wy bb BB W x y n m Ws C) {g cap k : Nat} {ys : List Tc} (hg : W.grownBy W' y.ownBlock) (ho : W'.ownsRow BB 22 1 (.slice (some ⟨g, 0, none⟩) k cap) k ((C ++ ys).map tV)) (hor : y.ownBlock = some g ∨ g = W.heap.size) (hl : g < W'.heap.size) :
    W'.cell? ⟨bb, 3, none⟩ = some y ∧ W'.frozen? ⟨bb, 3, none⟩ = false ∧ W'.cell? ⟨bb, 2, none⟩ = some x ∧ Below W0.heap.size W0 W' ∧ Bo W0 f wy bb BB (W'.setCell ⟨bb, 3, none⟩ (.slice (some ⟨g, 0, none⟩) k cap)) x (.slice (some ⟨g, 0, none⟩) k cap) n k Ws (C ++ ys) := by
  have h1 := h.lt
  have h2 := h.sz
  have h3 := h.ge
  have hX : ∀ q, y.ownBlock = some q → BB ≤ q := fun q hq => (h.oy.lt q hq).1
  have sb : W'.heap[bb]? = W.heap[bb]? := hg.block bb (by omega) (fun e => by have := hX bb e.symm; omega)
  have c : ∀ j, W'.cell? ⟨bb, j, none⟩ = W.cell? ⟨bb, j, none⟩ := fun j => World.cell?_of_block (a := ⟨bb, j, none⟩) sb
  have fr : ∀ j, W'.frozen? ⟨bb, j, none⟩ = W.frozen? ⟨bb, j, none⟩ := fun j => World.frozen?_of_block (a := ⟨bb, j, none⟩) sb
  have o : ∀ (j : Nat), j ≠ 3 → (W'.setCell ⟨bb, 3, none⟩ (.slice (some ⟨g, 0, none⟩) k cap)).cell? ⟨bb, j, none⟩ = W'.cell? ⟨bb, j, none⟩ := fun j hj => World.cell?_setCell_other _ _ _ _ (by intro e; cases e; exact hj rfl)
  have c3' := (c 3).trans h.c3
  have f3' := (fr 3).trans h.f3
  have kx : x.ownBlock = none ∨ x.ownBlock ≠ y.ownBlock := by
    by_cases hx : x.ownBlock = none
    · exact .inl hx
    · rcases h.dj with q | q | q
      · exact absurd q hx
      · exact .inr (by rw [q]; exact hx)
      · exact .inr q
  have bg := h.below.grown hg (by omega) (fun q hq => by have := hX q hq; omega)
  refine ⟨c3', f3', (c 2).trans h.c2, bg, (o 0 (by decide)).trans ((c 0).trans h.c0), (o 1 (by decide)).trans ((c 1).trans h.c1), (o 2 (by decide)).trans ((c 2).trans h.c2), World.cell?_setCell_same _ _ _ c3', by simpa using (fr 2).trans h.f2, by simpa using f3', own_away (h.ox.kept hg kx) h1, own_away ho h1, ?_, h1, h3, by simp; exact Nat.le_trans h2 hg.size, ?_⟩
  · show x.ownBlock = none ∨ some g = none ∨ x.ownBlock ≠ some g
    by_cases hy : x.ownBlock = none
    · exact .inl hy
    · refine .inr (.inr (fun e => ?_))
      rcases hor with q | q
      · rcases h.dj with d | d | d
        · exact hy d
        · rw [d] at q; cases q
        · exact d (e.trans q.symm)
      · have := (h.ox.lt g e).2
        omega
  · exact (h.below.grown hg (by omega) (fun q hq => by have := hX q hq; omega)).setCell (p := ⟨bb, 3, none⟩) h3 _

theorem bo_start {W0 W : World} (f wy : Int) (hb : Below W0.heap.size W0 W) : Bo W0 f wy W.heap.size (W.heap.size + 1) (W.alloc (.cells #[.int .i64 f, .int .i64 wy, .slice none 0 0, .slice none 0 0] 38)) (.slice none 0 0) (.slice none 0 0) 0 0 [] [] := by
  have fz : ∀ j, (W.alloc (.cells #[.int .i64 f, .int .i64 wy, .slice none 0 0, .slice none 0 0] 38)).frozen? ⟨W.heap.size, j, none⟩ = false := fun j => by
    unfold World.frozen?
    rw [show (W.alloc (.cells #[.int .i64 f, .int .i64 wy, .slice none 0 0, .slice none 0 0] 38)).heap[W.heap.size]? = some (.cells #[.int .i64 f, .int .i64 wy, .slice none 0 0, .slice none 0 0] 38) from (MapKept.heap_alloc W _).1]
    simp
  exact ⟨World.cell?_alloc_at _ _ _ 0 rfl, World.cell?_alloc_at _ _ _ 1 rfl, World.cell?_alloc_at _ _ _ 2 rfl, World.cell?_alloc_at _ _ _ 3 rfl, fz 2, fz 3, World.ownsRow_nil _ _ _ _, World.ownsRow_nil _ _ _ _, .inl rfl, by omega, hb.size, by simp, hb.alloc hb.size _⟩
/-- as a grove -/
theorem Bo.rdg {W0 W : World} {f wy : Int} {bb BB : Nat} {g1 g2 c1 c2 n m : Nat} {Ws : List Int} {C : List Tc} (h : Bo W0 f wy bb BB W (.slice (some ⟨g1, 0, none⟩) n c1) (.slice (some ⟨g2, 0, none⟩) m c2) n m Ws C) (hn : Ws.length = n) (hm : C.length = m) (h12 : m ≤ 12) (hC : ∀ k ∈ C, RdN W k.1 k.2.1) : RdG W ⟨f, wy, some ⟨g1, 0, none⟩, Ws, c1, some ⟨g2, 0, none⟩, C, c2⟩ := by
  have ox : W.ownsRow BB 3 1 (.slice (some ⟨g1, 0, none⟩) Ws.length c1) Ws.length (Ws.map (Value.int .i64)) := by rw [hn]; exact h.ox
  obtain ⟨a, c, e, hr, _⟩ := own_rd ox
  cases e
  refine ⟨hr, by show C.length ≤ maxLen; rw [hm]; unfold maxLen; omega, hC, fun _ => ⟨g2, 0, rfl, ?_, fun i hi => ?_⟩⟩
  · rcases h.oy.2 with ⟨hv, _⟩ | ⟨g, cp, cur, hv, _, hg, _⟩
    · cases hv
    · cases hv
      exact (Array.getElem?_eq_some_iff.1 hg).1
  · have hi' : i < C.length := hi
    rw [Nat.zero_add]
    refine (h.oy.cellAt i (by omega)).trans ?_
    rw [List.getElem?_map, List.getElem?_eq_getElem hi']
    rfl

end Go.Proofs.YtandimbpealclacDoor
