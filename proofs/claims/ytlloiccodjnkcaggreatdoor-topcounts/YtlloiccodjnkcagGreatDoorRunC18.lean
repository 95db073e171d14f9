/-
  Several texts as one: BooEnd, BooTree, BooMo.
-/
import Derived.Test.YtlloiccodjnkcagGreatDoorRunC17
import Derived.Test.YtlloiccodjnkcagGreatDoorRunC6
import Derived.Test.YtlloiccodjnkcagGreatDoorRunC10
import Derived.Deep.RegionHeld3
import Derived.RegionTactic
namespace Go.Proofs.YtlloiccodjnkcagGreatDoor
open Go.ChangeShapes Go.WideShapes Go.ChangeAt Go.RowKit Go.Lib
set_option linter.unusedVariables false

/-! ### the values of nodes -/
theorem ndCells_setV : ∀ (ts : List M.Nd) (i : Nat), i < ts.length → ∀ v : Int, (ndCells ts).set (i * 6 + 5) (.int .i64 v) = ndCells (ts.set i (M.nf (M.nAt ts i), M.nc (M.nAt ts i), M.nl (M.nAt ts i), M.nr (M.nAt ts i), M.ns (M.nAt ts i), v))
  | [], i, h, v => by simp at h
  | n :: t, 0, h, v => rfl
  | n :: t, i + 1, h, v => by
    have ih := ndCells_setV t i (by simpa using h) v
    have e : M.nAt (n :: t) (i + 1) = M.nAt t i := by simp [M.nAt]
    rw [e, List.set_cons_succ, ndCells_cons, ndCells_cons, ← ih, show (i + 1) * 6 + 5 = (i * 6 + 5) + 1 + 1 + 1 + 1 + 1 + 1 by omega]
    simp only [List.set_cons_succ]
/-- the first of them turned -/
def scK (f : Int → Int) (ts : List M.Nd) (k : Nat) : List M.Nd := (ts.take k).map (M.scN f) ++ ts.drop k
theorem scK_len (f : Int → Int) (ts : List M.Nd) (k : Nat) : (scK f ts k).length = ts.length := by
  unfold scK; rw [List.length_append, List.length_map, List.length_take, List.length_drop]; omega
theorem scK_zero (f : Int → Int) (ts : List M.Nd) : scK f ts 0 = ts := by unfold scK; simp
theorem scK_all (f : Int → Int) (ts : List M.Nd) : scK f ts ts.length = ts.map (M.scN f) := by unfold scK; simp
theorem nAt_in (ts : List M.Nd) {k : Nat} (h : k < ts.length) : M.nAt ts k = ts[k] := by unfold M.nAt; rw [M.getD_at h]
theorem scK_at (f : Int → Int) (ts : List M.Nd) {k : Nat} (h : k < ts.length) : M.nAt (scK f ts k) k = M.nAt ts k := by
  rw [nAt_in _ (by rw [scK_len]; exact h), nAt_in _ h]
  unfold scK
  rw [List.getElem_append_right (by simp; omega)]
  simp [List.length_take, Nat.min_eq_left (Nat.le_of_lt h)]
theorem scK_next (f : Int → Int) (ts : List M.Nd) {k : Nat} (h : k < ts.length) : (scK f ts k).set k (M.scN f (M.nAt ts k)) = scK f ts (k + 1) := by
  unfold scK
  have l : ((ts.take k).map (M.scN f)).length = k := by rw [List.length_map, List.length_take]; omega
  rw [List.set_append_right _ _ (by omega), l, Nat.sub_self, List.drop_eq_getElem_cons h, List.set_cons_zero, List.take_succ_eq_append_getElem h, List.map_append, nAt_in _ h]
  simp
/-- one more, as cells -/
theorem scK_cells (f : Int → Int) (ts : List M.Nd) {k : Nat} (h : k < ts.length) : (ndCells (scK f ts k)).set (k * 6 + 5) (.int .i64 (f (M.nv (M.nAt ts k)))) = ndCells (scK f ts (k + 1)) := by
  rw [ndCells_setV _ k (by rw [scK_len]; exact h), scK_at f ts h]
  rw [← scK_next f ts h]
  rfl

/-! ### the trees of a grove, turned one behind the other -/
structure Mix (f : Int → Int) (C D : List Tc) (i k : Nat) : Prop where
  len : D.length = C.length
  at' : ∀ j (h : j < C.length) (h' : j < D.length), D[j].1 = C[j].1 ∧ D[j].2.2 = C[j].2.2 ∧ D[j].2.1 = if j < i then C[j].2.1.map (M.scN f) else if j = i then scK f C[j].2.1 k else C[j].2.1
theorem Mix.start (f : Int → Int) (C : List Tc) : Mix f C C 0 0 := ⟨rfl, fun j h h' => ⟨rfl, rfl, by rw [if_neg (Nat.not_lt_zero _)]; split; rw [scK_zero]; rfl⟩⟩
theorem Mix.next {f : Int → Int} {C D : List Tc} {i k : Nat} (h : Mix f C D i k) (hi : i < C.length) (hk : k = C[i].2.1.length) : Mix f C D (i + 1) 0 := ⟨h.len, fun j hj hj' => by
  obtain ⟨a, b, c⟩ := h.at' j hj hj'
  refine ⟨a, b, ?_⟩
  rw [c]
  by_cases e : j < i
  · rw [if_pos e, if_pos (by omega)]
  · rw [if_neg e]
    by_cases e2 : j = i
    · subst e2; rw [if_pos rfl, if_pos (by omega), hk, scK_all]
    · rw [if_neg e2, if_neg (by omega)]
      split
      · rw [scK_zero]
      · rfl⟩
theorem Mix.tree {f : Int → Int} {C D : List Tc} {i k : Nat} (h : Mix f C D i k) (hi : i < C.length) (hd : i < D.length) : D[i].1 = C[i].1 ∧ D[i].2.2 = C[i].2.2 ∧ D[i].2.1 = scK f C[i].2.1 k := by
  obtain ⟨a, b, c⟩ := h.at' i hi hd
  exact ⟨a, b, by rw [c, if_neg (Nat.lt_irrefl _), if_pos rfl]⟩
theorem Mix.turn {f : Int → Int} {C D : List Tc} {i k : Nat} (h : Mix f C D i k) (hi : i < C.length) (hd : i < D.length) : Mix f C (D.set i (D[i].1, scK f C[i].2.1 (k + 1), D[i].2.2)) i (k + 1) := ⟨by rw [List.length_set]; exact h.len, fun j hj hj' => by
  rw [List.length_set] at hj'
  obtain ⟨a, b, c⟩ := h.at' j hj hj'
  by_cases e : i = j
  · subst e
    rw [List.getElem_set_self]
    exact ⟨a, b, by rw [if_neg (Nat.lt_irrefl _), if_pos rfl]⟩
  · rw [List.getElem_set_ne e]
    refine ⟨a, b, ?_⟩
    rw [c]
    by_cases q : j < i
    · rw [if_pos q, if_pos q]
    · rw [if_neg q, if_neg q, if_neg (fun z => e z.symm), if_neg (fun z => e z.symm)]⟩
theorem Mix.fin {f : Int → Int} {C D : List Tc} (h : Mix f C D C.length 0) : tl D = (tl C).map fun t => t.map (M.scN f) := by
  unfold tl
  refine List.ext_getElem (by simp [h.len]) fun j h1 h2 => ?_
  rw [List.length_map] at h1
  have hj : j < C.length := by rw [← h.len]; exact h1
  have := (h.at' j hj h1).2.2
  rw [if_pos hj] at this
  simp [this]

/-! ### a grove while its values are turned, its weights while they are laid -/
theorem BS.tree {w : World} {gb : Nat} {m : Int} {y x : Value} {C : List Tc} {W : World} (h : BS w gb m y x C W) (i : Nat) (hi : i < C.length) : ∃ q cap, C[i].1 = some ⟨q, 0, none⟩ ∧ C[i].2.2 = cap ∧ gb + 1 ≤ q ∧ q < W.heap.size ∧ (tV C[i]).ownBlock = some q := by
  have t := h.trees i hi
  have o := (h.other i hi).1
  rcases t.2 with ⟨h0, _⟩ | ⟨q, cap, cur, hv, hb, hg, _⟩
  · rw [h0] at o; exact absurd rfl o
  · have hv' := hv
    unfold tV at hv'
    rw [Value.slice.injEq] at hv'
    exact ⟨q, cap, hv'.1, hv'.2.2, hb, (Array.getElem?_eq_some_iff.1 hg).1, by rw [hv]; rfl⟩
theorem keep_row {W : World} {base e size n q o : Nat} {v u : Value} {l : List Value} (h : W.ownsRow base e size v n l) (hq : v.ownBlock ≠ some q) : (W.setCell ⟨q, o, none⟩ u).ownsRow base e size v n l := h.kept grown_set (.inr hq)
theorem BS.turn {w : World} {gb : Nat} {m : Int} {y x : Value} {D : List Tc} {W : World} (h : BS w gb m y x D W) (i : Nat) (hi : i < D.length) {q k : Nat} (hq : (tV D[i]).ownBlock = some q) {v : Int} {ts : List M.Nd} (he : (ndCells D[i].2.1).set (k * 6 + 5) (.int .i64 v) = ndCells ts) (hl : ts.length = D[i].2.1.length) :
    BS w gb m y x (D.set i (D[i].1, ts, D[i].2.2)) (W.setCell ⟨q, k * 6 + 5, none⟩ (.int .i64 v)) := by
  have t := h.trees i hi
  have lq := t.lt q hq
  have nq : q ≠ gb := by omega
  have tv : tV (D[i].1, ts, D[i].2.2) = tV D[i] := by unfold tV; rw [hl]
  have o : ∀ (j : Nat), (W.setCell ⟨q, k * 6 + 5, none⟩ (.int .i64 v)).cell? ⟨gb, j, none⟩ = W.cell? ⟨gb, j, none⟩ := fun j => World.cell?_setCell_other _ _ _ _ (by intro e; cases e; exact nq rfl)
  refine ⟨(o 0).trans h.c0, (o 1).trans h.c1, (o 2).trans h.c2, (o 3).trans h.c3, fun j => ?_, by simpa using h.lt, h.ge, ?_, ?_, ?_, ?_, ?_⟩
  · have : (W.setCell ⟨q, k * 6 + 5, none⟩ (.int .i64 v)).frozen? ⟨gb, j, none⟩ = W.frozen? ⟨gb, j, none⟩ := by simp
    rw [this]; exact h.fr j
  · have e : (D.set i (D[i].1, ts, D[i].2.2)).map tV = D.map tV := by
      rw [List.map_set, tv]
      refine List.ext_getElem (by simp) fun j h1 h2 => ?_
      by_cases e : i = j
      · subst e; simp
      · rw [List.getElem_set_ne e]
    rw [e, List.length_set]
    exact keep_row h.own (fun e => (h.other i hi).2 (by rw [hq, e]))
  · intro j hj
    rw [List.length_set] at hj
    by_cases e : i = j
    · subst e
      rw [List.getElem_set_self, tv]
      obtain ⟨q', cap, e1, e2, _, _, e5⟩ := h.tree i hj
      have eq : q' = q := by rw [hq] at e5; cases e5; rfl
      subst eq
      have tv2 : tV D[i] = .slice (some ⟨q', 0, none⟩) D[i].2.1.length D[i].2.2 := by unfold tV; rw [e1]
      rw [tv2] at t ⊢
      have st := (t.stored (k * 6 + 5) (.int .i64 v)).1
      rw [he, ← hl] at st
      rw [← hl]
      exact st
    · rw [List.getElem_set_ne e]
      exact keep_row (h.trees j hj) (fun z => h.apart i j hi hj e (by rw [hq, z]))
  · intro j hj
    rw [List.length_set] at hj
    by_cases e : i = j
    · subst e; rw [List.getElem_set_self, tv]; exact h.other i hj
    · rw [List.getElem_set_ne e]; exact h.other j hj
  · intro a b ha hb hab
    rw [List.length_set] at ha hb
    have g : ∀ j (hj : j < D.length), tV ((D.set i (D[i].1, ts, D[i].2.2))[j]'(by rw [List.length_set]; exact hj)) = tV D[j] := fun j hj => by
      by_cases e : i = j
      · subst e; rw [List.getElem_set_self, tv]
      · rw [List.getElem_set_ne e]
    rw [g a ha, g b hb]
    exact h.apart a b ha hb hab
  · exact h.below.setCell (p := ⟨q, k * 6 + 5, none⟩) (by have := h.ge; show w.heap.size ≤ q; omega) _

/-- its weights, all 1, in a row of their own -/
structure BW (w : World) (gb : Nat) (m : Int) (y x : Value) (D : List Tc) (i : Nat) (W : World) : Prop where
  bs : BS w gb m y x D W
  wo : W.ownsRow (gb + 1) 3 1 y i ((List.replicate i (1 : Int)).map (Value.int .i64))
  wx : y.ownBlock = none ∨ y.ownBlock ≠ x.ownBlock
  wt : ∀ j (hj : j < D.length), y.ownBlock = none ∨ y.ownBlock ≠ (tV D[j]).ownBlock
theorem BW.start {w : World} {gb : Nat} {m : Int} {x : Value} {D : List Tc} {W : World} (h : BS w gb m (.slice none 0 0) x D W) : BW w gb m (.slice none 0 0) x D 0 W := ⟨h, World.ownsRow_nil _ _ _ _, .inl rfl, fun _ _ => .inl rfl⟩
theorem BW.turn {w : World} {gb : Nat} {m : Int} {y x : Value} {D : List Tc} {n : Nat} {W : World} (h : BW w gb m y x D n W) (i : Nat) (hi : i < D.length) {q k : Nat} (hq : (tV D[i]).ownBlock = some q) {v : Int} {ts : List M.Nd} (he : (ndCells D[i].2.1).set (k * 6 + 5) (.int .i64 v) = ndCells ts) (hl : ts.length = D[i].2.1.length) :
    BW w gb m y x (D.set i (D[i].1, ts, D[i].2.2)) n (W.setCell ⟨q, k * 6 + 5, none⟩ (.int .i64 v)) := by
  have tv : tV (D[i].1, ts, D[i].2.2) = tV D[i] := by unfold tV; rw [hl]
  refine ⟨h.bs.turn i hi hq he hl, ?_, h.wx, fun j hj => ?_⟩
  · refine keep_row h.wo (fun e => ?_)
    rcases h.wt i hi with z | z
    · rw [z] at e; cases e
    · exact z (by rw [hq, e])
  · rw [List.length_set] at hj
    by_cases e : i = j
    · subst e; rw [List.getElem_set_self, tv]; exact h.wt i hj
    · rw [List.getElem_set_ne e]; exact h.wt j hj
theorem BW.drew {w : World} {gb : Nat} {m : Int} {y x : Value} {D : List Tc} {n : Nat} {W W' : World} (h : BW w gb m y x D n W) (hb : Below W.heap.size W W') : BW w gb m y x D n W' := ⟨h.bs.up hb, own_up h.wo hb, h.wx, h.wt⟩
/-- one weight more, and the slice stored -/
theorem BW.more {w : World} {gb : Nat} {m : Int} {y x : Value} {D : List Tc} {n : Nat} {W : World} (h : BW w gb m y x D n W) {o : Obj} {w5 : World} {g cap : Nat}
    (hown : w5.ownsRow (gb + 1) 3 1 (.slice (some ⟨g, 0, none⟩) (n + 1) cap) (n + 1) ((List.replicate n (1 : Int)).map (Value.int .i64) ++ [.int .i64 1])) (hgrow : (W.alloc o).grownBy w5 y.ownBlock) (hat : y.ownBlock = some g ∨ g = W.heap.size + 1) :
    (w5.cell? ⟨gb, 2, none⟩ = some y ∧ w5.frozen? ⟨gb, 2, none⟩ = false) ∧ BW w gb m (.slice (some ⟨g, 0, none⟩) (n + 1) cap) x D (n + 1) (w5.setCell ⟨gb, 2, none⟩ (.slice (some ⟨g, 0, none⟩) (n + 1) cap)) := by
  have B := h.bs
  have hgr : W.grownBy w5 y.ownBlock := grown_trans (World.grownBy_alloc W o y.ownBlock) hgrow (.inl rfl)
  have yb : y.ownBlock ≠ some gb := fun e => by have := (h.wo.lt gb e).1; omega
  have cf : ∀ i, w5.cell? ⟨gb, i, none⟩ = W.cell? ⟨gb, i, none⟩ := fun i => hgr.cell_far ⟨gb, i, none⟩ B.lt (fun e => yb e.symm)
  have ff : ∀ i, w5.frozen? ⟨gb, i, none⟩ = W.frozen? ⟨gb, i, none⟩ := fun i => hgr.frozen_far ⟨gb, i, none⟩ B.lt (fun e => yb e.symm)
  have gp : gb + 1 ≤ g := (hown.lt g rfl).1
  have ob : (Value.slice (some ⟨g, 0, none⟩) (n + 1) cap).ownBlock = some g := rfl
  have kt : ∀ {e size n' : Nat} {v : Value} {l : List Value}, W.ownsRow (gb + 1) e size v n' l → (y.ownBlock = none ∨ y.ownBlock ≠ v.ownBlock) → (w5.setCell ⟨gb, 2, none⟩ (.slice (some ⟨g, 0, none⟩) (n + 1) cap)).ownsRow (gb + 1) e size v n' l := fun {e size n' v l} hv h1 => by
    refine keep_row (hv.kept hgr ?_) (fun e => by have := (hv.lt gb e).1; omega)
    rcases h1 with z | z
    · cases hv2 : v.ownBlock with
      | none => exact .inl rfl
      | some b => exact .inr (by rw [z]; simp)
    · exact .inr (fun e => z e.symm)
  have fresh : ∀ {e size n' : Nat} {v : Value} {l : List Value}, W.ownsRow (gb + 1) e size v n' l → (y.ownBlock = none ∨ y.ownBlock ≠ v.ownBlock) → v.ownBlock ≠ some g := fun {e size n' v l} hv h1 z => by
    rcases hat with q | q
    · rcases h1 with u | u
      · rw [u] at q; cases q
      · exact u (q.trans z.symm)
    · have := (hv.lt g z).2; omega
  refine ⟨⟨(cf 2).trans B.c2, (ff 2).trans (B.fr 2)⟩, ⟨⟨?_, ?_, ?_, ?_, ?_, ?_, B.ge, kt B.own h.wx, fun j hj => kt (B.trees j hj) (h.wt j hj), B.other, B.apart, ?_⟩, ?_, ?_, ?_⟩⟩
  · rw [World.cell?_setCell_other _ _ _ _ (by intro e; cases e)]; exact (cf 0).trans B.c0
  · rw [World.cell?_setCell_other _ _ _ _ (by intro e; cases e)]; exact (cf 1).trans B.c1
  · exact World.cell?_setCell_same (u := y) _ _ _ ((cf 2).trans B.c2)
  · rw [World.cell?_setCell_other _ _ _ _ (by intro e; cases e)]; exact (cf 3).trans B.c3
  · intro i; simpa using (ff i).trans (B.fr i)
  · have := hgr.size; have := B.lt; simp; omega
  · exact (B.below.grown hgr B.below.size (fun k hk => by have := (h.wo.lt k hk).1; have := B.ge; omega)).setCell (p := ⟨gb, 2, none⟩) B.ge _
  · rw [List.replicate_succ', List.map_append]
    exact keep_row hown (fun e => by rw [ob] at e; cases e; omega)
  · rw [ob]
    exact .inr (fun e => fresh B.own h.wx e.symm)
  · intro j hj
    rw [ob]
    exact .inr (fun e => fresh (B.trees j hj) (h.wt j hj) e.symm)

/-! ### what was laid is a grove, wherever its blocks are as they were -/
theorem own_beyond {w W : World} {base e size n B : Nat} {v : Value} {l : List Value} (h : w.ownsRow base e size v n l) (hB : B ≤ base) (hs : w.heap.size ≤ W.heap.size) (hc : ∀ b o, B ≤ b → W.cell? ⟨b, o, none⟩ = w.cell? ⟨b, o, none⟩) : (v = .slice none 0 0 ∧ n = 0) ∨ ∃ g cap, v = .slice (some ⟨g, 0, none⟩) n cap ∧ g < W.heap.size ∧ ∀ i, i < n * size → W.cell? ⟨g, i, none⟩ = l[i]? := by
  rcases h.2 with h0 | ⟨g, cap, cur, hv, hb, hg, h1, h2, h3, h4⟩
  · exact .inl h0
  · refine .inr ⟨g, cap, hv, Nat.lt_of_lt_of_le (Array.getElem?_eq_some_iff.1 hg).1 hs, fun i hi => ?_⟩
    rw [hc g i (by omega)]
    subst hv
    exact h.cellAt i hi
theorem BW.new {w w' W0 : World} {gb : Nat} {m : Int} {y x : Value} {D : List Tc} {n : Nat} (h : BW w gb m y x D n w') (hg : W0.heap.size ≤ gb) (hn : n ≤ 1000) (hD : D.length ≤ 1000) (hT : ∀ t ∈ D, t.2.1.length ≤ 1000) : ∃ wa wc ta tc, y = .slice wa n wc ∧ x = .slice ta D.length tc ∧ NewG W0 w' ⟨m, 2, wa, List.replicate n 1, wc, ta, D, tc⟩ := by
  obtain ⟨wa, wc, ey⟩ := own_any h.wo
  obtain ⟨ta, tc, ex⟩ := own_any h.bs.own
  refine ⟨wa, wc, ta, tc, ey, ex, fun W'' hs hc => ⟨⟨by rw [List.length_replicate]; unfold maxLen; omega, fun hne => ?_⟩, ⟨by unfold maxLen; show D.length ≤ _; omega, fun t ht => ?_, fun hne => ?_⟩⟩⟩
  · rcases own_beyond h.wo (by omega) hs hc with ⟨_, h0⟩ | ⟨g, cap, ev, hl, hc2⟩
    · subst h0; exact absurd rfl hne
    · rw [ey, Value.slice.injEq] at ev
      refine ⟨g, 0, ev.1, hl, fun i hi => ?_⟩
      rw [List.length_replicate] at hi
      rw [Nat.zero_add, hc2 i (by omega)]
      simp [hi]
  · obtain ⟨j, hj, rfl⟩ := List.getElem_of_mem ht
    have tl := hT _ ht
    refine ⟨by unfold maxLen; omega, fun hne => ?_⟩
    rcases own_beyond (h.bs.trees j hj) (by omega) hs hc with ⟨_, h0⟩ | ⟨g, cap, ev, hl, hc2⟩
    · exact absurd (List.length_eq_zero_iff.1 h0) hne
    · unfold tV at ev
      rw [Value.slice.injEq] at ev
      refine ⟨g, 0, ev.1, hl, fun i hi => ?_⟩
      have hi' : i < D[j].2.1.length := hi
      obtain ⟨q0, q1, q2, q3, q4, q5⟩ := ndCells_at _ i hi'
      rw [Nat.zero_add]
      exact ⟨(hc2 _ (by omega)).trans q0, (hc2 _ (by omega)).trans q1, (hc2 _ (by omega)).trans q2, (hc2 _ (by omega)).trans q3, (hc2 _ (by omega)).trans q4, (hc2 _ (by omega)).trans q5⟩
  · rcases own_beyond h.bs.own (by omega) hs hc with ⟨_, h0⟩ | ⟨g, cap, ev, hl, hc2⟩
    · exact absurd (List.length_eq_zero_iff.1 h0) hne
    · rw [ex, Value.slice.injEq] at ev
      refine ⟨g, 0, ev.1, hl, fun i hi => ?_⟩
      have hi' : i < D.length := hi
      rw [Nat.zero_add, hc2 i (by omega), List.getElem?_map, List.getElem?_eq_getElem hi']
      rfl

theorem M.lay_in {B : Int} (hB : 0 ≤ B) : ∀ (T : M.BT) (k : Nat), M.inV B T → ∀ n ∈ M.lay T k, -B ≤ M.nv n ∧ M.nv n ≤ B
  | .lf v, k, h, n, hn => by
    have e : n = (-1, 0, 0, 0, false, v) := by
      have : n ∈ [((-1 : Int), (0 : Int), (0 : Int), (0 : Int), false, v)] := hn
      simpa using this
    subst e
    exact h
  | .nd f c s l r, k, h, n, hn => by
    have : n ∈ (f, c, ((k + 1 : Nat) : Int), ((k + 1 + l.size : Nat) : Int), s, (0 : Int)) :: (M.lay l (k + 1) ++ M.lay r (k + 1 + l.size)) := hn
    rcases List.mem_cons.1 this with e | e
    · subst e
      exact ⟨show -B ≤ 0 by omega, hB⟩
    · rcases List.mem_append.1 e with z | z
      · exact M.lay_in hB l _ h.1 n z
      · exact M.lay_in hB r _ h.2 n z

/-- what is handed out lies ahead of all that -/
theorem newG_put {w wz W : World} {J : Gr} {x0 x1 x2 x3 : Value} (h : NewG wz W J) (hz : wz.heap.size = w.heap.size + 1) : NewG w ((((W.setCell ⟨w.heap.size, 0, none⟩ x0).setCell ⟨w.heap.size, 1, none⟩ x1).setCell ⟨w.heap.size, 2, none⟩ x2).setCell ⟨w.heap.size, 3, none⟩ x3) J := fun W'' hs hc => by
  refine h W'' (by simpa using hs) fun b o hb => ?_
  rw [hc b o (by omega)]
  have n : ∀ (V : World) (i : Nat) (v : Value), (V.setCell ⟨w.heap.size, i, none⟩ v).cell? ⟨b, o, none⟩ = V.cell? ⟨b, o, none⟩ := fun V i v => World.cell?_setCell_other _ _ _ _ (by intro e; cases e; omega)
  rw [n, n, n, n]
/-- the trees of a grove that is laid are those of a list -/
def LayC (C : List Tc) (L : List M.BT) : Prop := C.map (fun t => t.2.1) = L.map (fun T => M.lay T 0)

end Go.Proofs.YtlloiccodjnkcagGreatDoor

namespace Go.Proofs.YtlloiccodjnkcagGreatDoor
open Go.ChangeShapes Go.WideShapes Go.ChangeAt Go.RowKit Go.Lib
set_option linter.unusedVariables false

/-- grow.Fit, where nothing is wrong: its tree lies in a block of its own -/
def GroOwnGives : Prop := ∀ (a : Option Addr) (xs : List Sx) (ca : Nat) (m depth least : Int) (W : World), RdL W a xs → M.grwF (sms xs) m depth least = 0 → Calls Tryz.prog 43 #[.slice a xs.length ca, .int .i64 m, .int .i64 depth, .int .i64 least] W fun e w' => ∃ g c, e = .returned (.tuple #[.slice (some ⟨g, 0, none⟩) (M.grwT (sms xs) m depth least).length c, .nilIface]) ∧ w'.ownsRow W.heap.size 64 6 (.slice (some ⟨g, 0, none⟩) (M.grwT (sms xs) m depth least).length c) (M.grwT (sms xs) m depth least).length (ndCells (M.grwT (sms xs) m depth least)) ∧ Below W.heap.size W w'

/-! ### samples with what is left of them, laid one by one -/
def lefX : List Sx → List Int → List Sx
  | x :: xs, r :: R => (x.1, x.2.1, x.2.2.1, M.fitT r) :: lefX xs R
  | _, _ => []
theorem lefX_len : ∀ (xs : List Sx) (R : List Int), R.length = xs.length → (lefX xs R).length = xs.length
  | [], [], _ => rfl
  | x :: xs, r :: R, h => by
    show (lefX xs R).length + 1 = xs.length + 1
    rw [lefX_len xs R (by simpa using h)]
  | [], _ :: _, h => by simp at h
  | _ :: _, [], h => by simp at h
theorem lefX_sms : ∀ (xs : List Sx) (R : List Int), sms (lefX xs R) = M.lesS (sms xs) R
  | [], R => by cases R <;> rfl
  | x :: xs, [] => rfl
  | x :: xs, r :: R => by
    show sm (x.1, x.2.1, x.2.2.1, M.fitT r) :: sms (lefX xs R) = ((sm x).1, M.fitT r) :: M.lesS (sms xs) R
    rw [lefX_sms xs R]
    rfl
theorem lefX_at : ∀ (xs : List Sx) (R : List Int), R.length = xs.length → ∀ k (hk : k < xs.length) (h' : k < (lefX xs R).length), (lefX xs R)[k] = (xs[k].1, xs[k].2.1, xs[k].2.2.1, M.fitT (R.getD k 0))
  | [], R, h, k, hk, _ => by simp at hk
  | x :: xs, [], h, k, hk, _ => by simp at h
  | x :: xs, r :: R, h, 0, hk, _ => rfl
  | x :: xs, r :: R, h, k + 1, hk, h' => by
    have := lefX_at xs R (by simpa using h) k (by simpa using hk) (by simpa [lefX] using h')
    simpa [lefX] using this
theorem saCells_setS : ∀ (ys : List Sx) (k : Nat), k < ys.length → ∀ v : Sx, ((saCells ys).set (k * 2) (sxV v)).set (k * 2 + 1) (.int .i64 v.2.2.2) = saCells (ys.set k v)
  | [], k, h, v => by simp at h
  | x :: t, 0, h, v => rfl
  | x :: t, k + 1, h, v => by
    have ih := saCells_setS t k (by simpa using h) v
    have e : saCells (x :: t) = sxV x :: .int .i64 x.2.2.2 :: saCells t := rfl
    rw [e, List.set_cons_succ, show saCells (x :: t.set k v) = sxV x :: .int .i64 x.2.2.2 :: saCells (t.set k v) from rfl, ← ih, show (k + 1) * 2 = k * 2 + 1 + 1 by omega]
    simp only [List.set_cons_succ]
def fillY (ys : List Sx) (k : Nat) : List Sx := ys.take k ++ List.replicate (ys.length - k) (none, [], 0, 0)
theorem fillY_len (ys : List Sx) {k : Nat} (h : k ≤ ys.length) : (fillY ys k).length = ys.length := by unfold fillY; simp; omega
theorem fillY_zero (ys : List Sx) : fillY ys 0 = List.replicate ys.length (none, [], 0, 0) := by unfold fillY; simp
theorem fillY_all (ys : List Sx) : fillY ys ys.length = ys := by unfold fillY; simp
theorem fillY_set (ys : List Sx) {k : Nat} (h : k < ys.length) : (fillY ys k).set k ys[k] = fillY ys (k + 1) := by
  apply List.ext_getElem?
  intro i
  unfold fillY
  by_cases e : i = k
  · subst e
    rw [List.getElem?_set_self (by simp; omega), List.getElem?_append_left (by simp; omega), List.getElem?_take_of_lt (by omega), List.getElem?_eq_getElem h]
  · rw [List.getElem?_set_ne (fun c => e c.symm)]
    by_cases q : i < k
    · rw [List.getElem?_append_left (by simp; omega), List.getElem?_append_left (by simp; omega), List.getElem?_take_of_lt q, List.getElem?_take_of_lt (by omega)]
    · rw [List.getElem?_append_right (by simp; omega), List.getElem?_append_right (by simp; omega)]
      simp only [List.length_take, List.getElem?_replicate]
      rw [Nat.min_eq_left (by omega), Nat.min_eq_left (by omega)]
      by_cases q2 : i < ys.length
      · rw [if_pos (by omega), if_pos (by omega)]
      · rw [if_neg (by omega), if_neg (by omega)]
theorem madeSa (n : Nat) : (madeCells (Value.cells (.agg #[.slice none 0 0, .int .i64 0])) (n * 2)).toList = saCells (List.replicate n (none, [], 0, 0)) := by
  rw [show Value.cells (.agg #[.slice none 0 0, .int .i64 0]) = #[.slice none 0 0, .int .i64 0] by simp [Value.cells]]
  unfold madeCells
  induction n with
  | zero => simp [saCells]
  | succ k ih =>
    have e : (Array.range ((k + 1) * 2)).toList = (Array.range (k * 2)).toList ++ [k * 2, k * 2 + 1] := by
      rw [Array.toList_range, Array.toList_range, show (k + 1) * 2 = k * 2 + 1 + 1 by omega, List.range_succ, List.range_succ]
      simp
    rw [Array.toList_map] at ih ⊢
    rw [e, List.map_append, ih, List.replicate_succ', saCells_snoc]
    congr 1
    have a0 : k * 2 % 2 = 0 := by omega
    have a1 : (k * 2 + 1) % 2 = 1 := by omega
    simp [a0, a1, sxV]
theorem saCells_len (ys : List Sx) : (saCells ys).length = ys.length * 2 := by
  induction ys with
  | nil => rfl
  | cons x t ih => rw [show saCells (x :: t) = sxV x :: .int .i64 x.2.2.2 :: saCells t from rfl]; simp only [List.length_cons, ih]; omega

theorem M.boT_lay (m dp : Nat) (s : Int) (l : List M.Sa) (R : List Int) : M.lay (M.boT m dp s l R) 0 = (M.lay (M.growT m 1 dp (M.lesS l R)) 0).map (M.scN (M.shrV s)) := by
  unfold M.boT; exact M.sc_lay (M.shr_zero s) _ 0
theorem M.sh_in {s : Int} (h1 : 1 ≤ s) (h2 : s ≤ 100) {v : Int} (a : -1000 ≤ v) (b : v ≤ 1000) : -100000 ≤ v * s ∧ v * s ≤ 100000 := by
  have e1 : v * s ≤ 1000 * s := Int.mul_le_mul_of_nonneg_right b (by omega)
  have e2 : -1000 * s ≤ v * s := Int.mul_le_mul_of_nonneg_right a (by omega)
  omega

set_option maxHeartbeats 8000000 in
set_option maxRecDepth 10000 in
theorem btree_any (GO : GroOwnGives) (a ra : Option Addr) (xs : List Sx) (R : List Int) (ca rc mn dn : Nat) (s : Int) (w : World) (h : RdL w a xs) (hr : Rd w ra R) (h0 : 0 < xs.length) (hR : R.length = xs.length) (G : M.GoodS (sms xs) mn) (hS : M.grwF (M.lesS (sms xs) R) (mn : Int) (dn : Int) 1 = 0) (hs1 : 1 ≤ s) (hs2 : s ≤ 100) (hd : dn ≤ 4) :
    Calls Tryz.prog 72 #[.slice a xs.length ca, .slice ra xs.length rc, .int .i64 (mn : Int), .int .i64 (dn : Int), .int .i64 s] w fun e w' => ∃ g c, e = .returned (.tuple #[.slice (some ⟨g, 0, none⟩) (M.boT mn dn s (sms xs) R).size c, .nilIface]) ∧ w'.ownsRow w.heap.size 64 6 (.slice (some ⟨g, 0, none⟩) (M.boT mn dn s (sms xs) R).size c) (M.boT mn dn s (sms xs) R).size (ndCells (M.lay (M.boT mn dn s (sms xs) R) 0)) ∧ Below w.heap.size w w' := by
  have l60 : xs.length ≤ 60 := by have := G.le; rw [sms_len] at this; exact this
  have YL : (lefX xs R).length = xs.length := lefX_len xs R hR
  have YS : sms (lefX xs R) = M.lesS (sms xs) R := lefX_sms xs R
  have YA : Hid (∀ k (hk : k < xs.length) (h' : k < (lefX xs R).length), (lefX xs R)[k] = (xs[k].1, xs[k].2.1, xs[k].2.2.1, M.fitT (R.getD k 0))) := fun k hk h' => lefX_at xs R hR k hk h'
  have Y1 : Hid (∀ W, Below w.heap.size w W → ∀ y ∈ lefX xs R, Rd W y.1 y.2.1) := fun W hW y hy => by
    obtain ⟨k, hk, rfl⟩ := List.getElem_of_mem hy
    have hk' : k < xs.length := by rw [← YL]; exact hk
    rw [lefX_at xs R hR k hk' hk]
    exact (h.2.1 _ (List.getElem_mem hk')).below hW
  have rl : R.length = (sms xs).length := by rw [sms_len]; exact hR
  have G2 := M.les_good G rl
  have ll : 0 < (M.lesS (sms xs) R).length := by rw [M.les_len _ _ rl, sms_len]; exact h0
  have gi := M.grow_in (m := mn) (least := 1) (Int.le_refl _) dn G2 ll
  have ET : M.grwT (M.lesS (sms xs) R) (mn : Int) (dn : Int) 1 = M.lay (M.growT mn 1 dn (M.lesS (sms xs) R)) 0 := by
    unfold M.grwT; rw [if_pos hS, Int.toNat_natCast, Int.toNat_natCast]
  have GF : Hid (∀ W ya yc, RdL W ya (lefX xs R) → Calls Tryz.prog 43 #[.slice ya xs.length yc, .int .i64 (mn : Int), .int .i64 (dn : Int), .int .i64 1] W fun e w' => ∃ g c, e = .returned (.tuple #[.slice (some ⟨g, 0, none⟩) (M.lay (M.growT mn 1 dn (M.lesS (sms xs) R)) 0).length c, .nilIface]) ∧ w'.ownsRow W.heap.size 64 6 (.slice (some ⟨g, 0, none⟩) (M.lay (M.growT mn 1 dn (M.lesS (sms xs) R)) 0).length c) (M.lay (M.growT mn 1 dn (M.lesS (sms xs) R)) 0).length (ndCells (M.lay (M.growT mn 1 dn (M.lesS (sms xs) R)) 0)) ∧ Below W.heap.size W w') := fun W ya yc hy => by
    have := GO ya (lefX xs R) yc (mn : Int) (dn : Int) 1 W hy (by rw [YS]; exact hS)
    rw [YS, ET, YL] at this
    exact this
  have VB : Hid (∀ k, k < (M.lay (M.growT mn 1 dn (M.lesS (sms xs) R)) 0).length → -1000 ≤ M.nv (M.nAt (M.lay (M.growT mn 1 dn (M.lesS (sms xs) R)) 0) k) ∧ M.nv (M.nAt (M.lay (M.growT mn 1 dn (M.lesS (sms xs) R)) 0) k) ≤ 1000) := fun k hk => by
    rw [nAt_in _ hk]
    exact M.lay_in (by decide) _ 0 gi _ (List.getElem_mem hk)
  have EL : Hid (M.lay (M.boT mn dn s (sms xs) R) 0 = (M.lay (M.growT mn 1 dn (M.lesS (sms xs) R)) 0).map (M.scN (M.shrV s))) := M.boT_lay ..
  have ES : Hid ((M.boT mn dn s (sms xs) R).size = (M.lay (M.growT mn 1 dn (M.lesS (sms xs) R)) 0).length) := by unfold Hid M.boT; rw [M.sc_size, M.lay_len]
  have g2 := (M.grow_deep mn 1 dn (M.lesS (sms xs) R)).2
  have p2 : 2 ^ (dn + 1) ≤ 2 ^ 5 := Nat.pow_le_pow_right (by decide) (by omega)
  have T6 : (M.lay (M.growT mn 1 dn (M.lesS (sms xs) R)) 0).length ≤ 63 := by rw [M.lay_len]; omega
  have HR := hide h
  have HQ := hide hr
  have RL := hide hR
  have LL := hide YL
  obtain ⟨i0, hi, hz0, hz1, hz2⟩ := info_parts infoSam
  have I0 := hide hi
  rw [EL.out, ES.out]
  clear h hr hR YL YS G rl G2 ll gi ET hi g2 p2 hS GO EL ES
  generalize M.lay (M.growT mn 1 dn (M.lesS (sms xs) R)) 0 = TL at *
  generalize lefX xs R = YY at *
  go_enter Tryz.func72, Tryz.ntmps72
  go_wp2_with (at_make; refine wpList_make_full _ rfl (.tmp 19) (.tmp 19) 27 rfl w.heap.size 52 i0 (.agg #[.slice none 0 0, .int .i64 0]) 2 Tryz.underlying27 I0.out hz0 hz1 .i64 .i64 _ _ xs.length rfl rfl (by omega) (by omega) (by rw [hz2]; omega) (by unfold maxLen; omega) (Nat.le_refl _) ?_; intro w3 hown hgrow)
  rw [madeSa] at hown
  have hb3 : Hid (Below w.heap.size w w3) := (Below.refl _ w).grown hgrow (Nat.le_refl _) (fun k hk => by cases hk)
  have HO : Hid (w3.ownsRow w.heap.size 52 2 (.slice (some ⟨w.heap.size, 0, none⟩) xs.length xs.length) xs.length (saCells (fillY YY 0))) := by
    unfold Hid; rw [fillY_zero, LL.out]; exact hown
  clear hown hgrow I0 hz0 hz1 hz2
  go_loopw [23] (fun i wr => ∃ k : Nat, k ≤ xs.length ∧ i = .int .i64 k ∧ Hid (wr.ownsRow w.heap.size 52 2 (.slice (some ⟨w.heap.size, 0, none⟩) xs.length xs.length) xs.length (saCells (fillY YY k))) ∧ Hid (Below w.heap.size w wr)) (fun i _ => xs.length - (intOf i).toNat)
  case atStart => exact ⟨0, Nat.zero_le _, rfl, HO, hb3⟩
  case round =>
    clear HO hb3
    obtain ⟨k, hk, rfl, HO, K⟩ := hrel
    by_cases hlt : k < xs.length
    · obtain ⟨b, off, rfl, hb, hc⟩ := (HR.out.below K.out).2.2 (by intro e; rw [e] at hlt; simp at hlt)
      obtain ⟨c0, c1⟩ := hc k hlt
      obtain ⟨b2, off2, rfl, hb2, hc2⟩ := (HQ.out.below K.out).2 (by intro e; have := RL.out; rw [e] at this; simp at this; omega)
      have c2 := hc2 k (by rw [RL.out]; exact hlt)
      unfold sxV at c0
      have kz : (k : Int) < (xs.length : Int) := by omega
      have hkL : k < YY.length := by rw [LL.out]; exact hlt
      have hkF : k < (fillY YY k).length := by rw [fillY_len YY (by omega)]; exact hkL
      have RR : Hid (∀ W, Below wr.heap.size wr W → ((W.setCell ⟨w.heap.size, k * 2, none⟩ (.slice xs[k].1 xs[k].2.1.length xs[k].2.2.1)).setCell ⟨w.heap.size, k * 2 + 1, none⟩ (.int .i64 (M.fitT (R.getD k 0)))).ownsRow w.heap.size 52 2 (.slice (some ⟨w.heap.size, 0, none⟩) xs.length xs.length) xs.length (saCells (fillY YY (k + 1)))) := fun W hW => by
        have r1 := (((own_up HO.out hW).stored (k * 2) (sxV YY[k])).1.stored (k * 2 + 1) (.int .i64 YY[k].2.2.2)).1
        rw [saCells_setS _ k hkF, fillY_set YY hkL, YA.out k hlt hkL] at r1
        exact r1
      have sl := saCells_len (fillY YY k)
      rw [fillY_len YY (by omega), LL.out] at sl
      obtain ⟨q0, q1⟩ := saCells_at (fillY YY k) k hkF
      have g0 := (HO.out.cellAt (k * 2) (by omega)).trans q0
      have g1 := (HO.out.cellAt (k * 2 + 1) (by omega)).trans q1
      unfold sxV at g0
      have z0 := HO.out.frozenAt (k * 2)
      have z1 := HO.out.frozenAt (k * 2 + 1)
      have FT := hide (fitto_t (R.getD k 0))
      have lg : w.heap.size < wr.heap.size := block_lt_of_cell g0
      clear hc HO hc2 sl q0 q1 VB GF Y1 HQ HR RL YA
      generalize (fillY YY k)[k].2.2.2 = u0 at *
      generalize (fillY YY k)[k].2.1.length = u1 at *
      generalize (fillY YY k)[k].2.2.1 = u2 at *
      generalize (fillY YY k)[k].1 = u3 at *
      generalize xs[k].2.2.2 = t at *
      generalize xs[k].2.1.length = rl at *
      generalize xs[k].2.2.1 = rcc at *
      generalize xs[k].1 = raa at *
      generalize M.fitT (R.getD k 0) = z at *
      generalize R.getD k 0 = x at *
      go_upto_region 5 with fail
      obtain ⟨w5, hw5⟩ : ∃ W, W = wr.alloc (.cells #[.slice raa rl rcc, .int .i64 t] 52) := ⟨_, rfl⟩
      rw [← hw5]
      have B5 : Below wr.heap.size wr w5 := by rw [hw5]; exact (Below.refl _ wr).alloc (Nat.le_refl _) _
      have y0 : w5.cell? ⟨wr.heap.size, 0, none⟩ = some (.slice raa rl rcc) := (new_kept hw5 (Below.refl _ _)).1 0 _ rfl
      have y2 := (B5.cell (p := ⟨b2, off2 + k, none⟩) hb2).trans c2
      have y3 := (B5.cell (p := ⟨w.heap.size, k * 2, none⟩) lg).trans g0
      have y4 := (B5.cell (p := ⟨w.heap.size, k * 2 + 1, none⟩) lg).trans g1
      have y5 := (B5.frozen (p := ⟨w.heap.size, k * 2, none⟩) lg).trans z0
      have y6 := (B5.frozen (p := ⟨w.heap.size, k * 2 + 1, none⟩) lg).trans z1
      have R5 := RR.out w5 B5
      have R6 : Hid ((((w5.setCell ⟨w.heap.size, k * 2, none⟩ (.slice raa rl rcc)).setCell ⟨w.heap.size, k * 2 + 1, none⟩ (.int .i64 z)).drew).ownsRow w.heap.size 52 2 (.slice (some ⟨w.heap.size, 0, none⟩) xs.length xs.length) xs.length (saCells (fillY YY (k + 1)))) := R5.drew
      have K6 : Hid (Below w.heap.size w (((w5.setCell ⟨w.heap.size, k * 2, none⟩ (.slice raa rl rcc)).setCell ⟨w.heap.size, k * 2 + 1, none⟩ (.int .i64 z)).drew)) :=
        (((below_on K.out B5).setCell (p := ⟨w.heap.size, k * 2, none⟩) (Nat.le_refl _) _).setCell (p := ⟨w.heap.size, k * 2 + 1, none⟩) (Nat.le_refl _) _).drew
      clear R5 RR hw5 c0 c1 c2 g0 g1 z0 z1 B5
      go_region_with (go_at_call 74; refine (FT.out _).mono ?_; rintro e w6 ⟨rfl, e6⟩; have e7 := e6.symm; subst e7)
      all_goals (
        go_wp2
        go_roundw
        case rel => exact ⟨k + 1, by omega, by go_num, R6, K6⟩
        case measure => simp [intOf]; omega)
    · have ek : k = xs.length := by omega
      have kz : ¬ ((k : Int) < (xs.length : Int)) := by omega
      rw [show fillY YY k = YY by rw [ek, ← LL.out]; exact fillY_all YY] at HO
      obtain ⟨pa, pc, hp1, hp2⟩ := own_rdL LL.out (by unfold maxLen; omega) HO.out (Y1.out wr K.out)
      cases hp1
      have F1 := hide (GF.out wr _ xs.length hp2)
      clear HO hp2 ek GF Y1 HR HQ YA
      go_wp2_with (go_at_call 43; refine F1.out.mono ?_; rintro e w6 ⟨g, c, rfl, ho6, hb6⟩; have O6 := hide ho6; have K6 := hide (below_on K.out hb6); have s6 := hb6.size; clear hb6; have l6 : Hid (w.heap.size ≤ wr.heap.size) := K.out.size; have E6 : Hid (ndCells TL = ndCells (scK (M.shrV s) TL 0)) := (by unfold Hid; rw [scK_zero]); clear ho6)
      have O7 : Hid (w6.ownsRow w.heap.size 64 6 (.slice (some ⟨g, 0, none⟩) TL.length c) TL.length (ndCells (scK (M.shrV s) TL 0))) := by
        unfold Hid; rw [← E6.out]; exact own_low l6.out O6.out
      have gp : Hid (w.heap.size ≤ g) := (O7.out.lt g rfl).1
      clear O6 E6 l6 K F1 s6
      go_loopw [52] (fun i wr => ∃ k : Nat, k ≤ TL.length ∧ i = .int .i64 k ∧ Hid (wr.ownsRow w.heap.size 64 6 (.slice (some ⟨g, 0, none⟩) TL.length c) TL.length (ndCells (scK (M.shrV s) TL k))) ∧ Hid (Below w.heap.size w wr)) (fun i _ => TL.length - (intOf i).toNat)
      case atStart => exact ⟨0, Nat.zero_le _, rfl, O7, K6⟩
      case round =>
        clear O7 K6
        obtain ⟨j, hj, rfl, HO, K⟩ := hrel
        by_cases hjt : j < TL.length
        · have jz : (j : Int) < (TL.length : Int) := by omega
          obtain ⟨v1, v2⟩ := VB.out j hjt
          obtain ⟨p1, p2⟩ := M.sh_in hs1 hs2 v1 v2
          have r1 := (HO.out.stored (j * 6 + 5) (.int .i64 (M.shrV s (M.nv (M.nAt TL j))))).1
          rw [scK_cells (M.shrV s) TL hjt] at r1
          have RR := hide r1
          have RK : Hid (Below w.heap.size w (wr.setCell ⟨g, j * 6 + 5, none⟩ (.int .i64 (M.shrV s (M.nv (M.nAt TL j)))))) := K.out.setCell (p := ⟨g, j * 6 + 5, none⟩) gp.out _
          have sl := ndCells_len (scK (M.shrV s) TL j)
          rw [scK_len] at sl
          have q := (ndCells_at (scK (M.shrV s) TL j) j (by rw [scK_len]; exact hjt)).2.2.2.2.2
          rw [scK_at (M.shrV s) TL hjt] at q
          have g0 := (HO.out.cellAt (j * 6 + 5) (by omega)).trans q
          have z0 := HO.out.frozenAt (j * 6 + 5)
          unfold M.shrV at RR RK
          clear r1 HO K sl q VB
          generalize M.nv (M.nAt TL j) = v at *
          go_wp2
          go_roundw
          case rel => exact ⟨j + 1, by omega, by go_num, RR, RK⟩
          case measure => simp [intOf]; omega
        · have ej : j = TL.length := by omega
          have jz : ¬ ((j : Int) < (TL.length : Int)) := by omega
          rw [show scK (M.shrV s) TL j = TL.map (M.scN (M.shrV s)) by rw [ej]; exact scK_all _ _] at HO
          clear ej VB
          go_wp2
          go_ret2
          exact ⟨g, c, rfl, HO.out, K.out⟩

end Go.Proofs.YtlloiccodjnkcagGreatDoor

namespace Go.Proofs.YtlloiccodjnkcagGreatDoor
open Go.ChangeShapes Go.WideShapes Go.ChangeAt Go.RowKit Go.Lib
set_option linter.unusedVariables false

structure MO (w : World) (B : Nat) (x : Value) (D : List Tc) (W : World) : Prop where
  own : W.ownsRow B 26 1 x D.length (D.map tV)
  trees : ∀ i (h : i < D.length), W.ownsRow B 64 6 (tV D[i]) D[i].2.1.length (ndCells D[i].2.1)
  other : ∀ i (h : i < D.length), (tV D[i]).ownBlock ≠ none ∧ (tV D[i]).ownBlock ≠ x.ownBlock
  apart : ∀ i j (hi : i < D.length) (hj : j < D.length), i ≠ j → (tV D[i]).ownBlock ≠ (tV D[j]).ownBlock
  below : Below w.heap.size w W
  ge : w.heap.size ≤ B
theorem MO.up {w : World} {B : Nat} {x : Value} {D : List Tc} {W W' : World} (h : MO w B x D W) (hb : Below W.heap.size W W') : MO w B x D W' :=
  ⟨own_up h.own hb, fun i hi => own_up (h.trees i hi) hb, h.other, h.apart, below_on h.below hb, h.ge⟩
/-- the first of them, in a slice that is new -/
theorem MO.one {w W : World} {B : Nat} {t : Tc} {q : Nat} (hB : Below w.heap.size w W) (hg : w.heap.size ≤ B) (hW : B ≤ W.heap.size) (ht : W.ownsRow B 64 6 (tV t) t.2.1.length (ndCells t.2.1)) (hq : (tV t).ownBlock = some q) (ty : TypeId) (hty : ty = 26) :
    MO w B (.slice (some ⟨W.heap.size, 0, none⟩) 1 1) [t] (W.alloc (.cells #[tV t] ty)) := by
  subst hty
  have lq := (ht.lt q hq).2
  have e0 : ∀ i (h : i < [t].length), [t][i] = t := fun i h => by simp at h; subst h; rfl
  refine ⟨⟨rfl, .inr ⟨W.heap.size, 1, #[tV t], rfl, hW, (MapKept.heap_alloc W _).1, Nat.le_refl _, by unfold maxLen; omega, rfl, rfl⟩⟩, fun i hi => ?_, fun i hi => ?_, fun i j hi hj hij => ?_, below_on hB ((Below.refl _ W).alloc (Nat.le_refl _) _), hg⟩
  · rw [e0 i hi]; exact own_up ht ((Below.refl _ W).alloc (Nat.le_refl _) _)
  · rw [e0 i hi, hq]
    exact ⟨(fun e => by cases e), (fun e => by simp [Value.ownBlock] at e; omega)⟩
  · simp at hi hj; omega
/-- one tree more, laid behind those that are there -/
theorem MO.more {w : World} {B : Nat} {x : Value} {D : List Tc} {W : World} (h : MO w B x D W) {t : Tc} {q : Nat} (ht : W.ownsRow B 64 6 (tV t) t.2.1.length (ndCells t.2.1)) (hq : (tV t).ownBlock = some q) (hx : x.ownBlock ≠ some q) (ha : ∀ i (hi : i < D.length), (tV D[i]).ownBlock ≠ some q)
    {o : Obj} {w5 : World} {g cap : Nat} (hown : w5.ownsRow B 26 1 (.slice (some ⟨g, 0, none⟩) (D.length + 1) cap) (D.length + 1) (D.map tV ++ [tV t])) (hgrow : (W.alloc o).grownBy w5 x.ownBlock) (hat : x.ownBlock = some g ∨ g = W.heap.size + 1) :
    MO w B (.slice (some ⟨g, 0, none⟩) (D.length + 1) cap) (D ++ [t]) w5 := by
  have hgr : W.grownBy w5 x.ownBlock := grown_trans (World.grownBy_alloc W o x.ownBlock) hgrow (.inl rfl)
  have ob : (Value.slice (some ⟨g, 0, none⟩) (D.length + 1) cap).ownBlock = some g := rfl
  have fresh : ∀ {v : Value} {n : Nat} {l : List Value}, W.ownsRow B 64 6 v n l → v.ownBlock ≠ x.ownBlock → v.ownBlock ≠ some g := fun {v n l} hv h1 e => by
    rcases hat with q1 | q1
    · exact h1 (e.trans q1.symm)
    · have := (hv.lt g e).2; omega
  have len : (D ++ [t]).length = D.length + 1 := by simp
  refine ⟨?_, ?_, ?_, ?_, h.below.grown hgr h.below.size (fun k hk => by have := (h.own.lt k hk).1; have := h.ge; omega), h.ge⟩
  · rw [len, List.map_append]; exact hown
  · intro i hi
    by_cases c : i < D.length
    · rw [show (D ++ [t])[i] = D[i] from List.getElem_append_left c]
      exact (h.trees i c).kept hgr (.inr (h.other i c).2)
    · have ei : i = D.length := by rw [len] at hi; omega
      subst ei
      rw [show (D ++ [t])[D.length]'hi = t by simp]
      exact ht.kept hgr (.inr fun e => hx (e.symm.trans hq))
  · intro i hi
    rw [ob]
    by_cases c : i < D.length
    · rw [show (D ++ [t])[i] = D[i] from List.getElem_append_left c]
      exact ⟨(h.other i c).1, fresh (h.trees i c) (h.other i c).2⟩
    · have ei : i = D.length := by rw [len] at hi; omega
      subst ei
      rw [show (D ++ [t])[D.length]'hi = t by simp]
      exact ⟨own_ne_none hq, fresh ht (fun e => hx (e.symm.trans hq))⟩
  · intro i j hi hj hij
    rw [len] at hi hj
    by_cases c : i < D.length
    · by_cases d : j < D.length
      · rw [show (D ++ [t])[i] = D[i] from List.getElem_append_left c, show (D ++ [t])[j] = D[j] from List.getElem_append_left d]
        exact h.apart i j c d hij
      · have ej : j = D.length := by omega
        subst ej
        rw [show (D ++ [t])[i] = D[i] from List.getElem_append_left c, show (D ++ [t])[D.length]'(by rw [len]; omega) = t by simp, hq]
        exact ha i c
    · have ei : i = D.length := by omega
      subst ei
      have d : j < D.length := by omega
      rw [show (D ++ [t])[j] = D[j] from List.getElem_append_left d, show (D ++ [t])[D.length]'(by rw [len]; omega) = t by simp, hq]
      exact fun e => ha j d e.symm
theorem MO.tree {w : World} {B : Nat} {x : Value} {D : List Tc} {W : World} (h : MO w B x D W) (i : Nat) (hi : i < D.length) : ∃ q cap, D[i].1 = some ⟨q, 0, none⟩ ∧ D[i].2.2 = cap ∧ B ≤ q ∧ q < W.heap.size ∧ (tV D[i]).ownBlock = some q := by
  have t := h.trees i hi
  have o := (h.other i hi).1
  rcases t.2 with ⟨h0, _⟩ | ⟨q, cap, cur, hv, hb, hg, _⟩
  · rw [h0] at o; exact absurd rfl o
  · have hv' := hv
    unfold tV at hv'
    rw [Value.slice.injEq] at hv'
    exact ⟨q, cap, hv'.1, hv'.2.2, hb, (Array.getElem?_eq_some_iff.1 hg).1, by rw [hv]; rfl⟩
theorem MO.turn {w : World} {B : Nat} {x : Value} {D : List Tc} {W : World} (h : MO w B x D W) (i : Nat) (hi : i < D.length) {q k : Nat} (hq : (tV D[i]).ownBlock = some q) {v : Int} {ts : List M.Nd} (he : (ndCells D[i].2.1).set (k * 6 + 5) (.int .i64 v) = ndCells ts) (hl : ts.length = D[i].2.1.length) :
    MO w B x (D.set i (D[i].1, ts, D[i].2.2)) (W.setCell ⟨q, k * 6 + 5, none⟩ (.int .i64 v)) := by
  have t := h.trees i hi
  have lq := t.lt q hq
  have tv : tV (D[i].1, ts, D[i].2.2) = tV D[i] := by unfold tV; rw [hl]
  refine ⟨?_, ?_, ?_, ?_, h.below.setCell (p := ⟨q, k * 6 + 5, none⟩) (by have := h.ge; show w.heap.size ≤ q; omega) _, h.ge⟩
  · have e : (D.set i (D[i].1, ts, D[i].2.2)).map tV = D.map tV := by
      rw [List.map_set, tv]
      refine List.ext_getElem (by simp) fun j h1 h2 => ?_
      by_cases e : i = j
      · subst e; simp
      · rw [List.getElem_set_ne e]
    rw [e, List.length_set]
    exact keep_row h.own (fun e => (h.other i hi).2 (by rw [hq, e]))
  · intro j hj
    rw [List.length_set] at hj
    by_cases e : i = j
    · subst e
      rw [List.getElem_set_self, tv]
      obtain ⟨q', cap, e1, e2, _, _, e5⟩ := h.tree i hj
      have eq : q' = q := by rw [hq] at e5; cases e5; rfl
      subst eq
      have tv2 : tV D[i] = .slice (some ⟨q', 0, none⟩) D[i].2.1.length D[i].2.2 := by unfold tV; rw [e1]
      rw [tv2] at t ⊢
      have st := (t.stored (k * 6 + 5) (.int .i64 v)).1
      rw [he, ← hl] at st
      rw [← hl]
      exact st
    · rw [List.getElem_set_ne e]
      exact keep_row (h.trees j hj) (fun z => h.apart i j hi hj e (by rw [hq, z]))
  · intro j hj
    rw [List.length_set] at hj
    by_cases e : i = j
    · subst e; rw [List.getElem_set_self, tv]; exact h.other i hj
    · rw [List.getElem_set_ne e]; exact h.other j hj
  · intro a b ha hb hab
    rw [List.length_set] at ha hb
    have g : ∀ j (hj : j < D.length), tV ((D.set i (D[i].1, ts, D[i].2.2))[j]'(by rw [List.length_set]; exact hj)) = tV D[j] := fun j hj => by
      by_cases e : i = j
      · subst e; rw [List.getElem_set_self, tv]
      · rw [List.getElem_set_ne e]
    rw [g a ha, g b hb]
    exact h.apart a b ha hb hab
/-- something else grows, or is written -/
theorem MO.keep {w : World} {B : Nat} {x : Value} {D : List Tc} {W W' : World} {r : Option Nat} (h : MO w B x D W) (hg : W.grownBy W' r) (hr : ∀ q, r = some q → w.heap.size ≤ q ∧ x.ownBlock ≠ some q ∧ ∀ i (hi : i < D.length), (tV D[i]).ownBlock ≠ some q) : MO w B x D W' := by
  have kt : ∀ {e size n : Nat} {v : Value} {l : List Value}, W.ownsRow B e size v n l → (∀ q, r = some q → v.ownBlock ≠ some q) → W'.ownsRow B e size v n l := fun {e size n v l} hv h1 => by
    refine hv.kept hg ?_
    cases hv2 : v.ownBlock with
    | none => exact .inl rfl
    | some b => exact .inr (fun z => h1 b z.symm hv2)
  exact ⟨kt h.own (fun q hq => (hr q hq).2.1), fun i hi => kt (h.trees i hi) (fun q hq => (hr q hq).2.2 i hi), h.other, h.apart, h.below.grown hg h.below.size (fun k hk => (hr k hk).1), h.ge⟩

/-! ### a grove of them, while it is laid -/
structure MW (w : World) (B rb : Nat) (m : Int) (y x : Value) (D : List Tc) (n : Nat) (W : World) : Prop where
  mo : MO w B x D W
  c0 : W.cell? ⟨rb + 1, 0, none⟩ = some (.int .i64 m)
  c1 : W.cell? ⟨rb + 1, 1, none⟩ = some (.int .i64 2)
  c2 : W.cell? ⟨rb + 1, 2, none⟩ = some y
  c3 : W.cell? ⟨rb + 1, 3, none⟩ = some x
  fr : ∀ i, W.frozen? ⟨rb + 1, i, none⟩ = false
  r0 : ∃ v, W.cell? ⟨rb, 0, none⟩ = some v
  r1 : ∃ v, W.cell? ⟨rb, 1, none⟩ = some v
  r2 : ∃ v, W.cell? ⟨rb, 2, none⟩ = some v
  r3 : ∃ v, W.cell? ⟨rb, 3, none⟩ = some v
  rf : ∀ i, W.frozen? ⟨rb, i, none⟩ = false
  lt : rb + 1 < W.heap.size
  ge : w.heap.size ≤ rb
  gx : ∀ q, x.ownBlock = some q → q < rb
  gt : ∀ i (hi : i < D.length) q, (tV D[i]).ownBlock = some q → q < rb
  wo : W.ownsRow (rb + 1 + 1) 3 1 y n ((List.replicate n (1 : Int)).map (Value.int .i64))
theorem MW.up {w : World} {B rb : Nat} {m : Int} {y x : Value} {D : List Tc} {n : Nat} {W W' : World} (h : MW w B rb m y x D n W) (hb : Below W.heap.size W W') : MW w B rb m y x D n W' := by
  have l0 : rb < W.heap.size := by have := h.lt; omega
  have k : ∀ i, W'.cell? ⟨rb, i, none⟩ = W.cell? ⟨rb, i, none⟩ := fun i => hb.cell (p := ⟨rb, i, none⟩) l0
  have k1 : ∀ i, W'.cell? ⟨rb + 1, i, none⟩ = W.cell? ⟨rb + 1, i, none⟩ := fun i => hb.cell (p := ⟨rb + 1, i, none⟩) h.lt
  exact ⟨h.mo.up hb, (k1 0).trans h.c0, (k1 1).trans h.c1, (k1 2).trans h.c2, (k1 3).trans h.c3, fun i => (hb.frozen (p := ⟨rb + 1, i, none⟩) h.lt).trans (h.fr i), by rw [k]; exact h.r0, by rw [k]; exact h.r1, by rw [k]; exact h.r2, by rw [k]; exact h.r3, fun i => (hb.frozen (p := ⟨rb, i, none⟩) l0).trans (h.rf i), Nat.lt_of_lt_of_le h.lt hb.size, h.ge, h.gx, h.gt, own_up h.wo hb⟩
theorem MW.turn {w : World} {B rb : Nat} {m : Int} {y x : Value} {D : List Tc} {n : Nat} {W : World} (h : MW w B rb m y x D n W) (i : Nat) (hi : i < D.length) {q k : Nat} (hq : (tV D[i]).ownBlock = some q) {v : Int} {ts : List M.Nd} (he : (ndCells D[i].2.1).set (k * 6 + 5) (.int .i64 v) = ndCells ts) (hl : ts.length = D[i].2.1.length) :
    MW w B rb m y x (D.set i (D[i].1, ts, D[i].2.2)) n (W.setCell ⟨q, k * 6 + 5, none⟩ (.int .i64 v)) := by
  have lq := h.gt i hi q hq
  have tv : tV (D[i].1, ts, D[i].2.2) = tV D[i] := by unfold tV; rw [hl]
  have o : ∀ (b j : Nat), b ≠ q → (W.setCell ⟨q, k * 6 + 5, none⟩ (.int .i64 v)).cell? ⟨b, j, none⟩ = W.cell? ⟨b, j, none⟩ := fun b j hb => World.cell?_setCell_other _ _ _ _ (by intro e; cases e; exact hb rfl)
  have f : ∀ (b j : Nat), (W.setCell ⟨q, k * 6 + 5, none⟩ (.int .i64 v)).frozen? ⟨b, j, none⟩ = W.frozen? ⟨b, j, none⟩ := fun b j => by simp
  have n1 : rb + 1 ≠ q := by omega
  have n0 : rb ≠ q := by omega
  refine ⟨h.mo.turn i hi hq he hl, (o _ 0 n1).trans h.c0, (o _ 1 n1).trans h.c1, (o _ 2 n1).trans h.c2, (o _ 3 n1).trans h.c3, fun j => (f _ j).trans (h.fr j), by rw [o _ _ n0]; exact h.r0, by rw [o _ _ n0]; exact h.r1, by rw [o _ _ n0]; exact h.r2, by rw [o _ _ n0]; exact h.r3, fun j => (f _ j).trans (h.rf j), by simpa using h.lt, h.ge, h.gx, fun j hj p hp => ?_, keep_row h.wo (fun e => by have := (h.wo.lt q e).1; omega)⟩
  rw [List.length_set] at hj
  by_cases e : i = j
  · subst e; rw [List.getElem_set_self, tv] at hp; exact h.gt i hj p hp
  · rw [List.getElem_set_ne e] at hp; exact h.gt j hj p hp
/-- one weight more, and the slice stored -/
theorem MW.more {w : World} {B rb : Nat} {m : Int} {y x : Value} {D : List Tc} {n : Nat} {W : World} (h : MW w B rb m y x D n W) {o : Obj} {w5 : World} {g cap : Nat}
    (hown : w5.ownsRow (rb + 1 + 1) 3 1 (.slice (some ⟨g, 0, none⟩) (n + 1) cap) (n + 1) ((List.replicate n (1 : Int)).map (Value.int .i64) ++ [.int .i64 1])) (hgrow : (W.alloc o).grownBy w5 y.ownBlock) :
    (w5.cell? ⟨rb + 1, 2, none⟩ = some y ∧ w5.frozen? ⟨rb + 1, 2, none⟩ = false) ∧ MW w B rb m (.slice (some ⟨g, 0, none⟩) (n + 1) cap) x D (n + 1) (w5.setCell ⟨rb + 1, 2, none⟩ (.slice (some ⟨g, 0, none⟩) (n + 1) cap)) := by
  have hgr : W.grownBy w5 y.ownBlock := grown_trans (World.grownBy_alloc W o y.ownBlock) hgrow (.inl rfl)
  have yb : ∀ q, y.ownBlock = some q → rb + 1 + 1 ≤ q := fun q e => (h.wo.lt q e).1
  have l0 : rb < W.heap.size := by have := h.lt; omega
  have cf : ∀ i, w5.cell? ⟨rb + 1, i, none⟩ = W.cell? ⟨rb + 1, i, none⟩ := fun i => hgr.cell_far ⟨rb + 1, i, none⟩ h.lt (fun e => by have := yb _ e.symm; simp at this; omega)
  have ff : ∀ i, w5.frozen? ⟨rb + 1, i, none⟩ = W.frozen? ⟨rb + 1, i, none⟩ := fun i => hgr.frozen_far ⟨rb + 1, i, none⟩ h.lt (fun e => by have := yb _ e.symm; simp at this; omega)
  have cr : ∀ i, w5.cell? ⟨rb, i, none⟩ = W.cell? ⟨rb, i, none⟩ := fun i => hgr.cell_far ⟨rb, i, none⟩ l0 (fun e => by have := yb _ e.symm; simp at this; omega)
  have fr : ∀ i, w5.frozen? ⟨rb, i, none⟩ = W.frozen? ⟨rb, i, none⟩ := fun i => hgr.frozen_far ⟨rb, i, none⟩ l0 (fun e => by have := yb _ e.symm; simp at this; omega)
  have gp : rb + 1 + 1 ≤ g := (hown.lt g rfl).1
  have ob : (Value.slice (some ⟨g, 0, none⟩) (n + 1) cap).ownBlock = some g := rfl
  have m5 : MO w B x D w5 := h.mo.keep hgr (fun q hq => by
    have := yb q hq
    have := h.ge
    exact ⟨by omega, fun e => by have := h.gx q e; omega, fun i hi e => by have := h.gt i hi q e; omega⟩)
  have m6 : MO w B x D (w5.setCell ⟨rb + 1, 2, none⟩ (.slice (some ⟨g, 0, none⟩) (n + 1) cap)) := m5.keep grown_set (fun q hq => by
    cases hq
    have := h.ge
    exact ⟨by omega, fun e => by have := h.gx _ e; omega, fun i hi e => by have := h.gt i hi _ e; omega⟩)
  have s : ∀ (j : Nat), (w5.setCell ⟨rb + 1, 2, none⟩ (.slice (some ⟨g, 0, none⟩) (n + 1) cap)).cell? ⟨rb, j, none⟩ = W.cell? ⟨rb, j, none⟩ := fun j => (World.cell?_setCell_other _ _ _ _ (by intro e; cases e)).trans (cr j)
  refine ⟨⟨(cf 2).trans h.c2, (ff 2).trans (h.fr 2)⟩, ⟨m6, ?_, ?_, ?_, ?_, ?_, by rw [s]; exact h.r0, by rw [s]; exact h.r1, by rw [s]; exact h.r2, by rw [s]; exact h.r3, ?_, ?_, h.ge, h.gx, h.gt, ?_⟩⟩
  · rw [World.cell?_setCell_other _ _ _ _ (by intro e; cases e)]; exact (cf 0).trans h.c0
  · rw [World.cell?_setCell_other _ _ _ _ (by intro e; cases e)]; exact (cf 1).trans h.c1
  · exact World.cell?_setCell_same (u := y) _ _ _ ((cf 2).trans h.c2)
  · rw [World.cell?_setCell_other _ _ _ _ (by intro e; cases e)]; exact (cf 3).trans h.c3
  · intro i; simpa using (ff i).trans (h.fr i)
  · intro i; simpa using (fr i).trans (h.rf i)
  · have := hgr.size; have := h.lt; simp; omega
  · rw [List.replicate_succ', List.map_append]
    exact keep_row hown (fun e => by rw [ob] at e; cases e; omega)
/-- what is handed out, written -/
theorem MW.put {w : World} {B rb : Nat} {m : Int} {y x : Value} {D : List Tc} {n : Nat} {W : World} (h : MW w B rb m y x D n W) (j : Nat) (v : Value) : MO w B x D (W.setCell ⟨rb, j, none⟩ v) ∧ (W.setCell ⟨rb, j, none⟩ v).ownsRow (rb + 1 + 1) 3 1 y n ((List.replicate n (1 : Int)).map (Value.int .i64)) :=
  ⟨h.mo.keep grown_set (fun q hq => by
    cases hq
    have := h.ge
    exact ⟨by omega, fun e => by have := h.gx _ e; omega, fun i hi e => by have := h.gt i hi _ e; omega⟩), keep_row h.wo (fun e => by have := (h.wo.lt _ e).1; omega)⟩
theorem MW.puts {w : World} {B rb : Nat} {m : Int} {y x : Value} {D : List Tc} {n : Nat} {W : World} (h : MW w B rb m y x D n W) (v0 v1 v2 v3 : Value) : MO w B x D ((((W.setCell ⟨rb, 0, none⟩ v0).setCell ⟨rb, 1, none⟩ v1).setCell ⟨rb, 2, none⟩ v2).setCell ⟨rb, 3, none⟩ v3) ∧ ((((W.setCell ⟨rb, 0, none⟩ v0).setCell ⟨rb, 1, none⟩ v1).setCell ⟨rb, 2, none⟩ v2).setCell ⟨rb, 3, none⟩ v3).ownsRow (rb + 1 + 1) 3 1 y n ((List.replicate n (1 : Int)).map (Value.int .i64)) := by
  have st : ∀ (V : World) (j : Nat) (v : Value), MO w B x D V ∧ V.ownsRow (rb + 1 + 1) 3 1 y n ((List.replicate n (1 : Int)).map (Value.int .i64)) → MO w B x D (V.setCell ⟨rb, j, none⟩ v) ∧ (V.setCell ⟨rb, j, none⟩ v).ownsRow (rb + 1 + 1) 3 1 y n ((List.replicate n (1 : Int)).map (Value.int .i64)) := fun V j v hV =>
    ⟨hV.1.keep grown_set (fun q hq => by
      cases hq
      have := h.ge
      exact ⟨by omega, fun e => by have := h.gx _ e; omega, fun i hi e => by have := h.gt i hi _ e; omega⟩), keep_row hV.2 (fun e => by have := (h.wo.lt _ e).1; omega)⟩
  exact st _ _ _ (st _ _ _ (st _ _ _ (st _ _ _ ⟨h.mo, h.wo⟩)))
theorem mo_new {w w' : World} {B rb : Nat} {m : Int} {y x : Value} {D : List Tc} {n : Nat} (h : MO w B x D w') (ho : w'.ownsRow (rb + 1 + 1) 3 1 y n ((List.replicate n (1 : Int)).map (Value.int .i64))) (hg : w.heap.size ≤ rb) (hn : n ≤ 1000) (hD : D.length ≤ 1000) (hT : ∀ t ∈ D, t.2.1.length ≤ 1000) : ∃ wa wc ta tc, y = .slice wa n wc ∧ x = .slice ta D.length tc ∧ NewG w w' ⟨m, 2, wa, List.replicate n 1, wc, ta, D, tc⟩ := by
  obtain ⟨wa, wc, ey⟩ := own_any ho
  obtain ⟨ta, tc, ex⟩ := own_any h.own
  have hB := h.ge
  refine ⟨wa, wc, ta, tc, ey, ex, fun W'' hs hc => ⟨⟨by rw [List.length_replicate]; unfold maxLen; omega, fun hne => ?_⟩, ⟨by unfold maxLen; show D.length ≤ _; omega, fun t ht => ?_, fun hne => ?_⟩⟩⟩
  · rcases own_beyond ho (by omega) hs hc with ⟨_, h0⟩ | ⟨g, cap, ev, hl, hc2⟩
    · subst h0; exact absurd rfl hne
    · rw [ey, Value.slice.injEq] at ev
      refine ⟨g, 0, ev.1, hl, fun i hi => ?_⟩
      rw [List.length_replicate] at hi
      rw [Nat.zero_add, hc2 i (by omega)]
      simp [hi]
  · obtain ⟨j, hj, rfl⟩ := List.getElem_of_mem ht
    have tl := hT _ ht
    refine ⟨by unfold maxLen; omega, fun hne => ?_⟩
    rcases own_beyond (h.trees j hj) hB hs hc with ⟨_, h0⟩ | ⟨g, cap, ev, hl, hc2⟩
    · exact absurd (List.length_eq_zero_iff.1 h0) hne
    · unfold tV at ev
      rw [Value.slice.injEq] at ev
      refine ⟨g, 0, ev.1, hl, fun i hi => ?_⟩
      have hi' : i < D[j].2.1.length := hi
      obtain ⟨q0, q1, q2, q3, q4, q5⟩ := ndCells_at _ i hi'
      rw [Nat.zero_add]
      exact ⟨(hc2 _ (by omega)).trans q0, (hc2 _ (by omega)).trans q1, (hc2 _ (by omega)).trans q2, (hc2 _ (by omega)).trans q3, (hc2 _ (by omega)).trans q4, (hc2 _ (by omega)).trans q5⟩
  · rcases own_beyond h.own hB hs hc with ⟨_, h0⟩ | ⟨g, cap, ev, hl, hc2⟩
    · exact absurd (List.length_eq_zero_iff.1 h0) hne
    · rw [ex, Value.slice.injEq] at ev
      refine ⟨g, 0, ev.1, hl, fun i hi => ?_⟩
      have hi' : i < D.length := hi
      rw [Nat.zero_add, hc2 i (by omega), List.getElem?_map, List.getElem?_eq_getElem hi']
      rfl

end Go.Proofs.YtlloiccodjnkcagGreatDoor
