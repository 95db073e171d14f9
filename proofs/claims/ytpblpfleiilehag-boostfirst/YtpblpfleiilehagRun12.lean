/-
  Several texts as one: BooEnd, BooTree.
-/
import Derived.Test.YtpblpfleiilehagRun11
import Derived.Test.YtpblpfleiilehagRun9
import Derived.Deep.RegionHeld3
import Derived.RegionTactic
namespace Go.Proofs.Ytpblpfleiilehag
open Go.ChangeShapes Go.WideShapes Go.ChangeAt Go.RowKit Go.Lib
set_option linter.unusedVariables false

/-! ### the values of nodes -/
theorem ndCells_setV : ∀ (ts : List M.Nd) (i : Nat), i < ts.length → ∀ v : Int, (ndCells ts).set (i * 6 + 5) (.int .i64 v) = ndCells (ts.set i (M.nf (M.nAt ts i), M.nc (M.nAt ts i), M.nl (M.nAt ts i), M.nr (M.nAt ts i), M.ns (M.nAt ts i), v))
  | [], i, h, v => by simp at h
  | n :: t, 0, h, v => rfl
  | n :: t, i + 1, h, v => by
    have ih := ndCells_setV t i (by simpa using h) v
    have e : M.nAt (n :: t) (i + 1) = M.nAt t i := by simp [M.nAt]
    rw [e, List.set_cons_succ, ndCells_cons, ndCells_cons, ← ih, show (i + 1) * 6 + 5 = (i * 6 + 5) + 1 + 1 + 1 + 1 + 1 + 1 by omega]
    simp only [List.set_cons_succ]
/-- the first of them turned -/
def scK (f : Int → Int) (ts : List M.Nd) (k : Nat) : List M.Nd := (ts.take k).map (M.scN f) ++ ts.drop k
theorem scK_len (f : Int → Int) (ts : List M.Nd) (k : Nat) : (scK f ts k).length = ts.length := by
  unfold scK; rw [List.length_append, List.length_map, List.length_take, List.length_drop]; omega
theorem scK_zero (f : Int → Int) (ts : List M.Nd) : scK f ts 0 = ts := by unfold scK; simp
theorem scK_all (f : Int → Int) (ts : List M.Nd) : scK f ts ts.length = ts.map (M.scN f) := by unfold scK; simp
theorem nAt_in (ts : List M.Nd) {k : Nat} (h : k < ts.length) : M.nAt ts k = ts[k] := by unfold M.nAt; rw [M.getD_at h]
theorem scK_at (f : Int → Int) (ts : List M.Nd) {k : Nat} (h : k < ts.length) : M.nAt (scK f ts k) k = M.nAt ts k := by
  rw [nAt_in _ (by rw [scK_len]; exact h), nAt_in _ h]
  unfold scK
  rw [List.getElem_append_right (by simp; omega)]
  simp [List.length_take, Nat.min_eq_left (Nat.le_of_lt h)]
theorem scK_next (f : Int → Int) (ts : List M.Nd) {k : Nat} (h : k < ts.length) : (scK f ts k).set k (M.scN f (M.nAt ts k)) = scK f ts (k + 1) := by
  unfold scK
  have l : ((ts.take k).map (M.scN f)).length = k := by rw [List.length_map, List.length_take]; omega
  rw [List.set_append_right _ _ (by omega), l, Nat.sub_self, List.drop_eq_getElem_cons h, List.set_cons_zero, List.take_succ_eq_append_getElem h, List.map_append, nAt_in _ h]
  simp
/-- one more, as cells -/
theorem scK_cells (f : Int → Int) (ts : List M.Nd) {k : Nat} (h : k < ts.length) : (ndCells (scK f ts k)).set (k * 6 + 5) (.int .i64 (f (M.nv (M.nAt ts k)))) = ndCells (scK f ts (k + 1)) := by
  rw [ndCells_setV _ k (by rw [scK_len]; exact h), scK_at f ts h]
  rw [← scK_next f ts h]
  rfl

/-! ### the trees of a grove, turned one behind the other -/
structure Mix (f : Int → Int) (C D : List Tc) (i k : Nat) : Prop where
  len : D.length = C.length
  at' : ∀ j (h : j < C.length) (h' : j < D.length), D[j].1 = C[j].1 ∧ D[j].2.2 = C[j].2.2 ∧ D[j].2.1 = if j < i then C[j].2.1.map (M.scN f) else if j = i then scK f C[j].2.1 k else C[j].2.1
theorem Mix.start (f : Int → Int) (C : List Tc) : Mix f C C 0 0 := ⟨rfl, fun j h h' => ⟨rfl, rfl, by rw [if_neg (Nat.not_lt_zero _)]; split; rw [scK_zero]; rfl⟩⟩
theorem Mix.next {f : Int → Int} {C D : List Tc} {i k : Nat} (h : Mix f C D i k) (hi : i < C.length) (hk : k = C[i].2.1.length) : Mix f C D (i + 1) 0 := ⟨h.len, fun j hj hj' => by
  obtain ⟨a, b, c⟩ := h.at' j hj hj'
  refine ⟨a, b, ?_⟩
  rw [c]
  by_cases e : j < i
  · rw [if_pos e, if_pos (by omega)]
  · rw [if_neg e]
    by_cases e2 : j = i
    · subst e2; rw [if_pos rfl, if_pos (by omega), hk, scK_all]
    · rw [if_neg e2, if_neg (by omega)]
      split
      · rw [scK_zero]
      · rfl⟩
theorem Mix.tree {f : Int → Int} {C D : List Tc} {i k : Nat} (h : Mix f C D i k) (hi : i < C.length) (hd : i < D.length) : D[i].1 = C[i].1 ∧ D[i].2.2 = C[i].2.2 ∧ D[i].2.1 = scK f C[i].2.1 k := by
  obtain ⟨a, b, c⟩ := h.at' i hi hd
  exact ⟨a, b, by rw [c, if_neg (Nat.lt_irrefl _), if_pos rfl]⟩
theorem Mix.turn {f : Int → Int} {C D : List Tc} {i k : Nat} (h : Mix f C D i k) (hi : i < C.length) (hd : i < D.length) : Mix f C (D.set i (D[i].1, scK f C[i].2.1 (k + 1), D[i].2.2)) i (k + 1) := ⟨by rw [List.length_set]; exact h.len, fun j hj hj' => by
  rw [List.length_set] at hj'
  obtain ⟨a, b, c⟩ := h.at' j hj hj'
  by_cases e : i = j
  · subst e
    rw [List.getElem_set_self]
    exact ⟨a, b, by rw [if_neg (Nat.lt_irrefl _), if_pos rfl]⟩
  · rw [List.getElem_set_ne e]
    refine ⟨a, b, ?_⟩
    rw [c]
    by_cases q : j < i
    · rw [if_pos q, if_pos q]
    · rw [if_neg q, if_neg q, if_neg (fun z => e z.symm), if_neg (fun z => e z.symm)]⟩
theorem Mix.fin {f : Int → Int} {C D : List Tc} (h : Mix f C D C.length 0) : tl D = (tl C).map fun t => t.map (M.scN f) := by
  unfold tl
  refine List.ext_getElem (by simp [h.len]) fun j h1 h2 => ?_
  rw [List.length_map] at h1
  have hj : j < C.length := by rw [← h.len]; exact h1
  have := (h.at' j hj h1).2.2
  rw [if_pos hj] at this
  simp [this]

/-! ### a grove while its values are turned, its weights while they are laid -/
theorem BS.tree {w : World} {gb : Nat} {m : Int} {y x : Value} {C : List Tc} {W : World} (h : BS w gb m y x C W) (i : Nat) (hi : i < C.length) : ∃ q cap, C[i].1 = some ⟨q, 0, none⟩ ∧ C[i].2.2 = cap ∧ gb + 1 ≤ q ∧ q < W.heap.size ∧ (tV C[i]).ownBlock = some q := by
  have t := h.trees i hi
  have o := (h.other i hi).1
  rcases t.2 with ⟨h0, _⟩ | ⟨q, cap, cur, hv, hb, hg, _⟩
  · rw [h0] at o; exact absurd rfl o
  · have hv' := hv
    unfold tV at hv'
    rw [Value.slice.injEq] at hv'
    exact ⟨q, cap, hv'.1, hv'.2.2, hb, (Array.getElem?_eq_some_iff.1 hg).1, by rw [hv]; rfl⟩
theorem keep_row {W : World} {base e size n q o : Nat} {v u : Value} {l : List Value} (h : W.ownsRow base e size v n l) (hq : v.ownBlock ≠ some q) : (W.setCell ⟨q, o, none⟩ u).ownsRow base e size v n l := h.kept grown_set (.inr hq)
theorem BS.turn {w : World} {gb : Nat} {m : Int} {y x : Value} {D : List Tc} {W : World} (h : BS w gb m y x D W) (i : Nat) (hi : i < D.length) {q k : Nat} (hq : (tV D[i]).ownBlock = some q) {v : Int} {ts : List M.Nd} (he : (ndCells D[i].2.1).set (k * 6 + 5) (.int .i64 v) = ndCells ts) (hl : ts.length = D[i].2.1.length) :
    BS w gb m y x (D.set i (D[i].1, ts, D[i].2.2)) (W.setCell ⟨q, k * 6 + 5, none⟩ (.int .i64 v)) := by
  have t := h.trees i hi
  have lq := t.lt q hq
  have nq : q ≠ gb := by omega
  have tv : tV (D[i].1, ts, D[i].2.2) = tV D[i] := by unfold tV; rw [hl]
  have o : ∀ (j : Nat), (W.setCell ⟨q, k * 6 + 5, none⟩ (.int .i64 v)).cell? ⟨gb, j, none⟩ = W.cell? ⟨gb, j, none⟩ := fun j => World.cell?_setCell_other _ _ _ _ (by intro e; cases e; exact nq rfl)
  refine ⟨(o 0).trans h.c0, (o 1).trans h.c1, (o 2).trans h.c2, (o 3).trans h.c3, fun j => ?_, by simpa using h.lt, h.ge, ?_, ?_, ?_, ?_, ?_⟩
  · have : (W.setCell ⟨q, k * 6 + 5, none⟩ (.int .i64 v)).frozen? ⟨gb, j, none⟩ = W.frozen? ⟨gb, j, none⟩ := by simp
    rw [this]; exact h.fr j
  · have e : (D.set i (D[i].1, ts, D[i].2.2)).map tV = D.map tV := by
      rw [List.map_set, tv]
      refine List.ext_getElem (by simp) fun j h1 h2 => ?_
      by_cases e : i = j
      · subst e; simp
      · rw [List.getElem_set_ne e]
    rw [e, List.length_set]
    exact keep_row h.own (fun e => (h.other i hi).2 (by rw [hq, e]))
  · intro j hj
    rw [List.length_set] at hj
    by_cases e : i = j
    · subst e
      rw [List.getElem_set_self, tv]
      obtain ⟨q', cap, e1, e2, _, _, e5⟩ := h.tree i hj
      have eq : q' = q := by rw [hq] at e5; cases e5; rfl
      subst eq
      have tv2 : tV D[i] = .slice (some ⟨q', 0, none⟩) D[i].2.1.length D[i].2.2 := by unfold tV; rw [e1]
      rw [tv2] at t ⊢
      have st := (t.stored (k * 6 + 5) (.int .i64 v)).1
      rw [he, ← hl] at st
      rw [← hl]
      exact st
    · rw [List.getElem_set_ne e]
      exact keep_row (h.trees j hj) (fun z => h.apart i j hi hj e (by rw [hq, z]))
  · intro j hj
    rw [List.length_set] at hj
    by_cases e : i = j
    · subst e; rw [List.getElem_set_self, tv]; exact h.other i hj
    · rw [List.getElem_set_ne e]; exact h.other j hj
  · intro a b ha hb hab
    rw [List.length_set] at ha hb
    have g : ∀ j (hj : j < D.length), tV ((D.set i (D[i].1, ts, D[i].2.2))[j]'(by rw [List.length_set]; exact hj)) = tV D[j] := fun j hj => by
      by_cases e : i = j
      · subst e; rw [List.getElem_set_self, tv]
      · rw [List.getElem_set_ne e]
    rw [g a ha, g b hb]
    exact h.apart a b ha hb hab
  · exact h.below.setCell (p := ⟨q, k * 6 + 5, none⟩) (by have := h.ge; show w.heap.size ≤ q; omega) _

/-- its weights, all 1, in a row of their own -/
structure BW (w : World) (gb : Nat) (m : Int) (y x : Value) (D : List Tc) (i : Nat) (W : World) : Prop where
  bs : BS w gb m y x D W
  wo : W.ownsRow (gb + 1) 3 1 y i ((List.replicate i (1 : Int)).map (Value.int .i64))
  wx : y.ownBlock = none ∨ y.ownBlock ≠ x.ownBlock
  wt : ∀ j (hj : j < D.length), y.ownBlock = none ∨ y.ownBlock ≠ (tV D[j]).ownBlock
theorem BW.start {w : World} {gb : Nat} {m : Int} {x : Value} {D : List Tc} {W : World} (h : BS w gb m (.slice none 0 0) x D W) : BW w gb m (.slice none 0 0) x D 0 W := ⟨h, World.ownsRow_nil _ _ _ _, .inl rfl, fun _ _ => .inl rfl⟩
theorem BW.turn {w : World} {gb : Nat} {m : Int} {y x : Value} {D : List Tc} {n : Nat} {W : World} (h : BW w gb m y x D n W) (i : Nat) (hi : i < D.length) {q k : Nat} (hq : (tV D[i]).ownBlock = some q) {v : Int} {ts : List M.Nd} (he : (ndCells D[i].2.1).set (k * 6 + 5) (.int .i64 v) = ndCells ts) (hl : ts.length = D[i].2.1.length) :
    BW w gb m y x (D.set i (D[i].1, ts, D[i].2.2)) n (W.setCell ⟨q, k * 6 + 5, none⟩ (.int .i64 v)) := by
  have tv : tV (D[i].1, ts, D[i].2.2) = tV D[i] := by unfold tV; rw [hl]
  refine ⟨h.bs.turn i hi hq he hl, ?_, h.wx, fun j hj => ?_⟩
  · refine keep_row h.wo (fun e => ?_)
    rcases h.wt i hi with z | z
    · rw [z] at e; cases e
    · exact z (by rw [hq, e])
  · rw [List.length_set] at hj
    by_cases e : i = j
    · subst e; rw [List.getElem_set_self, tv]; exact h.wt i hj
    · rw [List.getElem_set_ne e]; exact h.wt j hj
theorem BW.drew {w : World} {gb : Nat} {m : Int} {y x : Value} {D : List Tc} {n : Nat} {W W' : World} (h : BW w gb m y x D n W) (hb : Below W.heap.size W W') : BW w gb m y x D n W' := ⟨h.bs.up hb, own_up h.wo hb, h.wx, h.wt⟩
/-- one weight more, and the slice stored -/
theorem BW.more {w : World} {gb : Nat} {m : Int} {y x : Value} {D : List Tc} {n : Nat} {W : World} (h : BW w gb m y x D n W) {o : Obj} {w5 : World} {g cap : Nat}
    (hown : w5.ownsRow (gb + 1) 3 1 (.slice (some ⟨g, 0, none⟩) (n + 1) cap) (n + 1) ((List.replicate n (1 : Int)).map (Value.int .i64) ++ [.int .i64 1])) (hgrow : (W.alloc o).grownBy w5 y.ownBlock) (hat : y.ownBlock = some g ∨ g = W.heap.size + 1) :
    (w5.cell? ⟨gb, 2, none⟩ = some y ∧ w5.frozen? ⟨gb, 2, none⟩ = false) ∧ BW w gb m (.slice (some ⟨g, 0, none⟩) (n + 1) cap) x D (n + 1) (w5.setCell ⟨gb, 2, none⟩ (.slice (some ⟨g, 0, none⟩) (n + 1) cap)) := by
  have B := h.bs
  have hgr : W.grownBy w5 y.ownBlock := grown_trans (World.grownBy_alloc W o y.ownBlock) hgrow (.inl rfl)
  have yb : y.ownBlock ≠ some gb := fun e => by have := (h.wo.lt gb e).1; omega
  have cf : ∀ i, w5.cell? ⟨gb, i, none⟩ = W.cell? ⟨gb, i, none⟩ := fun i => hgr.cell_far ⟨gb, i, none⟩ B.lt (fun e => yb e.symm)
  have ff : ∀ i, w5.frozen? ⟨gb, i, none⟩ = W.frozen? ⟨gb, i, none⟩ := fun i => hgr.frozen_far ⟨gb, i, none⟩ B.lt (fun e => yb e.symm)
  have gp : gb + 1 ≤ g := (hown.lt g rfl).1
  have ob : (Value.slice (some ⟨g, 0, none⟩) (n + 1) cap).ownBlock = some g := rfl
  have kt : ∀ {e size n' : Nat} {v : Value} {l : List Value}, W.ownsRow (gb + 1) e size v n' l → (y.ownBlock = none ∨ y.ownBlock ≠ v.ownBlock) → (w5.setCell ⟨gb, 2, none⟩ (.slice (some ⟨g, 0, none⟩) (n + 1) cap)).ownsRow (gb + 1) e size v n' l := fun {e size n' v l} hv h1 => by
    refine keep_row (hv.kept hgr ?_) (fun e => by have := (hv.lt gb e).1; omega)
    rcases h1 with z | z
    · cases hv2 : v.ownBlock with
      | none => exact .inl rfl
      | some b => exact .inr (by rw [z]; simp)
    · exact .inr (fun e => z e.symm)
  have fresh : ∀ {e size n' : Nat} {v : Value} {l : List Value}, W.ownsRow (gb + 1) e size v n' l → (y.ownBlock = none ∨ y.ownBlock ≠ v.ownBlock) → v.ownBlock ≠ some g := fun {e size n' v l} hv h1 z => by
    rcases hat with q | q
    · rcases h1 with u | u
      · rw [u] at q; cases q
      · exact u (q.trans z.symm)
    · have := (hv.lt g z).2; omega
  refine ⟨⟨(cf 2).trans B.c2, (ff 2).trans (B.fr 2)⟩, ⟨⟨?_, ?_, ?_, ?_, ?_, ?_, B.ge, kt B.own h.wx, fun j hj => kt (B.trees j hj) (h.wt j hj), B.other, B.apart, ?_⟩, ?_, ?_, ?_⟩⟩
  · rw [World.cell?_setCell_other _ _ _ _ (by intro e; cases e)]; exact (cf 0).trans B.c0
  · rw [World.cell?_setCell_other _ _ _ _ (by intro e; cases e)]; exact (cf 1).trans B.c1
  · exact World.cell?_setCell_same (u := y) _ _ _ ((cf 2).trans B.c2)
  · rw [World.cell?_setCell_other _ _ _ _ (by intro e; cases e)]; exact (cf 3).trans B.c3
  · intro i; simpa using (ff i).trans (B.fr i)
  · have := hgr.size; have := B.lt; simp; omega
  · exact (B.below.grown hgr B.below.size (fun k hk => by have := (h.wo.lt k hk).1; have := B.ge; omega)).setCell (p := ⟨gb, 2, none⟩) B.ge _
  · rw [List.replicate_succ', List.map_append]
    exact keep_row hown (fun e => by rw [ob] at e; cases e; omega)
  · rw [ob]
    exact .inr (fun e => fresh B.own h.wx e.symm)
  · intro j hj
    rw [ob]
    exact .inr (fun e => fresh (B.trees j hj) (h.wt j hj) e.symm)

/-! ### what was laid is a grove, wherever its blocks are as they were -/
theorem own_far {w W : World} {base e size n B : Nat} {v : Value} {l : List Value} (h : w.ownsRow base e size v n l) (hB : B ≤ base) (hs : w.heap.size ≤ W.heap.size) (hc : ∀ b o, B ≤ b → W.cell? ⟨b, o, none⟩ = w.cell? ⟨b, o, none⟩) : (v = .slice none 0 0 ∧ n = 0) ∨ ∃ g cap, v = .slice (some ⟨g, 0, none⟩) n cap ∧ g < W.heap.size ∧ ∀ i, i < n * size → W.cell? ⟨g, i, none⟩ = l[i]? := by
  rcases h.2 with h0 | ⟨g, cap, cur, hv, hb, hg, h1, h2, h3, h4⟩
  · exact .inl h0
  · refine .inr ⟨g, cap, hv, Nat.lt_of_lt_of_le (Array.getElem?_eq_some_iff.1 hg).1 hs, fun i hi => ?_⟩
    rw [hc g i (by omega)]
    subst hv
    exact h.cellAt i hi
theorem BW.new {w w' W0 : World} {gb : Nat} {m : Int} {y x : Value} {D : List Tc} {n : Nat} (h : BW w gb m y x D n w') (hg : W0.heap.size ≤ gb) (hn : n ≤ 1000) (hD : D.length ≤ 1000) (hT : ∀ t ∈ D, t.2.1.length ≤ 1000) : ∃ wa wc ta tc, y = .slice wa n wc ∧ x = .slice ta D.length tc ∧ NewG W0 w' ⟨m, 2, wa, List.replicate n 1, wc, ta, D, tc⟩ := by
  obtain ⟨wa, wc, ey⟩ := own_any h.wo
  obtain ⟨ta, tc, ex⟩ := own_any h.bs.own
  refine ⟨wa, wc, ta, tc, ey, ex, fun W'' hs hc => ⟨⟨by rw [List.length_replicate]; unfold maxLen; omega, fun hne => ?_⟩, ⟨by unfold maxLen; show D.length ≤ _; omega, fun t ht => ?_, fun hne => ?_⟩⟩⟩
  · rcases own_far h.wo (by omega) hs hc with ⟨_, h0⟩ | ⟨g, cap, ev, hl, hc2⟩
    · subst h0; exact absurd rfl hne
    · rw [ey, Value.slice.injEq] at ev
      refine ⟨g, 0, ev.1, hl, fun i hi => ?_⟩
      rw [List.length_replicate] at hi
      rw [Nat.zero_add, hc2 i (by omega)]
      simp [hi]
  · obtain ⟨j, hj, rfl⟩ := List.getElem_of_mem ht
    have tl := hT _ ht
    refine ⟨by unfold maxLen; omega, fun hne => ?_⟩
    rcases own_far (h.bs.trees j hj) (by omega) hs hc with ⟨_, h0⟩ | ⟨g, cap, ev, hl, hc2⟩
    · exact absurd (List.length_eq_zero_iff.1 h0) hne
    · unfold tV at ev
      rw [Value.slice.injEq] at ev
      refine ⟨g, 0, ev.1, hl, fun i hi => ?_⟩
      have hi' : i < D[j].2.1.length := hi
      obtain ⟨q0, q1, q2, q3, q4, q5⟩ := ndCells_at _ i hi'
      rw [Nat.zero_add]
      exact ⟨(hc2 _ (by omega)).trans q0, (hc2 _ (by omega)).trans q1, (hc2 _ (by omega)).trans q2, (hc2 _ (by omega)).trans q3, (hc2 _ (by omega)).trans q4, (hc2 _ (by omega)).trans q5⟩
  · rcases own_far h.bs.own (by omega) hs hc with ⟨_, h0⟩ | ⟨g, cap, ev, hl, hc2⟩
    · exact absurd (List.length_eq_zero_iff.1 h0) hne
    · rw [ex, Value.slice.injEq] at ev
      refine ⟨g, 0, ev.1, hl, fun i hi => ?_⟩
      have hi' : i < D.length := hi
      rw [Nat.zero_add, hc2 i (by omega), List.getElem?_map, List.getElem?_eq_getElem hi']
      rfl

theorem M.lay_in {B : Int} (hB : 0 ≤ B) : ∀ (T : M.BT) (k : Nat), M.inV B T → ∀ n ∈ M.lay T k, -B ≤ M.nv n ∧ M.nv n ≤ B
  | .lf v, k, h, n, hn => by
    have e : n = (-1, 0, 0, 0, false, v) := by
      have : n ∈ [((-1 : Int), (0 : Int), (0 : Int), (0 : Int), false, v)] := hn
      simpa using this
    subst e
    exact h
  | .nd f c s l r, k, h, n, hn => by
    have : n ∈ (f, c, ((k + 1 : Nat) : Int), ((k + 1 + l.size : Nat) : Int), s, (0 : Int)) :: (M.lay l (k + 1) ++ M.lay r (k + 1 + l.size)) := hn
    rcases List.mem_cons.1 this with e | e
    · subst e
      exact ⟨show -B ≤ 0 by omega, hB⟩
    · rcases List.mem_append.1 e with z | z
      · exact M.lay_in hB l _ h.1 n z
      · exact M.lay_in hB r _ h.2 n z

/-- what is handed out lies ahead of all that -/
theorem newG_put {w wz W : World} {J : Gr} {x0 x1 x2 x3 : Value} (h : NewG wz W J) (hz : wz.heap.size = w.heap.size + 1) : NewG w ((((W.setCell ⟨w.heap.size, 0, none⟩ x0).setCell ⟨w.heap.size, 1, none⟩ x1).setCell ⟨w.heap.size, 2, none⟩ x2).setCell ⟨w.heap.size, 3, none⟩ x3) J := fun W'' hs hc => by
  refine h W'' (by simpa using hs) fun b o hb => ?_
  rw [hc b o (by omega)]
  have n : ∀ (V : World) (i : Nat) (v : Value), (V.setCell ⟨w.heap.size, i, none⟩ v).cell? ⟨b, o, none⟩ = V.cell? ⟨b, o, none⟩ := fun V i v => World.cell?_setCell_other _ _ _ _ (by intro e; cases e; omega)
  rw [n, n, n, n]
/-- the trees of a grove that is laid are those of a list -/
def LayC (C : List Tc) (L : List M.BT) : Prop := C.map (fun t => t.2.1) = L.map (fun T => M.lay T 0)

end Go.Proofs.Ytpblpfleiilehag

namespace Go.Proofs.Ytpblpfleiilehag
open Go.ChangeShapes Go.WideShapes Go.ChangeAt Go.RowKit Go.Lib
set_option linter.unusedVariables false

/-- grow.Fit, where nothing is wrong: its tree lies in a block of its own -/
def GroOwnGives : Prop := ∀ (a : Option Addr) (xs : List Sx) (ca : Nat) (m depth least : Int) (W : World), RdL W a xs → M.grwF (sms xs) m depth least = 0 → Calls Try.prog 13 #[.slice a xs.length ca, .int .i64 m, .int .i64 depth, .int .i64 least] W fun e w' => ∃ g c, e = .returned (.tuple #[.slice (some ⟨g, 0, none⟩) (M.grwT (sms xs) m depth least).length c, .nilIface]) ∧ w'.ownsRow W.heap.size 55 6 (.slice (some ⟨g, 0, none⟩) (M.grwT (sms xs) m depth least).length c) (M.grwT (sms xs) m depth least).length (ndCells (M.grwT (sms xs) m depth least)) ∧ Below W.heap.size W w'

/-! ### samples with what is left of them, laid one by one -/
def lefX : List Sx → List Int → List Sx
  | x :: xs, r :: R => (x.1, x.2.1, x.2.2.1, M.fitT r) :: lefX xs R
  | _, _ => []
theorem lefX_len : ∀ (xs : List Sx) (R : List Int), R.length = xs.length → (lefX xs R).length = xs.length
  | [], [], _ => rfl
  | x :: xs, r :: R, h => by
    show (lefX xs R).length + 1 = xs.length + 1
    rw [lefX_len xs R (by simpa using h)]
  | [], _ :: _, h => by simp at h
  | _ :: _, [], h => by simp at h
theorem lefX_sms : ∀ (xs : List Sx) (R : List Int), sms (lefX xs R) = M.lesS (sms xs) R
  | [], R => by cases R <;> rfl
  | x :: xs, [] => rfl
  | x :: xs, r :: R => by
    show sm (x.1, x.2.1, x.2.2.1, M.fitT r) :: sms (lefX xs R) = ((sm x).1, M.fitT r) :: M.lesS (sms xs) R
    rw [lefX_sms xs R]
    rfl
theorem lefX_at : ∀ (xs : List Sx) (R : List Int), R.length = xs.length → ∀ k (hk : k < xs.length) (h' : k < (lefX xs R).length), (lefX xs R)[k] = (xs[k].1, xs[k].2.1, xs[k].2.2.1, M.fitT (R.getD k 0))
  | [], R, h, k, hk, _ => by simp at hk
  | x :: xs, [], h, k, hk, _ => by simp at h
  | x :: xs, r :: R, h, 0, hk, _ => rfl
  | x :: xs, r :: R, h, k + 1, hk, h' => by
    have := lefX_at xs R (by simpa using h) k (by simpa using hk) (by simpa [lefX] using h')
    simpa [lefX] using this
theorem saCells_setS : ∀ (ys : List Sx) (k : Nat), k < ys.length → ∀ v : Sx, ((saCells ys).set (k * 2) (sxV v)).set (k * 2 + 1) (.int .i64 v.2.2.2) = saCells (ys.set k v)
  | [], k, h, v => by simp at h
  | x :: t, 0, h, v => rfl
  | x :: t, k + 1, h, v => by
    have ih := saCells_setS t k (by simpa using h) v
    have e : saCells (x :: t) = sxV x :: .int .i64 x.2.2.2 :: saCells t := rfl
    rw [e, List.set_cons_succ, show saCells (x :: t.set k v) = sxV x :: .int .i64 x.2.2.2 :: saCells (t.set k v) from rfl, ← ih, show (k + 1) * 2 = k * 2 + 1 + 1 by omega]
    simp only [List.set_cons_succ]
def fillY (ys : List Sx) (k : Nat) : List Sx := ys.take k ++ List.replicate (ys.length - k) (none, [], 0, 0)
theorem fillY_len (ys : List Sx) {k : Nat} (h : k ≤ ys.length) : (fillY ys k).length = ys.length := by unfold fillY; simp; omega
theorem fillY_zero (ys : List Sx) : fillY ys 0 = List.replicate ys.length (none, [], 0, 0) := by unfold fillY; simp
theorem fillY_all (ys : List Sx) : fillY ys ys.length = ys := by unfold fillY; simp
theorem fillY_set (ys : List Sx) {k : Nat} (h : k < ys.length) : (fillY ys k).set k ys[k] = fillY ys (k + 1) := by
  apply List.ext_getElem?
  intro i
  unfold fillY
  by_cases e : i = k
  · subst e
    rw [List.getElem?_set_self (by simp; omega), List.getElem?_append_left (by simp; omega), List.getElem?_take_of_lt (by omega), List.getElem?_eq_getElem h]
  · rw [List.getElem?_set_ne (fun c => e c.symm)]
    by_cases q : i < k
    · rw [List.getElem?_append_left (by simp; omega), List.getElem?_append_left (by simp; omega), List.getElem?_take_of_lt q, List.getElem?_take_of_lt (by omega)]
    · rw [List.getElem?_append_right (by simp; omega), List.getElem?_append_right (by simp; omega)]
      simp only [List.length_take, List.getElem?_replicate]
      rw [Nat.min_eq_left (by omega), Nat.min_eq_left (by omega)]
      by_cases q2 : i < ys.length
      · rw [if_pos (by omega), if_pos (by omega)]
      · rw [if_neg (by omega), if_neg (by omega)]
theorem madeSa (n : Nat) : (madeCells (Value.cells (.agg #[.slice none 0 0, .int .i64 0])) (n * 2)).toList = saCells (List.replicate n (none, [], 0, 0)) := by
  rw [show Value.cells (.agg #[.slice none 0 0, .int .i64 0]) = #[.slice none 0 0, .int .i64 0] by simp [Value.cells]]
  unfold madeCells
  induction n with
  | zero => simp [saCells]
  | succ k ih =>
    have e : (Array.range ((k + 1) * 2)).toList = (Array.range (k * 2)).toList ++ [k * 2, k * 2 + 1] := by
      rw [Array.toList_range, Array.toList_range, show (k + 1) * 2 = k * 2 + 1 + 1 by omega, List.range_succ, List.range_succ]
      simp
    rw [Array.toList_map] at ih ⊢
    rw [e, List.map_append, ih, List.replicate_succ', saCells_snoc]
    congr 1
    have a0 : k * 2 % 2 = 0 := by omega
    have a1 : (k * 2 + 1) % 2 = 1 := by omega
    simp [a0, a1, sxV]
theorem saCells_len (ys : List Sx) : (saCells ys).length = ys.length * 2 := by
  induction ys with
  | nil => rfl
  | cons x t ih => rw [show saCells (x :: t) = sxV x :: .int .i64 x.2.2.2 :: saCells t from rfl]; simp only [List.length_cons, ih]; omega

theorem M.boT_lay (m dp : Nat) (s : Int) (l : List M.Sa) (R : List Int) : M.lay (M.boT m dp s l R) 0 = (M.lay (M.growT m 1 dp (M.lesS l R)) 0).map (M.scN (M.shrV s)) := by
  unfold M.boT; exact M.sc_lay (M.shr_zero s) _ 0
theorem M.sh_in {s : Int} (h1 : 1 ≤ s) (h2 : s ≤ 100) {v : Int} (a : -1000 ≤ v) (b : v ≤ 1000) : -100000 ≤ v * s ∧ v * s ≤ 100000 := by
  have e1 : v * s ≤ 1000 * s := Int.mul_le_mul_of_nonneg_right b (by omega)
  have e2 : -1000 * s ≤ v * s := Int.mul_le_mul_of_nonneg_right a (by omega)
  omega

set_option maxHeartbeats 8000000 in
set_option maxRecDepth 10000 in
theorem btree_any (GO : GroOwnGives) (a ra : Option Addr) (xs : List Sx) (R : List Int) (ca rc mn dn : Nat) (s : Int) (w : World) (h : RdL w a xs) (hr : Rd w ra R) (h0 : 0 < xs.length) (hR : R.length = xs.length) (G : M.GoodS (sms xs) mn) (hS : M.grwF (M.lesS (sms xs) R) (mn : Int) (dn : Int) 1 = 0) (hs1 : 1 ≤ s) (hs2 : s ≤ 100) (hd : dn ≤ 4) :
    Calls Try.prog 16 #[.slice a xs.length ca, .slice ra xs.length rc, .int .i64 (mn : Int), .int .i64 (dn : Int), .int .i64 s] w fun e w' => ∃ g c, e = .returned (.tuple #[.slice (some ⟨g, 0, none⟩) (M.boT mn dn s (sms xs) R).size c, .nilIface]) ∧ w'.ownsRow w.heap.size 55 6 (.slice (some ⟨g, 0, none⟩) (M.boT mn dn s (sms xs) R).size c) (M.boT mn dn s (sms xs) R).size (ndCells (M.lay (M.boT mn dn s (sms xs) R) 0)) ∧ Below w.heap.size w w' := by
  have l60 : xs.length ≤ 60 := by have := G.le; rw [sms_len] at this; exact this
  have YL : (lefX xs R).length = xs.length := lefX_len xs R hR
  have YS : sms (lefX xs R) = M.lesS (sms xs) R := lefX_sms xs R
  have YA : Hid (∀ k (hk : k < xs.length) (h' : k < (lefX xs R).length), (lefX xs R)[k] = (xs[k].1, xs[k].2.1, xs[k].2.2.1, M.fitT (R.getD k 0))) := fun k hk h' => lefX_at xs R hR k hk h'
  have Y1 : Hid (∀ W, Below w.heap.size w W → ∀ y ∈ lefX xs R, Rd W y.1 y.2.1) := fun W hW y hy => by
    obtain ⟨k, hk, rfl⟩ := List.getElem_of_mem hy
    have hk' : k < xs.length := by rw [← YL]; exact hk
    rw [lefX_at xs R hR k hk' hk]
    exact (h.2.1 _ (List.getElem_mem hk')).below hW
  have rl : R.length = (sms xs).length := by rw [sms_len]; exact hR
  have G2 := M.les_good G rl
  have ll : 0 < (M.lesS (sms xs) R).length := by rw [M.les_len _ _ rl, sms_len]; exact h0
  have gi := M.grow_in (m := mn) (least := 1) (Int.le_refl _) dn G2 ll
  have ET : M.grwT (M.lesS (sms xs) R) (mn : Int) (dn : Int) 1 = M.lay (M.growT mn 1 dn (M.lesS (sms xs) R)) 0 := by
    unfold M.grwT; rw [if_pos hS, Int.toNat_natCast, Int.toNat_natCast]
  have GF : Hid (∀ W ya yc, RdL W ya (lefX xs R) → Calls Try.prog 13 #[.slice ya xs.length yc, .int .i64 (mn : Int), .int .i64 (dn : Int), .int .i64 1] W fun e w' => ∃ g c, e = .returned (.tuple #[.slice (some ⟨g, 0, none⟩) (M.lay (M.growT mn 1 dn (M.lesS (sms xs) R)) 0).length c, .nilIface]) ∧ w'.ownsRow W.heap.size 55 6 (.slice (some ⟨g, 0, none⟩) (M.lay (M.growT mn 1 dn (M.lesS (sms xs) R)) 0).length c) (M.lay (M.growT mn 1 dn (M.lesS (sms xs) R)) 0).length (ndCells (M.lay (M.growT mn 1 dn (M.lesS (sms xs) R)) 0)) ∧ Below W.heap.size W w') := fun W ya yc hy => by
    have := GO ya (lefX xs R) yc (mn : Int) (dn : Int) 1 W hy (by rw [YS]; exact hS)
    rw [YS, ET, YL] at this
    exact this
  have VB : Hid (∀ k, k < (M.lay (M.growT mn 1 dn (M.lesS (sms xs) R)) 0).length → -1000 ≤ M.nv (M.nAt (M.lay (M.growT mn 1 dn (M.lesS (sms xs) R)) 0) k) ∧ M.nv (M.nAt (M.lay (M.growT mn 1 dn (M.lesS (sms xs) R)) 0) k) ≤ 1000) := fun k hk => by
    rw [nAt_in _ hk]
    exact M.lay_in (by decide) _ 0 gi _ (List.getElem_mem hk)
  have EL : Hid (M.lay (M.boT mn dn s (sms xs) R) 0 = (M.lay (M.growT mn 1 dn (M.lesS (sms xs) R)) 0).map (M.scN (M.shrV s))) := M.boT_lay ..
  have ES : Hid ((M.boT mn dn s (sms xs) R).size = (M.lay (M.growT mn 1 dn (M.lesS (sms xs) R)) 0).length) := by unfold Hid M.boT; rw [M.sc_size, M.lay_len]
  have g2 := (M.grow_deep mn 1 dn (M.lesS (sms xs) R)).2
  have p2 : 2 ^ (dn + 1) ≤ 2 ^ 5 := Nat.pow_le_pow_right (by decide) (by omega)
  have T6 : (M.lay (M.growT mn 1 dn (M.lesS (sms xs) R)) 0).length ≤ 63 := by rw [M.lay_len]; omega
  have HR := hide h
  have HQ := hide hr
  have RL := hide hR
  have LL := hide YL
  obtain ⟨i0, hi, hz0, hz1, hz2⟩ := info_parts infoSam
  have I0 := hide hi
  rw [EL.out, ES.out]
  clear h hr hR YL YS G rl G2 ll gi ET hi g2 p2 hS GO EL ES
  generalize M.lay (M.growT mn 1 dn (M.lesS (sms xs) R)) 0 = TL at *
  generalize lefX xs R = YY at *
  go_enter Try.func16, Try.ntmps16
  go_wp2_with (at_make; refine wpList_make_full _ rfl (.tmp 19) (.tmp 19) 22 rfl w.heap.size 43 i0 (.agg #[.slice none 0 0, .int .i64 0]) 2 Try.underlying22 I0.out hz0 hz1 .i64 .i64 _ _ xs.length rfl rfl (by omega) (by omega) (by rw [hz2]; omega) (by unfold maxLen; omega) (Nat.le_refl _) ?_; intro w3 hown hgrow)
  rw [madeSa] at hown
  have hb3 : Hid (Below w.heap.size w w3) := (Below.refl _ w).grown hgrow (Nat.le_refl _) (fun k hk => by cases hk)
  have HO : Hid (w3.ownsRow w.heap.size 43 2 (.slice (some ⟨w.heap.size, 0, none⟩) xs.length xs.length) xs.length (saCells (fillY YY 0))) := by
    unfold Hid; rw [fillY_zero, LL.out]; exact hown
  clear hown hgrow I0 hz0 hz1 hz2
  go_loopw [23] (fun i wr => ∃ k : Nat, k ≤ xs.length ∧ i = .int .i64 k ∧ Hid (wr.ownsRow w.heap.size 43 2 (.slice (some ⟨w.heap.size, 0, none⟩) xs.length xs.length) xs.length (saCells (fillY YY k))) ∧ Hid (Below w.heap.size w wr)) (fun i _ => xs.length - (intOf i).toNat)
  case atStart => exact ⟨0, Nat.zero_le _, rfl, HO, hb3⟩
  case round =>
    clear HO hb3
    obtain ⟨k, hk, rfl, HO, K⟩ := hrel
    by_cases hlt : k < xs.length
    · obtain ⟨b, off, rfl, hb, hc⟩ := (HR.out.below K.out).2.2 (by intro e; rw [e] at hlt; simp at hlt)
      obtain ⟨c0, c1⟩ := hc k hlt
      obtain ⟨b2, off2, rfl, hb2, hc2⟩ := (HQ.out.below K.out).2 (by intro e; have := RL.out; rw [e] at this; simp at this; omega)
      have c2 := hc2 k (by rw [RL.out]; exact hlt)
      unfold sxV at c0
      have kz : (k : Int) < (xs.length : Int) := by omega
      have hkL : k < YY.length := by rw [LL.out]; exact hlt
      have hkF : k < (fillY YY k).length := by rw [fillY_len YY (by omega)]; exact hkL
      have RR : Hid (∀ W, Below wr.heap.size wr W → ((W.setCell ⟨w.heap.size, k * 2, none⟩ (.slice xs[k].1 xs[k].2.1.length xs[k].2.2.1)).setCell ⟨w.heap.size, k * 2 + 1, none⟩ (.int .i64 (M.fitT (R.getD k 0)))).ownsRow w.heap.size 43 2 (.slice (some ⟨w.heap.size, 0, none⟩) xs.length xs.length) xs.length (saCells (fillY YY (k + 1)))) := fun W hW => by
        have r1 := (((own_up HO.out hW).stored (k * 2) (sxV YY[k])).1.stored (k * 2 + 1) (.int .i64 YY[k].2.2.2)).1
        rw [saCells_setS _ k hkF, fillY_set YY hkL, YA.out k hlt hkL] at r1
        exact r1
      have sl := saCells_len (fillY YY k)
      rw [fillY_len YY (by omega), LL.out] at sl
      obtain ⟨q0, q1⟩ := saCells_at (fillY YY k) k hkF
      have g0 := (HO.out.cellAt (k * 2) (by omega)).trans q0
      have g1 := (HO.out.cellAt (k * 2 + 1) (by omega)).trans q1
      unfold sxV at g0
      have z0 := HO.out.frozenAt (k * 2)
      have z1 := HO.out.frozenAt (k * 2 + 1)
      have FT := hide (fitto_t (R.getD k 0))
      have lg : w.heap.size < wr.heap.size := block_lt_of_cell g0
      clear hc HO hc2 sl q0 q1 VB GF Y1 HQ HR RL YA
      generalize (fillY YY k)[k].2.2.2 = u0 at *
      generalize (fillY YY k)[k].2.1.length = u1 at *
      generalize (fillY YY k)[k].2.2.1 = u2 at *
      generalize (fillY YY k)[k].1 = u3 at *
      generalize xs[k].2.2.2 = t at *
      generalize xs[k].2.1.length = rl at *
      generalize xs[k].2.2.1 = rcc at *
      generalize xs[k].1 = raa at *
      generalize M.fitT (R.getD k 0) = z at *
      generalize R.getD k 0 = x at *
      go_upto_region 5 with fail
      obtain ⟨w5, hw5⟩ : ∃ W, W = wr.alloc (.cells #[.slice raa rl rcc, .int .i64 t] 43) := ⟨_, rfl⟩
      rw [← hw5]
      have B5 : Below wr.heap.size wr w5 := by rw [hw5]; exact (Below.refl _ wr).alloc (Nat.le_refl _) _
      have y0 : w5.cell? ⟨wr.heap.size, 0, none⟩ = some (.slice raa rl rcc) := (new_kept hw5 (Below.refl _ _)).1 0 _ rfl
      have y2 := (B5.cell (p := ⟨b2, off2 + k, none⟩) hb2).trans c2
      have y3 := (B5.cell (p := ⟨w.heap.size, k * 2, none⟩) lg).trans g0
      have y4 := (B5.cell (p := ⟨w.heap.size, k * 2 + 1, none⟩) lg).trans g1
      have y5 := (B5.frozen (p := ⟨w.heap.size, k * 2, none⟩) lg).trans z0
      have y6 := (B5.frozen (p := ⟨w.heap.size, k * 2 + 1, none⟩) lg).trans z1
      have R5 := RR.out w5 B5
      have R6 : Hid ((((w5.setCell ⟨w.heap.size, k * 2, none⟩ (.slice raa rl rcc)).setCell ⟨w.heap.size, k * 2 + 1, none⟩ (.int .i64 z)).drew).ownsRow w.heap.size 43 2 (.slice (some ⟨w.heap.size, 0, none⟩) xs.length xs.length) xs.length (saCells (fillY YY (k + 1)))) := R5.drew
      have K6 : Hid (Below w.heap.size w (((w5.setCell ⟨w.heap.size, k * 2, none⟩ (.slice raa rl rcc)).setCell ⟨w.heap.size, k * 2 + 1, none⟩ (.int .i64 z)).drew)) :=
        (((below_on K.out B5).setCell (p := ⟨w.heap.size, k * 2, none⟩) (Nat.le_refl _) _).setCell (p := ⟨w.heap.size, k * 2 + 1, none⟩) (Nat.le_refl _) _).drew
      clear R5 RR hw5 c0 c1 c2 g0 g1 z0 z1 B5
      go_region_with (go_at_call 18; refine (FT.out _).mono ?_; rintro e w6 ⟨rfl, e6⟩; have e7 := e6.symm; subst e7)
      all_goals (
        go_wp2
        go_roundw
        case rel => exact ⟨k + 1, by omega, by go_num, R6, K6⟩
        case measure => simp [intOf]; omega)
    · have ek : k = xs.length := by omega
      have kz : ¬ ((k : Int) < (xs.length : Int)) := by omega
      rw [show fillY YY k = YY by rw [ek, ← LL.out]; exact fillY_all YY] at HO
      obtain ⟨pa, pc, hp1, hp2⟩ := own_rdL LL.out (by unfold maxLen; omega) HO.out (Y1.out wr K.out)
      cases hp1
      have F1 := hide (GF.out wr _ xs.length hp2)
      clear HO hp2 ek GF Y1 HR HQ YA
      go_wp2_with (go_at_call 13; refine F1.out.mono ?_; rintro e w6 ⟨g, c, rfl, ho6, hb6⟩; have O6 := hide ho6; have K6 := hide (below_on K.out hb6); have s6 := hb6.size; clear hb6; have l6 : Hid (w.heap.size ≤ wr.heap.size) := K.out.size; have E6 : Hid (ndCells TL = ndCells (scK (M.shrV s) TL 0)) := (by unfold Hid; rw [scK_zero]); clear ho6)
      have O7 : Hid (w6.ownsRow w.heap.size 55 6 (.slice (some ⟨g, 0, none⟩) TL.length c) TL.length (ndCells (scK (M.shrV s) TL 0))) := by
        unfold Hid; rw [← E6.out]; exact own_low l6.out O6.out
      have gp : Hid (w.heap.size ≤ g) := (O7.out.lt g rfl).1
      clear O6 E6 l6 K F1 s6
      go_loopw [52] (fun i wr => ∃ k : Nat, k ≤ TL.length ∧ i = .int .i64 k ∧ Hid (wr.ownsRow w.heap.size 55 6 (.slice (some ⟨g, 0, none⟩) TL.length c) TL.length (ndCells (scK (M.shrV s) TL k))) ∧ Hid (Below w.heap.size w wr)) (fun i _ => TL.length - (intOf i).toNat)
      case atStart => exact ⟨0, Nat.zero_le _, rfl, O7, K6⟩
      case round =>
        clear O7 K6
        obtain ⟨j, hj, rfl, HO, K⟩ := hrel
        by_cases hjt : j < TL.length
        · have jz : (j : Int) < (TL.length : Int) := by omega
          obtain ⟨v1, v2⟩ := VB.out j hjt
          obtain ⟨p1, p2⟩ := M.sh_in hs1 hs2 v1 v2
          have r1 := (HO.out.stored (j * 6 + 5) (.int .i64 (M.shrV s (M.nv (M.nAt TL j))))).1
          rw [scK_cells (M.shrV s) TL hjt] at r1
          have RR := hide r1
          have RK : Hid (Below w.heap.size w (wr.setCell ⟨g, j * 6 + 5, none⟩ (.int .i64 (M.shrV s (M.nv (M.nAt TL j)))))) := K.out.setCell (p := ⟨g, j * 6 + 5, none⟩) gp.out _
          have sl := ndCells_len (scK (M.shrV s) TL j)
          rw [scK_len] at sl
          have q := (ndCells_at (scK (M.shrV s) TL j) j (by rw [scK_len]; exact hjt)).2.2.2.2.2
          rw [scK_at (M.shrV s) TL hjt] at q
          have g0 := (HO.out.cellAt (j * 6 + 5) (by omega)).trans q
          have z0 := HO.out.frozenAt (j * 6 + 5)
          unfold M.shrV at RR RK
          clear r1 HO K sl q VB
          generalize M.nv (M.nAt TL j) = v at *
          go_wp2
          go_roundw
          case rel => exact ⟨j + 1, by omega, by go_num, RR, RK⟩
          case measure => simp [intOf]; omega
        · have ej : j = TL.length := by omega
          have jz : ¬ ((j : Int) < (TL.length : Int)) := by omega
          rw [show scK (M.shrV s) TL j = TL.map (M.scN (M.shrV s)) by rw [ej]; exact scK_all _ _] at HO
          clear ej VB
          go_wp2
          go_ret2
          exact ⟨g, c, rfl, HO.out, K.out⟩

end Go.Proofs.Ytpblpfleiilehag
