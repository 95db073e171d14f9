/-
  Several texts as one: BooEnd, MathBd, NewKept, RefVal.
-/
import Derived.Test.YtpblpfleiilehafGreatDoorRun16
import Derived.Test.YtpblpfleiilehafGreatDoorRun10
import Derived.Test.YtpblpfleiilehafGreatDoorRun9
import Derived.Test.YtpblpfleiilehafGreatDoorRun0
import Derived.Test.YtpblpfleiilehafGreatDoorRun14
import Derived.Test.YtpblpfleiilehafGreatDoorRun3
import Derived.Deep.AppendLies
import Derived.Deep.Cut
import Derived.Deep.CutRange
import Derived.Deep.RegionWith
import Derived.OwnWalk
namespace Go.Proofs.YtpblpfleiilehafGreatDoor
open Go.ChangeShapes Go.WideShapes Go.ChangeAt Go.RowKit Go.Lib
set_option linter.unusedVariables false

/-! ### the values of nodes -/
theorem ndCells_setV : ∀ (ts : List M.Nd) (i : Nat), i < ts.length → ∀ v : Int, (ndCells ts).set (i * 6 + 5) (.int .i64 v) = ndCells (ts.set i (M.nf (M.nAt ts i), M.nc (M.nAt ts i), M.nl (M.nAt ts i), M.nr (M.nAt ts i), M.ns (M.nAt ts i), v))
  | [], i, h, v => by simp at h
  | n :: t, 0, h, v => rfl
  | n :: t, i + 1, h, v => by
    have ih := ndCells_setV t i (by simpa using h) v
    have e : M.nAt (n :: t) (i + 1) = M.nAt t i := by simp [M.nAt]
    rw [e, List.set_cons_succ, ndCells_cons, ndCells_cons, ← ih, show (i + 1) * 6 + 5 = (i * 6 + 5) + 1 + 1 + 1 + 1 + 1 + 1 by omega]
    simp only [List.set_cons_succ]
/-- the first of them turned -/
def scK (f : Int → Int) (ts : List M.Nd) (k : Nat) : List M.Nd := (ts.take k).map (M.scN f) ++ ts.drop k
theorem scK_len (f : Int → Int) (ts : List M.Nd) (k : Nat) : (scK f ts k).length = ts.length := by
  unfold scK; rw [List.length_append, List.length_map, List.length_take, List.length_drop]; omega
theorem scK_zero (f : Int → Int) (ts : List M.Nd) : scK f ts 0 = ts := by unfold scK; simp
theorem scK_all (f : Int → Int) (ts : List M.Nd) : scK f ts ts.length = ts.map (M.scN f) := by unfold scK; simp
theorem nAt_in (ts : List M.Nd) {k : Nat} (h : k < ts.length) : M.nAt ts k = ts[k] := by unfold M.nAt; rw [M.getD_at h]
theorem scK_at (f : Int → Int) (ts : List M.Nd) {k : Nat} (h : k < ts.length) : M.nAt (scK f ts k) k = M.nAt ts k := by
  rw [nAt_in _ (by rw [scK_len]; exact h), nAt_in _ h]
  unfold scK
  rw [List.getElem_append_right (by simp; omega)]
  simp [List.length_take, Nat.min_eq_left (Nat.le_of_lt h)]
theorem scK_next (f : Int → Int) (ts : List M.Nd) {k : Nat} (h : k < ts.length) : (scK f ts k).set k (M.scN f (M.nAt ts k)) = scK f ts (k + 1) := by
  unfold scK
  have l : ((ts.take k).map (M.scN f)).length = k := by rw [List.length_map, List.length_take]; omega
  rw [List.set_append_right _ _ (by omega), l, Nat.sub_self, List.drop_eq_getElem_cons h, List.set_cons_zero, List.take_succ_eq_append_getElem h, List.map_append, nAt_in _ h]
  simp
/-- one more, as cells -/
theorem scK_cells (f : Int → Int) (ts : List M.Nd) {k : Nat} (h : k < ts.length) : (ndCells (scK f ts k)).set (k * 6 + 5) (.int .i64 (f (M.nv (M.nAt ts k)))) = ndCells (scK f ts (k + 1)) := by
  rw [ndCells_setV _ k (by rw [scK_len]; exact h), scK_at f ts h]
  rw [← scK_next f ts h]
  rfl

/-! ### the trees of a grove, turned one behind the other -/
structure Mix (f : Int → Int) (C D : List Tc) (i k : Nat) : Prop where
  len : D.length = C.length
  at' : ∀ j (h : j < C.length) (h' : j < D.length), D[j].1 = C[j].1 ∧ D[j].2.2 = C[j].2.2 ∧ D[j].2.1 = if j < i then C[j].2.1.map (M.scN f) else if j = i then scK f C[j].2.1 k else C[j].2.1
theorem Mix.start (f : Int → Int) (C : List Tc) : Mix f C C 0 0 := ⟨rfl, fun j h h' => ⟨rfl, rfl, by rw [if_neg (Nat.not_lt_zero _)]; split; rw [scK_zero]; rfl⟩⟩
theorem Mix.next {f : Int → Int} {C D : List Tc} {i k : Nat} (h : Mix f C D i k) (hi : i < C.length) (hk : k = C[i].2.1.length) : Mix f C D (i + 1) 0 := ⟨h.len, fun j hj hj' => by
  obtain ⟨a, b, c⟩ := h.at' j hj hj'
  refine ⟨a, b, ?_⟩
  rw [c]
  by_cases e : j < i
  · rw [if_pos e, if_pos (by omega)]
  · rw [if_neg e]
    by_cases e2 : j = i
    · subst e2; rw [if_pos rfl, if_pos (by omega), hk, scK_all]
    · rw [if_neg e2, if_neg (by omega)]
      split
      · rw [scK_zero]
      · rfl⟩
theorem Mix.tree {f : Int → Int} {C D : List Tc} {i k : Nat} (h : Mix f C D i k) (hi : i < C.length) (hd : i < D.length) : D[i].1 = C[i].1 ∧ D[i].2.2 = C[i].2.2 ∧ D[i].2.1 = scK f C[i].2.1 k := by
  obtain ⟨a, b, c⟩ := h.at' i hi hd
  exact ⟨a, b, by rw [c, if_neg (Nat.lt_irrefl _), if_pos rfl]⟩
theorem Mix.turn {f : Int → Int} {C D : List Tc} {i k : Nat} (h : Mix f C D i k) (hi : i < C.length) (hd : i < D.length) : Mix f C (D.set i (D[i].1, scK f C[i].2.1 (k + 1), D[i].2.2)) i (k + 1) := ⟨by rw [List.length_set]; exact h.len, fun j hj hj' => by
  rw [List.length_set] at hj'
  obtain ⟨a, b, c⟩ := h.at' j hj hj'
  by_cases e : i = j
  · subst e
    rw [List.getElem_set_self]
    exact ⟨a, b, by rw [if_neg (Nat.lt_irrefl _), if_pos rfl]⟩
  · rw [List.getElem_set_ne e]
    refine ⟨a, b, ?_⟩
    rw [c]
    by_cases q : j < i
    · rw [if_pos q, if_pos q]
    · rw [if_neg q, if_neg q, if_neg (fun z => e z.symm), if_neg (fun z => e z.symm)]⟩
theorem Mix.fin {f : Int → Int} {C D : List Tc} (h : Mix f C D C.length 0) : tl D = (tl C).map fun t => t.map (M.scN f) := by
  unfold tl
  refine List.ext_getElem (by simp [h.len]) fun j h1 h2 => ?_
  rw [List.length_map] at h1
  have hj : j < C.length := by rw [← h.len]; exact h1
  have := (h.at' j hj h1).2.2
  rw [if_pos hj] at this
  simp [this]

/-! ### a grove while its values are turned, its weights while they are laid -/
theorem BS.tree {w : World} {gb : Nat} {m : Int} {y x : Value} {C : List Tc} {W : World} (h : BS w gb m y x C W) (i : Nat) (hi : i < C.length) : ∃ q cap, C[i].1 = some ⟨q, 0, none⟩ ∧ C[i].2.2 = cap ∧ gb + 1 ≤ q ∧ q < W.heap.size ∧ (tV C[i]).ownBlock = some q := by
  have t := h.trees i hi
  have o := (h.other i hi).1
  rcases t.2 with ⟨h0, _⟩ | ⟨q, cap, cur, hv, hb, hg, _⟩
  · rw [h0] at o; exact absurd rfl o
  · have hv' := hv
    unfold tV at hv'
    rw [Value.slice.injEq] at hv'
    exact ⟨q, cap, hv'.1, hv'.2.2, hb, (Array.getElem?_eq_some_iff.1 hg).1, by rw [hv]; rfl⟩
theorem keep_row {W : World} {base e size n q o : Nat} {v u : Value} {l : List Value} (h : W.ownsRow base e size v n l) (hq : v.ownBlock ≠ some q) : (W.setCell ⟨q, o, none⟩ u).ownsRow base e size v n l := h.kept grown_set (.inr hq)
theorem BS.turn {w : World} {gb : Nat} {m : Int} {y x : Value} {D : List Tc} {W : World} (h : BS w gb m y x D W) (i : Nat) (hi : i < D.length) {q k : Nat} (hq : (tV D[i]).ownBlock = some q) {v : Int} {ts : List M.Nd} (he : (ndCells D[i].2.1).set (k * 6 + 5) (.int .i64 v) = ndCells ts) (hl : ts.length = D[i].2.1.length) :
    BS w gb m y x (D.set i (D[i].1, ts, D[i].2.2)) (W.setCell ⟨q, k * 6 + 5, none⟩ (.int .i64 v)) := by
  have t := h.trees i hi
  have lq := t.lt q hq
  have nq : q ≠ gb := by omega
  have tv : tV (D[i].1, ts, D[i].2.2) = tV D[i] := by unfold tV; rw [hl]
  have o : ∀ (j : Nat), (W.setCell ⟨q, k * 6 + 5, none⟩ (.int .i64 v)).cell? ⟨gb, j, none⟩ = W.cell? ⟨gb, j, none⟩ := fun j => World.cell?_setCell_other _ _ _ _ (by intro e; cases e; exact nq rfl)
  refine ⟨(o 0).trans h.c0, (o 1).trans h.c1, (o 2).trans h.c2, (o 3).trans h.c3, fun j => ?_, by simpa using h.lt, h.ge, ?_, ?_, ?_, ?_, ?_⟩
  · have : (W.setCell ⟨q, k * 6 + 5, none⟩ (.int .i64 v)).frozen? ⟨gb, j, none⟩ = W.frozen? ⟨gb, j, none⟩ := by simp
    rw [this]; exact h.fr j
  · have e : (D.set i (D[i].1, ts, D[i].2.2)).map tV = D.map tV := by
      rw [List.map_set, tv]
      refine List.ext_getElem (by simp) fun j h1 h2 => ?_
      by_cases e : i = j
      · subst e; simp
      · rw [List.getElem_set_ne e]
    rw [e, List.length_set]
    exact keep_row h.own (fun e => (h.other i hi).2 (by rw [hq, e]))
  · intro j hj
    rw [List.length_set] at hj
    by_cases e : i = j
    · subst e
      rw [List.getElem_set_self, tv]
      obtain ⟨q', cap, e1, e2, _, _, e5⟩ := h.tree i hj
      have eq : q' = q := by rw [hq] at e5; cases e5; rfl
      subst eq
      have tv2 : tV D[i] = .slice (some ⟨q', 0, none⟩) D[i].2.1.length D[i].2.2 := by unfold tV; rw [e1]
      rw [tv2] at t ⊢
      have st := (t.stored (k * 6 + 5) (.int .i64 v)).1
      rw [he, ← hl] at st
      rw [← hl]
      exact st
    · rw [List.getElem_set_ne e]
      exact keep_row (h.trees j hj) (fun z => h.apart i j hi hj e (by rw [hq, z]))
  · intro j hj
    rw [List.length_set] at hj
    by_cases e : i = j
    · subst e; rw [List.getElem_set_self, tv]; exact h.other i hj
    · rw [List.getElem_set_ne e]; exact h.other j hj
  · intro a b ha hb hab
    rw [List.length_set] at ha hb
    have g : ∀ j (hj : j < D.length), tV ((D.set i (D[i].1, ts, D[i].2.2))[j]'(by rw [List.length_set]; exact hj)) = tV D[j] := fun j hj => by
      by_cases e : i = j
      · subst e; rw [List.getElem_set_self, tv]
      · rw [List.getElem_set_ne e]
    rw [g a ha, g b hb]
    exact h.apart a b ha hb hab
  · exact h.below.setCell (p := ⟨q, k * 6 + 5, none⟩) (by have := h.ge; show w.heap.size ≤ q; omega) _

/-- its weights, all 1, in a row of their own -/
structure BW (w : World) (gb : Nat) (m : Int) (y x : Value) (D : List Tc) (i : Nat) (W : World) : Prop where
  bs : BS w gb m y x D W
  wo : W.ownsRow (gb + 1) 3 1 y i ((List.replicate i (1 : Int)).map (Value.int .i64))
  wx : y.ownBlock = none ∨ y.ownBlock ≠ x.ownBlock
  wt : ∀ j (hj : j < D.length), y.ownBlock = none ∨ y.ownBlock ≠ (tV D[j]).ownBlock
theorem BW.start {w : World} {gb : Nat} {m : Int} {x : Value} {D : List Tc} {W : World} (h : BS w gb m (.slice none 0 0) x D W) : BW w gb m (.slice none 0 0) x D 0 W := ⟨h, World.ownsRow_nil _ _ _ _, .inl rfl, fun _ _ => .inl rfl⟩
theorem BW.turn {w : World} {gb : Nat} {m : Int} {y x : Value} {D : List Tc} {n : Nat} {W : World} (h : BW w gb m y x D n W) (i : Nat) (hi : i < D.length) {q k : Nat} (hq : (tV D[i]).ownBlock = some q) {v : Int} {ts : List M.Nd} (he : (ndCells D[i].2.1).set (k * 6 + 5) (.int .i64 v) = ndCells ts) (hl : ts.length = D[i].2.1.length) :
    BW w gb m y x (D.set i (D[i].1, ts, D[i].2.2)) n (W.setCell ⟨q, k * 6 + 5, none⟩ (.int .i64 v)) := by
  have tv : tV (D[i].1, ts, D[i].2.2) = tV D[i] := by unfold tV; rw [hl]
  refine ⟨h.bs.turn i hi hq he hl, ?_, h.wx, fun j hj => ?_⟩
  · refine keep_row h.wo (fun e => ?_)
    rcases h.wt i hi with z | z
    · rw [z] at e; cases e
    · exact z (by rw [hq, e])
  · rw [List.length_set] at hj
    by_cases e : i = j
    · subst e; rw [List.getElem_set_self, tv]; exact h.wt i hj
    · rw [List.getElem_set_ne e]; exact h.wt j hj
theorem BW.drew {w : World} {gb : Nat} {m : Int} {y x : Value} {D : List Tc} {n : Nat} {W W' : World} (h : BW w gb m y x D n W) (hb : Below W.heap.size W W') : BW w gb m y x D n W' := ⟨h.bs.up hb, own_up h.wo hb, h.wx, h.wt⟩
/-- one weight more, and the slice stored -/
theorem BW.more {w : World} {gb : Nat} {m : Int} {y x : Value} {D : List Tc} {n : Nat} {W : World} (h : BW w gb m y x D n W) {o : Obj} {w5 : World} {g cap : Nat}
    (hown : w5.ownsRow (gb + 1) 3 1 (.slice (some ⟨g, 0, none⟩) (n + 1) cap) (n + 1) ((List.replicate n (1 : Int)).map (Value.int .i64) ++ [.int .i64 1])) (hgrow : (W.alloc o).grownBy w5 y.ownBlock) (hat : y.ownBlock = some g ∨ g = W.heap.size + 1) :
    (w5.cell? ⟨gb, 2, none⟩ = some y ∧ w5.frozen? ⟨gb, 2, none⟩ = false) ∧ BW w gb m (.slice (some ⟨g, 0, none⟩) (n + 1) cap) x D (n + 1) (w5.setCell ⟨gb, 2, none⟩ (.slice (some ⟨g, 0, none⟩) (n + 1) cap)) := by
  have B := h.bs
  have hgr : W.grownBy w5 y.ownBlock := grown_trans (World.grownBy_alloc W o y.ownBlock) hgrow (.inl rfl)
  have yb : y.ownBlock ≠ some gb := fun e => by have := (h.wo.lt gb e).1; omega
  have cf : ∀ i, w5.cell? ⟨gb, i, none⟩ = W.cell? ⟨gb, i, none⟩ := fun i => hgr.cell_far ⟨gb, i, none⟩ B.lt (fun e => yb e.symm)
  have ff : ∀ i, w5.frozen? ⟨gb, i, none⟩ = W.frozen? ⟨gb, i, none⟩ := fun i => hgr.frozen_far ⟨gb, i, none⟩ B.lt (fun e => yb e.symm)
  have gp : gb + 1 ≤ g := (hown.lt g rfl).1
  have ob : (Value.slice (some ⟨g, 0, none⟩) (n + 1) cap).ownBlock = some g := rfl
  have kt : ∀ {e size n' : Nat} {v : Value} {l : List Value}, W.ownsRow (gb + 1) e size v n' l → (y.ownBlock = none ∨ y.ownBlock ≠ v.ownBlock) → (w5.setCell ⟨gb, 2, none⟩ (.slice (some ⟨g, 0, none⟩) (n + 1) cap)).ownsRow (gb + 1) e size v n' l := fun {e size n' v l} hv h1 => by
    refine keep_row (hv.kept hgr ?_) (fun e => by have := (hv.lt gb e).1; omega)
    rcases h1 with z | z
    · cases hv2 : v.ownBlock with
      | none => exact .inl rfl
      | some b => exact .inr (by rw [z]; simp)
    · exact .inr (fun e => z e.symm)
  have fresh : ∀ {e size n' : Nat} {v : Value} {l : List Value}, W.ownsRow (gb + 1) e size v n' l → (y.ownBlock = none ∨ y.ownBlock ≠ v.ownBlock) → v.ownBlock ≠ some g := fun {e size n' v l} hv h1 z => by
    rcases hat with q | q
    · rcases h1 with u | u
      · rw [u] at q; cases q
      · exact u (q.trans z.symm)
    · have := (hv.lt g z).2; omega
  refine ⟨⟨(cf 2).trans B.c2, (ff 2).trans (B.fr 2)⟩, ⟨⟨?_, ?_, ?_, ?_, ?_, ?_, B.ge, kt B.own h.wx, fun j hj => kt (B.trees j hj) (h.wt j hj), B.other, B.apart, ?_⟩, ?_, ?_, ?_⟩⟩
  · rw [World.cell?_setCell_other _ _ _ _ (by intro e; cases e)]; exact (cf 0).trans B.c0
  · rw [World.cell?_setCell_other _ _ _ _ (by intro e; cases e)]; exact (cf 1).trans B.c1
  · exact World.cell?_setCell_same (u := y) _ _ _ ((cf 2).trans B.c2)
  · rw [World.cell?_setCell_other _ _ _ _ (by intro e; cases e)]; exact (cf 3).trans B.c3
  · intro i; simpa using (ff i).trans (B.fr i)
  · have := hgr.size; have := B.lt; simp; omega
  · exact (B.below.grown hgr B.below.size (fun k hk => by have := (h.wo.lt k hk).1; have := B.ge; omega)).setCell (p := ⟨gb, 2, none⟩) B.ge _
  · rw [List.replicate_succ', List.map_append]
    exact keep_row hown (fun e => by rw [ob] at e; cases e; omega)
  · rw [ob]
    exact .inr (fun e => fresh B.own h.wx e.symm)
  · intro j hj
    rw [ob]
    exact .inr (fun e => fresh (B.trees j hj) (h.wt j hj) e.symm)

/-! ### what was laid is a grove, wherever its blocks are as they were -/
theorem own_far {w W : World} {base e size n B : Nat} {v : Value} {l : List Value} (h : w.ownsRow base e size v n l) (hB : B ≤ base) (hs : w.heap.size ≤ W.heap.size) (hc : ∀ b o, B ≤ b → W.cell? ⟨b, o, none⟩ = w.cell? ⟨b, o, none⟩) : (v = .slice none 0 0 ∧ n = 0) ∨ ∃ g cap, v = .slice (some ⟨g, 0, none⟩) n cap ∧ g < W.heap.size ∧ ∀ i, i < n * size → W.cell? ⟨g, i, none⟩ = l[i]? := by
  rcases h.2 with h0 | ⟨g, cap, cur, hv, hb, hg, h1, h2, h3, h4⟩
  · exact .inl h0
  · refine .inr ⟨g, cap, hv, Nat.lt_of_lt_of_le (Array.getElem?_eq_some_iff.1 hg).1 hs, fun i hi => ?_⟩
    rw [hc g i (by omega)]
    subst hv
    exact h.cellAt i hi
theorem BW.new {w w' W0 : World} {gb : Nat} {m : Int} {y x : Value} {D : List Tc} {n : Nat} (h : BW w gb m y x D n w') (hg : W0.heap.size ≤ gb) (hn : n ≤ 1000) (hD : D.length ≤ 1000) (hT : ∀ t ∈ D, t.2.1.length ≤ 1000) : ∃ wa wc ta tc, y = .slice wa n wc ∧ x = .slice ta D.length tc ∧ NewG W0 w' ⟨m, 2, wa, List.replicate n 1, wc, ta, D, tc⟩ := by
  obtain ⟨wa, wc, ey⟩ := own_any h.wo
  obtain ⟨ta, tc, ex⟩ := own_any h.bs.own
  refine ⟨wa, wc, ta, tc, ey, ex, fun W'' hs hc => ⟨⟨by rw [List.length_replicate]; unfold maxLen; omega, fun hne => ?_⟩, ⟨by unfold maxLen; show D.length ≤ _; omega, fun t ht => ?_, fun hne => ?_⟩⟩⟩
  · rcases own_far h.wo (by omega) hs hc with ⟨_, h0⟩ | ⟨g, cap, ev, hl, hc2⟩
    · subst h0; exact absurd rfl hne
    · rw [ey, Value.slice.injEq] at ev
      refine ⟨g, 0, ev.1, hl, fun i hi => ?_⟩
      rw [List.length_replicate] at hi
      rw [Nat.zero_add, hc2 i (by omega)]
      simp [hi]
  · obtain ⟨j, hj, rfl⟩ := List.getElem_of_mem ht
    have tl := hT _ ht
    refine ⟨by unfold maxLen; omega, fun hne => ?_⟩
    rcases own_far (h.bs.trees j hj) (by omega) hs hc with ⟨_, h0⟩ | ⟨g, cap, ev, hl, hc2⟩
    · exact absurd (List.length_eq_zero_iff.1 h0) hne
    · unfold tV at ev
      rw [Value.slice.injEq] at ev
      refine ⟨g, 0, ev.1, hl, fun i hi => ?_⟩
      have hi' : i < D[j].2.1.length := hi
      obtain ⟨q0, q1, q2, q3, q4, q5⟩ := ndCells_at _ i hi'
      rw [Nat.zero_add]
      exact ⟨(hc2 _ (by omega)).trans q0, (hc2 _ (by omega)).trans q1, (hc2 _ (by omega)).trans q2, (hc2 _ (by omega)).trans q3, (hc2 _ (by omega)).trans q4, (hc2 _ (by omega)).trans q5⟩
  · rcases own_far h.bs.own (by omega) hs hc with ⟨_, h0⟩ | ⟨g, cap, ev, hl, hc2⟩
    · exact absurd (List.length_eq_zero_iff.1 h0) hne
    · rw [ex, Value.slice.injEq] at ev
      refine ⟨g, 0, ev.1, hl, fun i hi => ?_⟩
      have hi' : i < D.length := hi
      rw [Nat.zero_add, hc2 i (by omega), List.getElem?_map, List.getElem?_eq_getElem hi']
      rfl

theorem M.lay_in {B : Int} (hB : 0 ≤ B) : ∀ (T : M.BT) (k : Nat), M.inV B T → ∀ n ∈ M.lay T k, -B ≤ M.nv n ∧ M.nv n ≤ B
  | .lf v, k, h, n, hn => by
    have e : n = (-1, 0, 0, 0, false, v) := by
      have : n ∈ [((-1 : Int), (0 : Int), (0 : Int), (0 : Int), false, v)] := hn
      simpa using this
    subst e
    exact h
  | .nd f c s l r, k, h, n, hn => by
    have : n ∈ (f, c, ((k + 1 : Nat) : Int), ((k + 1 + l.size : Nat) : Int), s, (0 : Int)) :: (M.lay l (k + 1) ++ M.lay r (k + 1 + l.size)) := hn
    rcases List.mem_cons.1 this with e | e
    · subst e
      exact ⟨show -B ≤ 0 by omega, hB⟩
    · rcases List.mem_append.1 e with z | z
      · exact M.lay_in hB l _ h.1 n z
      · exact M.lay_in hB r _ h.2 n z

/-- what is handed out lies ahead of all that -/
theorem newG_put {w wz W : World} {J : Gr} {x0 x1 x2 x3 : Value} (h : NewG wz W J) (hz : wz.heap.size = w.heap.size + 1) : NewG w ((((W.setCell ⟨w.heap.size, 0, none⟩ x0).setCell ⟨w.heap.size, 1, none⟩ x1).setCell ⟨w.heap.size, 2, none⟩ x2).setCell ⟨w.heap.size, 3, none⟩ x3) J := fun W'' hs hc => by
  refine h W'' (by simpa using hs) fun b o hb => ?_
  rw [hc b o (by omega)]
  have n : ∀ (V : World) (i : Nat) (v : Value), (V.setCell ⟨w.heap.size, i, none⟩ v).cell? ⟨b, o, none⟩ = V.cell? ⟨b, o, none⟩ := fun V i v => World.cell?_setCell_other _ _ _ _ (by intro e; cases e; omega)
  rw [n, n, n, n]
/-- the trees of a grove that is laid are those of a list -/
def LayC (C : List Tc) (L : List M.BT) : Prop := C.map (fun t => t.2.1) = L.map (fun T => M.lay T 0)

end Go.Proofs.YtpblpfleiilehafGreatDoor

namespace Go.Proofs.YtpblpfleiilehafGreatDoor.M
set_option linter.unusedVariables false

theorem bo_round {m dp k : Nat} {share : Int} {l : List Sa} {L : List BT} {R : List Int} {e : Bool} (h : GoodS l m) (hl : 0 < l.length) (s1 : 1 ≤ share) (s2 : share ≤ 100) (hd : dp ≤ 4) (hk : k ≤ 8) (I : BoI m dp l k (L, R, e)) :
    R.length = l.length ∧ (∀ x ∈ R, -10000 ≤ x ∧ x ≤ 10000) ∧ (boT m dp share l R).size ≤ 31 ∧ Fair (lay (boT m dp share l R) 0) (m : Int) ∧ inV 1000 (growT m 1 dp (lesS l R)) ∧ ∀ s ∈ l, nv (nAt (lay (boT m dp share l R) 0) (toD (lay (boT m dp share l R) 0) s.1 0)) = evB (boT m dp share l R) s.1 ∧ -1000 ≤ evB (boT m dp share l R) s.1 ∧ evB (boT m dp share l R) s.1 ≤ 1000 := by
  have rl : R.length = l.length := I.len
  have G := les_good h rl
  have ll : 0 < (lesS l R).length := by rw [les_len l _ rl]; exact hl
  have gi := grow_in (m := m) (least := 1) (Int.le_refl _) dp G ll
  have go := grow_ok (m := m) (least := 1) (Int.le_refl _) dp G ll
  have gd := grow_deep m 1 dp (lesS l R)
  have bi : inV 1000 (boT m dp share l R) := sc_in (fun v a b => shr_in s1 s2 v a b) _ gi
  have bo : okB (m : Int) (boT m dp share l R) := sc_ok (fun v a b => by have := shr_in s1 s2 v a b; exact out_in (by omega) (by omega)) _ go gi
  have p : 2 ^ (dp + 1) ≤ 2 ^ (4 + 1) := Nat.pow_le_pow_right (by omega) (by omega)
  have bs : (boT m dp share l R).size ≤ 31 := by unfold boT; rw [sc_size]; have := gd.2; omega
  have bd : (boT m dp share l R).deep ≤ 4 := by unfold boT; rw [sc_deep]; have := gd.1; omega
  have m8 := h.m8
  have tr : (treeF (lay (boT m dp share l R) 0) (m : Int)).2 = 0 := lay_tree bo (by omega) (by omega) (by omega) (by omega)
  refine ⟨rl, fun x hx => ?_, bs, (tree_ok tr).1, gi, fun s hs => ?_⟩
  · obtain ⟨i, hi, rfl⟩ := List.getElem_of_mem hx
    have hi' : i < l.length := by omega
    have e := I.rest i hi'
    have e2 : R.getD i 0 = R[i] := getD_at hi
    have hm : sAt l i ∈ l := by unfold sAt; rw [getD_at hi']; exact List.getElem_mem hi'
    have t := (h.each _ hm).2.2.1
    have a := allB_in (x := (sAt l i).1) (L := L) (fun T hT => (I.each T hT).2.1)
    have tk : L.length ≤ k + 1 := I.tk
    have e' : R.getD i 0 = (sAt l i).2 - allB L (sAt l i).1 := e
    omega
  · obtain ⟨z1, z2, z3, z4⟩ := h.each s hs
    have q := lay_eval (T := boT m dp share l R) (r := s.1) (by rw [z2]; exact bo) (by rw [z2]; exact tr) z1
    have ev := q.2
    unfold evalV at ev
    rw [if_pos q.1] at ev
    exact ⟨ev, in_ev s.1 _ bi⟩
/-- what is left then, one by one -/
theorem less_more {T : BT} {l : List Sa} {R : List Int} (h : R.length = l.length) {j : Nat} (hj : j < l.length) : (lessL T l R).take (j + 1) = (lessL T l R).take j ++ [R.getD j 0 - evB T (sAt l j).1] := by
  have ln := less_len T l R h
  rw [List.take_succ_eq_append_getElem (by omega), ← less_at T l R h j hj, getD_at (by omega)]
theorem less_in {T : BT} {l : List Sa} {R : List Int} (h : R.length = l.length) (hR : ∀ x ∈ R, -10000 ≤ x ∧ x ≤ 10000) (hT : ∀ s ∈ l, -1000 ≤ evB T s.1 ∧ evB T s.1 ≤ 1000) : ∀ x ∈ lessL T l R, -100000 ≤ x ∧ x ≤ 100000 := fun x hx => by
  obtain ⟨i, hi, rfl⟩ := List.getElem_of_mem hx
  have ln := less_len T l R h
  have e := less_at T l R h i (by omega)
  rw [getD_at hi, getD_at (by omega)] at e
  have r := hR R[i] (List.getElem_mem _)
  have hm : sAt l i ∈ l := by unfold sAt; rw [getD_at (by omega)]; exact List.getElem_mem _
  have t := hT _ hm
  omega
theorem bo_end {m dp : Nat} {share : Int} {l : List Sa} {k : Nat} {L : List BT} {R : List Int} (h : boR m dp share l k = (L, R, false)) (hq : sqs R ≤ sqs (lessL (boT m dp share l R) l R)) : boR m dp share l (k + 1) = (L, R, true) := by
  show boN m dp share l (boR m dp share l k) = _
  rw [h]
  unfold boN
  rw [if_neg (show ¬ (false = true) by decide), if_pos hq]
theorem bo_on {m dp : Nat} {share : Int} {l : List Sa} {k : Nat} {L : List BT} {R : List Int} (h : boR m dp share l k = (L, R, false)) (hq : ¬ sqs R ≤ sqs (lessL (boT m dp share l R) l R)) : boR m dp share l (k + 1) = (L ++ [boT m dp share l R], lessL (boT m dp share l R) l R, false) := by
  show boN m dp share l (boR m dp share l k) = _
  rw [h]
  unfold boN
  rw [if_neg (show ¬ (false = true) by decide), if_neg hq]
/-- what has ended stays -/
theorem bo_stay {m dp : Nat} {share : Int} {l : List Sa} {k : Nat} (h : (boR m dp share l k).2.2 = true) : ∀ j, boR m dp share l (k + j) = boR m dp share l k
  | 0 => rfl
  | j + 1 => by
    have ih := bo_stay h j
    show boN m dp share l (boR m dp share l (k + j)) = _
    rw [ih]
    unfold boN
    rw [if_pos h]

end Go.Proofs.YtpblpfleiilehafGreatDoor.M

namespace Go.Proofs.YtpblpfleiilehafGreatDoor
open Go.ChangeShapes Go.WideShapes Go.ChangeAt Go.RowKit Go.Lib
set_option linter.unusedVariables false

theorem set2 {W : World} {p : Nat} {x0 x1 y0 y1 : Value} (h0 : W.cell? ⟨p, 0, none⟩ = some y0) (h1 : W.cell? ⟨p, 1, none⟩ = some y1) :
    (W.setCell ⟨p, 0, none⟩ x0).cell? ⟨p, 0, none⟩ = some x0 ∧ ((W.setCell ⟨p, 0, none⟩ x0).setCell ⟨p, 1, none⟩ x1).cell? ⟨p, 1, none⟩ = some x1 := by
  refine ⟨World.cell?_setCell_same _ _ _ h0, World.cell?_setCell_same (u := y1) _ _ _ ?_⟩
  rw [World.cell?_setCell_other _ _ _ _ (by intro e; cases e)]; exact h1
theorem below2 {w W : World} {p : Nat} {x0 x1 : Value} (h : Below w.heap.size w W) (hp : w.heap.size ≤ p) : Below w.heap.size w ((W.setCell ⟨p, 0, none⟩ x0).setCell ⟨p, 1, none⟩ x1) :=
  (h.setCell (p := ⟨p, 0, none⟩) hp _).setCell (p := ⟨p, 1, none⟩) hp _
theorem frozen_new2 (V : World) (cs : Array Value) (t : TypeId) (j : Nat) : (V.alloc (.cells cs t)).frozen? ⟨V.heap.size, j, none⟩ = false := by
  unfold World.frozen?
  rw [show (V.alloc (.cells cs t)).heap[V.heap.size]? = some (.cells cs t) from (MapKept.heap_alloc V _).1]
  simp
theorem put4 {W : World} {p : Nat} {x0 x1 x2 x3 y0 y1 y2 y3 : Value} (h0 : W.cell? ⟨p, 0, none⟩ = some y0) (h1 : W.cell? ⟨p, 1, none⟩ = some y1) (h2 : W.cell? ⟨p, 2, none⟩ = some y2) (h3 : W.cell? ⟨p, 3, none⟩ = some y3) :
    (W.setCell ⟨p, 0, none⟩ x0).cell? ⟨p, 0, none⟩ = some x0 ∧ ((W.setCell ⟨p, 0, none⟩ x0).setCell ⟨p, 1, none⟩ x1).cell? ⟨p, 1, none⟩ = some x1 ∧
    (((W.setCell ⟨p, 0, none⟩ x0).setCell ⟨p, 1, none⟩ x1).setCell ⟨p, 2, none⟩ x2).cell? ⟨p, 2, none⟩ = some x2 ∧
    ((((W.setCell ⟨p, 0, none⟩ x0).setCell ⟨p, 1, none⟩ x1).setCell ⟨p, 2, none⟩ x2).setCell ⟨p, 3, none⟩ x3).cell? ⟨p, 3, none⟩ = some x3 := by
  have o : ∀ (V : World) (i j : Nat) (v : Value), i ≠ j → (V.setCell ⟨p, i, none⟩ v).cell? ⟨p, j, none⟩ = V.cell? ⟨p, j, none⟩ := fun V i j v hij => World.cell?_setCell_other _ _ _ _ (by intro e; cases e; exact hij rfl)
  refine ⟨World.cell?_setCell_same _ _ _ h0, World.cell?_setCell_same (u := y1) _ _ _ ?_, World.cell?_setCell_same (u := y2) _ _ _ ?_, World.cell?_setCell_same (u := y3) _ _ _ ?_⟩
  · rw [o _ _ _ _ (by decide)]; exact h1
  · rw [o _ _ _ _ (by decide), o _ _ _ _ (by decide)]; exact h2
  · rw [o _ _ _ _ (by decide), o _ _ _ _ (by decide), o _ _ _ _ (by decide)]; exact h3
theorem lay4 {w W : World} {p : Nat} {x0 x1 x2 x3 : Value} (h : Below w.heap.size w W) (hp : w.heap.size ≤ p) : Below w.heap.size w ((((W.setCell ⟨p, 0, none⟩ x0).setCell ⟨p, 1, none⟩ x1).setCell ⟨p, 2, none⟩ x2).setCell ⟨p, 3, none⟩ x3) :=
  (((h.setCell (p := ⟨p, 0, none⟩) hp _).setCell (p := ⟨p, 1, none⟩) hp _).setCell (p := ⟨p, 2, none⟩) hp _).setCell (p := ⟨p, 3, none⟩) hp _
theorem set6 {W : World} {p : Nat} {x0 x1 x2 x3 x4 x5 y0 y1 y2 y3 y4 y5 : Value} (h0 : W.cell? ⟨p, 0, none⟩ = some y0) (h1 : W.cell? ⟨p, 1, none⟩ = some y1) (h2 : W.cell? ⟨p, 2, none⟩ = some y2) (h3 : W.cell? ⟨p, 3, none⟩ = some y3) (h4 : W.cell? ⟨p, 4, none⟩ = some y4) (h5 : W.cell? ⟨p, 5, none⟩ = some y5) :
    (W.setCell ⟨p, 0, none⟩ x0).cell? ⟨p, 0, none⟩ = some x0 ∧ ((W.setCell ⟨p, 0, none⟩ x0).setCell ⟨p, 1, none⟩ x1).cell? ⟨p, 1, none⟩ = some x1 ∧
    (((W.setCell ⟨p, 0, none⟩ x0).setCell ⟨p, 1, none⟩ x1).setCell ⟨p, 2, none⟩ x2).cell? ⟨p, 2, none⟩ = some x2 ∧
    ((((W.setCell ⟨p, 0, none⟩ x0).setCell ⟨p, 1, none⟩ x1).setCell ⟨p, 2, none⟩ x2).setCell ⟨p, 3, none⟩ x3).cell? ⟨p, 3, none⟩ = some x3 ∧
    (((((W.setCell ⟨p, 0, none⟩ x0).setCell ⟨p, 1, none⟩ x1).setCell ⟨p, 2, none⟩ x2).setCell ⟨p, 3, none⟩ x3).setCell ⟨p, 4, none⟩ x4).cell? ⟨p, 4, none⟩ = some x4 ∧
    ((((((W.setCell ⟨p, 0, none⟩ x0).setCell ⟨p, 1, none⟩ x1).setCell ⟨p, 2, none⟩ x2).setCell ⟨p, 3, none⟩ x3).setCell ⟨p, 4, none⟩ x4).setCell ⟨p, 5, none⟩ x5).cell? ⟨p, 5, none⟩ = some x5 := by
  have o : ∀ (V : World) (i j : Nat) (v : Value), i ≠ j → (V.setCell ⟨p, i, none⟩ v).cell? ⟨p, j, none⟩ = V.cell? ⟨p, j, none⟩ := fun V i j v hij => World.cell?_setCell_other _ _ _ _ (by intro e; cases e; exact hij rfl)
  refine ⟨World.cell?_setCell_same _ _ _ h0, World.cell?_setCell_same (u := y1) _ _ _ ?_, World.cell?_setCell_same (u := y2) _ _ _ ?_, World.cell?_setCell_same (u := y3) _ _ _ ?_, World.cell?_setCell_same (u := y4) _ _ _ ?_, World.cell?_setCell_same (u := y5) _ _ _ ?_⟩
  · rw [o _ _ _ _ (by decide)]; exact h1
  · rw [o _ _ _ _ (by decide), o _ _ _ _ (by decide)]; exact h2
  · rw [o _ _ _ _ (by decide), o _ _ _ _ (by decide), o _ _ _ _ (by decide)]; exact h3
  · rw [o _ _ _ _ (by decide), o _ _ _ _ (by decide), o _ _ _ _ (by decide), o _ _ _ _ (by decide)]; exact h4
  · rw [o _ _ _ _ (by decide), o _ _ _ _ (by decide), o _ _ _ _ (by decide), o _ _ _ _ (by decide), o _ _ _ _ (by decide)]; exact h5
theorem below6 {w W : World} {p : Nat} {x0 x1 x2 x3 x4 x5 : Value} (h : Below w.heap.size w W) (hp : w.heap.size ≤ p) : Below w.heap.size w ((((((W.setCell ⟨p, 0, none⟩ x0).setCell ⟨p, 1, none⟩ x1).setCell ⟨p, 2, none⟩ x2).setCell ⟨p, 3, none⟩ x3).setCell ⟨p, 4, none⟩ x4).setCell ⟨p, 5, none⟩ x5) :=
  (((((h.setCell (p := ⟨p, 0, none⟩) hp _).setCell (p := ⟨p, 1, none⟩) hp _).setCell (p := ⟨p, 2, none⟩) hp _).setCell (p := ⟨p, 3, none⟩) hp _).setCell (p := ⟨p, 4, none⟩) hp _).setCell (p := ⟨p, 5, none⟩) hp _
/-- a new block, and what lies there as long as all is as it was -/
theorem new_kept {w w1 : World} {cs : Array Value} {t : TypeId} (e : w1 = w.alloc (.cells cs t)) {W : World} (hW : Below w1.heap.size w1 W) : (∀ j v, cs[j]? = some v → W.cell? ⟨w.heap.size, j, none⟩ = some v) ∧ ∀ j, W.frozen? ⟨w.heap.size, j, none⟩ = false := by
  have lt : w.heap.size < w1.heap.size := by rw [e]; simp
  refine ⟨fun j v hv => (hW.cell (p := ⟨w.heap.size, j, none⟩) lt).trans (by rw [e, World.cell?_alloc_new]; exact hv), fun j => ?_⟩
  have f := frozen_new2 w cs t j
  rw [← e] at f
  rw [← f]
  unfold World.frozen?
  rw [hW.block _ lt]

end Go.Proofs.YtpblpfleiilehafGreatDoor

namespace Go.Proofs.YtpblpfleiilehafGreatDoor
open Go.ChangeShapes Go.WideShapes Go.ChangeAt Go.RowKit
set_option linter.unusedVariables false

set_option maxHeartbeats 4000000 in
set_option maxRecDepth 10000 in
theorem rleaf_fair (a0 b0 : Option Addr) (ts : List M.Nd) (xs : List Int) (ca cb : Nat) (w : World) (ht : RdN w a0 ts) (hr : Rd w b0 xs) (F : M.Fair ts (xs.length : Int)) :
    Calls Tryz.prog 42 #[.slice a0 ts.length ca, .slice b0 xs.length cb] w fun e w' => ∃ v, e = .returned (.tuple #[.int .i64 (M.toD ts xs 0 : Nat), v]) ∧ Below w.heap.size w w' := by
  have hm : ts.length ≤ 9223372036854775807 := ht.1
  have hm2 : xs.length ≤ 9223372036854775807 := hr.1
  obtain ⟨o, ho⟩ : ∃ o, o = M.toD ts xs 0 := ⟨_, rfl⟩
  have EV : Hid (o = M.toD ts xs 0) := ho
  rw [← ho]
  have FN := hide F.2.2.2.2.1
  have l0 := F.2.1
  have l63 := F.1
  have HT := hide ht
  have HX := hide hr
  obtain ⟨i0, hi, hz0, hz1, hz2⟩ := info_parts info3
  have I0 := hide hi
  have O0 : Hid ((w.alloc (.cells #[.int .i64 0] 3)).ownsRow w.heap.size 3 1 (.slice (some ⟨w.heap.size, 0, none⟩) 1 1) 1 ([(0 : Int)].map (Value.int .i64))) := by
    have := World.ownsRow_lit (base := w.heap.size) (e := 3) (size := 1) w #[.int .i64 0] 1 (Nat.le_refl _) (by unfold maxLen; omega) (by simp)
    exact this
  clear F ht hr ho hi
  go_enter Tryz.func42, Tryz.ntmps42
  go_wp2
  go_loopw [6, 7] (fun i v wr => ∃ (k : Nat) (L : List Int), k < ts.length ∧ L.length ≤ k + 1 ∧ i = .int .i64 k ∧ wr.ownsRow w.heap.size 3 1 v L.length (L.map (Value.int .i64)) ∧ Below w.heap.size w wr ∧ Hid (M.toD ts xs k = M.toD ts xs 0)) (fun i _ _ => ts.length - (intOf i).toNat)
  case atStart => exact ⟨0, [0], l0, by simp, rfl, O0.out, (Below.refl _ w).alloc (Nat.le_refl _) _, rfl⟩
  case round =>
    clear O0
    obtain ⟨k, L, hlt, hL, rfl, hown, hbl, I⟩ := hrel
    obtain ⟨va, vc, rfl, RV, _⟩ := own_rd hown
    have HO := hide hown
    clear hown RV
    obtain ⟨b1, off, rfl, hb1, hc⟩ := HT.out.2 (by intro e; subst e; simp at hlt)
    obtain ⟨s0, s1, s2, s3, s4, s5⟩ := (hc k hlt).below hbl hb1
    have NS : Hid (∀ W, Below wr.heap.size wr W → SixAt W b1 (off + k * 6) (M.nAt ts k)) := fun W hW => (hc k hlt).below (below_on hbl hW) hb1
    by_cases hf : M.nf (M.nAt ts k) = -1
    · have q : (M.nf (M.nAt ts k) != -1) = false := by rw [bne_eq_false_iff_eq]; exact hf
      have E : Hid (k = o) := by unfold Hid; rw [EV.out, ← I.out, M.to_leaf hlt hf]
      clear hc hf NS
      generalize M.nf (M.nAt ts k) = f at *
      go_wp2
      go_ret2
      exact ⟨_, by rw [E.out]; rfl, hbl⟩
    · have q : (M.nf (M.nAt ts k) != -1) = true := by rw [bne_iff_ne]; exact hf
      have g0 := (M.node_ask (FN.out k hlt) hf).1
      have g1 := (M.node_ask (FN.out k hlt) hf).2.1
      obtain ⟨fi, hfi⟩ : ∃ fi : Nat, M.nf (M.nAt ts k) = fi := ⟨(M.nf (M.nAt ts k)).toNat, by omega⟩
      have hfl : fi < xs.length := by omega
      obtain ⟨bx, ox, rfl, hbx, hcx⟩ := HX.out.2 (by intro e; subst e; simp at hfl)
      have hx := (hbl.cell (p := ⟨bx, ox + fi, none⟩) hbx).trans (hcx fi hfl)
      have CL := hide (left_any (M.nAt ts k) (xs.getD fi 0))
      obtain ⟨j, ej, j1, j2⟩ := M.next_in FN.out xs hlt hf
      have N : Hid (M.toD ts xs j = M.toD ts xs 0) := by unfold Hid; rw [← M.to_next FN.out hlt hf ej]; exact I.out
      have NX : Hid ((if M.lessC (M.nAt ts k) (xs.getD fi 0) = true then M.nl (M.nAt ts k) else M.nr (M.nAt ts k)) = (j : Int)) := by
        unfold Hid; rw [← ej]; unfold M.nextI; rw [hfi, Int.toNat_natCast]
      rw [hfi] at s0 q
      unfold ndV at CL
      rw [hfi] at CL
      unfold SixAt at NS
      rw [hfi] at NS
      clear hc hf g0 g1 ej hcx hfi
      generalize M.lessC (M.nAt ts k) (xs.getD fi 0) = bb at *
      generalize xs.getD fi 0 = x at *
      generalize M.nc (M.nAt ts k) = c at *
      generalize M.nl (M.nAt ts k) = l at *
      generalize M.nr (M.nAt ts k) = r at *
      generalize M.ns (M.nAt ts k) = sl at *
      generalize M.nv (M.nAt ts k) = v at *
      go_upto_region 4 with fail
      go_cut [8] from 16 to 28 (fun u wx => u = .bool bb ∧ Hid (Below wr.heap.size wr wx))
      case first =>
        go_region_with (go_at_call 68; refine (CL.out _).mono ?_; rintro e w1 ⟨rfl, hb1⟩)
        all_goals go_wp2
        all_goals go_meet
        all_goals (case rel => exact ⟨rfl, (Below.refl wr.heap.size wr).drew.trans hb1⟩)
      case rest =>
        obtain ⟨rfl, K⟩ := hcut
        obtain ⟨z0, z1, z2, z3, z4, z5⟩ := NS.out wc K.out
        have k4 := below_on hbl K.out
        have kw4 := k4.size
        clear NS CL
        cases bb with
        | true =>
          have e : l = (j : Int) := by have := NX.out; simpa using this
          rw [e] at z2
          clear e NX
          go_wp2_with (at_builtin; refine wpList_append_lies _ rfl (.tmp 40) (.tmp 42) 42 rfl w.heap.size 3 i0 (.int .i64 0) 1 8 Tryz.underlying42 I0.out hz0 hz1 hz2 rfl (by omega) (.slice va L.length vc) L.length (L.map (Value.int .i64)) rfl ((own_up HO.out K.out).alloc _) ⟨wc.heap.size, 0, none⟩ 1 1 [.int .i64 (j : Int)] rfl rfl (World.news_of_block (heap_alloc_new _ _)) (by simp [Value.oneCell']) (by omega) (by unfold maxLen; omega) (by omega) (by simp; omega) (wc.heap.size + 1) (by simp) ?_)
          intro g cap w5 hov5 hgrow hat hlt5
          have hb5 : Below w.heap.size w w5 := (k4.alloc k4.size _).grown hgrow (by simp; omega) (fun k hk => (HO.out.lt k hk).1)
          have HO5 : Hid (w5.ownsRow w.heap.size 3 1 (.slice (some ⟨g, 0, none⟩) (L.length + 1) cap) (L ++ [(j : Int)]).length ((L ++ [(j : Int)]).map (Value.int .i64))) := by
            unfold Hid; rw [List.map_append, List.length_append]; exact hov5
          clear hov5 hgrow hat
          go_wp2
          go_roundw
          case rel => exact ⟨j, L ++ [(j : Int)], j2, by simp; omega, rfl, HO5.out, hb5, N⟩
          case measure => simp [intOf]; omega
        | false =>
          have e : r = (j : Int) := by have := NX.out; simpa using this
          rw [e] at z3
          clear e NX
          go_wp2_with (at_builtin; refine wpList_append_lies _ rfl (.tmp 40) (.tmp 42) 42 rfl w.heap.size 3 i0 (.int .i64 0) 1 8 Tryz.underlying42 I0.out hz0 hz1 hz2 rfl (by omega) (.slice va L.length vc) L.length (L.map (Value.int .i64)) rfl ((own_up HO.out K.out).alloc _) ⟨wc.heap.size, 0, none⟩ 1 1 [.int .i64 (j : Int)] rfl rfl (World.news_of_block (heap_alloc_new _ _)) (by simp [Value.oneCell']) (by omega) (by unfold maxLen; omega) (by omega) (by simp; omega) (wc.heap.size + 1) (by simp) ?_)
          intro g cap w5 hov5 hgrow hat hlt5
          have hb5 : Below w.heap.size w w5 := (k4.alloc k4.size _).grown hgrow (by simp; omega) (fun k hk => (HO.out.lt k hk).1)
          have HO5 : Hid (w5.ownsRow w.heap.size 3 1 (.slice (some ⟨g, 0, none⟩) (L.length + 1) cap) (L ++ [(j : Int)]).length ((L ++ [(j : Int)]).map (Value.int .i64))) := by
            unfold Hid; rw [List.map_append, List.length_append]; exact hov5
          clear hov5 hgrow hat
          go_wp2
          go_roundw
          case rel => exact ⟨j, L ++ [(j : Int)], j2, by simp; omega, rfl, HO5.out, hb5, N⟩
          case measure => simp [intOf]; omega

theorem M.to_lt {t : List M.Nd} {m : Int} (F : M.Fair t m) (r : List Int) : M.toD t r 0 < t.length := (M.way_mem F.2.2.2.2.1 r t.length 0 F.2.1 (by omega) _ (M.to_mem F.2.2.2.2.1 r t.length 0 F.2.1 (by omega))).2
set_option maxHeartbeats 1000000 in
theorem rvalue_fair (a0 b0 : Option Addr) (ts : List M.Nd) (xs : List Int) (ca cb : Nat) (w : World) (ht : RdN w a0 ts) (hr : Rd w b0 xs) (F : M.Fair ts (xs.length : Int)) :
    Calls Tryz.prog 36 #[.slice a0 ts.length ca, .slice b0 xs.length cb] w fun e w' => e = .returned (.int .i64 (M.nv (M.nAt ts (M.toD ts xs 0)))) ∧ Below w.heap.size w w' := by
  have l0 := F.2.1
  have lt := M.to_lt F xs
  have L := hide (rleaf_fair a0 b0 ts xs ca cb w ht hr F)
  obtain ⟨b1, off, rfl, hb1, hc⟩ := ht.2 (by intro e; rw [e] at l0; simp at l0)
  have HC : Hid (∀ W, Below w.heap.size w W → W.cell? ⟨b1, off + M.toD ts xs 0 * 6 + 5, none⟩ = some (.int .i64 (M.nv (M.nAt ts (M.toD ts xs 0))))) := fun W hW => ((hc _ lt).below hW hb1).2.2.2.2.2
  have lz : ((M.toD ts xs 0 : Nat) : Int) < (ts.length : Int) := by omega
  clear hc F ht hr
  generalize M.nv (M.nAt ts (M.toD ts xs 0)) = v at *
  generalize M.toD ts xs 0 = j at *
  go_enter Tryz.func36, Tryz.ntmps36
  go_wp2_with (go_at_call 42; refine L.out.mono ?_; rintro e w1 ⟨u, rfl, h1⟩; have c1 := HC.out _ h1; have k1 := hide h1; clear h1)
  go_ret
  exact ⟨rfl, k1.out⟩

end Go.Proofs.YtpblpfleiilehafGreatDoor
