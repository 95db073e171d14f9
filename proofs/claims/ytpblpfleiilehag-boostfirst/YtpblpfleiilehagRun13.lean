/-
  Several texts as one: BooMo, SaPart, GroMean.
-/
import Derived.Test.YtpblpfleiilehagRun12
import Derived.Test.YtpblpfleiilehagRun7
namespace Go.Proofs.Ytpblpfleiilehag
open Go.ChangeShapes Go.WideShapes Go.ChangeAt Go.RowKit Go.Lib
set_option linter.unusedVariables false

structure MO (w : World) (B : Nat) (x : Value) (D : List Tc) (W : World) : Prop where
  own : W.ownsRow B 35 1 x D.length (D.map tV)
  trees : ∀ i (h : i < D.length), W.ownsRow B 55 6 (tV D[i]) D[i].2.1.length (ndCells D[i].2.1)
  other : ∀ i (h : i < D.length), (tV D[i]).ownBlock ≠ none ∧ (tV D[i]).ownBlock ≠ x.ownBlock
  apart : ∀ i j (hi : i < D.length) (hj : j < D.length), i ≠ j → (tV D[i]).ownBlock ≠ (tV D[j]).ownBlock
  below : Below w.heap.size w W
  ge : w.heap.size ≤ B
theorem MO.up {w : World} {B : Nat} {x : Value} {D : List Tc} {W W' : World} (h : MO w B x D W) (hb : Below W.heap.size W W') : MO w B x D W' :=
  ⟨own_up h.own hb, fun i hi => own_up (h.trees i hi) hb, h.other, h.apart, below_on h.below hb, h.ge⟩
/-- the first of them, in a slice that is new -/
theorem MO.one {w W : World} {B : Nat} {t : Tc} {q : Nat} (hB : Below w.heap.size w W) (hg : w.heap.size ≤ B) (hW : B ≤ W.heap.size) (ht : W.ownsRow B 55 6 (tV t) t.2.1.length (ndCells t.2.1)) (hq : (tV t).ownBlock = some q) (ty : TypeId) (hty : ty = 35) :
    MO w B (.slice (some ⟨W.heap.size, 0, none⟩) 1 1) [t] (W.alloc (.cells #[tV t] ty)) := by
  subst hty
  have lq := (ht.lt q hq).2
  have e0 : ∀ i (h : i < [t].length), [t][i] = t := fun i h => by simp at h; subst h; rfl
  refine ⟨⟨rfl, .inr ⟨W.heap.size, 1, #[tV t], rfl, hW, (MapKept.heap_alloc W _).1, Nat.le_refl _, by unfold maxLen; omega, rfl, rfl⟩⟩, fun i hi => ?_, fun i hi => ?_, fun i j hi hj hij => ?_, below_on hB ((Below.refl _ W).alloc (Nat.le_refl _) _), hg⟩
  · rw [e0 i hi]; exact own_up ht ((Below.refl _ W).alloc (Nat.le_refl _) _)
  · rw [e0 i hi, hq]
    exact ⟨(fun e => by cases e), (fun e => by simp [Value.ownBlock] at e; omega)⟩
  · simp at hi hj; omega
/-- one tree more, laid behind those that are there -/
theorem MO.more {w : World} {B : Nat} {x : Value} {D : List Tc} {W : World} (h : MO w B x D W) {t : Tc} {q : Nat} (ht : W.ownsRow B 55 6 (tV t) t.2.1.length (ndCells t.2.1)) (hq : (tV t).ownBlock = some q) (hx : x.ownBlock ≠ some q) (ha : ∀ i (hi : i < D.length), (tV D[i]).ownBlock ≠ some q)
    {o : Obj} {w5 : World} {g cap : Nat} (hown : w5.ownsRow B 35 1 (.slice (some ⟨g, 0, none⟩) (D.length + 1) cap) (D.length + 1) (D.map tV ++ [tV t])) (hgrow : (W.alloc o).grownBy w5 x.ownBlock) (hat : x.ownBlock = some g ∨ g = W.heap.size + 1) :
    MO w B (.slice (some ⟨g, 0, none⟩) (D.length + 1) cap) (D ++ [t]) w5 := by
  have hgr : W.grownBy w5 x.ownBlock := grown_trans (World.grownBy_alloc W o x.ownBlock) hgrow (.inl rfl)
  have ob : (Value.slice (some ⟨g, 0, none⟩) (D.length + 1) cap).ownBlock = some g := rfl
  have fresh : ∀ {v : Value} {n : Nat} {l : List Value}, W.ownsRow B 55 6 v n l → v.ownBlock ≠ x.ownBlock → v.ownBlock ≠ some g := fun {v n l} hv h1 e => by
    rcases hat with q1 | q1
    · exact h1 (e.trans q1.symm)
    · have := (hv.lt g e).2; omega
  have len : (D ++ [t]).length = D.length + 1 := by simp
  refine ⟨?_, ?_, ?_, ?_, h.below.grown hgr h.below.size (fun k hk => by have := (h.own.lt k hk).1; have := h.ge; omega), h.ge⟩
  · rw [len, List.map_append]; exact hown
  · intro i hi
    by_cases c : i < D.length
    · rw [show (D ++ [t])[i] = D[i] from List.getElem_append_left c]
      exact (h.trees i c).kept hgr (.inr (h.other i c).2)
    · have ei : i = D.length := by rw [len] at hi; omega
      subst ei
      rw [show (D ++ [t])[D.length]'hi = t by simp]
      exact ht.kept hgr (.inr fun e => hx (e.symm.trans hq))
  · intro i hi
    rw [ob]
    by_cases c : i < D.length
    · rw [show (D ++ [t])[i] = D[i] from List.getElem_append_left c]
      exact ⟨(h.other i c).1, fresh (h.trees i c) (h.other i c).2⟩
    · have ei : i = D.length := by rw [len] at hi; omega
      subst ei
      rw [show (D ++ [t])[D.length]'hi = t by simp]
      exact ⟨own_ne_none hq, fresh ht (fun e => hx (e.symm.trans hq))⟩
  · intro i j hi hj hij
    rw [len] at hi hj
    by_cases c : i < D.length
    · by_cases d : j < D.length
      · rw [show (D ++ [t])[i] = D[i] from List.getElem_append_left c, show (D ++ [t])[j] = D[j] from List.getElem_append_left d]
        exact h.apart i j c d hij
      · have ej : j = D.length := by omega
        subst ej
        rw [show (D ++ [t])[i] = D[i] from List.getElem_append_left c, show (D ++ [t])[D.length]'(by rw [len]; omega) = t by simp, hq]
        exact ha i c
    · have ei : i = D.length := by omega
      subst ei
      have d : j < D.length := by omega
      rw [show (D ++ [t])[j] = D[j] from List.getElem_append_left d, show (D ++ [t])[D.length]'(by rw [len]; omega) = t by simp, hq]
      exact fun e => ha j d e.symm
theorem MO.tree {w : World} {B : Nat} {x : Value} {D : List Tc} {W : World} (h : MO w B x D W) (i : Nat) (hi : i < D.length) : ∃ q cap, D[i].1 = some ⟨q, 0, none⟩ ∧ D[i].2.2 = cap ∧ B ≤ q ∧ q < W.heap.size ∧ (tV D[i]).ownBlock = some q := by
  have t := h.trees i hi
  have o := (h.other i hi).1
  rcases t.2 with ⟨h0, _⟩ | ⟨q, cap, cur, hv, hb, hg, _⟩
  · rw [h0] at o; exact absurd rfl o
  · have hv' := hv
    unfold tV at hv'
    rw [Value.slice.injEq] at hv'
    exact ⟨q, cap, hv'.1, hv'.2.2, hb, (Array.getElem?_eq_some_iff.1 hg).1, by rw [hv]; rfl⟩
theorem MO.turn {w : World} {B : Nat} {x : Value} {D : List Tc} {W : World} (h : MO w B x D W) (i : Nat) (hi : i < D.length) {q k : Nat} (hq : (tV D[i]).ownBlock = some q) {v : Int} {ts : List M.Nd} (he : (ndCells D[i].2.1).set (k * 6 + 5) (.int .i64 v) = ndCells ts) (hl : ts.length = D[i].2.1.length) :
    MO w B x (D.set i (D[i].1, ts, D[i].2.2)) (W.setCell ⟨q, k * 6 + 5, none⟩ (.int .i64 v)) := by
  have t := h.trees i hi
  have lq := t.lt q hq
  have tv : tV (D[i].1, ts, D[i].2.2) = tV D[i] := by unfold tV; rw [hl]
  refine ⟨?_, ?_, ?_, ?_, h.below.setCell (p := ⟨q, k * 6 + 5, none⟩) (by have := h.ge; show w.heap.size ≤ q; omega) _, h.ge⟩
  · have e : (D.set i (D[i].1, ts, D[i].2.2)).map tV = D.map tV := by
      rw [List.map_set, tv]
      refine List.ext_getElem (by simp) fun j h1 h2 => ?_
      by_cases e : i = j
      · subst e; simp
      · rw [List.getElem_set_ne e]
    rw [e, List.length_set]
    exact keep_row h.own (fun e => (h.other i hi).2 (by rw [hq, e]))
  · intro j hj
    rw [List.length_set] at hj
    by_cases e : i = j
    · subst e
      rw [List.getElem_set_self, tv]
      obtain ⟨q', cap, e1, e2, _, _, e5⟩ := h.tree i hj
      have eq : q' = q := by rw [hq] at e5; cases e5; rfl
      subst eq
      have tv2 : tV D[i] = .slice (some ⟨q', 0, none⟩) D[i].2.1.length D[i].2.2 := by unfold tV; rw [e1]
      rw [tv2] at t ⊢
      have st := (t.stored (k * 6 + 5) (.int .i64 v)).1
      rw [he, ← hl] at st
      rw [← hl]
      exact st
    · rw [List.getElem_set_ne e]
      exact keep_row (h.trees j hj) (fun z => h.apart i j hi hj e (by rw [hq, z]))
  · intro j hj
    rw [List.length_set] at hj
    by_cases e : i = j
    · subst e; rw [List.getElem_set_self, tv]; exact h.other i hj
    · rw [List.getElem_set_ne e]; exact h.other j hj
  · intro a b ha hb hab
    rw [List.length_set] at ha hb
    have g : ∀ j (hj : j < D.length), tV ((D.set i (D[i].1, ts, D[i].2.2))[j]'(by rw [List.length_set]; exact hj)) = tV D[j] := fun j hj => by
      by_cases e : i = j
      · subst e; rw [List.getElem_set_self, tv]
      · rw [List.getElem_set_ne e]
    rw [g a ha, g b hb]
    exact h.apart a b ha hb hab
/-- something else grows, or is written -/
theorem MO.keep {w : World} {B : Nat} {x : Value} {D : List Tc} {W W' : World} {r : Option Nat} (h : MO w B x D W) (hg : W.grownBy W' r) (hr : ∀ q, r = some q → w.heap.size ≤ q ∧ x.ownBlock ≠ some q ∧ ∀ i (hi : i < D.length), (tV D[i]).ownBlock ≠ some q) : MO w B x D W' := by
  have kt : ∀ {e size n : Nat} {v : Value} {l : List Value}, W.ownsRow B e size v n l → (∀ q, r = some q → v.ownBlock ≠ some q) → W'.ownsRow B e size v n l := fun {e size n v l} hv h1 => by
    refine hv.kept hg ?_
    cases hv2 : v.ownBlock with
    | none => exact .inl rfl
    | some b => exact .inr (fun z => h1 b z.symm hv2)
  exact ⟨kt h.own (fun q hq => (hr q hq).2.1), fun i hi => kt (h.trees i hi) (fun q hq => (hr q hq).2.2 i hi), h.other, h.apart, h.below.grown hg h.below.size (fun k hk => (hr k hk).1), h.ge⟩

/-! ### a grove of them, while it is laid -/
structure MW (w : World) (B rb : Nat) (m : Int) (y x : Value) (D : List Tc) (n : Nat) (W : World) : Prop where
  mo : MO w B x D W
  c0 : W.cell? ⟨rb + 1, 0, none⟩ = some (.int .i64 m)
  c1 : W.cell? ⟨rb + 1, 1, none⟩ = some (.int .i64 2)
  c2 : W.cell? ⟨rb + 1, 2, none⟩ = some y
  c3 : W.cell? ⟨rb + 1, 3, none⟩ = some x
  fr : ∀ i, W.frozen? ⟨rb + 1, i, none⟩ = false
  r0 : ∃ v, W.cell? ⟨rb, 0, none⟩ = some v
  r1 : ∃ v, W.cell? ⟨rb, 1, none⟩ = some v
  r2 : ∃ v, W.cell? ⟨rb, 2, none⟩ = some v
  r3 : ∃ v, W.cell? ⟨rb, 3, none⟩ = some v
  rf : ∀ i, W.frozen? ⟨rb, i, none⟩ = false
  lt : rb + 1 < W.heap.size
  ge : w.heap.size ≤ rb
  gx : ∀ q, x.ownBlock = some q → q < rb
  gt : ∀ i (hi : i < D.length) q, (tV D[i]).ownBlock = some q → q < rb
  wo : W.ownsRow (rb + 1 + 1) 3 1 y n ((List.replicate n (1 : Int)).map (Value.int .i64))
theorem MW.up {w : World} {B rb : Nat} {m : Int} {y x : Value} {D : List Tc} {n : Nat} {W W' : World} (h : MW w B rb m y x D n W) (hb : Below W.heap.size W W') : MW w B rb m y x D n W' := by
  have l0 : rb < W.heap.size := by have := h.lt; omega
  have k : ∀ i, W'.cell? ⟨rb, i, none⟩ = W.cell? ⟨rb, i, none⟩ := fun i => hb.cell (p := ⟨rb, i, none⟩) l0
  have k1 : ∀ i, W'.cell? ⟨rb + 1, i, none⟩ = W.cell? ⟨rb + 1, i, none⟩ := fun i => hb.cell (p := ⟨rb + 1, i, none⟩) h.lt
  exact ⟨h.mo.up hb, (k1 0).trans h.c0, (k1 1).trans h.c1, (k1 2).trans h.c2, (k1 3).trans h.c3, fun i => (hb.frozen (p := ⟨rb + 1, i, none⟩) h.lt).trans (h.fr i), by rw [k]; exact h.r0, by rw [k]; exact h.r1, by rw [k]; exact h.r2, by rw [k]; exact h.r3, fun i => (hb.frozen (p := ⟨rb, i, none⟩) l0).trans (h.rf i), Nat.lt_of_lt_of_le h.lt hb.size, h.ge, h.gx, h.gt, own_up h.wo hb⟩
theorem MW.turn {w : World} {B rb : Nat} {m : Int} {y x : Value} {D : List Tc} {n : Nat} {W : World} (h : MW w B rb m y x D n W) (i : Nat) (hi : i < D.length) {q k : Nat} (hq : (tV D[i]).ownBlock = some q) {v : Int} {ts : List M.Nd} (he : (ndCells D[i].2.1).set (k * 6 + 5) (.int .i64 v) = ndCells ts) (hl : ts.length = D[i].2.1.length) :
    MW w B rb m y x (D.set i (D[i].1, ts, D[i].2.2)) n (W.setCell ⟨q, k * 6 + 5, none⟩ (.int .i64 v)) := by
  have lq := h.gt i hi q hq
  have tv : tV (D[i].1, ts, D[i].2.2) = tV D[i] := by unfold tV; rw [hl]
  have o : ∀ (b j : Nat), b ≠ q → (W.setCell ⟨q, k * 6 + 5, none⟩ (.int .i64 v)).cell? ⟨b, j, none⟩ = W.cell? ⟨b, j, none⟩ := fun b j hb => World.cell?_setCell_other _ _ _ _ (by intro e; cases e; exact hb rfl)
  have f : ∀ (b j : Nat), (W.setCell ⟨q, k * 6 + 5, none⟩ (.int .i64 v)).frozen? ⟨b, j, none⟩ = W.frozen? ⟨b, j, none⟩ := fun b j => by simp
  have n1 : rb + 1 ≠ q := by omega
  have n0 : rb ≠ q := by omega
  refine ⟨h.mo.turn i hi hq he hl, (o _ 0 n1).trans h.c0, (o _ 1 n1).trans h.c1, (o _ 2 n1).trans h.c2, (o _ 3 n1).trans h.c3, fun j => (f _ j).trans (h.fr j), by rw [o _ _ n0]; exact h.r0, by rw [o _ _ n0]; exact h.r1, by rw [o _ _ n0]; exact h.r2, by rw [o _ _ n0]; exact h.r3, fun j => (f _ j).trans (h.rf j), by simpa using h.lt, h.ge, h.gx, fun j hj p hp => ?_, keep_row h.wo (fun e => by have := (h.wo.lt q e).1; omega)⟩
  rw [List.length_set] at hj
  by_cases e : i = j
  · subst e; rw [List.getElem_set_self, tv] at hp; exact h.gt i hj p hp
  · rw [List.getElem_set_ne e] at hp; exact h.gt j hj p hp
/-- one weight more, and the slice stored -/
theorem MW.more {w : World} {B rb : Nat} {m : Int} {y x : Value} {D : List Tc} {n : Nat} {W : World} (h : MW w B rb m y x D n W) {o : Obj} {w5 : World} {g cap : Nat}
    (hown : w5.ownsRow (rb + 1 + 1) 3 1 (.slice (some ⟨g, 0, none⟩) (n + 1) cap) (n + 1) ((List.replicate n (1 : Int)).map (Value.int .i64) ++ [.int .i64 1])) (hgrow : (W.alloc o).grownBy w5 y.ownBlock) :
    (w5.cell? ⟨rb + 1, 2, none⟩ = some y ∧ w5.frozen? ⟨rb + 1, 2, none⟩ = false) ∧ MW w B rb m (.slice (some ⟨g, 0, none⟩) (n + 1) cap) x D (n + 1) (w5.setCell ⟨rb + 1, 2, none⟩ (.slice (some ⟨g, 0, none⟩) (n + 1) cap)) := by
  have hgr : W.grownBy w5 y.ownBlock := grown_trans (World.grownBy_alloc W o y.ownBlock) hgrow (.inl rfl)
  have yb : ∀ q, y.ownBlock = some q → rb + 1 + 1 ≤ q := fun q e => (h.wo.lt q e).1
  have l0 : rb < W.heap.size := by have := h.lt; omega
  have cf : ∀ i, w5.cell? ⟨rb + 1, i, none⟩ = W.cell? ⟨rb + 1, i, none⟩ := fun i => hgr.cell_far ⟨rb + 1, i, none⟩ h.lt (fun e => by have := yb _ e.symm; simp at this; omega)
  have ff : ∀ i, w5.frozen? ⟨rb + 1, i, none⟩ = W.frozen? ⟨rb + 1, i, none⟩ := fun i => hgr.frozen_far ⟨rb + 1, i, none⟩ h.lt (fun e => by have := yb _ e.symm; simp at this; omega)
  have cr : ∀ i, w5.cell? ⟨rb, i, none⟩ = W.cell? ⟨rb, i, none⟩ := fun i => hgr.cell_far ⟨rb, i, none⟩ l0 (fun e => by have := yb _ e.symm; simp at this; omega)
  have fr : ∀ i, w5.frozen? ⟨rb, i, none⟩ = W.frozen? ⟨rb, i, none⟩ := fun i => hgr.frozen_far ⟨rb, i, none⟩ l0 (fun e => by have := yb _ e.symm; simp at this; omega)
  have gp : rb + 1 + 1 ≤ g := (hown.lt g rfl).1
  have ob : (Value.slice (some ⟨g, 0, none⟩) (n + 1) cap).ownBlock = some g := rfl
  have m5 : MO w B x D w5 := h.mo.keep hgr (fun q hq => by
    have := yb q hq
    have := h.ge
    exact ⟨by omega, fun e => by have := h.gx q e; omega, fun i hi e => by have := h.gt i hi q e; omega⟩)
  have m6 : MO w B x D (w5.setCell ⟨rb + 1, 2, none⟩ (.slice (some ⟨g, 0, none⟩) (n + 1) cap)) := m5.keep grown_set (fun q hq => by
    cases hq
    have := h.ge
    exact ⟨by omega, fun e => by have := h.gx _ e; omega, fun i hi e => by have := h.gt i hi _ e; omega⟩)
  have s : ∀ (j : Nat), (w5.setCell ⟨rb + 1, 2, none⟩ (.slice (some ⟨g, 0, none⟩) (n + 1) cap)).cell? ⟨rb, j, none⟩ = W.cell? ⟨rb, j, none⟩ := fun j => (World.cell?_setCell_other _ _ _ _ (by intro e; cases e)).trans (cr j)
  refine ⟨⟨(cf 2).trans h.c2, (ff 2).trans (h.fr 2)⟩, ⟨m6, ?_, ?_, ?_, ?_, ?_, by rw [s]; exact h.r0, by rw [s]; exact h.r1, by rw [s]; exact h.r2, by rw [s]; exact h.r3, ?_, ?_, h.ge, h.gx, h.gt, ?_⟩⟩
  · rw [World.cell?_setCell_other _ _ _ _ (by intro e; cases e)]; exact (cf 0).trans h.c0
  · rw [World.cell?_setCell_other _ _ _ _ (by intro e; cases e)]; exact (cf 1).trans h.c1
  · exact World.cell?_setCell_same (u := y) _ _ _ ((cf 2).trans h.c2)
  · rw [World.cell?_setCell_other _ _ _ _ (by intro e; cases e)]; exact (cf 3).trans h.c3
  · intro i; simpa using (ff i).trans (h.fr i)
  · intro i; simpa using (fr i).trans (h.rf i)
  · have := hgr.size; have := h.lt; simp; omega
  · rw [List.replicate_succ', List.map_append]
    exact keep_row hown (fun e => by rw [ob] at e; cases e; omega)
/-- what is handed out, written -/
theorem MW.put {w : World} {B rb : Nat} {m : Int} {y x : Value} {D : List Tc} {n : Nat} {W : World} (h : MW w B rb m y x D n W) (j : Nat) (v : Value) : MO w B x D (W.setCell ⟨rb, j, none⟩ v) ∧ (W.setCell ⟨rb, j, none⟩ v).ownsRow (rb + 1 + 1) 3 1 y n ((List.replicate n (1 : Int)).map (Value.int .i64)) :=
  ⟨h.mo.keep grown_set (fun q hq => by
    cases hq
    have := h.ge
    exact ⟨by omega, fun e => by have := h.gx _ e; omega, fun i hi e => by have := h.gt i hi _ e; omega⟩), keep_row h.wo (fun e => by have := (h.wo.lt _ e).1; omega)⟩
theorem MW.puts {w : World} {B rb : Nat} {m : Int} {y x : Value} {D : List Tc} {n : Nat} {W : World} (h : MW w B rb m y x D n W) (v0 v1 v2 v3 : Value) : MO w B x D ((((W.setCell ⟨rb, 0, none⟩ v0).setCell ⟨rb, 1, none⟩ v1).setCell ⟨rb, 2, none⟩ v2).setCell ⟨rb, 3, none⟩ v3) ∧ ((((W.setCell ⟨rb, 0, none⟩ v0).setCell ⟨rb, 1, none⟩ v1).setCell ⟨rb, 2, none⟩ v2).setCell ⟨rb, 3, none⟩ v3).ownsRow (rb + 1 + 1) 3 1 y n ((List.replicate n (1 : Int)).map (Value.int .i64)) := by
  have st : ∀ (V : World) (j : Nat) (v : Value), MO w B x D V ∧ V.ownsRow (rb + 1 + 1) 3 1 y n ((List.replicate n (1 : Int)).map (Value.int .i64)) → MO w B x D (V.setCell ⟨rb, j, none⟩ v) ∧ (V.setCell ⟨rb, j, none⟩ v).ownsRow (rb + 1 + 1) 3 1 y n ((List.replicate n (1 : Int)).map (Value.int .i64)) := fun V j v hV =>
    ⟨hV.1.keep grown_set (fun q hq => by
      cases hq
      have := h.ge
      exact ⟨by omega, fun e => by have := h.gx _ e; omega, fun i hi e => by have := h.gt i hi _ e; omega⟩), keep_row hV.2 (fun e => by have := (h.wo.lt _ e).1; omega)⟩
  exact st _ _ _ (st _ _ _ (st _ _ _ (st _ _ _ ⟨h.mo, h.wo⟩)))
theorem mo_new {w w' : World} {B rb : Nat} {m : Int} {y x : Value} {D : List Tc} {n : Nat} (h : MO w B x D w') (ho : w'.ownsRow (rb + 1 + 1) 3 1 y n ((List.replicate n (1 : Int)).map (Value.int .i64))) (hg : w.heap.size ≤ rb) (hn : n ≤ 1000) (hD : D.length ≤ 1000) (hT : ∀ t ∈ D, t.2.1.length ≤ 1000) : ∃ wa wc ta tc, y = .slice wa n wc ∧ x = .slice ta D.length tc ∧ NewG w w' ⟨m, 2, wa, List.replicate n 1, wc, ta, D, tc⟩ := by
  obtain ⟨wa, wc, ey⟩ := own_any ho
  obtain ⟨ta, tc, ex⟩ := own_any h.own
  have hB := h.ge
  refine ⟨wa, wc, ta, tc, ey, ex, fun W'' hs hc => ⟨⟨by rw [List.length_replicate]; unfold maxLen; omega, fun hne => ?_⟩, ⟨by unfold maxLen; show D.length ≤ _; omega, fun t ht => ?_, fun hne => ?_⟩⟩⟩
  · rcases own_far ho (by omega) hs hc with ⟨_, h0⟩ | ⟨g, cap, ev, hl, hc2⟩
    · subst h0; exact absurd rfl hne
    · rw [ey, Value.slice.injEq] at ev
      refine ⟨g, 0, ev.1, hl, fun i hi => ?_⟩
      rw [List.length_replicate] at hi
      rw [Nat.zero_add, hc2 i (by omega)]
      simp [hi]
  · obtain ⟨j, hj, rfl⟩ := List.getElem_of_mem ht
    have tl := hT _ ht
    refine ⟨by unfold maxLen; omega, fun hne => ?_⟩
    rcases own_far (h.trees j hj) hB hs hc with ⟨_, h0⟩ | ⟨g, cap, ev, hl, hc2⟩
    · exact absurd (List.length_eq_zero_iff.1 h0) hne
    · unfold tV at ev
      rw [Value.slice.injEq] at ev
      refine ⟨g, 0, ev.1, hl, fun i hi => ?_⟩
      have hi' : i < D[j].2.1.length := hi
      obtain ⟨q0, q1, q2, q3, q4, q5⟩ := ndCells_at _ i hi'
      rw [Nat.zero_add]
      exact ⟨(hc2 _ (by omega)).trans q0, (hc2 _ (by omega)).trans q1, (hc2 _ (by omega)).trans q2, (hc2 _ (by omega)).trans q3, (hc2 _ (by omega)).trans q4, (hc2 _ (by omega)).trans q5⟩
  · rcases own_far h.own hB hs hc with ⟨_, h0⟩ | ⟨g, cap, ev, hl, hc2⟩
    · exact absurd (List.length_eq_zero_iff.1 h0) hne
    · rw [ex, Value.slice.injEq] at ev
      refine ⟨g, 0, ev.1, hl, fun i hi => ?_⟩
      have hi' : i < D.length := hi
      rw [Nat.zero_add, hc2 i (by omega), List.getElem?_map, List.getElem?_eq_getElem hi']
      rfl

end Go.Proofs.Ytpblpfleiilehag

namespace Go.Proofs.Ytpblpfleiilehag
open Go.ChangeShapes Go.WideShapes Go.ChangeAt Go.RowKit Go.Lib
set_option linter.unusedVariables false

theorem M.part_more (l : List M.Sa) (f : Nat) (c : Int) (b : Bool) {k : Nat} (hk : k < l.length) : M.partS (l.take (k + 1)) f c b = if (decide (M.colA (M.sAt l k) f < c) == b) = true then M.partS (l.take k) f c b ++ [M.sAt l k] else M.partS (l.take k) f c b := by
  have e : M.sAt l k = l[k] := by unfold M.sAt; rw [M.getD_at hk]
  unfold M.partS
  rw [List.take_succ_eq_append_getElem hk, List.filter_append, e]
  by_cases q : (decide (M.colA l[k] f < c) == b) = true
  · rw [if_pos q, List.filter_cons_of_pos (by exact q)]; rfl
  · rw [if_neg q, List.filter_cons_of_neg (by exact q)]; simp
theorem M.sum_more (l : List M.Sa) (f : Nat) (c : Int) (b : Bool) {k : Nat} (hk : k < l.length) : M.sumT (M.partS (l.take (k + 1)) f c b) = (if (decide (M.colA (M.sAt l k) f < c) == b) = true then M.sumT (M.partS (l.take k) f c b) + (M.sAt l k).2 else M.sumT (M.partS (l.take k) f c b)) ∧ (M.partS (l.take (k + 1)) f c b).length = (if (decide (M.colA (M.sAt l k) f < c) == b) = true then (M.partS (l.take k) f c b).length + 1 else (M.partS (l.take k) f c b).length) := by
  rw [M.part_more l f c b hk]
  split
  · refine ⟨?_, by simp⟩
    rw [M.sumT_app]
    show _ + ((M.sAt l k).2 + 0) = _
    omega
  · exact ⟨rfl, rfl⟩

/-- samples that may be asked for a feature -/
structure Ask (xs : List Sx) (m : Nat) : Prop where
  le : xs.length ≤ 60
  row : ∀ x ∈ xs, x.2.1.length = m
  tgt : ∀ x ∈ xs, -1000 ≤ x.2.2.2 ∧ x.2.2.2 ≤ 1000
theorem Ask.of {xs : List Sx} {m : Nat} (h : M.GoodS (sms xs) m) : Ask xs m :=
  ⟨by have := h.le; rw [sms_len] at this; exact this, fun x hx => (h.each (sm x) (List.mem_map.2 ⟨x, hx, rfl⟩)).2.1, fun x hx => (h.each (sm x) (List.mem_map.2 ⟨x, hx, rfl⟩)).2.2.1⟩
theorem Ask.in {xs : List Sx} {m : Nat} (h : Ask xs m) (f : Nat) (c : Int) (b : Bool) (k : Nat) : -60000 ≤ M.sumT (M.partS ((sms xs).take k) f c b) ∧ M.sumT (M.partS ((sms xs).take k) f c b) ≤ 60000 ∧ (M.partS ((sms xs).take k) f c b).length ≤ 60 := by
  have l1 : (M.partS ((sms xs).take k) f c b).length ≤ 60 := by
    refine Nat.le_trans (List.length_filter_le _ _) ?_
    rw [List.length_take, sms_len]
    have := h.le
    omega
  have := M.sum_in (l := M.partS ((sms xs).take k) f c b) fun s hs => by
    have h1 := List.mem_of_mem_take (List.mem_filter.1 hs).1
    obtain ⟨x, hx, rfl⟩ := List.mem_map.1 h1
    exact h.tgt x hx
  omega

/-- the samples of one side, where their rows lie -/
def partX (xs : List Sx) (f : Nat) (c : Int) (b : Bool) : List Sx := xs.filter fun x => decide (x.2.1.getD f 0 < c) == b
theorem partX_sms (xs : List Sx) (f : Nat) (c : Int) (b : Bool) : sms (partX xs f c b) = M.partS (sms xs) f c b := by
  unfold sms partX M.partS
  rw [List.filter_map]
  rfl
theorem partX_more (xs : List Sx) (f : Nat) (c : Int) (b : Bool) {k : Nat} (hk : k < xs.length) : partX (xs.take (k + 1)) f c b = if (decide (xs[k].2.1.getD f 0 < c) == b) = true then partX (xs.take k) f c b ++ [xs[k]] else partX (xs.take k) f c b := by
  unfold partX
  rw [List.take_succ_eq_append_getElem hk, List.filter_append]
  by_cases q : (decide (xs[k].2.1.getD f 0 < c) == b) = true
  · rw [if_pos q, List.filter_cons_of_pos (by exact q)]; rfl
  · rw [if_neg q, List.filter_cons_of_neg (by exact q)]; simp
theorem partX_mem {xs : List Sx} {f : Nat} {c : Int} {b : Bool} {x : Sx} (h : x ∈ partX xs f c b) : x ∈ xs := (List.mem_filter.1 h).1
theorem Ask.part {xs : List Sx} {m : Nat} (h : Ask xs m) (f : Nat) (c : Int) (b : Bool) : Ask (partX xs f c b) m :=
  ⟨Nat.le_trans (List.length_filter_le _ _) h.le, fun x hx => h.row x (partX_mem hx), fun x hx => h.tgt x (partX_mem hx)⟩

theorem wrap_in5 (x : Int) (h1 : -9223372036854775808 ≤ x) (h2 : x ≤ 9223372036854775807) : IntKind.i64.wrap x = x := by
  simp [IntKind.wrap, IntKind.bits, IntKind.signed]
  split <;> omega
theorem M.sqR_in {s B : Int} (h1 : -B ≤ s) (h2 : s ≤ B) : 0 ≤ s * s ∧ s * s ≤ B * B := by
  by_cases h : 0 ≤ s
  · exact ⟨Int.mul_nonneg h h, Int.mul_le_mul h2 h2 h (by omega)⟩
  · have e : s * s = (-s) * (-s) := by grind
    rw [e]
    exact ⟨Int.mul_nonneg (by omega) (by omega), Int.mul_le_mul (by omega) (by omega) (by omega) (by omega)⟩
theorem M.mulp_in {a b A B : Int} (h1 : 0 ≤ a) (h2 : a ≤ A) (h3 : 0 ≤ b) (h4 : b ≤ B) : 0 ≤ a * b ∧ a * b ≤ A * B := ⟨Int.mul_nonneg h1 h3, Int.mul_le_mul h2 h4 h3 (by omega)⟩
theorem Ask.two {xs : List Sx} {m : Nat} (h : Ask xs m) (f : Nat) (c : Int) (b : Bool) : -60000 ≤ M.tB (sms xs) f c b ∧ M.tB (sms xs) f c b ≤ 60000 ∧ 0 ≤ M.nB (sms xs) f c b ∧ M.nB (sms xs) f c b ≤ 60 := by
  have := h.in f c b xs.length
  rw [← sms_len xs, List.take_length] at this
  unfold M.tB M.nB
  omega
theorem Ask.all {xs : List Sx} {m : Nat} (h : Ask xs m) (k : Nat) : -60000 ≤ M.sumT ((sms xs).take k) ∧ M.sumT ((sms xs).take k) ≤ 60000 := by
  have l1 : ((sms xs).take k).length ≤ 60 := by
    rw [List.length_take, sms_len]
    have := h.le
    omega
  have := M.sum_in (l := (sms xs).take k) fun s hs => by
    obtain ⟨x, hx, rfl⟩ := List.mem_map.1 (List.mem_of_mem_take hs)
    exact h.tgt x hx
  omega
theorem Ask.ud {xs : List Sx} {m : Nat} (h : Ask xs m) (f : Nat) (c : Int) : (0 ≤ M.spU (sms xs) f c ∧ M.spU (sms xs) f c ≤ 432000000000) ∧ (0 ≤ M.spD (sms xs) f c ∧ M.spD (sms xs) f c ≤ 3600) := by
  obtain ⟨a1, a2, a3, a4⟩ := h.two f c true
  obtain ⟨b1, b2, b3, b4⟩ := h.two f c false
  have s1 := M.sqR_in a1 a2
  have s2 := M.sqR_in b1 b2
  have u1 := M.mulp_in s1.1 s1.2 b3 b4
  have u2 := M.mulp_in s2.1 s2.2 a3 a4
  have d := M.mulp_in a3 a4 b3 b4
  unfold M.spU M.spD
  omega
theorem Ask.st {xs : List Sx} {m : Nat} (h : Ask xs m) (least : Int) : (0 ≤ (M.sp0 (sms xs)).1 ∧ (M.sp0 (sms xs)).1 ≤ 432000000000) ∧ (0 ≤ (M.sp0 (sms xs)).2.1 ∧ (M.sp0 (sms xs)).2.1 ≤ 3600) := by
  have := h.all xs.length
  rw [← sms_len xs, List.take_length] at this
  have s := M.sqR_in this.1 this.2
  have := h.le
  have e : (M.sp0 (sms xs)).2.1 = (xs.length : Nat) := by show (((sms xs).length : Nat) : Int) = _; rw [sms_len]
  rw [e]
  refine ⟨⟨s.1, ?_⟩, by omega, by omega⟩
  show M.sumT (sms xs) * M.sumT (sms xs) ≤ _
  omega
def StIn (st : M.SpS) : Prop := (0 ≤ st.1 ∧ st.1 ≤ 432000000000) ∧ (0 ≤ st.2.1 ∧ st.2.1 ≤ 3600)
theorem Ask.step {xs : List Sx} {m : Nat} (h : Ask xs m) (least : Int) {st : M.SpS} (hs : StIn st) (f : Nat) (c : Int) : StIn (M.spN (sms xs) least st f c) := by
  unfold M.spN
  split
  · split
    · exact h.ud f c
    · exact hs
  · exact hs
theorem Ask.inner {xs : List Sx} {m : Nat} (h : Ask xs m) (least : Int) {st : M.SpS} (hs : StIn st) (f : Nat) : ∀ k, StIn (M.spI (sms xs) least f st k)
  | 0 => hs
  | k + 1 => h.step least (h.inner least hs f k) f _
theorem Ask.outer {xs : List Sx} {m : Nat} (h : Ask xs m) (least : Int) : ∀ f, StIn (M.spA (sms xs) least f)
  | 0 => h.st least
  | f + 1 => h.inner least (h.outer least f) f _

end Go.Proofs.Ytpblpfleiilehag

namespace Go.Proofs.Ytpblpfleiilehag
open Go.ChangeShapes Go.WideShapes Go.ChangeAt Go.RowKit Go.Lib
set_option linter.unusedVariables false

theorem fit_far (n : Int) (w : World) (h1 : -1000000 ≤ n) (h2 : n ≤ 1000000) :
    Calls Try.prog 46 #[.int .i64 n] w fun e w' => e = .returned (.int .i64 n) ∧ w' = w := by
  go_enter Try.func46, Try.ntmps46
  go_wp2
  go_ret
  exact ⟨rfl, rfl⟩
theorem down_far (a b : Int) (w : World) (hb : 0 < b) (hb2 : b ≤ 9007199254740992) (ha : -9007199254740992 ≤ a) (ha2 : a ≤ 9007199254740992) :
    Calls Try.prog 62 #[.int .i64 a, .int .i64 b] w fun e w' => e = .returned (.int .i64 (a / b)) ∧ w' = w := by
  obtain ⟨q1, q2⟩ := M.tdiv_bd a b 9007199254740992 hb ha ha2
  have D := hide (M.down_eq a b hb)
  by_cases h : a.tmod b < 0
  · go_enter Try.func62, Try.ntmps62
    go_wp2
    go_ret
    exact ⟨ret_int (by rw [← D.out, if_pos h]), rfl⟩
  · go_enter Try.func62, Try.ntmps62
    go_wp2
    go_ret
    exact ⟨ret_int (by rw [← D.out, if_neg (by omega)]), rfl⟩

theorem fill_step {w wr : World} {B n k : Nat} {F : List Int} {x : Int} (hF : F.length = n) (hk : k < n) (hx : x = F[k])
    (hown : wr.ownsRow B 3 1 (.slice (some ⟨B, 0, none⟩) n n) n ((M.fillI F k).map (Value.int .i64))) (hbl : Below B w wr) :
    (wr.setCell ⟨B, k, none⟩ (.int .i64 x)).ownsRow B 3 1 (.slice (some ⟨B, 0, none⟩) n n) n ((M.fillI F (k + 1)).map (Value.int .i64)) ∧ Below B w (wr.setCell ⟨B, k, none⟩ (.int .i64 x)) := by
  subst hx
  refine ⟨?_, hbl.setCell (Nat.le_refl _) _⟩
  have := (hown.stored k (.int .i64 F[k])).1
  rw [← M.fill_set F k (by omega), List.map_set]
  exact this

set_option maxHeartbeats 1000000 in
theorem counted_far (a : Option Addr) (xs : List Int) (cap : Nat) (w : World) (h : Rd w a xs) (hn : xs.length ≤ 60) (h0 : 0 < xs.length) (hv : ∀ x ∈ xs, -1000000 ≤ x ∧ x ≤ 1000000) :
    Calls Try.prog 61 #[.slice a xs.length cap] w fun e w' => e = .returned (.slice (some ⟨w.heap.size, 0, none⟩) xs.length xs.length) ∧
      w'.ownsRow w.heap.size 3 1 (.slice (some ⟨w.heap.size, 0, none⟩) xs.length xs.length) xs.length (xs.map (Value.int .i64)) ∧ Below w.heap.size w w' := by
  obtain ⟨i0, hi, hz0, hz1, hz2⟩ := info_parts info3
  obtain ⟨b, off, rfl, hb, hc⟩ := h.2 (by intro e; rw [e] at h0; simp at h0)
  have HV := hide hv
  have HC := hide hc
  clear h hv hc h0
  have mn : min (xs.length : Int) 1000 = (xs.length : Int) := by omega
  obtain ⟨n, hn'⟩ : ∃ n, n = xs.length := ⟨_, rfl⟩
  have HN := hide hn'
  rw [← hn'] at hn mn ⊢
  have n1000 : ¬ (1000 : Int) < (n : Int) := by omega
  have nle : (n : Int) ≤ 1000 := by omega
  have FA : Hid (M.fillI xs n = xs) := by unfold Hid; rw [hn']; exact M.fill_all xs
  clear hn' mn
  go_enter Try.func61, Try.ntmps61
  go_wp2_with (at_make; refine wpList_make_full _ rfl (.tmp 7) (.tmp 7) 23 rfl w.heap.size 3 i0 (.int .i64 0) 1 Try.underlying23 hi hz0 hz1 .i64 .i64 _ _ n rfl rfl (by omega) (by omega) (by rw [hz2]; omega) (by unfold maxLen; omega) (Nat.le_refl _) ?_; intro w1 hown hgrow)
  rw [made] at hown
  have hB : Hid (Below w.heap.size w w1) := (Below.refl _ w).grown hgrow (Nat.le_refl _) (fun k hk => by cases hk)
  have ho : Hid (w1.ownsRow w.heap.size 3 1 (.slice (some ⟨w.heap.size, 0, none⟩) n n) n ((M.fillI xs 0).map (Value.int .i64))) := by
    unfold Hid; rw [M.fill_zero, ← HN.out]; exact hown
  clear hown hgrow hi hz0 hz1 hz2
  go_loopw [11] (fun i wr => ∃ k : Nat, k ≤ n ∧ i = .int .i64 k ∧ Hid (wr.ownsRow w.heap.size 3 1 (.slice (some ⟨w.heap.size, 0, none⟩) n n) n ((M.fillI xs k).map (Value.int .i64))) ∧ Hid (Below w.heap.size w wr)) (fun i _ => n - (intOf i).toNat)
  case atStart => exact ⟨0, Nat.zero_le _, rfl, ho, hB⟩
  case round =>
    obtain ⟨k, hk, rfl, HO, K⟩ := hrel
    clear ho hB
    by_cases hlt : k < n
    · have kl : k < xs.length := by rw [← HN.out]; exact hlt
      have hck := (K.out.cell (p := ⟨b, off + k, none⟩) hb).trans (Rd.at HC.out k kl)
      have hfz := HO.out.frozenAt k
      have hcell := HO.out.cellAt k (by omega)
      have hlen : k < ((M.fillI xs k).map (Value.int .i64)).length := by rw [List.length_map, M.fill_len _ _ (by omega)]; exact kl
      rw [List.getElem?_eq_getElem hlen] at hcell
      obtain ⟨v0, v1⟩ := HV.out xs[k] (List.getElem_mem kl)
      have HR := hide (fill_step (w := w) HN.out.symm hlt rfl HO.out K.out)
      have nz : xs.length = n := HN.out.symm
      have kz : (k : Int) < (n : Int) := by omega
      have NZ := hide nz
      have kz2 : (k : Int) < (xs.length : Int) := by omega
      clear HC HV HO nz
      generalize xs[k] = v at *
      clear kl
      go_wp2_with (go_at_call 46; refine (fit_far _ _ (by omega) (by omega)).mono ?_; rintro e w' ⟨rfl, rfl⟩)
      go_roundw
      case rel => exact ⟨k + 1, by omega, by go_num, HR.out.1, HR.out.2⟩
      case measure => simp [intOf]; omega
    · have ke : k = n := by omega
      have ho := HO.out
      rw [ke, FA.out] at ho
      have HO2 := hide ho
      clear ho HO ke HC HV
      go_wp2
      go_ret
      exact ⟨rfl, HO2.out, K.out⟩

theorem M.sumL_bd : ∀ {l : List Int}, (∀ x ∈ l, -1000000 ≤ x ∧ x ≤ 1000000) → -1000000 * (l.length : Nat) ≤ l.sum ∧ l.sum ≤ 1000000 * (l.length : Nat)
  | [], _ => by simp
  | x :: l, h => by
    have ih := M.sumL_bd (l := l) fun y hy => h y (List.mem_cons_of_mem _ hy)
    have h1 := h x (List.mem_cons_self ..)
    rw [List.sum_cons, List.length_cons]
    omega

set_option maxHeartbeats 1000000 in
theorem mean_far (a : Option Addr) (xs : List Int) (cap : Nat) (w : World) (h : Rd w a xs) (hn : xs.length ≤ 60) (h0 : 0 < xs.length) (hv : ∀ x ∈ xs, -1000000 ≤ x ∧ x ≤ 1000000) :
    Calls Try.prog 53 #[.slice a xs.length cap] w fun e w' => e = .returned (.int .i64 (xs.sum / (xs.length : Nat))) ∧ Below w.heap.size w w' := by
  have C := hide (counted_far a xs cap w h hn h0 hv)
  have SB : Hid (∀ k, -60000000 ≤ (xs.take k).sum ∧ (xs.take k).sum ≤ 60000000) := fun k => by
    have := M.sumL_bd (l := xs.take k) fun x hx => hv x (List.mem_of_mem_take hx)
    have l : (xs.take k).length ≤ 60 := by rw [List.length_take]; omega
    omega
  have SS : Hid (∀ k (hk : k < xs.length), (xs.take (k + 1)).sum = (xs.take k).sum + xs[k]) := fun k hk => by
    rw [List.take_succ_eq_append_getElem hk, List.sum_append]; simp
  have Z : Hid (xs.take xs.length = xs) := List.take_length
  have HV := hide hv
  have hz : ((xs.length : Int) == 0) = false := by rw [beq_eq_false_iff_ne]; omega
  clear h hv
  go_enter Try.func53, Try.ntmps53
  go_wp2_with (go_at_call 61; refine C.out.mono ?_; rintro e w1 ⟨rfl, hown, hbl⟩)
  have OA := hide (own_at hown rfl)
  have BL := hide hbl
  clear hown C hbl
  go_loop [4, 14] (fun t i => ∃ k : Nat, k ≤ xs.length ∧ i = .int .i64 k ∧ t = .int .i64 (xs.take k).sum) (fun _ i => xs.length - (intOf i).toNat)
  case atStart => exact ⟨0, Nat.zero_le _, rfl, rfl⟩
  case round =>
    obtain ⟨k, hk, rfl, rfl⟩ := hrel
    obtain ⟨s1, s2⟩ := SB.out k
    by_cases hlt : k < xs.length
    · have hck := OA.out k hlt
      have S := hide (SS.out k hlt)
      obtain ⟨v0, v1⟩ := HV.out xs[k] (List.getElem_mem hlt)
      have kz : (k : Int) < (xs.length : Int) := by omega
      clear SS SB OA HV Z
      generalize (xs.take k).sum = s at *
      generalize xs[k] = v at *
      go_wp2
      go_round
      case rel => exact ⟨k + 1, by omega, by go_num, by rw [S.out]⟩
      case measure => simp [intOf]; omega
    · have ke : k = xs.length := by omega
      have E : Hid ((xs.take k).sum = xs.sum) := by unfold Hid; rw [ke, Z.out]
      clear SS SB OA HV Z ke
      generalize (xs.take k).sum = s at *
      have dn := hide (down_far s (xs.length : Nat) w1 (by omega) (by omega) (by omega) (by omega))
      go_wp2_with (go_at_call 62; refine dn.out.mono ?_; rintro e w2 ⟨rfl, e2⟩; have e2' := e2.symm; subst e2')
      go_ret
      exact ⟨ret_int (by rw [E.out]), BL.out⟩

end Go.Proofs.Ytpblpfleiilehag
