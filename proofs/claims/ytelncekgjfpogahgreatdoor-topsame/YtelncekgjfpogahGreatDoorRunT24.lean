/-
  Several texts as one: BooMo, BooMean, BooF, GCheck, GroveP, PruneG.
-/
import Derived.Test.YtelncekgjfpogahGreatDoorRunT23
import Derived.Test.YtelncekgjfpogahGreatDoorRunT1
import Derived.Deep.Cut
import Derived.Deep.AppendLies
import Derived.BigQuiet
import Derived.Deep.QuietTactic
import Derived.OwnWalk
import Derived.Test.YtelncekgjfpogahGreatDoorRunT6
import Derived.Test.YtelncekgjfpogahGreatDoorRunT9
import Derived.Deep.CutRange
import Derived.Test.YtelncekgjfpogahGreatDoorRunT11
namespace Go.Proofs.YtelncekgjfpogahGreatDoor
open Go.ChangeShapes Go.WideShapes Go.ChangeAt Go.RowKit Go.Lib
set_option linter.unusedVariables false
structure MO (w : World) (B : Nat) (x : Value) (D : List Tc) (W : World) : Prop where
 own : W.ownsRow B 66 1 x D.length (D.map tV)
 trees : ∀ i (h : i < D.length), W.ownsRow B 86 6 (tV D[i]) D[i].2.1.length (ndCells D[i].2.1)
 other : ∀ i (h : i < D.length), (tV D[i]).ownBlock ≠ none ∧ (tV D[i]).ownBlock ≠ x.ownBlock
 apart : ∀ i j (hi : i < D.length) (hj : j < D.length), i ≠ j → (tV D[i]).ownBlock ≠ (tV D[j]).ownBlock
 below : Below w.heap.size w W
 ge : w.heap.size ≤ B
theorem MO.up {w : World} {B : Nat} {x : Value} {D : List Tc} {W W' : World} (h : MO w B x D W) (hb : Below W.heap.size W W') : MO w B x D W' :=
 ⟨own_up h.own hb, fun i hi => own_up (h.trees i hi) hb, h.other, h.apart, below_on h.below hb, h.ge⟩
theorem MO.one {w W : World} {B : Nat} {t : Tc} {q : Nat} (hB : Below w.heap.size w W) (hg : w.heap.size ≤ B) (hW : B ≤ W.heap.size) (ht : W.ownsRow B 86 6 (tV t) t.2.1.length (ndCells t.2.1)) (hq : (tV t).ownBlock = some q) (ty : TypeId) (hty : ty = 66) :
 MO w B (.slice (some ⟨W.heap.size, 0, none⟩) 1 1) [t] (W.alloc (.cells #[tV t] ty)) := by
 subst hty
 have lq := (ht.lt q hq).2
 have e0 : ∀ i (h : i < [t].length), [t][i] = t := fun i h => by simp at h; subst h; rfl
 refine ⟨⟨rfl, .inr ⟨W.heap.size, 1, #[tV t], rfl, hW, (MapKept.heap_alloc W _).1, Nat.le_refl _, by unfold maxLen; omega, rfl, rfl⟩⟩, fun i hi => ?_, fun i hi => ?_, fun i j hi hj hij => ?_, below_on hB ((Below.refl _ W).alloc (Nat.le_refl _) _), hg⟩
 · rw [e0 i hi]; exact own_up ht ((Below.refl _ W).alloc (Nat.le_refl _) _)
 · rw [e0 i hi, hq]
   exact ⟨(fun e => by cases e), (fun e => by simp [Value.ownBlock] at e; omega)⟩
 · simp at hi hj; omega
theorem MO.more {w : World} {B : Nat} {x : Value} {D : List Tc} {W : World} (h : MO w B x D W) {t : Tc} {q : Nat} (ht : W.ownsRow B 86 6 (tV t) t.2.1.length (ndCells t.2.1)) (hq : (tV t).ownBlock = some q) (hx : x.ownBlock ≠ some q) (ha : ∀ i (hi : i < D.length), (tV D[i]).ownBlock ≠ some q)
 {o : Obj} {w5 : World} {g cap : Nat} (hown : w5.ownsRow B 66 1 (.slice (some ⟨g, 0, none⟩) (D.length + 1) cap) (D.length + 1) (D.map tV ++ [tV t])) (hgrow : (W.alloc o).grownBy w5 x.ownBlock) (hat : x.ownBlock = some g ∨ g = W.heap.size + 1) :
 MO w B (.slice (some ⟨g, 0, none⟩) (D.length + 1) cap) (D ++ [t]) w5 := by
 have hgr : W.grownBy w5 x.ownBlock := grown_trans (World.grownBy_alloc W o x.ownBlock) hgrow (.inl rfl)
 have ob : (Value.slice (some ⟨g, 0, none⟩) (D.length + 1) cap).ownBlock = some g := rfl
 have fresh : ∀ {v : Value} {n : Nat} {l : List Value}, W.ownsRow B 86 6 v n l → v.ownBlock ≠ x.ownBlock → v.ownBlock ≠ some g := fun {v n l} hv h1 e => by
  rcases hat with q1 | q1
  · exact h1 (e.trans q1.symm)
  · have := (hv.lt g e).2; omega
 have len : (D ++ [t]).length = D.length + 1 := by simp
 refine ⟨?_, ?_, ?_, ?_, h.below.grown hgr h.below.size (fun k hk => by have := (h.own.lt k hk).1; have := h.ge; omega), h.ge⟩
 · rw [len, List.map_append]; exact hown
 · intro i hi
   by_cases c : i < D.length
   · rw [show (D ++ [t])[i] = D[i] from List.getElem_append_left c]
     exact (h.trees i c).kept hgr (.inr (h.other i c).2)
   · have ei : i = D.length := by rw [len] at hi; omega
     subst ei
     rw [show (D ++ [t])[D.length]'hi = t by simp]
     exact ht.kept hgr (.inr fun e => hx (e.symm.trans hq))
 · intro i hi
   rw [ob]
   by_cases c : i < D.length
   · rw [show (D ++ [t])[i] = D[i] from List.getElem_append_left c]
     exact ⟨(h.other i c).1, fresh (h.trees i c) (h.other i c).2⟩
   · have ei : i = D.length := by rw [len] at hi; omega
     subst ei
     rw [show (D ++ [t])[D.length]'hi = t by simp]
     exact ⟨own_ne_none hq, fresh ht (fun e => hx (e.symm.trans hq))⟩
 · intro i j hi hj hij
   rw [len] at hi hj
   by_cases c : i < D.length
   · by_cases d : j < D.length
     · rw [show (D ++ [t])[i] = D[i] from List.getElem_append_left c, show (D ++ [t])[j] = D[j] from List.getElem_append_left d]
       exact h.apart i j c d hij
     · have ej : j = D.length := by omega
       subst ej
       rw [show (D ++ [t])[i] = D[i] from List.getElem_append_left c, show (D ++ [t])[D.length]'(by rw [len]; omega) = t by simp, hq]
       exact ha i c
   · have ei : i = D.length := by omega
     subst ei
     have d : j < D.length := by omega
     rw [show (D ++ [t])[j] = D[j] from List.getElem_append_left d, show (D ++ [t])[D.length]'(by rw [len]; omega) = t by simp, hq]
     exact fun e => ha j d e.symm
theorem MO.tree {w : World} {B : Nat} {x : Value} {D : List Tc} {W : World} (h : MO w B x D W) (i : Nat) (hi : i < D.length) : ∃ q cap, D[i].1 = some ⟨q, 0, none⟩ ∧ D[i].2.2 = cap ∧ B ≤ q ∧ q < W.heap.size ∧ (tV D[i]).ownBlock = some q := by
 have t := h.trees i hi
 have o := (h.other i hi).1
 rcases t.2 with ⟨h0, _⟩ | ⟨q, cap, cur, hv, hb, hg, _⟩
 · rw [h0] at o; exact absurd rfl o
 · have hv' := hv
   unfold tV at hv'
   rw [Value.slice.injEq] at hv'
   exact ⟨q, cap, hv'.1, hv'.2.2, hb, (Array.getElem?_eq_some_iff.1 hg).1, by rw [hv]; rfl⟩
theorem MO.turn {w : World} {B : Nat} {x : Value} {D : List Tc} {W : World} (h : MO w B x D W) (i : Nat) (hi : i < D.length) {q k : Nat} (hq : (tV D[i]).ownBlock = some q) {v : Int} {ts : List M.Nd} (he : (ndCells D[i].2.1).set (k * 6 + 5) (.int .i64 v) = ndCells ts) (hl : ts.length = D[i].2.1.length) :
 MO w B x (D.set i (D[i].1, ts, D[i].2.2)) (W.setCell ⟨q, k * 6 + 5, none⟩ (.int .i64 v)) := by
 have t := h.trees i hi
 have lq := t.lt q hq
 have tv : tV (D[i].1, ts, D[i].2.2) = tV D[i] := by unfold tV; rw [hl]
 refine ⟨?_, ?_, ?_, ?_, h.below.setCell (p := ⟨q, k * 6 + 5, none⟩) (by have := h.ge; show w.heap.size ≤ q; omega) _, h.ge⟩
 · have e : (D.set i (D[i].1, ts, D[i].2.2)).map tV = D.map tV := by
    rw [List.map_set, tv]
    refine List.ext_getElem (by simp) fun j h1 h2 => ?_
    by_cases e : i = j
    · subst e; simp
    · rw [List.getElem_set_ne e]
   rw [e, List.length_set]
   exact keep_row h.own (fun e => (h.other i hi).2 (by rw [hq, e]))
 · intro j hj
   rw [List.length_set] at hj
   by_cases e : i = j
   · subst e
     rw [List.getElem_set_self, tv]
     obtain ⟨q', cap, e1, e2, _, _, e5⟩ := h.tree i hj
     have eq : q' = q := by rw [hq] at e5; cases e5; rfl
     subst eq
     have tv2 : tV D[i] = .slice (some ⟨q', 0, none⟩) D[i].2.1.length D[i].2.2 := by unfold tV; rw [e1]
     rw [tv2] at t ⊢
     have st := (t.stored (k * 6 + 5) (.int .i64 v)).1
     rw [he, ← hl] at st
     rw [← hl]
     exact st
   · rw [List.getElem_set_ne e]
     exact keep_row (h.trees j hj) (fun z => h.apart i j hi hj e (by rw [hq, z]))
 · intro j hj
   rw [List.length_set] at hj
   by_cases e : i = j
   · subst e; rw [List.getElem_set_self, tv]; exact h.other i hj
   · rw [List.getElem_set_ne e]; exact h.other j hj
 · intro a b ha hb hab
   rw [List.length_set] at ha hb
   have g : ∀ j (hj : j < D.length), tV ((D.set i (D[i].1, ts, D[i].2.2))[j]'(by rw [List.length_set]; exact hj)) = tV D[j] := fun j hj => by
    by_cases e : i = j
    · subst e; rw [List.getElem_set_self, tv]
    · rw [List.getElem_set_ne e]
   rw [g a ha, g b hb]
   exact h.apart a b ha hb hab
theorem MO.keep {w : World} {B : Nat} {x : Value} {D : List Tc} {W W' : World} {r : Option Nat} (h : MO w B x D W) (hg : W.grownBy W' r) (hr : ∀ q, r = some q → w.heap.size ≤ q ∧ x.ownBlock ≠ some q ∧ ∀ i (hi : i < D.length), (tV D[i]).ownBlock ≠ some q) : MO w B x D W' := by
 have kt : ∀ {e size n : Nat} {v : Value} {l : List Value}, W.ownsRow B e size v n l → (∀ q, r = some q → v.ownBlock ≠ some q) → W'.ownsRow B e size v n l := fun {e size n v l} hv h1 => by
  refine hv.kept hg ?_
  cases hv2 : v.ownBlock with
  | none => exact .inl rfl
  | some b => exact .inr (fun z => h1 b z.symm hv2)
 exact ⟨kt h.own (fun q hq => (hr q hq).2.1), fun i hi => kt (h.trees i hi) (fun q hq => (hr q hq).2.2 i hi), h.other, h.apart, h.below.grown hg h.below.size (fun k hk => (hr k hk).1), h.ge⟩
structure MW (w : World) (B rb : Nat) (m : Int) (y x : Value) (D : List Tc) (n : Nat) (W : World) : Prop where
 mo : MO w B x D W
 c0 : W.cell? ⟨rb + 1, 0, none⟩ = some (.int .i64 m)
 c1 : W.cell? ⟨rb + 1, 1, none⟩ = some (.int .i64 2)
 c2 : W.cell? ⟨rb + 1, 2, none⟩ = some y
 c3 : W.cell? ⟨rb + 1, 3, none⟩ = some x
 fr : ∀ i, W.frozen? ⟨rb + 1, i, none⟩ = false
 r0 : ∃ v, W.cell? ⟨rb, 0, none⟩ = some v
 r1 : ∃ v, W.cell? ⟨rb, 1, none⟩ = some v
 r2 : ∃ v, W.cell? ⟨rb, 2, none⟩ = some v
 r3 : ∃ v, W.cell? ⟨rb, 3, none⟩ = some v
 rf : ∀ i, W.frozen? ⟨rb, i, none⟩ = false
 lt : rb + 1 < W.heap.size
 ge : w.heap.size ≤ rb
 gx : ∀ q, x.ownBlock = some q → q < rb
 gt : ∀ i (hi : i < D.length) q, (tV D[i]).ownBlock = some q → q < rb
 wo : W.ownsRow (rb + 1 + 1) 3 1 y n ((List.replicate n (1 : Int)).map (Value.int .i64))
theorem MW.up {w : World} {B rb : Nat} {m : Int} {y x : Value} {D : List Tc} {n : Nat} {W W' : World} (h : MW w B rb m y x D n W) (hb : Below W.heap.size W W') : MW w B rb m y x D n W' := by
 have l0 : rb < W.heap.size := by have := h.lt; omega
 have k : ∀ i, W'.cell? ⟨rb, i, none⟩ = W.cell? ⟨rb, i, none⟩ := fun i => hb.cell (p := ⟨rb, i, none⟩) l0
 have k1 : ∀ i, W'.cell? ⟨rb + 1, i, none⟩ = W.cell? ⟨rb + 1, i, none⟩ := fun i => hb.cell (p := ⟨rb + 1, i, none⟩) h.lt
 exact ⟨h.mo.up hb, (k1 0).trans h.c0, (k1 1).trans h.c1, (k1 2).trans h.c2, (k1 3).trans h.c3, fun i => (hb.frozen (p := ⟨rb + 1, i, none⟩) h.lt).trans (h.fr i), by rw [k]; exact h.r0, by rw [k]; exact h.r1, by rw [k]; exact h.r2, by rw [k]; exact h.r3, fun i => (hb.frozen (p := ⟨rb, i, none⟩) l0).trans (h.rf i), Nat.lt_of_lt_of_le h.lt hb.size, h.ge, h.gx, h.gt, own_up h.wo hb⟩
theorem MW.turn {w : World} {B rb : Nat} {m : Int} {y x : Value} {D : List Tc} {n : Nat} {W : World} (h : MW w B rb m y x D n W) (i : Nat) (hi : i < D.length) {q k : Nat} (hq : (tV D[i]).ownBlock = some q) {v : Int} {ts : List M.Nd} (he : (ndCells D[i].2.1).set (k * 6 + 5) (.int .i64 v) = ndCells ts) (hl : ts.length = D[i].2.1.length) :
 MW w B rb m y x (D.set i (D[i].1, ts, D[i].2.2)) n (W.setCell ⟨q, k * 6 + 5, none⟩ (.int .i64 v)) := by
 have lq := h.gt i hi q hq
 have tv : tV (D[i].1, ts, D[i].2.2) = tV D[i] := by unfold tV; rw [hl]
 have o : ∀ (b j : Nat), b ≠ q → (W.setCell ⟨q, k * 6 + 5, none⟩ (.int .i64 v)).cell? ⟨b, j, none⟩ = W.cell? ⟨b, j, none⟩ := fun b j hb => World.cell?_setCell_other _ _ _ _ (by intro e; cases e; exact hb rfl)
 have f : ∀ (b j : Nat), (W.setCell ⟨q, k * 6 + 5, none⟩ (.int .i64 v)).frozen? ⟨b, j, none⟩ = W.frozen? ⟨b, j, none⟩ := fun b j => by simp
 have n1 : rb + 1 ≠ q := by omega
 have n0 : rb ≠ q := by omega
 refine ⟨h.mo.turn i hi hq he hl, (o _ 0 n1).trans h.c0, (o _ 1 n1).trans h.c1, (o _ 2 n1).trans h.c2, (o _ 3 n1).trans h.c3, fun j => (f _ j).trans (h.fr j), by rw [o _ _ n0]; exact h.r0, by rw [o _ _ n0]; exact h.r1, by rw [o _ _ n0]; exact h.r2, by rw [o _ _ n0]; exact h.r3, fun j => (f _ j).trans (h.rf j), by simpa using h.lt, h.ge, h.gx, fun j hj p hp => ?_, keep_row h.wo (fun e => by have := (h.wo.lt q e).1; omega)⟩
 rw [List.length_set] at hj
 by_cases e : i = j
 · subst e; rw [List.getElem_set_self, tv] at hp; exact h.gt i hj p hp
 · rw [List.getElem_set_ne e] at hp; exact h.gt j hj p hp
theorem MW.more {w : World} {B rb : Nat} {m : Int} {y x : Value} {D : List Tc} {n : Nat} {W : World} (h : MW w B rb m y x D n W) {o : Obj} {w5 : World} {g cap : Nat}
 (hown : w5.ownsRow (rb + 1 + 1) 3 1 (.slice (some ⟨g, 0, none⟩) (n + 1) cap) (n + 1) ((List.replicate n (1 : Int)).map (Value.int .i64) ++ [.int .i64 1])) (hgrow : (W.alloc o).grownBy w5 y.ownBlock) :
 (w5.cell? ⟨rb + 1, 2, none⟩ = some y ∧ w5.frozen? ⟨rb + 1, 2, none⟩ = false) ∧ MW w B rb m (.slice (some ⟨g, 0, none⟩) (n + 1) cap) x D (n + 1) (w5.setCell ⟨rb + 1, 2, none⟩ (.slice (some ⟨g, 0, none⟩) (n + 1) cap)) := by
 have hgr : W.grownBy w5 y.ownBlock := grown_trans (World.grownBy_alloc W o y.ownBlock) hgrow (.inl rfl)
 have yb : ∀ q, y.ownBlock = some q → rb + 1 + 1 ≤ q := fun q e => (h.wo.lt q e).1
 have l0 : rb < W.heap.size := by have := h.lt; omega
 have cf : ∀ i, w5.cell? ⟨rb + 1, i, none⟩ = W.cell? ⟨rb + 1, i, none⟩ := fun i => hgr.cell_far ⟨rb + 1, i, none⟩ h.lt (fun e => by have := yb _ e.symm; simp at this; omega)
 have ff : ∀ i, w5.frozen? ⟨rb + 1, i, none⟩ = W.frozen? ⟨rb + 1, i, none⟩ := fun i => hgr.frozen_far ⟨rb + 1, i, none⟩ h.lt (fun e => by have := yb _ e.symm; simp at this; omega)
 have cr : ∀ i, w5.cell? ⟨rb, i, none⟩ = W.cell? ⟨rb, i, none⟩ := fun i => hgr.cell_far ⟨rb, i, none⟩ l0 (fun e => by have := yb _ e.symm; simp at this; omega)
 have fr : ∀ i, w5.frozen? ⟨rb, i, none⟩ = W.frozen? ⟨rb, i, none⟩ := fun i => hgr.frozen_far ⟨rb, i, none⟩ l0 (fun e => by have := yb _ e.symm; simp at this; omega)
 have gp : rb + 1 + 1 ≤ g := (hown.lt g rfl).1
 have ob : (Value.slice (some ⟨g, 0, none⟩) (n + 1) cap).ownBlock = some g := rfl
 have m5 : MO w B x D w5 := h.mo.keep hgr (fun q hq => by
  have := yb q hq
  have := h.ge
  exact ⟨by omega, fun e => by have := h.gx q e; omega, fun i hi e => by have := h.gt i hi q e; omega⟩)
 have m6 : MO w B x D (w5.setCell ⟨rb + 1, 2, none⟩ (.slice (some ⟨g, 0, none⟩) (n + 1) cap)) := m5.keep grown_set (fun q hq => by
  cases hq
  have := h.ge
  exact ⟨by omega, fun e => by have := h.gx _ e; omega, fun i hi e => by have := h.gt i hi _ e; omega⟩)
 have s : ∀ (j : Nat), (w5.setCell ⟨rb + 1, 2, none⟩ (.slice (some ⟨g, 0, none⟩) (n + 1) cap)).cell? ⟨rb, j, none⟩ = W.cell? ⟨rb, j, none⟩ := fun j => (World.cell?_setCell_other _ _ _ _ (by intro e; cases e)).trans (cr j)
 refine ⟨⟨(cf 2).trans h.c2, (ff 2).trans (h.fr 2)⟩, ⟨m6, ?_, ?_, ?_, ?_, ?_, by rw [s]; exact h.r0, by rw [s]; exact h.r1, by rw [s]; exact h.r2, by rw [s]; exact h.r3, ?_, ?_, h.ge, h.gx, h.gt, ?_⟩⟩
 · rw [World.cell?_setCell_other _ _ _ _ (by intro e; cases e)]; exact (cf 0).trans h.c0
 · rw [World.cell?_setCell_other _ _ _ _ (by intro e; cases e)]; exact (cf 1).trans h.c1
 · exact World.cell?_setCell_same (u := y) _ _ _ ((cf 2).trans h.c2)
 · rw [World.cell?_setCell_other _ _ _ _ (by intro e; cases e)]; exact (cf 3).trans h.c3
 · intro i; simpa using (ff i).trans (h.fr i)
 · intro i; simpa using (fr i).trans (h.rf i)
 · have := hgr.size; have := h.lt; simp; omega
 · rw [List.replicate_succ', List.map_append]
   exact keep_row hown (fun e => by rw [ob] at e; cases e; omega)
theorem MW.put {w : World} {B rb : Nat} {m : Int} {y x : Value} {D : List Tc} {n : Nat} {W : World} (h : MW w B rb m y x D n W) (j : Nat) (v : Value) : MO w B x D (W.setCell ⟨rb, j, none⟩ v) ∧ (W.setCell ⟨rb, j, none⟩ v).ownsRow (rb + 1 + 1) 3 1 y n ((List.replicate n (1 : Int)).map (Value.int .i64)) :=
 ⟨h.mo.keep grown_set (fun q hq => by
  cases hq
  have := h.ge
  exact ⟨by omega, fun e => by have := h.gx _ e; omega, fun i hi e => by have := h.gt i hi _ e; omega⟩), keep_row h.wo (fun e => by have := (h.wo.lt _ e).1; omega)⟩
theorem MW.puts {w : World} {B rb : Nat} {m : Int} {y x : Value} {D : List Tc} {n : Nat} {W : World} (h : MW w B rb m y x D n W) (v0 v1 v2 v3 : Value) : MO w B x D ((((W.setCell ⟨rb, 0, none⟩ v0).setCell ⟨rb, 1, none⟩ v1).setCell ⟨rb, 2, none⟩ v2).setCell ⟨rb, 3, none⟩ v3) ∧ ((((W.setCell ⟨rb, 0, none⟩ v0).setCell ⟨rb, 1, none⟩ v1).setCell ⟨rb, 2, none⟩ v2).setCell ⟨rb, 3, none⟩ v3).ownsRow (rb + 1 + 1) 3 1 y n ((List.replicate n (1 : Int)).map (Value.int .i64)) := by
 have st : ∀ (V : World) (j : Nat) (v : Value), MO w B x D V ∧ V.ownsRow (rb + 1 + 1) 3 1 y n ((List.replicate n (1 : Int)).map (Value.int .i64)) → MO w B x D (V.setCell ⟨rb, j, none⟩ v) ∧ (V.setCell ⟨rb, j, none⟩ v).ownsRow (rb + 1 + 1) 3 1 y n ((List.replicate n (1 : Int)).map (Value.int .i64)) := fun V j v hV =>
  ⟨hV.1.keep grown_set (fun q hq => by
   cases hq
   have := h.ge
   exact ⟨by omega, fun e => by have := h.gx _ e; omega, fun i hi e => by have := h.gt i hi _ e; omega⟩), keep_row hV.2 (fun e => by have := (h.wo.lt _ e).1; omega)⟩
 exact st _ _ _ (st _ _ _ (st _ _ _ (st _ _ _ ⟨h.mo, h.wo⟩)))
theorem mo_new {w w' : World} {B rb : Nat} {m : Int} {y x : Value} {D : List Tc} {n : Nat} (h : MO w B x D w') (ho : w'.ownsRow (rb + 1 + 1) 3 1 y n ((List.replicate n (1 : Int)).map (Value.int .i64))) (hg : w.heap.size ≤ rb) (hn : n ≤ 1000) (hD : D.length ≤ 1000) (hT : ∀ t ∈ D, t.2.1.length ≤ 1000) : ∃ wa wc ta tc, y = .slice wa n wc ∧ x = .slice ta D.length tc ∧ NewG w w' ⟨m, 2, wa, List.replicate n 1, wc, ta, D, tc⟩ := by
 obtain ⟨wa, wc, ey⟩ := own_any ho
 obtain ⟨ta, tc, ex⟩ := own_any h.own
 have hB := h.ge
 refine ⟨wa, wc, ta, tc, ey, ex, fun W'' hs hc => ⟨⟨by rw [List.length_replicate]; unfold maxLen; omega, fun hne => ?_⟩, ⟨by unfold maxLen; show D.length ≤ _; omega, fun t ht => ?_, fun hne => ?_⟩⟩⟩
 · rcases own_beyond ho (by omega) hs hc with ⟨_, h0⟩ | ⟨g, cap, ev, hl, hc2⟩
   · subst h0; exact absurd rfl hne
   · rw [ey, Value.slice.injEq] at ev
     refine ⟨g, 0, ev.1, hl, fun i hi => ?_⟩
     rw [List.length_replicate] at hi
     rw [Nat.zero_add, hc2 i (by omega)]
     simp [hi]
 · obtain ⟨j, hj, rfl⟩ := List.getElem_of_mem ht
   have tl := hT _ ht
   refine ⟨by unfold maxLen; omega, fun hne => ?_⟩
   rcases own_beyond (h.trees j hj) hB hs hc with ⟨_, h0⟩ | ⟨g, cap, ev, hl, hc2⟩
   · exact absurd (List.length_eq_zero_iff.1 h0) hne
   · unfold tV at ev
     rw [Value.slice.injEq] at ev
     refine ⟨g, 0, ev.1, hl, fun i hi => ?_⟩
     have hi' : i < D[j].2.1.length := hi
     obtain ⟨q0, q1, q2, q3, q4, q5⟩ := ndCells_at _ i hi'
     rw [Nat.zero_add]
     exact ⟨(hc2 _ (by omega)).trans q0, (hc2 _ (by omega)).trans q1, (hc2 _ (by omega)).trans q2, (hc2 _ (by omega)).trans q3, (hc2 _ (by omega)).trans q4, (hc2 _ (by omega)).trans q5⟩
 · rcases own_beyond h.own hB hs hc with ⟨_, h0⟩ | ⟨g, cap, ev, hl, hc2⟩
   · exact absurd (List.length_eq_zero_iff.1 h0) hne
   · rw [ex, Value.slice.injEq] at ev
     refine ⟨g, 0, ev.1, hl, fun i hi => ?_⟩
     have hi' : i < D.length := hi
     rw [Nat.zero_add, hc2 i (by omega), List.getElem?_map, List.getElem?_eq_getElem hi']
     rfl
theorem mw_start {w W : World} {B : Nat} {m : Int} {x : Value} {C : List Tc} (h : MO w B x C W) (a0 a1 a2 a3 : Value) (t0 t1 : TypeId) (W2 : World) (hW : W2 = (W.alloc (.cells #[a0, a1, a2, a3] t0)).alloc (.cells #[.int .i64 m, .int .i64 2, .slice none 0 0, x] t1)) : MW w B W.heap.size m (.slice none 0 0) x C 0 W2 := by
 obtain ⟨W1, hW1⟩ : ∃ V, V = W.alloc (.cells #[a0, a1, a2, a3] t0) := ⟨_, rfl⟩
 rw [← hW1] at hW
 have z1 : W1.heap.size = W.heap.size + 1 := by rw [hW1]; simp
 have b1 : Below W.heap.size W W1 := by rw [hW1]; exact (Below.refl _ W).alloc (Nat.le_refl _) _
 have b2 : Below W1.heap.size W1 W2 := by rw [hW]; exact (Below.refl _ W1).alloc (Nat.le_refl _) _
 have N1 := new_kept hW1 b2
 have N2 := new_kept hW (Below.refl _ _)
 rw [z1] at N2
 refine ⟨h.up (b1.trans (b2.mono b1.size)), N2.1 0 _ rfl, N2.1 1 _ rfl, N2.1 2 _ rfl, N2.1 3 _ rfl, N2.2, ⟨_, N1.1 0 _ rfl⟩, ⟨_, N1.1 1 _ rfl⟩, ⟨_, N1.1 2 _ rfl⟩, ⟨_, N1.1 3 _ rfl⟩, N1.2, by rw [hW]; simp [z1], h.below.size, fun q hq => (h.own.lt q hq).2, fun i hi q hq => ((h.trees i hi).lt q hq).2, World.ownsRow_nil _ _ _ _⟩
theorem wrap_in7 (x : Int) (h1 : -9007199254740992 ≤ x) (h2 : x ≤ 9007199254740992) : IntKind.i64.wrap x = x := by
 first
  | exact wrap_in5 x (by omega) (by omega)
  | (unfold IntKind.wrap; simp [IntKind.bits, IntKind.signed]; omega)
set_option maxHeartbeats 16000000 in
set_option maxRecDepth 10000 in
theorem bmean_any (w : World) (B bx tc : Nat) (C : List Tc) (m : Int) (W : World) (h : MO w B (.slice (some ⟨bx, 0, none⟩) C.length tc) C W) (n9 : C.length ≤ 9) (hT : ∀ k (hk : k < C.length), C[k].2.1.length ≤ 63) (hv : ∀ k (hk : k < C.length) t, t < C[k].2.1.length → -1000 ≤ M.nv (M.nAt C[k].2.1 t) ∧ M.nv (M.nAt C[k].2.1 t) ≤ 1000) :
 Calls Tryz.prog 27 #[.slice (some ⟨bx, 0, none⟩) C.length tc, .int .i64 m] W fun e w' => ∃ J : Gr, e = .returned J.v ∧ J.m = (m, 2, List.replicate C.length 1, (tl C).map (fun t => t.map (M.scN (M.tmN C.length)))) ∧ NewG w w' J ∧ Below w.heap.size w w' := by
 have HM := hide h
 have VV := hide hv
 have TLn := hide hT
 have FINM : Hid (∀ D, Mix (M.tmN C.length) C D C.length 0 → tl D = (tl C).map fun t => t.map (M.scN (M.tmN C.length))) := fun D hD => hD.fin
 obtain ⟨i0, hi, hz0, hz1, hz2⟩ := info_parts info3
 have I0 := hide hi
 have ST := hide (fun a0 a1 a2 a3 t0 t1 W2 hW => mw_start (m := m) h a0 a1 a2 a3 t0 t1 W2 hW)
 clear h hv hT hi
 go_enter Tryz.func27, Tryz.ntmps27
 go_upto_region 2 with fail
 obtain ⟨w2, hw2⟩ : ∃ V, V = (W.alloc (.cells #[.int .i64 0, .int .i64 0, .slice none 0 0, .slice none 0 0] 27)).alloc (.cells #[.int .i64 m, .int .i64 2, .slice none 0 0, .slice (some ⟨bx, 0, none⟩) C.length tc] 27) := ⟨_, rfl⟩
 rw [← hw2]
 have S2 := hide (ST.out _ _ _ _ _ _ _ hw2)
 clear hw2 ST HM
 go_wp2
 go_loopw [14] (fun i wq => ∃ (k : Nat) (y : Value) (D : List Tc), k ≤ C.length ∧ i = .int .i64 k ∧ Hid (Mix (M.tmN C.length) C D k 0) ∧ Hid (MW w B W.heap.size m y (.slice (some ⟨bx, 0, none⟩) C.length tc) D k wq)) (fun i _ => C.length - (intOf i).toNat)
 case atStart => exact ⟨0, _, C, Nat.zero_le _, rfl, Mix.start _ _, S2⟩
 case round =>
  obtain ⟨k, y, D, hk, rfl, MX, S⟩ := hrel
  clear S2
  have DL : Hid (D.length = C.length) := MX.out.len
  by_cases hlt : k < C.length
  · have c2 := S.out.c2
    have hdk : k < D.length := by rw [DL.out]; exact hlt
    obtain ⟨q, cap, q1, q2, q3, q4, q5⟩ := S.out.mo.tree k hdk
    have TR0 := (MX.out.tree hlt hdk).2.2
    rw [scK_zero] at TR0
    have el : D[k].2.1.length = C[k].2.1.length := by rw [TR0]
    have cx : wr.cell? ⟨bx, k, none⟩ = some (.slice (some ⟨q, 0, none⟩) C[k].2.1.length cap) := by
     have own := S.out.mo.own
     rw [DL.out] at own
     rw [own.cellAt k (by omega), List.getElem?_map, List.getElem?_eq_getElem hdk]
     show some (tV D[k]) = _
     unfold tV
     rw [q1, q2, el]
    have Q5 : Hid (∀ E : List Tc, ∀ t, Mix (M.tmN C.length) C E k t → ∀ hd : k < E.length, (tV E[k]).ownBlock = some q ∧ E[k].2.1 = scK (M.tmN C.length) C[k].2.1 t ∧ tV E[k] = .slice (some ⟨q, 0, none⟩) C[k].2.1.length cap) := fun E t hE hd => by
     obtain ⟨e1, e2, e3⟩ := hE.tree hlt hd
     obtain ⟨d1, d2, _⟩ := MX.out.tree hlt hdk
     have ev : tV E[k] = .slice (some ⟨q, 0, none⟩) C[k].2.1.length cap := by
      unfold tV
      rw [e1, e2, e3, scK_len, ← d1, ← d2, q1, q2]
     exact ⟨by rw [ev]; rfl, e3, ev⟩
    obtain ⟨ya, yc, rfl⟩ := own_any S.out.wo
    have kz : (k : Int) < (C.length : Int) := by omega
    have k9 : k ≤ 9 := by omega
    have MO := hide (fun (o : Obj) (w5 : World) (g cap : Nat) h1 h2 => S.out.more (o := o) (w5 := w5) (g := g) (cap := cap) h1 h2)
    have WO := hide S.out.wo
    have wsz := S.out.lt
    clear q1 q2 q3 q4 q5 TR0 el hdk
    go_upto_region 6 with (at_builtin; refine wpList_append_lies _ rfl (.tmp 19) (.tmp 20) 23 rfl (W.heap.size + 1 + 1) 3 i0 (.int .i64 0) 1 8 Tryz.underlying23 I0.out hz0 hz1 hz2 rfl (by omega) (.slice ya k yc) k ((List.replicate k (1 : Int)).map (Value.int .i64)) rfl (WO.out.alloc _) ⟨wr.heap.size, 0, none⟩ 1 1 [.int .i64 1] rfl rfl (World.news_of_block (heap_alloc_new _ _)) (by simp [Value.oneCell']) (by omega) (by unfold maxLen; omega) (by omega) (by simp; omega) (wr.heap.size + 1) (by simp) ?_; intro g7 c7 w7 hov7 hgrow7 hat7 hlt7; have F7 := MO.out _ w7 g7 c7 hov7 hgrow7; have f0 := F7.1.1; have f1 := F7.1.2; have B7 := hide F7.2; clear hov7 hgrow7 hat7 F7)
    obtain ⟨w8, hw8⟩ : ∃ V, V = w7.setCell ⟨W.heap.size + 1, 2, none⟩ (.slice (some ⟨g7, 0, none⟩) (k + 1) c7) := ⟨_, rfl⟩
    rw [← hw8] at B7 ⊢
    clear hw8 f0 f1 MO WO c2 S cx
    have VK := hide (VV.out k hlt)
    have TK := TLn.out k hlt
    have TN := hide (fun D t (h : Mix (M.tmN C.length) C D k t) (hd : k < D.length) => h.turn hlt hd)
    have NX := hide (fun D t (h : Mix (M.tmN C.length) C D k t) => h.next hlt)
    have SC := hide (fun t => @scK_cells (M.tmN C.length) C[k].2.1 t)
    have SLn := hide (scK_len (M.tmN C.length) C[k].2.1)
    have SA := hide (fun t => @scK_at (M.tmN C.length) C[k].2.1 t)
    generalize C[k].2.1 = N at *
    go_wp2
    go_loopw [25] (fun j wq => ∃ (t : Nat) (E : List Tc), t ≤ N.length ∧ j = .int .i64 t ∧ Hid (Mix (M.tmN C.length) C E k t) ∧ Hid (MW w B W.heap.size m (.slice (some ⟨g7, 0, none⟩) (k + 1) c7) (.slice (some ⟨bx, 0, none⟩) C.length tc) E (k + 1) wq)) (fun j _ => N.length - (intOf j).toNat)
    case atStart => exact ⟨0, D, Nat.zero_le _, rfl, MX, B7⟩
    case round =>
     clear MX B7 DL
     obtain ⟨t, E, ht, rfl, MX, S⟩ := hrel
     have hd : k < E.length := by rw [MX.out.len]; exact hlt
     obtain ⟨q5, e3, tv2⟩ := Q5.out E t MX.out hd
     have el : E[k].2.1.length = N.length := by rw [e3]; exact SLn.out t
     by_cases tl : t < N.length
     · have tz : (t : Int) < (N.length : Int) := by omega
       obtain ⟨v0, v1⟩ := VK.out t tl
       have tow := S.out.mo.trees k hd
       have hs := SC.out t tl
       rw [tv2, el] at tow
       have cv : wr.cell? ⟨q, t * 6 + 5, none⟩ = some (.int .i64 (M.nv (M.nAt N t))) := by
        have z5 := (ndCells_at E[k].2.1 t (by rw [el]; exact tl)).2.2.2.2.2
        rw [tow.cellAt (t * 6 + 5) (by omega), z5, e3, SA.out t tl]
       have fv : wr.frozen? ⟨q, t * 6 + 5, none⟩ = false := tow.frozenAt _
       have BT : Hid (MW w B W.heap.size m (.slice (some ⟨g7, 0, none⟩) (k + 1) c7) (.slice (some ⟨bx, 0, none⟩) C.length tc) (E.set k (E[k].1, scK (M.tmN C.length) N (t + 1), E[k].2.2)) (k + 1) (wr.setCell ⟨q, t * 6 + 5, none⟩ (.int .i64 (M.tmN C.length (M.nv (M.nAt N t)))))) :=
        S.out.turn k hd q5 (by rw [e3]; exact hs) (by rw [SLn.out, el])
       have MT : Hid (Mix (M.tmN C.length) C (E.set k (E[k].1, scK (M.tmN C.length) N (t + 1), E[k].2.2)) k (t + 1)) := TN.out E t MX.out hd
       have tm : M.tmN C.length (M.nv (M.nAt N t)) = M.nv (M.nAt N t) * (C.length : Int) := rfl
       have tb := M.tm_in n9 (M.nv (M.nAt N t)) v0 v1
       rw [tm] at tb BT
       have w1 : IntKind.i64.wrap (M.nv (M.nAt N t) * (C.length : Int)) = M.nv (M.nAt N t) * (C.length : Int) := wrap_in7 _ (by omega) (by omega)
       have FT := hide (fun w => fitto_in (M.nv (M.nAt N t) * (C.length : Int)) w (by omega) (by omega))
       clear tow tv2 hs e3 el tm tb VV TLn FINM SC SLn SA TN NX VK MX S Q5 q5 I0
       generalize M.nv (M.nAt N t) = v at *
       generalize hvn : v * (C.length : Int) = vn at *
       go_wp2_with (go_at_call 67; refine (FT.out _).mono ?_; rintro e w9 ⟨rfl, e9⟩; have e10 := e9.symm; subst e10)
       go_roundw
       case rel => exact ⟨t + 1, _, by omega, by go_num, MT, BT⟩
       case measure => simp [intOf]; omega
     · have te : t = N.length := by omega
       have tz : ¬ ((t : Int) < (N.length : Int)) := by omega
       have MN := hide (NX.out E t MX.out te)
       clear VV TLn FINM SC SLn SA TN NX VK MX e3 tv2 te el Q5 q5
       go_wp2
       go_roundw
       case rel => exact ⟨k + 1, _, E, by omega, by go_num, MN, S⟩
       case measure => simp [intOf]; omega
  · have ke : k = C.length := by omega
    have knz : ¬ ((k : Int) < (C.length : Int)) := by omega
    have mx := MX.out
    rw [ke] at mx
    have FM := hide (FINM.out D mx)
    have b := S.out
    rw [ke] at b
    obtain ⟨z0, y0⟩ := b.r0
    obtain ⟨z1, y1⟩ := b.r1
    obtain ⟨z2, y2⟩ := b.r2
    obtain ⟨z3, y3⟩ := b.r3
    have f0 := b.rf 0
    have f1 := b.rf 1
    have f2 := b.rf 2
    have f3 := b.rf 3
    have c0' := b.c0
    have c1' := b.c1
    have c2' := b.c2
    have c3' := b.c3
    obtain ⟨wa, wc, ey⟩ := own_any b.wo
    subst ey
    have NP : Hid (∃ J : Gr, J.v = .agg #[.int .i64 m, .int .i64 2, .slice wa C.length wc, .slice (some ⟨bx, 0, none⟩) C.length tc] ∧ J.m = (m, 2, List.replicate C.length 1, (tl C).map (fun t => t.map (M.scN (M.tmN C.length)))) ∧ NewG w ((((wr.setCell ⟨W.heap.size, 0, none⟩ (.int .i64 m)).setCell ⟨W.heap.size, 1, none⟩ (.int .i64 2)).setCell ⟨W.heap.size, 2, none⟩ (.slice wa C.length wc)).setCell ⟨W.heap.size, 3, none⟩ (.slice (some ⟨bx, 0, none⟩) C.length tc)) J) := by
     obtain ⟨p1, p2⟩ := b.puts (.int .i64 m) (.int .i64 2) (.slice wa C.length wc) (.slice (some ⟨bx, 0, none⟩) C.length tc)
     obtain ⟨wa', wc', ta', tc', e1, e2, NG⟩ := mo_new (m := m) p1 p2 b.ge (by omega) (by rw [DL.out]; omega) (fun t ht => by
      obtain ⟨j, hj, rfl⟩ := List.getElem_of_mem ht
      have hj' : j < C.length := by rw [← DL.out]; exact hj
      obtain ⟨_, _, e3⟩ := mx.at' j hj' hj
      rw [e3, if_pos hj', List.length_map]
      have := TLn.out j hj'
      omega)
     refine ⟨_, ?_, ?_, NG⟩
     · unfold Gr.v
       rw [List.length_replicate, ← e1, ← e2]
     · unfold Gr.m
       rw [FM.out]
    have KB := hide (b.mo.below)
    have rg : Hid (w.heap.size ≤ W.heap.size) := b.ge
    clear mx b MX S FINM VV TLn FM DL ke I0
    go_wp2
    obtain ⟨e0, e1, e2, e3⟩ := put4_at (x0 := .int .i64 m) (x1 := .int .i64 2) (x2 := .slice wa C.length wc) (x3 := .slice (some ⟨bx, 0, none⟩) C.length tc) y0 y1 y2 y3
    refine bodyPost_ret (v := .agg #[.int .i64 m, .int .i64 2, .slice wa C.length wc, .slice (some ⟨bx, 0, none⟩) C.length tc]) (by simp [results, Tryz.results27, go_sem, e0, e1, e2, e3]) rfl ?_
    obtain ⟨J, j1, j2, j3⟩ := NP.out
    exact ⟨J, by rw [j1], j2, j3, lay4 KB.out rg.out⟩
def BooFitGives : Prop := ∀ (a : Option Addr) (xs : List Sx) (ca : Nat) (m r d s : Int) (W : World), RdL W a xs → Calls Tryz.prog 5 #[.slice a xs.length ca, .int .i64 m, .int .i64 r, .int .i64 d, .int .i64 s] W fun e w' => ∃ J : Gr, e = .returned (.tuple #[J.v, errV (M.booF (sms xs) m r d s)]) ∧ J.m = M.booG (sms xs) m r d s ∧ RdG w' J ∧ Below W.heap.size W w'
theorem isway_any (x : Int) (w : World) (iw : Bool) (h : Hid (iw = decide (1 ≤ x ∧ x ≤ 3))) :
 Calls Tryz.prog 68 #[.int .i64 x] w fun e w' => e = .returned (.bool iw) ∧ w' = w := by
 rcases (show x = 1 ∨ x = 2 ∨ x = 3 ∨ (x ≠ 1 ∧ x ≠ 2 ∧ x ≠ 3) from by omega) with c | c | c | ⟨c1, c2, c3⟩
 · have q1 : (x == 1) = true := by rw [beq_iff_eq]; exact c
   have E : Hid (true = iw) := by unfold Hid; rw [h.out, decide_eq_true (by omega)]
   clear c h
   go_enter Tryz.func68, Tryz.ntmps68
   go_wp2
   go_ret
   exact ⟨ret_bool E.out, rfl⟩
 · have q1 : (x == 1) = false := by rw [beq_eq_false_iff_ne]; omega
   have q2 : (x == 2) = true := by rw [beq_iff_eq]; exact c
   have E : Hid (true = iw) := by unfold Hid; rw [h.out, decide_eq_true (by omega)]
   clear c h
   go_enter Tryz.func68, Tryz.ntmps68
   go_wp2
   go_ret
   exact ⟨ret_bool E.out, rfl⟩
 · have q1 : (x == 1) = false := by rw [beq_eq_false_iff_ne]; omega
   have q2 : (x == 2) = false := by rw [beq_eq_false_iff_ne]; omega
   have q3 : (x == 3) = true := by rw [beq_iff_eq]; exact c
   have E : Hid (true = iw) := by unfold Hid; rw [h.out, decide_eq_true (by omega)]
   clear c h
   go_enter Tryz.func68, Tryz.ntmps68
   go_wp2
   go_ret
   exact ⟨ret_bool E.out, rfl⟩
 · have q1 : (x == 1) = false := by rw [beq_eq_false_iff_ne]; omega
   have q2 : (x == 2) = false := by rw [beq_eq_false_iff_ne]; omega
   have q3 : (x == 3) = false := by rw [beq_eq_false_iff_ne]; omega
   have E : Hid (false = iw) := by unfold Hid; rw [h.out, decide_eq_false (by omega)]
   clear c1 c2 c3 h
   go_enter Tryz.func68, Tryz.ntmps68
   go_wp2
   go_ret
   exact ⟨ret_bool E.out, rfl⟩
theorem kept_box {w W : World} {a0 a1 a2 a3 : Value} {t : TypeId} (h : Below (w.alloc (.cells #[a0, a1, a2, a3] t)).heap.size (w.alloc (.cells #[a0, a1, a2, a3] t)) W) :
 W.cell? ⟨w.heap.size, 0, none⟩ = some a0 ∧ W.cell? ⟨w.heap.size, 1, none⟩ = some a1 ∧ W.cell? ⟨w.heap.size, 2, none⟩ = some a2 ∧ W.cell? ⟨w.heap.size, 3, none⟩ = some a3 := by
 have hs : w.heap.size < (w.alloc (.cells #[a0, a1, a2, a3] t)).heap.size := by simp
 exact ⟨(h.cell (p := ⟨w.heap.size, 0, none⟩) hs).trans (World.cell?_alloc_at _ _ _ 0 rfl), (h.cell (p := ⟨w.heap.size, 1, none⟩) hs).trans (World.cell?_alloc_at _ _ _ 1 rfl), (h.cell (p := ⟨w.heap.size, 2, none⟩) hs).trans (World.cell?_alloc_at _ _ _ 2 rfl), (h.cell (p := ⟨w.heap.size, 3, none⟩) hs).trans (World.cell?_alloc_at _ _ _ 3 rfl)⟩
theorem M.grove_rng {g : M.Gv} (h : M.gf g < 0 ∨ 8 < M.gf g ∨ M.gw g < 1 ∨ 3 < M.gw g) : M.groveF g = 1 := by unfold M.groveF; rw [if_pos h]
theorem err_num (c : Int) (h : c ≠ 0) : Ending.returned (.iface 74 (.int .i64 c)) = .returned (errV c) := by rw [err_some h]
theorem err_is {c d : Int} (h : c = d) (h0 : c ≠ 0) : Ending.returned (.iface 74 (.int .i64 c)) = .returned (errV d) := by rw [← h, err_some h0]
theorem err_none {d : Int} (h : d = 0) : Ending.returned .nilIface = .returned (errV d) := by rw [err_nil h]
def M.wtsF (ws : List Int) (n : Nat) : Int := if n = 0 then 5 else if 12 < n then 4 else if ws.length ≠ n then 3 else if ws.any M.wBad = true then 1 else 0
set_option maxHeartbeats 4000000 in
theorem gwts_any (a : Option Addr) (ws : List Int) (ca n : Nat) (w : World) (h : Rd w a ws) :
 Calls Tryz.prog 69 #[.slice a ws.length ca, .int .i64 (n : Nat)] w fun e w' => e = .returned (errV (M.wtsF ws n)) ∧ w' = w := by
 have hm2 : ws.length ≤ 9223372036854775807 := h.1
 have HR := hide h
 clear h
 unfold M.wtsF
 by_cases t0 : n = 0
 · rw [if_pos t0]
   have q4 : ((n : Int) == 0) = true := by rw [beq_iff_eq]; omega
   clear t0
   go_enter Tryz.func69, Tryz.ntmps69
   go_wp2
   go_ret
   exact ⟨err_num 5 (by decide), rfl⟩
 · rw [if_neg t0]
   have q4 : ((n : Int) == 0) = false := by rw [beq_eq_false_iff_ne]; omega
   have t0' : 0 < n := by omega
   by_cases t12 : 12 < n
   · rw [if_pos t12]
     have q5 : decide (12 < (n : Int)) = true := decide_eq_true (by omega)
     clear t0 t12 t0'
     go_enter Tryz.func69, Tryz.ntmps69
     go_wp2
     go_ret
     exact ⟨err_num 4 (by decide), rfl⟩
   · rw [if_neg t12]
     have q5 : decide (12 < (n : Int)) = false := decide_eq_false (by omega)
     by_cases tw : ws.length ≠ n
     · rw [if_pos tw]
       have q6 : ((ws.length : Int) != (n : Int)) = true := by rw [bne_iff_ne]; omega
       clear t0 t12 t0' tw
       go_enter Tryz.func69, Tryz.ntmps69
       go_wp2
       go_ret
       exact ⟨err_num 3 (by decide), rfl⟩
     · rw [if_neg tw]
       have WB : Hid (∀ k (h : k < ws.length), M.wBad (ws.getD k 0) = true → ws.any M.wBad = true) := fun k h e => List.any_eq_true.2 ⟨_, by rw [M.getD_at h]; exact List.getElem_mem h, e⟩
       have WN : Hid ((∀ k, k < ws.length → M.wBad (ws.getD k 0) = false) → ws.any M.wBad = false) := fun h => by
        cases e : ws.any M.wBad with
        | false => rfl
        | true =>
          obtain ⟨x, hx, e2⟩ := List.any_eq_true.1 e
          obtain ⟨i, hi, rfl⟩ := List.getElem_of_mem hx
          have := h i hi
          rw [M.getD_at hi, e2] at this
          cases this
       have q6 : ((ws.length : Int) != (n : Int)) = false := by rw [bne_eq_false_iff_eq]; omega
       obtain ⟨bw, ow, ewa, hbw, hcw0⟩ := HR.out.2 (by intro e; rw [e] at tw; simp at tw; omega)
       have HCW := hide hcw0
       subst ewa
       clear HR t0 t12 tw t0' hcw0
       generalize hAB : ws.any M.wBad = AB at *
       have HAB := hide hAB
       clear hAB
       generalize hRV : (if AB = true then (1 : Int) else 0) = RV
       have HRV := hide hRV
       clear hRV
       go_enter Tryz.func69, Tryz.ntmps69
       go_wp2
       go_loopw [20] (fun i wr => ∃ k : Nat, k ≤ ws.length ∧ i = .int .i64 k ∧ Hid (∀ j, j < k → M.wBad (ws.getD j 0) = false) ∧ wr = w) (fun i _ => ws.length - (intOf i).toNat)
       case atStart => exact ⟨0, Nat.zero_le _, rfl, fun j hj => by omega, rfl⟩
       case round =>
        obtain ⟨k, hk, rfl, I, ew⟩ := hrel
        subst ew
        by_cases hlt : k < ws.length
        · have cw := HCW.out k hlt
          have kz : (k : Int) < (ws.length : Int) := by omega
          have wb : M.wBad (ws.getD k 0) = (decide (ws.getD k 0 < 1) || decide (1000 < ws.getD k 0)) := rfl
          by_cases b1 : ws.getD k 0 < 1
          · have E : Hid (AB = true) := WB.out k hlt (by rw [wb, decide_eq_true b1]; rfl)
            have p1 : decide (ws.getD k 0 < 1) = true := decide_eq_true b1
            have RE : Hid ((1 : Int) = RV) := by unfold Hid; rw [← HRV.out, if_pos E.out]
            clear WB WN wb b1 E HCW I
            generalize ws.getD k 0 = z at *
            go_wp2
            go_ret
            exact ⟨err_is RE.out (by decide), rfl⟩
          · by_cases b2 : 1000 < ws.getD k 0
            · have E : Hid (AB = true) := WB.out k hlt (by rw [wb, decide_eq_true b2]; simp)
              have p1 : decide (ws.getD k 0 < 1) = false := decide_eq_false b1
              have p2 : decide (1000 < ws.getD k 0) = true := decide_eq_true b2
              have RE : Hid ((1 : Int) = RV) := by unfold Hid; rw [← HRV.out, if_pos E.out]
              clear WB WN wb b1 b2 E HCW I
              generalize ws.getD k 0 = z at *
              go_wp2
              go_ret
              exact ⟨err_is RE.out (by decide), rfl⟩
            · have p1 : decide (ws.getD k 0 < 1) = false := decide_eq_false b1
              have p2 : decide (1000 < ws.getD k 0) = false := decide_eq_false b2
              have N : Hid (∀ j, j < k + 1 → M.wBad (ws.getD j 0) = false) := fun j hj => by
               by_cases e : j = k
               · rw [e, wb, p1, p2]; rfl
               · exact I.out j (by omega)
              clear WB WN wb b1 b2 HCW I
              generalize ws.getD k 0 = z at *
              go_wp2
              go_roundw
              case rel => exact ⟨k + 1, by omega, by go_num, N, trivial⟩
              case measure => simp [intOf]; omega
        · have E : Hid (AB = false) := WN.out (fun j hj => I.out j (by omega))
          have RE : Hid (RV = 0) := by unfold Hid; rw [← HRV.out, E.out]; rfl
          clear WB WN I E HAB HCW
          go_wp2
          go_ret
          exact ⟨err_none RE.out, rfl⟩
theorem M.grove_wts {g : M.Gv} (h : ¬ (M.gf g < 0 ∨ 8 < M.gf g ∨ M.gw g < 1 ∨ 3 < M.gw g)) : M.groveF g = if M.wtsF (M.gs g) (M.gt g).length ≠ 0 then M.wtsF (M.gs g) (M.gt g).length else M.treesF (M.gf g) (M.gt g) := by
 unfold M.groveF M.wtsF
 rw [if_neg h]
 repeat' split
 all_goals first | rfl | omega | simp_all
set_option maxHeartbeats 16000000 in
set_option maxRecDepth 10000 in
theorem gcheck_any (G : Gr) (w : World) (h : RdG w G) :
 Calls Tryz.prog 28 #[G.v] w fun e w' => e = .returned (errV (M.groveF G.m)) ∧ Below w.heap.size w w' := by
 have hm1 : G.ks.length ≤ 9223372036854775807 := h.2.1
 have hm2 : G.ws.length ≤ 9223372036854775807 := h.1.1
 have HG := hide h
 have tlen : (M.gt G.m).length = G.ks.length := tl_len G.ks
 have B0 : Hid (∀ o, Below w.heap.size w (w.alloc o)) := fun o => (Below.refl _ w).alloc (Nat.le_refl _) o
 obtain ⟨iw, hiw⟩ : ∃ iw : Bool, iw = decide (1 ≤ G.w ∧ G.w ≤ 3) := ⟨_, rfl⟩
 have IW := hide (fun W => isway_any G.w W iw hiw)
 have CW := hide (fun W (hW : Below w.heap.size w W) => gwts_any G.wa G.ws G.wc G.ks.length W (HG.out.below hW).1)
 clear h
 unfold Gr.v
 by_cases hR : M.gf G.m < 0 ∨ 8 < M.gf G.m ∨ M.gw G.m < 1 ∨ 3 < M.gw G.m
 · rw [M.grove_rng hR]
   have hR' : G.f < 0 ∨ 8 < G.f ∨ G.w < 1 ∨ 3 < G.w := hR
   clear hR tlen HG CW
   by_cases c0 : G.f < 0
   · have q0 : decide (G.f < 0) = true := decide_eq_true (by omega)
     clear hR' c0 hiw
     go_enter Tryz.func28, Tryz.ntmps28
     go_wp2
     go_ret
     exact ⟨err_num 1 (by decide), B0.out _⟩
   · by_cases c1 : 8 < G.f
     · have q0 : decide (G.f < 0) = false := decide_eq_false (by omega)
       have q1 : decide (8 < G.f) = true := decide_eq_true (by omega)
       clear hR' c0 c1 hiw
       go_enter Tryz.func28, Tryz.ntmps28
       go_wp2
       go_ret
       exact ⟨err_num 1 (by decide), B0.out _⟩
     · have q0 : decide (G.f < 0) = false := decide_eq_false (by omega)
       have q1 : decide (8 < G.f) = false := decide_eq_false (by omega)
       have e : iw = false := by rw [hiw, decide_eq_false (by omega)]
       subst e
       clear hR' c0 c1 hiw
       go_enter Tryz.func28, Tryz.ntmps28
       go_wp2_with (go_at_call 68; refine (IW.out _).mono ?_; rintro e w1 ⟨rfl, e1⟩; subst w1)
       go_ret
       exact ⟨err_num 1 (by decide), B0.out _⟩
 · have hR' : ¬ (G.f < 0 ∨ 8 < G.f ∨ G.w < 1 ∨ 3 < G.w) := hR
   have q0 : decide (G.f < 0) = false := decide_eq_false (by omega)
   have q1 : decide (8 < G.f) = false := decide_eq_false (by omega)
   have e : iw = true := by rw [hiw, decide_eq_true (by omega)]
   subst e
   have E0 : M.groveF G.m = if M.wtsF G.ws G.ks.length ≠ 0 then M.wtsF G.ws G.ks.length else M.treesF G.f (tl G.ks) := by
    rw [← tlen]; exact M.grove_wts hR
   rw [E0]
   clear hR E0 hiw hR'
   by_cases hw : M.wtsF G.ws G.ks.length ≠ 0
   · rw [if_pos hw]
     have HW := hide hw
     rw [err_some hw] at CW
     clear tlen HG hw
     generalize M.wtsF G.ws G.ks.length = wf at *
     go_enter Tryz.func28, Tryz.ntmps28
     go_wp2_with (first
      | (go_at_call 68; refine (IW.out _).mono ?_; rintro e w1 ⟨rfl, e1⟩; subst w1)
      | (go_at_call 69; refine (CW.out _ (B0.out _)).mono ?_; rintro e w2 ⟨rfl, e2⟩; subst w2))
     go_ret
     exact ⟨err_num _ HW.out, B0.out _⟩
   · rw [if_neg hw]
     have w0 : M.wtsF G.ws G.ks.length = 0 := by omega
     rw [w0, err_nil rfl] at CW
     have t0' : 0 < G.ks.length := by
      rcases Nat.eq_zero_or_pos G.ks.length with q | q
      · unfold M.wtsF at w0; rw [if_pos q] at w0; cases w0
      · exact q
     have n12 : G.ks.length ≤ 12 := by
      unfold M.wtsF at w0; rw [if_neg (by omega)] at w0
      by_cases q : 12 < G.ks.length
      · rw [if_pos q] at w0; cases w0
      · omega
     have TA : Hid (∀ k, k < G.ks.length → (∀ j, j < k → (M.treeF ((tl G.ks).getD j []) G.f).2 = 0) → (M.treeF ((tl G.ks).getD k []) G.f).2 ≠ 0 → M.treesF G.f (tl G.ks) = (M.treeF ((tl G.ks).getD k []) G.f).2) := fun k hk h hn => M.trees_at (by rw [tl_len]; exact hk) h hn
     have TN : Hid ((∀ j, j < G.ks.length → (M.treeF ((tl G.ks).getD j []) G.f).2 = 0) → M.treesF G.f (tl G.ks) = 0) := fun h => M.trees_all (fun j hj => h j (by rw [tl_len] at hj; exact hj))
     have TL : Hid (∀ k (h : k < G.ks.length), (tl G.ks).getD k [] = G.ks[k].2.1) := fun k h => tl_at G.ks h
     have RT : Hid (∀ W, Below w.heap.size w W → RdT W G.ta G.ks) := fun W hW => (HG.out.below hW).2
     obtain ⟨bt, ot, eta, hbt, hct0⟩ := HG.out.2.2.2 (by intro e; rw [e] at t0'; simp at t0')
     have HCT : Hid (∀ W, Below w.heap.size w W → ∀ i (hi : i < G.ks.length), W.cell? ⟨bt, ot + i, none⟩ = some (tV G.ks[i])) := fun W hW i hi => (hW.cell (p := ⟨bt, ot + i, none⟩) hbt).trans (hct0 i hi)
     rw [eta]
     clear tlen HG hw w0 hct0 hbt eta
     generalize M.treesF G.f (tl G.ks) = TF at *
     have KG : Hid (∀ W, Below (w.alloc (.cells #[.int .i64 G.f, .int .i64 G.w, .slice G.wa G.ws.length G.wc, .slice (some ⟨bt, ot, none⟩) G.ks.length G.tc] 27)).heap.size (w.alloc (.cells #[.int .i64 G.f, .int .i64 G.w, .slice G.wa G.ws.length G.wc, .slice (some ⟨bt, ot, none⟩) G.ks.length G.tc] 27)) W → Below w.heap.size w W ∧ W.cell? ⟨w.heap.size, 0, none⟩ = some (.int .i64 G.f) ∧ W.cell? ⟨w.heap.size, 3, none⟩ = some (.slice (some ⟨bt, ot, none⟩) G.ks.length G.tc)) := fun W hW =>
      ⟨below_on ((Below.refl _ w).alloc (Nat.le_refl _) _) hW, (kept_box hW).1, (kept_box hW).2.2.2⟩
     go_enter Tryz.func28, Tryz.ntmps28
     go_wp2_with (first
      | (go_at_call 68; refine (IW.out _).mono ?_; rintro e w1 ⟨rfl, e1⟩; subst w1)
      | (go_at_call 69; refine (CW.out _ (B0.out _)).mono ?_; rintro e w2 ⟨rfl, e2⟩; subst w2))
     go_loopw [35] (fun i wr => ∃ k : Nat, k ≤ G.ks.length ∧ i = .int .i64 k ∧ Hid (∀ j, j < k → (M.treeF ((tl G.ks).getD j []) G.f).2 = 0) ∧ Hid (Below (w.alloc (.cells #[.int .i64 G.f, .int .i64 G.w, .slice G.wa G.ws.length G.wc, .slice (some ⟨bt, ot, none⟩) G.ks.length G.tc] 27)).heap.size (w.alloc (.cells #[.int .i64 G.f, .int .i64 G.w, .slice G.wa G.ws.length G.wc, .slice (some ⟨bt, ot, none⟩) G.ks.length G.tc] 27)) wr)) (fun i _ => G.ks.length - (intOf i).toNat)
     case atStart => exact ⟨0, Nat.zero_le _, rfl, fun j hj => by omega, Below.refl _ _⟩
     case round =>
      obtain ⟨k, hk, rfl, I, K⟩ := hrel
      obtain ⟨kw, c0, c3⟩ := KG.out _ K.out
      by_cases hlt : k < G.ks.length
      · obtain ⟨hk1, hk2, hk3⟩ := RT.out wr kw
        have ct := HCT.out wr kw k hlt
        have rk := hk2 _ (List.getElem_mem hlt)
        have TE := TL.out k hlt
        have TR := hide (tcheck_any G.ks[k].1 G.ks[k].2.1 G.ks[k].2.2 G.f wr rk)
        have TAK := hide (TA.out k hlt I.out)
        rw [TE] at TAK
        have kz : (k : Int) < (G.ks.length : Int) := by omega
        unfold tV at ct
        have N : Hid ((M.treeF G.ks[k].2.1 G.f).2 = 0 → ∀ j, j < k + 1 → (M.treeF ((tl G.ks).getD j []) G.f).2 = 0) := fun hz j hj => by
         by_cases e : j = k
         · rw [e, TE]; exact hz
         · exact I.out j (by omega)
        clear hk1 hk2 hk3 HCT rk TE TA TN TL RT I
        generalize (M.treeF G.ks[k].2.1 G.f).2 = te at *
        generalize (M.treeF G.ks[k].2.1 G.f).1 = tp at *
        generalize G.ks[k].2.1.length = tn at *
        generalize G.ks[k].2.2 = tcc at *
        generalize G.ks[k].1 = ta at *
        by_cases hz : te = 0
        · rw [err_nil hz] at TR
          have NN := hide (N.out hz)
          clear hz N TAK
          go_wp2_with (go_at_call 70; refine TR.out.mono ?_; rintro e w5 ⟨rfl, hb5⟩; have K6 := hide (below_on K.out hb5))
          go_roundw
          case rel => exact ⟨k + 1, by omega, by go_num, NN, K6⟩
          case measure => simp [intOf]; omega
        · rw [err_some hz] at TR
          have TE2 := hide (TAK.out hz)
          have HZ := hide hz
          clear hz N TAK
          go_wp2_with (go_at_call 70; refine TR.out.mono ?_; rintro e w5 ⟨rfl, hb5⟩; have kw6 := below_on kw hb5)
          go_ret
          exact ⟨err_is (by rw [TE2.out]) HZ.out, kw6⟩
      · have TZ : Hid (TF = 0) := TN.out (fun j hj => I.out j (by omega))
        clear TA TN TL RT I HCT
        go_wp2
        go_ret
        exact ⟨err_none TZ.out, kw⟩
def EvalGives : Prop := ∀ (G : Gr) (b : Option Addr) (xs : List Int) (cb : Nat) (W : World), RdG W G → Rd W b xs → Calls Tryz.prog 17 #[G.v, .slice b xs.length cb] W fun e w' => e = .returned (.tuple #[.int .i64 (M.evalG G.m xs), errV (M.standF G.m xs)]) ∧ Below W.heap.size W w'
def EachGives : Prop := ∀ (G : Gr) (b : Option Addr) (xs : List Int) (cb : Nat) (W : World), RdG W G → Rd W b xs → Calls Tryz.prog 47 #[G.v, .slice b xs.length cb] W fun e w' => ∃ ag cg, e = .returned (.tuple #[.slice ag (M.eachV G.m xs).length cg, errV (M.standF G.m xs)]) ∧ Rd w' ag (M.eachV G.m xs) ∧ Below W.heap.size W w'
noncomputable def M.prunG (g : M.Gv) : M.Gv := if M.groveF g = 0 then (M.gf g, M.gw g, M.gs g, (M.gt g).map fun t => M.prunV t (M.gf g)) else (0, 0, [], [])
def PruneGives : Prop := ∀ (G : Gr) (W : World), RdG W G → Calls Tryz.prog 7 #[G.v] W fun e w' => ∃ J : Gr, e = .returned (.tuple #[J.v, errV (M.groveF G.m)]) ∧ J.m = M.prunG G.m ∧ RdG w' J ∧ Below W.heap.size W w'
end Go.Proofs.YtelncekgjfpogahGreatDoor
