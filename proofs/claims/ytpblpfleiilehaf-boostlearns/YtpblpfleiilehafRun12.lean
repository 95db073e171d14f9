/-
  Several texts as one: BooLaid, BooNew, SaCells, BooEnd.
-/
import Derived.Test.YtpblpfleiilehafRun8
import Derived.Test.YtpblpfleiilehafRun11
import Derived.Test.YtpblpfleiilehafRun7
import Derived.Test.YtpblpfleiilehafRun9
namespace Go.Proofs.Ytpblpfleiilehaf
open Go.ChangeShapes Go.WideShapes Go.ChangeAt Go.RowKit Go.Lib
set_option linter.unusedVariables false

structure BS (w : World) (gb : Nat) (m : Int) (y : Value) (x : Value) (C : List Tc) (W : World) : Prop where
  c0 : W.cell? ⟨gb, 0, none⟩ = some (.int .i64 m)
  c1 : W.cell? ⟨gb, 1, none⟩ = some (.int .i64 2)
  c2 : W.cell? ⟨gb, 2, none⟩ = some y
  c3 : W.cell? ⟨gb, 3, none⟩ = some x
  fr : ∀ i, W.frozen? ⟨gb, i, none⟩ = false
  lt : gb < W.heap.size
  ge : w.heap.size ≤ gb
  own : W.ownsRow (gb + 1) 26 1 x C.length (C.map tV)
  trees : ∀ i (h : i < C.length), W.ownsRow (gb + 1) 32 6 (tV C[i]) C[i].2.1.length (ndCells C[i].2.1)
  other : ∀ i (h : i < C.length), (tV C[i]).ownBlock ≠ none ∧ (tV C[i]).ownBlock ≠ x.ownBlock
  apart : ∀ i j (hi : i < C.length) (hj : j < C.length), i ≠ j → (tV C[i]).ownBlock ≠ (tV C[j]).ownBlock
  below : Below w.heap.size w W
theorem BS.up {w : World} {gb : Nat} {m : Int} {y x : Value} {C : List Tc} {W W' : World} (h : BS w gb m y x C W) (hb : Below W.heap.size W W') : BS w gb m y x C W' :=
  ⟨(hb.cell (p := ⟨gb, 0, none⟩) h.lt).trans h.c0, (hb.cell (p := ⟨gb, 1, none⟩) h.lt).trans h.c1, (hb.cell (p := ⟨gb, 2, none⟩) h.lt).trans h.c2, (hb.cell (p := ⟨gb, 3, none⟩) h.lt).trans h.c3, fun i => (hb.frozen (p := ⟨gb, i, none⟩) h.lt).trans (h.fr i), Nat.lt_of_lt_of_le h.lt hb.size, h.ge, own_up h.own hb, fun i hi => own_up (h.trees i hi) hb, h.other, h.apart, below_on h.below hb⟩
theorem BS.xb {w : World} {gb : Nat} {m : Int} {y x : Value} {C : List Tc} {W : World} (h : BS w gb m y x C W) : x.ownBlock ≠ some gb := fun e => by have := (h.own.lt gb e).1; omega
theorem own_ne_none {v : Value} {g : Nat} (h : v.ownBlock = some g) : v.ownBlock ≠ none := by rw [h]; exact fun e => by cases e
/-- one tree more: laid behind those that are there, and the slice stored -/
theorem BS.more {w : World} {gb : Nat} {m : Int} {y x : Value} {C : List Tc} {W : World} (h : BS w gb m y x C W) {t : Tc} {q : Nat} (ht : W.ownsRow (gb + 1) 32 6 (tV t) t.2.1.length (ndCells t.2.1)) (hq : (tV t).ownBlock = some q) (hx : x.ownBlock ≠ some q) (ha : ∀ i (hi : i < C.length), (tV C[i]).ownBlock ≠ some q)
    {o : Obj} {w5 : World} {g cap : Nat} (hown : w5.ownsRow (gb + 1) 26 1 (.slice (some ⟨g, 0, none⟩) (C.length + 1) cap) (C.length + 1) (C.map tV ++ [tV t])) (hgrow : (W.alloc o).grownBy w5 x.ownBlock) (hat : x.ownBlock = some g ∨ g = W.heap.size + 1) :
    (w5.cell? ⟨gb, 3, none⟩ = some x ∧ w5.frozen? ⟨gb, 3, none⟩ = false) ∧ BS w gb m y (.slice (some ⟨g, 0, none⟩) (C.length + 1) cap) (C ++ [t]) (w5.setCell ⟨gb, 3, none⟩ (.slice (some ⟨g, 0, none⟩) (C.length + 1) cap)) := by
  have hgr : W.grownBy w5 x.ownBlock := grown_trans (World.grownBy_alloc W o x.ownBlock) hgrow (.inl rfl)
  have xb := h.xb
  have cf : ∀ i, w5.cell? ⟨gb, i, none⟩ = W.cell? ⟨gb, i, none⟩ := fun i => hgr.cell_far ⟨gb, i, none⟩ h.lt (fun e => xb e.symm)
  have ff : ∀ i, w5.frozen? ⟨gb, i, none⟩ = W.frozen? ⟨gb, i, none⟩ := fun i => hgr.frozen_far ⟨gb, i, none⟩ h.lt (fun e => xb e.symm)
  have gp : gb + 1 ≤ g := (hown.lt g rfl).1
  have ob : (Value.slice (some ⟨g, 0, none⟩) (C.length + 1) cap).ownBlock = some g := rfl
  have ne : ∀ {v : Value} {q : Nat}, v.ownBlock = some q → gb + 1 ≤ q → v.ownBlock ≠ some gb := fun hv hq e => by rw [hv] at e; cases e; omega
  have kt : ∀ {v : Value} {n : Nat} {l : List Value}, W.ownsRow (gb + 1) 32 6 v n l → v.ownBlock ≠ x.ownBlock → v.ownBlock ≠ none → (w5.setCell ⟨gb, 3, none⟩ (.slice (some ⟨g, 0, none⟩) (C.length + 1) cap)).ownsRow (gb + 1) 32 6 v n l := fun {v n l} hv h1 h2 => by
    have k1 := hv.kept hgr (.inr h1)
    refine k1.kept grown_set (.inr fun e => ?_)
    have := (hv.lt gb e).1
    omega
  have fresh : ∀ {v : Value} {n : Nat} {l : List Value}, W.ownsRow (gb + 1) 32 6 v n l → v.ownBlock ≠ x.ownBlock → v.ownBlock ≠ some g := fun {v n l} hv h1 e => by
    rcases hat with q1 | q1
    · exact h1 (e.trans q1.symm)
    · have := (hv.lt g e).2; omega
  have len : (C ++ [t]).length = C.length + 1 := by simp
  refine ⟨⟨(cf 3).trans h.c3, (ff 3).trans (h.fr 3)⟩, ⟨?_, ?_, ?_, ?_, ?_, ?_, h.ge, ?_, ?_, ?_, ?_, ?_⟩⟩
  · rw [World.cell?_setCell_other _ _ _ _ (by intro e; cases e)]; exact (cf 0).trans h.c0
  · rw [World.cell?_setCell_other _ _ _ _ (by intro e; cases e)]; exact (cf 1).trans h.c1
  · rw [World.cell?_setCell_other _ _ _ _ (by intro e; cases e)]; exact (cf 2).trans h.c2
  · exact World.cell?_setCell_same (u := x) _ _ _ ((cf 3).trans h.c3)
  · intro i; simpa using (ff i).trans (h.fr i)
  · have := hgr.size; have := h.lt; simp; omega
  · rw [len, List.map_append]
    exact hown.kept grown_set (.inr fun e => by rw [ob] at e; cases e; omega)
  · intro i hi
    by_cases c : i < C.length
    · rw [show (C ++ [t])[i] = C[i] from List.getElem_append_left c]
      exact kt (h.trees i c) (h.other i c).2 (h.other i c).1
    · have ei : i = C.length := by rw [len] at hi; omega
      subst ei
      rw [show (C ++ [t])[C.length]'hi = t by simp]
      exact kt ht (fun e => hx (e.symm.trans hq)) (own_ne_none hq)
  · intro i hi
    rw [ob]
    by_cases c : i < C.length
    · rw [show (C ++ [t])[i] = C[i] from List.getElem_append_left c]
      exact ⟨(h.other i c).1, fresh (h.trees i c) (h.other i c).2⟩
    · have ei : i = C.length := by rw [len] at hi; omega
      subst ei
      rw [show (C ++ [t])[C.length]'hi = t by simp]
      exact ⟨own_ne_none hq, fresh ht (fun e => hx (e.symm.trans hq))⟩
  · intro i j hi hj hij
    rw [len] at hi hj
    by_cases c : i < C.length
    · by_cases d : j < C.length
      · rw [show (C ++ [t])[i] = C[i] from List.getElem_append_left c, show (C ++ [t])[j] = C[j] from List.getElem_append_left d]
        exact h.apart i j c d hij
      · have ej : j = C.length := by omega
        subst ej
        rw [show (C ++ [t])[i] = C[i] from List.getElem_append_left c, show (C ++ [t])[C.length]'(by rw [len]; omega) = t by simp, hq]
        exact ha i c
    · have ei : i = C.length := by omega
      subst ei
      have d : j < C.length := by omega
      rw [show (C ++ [t])[j] = C[j] from List.getElem_append_left d, show (C ++ [t])[C.length]'(by rw [len]; omega) = t by simp, hq]
      exact fun e => ha j d e.symm
  · exact (h.below.grown hgr h.below.size (fun k hk => by have := (h.own.lt k hk).1; have := h.ge; omega)).setCell (p := ⟨gb, 3, none⟩) h.ge _

end Go.Proofs.Ytpblpfleiilehaf

namespace Go.Proofs.Ytpblpfleiilehaf
open Go.ChangeShapes Go.WideShapes Go.ChangeAt Go.RowKit Go.Lib
set_option linter.unusedVariables false

/-- a grove whose weights and trees lie in blocks that are new -/
def NewG (W w' : World) (J : Gr) : Prop := ∀ W'' : World, w'.heap.size ≤ W''.heap.size → (∀ b o, W.heap.size ≤ b → W''.cell? ⟨b, o, none⟩ = w'.cell? ⟨b, o, none⟩) → RdG W'' J

end Go.Proofs.Ytpblpfleiilehaf

namespace Go.Proofs.Ytpblpfleiilehaf
open Go.ChangeShapes Go.WideShapes Go.ChangeAt Go.RowKit Go.Lib
set_option linter.unusedVariables false

/-! ### samples as cells -/
def saCells (xs : List Sx) : List Value := xs.flatMap fun x => [sxV x, .int .i64 x.2.2.2]
theorem saCells_snoc (xs : List Sx) (x : Sx) : saCells (xs ++ [x]) = saCells xs ++ [sxV x, .int .i64 x.2.2.2] := by simp [saCells]
theorem saCells_at : ∀ (xs : List Sx) (i : Nat) (h : i < xs.length), (saCells xs)[i * 2]? = some (sxV xs[i]) ∧ (saCells xs)[i * 2 + 1]? = some (.int .i64 xs[i].2.2.2)
  | [], i, h => by simp at h
  | x :: t, 0, h => ⟨rfl, rfl⟩
  | x :: t, i + 1, h => by
    have := saCells_at t i (by simpa using h)
    have e : saCells (x :: t) = sxV x :: .int .i64 x.2.2.2 :: saCells t := rfl
    rw [e, show (i + 1) * 2 = i * 2 + 1 + 1 by omega]
    simpa using this
theorem own_rdL {w : World} {base n : Nat} {v : Value} {xs : List Sx} (hn : xs.length = n) (hm : n ≤ maxLen) (h : w.ownsRow base 25 2 v n (saCells xs)) (hr : ∀ x ∈ xs, Rd w x.1 x.2.1) : ∃ a cap, v = .slice a n cap ∧ RdL w a xs := by
  subst hn
  rcases h.2 with ⟨hv, h0⟩ | ⟨g, cap, cur, hv, hb, hg, h1, h2, h3, h4⟩
  · have e : xs = [] := List.length_eq_zero_iff.1 h0
    subst e
    exact ⟨none, 0, hv, ⟨Nat.zero_le _, hr, fun h => absurd rfl h⟩⟩
  · subst hv
    refine ⟨_, cap, rfl, ⟨hm, hr, fun _ => ⟨g, 0, rfl, (Array.getElem?_eq_some_iff.1 hg).1, fun i hi => ?_⟩⟩⟩
    obtain ⟨q0, q1⟩ := saCells_at xs i hi
    rw [Nat.zero_add]
    exact ⟨(h.cellAt (i * 2) (by omega)).trans q0, (h.cellAt (i * 2 + 1) (by omega)).trans q1⟩
theorem own_any {w : World} {base n e size : Nat} {v : Value} {l : List Value} (h : w.ownsRow base e size v n l) : ∃ va vc, v = .slice va n vc := by
  rcases h.2 with ⟨hv, h0⟩ | ⟨g, cap, cur, hv, _⟩
  · exact ⟨none, 0, by rw [hv, h0]⟩
  · exact ⟨some ⟨g, 0, none⟩, cap, hv⟩
theorem infoSam : (Try.prog.info? 25).map (fun i => (i.zero, i.size, i.bytes)) = some (some (.agg #[.slice none 0 0, .int .i64 0]), 2, 32) := by kernel_rfl

end Go.Proofs.Ytpblpfleiilehaf

namespace Go.Proofs.Ytpblpfleiilehaf
open Go.ChangeShapes Go.WideShapes Go.ChangeAt Go.RowKit Go.Lib
set_option linter.unusedVariables false

/-! ### the values of nodes -/
theorem ndCells_setV : ∀ (ts : List M.Nd) (i : Nat), i < ts.length → ∀ v : Int, (ndCells ts).set (i * 6 + 5) (.int .i64 v) = ndCells (ts.set i (M.nf (M.nAt ts i), M.nc (M.nAt ts i), M.nl (M.nAt ts i), M.nr (M.nAt ts i), M.ns (M.nAt ts i), v))
  | [], i, h, v => by simp at h
  | n :: t, 0, h, v => rfl
  | n :: t, i + 1, h, v => by
    have ih := ndCells_setV t i (by simpa using h) v
    have e : M.nAt (n :: t) (i + 1) = M.nAt t i := by simp [M.nAt]
    rw [e, List.set_cons_succ, ndCells_cons, ndCells_cons, ← ih, show (i + 1) * 6 + 5 = (i * 6 + 5) + 1 + 1 + 1 + 1 + 1 + 1 by omega]
    simp only [List.set_cons_succ]
/-- the first of them turned -/
def scK (f : Int → Int) (ts : List M.Nd) (k : Nat) : List M.Nd := (ts.take k).map (M.scN f) ++ ts.drop k
theorem scK_len (f : Int → Int) (ts : List M.Nd) (k : Nat) : (scK f ts k).length = ts.length := by
  unfold scK; rw [List.length_append, List.length_map, List.length_take, List.length_drop]; omega
theorem scK_zero (f : Int → Int) (ts : List M.Nd) : scK f ts 0 = ts := by unfold scK; simp
theorem scK_all (f : Int → Int) (ts : List M.Nd) : scK f ts ts.length = ts.map (M.scN f) := by unfold scK; simp
theorem nAt_in (ts : List M.Nd) {k : Nat} (h : k < ts.length) : M.nAt ts k = ts[k] := by unfold M.nAt; rw [M.getD_at h]
theorem scK_at (f : Int → Int) (ts : List M.Nd) {k : Nat} (h : k < ts.length) : M.nAt (scK f ts k) k = M.nAt ts k := by
  rw [nAt_in _ (by rw [scK_len]; exact h), nAt_in _ h]
  unfold scK
  rw [List.getElem_append_right (by simp; omega)]
  simp [List.length_take, Nat.min_eq_left (Nat.le_of_lt h)]
theorem scK_next (f : Int → Int) (ts : List M.Nd) {k : Nat} (h : k < ts.length) : (scK f ts k).set k (M.scN f (M.nAt ts k)) = scK f ts (k + 1) := by
  unfold scK
  have l : ((ts.take k).map (M.scN f)).length = k := by rw [List.length_map, List.length_take]; omega
  rw [List.set_append_right _ _ (by omega), l, Nat.sub_self, List.drop_eq_getElem_cons h, List.set_cons_zero, List.take_succ_eq_append_getElem h, List.map_append, nAt_in _ h]
  simp
/-- one more, as cells -/
theorem scK_cells (f : Int → Int) (ts : List M.Nd) {k : Nat} (h : k < ts.length) : (ndCells (scK f ts k)).set (k * 6 + 5) (.int .i64 (f (M.nv (M.nAt ts k)))) = ndCells (scK f ts (k + 1)) := by
  rw [ndCells_setV _ k (by rw [scK_len]; exact h), scK_at f ts h]
  rw [← scK_next f ts h]
  rfl

/-! ### the trees of a grove, turned one behind the other -/
structure Mix (f : Int → Int) (C D : List Tc) (i k : Nat) : Prop where
  len : D.length = C.length
  at' : ∀ j (h : j < C.length) (h' : j < D.length), D[j].1 = C[j].1 ∧ D[j].2.2 = C[j].2.2 ∧ D[j].2.1 = if j < i then C[j].2.1.map (M.scN f) else if j = i then scK f C[j].2.1 k else C[j].2.1
theorem Mix.start (f : Int → Int) (C : List Tc) : Mix f C C 0 0 := ⟨rfl, fun j h h' => ⟨rfl, rfl, by rw [if_neg (Nat.not_lt_zero _)]; split; rw [scK_zero]; rfl⟩⟩
theorem Mix.next {f : Int → Int} {C D : List Tc} {i k : Nat} (h : Mix f C D i k) (hi : i < C.length) (hk : k = C[i].2.1.length) : Mix f C D (i + 1) 0 := ⟨h.len, fun j hj hj' => by
  obtain ⟨a, b, c⟩ := h.at' j hj hj'
  refine ⟨a, b, ?_⟩
  rw [c]
  by_cases e : j < i
  · rw [if_pos e, if_pos (by omega)]
  · rw [if_neg e]
    by_cases e2 : j = i
    · subst e2; rw [if_pos rfl, if_pos (by omega), hk, scK_all]
    · rw [if_neg e2, if_neg (by omega)]
      split
      · rw [scK_zero]
      · rfl⟩
theorem Mix.tree {f : Int → Int} {C D : List Tc} {i k : Nat} (h : Mix f C D i k) (hi : i < C.length) (hd : i < D.length) : D[i].1 = C[i].1 ∧ D[i].2.2 = C[i].2.2 ∧ D[i].2.1 = scK f C[i].2.1 k := by
  obtain ⟨a, b, c⟩ := h.at' i hi hd
  exact ⟨a, b, by rw [c, if_neg (Nat.lt_irrefl _), if_pos rfl]⟩
theorem Mix.turn {f : Int → Int} {C D : List Tc} {i k : Nat} (h : Mix f C D i k) (hi : i < C.length) (hd : i < D.length) : Mix f C (D.set i (D[i].1, scK f C[i].2.1 (k + 1), D[i].2.2)) i (k + 1) := ⟨by rw [List.length_set]; exact h.len, fun j hj hj' => by
  rw [List.length_set] at hj'
  obtain ⟨a, b, c⟩ := h.at' j hj hj'
  by_cases e : i = j
  · subst e
    rw [List.getElem_set_self]
    exact ⟨a, b, by rw [if_neg (Nat.lt_irrefl _), if_pos rfl]⟩
  · rw [List.getElem_set_ne e]
    refine ⟨a, b, ?_⟩
    rw [c]
    by_cases q : j < i
    · rw [if_pos q, if_pos q]
    · rw [if_neg q, if_neg q, if_neg (fun z => e z.symm), if_neg (fun z => e z.symm)]⟩
theorem Mix.fin {f : Int → Int} {C D : List Tc} (h : Mix f C D C.length 0) : tl D = (tl C).map fun t => t.map (M.scN f) := by
  unfold tl
  refine List.ext_getElem (by simp [h.len]) fun j h1 h2 => ?_
  rw [List.length_map] at h1
  have hj : j < C.length := by rw [← h.len]; exact h1
  have := (h.at' j hj h1).2.2
  rw [if_pos hj] at this
  simp [this]

/-! ### a grove while its values are turned, its weights while they are laid -/
theorem BS.tree {w : World} {gb : Nat} {m : Int} {y x : Value} {C : List Tc} {W : World} (h : BS w gb m y x C W) (i : Nat) (hi : i < C.length) : ∃ q cap, C[i].1 = some ⟨q, 0, none⟩ ∧ C[i].2.2 = cap ∧ gb + 1 ≤ q ∧ q < W.heap.size ∧ (tV C[i]).ownBlock = some q := by
  have t := h.trees i hi
  have o := (h.other i hi).1
  rcases t.2 with ⟨h0, _⟩ | ⟨q, cap, cur, hv, hb, hg, _⟩
  · rw [h0] at o; exact absurd rfl o
  · have hv' := hv
    unfold tV at hv'
    rw [Value.slice.injEq] at hv'
    exact ⟨q, cap, hv'.1, hv'.2.2, hb, (Array.getElem?_eq_some_iff.1 hg).1, by rw [hv]; rfl⟩
theorem keep_row {W : World} {base e size n q o : Nat} {v u : Value} {l : List Value} (h : W.ownsRow base e size v n l) (hq : v.ownBlock ≠ some q) : (W.setCell ⟨q, o, none⟩ u).ownsRow base e size v n l := h.kept grown_set (.inr hq)
theorem BS.turn {w : World} {gb : Nat} {m : Int} {y x : Value} {D : List Tc} {W : World} (h : BS w gb m y x D W) (i : Nat) (hi : i < D.length) {q k : Nat} (hq : (tV D[i]).ownBlock = some q) {v : Int} {ts : List M.Nd} (he : (ndCells D[i].2.1).set (k * 6 + 5) (.int .i64 v) = ndCells ts) (hl : ts.length = D[i].2.1.length) :
    BS w gb m y x (D.set i (D[i].1, ts, D[i].2.2)) (W.setCell ⟨q, k * 6 + 5, none⟩ (.int .i64 v)) := by
  have t := h.trees i hi
  have lq := t.lt q hq
  have nq : q ≠ gb := by omega
  have tv : tV (D[i].1, ts, D[i].2.2) = tV D[i] := by unfold tV; rw [hl]
  have o : ∀ (j : Nat), (W.setCell ⟨q, k * 6 + 5, none⟩ (.int .i64 v)).cell? ⟨gb, j, none⟩ = W.cell? ⟨gb, j, none⟩ := fun j => World.cell?_setCell_other _ _ _ _ (by intro e; cases e; exact nq rfl)
  refine ⟨(o 0).trans h.c0, (o 1).trans h.c1, (o 2).trans h.c2, (o 3).trans h.c3, fun j => ?_, by simpa using h.lt, h.ge, ?_, ?_, ?_, ?_, ?_⟩
  · have : (W.setCell ⟨q, k * 6 + 5, none⟩ (.int .i64 v)).frozen? ⟨gb, j, none⟩ = W.frozen? ⟨gb, j, none⟩ := by simp
    rw [this]; exact h.fr j
  · have e : (D.set i (D[i].1, ts, D[i].2.2)).map tV = D.map tV := by
      rw [List.map_set, tv]
      refine List.ext_getElem (by simp) fun j h1 h2 => ?_
      by_cases e : i = j
      · subst e; simp
      · rw [List.getElem_set_ne e]
    rw [e, List.length_set]
    exact keep_row h.own (fun e => (h.other i hi).2 (by rw [hq, e]))
  · intro j hj
    rw [List.length_set] at hj
    by_cases e : i = j
    · subst e
      rw [List.getElem_set_self, tv]
      obtain ⟨q', cap, e1, e2, _, _, e5⟩ := h.tree i hj
      have eq : q' = q := by rw [hq] at e5; cases e5; rfl
      subst eq
      have tv2 : tV D[i] = .slice (some ⟨q', 0, none⟩) D[i].2.1.length D[i].2.2 := by unfold tV; rw [e1]
      rw [tv2] at t ⊢
      have st := (t.stored (k * 6 + 5) (.int .i64 v)).1
      rw [he, ← hl] at st
      rw [← hl]
      exact st
    · rw [List.getElem_set_ne e]
      exact keep_row (h.trees j hj) (fun z => h.apart i j hi hj e (by rw [hq, z]))
  · intro j hj
    rw [List.length_set] at hj
    by_cases e : i = j
    · subst e; rw [List.getElem_set_self, tv]; exact h.other i hj
    · rw [List.getElem_set_ne e]; exact h.other j hj
  · intro a b ha hb hab
    rw [List.length_set] at ha hb
    have g : ∀ j (hj : j < D.length), tV ((D.set i (D[i].1, ts, D[i].2.2))[j]'(by rw [List.length_set]; exact hj)) = tV D[j] := fun j hj => by
      by_cases e : i = j
      · subst e; rw [List.getElem_set_self, tv]
      · rw [List.getElem_set_ne e]
    rw [g a ha, g b hb]
    exact h.apart a b ha hb hab
  · exact h.below.setCell (p := ⟨q, k * 6 + 5, none⟩) (by have := h.ge; show w.heap.size ≤ q; omega) _

/-- its weights, all 1, in a row of their own -/
structure BW (w : World) (gb : Nat) (m : Int) (y x : Value) (D : List Tc) (i : Nat) (W : World) : Prop where
  bs : BS w gb m y x D W
  wo : W.ownsRow (gb + 1) 3 1 y i ((List.replicate i (1 : Int)).map (Value.int .i64))
  wx : y.ownBlock = none ∨ y.ownBlock ≠ x.ownBlock
  wt : ∀ j (hj : j < D.length), y.ownBlock = none ∨ y.ownBlock ≠ (tV D[j]).ownBlock
theorem BW.start {w : World} {gb : Nat} {m : Int} {x : Value} {D : List Tc} {W : World} (h : BS w gb m (.slice none 0 0) x D W) : BW w gb m (.slice none 0 0) x D 0 W := ⟨h, World.ownsRow_nil _ _ _ _, .inl rfl, fun _ _ => .inl rfl⟩
theorem BW.turn {w : World} {gb : Nat} {m : Int} {y x : Value} {D : List Tc} {n : Nat} {W : World} (h : BW w gb m y x D n W) (i : Nat) (hi : i < D.length) {q k : Nat} (hq : (tV D[i]).ownBlock = some q) {v : Int} {ts : List M.Nd} (he : (ndCells D[i].2.1).set (k * 6 + 5) (.int .i64 v) = ndCells ts) (hl : ts.length = D[i].2.1.length) :
    BW w gb m y x (D.set i (D[i].1, ts, D[i].2.2)) n (W.setCell ⟨q, k * 6 + 5, none⟩ (.int .i64 v)) := by
  have tv : tV (D[i].1, ts, D[i].2.2) = tV D[i] := by unfold tV; rw [hl]
  refine ⟨h.bs.turn i hi hq he hl, ?_, h.wx, fun j hj => ?_⟩
  · refine keep_row h.wo (fun e => ?_)
    rcases h.wt i hi with z | z
    · rw [z] at e; cases e
    · exact z (by rw [hq, e])
  · rw [List.length_set] at hj
    by_cases e : i = j
    · subst e; rw [List.getElem_set_self, tv]; exact h.wt i hj
    · rw [List.getElem_set_ne e]; exact h.wt j hj
theorem BW.drew {w : World} {gb : Nat} {m : Int} {y x : Value} {D : List Tc} {n : Nat} {W W' : World} (h : BW w gb m y x D n W) (hb : Below W.heap.size W W') : BW w gb m y x D n W' := ⟨h.bs.up hb, own_up h.wo hb, h.wx, h.wt⟩
/-- one weight more, and the slice stored -/
theorem BW.more {w : World} {gb : Nat} {m : Int} {y x : Value} {D : List Tc} {n : Nat} {W : World} (h : BW w gb m y x D n W) {o : Obj} {w5 : World} {g cap : Nat}
    (hown : w5.ownsRow (gb + 1) 3 1 (.slice (some ⟨g, 0, none⟩) (n + 1) cap) (n + 1) ((List.replicate n (1 : Int)).map (Value.int .i64) ++ [.int .i64 1])) (hgrow : (W.alloc o).grownBy w5 y.ownBlock) (hat : y.ownBlock = some g ∨ g = W.heap.size + 1) :
    (w5.cell? ⟨gb, 2, none⟩ = some y ∧ w5.frozen? ⟨gb, 2, none⟩ = false) ∧ BW w gb m (.slice (some ⟨g, 0, none⟩) (n + 1) cap) x D (n + 1) (w5.setCell ⟨gb, 2, none⟩ (.slice (some ⟨g, 0, none⟩) (n + 1) cap)) := by
  have B := h.bs
  have hgr : W.grownBy w5 y.ownBlock := grown_trans (World.grownBy_alloc W o y.ownBlock) hgrow (.inl rfl)
  have yb : y.ownBlock ≠ some gb := fun e => by have := (h.wo.lt gb e).1; omega
  have cf : ∀ i, w5.cell? ⟨gb, i, none⟩ = W.cell? ⟨gb, i, none⟩ := fun i => hgr.cell_far ⟨gb, i, none⟩ B.lt (fun e => yb e.symm)
  have ff : ∀ i, w5.frozen? ⟨gb, i, none⟩ = W.frozen? ⟨gb, i, none⟩ := fun i => hgr.frozen_far ⟨gb, i, none⟩ B.lt (fun e => yb e.symm)
  have gp : gb + 1 ≤ g := (hown.lt g rfl).1
  have ob : (Value.slice (some ⟨g, 0, none⟩) (n + 1) cap).ownBlock = some g := rfl
  have kt : ∀ {e size n' : Nat} {v : Value} {l : List Value}, W.ownsRow (gb + 1) e size v n' l → (y.ownBlock = none ∨ y.ownBlock ≠ v.ownBlock) → (w5.setCell ⟨gb, 2, none⟩ (.slice (some ⟨g, 0, none⟩) (n + 1) cap)).ownsRow (gb + 1) e size v n' l := fun {e size n' v l} hv h1 => by
    refine keep_row (hv.kept hgr ?_) (fun e => by have := (hv.lt gb e).1; omega)
    rcases h1 with z | z
    · cases hv2 : v.ownBlock with
      | none => exact .inl rfl
      | some b => exact .inr (by rw [z]; simp)
    · exact .inr (fun e => z e.symm)
  have fresh : ∀ {e size n' : Nat} {v : Value} {l : List Value}, W.ownsRow (gb + 1) e size v n' l → (y.ownBlock = none ∨ y.ownBlock ≠ v.ownBlock) → v.ownBlock ≠ some g := fun {e size n' v l} hv h1 z => by
    rcases hat with q | q
    · rcases h1 with u | u
      · rw [u] at q; cases q
      · exact u (q.trans z.symm)
    · have := (hv.lt g z).2; omega
  refine ⟨⟨(cf 2).trans B.c2, (ff 2).trans (B.fr 2)⟩, ⟨⟨?_, ?_, ?_, ?_, ?_, ?_, B.ge, kt B.own h.wx, fun j hj => kt (B.trees j hj) (h.wt j hj), B.other, B.apart, ?_⟩, ?_, ?_, ?_⟩⟩
  · rw [World.cell?_setCell_other _ _ _ _ (by intro e; cases e)]; exact (cf 0).trans B.c0
  · rw [World.cell?_setCell_other _ _ _ _ (by intro e; cases e)]; exact (cf 1).trans B.c1
  · exact World.cell?_setCell_same (u := y) _ _ _ ((cf 2).trans B.c2)
  · rw [World.cell?_setCell_other _ _ _ _ (by intro e; cases e)]; exact (cf 3).trans B.c3
  · intro i; simpa using (ff i).trans (B.fr i)
  · have := hgr.size; have := B.lt; simp; omega
  · exact (B.below.grown hgr B.below.size (fun k hk => by have := (h.wo.lt k hk).1; have := B.ge; omega)).setCell (p := ⟨gb, 2, none⟩) B.ge _
  · rw [List.replicate_succ', List.map_append]
    exact keep_row hown (fun e => by rw [ob] at e; cases e; omega)
  · rw [ob]
    exact .inr (fun e => fresh B.own h.wx e.symm)
  · intro j hj
    rw [ob]
    exact .inr (fun e => fresh (B.trees j hj) (h.wt j hj) e.symm)

/-! ### what was laid is a grove, wherever its blocks are as they were -/
theorem own_far {w W : World} {base e size n B : Nat} {v : Value} {l : List Value} (h : w.ownsRow base e size v n l) (hB : B ≤ base) (hs : w.heap.size ≤ W.heap.size) (hc : ∀ b o, B ≤ b → W.cell? ⟨b, o, none⟩ = w.cell? ⟨b, o, none⟩) : (v = .slice none 0 0 ∧ n = 0) ∨ ∃ g cap, v = .slice (some ⟨g, 0, none⟩) n cap ∧ g < W.heap.size ∧ ∀ i, i < n * size → W.cell? ⟨g, i, none⟩ = l[i]? := by
  rcases h.2 with h0 | ⟨g, cap, cur, hv, hb, hg, h1, h2, h3, h4⟩
  · exact .inl h0
  · refine .inr ⟨g, cap, hv, Nat.lt_of_lt_of_le (Array.getElem?_eq_some_iff.1 hg).1 hs, fun i hi => ?_⟩
    rw [hc g i (by omega)]
    subst hv
    exact h.cellAt i hi
theorem BW.new {w w' W0 : World} {gb : Nat} {m : Int} {y x : Value} {D : List Tc} {n : Nat} (h : BW w gb m y x D n w') (hg : W0.heap.size ≤ gb) (hn : n ≤ 1000) (hD : D.length ≤ 1000) (hT : ∀ t ∈ D, t.2.1.length ≤ 1000) : ∃ wa wc ta tc, y = .slice wa n wc ∧ x = .slice ta D.length tc ∧ NewG W0 w' ⟨m, 2, wa, List.replicate n 1, wc, ta, D, tc⟩ := by
  obtain ⟨wa, wc, ey⟩ := own_any h.wo
  obtain ⟨ta, tc, ex⟩ := own_any h.bs.own
  refine ⟨wa, wc, ta, tc, ey, ex, fun W'' hs hc => ⟨⟨by rw [List.length_replicate]; unfold maxLen; omega, fun hne => ?_⟩, ⟨by unfold maxLen; show D.length ≤ _; omega, fun t ht => ?_, fun hne => ?_⟩⟩⟩
  · rcases own_far h.wo (by omega) hs hc with ⟨_, h0⟩ | ⟨g, cap, ev, hl, hc2⟩
    · subst h0; exact absurd rfl hne
    · rw [ey, Value.slice.injEq] at ev
      refine ⟨g, 0, ev.1, hl, fun i hi => ?_⟩
      rw [List.length_replicate] at hi
      rw [Nat.zero_add, hc2 i (by omega)]
      simp [hi]
  · obtain ⟨j, hj, rfl⟩ := List.getElem_of_mem ht
    have tl := hT _ ht
    refine ⟨by unfold maxLen; omega, fun hne => ?_⟩
    rcases own_far (h.bs.trees j hj) (by omega) hs hc with ⟨_, h0⟩ | ⟨g, cap, ev, hl, hc2⟩
    · exact absurd (List.length_eq_zero_iff.1 h0) hne
    · unfold tV at ev
      rw [Value.slice.injEq] at ev
      refine ⟨g, 0, ev.1, hl, fun i hi => ?_⟩
      have hi' : i < D[j].2.1.length := hi
      obtain ⟨q0, q1, q2, q3, q4, q5⟩ := ndCells_at _ i hi'
      rw [Nat.zero_add]
      exact ⟨(hc2 _ (by omega)).trans q0, (hc2 _ (by omega)).trans q1, (hc2 _ (by omega)).trans q2, (hc2 _ (by omega)).trans q3, (hc2 _ (by omega)).trans q4, (hc2 _ (by omega)).trans q5⟩
  · rcases own_far h.bs.own (by omega) hs hc with ⟨_, h0⟩ | ⟨g, cap, ev, hl, hc2⟩
    · exact absurd (List.length_eq_zero_iff.1 h0) hne
    · rw [ex, Value.slice.injEq] at ev
      refine ⟨g, 0, ev.1, hl, fun i hi => ?_⟩
      have hi' : i < D.length := hi
      rw [Nat.zero_add, hc2 i (by omega), List.getElem?_map, List.getElem?_eq_getElem hi']
      rfl

theorem M.lay_in {B : Int} (hB : 0 ≤ B) : ∀ (T : M.BT) (k : Nat), M.inV B T → ∀ n ∈ M.lay T k, -B ≤ M.nv n ∧ M.nv n ≤ B
  | .lf v, k, h, n, hn => by
    have e : n = (-1, 0, 0, 0, false, v) := by
      have : n ∈ [((-1 : Int), (0 : Int), (0 : Int), (0 : Int), false, v)] := hn
      simpa using this
    subst e
    exact h
  | .nd f c s l r, k, h, n, hn => by
    have : n ∈ (f, c, ((k + 1 : Nat) : Int), ((k + 1 + l.size : Nat) : Int), s, (0 : Int)) :: (M.lay l (k + 1) ++ M.lay r (k + 1 + l.size)) := hn
    rcases List.mem_cons.1 this with e | e
    · subst e
      exact ⟨show -B ≤ 0 by omega, hB⟩
    · rcases List.mem_append.1 e with z | z
      · exact M.lay_in hB l _ h.1 n z
      · exact M.lay_in hB r _ h.2 n z

/-- what is handed out lies ahead of all that -/
theorem newG_put {w wz W : World} {J : Gr} {x0 x1 x2 x3 : Value} (h : NewG wz W J) (hz : wz.heap.size = w.heap.size + 1) : NewG w ((((W.setCell ⟨w.heap.size, 0, none⟩ x0).setCell ⟨w.heap.size, 1, none⟩ x1).setCell ⟨w.heap.size, 2, none⟩ x2).setCell ⟨w.heap.size, 3, none⟩ x3) J := fun W'' hs hc => by
  refine h W'' (by simpa using hs) fun b o hb => ?_
  rw [hc b o (by omega)]
  have n : ∀ (V : World) (i : Nat) (v : Value), (V.setCell ⟨w.heap.size, i, none⟩ v).cell? ⟨b, o, none⟩ = V.cell? ⟨b, o, none⟩ := fun V i v => World.cell?_setCell_other _ _ _ _ (by intro e; cases e; omega)
  rw [n, n, n, n]
/-- the trees of a grove that is laid are those of a list -/
def LayC (C : List Tc) (L : List M.BT) : Prop := C.map (fun t => t.2.1) = L.map (fun T => M.lay T 0)

end Go.Proofs.Ytpblpfleiilehaf
