/-
  A node in a block of its own, written over.
-/
import Derived.Test.YtcaljnhdfbjpnaeDoorNodes
namespace Go.Proofs.YtcaljnhdfbjpnaeDoor
open Go.ChangeShapes Go.WideShapes Go.ChangeAt Go.RowKit Go.Lib
set_option linter.unusedVariables false

/-- a node's block, written over -/
abbrev put6 (W : World) (p : Nat) (x0 x1 x2 x3 x4 x5 : Value) : World := (((((W.setCell ⟨p, 0, none⟩ x0).setCell ⟨p, 1, none⟩ x1).setCell ⟨p, 2, none⟩ x2).setCell ⟨p, 3, none⟩ x3).setCell ⟨p, 4, none⟩ x4).setCell ⟨p, 5, none⟩ x5
theorem put6_cells {W : World} {p : Nat} {x0 x1 x2 x3 x4 x5 y0 y1 y2 y3 y4 y5 : Value} (h : W.cell? ⟨p, 0, none⟩ = some y0 ∧ W.cell? ⟨p, 1, none⟩ = some y1 ∧ W.cell? ⟨p, 2, none⟩ = some y2 ∧ W.cell? ⟨p, 3, none⟩ = some y3 ∧ W.cell? ⟨p, 4, none⟩ = some y4 ∧ W.cell? ⟨p, 5, none⟩ = some y5) :
    (put6 W p x0 x1 x2 x3 x4 x5).cell? ⟨p, 0, none⟩ = some x0 ∧ (put6 W p x0 x1 x2 x3 x4 x5).cell? ⟨p, 1, none⟩ = some x1 ∧ (put6 W p x0 x1 x2 x3 x4 x5).cell? ⟨p, 2, none⟩ = some x2 ∧ (put6 W p x0 x1 x2 x3 x4 x5).cell? ⟨p, 3, none⟩ = some x3 ∧ (put6 W p x0 x1 x2 x3 x4 x5).cell? ⟨p, 4, none⟩ = some x4 ∧ (put6 W p x0 x1 x2 x3 x4 x5).cell? ⟨p, 5, none⟩ = some x5 := by
  obtain ⟨h0, h1, h2, h3, h4, h5⟩ := h
  have o : ∀ (V : World) (i j : Nat) (v : Value), i ≠ j → (V.setCell ⟨p, i, none⟩ v).cell? ⟨p, j, none⟩ = V.cell? ⟨p, j, none⟩ := fun V i j v hij => World.cell?_setCell_other _ _ _ _ (by intro e; cases e; exact hij rfl)
  have s : ∀ (V : World) (j : Nat) (v u : Value), V.cell? ⟨p, j, none⟩ = some u → (V.setCell ⟨p, j, none⟩ v).cell? ⟨p, j, none⟩ = some v := fun V j v u hu => World.cell?_setCell_same (u := u) _ _ _ hu
  refine ⟨?_, ?_, ?_, ?_, ?_, ?_⟩
  · rw [o _ _ _ _ (by decide), o _ _ _ _ (by decide), o _ _ _ _ (by decide), o _ _ _ _ (by decide), o _ _ _ _ (by decide), s _ _ _ y0 h0]
  · rw [o _ _ _ _ (by decide), o _ _ _ _ (by decide), o _ _ _ _ (by decide), o _ _ _ _ (by decide), s _ _ _ y1 (by rw [o _ _ _ _ (by decide)]; exact h1)]
  · rw [o _ _ _ _ (by decide), o _ _ _ _ (by decide), o _ _ _ _ (by decide), s _ _ _ y2 (by rw [o _ _ _ _ (by decide), o _ _ _ _ (by decide)]; exact h2)]
  · rw [o _ _ _ _ (by decide), o _ _ _ _ (by decide), s _ _ _ y3 (by rw [o _ _ _ _ (by decide), o _ _ _ _ (by decide), o _ _ _ _ (by decide)]; exact h3)]
  · rw [o _ _ _ _ (by decide), s _ _ _ y4 (by rw [o _ _ _ _ (by decide), o _ _ _ _ (by decide), o _ _ _ _ (by decide), o _ _ _ _ (by decide)]; exact h4)]
  · rw [s _ _ _ y5 (by rw [o _ _ _ _ (by decide), o _ _ _ _ (by decide), o _ _ _ _ (by decide), o _ _ _ _ (by decide), o _ _ _ _ (by decide)]; exact h5)]
theorem put6_below {B : Nat} {w W : World} {p : Nat} {x0 x1 x2 x3 x4 x5 : Value} (h : Below B w W) (hp : B ≤ p) : Below B w (put6 W p x0 x1 x2 x3 x4 x5) :=
  (((((h.setCell (p := ⟨p, 0, none⟩) hp _).setCell (p := ⟨p, 1, none⟩) hp _).setCell (p := ⟨p, 2, none⟩) hp _).setCell (p := ⟨p, 3, none⟩) hp _).setCell (p := ⟨p, 4, none⟩) hp _).setCell (p := ⟨p, 5, none⟩) hp _
theorem put6_frozen {W : World} {p j : Nat} {x0 x1 x2 x3 x4 x5 : Value} (h : W.frozen? ⟨p, j, none⟩ = false) : (put6 W p x0 x1 x2 x3 x4 x5).frozen? ⟨p, j, none⟩ = false := by simpa using h
theorem put6_size {W : World} {p : Nat} {x0 x1 x2 x3 x4 x5 : Value} : (put6 W p x0 x1 x2 x3 x4 x5).heap.size = W.heap.size := by simp

/-- the node in a block -/
def Six (W : World) (p : Nat) (n : M.Nd) : Prop := W.cell? ⟨p, 0, none⟩ = some (.int .i64 (M.nf n)) ∧ W.cell? ⟨p, 1, none⟩ = some (.int .i64 (M.nc n)) ∧ W.cell? ⟨p, 2, none⟩ = some (.int .i64 (M.nl n)) ∧ W.cell? ⟨p, 3, none⟩ = some (.int .i64 (M.nr n)) ∧ W.cell? ⟨p, 4, none⟩ = some (.bool (M.ns n)) ∧ W.cell? ⟨p, 5, none⟩ = some (.int .i64 (M.nv n))
theorem Six.below {W W' : World} {p : Nat} {n : M.Nd} (h : Six W p n) (hb : Below W.heap.size W W') (hp : p < W.heap.size) : Six W' p n :=
  ⟨(hb.cell (p := ⟨p, 0, none⟩) hp).trans h.1, (hb.cell (p := ⟨p, 1, none⟩) hp).trans h.2.1, (hb.cell (p := ⟨p, 2, none⟩) hp).trans h.2.2.1, (hb.cell (p := ⟨p, 3, none⟩) hp).trans h.2.2.2.1, (hb.cell (p := ⟨p, 4, none⟩) hp).trans h.2.2.2.2.1, (hb.cell (p := ⟨p, 5, none⟩) hp).trans h.2.2.2.2.2⟩
theorem Six.drew {W : World} {p : Nat} {n : M.Nd} (h : Six W p n) : Six W.drew p n := h
theorem froz_drew {W : World} {p j : Nat} (h : W.frozen? ⟨p, j, none⟩ = false) : W.drew.frozen? ⟨p, j, none⟩ = false := h
theorem size_drew {W : World} {n : Nat} (h : n < W.heap.size) : n < W.drew.heap.size := h
/-- how far the node in a block is from the end -/
def vFar (p : Nat) (W : World) : Nat :=
  if intOf ((W.cell? ⟨p, 0, none⟩).getD (.int .i64 0)) = -1 then 0 else 2000 - min (intOf ((W.cell? ⟨p, 2, none⟩).getD (.int .i64 0))).toNat (intOf ((W.cell? ⟨p, 3, none⟩).getD (.int .i64 0))).toNat
theorem vFar_six {W : World} {p : Nat} {n : M.Nd} (h : Six W p n) : vFar p W = if M.nf n = -1 then 0 else 2000 - min (M.nl n).toNat (M.nr n).toNat := by
  unfold vFar; rw [h.1, h.2.2.1, h.2.2.2.1]; rfl

end Go.Proofs.YtcaljnhdfbjpnaeDoor
