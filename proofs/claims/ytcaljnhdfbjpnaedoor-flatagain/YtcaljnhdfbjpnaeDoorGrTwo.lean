/-
  Two groves, each in a block of its own; no condition beyond those named.
-/
import Derived.Test.YtcaljnhdfbjpnaeDoorGroves
namespace Go.Proofs.YtcaljnhdfbjpnaeDoor
open Go.ChangeShapes Go.WideShapes Go.ChangeAt Go.RowKit Go.Lib
set_option linter.unusedVariables false

theorem kept_pair {w W : World} {a0 a1 a2 a3 : Value} {t : TypeId} (h : Below (w.alloc (.cells #[a0, a1, a2, a3] t)).heap.size (w.alloc (.cells #[a0, a1, a2, a3] t)) W) :
    W.cell? ⟨w.heap.size, 0, none⟩ = some a0 ∧ W.cell? ⟨w.heap.size, 1, none⟩ = some a1 ∧ W.cell? ⟨w.heap.size, 2, none⟩ = some a2 ∧ W.cell? ⟨w.heap.size, 3, none⟩ = some a3 := by
  have hs : w.heap.size < (w.alloc (.cells #[a0, a1, a2, a3] t)).heap.size := by simp
  exact ⟨(h.cell (p := ⟨w.heap.size, 0, none⟩) hs).trans (World.cell?_alloc_at _ _ _ 0 rfl), (h.cell (p := ⟨w.heap.size, 1, none⟩) hs).trans (World.cell?_alloc_at _ _ _ 1 rfl), (h.cell (p := ⟨w.heap.size, 2, none⟩) hs).trans (World.cell?_alloc_at _ _ _ 2 rfl), (h.cell (p := ⟨w.heap.size, 3, none⟩) hs).trans (World.cell?_alloc_at _ _ _ 3 rfl)⟩
abbrev dgB (G : Gr) : Obj := .cells #[.int .i64 G.f, .int .i64 G.w, .slice G.wa G.ws.length G.wc, .slice G.ta G.ks.length G.tc] 40
structure Cx (w : World) (G O : Gr) (W : World) : Prop where
  k : Below w.heap.size w W
  x0 : W.cell? ⟨w.heap.size, 0, none⟩ = some (.int .i64 G.f)
  x1 : W.cell? ⟨w.heap.size, 1, none⟩ = some (.int .i64 G.w)
  x2 : W.cell? ⟨w.heap.size, 2, none⟩ = some (.slice G.wa G.ws.length G.wc)
  x3 : W.cell? ⟨w.heap.size, 3, none⟩ = some (.slice G.ta G.ks.length G.tc)
  y0 : W.cell? ⟨w.heap.size + 1, 0, none⟩ = some (.int .i64 O.f)
  y1 : W.cell? ⟨w.heap.size + 1, 1, none⟩ = some (.int .i64 O.w)
  y2 : W.cell? ⟨w.heap.size + 1, 2, none⟩ = some (.slice O.wa O.ws.length O.wc)
  y3 : W.cell? ⟨w.heap.size + 1, 3, none⟩ = some (.slice O.ta O.ks.length O.tc)
  s : w.heap.size + 1 < W.heap.size
theorem Cx.new (w : World) (G O : Gr) : Cx w G O ((w.alloc (dgB G)).alloc (dgB O)) := by
  have e : (w.alloc (dgB G)).heap.size = w.heap.size + 1 := by simp
  have b : Below (w.alloc (dgB G)).heap.size (w.alloc (dgB G)) ((w.alloc (dgB G)).alloc (dgB O)) := (Below.refl _ _).alloc (Nat.le_refl _) _
  have c := kept_pair b
  have d := kept_pair (Below.refl ((w.alloc (dgB G)).alloc (dgB O)).heap.size ((w.alloc (dgB G)).alloc (dgB O)))
  rw [e] at d
  exact ⟨below_on ((Below.refl _ w).alloc (Nat.le_refl _) _) b, c.1, c.2.1, c.2.2.1, c.2.2.2, d.1, d.2.1, d.2.2.1, d.2.2.2, by simp⟩
theorem Cx.up {w W W' : World} {G O : Gr} (h : Cx w G O W) (hb : Below W.heap.size W W') : Cx w G O W' := by
  have s := h.s
  have c0 : ∀ j, W'.cell? ⟨w.heap.size, j, none⟩ = W.cell? ⟨w.heap.size, j, none⟩ := fun j => hb.cell (p := ⟨w.heap.size, j, none⟩) (by show w.heap.size < _; omega)
  have c1 : ∀ j, W'.cell? ⟨w.heap.size + 1, j, none⟩ = W.cell? ⟨w.heap.size + 1, j, none⟩ := fun j => hb.cell (p := ⟨w.heap.size + 1, j, none⟩) s
  exact ⟨below_on h.k hb, (c0 _).trans h.x0, (c0 _).trans h.x1, (c0 _).trans h.x2, (c0 _).trans h.x3, (c1 _).trans h.y0, (c1 _).trans h.y1, (c1 _).trans h.y2, (c1 _).trans h.y3, Nat.lt_of_lt_of_le s hb.size⟩

end Go.Proofs.YtcaljnhdfbjpnaeDoor
