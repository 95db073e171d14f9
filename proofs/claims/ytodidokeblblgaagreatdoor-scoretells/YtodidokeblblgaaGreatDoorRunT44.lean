/-
  Several texts as one: ScBx.
-/
import Derived.Test.YtodidokeblblgaaGreatDoorRunA34
namespace Go.Proofs.YtodidokeblblgaaGreatDoor
open Go.ChangeShapes Go.WideShapes Go.ChangeAt Go.RowKit Go.Lib Go.Maps
set_option linter.unusedVariables false
theorem rdc_at {w : World} {a : Option Addr} {l : List CaC} (h : RdC w a l) {k : Nat} (hk : k < l.length) : ∃ b off, a = some ⟨b, off, none⟩ ∧ b < w.heap.size ∧ SevenAt w b (off + k * 7) (l.getD k ca0) ∧ CaIn w (l.getD k ca0).1 (l.getD k ca0).2.1 (l.getD k ca0).2.2 := by
  obtain ⟨b, off, e, hb, hc⟩ := h.2.2 (by intro e; rw [e] at hk; simp at hk)
  exact ⟨b, off, e, hb, hc k hk, h.2.1 _ (by rw [List.getD, List.getElem?_eq_getElem hk]; exact List.getElem_mem hk)⟩
def X3 (v : Int × Int × Int) : List Value := [.int .i64 v.1, .int .i64 v.2.1, .int .i64 v.2.2]
theorem KeptS.trans {a b c : World} {B B' B'' : Nat → Prop} (h : KeptS a B B' b) (k : KeptS b B' B'' c) : KeptS a B B'' c := ⟨Nat.le_trans h.1 k.1, fun q hq hn => by
  obtain ⟨h1, h2⟩ := h.2 q hq hn
  obtain ⟨k1, k2⟩ := k.2 q (Nat.lt_of_lt_of_le hq h.1) h1
  exact ⟨k1, k2.trans h2⟩⟩
/-- a box that was made ahead of the answer -/
theorem box_a {W w w2 : World} {s : Nat} {S : M.Sh} {n : Nat} {B B' : Nat → Prop} {t : TypeId} (h : SZ W w s S n B) (h2 : SZ W w2 s S n B') (k : KeptS (w.alloc (.cells #[.int .i64 0, .int .i64 0, .int .i64 0] t)).drew B B' w2) (y0 y1 y2 : Value) : Bx w2 w.heap.size [.int .i64 0, .int .i64 0, .int .i64 0] ∧ Hid (SZ W (((w2.setCell ⟨w.heap.size, 0, none⟩ y0).setCell ⟨w.heap.size, 1, none⟩ y1).setCell ⟨w.heap.size, 2, none⟩ y2) s S n B' ∧ (¬ B' w.heap.size ∧ Bx (((w2.setCell ⟨w.heap.size, 0, none⟩ y0).setCell ⟨w.heap.size, 1, none⟩ y1).setCell ⟨w.heap.size, 2, none⟩ y2) w.heap.size [y0, y1, y2]) ∧ KeptS w B B' (((w2.setCell ⟨w.heap.size, 0, none⟩ y0).setCell ⟨w.heap.size, 1, none⟩ y1).setCell ⟨w.heap.size, 2, none⟩ y2)) := by
  have zb := h.bl.size
  have e1 : (w.alloc (.cells #[.int .i64 0, .int .i64 0, .int .i64 0] t)).drew.heap.size = w.heap.size + 1 := by
    show (w.alloc _).heap.size = _
    simp
  have k1 := k.1
  rw [e1] at k1
  have nb : ¬ B w.heap.size := fun z => by have := (h.lt z).2; omega
  obtain ⟨n1, n2⟩ := k.2 w.heap.size (by rw [e1]; omega) nb
  have b0 : Bx w2 w.heap.size [.int .i64 0, .int .i64 0, .int .i64 0] := (bx_new w [.int .i64 0, .int .i64 0, .int .i64 0] t).keep n2
  have far : ∀ q, q ≠ w.heap.size → (((w2.setCell ⟨w.heap.size, 0, none⟩ y0).setCell ⟨w.heap.size, 1, none⟩ y1).setCell ⟨w.heap.size, 2, none⟩ y2).heap[q]? = w2.heap[q]? := fun q hq => by
    rw [heap_setCell_other _ _ _ _ hq, heap_setCell_other _ _ _ _ hq, heap_setCell_other _ _ _ _ hq]
  have sz : (((w2.setCell ⟨w.heap.size, 0, none⟩ y0).setCell ⟨w.heap.size, 1, none⟩ y1).setCell ⟨w.heap.size, 2, none⟩ y2).heap.size = w2.heap.size := by simp
  refine ⟨b0, h2.stay (((h2.bl.setCell zb _).setCell zb _).setCell zb _) (by rw [sz]; exact Nat.le_refl _) (fun q hq => far q (fun e => n1 (by rw [← e]; exact hq))), ⟨n1, (((b0.put (j := 0)).put (j := 1)).put (j := 2))⟩, by rw [sz]; omega, fun q hq hn => ?_⟩
  obtain ⟨a1, a2⟩ := k.2 q (by rw [e1]; omega) hn
  refine ⟨a1, ?_⟩
  rw [far q (by omega), a2]
  exact Below.heap_alloc _ _ _ hq
/-- a box that was made behind the answer -/
theorem box_b {W w w2 : World} {s : Nat} {S : M.Sh} {n : Nat} {B B' : Nat → Prop} {t : TypeId} (h2 : SZ W w2 s S n B') (k : KeptS w.drew B B' w2) (y0 y1 y2 : Value) : Hid (SZ W (w2.alloc (.cells #[y0, y1, y2] t)) s S n B' ∧ (¬ B' w2.heap.size ∧ Bx (w2.alloc (.cells #[y0, y1, y2] t)) w2.heap.size [y0, y1, y2]) ∧ KeptS w B B' (w2.alloc (.cells #[y0, y1, y2] t))) := by
  have ba : Below w2.heap.size w2 (w2.alloc (.cells #[y0, y1, y2] t)) := (Below.refl _ _).alloc (Nat.le_refl _) _
  exact ⟨h2.up ba, ⟨fun z => by have := (h2.lt z).2; omega, bx_new w2 [y0, y1, y2] t⟩, Nat.le_trans k.1 ba.size, fun q hq hn => by
    obtain ⟨a1, a2⟩ := k.2 q hq hn
    exact ⟨a1, (ba.block q (Nat.lt_of_lt_of_le hq k.1)).trans a2⟩⟩
end Go.Proofs.YtodidokeblblgaaGreatDoor
