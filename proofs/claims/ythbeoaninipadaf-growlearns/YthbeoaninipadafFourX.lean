/-
  Four samples of one cell each, as a law lays them.
-/
import Derived.Test.YthbeoaninipadafGroPJ
namespace Go.Proofs.Ythbeoaninipadaf
open Go.ChangeShapes Go.WideShapes Go.ChangeAt Go.RowKit Go.Lib
set_option linter.unusedVariables false

/-- four samples of one cell each, as they are laid -/
def fourX (n : Nat) : List Sx := [(some ⟨n, 0, none⟩, [1], 1, 0), (some ⟨n + 1, 0, none⟩, [2], 1, 0), (some ⟨n + 1 + 1, 0, none⟩, [3], 1, 9), (some ⟨n + 1 + 1 + 1, 0, none⟩, [4], 1, 9)]
theorem M.four_fit : M.grwF [([1], 0), ([2], 0), ([3], 9), ([4], 9)] 1 1 1 = 0 ∧ M.grwT [([1], 0), ([2], 0), ([3], 9), ([4], 9)] 1 1 1 = [(0, 3, 1, 2, false, 0), (-1, 0, 0, 0, false, 0), (-1, 0, 0, 0, false, 9)] := by decide +kernel
/-- the world with the four rows, and behind them the samples -/
def fourW (w : World) (t u : TypeId) : World := ((((w.alloc (.cells #[.int .i64 1] t)).alloc (.cells #[.int .i64 2] t)).alloc (.cells #[.int .i64 3] t)).alloc (.cells #[.int .i64 4] t)).alloc (.cells #[.slice (some ⟨w.heap.size, 0, none⟩) 1 1, .int .i64 0, .slice (some ⟨w.heap.size + 1, 0, none⟩) 1 1, .int .i64 0, .slice (some ⟨w.heap.size + 1 + 1, 0, none⟩) 1 1, .int .i64 9, .slice (some ⟨w.heap.size + 1 + 1 + 1, 0, none⟩) 1 1, .int .i64 9] u)
theorem four_rd (w : World) (t u : TypeId) : RdL (fourW w t u) (some ⟨w.heap.size + 1 + 1 + 1 + 1, 0, none⟩) (fourX w.heap.size) := by
  have al : ∀ (W : World) (o : Obj), Below W.heap.size W (W.alloc o) := fun W o => (Below.refl _ _).alloc (Nat.le_refl _) _
  have r1 := ((((one_rd w 1 t).below (al _ (.cells #[.int .i64 2] t))).below (al _ (.cells #[.int .i64 3] t))).below (al _ (.cells #[.int .i64 4] t))).below (al _ (.cells #[.slice (some ⟨w.heap.size, 0, none⟩) 1 1, .int .i64 0, .slice (some ⟨w.heap.size + 1, 0, none⟩) 1 1, .int .i64 0, .slice (some ⟨w.heap.size + 1 + 1, 0, none⟩) 1 1, .int .i64 9, .slice (some ⟨w.heap.size + 1 + 1 + 1, 0, none⟩) 1 1, .int .i64 9] u))
  have r2 := (((one_rd (w.alloc (.cells #[.int .i64 1] t)) 2 t).below (al _ (.cells #[.int .i64 3] t))).below (al _ (.cells #[.int .i64 4] t))).below (al _ (.cells #[.slice (some ⟨w.heap.size, 0, none⟩) 1 1, .int .i64 0, .slice (some ⟨w.heap.size + 1, 0, none⟩) 1 1, .int .i64 0, .slice (some ⟨w.heap.size + 1 + 1, 0, none⟩) 1 1, .int .i64 9, .slice (some ⟨w.heap.size + 1 + 1 + 1, 0, none⟩) 1 1, .int .i64 9] u))
  have r3 := ((one_rd ((w.alloc (.cells #[.int .i64 1] t)).alloc (.cells #[.int .i64 2] t)) 3 t).below (al _ (.cells #[.int .i64 4] t))).below (al _ (.cells #[.slice (some ⟨w.heap.size, 0, none⟩) 1 1, .int .i64 0, .slice (some ⟨w.heap.size + 1, 0, none⟩) 1 1, .int .i64 0, .slice (some ⟨w.heap.size + 1 + 1, 0, none⟩) 1 1, .int .i64 9, .slice (some ⟨w.heap.size + 1 + 1 + 1, 0, none⟩) 1 1, .int .i64 9] u))
  have r4 := (one_rd (((w.alloc (.cells #[.int .i64 1] t)).alloc (.cells #[.int .i64 2] t)).alloc (.cells #[.int .i64 3] t)) 4 t).below (al _ (.cells #[.slice (some ⟨w.heap.size, 0, none⟩) 1 1, .int .i64 0, .slice (some ⟨w.heap.size + 1, 0, none⟩) 1 1, .int .i64 0, .slice (some ⟨w.heap.size + 1 + 1, 0, none⟩) 1 1, .int .i64 9, .slice (some ⟨w.heap.size + 1 + 1 + 1, 0, none⟩) 1 1, .int .i64 9] u))
  rw [show (w.alloc (.cells #[.int .i64 1] t)).heap.size = w.heap.size + 1 by simp] at r2
  rw [show ((w.alloc (.cells #[.int .i64 1] t)).alloc (.cells #[.int .i64 2] t)).heap.size = w.heap.size + 1 + 1 by simp] at r3
  rw [show (((w.alloc (.cells #[.int .i64 1] t)).alloc (.cells #[.int .i64 2] t)).alloc (.cells #[.int .i64 3] t)).heap.size = w.heap.size + 1 + 1 + 1 by simp] at r4
  unfold fourW
  refine ⟨by show 4 ≤ maxLen; unfold maxLen; decide, fun x hx => ?_, fun _ => ⟨w.heap.size + 1 + 1 + 1 + 1, 0, rfl, by simp, fun i hi => ?_⟩⟩
  · rcases List.mem_cons.1 hx with rfl | hx
    · exact r1
    · rcases List.mem_cons.1 hx with rfl | hx
      · exact r2
      · rcases List.mem_cons.1 hx with rfl | hx
        · exact r3
        · rcases List.mem_cons.1 hx with rfl | hx
          · exact r4
          · cases hx
  · have hi' : i < 4 := hi
    rcases i with _ | _ | _ | _ | i
    · exact ⟨World.cell?_alloc_at _ _ _ 0 (by simp), World.cell?_alloc_at _ _ _ 1 (by simp)⟩
    · exact ⟨World.cell?_alloc_at _ _ _ 2 (by simp), World.cell?_alloc_at _ _ _ 3 (by simp)⟩
    · exact ⟨World.cell?_alloc_at _ _ _ 4 (by simp), World.cell?_alloc_at _ _ _ 5 (by simp)⟩
    · exact ⟨World.cell?_alloc_at _ _ _ 6 (by simp), World.cell?_alloc_at _ _ _ 7 (by simp)⟩
    · omega
theorem four_below (w : World) (t u : TypeId) : Below w.heap.size w (fourW w t u) :=
  (((((Below.refl _ w).alloc (Nat.le_refl _) _).alloc (by simp) _).alloc (by simp; omega) _).alloc (by simp; omega) _).alloc (by simp; omega) _

end Go.Proofs.Ythbeoaninipadaf
