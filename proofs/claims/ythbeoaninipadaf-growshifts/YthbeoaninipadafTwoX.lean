/-
  Two samples of one cell each, as a law lays them.
-/
import Derived.Test.YthbeoaninipadafGroPJ
namespace Go.Proofs.Ythbeoaninipadaf
open Go.ChangeShapes Go.WideShapes Go.ChangeAt Go.RowKit Go.Lib
set_option linter.unusedVariables false

/-- two samples of one cell each, as they are laid -/
def twoX (n : Nat) : List Sx := [(some ⟨n, 0, none⟩, [1], 1, 5), (some ⟨n + 1, 0, none⟩, [2], 1, 9)]
theorem two_rd (w : World) (t u : TypeId) : RdL (((w.alloc (.cells #[.int .i64 1] t)).alloc (.cells #[.int .i64 2] t)).alloc (.cells #[.slice (some ⟨w.heap.size, 0, none⟩) 1 1, .int .i64 5, .slice (some ⟨w.heap.size + 1, 0, none⟩) 1 1, .int .i64 9] u)) (some ⟨w.heap.size + 1 + 1, 0, none⟩) (twoX w.heap.size) := by
  have k1 : Below (w.alloc (.cells #[.int .i64 1] t)).heap.size (w.alloc (.cells #[.int .i64 1] t)) ((w.alloc (.cells #[.int .i64 1] t)).alloc (.cells #[.int .i64 2] t)) := (Below.refl _ _).alloc (Nat.le_refl _) _
  have k2 : Below ((w.alloc (.cells #[.int .i64 1] t)).alloc (.cells #[.int .i64 2] t)).heap.size ((w.alloc (.cells #[.int .i64 1] t)).alloc (.cells #[.int .i64 2] t)) (((w.alloc (.cells #[.int .i64 1] t)).alloc (.cells #[.int .i64 2] t)).alloc (.cells #[.slice (some ⟨w.heap.size, 0, none⟩) 1 1, .int .i64 5, .slice (some ⟨w.heap.size + 1, 0, none⟩) 1 1, .int .i64 9] u)) := (Below.refl _ _).alloc (Nat.le_refl _) _
  have r1 := ((one_rd w 1 t).below k1).below k2
  have r2 := (one_rd (w.alloc (.cells #[.int .i64 1] t)) 2 t).below k2
  rw [show (w.alloc (.cells #[.int .i64 1] t)).heap.size = w.heap.size + 1 by simp] at r2
  refine ⟨by show 2 ≤ maxLen; unfold maxLen; decide, fun x hx => ?_, fun _ => ⟨w.heap.size + 1 + 1, 0, rfl, by simp, fun i hi => ?_⟩⟩
  · rcases List.mem_cons.1 hx with rfl | hx
    · exact r1
    · rcases List.mem_cons.1 hx with rfl | hx
      · exact r2
      · cases hx
  · have hi' : i < 2 := hi
    rcases i with _ | _ | i
    · exact ⟨World.cell?_alloc_at _ _ _ 0 (by simp), World.cell?_alloc_at _ _ _ 1 (by simp)⟩
    · exact ⟨World.cell?_alloc_at _ _ _ 2 (by simp), World.cell?_alloc_at _ _ _ 3 (by simp)⟩
    · omega

end Go.Proofs.Ythbeoaninipadaf
