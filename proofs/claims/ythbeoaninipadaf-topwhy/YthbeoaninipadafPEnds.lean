/-
  What package path's isEnd and firstOf answer.
-/
import Derived.Test.YthbeoaninipadafPSmall
namespace Go.Proofs.Ythbeoaninipadaf
open Go.ChangeShapes Go.WideShapes Go.ChangeAt Go.RowKit Go.Lib
set_option linter.unusedVariables false

theorem isend_any (x : Int) (w : World) : Calls Try.prog 69 #[.int .i64 x] w fun e w' => e = .returned (.bool (!M.outI x)) ∧ w' = w := by
  by_cases h1 : -1000000 ≤ x
  · have E : Hid (decide (x ≤ 1000000) = !M.outI x) := by
      unfold Hid M.outI
      rw [show decide (x < -1000000) = false from decide_eq_false (by omega), Bool.false_or]
      by_cases h2 : x ≤ 1000000
      · simp [h2]
      · simp [h2]; omega
    have h1' : decide (-1000000 ≤ x) = true := decide_eq_true h1
    clear h1
    go_enter Try.func69, Try.ntmps69
    go_wp2
    go_ret
    exact ⟨ret_bool E.out, rfl⟩
  · have E : Hid (false = !M.outI x) := by
      unfold Hid M.outI
      rw [show decide (x < -1000000) = true from decide_eq_true (by omega)]; rfl
    have h1' : decide (-1000000 ≤ x) = false := decide_eq_false h1
    clear h1
    go_enter Try.func69, Try.ntmps69
    go_wp2
    go_ret
    exact ⟨ret_bool E.out, rfl⟩

theorem firstof_any (s : M.Sp) (w : World) : Calls Try.prog 70 #[spV s] w fun e w' => e = .returned (.int .i64 (M.pickC s)) ∧ Below w.heap.size w w' := by
  have C := hide (nonum_any s)
  have B0 : Hid (∀ o W, Below (w.alloc o).heap.size (w.alloc o) W → Below w.heap.size w W) := fun o W hW => below_on ((Below.refl _ w).alloc (Nat.le_refl _) o) hW
  by_cases hd : s.2.1 < s.1
  · have E : Hid (M.nilI = M.pickC s) := by unfold Hid M.pickC; rw [if_neg (by omega)]
    rw [decide_eq_true hd] at C
    clear hd
    generalize M.pickC s = o at *
    obtain ⟨lo, hi, n⟩ := s
    unfold spV at C ⊢
    go_enter Try.func70, Try.ntmps70
    go_wp2_with (go_at_call 67; refine (C.out _).mono ?_; rintro e w1 ⟨rfl, hb1⟩)
    go_ret
    exact ⟨ret_int E.out, B0.out _ _ hb1⟩
  · have E : Hid (s.1 = M.pickC s) := by unfold Hid M.pickC; rw [if_pos (by omega)]
    rw [decide_eq_false hd] at C
    clear hd
    generalize M.pickC s = o at *
    obtain ⟨lo, hi, n⟩ := s
    unfold spV at C ⊢
    have CL : Hid (∀ O W, Below (w.alloc O).heap.size (w.alloc O) W → W.cell? ⟨w.heap.size, 0, none⟩ = (w.alloc O).cell? ⟨w.heap.size, 0, none⟩) := fun O W hW => hW.cell (p := ⟨w.heap.size, 0, none⟩) (by simp)
    go_enter Try.func70, Try.ntmps70
    go_wp2_with (go_at_call 67; refine (C.out _).mono ?_; rintro e w1 ⟨rfl, hb1⟩; have c1 := CL.out _ _ hb1; rw [World.cell?_alloc_at _ _ _ 0 rfl] at c1; simp at c1)
    go_ret
    exact ⟨ret_int E.out, B0.out _ _ hb1⟩

end Go.Proofs.Ythbeoaninipadaf
