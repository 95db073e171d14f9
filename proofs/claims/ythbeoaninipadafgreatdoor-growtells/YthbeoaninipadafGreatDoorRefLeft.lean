/-
  What the reference's Left answers, for every node and every number.
-/
import Derived.Test.YthbeoaninipadafGreatDoorRefDepth
import Derived.Test.YthbeoaninipadafGreatDoorRefNone
namespace Go.Proofs.YthbeoaninipadafGreatDoor
open Go.ChangeShapes Go.WideShapes Go.ChangeAt Go.RowKit
set_option linter.unusedVariables false

theorem left_any (n : M.Nd) (c : Int) (w : World) : Calls Tryz.prog 56 #[ndV n, .int .i64 c] w fun e w' => e = .returned (.bool (M.lessC n c)) ∧ Below w.heap.size w w' := by
  have C := hide (none_any c)
  by_cases h : c = M.nilI
  · have E : Hid (M.ns n = M.lessC n c) := by unfold Hid M.lessC; rw [if_pos h]
    rw [decide_eq_true h] at C
    unfold ndV
    clear h
    generalize M.lessC n c = o at *
    generalize M.nf n = f at *
    generalize M.nc n = cc at *
    generalize M.nl n = l at *
    generalize M.nr n = r at *
    generalize M.ns n = s at *
    generalize M.nv n = v at *
    go_enter Tryz.func56, Tryz.ntmps56
    go_wp2_with (go_at_call 29; refine (C.out _).mono ?_; rintro e w1 ⟨rfl, rfl⟩)
    go_ret
    exact ⟨ret_bool E.out, (Below.refl _ _).alloc (Nat.le_refl _) _⟩
  · have E : Hid (decide (c < M.nc n) = M.lessC n c) := by unfold Hid M.lessC; rw [if_neg h]
    rw [decide_eq_false h] at C
    unfold ndV
    clear h
    generalize M.lessC n c = o at *
    generalize M.nf n = f at *
    generalize M.nc n = cc at *
    generalize M.nl n = l at *
    generalize M.nr n = r at *
    generalize M.ns n = s at *
    generalize M.nv n = v at *
    go_enter Tryz.func56, Tryz.ntmps56
    go_wp2_with (go_at_call 29; refine (C.out _).mono ?_; rintro e w1 ⟨rfl, rfl⟩)
    go_ret
    exact ⟨ret_bool E.out, (Below.refl _ _).alloc (Nat.le_refl _) _⟩

end Go.Proofs.YthbeoaninipadafGreatDoor
