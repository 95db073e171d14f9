/-
  What package plain's Told and orchsame's Error answer of the program's own errors; the variable errors.errorType holds the handle of the type error.
-/
import Derived.Test.YtnnhpbnnombpmaaDoorTold
namespace Go.Proofs.YtnnhpbnnombpmaaDoor
open Go.ChangeShapes Go.WideShapes Go.ChangeAt Go.RowKit
set_option linter.unusedVariables false

theorem told_nil (w : World) : Calls Tryd.prog 22 #[.nilIface] w fun e w' => e = .returned (.int .i64 0) ∧ w' = w := by
  go_enter Tryd.func22, Tryd.ntmps22
  go_wp2
  go_ret
  exact ⟨rfl, rfl⟩

theorem told_some (c : Int) (w : World) (hg : Lays w) : Calls Tryd.prog 22 #[.iface 50 (.int .i64 c)] w fun e w' => e = .returned (.int .i64 c) ∧ Below w.heap.size w w' := by
  have hgA : Lays (w.alloc (.cells #[.int .i64 0] 50)) := hg.below ((Below.refl _ w).alloc (Nat.le_refl _) _)
  have htA : (w.alloc (.cells #[.int .i64 0] 50)).cell? ⟨w.heap.size, 0, none⟩ = some (.int .i64 0) := by simp
  have hfA : (w.alloc (.cells #[.int .i64 0] 50)).frozen? ⟨w.heap.size, 0, none⟩ = false := by simp
  have A := as_hit c ⟨w.heap.size, 0, none⟩ _ _ hgA htA hfA
  have HA : Hid (Calls Tryd.prog 32 #[.iface 50 (.int .i64 c), .iface 63 (.pointer (some ⟨w.heap.size, 0, none⟩))] (w.alloc (.cells #[.int .i64 0] 50)) fun ev w' => ev = .returned (.bool true) ∧ w'.cell? ⟨w.heap.size, 0, none⟩ = some (.int .i64 c) ∧ Below w.heap.size w w') := by
    refine A.mono ?_
    rintro e w' ⟨rfl, rfl⟩
    refine ⟨rfl, ?_, ?_⟩
    · refine World.cell?_setCell_same (u := .int .i64 0) _ _ _ ?_
      rw [World.cell?_alloc_lt _ _ _ (by simp; omega), World.cell?_alloc_lt _ _ _ (by simp; omega), World.cell?_alloc_lt _ _ _ (by simp; omega), World.cell?_alloc_lt _ _ _ (by simp)]
      exact htA
    · exact Below.setCell (Below.alloc (Below.alloc (Below.alloc (Below.alloc (Below.alloc (Below.refl _ w) (Nat.le_refl _) _) (by simp) _) (by simp; omega) _) (by simp; omega) _) (by simp; omega) _) (Nat.le_refl _) _
  clear A hgA htA hfA hg
  go_enter Tryd.func22, Tryd.ntmps22
  go_wp2_with (go_at_call 32; refine HA.out.mono ?_; rintro e w1 ⟨rfl, hc1, hb1⟩)
  go_ret
  exact ⟨rfl, hb1⟩

theorem told_any (c : Int) (w : World) (hg : Lays w) : Calls Tryd.prog 22 #[errV c] w fun e w' => e = .returned (.int .i64 c) ∧ Below w.heap.size w w' := by
  by_cases h : c = 0
  · subst h
    rw [err_nil rfl]
    exact (told_nil w).mono fun e w' ⟨h1, h2⟩ => ⟨h1, by rw [h2]; exact Below.refl _ _⟩
  · rw [err_some h]
    exact told_some c w hg

theorem error_any (c d : Int) (w : World) (hg : Lays w) : Calls Tryd.prog 8 #[errV c, .int .i64 d] w fun e w' => e = .returned (.bool (c == d)) ∧ Below w.heap.size w w' := by
  have T := hide (told_any c w hg)
  clear hg
  generalize errV c = ev at *
  go_enter Tryd.func8, Tryd.ntmps8
  go_wp2_with (go_at_call 22; refine T.out.mono ?_; rintro e w1 ⟨rfl, hb1⟩)
  go_ret
  exact ⟨rfl, hb1⟩

end Go.Proofs.YtnnhpbnnombpmaaDoor
