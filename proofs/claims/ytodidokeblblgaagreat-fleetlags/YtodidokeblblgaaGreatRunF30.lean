/-
  Several texts as one: RowCheck, TLeaf, TEval.
-/
import Derived.Test.YtodidokeblblgaaGreatRunF1
import Derived.Test.YtodidokeblblgaaGreatShelf
import Derived.Test.YtodidokeblblgaaGreatRunF3
import Derived.RegionTactic
import Derived.Test.YtodidokeblblgaaGreatRunF13
import Derived.Test.YtodidokeblblgaaGreatRunF14
import Derived.Deep.RegionWith
namespace Go.Proofs.YtodidokeblblgaaGreat
open Go.ChangeShapes Go.WideShapes Go.ChangeAt Go.RowKit Go.Shelf Go.Lib Go.Sort
set_option linter.unusedVariables false
theorem isnum_any (x : Int) (w : World) :
    Calls Tryz.prog 72 #[.int .i64 x] w fun e w' => e = .returned (.bool (!M.outI x)) ∧ w' = w := by
  by_cases h1 : -1000000 ≤ x
  · have E : Hid (decide (x ≤ 1000000) = !M.outI x) := by
      unfold Hid M.outI
      rw [show decide (x < -1000000) = false from decide_eq_false (by omega), Bool.false_or]
      by_cases h2 : x ≤ 1000000
      · simp [h2]
      · simp [h2]; omega
    have h1' : decide (-1000000 ≤ x) = true := decide_eq_true h1
    clear h1
    go_enter Tryz.func72, Tryz.ntmps72
    go_wp2
    go_ret
    exact ⟨ret_bool E.out, rfl⟩
  · have E : Hid (false = !M.outI x) := by
      unfold Hid M.outI
      rw [show decide (x < -1000000) = true from decide_eq_true (by omega)]; rfl
    have h1' : decide (-1000000 ≤ x) = false := decide_eq_false h1
    clear h1
    go_enter Tryz.func72, Tryz.ntmps72
    go_wp2
    go_ret
    exact ⟨ret_bool E.out, rfl⟩

theorem bad_pred (w : World) : PredAt Tryz.prog 71 #[] (Value.int .i64) M.badCell w := fun W x _ => by
  unfold FnGives
  by_cases h1 : x = M.nilI
  · have E : Hid (false = M.badCell x) := by unfold Hid; rw [h1, M.good_nil]
    have q : (x != -1125899906842624) = false := by rw [bne_eq_false_iff_eq]; exact h1
    clear h1
    go_enter Tryz.func71, Tryz.ntmps71
    go_wp2
    go_ret
    exact ⟨ret_bool E.out, 0, rfl⟩
  · have E : Hid (M.outI x = M.badCell x) := by unfold Hid M.badCell; simp [h1]
    have q : (x != -1125899906842624) = true := by rw [bne_iff_ne]; exact h1
    have C := hide (isnum_any x)
    clear h1
    generalize M.outI x = o at *
    go_enter Tryz.func71, Tryz.ntmps71
    go_wp2_with (go_at_call 72; refine (C.out _).mono ?_; rintro e w' ⟨rfl, rfl⟩)
    go_ret
    exact ⟨ret_bool (by first | exact E.out | (rw [← E.out]; done) | (rw [← E.out]; simp)), 0, rfl⟩

theorem rcheck_any (a : Option Addr) (xs : List Int) (cap : Nat) (w : World) (h : Rd w a xs) :
    Calls Tryz.prog 51 #[.slice a xs.length cap] w fun e w' => e = .returned (errV (M.rowF xs)) ∧ Below w.heap.size w w' := by
  have hm : xs.length ≤ 9223372036854775807 := h.1
  have C : Calls Tryz.prog 70 #[.slice a xs.length cap, .func (.func 71) #[] #[]] w fun e w' => e = .returned (.bool (xs.any M.badCell)) ∧ ∃ q, w' = w.drewN q := by
    by_cases hx : xs = []
    · subst hx
      refine (Tryz.slices_ContainsFunc_empty (α := Int) a cap (.func (.func 71) #[] #[]) w).mono ?_
      rintro e w' ⟨rfl, rfl⟩
      exact ⟨rfl, 0, rfl⟩
    · obtain ⟨b, off, rfl, hb, hc⟩ := h.2 hx
      have := Tryz.slices_ContainsFunc (Value.int .i64) M.badCell 71 #[] (enters_of Tryz.func71 (by kernel_rfl) rfl) b off xs.length cap xs w (bad_pred w) (Nat.le_refl _) hm (fun j hj => by rw [getD_bang]; exact hc j hj)
      rw [List.take_length] at this
      exact this
  by_cases h1 : 8 < xs.length
  · have E : Hid (M.rowF xs = 4) := by unfold Hid M.rowF; rw [if_pos h1]
    have hd : decide ((8 : Int) < (xs.length : Int)) = true := by simp; omega
    clear h C
    go_enter Tryz.func51, Tryz.ntmps51
    go_wp2
    go_ret
    exact ⟨by rw [E.out]; rfl, Below.refl _ _⟩
  · have hd : decide ((8 : Int) < (xs.length : Int)) = false := by simp; omega
    have O := hide C
    clear C
    cases ho : xs.any M.badCell with
    | true =>
      have E : Hid (M.rowF xs = 1) := by unfold Hid M.rowF; rw [if_neg h1, ho]; rfl
      rw [ho] at O
      clear h ho
      go_enter Tryz.func51, Tryz.ntmps51
      go_wp2_with (go_at_call 70; refine O.out.mono ?_; rintro e w1 ⟨rfl, q, rfl⟩)
      go_ret
      exact ⟨by rw [E.out]; rfl, below_drew (Below.refl _ _) q (Nat.le_refl _)⟩
    | false =>
      have E : Hid (M.rowF xs = 0) := by unfold Hid M.rowF; rw [if_neg h1, ho]; rfl
      rw [ho] at O
      clear h ho
      go_enter Tryz.func51, Tryz.ntmps51
      go_wp2_with (go_at_call 70; refine O.out.mono ?_; rintro e w1 ⟨rfl, q, rfl⟩)
      go_ret
      exact ⟨by rw [E.out]; rfl, below_drew (Below.refl _ _) q (Nat.le_refl _)⟩
end Go.Proofs.YtodidokeblblgaaGreat

namespace Go.Proofs.YtodidokeblblgaaGreat
open Go.ChangeShapes Go.WideShapes Go.ChangeAt Go.RowKit Go.Lib
set_option linter.unusedVariables false
theorem kept_node {w W : World} {a0 a1 a2 a3 a4 a5 : Value} {t : TypeId} (h : Below (w.alloc (.cells #[a0, a1, a2, a3, a4, a5] t)).heap.size (w.alloc (.cells #[a0, a1, a2, a3, a4, a5] t)) W) :
    W.cell? ⟨w.heap.size, 0, none⟩ = some a0 ∧ W.cell? ⟨w.heap.size, 1, none⟩ = some a1 ∧ W.cell? ⟨w.heap.size, 2, none⟩ = some a2 ∧ W.cell? ⟨w.heap.size, 3, none⟩ = some a3 ∧ W.cell? ⟨w.heap.size, 4, none⟩ = some a4 ∧ W.cell? ⟨w.heap.size, 5, none⟩ = some a5 := by
  have hs : w.heap.size < (w.alloc (.cells #[a0, a1, a2, a3, a4, a5] t)).heap.size := by simp
  exact ⟨(h.cell (p := ⟨w.heap.size, 0, none⟩) hs).trans (World.cell?_alloc_at _ _ _ 0 rfl), (h.cell (p := ⟨w.heap.size, 1, none⟩) hs).trans (World.cell?_alloc_at _ _ _ 1 rfl), (h.cell (p := ⟨w.heap.size, 2, none⟩) hs).trans (World.cell?_alloc_at _ _ _ 2 rfl), (h.cell (p := ⟨w.heap.size, 3, none⟩) hs).trans (World.cell?_alloc_at _ _ _ 3 rfl), (h.cell (p := ⟨w.heap.size, 4, none⟩) hs).trans (World.cell?_alloc_at _ _ _ 4 rfl), (h.cell (p := ⟨w.heap.size, 5, none⟩) hs).trans (World.cell?_alloc_at _ _ _ 5 rfl)⟩

theorem leaf_lt {ts : List M.Nd} {xs : List Int} (h : M.readyF ts xs = 0) : M.leafV ts xs < ts.length ∧ M.evalV ts xs = M.nv (M.nAt ts (M.leafV ts xs)) := by
  obtain ⟨F, _⟩ := M.tree_ok (M.ready_ok h).2
  have e : M.leafV ts xs = M.toD ts xs 0 := by unfold M.leafV; rw [if_pos h]
  refine ⟨by rw [e]; exact (M.to_end F.2.2.2.2.1 xs ts.length 0 F.2.1 (by omega)).1, ?_⟩
  rw [e]; unfold M.evalV; rw [if_pos h]

end Go.Proofs.YtodidokeblblgaaGreat
