/-
  How great what is wrong may be; no condition beyond those named.
-/
import Derived.Test.YthbeoaninipadafSMath
import Derived.Test.YthbeoaninipadafBase
namespace Go.Proofs.Ythbeoaninipadaf
open Go.ChangeShapes Go.WideShapes Go.ChangeAt Go.RowKit Go.Lib
set_option linter.unusedVariables false

theorem wrap_in6 (x : Int) (h1 : -9223372036854775808 ≤ x) (h2 : x ≤ 9223372036854775807) : IntKind.i64.wrap x = x := by
  simp [IntKind.wrap, IntKind.bits, IntKind.signed]
  split <;> omega
theorem M.sq_in5 {s B : Int} (h1 : -B ≤ s) (h2 : s ≤ B) : 0 ≤ s * s ∧ s * s ≤ B * B := by
  by_cases h : 0 ≤ s
  · exact ⟨Int.mul_nonneg h h, Int.mul_le_mul h2 h2 h (by omega)⟩
  · have e : s * s = (-s) * (-s) := by grind
    rw [e]
    exact ⟨Int.mul_nonneg (by omega) (by omega), Int.mul_le_mul (by omega) (by omega) (by omega) (by omega)⟩
theorem M.wrg_in {t : List M.Nd} (hv : ∀ r, -1000000 ≤ M.nv (M.nAt t (M.toD t r 0)) ∧ M.nv (M.nAt t (M.toD t r 0)) ≤ 1000000) : ∀ {l : List M.Sa}, (∀ s ∈ l, -1000 ≤ s.2 ∧ s.2 ≤ 1000) → 0 ≤ M.wrgS t l ∧ M.wrgS t l ≤ 1002001000000 * (l.length : Nat)
  | [], _ => by simp [M.wrgS]
  | s :: l, h => by
    have ih := M.wrg_in hv (l := l) fun x hx => h x (List.mem_cons_of_mem _ hx)
    have h1 := h s (List.mem_cons_self ..)
    have h2 := hv s.1
    have q := M.sq_in5 (s := s.2 - M.nv (M.nAt t (M.toD t s.1 0))) (B := 1001000) (by omega) (by omega)
    show 0 ≤ _ + M.wrgS t l ∧ _ + M.wrgS t l ≤ _
    rw [List.length_cons]
    omega

end Go.Proofs.Ythbeoaninipadaf
