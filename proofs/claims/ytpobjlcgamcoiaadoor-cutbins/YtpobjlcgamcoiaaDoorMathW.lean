/-
  Plain mathematics of values' cuts: what is pushed is neither the least nor the last one; no condition beyond those named.
-/
import Derived.Test.YtpobjlcgamcoiaaDoorMathV
namespace Go.Proofs.YtpobjlcgamcoiaaDoor.M
set_option linter.unusedVariables false

theorem step_last (S : List Int) (m k : Nat) : ((stepI S m k).1 = [] ∧ (stepI S m k).2 = S.getD 0 0) ∨ ∃ L, (stepI S m k).1 = L ++ [(stepI S m k).2] := by
  induction k with
  | zero => exact .inl ⟨rfl, rfl⟩
  | succ k ih =>
    by_cases h : (stepI S m k).2 < S.getD ((k + 1) * S.length / (m + 1)) 0
    · rw [step_push S m k h]; exact .inr ⟨_, rfl⟩
    · rw [step_stay S m k h]; exact ih
theorem getD_le (S : List Int) (hs : S.Pairwise (fun a b => a ≤ b)) (i j : Nat) (hij : i ≤ j) (hj : j < S.length) : S.getD i 0 ≤ S.getD j 0 := by
  rw [List.getD, List.getElem?_eq_getElem (show i < S.length by omega), List.getD, List.getElem?_eq_getElem hj]
  show S[i] ≤ S[j]
  rcases Nat.eq_or_lt_of_le hij with rfl | h
  · exact Int.le_refl _
  · exact List.pairwise_iff_getElem.1 hs i j (by omega) hj h
theorem step_at (S : List Int) (m : Nat) (k : Nat) : ∃ p, p ≤ k * S.length / (m + 1) ∧ (stepI S m k).2 = S.getD p 0 := by
  induction k with
  | zero => exact ⟨0, Nat.zero_le _, rfl⟩
  | succ k ih =>
    by_cases h : (stepI S m k).2 < S.getD ((k + 1) * S.length / (m + 1)) 0
    · rw [step_push S m k h]; exact ⟨_, Nat.le_refl _, rfl⟩
    · rw [step_stay S m k h]
      obtain ⟨p, hp, e⟩ := ih
      exact ⟨p, Nat.le_trans hp (Nat.div_le_div_right (Nat.mul_le_mul_right _ (by omega))), e⟩
theorem step_le (S : List Int) (m k : Nat) (hs : S.Pairwise (fun a b => a ≤ b)) (hn : 0 < S.length) (hk : k < m) : (stepI S m k).2 ≤ S.getD ((k + 1) * S.length / (m + 1)) 0 := by
  obtain ⟨p, hp, e⟩ := step_at S m k
  rw [e]
  exact getD_le S hs _ _ (Nat.le_trans hp (Nat.div_le_div_right (Nat.mul_le_mul_right _ (by omega)))) (place_lt S.length m k hn hk)
theorem step_least (S : List Int) (m k : Nat) (hn : 0 < S.length) (hk : k ≤ m) : S.getD 0 0 ≤ (stepI S m k).2 := (step_inv S m hn k hk).2.2

end Go.Proofs.YtpobjlcgamcoiaaDoor.M
