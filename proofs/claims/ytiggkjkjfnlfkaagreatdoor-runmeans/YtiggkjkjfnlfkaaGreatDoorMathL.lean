/-
  Plain mathematics of lists: their first thousand made fit, a row that is filled from its head, and lists in order; no condition beyond those named.
-/
import Derived.Test.YtiggkjkjfnlfkaaGreatDoorMath
namespace Go.Proofs.YtiggkjkjfnlfkaaGreatDoor.M
set_option linter.unusedVariables false

theorem first_len (l : List Int) : (firstI l).length = min 1000 l.length := by unfold firstI; rw [List.length_map, List.length_take]
theorem first_at (l : List Int) (k : Nat) (h : k < (firstI l).length) (h' : k < l.length) : (firstI l)[k] = fitI l[k] := by unfold firstI; simp
theorem first_bd (l : List Int) : ∀ x ∈ firstI l, -1099511627776 ≤ x ∧ x ≤ 1099511627776 := by
  intro x hx; unfold firstI at hx; rw [List.mem_map] at hx; obtain ⟨y, _, rfl⟩ := hx; exact fit_le y

/-- a row that is filled from its head -/
def fillI (F : List Int) (k : Nat) : List Int := F.take k ++ List.replicate (F.length - k) 0
theorem fill_len (F : List Int) (k : Nat) (h : k ≤ F.length) : (fillI F k).length = F.length := by
  unfold fillI; rw [List.length_append, List.length_take, List.length_replicate]; omega
theorem fill_zero (F : List Int) : fillI F 0 = List.replicate F.length 0 := by unfold fillI; simp
theorem fill_all (F : List Int) : fillI F F.length = F := by unfold fillI; simp
theorem fill_set (F : List Int) (k : Nat) (h : k < F.length) : (fillI F k).set k F[k] = fillI F (k + 1) := by
  unfold fillI
  rw [List.set_append_right _ _ (by rw [List.length_take]; omega), List.length_take, Nat.min_eq_left (by omega), Nat.sub_self,
    List.take_succ_eq_append_getElem h, List.append_assoc]
  have : F.length - k = (F.length - (k + 1)) + 1 := by omega
  rw [this, List.replicate_succ]
  rfl


theorem sum_bd (F : List Int) (h : ∀ x ∈ F, -1099511627776 ≤ x ∧ x ≤ 1099511627776) : -(1099511627776 * (F.length : Int)) ≤ F.sum ∧ F.sum ≤ 1099511627776 * (F.length : Int) := by
  induction F with
  | nil => simp
  | cons x F ih =>
    have h1 := h x (by simp)
    have h2 := ih (fun y hy => h y (by simp [hy]))
    rw [List.sum_cons, List.length_cons]
    omega

theorem sum_succ (F : List Int) (k : Nat) (h : k < F.length) : (F.take k).sum + F[k] = (F.take (k + 1)).sum := by
  rw [List.take_succ_eq_append_getElem h, List.sum_append]; simp

theorem sum_take_bd (l : List Int) (k : Nat) (hk : k ≤ (firstI l).length) : -1099511627776000 ≤ ((firstI l).take k).sum ∧ ((firstI l).take k).sum ≤ 1099511627776000 := by
  have h := sum_bd ((firstI l).take k) (fun x hx => first_bd l x (List.mem_of_mem_take hx))
  have h2 := first_len l
  rw [List.length_take] at h
  omega

theorem mean_zero {l : List Int} (h : l = []) : 0 = meanI l := by subst h; rfl
theorem mean_some {l : List Int} (h : l ≠ []) : (firstI l).sum / ((firstI l).length : Int) = meanI l := by
  unfold meanI
  rw [if_neg]
  unfold firstI
  cases l with
  | nil => exact absurd rfl h
  | cons x l => simp
theorem first_pos {l : List Int} (h : l ≠ []) : 0 < (firstI l).length := by
  rw [first_len]
  have := List.length_pos_iff.2 h
  omega

end Go.Proofs.YtiggkjkjfnlfkaaGreatDoor.M
