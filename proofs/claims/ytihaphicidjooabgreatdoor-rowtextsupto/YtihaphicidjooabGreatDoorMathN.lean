/-
  Plain mathematics of the reference's numbers of at most nine digits: with Cell they are the cells that are read; no condition beyond those named.
-/
import Derived.Test.YtihaphicidjooabGreatDoorMathR
namespace Go.Proofs.YtihaphicidjooabGreatDoor.M
set_option linter.unusedVariables false

/-- digits, and what they are with a sign or without -/
def magI (d : List UInt8) (whole : Nat) : Option Nat :=
  if d = [] then none else if 9 < d.length then none else if (d.head? = some 48 ∧ 1 < whole) then none else Lib.decFrom 0 d
def nineI (w : List UInt8) : Option Int :=
  if w.head? = some 45 then (magI w.tail w.length).map fun (m : Nat) => -(m : Int) else (magI w w.length).map fun (m : Nat) => (m : Int)

theorem mag_of {d : List UInt8} {k : Nat} (h1 : d ≠ []) (h2 : d.length ≤ 9) (h3 : ¬ (d.head? = some 48 ∧ 1 < k)) : magI d k = Lib.decFrom 0 d := by
  unfold magI; rw [if_neg h1, if_neg (by omega), if_neg h3]
theorem nine_itoa {n : Int} (h : outI n = false) : nineI (Lib.itoa n) = some n := by
  obtain ⟨h1, h2⟩ := abs_lt h
  unfold nineI Lib.itoa
  by_cases hn : n < 0
  · rw [if_pos hn]
    obtain ⟨c, t, g1, g2, g3, g4⟩ := dig_head n.natAbs
    have hl := dig_len 6 _ h1
    have hf := dig_from n.natAbs
    rw [g1] at hl hf ⊢
    have g5 := g4 (by omega)
    have g6 : c ≠ 48 := by intro e; subst e; exact g5 rfl
    rw [if_pos (by rfl), show (45 :: c :: t).tail = c :: t from rfl, mag_of (by simp) (by omega) (by simp [g6]), hf]
    simp; omega
  · rw [if_neg hn]
    obtain ⟨c, t, g1, g2, g3, g4⟩ := dig_head n.toNat
    have hl := dig_len 6 _ h2
    have hf := dig_from n.toNat
    have n45 : c ≠ 45 := by intro e; subst e; revert g2; decide
    have hz : ¬ ((c :: t).head? = some 48 ∧ 1 < (c :: t).length) := by
      rintro ⟨e1, e2⟩
      simp at e1
      subst e1
      by_cases hp : 1 ≤ n.toNat
      · exact g4 hp rfl
      · rw [show n.toNat = 0 by omega, dig_small (by decide)] at g1
        injection g1 with _ e; subst e; simp at e2
    rw [g1] at hl hf ⊢
    rw [if_neg (by simp [n45])]
    rw [mag_of (by simp) (by omega) hz, hf]
    simp; omega
theorem mag_canon {d : List UInt8} {k m : Nat} (h : magI d k = some m) (hk : d.length ≤ k) : d ≠ [] ∧ d.length ≤ 9 ∧ Lib.decDigits m = d ∧ (1 < k → d.head? ≠ some 48) := by
  unfold magI at h
  split at h
  · cases h
  · split at h
    · cases h
    · split at h
      · cases h
      · rename_i e1 e2 e3
        refine ⟨e1, by omega, dig_canon _ d m rfl e1 ?_ h, fun hk2 e => e3 ⟨e, hk2⟩⟩
        by_cases hl : d.length = 1
        · exact Or.inl hl
        · refine Or.inr fun c t e hc => e3 ⟨?_, ?_⟩
          · have : c = 48 := UInt8.toNat_inj.1 hc
            subst e; subst this; rfl
          · have : 0 < d.length := List.length_pos_iff.2 e1
            omega
theorem nine_canon {w : List UInt8} {n : Int} (h : nineI w = some n) : Lib.itoa n = w := by
  unfold nineI at h
  split at h
  · rename_i e
    rw [Option.map_eq_some_iff] at h
    obtain ⟨m, hm, rfl⟩ := h
    cases w with
    | nil => simp at e
    | cons c t =>
      simp at e
      subst e
      obtain ⟨h1, h2, h3, h4⟩ := mag_canon hm (by simp)
      rw [List.tail_cons] at h1 h2 h3 h4
      have hm0 : m ≠ 0 := by
        intro e
        subst e
        rw [dig_small (by decide)] at h3
        exact h4 (by have := List.length_pos_iff.2 h1; simp; omega) (by rw [← h3]; rfl)
      unfold Lib.itoa
      rw [if_pos (by omega), show (-(m : Int)).natAbs = m by omega, h3]
  · rw [Option.map_eq_some_iff] at h
    obtain ⟨m, hm, rfl⟩ := h
    obtain ⟨h1, h2, h3, h4⟩ := mag_canon hm (Nat.le_refl _)
    unfold Lib.itoa
    rw [if_neg (by omega), show (m : Int).toNat = m by omega, h3]
theorem atoi_cell {w : List UInt8} {n : Int} (h : cellOf w = some n) (hw : w ≠ [45]) : outI n = false ∧ Lib.itoa n = w := by
  unfold cellOf at h
  rw [if_neg hw] at h
  split at h
  · split at h
    · rename_i hq; injection h with h; subst h; exact hq
    · cases h
  · cases h
/-- the reference's cells are the program's -/
theorem nine_cell {w : List UInt8} (hw : w ≠ [45]) {n : Int} (h : nineI w = some n) (ho : outI n = false) : cellOf w = some n := by
  rw [← nine_canon h]; exact cell_of_itoa ho
theorem nine_out {w : List UInt8} (hw : w ≠ [45]) {n : Int} (h : nineI w = some n) (ho : outI n = true) : cellOf w = none := by
  cases hc : cellOf w with
  | none => rfl
  | some c =>
    obtain ⟨h1, h2⟩ := atoi_cell hc hw
    rw [← h2, nine_itoa h1] at h
    injection h with h
    subst h
    rw [h1] at ho; cases ho
theorem nine_not {w : List UInt8} (hw : w ≠ [45]) (h : nineI w = none) : cellOf w = none := by
  cases hc : cellOf w with
  | none => rfl
  | some c =>
    obtain ⟨h1, h2⟩ := atoi_cell hc hw
    rw [← h2, nine_itoa h1] at h
    cases h

end Go.Proofs.YtihaphicidjooabGreatDoor.M
