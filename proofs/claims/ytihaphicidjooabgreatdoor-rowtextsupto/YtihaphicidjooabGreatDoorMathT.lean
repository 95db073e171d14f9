/-
  Plain mathematics of the reference's reading: a text cut at each comma, place by place, and digits, one by one; no condition beyond those named.
-/
import Derived.Test.YtihaphicidjooabGreatDoorMathN
namespace Go.Proofs.YtihaphicidjooabGreatDoor.M
set_option linter.unusedVariables false

/-- what is cut off behind so many bytes, and where the next word begins -/
def stC (l : List UInt8) : Nat → List (List UInt8) × Nat
  | 0 => ([], 0)
  | k + 1 => if l.getD k 0 = 44 then ((stC l k).1 ++ [(l.drop (stC l k).2).take (k - (stC l k).2)], k + 1) else stC l k
theorem stC_hit {l : List UInt8} {k : Nat} (h : l.getD k 0 = 44) : stC l (k + 1) = ((stC l k).1 ++ [(l.drop (stC l k).2).take (k - (stC l k).2)], k + 1) := by
  show (if l.getD k 0 = 44 then _ else _) = _
  rw [if_pos h]
theorem stC_miss {l : List UInt8} {k : Nat} (h : l.getD k 0 ≠ 44) : stC l (k + 1) = stC l k := by
  show (if l.getD k 0 = 44 then _ else _) = _
  rw [if_neg h]
theorem stC_len (l : List UInt8) (k : Nat) : (stC l k).1.length ≤ k ∧ (stC l k).2 ≤ k := by
  induction k with
  | zero => exact ⟨Nat.le_refl _, Nat.le_refl _⟩
  | succ k ih =>
    by_cases h : l.getD k 0 = 44
    · rw [stC_hit h]; simp; omega
    · rw [stC_miss h]; omega
theorem drop_split (l : List UInt8) (f k : Nat) (hf : f ≤ k) (hk : k < l.length) : l.drop f = (l.drop f).take (k - f) ++ l.getD k 0 :: l.drop (k + 1) := by
  have e1 : l.drop f = (l.drop f).take (k - f) ++ (l.drop f).drop (k - f) := (List.take_append_drop _ _).symm
  rw [List.drop_drop, show f + (k - f) = k by omega, List.drop_eq_getElem_cons hk] at e1
  rw [show l.getD k 0 = l[k] by simp [List.getD, List.getElem?_eq_getElem hk]]
  exact e1
theorem take_more (l : List UInt8) (f k : Nat) (hf : f ≤ k) (hk : k < l.length) : (l.drop f).take (k + 1 - f) = (l.drop f).take (k - f) ++ [l.getD k 0] := by
  rw [show k + 1 - f = (k - f) + 1 by omega, List.take_succ_eq_append_getElem (by rw [List.length_drop]; omega)]
  congr 2
  rw [List.getElem_drop]
  simp only [show f + (k - f) = k by omega]
  simp [List.getD, List.getElem?_eq_getElem hk]
theorem stC_inv (l : List UInt8) : ∀ k, k ≤ l.length → words l = (stC l k).1 ++ words (l.drop (stC l k).2) ∧ ∀ c ∈ (l.drop (stC l k).2).take (k - (stC l k).2), c ≠ 44 := by
  intro k
  induction k with
  | zero => intro _; exact ⟨by simp [stC], by simp [stC]⟩
  | succ k ih =>
    intro hk
    obtain ⟨h1, h2⟩ := ih (by omega)
    have hf := (stC_len l k).2
    by_cases h : l.getD k 0 = 44
    · rw [stC_hit h]
      refine ⟨?_, by simp⟩
      have e := drop_split l _ k hf (by omega)
      rw [h] at e
      rw [h1, e, words_app _ _ h2, ← e]
      simp
    · rw [stC_miss h]
      refine ⟨h1, ?_⟩
      rw [take_more l _ k hf (by omega)]
      intro c hc
      rw [List.mem_append] at hc
      rcases hc with hc | hc
      · exact h2 c hc
      · simp at hc; rw [hc]; exact h
theorem stC_end (l : List UInt8) : (stC l l.length).1 ++ [l.drop (stC l l.length).2] = words l := by
  obtain ⟨h1, h2⟩ := stC_inv l l.length (Nat.le_refl _)
  rw [List.take_of_length_le (by rw [List.length_drop]; exact Nat.le_refl _)] at h2
  rw [h1, words_one _ h2]
theorem words_len (l : List UInt8) : (words l).length ≤ l.length + 1 := by
  rw [← stC_end]; have := (stC_len l l.length).1; simp; omega
theorem words_mem (l : List UInt8) : ∀ w ∈ words l, w.length ≤ l.length := by
  induction l with
  | nil => simp [words]
  | cons c r ih =>
    intro w hw
    by_cases h : c = 44
    · subst h
      rw [show words (44 :: r) = [] :: words r by simp [words]] at hw
      rw [List.mem_cons] at hw
      rcases hw with rfl | hw
      · simp
      · have := ih w hw; simp; omega
    · cases hr : words r with
      | nil => exact absurd hr (words_ne r)
      | cons x t =>
        rw [words_other h hr, List.mem_cons] at hw
        rcases hw with rfl | hw
        · have := ih x (by rw [hr]; simp); simp; omega
        · have := ih w (by rw [hr]; simp [hw]); simp; omega

/-! ### digits, one by one -/

theorem decFrom_app : ∀ (a b : List UInt8) (acc : Nat), Lib.decFrom acc (a ++ b) = match Lib.decFrom acc a with
    | some n => Lib.decFrom n b
    | none => none
  | [], b, acc => rfl
  | x :: t, b, acc => by
    simp only [List.cons_append, Lib.decFrom]
    cases Lib.digitVal x with
    | none => rfl
    | some d => exact decFrom_app t b _
theorem digs_split (d : List UInt8) (k : Nat) (h : k < d.length) : d = d.take k ++ d[k] :: d.drop (k + 1) := by
  rw [← List.drop_eq_getElem_cons h, List.take_append_drop]
theorem digs_not {d : List UInt8} {k n : Nat} (h : k < d.length) (hn : Lib.decFrom 0 (d.take k) = some n) (hd : ¬ (48 ≤ d[k].toNat ∧ d[k].toNat ≤ 57)) : Lib.decFrom 0 d = none := by
  rw [digs_split d k h, decFrom_app, hn]
  simp only [Lib.decFrom, Lib.digitVal, if_neg hd]
theorem digs_next {d : List UInt8} {k n : Nat} (h : k < d.length) (hn : Lib.decFrom 0 (d.take k) = some n) (h1 : 48 ≤ d[k].toNat) (h2 : d[k].toNat ≤ 57) : Lib.decFrom 0 (d.take (k + 1)) = some (n * 10 + (d[k].toNat - 48)) := by
  rw [List.take_succ_eq_append_getElem h, decFrom_app, hn]
  simp only [Lib.decFrom, Lib.digitVal, if_pos (And.intro h1 h2)]
theorem digs_lt : ∀ (k : Nat) (d : List UInt8) (n : Nat), d.length = k → Lib.decFrom 0 d = some n → n < 10 ^ k := by
  intro k
  induction k with
  | zero => intro d n h hn; rw [List.length_eq_zero_iff.1 h] at hn; simp [Lib.decFrom] at hn; omega
  | succ k ih =>
    intro d n h hn
    have hne : d ≠ [] := by intro e; subst e; simp at h
    obtain ⟨l', b, rfl⟩ : ∃ l' b, d = l' ++ [b] := ⟨d.dropLast, d.getLast hne, (List.dropLast_concat_getLast hne).symm⟩
    rw [decFrom_snoc] at hn
    cases hq : Lib.decFrom 0 l' with
    | none => rw [hq] at hn; cases hn
    | some m =>
      rw [hq] at hn
      cases hb : Lib.digitVal b with
      | none => rw [hb] at hn; cases hn
      | some e =>
        rw [hb] at hn
        simp at hn
        have h1 := ih l' m (by simp at h; exact h) hq
        obtain ⟨h2, _, _⟩ := digit_of hb
        rw [Nat.pow_succ]; omega
theorem digs_bd {d : List UInt8} {k n : Nat} (h9 : d.length ≤ 9) (hn : Lib.decFrom 0 (d.take k) = some n) : n ≤ 999999999 := by
  have h1 := digs_lt _ (d.take k) n rfl hn
  have h2 : 10 ^ (d.take k).length ≤ 10 ^ 9 := Nat.pow_le_pow_right (by decide) (by rw [List.length_take]; omega)
  have e : (10 : Nat) ^ 9 = 1000000000 := by decide
  omega

end Go.Proofs.YtihaphicidjooabGreatDoor.M
