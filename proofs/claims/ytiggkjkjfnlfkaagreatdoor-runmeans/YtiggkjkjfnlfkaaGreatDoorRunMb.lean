/-
  Plain mathematics of a session's text: its lines; no condition beyond those named.
-/
import Derived.Test.YtiggkjkjfnlfkaaGreatDoorRunMa
namespace Go.Proofs.YtiggkjkjfnlfkaaGreatDoor.M
set_option linter.unusedVariables false

/-- the lines of a text, without what they end with -/
def lnR : List UInt8 → List (List UInt8)
  | [] => []
  | b :: l => if b = 10 then [] :: lnR l else headC b (lnR l)
theorem cut_miss {t sep : List UInt8} (h : Lib.index t sep = -1) : Lib.cut t sep = (t, [], false) := by
  unfold Lib.cut
  rw [if_neg (by omega)]
theorem cut_hit {t sep : List UInt8} {j : Nat} (h : Lib.index t sep = (j : Int)) : Lib.cut t sep = (t.take j, t.drop (j + sep.length), true) := by
  unfold Lib.cut
  rw [if_pos (by omega), h]
  rfl
theorem ln_cut : ∀ t : List UInt8, t ≠ [] → lnR t = (Lib.cut t [10]).1 :: lnR (Lib.cut t [10]).2.1 ∧ (Lib.cut t [10]).2.1.length < t.length
  | [], h => absurd rfl h
  | b :: l, _ => by
    have hd : lnR (b :: l) = if b = 10 then [] :: lnR l else headC b (lnR l) := rfl
    rw [hd]
    by_cases h : b = 10
    · subst h
      rw [if_pos rfl, cut_hit (index_eq 10 l)]
      exact ⟨rfl, by simp⟩
    · rw [if_neg h]
      by_cases hm : Lib.index l [10] = -1
      · have hx : Lib.index (b :: l) [10] = -1 := by rw [index_ne l h, if_pos (beq_iff_eq.2 hm)]
        rw [cut_miss hx]
        refine ⟨?_, by simp⟩
        by_cases hl : l = []
        · subst hl; rfl
        · have ih := (ln_cut l hl).1
          rw [cut_miss hm] at ih
          rw [ih]
          rfl
      · have hge := Lib.index_ge l [10]
        obtain ⟨j, hj⟩ : ∃ j : Nat, Lib.index l [10] = j := ⟨(Lib.index l [10]).toNat, by omega⟩
        have hix : Lib.index (b :: l) [10] = ((j + 1 : Nat) : Int) := by rw [index_ne l h, if_neg (fun e => hm (beq_iff_eq.1 e)), hj]; omega
        have hl : l ≠ [] := fun e => by subst e; exact hm (by simp [Lib.index])
        obtain ⟨i1, i2⟩ := ln_cut l hl
        rw [cut_hit hj] at i1 i2
        rw [cut_hit hix, i1]
        exact ⟨rfl, by simp at i2 ⊢; omega⟩
theorem lnR_nil {t : List UInt8} (h : lnR t = []) : t = [] := by
  by_cases hl : t = []
  · exact hl
  · rw [(ln_cut t hl).1] at h
    cases h
/-- a line and what ends it, ahead of more -/
theorem lnR_app : ∀ {a : List UInt8} (t : List UInt8), (10 : UInt8) ∉ a → lnR (a ++ 10 :: t) = a :: lnR t
  | [], t, _ => by show (if (10 : UInt8) = 10 then [] :: lnR t else _) = _; rw [if_pos rfl]
  | b :: l, t, h => by
    have h1 : b ≠ 10 := fun e => h (by rw [e]; exact List.mem_cons_self ..)
    show (if b = 10 then [] :: lnR (l ++ 10 :: t) else headC b (lnR (l ++ 10 :: t))) = _
    rw [if_neg h1, lnR_app t (fun e => h (List.mem_cons_of_mem _ e))]
    rfl

theorem headC_len1 (b : UInt8) (l : List (List UInt8)) : (headC b l).length ≤ l.length + 1 := by
  cases l with
  | nil => exact Nat.le_refl _
  | cons x r => exact Nat.le_succ _
theorem lnR_len : ∀ s : List UInt8, (lnR s).length ≤ s.length
  | [] => Nat.le_refl _
  | b :: l => by
    have ih := lnR_len l
    show (if b = 10 then [] :: lnR l else headC b (lnR l)).length ≤ _
    split
    · simp only [List.length_cons]; omega
    · have := headC_len1 b (lnR l)
      simp only [List.length_cons]
      omega
/-- what is answered to lines, each by a line -/
def outR {α : Type} (out : α → List UInt8) (xs : List α) : List UInt8 := xs.flatMap fun x => out x ++ [10]
theorem outR_snoc {α : Type} (out : α → List UInt8) (pre : List α) (x : α) : outR out (pre ++ [x]) = outR out pre ++ out x ++ [10] := by
  unfold outR
  simp
theorem outR_len {α : Type} {out : α → List UInt8} {m : Nat} (h : ∀ x, (out x).length ≤ m) : ∀ xs : List α, (outR out xs).length ≤ xs.length * (m + 1)
  | [] => by simp [outR]
  | x :: r => by
    have ih := outR_len h r
    have := h x
    have e : outR out (x :: r) = (out x ++ [10]) ++ outR out r := by unfold outR; simp
    have e2 : (x :: r).length * (m + 1) = r.length * (m + 1) + (m + 1) := by rw [List.length_cons, Nat.succ_mul]
    rw [e, List.length_append, List.length_append, e2]
    have e3 : ([10] : List UInt8).length = 1 := rfl
    omega

end Go.Proofs.YtiggkjkjfnlfkaaGreatDoor.M
