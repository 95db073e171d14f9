/-
  Plain mathematics of lists in order: a list sorted one by one is the list sorted; no condition beyond those named.
-/
import Derived.Test.YtiggkjkjfnlfkaaGreatDoorMathL
namespace Go.Proofs.YtiggkjkjfnlfkaaGreatDoor.M
set_option linter.unusedVariables false

theorem sort_pw (l : List Int) : (sortI l).Pairwise (fun a b => a ≤ b) := by
  have h := List.pairwise_mergeSort (le := fun x y : Int => decide (x ≤ y)) (fun a b c h1 h2 => by simp at *; omega) (fun a b => by simp; omega) l
  exact h.imp (fun h => by simpa using h)
theorem sort_perm (l : List Int) : (sortI l).Perm l := List.mergeSort_perm l _
theorem sort_length (l : List Int) : (sortI l).length = l.length := (sort_perm l).length_eq
theorem sort_unique {l m : List Int} (hp : m.Perm l) (hs : m.Pairwise (fun a b => a ≤ b)) : m = sortI l :=
  List.Perm.eq_of_pairwise (le := fun a b : Int => a ≤ b) (fun a b _ _ h1 h2 => Int.le_antisymm h1 h2) hs (sort_pw l) (hp.trans (sort_perm l).symm)
theorem sort_of_perm {l m : List Int} (hp : m.Perm l) : sortI m = sortI l := sort_unique ((sort_perm m).trans hp) (sort_pw m)

/-- where a number goes in -/
theorem sort_put (l : List Int) (x : Int) (k : Nat) (h1 : ∀ y ∈ (sortI l).take k, y ≤ x) (h2 : ∀ y ∈ (sortI l).drop k, x < y) :
    (sortI l).take k ++ x :: (sortI l).drop k = sortI (l ++ [x]) := by
  refine sort_unique ?_ ?_
  · have e : ((sortI l).take k ++ x :: (sortI l).drop k).Perm (x :: ((sortI l).take k ++ (sortI l).drop k)) := List.perm_middle
    rw [List.take_append_drop] at e
    refine e.trans ?_
    exact ((sort_perm l).cons x).trans (List.perm_append_comm (l₁ := [x]) (l₂ := l))
  · have hp := sort_pw l
    rw [← List.take_append_drop k (sortI l), List.pairwise_append] at hp
    rw [List.pairwise_append, List.pairwise_cons]
    refine ⟨hp.1, ⟨fun y hy => by have := h2 y hy; omega, hp.2.1⟩, fun a ha b hb => ?_⟩
    rcases List.mem_cons.1 hb with rfl | hb
    · exact h1 a ha
    · exact hp.2.2 a ha b hb

/-- what lies ahead of one that is no more is no more -/
theorem sort_low (l : List Int) (x : Int) (k : Nat) (hk : k < (sortI l).length) (h : (sortI l)[k] ≤ x) : ∀ y ∈ (sortI l).take (k + 1), y ≤ x := by
  intro y hy
  rw [List.take_succ_eq_append_getElem hk, List.mem_append] at hy
  rcases hy with hy | hy
  · have hp := sort_pw l
    rw [← List.take_append_drop k (sortI l), List.pairwise_append] at hp
    have := hp.2.2 y hy (sortI l)[k] (by rw [List.mem_iff_getElem]; exact ⟨0, by simp; omega, by simp⟩)
    omega
  · simp at hy; subst hy; exact h

/-- the row while one goes down to its place: the place k is free -/
def gapI (S R : List Int) (c : Int) (k : Nat) : List Int := S.take k ++ c :: S.drop k ++ R
theorem gap_len (S R : List Int) (c : Int) (k : Nat) (h : k ≤ S.length) : (gapI S R c k).length = S.length + 1 + R.length := by
  unfold gapI; simp; omega
theorem gap_set (S R : List Int) (c x : Int) (k : Nat) (h : k ≤ S.length) : (gapI S R c k).set k x = gapI S R x k := by
  unfold gapI
  rw [List.append_assoc, List.append_assoc, List.set_append_right _ _ (by rw [List.length_take]; omega), List.length_take, Nat.min_eq_left h, Nat.sub_self]
  rfl
theorem gap_low (S R : List Int) (c : Int) (k : Nat) (h : k < S.length) : (gapI S R c (k + 1))[k]'(by rw [gap_len _ _ _ _ h]; omega) = S[k] := by
  unfold gapI
  rw [List.getElem_append_left (by simp; omega), List.getElem_append_left (by simp; omega)]
  simp
theorem gap_down (S R : List Int) (k : Nat) (h : k < S.length) : gapI S R S[k] (k + 1) = gapI S R S[k] k := by
  unfold gapI
  rw [List.take_succ_eq_append_getElem h, show S.drop k = S[k] :: S.drop (k + 1) from List.drop_eq_getElem_cons h]
  simp only [List.append_assoc, List.cons_append, List.nil_append]

/-- the row behind so many rounds -/
def rowI (l : List Int) (i : Nat) : List Int := sortI (l.take i) ++ l.drop i
theorem row_len (l : List Int) (i : Nat) (h : i ≤ l.length) : (rowI l i).length = l.length := by
  unfold rowI; rw [List.length_append, sort_length, List.length_take, List.length_drop]; omega
theorem row_one (l : List Int) (h : 0 < l.length) : rowI l 1 = l := by
  unfold rowI
  cases l with
  | nil => simp at h
  | cons x l => simp [sortI]
theorem row_all (l : List Int) (i : Nat) (h : l.length ≤ i) : rowI l i = sortI l := by
  unfold rowI; rw [List.take_of_length_le h, List.drop_of_length_le h, List.append_nil]
theorem row_at (l : List Int) (i : Nat) (h : i < l.length) : (rowI l i)[i]'(by rw [row_len _ _ (by omega)]; exact h) = l[i] := by
  unfold rowI
  rw [List.getElem_append_right (by rw [sort_length, List.length_take]; omega)]
  simp [sort_length, Nat.min_eq_left (Nat.le_of_lt h)]
theorem row_gap (l : List Int) (i : Nat) (h : i < l.length) : rowI l i = gapI (sortI (l.take i)) (l.drop (i + 1)) l[i] i := by
  unfold rowI gapI
  have e : (sortI (l.take i)).length = i := by rw [sort_length, List.length_take]; omega
  rw [List.take_of_length_le (l := sortI (l.take i)) (by omega), List.drop_of_length_le (l := sortI (l.take i)) (by omega), List.drop_eq_getElem_cons h]
  simp
theorem gap_row (l : List Int) (i k : Nat) (h : i < l.length) (h1 : ∀ y ∈ (sortI (l.take i)).take k, y ≤ l[i]) (h2 : ∀ y ∈ (sortI (l.take i)).drop k, l[i] < y) :
    gapI (sortI (l.take i)) (l.drop (i + 1)) l[i] k = rowI l (i + 1) := by
  unfold rowI gapI
  rw [sort_put _ _ _ h1 h2, List.take_succ_eq_append_getElem h]
theorem drop_more {S : List Int} {x : Int} {k : Nat} (hk : k < S.length) (h1 : x < S[k]) (h2 : ∀ y ∈ S.drop (k + 1), x < y) : ∀ y ∈ S.drop k, x < y := by
  intro y hy
  rw [List.drop_eq_getElem_cons hk] at hy
  rcases List.mem_cons.1 hy with rfl | hy
  · exact h1
  · exact h2 y hy
theorem drop_none {S : List Int} {x : Int} {k : Nat} (hk : S.length ≤ k) : ∀ y ∈ S.drop k, x < y := by
  intro y hy; rw [List.drop_of_length_le hk] at hy; simp at hy

end Go.Proofs.YtiggkjkjfnlfkaaGreatDoor.M
