/-
  Plain mathematics of spans and of rows' bins: which cells are within, in which bins they are, and what is wrong; no condition beyond those named.
-/
import Derived.Test.YtiggkjkjfnlfkaaGreatDoorMathR
import Derived.Test.YtiggkjkjfnlfkaaGreatDoorMathL
namespace Go.Proofs.YtiggkjkjfnlfkaaGreatDoor.M
set_option linter.unusedVariables false

/-- a span: low, high, and whether a cell may not be there -/
abbrev Sp := Int × Int × Bool
def inS (c : Int) (s : Sp) : Bool := if c = nilI then s.2.2 else decide (s.1 ≤ c) && decide (c ≤ s.2.1)
theorem in_nil {c : Int} {s : Sp} (h : c = nilI) : inS c s = s.2.2 := by unfold inS; rw [if_pos h]
theorem in_num {c : Int} {s : Sp} (h : c ≠ nilI) : inS c s = (decide (s.1 ≤ c) && decide (c ≤ s.2.1)) := by unfold inS; rw [if_neg h]
def outAt (xs : List Int) (ss : List Sp) (i : Nat) : Bool := !inS (xs.getD i 0) (ss.getD i (0, 0, false))
def fitF (xs : List Int) (ss : List Sp) : Int := if rowF xs ≠ 0 then rowF xs else if ss.length ≠ xs.length then 3 else 0
def fitV (xs : List Int) (ss : List Sp) : Bool := if fitF xs ss = 0 then !(List.range xs.length).any (outAt xs ss) else false
theorem fit_row {xs : List Int} {ss : List Sp} (h : rowF xs ≠ 0) : fitF xs ss = rowF xs ∧ fitV xs ss = false := by
  have e : fitF xs ss = rowF xs := by unfold fitF; rw [if_pos h]
  exact ⟨e, by unfold fitV; rw [e, if_neg h]⟩
theorem fit_len {xs : List Int} {ss : List Sp} (h : rowF xs = 0) (hl : ss.length ≠ xs.length) : fitF xs ss = 3 ∧ fitV xs ss = false := by
  have e : fitF xs ss = 3 := by unfold fitF; rw [if_neg (by simp [h]), if_pos hl]
  exact ⟨e, by unfold fitV; rw [e, if_neg (by decide)]⟩
theorem fit_ok {xs : List Int} {ss : List Sp} (h : rowF xs = 0) (hl : ss.length = xs.length) : fitF xs ss = 0 ∧ fitV xs ss = !(List.range xs.length).any (outAt xs ss) := by
  have e : fitF xs ss = 0 := by unfold fitF; rw [if_neg (by simp [h]), if_neg (by simp [hl])]
  exact ⟨e, by unfold fitV; rw [if_pos e]⟩
theorem any_hit {p : Nat → Bool} {n k : Nat} (hk : k < n) (h : p k = true) : (List.range n).any p = true := by
  rw [List.any_eq_true]; exact ⟨k, List.mem_range.2 hk, h⟩
theorem any_miss {p : Nat → Bool} {n : Nat} (h : ∀ i, i < n → p i = false) : (List.range n).any p = false := by
  rw [List.any_eq_false]; intro i hi; rw [h i (List.mem_range.1 hi)]; simp

/-- the bin of a cell that may be, by cuts that are right -/
def binC (c : Int) (cs : List Int) : Int := if cutsI cs ≠ 0 then 0 else if c = nilI then nilI else (binI cs c : Nat)
def bins (xs : List Int) (ks : List (List Int)) : List Int := (List.range xs.length).map fun i => binC (xs.getD i 0) (ks.getD i [])
theorem bins_len (xs : List Int) (ks : List (List Int)) : (bins xs ks).length = xs.length := by simp [bins]
theorem bins_at (xs : List Int) (ks : List (List Int)) (k : Nat) (h : k < xs.length) (h' : k < (bins xs ks).length) : (bins xs ks)[k] = binC xs[k] (ks.getD k []) := by
  simp [bins, List.getD, List.getElem?_eq_getElem h]
/-- the first fault of cuts, from a place on -/
def faultC : List (List Int) → Int
  | [] => 0
  | c :: t => if cutsI c ≠ 0 then cutsI c else faultC t
def binsF (xs : List Int) (ks : List (List Int)) : Int := if rowF xs ≠ 0 then rowF xs else if ks.length ≠ xs.length then 3 else faultC ks
def binsV (xs : List Int) (ks : List (List Int)) : List Int := if binsF xs ks = 0 then bins xs ks else []
theorem fault_at {ks : List (List Int)} {k : Nat} (h : k < ks.length) (hc : cutsI ks[k] ≠ 0) : faultC (ks.drop k) = cutsI ks[k] := by
  rw [List.drop_eq_getElem_cons h]; unfold faultC; rw [if_pos hc]
theorem fault_next {ks : List (List Int)} {k : Nat} (h : k < ks.length) (hc : cutsI ks[k] = 0) : faultC (ks.drop k) = faultC (ks.drop (k + 1)) := by
  rw [List.drop_eq_getElem_cons h]
  show (if cutsI ks[k] ≠ 0 then cutsI ks[k] else faultC (ks.drop (k + 1))) = _
  rw [if_neg (by simp [hc])]
theorem fault_end {ks : List (List Int)} {k : Nat} (h : ks.length ≤ k) : faultC (ks.drop k) = 0 := by rw [List.drop_of_length_le h]; rfl
theorem fault_codes (ks : List (List Int)) : faultC ks = 0 ∨ faultC ks = 1 ∨ faultC ks = 3 ∨ faultC ks = 4 := by
  induction ks with
  | nil => exact Or.inl rfl
  | cons c t ih =>
    unfold faultC
    split
    · exact cuts_codes c
    · exact ih
theorem bins_row {xs : List Int} {ks : List (List Int)} (h : rowF xs ≠ 0) : binsF xs ks = rowF xs ∧ binsV xs ks = [] := by
  have e : binsF xs ks = rowF xs := by unfold binsF; rw [if_pos h]
  exact ⟨e, by unfold binsV; rw [e, if_neg h]⟩
theorem bins_shape {xs : List Int} {ks : List (List Int)} (h : rowF xs = 0) (hl : ks.length ≠ xs.length) : binsF xs ks = 3 ∧ binsV xs ks = [] := by
  have e : binsF xs ks = 3 := by unfold binsF; rw [if_neg (by simp [h]), if_pos hl]
  exact ⟨e, by unfold binsV; rw [e, if_neg (by decide)]⟩
theorem bins_some {xs : List Int} {ks : List (List Int)} (h : rowF xs = 0) (hl : ks.length = xs.length) : binsF xs ks = faultC ks := by
  unfold binsF; rw [if_neg (by simp [h]), if_neg (by simp [hl])]
theorem binC_bad {c : Int} {cs : List Int} (h : cutsI cs ≠ 0) : binC c cs = 0 := by unfold binC; rw [if_pos h]
theorem binC_nil {c : Int} {cs : List Int} (h : cutsI cs = 0) (hc : c = nilI) : binC c cs = nilI := by unfold binC; rw [if_neg (by simp [h]), if_pos hc]
theorem binC_num {c : Int} {cs : List Int} (h : cutsI cs = 0) (hc : c ≠ nilI) : binC c cs = (binI cs c : Nat) := by unfold binC; rw [if_neg (by simp [h]), if_neg hc]

end Go.Proofs.YtiggkjkjfnlfkaaGreatDoor.M
