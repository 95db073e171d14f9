/-
  Plain mathematics of a session's text: a text cut at a byte, numbers of at most nine digits; no condition beyond those named.
-/
import Derived.Test.YtiggkjkjfnlfkaaGreatDoorMathR
import Derived.Lib.SplitLaws
namespace Go.Proofs.YtiggkjkjfnlfkaaGreatDoor.M
set_option linter.unusedVariables false

/-- a byte more in the first part -/
def headC (b : UInt8) : List (List UInt8) → List (List UInt8)
  | [] => [[b]]
  | x :: r => (b :: x) :: r
/-- a text cut at each byte c -/
def cutC (c : UInt8) : List UInt8 → List (List UInt8)
  | [] => [[]]
  | b :: l => if b = c then [] :: cutC c l else headC b (cutC c l)
theorem cutC_ne (c : UInt8) : ∀ s, cutC c s ≠ []
  | [] => by simp [cutC]
  | b :: l => by
    unfold cutC
    split
    · simp
    · unfold headC
      split <;> simp
theorem index_eq (c : UInt8) (l : List UInt8) : Lib.index (c :: l) [c] = ((0 : Nat) : Int) := by rw [Lib.index]; simp [List.isPrefixOf]
theorem index_ne {b c : UInt8} (l : List UInt8) (h : b ≠ c) : Lib.index (b :: l) [c] = if Lib.index l [c] == -1 then -1 else Lib.index l [c] + 1 := by
  have hp : ([c] : List UInt8).isPrefixOf (b :: l) = false := by simp [List.isPrefixOf, Ne.symm h]
  rw [Lib.index, hp]; simp
theorem splitK_hit {sep s : List UInt8} {save k i : Nat} (h : Lib.index s sep = (i : Int)) : Lib.splitK sep save (k + 1) s = s.take (i + save) :: Lib.splitK sep save k (s.drop (i + sep.length)) := by
  have hm : ¬ (Lib.index s sep == -1) = true := fun e => by have := beq_iff_eq.1 e; omega
  have e : (Lib.index s sep).toNat = i := by omega
  rw [Lib.splitK, if_neg hm, e]
theorem split_one (c : UInt8) : ∀ s : List UInt8, Lib.splitK [c] 0 (Lib.count s [c]) s = cutC c s
  | [] => by rw [Lib.count_miss (by simp [Lib.index])]; rfl
  | b :: l => by
    have ih := split_one c l
    unfold cutC
    by_cases h : b = c
    · subst h
      rw [if_pos rfl, Lib.count_cons_eq, Nat.add_comm, splitK_hit (index_eq b l)]
      show [] :: Lib.splitK [b] 0 _ l = _
      rw [ih]
    · rw [if_neg h, Lib.count_cons_ne b c l h, ← ih]
      by_cases hm : Lib.index l [c] = -1
      · rw [Lib.count_miss hm]; rfl
      · have hge := Lib.index_ge l [c]
        obtain ⟨j, hj⟩ : ∃ j : Nat, Lib.index l [c] = j := ⟨(Lib.index l [c]).toNat, by omega⟩
        have hix : Lib.index (b :: l) [c] = ((j + 1 : Nat) : Int) := by rw [index_ne l h, if_neg (fun e => hm (beq_iff_eq.1 e)), hj]; omega
        have hc := Lib.count_hit (sub := [c]) (by simp) hj
        rw [hc, Nat.add_comm, splitK_hit hix, splitK_hit hj]
        rfl
/-- what has no such byte is not cut -/
theorem cutC_none {c : UInt8} : ∀ {s : List UInt8}, c ∉ s → cutC c s = [s]
  | [], _ => rfl
  | b :: l, h => by
    have h1 : b ≠ c := fun e => h (by rw [e]; exact List.mem_cons_self ..)
    unfold cutC
    rw [if_neg h1, cutC_none (fun e => h (List.mem_cons_of_mem _ e))]
    rfl
theorem cutC_app {c : UInt8} : ∀ {a : List UInt8} (t : List UInt8), c ∉ a → cutC c (a ++ c :: t) = a :: cutC c t
  | [], t, _ => by show cutC c (c :: t) = _; rw [cutC, if_pos rfl]
  | b :: l, t, h => by
    have h1 : b ≠ c := fun e => h (by rw [e]; exact List.mem_cons_self ..)
    show (if b = c then [] :: cutC c (l ++ c :: t) else headC b (cutC c (l ++ c :: t))) = _
    rw [if_neg h1, cutC_app t (fun e => h (List.mem_cons_of_mem _ e))]
    rfl

theorem headC_len (b : UInt8) {l : List (List UInt8)} (h : l ≠ []) : (headC b l).length = l.length := by
  cases l with
  | nil => exact absurd rfl h
  | cons x r => rfl
theorem cutC_len (c : UInt8) : ∀ s : List UInt8, (cutC c s).length ≤ s.length + 1
  | [] => by simp [cutC]
  | b :: l => by
    have ih := cutC_len c l
    unfold cutC
    split
    · simp only [List.length_cons]; omega
    · rw [headC_len b (cutC_ne c l)]; simp only [List.length_cons]; omega
theorem cutC_le (c : UInt8) : ∀ (s : List UInt8), ∀ x ∈ cutC c s, x.length ≤ s.length
  | [], x, hx => by
    rw [show cutC c [] = [[]] from rfl, List.mem_singleton] at hx
    rw [hx]; exact Nat.le_refl _
  | b :: l, x, hx => by
    have ih := cutC_le c l
    unfold cutC at hx
    split at hx
    · rcases List.mem_cons.1 hx with rfl | h
      · exact Nat.zero_le _
      · have := ih x h; simp only [List.length_cons]; omega
    · cases e : cutC c l with
      | nil => exact absurd e (cutC_ne c l)
      | cons y r =>
        rw [e] at hx ih
        unfold headC at hx
        rcases List.mem_cons.1 hx with rfl | h
        · have := ih y (List.mem_cons_self ..); simp only [List.length_cons]; omega
        · have := ih x (List.mem_cons_of_mem _ h); simp only [List.length_cons]; omega
/-- a word as a number of a line -/
def numR (w : List UInt8) : Option Int :=
  match Lib.atoiAll w with
  | .ok n => if (-999999999 ≤ n ∧ n ≤ 999999999) ∧ Lib.itoa n = w then some n else none
  | _ => none
theorem numR_ok {w : List UInt8} {n : Int} (h : Lib.atoiAll w = .ok n) : numR w = if (-999999999 ≤ n ∧ n ≤ 999999999) ∧ Lib.itoa n = w then some n else none := by
  unfold numR; rw [h]
theorem numR_no {w : List UInt8} (h : ∀ n, Lib.atoiAll w ≠ .ok n) : numR w = none := by
  unfold numR
  rcases hA : Lib.atoiAll w with n | _ | _
  · exact absurd hA (h n)
  · rfl
  · rfl
theorem numR_in {w : List UInt8} {n : Int} (h : numR w = some n) : -999999999 ≤ n ∧ n ≤ 999999999 := by
  unfold numR at h
  split at h
  · split at h
    · next q => cases h; exact q.1
    · cases h
  · cases h
/-- several words as numbers -/
def numsR : List (List UInt8) → Option (List Int)
  | [] => some []
  | w :: r => match numR w with
    | none => none
    | some n => match numsR r with
      | none => none
      | some l => some (n :: l)
theorem numsR_all : ∀ {ws : List (List UInt8)}, (∀ w ∈ ws, (numR w).isSome = true) → numsR ws = some (ws.map fun w => (numR w).getD 0)
  | [], _ => rfl
  | w :: r, h => by
    have h1 := h w (List.mem_cons_self ..)
    have ih := numsR_all (ws := r) fun x hx => h x (List.mem_cons_of_mem _ hx)
    unfold numsR
    cases e : numR w with
    | none => rw [e] at h1; cases h1
    | some n => simp only [ih, List.map_cons, e, Option.getD_some]
theorem numsR_none : ∀ {ws : List (List UInt8)} {w : List UInt8}, w ∈ ws → numR w = none → numsR ws = none
  | [], w, h, _ => by cases h
  | x :: r, w, h, hn => by
    unfold numsR
    rcases List.mem_cons.1 h with rfl | h
    · rw [hn]
    · have ih := numsR_none h hn
      rw [ih]
      cases numR x <;> rfl
/-- a list -/
def listR (w : List UInt8) : Option (List Int) := if w = [] then some [] else numsR (cutC 44 w)

end Go.Proofs.YtiggkjkjfnlfkaaGreatDoor.M
