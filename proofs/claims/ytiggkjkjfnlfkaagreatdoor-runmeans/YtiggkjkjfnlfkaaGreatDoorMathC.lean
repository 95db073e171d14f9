/-
  Plain mathematics of cuts: what is wrong with some, in which bin a number is, and what two lists of them are together; no condition beyond those named.
-/
import Derived.Test.YtiggkjkjfnlfkaaGreatDoorMathS
import Derived.Lib.SlicesCompact
namespace Go.Proofs.YtiggkjkjfnlfkaaGreatDoor.M
set_option linter.unusedVariables false

/-- no number of a cell -/
def outI (x : Int) : Bool := decide (x < -1000000) || decide (1000000 < x)
theorem out_false {x : Int} (h : outI x = false) : -1000000 ≤ x ∧ x ≤ 1000000 := by unfold outI at h; simp at h; omega
theorem out_true {x : Int} (h : outI x = true) : x < -1000000 ∨ 1000000 < x := by unfold outI at h; simpa using h
theorem out_of {x : Int} (h1 : -1000000 ≤ x) (h2 : x ≤ 1000000) : outI x = false := by unfold outI; simp; omega

/-- the fault of cuts, behind one -/
def badI : Option Int → List Int → Int
  | _, [] => 0
  | none, x :: t => if outI x then 1 else badI (some x) t
  | some y, x :: t => if outI x then 1 else if x ≤ y then 3 else badI (some x) t
def cutsI (l : List Int) : Int := if 60 < l.length then 4 else badI none l
def prevI (l : List Int) (k : Nat) : Option Int := if k = 0 then none else some (l.getD (k - 1) 0)
def badFrom (l : List Int) (k : Nat) : Int := badI (prevI l k) (l.drop k)

theorem bad_out (p : Option Int) (x : Int) (t : List Int) (h : outI x = true) : badI p (x :: t) = 1 := by cases p <;> simp [badI, h]
theorem badFrom_out (l : List Int) (k : Nat) (h : k < l.length) (ho : outI l[k] = true) : badFrom l k = 1 := by
  unfold badFrom; rw [List.drop_eq_getElem_cons h]; exact bad_out _ _ _ ho
theorem prev_succ (l : List Int) (k : Nat) (h : k < l.length) : prevI l (k + 1) = some l[k] := by
  unfold prevI; rw [if_neg (by omega)]; simp [List.getD, List.getElem?_eq_getElem h]
theorem badFrom_fall (l : List Int) (j : Nat) (h : j + 1 < l.length) (ho : outI l[j + 1] = false) (hf : l[j + 1] ≤ l[j]) : badFrom l (j + 1) = 3 := by
  unfold badFrom; rw [List.drop_eq_getElem_cons h, prev_succ l j (by omega)]; simp [badI, ho, hf]
theorem badFrom_next (l : List Int) (j : Nat) (h : j + 1 < l.length) (ho : outI l[j + 1] = false) (hf : l[j] < l[j + 1]) : badFrom l (j + 1) = badFrom l (j + 1 + 1) := by
  unfold badFrom; rw [List.drop_eq_getElem_cons h, prev_succ l j (by omega), prev_succ l (j + 1) h]; simp [badI, ho, show ¬ l[j + 1] ≤ l[j] by omega]
theorem badFrom_first (l : List Int) (h : 0 < l.length) (ho : outI l[0] = false) : badFrom l 0 = badFrom l (0 + 1) := by
  unfold badFrom; rw [List.drop_eq_getElem_cons h, prev_succ l 0 h]; simp [badI, ho, prevI]
theorem badFrom_end (l : List Int) (k : Nat) (h : l.length ≤ k) : badFrom l k = 0 := by
  unfold badFrom; rw [List.drop_of_length_le h]; cases prevI l k <;> rfl
theorem badFrom_zero (l : List Int) (h : l.length ≤ 60) : badFrom l 0 = cutsI l := by
  rw [show cutsI l = badI none l from if_neg (by omega)]; rfl
theorem cuts_many (l : List Int) (h : 60 < l.length) : cutsI l = 4 := by unfold cutsI; rw [if_pos h]

theorem bad_zero (l : List Int) : ∀ p, badI p l = 0 ↔ (∀ x ∈ l, outI x = false) ∧ l.Pairwise (fun a b => a < b) ∧ (∀ y, p = some y → ∀ x ∈ l, y < x) := by
  induction l with
  | nil => intro p; cases p <;> simp [badI]
  | cons x t ih =>
    intro p
    cases ho : outI x with
    | true => rw [bad_out p x t ho]; simp [ho]
    | false =>
      have ih' := ih (some x)
      cases p with
      | none =>
        simp only [badI, ho]
        rw [if_neg (by simp), ih', List.pairwise_cons]
        simp only [List.mem_cons, forall_eq_or_imp]
        constructor
        · rintro ⟨h1, h2, h3⟩; exact ⟨⟨ho, h1⟩, ⟨fun z hz => h3 x rfl z hz, h2⟩, fun y hy => by cases hy⟩
        · rintro ⟨⟨_, h1⟩, ⟨h4, h2⟩, _⟩; exact ⟨h1, h2, fun y hy z hz => by cases hy; exact h4 z hz⟩
      | some q =>
        simp only [badI, ho]
        rw [if_neg (by simp)]
        by_cases hq : x ≤ q
        · rw [if_pos hq]
          constructor
          · intro h; cases h
          · rintro ⟨_, _, h3⟩; have := h3 q rfl x (by simp); omega
        · rw [if_neg hq, ih', List.pairwise_cons]
          constructor
          · rintro ⟨h1, h2, h3⟩
            refine ⟨?_, ⟨fun z hz => h3 x rfl z hz, h2⟩, ?_⟩
            · intro z hz; rcases List.mem_cons.1 hz with rfl | hz; exact ho; exact h1 z hz
            · intro y hy z hz
              cases hy
              rcases List.mem_cons.1 hz with rfl | hz
              · omega
              · have := h3 x rfl z hz; omega
          · rintro ⟨h1, ⟨h4, h2⟩, _⟩
            exact ⟨fun z hz => h1 z (by simp [hz]), h2, fun y hy z hz => by cases hy; exact h4 z hz⟩

theorem cuts_ok (l : List Int) : cutsI l = 0 ↔ l.length ≤ 60 ∧ (∀ x ∈ l, outI x = false) ∧ l.Pairwise (fun a b => a < b) := by
  unfold cutsI
  by_cases h : 60 < l.length
  · rw [if_pos h]; constructor
    · intro h; cases h
    · rintro ⟨h1, _⟩; omega
  · rw [if_neg h, bad_zero]
    constructor
    · rintro ⟨h1, h2, _⟩; exact ⟨by omega, h1, h2⟩
    · rintro ⟨_, h1, h2⟩; exact ⟨h1, h2, fun y hy => by cases hy⟩
theorem bad_codes (l : List Int) : ∀ p, badI p l = 0 ∨ badI p l = 1 ∨ badI p l = 3 := by
  induction l with
  | nil => intro p; cases p <;> simp [badI]
  | cons x t ih =>
    intro p
    cases p with
    | none => simp only [badI]; split <;> simp [ih]
    | some q =>
      simp only [badI]
      split
      · simp
      · split
        · simp
        · exact ih _
theorem cuts_codes (l : List Int) : cutsI l = 0 ∨ cutsI l = 1 ∨ cutsI l = 3 ∨ cutsI l = 4 := by
  unfold cutsI
  split
  · simp
  · rcases bad_codes l none with h | h | h <;> simp [h]

/-- in which bin a number is -/
def binI (l : List Int) (x : Int) : Nat := l.countP (fun c => decide (c ≤ x))
theorem bin_le (l : List Int) (x : Int) : binI l x ≤ l.length := List.countP_le_length
theorem bin_range (l : List Int) (x : Int) : (List.range l.length).countP (fun i => !decide (x < l.getD i 0)) = binI l x := by
  unfold binI
  have h : l = (List.range l.length).map (fun i => l.getD i 0) := by
    apply List.ext_getElem
    · simp
    · intro i h1 h2
      simp [List.getD, List.getElem?_eq_getElem h1]
  conv => rhs; rw [h]
  rw [List.countP_map]
  congr 1
  funext i
  simp only [Function.comp]
  by_cases hx : x < l.getD i 0
  · rw [decide_eq_true hx, decide_eq_false (by omega)]; rfl
  · rw [decide_eq_false hx, decide_eq_true (by omega)]; rfl
theorem bin_low (l : List Int) (x : Int) (h : l.Pairwise (fun a b => a < b)) : ∀ i (hi : i < l.length), i < binI l x → l[i] ≤ x := by
  induction l with
  | nil => intro i hi; simp at hi
  | cons c t ih =>
    rw [List.pairwise_cons] at h
    intro i hi hb
    unfold binI at hb
    rw [List.countP_cons] at hb
    by_cases hc : c ≤ x
    · cases i with
      | zero => exact hc
      | succ i =>
        have := ih h.2 i (by simpa using hi) (by unfold binI; simp [hc] at hb; omega)
        simpa using this
    · have : t.countP (fun c => decide (c ≤ x)) = 0 := by
        rw [List.countP_eq_zero]; intro z hz; have := h.1 z hz; simp; omega
      rw [this] at hb; simp [hc] at hb
theorem bin_high (l : List Int) (x : Int) (h : l.Pairwise (fun a b => a < b)) : ∀ i (hi : i < l.length), binI l x ≤ i → x < l[i] := by
  induction l with
  | nil => intro i hi; simp at hi
  | cons c t ih =>
    rw [List.pairwise_cons] at h
    intro i hi hb
    unfold binI at hb
    rw [List.countP_cons] at hb
    by_cases hc : c ≤ x
    · cases i with
      | zero => simp [hc] at hb
      | succ i =>
        have := ih h.2 i (by simpa using hi) (by unfold binI; simp [hc] at hb; omega)
        simpa using this
    · cases i with
      | zero => simp; omega
      | succ i =>
        have hi' : i < t.length := by simpa using hi
        have := h.1 t[i] (List.getElem_mem hi')
        simp; omega
theorem bin_mono (l : List Int) {x y : Int} (h : x ≤ y) : binI l x ≤ binI l y := by
  unfold binI
  exact List.countP_mono_left (fun c _ hc => by simp at *; omega)
theorem bin_same (l : List Int) {x y : Int} (h : x ≤ y) : binI l x = binI l y ↔ ∀ c ∈ l, ¬ (x < c ∧ c ≤ y) := by
  induction l with
  | nil => simp [binI]
  | cons c t ih =>
    have hm := bin_mono t h
    unfold binI at *
    rw [List.countP_cons, List.countP_cons]
    simp only [List.mem_cons, forall_eq_or_imp]
    by_cases h1 : c ≤ x
    · simp only [h1, show c ≤ y by omega, decide_true, if_true]
      rw [← ih]
      constructor
      · intro e; exact ⟨by omega, by omega⟩
      · rintro ⟨_, e⟩; omega
    · by_cases h2 : c ≤ y
      · simp only [h1, h2, decide_true, decide_false, if_true]
        constructor
        · intro e; simp only [Bool.false_eq_true, if_false] at e; omega
        · rintro ⟨e, _⟩; exact absurd ⟨by omega, trivial⟩ e
      · simp only [h1, h2, decide_false]
        simp only [Bool.false_eq_true, if_false, Nat.add_zero]
        rw [← ih]
        constructor
        · intro e; exact ⟨fun hh => hh.2, e⟩
        · rintro ⟨_, e⟩; exact e

/-- cuts together -/
def mergeI (a b : List Int) : List Int := Lib.compact (sortI (a ++ b))
theorem uniq_inv (d : Array Int) (hs : ∀ i, i + 1 < d.size → d[i]! ≤ d[i + 1]!) : ∀ m, m ≤ d.size →
    (Lib.compactUpTo d m).Pairwise (fun a b => a < b) ∧ (∀ x ∈ Lib.compactUpTo d m, 0 < m ∧ x ≤ d[m - 1]!) ∧ (∀ j, j < m → d[j]! ∈ Lib.compactUpTo d m) ∧ (∀ x ∈ Lib.compactUpTo d m, ∃ j, j < m ∧ x = d[j]!) := by
  intro m
  induction m with
  | zero => intro _; simp [Lib.compactUpTo]
  | succ m ih =>
    intro hm
    obtain ⟨h1, h2, h3, h4⟩ := ih (by omega)
    rw [Lib.compactUpTo_succ]
    cases hk : Lib.keeps d m with
    | false =>
      have hk' : ¬ (m = 0 ∨ d[m]! ≠ d[m - 1]!) := by simpa [Lib.keeps] using hk
      have hm0 : 0 < m := by omega
      have he : d[m]! = d[m - 1]! := by
        by_cases h : d[m]! = d[m - 1]!
        · exact h
        · exact absurd (Or.inr h) hk'
      simp only [Bool.false_eq_true, if_false, List.append_nil, Nat.add_sub_cancel]
      refine ⟨h1, fun x hx => ⟨by omega, by rw [he]; exact (h2 x hx).2⟩, fun j hj => ?_, fun x hx => ?_⟩
      · by_cases hjm : j < m
        · exact h3 j hjm
        · have : j = m := by omega
          subst this; rw [he]; exact h3 (j - 1) (by omega)
      · obtain ⟨j, hj, e⟩ := h4 x hx; exact ⟨j, by omega, e⟩
    | true =>
      have hk' : m = 0 ∨ d[m]! ≠ d[m - 1]! := by simpa [Lib.keeps] using hk
      have hlt : ∀ x ∈ Lib.compactUpTo d m, x < d[m]! := by
        intro x hx
        obtain ⟨hp, hle⟩ := h2 x hx
        have h5 := hs (m - 1) (by omega)
        rw [show m - 1 + 1 = m by omega] at h5
        rcases hk' with h | h
        · omega
        · omega
      simp only [if_true, Nat.add_sub_cancel]
      refine ⟨?_, ?_, ?_, ?_⟩
      · rw [List.pairwise_append]
        exact ⟨h1, by simp, fun x hx y hy => by simp at hy; subst hy; exact hlt x hx⟩
      · intro x hx
        rw [List.mem_append] at hx
        rcases hx with hx | hx
        · have := hlt x hx; exact ⟨by omega, by omega⟩
        · simp at hx; subst hx; exact ⟨by omega, Int.le_refl _⟩
      · intro j hj
        rw [List.mem_append]
        by_cases hjm : j < m
        · exact Or.inl (h3 j hjm)
        · have : j = m := by omega
          subst this; exact Or.inr (by simp)
      · intro x hx
        rw [List.mem_append] at hx
        rcases hx with hx | hx
        · obtain ⟨j, hj, e⟩ := h4 x hx; exact ⟨j, by omega, e⟩
        · simp at hx; exact ⟨m, by omega, hx⟩
theorem at_toArray (l : List Int) (i : Nat) (h : i < l.length) : l.toArray[i]! = l[i] := by
  rw [getElem!_pos l.toArray i (by simpa using h)]; simp
theorem sorted_next (l : List Int) (i : Nat) (h : i + 1 < l.toArray.size) (hp : l.Pairwise (fun a b => a ≤ b)) : l.toArray[i]! ≤ l.toArray[i + 1]! := by
  have h' : i + 1 < l.length := by simpa using h
  rw [at_toArray l i (by omega), at_toArray l (i + 1) h']
  exact List.pairwise_iff_getElem.1 hp i (i + 1) (by omega) h' (by omega)
theorem uniq_pw (l : List Int) (hp : l.Pairwise (fun a b => a ≤ b)) : (Lib.compact l).Pairwise (fun a b => a < b) := by
  have := uniq_inv l.toArray (fun i hi => sorted_next l i hi hp) l.length (by simp)
  exact this.1
theorem uniq_mem (l : List Int) (hp : l.Pairwise (fun a b => a ≤ b)) (x : Int) : x ∈ Lib.compact l ↔ x ∈ l := by
  have := uniq_inv l.toArray (fun i hi => sorted_next l i hi hp) l.length (by simp)
  obtain ⟨_, _, h3, h4⟩ := this
  constructor
  · intro h
    obtain ⟨j, hj, e⟩ := h4 x h
    rw [e, at_toArray l j hj]; exact List.getElem_mem _
  · intro h
    obtain ⟨j, hj, e⟩ := List.mem_iff_getElem.1 h
    have := h3 j hj
    rw [at_toArray l j hj, e] at this; exact this
theorem merge_pw (a b : List Int) : (mergeI a b).Pairwise (fun a b => a < b) := uniq_pw _ (sort_pw _)
theorem merge_mem (a b : List Int) (x : Int) : x ∈ mergeI a b ↔ x ∈ a ∨ x ∈ b := by
  unfold mergeI
  rw [uniq_mem _ (sort_pw _), (sort_perm _).mem_iff, List.mem_append]
theorem merge_le (a b : List Int) : (mergeI a b).length ≤ a.length + b.length := by
  unfold mergeI Lib.compact Lib.compactUpTo
  rw [List.length_map]
  refine Nat.le_trans (List.length_filter_le _ _) ?_
  rw [List.length_range, sort_length, List.length_append]
  exact Nat.le_refl _
theorem merge_ok {a b : List Int} (ha : cutsI a = 0) (hb : cutsI b = 0) (hl : (mergeI a b).length ≤ 60) : cutsI (mergeI a b) = 0 := by
  rw [cuts_ok] at *
  refine ⟨hl, fun x hx => ?_, merge_pw a b⟩
  rcases (merge_mem a b x).1 hx with h | h
  · exact ha.2.1 x h
  · exact hb.2.1 x h

/-- more cuts, finer bins -/
theorem finer_le (a b : List Int) {x y : Int} (h : x ≤ y) : (binI (mergeI a b) x = binI (mergeI a b) y) ↔ (binI a x = binI a y ∧ binI b x = binI b y) := by
  rw [bin_same _ h, bin_same _ h, bin_same _ h]
  constructor
  · intro e; exact ⟨fun c hc => e c ((merge_mem a b c).2 (Or.inl hc)), fun c hc => e c ((merge_mem a b c).2 (Or.inr hc))⟩
  · rintro ⟨e1, e2⟩ c hc
    rcases (merge_mem a b c).1 hc with h | h
    · exact e1 c h
    · exact e2 c h
theorem finer (a b : List Int) (x y : Int) : (binI (mergeI a b) x = binI (mergeI a b) y) ↔ (binI a x = binI a y ∧ binI b x = binI b y) := by
  by_cases h : x ≤ y
  · exact finer_le a b h
  · have := finer_le a b (show y ≤ x by omega)
    constructor
    · intro e; obtain ⟨h1, h2⟩ := this.1 e.symm; exact ⟨h1.symm, h2.symm⟩
    · rintro ⟨e1, e2⟩; exact (this.2 ⟨e1.symm, e2.symm⟩).symm

end Go.Proofs.YtiggkjkjfnlfkaaGreatDoor.M
