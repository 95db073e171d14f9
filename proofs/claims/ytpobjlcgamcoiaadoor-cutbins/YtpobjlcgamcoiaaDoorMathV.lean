/-
  Plain mathematics of values: what is wrong with some, their cuts, how many are in each bin, and a bin's ends; no condition beyond those named.
-/
import Derived.Test.YtpobjlcgamcoiaaDoorMathC
namespace Go.Proofs.YtpobjlcgamcoiaaDoor.M
set_option linter.unusedVariables false

/-- the fault of values -/
def valsI (l : List Int) : Int := if 1000 < l.length then 4 else if l.any outI then 1 else 0
theorem vals_ok (l : List Int) : valsI l = 0 ↔ l.length ≤ 1000 ∧ ∀ x ∈ l, outI x = false := by
  unfold valsI
  by_cases h : 1000 < l.length
  · rw [if_pos h]; constructor
    · intro h; cases h
    · rintro ⟨h1, _⟩; omega
  · rw [if_neg h]
    cases ho : l.any outI with
    | true =>
      constructor
      · intro h; simp at h
      · rintro ⟨_, h2⟩
        obtain ⟨x, hx, hx2⟩ := List.any_eq_true.1 ho
        rw [h2 x hx] at hx2; cases hx2
    | false =>
      simp only [Bool.false_eq_true, if_false, true_iff]
      refine ⟨by omega, fun x hx => ?_⟩
      cases h2 : outI x with
      | false => rfl
      | true => rw [List.any_eq_true.2 ⟨x, hx, h2⟩] at ho; cases ho

/-- cuts of values in order, behind so many rounds, and the last value that was met -/
def stepI (S : List Int) (m : Nat) : Nat → List Int × Int
  | 0 => ([], S.getD 0 0)
  | k + 1 => if (stepI S m k).2 < S.getD ((k + 1) * S.length / (m + 1)) 0 then ((stepI S m k).1 ++ [S.getD ((k + 1) * S.length / (m + 1)) 0], S.getD ((k + 1) * S.length / (m + 1)) 0) else stepI S m k
def cutsOfI (l : List Int) (m : Nat) : List Int := (stepI (sortI l) m m).1
theorem place_lt (n m k : Nat) (hn : 0 < n) (hk : k < m) : (k + 1) * n / (m + 1) < n := by
  rw [Nat.div_lt_iff_lt_mul (by omega), Nat.mul_comm n (m + 1)]
  exact Nat.mul_lt_mul_of_pos_right (by omega) hn
theorem step_push (S : List Int) (m k : Nat) (h : (stepI S m k).2 < S.getD ((k + 1) * S.length / (m + 1)) 0) :
    stepI S m (k + 1) = ((stepI S m k).1 ++ [S.getD ((k + 1) * S.length / (m + 1)) 0], S.getD ((k + 1) * S.length / (m + 1)) 0) := by
  show (if _ then _ else _) = _; rw [if_pos h]
theorem step_stay (S : List Int) (m k : Nat) (h : ¬ (stepI S m k).2 < S.getD ((k + 1) * S.length / (m + 1)) 0) : stepI S m (k + 1) = stepI S m k := by
  show (if _ then _ else _) = _; rw [if_neg h]
theorem step_len (S : List Int) (m k : Nat) : (stepI S m k).1.length ≤ k := by
  induction k with
  | zero => exact Nat.le_refl _
  | succ k ih =>
    by_cases h : (stepI S m k).2 < S.getD ((k + 1) * S.length / (m + 1)) 0
    · rw [step_push S m k h]; simp; omega
    · rw [step_stay S m k h]; omega
theorem getD_mem (S : List Int) (j : Nat) (h : j < S.length) : S.getD j 0 ∈ S := by
  rw [List.getD, List.getElem?_eq_getElem h]; exact List.getElem_mem h
theorem step_inv (S : List Int) (m : Nat) (hn : 0 < S.length) : ∀ k, k ≤ m →
    (stepI S m k).1.Pairwise (fun a b => a < b) ∧ (∀ c ∈ (stepI S m k).1, c ∈ S ∧ S.getD 0 0 < c ∧ c ≤ (stepI S m k).2) ∧ S.getD 0 0 ≤ (stepI S m k).2 := by
  intro k
  induction k with
  | zero => intro _; exact ⟨List.Pairwise.nil, fun c hc => by simp [stepI] at hc, Int.le_refl _⟩
  | succ k ih =>
    intro hk
    obtain ⟨h1, h2, h3⟩ := ih (by omega)
    by_cases h : (stepI S m k).2 < S.getD ((k + 1) * S.length / (m + 1)) 0
    · rw [step_push S m k h]
      have hm := getD_mem S _ (place_lt S.length m k hn (by omega))
      generalize S.getD ((k + 1) * S.length / (m + 1)) 0 = v at *
      refine ⟨?_, ?_, by simp only; omega⟩
      · rw [List.pairwise_append]
        exact ⟨h1, by simp, fun x hx y hy => by simp at hy; subst hy; have := (h2 x hx).2.2; omega⟩
      · intro c hc
        rw [List.mem_append] at hc
        rcases hc with hc | hc
        · obtain ⟨g1, g2, g3⟩ := h2 c hc; exact ⟨g1, g2, by simp only; omega⟩
        · simp at hc; subst hc; exact ⟨hm, by omega, Int.le_refl _⟩
    · rw [step_stay S m k h]; exact ⟨h1, h2, h3⟩
theorem sort_zero_le (l : List Int) (x : Int) (hx : x ∈ l) : (sortI l).getD 0 0 ≤ x := by
  have hx' : x ∈ sortI l := (sort_perm l).mem_iff.2 hx
  obtain ⟨j, hj, e⟩ := List.mem_iff_getElem.1 hx'
  have h0 : 0 < (sortI l).length := by omega
  rw [List.getD, List.getElem?_eq_getElem h0]
  show (sortI l)[0] ≤ x
  rcases Nat.eq_zero_or_pos j with h | h
  · subst h; rw [e]; exact Int.le_refl _
  · have := List.pairwise_iff_getElem.1 (sort_pw l) 0 j h0 hj h
    omega
theorem cutsOf_pw (l : List Int) (m : Nat) (hl : 0 < l.length) : (cutsOfI l m).Pairwise (fun a b => a < b) :=
  (step_inv (sortI l) m (by rw [sort_length]; exact hl) m (Nat.le_refl _)).1
theorem cutsOf_mem (l : List Int) (m : Nat) (hl : 0 < l.length) (c : Int) (hc : c ∈ cutsOfI l m) : c ∈ l ∧ (sortI l).getD 0 0 < c := by
  obtain ⟨h1, h2, _⟩ := (step_inv (sortI l) m (by rw [sort_length]; exact hl) m (Nat.le_refl _)).2.1 c hc
  exact ⟨(sort_perm l).mem_iff.1 h1, h2⟩
theorem cutsOf_ok (l : List Int) (m : Nat) (hl : 0 < l.length) (hv : valsI l = 0) (hm : m ≤ 60) : cutsI (cutsOfI l m) = 0 := by
  rw [cuts_ok]
  refine ⟨Nat.le_trans (step_len _ _ _) hm, fun x hx => ((vals_ok l).1 hv).2 x (cutsOf_mem l m hl x hx).1, cutsOf_pw l m hl⟩
theorem least_mem (l : List Int) (hl : 0 < l.length) : (sortI l).getD 0 0 ∈ l :=
  (sort_perm l).mem_iff.1 (getD_mem _ 0 (by rw [sort_length]; exact hl))

/-- how many are in each bin, of the first so many -/
def cntI (c l : List Int) : Nat → List Int
  | 0 => List.replicate (c.length + 1) 0
  | k + 1 => (cntI c l k).set (binI c (l.getD k 0)) ((cntI c l k).getD (binI c (l.getD k 0)) 0 + 1)
theorem cnt_len (c l : List Int) (k : Nat) : (cntI c l k).length = c.length + 1 := by
  induction k with
  | zero => simp [cntI]
  | succ k ih => simp [cntI, ih]
theorem getD_set (L : List Int) (i j : Nat) (x : Int) : (L.set i x).getD j 0 = if i = j ∧ i < L.length then x else L.getD j 0 := by
  simp only [List.getD, List.getElem?_set]
  by_cases h : i = j
  · subst h
    by_cases h2 : i < L.length
    · simp [h2]
    · simp [h2]
  · simp [h]
theorem cnt_bd (c l : List Int) (k : Nat) : ∀ j, 0 ≤ (cntI c l k).getD j 0 ∧ (cntI c l k).getD j 0 ≤ k := by
  induction k with
  | zero =>
    intro j
    have : (cntI c l 0).getD j 0 = 0 := by
      simp only [cntI, List.getD]
      by_cases h : j < c.length + 1
      · simp [h]
      · simp [h]
    rw [this]; simp
  | succ k ih =>
    intro j
    simp only [cntI]
    rw [getD_set]
    have h1 := ih j
    have h2 := ih (binI c (l.getD k 0))
    split
    · omega
    · omega
theorem sum_set (L : List Int) (i : Nat) (h : i < L.length) : (L.set i (L.getD i 0 + 1)).sum = L.sum + 1 := by
  induction L generalizing i with
  | nil => simp at h
  | cons x L ih =>
    cases i with
    | zero => simp [List.getD]; omega
    | succ i =>
      have := ih i (by simpa using h)
      simp only [List.set_cons_succ, List.sum_cons]
      have e : (x :: L).getD (i + 1) 0 = L.getD i 0 := by simp [List.getD]
      rw [e, this]; omega
theorem cnt_sum (c l : List Int) (k : Nat) : (cntI c l k).sum = k := by
  induction k with
  | zero => simp [cntI]
  | succ k ih =>
    simp only [cntI]
    rw [sum_set _ _ (by rw [cnt_len]; have := bin_le c (l.getD k 0); omega), ih]
    omega
theorem cnt_first (c l : List Int) (j : Nat) (hj : binI c (l.getD j 0) = 0) : ∀ k, j < k → 1 ≤ (cntI c l k).getD 0 0 := by
  intro k
  induction k with
  | zero => intro h; omega
  | succ k ih =>
    intro h
    simp only [cntI]
    rw [getD_set]
    by_cases e : j = k
    · subst e
      rw [hj, if_pos ⟨rfl, by rw [cnt_len]; omega⟩]
      have := cnt_bd c l j 0; omega
    · have h1 := ih (by omega)
      have h2 := cnt_bd c l k (binI c (l.getD k 0))
      split
      · omega
      · exact h1
theorem bin_zero (c : List Int) (x : Int) (h : ∀ y ∈ c, x < y) : binI c x = 0 := by
  unfold binI
  rw [List.countP_eq_zero]; intro z hz; have := h z hz; simp; omega
theorem cuts_first (l : List Int) (m : Nat) (hl : 0 < l.length) : 1 ≤ (cntI (cutsOfI l m) l l.length).getD 0 0 := by
  obtain ⟨j, hj, e⟩ := List.mem_iff_getElem.1 (least_mem l hl)
  refine cnt_first _ l j ?_ l.length hj
  refine bin_zero _ _ (fun y hy => ?_)
  have := (cutsOf_mem l m hl y hy).2
  rw [List.getD, List.getElem?_eq_getElem hj]
  show l[j] < y
  omega
theorem cnt_none (l : List Int) (k : Nat) : (cntI [] l k).getD 0 0 = k := by
  induction k with
  | zero => simp [cntI, List.getD]
  | succ k ih =>
    simp only [cntI]
    rw [getD_set]
    have e : binI [] (l.getD k 0) = 0 := rfl
    rw [e, if_pos ⟨rfl, by rw [cnt_len]; omega⟩, ih]
    omega

/-- a bin's ends -/
def lowI (c : List Int) (k : Nat) : Int := if k = 0 then -1000000 else c.getD (k - 1) 0
def highI (c : List Int) (k : Nat) : Int := if k < c.length then c.getD k 0 - 1 else 1000000
theorem low_le (c : List Int) (x : Int) (h : c.Pairwise (fun a b => a < b)) (ho : outI x = false) : lowI c (binI c x) ≤ x := by
  have := out_false ho
  unfold lowI
  split
  · omega
  · have hb := bin_le c x
    have := bin_low c x h (binI c x - 1) (by omega) (by omega)
    rw [List.getD, List.getElem?_eq_getElem (show binI c x - 1 < c.length by omega)]
    exact this
theorem le_high (c : List Int) (x : Int) (h : c.Pairwise (fun a b => a < b)) (ho : outI x = false) : x ≤ highI c (binI c x) := by
  have := out_false ho
  unfold highI
  split
  · rename_i hb
    have := bin_high c x h (binI c x) hb (Nat.le_refl _)
    rw [List.getD, List.getElem?_eq_getElem hb]
    show x ≤ c[binI c x] - 1
    omega
  · omega

/-- two lists that rise and have the same numbers are one -/
theorem rise_eq (a b : List Int) (ha : a.Pairwise (fun a b => a < b)) (hb : b.Pairwise (fun a b => a < b)) (h : ∀ x, x ∈ a ↔ x ∈ b) : a = b := by
  induction a generalizing b with
  | nil =>
    cases b with
    | nil => rfl
    | cons y b => exact absurd ((h y).2 (by simp)) (by simp)
  | cons x a ih =>
    cases b with
    | nil => exact absurd ((h x).1 (by simp)) (by simp)
    | cons y b =>
      rw [List.pairwise_cons] at ha hb
      have e : x = y := by
        rcases List.mem_cons.1 ((h x).1 (by simp)) with e | hx
        · exact e
        · rcases List.mem_cons.1 ((h y).2 (by simp)) with e | hy
          · exact e.symm
          · have := ha.1 y hy; have := hb.1 x hx; omega
      subst e
      rw [ih b ha.2 hb.2 (fun z => ?_)]
      constructor
      · intro hz
        rcases List.mem_cons.1 ((h z).1 (by simp [hz])) with e | hz2
        · subst e; have := ha.1 z hz; omega
        · exact hz2
      · intro hz
        rcases List.mem_cons.1 ((h z).2 (by simp [hz])) with e | hz2
        · subst e; have := hb.1 z hz; omega
        · exact hz2
theorem merge_self (c : List Int) (h : c.Pairwise (fun a b => a < b)) : mergeI c c = c :=
  rise_eq _ _ (merge_pw c c) h (fun x => by rw [merge_mem]; simp)

end Go.Proofs.YtpobjlcgamcoiaaDoor.M
