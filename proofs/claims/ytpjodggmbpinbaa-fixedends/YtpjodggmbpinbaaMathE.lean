/-
  Plain mathematics for FixedEnds: bounds of totals, means and middles, and what its loop counts; no condition beyond those named.
-/
import Derived.Test.YtpjodggmbpinbaaMathS
namespace Go.Proofs.Ytpjodggmbpinbaa.M
set_option linter.unusedVariables false

theorem add_comm' (x y : Int) : addI y x = addI x y := by unfold addI; rw [Int.add_comm]
theorem mul_comm' (x y : Int) : mulI y x = mulI x y := by unfold mulI; rw [Int.mul_comm]
theorem add_bd' (x y : Int) : -1099511627776 ≤ addI x y ∧ addI x y ≤ 1099511627776 := fit_le _
theorem mul_bd' (x y : Int) : -1099511627776 ≤ mulI x y ∧ mulI x y ≤ 1099511627776 := fit_le _
theorem fold_bd (l : List Int) : ∀ s, (-1099511627776 ≤ s ∧ s ≤ 1099511627776) → -1099511627776 ≤ l.foldl addI s ∧ l.foldl addI s ≤ 1099511627776 := by
  induction l with
  | nil => intro s h; exact h
  | cons x l ih => intro s h; rw [List.foldl_cons]; exact ih _ (add_bd' _ _)
theorem total_bd (l : List Int) : -1099511627776 ≤ totalI l ∧ totalI l ≤ 1099511627776 := fold_bd l 0 (by omega)

/-- a fraction rounded is no more than a half away -/
theorem round_near (a b : Int) (h1 : -1000000 < a) (h2 : a < 1000000) (h3 : 0 < b) (h4 : b < 1000000) :
    -b ≤ 2 * (a - roundI a b * b) ∧ 2 * (a - roundI a b * b) < b ∧ -2000000 ≤ roundI a b * b ∧ roundI a b * b ≤ 2000000 ∧ -2000000 ≤ roundI a b ∧ roundI a b ≤ 2000000 := by
  have fa : fitI a = a := fit_id (by omega)
  have fb : fitI b = b := fit_id (by omega)
  have e : roundI a b = (2 * a + b) / (2 * b) := by
    unfold roundI; rw [fa, fb, if_neg (by omega), if_neg (by omega)]; rfl
  rw [e]
  have k1 := Int.mul_ediv_add_emod (2 * a + b) (2 * b)
  have k2 := Int.emod_nonneg (2 * a + b) (by omega : 2 * b ≠ 0)
  have k3 := Int.emod_lt_of_pos (2 * a + b) (by omega : 0 < 2 * b)
  have k4 : 2 * b * ((2 * a + b) / (2 * b)) = 2 * ((2 * a + b) / (2 * b) * b) := by rw [Int.mul_assoc, Int.mul_comm b]
  obtain ⟨k5, k6⟩ := ediv_bd (2 * a + b) (2 * b) 4000000 (by omega) (by omega) (by omega) (by omega)
  rw [k4] at k1
  have k7 : (2 * a + b) / (2 * b) ≤ 2000000 := by
    have := Int.ediv_lt_iff_lt_mul (a := 2 * a + b) (b := 2000001) (c := 2 * b) (by omega)
    omega
  have k8 : -2000000 ≤ (2 * a + b) / (2 * b) := by
    rw [Int.le_ediv_iff_mul_le (by omega)]; omega
  omega

theorem mean_between (F : List Int) (low high : Int) (hn : 0 < F.length) (h : ∀ f ∈ F, low ≤ f ∧ f ≤ high) : low ≤ F.sum / (F.length : Int) ∧ F.sum / (F.length : Int) ≤ high := by
  have key : ∀ G : List Int, (∀ f ∈ G, low ≤ f ∧ f ≤ high) → low * (G.length : Int) ≤ G.sum ∧ G.sum ≤ high * (G.length : Int) := by
    intro G
    induction G with
    | nil => simp
    | cons x G ih =>
      intro hG
      have h1 := hG x (by simp)
      have h2 := ih (fun y hy => hG y (by simp [hy]))
      rw [List.sum_cons, List.length_cons]
      have e1 : low * ((G.length + 1 : Nat) : Int) = low * (G.length : Int) + low := by rw [Int.natCast_add, Int.mul_add]; simp
      have e2 : high * ((G.length + 1 : Nat) : Int) = high * (G.length : Int) + high := by rw [Int.natCast_add, Int.mul_add]; simp
      omega
  obtain ⟨k1, k2⟩ := key F h
  have hp : (0 : Int) < (F.length : Int) := by omega
  constructor
  · rw [Int.le_ediv_iff_mul_le hp]; exact k1
  · have : F.sum / (F.length : Int) < high + 1 := by
      rw [Int.ediv_lt_iff_lt_mul hp, Int.add_mul]; omega
    omega

theorem mid_mem (l : List Int) (h : 0 < (firstI l).length) : midI l ∈ firstI l := by
  have hk : (firstI l).length / 2 < (sortI (firstI l)).length := by rw [sort_length]; omega
  unfold midI
  rw [List.getD, List.getElem?_eq_getElem hk]
  exact (sort_perm (firstI l)).mem_iff.1 (List.getElem_mem hk)

theorem count_less (S : List Int) (j : Nat) (hj : j < S.length) (x : Int) (hx : x = S[j]) (hp : S.Pairwise (fun a b => a ≤ b)) : S.countP (fun f => decide (f < x)) ≤ j := by
  have e : ((S.take j) ++ (S.drop j)).countP (fun f => decide (f < x)) = (S.take j).countP (fun f => decide (f < x)) := by
    rw [List.countP_append]
    have : (S.drop j).countP (fun f => decide (f < x)) = 0 := by
      rw [List.countP_eq_zero]
      intro f hf
      have hp2 : (S.drop j).Pairwise (fun a b => a ≤ b) := hp.drop
      rw [List.drop_eq_getElem_cons hj, ← hx] at hf hp2
      rw [List.pairwise_cons] at hp2
      rcases List.mem_cons.1 hf with rfl | hf
      · simp
      · have := hp2.1 f hf; simp; omega
    omega
  rw [List.take_append_drop] at e
  rw [e]
  have := List.countP_le_length (p := fun f => decide (f < x)) (l := S.take j)
  rw [List.length_take] at this
  omega

theorem count_more (S : List Int) (j : Nat) (hj : j < S.length) (x : Int) (hx : x = S[j]) (hp : S.Pairwise (fun a b => a ≤ b)) : S.countP (fun f => decide (x < f)) ≤ S.length - (j + 1) := by
  have e : ((S.take (j + 1)) ++ (S.drop (j + 1))).countP (fun f => decide (x < f)) = (S.drop (j + 1)).countP (fun f => decide (x < f)) := by
    rw [List.countP_append]
    have : (S.take (j + 1)).countP (fun f => decide (x < f)) = 0 := by
      rw [List.countP_eq_zero]
      intro f hf
      have hp2 := hp
      rw [← List.take_append_drop j S, List.pairwise_append] at hp2
      rw [List.take_succ_eq_append_getElem hj, List.mem_append] at hf
      rcases hf with hf | hf
      · have := hp2.2.2 f hf S[j] (by rw [List.mem_iff_getElem]; exact ⟨0, by simp; omega, by simp⟩)
        simp; omega
      · simp at hf; simp; omega
    omega
  rw [List.take_append_drop] at e
  rw [e]
  have := List.countP_le_length (p := fun f => decide (x < f)) (l := S.drop (j + 1))
  rw [List.length_drop] at this
  omega

theorem mid_less (l : List Int) (h : 0 < (firstI l).length) : 2 * (firstI l).countP (fun f => decide (f < midI l)) ≤ (firstI l).length := by
  have hk : (firstI l).length / 2 < (sortI (firstI l)).length := by rw [sort_length]; omega
  have em : midI l = (sortI (firstI l))[(firstI l).length / 2] := by unfold midI; rw [List.getD, List.getElem?_eq_getElem hk]; rfl
  rw [← (sort_perm (firstI l)).countP_eq]
  have := count_less _ _ hk _ em (sort_pw _)
  omega

theorem mid_more (l : List Int) (h : 0 < (firstI l).length) : 2 * (firstI l).countP (fun f => decide (midI l < f)) ≤ (firstI l).length := by
  have hl := sort_length (firstI l)
  have hk : (firstI l).length / 2 < (sortI (firstI l)).length := by rw [sort_length]; omega
  have em : midI l = (sortI (firstI l))[(firstI l).length / 2] := by unfold midI; rw [List.getD, List.getElem?_eq_getElem hk]; rfl
  rw [← (sort_perm (firstI l)).countP_eq]
  have := count_more _ _ hk _ em (sort_pw _)
  omega

/-- what the law's loop has gathered behind so many rounds -/
def EndsI (F : List Int) (k : Int) (i : Nat) (low high : Int) (inn : Bool) (p q : Nat) : Prop :=
  (∀ f ∈ F.take i, low ≤ f ∧ f ≤ high) ∧ (k ∈ F.take i → inn = true) ∧ p = (F.take i).countP (fun f => decide (f < k)) ∧ q = (F.take i).countP (fun f => decide (k < f))
theorem ends_start (F : List Int) (k : Int) : EndsI F k 0 0 0 false 0 0 := by unfold EndsI; simp
theorem ends_step {F : List Int} {k : Int} {i : Nat} {low high low' high' f : Int} {inn inn' : Bool} {p q p' q' : Nat} (h : EndsI F k i low high inn p q) (hi : i < F.length) (hf : f = F[i])
    (a1 : low' ≤ f) (a2 : i = 0 ∨ low' ≤ low) (a3 : f ≤ high') (a4 : i = 0 ∨ high ≤ high') (a5 : inn = true ∨ f = k → inn' = true)
    (a6 : (f < k ∧ p' = p + 1) ∨ (¬ f < k ∧ p' = p)) (a7 : (k < f ∧ q' = q + 1) ∨ (¬ k < f ∧ q' = q)) : EndsI F k (i + 1) low' high' inn' p' q' := by
  obtain ⟨h1, h2, h3, h4⟩ := h
  unfold EndsI
  rw [List.take_succ_eq_append_getElem hi, ← hf, List.countP_append, List.countP_append, ← h3, ← h4]
  refine ⟨fun g hg => ?_, fun hk => ?_, ?_, ?_⟩
  · rw [List.mem_append] at hg
    rcases hg with hg | hg
    · have := h1 g hg
      rcases Nat.eq_zero_or_pos i with rfl | hpos
      · simp at hg
      · omega
    · simp at hg; subst hg; exact ⟨a1, a3⟩
  · rw [List.mem_append] at hk
    rcases hk with hk | hk
    · exact a5 (.inl (h2 hk))
    · simp at hk; exact a5 (.inr hk.symm)
  · rcases a6 with ⟨c, e⟩ | ⟨c, e⟩
    · rw [List.countP_cons_of_pos (by simpa using c)]; simp [e]
    · rw [List.countP_cons_of_neg (by simpa using c)]; simp [e]
  · rcases a7 with ⟨c, e⟩ | ⟨c, e⟩
    · rw [List.countP_cons_of_pos (by simpa using c)]; simp [e]
    · rw [List.countP_cons_of_neg (by simpa using c)]; simp [e]
theorem ends_end {l : List Int} {i : Nat} {low high : Int} {inn : Bool} {p q : Nat} (hp : 0 < (firstI l).length) (hi : (firstI l).length ≤ i) (h : EndsI (firstI l) (midI l) i low high inn p q) :
    inn = true ∧ low ≤ meanI l ∧ meanI l ≤ high ∧ 2 * p ≤ (firstI l).length ∧ 2 * q ≤ (firstI l).length := by
  obtain ⟨h1, h2, h3, h4⟩ := h
  rw [List.take_of_length_le hi] at h1 h2 h3 h4
  have hl : l ≠ [] := by rintro rfl; simp [firstI] at hp
  have hm := mean_between (firstI l) low high hp h1
  rw [mean_some hl] at hm
  have e1 := mid_less l hp
  have e2 := mid_more l hp
  exact ⟨h2 (mid_mem l hp), hm.1, hm.2, by omega, by omega⟩

theorem four {f g : Int} (E : f = g) (i : Nat) (low high : Int) : i ≤ 0 ∨ (0 < i ∧ f < low) ∨ (0 < i ∧ low ≤ f ∧ high < f) ∨ (0 < i ∧ low ≤ f ∧ f ≤ high) := by omega
theorem three {f g : Int} (E : f = g) (k : Int) : f < k ∨ f = k ∨ k < f := by omega

theorem fit_or (x : Int) : (1099511627776 < x ∧ fitI x = 1099511627776) ∨ (x < -1099511627776 ∧ fitI x = -1099511627776) ∨ (-1099511627776 ≤ x ∧ x ≤ 1099511627776 ∧ fitI x = x) := by
  rcases (show 1099511627776 < x ∨ x < -1099511627776 ∨ (-1099511627776 ≤ x ∧ x ≤ 1099511627776) from by omega) with h | h | ⟨h1, h2⟩
  · exact .inl ⟨h, by unfold fitI; rw [if_pos h]⟩
  · exact .inr (.inl ⟨h, by unfold fitI; rw [if_neg (by omega), if_pos h]⟩)
  · exact .inr (.inr ⟨h1, h2, fit_id ⟨h1, h2⟩⟩)
theorem fit_hi {x : Int} (h : 1099511627776 < x) : fitI 1099511627776 = fitI x := by
  rw [fit_id (by omega)]; unfold fitI; rw [if_pos h]
theorem fit_lo {x : Int} (h : x < -1099511627776) : -1099511627776 = fitI x := by
  unfold fitI; rw [if_neg (by omega), if_pos h]
theorem iff_t {p : Prop} (h : p) : (true = true ↔ p) := ⟨fun _ => h, fun _ => rfl⟩
theorem iff_d {a b : Int} {p : Prop} (h : ¬ p) : (decide (a < b) = true ↔ (p ∨ a < b)) := by
  rw [decide_eq_true_eq]; exact ⟨.inr, fun k => k.elim (fun k => absurd k h) id⟩
theorem or_lt {a b : Int} {p : Prop} (h : p ∨ a < b) : p ∨ a ≤ b := h.imp id Int.le_of_lt
theorem not_lt {a b : Int} {p : Prop} (h : ¬ (p ∨ a < b)) : b ≤ a := Int.not_lt.1 (fun k => h (.inr k))
theorem in_eq {f k : Int} (h : false = true ∨ f = k) : (f == k) = true := by
  rcases h with h | h
  · cases h
  · simpa using h
theorem mean_bd (l : List Int) : -1099511627776 ≤ meanI l ∧ meanI l ≤ 1099511627776 := by
  by_cases h : l = []
  · rw [← mean_zero h]; omega
  · rw [← mean_some h]
    exact mean_between _ _ _ (first_pos h) (first_bd l)

end Go.Proofs.Ytpjodggmbpinbaa.M
