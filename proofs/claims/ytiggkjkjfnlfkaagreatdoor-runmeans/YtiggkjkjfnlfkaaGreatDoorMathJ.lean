/-
  Plain mathematics of groves, on: the least and the greatest leaf of a tree, between which bounds a grove is, and what two groves come to as one; no condition beyond those named.
-/
import Derived.Test.YtiggkjkjfnlfkaaGreatDoorMathG
namespace Go.Proofs.YtiggkjkjfnlfkaaGreatDoor.M
set_option linter.unusedVariables false

/-! ### the leaves' values -/
def lvK (t : List Nd) : Nat → List Int
  | 0 => []
  | k + 1 => if leafB (nAt t k) = true then lvK t k ++ [nv (nAt t k)] else lvK t k
theorem lvK_mem (t : List Nd) : ∀ (k : Nat) (x : Int), x ∈ lvK t k ↔ ∃ j, j < k ∧ leafB (nAt t j) = true ∧ x = nv (nAt t j)
  | 0, x => by simp [lvK]
  | k + 1, x => by
    unfold lvK
    by_cases h : leafB (nAt t k) = true
    · rw [if_pos h, List.mem_append, lvK_mem t k x, List.mem_singleton]
      constructor
      · rintro (⟨j, h1, h2⟩ | rfl)
        · exact ⟨j, by omega, h2⟩
        · exact ⟨k, by omega, h, rfl⟩
      · rintro ⟨j, h1, h2, h3⟩
        by_cases q : j = k
        · subst q; exact .inr h3
        · exact .inl ⟨j, by omega, h2, h3⟩
    · rw [if_neg h, lvK_mem t k x]
      constructor
      · rintro ⟨j, h1, h2⟩
        exact ⟨j, by omega, h2⟩
      · rintro ⟨j, h1, h2, h3⟩
        by_cases q : j = k
        · subst q; exact absurd h2 h
        · exact ⟨j, by omega, h2, h3⟩
theorem lvK_len (t : List Nd) : ∀ k, (lvK t k).length ≤ k
  | 0 => Nat.le_refl _
  | k + 1 => by
    have := lvK_len t k
    unfold lvK
    split
    · simp; omega
    · omega
/-- the least, the greatest of a list -/
def lowL (l : List Int) : Int := (sortI l).getD 0 0
def highL (l : List Int) : Int := (sortI l).getD (l.length - 1) 0
theorem low_mem {l : List Int} (h : 0 < l.length) : lowL l ∈ l := by
  unfold lowL
  rw [getD_at (by rw [sort_length]; exact h)]
  exact (sort_perm l).mem_iff.1 (List.getElem_mem _)
theorem high_mem {l : List Int} (h : 0 < l.length) : highL l ∈ l := by
  unfold highL
  rw [getD_at (by rw [sort_length]; omega)]
  exact (sort_perm l).mem_iff.1 (List.getElem_mem _)
theorem low_le {l : List Int} {x : Int} (hx : x ∈ l) : lowL l ≤ x := by
  have hx' := (sort_perm l).mem_iff.2 hx
  obtain ⟨i, hi, rfl⟩ := List.getElem_of_mem hx'
  unfold lowL
  rw [getD_at (by omega)]
  rcases Nat.eq_zero_or_pos i with h | h
  · subst h; exact Int.le_refl _
  · exact List.pairwise_iff_getElem.1 (sort_pw l) 0 i (by omega) hi h
theorem high_ge {l : List Int} {x : Int} (hx : x ∈ l) : x ≤ highL l := by
  have hx' := (sort_perm l).mem_iff.2 hx
  obtain ⟨i, hi, rfl⟩ := List.getElem_of_mem hx'
  have hl : (sortI l).length = l.length := sort_length l
  unfold highL
  rw [getD_at (by omega)]
  by_cases h : i = l.length - 1
  · subst h; exact Int.le_refl _
  · exact List.pairwise_iff_getElem.1 (sort_pw l) i (l.length - 1) hi (by omega) (by omega)
theorem low_unique {l : List Int} {b : Int} (hb : b ∈ l) (h : ∀ x ∈ l, b ≤ x) : lowL l = b := by
  have h1 := low_le hb
  have h2 := h _ (low_mem (List.length_pos_of_mem hb))
  omega
theorem high_unique {l : List Int} {b : Int} (hb : b ∈ l) (h : ∀ x ∈ l, x ≤ b) : highL l = b := by
  have h1 := high_ge hb
  have h2 := h _ (high_mem (List.length_pos_of_mem hb))
  omega
def lowT (t : List Nd) : Int := lowL (lvK t t.length)
def highT (t : List Nd) : Int := highL (lvK t t.length)
theorem leafV_leaf' {t : List Nd} {r : List Int} (h : readyF t r = 0) : toD t r 0 < t.length ∧ nf (nAt t (toD t r 0)) = -1 := by
  have F := (tree_ok (ready_ok h).2).1
  exact to_end F.2.2.2.2.1 r t.length 0 F.2.1 (by omega)
theorem eval_mem {t : List Nd} {r : List Int} (h : readyF t r = 0) : evalV t r ∈ lvK t t.length := by
  have hl := leafV_leaf' h
  unfold evalV
  rw [if_pos h, lvK_mem]
  refine ⟨toD t r 0, hl.1, ?_, rfl⟩
  unfold leafB
  rw [hl.2]; rfl
theorem eval_between {t : List Nd} {r : List Int} (h : readyF t r = 0) : lowT t ≤ evalV t r ∧ evalV t r ≤ highT t := ⟨low_le (eval_mem h), high_ge (eval_mem h)⟩
theorem lv_in {t : List Nd} {m : Int} (F : Fair t m) : ∀ x ∈ lvK t t.length, -1000000 ≤ x ∧ x ≤ 1000000 := by
  intro x hx
  obtain ⟨j, h1, h2, rfl⟩ := (lvK_mem t _ x).1 hx
  have := F.2.2.2.2.1 j h1
  unfold leafB at h2
  unfold nodeF at this
  rw [if_pos (of_decide_eq_true h2)] at this
  unfold lfF at this
  split at this
  · cases this
  · rename_i hc
    exact out_false (by simpa using hc)
theorem lv_some {t : List Nd} {m : Int} (F : Fair t m) : 0 < (lvK t t.length).length := by
  have hR := F.2.2.2.2.1
  obtain ⟨h1, h2⟩ := to_end hR [] t.length 0 F.2.1 (by omega)
  exact List.length_pos_of_mem ((lvK_mem t _ _).2 ⟨_, h1, by unfold leafB; rw [h2]; rfl, rfl⟩)

/-! ### bounds -/
def between (w : Int) (ws least most : List Int) : Int × Int := if w ≠ 3 then (together w ws least, together w ws most) else (lowL least, highL most)
def boundsV (g : Gv) : Int × Int := if groveF g = 0 then between (gw g) (gs g) ((gt g).map lowT) ((gt g).map highT) else (0, 0)
theorem wt_at {g : Gv} (h : Good g) {i : Nat} (hi : i < (gt g).length) : 1 ≤ (gs g).getD i 0 ∧ (gs g).getD i 0 ≤ 1000 := by
  have hl := h.len
  rw [getD_at (by omega)]
  exact h.wts _ (List.getElem_mem _)
theorem ediv_mono {a b c : Int} (h : a ≤ b) (hc : 0 < c) : a / c ≤ b / c := Int.ediv_le_ediv hc h
theorem eval_bounds {g : Gv} {r : List Int} (h : standF g r = 0) : (boundsV g).1 ≤ evalG g r ∧ evalG g r ≤ (boundsV g).2 := by
  obtain ⟨G, h2, h3⟩ := stand_ok h
  have hE := each_len g r
  have t0 := G.t0
  have bt : ∀ i, i < (gt g).length → ((gt g).map lowT).getD i 0 ≤ (eachL g r).getD i 0 ∧ (eachL g r).getD i 0 ≤ ((gt g).map highT).getD i 0 := by
    intro i hi
    have e1 : ((gt g).map lowT).getD i 0 = lowT (gt g)[i] := by rw [getD_at (by simpa using hi)]; simp
    have e2 : ((gt g).map highT).getD i 0 = highT (gt g)[i] := by rw [getD_at (by simpa using hi)]; simp
    rw [each_at g r hi, e1, e2, getD_at hi]
    exact eval_between (stand_ready h (List.getElem_mem hi))
  have l1 : ((gt g).map lowT).length = (gt g).length := by simp
  have l2 : ((gt g).map highT).length = (gt g).length := by simp
  unfold boundsV evalG
  rw [if_pos ((good_iff g).2 G), if_pos h]
  unfold between
  by_cases hv : gw g = 3
  · rw [if_neg (by simp [hv])]
    unfold together
    rw [if_neg (by omega), if_neg (by omega), hE]
    obtain ⟨⟨j, j1, j2⟩, _, _⟩ := best_spec (l := eachL g r) (ws := gs g) (fun i hi => (wt_at G (by rw [← hE]; exact hi)).1) (gt g).length t0 (by omega)
    rw [j2]
    have b := bt j j1
    constructor
    · refine Int.le_trans (low_le (x := ((gt g).map lowT).getD j 0) ?_) b.1
      rw [getD_at (by omega)]; exact List.getElem_mem _
    · refine Int.le_trans b.2 (high_ge ?_)
      rw [getD_at (by omega)]; exact List.getElem_mem _
  · rw [if_pos hv]
    have m1 := sum_mono (l := (gt g).map lowT) (m := eachL g r) (ws := gs g) (gt g).length fun i hi => ⟨(bt i hi).1, by have := (wt_at G hi).1; omega⟩
    have m2 := sum_mono (l := eachL g r) (m := (gt g).map highT) (ws := gs g) (gt g).length fun i hi => ⟨(bt i hi).2, by have := (wt_at G hi).1; omega⟩
    have ap := (all_pos (ws := gs g) (gt g).length fun i hi => wt_at G hi).1
    unfold together
    rw [l1, l2, hE]
    by_cases h1 : gw g = 1
    · rw [if_pos h1, if_pos h1, if_pos h1]; exact ⟨m1, m2⟩
    · have h2' : gw g = 2 := by have := G.w1; have := G.w3; omega
      rw [if_neg h1, if_neg h1, if_neg h1, if_pos h2', if_pos h2', if_pos h2']
      exact ⟨ediv_mono m1 (by omega), ediv_mono m2 (by omega)⟩
theorem vote_in {g : Gv} {r : List Int} (h : standF g r = 0) (hv : gw g = 3) : ∃ j, j < (eachL g r).length ∧ (eachL g r).getD j 0 = evalG g r := by
  obtain ⟨G, _, _⟩ := stand_ok h
  have hE := each_len g r
  unfold evalG
  rw [if_pos h]
  unfold together
  rw [if_neg (by omega), if_neg (by omega)]
  obtain ⟨⟨j, j1, j2⟩, _, _⟩ := best_spec (l := eachL g r) (ws := gs g) (fun i hi => (wt_at G (by rw [← hE]; exact hi)).1) (eachL g r).length (by have := G.t0; omega) (Nat.le_refl _)
  exact ⟨j, j1, j2.symm⟩

/-! ### two as one -/
def joinF (a b : Gv) : Int := if groveF a ≠ 0 then groveF a else if groveF b ≠ 0 then groveF b else if gf a ≠ gf b ∨ gw a ≠ gw b then 3 else if 12 < (gt a).length + (gt b).length then 4 else 0
def joinG (a b : Gv) : Gv := (gf a, gw a, gs a ++ gs b, gt a ++ gt b)
def joinV (a b : Gv) : Gv := if joinF a b = 0 then joinG a b else (0, 0, [], [])
theorem join_ok {a b : Gv} (h : joinF a b = 0) : Good a ∧ Good b ∧ gf a = gf b ∧ gw a = gw b ∧ (gt a).length + (gt b).length ≤ 12 := by
  unfold joinF at h
  split at h
  · rename_i h1; exact absurd h h1
  · rename_i h1
    split at h
    · rename_i h2; exact absurd h h2
    · rename_i h2
      split at h
      · cases h
      · rename_i h3
        split at h
        · cases h
        · rename_i h4
          exact ⟨(good_iff a).1 (by simpa using h1), (good_iff b).1 (by simpa using h2), by omega, by omega, by omega⟩
theorem join_good {a b : Gv} (h : joinF a b = 0) : Good (joinG a b) := by
  obtain ⟨A, B, e1, e2, e3⟩ := join_ok h
  refine ⟨A.f0, A.f8, A.w1, A.w3, ?_, ?_, ?_, ?_, ?_⟩
  · show 0 < (gt a ++ gt b).length; rw [List.length_append]; have := A.t0; omega
  · show (gt a ++ gt b).length ≤ 12; rw [List.length_append]; exact e3
  · show (gs a ++ gs b).length = (gt a ++ gt b).length; rw [List.length_append, List.length_append, A.len, B.len]
  · intro w hw
    rcases List.mem_append.1 hw with q | q
    · exact A.wts w q
    · exact B.wts w q
  · intro t ht
    rcases List.mem_append.1 ht with q | q
    · exact A.trees t q
    · show (treeF t (gf a)).2 = 0
      rw [e1]; exact B.trees t q
theorem getD_left {l m : List Int} {i : Nat} (h : i < l.length) : (l ++ m).getD i 0 = l.getD i 0 := by
  rw [getD_at (by simp; omega), getD_at h, List.getElem_append_left h]
theorem getD_right {l m : List Int} {n i : Nat} (hn : l.length = n) : (l ++ m).getD (n + i) 0 = m.getD i 0 := by
  subst hn
  simp [List.getD, List.getElem?_append_right]
theorem sum_app {l m ws vs : List Int} {n : Nat} (hl : l.length = n) (hw : ws.length = n) : ∀ k, sumK (l ++ m) (ws ++ vs) (n + k) = sumK l ws n + sumK m vs k
  | 0 => by
    have : ∀ j, j ≤ n → sumK (l ++ m) (ws ++ vs) j = sumK l ws j := by
      intro j
      induction j with
      | zero => intro _; rfl
      | succ j ih =>
        intro hj
        rw [sumK, sumK, ih (by omega), getD_left (by omega), getD_left (by omega)]
    show sumK (l ++ m) (ws ++ vs) n = sumK l ws n + 0
    rw [this n (Nat.le_refl _)]; omega
  | k + 1 => by
    show sumK (l ++ m) (ws ++ vs) (n + k) + (l ++ m).getD (n + k) 0 * (ws ++ vs).getD (n + k) 0 = _
    rw [sum_app hl hw k, getD_right hl, getD_right hw, sumK]
    omega
theorem all_app {ws vs : List Int} {n : Nat} (hw : ws.length = n) : ∀ k, allK (ws ++ vs) (n + k) = allK ws n + allK vs k
  | 0 => by
    have : ∀ j, j ≤ n → allK (ws ++ vs) j = allK ws j := by
      intro j
      induction j with
      | zero => intro _; rfl
      | succ j ih =>
        intro hj
        rw [allK, allK, ih (by omega), getD_left (by omega)]
    show allK (ws ++ vs) n = allK ws n + 0
    rw [this n (Nat.le_refl _)]; omega
  | k + 1 => by
    show allK (ws ++ vs) (n + k) + (ws ++ vs).getD (n + k) 0 = _
    rw [all_app hw k, getD_right hw, allK]
    omega
theorem vot_app {l m ws vs : List Int} {n : Nat} (hl : l.length = n) (hw : ws.length = n) (v : Int) : ∀ k, votK (l ++ m) (ws ++ vs) v (n + k) = votK l ws v n + votK m vs v k
  | 0 => by
    have : ∀ j, j ≤ n → votK (l ++ m) (ws ++ vs) v j = votK l ws v j := by
      intro j
      induction j with
      | zero => intro _; rfl
      | succ j ih =>
        intro hj
        rw [votK, votK, ih (by omega), getD_left (by omega), getD_left (by omega)]
    show votK (l ++ m) (ws ++ vs) v n = votK l ws v n + 0
    rw [this n (Nat.le_refl _)]; omega
  | k + 1 => by
    show (votK (l ++ m) (ws ++ vs) v (n + k) + if (l ++ m).getD (n + k) 0 = v then (ws ++ vs).getD (n + k) 0 else 0) = _
    rw [vot_app hl hw v k, getD_right hl, getD_right hw, votK]
    omega
theorem each_app (a b : Gv) (r : List Int) : eachL (joinG a b) r = eachL a r ++ eachL b r := by
  unfold eachL joinG
  show List.map _ (gt a ++ gt b) = _
  rw [List.map_append]
theorem join_stand {a b : Gv} {r : List Int} (h : joinF a b = 0) (hs : standF a r = 0) : standF b r = 0 ∧ standF (joinG a b) r = 0 := by
  obtain ⟨A, B, e1, e2, e3⟩ := join_ok h
  obtain ⟨_, h2, h3⟩ := stand_ok hs
  exact ⟨stand_of B h2 (by rw [← e1]; exact h3), stand_of (join_good h) h2 h3⟩
theorem join_sum {a b : Gv} {r : List Int} (h : joinF a b = 0) (hs : standF a r = 0) (hw : gw a = 1) : evalG (joinG a b) r = evalG a r + evalG b r := by
  obtain ⟨A, B, e1, e2, e3⟩ := join_ok h
  obtain ⟨s1, s2⟩ := join_stand h hs
  unfold evalG
  rw [if_pos s2, if_pos hs, if_pos s1]
  unfold together
  rw [if_pos (show gw (joinG a b) = 1 from hw), if_pos hw, if_pos (by rw [← e2]; exact hw), each_app, List.length_append]
  exact sum_app rfl (by rw [each_len]; exact A.len) _
theorem twice {g : Gv} {r : List Int} (h : joinF g g = 0) (hs : standF g r = 0) : evalG (joinG g g) r = if gw g = 1 then 2 * evalG g r else evalG g r := by
  obtain ⟨A, _, _, _, _⟩ := join_ok h
  obtain ⟨_, s2⟩ := join_stand h hs
  by_cases h1 : gw g = 1
  · rw [if_pos h1, join_sum h hs h1]; omega
  · rw [if_neg h1]
    have hE := each_len g r
    have hl : (gs g).length = (eachL g r).length := by rw [hE]; exact A.len
    unfold evalG
    rw [if_pos s2, if_pos hs]
    unfold together
    have ew : gw (joinG g g) = gw g := rfl
    have es : gs (joinG g g) = gs g ++ gs g := rfl
    rw [ew, es, if_neg h1, if_neg h1, each_app, List.length_append]
    by_cases h2 : gw g = 2
    · rw [if_pos h2, if_pos h2, sum_app rfl hl, all_app hl]
      have ap := (all_pos (ws := gs g) (eachL g r).length fun i hi => wt_at A (by rw [← hE]; exact hi)).1
      have a0 : 0 < (eachL g r).length := by rw [hE]; exact A.t0
      rw [show sumK (eachL g r) (gs g) (eachL g r).length + sumK (eachL g r) (gs g) (eachL g r).length = 2 * sumK (eachL g r) (gs g) (eachL g r).length by omega,
        show allK (gs g) (eachL g r).length + allK (gs g) (eachL g r).length = 2 * allK (gs g) (eachL g r).length by omega]
      exact Int.mul_ediv_mul_of_pos _ _ (by omega)
    · rw [if_neg h2, if_neg h2]
      have w1 : ∀ i, i < (eachL g r).length → 1 ≤ (gs g).getD i 0 := fun i hi => (wt_at A (by rw [← hE]; exact hi)).1
      have a0 : 0 < (eachL g r).length := by rw [hE]; exact A.t0
      obtain ⟨⟨j, j1, j2⟩, j3, j4⟩ := best_spec w1 (eachL g r).length a0 (Nat.le_refl _)
      have key : ∀ i, i < (eachL g r).length + (eachL g r).length → ∃ i', i' < (eachL g r).length ∧ (eachL g r ++ eachL g r).getD i 0 = (eachL g r).getD i' 0 := by
        intro i hi
        by_cases q : i < (eachL g r).length
        · exact ⟨i, q, getD_left q⟩
        · refine ⟨i - (eachL g r).length, by omega, ?_⟩
          have := getD_right (l := eachL g r) (m := eachL g r) (i := i - (eachL g r).length) rfl
          rwa [show (eachL g r).length + (i - (eachL g r).length) = i by omega] at this
      have vt : ∀ v, votK (eachL g r ++ eachL g r) (gs g ++ gs g) v ((eachL g r).length + (eachL g r).length) = 2 * votK (eachL g r) (gs g) v (eachL g r).length := by
        intro v
        rw [vot_app rfl hl v]; omega
      have := best_unique (l := eachL g r ++ eachL g r) (ws := gs g ++ gs g) (b := (bestK (eachL g r) (gs g) (eachL g r).length).2)
        (fun i hi => by
          rw [List.length_append] at hi
          by_cases q : i < (eachL g r).length
          · rw [getD_left (by omega)]; exact w1 i q
          · have e := getD_right (l := gs g) (m := gs g) (i := i - (eachL g r).length) hl
            rw [show (eachL g r).length + (i - (eachL g r).length) = i by omega] at e
            rw [e]; exact w1 _ (by omega))
        (by rw [List.length_append]; omega)
        ⟨j, by rw [List.length_append]; omega, by rw [getD_left j1]; exact j2⟩
        (fun i hi => by
          rw [List.length_append] at hi ⊢
          obtain ⟨i', q1, q2⟩ := key i hi
          rw [q2, vt, vt, ← j3]
          have := j4 i' q1
          omega)
      rw [List.length_append] at this
      exact this

theorem join_self {g : Gv} (h : Good g) : joinF g g = 0 ∨ (joinF g g = 4 ∧ 12 < 2 * (gt g).length) := by
  unfold joinF
  rw [if_neg (by simp [(good_iff g).2 h]), if_neg (by simp [(good_iff g).2 h]), if_neg (by simp)]
  by_cases q : 12 < (gt g).length + (gt g).length
  · rw [if_pos q]; exact .inr ⟨rfl, by omega⟩
  · rw [if_neg q]; exact .inl rfl
theorem each_in {g : Gv} {r : List Int} (h : standF g r = 0) {i : Nat} (hi : i < (gt g).length) : -1000000 ≤ (eachL g r).getD i 0 ∧ (eachL g r).getD i 0 ≤ 1000000 := by
  rw [each_at g r hi, getD_at hi]
  have hr := stand_ready h (List.getElem_mem hi)
  exact lv_in (tree_ok (ready_ok hr).2).1 _ (eval_mem hr)
theorem eval_range {g : Gv} {r : List Int} (h : standF g r = 0) (hw : gw g = 1) : -12000000000 ≤ evalG g r ∧ evalG g r ≤ 12000000000 := by
  obtain ⟨G, _, _⟩ := stand_ok h
  unfold evalG
  rw [if_pos h]
  unfold together
  rw [if_pos hw, each_len]
  have := sum_bound (l := eachL g r) (ws := gs g) (gt g).length fun i hi => ⟨(each_in h hi).1, (each_in h hi).2, (wt_at G hi).1, (wt_at G hi).2⟩
  have := G.t12
  omega
def one7 : Gv := (0, 3, [1], [[(-1, 0, 0, 0, false, 7)]])
theorem one7_stand : standF one7 [] = 0 := by decide +kernel
theorem one7_each : eachV one7 [] = [7] := by decide +kernel
def two7 : Gv := (0, 2, [1, 3], [[(-1, 0, 0, 0, false, 7)], [(-1, 0, 0, 0, false, 7)]])
theorem two7_stand : standF two7 [] = 0 := by decide +kernel
theorem two7_eval : evalG two7 [] = 7 := by decide +kernel

end Go.Proofs.YtiggkjkjfnlfkaaGreatDoor.M
