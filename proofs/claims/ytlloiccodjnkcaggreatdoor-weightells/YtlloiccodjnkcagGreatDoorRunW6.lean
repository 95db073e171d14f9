/-
  Several texts as one: MathJ, NdCells, Grown, MathSa.
-/
import Derived.Test.YtlloiccodjnkcagGreatDoorRunW5
import Derived.Deep.AppendLies
import Derived.OwnWalk
import Derived.Test.YtlloiccodjnkcagGreatDoorRunW4
namespace Go.Proofs.YtlloiccodjnkcagGreatDoor.M
set_option linter.unusedVariables false

/-! ### the leaves' values -/
def lvK (t : List Nd) : Nat → List Int
  | 0 => []
  | k + 1 => if leafB (nAt t k) = true then lvK t k ++ [nv (nAt t k)] else lvK t k
theorem lvK_mem (t : List Nd) : ∀ (k : Nat) (x : Int), x ∈ lvK t k ↔ ∃ j, j < k ∧ leafB (nAt t j) = true ∧ x = nv (nAt t j)
  | 0, x => by simp [lvK]
  | k + 1, x => by
    unfold lvK
    by_cases h : leafB (nAt t k) = true
    · rw [if_pos h, List.mem_append, lvK_mem t k x, List.mem_singleton]
      constructor
      · rintro (⟨j, h1, h2⟩ | rfl)
        · exact ⟨j, by omega, h2⟩
        · exact ⟨k, by omega, h, rfl⟩
      · rintro ⟨j, h1, h2, h3⟩
        by_cases q : j = k
        · subst q; exact .inr h3
        · exact .inl ⟨j, by omega, h2, h3⟩
    · rw [if_neg h, lvK_mem t k x]
      constructor
      · rintro ⟨j, h1, h2⟩
        exact ⟨j, by omega, h2⟩
      · rintro ⟨j, h1, h2, h3⟩
        by_cases q : j = k
        · subst q; exact absurd h2 h
        · exact ⟨j, by omega, h2, h3⟩
theorem lvK_len (t : List Nd) : ∀ k, (lvK t k).length ≤ k
  | 0 => Nat.le_refl _
  | k + 1 => by
    have := lvK_len t k
    unfold lvK
    split
    · simp; omega
    · omega
/-- the least, the greatest of a list -/
def lowL (l : List Int) : Int := (sortI l).getD 0 0
def highL (l : List Int) : Int := (sortI l).getD (l.length - 1) 0
theorem low_mem {l : List Int} (h : 0 < l.length) : lowL l ∈ l := by
  unfold lowL
  rw [getD_at (by rw [sort_length]; exact h)]
  exact (sort_perm l).mem_iff.1 (List.getElem_mem _)
theorem high_mem {l : List Int} (h : 0 < l.length) : highL l ∈ l := by
  unfold highL
  rw [getD_at (by rw [sort_length]; omega)]
  exact (sort_perm l).mem_iff.1 (List.getElem_mem _)
theorem low_le {l : List Int} {x : Int} (hx : x ∈ l) : lowL l ≤ x := by
  have hx' := (sort_perm l).mem_iff.2 hx
  obtain ⟨i, hi, rfl⟩ := List.getElem_of_mem hx'
  unfold lowL
  rw [getD_at (by omega)]
  rcases Nat.eq_zero_or_pos i with h | h
  · subst h; exact Int.le_refl _
  · exact List.pairwise_iff_getElem.1 (sort_pw l) 0 i (by omega) hi h
theorem high_ge {l : List Int} {x : Int} (hx : x ∈ l) : x ≤ highL l := by
  have hx' := (sort_perm l).mem_iff.2 hx
  obtain ⟨i, hi, rfl⟩ := List.getElem_of_mem hx'
  have hl : (sortI l).length = l.length := sort_length l
  unfold highL
  rw [getD_at (by omega)]
  by_cases h : i = l.length - 1
  · subst h; exact Int.le_refl _
  · exact List.pairwise_iff_getElem.1 (sort_pw l) i (l.length - 1) hi (by omega) (by omega)
theorem low_unique {l : List Int} {b : Int} (hb : b ∈ l) (h : ∀ x ∈ l, b ≤ x) : lowL l = b := by
  have h1 := low_le hb
  have h2 := h _ (low_mem (List.length_pos_of_mem hb))
  omega
theorem high_unique {l : List Int} {b : Int} (hb : b ∈ l) (h : ∀ x ∈ l, x ≤ b) : highL l = b := by
  have h1 := high_ge hb
  have h2 := h _ (high_mem (List.length_pos_of_mem hb))
  omega
def lowT (t : List Nd) : Int := lowL (lvK t t.length)
def highT (t : List Nd) : Int := highL (lvK t t.length)
theorem leafV_leaf' {t : List Nd} {r : List Int} (h : readyF t r = 0) : toD t r 0 < t.length ∧ nf (nAt t (toD t r 0)) = -1 := by
  have F := (tree_ok (ready_ok h).2).1
  exact to_end F.2.2.2.2.1 r t.length 0 F.2.1 (by omega)
theorem eval_mem {t : List Nd} {r : List Int} (h : readyF t r = 0) : evalV t r ∈ lvK t t.length := by
  have hl := leafV_leaf' h
  unfold evalV
  rw [if_pos h, lvK_mem]
  refine ⟨toD t r 0, hl.1, ?_, rfl⟩
  unfold leafB
  rw [hl.2]; rfl
theorem eval_between {t : List Nd} {r : List Int} (h : readyF t r = 0) : lowT t ≤ evalV t r ∧ evalV t r ≤ highT t := ⟨low_le (eval_mem h), high_ge (eval_mem h)⟩
theorem lv_in {t : List Nd} {m : Int} (F : Fair t m) : ∀ x ∈ lvK t t.length, -1000000 ≤ x ∧ x ≤ 1000000 := by
  intro x hx
  obtain ⟨j, h1, h2, rfl⟩ := (lvK_mem t _ x).1 hx
  have := F.2.2.2.2.1 j h1
  unfold leafB at h2
  unfold nodeF at this
  rw [if_pos (of_decide_eq_true h2)] at this
  unfold lfF at this
  split at this
  · cases this
  · rename_i hc
    exact out_false (by simpa using hc)
theorem lv_some {t : List Nd} {m : Int} (F : Fair t m) : 0 < (lvK t t.length).length := by
  have hR := F.2.2.2.2.1
  obtain ⟨h1, h2⟩ := to_end hR [] t.length 0 F.2.1 (by omega)
  exact List.length_pos_of_mem ((lvK_mem t _ _).2 ⟨_, h1, by unfold leafB; rw [h2]; rfl, rfl⟩)

/-! ### bounds -/
def between (w : Int) (ws least most : List Int) : Int × Int := if w ≠ 3 then (together w ws least, together w ws most) else (lowL least, highL most)
def boundsV (g : Gv) : Int × Int := if groveF g = 0 then between (gw g) (gs g) ((gt g).map lowT) ((gt g).map highT) else (0, 0)
theorem wt_at {g : Gv} (h : Good g) {i : Nat} (hi : i < (gt g).length) : 1 ≤ (gs g).getD i 0 ∧ (gs g).getD i 0 ≤ 1000 := by
  have hl := h.len
  rw [getD_at (by omega)]
  exact h.wts _ (List.getElem_mem _)
theorem ediv_mono {a b c : Int} (h : a ≤ b) (hc : 0 < c) : a / c ≤ b / c := Int.ediv_le_ediv hc h
theorem eval_bounds {g : Gv} {r : List Int} (h : standF g r = 0) : (boundsV g).1 ≤ evalG g r ∧ evalG g r ≤ (boundsV g).2 := by
  obtain ⟨G, h2, h3⟩ := stand_ok h
  have hE := each_len g r
  have t0 := G.t0
  have bt : ∀ i, i < (gt g).length → ((gt g).map lowT).getD i 0 ≤ (eachL g r).getD i 0 ∧ (eachL g r).getD i 0 ≤ ((gt g).map highT).getD i 0 := by
    intro i hi
    have e1 : ((gt g).map lowT).getD i 0 = lowT (gt g)[i] := by rw [getD_at (by simpa using hi)]; simp
    have e2 : ((gt g).map highT).getD i 0 = highT (gt g)[i] := by rw [getD_at (by simpa using hi)]; simp
    rw [each_at g r hi, e1, e2, getD_at hi]
    exact eval_between (stand_ready h (List.getElem_mem hi))
  have l1 : ((gt g).map lowT).length = (gt g).length := by simp
  have l2 : ((gt g).map highT).length = (gt g).length := by simp
  unfold boundsV evalG
  rw [if_pos ((good_iff g).2 G), if_pos h]
  unfold between
  by_cases hv : gw g = 3
  · rw [if_neg (by simp [hv])]
    unfold together
    rw [if_neg (by omega), if_neg (by omega), hE]
    obtain ⟨⟨j, j1, j2⟩, _, _⟩ := best_spec (l := eachL g r) (ws := gs g) (fun i hi => (wt_at G (by rw [← hE]; exact hi)).1) (gt g).length t0 (by omega)
    rw [j2]
    have b := bt j j1
    constructor
    · refine Int.le_trans (low_le (x := ((gt g).map lowT).getD j 0) ?_) b.1
      rw [getD_at (by omega)]; exact List.getElem_mem _
    · refine Int.le_trans b.2 (high_ge ?_)
      rw [getD_at (by omega)]; exact List.getElem_mem _
  · rw [if_pos hv]
    have m1 := sum_mono (l := (gt g).map lowT) (m := eachL g r) (ws := gs g) (gt g).length fun i hi => ⟨(bt i hi).1, by have := (wt_at G hi).1; omega⟩
    have m2 := sum_mono (l := eachL g r) (m := (gt g).map highT) (ws := gs g) (gt g).length fun i hi => ⟨(bt i hi).2, by have := (wt_at G hi).1; omega⟩
    have ap := (all_pos (ws := gs g) (gt g).length fun i hi => wt_at G hi).1
    unfold together
    rw [l1, l2, hE]
    by_cases h1 : gw g = 1
    · rw [if_pos h1, if_pos h1, if_pos h1]; exact ⟨m1, m2⟩
    · have h2' : gw g = 2 := by have := G.w1; have := G.w3; omega
      rw [if_neg h1, if_neg h1, if_neg h1, if_pos h2', if_pos h2', if_pos h2']
      exact ⟨ediv_mono m1 (by omega), ediv_mono m2 (by omega)⟩
theorem vote_in {g : Gv} {r : List Int} (h : standF g r = 0) (hv : gw g = 3) : ∃ j, j < (eachL g r).length ∧ (eachL g r).getD j 0 = evalG g r := by
  obtain ⟨G, _, _⟩ := stand_ok h
  have hE := each_len g r
  unfold evalG
  rw [if_pos h]
  unfold together
  rw [if_neg (by omega), if_neg (by omega)]
  obtain ⟨⟨j, j1, j2⟩, _, _⟩ := best_spec (l := eachL g r) (ws := gs g) (fun i hi => (wt_at G (by rw [← hE]; exact hi)).1) (eachL g r).length (by have := G.t0; omega) (Nat.le_refl _)
  exact ⟨j, j1, j2.symm⟩

/-! ### two as one -/
def joinF (a b : Gv) : Int := if groveF a ≠ 0 then groveF a else if groveF b ≠ 0 then groveF b else if gf a ≠ gf b ∨ gw a ≠ gw b then 3 else if 12 < (gt a).length + (gt b).length then 4 else 0
def joinG (a b : Gv) : Gv := (gf a, gw a, gs a ++ gs b, gt a ++ gt b)
def joinV (a b : Gv) : Gv := if joinF a b = 0 then joinG a b else (0, 0, [], [])
theorem join_ok {a b : Gv} (h : joinF a b = 0) : Good a ∧ Good b ∧ gf a = gf b ∧ gw a = gw b ∧ (gt a).length + (gt b).length ≤ 12 := by
  unfold joinF at h
  split at h
  · rename_i h1; exact absurd h h1
  · rename_i h1
    split at h
    · rename_i h2; exact absurd h h2
    · rename_i h2
      split at h
      · cases h
      · rename_i h3
        split at h
        · cases h
        · rename_i h4
          exact ⟨(good_iff a).1 (by simpa using h1), (good_iff b).1 (by simpa using h2), by omega, by omega, by omega⟩
theorem join_good {a b : Gv} (h : joinF a b = 0) : Good (joinG a b) := by
  obtain ⟨A, B, e1, e2, e3⟩ := join_ok h
  refine ⟨A.f0, A.f8, A.w1, A.w3, ?_, ?_, ?_, ?_, ?_⟩
  · show 0 < (gt a ++ gt b).length; rw [List.length_append]; have := A.t0; omega
  · show (gt a ++ gt b).length ≤ 12; rw [List.length_append]; exact e3
  · show (gs a ++ gs b).length = (gt a ++ gt b).length; rw [List.length_append, List.length_append, A.len, B.len]
  · intro w hw
    rcases List.mem_append.1 hw with q | q
    · exact A.wts w q
    · exact B.wts w q
  · intro t ht
    rcases List.mem_append.1 ht with q | q
    · exact A.trees t q
    · show (treeF t (gf a)).2 = 0
      rw [e1]; exact B.trees t q
theorem getD_left {l m : List Int} {i : Nat} (h : i < l.length) : (l ++ m).getD i 0 = l.getD i 0 := by
  rw [getD_at (by simp; omega), getD_at h, List.getElem_append_left h]
theorem getD_right {l m : List Int} {n i : Nat} (hn : l.length = n) : (l ++ m).getD (n + i) 0 = m.getD i 0 := by
  subst hn
  simp [List.getD, List.getElem?_append_right]
theorem sum_app {l m ws vs : List Int} {n : Nat} (hl : l.length = n) (hw : ws.length = n) : ∀ k, sumK (l ++ m) (ws ++ vs) (n + k) = sumK l ws n + sumK m vs k
  | 0 => by
    have : ∀ j, j ≤ n → sumK (l ++ m) (ws ++ vs) j = sumK l ws j := by
      intro j
      induction j with
      | zero => intro _; rfl
      | succ j ih =>
        intro hj
        rw [sumK, sumK, ih (by omega), getD_left (by omega), getD_left (by omega)]
    show sumK (l ++ m) (ws ++ vs) n = sumK l ws n + 0
    rw [this n (Nat.le_refl _)]; omega
  | k + 1 => by
    show sumK (l ++ m) (ws ++ vs) (n + k) + (l ++ m).getD (n + k) 0 * (ws ++ vs).getD (n + k) 0 = _
    rw [sum_app hl hw k, getD_right hl, getD_right hw, sumK]
    omega
theorem all_app {ws vs : List Int} {n : Nat} (hw : ws.length = n) : ∀ k, allK (ws ++ vs) (n + k) = allK ws n + allK vs k
  | 0 => by
    have : ∀ j, j ≤ n → allK (ws ++ vs) j = allK ws j := by
      intro j
      induction j with
      | zero => intro _; rfl
      | succ j ih =>
        intro hj
        rw [allK, allK, ih (by omega), getD_left (by omega)]
    show allK (ws ++ vs) n = allK ws n + 0
    rw [this n (Nat.le_refl _)]; omega
  | k + 1 => by
    show allK (ws ++ vs) (n + k) + (ws ++ vs).getD (n + k) 0 = _
    rw [all_app hw k, getD_right hw, allK]
    omega
theorem vot_app {l m ws vs : List Int} {n : Nat} (hl : l.length = n) (hw : ws.length = n) (v : Int) : ∀ k, votK (l ++ m) (ws ++ vs) v (n + k) = votK l ws v n + votK m vs v k
  | 0 => by
    have : ∀ j, j ≤ n → votK (l ++ m) (ws ++ vs) v j = votK l ws v j := by
      intro j
      induction j with
      | zero => intro _; rfl
      | succ j ih =>
        intro hj
        rw [votK, votK, ih (by omega), getD_left (by omega), getD_left (by omega)]
    show votK (l ++ m) (ws ++ vs) v n = votK l ws v n + 0
    rw [this n (Nat.le_refl _)]; omega
  | k + 1 => by
    show (votK (l ++ m) (ws ++ vs) v (n + k) + if (l ++ m).getD (n + k) 0 = v then (ws ++ vs).getD (n + k) 0 else 0) = _
    rw [vot_app hl hw v k, getD_right hl, getD_right hw, votK]
    omega
theorem each_app (a b : Gv) (r : List Int) : eachL (joinG a b) r = eachL a r ++ eachL b r := by
  unfold eachL joinG
  show List.map _ (gt a ++ gt b) = _
  rw [List.map_append]
theorem join_stand {a b : Gv} {r : List Int} (h : joinF a b = 0) (hs : standF a r = 0) : standF b r = 0 ∧ standF (joinG a b) r = 0 := by
  obtain ⟨A, B, e1, e2, e3⟩ := join_ok h
  obtain ⟨_, h2, h3⟩ := stand_ok hs
  exact ⟨stand_of B h2 (by rw [← e1]; exact h3), stand_of (join_good h) h2 h3⟩
theorem join_sum {a b : Gv} {r : List Int} (h : joinF a b = 0) (hs : standF a r = 0) (hw : gw a = 1) : evalG (joinG a b) r = evalG a r + evalG b r := by
  obtain ⟨A, B, e1, e2, e3⟩ := join_ok h
  obtain ⟨s1, s2⟩ := join_stand h hs
  unfold evalG
  rw [if_pos s2, if_pos hs, if_pos s1]
  unfold together
  rw [if_pos (show gw (joinG a b) = 1 from hw), if_pos hw, if_pos (by rw [← e2]; exact hw), each_app, List.length_append]
  exact sum_app rfl (by rw [each_len]; exact A.len) _
theorem twice {g : Gv} {r : List Int} (h : joinF g g = 0) (hs : standF g r = 0) : evalG (joinG g g) r = if gw g = 1 then 2 * evalG g r else evalG g r := by
  obtain ⟨A, _, _, _, _⟩ := join_ok h
  obtain ⟨_, s2⟩ := join_stand h hs
  by_cases h1 : gw g = 1
  · rw [if_pos h1, join_sum h hs h1]; omega
  · rw [if_neg h1]
    have hE := each_len g r
    have hl : (gs g).length = (eachL g r).length := by rw [hE]; exact A.len
    unfold evalG
    rw [if_pos s2, if_pos hs]
    unfold together
    have ew : gw (joinG g g) = gw g := rfl
    have es : gs (joinG g g) = gs g ++ gs g := rfl
    rw [ew, es, if_neg h1, if_neg h1, each_app, List.length_append]
    by_cases h2 : gw g = 2
    · rw [if_pos h2, if_pos h2, sum_app rfl hl, all_app hl]
      have ap := (all_pos (ws := gs g) (eachL g r).length fun i hi => wt_at A (by rw [← hE]; exact hi)).1
      have a0 : 0 < (eachL g r).length := by rw [hE]; exact A.t0
      rw [show sumK (eachL g r) (gs g) (eachL g r).length + sumK (eachL g r) (gs g) (eachL g r).length = 2 * sumK (eachL g r) (gs g) (eachL g r).length by omega,
        show allK (gs g) (eachL g r).length + allK (gs g) (eachL g r).length = 2 * allK (gs g) (eachL g r).length by omega]
      exact Int.mul_ediv_mul_of_pos _ _ (by omega)
    · rw [if_neg h2, if_neg h2]
      have w1 : ∀ i, i < (eachL g r).length → 1 ≤ (gs g).getD i 0 := fun i hi => (wt_at A (by rw [← hE]; exact hi)).1
      have a0 : 0 < (eachL g r).length := by rw [hE]; exact A.t0
      obtain ⟨⟨j, j1, j2⟩, j3, j4⟩ := best_spec w1 (eachL g r).length a0 (Nat.le_refl _)
      have key : ∀ i, i < (eachL g r).length + (eachL g r).length → ∃ i', i' < (eachL g r).length ∧ (eachL g r ++ eachL g r).getD i 0 = (eachL g r).getD i' 0 := by
        intro i hi
        by_cases q : i < (eachL g r).length
        · exact ⟨i, q, getD_left q⟩
        · refine ⟨i - (eachL g r).length, by omega, ?_⟩
          have := getD_right (l := eachL g r) (m := eachL g r) (i := i - (eachL g r).length) rfl
          rwa [show (eachL g r).length + (i - (eachL g r).length) = i by omega] at this
      have vt : ∀ v, votK (eachL g r ++ eachL g r) (gs g ++ gs g) v ((eachL g r).length + (eachL g r).length) = 2 * votK (eachL g r) (gs g) v (eachL g r).length := by
        intro v
        rw [vot_app rfl hl v]; omega
      have := best_unique (l := eachL g r ++ eachL g r) (ws := gs g ++ gs g) (b := (bestK (eachL g r) (gs g) (eachL g r).length).2)
        (fun i hi => by
          rw [List.length_append] at hi
          by_cases q : i < (eachL g r).length
          · rw [getD_left (by omega)]; exact w1 i q
          · have e := getD_right (l := gs g) (m := gs g) (i := i - (eachL g r).length) hl
            rw [show (eachL g r).length + (i - (eachL g r).length) = i by omega] at e
            rw [e]; exact w1 _ (by omega))
        (by rw [List.length_append]; omega)
        ⟨j, by rw [List.length_append]; omega, by rw [getD_left j1]; exact j2⟩
        (fun i hi => by
          rw [List.length_append] at hi ⊢
          obtain ⟨i', q1, q2⟩ := key i hi
          rw [q2, vt, vt, ← j3]
          have := j4 i' q1
          omega)
      rw [List.length_append] at this
      exact this

theorem join_self {g : Gv} (h : Good g) : joinF g g = 0 ∨ (joinF g g = 4 ∧ 12 < 2 * (gt g).length) := by
  unfold joinF
  rw [if_neg (by simp [(good_iff g).2 h]), if_neg (by simp [(good_iff g).2 h]), if_neg (by simp)]
  by_cases q : 12 < (gt g).length + (gt g).length
  · rw [if_pos q]; exact .inr ⟨rfl, by omega⟩
  · rw [if_neg q]; exact .inl rfl
theorem each_in {g : Gv} {r : List Int} (h : standF g r = 0) {i : Nat} (hi : i < (gt g).length) : -1000000 ≤ (eachL g r).getD i 0 ∧ (eachL g r).getD i 0 ≤ 1000000 := by
  rw [each_at g r hi, getD_at hi]
  have hr := stand_ready h (List.getElem_mem hi)
  exact lv_in (tree_ok (ready_ok hr).2).1 _ (eval_mem hr)
theorem eval_range {g : Gv} {r : List Int} (h : standF g r = 0) (hw : gw g = 1) : -12000000000 ≤ evalG g r ∧ evalG g r ≤ 12000000000 := by
  obtain ⟨G, _, _⟩ := stand_ok h
  unfold evalG
  rw [if_pos h]
  unfold together
  rw [if_pos hw, each_len]
  have := sum_bound (l := eachL g r) (ws := gs g) (gt g).length fun i hi => ⟨(each_in h hi).1, (each_in h hi).2, (wt_at G hi).1, (wt_at G hi).2⟩
  have := G.t12
  omega
def one7 : Gv := (0, 3, [1], [[(-1, 0, 0, 0, false, 7)]])
theorem one7_stand : standF one7 [] = 0 := by decide +kernel
theorem one7_each : eachV one7 [] = [7] := by decide +kernel
def two7 : Gv := (0, 2, [1, 3], [[(-1, 0, 0, 0, false, 7)], [(-1, 0, 0, 0, false, 7)]])
theorem two7_stand : standF two7 [] = 0 := by decide +kernel
theorem two7_eval : evalG two7 [] = 7 := by decide +kernel

end Go.Proofs.YtlloiccodjnkcagGreatDoor.M

namespace Go.Proofs.YtlloiccodjnkcagGreatDoor
open Go.ChangeShapes Go.WideShapes Go.ChangeAt Go.RowKit
set_option linter.unusedVariables false

theorem infoN : (Tryz.prog.info? 64).map (fun i => (i.zero, i.size, i.bytes)) = some (some (.agg #[.int .i64 0, .int .i64 0, .int .i64 0, .int .i64 0, .bool false, .int .i64 0]), 6, 48) := by kernel_rfl
def ndCells (ts : List M.Nd) : List Value := ts.flatMap fun n => [.int .i64 (M.nf n), .int .i64 (M.nc n), .int .i64 (M.nl n), .int .i64 (M.nr n), .bool (M.ns n), .int .i64 (M.nv n)]
theorem ndCells_cons (n : M.Nd) (t : List M.Nd) : ndCells (n :: t) = .int .i64 (M.nf n) :: .int .i64 (M.nc n) :: .int .i64 (M.nl n) :: .int .i64 (M.nr n) :: .bool (M.ns n) :: .int .i64 (M.nv n) :: ndCells t := rfl
theorem ndCells_len (ts : List M.Nd) : (ndCells ts).length = ts.length * 6 := by
  induction ts with
  | nil => rfl
  | cons x t ih => rw [ndCells_cons]; simp only [List.length_cons, ih]; omega
theorem ndCells_one (ts : List M.Nd) : ∀ v ∈ ndCells ts, v.oneCell' = true := by
  intro v hv
  simp only [ndCells, List.mem_flatMap] at hv
  obtain ⟨s, _, hs⟩ := hv
  simp only [List.mem_cons, List.not_mem_nil, or_false] at hs
  rcases hs with rfl | rfl | rfl | rfl | rfl | rfl <;> rfl
theorem ndCells_at : ∀ (ts : List M.Nd) (i : Nat), i < ts.length → (ndCells ts)[i * 6]? = some (.int .i64 (M.nf (M.nAt ts i))) ∧ (ndCells ts)[i * 6 + 1]? = some (.int .i64 (M.nc (M.nAt ts i))) ∧ (ndCells ts)[i * 6 + 2]? = some (.int .i64 (M.nl (M.nAt ts i))) ∧ (ndCells ts)[i * 6 + 3]? = some (.int .i64 (M.nr (M.nAt ts i))) ∧ (ndCells ts)[i * 6 + 4]? = some (.bool (M.ns (M.nAt ts i))) ∧ (ndCells ts)[i * 6 + 5]? = some (.int .i64 (M.nv (M.nAt ts i)))
  | [], i, h => by simp at h
  | s :: t, 0, h => ⟨rfl, rfl, rfl, rfl, rfl, rfl⟩
  | s :: t, i + 1, h => by
    have := ndCells_at t i (by simpa using h)
    have e : M.nAt (s :: t) (i + 1) = M.nAt t i := by simp [M.nAt]
    rw [ndCells_cons, e, show (i + 1) * 6 = i * 6 + 1 + 1 + 1 + 1 + 1 + 1 by omega]
    simpa using this
theorem nd_src {w : World} {b off : Nat} {ts : List M.Nd} (hc : ∀ i, i < ts.length → SixAt w b (off + i * 6) (M.nAt ts i)) : ∀ j u, (ndCells ts)[j]? = some u → w.cell? ((⟨b, off, none⟩ : Addr).add j) = some u := by
  intro j u hj
  have hl : j < ts.length * 6 := by
    have := (List.getElem?_eq_some_iff.1 hj).1
    rwa [ndCells_len] at this
  have hi : j / 6 < ts.length := by omega
  obtain ⟨h0, h1, h2, h3, h4, h5⟩ := hc _ hi
  obtain ⟨q0, q1, q2, q3, q4, q5⟩ := ndCells_at ts _ hi
  rw [add_flat]
  rcases (show j = j / 6 * 6 ∨ j = j / 6 * 6 + 1 ∨ j = j / 6 * 6 + 2 ∨ j = j / 6 * 6 + 3 ∨ j = j / 6 * 6 + 4 ∨ j = j / 6 * 6 + 5 by omega) with e | e | e | e | e | e
  · rw [e] at hj ⊢; rw [q0] at hj; rw [← hj]; simpa [Nat.mul_div_cancel] using h0
  · rw [e] at hj ⊢; rw [show (j / 6 * 6 + 1) = j / 6 * 6 + 1 from rfl] at hj; rw [q1] at hj; rw [← hj, ← Nat.add_assoc]; exact h1
  · rw [e] at hj ⊢; rw [q2] at hj; rw [← hj, ← Nat.add_assoc]; exact h2
  · rw [e] at hj ⊢; rw [q3] at hj; rw [← hj, ← Nat.add_assoc]; exact h3
  · rw [e] at hj ⊢; rw [q4] at hj; rw [← hj, ← Nat.add_assoc]; exact h4
  · rw [e] at hj ⊢; rw [q5] at hj; rw [← hj, ← Nat.add_assoc]; exact h5
theorem own_rdN {w : World} {base n : Nat} {v : Value} {ts : List M.Nd} (hn : ts.length = n) (hm : n ≤ maxLen) (h : w.ownsRow base 64 6 v n (ndCells ts)) : ∃ a cap, v = .slice a n cap ∧ RdN w a ts ∧ (∀ p, a = some p → base ≤ p.block) := by
  subst hn
  rcases h.2 with ⟨hv, h0⟩ | ⟨g, cap, cur, hv, hb, hg, h1, h2, h3, h4⟩
  · have e : ts = [] := List.length_eq_zero_iff.1 h0
    subst e
    exact ⟨none, 0, hv, ⟨Nat.zero_le _, fun h => absurd rfl h⟩, fun p hp => by cases hp⟩
  · subst hv
    refine ⟨_, cap, rfl, ⟨hm, fun _ => ⟨g, 0, rfl, (Array.getElem?_eq_some_iff.1 hg).1, fun i hi => ?_⟩⟩, fun p hp => by cases hp; exact hb⟩
    obtain ⟨q0, q1, q2, q3, q4, q5⟩ := ndCells_at ts i hi
    rw [Nat.zero_add]
    exact ⟨(h.cellAt (i * 6) (by omega)).trans q0, (h.cellAt (i * 6 + 1) (by omega)).trans q1, (h.cellAt (i * 6 + 2) (by omega)).trans q2, (h.cellAt (i * 6 + 3) (by omega)).trans q3, (h.cellAt (i * 6 + 4) (by omega)).trans q4, (h.cellAt (i * 6 + 5) (by omega)).trans q5⟩

end Go.Proofs.YtlloiccodjnkcagGreatDoor

namespace Go.Proofs.YtlloiccodjnkcagGreatDoor
open Go.ChangeShapes Go.WideShapes Go.ChangeAt Go.RowKit
set_option linter.unusedVariables false

theorem ndCells_app (a b : List M.Nd) : ndCells (a ++ b) = ndCells a ++ ndCells b := by unfold ndCells; rw [List.flatMap_append]
theorem ndCells_set2 : ∀ (ts : List M.Nd) (i : Nat), i < ts.length → ∀ l r : Int, ((ndCells ts).set (i * 6 + 2) (.int .i64 l)).set (i * 6 + 3) (.int .i64 r) = ndCells (ts.set i (M.nf (M.nAt ts i), M.nc (M.nAt ts i), l, r, M.ns (M.nAt ts i), M.nv (M.nAt ts i)))
  | [], i, h, l, r => by simp at h
  | n :: t, 0, h, l, r => rfl
  | n :: t, i + 1, h, l, r => by
    have ih := ndCells_set2 t i (by simpa using h) l r
    have e : M.nAt (n :: t) (i + 1) = M.nAt t i := by simp [M.nAt]
    rw [e, List.set_cons_succ, ndCells_cons, ndCells_cons, ← ih, show (i + 1) * 6 + 2 = (i * 6 + 2) + 1 + 1 + 1 + 1 + 1 + 1 by omega, show (i + 1) * 6 + 3 = (i * 6 + 3) + 1 + 1 + 1 + 1 + 1 + 1 by omega]
    simp only [List.set_cons_succ]

theorem ndCells_setL : ∀ (ts : List M.Nd) (i : Nat), i < ts.length → ∀ l : Int, (ndCells ts).set (i * 6 + 2) (.int .i64 l) = ndCells (ts.set i (M.nf (M.nAt ts i), M.nc (M.nAt ts i), l, M.nr (M.nAt ts i), M.ns (M.nAt ts i), M.nv (M.nAt ts i)))
  | [], i, h, l => by simp at h
  | n :: t, 0, h, l => rfl
  | n :: t, i + 1, h, l => by
    have ih := ndCells_setL t i (by simpa using h) l
    have e : M.nAt (n :: t) (i + 1) = M.nAt t i := by simp [M.nAt]
    rw [e, List.set_cons_succ, ndCells_cons, ndCells_cons, ← ih, show (i + 1) * 6 + 2 = (i * 6 + 2) + 1 + 1 + 1 + 1 + 1 + 1 by omega]
    simp only [List.set_cons_succ]
theorem ndCells_setR : ∀ (ts : List M.Nd) (i : Nat), i < ts.length → ∀ r : Int, (ndCells ts).set (i * 6 + 3) (.int .i64 r) = ndCells (ts.set i (M.nf (M.nAt ts i), M.nc (M.nAt ts i), M.nl (M.nAt ts i), r, M.ns (M.nAt ts i), M.nv (M.nAt ts i)))
  | [], i, h, r => by simp at h
  | n :: t, 0, h, r => rfl
  | n :: t, i + 1, h, r => by
    have ih := ndCells_setR t i (by simpa using h) r
    have e : M.nAt (n :: t) (i + 1) = M.nAt t i := by simp [M.nAt]
    rw [e, List.set_cons_succ, ndCells_cons, ndCells_cons, ← ih, show (i + 1) * 6 + 3 = (i * 6 + 3) + 1 + 1 + 1 + 1 + 1 + 1 by omega]
    simp only [List.set_cons_succ]
theorem grown_trans {a b c : World} {r s : Option Nat} (h : a.grownBy b r) (k : b.grownBy c s) (hs : s = r ∨ ∀ q, s = some q → a.heap.size ≤ q) : a.grownBy c r :=
  ⟨k.os.trans h.os, k.tape.trans h.tape, k.output.trans h.output, Nat.le_trans h.size k.size, fun q hq hn => (k.block q (Nat.lt_of_lt_of_le hq h.size) (fun e => by
    rcases hs with q1 | q1
    · exact hn (by rw [e, q1])
    · have := q1 q e.symm; omega)).trans (h.block q hq hn)⟩
theorem grown_drew {a b : World} {r : Option Nat} (h : a.grownBy b r) : a.grownBy b.drew r := ⟨h.os, h.tape, h.output, h.size, h.block⟩
theorem grown_set {W : World} {g o : Nat} {u : Value} : W.grownBy (W.setCell ⟨g, o, none⟩ u) (some g) :=
  ⟨rfl, rfl, rfl, by simp, fun q hq hn => Below.heap_setCell _ _ _ _ (fun e => hn (by rw [e]))⟩
theorem grown_undrew {a b : World} {r : Option Nat} (h : a.drew.grownBy b r) : a.grownBy b r := ⟨h.os, h.tape, h.output, h.size, h.block⟩
theorem grown_of {a b : World} (h : Below a.heap.size a b) (r : Option Nat) : a.grownBy b r := ⟨h.os, h.tape, h.output, h.size, fun k hk _ => h.block k hk⟩
theorem nAt_snoc (O : List M.Nd) (n : M.Nd) (C : List M.Nd) : M.nAt (O ++ n :: C) O.length = n := by unfold M.nAt; simp [List.getD]
theorem set_snoc (O : List M.Nd) (n n' : M.Nd) (C : List M.Nd) : (O ++ n :: C).set O.length n' = O ++ n' :: C := by
  rw [List.set_append_right _ _ (Nat.le_refl _), Nat.sub_self, List.set_cons_zero]
theorem own_low {w : World} {base base' e size n : Nat} {v : Value} {l : List Value} (hb : base' ≤ base) (h : w.ownsRow base e size v n l) : w.ownsRow base' e size v n l := by
  refine ⟨h.1, ?_⟩
  rcases h.2 with h0 | ⟨g, cap, cur, hv, hg, rest⟩
  · exact .inl h0
  · exact .inr ⟨g, cap, cur, hv, by omega, rest⟩

end Go.Proofs.YtlloiccodjnkcagGreatDoor

namespace Go.Proofs.YtlloiccodjnkcagGreatDoor.M
set_option linter.unusedVariables false

abbrev Sa := List Int × Int
def colA (s : Sa) (f : Nat) : Int := s.1.getD f 0
def sAt (l : List Sa) (i : Nat) : Sa := l.getD i ([], 0)
def sa1F (m : Int) (s : Sa) : Int := if rowF s.1 ≠ 0 then rowF s.1 else if s.2 < -1000 ∨ 1000 < s.2 then 1 else if (s.1.length : Int) ≠ m then 3 else if nilI ∈ s.1 then 5 else 0
def samF (l : List Sa) (m : Int) : Nat × Int := if 60 < l.length then (0, 4) else if l.length = 0 then (0, 5) else if m < 0 ∨ 8 < m then (0, 1) else match firstN (fun i => !decide (sa1F m (sAt l i) = 0)) l.length with
  | some i => (i, sa1F m (sAt l i))
  | none => (0, 0)

/-! ### on both sides of a cut -/
def sideB (f : Nat) (c : Int) (s : Sa) : Bool := decide (colA s f < c)
def partS (l : List Sa) (f : Nat) (c : Int) (b : Bool) : List Sa := l.filter fun s => sideB f c s == b
def sumT : List Sa → Int
  | [] => 0
  | s :: l => s.2 + sumT l
theorem sumT_app (a b : List Sa) : sumT (a ++ b) = sumT a + sumT b := by
  induction a with
  | nil => simp [sumT]
  | cons s a ih => show s.2 + sumT (a ++ b) = s.2 + sumT a + sumT b; rw [ih]; omega
theorem part_sum (l : List Sa) (f : Nat) (c : Int) : sumT (partS l f c true) + sumT (partS l f c false) = sumT l ∧ (partS l f c true).length + (partS l f c false).length = l.length := by
  induction l with
  | nil => exact ⟨rfl, rfl⟩
  | cons s l ih =>
    unfold partS at *
    cases h : sideB f c s
    · rw [List.filter_cons_of_neg (by simp [h]), List.filter_cons_of_pos (by simp [h])]
      obtain ⟨i1, i2⟩ := ih
      refine ⟨?_, by rw [List.length_cons, List.length_cons]; omega⟩
      show _ + (s.2 + sumT _) = s.2 + sumT l
      omega
    · rw [List.filter_cons_of_pos (by simp [h]), List.filter_cons_of_neg (by simp [h])]
      obtain ⟨i1, i2⟩ := ih
      refine ⟨?_, by rw [List.length_cons, List.length_cons]; omega⟩
      show s.2 + sumT _ + _ = s.2 + sumT l
      omega
def nB (l : List Sa) (f : Nat) (c : Int) (b : Bool) : Int := ((partS l f c b).length : Nat)
def tB (l : List Sa) (f : Nat) (c : Int) (b : Bool) : Int := sumT (partS l f c b)
def spU (l : List Sa) (f : Nat) (c : Int) : Int := tB l f c true * tB l f c true * nB l f c false + tB l f c false * tB l f c false * nB l f c true
def spD (l : List Sa) (f : Nat) (c : Int) : Int := nB l f c true * nB l f c false
def okC (l : List Sa) (least : Int) (f : Nat) (c : Int) : Bool := !(decide (nB l f c true < least) || decide (nB l f c false < least) || decide (nB l f c true = 0))

/-! ### the best so far -/
abbrev SpS := Int × Int × Nat × Int × Bool
def sp0 (l : List Sa) : SpS := (sumT l * sumT l, (l.length : Nat), 0, 0, false)
def spGt (l : List Sa) (st : SpS) (f : Nat) (c : Int) : Bool := decide (st.1 * spD l f c < spU l f c * st.2.1) || (st.2.2.2.2 && decide (spU l f c * st.2.1 = st.1 * spD l f c) && decide (f = st.2.2.1) && decide (c < st.2.2.2.1))
def spN (l : List Sa) (least : Int) (st : SpS) (f : Nat) (c : Int) : SpS := if okC l least f c = true then (if spGt l st f c = true then (spU l f c, spD l f c, f, c, true) else st) else st
def spI (l : List Sa) (least : Int) (f : Nat) (st : SpS) : Nat → SpS
  | 0 => st
  | k + 1 => spN l least (spI l least f st k) f (colA (sAt l k) f)
def spA (l : List Sa) (least : Int) : Nat → SpS
  | 0 => sp0 l
  | f + 1 => spI l least f (spA l least f) l.length
def spV (l : List Sa) (m : Nat) (least : Int) : SpS := spA l least m

/-! ### fractions -/
theorem fr_gt {a b c d e f : Int} (hb : 0 < b) (hd : 0 < d) (hf : 0 < f) (h1 : c * b < a * d) (h2 : e * d ≤ c * f) : e * b < a * f := by
  have h3 : c * b * f < a * d * f := Int.mul_lt_mul_of_pos_right h1 hf
  have h4 : e * d * b ≤ c * f * b := Int.mul_le_mul_of_nonneg_right h2 (by omega)
  have h5 : (e * b) * d < (a * f) * d := by grind
  exact Int.lt_of_mul_lt_mul_right h5 (by omega)
theorem fr_ge {a b c d e f : Int} (hb : 0 < b) (hd : 0 < d) (hf : 0 < f) (h1 : c * b ≤ a * d) (h2 : e * d < c * f) : e * b < a * f := by
  have h3 : c * b * f ≤ a * d * f := Int.mul_le_mul_of_nonneg_right h1 (by omega)
  have h4 : e * d * b < c * f * b := Int.mul_lt_mul_of_pos_right h2 hb
  have h5 : (e * b) * d < (a * f) * d := by grind
  exact Int.lt_of_mul_lt_mul_right h5 (by omega)
theorem fr_eq {a b c d e f : Int} (hb : 0 < b) (hd : 0 < d) (hf : 0 < f) (h1 : c * b = a * d) (h2 : e * d = c * f) : e * b = a * f := by
  have h5 : (e * b) * d = (a * f) * d := by grind
  exact Int.eq_of_mul_eq_mul_right (by omega) h5
theorem spD_pos {l : List Sa} {least : Int} {f : Nat} {c : Int} (h1 : 1 ≤ least) (h : okC l least f c = true) : 0 < spD l f c ∧ least ≤ nB l f c true ∧ least ≤ nB l f c false := by
  unfold okC at h
  simp only [Bool.not_eq_true', Bool.or_eq_false_iff, decide_eq_false_iff_not] at h
  refine ⟨?_, by omega, by omega⟩
  unfold spD
  exact Int.mul_pos (by omega) (by omega)

/-! ### which is best -/
/-- a question that may be asked -/
def Cand (l : List Sa) (m : Nat) (least : Int) (f : Nat) (c : Int) : Prop := f < m ∧ (∃ i, i < l.length ∧ colA (sAt l i) f = c) ∧ okC l least f c = true
/-- the one puts more right than the other, or as much and comes first -/
def Beats (l : List Sa) (f : Nat) (c : Int) (f' : Nat) (c' : Int) : Prop := spU l f' c' * spD l f c < spU l f c * spD l f' c' ∨ (spU l f c * spD l f' c' = spU l f' c' * spD l f c ∧ (f < f' ∨ (f = f' ∧ c < c')))
/-- it puts right more than no question -/
def More (l : List Sa) (f : Nat) (c : Int) : Prop := sumT l * sumT l * spD l f c < spU l f c * (l.length : Nat)
structure SpInv (l : List Sa) (least : Int) (F : Nat) (P : Nat → Int → Prop) (st : SpS) : Prop where
  no : st.2.2.2.2 = false → st = sp0 l ∧ ∀ f c, P f c → okC l least f c = true → ¬ More l f c
  yes : st.2.2.2.2 = true → P st.2.2.1 st.2.2.2.1 ∧ okC l least st.2.2.1 st.2.2.2.1 = true ∧ st.1 = spU l st.2.2.1 st.2.2.2.1 ∧ st.2.1 = spD l st.2.2.1 st.2.2.2.1 ∧ More l st.2.2.1 st.2.2.2.1 ∧ ∀ f c, P f c → okC l least f c = true → (f = st.2.2.1 ∧ c = st.2.2.2.1) ∨ Beats l st.2.2.1 st.2.2.2.1 f c
  upto : ∀ f c, P f c → f ≤ F
theorem SpInv.same {l : List Sa} {least : Int} {F : Nat} {P Q : Nat → Int → Prop} {st : SpS} (h : SpInv l least F P st) (e : ∀ f c, P f c ↔ Q f c) : SpInv l least F Q st :=
  ⟨fun q => ⟨(h.no q).1, fun f c hp => (h.no q).2 f c ((e f c).2 hp)⟩, fun q => ⟨(e _ _).1 (h.yes q).1, (h.yes q).2.1, (h.yes q).2.2.1, (h.yes q).2.2.2.1, (h.yes q).2.2.2.2.1, fun f c hp => (h.yes q).2.2.2.2.2 f c ((e f c).2 hp)⟩, fun f c hp => h.upto f c ((e f c).2 hp)⟩
theorem beats_trans {l : List Sa} {least : Int} {f g h : Nat} {c d e : Int} (h1 : 1 ≤ least) (of : okC l least f c = true) (og : okC l least g d = true) (oh : okC l least h e = true) (a : Beats l f c g d) (b : Beats l g d h e) : Beats l f c h e := by
  have df := (spD_pos h1 of).1
  have dg := (spD_pos h1 og).1
  have dh := (spD_pos h1 oh).1
  unfold Beats at *
  rcases a with a | ⟨a, a2⟩
  · rcases b with b | ⟨b, b2⟩
    · exact .inl (fr_gt (c := spU l g d) (d := spD l g d) df dg dh a (Int.le_of_lt b))
    · exact .inl (fr_gt (c := spU l g d) (d := spD l g d) df dg dh a (by omega))
  · rcases b with b | ⟨b, b2⟩
    · exact .inl (fr_ge (c := spU l g d) (d := spD l g d) df dg dh (by omega) b)
    · refine .inr ⟨(fr_eq (c := spU l g d) (d := spD l g d) df dg dh a.symm b.symm).symm, ?_⟩
      rcases a2 with a2 | a2 <;> rcases b2 with b2 | b2 <;> omega
/-- one question more -/
theorem SpInv.more {l : List Sa} {least : Int} {F : Nat} {P : Nat → Int → Prop} {st : SpS} (h1 : 1 ≤ least) (hl : 0 < l.length) (h : SpInv l least F P st) (c : Int) : SpInv l least F (fun f d => P f d ∨ (f = F ∧ d = c)) (spN l least st F c) := by
  have up' : ∀ f d, (P f d ∨ (f = F ∧ d = c)) → f ≤ F := fun f d q => q.elim (h.upto f d) (fun q => by omega)
  have hN : (0 : Int) < (l.length : Nat) := by omega
  unfold spN
  by_cases ok : okC l least F c = true
  · rw [if_pos ok]
    have dp := (spD_pos h1 ok).1
    cases hf : st.2.2.2.2 with
    | false =>
      obtain ⟨e0, n0⟩ := h.no hf
      by_cases g : spGt l st F c = true
      · rw [if_pos g]
        have mo : More l F c := by
          unfold spGt at g
          rw [hf, Bool.false_and, Bool.false_and, Bool.false_and, Bool.or_false] at g
          have g' := of_decide_eq_true g
          rw [e0] at g'
          exact g'
        refine ⟨fun q => (by cases q), fun _ => ⟨.inr ⟨rfl, rfl⟩, ok, rfl, rfl, mo, fun f d hp oc => ?_⟩, up'⟩
        rcases hp with hp | ⟨rfl, rfl⟩
        · have nm := n0 f d hp oc
          unfold More at nm mo
          refine .inr (.inl ?_)
          have dd := (spD_pos h1 oc).1
          exact fr_gt (c := sumT l * sumT l) (d := (l.length : Nat)) dp hN dd mo (by omega)
        · exact .inl ⟨rfl, rfl⟩
      · rw [if_neg g]
        refine ⟨fun _ => ⟨e0, fun f d hp oc mo => ?_⟩, fun q => (by rw [hf] at q; cases q), up'⟩
        rcases hp with hp | ⟨rfl, rfl⟩
        · exact n0 f d hp oc mo
        · refine g ?_
          unfold spGt
          rw [Bool.or_eq_true]
          left
          rw [e0]
          exact decide_eq_true mo
    | true =>
      obtain ⟨y1, y2, y3, y4, y5, y6⟩ := h.yes hf
      have db := (spD_pos h1 y2).1
      have lef := h.upto _ _ y1
      by_cases g : spGt l st F c = true
      · rw [if_pos g]
        have bt : Beats l F c st.2.2.1 st.2.2.2.1 := by
          unfold spGt at g
          rw [hf, y3, y4] at g
          simp only [Bool.or_eq_true, Bool.and_eq_true, decide_eq_true_eq] at g
          rcases g with g | ⟨⟨⟨_, g1⟩, g2⟩, g3⟩
          · exact .inl g
          · exact .inr ⟨g1, .inr ⟨g2, g3⟩⟩
        have mo : More l F c := by
          unfold More at y5 ⊢
          rcases bt with b | ⟨b, _⟩
          · exact fr_gt (c := spU l st.2.2.1 st.2.2.2.1) (d := spD l st.2.2.1 st.2.2.2.1) dp db hN b (Int.le_of_lt y5)
          · exact fr_ge (c := spU l st.2.2.1 st.2.2.2.1) (d := spD l st.2.2.1 st.2.2.2.1) dp db hN (by omega) y5
        refine ⟨fun q => (by cases q), fun _ => ⟨.inr ⟨rfl, rfl⟩, ok, rfl, rfl, mo, fun f d hp oc => ?_⟩, up'⟩
        rcases hp with hp | ⟨rfl, rfl⟩
        · rcases y6 f d hp oc with ⟨rfl, rfl⟩ | b
          · exact .inr bt
          · exact .inr (beats_trans h1 ok y2 oc bt b)
        · exact .inl ⟨rfl, rfl⟩
      · rw [if_neg g]
        refine ⟨fun q => (by rw [hf] at q; cases q), fun _ => ⟨.inl y1, y2, y3, y4, y5, fun f d hp oc => ?_⟩, up'⟩
        rcases hp with hp | ⟨rfl, rfl⟩
        · exact y6 f d hp oc
        · unfold spGt at g
          rw [hf, y3, y4] at g
          simp only [Bool.or_eq_true, Bool.and_eq_true, decide_eq_true_eq, not_or, not_and] at g
          obtain ⟨g1, g2⟩ := g
          by_cases e : spU l f d * spD l st.2.2.1 st.2.2.2.1 = spU l st.2.2.1 st.2.2.2.1 * spD l f d
          · by_cases ef : f = st.2.2.1
            · have := g2 ⟨⟨trivial, e⟩, ef⟩
              by_cases ec : d = st.2.2.2.1
              · exact .inl ⟨ef, ec⟩
              · exact .inr (.inr ⟨e.symm, .inr ⟨ef.symm, by omega⟩⟩)
            · exact .inr (.inr ⟨e.symm, .inl (by omega)⟩)
          · exact .inr (.inl (by omega))
  · rw [if_neg ok]
    refine ⟨fun q => ⟨(h.no q).1, fun f d hp oc => ?_⟩, fun q => ⟨.inl (h.yes q).1, (h.yes q).2.1, (h.yes q).2.2.1, (h.yes q).2.2.2.1, (h.yes q).2.2.2.2.1, fun f d hp oc => ?_⟩, up'⟩
    · rcases hp with hp | ⟨rfl, rfl⟩
      · exact (h.no q).2 f d hp oc
      · exact absurd oc ok
    · rcases hp with hp | ⟨rfl, rfl⟩
      · exact (h.yes q).2.2.2.2.2 f d hp oc
      · exact absurd oc ok

theorem spI_inv {l : List Sa} {least : Int} {F : Nat} {P : Nat → Int → Prop} {st : SpS} (h1 : 1 ≤ least) (hl : 0 < l.length) (h : SpInv l least F P st) : ∀ k, SpInv l least F (fun f d => P f d ∨ (f = F ∧ ∃ i, i < k ∧ colA (sAt l i) F = d)) (spI l least F st k)
  | 0 => h.same fun f c => ⟨.inl, fun q => q.elim id (fun ⟨_, i, hi, _⟩ => by omega)⟩
  | k + 1 => ((spI_inv h1 hl h k).more h1 hl (colA (sAt l k) F)).same fun f c => by
    constructor
    · rintro ((q | ⟨rfl, i, hi, e⟩) | ⟨rfl, rfl⟩)
      · exact .inl q
      · exact .inr ⟨rfl, i, by omega, e⟩
      · exact .inr ⟨rfl, k, by omega, rfl⟩
    · rintro (q | ⟨rfl, i, hi, e⟩)
      · exact .inl (.inl q)
      · by_cases ik : i = k
        · subst ik; exact .inr ⟨rfl, e.symm⟩
        · exact .inl (.inr ⟨rfl, i, by omega, e⟩)
theorem SpInv.wide {l : List Sa} {least : Int} {F G : Nat} {P : Nat → Int → Prop} {st : SpS} (h : SpInv l least F P st) (hg : F ≤ G) : SpInv l least G P st := ⟨h.no, h.yes, fun f c hp => Nat.le_trans (h.upto f c hp) hg⟩
theorem spA_inv {l : List Sa} {least : Int} (h1 : 1 ≤ least) (hl : 0 < l.length) : ∀ m, SpInv l least m (fun f d => f < m ∧ ∃ i, i < l.length ∧ colA (sAt l i) f = d) (spA l least m)
  | 0 => ⟨fun _ => ⟨rfl, fun f c hp => by omega⟩, fun q => (by cases q), fun f c hp => by omega⟩
  | m + 1 => ((spI_inv h1 hl (spA_inv h1 hl m) l.length).wide (Nat.le_succ m)).same fun f c => by
    constructor
    · rintro (⟨h, q⟩ | ⟨rfl, q⟩)
      · exact ⟨by omega, q⟩
      · exact ⟨by omega, q⟩
    · rintro ⟨h, q⟩
      by_cases e : f = m
      · subst e; exact .inr ⟨rfl, q⟩
      · exact .inl ⟨by omega, q⟩
/-- which question is best -/
theorem split_spec {l : List Sa} {m : Nat} {least : Int} (h1 : 1 ≤ least) (hl : 0 < l.length) :
    ((spV l m least).2.2.2.2 = false → (spV l m least).2.2.1 = 0 ∧ (spV l m least).2.2.2.1 = 0 ∧ ∀ f c, Cand l m least f c → ¬ More l f c) ∧
    ((spV l m least).2.2.2.2 = true → Cand l m least (spV l m least).2.2.1 (spV l m least).2.2.2.1 ∧ More l (spV l m least).2.2.1 (spV l m least).2.2.2.1 ∧ ∀ f c, Cand l m least f c → (f = (spV l m least).2.2.1 ∧ c = (spV l m least).2.2.2.1) ∨ Beats l (spV l m least).2.2.1 (spV l m least).2.2.2.1 f c) := by
  have I := spA_inv h1 hl m
  refine ⟨fun q => ?_, fun q => ?_⟩
  · obtain ⟨e, n⟩ := I.no q
    refine ⟨?_, ?_, fun f c hc => n f c ⟨hc.1, hc.2.1⟩ hc.2.2⟩
    · show (spA l least m).2.2.1 = 0; rw [e]; rfl
    · show (spA l least m).2.2.2.1 = 0; rw [e]; rfl
  · obtain ⟨y1, y2, y3, y4, y5, y6⟩ := I.yes q
    exact ⟨⟨y1.1, y1.2, y2⟩, y5, fun f c hc => y6 f c ⟨hc.1, hc.2.1⟩ hc.2.2⟩
theorem beats_not {l : List Sa} {f g : Nat} {c d : Int} (a : Beats l f c g d) (b : Beats l g d f c) : False := by
  unfold Beats at a b
  rcases a with a | ⟨a, a2⟩
  · rcases b with b | ⟨b, b2⟩
    · omega
    · omega
  · rcases b with b | ⟨b, b2⟩
    · omega
    · omega
/-- what is best is one alone -/
theorem split_only {l : List Sa} {m : Nat} {least : Int} (h1 : 1 ≤ least) (hl : 0 < l.length) {f : Nat} {c : Int} (hc : Cand l m least f c) (hm : More l f c) (hb : ∀ g d, Cand l m least g d → (g = f ∧ d = c) ∨ Beats l f c g d) : (spV l m least).2.2.2.2 = true ∧ (spV l m least).2.2.1 = f ∧ (spV l m least).2.2.2.1 = c := by
  obtain ⟨s1, s2⟩ := split_spec (m := m) h1 hl
  cases q : (spV l m least).2.2.2.2 with
  | false => exact absurd hm ((s1 q).2.2 f c hc)
  | true =>
    obtain ⟨t1, t2, t3⟩ := s2 q
    rcases t3 f c hc with ⟨e1, e2⟩ | b
    · exact ⟨rfl, e1.symm, e2.symm⟩
    · rcases hb _ _ t1 with ⟨e1, e2⟩ | b2
      · exact ⟨rfl, e1, e2⟩
      · exact absurd b2 (fun b2 => beats_not b b2)
theorem split_none {l : List Sa} {m : Nat} {least : Int} (h1 : 1 ≤ least) (hl : 0 < l.length) (h : ∀ f c, Cand l m least f c → ¬ More l f c) : (spV l m least).2.2.2.2 = false := by
  cases q : (spV l m least).2.2.2.2 with
  | false => rfl
  | true =>
    obtain ⟨t1, t2, _⟩ := (split_spec (m := m) h1 hl).2 q
    exact absurd t2 (h _ _ t1)

/-! ### targets that are shifted -/
def shiftL (b : Int) (l : List Sa) : List Sa := l.map fun s => (s.1, s.2 + b)
theorem shift_len (b : Int) (l : List Sa) : (shiftL b l).length = l.length := by unfold shiftL; simp
theorem shift_sum (b : Int) : ∀ l : List Sa, sumT (shiftL b l) = sumT l + b * (l.length : Nat)
  | [] => by simp [shiftL, sumT]
  | s :: l => by
    have ih := shift_sum b l
    show (s.2 + b) + sumT (shiftL b l) = s.2 + sumT l + b * ((l.length + 1 : Nat) : Int)
    rw [ih, Int.natCast_add, Int.mul_add]
    simp
    omega
theorem shift_part (b : Int) (l : List Sa) (f : Nat) (c : Int) (d : Bool) : partS (shiftL b l) f c d = shiftL b (partS l f c d) := by
  unfold partS shiftL
  rw [List.filter_map]
  rfl
theorem shift_n (b : Int) (l : List Sa) (f : Nat) (c : Int) (d : Bool) : nB (shiftL b l) f c d = nB l f c d := by unfold nB; rw [shift_part, shift_len]
theorem shift_t (b : Int) (l : List Sa) (f : Nat) (c : Int) (d : Bool) : tB (shiftL b l) f c d = tB l f c d + b * nB l f c d := by unfold tB nB; rw [shift_part, shift_sum]
def shK (b : Int) (l : List Sa) : Int := 2 * b * sumT l + b * b * (l.length : Nat)
theorem shift_U (b : Int) (l : List Sa) (f : Nat) (c : Int) : spU (shiftL b l) f c = spU l f c + spD l f c * shK b l := by
  have h1 : tB l f c true + tB l f c false = sumT l := (part_sum l f c).1
  have h2 : nB l f c true + nB l f c false = (l.length : Nat) := by have := (part_sum l f c).2; unfold nB; omega
  unfold spU spD shK
  rw [shift_t, shift_t, shift_n, shift_n, ← h1, ← h2]
  grind
theorem shift_D (b : Int) (l : List Sa) (f : Nat) (c : Int) : spD (shiftL b l) f c = spD l f c := by unfold spD; rw [shift_n, shift_n]
theorem shift_ok (b : Int) (l : List Sa) (least : Int) (f : Nat) (c : Int) : okC (shiftL b l) least f c = okC l least f c := by unfold okC; rw [shift_n, shift_n]
theorem shift_more (b : Int) (l : List Sa) (f : Nat) (c : Int) : More (shiftL b l) f c ↔ More l f c := by
  unfold More
  rw [shift_U, shift_D, shift_sum, shift_len]
  unfold shK
  have e : (sumT l + b * (l.length : Nat)) * (sumT l + b * (l.length : Nat)) * spD l f c = sumT l * sumT l * spD l f c + (spD l f c * (2 * b * sumT l + b * b * (l.length : Nat))) * (l.length : Nat) := by grind
  rw [e, Int.add_mul]
  omega
theorem shift_beats (b : Int) (l : List Sa) (f g : Nat) (c d : Int) : Beats (shiftL b l) f c g d ↔ Beats l f c g d := by
  unfold Beats
  rw [shift_U, shift_U, shift_D, shift_D]
  have e1 : (spU l g d + spD l g d * shK b l) * spD l f c = spU l g d * spD l f c + spD l g d * spD l f c * shK b l := by grind
  have e2 : (spU l f c + spD l f c * shK b l) * spD l g d = spU l f c * spD l g d + spD l g d * spD l f c * shK b l := by grind
  rw [e1, e2]
  constructor
  · rintro (h | ⟨h, q⟩)
    · exact .inl (by omega)
    · exact .inr ⟨by omega, q⟩
  · rintro (h | ⟨h, q⟩)
    · exact .inl (by omega)
    · exact .inr ⟨by omega, q⟩
theorem shift_at (b : Int) {l : List Sa} {i : Nat} (hi : i < l.length) (f : Nat) : colA (sAt (shiftL b l) i) f = colA (sAt l i) f := by
  have e : sAt (shiftL b l) i = ((sAt l i).1, (sAt l i).2 + b) := by
    unfold sAt shiftL
    rw [getD_at (l := l.map _) (by simpa using hi), getD_at (l := l) hi, List.getElem_map]
  rw [e]
  rfl
theorem shift_cand (b : Int) (l : List Sa) (m : Nat) (least : Int) (f : Nat) (c : Int) : Cand (shiftL b l) m least f c ↔ Cand l m least f c := by
  unfold Cand
  rw [shift_ok, shift_len]
  constructor
  · rintro ⟨h, ⟨i, hi, e⟩, q⟩
    exact ⟨h, ⟨i, hi, by rw [← shift_at b hi]; exact e⟩, q⟩
  · rintro ⟨h, ⟨i, hi, e⟩, q⟩
    exact ⟨h, ⟨i, hi, by rw [shift_at b hi]; exact e⟩, q⟩
/-- a shift changes no question -/
theorem shift_split (b : Int) {l : List Sa} {m : Nat} {least : Int} (h1 : 1 ≤ least) (hl : 0 < l.length) : (spV (shiftL b l) m least).2.2 = (spV l m least).2.2 := by
  have hl' : 0 < (shiftL b l).length := by rw [shift_len]; exact hl
  cases q : (spV l m least).2.2.2.2 with
  | true =>
    obtain ⟨t1, t2, t3⟩ := (split_spec (m := m) h1 hl).2 q
    obtain ⟨r1, r2, r3⟩ := split_only (m := m) h1 hl' ((shift_cand b l m least _ _).2 t1) ((shift_more b l _ _).2 t2) fun g d hc => (t3 g d ((shift_cand b l m least g d).1 hc)).imp id (fun z => (shift_beats b l _ _ _ _).2 z)
    exact Prod.ext r2 (Prod.ext r3 (by rw [r1, q]))
  | false =>
    obtain ⟨e1, e2, n⟩ := (split_spec (m := m) h1 hl).1 q
    have r := split_none (m := m) h1 hl' fun f c hc mo => n f c ((shift_cand b l m least f c).1 hc) ((shift_more b l f c).1 mo)
    obtain ⟨d1, d2, _⟩ := (split_spec (m := m) h1 hl').1 r
    exact Prod.ext (by rw [d1, e1]) (Prod.ext (by rw [d2, e2]) (by rw [r, q]))

end Go.Proofs.YtlloiccodjnkcagGreatDoor.M
