/-
  Several texts as one: MathJ, VnCells, TNode.
-/
import Derived.Test.YtjjfmepinpmkfaaGreatDoorRunA7
import Derived.Test.YtjjfmepinpmkfaaGreatDoorRunA1
import Derived.Test.YtjjfmepinpmkfaaGreatDoorRunA9
import Derived.Laws.AppendOwnNone
import Derived.OwnWalk
import Derived.Test.YtjjfmepinpmkfaaGreatDoorRunA10
import Derived.RegionTactic
import Derived.Deep.RegionWith
import Derived.Deep.Cut
import Derived.Deep.CutRange
import Derived.Deep.QuietTactic
namespace Go.Proofs.YtjjfmepinpmkfaaGreatDoor.M
set_option linter.unusedVariables false
/-! ### the leaves' values -/
def lvK (t : List Nd) : Nat → List Int
  | 0 => []
  | k + 1 => if leafB (nAt t k) = true then lvK t k ++ [nv (nAt t k)] else lvK t k
theorem lvK_mem (t : List Nd) : ∀ (k : Nat) (x : Int), x ∈ lvK t k ↔ ∃ j, j < k ∧ leafB (nAt t j) = true ∧ x = nv (nAt t j)
  | 0, x => by simp [lvK]
  | k + 1, x => by
    unfold lvK
    by_cases h : leafB (nAt t k) = true
    · rw [if_pos h, List.mem_append, lvK_mem t k x, List.mem_singleton]
      constructor
      · rintro (⟨j, h1, h2⟩ | rfl)
        · exact ⟨j, by omega, h2⟩
        · exact ⟨k, by omega, h, rfl⟩
      · rintro ⟨j, h1, h2, h3⟩
        by_cases q : j = k
        · subst q; exact .inr h3
        · exact .inl ⟨j, by omega, h2, h3⟩
    · rw [if_neg h, lvK_mem t k x]
      constructor
      · rintro ⟨j, h1, h2⟩
        exact ⟨j, by omega, h2⟩
      · rintro ⟨j, h1, h2, h3⟩
        by_cases q : j = k
        · subst q; exact absurd h2 h
        · exact ⟨j, by omega, h2, h3⟩
theorem lvK_len (t : List Nd) : ∀ k, (lvK t k).length ≤ k
  | 0 => Nat.le_refl _
  | k + 1 => by
    have := lvK_len t k
    unfold lvK
    split
    · simp; omega
    · omega
/-- the least, the greatest of a list -/
def lowL (l : List Int) : Int := (sortI l).getD 0 0
def highL (l : List Int) : Int := (sortI l).getD (l.length - 1) 0
theorem low_mem {l : List Int} (h : 0 < l.length) : lowL l ∈ l := by
  unfold lowL
  rw [getD_at (by rw [sort_length]; exact h)]
  exact (sort_perm l).mem_iff.1 (List.getElem_mem _)
theorem high_mem {l : List Int} (h : 0 < l.length) : highL l ∈ l := by
  unfold highL
  rw [getD_at (by rw [sort_length]; omega)]
  exact (sort_perm l).mem_iff.1 (List.getElem_mem _)
theorem low_le {l : List Int} {x : Int} (hx : x ∈ l) : lowL l ≤ x := by
  have hx' := (sort_perm l).mem_iff.2 hx
  obtain ⟨i, hi, rfl⟩ := List.getElem_of_mem hx'
  unfold lowL
  rw [getD_at (by omega)]
  rcases Nat.eq_zero_or_pos i with h | h
  · subst h; exact Int.le_refl _
  · exact List.pairwise_iff_getElem.1 (sort_pw l) 0 i (by omega) hi h
theorem high_ge {l : List Int} {x : Int} (hx : x ∈ l) : x ≤ highL l := by
  have hx' := (sort_perm l).mem_iff.2 hx
  obtain ⟨i, hi, rfl⟩ := List.getElem_of_mem hx'
  have hl : (sortI l).length = l.length := sort_length l
  unfold highL
  rw [getD_at (by omega)]
  by_cases h : i = l.length - 1
  · subst h; exact Int.le_refl _
  · exact List.pairwise_iff_getElem.1 (sort_pw l) i (l.length - 1) hi (by omega) (by omega)
theorem low_unique {l : List Int} {b : Int} (hb : b ∈ l) (h : ∀ x ∈ l, b ≤ x) : lowL l = b := by
  have h1 := low_le hb
  have h2 := h _ (low_mem (List.length_pos_of_mem hb))
  omega
theorem high_unique {l : List Int} {b : Int} (hb : b ∈ l) (h : ∀ x ∈ l, x ≤ b) : highL l = b := by
  have h1 := high_ge hb
  have h2 := h _ (high_mem (List.length_pos_of_mem hb))
  omega
def lowT (t : List Nd) : Int := lowL (lvK t t.length)
def highT (t : List Nd) : Int := highL (lvK t t.length)
theorem leafV_leaf' {t : List Nd} {r : List Int} (h : readyF t r = 0) : toD t r 0 < t.length ∧ nf (nAt t (toD t r 0)) = -1 := by
  have F := (tree_ok (ready_ok h).2).1
  exact to_end F.2.2.2.2.1 r t.length 0 F.2.1 (by omega)
theorem eval_mem {t : List Nd} {r : List Int} (h : readyF t r = 0) : evalV t r ∈ lvK t t.length := by
  have hl := leafV_leaf' h
  unfold evalV
  rw [if_pos h, lvK_mem]
  refine ⟨toD t r 0, hl.1, ?_, rfl⟩
  unfold leafB
  rw [hl.2]; rfl
theorem eval_between {t : List Nd} {r : List Int} (h : readyF t r = 0) : lowT t ≤ evalV t r ∧ evalV t r ≤ highT t := ⟨low_le (eval_mem h), high_ge (eval_mem h)⟩
theorem lv_in {t : List Nd} {m : Int} (F : Fair t m) : ∀ x ∈ lvK t t.length, -1000000 ≤ x ∧ x ≤ 1000000 := by
  intro x hx
  obtain ⟨j, h1, h2, rfl⟩ := (lvK_mem t _ x).1 hx
  have := F.2.2.2.2.1 j h1
  unfold leafB at h2
  unfold nodeF at this
  rw [if_pos (of_decide_eq_true h2)] at this
  unfold lfF at this
  split at this
  · cases this
  · rename_i hc
    exact out_false (by simpa using hc)
theorem lv_some {t : List Nd} {m : Int} (F : Fair t m) : 0 < (lvK t t.length).length := by
  have hR := F.2.2.2.2.1
  obtain ⟨h1, h2⟩ := to_end hR [] t.length 0 F.2.1 (by omega)
  exact List.length_pos_of_mem ((lvK_mem t _ _).2 ⟨_, h1, by unfold leafB; rw [h2]; rfl, rfl⟩)

/-! ### bounds -/
def between (w : Int) (ws least most : List Int) : Int × Int := if w ≠ 3 then (together w ws least, together w ws most) else (lowL least, highL most)
def boundsV (g : Gv) : Int × Int := if groveF g = 0 then between (gw g) (gs g) ((gt g).map lowT) ((gt g).map highT) else (0, 0)
theorem wt_at {g : Gv} (h : Good g) {i : Nat} (hi : i < (gt g).length) : 1 ≤ (gs g).getD i 0 ∧ (gs g).getD i 0 ≤ 1000 := by
  have hl := h.len
  rw [getD_at (by omega)]
  exact h.wts _ (List.getElem_mem _)
theorem ediv_mono {a b c : Int} (h : a ≤ b) (hc : 0 < c) : a / c ≤ b / c := Int.ediv_le_ediv hc h
theorem eval_bounds {g : Gv} {r : List Int} (h : standF g r = 0) : (boundsV g).1 ≤ evalG g r ∧ evalG g r ≤ (boundsV g).2 := by
  obtain ⟨G, h2, h3⟩ := stand_ok h
  have hE := each_len g r
  have t0 := G.t0
  have bt : ∀ i, i < (gt g).length → ((gt g).map lowT).getD i 0 ≤ (eachL g r).getD i 0 ∧ (eachL g r).getD i 0 ≤ ((gt g).map highT).getD i 0 := by
    intro i hi
    have e1 : ((gt g).map lowT).getD i 0 = lowT (gt g)[i] := by rw [getD_at (by simpa using hi)]; simp
    have e2 : ((gt g).map highT).getD i 0 = highT (gt g)[i] := by rw [getD_at (by simpa using hi)]; simp
    rw [each_at g r hi, e1, e2, getD_at hi]
    exact eval_between (stand_ready h (List.getElem_mem hi))
  have l1 : ((gt g).map lowT).length = (gt g).length := by simp
  have l2 : ((gt g).map highT).length = (gt g).length := by simp
  unfold boundsV evalG
  rw [if_pos ((good_iff g).2 G), if_pos h]
  unfold between
  by_cases hv : gw g = 3
  · rw [if_neg (by simp [hv])]
    unfold together
    rw [if_neg (by omega), if_neg (by omega), hE]
    obtain ⟨⟨j, j1, j2⟩, _, _⟩ := best_spec (l := eachL g r) (ws := gs g) (fun i hi => (wt_at G (by rw [← hE]; exact hi)).1) (gt g).length t0 (by omega)
    rw [j2]
    have b := bt j j1
    constructor
    · refine Int.le_trans (low_le (x := ((gt g).map lowT).getD j 0) ?_) b.1
      rw [getD_at (by omega)]; exact List.getElem_mem _
    · refine Int.le_trans b.2 (high_ge ?_)
      rw [getD_at (by omega)]; exact List.getElem_mem _
  · rw [if_pos hv]
    have m1 := sum_mono (l := (gt g).map lowT) (m := eachL g r) (ws := gs g) (gt g).length fun i hi => ⟨(bt i hi).1, by have := (wt_at G hi).1; omega⟩
    have m2 := sum_mono (l := eachL g r) (m := (gt g).map highT) (ws := gs g) (gt g).length fun i hi => ⟨(bt i hi).2, by have := (wt_at G hi).1; omega⟩
    have ap := (all_pos (ws := gs g) (gt g).length fun i hi => wt_at G hi).1
    unfold together
    rw [l1, l2, hE]
    by_cases h1 : gw g = 1
    · rw [if_pos h1, if_pos h1, if_pos h1]; exact ⟨m1, m2⟩
    · have h2' : gw g = 2 := by have := G.w1; have := G.w3; omega
      rw [if_neg h1, if_neg h1, if_neg h1, if_pos h2', if_pos h2', if_pos h2']
      exact ⟨ediv_mono m1 (by omega), ediv_mono m2 (by omega)⟩
theorem vote_in {g : Gv} {r : List Int} (h : standF g r = 0) (hv : gw g = 3) : ∃ j, j < (eachL g r).length ∧ (eachL g r).getD j 0 = evalG g r := by
  obtain ⟨G, _, _⟩ := stand_ok h
  have hE := each_len g r
  unfold evalG
  rw [if_pos h]
  unfold together
  rw [if_neg (by omega), if_neg (by omega)]
  obtain ⟨⟨j, j1, j2⟩, _, _⟩ := best_spec (l := eachL g r) (ws := gs g) (fun i hi => (wt_at G (by rw [← hE]; exact hi)).1) (eachL g r).length (by have := G.t0; omega) (Nat.le_refl _)
  exact ⟨j, j1, j2.symm⟩

/-! ### two as one -/
def joinF (a b : Gv) : Int := if groveF a ≠ 0 then groveF a else if groveF b ≠ 0 then groveF b else if gf a ≠ gf b ∨ gw a ≠ gw b then 3 else if 12 < (gt a).length + (gt b).length then 4 else 0
def joinG (a b : Gv) : Gv := (gf a, gw a, gs a ++ gs b, gt a ++ gt b)
def joinV (a b : Gv) : Gv := if joinF a b = 0 then joinG a b else (0, 0, [], [])
theorem join_ok {a b : Gv} (h : joinF a b = 0) : Good a ∧ Good b ∧ gf a = gf b ∧ gw a = gw b ∧ (gt a).length + (gt b).length ≤ 12 := by
  unfold joinF at h
  split at h
  · rename_i h1; exact absurd h h1
  · rename_i h1
    split at h
    · rename_i h2; exact absurd h h2
    · rename_i h2
      split at h
      · cases h
      · rename_i h3
        split at h
        · cases h
        · rename_i h4
          exact ⟨(good_iff a).1 (by simpa using h1), (good_iff b).1 (by simpa using h2), by omega, by omega, by omega⟩
theorem join_good {a b : Gv} (h : joinF a b = 0) : Good (joinG a b) := by
  obtain ⟨A, B, e1, e2, e3⟩ := join_ok h
  refine ⟨A.f0, A.f8, A.w1, A.w3, ?_, ?_, ?_, ?_, ?_⟩
  · show 0 < (gt a ++ gt b).length; rw [List.length_append]; have := A.t0; omega
  · show (gt a ++ gt b).length ≤ 12; rw [List.length_append]; exact e3
  · show (gs a ++ gs b).length = (gt a ++ gt b).length; rw [List.length_append, List.length_append, A.len, B.len]
  · intro w hw
    rcases List.mem_append.1 hw with q | q
    · exact A.wts w q
    · exact B.wts w q
  · intro t ht
    rcases List.mem_append.1 ht with q | q
    · exact A.trees t q
    · show (treeF t (gf a)).2 = 0
      rw [e1]; exact B.trees t q
theorem getD_left {l m : List Int} {i : Nat} (h : i < l.length) : (l ++ m).getD i 0 = l.getD i 0 := by
  rw [getD_at (by simp; omega), getD_at h, List.getElem_append_left h]
theorem getD_right {l m : List Int} {n i : Nat} (hn : l.length = n) : (l ++ m).getD (n + i) 0 = m.getD i 0 := by
  subst hn
  simp [List.getD, List.getElem?_append_right]
theorem sum_app {l m ws vs : List Int} {n : Nat} (hl : l.length = n) (hw : ws.length = n) : ∀ k, sumK (l ++ m) (ws ++ vs) (n + k) = sumK l ws n + sumK m vs k
  | 0 => by
    have : ∀ j, j ≤ n → sumK (l ++ m) (ws ++ vs) j = sumK l ws j := by
      intro j
      induction j with
      | zero => intro _; rfl
      | succ j ih =>
        intro hj
        rw [sumK, sumK, ih (by omega), getD_left (by omega), getD_left (by omega)]
    show sumK (l ++ m) (ws ++ vs) n = sumK l ws n + 0
    rw [this n (Nat.le_refl _)]; omega
  | k + 1 => by
    show sumK (l ++ m) (ws ++ vs) (n + k) + (l ++ m).getD (n + k) 0 * (ws ++ vs).getD (n + k) 0 = _
    rw [sum_app hl hw k, getD_right hl, getD_right hw, sumK]
    omega
theorem all_app {ws vs : List Int} {n : Nat} (hw : ws.length = n) : ∀ k, allK (ws ++ vs) (n + k) = allK ws n + allK vs k
  | 0 => by
    have : ∀ j, j ≤ n → allK (ws ++ vs) j = allK ws j := by
      intro j
      induction j with
      | zero => intro _; rfl
      | succ j ih =>
        intro hj
        rw [allK, allK, ih (by omega), getD_left (by omega)]
    show allK (ws ++ vs) n = allK ws n + 0
    rw [this n (Nat.le_refl _)]; omega
  | k + 1 => by
    show allK (ws ++ vs) (n + k) + (ws ++ vs).getD (n + k) 0 = _
    rw [all_app hw k, getD_right hw, allK]
    omega
theorem vot_app {l m ws vs : List Int} {n : Nat} (hl : l.length = n) (hw : ws.length = n) (v : Int) : ∀ k, votK (l ++ m) (ws ++ vs) v (n + k) = votK l ws v n + votK m vs v k
  | 0 => by
    have : ∀ j, j ≤ n → votK (l ++ m) (ws ++ vs) v j = votK l ws v j := by
      intro j
      induction j with
      | zero => intro _; rfl
      | succ j ih =>
        intro hj
        rw [votK, votK, ih (by omega), getD_left (by omega), getD_left (by omega)]
    show votK (l ++ m) (ws ++ vs) v n = votK l ws v n + 0
    rw [this n (Nat.le_refl _)]; omega
  | k + 1 => by
    show (votK (l ++ m) (ws ++ vs) v (n + k) + if (l ++ m).getD (n + k) 0 = v then (ws ++ vs).getD (n + k) 0 else 0) = _
    rw [vot_app hl hw v k, getD_right hl, getD_right hw, votK]
    omega
theorem each_app (a b : Gv) (r : List Int) : eachL (joinG a b) r = eachL a r ++ eachL b r := by
  unfold eachL joinG
  show List.map _ (gt a ++ gt b) = _
  rw [List.map_append]
theorem join_stand {a b : Gv} {r : List Int} (h : joinF a b = 0) (hs : standF a r = 0) : standF b r = 0 ∧ standF (joinG a b) r = 0 := by
  obtain ⟨A, B, e1, e2, e3⟩ := join_ok h
  obtain ⟨_, h2, h3⟩ := stand_ok hs
  exact ⟨stand_of B h2 (by rw [← e1]; exact h3), stand_of (join_good h) h2 h3⟩
theorem join_sum {a b : Gv} {r : List Int} (h : joinF a b = 0) (hs : standF a r = 0) (hw : gw a = 1) : evalG (joinG a b) r = evalG a r + evalG b r := by
  obtain ⟨A, B, e1, e2, e3⟩ := join_ok h
  obtain ⟨s1, s2⟩ := join_stand h hs
  unfold evalG
  rw [if_pos s2, if_pos hs, if_pos s1]
  unfold together
  rw [if_pos (show gw (joinG a b) = 1 from hw), if_pos hw, if_pos (by rw [← e2]; exact hw), each_app, List.length_append]
  exact sum_app rfl (by rw [each_len]; exact A.len) _
theorem twice {g : Gv} {r : List Int} (h : joinF g g = 0) (hs : standF g r = 0) : evalG (joinG g g) r = if gw g = 1 then 2 * evalG g r else evalG g r := by
  obtain ⟨A, _, _, _, _⟩ := join_ok h
  obtain ⟨_, s2⟩ := join_stand h hs
  by_cases h1 : gw g = 1
  · rw [if_pos h1, join_sum h hs h1]; omega
  · rw [if_neg h1]
    have hE := each_len g r
    have hl : (gs g).length = (eachL g r).length := by rw [hE]; exact A.len
    unfold evalG
    rw [if_pos s2, if_pos hs]
    unfold together
    have ew : gw (joinG g g) = gw g := rfl
    have es : gs (joinG g g) = gs g ++ gs g := rfl
    rw [ew, es, if_neg h1, if_neg h1, each_app, List.length_append]
    by_cases h2 : gw g = 2
    · rw [if_pos h2, if_pos h2, sum_app rfl hl, all_app hl]
      have ap := (all_pos (ws := gs g) (eachL g r).length fun i hi => wt_at A (by rw [← hE]; exact hi)).1
      have a0 : 0 < (eachL g r).length := by rw [hE]; exact A.t0
      rw [show sumK (eachL g r) (gs g) (eachL g r).length + sumK (eachL g r) (gs g) (eachL g r).length = 2 * sumK (eachL g r) (gs g) (eachL g r).length by omega,
        show allK (gs g) (eachL g r).length + allK (gs g) (eachL g r).length = 2 * allK (gs g) (eachL g r).length by omega]
      exact Int.mul_ediv_mul_of_pos _ _ (by omega)
    · rw [if_neg h2, if_neg h2]
      have w1 : ∀ i, i < (eachL g r).length → 1 ≤ (gs g).getD i 0 := fun i hi => (wt_at A (by rw [← hE]; exact hi)).1
      have a0 : 0 < (eachL g r).length := by rw [hE]; exact A.t0
      obtain ⟨⟨j, j1, j2⟩, j3, j4⟩ := best_spec w1 (eachL g r).length a0 (Nat.le_refl _)
      have key : ∀ i, i < (eachL g r).length + (eachL g r).length → ∃ i', i' < (eachL g r).length ∧ (eachL g r ++ eachL g r).getD i 0 = (eachL g r).getD i' 0 := by
        intro i hi
        by_cases q : i < (eachL g r).length
        · exact ⟨i, q, getD_left q⟩
        · refine ⟨i - (eachL g r).length, by omega, ?_⟩
          have := getD_right (l := eachL g r) (m := eachL g r) (i := i - (eachL g r).length) rfl
          rwa [show (eachL g r).length + (i - (eachL g r).length) = i by omega] at this
      have vt : ∀ v, votK (eachL g r ++ eachL g r) (gs g ++ gs g) v ((eachL g r).length + (eachL g r).length) = 2 * votK (eachL g r) (gs g) v (eachL g r).length := by
        intro v
        rw [vot_app rfl hl v]; omega
      have := best_unique (l := eachL g r ++ eachL g r) (ws := gs g ++ gs g) (b := (bestK (eachL g r) (gs g) (eachL g r).length).2)
        (fun i hi => by
          rw [List.length_append] at hi
          by_cases q : i < (eachL g r).length
          · rw [getD_left (by omega)]; exact w1 i q
          · have e := getD_right (l := gs g) (m := gs g) (i := i - (eachL g r).length) hl
            rw [show (eachL g r).length + (i - (eachL g r).length) = i by omega] at e
            rw [e]; exact w1 _ (by omega))
        (by rw [List.length_append]; omega)
        ⟨j, by rw [List.length_append]; omega, by rw [getD_left j1]; exact j2⟩
        (fun i hi => by
          rw [List.length_append] at hi ⊢
          obtain ⟨i', q1, q2⟩ := key i hi
          rw [q2, vt, vt, ← j3]
          have := j4 i' q1
          omega)
      rw [List.length_append] at this
      exact this

theorem join_self {g : Gv} (h : Good g) : joinF g g = 0 ∨ (joinF g g = 4 ∧ 12 < 2 * (gt g).length) := by
  unfold joinF
  rw [if_neg (by simp [(good_iff g).2 h]), if_neg (by simp [(good_iff g).2 h]), if_neg (by simp)]
  by_cases q : 12 < (gt g).length + (gt g).length
  · rw [if_pos q]; exact .inr ⟨rfl, by omega⟩
  · rw [if_neg q]; exact .inl rfl
theorem each_in {g : Gv} {r : List Int} (h : standF g r = 0) {i : Nat} (hi : i < (gt g).length) : -1000000 ≤ (eachL g r).getD i 0 ∧ (eachL g r).getD i 0 ≤ 1000000 := by
  rw [each_at g r hi, getD_at hi]
  have hr := stand_ready h (List.getElem_mem hi)
  exact lv_in (tree_ok (ready_ok hr).2).1 _ (eval_mem hr)
theorem eval_range {g : Gv} {r : List Int} (h : standF g r = 0) (hw : gw g = 1) : -12000000000 ≤ evalG g r ∧ evalG g r ≤ 12000000000 := by
  obtain ⟨G, _, _⟩ := stand_ok h
  unfold evalG
  rw [if_pos h]
  unfold together
  rw [if_pos hw, each_len]
  have := sum_bound (l := eachL g r) (ws := gs g) (gt g).length fun i hi => ⟨(each_in h hi).1, (each_in h hi).2, (wt_at G hi).1, (wt_at G hi).2⟩
  have := G.t12
  omega
def one7 : Gv := (0, 3, [1], [[(-1, 0, 0, 0, false, 7)]])
theorem one7_stand : standF one7 [] = 0 := by decide +kernel
theorem one7_each : eachV one7 [] = [7] := by decide +kernel
def two7 : Gv := (0, 2, [1, 3], [[(-1, 0, 0, 0, false, 7)], [(-1, 0, 0, 0, false, 7)]])
theorem two7_stand : standF two7 [] = 0 := by decide +kernel
theorem two7_eval : evalG two7 [] = 7 := by decide +kernel
end Go.Proofs.YtjjfmepinpmkfaaGreatDoor.M

namespace Go.Proofs.YtjjfmepinpmkfaaGreatDoor
open Go.ChangeShapes Go.WideShapes Go.ChangeAt Go.RowKit Go.Lib
set_option linter.unusedVariables false
theorem infoV : (Tryz.prog.info? 49).map (fun i => (i.zero, i.size, i.bytes)) = some (some (.agg #[.string ⟨#[]⟩, .int .i64 0, .int .i64 0, .int .i64 0]), 4, 40) := by kernel_rfl
def encN (v : M.Vn) : List Value := [.string (byStr v.name), .int .i64 v.num, .int .i64 v.stage, .int .i64 v.share]
def vnCells (xs : List M.Vn) : List Value := xs.flatMap encN
theorem vnCells_cons (u : M.Vn) (t : List M.Vn) : vnCells (u :: t) = .string (byStr u.name) :: .int .i64 u.num :: .int .i64 u.stage :: .int .i64 u.share :: vnCells t := rfl
theorem vnCells_app (a b : List M.Vn) : vnCells (a ++ b) = vnCells a ++ vnCells b := by unfold vnCells; rw [List.flatMap_append]
theorem vnCells_len (ts : List M.Vn) : (vnCells ts).length = ts.length * 4 := by
  induction ts with
  | nil => rfl
  | cons x t ih => rw [vnCells_cons]; simp only [List.length_cons, ih]; omega
theorem vnCells_one (ts : List M.Vn) : ∀ v ∈ vnCells ts, v.oneCell' = true := by
  intro v hv
  simp only [vnCells, List.mem_flatMap] at hv
  obtain ⟨s, _, hs⟩ := hv
  simp only [encN, List.mem_cons, List.not_mem_nil, or_false] at hs
  rcases hs with rfl | rfl | rfl | rfl <;> rfl
def M.vAtL (l : List M.Vn) (i : Nat) : M.Vn := l.getD i M.vn0
theorem vAtL_in (l : List M.Vn) {i : Nat} (h : i < l.length) : M.vAtL l i = l[i] := by simp [M.vAtL, List.getD, h]
theorem vnCells_at : ∀ (ts : List M.Vn) (i : Nat), i < ts.length → (vnCells ts)[i * 4]? = some (.string (byStr (M.vAtL ts i).name)) ∧ (vnCells ts)[i * 4 + 1]? = some (.int .i64 (M.vAtL ts i).num) ∧ (vnCells ts)[i * 4 + 2]? = some (.int .i64 (M.vAtL ts i).stage) ∧ (vnCells ts)[i * 4 + 3]? = some (.int .i64 (M.vAtL ts i).share)
  | [], i, h => by simp at h
  | s :: t, 0, h => ⟨rfl, rfl, rfl, rfl⟩
  | s :: t, i + 1, h => by
    have := vnCells_at t i (by simpa using h)
    have e : M.vAtL (s :: t) (i + 1) = M.vAtL t i := by simp [M.vAtL]
    rw [vnCells_cons, e, show (i + 1) * 4 = i * 4 + 1 + 1 + 1 + 1 by omega]
    simpa using this
/-- versions, where they lie -/
def FourAt (w : World) (b off : Nat) (u : M.Vn) : Prop := w.cell? ⟨b, off, none⟩ = some (.string (byStr u.name)) ∧ w.cell? ⟨b, off + 1, none⟩ = some (.int .i64 u.num) ∧ w.cell? ⟨b, off + 2, none⟩ = some (.int .i64 u.stage) ∧ w.cell? ⟨b, off + 3, none⟩ = some (.int .i64 u.share)
def RdV (w : World) (a : Option Addr) (xs : List M.Vn) : Prop :=
  xs.length ≤ maxLen ∧ (xs ≠ [] → ∃ b off, a = some ⟨b, off, none⟩ ∧ b < w.heap.size ∧ ∀ i, i < xs.length → FourAt w b (off + i * 4) (M.vAtL xs i))
theorem RdV.below {w w' : World} {a : Option Addr} {xs : List M.Vn} (h : RdV w a xs) (hb : Below w.heap.size w w') : RdV w' a xs :=
  ⟨h.1, fun hn => by
    obtain ⟨b, off, e, hl, hc⟩ := h.2 hn
    exact ⟨b, off, e, Nat.lt_of_lt_of_le hl hb.size, fun i hi => ⟨(hb.cell (p := ⟨b, off + i * 4, none⟩) hl).trans (hc i hi).1, (hb.cell (p := ⟨b, off + i * 4 + 1, none⟩) hl).trans (hc i hi).2.1, (hb.cell (p := ⟨b, off + i * 4 + 2, none⟩) hl).trans (hc i hi).2.2.1, (hb.cell (p := ⟨b, off + i * 4 + 3, none⟩) hl).trans (hc i hi).2.2.2⟩⟩⟩
/-- versions stay while their block does -/
theorem RdV.keep {w w' : World} {a : Option Addr} {xs : List M.Vn} (h : RdV w a xs) (hz : w.heap.size ≤ w'.heap.size) (hk : ∀ p, a = some p → w'.heap[p.block]? = w.heap[p.block]?) : RdV w' a xs :=
  ⟨h.1, fun hn => by
    obtain ⟨b, off, e, hl, hc⟩ := h.2 hn
    have hb : w'.heap[b]? = w.heap[b]? := hk _ e
    have k : ∀ j v, w.cell? ⟨b, j, none⟩ = some v → w'.cell? ⟨b, j, none⟩ = some v := fun j v hv => (World.cell?_of_block (a := ⟨b, j, none⟩) hb).trans hv
    exact ⟨b, off, e, Nat.lt_of_lt_of_le hl hz, fun i hi => ⟨k _ _ (hc i hi).1, k _ _ (hc i hi).2.1, k _ _ (hc i hi).2.2.1, k _ _ (hc i hi).2.2.2⟩⟩⟩
theorem own_rdV {w : World} {base n : Nat} {v : Value} {xs : List M.Vn} (hn : xs.length = n) (hm : n ≤ maxLen) (h : w.ownsRow base 49 4 v n (vnCells xs)) : ∃ a cap, v = .slice a n cap ∧ RdV w a xs ∧ (∀ p, a = some p → base ≤ p.block) := by
  subst hn
  rcases h.2 with ⟨hv, h0⟩ | ⟨g, cap, cur, hv, hb, hg, h1, h2, h3, h4⟩
  · have e : xs = [] := List.length_eq_zero_iff.1 h0
    subst e
    exact ⟨none, 0, hv, ⟨Nat.zero_le _, fun h => absurd rfl h⟩, (fun p hp => by cases hp)⟩
  · subst hv
    refine ⟨_, cap, rfl, ⟨hm, fun _ => ⟨g, 0, rfl, (Array.getElem?_eq_some_iff.1 hg).1, fun i hi => ?_⟩⟩, (fun p hp => by cases hp; exact hb)⟩
    obtain ⟨q0, q1, q2, q3⟩ := vnCells_at xs i hi
    rw [Nat.zero_add]
    exact ⟨(h.cellAt (i * 4) (by omega)).trans q0, (h.cellAt (i * 4 + 1) (by omega)).trans q1, (h.cellAt (i * 4 + 2) (by omega)).trans q2, (h.cellAt (i * 4 + 3) (by omega)).trans q3⟩

theorem wpList_append_vn {w : World} {ops : Array Oper} {rest : List Oper} {o : Oper} {act : Act} {Q : Exit → Act → World → Prop} (hgd : o.guard = none) (s x : Operand)
    (ho : o.op = .call { callee := .builtin .append, args := #[s, x], argTypes := #[43, 43] })
    (base : Nat) (v : Value) (n : Nat) (zs : List M.Vn) (hs : act.eval s = v) (hown : w.ownsRow base 49 4 v n (vnCells zs))
    (a : Option Addr) (ys : List M.Vn) (m cap : Nat) (hm : ys.length = m) (hx : act.eval x = .slice a m cap) (hr : ys ≠ [] → ∃ ad, a = some ad ∧ ∀ j u, (vnCells ys)[j]? = some u → w.cell? (ad.add j) = some u) (hnil : a = none → cap = 0) (hlen : n + ys.length ≤ 1000000) (hbase : base ≤ w.heap.size)
    (h : ∀ va vc w', w'.ownsRow base 49 4 (.slice va (n + m) vc) (n + m) (vnCells (zs ++ ys)) → Below base w w' → w.grownBy w' v.ownBlock → wpList Tryz.prog ops Q rest (act.put o.dst (.slice va (n + m) vc)) w') : wpList Tryz.prog ops Q (o :: rest) act w := by
  subst hm
  obtain ⟨i0, hi, hz0, hz1, hz2⟩ := info_parts infoV
  cases a with
  | none =>
    have e : ys = [] := by
      by_cases hy : ys = []
      · exact hy
      · obtain ⟨ad, e, _⟩ := hr hy; cases e
    subst e
    have hc := hnil rfl
    subst hc
    refine wpList_append_own_none hgd s x 43 ho base 49 i0 4 Tryz.underlying43 hi v n (vnCells zs) hs hown hx ?_
    obtain ⟨va, vc, e⟩ : ∃ va vc, v = .slice va n vc := by
      rcases hown.2 with ⟨hv, h0⟩ | ⟨g, cap, cur, hv, _⟩
      · exact ⟨none, 0, by rw [hv, h0]⟩
      · exact ⟨some ⟨g, 0, none⟩, cap, hv⟩
    subst e
    have := h va vc w (by simpa using hown) (Below.refl _ _) ⟨rfl, rfl, rfl, Nat.le_refl _, fun _ _ _ => rfl⟩
    simpa using this
  | some ad =>
    have hnews : ∀ j u, (vnCells ys)[j]? = some u → w.cell? (ad.add j) = some u := by
      by_cases hy : ys = []
      · subst hy; intro j u hj; simp [vnCells] at hj
      · obtain ⟨ad', e, hc⟩ := hr hy
        cases e
        exact hc
    refine wpList_append_own _ hgd s x 43 ho base 49 i0 (.agg #[.string ⟨#[]⟩, .int .i64 0, .int .i64 0, .int .i64 0]) 4 40 Tryz.underlying43 hi hz0 hz1 hz2 rfl (by decide) v n (vnCells zs) hs hown ad ys.length cap (vnCells ys) hx (vnCells_len ys) hnews (vnCells_one ys) (by unfold maxLen; omega) (by omega) hbase ?_
    intro v' w' hown' hgrow _
    obtain ⟨va, vc, e⟩ : ∃ va vc, v' = .slice va (n + ys.length) vc := by
      rcases hown'.2 with ⟨hv, h0⟩ | ⟨g, cap, cur, hv, _⟩
      · exact ⟨none, 0, by rw [hv, h0]⟩
      · exact ⟨some ⟨g, 0, none⟩, cap, hv⟩
    subst e
    exact h va vc w' (by rw [vnCells_app]; exact hown') ((Below.refl _ w).grown hgrow hbase (fun k hk => (hown.lt k hk).1)) hgrow
theorem isleaf_any (n : M.Nd) (w : World) : Calls Tryz.prog 125 #[ndV n] w fun e w' => e = .returned (.bool (M.leafB n)) ∧ Below w.heap.size w w' := by
  have E : Hid ((M.nf n == -1) = M.leafB n) := by
    unfold Hid M.leafB
    by_cases h : M.nf n = -1
    · rw [decide_eq_true h, beq_iff_eq]; exact h
    · rw [decide_eq_false h, beq_eq_false_iff_ne]; exact h
  unfold ndV
  generalize M.leafB n = o at *
  generalize M.nf n = f at *
  generalize M.nc n = c at *
  generalize M.nl n = l at *
  generalize M.nr n = r at *
  generalize M.ns n = s at *
  generalize M.nv n = v at *
  go_enter Tryz.func125, Tryz.ntmps125
  go_wp2
  go_ret
  exact ⟨ret_bool E.out, (Below.refl _ _).alloc (Nat.le_refl _) _⟩

theorem iscell_any (x : Int) (w : World) : Calls Tryz.prog 144 #[.int .i64 x] w fun e w' => e = .returned (.bool (!M.outI x)) ∧ w' = w := by
  by_cases h1 : -1000000 ≤ x
  · have E : Hid (decide (x ≤ 1000000) = !M.outI x) := by
      unfold Hid M.outI
      rw [show decide (x < -1000000) = false from decide_eq_false (by omega), Bool.false_or]
      by_cases h2 : x ≤ 1000000
      · simp [h2]
      · simp [h2]; omega
    have h1' : decide (-1000000 ≤ x) = true := decide_eq_true h1
    clear h1
    go_enter Tryz.func144, Tryz.ntmps144
    go_wp2
    go_ret
    exact ⟨ret_bool E.out, rfl⟩
  · have E : Hid (false = !M.outI x) := by
      unfold Hid M.outI
      rw [show decide (x < -1000000) = true from decide_eq_true (by omega)]; rfl
    have h1' : decide (-1000000 ≤ x) = false := decide_eq_false h1
    clear h1
    go_enter Tryz.func144, Tryz.ntmps144
    go_wp2
    go_ret
    exact ⟨ret_bool E.out, rfl⟩

theorem ret_err {c d : Int} (h : c = d) : Ending.returned (errV c) = .returned (errV d) := by rw [h]

theorem checkleaf_any (n : M.Nd) (w : World) : Calls Tryz.prog 140 #[ndV n] w fun e w' => e = .returned (errV (M.lfF n)) ∧ Below w.heap.size w w' := by
  have C := hide (iscell_any (M.nv n))
  have D : Hid (M.lfF n = if M.outI (M.nv n) = true then 1 else if M.nc n ≠ 0 ∨ M.nl n ≠ 0 ∨ M.nr n ≠ 0 ∨ M.ns n = true then 3 else 0) := rfl
  unfold ndV
  generalize M.lfF n = o at *
  generalize M.outI (M.nv n) = z at *
  generalize M.nf n = f at *
  generalize M.nc n = c at *
  generalize M.nl n = l at *
  generalize M.nr n = r at *
  generalize M.ns n = s at *
  generalize M.nv n = v at *
  cases z with
  | true =>
    have E : Hid (o = 1) := D.out.trans (by simp)
    clear D
    go_enter Tryz.func140, Tryz.ntmps140
    go_wp2_with (go_at_call 144; refine (C.out _).mono ?_; rintro e w1 ⟨rfl, rfl⟩)
    go_ret
    exact ⟨by rw [E.out]; rfl, (Below.refl _ _).alloc (Nat.le_refl _) _⟩
  | false =>
    by_cases hc : c = 0
    · have qc : (c != 0) = false := by rw [bne_eq_false_iff_eq]; exact hc
      by_cases hl : l = 0
      · have ql : (l != 0) = false := by rw [bne_eq_false_iff_eq]; exact hl
        by_cases hr : r = 0
        · have qr : (r != 0) = false := by rw [bne_eq_false_iff_eq]; exact hr
          cases s with
          | true =>
            have E : Hid (o = 3) := D.out.trans (by simp [hc, hl, hr])
            clear D hc hl hr
            go_enter Tryz.func140, Tryz.ntmps140
            go_wp2_with (go_at_call 144; refine (C.out _).mono ?_; rintro e w1 ⟨rfl, rfl⟩)
            go_ret
            exact ⟨by rw [E.out]; rfl, (Below.refl _ _).alloc (Nat.le_refl _) _⟩
          | false =>
            have E : Hid (o = 0) := D.out.trans (by simp [hc, hl, hr])
            clear D hc hl hr
            go_enter Tryz.func140, Tryz.ntmps140
            go_wp2_with (go_at_call 144; refine (C.out _).mono ?_; rintro e w1 ⟨rfl, rfl⟩)
            go_ret
            exact ⟨by rw [E.out]; rfl, (Below.refl _ _).alloc (Nat.le_refl _) _⟩
        · have qr : (r != 0) = true := by rw [bne_iff_ne]; exact hr
          have E : Hid (o = 3) := D.out.trans (by simp [hc, hl, hr])
          clear D hc hl hr
          go_enter Tryz.func140, Tryz.ntmps140
          go_wp2_with (go_at_call 144; refine (C.out _).mono ?_; rintro e w1 ⟨rfl, rfl⟩)
          go_ret
          exact ⟨by rw [E.out]; rfl, (Below.refl _ _).alloc (Nat.le_refl _) _⟩
      · have ql : (l != 0) = true := by rw [bne_iff_ne]; exact hl
        have E : Hid (o = 3) := D.out.trans (by simp [hc, hl])
        clear D hc hl
        go_enter Tryz.func140, Tryz.ntmps140
        go_wp2_with (go_at_call 144; refine (C.out _).mono ?_; rintro e w1 ⟨rfl, rfl⟩)
        go_ret
        exact ⟨by rw [E.out]; rfl, (Below.refl _ _).alloc (Nat.le_refl _) _⟩
    · have qc : (c != 0) = true := by rw [bne_iff_ne]; exact hc
      have E : Hid (o = 3) := D.out.trans (by simp [hc])
      clear D hc
      go_enter Tryz.func140, Tryz.ntmps140
      go_wp2_with (go_at_call 144; refine (C.out _).mono ?_; rintro e w1 ⟨rfl, rfl⟩)
      go_ret
      exact ⟨by rw [E.out]; rfl, (Below.refl _ _).alloc (Nat.le_refl _) _⟩

theorem behind_any (bp bl : Nat) (p q x : Int) (w : World) (hp : w.cell? ⟨bp, 0, none⟩ = some (.int .i64 p)) (hq : w.cell? ⟨bl, 0, none⟩ = some (.int .i64 q)) :
    Calls Tryz.prog 145 (#[.int .i64 x] ++ #[.pointer (some ⟨bp, 0, none⟩), .pointer (some ⟨bl, 0, none⟩)]) w fun e w' => e = .returned (.bool (decide (p < x) && decide (x ≤ q))) ∧ w' = w := by
  by_cases h : p < x
  · have E : Hid (decide (x ≤ q) = (decide (p < x) && decide (x ≤ q))) := by unfold Hid; simp [h]
    have h1 : decide (p < x) = true := decide_eq_true h
    clear h
    generalize (decide (p < x) && decide (x ≤ q)) = o at *
    go_enter Tryz.func145, Tryz.ntmps145
    go_wp2
    go_ret
    exact ⟨ret_bool E.out, rfl⟩
  · have E : Hid (false = (decide (p < x) && decide (x ≤ q))) := by unfold Hid; simp [h]
    have h1 : decide (p < x) = false := decide_eq_false h
    clear h
    generalize (decide (p < x) && decide (x ≤ q)) = o at *
    go_enter Tryz.func145, Tryz.ntmps145
    go_wp2
    go_ret
    exact ⟨ret_bool E.out, rfl⟩

theorem behind_is {p q x : Int} {i len : Nat} (hp : p = i) (hq : q = (len : Int) - 1) : (decide (p < x) && decide (x ≤ q)) = M.inB x i len := by
  subst hp; subst hq
  unfold M.inB
  congr 1
  exact decide_eq_decide.2 ⟨fun h => by omega, fun h => by omega⟩

set_option maxHeartbeats 8000000 in
theorem checkask_any (n : M.Nd) (i len : Nat) (p q m : Int) (w : World) (hp : p = i) (hq : q = (len : Int) - 1) :
    Calls Tryz.prog 141 #[ndV n, .int .i64 p, .int .i64 q, .int .i64 m] w fun e w' => e = .returned (errV (M.asF n i len m)) ∧ Below w.heap.size w w' := by
  have C := hide (iscell_any (M.nc n))
  have CB : Hid (∀ x bp bl W, W.cell? ⟨bp, 0, none⟩ = some (.int .i64 p) → W.cell? ⟨bl, 0, none⟩ = some (.int .i64 q) → Calls Tryz.prog 145 (#[.int .i64 x] ++ #[.pointer (some ⟨bp, 0, none⟩), .pointer (some ⟨bl, 0, none⟩)]) W fun e w' => e = .returned (.bool (M.inB x i len)) ∧ w' = W) :=
    fun x bp bl W h1 h2 => by rw [← behind_is hp hq]; exact behind_any bp bl p q _ W h1 h2
  have QP : Hid (∀ o : Obj, (((w.alloc o).alloc (.cells #[.int .i64 p] 3)).alloc (.cells #[.int .i64 q] 3)).cell? ⟨w.heap.size + 1, 0, none⟩ = some (.int .i64 p)) := fun o => by
    rw [World.cell?_alloc_past _ _ _ (by simp), World.cell?_alloc_at _ _ _ _ (by simp)]; rfl
  have QQ : Hid (∀ o : Obj, (((w.alloc o).alloc (.cells #[.int .i64 p] 3)).alloc (.cells #[.int .i64 q] 3)).cell? ⟨w.heap.size + 1 + 1, 0, none⟩ = some (.int .i64 q)) := fun o => by
    rw [World.cell?_alloc_at _ _ _ _ (by simp)]; rfl
  have D : Hid (M.asF n i len m = if M.nf n < 0 ∨ m ≤ M.nf n ∨ M.outI (M.nc n) = true ∨ M.inB (M.nl n) i len = false ∨ M.inB (M.nr n) i len = false then 1 else if M.nv n ≠ 0 ∨ M.nl n = M.nr n then 3 else 0) := rfl
  clear hp hq
  unfold ndV
  generalize M.asF n i len m = o at *
  generalize M.outI (M.nc n) = zc at *
  generalize M.nf n = f at *
  generalize M.nc n = c at *
  generalize M.nl n = l at *
  generalize M.nr n = r at *
  generalize M.ns n = s at *
  generalize M.nv n = v at *
  by_cases h1 : f < 0
  · have q1 : decide (f < 0) = true := decide_eq_true h1
    have E : Hid (o = 1) := D.out.trans (by simp [h1])
    clear D h1
    go_enter Tryz.func141, Tryz.ntmps141
    go_wp2_with (first
      | (go_at_call 144; refine (C.out _).mono ?_; rintro e w1 ⟨rfl, rfl⟩)
      | (go_at_call 145; refine (CB.out _ _ _ _ (QP.out _) (QQ.out _)).mono ?_; rintro e w1 ⟨rfl, rfl⟩))
    go_ret
    exact ⟨by rw [E.out]; rfl, (((Below.refl _ w).alloc (Nat.le_refl _) _).alloc (by simp) _).alloc (by simp; omega) _⟩
  · have q1 : decide (f < 0) = false := decide_eq_false h1
    by_cases h2 : m ≤ f
    · have q2 : decide (m ≤ f) = true := decide_eq_true h2
      have E : Hid (o = 1) := D.out.trans (by simp [h1, h2])
      clear D h1 h2
      go_enter Tryz.func141, Tryz.ntmps141
      go_wp2_with (first
        | (go_at_call 144; refine (C.out _).mono ?_; rintro e w1 ⟨rfl, rfl⟩)
        | (go_at_call 145; refine (CB.out _ _ _ _ (QP.out _) (QQ.out _)).mono ?_; rintro e w1 ⟨rfl, rfl⟩))
      go_ret
      exact ⟨by rw [E.out]; rfl, (((Below.refl _ w).alloc (Nat.le_refl _) _).alloc (by simp) _).alloc (by simp; omega) _⟩
    · have q2 : decide (m ≤ f) = false := decide_eq_false h2
      cases zc with
      | true =>
        have E : Hid (o = 1) := D.out.trans (by simp [h1, h2])
        clear D h1 h2
        go_enter Tryz.func141, Tryz.ntmps141
        go_wp2_with (first
          | (go_at_call 144; refine (C.out _).mono ?_; rintro e w1 ⟨rfl, rfl⟩)
          | (go_at_call 145; refine (CB.out _ _ _ _ (QP.out _) (QQ.out _)).mono ?_; rintro e w1 ⟨rfl, rfl⟩))
        go_ret
        exact ⟨by rw [E.out]; rfl, (((Below.refl _ w).alloc (Nat.le_refl _) _).alloc (by simp) _).alloc (by simp; omega) _⟩
      | false =>
        cases zl : M.inB l i len with
        | false =>
          have E : Hid (o = 1) := D.out.trans (by simp [h1, h2, zl])
          clear D h1 h2
          go_enter Tryz.func141, Tryz.ntmps141
          go_wp2_with (first
            | (go_at_call 144; refine (C.out _).mono ?_; rintro e w1 ⟨rfl, rfl⟩)
            | (go_at_call 145; refine (CB.out _ _ _ _ (QP.out _) (QQ.out _)).mono ?_; rintro e w1 ⟨rfl, rfl⟩))
          go_ret
          exact ⟨by rw [E.out]; rfl, (((Below.refl _ w).alloc (Nat.le_refl _) _).alloc (by simp) _).alloc (by simp; omega) _⟩
        | true =>
          cases zr : M.inB r i len with
          | false =>
            have E : Hid (o = 1) := D.out.trans (by simp [h1, h2, zl, zr])
            clear D h1 h2
            go_enter Tryz.func141, Tryz.ntmps141
            go_wp2_with (first
              | (go_at_call 144; refine (C.out _).mono ?_; rintro e w1 ⟨rfl, rfl⟩)
              | (go_at_call 145; refine (CB.out _ _ _ _ (QP.out _) (QQ.out _)).mono ?_; rintro e w1 ⟨rfl, rfl⟩))
            go_ret
            exact ⟨by rw [E.out]; rfl, (((Below.refl _ w).alloc (Nat.le_refl _) _).alloc (by simp) _).alloc (by simp; omega) _⟩
          | true =>
            by_cases h3 : v = 0
            · have q3 : (v != 0) = false := by rw [bne_eq_false_iff_eq]; exact h3
              by_cases h4 : l = r
              · have q4 : (l == r) = true := by rw [beq_iff_eq]; exact h4
                have E : Hid (o = 3) := D.out.trans (by simp [h1, h2, h3, h4, zr])
                clear D h1 h2 h3 h4
                go_enter Tryz.func141, Tryz.ntmps141
                go_wp2_with (first
                  | (go_at_call 144; refine (C.out _).mono ?_; rintro e w1 ⟨rfl, rfl⟩)
                  | (go_at_call 145; refine (CB.out _ _ _ _ (QP.out _) (QQ.out _)).mono ?_; rintro e w1 ⟨rfl, rfl⟩))
                go_ret
                exact ⟨by rw [E.out]; rfl, (((Below.refl _ w).alloc (Nat.le_refl _) _).alloc (by simp) _).alloc (by simp; omega) _⟩
              · have q4 : (l == r) = false := by rw [beq_eq_false_iff_ne]; exact h4
                have E : Hid (o = 0) := D.out.trans (by simp [h1, h2, h3, h4, zl, zr])
                clear D h1 h2 h3 h4
                go_enter Tryz.func141, Tryz.ntmps141
                go_wp2_with (first
                  | (go_at_call 144; refine (C.out _).mono ?_; rintro e w1 ⟨rfl, rfl⟩)
                  | (go_at_call 145; refine (CB.out _ _ _ _ (QP.out _) (QQ.out _)).mono ?_; rintro e w1 ⟨rfl, rfl⟩))
                go_ret
                exact ⟨by rw [E.out]; rfl, (((Below.refl _ w).alloc (Nat.le_refl _) _).alloc (by simp) _).alloc (by simp; omega) _⟩
            · have q3 : (v != 0) = true := by rw [bne_iff_ne]; exact h3
              have E : Hid (o = 3) := D.out.trans (by simp [h1, h2, h3, zl, zr])
              clear D h1 h2 h3
              go_enter Tryz.func141, Tryz.ntmps141
              go_wp2_with (first
                | (go_at_call 144; refine (C.out _).mono ?_; rintro e w1 ⟨rfl, rfl⟩)
                | (go_at_call 145; refine (CB.out _ _ _ _ (QP.out _) (QQ.out _)).mono ?_; rintro e w1 ⟨rfl, rfl⟩))
              go_ret
              exact ⟨by rw [E.out]; rfl, (((Below.refl _ w).alloc (Nat.le_refl _) _).alloc (by simp) _).alloc (by simp; omega) _⟩

theorem checknode_any (n : M.Nd) (i len : Nat) (p q m : Int) (w : World) (hp : p = i) (hq : q = (len : Int) - 1) :
    Calls Tryz.prog 135 #[ndV n, .int .i64 p, .int .i64 q, .int .i64 m] w fun e w' => e = .returned (errV (M.nodeF n i len m)) ∧ Below w.heap.size w w' := by
  have C1 := hide (isleaf_any n)
  have C2 := hide (checkleaf_any n)
  have C3 := hide (fun W => checkask_any n i len p q m W hp hq)
  clear hp hq
  by_cases h : M.nf n = -1
  · have E : Hid (M.lfF n = M.nodeF n i len m) := by unfold Hid M.nodeF; rw [if_pos h]
    have hl : M.leafB n = true := by unfold M.leafB; exact decide_eq_true h
    rw [hl] at C1
    clear h hl C3
    unfold ndV at *
    generalize M.nodeF n i len m = o at *
    generalize M.lfF n = u at *
    generalize M.nf n = f at *
    generalize M.nc n = c at *
    generalize M.nl n = l at *
    generalize M.nr n = r at *
    generalize M.ns n = s at *
    generalize M.nv n = v at *
    go_enter Tryz.func135, Tryz.ntmps135
    go_wp2_with (first
      | (go_at_call 125; refine (C1.out _).mono ?_; rintro e w1 ⟨rfl, hb1⟩; have hcell : ∀ k, w1.cell? ⟨w.heap.size, k, none⟩ = _ := fun k => hb1.cell (p := ⟨w.heap.size, k, none⟩) (by simp))
      | (go_at_call 140; refine (C2.out _).mono ?_; rintro e w2 ⟨rfl, hb2⟩))
    go_ret
    exact ⟨ret_err E.out, below_on (below_on ((Below.refl _ w).alloc (Nat.le_refl _) _) hb1) hb2⟩
  · have E : Hid (M.asF n i len m = M.nodeF n i len m) := by unfold Hid M.nodeF; rw [if_neg h]
    have hl : M.leafB n = false := by unfold M.leafB; exact decide_eq_false h
    rw [hl] at C1
    clear h hl C2
    unfold ndV at *
    generalize M.nodeF n i len m = o at *
    generalize M.asF n i len m = u at *
    generalize M.nf n = f at *
    generalize M.nc n = c at *
    generalize M.nl n = l at *
    generalize M.nr n = r at *
    generalize M.ns n = s at *
    generalize M.nv n = v at *
    go_enter Tryz.func135, Tryz.ntmps135
    go_wp2_with (first
      | (go_at_call 125; refine (C1.out _).mono ?_; rintro e w1 ⟨rfl, hb1⟩; have hcell : ∀ k, w1.cell? ⟨w.heap.size, k, none⟩ = _ := fun k => hb1.cell (p := ⟨w.heap.size, k, none⟩) (by simp))
      | (go_at_call 141; refine (C3.out _).mono ?_; rintro e w2 ⟨rfl, hb2⟩))
    go_ret
    exact ⟨ret_err E.out, below_on (below_on ((Below.refl _ w).alloc (Nat.le_refl _) _) hb1) hb2⟩
end Go.Proofs.YtjjfmepinpmkfaaGreatDoor
