/-
  Several texts as one: Math, MathL, MathS, MathCa.
-/

namespace Go.Proofs.YtiggkjkjfnlfkaaGreatDoor.M
set_option linter.unusedVariables false
/-- a number, or the end that it is beyond -/
def fitI (n : Int) : Int := if 1099511627776 < n then 1099511627776 else if n < -1099511627776 then -1099511627776 else n

theorem fit_le (n : Int) : -1099511627776 ≤ fitI n ∧ fitI n ≤ 1099511627776 := by
  unfold fitI; split
  · omega
  · split <;> omega

theorem fit_id {n : Int} (h : -1099511627776 ≤ n ∧ n ≤ 1099511627776) : fitI n = n := by
  unfold fitI; rw [if_neg (by omega), if_neg (by omega)]

theorem fit_fit (n : Int) : fitI (fitI n) = fitI n := fit_id (fit_le n)

theorem fit_neg (n : Int) : fitI (-n) = - fitI n := by
  unfold fitI
  by_cases h1 : 1099511627776 < n
  · rw [if_neg (by omega), if_pos (by omega), if_pos h1]
  · by_cases h2 : n < -1099511627776
    · rw [if_pos (by omega), if_neg h1, if_pos h2]; rfl
    · rw [if_neg (by omega), if_neg (by omega), if_neg h1, if_neg h2]

def addI (a b : Int) : Int := fitI (fitI a + fitI b)
def mulI (a b : Int) : Int := fitI (fitI a * fitI b)
def totalI (l : List Int) : Int := l.foldl addI 0
def firstI (l : List Int) : List Int := (l.take 1000).map fitI
def meanI (l : List Int) : Int := if firstI l = [] then 0 else (firstI l).sum / ((firstI l).length : Int)
def sortI (l : List Int) : List Int := l.mergeSort fun x y => decide (x ≤ y)
def midI (l : List Int) : Int := (sortI (firstI l)).getD ((firstI l).length / 2) 0
/-- the fraction x over y, y above 0, the greater one of two that are as near -/
def nearI (x y : Int) : Int := (2 * x + y) / (2 * y)
def roundI (a b : Int) : Int :=
  if fitI b = 0 then 0 else if fitI b < 0 then nearI (- fitI a) (- fitI b) else nearI (fitI a) (fitI b)

/-- Go's division goes towards 0: one less where something is left below 0 -/
theorem down_eq (a b : Int) (hb : 0 < b) : (if a.tmod b < 0 then a.tdiv b - 1 else a.tdiv b) = a / b := by
  have h1 : a.tdiv b * b + a.tmod b = a := by rw [Int.mul_comm]; exact Int.mul_tdiv_add_tmod a b
  have h2 : a.tmod b < b := Int.tmod_lt_of_pos a hb
  have h3 : -b < a.tmod b := by
    have := Int.lt_tmod_of_pos a hb; omega
  by_cases h : a.tmod b < 0
  · rw [if_pos h]
    symm
    rw [Int.ediv_eq_iff_of_pos hb]
    constructor
    · rw [Int.sub_mul]; omega
    · rw [Int.sub_mul]; omega
  · rw [if_neg h]
    symm
    rw [Int.ediv_eq_iff_of_pos hb]
    constructor
    · omega
    · omega

/-- the reference's own floor -/
theorem floor_eq (a b : Int) (hb : 0 < b) : (if a < 0 then -((b - 1 - a) / b) else a / b) = a / b := by
  by_cases h : a < 0
  · rw [if_pos h]
    have k1 := Int.mul_ediv_add_emod (b - 1 - a) b
    have k2 := Int.emod_nonneg (b - 1 - a) (by omega : b ≠ 0)
    have k3 := Int.emod_lt_of_pos (b - 1 - a) hb
    symm
    rw [Int.ediv_eq_iff_of_pos hb, Int.neg_mul, Int.mul_comm]
    omega
  · rw [if_neg h]

/-- the nearer one by what is left -/
theorem near_eq (x y : Int) (hy : 0 < y) : (if y ≤ 2 * (x - x / y * y) then x / y + 1 else x / y) = nearI x y := by
  unfold nearI
  have k1 := Int.mul_ediv_add_emod x y
  have k2 := Int.emod_nonneg x (by omega : y ≠ 0)
  have k3 := Int.emod_lt_of_pos x hy
  rw [Int.mul_comm] at k1
  symm
  rw [Int.ediv_eq_iff_of_pos (by omega)]
  have e : ∀ q : Int, q * (2 * y) = 2 * (q * y) := fun q => by rw [Int.mul_left_comm]
  by_cases h : y ≤ 2 * (x - x / y * y)
  · rw [if_pos h, e, Int.add_mul]; omega
  · rw [if_neg h, e]; omega

/-- a product is bounded ahead of multiplying -/
theorem le_quo (a b : Int) (ha : 0 < a) : b ≤ 1099511627776 / a ↔ a * b ≤ 1099511627776 := by
  rw [Int.le_ediv_iff_mul_le ha, Int.mul_comm]

theorem tdiv_bd (a b m : Int) (hb : 0 < b) (h1 : -m ≤ a) (h2 : a ≤ m) : -m ≤ a.tdiv b ∧ a.tdiv b ≤ m := by
  have k1 : a.tdiv b * b + a.tmod b = a := by rw [Int.mul_comm]; exact Int.mul_tdiv_add_tmod a b
  have k2 := down_eq a b hb
  rcases Int.lt_or_le a 0 with h | h
  · have e : a.tdiv b = -((-a).tdiv b) := by rw [Int.neg_tdiv]; omega
    have := Int.tdiv_nonneg (show 0 ≤ -a by omega) (Int.le_of_lt hb)
    have h3 : (-a).tdiv b ≤ -a := by
      rw [Int.tdiv_eq_ediv_of_nonneg (by omega)]; exact Int.ediv_le_self b (by omega)
    omega
  · rw [Int.tdiv_eq_ediv_of_nonneg h]
    have h3 := Int.ediv_le_self b h
    have h4 : 0 ≤ a / b := Int.ediv_nonneg h (Int.le_of_lt hb)
    omega

theorem ediv_bd (a b m : Int) (hb : 0 < b) (hm : 0 ≤ m) (h1 : -m ≤ a) (h2 : a ≤ m) : -m ≤ a / b ∧ a / b ≤ m := by
  constructor
  · rw [Int.le_ediv_iff_mul_le hb, Int.neg_mul]
    have := Int.mul_le_mul_of_nonneg_left (show (1 : Int) ≤ b by omega) hm
    omega
  · rcases Int.lt_or_le a 0 with h | h
    · have := Int.ediv_neg_of_neg_of_pos h hb; omega
    · have := Int.ediv_le_self b h; omega

theorem left_bd (x y : Int) (hy : 0 < y) : x - y < x / y * y ∧ x / y * y ≤ x := by
  have k1 := Int.mul_ediv_add_emod x y
  have k2 := Int.emod_nonneg x (by omega : y ≠ 0)
  have k3 := Int.emod_lt_of_pos x hy
  rw [Int.mul_comm] at k1
  omega

theorem quo_pp {x y : Int} (hx : 0 < x) : (y ≤ 1099511627776 / x) = (x * y ≤ 1099511627776) := by
  rw [Int.le_ediv_iff_mul_le hx, Int.mul_comm]
theorem quo_pn {x y : Int} (hx : 0 < x) : (-y ≤ 1099511627776 / x) = (-1099511627776 ≤ x * y) := by
  rw [Int.le_ediv_iff_mul_le hx, Int.neg_mul, Int.mul_comm, eq_iff_iff]; omega
theorem quo_np {x y : Int} (hx : x < 0) : (y ≤ 1099511627776 / -x) = (-1099511627776 ≤ x * y) := by
  rw [Int.le_ediv_iff_mul_le (by omega), Int.mul_neg, Int.mul_comm, eq_iff_iff]; omega
theorem quo_nn {x y : Int} (hx : x < 0) : (-y ≤ 1099511627776 / -x) = (x * y ≤ 1099511627776) := by
  rw [Int.le_ediv_iff_mul_le (by omega), Int.mul_neg, Int.neg_mul, Int.neg_neg, Int.mul_comm]

theorem tneg {y : Int} (hy : y < 0) : Int.tdiv 1099511627776 y = -(1099511627776 / -y) := by
  have e : y = -(-y) := by omega
  rw [e, Int.tdiv_neg, Int.neg_neg, Int.tdiv_eq_ediv_of_nonneg (by omega)]
theorem tneg_bd {y : Int} (hy : y < 0) : -1099511627776 ≤ Int.tdiv 1099511627776 y ∧ Int.tdiv 1099511627776 y ≤ 0 := by
  rw [tneg hy]
  obtain ⟨h1, h2⟩ := ediv_bd 1099511627776 (-y) 1099511627776 (by omega) (by omega) (by omega) (by omega)
  have h3 : 0 ≤ 1099511627776 / -y := Int.ediv_nonneg (by omega) (by omega)
  omega

theorem sg_pp {x y : Int} (hx : 0 ≤ x) (hy : 0 ≤ y) : 0 ≤ x * y := Int.mul_nonneg hx hy
theorem sg_nn {x y : Int} (hx : x ≤ 0) (hy : y ≤ 0) : 0 ≤ x * y := Int.mul_nonneg_of_nonpos_of_nonpos hx hy
theorem sg_pn {x y : Int} (hx : 0 ≤ x) (hy : y ≤ 0) : x * y ≤ 0 := Int.mul_nonpos_of_nonneg_of_nonpos hx hy
theorem sg_np {x y : Int} (hx : x ≤ 0) (hy : 0 ≤ y) : x * y ≤ 0 := Int.mul_nonpos_of_nonpos_of_nonneg hx hy

theorem mul_in {a b : Int} (h1 : -1099511627776 ≤ fitI a * fitI b) (h2 : fitI a * fitI b ≤ 1099511627776) : fitI a * fitI b = mulI a b := (fit_id ⟨h1, h2⟩).symm
theorem mul_hi {a b : Int} (h : 1099511627776 < fitI a * fitI b) : 1099511627776 = mulI a b := by
  unfold mulI; rw [fitI]; rw [if_pos h]
theorem mul_lo {a b : Int} (h : fitI a * fitI b < -1099511627776) : -1099511627776 = mulI a b := by
  unfold mulI; rw [fitI]; rw [if_neg (by omega), if_pos h]
theorem mul_zl {a b : Int} (h : fitI a = 0) : 0 = mulI a b := by unfold mulI; rw [h, Int.zero_mul]; rfl
theorem mul_zr {a b : Int} (h : fitI b = 0) : 0 = mulI a b := by unfold mulI; rw [h, Int.mul_zero]; rfl
theorem first_len (l : List Int) : (firstI l).length = min 1000 l.length := by unfold firstI; rw [List.length_map, List.length_take]
theorem first_at (l : List Int) (k : Nat) (h : k < (firstI l).length) (h' : k < l.length) : (firstI l)[k] = fitI l[k] := by unfold firstI; simp
theorem first_bd (l : List Int) : ∀ x ∈ firstI l, -1099511627776 ≤ x ∧ x ≤ 1099511627776 := by
  intro x hx; unfold firstI at hx; rw [List.mem_map] at hx; obtain ⟨y, _, rfl⟩ := hx; exact fit_le y

/-- a row that is filled from its head -/
def fillI (F : List Int) (k : Nat) : List Int := F.take k ++ List.replicate (F.length - k) 0
theorem fill_len (F : List Int) (k : Nat) (h : k ≤ F.length) : (fillI F k).length = F.length := by
  unfold fillI; rw [List.length_append, List.length_take, List.length_replicate]; omega
theorem fill_zero (F : List Int) : fillI F 0 = List.replicate F.length 0 := by unfold fillI; simp
theorem fill_all (F : List Int) : fillI F F.length = F := by unfold fillI; simp
theorem fill_set (F : List Int) (k : Nat) (h : k < F.length) : (fillI F k).set k F[k] = fillI F (k + 1) := by
  unfold fillI
  rw [List.set_append_right _ _ (by rw [List.length_take]; omega), List.length_take, Nat.min_eq_left (by omega), Nat.sub_self,
    List.take_succ_eq_append_getElem h, List.append_assoc]
  have : F.length - k = (F.length - (k + 1)) + 1 := by omega
  rw [this, List.replicate_succ]
  rfl


theorem sum_bd (F : List Int) (h : ∀ x ∈ F, -1099511627776 ≤ x ∧ x ≤ 1099511627776) : -(1099511627776 * (F.length : Int)) ≤ F.sum ∧ F.sum ≤ 1099511627776 * (F.length : Int) := by
  induction F with
  | nil => simp
  | cons x F ih =>
    have h1 := h x (by simp)
    have h2 := ih (fun y hy => h y (by simp [hy]))
    rw [List.sum_cons, List.length_cons]
    omega

theorem sum_succ (F : List Int) (k : Nat) (h : k < F.length) : (F.take k).sum + F[k] = (F.take (k + 1)).sum := by
  rw [List.take_succ_eq_append_getElem h, List.sum_append]; simp

theorem sum_take_bd (l : List Int) (k : Nat) (hk : k ≤ (firstI l).length) : -1099511627776000 ≤ ((firstI l).take k).sum ∧ ((firstI l).take k).sum ≤ 1099511627776000 := by
  have h := sum_bd ((firstI l).take k) (fun x hx => first_bd l x (List.mem_of_mem_take hx))
  have h2 := first_len l
  rw [List.length_take] at h
  omega

theorem mean_zero {l : List Int} (h : l = []) : 0 = meanI l := by subst h; rfl
theorem mean_some {l : List Int} (h : l ≠ []) : (firstI l).sum / ((firstI l).length : Int) = meanI l := by
  unfold meanI
  rw [if_neg]
  unfold firstI
  cases l with
  | nil => exact absurd rfl h
  | cons x l => simp
theorem first_pos {l : List Int} (h : l ≠ []) : 0 < (firstI l).length := by
  rw [first_len]
  have := List.length_pos_iff.2 h
  omega
theorem sort_pw (l : List Int) : (sortI l).Pairwise (fun a b => a ≤ b) := by
  have h := List.pairwise_mergeSort (le := fun x y : Int => decide (x ≤ y)) (fun a b c h1 h2 => by simp at *; omega) (fun a b => by simp; omega) l
  exact h.imp (fun h => by simpa using h)
theorem sort_perm (l : List Int) : (sortI l).Perm l := List.mergeSort_perm l _
theorem sort_length (l : List Int) : (sortI l).length = l.length := (sort_perm l).length_eq
theorem sort_unique {l m : List Int} (hp : m.Perm l) (hs : m.Pairwise (fun a b => a ≤ b)) : m = sortI l :=
  List.Perm.eq_of_pairwise (le := fun a b : Int => a ≤ b) (fun a b _ _ h1 h2 => Int.le_antisymm h1 h2) hs (sort_pw l) (hp.trans (sort_perm l).symm)
theorem sort_of_perm {l m : List Int} (hp : m.Perm l) : sortI m = sortI l := sort_unique ((sort_perm m).trans hp) (sort_pw m)

/-- where a number goes in -/
theorem sort_put (l : List Int) (x : Int) (k : Nat) (h1 : ∀ y ∈ (sortI l).take k, y ≤ x) (h2 : ∀ y ∈ (sortI l).drop k, x < y) :
    (sortI l).take k ++ x :: (sortI l).drop k = sortI (l ++ [x]) := by
  refine sort_unique ?_ ?_
  · have e : ((sortI l).take k ++ x :: (sortI l).drop k).Perm (x :: ((sortI l).take k ++ (sortI l).drop k)) := List.perm_middle
    rw [List.take_append_drop] at e
    refine e.trans ?_
    exact ((sort_perm l).cons x).trans (List.perm_append_comm (l₁ := [x]) (l₂ := l))
  · have hp := sort_pw l
    rw [← List.take_append_drop k (sortI l), List.pairwise_append] at hp
    rw [List.pairwise_append, List.pairwise_cons]
    refine ⟨hp.1, ⟨fun y hy => by have := h2 y hy; omega, hp.2.1⟩, fun a ha b hb => ?_⟩
    rcases List.mem_cons.1 hb with rfl | hb
    · exact h1 a ha
    · exact hp.2.2 a ha b hb

/-- what lies ahead of one that is no more is no more -/
theorem sort_low (l : List Int) (x : Int) (k : Nat) (hk : k < (sortI l).length) (h : (sortI l)[k] ≤ x) : ∀ y ∈ (sortI l).take (k + 1), y ≤ x := by
  intro y hy
  rw [List.take_succ_eq_append_getElem hk, List.mem_append] at hy
  rcases hy with hy | hy
  · have hp := sort_pw l
    rw [← List.take_append_drop k (sortI l), List.pairwise_append] at hp
    have := hp.2.2 y hy (sortI l)[k] (by rw [List.mem_iff_getElem]; exact ⟨0, by simp; omega, by simp⟩)
    omega
  · simp at hy; subst hy; exact h

/-- the row while one goes down to its place: the place k is free -/
def gapI (S R : List Int) (c : Int) (k : Nat) : List Int := S.take k ++ c :: S.drop k ++ R
theorem gap_len (S R : List Int) (c : Int) (k : Nat) (h : k ≤ S.length) : (gapI S R c k).length = S.length + 1 + R.length := by
  unfold gapI; simp; omega
theorem gap_set (S R : List Int) (c x : Int) (k : Nat) (h : k ≤ S.length) : (gapI S R c k).set k x = gapI S R x k := by
  unfold gapI
  rw [List.append_assoc, List.append_assoc, List.set_append_right _ _ (by rw [List.length_take]; omega), List.length_take, Nat.min_eq_left h, Nat.sub_self]
  rfl
theorem gap_low (S R : List Int) (c : Int) (k : Nat) (h : k < S.length) : (gapI S R c (k + 1))[k]'(by rw [gap_len _ _ _ _ h]; omega) = S[k] := by
  unfold gapI
  rw [List.getElem_append_left (by simp; omega), List.getElem_append_left (by simp; omega)]
  simp
theorem gap_down (S R : List Int) (k : Nat) (h : k < S.length) : gapI S R S[k] (k + 1) = gapI S R S[k] k := by
  unfold gapI
  rw [List.take_succ_eq_append_getElem h, show S.drop k = S[k] :: S.drop (k + 1) from List.drop_eq_getElem_cons h]
  simp only [List.append_assoc, List.cons_append, List.nil_append]

/-- the row behind so many rounds -/
def rowI (l : List Int) (i : Nat) : List Int := sortI (l.take i) ++ l.drop i
theorem row_len (l : List Int) (i : Nat) (h : i ≤ l.length) : (rowI l i).length = l.length := by
  unfold rowI; rw [List.length_append, sort_length, List.length_take, List.length_drop]; omega
theorem row_one (l : List Int) (h : 0 < l.length) : rowI l 1 = l := by
  unfold rowI
  cases l with
  | nil => simp at h
  | cons x l => simp [sortI]
theorem row_all (l : List Int) (i : Nat) (h : l.length ≤ i) : rowI l i = sortI l := by
  unfold rowI; rw [List.take_of_length_le h, List.drop_of_length_le h, List.append_nil]
theorem row_at (l : List Int) (i : Nat) (h : i < l.length) : (rowI l i)[i]'(by rw [row_len _ _ (by omega)]; exact h) = l[i] := by
  unfold rowI
  rw [List.getElem_append_right (by rw [sort_length, List.length_take]; omega)]
  simp [sort_length, Nat.min_eq_left (Nat.le_of_lt h)]
theorem row_gap (l : List Int) (i : Nat) (h : i < l.length) : rowI l i = gapI (sortI (l.take i)) (l.drop (i + 1)) l[i] i := by
  unfold rowI gapI
  have e : (sortI (l.take i)).length = i := by rw [sort_length, List.length_take]; omega
  rw [List.take_of_length_le (l := sortI (l.take i)) (by omega), List.drop_of_length_le (l := sortI (l.take i)) (by omega), List.drop_eq_getElem_cons h]
  simp
theorem gap_row (l : List Int) (i k : Nat) (h : i < l.length) (h1 : ∀ y ∈ (sortI (l.take i)).take k, y ≤ l[i]) (h2 : ∀ y ∈ (sortI (l.take i)).drop k, l[i] < y) :
    gapI (sortI (l.take i)) (l.drop (i + 1)) l[i] k = rowI l (i + 1) := by
  unfold rowI gapI
  rw [sort_put _ _ _ h1 h2, List.take_succ_eq_append_getElem h]
theorem drop_more {S : List Int} {x : Int} {k : Nat} (hk : k < S.length) (h1 : x < S[k]) (h2 : ∀ y ∈ S.drop (k + 1), x < y) : ∀ y ∈ S.drop k, x < y := by
  intro y hy
  rw [List.drop_eq_getElem_cons hk] at hy
  rcases List.mem_cons.1 hy with rfl | hy
  · exact h1
  · exact h2 y hy
theorem drop_none {S : List Int} {x : Int} {k : Nat} (hk : S.length ≤ k) : ∀ y ∈ S.drop k, x < y := by
  intro y hy; rw [List.drop_of_length_le hk] at hy; simp at hy
/-! ### a number as one that is not below 0 -/
def zz (n : Int) : Nat := if n < 0 then (-(n + 1)).toNat * 2 + 1 else n.toNat * 2
def unz (x : Nat) : Int := if x % 2 = 1 then -((x / 2 : Nat) : Int) - 1 else ((x / 2 : Nat) : Int)
theorem unz_zz (n : Int) : unz (zz n) = n := by
  unfold zz
  split
  · unfold unz
    rw [if_pos (by omega)]
    omega
  · unfold unz
    rw [if_neg (by omega)]
    omega
theorem zz_unz (x : Nat) : zz (unz x) = x := by
  unfold unz
  split
  · unfold zz
    rw [if_pos (by omega)]
    omega
  · unfold zz
    rw [if_neg (by omega)]
    omega
theorem zz_lt {n : Int} (h1 : -9223372036854775808 ≤ n) (h2 : n ≤ 9223372036854775807) : zz n < 18446744073709551616 := by
  unfold zz
  split <;> omega
theorem unz_in {x : Nat} (h : x < 18446744073709551616) : -9223372036854775808 ≤ unz x ∧ unz x ≤ 9223372036854775807 := by
  unfold unz
  split <;> omega

/-! ### seven bits a byte -/
def sevK : Nat → Nat → List Nat
  | 0, x => [x]
  | k + 1, x => if 127 < x then (x % 128 + 128) :: sevK k (x / 128) else [x]
def sev (x : Nat) : List Nat := sevK x x
theorem sevK_is : ∀ (k l x : Nat), x ≤ k → x ≤ l → sevK k x = sevK l x
  | 0, 0, x, _, _ => rfl
  | 0, l + 1, x, h, _ => by show [x] = if 127 < x then _ else [x]; rw [if_neg (by omega)]
  | k + 1, 0, x, _, h => by show (if 127 < x then _ else [x]) = [x]; rw [if_neg (by omega)]
  | k + 1, l + 1, x, h1, h2 => by
    show (if 127 < x then _ else _) = if 127 < x then _ else _
    by_cases q : 127 < x
    · rw [if_pos q, if_pos q, sevK_is k l (x / 128) (by omega) (by omega)]
    · rw [if_neg q, if_neg q]
theorem sev_more {x : Nat} (h : 127 < x) : sev x = (x % 128 + 128) :: sev (x / 128) := by
  obtain ⟨k, rfl⟩ : ∃ k, x = k + 1 := ⟨x - 1, by omega⟩
  show (if 127 < k + 1 then ((k + 1) % 128 + 128) :: sevK k ((k + 1) / 128) else [k + 1]) = _
  rw [if_pos h, sevK_is k ((k + 1) / 128) ((k + 1) / 128) (by omega) (Nat.le_refl _)]
  rfl
theorem sev_last {x : Nat} (h : ¬ 127 < x) : sev x = [x] := by
  unfold sev
  cases x with
  | zero => rfl
  | succ k => show (if 127 < k + 1 then _ else [k + 1]) = _; rw [if_neg h]
theorem sev_ne (x : Nat) : sev x ≠ [] := by
  by_cases h : 127 < x
  · rw [sev_more h]; simp
  · rw [sev_last h]; simp
theorem sev_byte (x : Nat) : ∀ c ∈ sev x, c < 256 := by
  induction x using Nat.strongRecOn with
  | ind x ih =>
    by_cases h : 127 < x
    · rw [sev_more h]
      intro c hc
      rcases List.mem_cons.1 hc with e | e
      · omega
      · exact ih _ (by omega) c e
    · rw [sev_last h]
      intro c hc
      rw [List.mem_singleton] at hc
      omega
theorem sev_len (k : Nat) : ∀ x, x < 128 ^ (k + 1) → (sev x).length ≤ k + 1 := by
  induction k with
  | zero =>
    intro x hx
    rw [sev_last (by omega)]
    exact Nat.le_refl _
  | succ k ih =>
    intro x hx
    by_cases h : 127 < x
    · rw [sev_more h, List.length_cons]
      have := ih (x / 128) (by rw [Nat.div_lt_iff_lt_mul (by omega), ← Nat.pow_succ]; exact hx)
      omega
    · rw [sev_last h]; simp
theorem sev_ten {x : Nat} (h : x < 18446744073709551616) : (sev x).length ≤ 10 := sev_len 9 x (Nat.lt_of_lt_of_le h (by decide))
def numL (n : Int) : List Nat := sev (zz n)
theorem num_len {n : Int} (h1 : -9223372036854775808 ≤ n) (h2 : n ≤ 9223372036854775807) : 1 ≤ (numL n).length ∧ (numL n).length ≤ 10 := by
  refine ⟨?_, sev_ten (zz_lt h1 h2)⟩
  have := sev_ne (zz n)
  exact List.length_pos_iff.2 this

/-! ### read again -/
/-- behind i bytes that said x -/
def gtK : List Nat → Nat → Nat → Int × Nat × Int
  | [], _, _ => (0, 0, 8)
  | c :: r, i, x => if (i = 9 ∧ 1 < c) ∨ (0 < i ∧ c = 0) then (0, 0, 2) else if c < 128 then (unz (x + c % 128 * 128 ^ i), i + 1, 0) else gtK r (i + 1) (x + c % 128 * 128 ^ i)
def getL (b : List Nat) : Int × Nat × Int := gtK b 0 0
theorem gtK_at {b : List Nat} {i x : Nat} (h : i < b.length) : gtK (b.drop i) i x = if (i = 9 ∧ 1 < b.getD i 0) ∨ (0 < i ∧ b.getD i 0 = 0) then ((0 : Int), (0 : Nat), (2 : Int)) else if b.getD i 0 < 128 then (unz (x + b.getD i 0 % 128 * 128 ^ i), i + 1, 0) else gtK (b.drop (i + 1)) (i + 1) (x + b.getD i 0 % 128 * 128 ^ i) := by
  rw [List.drop_eq_getElem_cons h]
  have e : b.getD i 0 = b[i] := by simp [List.getD, h]
  rw [e]
  rfl
theorem pow9 : (128 : Nat) ^ 9 = 9223372036854775808 := by decide
theorem pow_pos7 (i : Nat) : 0 < (128 : Nat) ^ i := Nat.pow_pos (by omega)
/-- what fits into 64 bits stands on ten places at the most -/
theorem place_le {u i : Nat} (hu : 0 < u) (h : u * 128 ^ i < 18446744073709551616) : i ≤ 9 := by
  by_cases q : i ≤ 9
  · exact q
  · exfalso
    have h1 : (128 : Nat) ^ 10 ≤ 128 ^ i := Nat.pow_le_pow_right (by omega) (by omega)
    have h2 : (128 : Nat) ^ 10 = 1180591620717411303424 := by decide
    have h3 : 1 * 128 ^ i ≤ u * 128 ^ i := Nat.mul_le_mul_right _ hu
    omega
theorem last_le {u : Nat} (h : u * 128 ^ 9 < 18446744073709551616) : u ≤ 1 := by
  rw [pow9] at h
  omega
theorem gt_sev : ∀ (u i x : Nat) (r : List Nat), (0 < i → 0 < u) → u * 128 ^ i < 18446744073709551616 → gtK (sev u ++ r) i x = (unz (x + u * 128 ^ i), i + (sev u).length, 0) := by
  intro u
  induction u using Nat.strongRecOn with
  | ind u ih =>
    intro i x r h0 h
    by_cases hu : 127 < u
    · rw [sev_more hu, List.cons_append]
      have i9 : i ≠ 9 := fun e => by
        subst e
        have := last_le h
        omega
      show (if _ then _ else _) = _
      rw [if_neg (by omega), if_neg (by omega)]
      have e1 : (u % 128 + 128) % 128 = u % 128 := by omega
      rw [e1]
      have e2 : (u / 128) * 128 ^ (i + 1) + u % 128 * 128 ^ i = u * 128 ^ i := by
        rw [Nat.pow_succ, show u / 128 * (128 ^ i * 128) = (u / 128 * 128) * 128 ^ i by rw [Nat.mul_comm (128 ^ i) 128, Nat.mul_assoc], ← Nat.add_mul]
        congr 1
        omega
      rw [ih (u / 128) (by omega) (i + 1) _ r (fun _ => by omega) (by omega)]
      rw [List.length_cons]
      refine Prod.ext ?_ (Prod.ext ?_ rfl)
      · show unz _ = unz _
        congr 1
        omega
      · show i + 1 + _ = i + (_ + 1)
        omega
    · rw [sev_last hu]
      show (if _ then _ else _) = _
      have c9 : ¬ ((i = 9 ∧ 1 < u) ∨ (0 < i ∧ u = 0)) := by
        rintro (⟨e, q⟩ | ⟨e, q⟩)
        · subst e
          have := last_le h
          omega
        · have := h0 e
          omega
      rw [if_neg c9, if_pos (by omega)]
      have e1 : u % 128 = u := by omega
      rw [e1]
      rfl
/-- a number is read as it was, whatever stands behind -/
theorem get_num {n : Int} (h1 : -9223372036854775808 ≤ n) (h2 : n ≤ 9223372036854775807) (r : List Nat) : getL (numL n ++ r) = (n, (numL n).length, 0) := by
  unfold getL numL
  rw [gt_sev (zz n) 0 0 r (fun h => by omega) (by rw [Nat.pow_zero, Nat.mul_one]; exact zz_lt h1 h2), Nat.pow_zero, Nat.mul_one, Nat.zero_add, Nat.zero_add, unz_zz]
/-- cut off it does not end -/
theorem gt_cut : ∀ (u i x k : Nat), (0 < i → 0 < u) → u * 128 ^ i < 18446744073709551616 → k < (sev u).length → gtK ((sev u).take k) i x = (0, 0, 8) := by
  intro u
  induction u using Nat.strongRecOn with
  | ind u ih =>
    intro i x k h0 h hk
    cases k with
    | zero => rfl
    | succ k =>
      by_cases hu : 127 < u
      · rw [sev_more hu] at hk ⊢
        have i9 : i ≠ 9 := fun e => by
          subst e
          have := last_le h
          omega
        rw [List.take_succ_cons]
        show (if _ then _ else _) = _
        rw [if_neg (by omega), if_neg (by omega)]
        have e2 : (u / 128) * 128 ^ (i + 1) + u % 128 * 128 ^ i = u * 128 ^ i := by
          rw [Nat.pow_succ, show u / 128 * (128 ^ i * 128) = (u / 128 * 128) * 128 ^ i by rw [Nat.mul_comm (128 ^ i) 128, Nat.mul_assoc], ← Nat.add_mul]
          congr 1
          omega
        exact ih (u / 128) (by omega) (i + 1) _ k (fun _ => by omega) (by omega) (by simpa using hk)
      · rw [sev_last hu] at hk
        simp at hk
theorem get_cut {n : Int} (h1 : -9223372036854775808 ≤ n) (h2 : n ≤ 9223372036854775807) {k : Nat} (hk : k < (numL n).length) : getL ((numL n).take k) = (0, 0, 8) :=
  gt_cut (zz n) 0 0 k (fun h => by omega) (by rw [Nat.pow_zero, Nat.mul_one]; exact zz_lt h1 h2) hk
/-- what is read was written so -/
theorem gt_back : ∀ (b : List Nat) (i x : Nat) (n : Int) (k : Nat), (∀ c ∈ b, c < 256) → i ≤ 9 → gtK b i x = (n, k, 0) → ∃ u, (0 < i → 0 < u) ∧ u * 128 ^ i < 18446744073709551616 ∧ n = unz (x + u * 128 ^ i) ∧ k = i + (sev u).length ∧ b.take (sev u).length = sev u
  | [], i, x, n, k, _, _, h => by
    have : (8 : Int) = 0 := congrArg (fun z => z.2.2) h
    omega
  | c :: r, i, x, n, k, hb, hi, h => by
    have hc := hb c (List.mem_cons_self ..)
    have h' : (if (i = 9 ∧ 1 < c) ∨ (0 < i ∧ c = 0) then ((0 : Int), (0 : Nat), (2 : Int)) else if c < 128 then (unz (x + c % 128 * 128 ^ i), i + 1, 0) else gtK r (i + 1) (x + c % 128 * 128 ^ i)) = (n, k, 0) := h
    by_cases q : (i = 9 ∧ 1 < c) ∨ (0 < i ∧ c = 0)
    · rw [if_pos q] at h'
      have : (2 : Int) = 0 := congrArg (fun z => z.2.2) h'
      omega
    · rw [if_neg q] at h'
      have p9 : (128 : Nat) ^ i ≤ 128 ^ 9 := Nat.pow_le_pow_right (by omega) hi
      rw [pow9] at p9
      by_cases s : c < 128
      · rw [if_pos s] at h'
        have e1 : c % 128 = c := by omega
        rw [e1] at h'
        have en : unz (x + c * 128 ^ i) = n := congrArg (fun z => z.1) h'
        have ek : i + 1 = k := congrArg (fun z => z.2.1) h'
        have dl : sev c = [c] := sev_last (by omega)
        refine ⟨c, fun hi0 => ?_, ?_, en.symm, by rw [dl, ← ek]; rfl, by rw [dl]; rfl⟩
        · by_cases z : c = 0
          · exact absurd (.inr ⟨hi0, z⟩) q
          · omega
        · by_cases i9 : i = 9
          · have c1 : c ≤ 1 := by
              by_cases z : 1 < c
              · exact absurd (.inl ⟨i9, z⟩) q
              · omega
            rw [i9, pow9]
            omega
          · have p8 : (128 : Nat) ^ i ≤ 128 ^ 8 := Nat.pow_le_pow_right (by omega) (by omega)
            have e8 : (128 : Nat) ^ 8 = 72057594037927936 := by decide
            have m1 : c * 128 ^ i ≤ 127 * 128 ^ i := Nat.mul_le_mul_right _ (by omega)
            omega
      · rw [if_neg s] at h'
        have i9 : i ≠ 9 := fun e => q (.inl ⟨e, by omega⟩)
        obtain ⟨u, u1, u2, u3, u4, u5⟩ := gt_back r (i + 1) _ n k (fun d hd => hb d (List.mem_cons_of_mem _ hd)) (by omega) h'
        have up : 0 < u := u1 (by omega)
        have em : c % 128 = c - 128 := by omega
        have du : sev (u * 128 + c % 128) = c :: sev u := by
          rw [sev_more (by omega)]
          congr 1
          · omega
          · congr 1
            omega
        have e2 : (u * 128 + c % 128) * 128 ^ i = u * 128 ^ (i + 1) + c % 128 * 128 ^ i := by
          rw [Nat.pow_succ, Nat.add_mul, Nat.mul_comm (128 ^ i) 128, Nat.mul_assoc]
        refine ⟨u * 128 + c % 128, fun _ => by omega, ?_, ?_, ?_, ?_⟩
        · rw [e2]
          -- both together fit, as what is ahead is less than one place
          have lt1 : c % 128 * 128 ^ i < 128 ^ (i + 1) := by
            rw [Nat.pow_succ, Nat.mul_comm (128 ^ i) 128]
            exact Nat.mul_lt_mul_of_pos_right (by omega) (pow_pos7 i)
          obtain ⟨w, hw⟩ : ∃ w, 9 = (i + 1) + w := ⟨9 - (i + 1), by omega⟩
          have e9 : (18446744073709551616 : Nat) = 128 ^ (i + 1) * (2 * 128 ^ w) := by
            have : (128 : Nat) ^ (i + 1) * 128 ^ w = 128 ^ 9 := by rw [← Nat.pow_add, ← hw]
            rw [Nat.mul_left_comm, this, pow9]
          rw [e9, Nat.mul_comm u] at u2
          have lu : u < 2 * 128 ^ w := Nat.lt_of_mul_lt_mul_left u2
          have : u * 128 ^ (i + 1) + 128 ^ (i + 1) ≤ 128 ^ (i + 1) * (2 * 128 ^ w) := by
            rw [← Nat.succ_mul, Nat.mul_comm]
            exact Nat.mul_le_mul_left _ lu
          omega
        · rw [u3, e2]
          congr 1
          omega
        · rw [du, List.length_cons, u4]; omega
        · rw [du, List.length_cons, List.take_succ_cons, u5]
theorem get_back {b : List Nat} {n : Int} {k : Nat} (hb : ∀ c ∈ b, c < 256) (h : getL b = (n, k, 0)) : -9223372036854775808 ≤ n ∧ n ≤ 9223372036854775807 ∧ k = (numL n).length ∧ b.take k = numL n := by
  obtain ⟨u, _, u2, u3, u4, u5⟩ := gt_back b 0 0 n k hb (by omega) h
  rw [Nat.pow_zero, Nat.mul_one] at u2 u3
  rw [Nat.zero_add] at u3 u4
  have e : numL n = sev u := by unfold numL; rw [u3, zz_unz]
  have := unz_in u2
  rw [← u3] at this
  exact ⟨this.1, this.2, by rw [e]; exact u4, by rw [e, u4]; exact u5⟩

/-! ### numbers one behind the other -/
def I64 (n : Int) : Prop := -9223372036854775808 ≤ n ∧ n ≤ 9223372036854775807
def bysL (l : List Int) : List Nat := l.flatMap numL
theorem bys_app (a b : List Int) : bysL (a ++ b) = bysL a ++ bysL b := by unfold bysL; rw [List.flatMap_append]
theorem bys_cons (n : Int) (l : List Int) : bysL (n :: l) = numL n ++ bysL l := rfl
theorem bys_len : ∀ l : List Int, (∀ x ∈ l, I64 x) → (bysL l).length ≤ 10 * l.length
  | [], _ => Nat.le_refl _
  | n :: l, h => by
    have a := bys_len l fun x hx => h x (List.mem_cons_of_mem _ hx)
    have b := (num_len (h n (List.mem_cons_self ..)).1 (h n (List.mem_cons_self ..)).2).2
    rw [bys_cons, List.length_append]
    show _ ≤ 10 * (l.length + 1)
    omega
theorem bys_byte : ∀ l : List Int, ∀ c ∈ bysL l, c < 256
  | [], c, h => by cases h
  | n :: l, c, h => by
    rw [bys_cons] at h
    rcases List.mem_append.1 h with h | h
    · exact sev_byte _ c h
    · exact bys_byte l c h
end Go.Proofs.YtiggkjkjfnlfkaaGreatDoor.M
