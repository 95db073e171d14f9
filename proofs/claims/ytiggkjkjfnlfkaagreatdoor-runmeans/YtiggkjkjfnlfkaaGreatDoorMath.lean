/-
  Plain mathematics for package fixed: what an end does to a number, and the few facts on division that its walks meet; no condition beyond those named.
-/
namespace Go.Proofs.YtiggkjkjfnlfkaaGreatDoor.M
set_option linter.unusedVariables false

/-- a number, or the end that it is beyond -/
def fitI (n : Int) : Int := if 1099511627776 < n then 1099511627776 else if n < -1099511627776 then -1099511627776 else n

theorem fit_le (n : Int) : -1099511627776 ≤ fitI n ∧ fitI n ≤ 1099511627776 := by
  unfold fitI; split
  · omega
  · split <;> omega

theorem fit_id {n : Int} (h : -1099511627776 ≤ n ∧ n ≤ 1099511627776) : fitI n = n := by
  unfold fitI; rw [if_neg (by omega), if_neg (by omega)]

theorem fit_fit (n : Int) : fitI (fitI n) = fitI n := fit_id (fit_le n)

theorem fit_neg (n : Int) : fitI (-n) = - fitI n := by
  unfold fitI
  by_cases h1 : 1099511627776 < n
  · rw [if_neg (by omega), if_pos (by omega), if_pos h1]
  · by_cases h2 : n < -1099511627776
    · rw [if_pos (by omega), if_neg h1, if_pos h2]; rfl
    · rw [if_neg (by omega), if_neg (by omega), if_neg h1, if_neg h2]

def addI (a b : Int) : Int := fitI (fitI a + fitI b)
def mulI (a b : Int) : Int := fitI (fitI a * fitI b)
def totalI (l : List Int) : Int := l.foldl addI 0
def firstI (l : List Int) : List Int := (l.take 1000).map fitI
def meanI (l : List Int) : Int := if firstI l = [] then 0 else (firstI l).sum / ((firstI l).length : Int)
def sortI (l : List Int) : List Int := l.mergeSort fun x y => decide (x ≤ y)
def midI (l : List Int) : Int := (sortI (firstI l)).getD ((firstI l).length / 2) 0
/-- the fraction x over y, y above 0, the greater one of two that are as near -/
def nearI (x y : Int) : Int := (2 * x + y) / (2 * y)
def roundI (a b : Int) : Int :=
  if fitI b = 0 then 0 else if fitI b < 0 then nearI (- fitI a) (- fitI b) else nearI (fitI a) (fitI b)

/-- Go's division goes towards 0: one less where something is left below 0 -/
theorem down_eq (a b : Int) (hb : 0 < b) : (if a.tmod b < 0 then a.tdiv b - 1 else a.tdiv b) = a / b := by
  have h1 : a.tdiv b * b + a.tmod b = a := by rw [Int.mul_comm]; exact Int.mul_tdiv_add_tmod a b
  have h2 : a.tmod b < b := Int.tmod_lt_of_pos a hb
  have h3 : -b < a.tmod b := by
    have := Int.lt_tmod_of_pos a hb; omega
  by_cases h : a.tmod b < 0
  · rw [if_pos h]
    symm
    rw [Int.ediv_eq_iff_of_pos hb]
    constructor
    · rw [Int.sub_mul]; omega
    · rw [Int.sub_mul]; omega
  · rw [if_neg h]
    symm
    rw [Int.ediv_eq_iff_of_pos hb]
    constructor
    · omega
    · omega

/-- the reference's own floor -/
theorem floor_eq (a b : Int) (hb : 0 < b) : (if a < 0 then -((b - 1 - a) / b) else a / b) = a / b := by
  by_cases h : a < 0
  · rw [if_pos h]
    have k1 := Int.mul_ediv_add_emod (b - 1 - a) b
    have k2 := Int.emod_nonneg (b - 1 - a) (by omega : b ≠ 0)
    have k3 := Int.emod_lt_of_pos (b - 1 - a) hb
    symm
    rw [Int.ediv_eq_iff_of_pos hb, Int.neg_mul, Int.mul_comm]
    omega
  · rw [if_neg h]

/-- the nearer one by what is left -/
theorem near_eq (x y : Int) (hy : 0 < y) : (if y ≤ 2 * (x - x / y * y) then x / y + 1 else x / y) = nearI x y := by
  unfold nearI
  have k1 := Int.mul_ediv_add_emod x y
  have k2 := Int.emod_nonneg x (by omega : y ≠ 0)
  have k3 := Int.emod_lt_of_pos x hy
  rw [Int.mul_comm] at k1
  symm
  rw [Int.ediv_eq_iff_of_pos (by omega)]
  have e : ∀ q : Int, q * (2 * y) = 2 * (q * y) := fun q => by rw [Int.mul_left_comm]
  by_cases h : y ≤ 2 * (x - x / y * y)
  · rw [if_pos h, e, Int.add_mul]; omega
  · rw [if_neg h, e]; omega

/-- a product is bounded ahead of multiplying -/
theorem le_quo (a b : Int) (ha : 0 < a) : b ≤ 1099511627776 / a ↔ a * b ≤ 1099511627776 := by
  rw [Int.le_ediv_iff_mul_le ha, Int.mul_comm]

theorem tdiv_bd (a b m : Int) (hb : 0 < b) (h1 : -m ≤ a) (h2 : a ≤ m) : -m ≤ a.tdiv b ∧ a.tdiv b ≤ m := by
  have k1 : a.tdiv b * b + a.tmod b = a := by rw [Int.mul_comm]; exact Int.mul_tdiv_add_tmod a b
  have k2 := down_eq a b hb
  rcases Int.lt_or_le a 0 with h | h
  · have e : a.tdiv b = -((-a).tdiv b) := by rw [Int.neg_tdiv]; omega
    have := Int.tdiv_nonneg (show 0 ≤ -a by omega) (Int.le_of_lt hb)
    have h3 : (-a).tdiv b ≤ -a := by
      rw [Int.tdiv_eq_ediv_of_nonneg (by omega)]; exact Int.ediv_le_self b (by omega)
    omega
  · rw [Int.tdiv_eq_ediv_of_nonneg h]
    have h3 := Int.ediv_le_self b h
    have h4 : 0 ≤ a / b := Int.ediv_nonneg h (Int.le_of_lt hb)
    omega

theorem ediv_bd (a b m : Int) (hb : 0 < b) (hm : 0 ≤ m) (h1 : -m ≤ a) (h2 : a ≤ m) : -m ≤ a / b ∧ a / b ≤ m := by
  constructor
  · rw [Int.le_ediv_iff_mul_le hb, Int.neg_mul]
    have := Int.mul_le_mul_of_nonneg_left (show (1 : Int) ≤ b by omega) hm
    omega
  · rcases Int.lt_or_le a 0 with h | h
    · have := Int.ediv_neg_of_neg_of_pos h hb; omega
    · have := Int.ediv_le_self b h; omega

theorem left_bd (x y : Int) (hy : 0 < y) : x - y < x / y * y ∧ x / y * y ≤ x := by
  have k1 := Int.mul_ediv_add_emod x y
  have k2 := Int.emod_nonneg x (by omega : y ≠ 0)
  have k3 := Int.emod_lt_of_pos x hy
  rw [Int.mul_comm] at k1
  omega

theorem quo_pp {x y : Int} (hx : 0 < x) : (y ≤ 1099511627776 / x) = (x * y ≤ 1099511627776) := by
  rw [Int.le_ediv_iff_mul_le hx, Int.mul_comm]
theorem quo_pn {x y : Int} (hx : 0 < x) : (-y ≤ 1099511627776 / x) = (-1099511627776 ≤ x * y) := by
  rw [Int.le_ediv_iff_mul_le hx, Int.neg_mul, Int.mul_comm, eq_iff_iff]; omega
theorem quo_np {x y : Int} (hx : x < 0) : (y ≤ 1099511627776 / -x) = (-1099511627776 ≤ x * y) := by
  rw [Int.le_ediv_iff_mul_le (by omega), Int.mul_neg, Int.mul_comm, eq_iff_iff]; omega
theorem quo_nn {x y : Int} (hx : x < 0) : (-y ≤ 1099511627776 / -x) = (x * y ≤ 1099511627776) := by
  rw [Int.le_ediv_iff_mul_le (by omega), Int.mul_neg, Int.neg_mul, Int.neg_neg, Int.mul_comm]

theorem tneg {y : Int} (hy : y < 0) : Int.tdiv 1099511627776 y = -(1099511627776 / -y) := by
  have e : y = -(-y) := by omega
  rw [e, Int.tdiv_neg, Int.neg_neg, Int.tdiv_eq_ediv_of_nonneg (by omega)]
theorem tneg_bd {y : Int} (hy : y < 0) : -1099511627776 ≤ Int.tdiv 1099511627776 y ∧ Int.tdiv 1099511627776 y ≤ 0 := by
  rw [tneg hy]
  obtain ⟨h1, h2⟩ := ediv_bd 1099511627776 (-y) 1099511627776 (by omega) (by omega) (by omega) (by omega)
  have h3 : 0 ≤ 1099511627776 / -y := Int.ediv_nonneg (by omega) (by omega)
  omega

theorem sg_pp {x y : Int} (hx : 0 ≤ x) (hy : 0 ≤ y) : 0 ≤ x * y := Int.mul_nonneg hx hy
theorem sg_nn {x y : Int} (hx : x ≤ 0) (hy : y ≤ 0) : 0 ≤ x * y := Int.mul_nonneg_of_nonpos_of_nonpos hx hy
theorem sg_pn {x y : Int} (hx : 0 ≤ x) (hy : y ≤ 0) : x * y ≤ 0 := Int.mul_nonpos_of_nonneg_of_nonpos hx hy
theorem sg_np {x y : Int} (hx : x ≤ 0) (hy : 0 ≤ y) : x * y ≤ 0 := Int.mul_nonpos_of_nonpos_of_nonneg hx hy

theorem mul_in {a b : Int} (h1 : -1099511627776 ≤ fitI a * fitI b) (h2 : fitI a * fitI b ≤ 1099511627776) : fitI a * fitI b = mulI a b := (fit_id ⟨h1, h2⟩).symm
theorem mul_hi {a b : Int} (h : 1099511627776 < fitI a * fitI b) : 1099511627776 = mulI a b := by
  unfold mulI; rw [fitI]; rw [if_pos h]
theorem mul_lo {a b : Int} (h : fitI a * fitI b < -1099511627776) : -1099511627776 = mulI a b := by
  unfold mulI; rw [fitI]; rw [if_neg (by omega), if_pos h]
theorem mul_zl {a b : Int} (h : fitI a = 0) : 0 = mulI a b := by unfold mulI; rw [h, Int.zero_mul]; rfl
theorem mul_zr {a b : Int} (h : fitI b = 0) : 0 = mulI a b := by unfold mulI; rw [h, Int.mul_zero]; rfl

end Go.Proofs.YtiggkjkjfnlfkaaGreatDoor.M
