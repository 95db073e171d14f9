/-
  Several texts as one: Math, MathL, MathS, CopyW.
-/
import Derived.Laws.CopyOwn
namespace Go.Proofs.YtlloiccodjnkcagGreatDoor.M
set_option linter.unusedVariables false

/-- a number, or the end that it is beyond -/
def fitI (n : Int) : Int := if 1099511627776 < n then 1099511627776 else if n < -1099511627776 then -1099511627776 else n

theorem fit_le (n : Int) : -1099511627776 ≤ fitI n ∧ fitI n ≤ 1099511627776 := by
  unfold fitI; split
  · omega
  · split <;> omega

theorem fit_id {n : Int} (h : -1099511627776 ≤ n ∧ n ≤ 1099511627776) : fitI n = n := by
  unfold fitI; rw [if_neg (by omega), if_neg (by omega)]

theorem fit_fit (n : Int) : fitI (fitI n) = fitI n := fit_id (fit_le n)

theorem fit_neg (n : Int) : fitI (-n) = - fitI n := by
  unfold fitI
  by_cases h1 : 1099511627776 < n
  · rw [if_neg (by omega), if_pos (by omega), if_pos h1]
  · by_cases h2 : n < -1099511627776
    · rw [if_pos (by omega), if_neg h1, if_pos h2]; rfl
    · rw [if_neg (by omega), if_neg (by omega), if_neg h1, if_neg h2]

def addI (a b : Int) : Int := fitI (fitI a + fitI b)
def mulI (a b : Int) : Int := fitI (fitI a * fitI b)
def totalI (l : List Int) : Int := l.foldl addI 0
def firstI (l : List Int) : List Int := (l.take 1000).map fitI
def meanI (l : List Int) : Int := if firstI l = [] then 0 else (firstI l).sum / ((firstI l).length : Int)
def sortI (l : List Int) : List Int := l.mergeSort fun x y => decide (x ≤ y)
def midI (l : List Int) : Int := (sortI (firstI l)).getD ((firstI l).length / 2) 0
/-- the fraction x over y, y above 0, the greater one of two that are as near -/
def nearI (x y : Int) : Int := (2 * x + y) / (2 * y)
def roundI (a b : Int) : Int :=
  if fitI b = 0 then 0 else if fitI b < 0 then nearI (- fitI a) (- fitI b) else nearI (fitI a) (fitI b)

/-- Go's division goes towards 0: one less where something is left below 0 -/
theorem down_eq (a b : Int) (hb : 0 < b) : (if a.tmod b < 0 then a.tdiv b - 1 else a.tdiv b) = a / b := by
  have h1 : a.tdiv b * b + a.tmod b = a := by rw [Int.mul_comm]; exact Int.mul_tdiv_add_tmod a b
  have h2 : a.tmod b < b := Int.tmod_lt_of_pos a hb
  have h3 : -b < a.tmod b := by
    have := Int.lt_tmod_of_pos a hb; omega
  by_cases h : a.tmod b < 0
  · rw [if_pos h]
    symm
    rw [Int.ediv_eq_iff_of_pos hb]
    constructor
    · rw [Int.sub_mul]; omega
    · rw [Int.sub_mul]; omega
  · rw [if_neg h]
    symm
    rw [Int.ediv_eq_iff_of_pos hb]
    constructor
    · omega
    · omega

/-- the reference's own floor -/
theorem floor_eq (a b : Int) (hb : 0 < b) : (if a < 0 then -((b - 1 - a) / b) else a / b) = a / b := by
  by_cases h : a < 0
  · rw [if_pos h]
    have k1 := Int.mul_ediv_add_emod (b - 1 - a) b
    have k2 := Int.emod_nonneg (b - 1 - a) (by omega : b ≠ 0)
    have k3 := Int.emod_lt_of_pos (b - 1 - a) hb
    symm
    rw [Int.ediv_eq_iff_of_pos hb, Int.neg_mul, Int.mul_comm]
    omega
  · rw [if_neg h]

/-- the nearer one by what is left -/
theorem near_eq (x y : Int) (hy : 0 < y) : (if y ≤ 2 * (x - x / y * y) then x / y + 1 else x / y) = nearI x y := by
  unfold nearI
  have k1 := Int.mul_ediv_add_emod x y
  have k2 := Int.emod_nonneg x (by omega : y ≠ 0)
  have k3 := Int.emod_lt_of_pos x hy
  rw [Int.mul_comm] at k1
  symm
  rw [Int.ediv_eq_iff_of_pos (by omega)]
  have e : ∀ q : Int, q * (2 * y) = 2 * (q * y) := fun q => by rw [Int.mul_left_comm]
  by_cases h : y ≤ 2 * (x - x / y * y)
  · rw [if_pos h, e, Int.add_mul]; omega
  · rw [if_neg h, e]; omega

/-- a product is bounded ahead of multiplying -/
theorem le_quo (a b : Int) (ha : 0 < a) : b ≤ 1099511627776 / a ↔ a * b ≤ 1099511627776 := by
  rw [Int.le_ediv_iff_mul_le ha, Int.mul_comm]

theorem tdiv_bd (a b m : Int) (hb : 0 < b) (h1 : -m ≤ a) (h2 : a ≤ m) : -m ≤ a.tdiv b ∧ a.tdiv b ≤ m := by
  have k1 : a.tdiv b * b + a.tmod b = a := by rw [Int.mul_comm]; exact Int.mul_tdiv_add_tmod a b
  have k2 := down_eq a b hb
  rcases Int.lt_or_le a 0 with h | h
  · have e : a.tdiv b = -((-a).tdiv b) := by rw [Int.neg_tdiv]; omega
    have := Int.tdiv_nonneg (show 0 ≤ -a by omega) (Int.le_of_lt hb)
    have h3 : (-a).tdiv b ≤ -a := by
      rw [Int.tdiv_eq_ediv_of_nonneg (by omega)]; exact Int.ediv_le_self b (by omega)
    omega
  · rw [Int.tdiv_eq_ediv_of_nonneg h]
    have h3 := Int.ediv_le_self b h
    have h4 : 0 ≤ a / b := Int.ediv_nonneg h (Int.le_of_lt hb)
    omega

theorem ediv_bd (a b m : Int) (hb : 0 < b) (hm : 0 ≤ m) (h1 : -m ≤ a) (h2 : a ≤ m) : -m ≤ a / b ∧ a / b ≤ m := by
  constructor
  · rw [Int.le_ediv_iff_mul_le hb, Int.neg_mul]
    have := Int.mul_le_mul_of_nonneg_left (show (1 : Int) ≤ b by omega) hm
    omega
  · rcases Int.lt_or_le a 0 with h | h
    · have := Int.ediv_neg_of_neg_of_pos h hb; omega
    · have := Int.ediv_le_self b h; omega

theorem left_bd (x y : Int) (hy : 0 < y) : x - y < x / y * y ∧ x / y * y ≤ x := by
  have k1 := Int.mul_ediv_add_emod x y
  have k2 := Int.emod_nonneg x (by omega : y ≠ 0)
  have k3 := Int.emod_lt_of_pos x hy
  rw [Int.mul_comm] at k1
  omega

theorem quo_pp {x y : Int} (hx : 0 < x) : (y ≤ 1099511627776 / x) = (x * y ≤ 1099511627776) := by
  rw [Int.le_ediv_iff_mul_le hx, Int.mul_comm]
theorem quo_pn {x y : Int} (hx : 0 < x) : (-y ≤ 1099511627776 / x) = (-1099511627776 ≤ x * y) := by
  rw [Int.le_ediv_iff_mul_le hx, Int.neg_mul, Int.mul_comm, eq_iff_iff]; omega
theorem quo_np {x y : Int} (hx : x < 0) : (y ≤ 1099511627776 / -x) = (-1099511627776 ≤ x * y) := by
  rw [Int.le_ediv_iff_mul_le (by omega), Int.mul_neg, Int.mul_comm, eq_iff_iff]; omega
theorem quo_nn {x y : Int} (hx : x < 0) : (-y ≤ 1099511627776 / -x) = (x * y ≤ 1099511627776) := by
  rw [Int.le_ediv_iff_mul_le (by omega), Int.mul_neg, Int.neg_mul, Int.neg_neg, Int.mul_comm]

theorem tneg {y : Int} (hy : y < 0) : Int.tdiv 1099511627776 y = -(1099511627776 / -y) := by
  have e : y = -(-y) := by omega
  rw [e, Int.tdiv_neg, Int.neg_neg, Int.tdiv_eq_ediv_of_nonneg (by omega)]
theorem tneg_bd {y : Int} (hy : y < 0) : -1099511627776 ≤ Int.tdiv 1099511627776 y ∧ Int.tdiv 1099511627776 y ≤ 0 := by
  rw [tneg hy]
  obtain ⟨h1, h2⟩ := ediv_bd 1099511627776 (-y) 1099511627776 (by omega) (by omega) (by omega) (by omega)
  have h3 : 0 ≤ 1099511627776 / -y := Int.ediv_nonneg (by omega) (by omega)
  omega

theorem sg_pp {x y : Int} (hx : 0 ≤ x) (hy : 0 ≤ y) : 0 ≤ x * y := Int.mul_nonneg hx hy
theorem sg_nn {x y : Int} (hx : x ≤ 0) (hy : y ≤ 0) : 0 ≤ x * y := Int.mul_nonneg_of_nonpos_of_nonpos hx hy
theorem sg_pn {x y : Int} (hx : 0 ≤ x) (hy : y ≤ 0) : x * y ≤ 0 := Int.mul_nonpos_of_nonneg_of_nonpos hx hy
theorem sg_np {x y : Int} (hx : x ≤ 0) (hy : 0 ≤ y) : x * y ≤ 0 := Int.mul_nonpos_of_nonpos_of_nonneg hx hy

theorem mul_in {a b : Int} (h1 : -1099511627776 ≤ fitI a * fitI b) (h2 : fitI a * fitI b ≤ 1099511627776) : fitI a * fitI b = mulI a b := (fit_id ⟨h1, h2⟩).symm
theorem mul_hi {a b : Int} (h : 1099511627776 < fitI a * fitI b) : 1099511627776 = mulI a b := by
  unfold mulI; rw [fitI]; rw [if_pos h]
theorem mul_lo {a b : Int} (h : fitI a * fitI b < -1099511627776) : -1099511627776 = mulI a b := by
  unfold mulI; rw [fitI]; rw [if_neg (by omega), if_pos h]
theorem mul_zl {a b : Int} (h : fitI a = 0) : 0 = mulI a b := by unfold mulI; rw [h, Int.zero_mul]; rfl
theorem mul_zr {a b : Int} (h : fitI b = 0) : 0 = mulI a b := by unfold mulI; rw [h, Int.mul_zero]; rfl

end Go.Proofs.YtlloiccodjnkcagGreatDoor.M

namespace Go.Proofs.YtlloiccodjnkcagGreatDoor.M
set_option linter.unusedVariables false

theorem first_len (l : List Int) : (firstI l).length = min 1000 l.length := by unfold firstI; rw [List.length_map, List.length_take]
theorem first_at (l : List Int) (k : Nat) (h : k < (firstI l).length) (h' : k < l.length) : (firstI l)[k] = fitI l[k] := by unfold firstI; simp
theorem first_bd (l : List Int) : ∀ x ∈ firstI l, -1099511627776 ≤ x ∧ x ≤ 1099511627776 := by
  intro x hx; unfold firstI at hx; rw [List.mem_map] at hx; obtain ⟨y, _, rfl⟩ := hx; exact fit_le y

/-- a row that is filled from its head -/
def fillI (F : List Int) (k : Nat) : List Int := F.take k ++ List.replicate (F.length - k) 0
theorem fill_len (F : List Int) (k : Nat) (h : k ≤ F.length) : (fillI F k).length = F.length := by
  unfold fillI; rw [List.length_append, List.length_take, List.length_replicate]; omega
theorem fill_zero (F : List Int) : fillI F 0 = List.replicate F.length 0 := by unfold fillI; simp
theorem fill_all (F : List Int) : fillI F F.length = F := by unfold fillI; simp
theorem fill_set (F : List Int) (k : Nat) (h : k < F.length) : (fillI F k).set k F[k] = fillI F (k + 1) := by
  unfold fillI
  rw [List.set_append_right _ _ (by rw [List.length_take]; omega), List.length_take, Nat.min_eq_left (by omega), Nat.sub_self,
    List.take_succ_eq_append_getElem h, List.append_assoc]
  have : F.length - k = (F.length - (k + 1)) + 1 := by omega
  rw [this, List.replicate_succ]
  rfl


theorem sum_bd (F : List Int) (h : ∀ x ∈ F, -1099511627776 ≤ x ∧ x ≤ 1099511627776) : -(1099511627776 * (F.length : Int)) ≤ F.sum ∧ F.sum ≤ 1099511627776 * (F.length : Int) := by
  induction F with
  | nil => simp
  | cons x F ih =>
    have h1 := h x (by simp)
    have h2 := ih (fun y hy => h y (by simp [hy]))
    rw [List.sum_cons, List.length_cons]
    omega

theorem sum_succ (F : List Int) (k : Nat) (h : k < F.length) : (F.take k).sum + F[k] = (F.take (k + 1)).sum := by
  rw [List.take_succ_eq_append_getElem h, List.sum_append]; simp

theorem sum_take_bd (l : List Int) (k : Nat) (hk : k ≤ (firstI l).length) : -1099511627776000 ≤ ((firstI l).take k).sum ∧ ((firstI l).take k).sum ≤ 1099511627776000 := by
  have h := sum_bd ((firstI l).take k) (fun x hx => first_bd l x (List.mem_of_mem_take hx))
  have h2 := first_len l
  rw [List.length_take] at h
  omega

theorem mean_zero {l : List Int} (h : l = []) : 0 = meanI l := by subst h; rfl
theorem mean_some {l : List Int} (h : l ≠ []) : (firstI l).sum / ((firstI l).length : Int) = meanI l := by
  unfold meanI
  rw [if_neg]
  unfold firstI
  cases l with
  | nil => exact absurd rfl h
  | cons x l => simp
theorem first_pos {l : List Int} (h : l ≠ []) : 0 < (firstI l).length := by
  rw [first_len]
  have := List.length_pos_iff.2 h
  omega

end Go.Proofs.YtlloiccodjnkcagGreatDoor.M

namespace Go.Proofs.YtlloiccodjnkcagGreatDoor.M
set_option linter.unusedVariables false

theorem sort_pw (l : List Int) : (sortI l).Pairwise (fun a b => a ≤ b) := by
  have h := List.pairwise_mergeSort (le := fun x y : Int => decide (x ≤ y)) (fun a b c h1 h2 => by simp at *; omega) (fun a b => by simp; omega) l
  exact h.imp (fun h => by simpa using h)
theorem sort_perm (l : List Int) : (sortI l).Perm l := List.mergeSort_perm l _
theorem sort_length (l : List Int) : (sortI l).length = l.length := (sort_perm l).length_eq
theorem sort_unique {l m : List Int} (hp : m.Perm l) (hs : m.Pairwise (fun a b => a ≤ b)) : m = sortI l :=
  List.Perm.eq_of_pairwise (le := fun a b : Int => a ≤ b) (fun a b _ _ h1 h2 => Int.le_antisymm h1 h2) hs (sort_pw l) (hp.trans (sort_perm l).symm)
theorem sort_of_perm {l m : List Int} (hp : m.Perm l) : sortI m = sortI l := sort_unique ((sort_perm m).trans hp) (sort_pw m)

/-- where a number goes in -/
theorem sort_put (l : List Int) (x : Int) (k : Nat) (h1 : ∀ y ∈ (sortI l).take k, y ≤ x) (h2 : ∀ y ∈ (sortI l).drop k, x < y) :
    (sortI l).take k ++ x :: (sortI l).drop k = sortI (l ++ [x]) := by
  refine sort_unique ?_ ?_
  · have e : ((sortI l).take k ++ x :: (sortI l).drop k).Perm (x :: ((sortI l).take k ++ (sortI l).drop k)) := List.perm_middle
    rw [List.take_append_drop] at e
    refine e.trans ?_
    exact ((sort_perm l).cons x).trans (List.perm_append_comm (l₁ := [x]) (l₂ := l))
  · have hp := sort_pw l
    rw [← List.take_append_drop k (sortI l), List.pairwise_append] at hp
    rw [List.pairwise_append, List.pairwise_cons]
    refine ⟨hp.1, ⟨fun y hy => by have := h2 y hy; omega, hp.2.1⟩, fun a ha b hb => ?_⟩
    rcases List.mem_cons.1 hb with rfl | hb
    · exact h1 a ha
    · exact hp.2.2 a ha b hb

/-- what lies ahead of one that is no more is no more -/
theorem sort_low (l : List Int) (x : Int) (k : Nat) (hk : k < (sortI l).length) (h : (sortI l)[k] ≤ x) : ∀ y ∈ (sortI l).take (k + 1), y ≤ x := by
  intro y hy
  rw [List.take_succ_eq_append_getElem hk, List.mem_append] at hy
  rcases hy with hy | hy
  · have hp := sort_pw l
    rw [← List.take_append_drop k (sortI l), List.pairwise_append] at hp
    have := hp.2.2 y hy (sortI l)[k] (by rw [List.mem_iff_getElem]; exact ⟨0, by simp; omega, by simp⟩)
    omega
  · simp at hy; subst hy; exact h

/-- the row while one goes down to its place: the place k is free -/
def gapI (S R : List Int) (c : Int) (k : Nat) : List Int := S.take k ++ c :: S.drop k ++ R
theorem gap_len (S R : List Int) (c : Int) (k : Nat) (h : k ≤ S.length) : (gapI S R c k).length = S.length + 1 + R.length := by
  unfold gapI; simp; omega
theorem gap_set (S R : List Int) (c x : Int) (k : Nat) (h : k ≤ S.length) : (gapI S R c k).set k x = gapI S R x k := by
  unfold gapI
  rw [List.append_assoc, List.append_assoc, List.set_append_right _ _ (by rw [List.length_take]; omega), List.length_take, Nat.min_eq_left h, Nat.sub_self]
  rfl
theorem gap_low (S R : List Int) (c : Int) (k : Nat) (h : k < S.length) : (gapI S R c (k + 1))[k]'(by rw [gap_len _ _ _ _ h]; omega) = S[k] := by
  unfold gapI
  rw [List.getElem_append_left (by simp; omega), List.getElem_append_left (by simp; omega)]
  simp
theorem gap_down (S R : List Int) (k : Nat) (h : k < S.length) : gapI S R S[k] (k + 1) = gapI S R S[k] k := by
  unfold gapI
  rw [List.take_succ_eq_append_getElem h, show S.drop k = S[k] :: S.drop (k + 1) from List.drop_eq_getElem_cons h]
  simp only [List.append_assoc, List.cons_append, List.nil_append]

/-- the row behind so many rounds -/
def rowI (l : List Int) (i : Nat) : List Int := sortI (l.take i) ++ l.drop i
theorem row_len (l : List Int) (i : Nat) (h : i ≤ l.length) : (rowI l i).length = l.length := by
  unfold rowI; rw [List.length_append, sort_length, List.length_take, List.length_drop]; omega
theorem row_one (l : List Int) (h : 0 < l.length) : rowI l 1 = l := by
  unfold rowI
  cases l with
  | nil => simp at h
  | cons x l => simp [sortI]
theorem row_all (l : List Int) (i : Nat) (h : l.length ≤ i) : rowI l i = sortI l := by
  unfold rowI; rw [List.take_of_length_le h, List.drop_of_length_le h, List.append_nil]
theorem row_at (l : List Int) (i : Nat) (h : i < l.length) : (rowI l i)[i]'(by rw [row_len _ _ (by omega)]; exact h) = l[i] := by
  unfold rowI
  rw [List.getElem_append_right (by rw [sort_length, List.length_take]; omega)]
  simp [sort_length, Nat.min_eq_left (Nat.le_of_lt h)]
theorem row_gap (l : List Int) (i : Nat) (h : i < l.length) : rowI l i = gapI (sortI (l.take i)) (l.drop (i + 1)) l[i] i := by
  unfold rowI gapI
  have e : (sortI (l.take i)).length = i := by rw [sort_length, List.length_take]; omega
  rw [List.take_of_length_le (l := sortI (l.take i)) (by omega), List.drop_of_length_le (l := sortI (l.take i)) (by omega), List.drop_eq_getElem_cons h]
  simp
theorem gap_row (l : List Int) (i k : Nat) (h : i < l.length) (h1 : ∀ y ∈ (sortI (l.take i)).take k, y ≤ l[i]) (h2 : ∀ y ∈ (sortI (l.take i)).drop k, l[i] < y) :
    gapI (sortI (l.take i)) (l.drop (i + 1)) l[i] k = rowI l (i + 1) := by
  unfold rowI gapI
  rw [sort_put _ _ _ h1 h2, List.take_succ_eq_append_getElem h]
theorem drop_more {S : List Int} {x : Int} {k : Nat} (hk : k < S.length) (h1 : x < S[k]) (h2 : ∀ y ∈ S.drop (k + 1), x < y) : ∀ y ∈ S.drop k, x < y := by
  intro y hy
  rw [List.drop_eq_getElem_cons hk] at hy
  rcases List.mem_cons.1 hy with rfl | hy
  · exact h1
  · exact h2 y hy
theorem drop_none {S : List Int} {x : Int} {k : Nat} (hk : S.length ≤ k) : ∀ y ∈ S.drop k, x < y := by
  intro y hy; rw [List.drop_of_length_le hk] at hy; simp at hy

end Go.Proofs.YtlloiccodjnkcagGreatDoor.M

namespace Go.Proofs.YtlloiccodjnkcagGreatDoor
open Go Go.RowKit
set_option linter.unusedVariables false

theorem run_copy_wide {P : Program} (w : World) (dT sT ty elem : TypeId) (sz g o dLen dCap : Nat) (a : Addr) (sLen sCap : Nat) (cur : Array Value) (t : TypeId) (cs : List Value) (n : Nat)
    (hu : P.underlying dT = some (.slice elem)) (hs : (P.info? elem).map (·.size) = some sz)
    (hg : w.heap[g]? = some (.cells cur t (0, 0))) (hn : n = Nat.min sLen dLen) (hc : cs.length = n * sz)
    (hsrc : ∀ j v, cs[j]? = some v → w.cell? (a.add j) = some v) (hfit : o + cs.length ≤ cur.size) (h1 : ∀ v ∈ cs, v.oneCell' = true) :
    (Builtin.copy_ #[dT, sT] ty #[.slice (some ⟨g, o, none⟩) dLen dCap, .slice (some a) sLen sCap]).run P w =
      .ok (goInt n) (w.setRow g (cur.toList.take o ++ cs ++ cur.toList.drop (o + cs.length)).toArray) := by
  have hl := run_loadCells_list (P := P) w a cs hsrc
  have hst := run_storeCells_at P g o t cs 0 cur w hg (by simpa using hfit) h1
  cases hq : P.info? elem with
  | none => simp [hq] at hs
  | some i =>
    have hi : i.size = sz := by simpa [hq] using hs
    simp [Builtin.copy_, run_underlying hu, Builtin.lenOf, Builtin.firstCells, sizeOf, typeInfo, hq, hi, ← hn, ← hc, hl, hst]

/-- copy as a law at the call: 'cs' go over from place 'off' on -/
theorem wpList_copy_wide {P : Program} {w : World} {ops : Array Oper} {rest : List Oper} {o : Oper} {a : Act} {Q : Exit → Act → World → Prop} (hgd : o.guard = none) (d s : Operand) (dT sT : TypeId)
    (ho : o.op = .call { callee := .builtin .copy, args := #[d, s], argTypes := #[dT, sT] }) (elem : TypeId) (sz : Nat) (hu : P.underlying dT = some (.slice elem)) (hsz : (P.info? elem).map (·.size) = some sz)
    (ad : Addr) (dLen dCap sLen sCap : Nat) (g off : Nat) (hd : a.eval d = .slice (some ⟨g, off, none⟩) dLen dCap) (hs : a.eval s = .slice (some ad) sLen sCap)
    (cur : List Value) (t : TypeId) (hg : w.heap[g]? = some (.cells cur.toArray t (0, 0))) (cs : List Value) (n : Nat) (hn : n = Nat.min sLen dLen) (hc : cs.length = n * sz)
    (hsrc : ∀ j v, cs[j]? = some v → w.cell? (ad.add j) = some v)
    (hfit : off + cs.length ≤ cur.length) (h1 : ∀ v ∈ cs, v.oneCell' = true) (B : Nat) (w0 : World) (hb : Below B w0 w) (hBg : B ≤ g)
    (h : ∀ w', Hid (w'.heap[g]? = some (.cells (splice cur off cs).toArray t (0, 0))) → Below B w0 w' → wpList P ops Q rest (a.put o.dst (goInt n)) w') :
    wpList P ops Q (o :: rest) a w := by
  refine wpList_plain hgd fun K hK => ?_
  have hrun := run_copy_wide (P := P) w dT sT o.type elem sz g off dLen dCap ad sLen sCap cur.toArray t cs n hu hsz hg hn hc hsrc (by simpa using hfit) h1
  unfold Oper.wp
  simp [execOp, ho, resolve, invoke, builtin, hd, hs, hrun, Result.andThen]
  have := h (w.setRow g (cur.take off ++ (cs ++ cur.drop (off + cs.length))).toArray) (show _ = _ by simpa [splice] using setRow_heap w g _ _ t _ hg) (below_setRow hb hBg _)
  exact hK _ _ (by simpa using this)

/-- the same as one step of a region that draws its order -/
theorem step_copy_wide {P : Program} {ops : Array Oper} {o : Oper} {a : Act} {w : World} {K : Act → World → Prop} {Q : Exit → Act → World → Prop} {E : Prop} (hgd : o.guard = none) (d s : Operand) (dT sT : TypeId)
    (ho : o.op = .call { callee := .builtin .copy, args := #[d, s], argTypes := #[dT, sT] }) (elem : TypeId) (sz : Nat) (hu : P.underlying dT = some (.slice elem)) (hsz : (P.info? elem).map (·.size) = some sz)
    (ad : Addr) (dLen dCap sLen sCap : Nat) (g off : Nat) (hd : a.eval d = .slice (some ⟨g, off, none⟩) dLen dCap) (hs : a.eval s = .slice (some ad) sLen sCap)
    (cur : List Value) (t : TypeId) (hg : w.heap[g]? = some (.cells cur.toArray t (0, 0))) (cs : List Value) (n : Nat) (hn : n = Nat.min sLen dLen) (hc : cs.length = n * sz)
    (hsrc : ∀ j v, cs[j]? = some v → w.cell? (ad.add j) = some v)
    (hfit : off + cs.length ≤ cur.length) (h1 : ∀ v ∈ cs, v.oneCell' = true) (B : Nat) (w0 : World) (hb : Below B w0 w) (hBg : B ≤ g)
    (h : ∀ w', Hid (w'.heap[g]? = some (.cells (splice cur off cs).toArray t (0, 0))) → Below B w0 w' → K (a.put o.dst (goInt n)) w') :
    if Region.wanted o (yielded ops a.tmps) = true then Oper.wp P o a w K Q else E := by
  have hw : Region.wanted o (yielded ops a.tmps) = true := by simp [Region.wanted, hgd]
  rw [if_pos hw]
  have hrun := run_copy_wide (P := P) w dT sT o.type elem sz g off dLen dCap ad sLen sCap cur.toArray t cs n hu hsz hg hn hc hsrc (by simpa using hfit) h1
  unfold Oper.wp
  simp [execOp, ho, resolve, invoke, builtin, hd, hs, hrun, Result.andThen]
  have := h (w.setRow g (cur.take off ++ (cs ++ cur.drop (off + cs.length))).toArray) (show _ = _ by simpa [splice] using setRow_heap w g _ _ t _ hg) (below_setRow hb hBg _)
  exact (show K _ _ by simpa using this)

end Go.Proofs.YtlloiccodjnkcagGreatDoor
