/-
  The sum of bytes, bytes in pieces, and what is wrong with parts; no condition beyond those named.
-/
import Derived.Test.YtelncekgjfpogahDoorMath
namespace Go.Proofs.YtelncekgjfpogahDoor.M
set_option linter.unusedVariables false

/-! ### the sum of bytes -/
def bsmK (n : Nat) : List Nat → Nat
  | [] => n
  | c :: r => bsmK ((n * 31 + c + 1) % 1000003) r
def sumF (b : List Nat) : Nat := bsmK 7 b
theorem bsmK_app (a b : List Nat) : ∀ n, bsmK n (a ++ b) = bsmK (bsmK n a) b := by
  induction a with
  | nil => intro n; rfl
  | cons c r ih => intro n; exact ih _
theorem bsmK_lt : ∀ (b : List Nat) (n : Nat), n < 1000003 → bsmK n b < 1000003
  | [], n, h => h
  | c :: r, n, h => bsmK_lt r _ (Nat.mod_lt _ (by decide))
theorem sum_lt (b : List Nat) : sumF b < 1000003 := bsmK_lt b 7 (by decide)
theorem bsmK_more (b : List Nat) (n c : Nat) : bsmK n (b ++ [c]) = (bsmK n b * 31 + c + 1) % 1000003 := by rw [bsmK_app]; rfl
theorem step_ne {n m c : Nat} (hn : n < 1000003) (hm : m < 1000003) (h : n ≠ m) : (n * 31 + c + 1) % 1000003 ≠ (m * 31 + c + 1) % 1000003 := by omega
theorem bsmK_ne : ∀ (b : List Nat) (n m : Nat), n < 1000003 → m < 1000003 → n ≠ m → bsmK n b ≠ bsmK m b
  | [], n, m, _, _, h => h
  | c :: r, n, m, hn, hm, h => bsmK_ne r _ _ (Nat.mod_lt _ (by decide)) (Nat.mod_lt _ (by decide)) (step_ne hn hm h)
/-- of bytes of which one is another one the sum is another one -/
theorem sum_ne (a r : List Nat) {x y : Nat} (hx : x < 256) (hy : y < 256) (h : x ≠ y) : sumF (a ++ x :: r) ≠ sumF (a ++ y :: r) := by
  unfold sumF
  rw [bsmK_app, bsmK_app]
  show bsmK ((bsmK 7 a * 31 + x + 1) % 1000003) r ≠ bsmK ((bsmK 7 a * 31 + y + 1) % 1000003) r
  refine bsmK_ne r _ _ (Nat.mod_lt _ (by decide)) (Nat.mod_lt _ (by decide)) ?_
  have := bsmK_lt a 7 (by decide)
  omega
theorem sum_set {b : List Nat} {i y : Nat} (h8 : ∀ c ∈ b, c < 256) (hi : i < b.length) (hy : y < 256) (h : b.getD i 0 ≠ y) : sumF (b.set i y) ≠ sumF b := by
  have e : b = b.take i ++ b[i] :: b.drop (i + 1) := by rw [List.getElem_cons_drop, List.take_append_drop]
  have e2 : b.set i y = b.take i ++ y :: b.drop (i + 1) := by rw [List.set_eq_take_append_cons_drop, if_pos hi]
  have eg : b.getD i 0 = b[i] := by simp [List.getD, hi]
  rw [eg] at h
  rw [e2]
  conv => rhs; rw [e]
  exact fun z => (sum_ne (b.take i) (b.drop (i + 1)) (h8 _ (List.getElem_mem hi)) hy h) z.symm

/-! ### pieces: how many bytes, and their sum -/
abbrev Pt := Int × Int
/-- from a place on, with fuel -/
def pieces (size : Nat) : Nat → List Nat → List Pt
  | 0, _ => []
  | k + 1, b => if b = [] then [] else (((min size b.length : Nat) : Int), (sumF (b.take size) : Int)) :: pieces size k (b.drop size)
def planL (b : List Nat) (size : Nat) : List Pt := pieces size b.length b
theorem pieces_nil (size k : Nat) : pieces size k [] = [] := by cases k <;> rfl
theorem pieces_go {size k : Nat} {b : List Nat} (h : b ≠ []) : pieces size (k + 1) b = (((min size b.length : Nat) : Int), (sumF (b.take size) : Int)) :: pieces size k (b.drop size) := by
  show (if _ then _ else _) = _; rw [if_neg h]
theorem pieces_fuel {size : Nat} (hs : 1 ≤ size) : ∀ (k l : Nat) (b : List Nat), b.length ≤ k → b.length ≤ l → pieces size k b = pieces size l b := by
  intro k
  induction k with
  | zero =>
    intro l b h1 h2
    have : b = [] := List.length_eq_zero_iff.1 (by omega)
    subst this
    rw [pieces_nil, pieces_nil]
  | succ k ih =>
    intro l b h1 h2
    by_cases hb : b = []
    · subst hb; rw [pieces_nil, pieces_nil]
    · have bp : 0 < b.length := List.length_pos_iff.2 hb
      obtain ⟨l, rfl⟩ : ∃ m, l = m + 1 := ⟨l - 1, by omega⟩
      rw [pieces_go hb, pieces_go hb, ih l (b.drop size) (by rw [List.length_drop]; omega) (by rw [List.length_drop]; omega)]
theorem plan_nil (size : Nat) : planL [] size = [] := rfl
theorem plan_go {size : Nat} (hs : 1 ≤ size) {b : List Nat} (h : b ≠ []) : planL b size = (((min size b.length : Nat) : Int), (sumF (b.take size) : Int)) :: planL (b.drop size) size := by
  have bp : 0 < b.length := List.length_pos_iff.2 h
  unfold planL
  obtain ⟨k, hk⟩ : ∃ k, b.length = k + 1 := ⟨b.length - 1, by omega⟩
  have e : pieces size b.length b = pieces size (k + 1) b := by rw [hk]
  rw [e, pieces_go h]
  congr 1
  exact pieces_fuel hs k (b.drop size).length (b.drop size) (by rw [List.length_drop]; omega) (Nat.le_refl _)
/-- as many as have to be -/
theorem plan_len {size : Nat} (hs : 1 ≤ size) : ∀ (n : Nat) (b : List Nat), b.length ≤ n → (planL b size).length = (b.length + size - 1) / size := by
  intro n
  induction n with
  | zero =>
    intro b h
    have : b = [] := List.length_eq_zero_iff.1 (by omega)
    subst this
    rw [plan_nil]
    show 0 = (0 + size - 1) / size
    rw [Nat.div_eq_of_lt (by omega)]
  | succ n ih =>
    intro b h
    by_cases hb : b = []
    · subst hb
      rw [plan_nil]
      show 0 = (0 + size - 1) / size
      rw [Nat.div_eq_of_lt (by omega)]
    · have bp : 0 < b.length := List.length_pos_iff.2 hb
      rw [plan_go hs hb, List.length_cons, ih (b.drop size) (by rw [List.length_drop]; omega), List.length_drop]
      by_cases q : size ≤ b.length
      · rw [show b.length + size - 1 = (b.length - size + size - 1) + size by omega, Nat.add_div_right _ (by omega)]
      · rw [show b.length - size = 0 by omega, Nat.div_eq_of_lt (by omega : 0 + size - 1 < size)]
        rw [show b.length + size - 1 = (b.length - 1) + size by omega, Nat.add_div_right _ (by omega), Nat.div_eq_of_lt (by omega)]
/-- the piece at a place: how many bytes, and their sum -/
theorem plan_at {size : Nat} (hs : 1 ≤ size) : ∀ (i : Nat) (b : List Nat), i * size < b.length → (planL b size).getD i (0, 0) = (((min size (b.length - i * size) : Nat) : Int), (sumF ((b.drop (i * size)).take size) : Int)) := by
  intro i
  induction i with
  | zero =>
    intro b h
    have hb : b ≠ [] := fun e => by rw [e] at h; simp at h
    rw [plan_go hs hb]
    simp
  | succ i ih =>
    intro b h
    have h' : i * size + size < b.length := by rw [← Nat.succ_mul]; exact h
    have hb : b ≠ [] := fun e => by rw [e] at h; simp at h
    rw [plan_go hs hb, List.getD_cons_succ, ih (b.drop size) (by rw [List.length_drop]; omega), List.length_drop, List.drop_drop, Nat.succ_mul]
    rw [show size + i * size = i * size + size by omega, show b.length - size - i * size = b.length - (i * size + size) by omega]
theorem plan_in {size : Nat} (hs : 1 ≤ size) (b : List Nat) {i : Nat} (h : i < (planL b size).length) : i * size < b.length := by
  rw [plan_len hs b.length b (Nat.le_refl _), Nat.lt_div_iff_mul_lt (by omega)] at h
  omega

/-! ### what is wrong -/
def planF (b : List Nat) (size : Int) : Int := if 6000 < b.length then 4 else if size < 1 ∨ 6000 < size then 1 else if 100 < (planL b size.toNat).length then 4 else 0
def planV (b : List Nat) (size : Int) : List Pt := if planF b size = 0 then planL b size.toNat else []
def ptBad (p : Pt) : Bool := decide (p.1 < 1 ∨ 6000 < p.1 ∨ p.2 < 0 ∨ 1000002 < p.2)
def ptSum (l : List Pt) : Int := (l.map (·.1)).sum
def partsF (l : List Pt) : Int := if 100 < l.length then 4 else if l.any ptBad then 1 else if 6000 < ptSum l then 4 else 0
theorem ptSum_cons (p : Pt) (l : List Pt) : ptSum (p :: l) = p.1 + ptSum l := rfl
theorem ptSum_app (a b : List Pt) : ptSum (a ++ b) = ptSum a + ptSum b := by
  induction a with
  | nil => show ptSum b = 0 + ptSum b; omega
  | cons p a ih => rw [List.cons_append, ptSum_cons, ptSum_cons, ih]; omega
/-- all together -/
theorem plan_sum {size : Nat} (hs : 1 ≤ size) : ∀ (n : Nat) (b : List Nat), b.length ≤ n → ptSum (planL b size) = (b.length : Int) := by
  intro n
  induction n with
  | zero =>
    intro b h
    have : b = [] := List.length_eq_zero_iff.1 (by omega)
    subst this
    rfl
  | succ n ih =>
    intro b h
    by_cases hb : b = []
    · subst hb; rfl
    · have bp : 0 < b.length := List.length_pos_iff.2 hb
      rw [plan_go hs hb, ptSum_cons, ih (b.drop size) (by rw [List.length_drop]; omega), List.length_drop]
      show ((min size b.length : Nat) : Int) + _ = _
      omega
theorem plan_right {size : Nat} (hs : 1 ≤ size) (b : List Nat) (h6 : b.length ≤ 6000) (h100 : (planL b size).length ≤ 100) : partsF (planL b size) = 0 := by
  have hb : (planL b size).any ptBad = false := by
    rw [List.any_eq_false]
    intro p hp
    obtain ⟨i, hi, rfl⟩ := List.getElem_of_mem hp
    have h1 := plan_in hs b hi
    have h2 := plan_at hs i b h1
    have e : (planL b size).getD i (0, 0) = (planL b size)[i] := by simp [List.getD, hi]
    rw [e] at h2
    rw [h2]
    have := sum_lt ((b.drop (i * size)).take size)
    unfold ptBad
    rw [decide_eq_true_iff]
    show ¬ (((min size (b.length - i * size) : Nat) : Int) < 1 ∨ 6000 < ((min size (b.length - i * size) : Nat) : Int) ∨ (sumF ((b.drop (i * size)).take size) : Int) < 0 ∨ 1000002 < (sumF ((b.drop (i * size)).take size) : Int))
    omega
  unfold partsF
  rw [if_neg (by omega), hb, if_neg (by simp), plan_sum hs b.length b (Nat.le_refl _), if_neg (by omega)]

end Go.Proofs.YtelncekgjfpogahDoor.M
