/-
  Plain mathematics of a list's text: numbers with commas between them are read as they were; no condition beyond those named.
-/
import Derived.Test.YtiggkjkjfnlfkaaGreatDoorRunMb
namespace Go.Proofs.YtiggkjkjfnlfkaaGreatDoor.M
set_option linter.unusedVariables false

theorem itoa_mem (n : Int) {c : UInt8} (h : c ∈ Lib.itoa n) : c.toNat = 45 ∨ 48 ≤ c.toNat := by
  unfold Lib.itoa at h
  split at h
  · rcases List.mem_cons.1 h with e | h
    · left; rw [e]; rfl
    · exact .inr (dig_mem _ _ h)
  · exact .inr (dig_mem _ _ h)
theorem itoa_far (n : Int) {c : UInt8} (h : c.toNat < 45) : c ∉ Lib.itoa n := fun hm => by
  rcases itoa_mem n hm with e | e <;> omega
theorem itoa_some (n : Int) : Lib.itoa n ≠ [] := by
  unfold Lib.itoa
  split
  · simp
  · exact dig_ne _
/-- numbers with commas between them -/
def mnT : List Int → List UInt8
  | [] => []
  | x :: r => if r = [] then Lib.itoa x else Lib.itoa x ++ 44 :: mnT r
theorem mnT_snoc : ∀ (l : List Int) (x : Int), mnT (l ++ [x]) = if l = [] then Lib.itoa x else mnT l ++ 44 :: Lib.itoa x
  | [], x => by simp [mnT]
  | y :: r, x => by
    have ih := mnT_snoc r x
    rw [if_neg (by simp)]
    show (if r ++ [x] = [] then _ else Lib.itoa y ++ 44 :: mnT (r ++ [x])) = (if r = [] then Lib.itoa y else Lib.itoa y ++ 44 :: mnT r) ++ _
    rw [if_neg (by simp), ih]
    by_cases h : r = []
    · rw [if_pos h, if_pos h]
    · rw [if_neg h, if_neg h]
      simp
theorem mnT_no {c : UInt8} (h : c.toNat < 44) : ∀ l : List Int, c ∉ mnT l
  | [] => by simp [mnT]
  | x :: r => by
    have ih := mnT_no h r
    have i := itoa_far x (show c.toNat < 45 by omega)
    unfold mnT
    split
    · exact i
    · intro hm
      rcases List.mem_append.1 hm with a | a
      · exact i a
      · rcases List.mem_cons.1 a with e | a
        · rw [e] at h; exact absurd h (by decide)
        · exact ih a
theorem mnT_cut : ∀ l : List Int, l ≠ [] → cutC 44 (mnT l) = l.map Lib.itoa
  | [], h => absurd rfl h
  | x :: r, _ => by
    have i := itoa_far x (show (44 : UInt8).toNat < 45 by decide)
    unfold mnT
    by_cases h : r = []
    · subst h
      rw [if_pos rfl, cutC_none i]
      rfl
    · rw [if_neg h, cutC_app _ i, mnT_cut r h]
      rfl
theorem mnT_ne {l : List Int} (h : l ≠ []) : mnT l ≠ [] := by
  cases l with
  | nil => exact absurd rfl h
  | cons x r =>
    unfold mnT
    split
    · exact itoa_some x
    · simp
theorem numR_itoa {n : Int} (h : outI n = false) : numR (Lib.itoa n) = some n := by
  have := out_false h
  rw [numR_ok (atoi_itoa h), if_pos ⟨by omega, rfl⟩]
theorem listR_mn {l : List Int} (h : ∀ x ∈ l, outI x = false) : listR (mnT l) = some l := by
  unfold listR
  by_cases hl : l = []
  · subst hl; rfl
  · rw [if_neg (mnT_ne hl), mnT_cut l hl]
    have := numsR_all (ws := l.map Lib.itoa) fun w hw => by
      obtain ⟨x, hx, e⟩ := List.mem_map.1 hw
      rw [← e, numR_itoa (h x hx)]
      rfl
    rw [this, List.map_map]
    congr 1
    have e : l.map ((fun w => (numR w).getD 0) ∘ Lib.itoa) = l.map id := List.map_congr_left fun x hx => by
      show (numR (Lib.itoa x)).getD 0 = x
      rw [numR_itoa (h x hx)]
      rfl
    rw [e, List.map_id]
theorem mnT_len {l : List Int} (h : ∀ x ∈ l, outI x = false) : (mnT l).length ≤ l.length * 9 := by
  induction l with
  | nil => simp [mnT]
  | cons x r ih =>
    have i1 := itoa_len (h x (List.mem_cons_self ..))
    have i2 := ih fun y hy => h y (List.mem_cons_of_mem _ hy)
    unfold mnT
    rw [List.length_cons, Nat.succ_mul]
    split
    · omega
    · rw [List.length_append, List.length_cons]; omega
/-- the whole text of the law -/
def mnS (l : List Int) (a b : Int) : List UInt8 := ([109, 101, 97, 110] ++ 32 :: mnT l) ++ 10 :: ((([114, 111, 117, 110, 100] ++ 32 :: (Lib.itoa a ++ 32 :: Lib.itoa b))) ++ [10])
def mnL (l : List Int) (a b : Int) (q : Bool) : List UInt8 := if q = true then [114, 111, 117, 110, 100] ++ 32 :: (Lib.itoa a ++ 32 :: Lib.itoa b) else [109, 101, 97, 110] ++ 32 :: mnT l
theorem mnS_lines (l : List Int) (a b : Int) : [false, true].map (mnL l a b) = lnR (mnS l a b) := by
  have n1 : (10 : UInt8) ∉ [109, 101, 97, 110] ++ 32 :: mnT l := fun h => by
    rcases List.mem_append.1 h with h | h
    · revert h; decide
    · rcases List.mem_cons.1 h with e | h
      · revert e; decide
      · exact mnT_no (by decide) l h
  have n2 : (10 : UInt8) ∉ [114, 111, 117, 110, 100] ++ 32 :: (Lib.itoa a ++ 32 :: Lib.itoa b) := fun h => by
    rcases List.mem_append.1 h with h | h
    · revert h; decide
    · rcases List.mem_cons.1 h with e | h
      · revert e; decide
      · rcases List.mem_append.1 h with h | h
        · exact itoa_far a (by decide) h
        · rcases List.mem_cons.1 h with e | h
          · revert e; decide
          · exact itoa_far b (by decide) h
  unfold mnS
  rw [lnR_app _ n1, lnR_app [] n2]
  rfl
theorem mnS_len {l : List Int} {a b : Int} (hl : l.length ≤ 40) (h : ∀ x ∈ l, outI x = false) (ha : outI a = false) (hb : outI b = false) : (mnS l a b).length ≤ 3000 := by
  have := mnT_len h
  have := itoa_len ha
  have := itoa_len hb
  unfold mnS
  simp only [List.length_append, List.length_cons, List.length_nil]
  omega

end Go.Proofs.YtiggkjkjfnlfkaaGreatDoor.M
