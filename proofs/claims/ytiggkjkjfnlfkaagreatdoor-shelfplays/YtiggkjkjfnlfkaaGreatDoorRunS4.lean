/-
  Several texts as one: MathR.
-/
import Derived.Test.YtiggkjkjfnlfkaaGreatDoorRunS1
import Derived.Lib.ItoaNum
import Derived.Lib.AtoiTie
import Derived.Lib.Join
import Derived.Lib.Bytealg
namespace Go.Proofs.YtiggkjkjfnlfkaaGreatDoor.M
set_option linter.unusedVariables false
/-- a cell that is not there -/
def nilI : Int := -1125899906842624
def badCell (x : Int) : Bool := !decide (x = nilI) && outI x
/-- the fault of a row -/
def rowF (l : List Int) : Int := if 8 < l.length then 4 else if l.any badCell then 1 else 0
theorem bad_false {x : Int} (h : badCell x = false) : x = nilI ∨ (x ≠ nilI ∧ outI x = false) := by
  unfold badCell at h
  by_cases e : x = nilI
  · exact Or.inl e
  · simp [e] at h; exact Or.inr ⟨e, h⟩
theorem good_cell {x : Int} (h : outI x = false) : badCell x = false := by unfold badCell; rw [h]; simp
theorem good_nil : badCell nilI = false := by unfold badCell; simp
theorem ne_nil {x : Int} (h : outI x = false) : x ≠ nilI := by have := out_false h; unfold nilI; omega
theorem row_ok (l : List Int) : rowF l = 0 ↔ l.length ≤ 8 ∧ ∀ x ∈ l, badCell x = false := by
  unfold rowF
  by_cases h : 8 < l.length
  · rw [if_pos h]; constructor
    · intro e; cases e
    · intro e; omega
  · rw [if_neg h]
    by_cases h2 : l.any badCell = true
    · rw [if_pos h2]
      constructor
      · intro e; cases e
      · rintro ⟨_, e⟩; rw [List.any_eq_true] at h2; obtain ⟨x, hx, hb⟩ := h2; rw [e x hx] at hb; cases hb
    · rw [if_neg h2]
      have h2' : l.any badCell = false := Bool.eq_false_iff.2 h2
      rw [List.any_eq_false] at h2'
      exact ⟨fun _ => ⟨by omega, fun x hx => Bool.eq_false_iff.2 (h2' x hx)⟩, fun _ => rfl⟩
theorem row_codes (l : List Int) : rowF l = 0 ∨ rowF l = 1 ∨ rowF l = 4 := by
  unfold rowF; split
  · exact Or.inr (Or.inr rfl)
  · split
    · exact Or.inr (Or.inl rfl)
    · exact Or.inl rfl

/-- a cell as text, and a row -/
def word (x : Int) : List UInt8 := if x = nilI then [45] else Lib.itoa x
def showL (l : List Int) : List UInt8 := Lib.join (l.map word) [44]

/-- a word as a cell -/
def cellOf (w : List UInt8) : Option Int :=
  if w = [45] then some nilI
  else match Lib.atoiAll w with
    | .ok n => if outI n = false ∧ Lib.itoa n = w then some n else none
    | _ => none

/-- a text cut at its first comma: what is ahead, what is behind, whether there is one -/
def cut1 : List UInt8 → List UInt8 × List UInt8 × Bool
  | [] => ([], [], false)
  | c :: r => if c = 44 then ([], r, true) else (c :: (cut1 r).1, (cut1 r).2.1, (cut1 r).2.2)
/-- a text cut at all of them -/
def words : List UInt8 → List (List UInt8)
  | [] => [[]]
  | c :: r => if c = 44 then [] :: words r else match words r with
    | [] => [[c]]
    | x :: t => (c :: x) :: t

theorem words_ne (s : List UInt8) : words s ≠ [] := by
  cases s with
  | nil => simp [words]
  | cons c r =>
    unfold words
    split
    · simp
    · split <;> simp
theorem words_other {c : UInt8} (h : c ≠ 44) {r x : List UInt8} {t : List (List UInt8)} (hw : words r = x :: t) : words (c :: r) = (c :: x) :: t := by simp [words, h, hw]
theorem words_cut (s : List UInt8) : words s = (cut1 s).1 :: if (cut1 s).2.2 = true then words (cut1 s).2.1 else [] := by
  induction s with
  | nil => simp [words, cut1]
  | cons c r ih =>
    by_cases h : c = 44
    · subst h; simp [words, cut1]
    · rw [words_other h ih]; simp [cut1, h]
theorem cut1_hit (s : List UInt8) : ∀ i : Nat, Lib.indexByte s 44 = (i : Int) → i < s.length ∧ cut1 s = (s.take i, s.drop (i + 1), true) := by
  induction s with
  | nil => intro i h; unfold Lib.indexByte at h; omega
  | cons c r ih =>
    intro i h
    unfold Lib.indexByte at h
    by_cases hc : c = 44
    · subst hc
      simp at h
      have : i = 0 := by omega
      subst this
      simp [cut1]
    · have hc' : (c == 44) = false := by rw [beq_eq_false_iff_ne]; exact hc
      rw [hc'] at h
      simp only [Bool.false_eq_true, if_false] at h
      by_cases h1 : (Lib.indexByte r 44 == -1) = true
      · rw [if_pos h1] at h; omega
      · rw [if_neg h1] at h
        have h2 : Lib.indexByte r 44 ≠ -1 := by simpa using h1
        have h3 := Lib.indexByte_ge r 44
        obtain ⟨j, rfl⟩ : ∃ j, i = j + 1 := ⟨i - 1, by omega⟩
        obtain ⟨g1, g2⟩ := ih j (by omega)
        refine ⟨by simp; exact g1, ?_⟩
        unfold cut1
        rw [if_neg hc, g2]
        simp
theorem cut1_miss (s : List UInt8) : Lib.indexByte s 44 = -1 → cut1 s = (s, [], false) := by
  induction s with
  | nil => intro h; rfl
  | cons c r ih =>
    intro h
    unfold Lib.indexByte at h
    by_cases hc : c = 44
    · subst hc; simp at h
    · have hc' : (c == 44) = false := by rw [beq_eq_false_iff_ne]; exact hc
      rw [hc'] at h
      simp only [Bool.false_eq_true, if_false] at h
      by_cases h1 : (Lib.indexByte r 44 == -1) = true
      · unfold cut1
        rw [if_neg hc, ih (by simpa using h1)]
      · rw [if_neg h1] at h
        have := Lib.indexByte_ge r 44
        have h2 : Lib.indexByte r 44 ≠ -1 := by simpa using h1
        omega
theorem cut1_len (s : List UInt8) : (cut1 s).1.length ≤ s.length ∧ (cut1 s).2.1.length ≤ s.length ∧ ((cut1 s).2.2 = true → (cut1 s).2.1.length < s.length) := by
  induction s with
  | nil => simp [cut1]
  | cons c r ih =>
    unfold cut1
    by_cases h : c = 44
    · rw [if_pos h]; simp
    · rw [if_neg h]; simp; omega

/-- the row of words, behind cells that are read -/
def goL (acc : List Int) : List (List UInt8) → List Int × Int
  | [] => if 8 < acc.length then ([], 4) else (acc, 0)
  | w :: t => match cellOf w with
    | none => ([], 2)
    | some c => goL (acc ++ [c]) t
def parseL (s : List UInt8) : List Int × Int := if s = [] then ([], 0) else goL [] (words s)
theorem go_some {acc : List Int} {w : List UInt8} {t : List (List UInt8)} {c : Int} (h : cellOf w = some c) : goL acc (w :: t) = goL (acc ++ [c]) t := by simp [goL, h]
theorem go_none {acc : List Int} {w : List UInt8} {t : List (List UInt8)} (h : cellOf w = none) : goL acc (w :: t) = ([], 2) := by simp [goL, h]
theorem go_many {acc : List Int} (h : 8 < acc.length) : goL acc [] = ([], 4) := by simp [goL, h]
theorem go_few {acc : List Int} (h : acc.length ≤ 8) : goL acc [] = (acc, 0) := by simp [goL]; omega
theorem go_codes (ws : List (List UInt8)) : ∀ acc, (goL acc ws).2 = 0 ∨ (goL acc ws).2 = 2 ∨ (goL acc ws).2 = 4 := by
  induction ws with
  | nil => intro acc; unfold goL; split <;> simp
  | cons w t ih =>
    intro acc
    unfold goL
    split
    · simp
    · exact ih _
theorem parse_codes (s : List UInt8) : (parseL s).2 = 0 ∨ (parseL s).2 = 2 ∨ (parseL s).2 = 4 := by
  unfold parseL; split
  · exact Or.inl rfl
  · exact go_codes _ _
theorem go_nil (ws : List (List UInt8)) : ∀ acc, (goL acc ws).2 ≠ 0 → (goL acc ws).1 = [] := by
  induction ws with
  | nil => intro acc; unfold goL; split <;> simp
  | cons w t ih =>
    intro acc
    unfold goL
    split
    · simp
    · exact ih _
theorem parse_nil (s : List UInt8) (h : (parseL s).2 ≠ 0) : (parseL s).1 = [] := by
  unfold parseL at *; split at h
  · exact absurd rfl h
  · rename_i e; rw [if_neg e]; exact go_nil _ _ h

/-! ### digits -/

theorem digit_of {b : UInt8} {d : Nat} (h : Lib.digitVal b = some d) : d < 10 ∧ b = UInt8.ofNat (48 + d) ∧ b.toNat = 48 + d := by
  unfold Lib.digitVal at h
  split at h
  · rename_i hb
    injection h with h
    subst h
    refine ⟨by omega, ?_, by omega⟩
    rw [show 48 + (b.toNat - 48) = b.toNat by omega]
    simp
  · cases h
theorem digit_mk {d : Nat} (h : d < 10) : Lib.digitVal (UInt8.ofNat (48 + d)) = some d := by
  have e : (UInt8.ofNat (48 + d)).toNat = 48 + d := by simp; omega
  unfold Lib.digitVal
  rw [e, if_pos (by omega)]
  simp
theorem decFrom_snoc (l : List UInt8) (b : UInt8) : ∀ acc, Lib.decFrom acc (l ++ [b]) = match Lib.decFrom acc l with
    | some n => (match Lib.digitVal b with
      | some d => some (n * 10 + d)
      | none => none)
    | none => none := by
  induction l with
  | nil => intro acc; simp only [List.nil_append, Lib.decFrom]; cases Lib.digitVal b <;> rfl
  | cons a t ih =>
    intro acc
    simp only [List.cons_append, Lib.decFrom]
    cases h : Lib.digitVal a with
    | none => simp
    | some d => simp only []; exact ih _
theorem dig_small {u : Nat} (h : u < 10) : Lib.decDigits u = [UInt8.ofNat (48 + u)] := Lib.decDigits_one h
theorem dig_big {u : Nat} (h : ¬ u < 10) : Lib.decDigits u = Lib.decDigits (u / 10) ++ [UInt8.ofNat (48 + u % 10)] := by rw [Lib.decDigits, dif_neg h]
theorem dig_from (u : Nat) : Lib.decFrom 0 (Lib.decDigits u) = some u := by
  induction u using Nat.strongRecOn with
  | _ u ih =>
    by_cases h : u < 10
    · rw [dig_small h]
      simp only [Lib.decFrom, digit_mk h]
      simp
    · rw [dig_big h, decFrom_snoc, ih (u / 10) (by omega), digit_mk (by omega)]
      simp; omega
theorem dig_head (u : Nat) : ∃ c t, Lib.decDigits u = c :: t ∧ 48 ≤ c.toNat ∧ c.toNat ≤ 57 ∧ (1 ≤ u → c.toNat ≠ 48) := by
  induction u using Nat.strongRecOn with
  | _ u ih =>
    by_cases h : u < 10
    · have e : (UInt8.ofNat (48 + u)).toNat = 48 + u := by simp; omega
      exact ⟨_, [], dig_small h, by omega, by omega, by omega⟩
    · obtain ⟨c, t, h1, h2, h3, h4⟩ := ih (u / 10) (by omega)
      rw [dig_big h, h1]
      exact ⟨c, t ++ _, rfl, h2, h3, fun _ => h4 (by omega)⟩
theorem dig_len (k : Nat) : ∀ u, u < 10 ^ (k + 1) → (Lib.decDigits u).length ≤ k + 1 := by
  induction k with
  | zero => intro u h; rw [dig_small (by simpa using h)]; simp
  | succ k ih =>
    intro u h
    by_cases hu : u < 10
    · rw [dig_small hu]; simp
    · rw [dig_big hu, List.length_append]
      have := ih (u / 10) (by rw [Nat.pow_succ] at h; omega)
      simp; omega
theorem dig_mem (u : Nat) : ∀ c ∈ Lib.decDigits u, 48 ≤ c.toNat := by
  induction u using Nat.strongRecOn with
  | _ u ih =>
    by_cases h : u < 10
    · have e : (UInt8.ofNat (48 + u)).toNat = 48 + u := by simp; omega
      rw [dig_small h]; intro c hc; rw [List.mem_singleton] at hc; subst hc; omega
    · have e : (UInt8.ofNat (48 + u % 10)).toNat = 48 + u % 10 := by simp; omega
      rw [dig_big h]; intro c hc
      rw [List.mem_append] at hc
      rcases hc with hc | hc
      · exact ih (u / 10) (by omega) c hc
      · rw [List.mem_singleton] at hc; subst hc; omega
/-- a row of digits that does not open with a zero is its number's -/
theorem dig_canon (n : Nat) : ∀ (l : List UInt8) (m : Nat), l.length = n → l ≠ [] → (l.length = 1 ∨ ∀ c t, l = c :: t → c.toNat ≠ 48) → Lib.decFrom 0 l = some m → Lib.decDigits m = l := by
  induction n with
  | zero => intro l m hl hn; exact absurd (List.length_eq_zero_iff.1 hl) hn
  | succ n ih =>
    intro l m hl hn hh hd
    obtain ⟨l', b, rfl⟩ : ∃ l' b, l = l' ++ [b] := ⟨l.dropLast, l.getLast hn, (List.dropLast_concat_getLast hn).symm⟩
    rw [decFrom_snoc] at hd
    by_cases hl' : l' = []
    · subst hl'
      simp only [Lib.decFrom] at hd
      cases hb : Lib.digitVal b with
      | none => rw [hb] at hd; cases hd
      | some d =>
        rw [hb] at hd
        simp at hd
        obtain ⟨h1, h2, h3⟩ := digit_of hb
        subst hd
        rw [dig_small h1, ← h2]; rfl
    · have hh' : ∀ c t, l' = c :: t → c.toNat ≠ 48 := by
        rcases hh with hh | hh
        · rw [List.length_append] at hh; simp at hh; exact absurd hh hl'
        · intro c t e; exact hh c (t ++ [b]) (by rw [e]; rfl)
      cases hq : Lib.decFrom 0 l' with
      | none => rw [hq] at hd; cases hd
      | some m' =>
        rw [hq] at hd
        cases hb : Lib.digitVal b with
        | none => rw [hb] at hd; cases hd
        | some d =>
          rw [hb] at hd
          simp at hd
          obtain ⟨h1, h2, h3⟩ := digit_of hb
          have e := ih l' m' (by simp at hl; exact hl) hl' (Or.inr hh') hq
          have hp : 1 ≤ m' := by
            rcases Nat.eq_zero_or_pos m' with h0 | h0
            · subst h0
              rw [dig_small (by decide)] at e
              exact absurd rfl (hh' _ [] e.symm)
            · exact h0
          subst hd
          rw [dig_big (by omega), show (m' * 10 + d) / 10 = m' by omega, show (m' * 10 + d) % 10 = d by omega, e, ← h2]

/-! ### words and cells -/

theorem abs_lt {n : Int} (h : outI n = false) : n.natAbs < 10 ^ (6 + 1) ∧ n.toNat < 10 ^ (6 + 1) := by
  have := out_false h
  have e : (10 : Nat) ^ (6 + 1) = 10000000 := by decide
  omega
theorem itoa_len {n : Int} (h : outI n = false) : (Lib.itoa n).length ≤ 8 := by
  obtain ⟨h1, h2⟩ := abs_lt h
  unfold Lib.itoa
  split
  · have := dig_len 6 _ h1; simp; omega
  · have := dig_len 6 _ h2; omega
theorem dig_ne (u : Nat) : Lib.decDigits u ≠ [] := by obtain ⟨c, t, h, _⟩ := dig_head u; rw [h]; simp
theorem decNat_dig (u : Nat) : Lib.decNat (Lib.decDigits u) = some u := by
  unfold Lib.decNat
  have : (Lib.decDigits u).isEmpty = false := by rw [List.isEmpty_eq_false_iff]; exact dig_ne u
  rw [this]; exact dig_from u
theorem atoi_itoa {n : Int} (h : outI n = false) : Lib.atoiAll (Lib.itoa n) = .ok n := by
  rw [Lib.atoiAll_short _ (by have := itoa_len h; omega)]
  have : Lib.atoi (Lib.itoa n) = some n := by
    unfold Lib.itoa
    by_cases hn : n < 0
    · rw [if_pos hn]
      simp only [Lib.atoi]
      rw [if_pos (by decide), decNat_dig]
      simp; omega
    · rw [if_neg hn]
      obtain ⟨c, t, h1, h2, h3, _⟩ := dig_head n.toNat
      have e := decNat_dig n.toNat
      rw [h1] at e ⊢
      have n45 : (c == 45) = false := by rw [beq_eq_false_iff_ne]; intro e; subst e; revert h2; decide
      have n43 : (c == 43) = false := by rw [beq_eq_false_iff_ne]; intro e; subst e; revert h2; decide
      simp only [Lib.atoi, n45, n43]
      simp [e]; omega
  rw [this]; rfl
theorem itoa_ne {n : Int} : Lib.itoa n ≠ [45] := by
  unfold Lib.itoa
  split
  · obtain ⟨c, t, h, _⟩ := dig_head n.natAbs; rw [h]; simp
  · obtain ⟨c, t, h, h2, _⟩ := dig_head n.toNat; rw [h]; intro e; injection e with e1 e2; subst e1; revert h2; decide
theorem cell_of_itoa {n : Int} (h : outI n = false) : cellOf (Lib.itoa n) = some n := by
  unfold cellOf
  rw [if_neg itoa_ne, atoi_itoa h]
  simp [h]
theorem cell_word {x : Int} (h : badCell x = false) : cellOf (word x) = some x := by
  unfold word
  rcases bad_false h with e | ⟨e, ho⟩
  · rw [if_pos e, e]; rfl
  · rw [if_neg e]; exact cell_of_itoa ho
theorem word_cell {w : List UInt8} {c : Int} (h : cellOf w = some c) : word c = w ∧ badCell c = false := by
  unfold cellOf at h
  split at h
  · rename_i e; injection h with h; subst h; subst e; exact ⟨by unfold word; rw [if_pos rfl], good_nil⟩
  · split at h
    · split at h
      · rename_i n _ hq
        injection h with h; subst h
        exact ⟨by unfold word; rw [if_neg (ne_nil hq.1)]; exact hq.2, good_cell hq.1⟩
      · cases h
    · cases h
theorem word_no (x : Int) : ∀ c ∈ word x, c ≠ 44 := by
  intro c hc e
  subst e
  unfold word at hc
  split at hc
  · simp at hc
  · unfold Lib.itoa at hc
    split at hc
    · rw [List.mem_cons] at hc
      rcases hc with hc | hc
      · simp at hc
      · have := dig_mem _ _ hc; revert this; decide
    · have := dig_mem _ _ hc; revert this; decide
theorem word_ne (x : Int) : word x ≠ [] := by
  unfold word
  split
  · simp
  · unfold Lib.itoa
    split
    · simp
    · exact dig_ne _
theorem words_one (w : List UInt8) (h : ∀ c ∈ w, c ≠ 44) : words w = [w] := by
  induction w with
  | nil => rfl
  | cons c r ih => exact words_other (h c (by simp)) (ih fun d hd => h d (by simp [hd]))
theorem words_app (w r : List UInt8) (h : ∀ c ∈ w, c ≠ 44) : words (w ++ 44 :: r) = w :: words r := by
  induction w with
  | nil => simp [words]
  | cons c t ih =>
    rw [List.cons_append]
    exact words_other (h c (by simp)) (ih fun d hd => h d (by simp [hd]))
theorem join_two (x y : List UInt8) (r : List (List UInt8)) : Lib.join (x :: y :: r) [44] = x ++ 44 :: Lib.join (y :: r) [44] := by
  rw [Lib.join_cons, Lib.join_cons]; simp [Lib.joinTail]
theorem words_join : ∀ (ws : List (List UInt8)), ws ≠ [] → (∀ w ∈ ws, ∀ c ∈ w, c ≠ 44) → words (Lib.join ws [44]) = ws
  | [], h, _ => absurd rfl h
  | [w], _, h => by rw [Lib.join_one]; exact words_one w (h w (by simp))
  | w :: y :: r, _, h => by
    rw [join_two, words_app _ _ (h w (by simp)), words_join (y :: r) (by simp) fun v hv => h v (by simp at hv ⊢; exact Or.inr hv)]
theorem join_words (s : List UInt8) : Lib.join (words s) [44] = s := by
  induction s with
  | nil => simp [words, Lib.join_one]
  | cons c r ih =>
    cases hw : words r with
    | nil => exact absurd hw (words_ne r)
    | cons x t =>
      rw [hw] at ih
      by_cases h : c = 44
      · subst h
        rw [show words (44 :: r) = [] :: words r by simp [words], hw, join_two, ih]; rfl
      · rw [words_other h hw]
        rw [Lib.join_cons] at ih ⊢
        rw [List.cons_append, ih]
theorem go_words : ∀ (l acc : List Int), (∀ x ∈ l, badCell x = false) → acc.length + l.length ≤ 8 → goL acc (l.map word) = (acc ++ l, 0)
  | [], acc, _, h => by rw [List.map_nil, go_few (by simpa using h), List.append_nil]
  | x :: t, acc, hb, h => by
    rw [List.map_cons, go_some (cell_word (hb x (by simp))), go_words t _ (fun y hy => hb y (by simp [hy])) (by simp at h ⊢; omega)]
    simp
/-- WHAT IS WRITTEN IS READ AS IT WAS -/
theorem parse_show (l : List Int) (h : rowF l = 0) : parseL (showL l) = (l, 0) := by
  obtain ⟨h1, h2⟩ := (row_ok l).1 h
  cases l with
  | nil => rfl
  | cons x t =>
    have hne : showL (x :: t) ≠ [] := by
      unfold showL; rw [List.map_cons, Lib.join_cons]
      have := word_ne x
      intro e; rw [List.append_eq_nil_iff] at e; exact this e.1
    unfold parseL
    rw [if_neg hne]
    unfold showL
    rw [words_join _ (by simp) fun w hw => by
      rw [List.mem_map] at hw; obtain ⟨y, _, rfl⟩ := hw; exact word_no y]
    rw [go_words _ [] h2 (by simpa using h1)]
    rfl
theorem go_back : ∀ (ws : List (List UInt8)) (acc l : List Int), (∀ x ∈ acc, badCell x = false) → goL acc ws = (l, 0) → l.length ≤ 8 ∧ (∀ x ∈ l, badCell x = false) ∧ l.map word = acc.map word ++ ws
  | [], acc, l, ha, h => by
    unfold goL at h
    split at h
    · injection h with _ h; cases h
    · injection h with h _; subst h; exact ⟨by omega, ha, by simp⟩
  | w :: t, acc, l, ha, h => by
    cases hc : cellOf w with
    | none => rw [go_none hc] at h; injection h with _ h; cases h
    | some c =>
      rw [go_some hc] at h
      obtain ⟨e1, e2⟩ := word_cell hc
      obtain ⟨g1, g2, g3⟩ := go_back t (acc ++ [c]) l (by intro x hx; rw [List.mem_append] at hx; rcases hx with hx | hx
                                                          · exact ha x hx
                                                          · simp at hx; subst hx; exact e2) h
      exact ⟨g1, g2, by rw [g3]; simp [e1]⟩
/-- WHAT IS READ IS WRITTEN AS IT WAS -/
theorem show_parse (s : List UInt8) (h : (parseL s).2 = 0) : rowF (parseL s).1 = 0 ∧ showL (parseL s).1 = s := by
  by_cases hs : s = []
  · subst hs; exact ⟨rfl, rfl⟩
  · have e : parseL s = goL [] (words s) := by unfold parseL; rw [if_neg hs]
    rw [e] at h ⊢
    obtain ⟨g1, g2, g3⟩ := go_back (words s) [] (goL [] (words s)).1 (by simp) (by rw [← h])
    refine ⟨(row_ok _).2 ⟨g1, g2⟩, ?_⟩
    unfold showL
    rw [g3]
    simp [join_words]

/-- the row that is read, capped: one cell too many is enough -/
def capI (l : List Int) (c : Int) : List Int := if l.length ≤ 8 then l ++ [c] else l
theorem cap_take (acc : List Int) (c : Int) : capI (acc.take 9) c = (acc ++ [c]).take 9 := by
  unfold capI
  by_cases h : acc.length ≤ 8
  · rw [List.take_of_length_le (by omega), if_pos (by omega), List.take_of_length_le (by simp; omega)]
  · rw [if_neg (by rw [List.length_take]; omega), List.take_append_of_le_length (by omega)]
theorem take_many (acc : List Int) : 8 < (acc.take 9).length ↔ 8 < acc.length := by rw [List.length_take]; omega
theorem take_few {acc : List Int} (h : acc.length ≤ 8) : acc.take 9 = acc := List.take_of_length_le (by omega)
end Go.Proofs.YtiggkjkjfnlfkaaGreatDoor.M
