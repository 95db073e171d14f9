/-
  Several texts as one: MathX, MathG, MathJ, GFix, FixAny, Nodes.
-/
import Derived.Test.YtelncekgjfpogahGreatDoorRunT3
import Derived.Test.YtelncekgjfpogahGreatDoorRunT1
import Derived.Deep.Matrix
import Derived.Deep.Strs
namespace Go.Proofs.YtelncekgjfpogahGreatDoor.M
set_option linter.unusedVariables false
def norm (s : Sp) : Sp := if s.2.1 < s.1 then (1, 0, s.2.2) else s
def hasS (s : Sp) : Bool := decide (s.1 ≤ s.2.1) || s.2.2
def anyS (l : List Sp) : Bool := l.all hasS
theorem has_norm (s : Sp) : hasS (norm s) = hasS s := by
  unfold hasS norm
  by_cases h : s.2.1 < s.1
  · rw [if_pos h, decide_eq_false (show ¬ s.1 ≤ s.2.1 by omega)]; simp
  · rw [if_neg h]
theorem any_norm (l : List Sp) : anyS (l.map norm) = anyS l := by
  unfold anyS
  rw [List.all_map]
  congr 1
  funext s
  exact has_norm s
theorem has_in {c : Int} {s : Sp} (h : inS c s = true) : hasS s = true := by
  unfold hasS
  by_cases hc : c = nilI
  · rw [in_nil hc] at h; rw [h]; simp
  · rw [in_num hc] at h
    simp at h
    rw [decide_eq_true (show s.1 ≤ s.2.1 by omega)]; rfl
theorem getD_at {α : Type} {l : List α} {i : Nat} {d : α} (h : i < l.length) : l.getD i d = l[i] := by rw [List.getD, List.getElem?_eq_getElem h]; rfl
theorem any_within {r : List Int} {l : List Sp} (h : within r l) : anyS l = true := by
  unfold anyS
  rw [List.all_eq_true]
  intro s hs
  obtain ⟨i, hi, rfl⟩ := List.getElem_of_mem hs
  have := h i hi
  rw [getD_at hi] at this
  exact has_in this
def pickC (s : Sp) : Int := if s.1 ≤ s.2.1 then s.1 else nilI
def pick (l : List Sp) : List Int := l.map pickC
theorem pick_norm (s : Sp) (h : hasS s = true) : inS (pickC (norm s)) s = true ∨ outI s.1 = true := by
  cases ho : outI s.1 with
  | true => exact .inr rfl
  | false =>
    left
    unfold norm pickC
    by_cases hc : s.2.1 < s.1
    · rw [if_pos hc]
      rw [if_neg (by simp)]
      rw [in_nil rfl]
      unfold hasS at h
      rw [decide_eq_false (show ¬ s.1 ≤ s.2.1 by omega)] at h
      simpa using h
    · rw [if_neg hc, if_pos (by omega), in_num (ne_nil ho)]
      rw [decide_eq_true (Int.le_refl _), decide_eq_true (show s.1 ≤ s.2.1 by omega)]; rfl
def sp1F (s : Sp) : Int := if outI s.1 = true ∨ outI s.2.1 = true then 1 else if hasS s = false then 5 else 0
def spF (l : List Sp) : Int := if 8 < l.length then 4 else match firstN (fun i => !decide (sp1F (l.getD i (0, 0, false)) = 0)) l.length with
  | some i => sp1F (l.getD i (0, 0, false))
  | none => 0
theorem sp_ok {l : List Sp} (h8 : l.length ≤ 8) (h : ∀ s ∈ l, sp1F s = 0) : spF l = 0 := by
  unfold spF
  rw [if_neg (by omega), first_miss (fun j hj => by rw [getD_at hj, h _ (List.getElem_mem hj)]; rfl)]
def okS (s : Sp) : Prop := -1000000 ≤ s.1 ∧ s.1 ≤ 1000000 ∧ -1000001 ≤ s.2.1 ∧ s.2.1 ≤ 1000000
theorem ok_narrow {n : Nd} {b : Bool} {s : Sp} (h : okS s) (hc : outI (nc n) = false) : okS (narrow n b s) := by
  have := out_false hc
  unfold okS at *
  unfold narrow
  cases b with
  | true =>
    simp only [if_true]
    split <;> omega
  | false =>
    simp only [Bool.false_eq_true, if_false]
    split <;> omega
theorem reg_ok {t : List Nd} {m : Nat} (F : Fair t (m : Int)) : ∀ (f k : Nat) (l : List Sp), k < t.length → l.length = m → (∀ s ∈ l, okS s) → ∀ s ∈ regD t f k l, okS s
  | 0, k, l, hk, hm, hl => hl
  | f + 1, k, l, hk, hm, hl => by
    unfold regD
    cases e : abv t k with
    | none => exact hl
    | some u =>
      obtain ⟨h1, h2⟩ := (abv_iff F hk).1 e
      have q := node_ask (F.2.2.2.2.1 u h1) h2.1
      have hi : (nf (nAt t u)).toNat < l.length := by have := q.1; have := q.2.1; omega
      refine reg_ok F f u _ h1 (by rw [List.length_set]; exact hm) ?_
      intro s hs
      rcases List.mem_or_eq_of_mem_set hs with g | g
      · exact hl s g
      · rw [g, getD_at hi]; exact ok_narrow (hl _ (List.getElem_mem hi)) q.2.2.1
theorem region_ok {t : List Nd} {m : Nat} (F : Fair t (m : Int)) {k : Nat} (hk : k < t.length) : ∀ s ∈ region t m k, okS s := by
  unfold region
  refine reg_ok F t.length k _ hk (by simp) ?_
  intro s hs
  rw [List.mem_replicate] at hs
  rw [hs.2]
  unfold okS all0
  simp
theorem out_in {x : Int} (h1 : -1000000 ≤ x) (h2 : x ≤ 1000000) : outI x = false := by
  unfold outI
  rw [decide_eq_false (show ¬ x < -1000000 by omega), decide_eq_false (show ¬ 1000000 < x by omega)]; rfl
def rch (t : List Nd) (m : Nat) : Nat → List Int
  | 0 => []
  | k + 1 => if leafB (nAt t k) = true ∧ anyS (region t m k) = true then rch t m k ++ [(k : Int)] else rch t m k
theorem rch_len (t : List Nd) (m : Nat) : ∀ k, (rch t m k).length ≤ k
  | 0 => by unfold rch; simp
  | k + 1 => by
    unfold rch
    have := rch_len t m k
    split
    · simp; omega
    · omega
theorem rch_mem (t : List Nd) (m : Nat) : ∀ (k : Nat) (x : Int), x ∈ rch t m k ↔ ∃ j : Nat, x = j ∧ j < k ∧ leafB (nAt t j) = true ∧ anyS (region t m j) = true
  | 0, x => by
    unfold rch
    constructor
    · intro h; simp at h
    · rintro ⟨j, _, h, _⟩; omega
  | k + 1, x => by
    unfold rch
    have ih := rch_mem t m k x
    by_cases h : leafB (nAt t k) = true ∧ anyS (region t m k) = true
    · rw [if_pos h, List.mem_append, ih]
      constructor
      · rintro (⟨j, e, h1, h2⟩ | q)
        · exact ⟨j, e, by omega, h2⟩
        · exact ⟨k, by simpa using q, by omega, h⟩
      · rintro ⟨j, e, h1, h2⟩
        by_cases hj : j = k
        · subst hj; exact .inr (by simp [e])
        · exact .inl ⟨j, e, by omega, h2⟩
    · rw [if_neg h, ih]
      constructor
      · rintro ⟨j, e, h1, h2⟩; exact ⟨j, e, by omega, h2⟩
      · rintro ⟨j, e, h1, h2⟩
        by_cases hj : j = k
        · subst hj; exact absurd h2 h
        · exact ⟨j, e, by omega, h2⟩
def lfD (t : List Nd) : Nat → Nat → Nat
  | 0, _ => 0
  | f + 1, i => if nf (nAt t i) = -1 then 1 else lfD t f (nl (nAt t i)).toNat + lfD t f (nr (nAt t i)).toNat
def lfs (t : List Nd) (i : Nat) : Nat := lfD t t.length i
theorem lf_enough {t : List Nd} {m : Int} (h : Right t m) : ∀ (f g i : Nat), i < t.length → t.length ≤ f + i → t.length ≤ g + i → lfD t f i = lfD t g i
  | 0, g, i, hi, hf, hg => by omega
  | f + 1, 0, i, hi, hf, hg => by omega
  | f + 1, g + 1, i, hi, hf, hg => by
    unfold lfD
    by_cases hl : nf (nAt t i) = -1
    · rw [if_pos hl, if_pos hl]
    · rw [if_neg hl, if_neg hl]
      obtain ⟨a, b, ea, eb, h1, h2, h3, h4, _⟩ := ask_at h hi hl
      rw [ea, eb, Int.toNat_natCast, Int.toNat_natCast, lf_enough h f g a h2 (by omega) (by omega), lf_enough h f g b h4 (by omega) (by omega)]
theorem lfs_leaf {t : List Nd} {i : Nat} (hi : i < t.length) (hl : nf (nAt t i) = -1) : lfs t i = 1 := by
  unfold lfs
  obtain ⟨f, e⟩ : ∃ f, t.length = f + 1 := ⟨t.length - 1, by omega⟩
  rw [e]; unfold lfD; rw [if_pos hl]
theorem lfs_ask {t : List Nd} {m : Int} (h : Right t m) {i a b : Nat} (hi : i < t.length) (hl : nf (nAt t i) ≠ -1) (ea : nl (nAt t i) = a) (eb : nr (nAt t i) = b) : lfs t i = lfs t a + lfs t b := by
  obtain ⟨a', b', ea', eb', h1, h2, h3, h4, _⟩ := ask_at h hi hl
  have qa : a' = a := by omega
  have qb : b' = b := by omega
  subst qa; subst qb
  unfold lfs
  obtain ⟨f, e⟩ : ∃ f, t.length = f + 1 := ⟨t.length - 1, by omega⟩
  rw [show lfD t t.length i = lfD t f (nl (nAt t i)).toNat + lfD t f (nr (nAt t i)).toNat by rw [e]; conv => lhs; unfold lfD; rw [if_neg hl]]
  rw [ea, eb, Int.toNat_natCast, Int.toNat_natCast, lf_enough h f t.length a' h2 (by omega) (by omega), lf_enough h f t.length b' h4 (by omega) (by omega)]
def rest (t : List Nd) (k j : Nat) : Nat := if k ≤ j ∧ (j = 0 ∨ ups (t.take k) j = 1) then lfs t j else 0
theorem sumN_three {g h : Nat → Nat} {k a b : Nat} : ∀ n, (∀ i, i < n → i ≠ k → i ≠ a → i ≠ b → g i = h i) → sumN g n + (if k < n then h k else 0) + (if a < n ∧ a ≠ k then h a else 0) + (if b < n ∧ b ≠ k ∧ b ≠ a then h b else 0) = sumN h n + (if k < n then g k else 0) + (if a < n ∧ a ≠ k then g a else 0) + (if b < n ∧ b ≠ k ∧ b ≠ a then g b else 0)
  | 0, _ => by simp [sumN]
  | n + 1, H => by
    have ih := sumN_three n (g := g) (h := h) (k := k) (a := a) (b := b) fun i hi => H i (by omega)
    unfold sumN
    by_cases e1 : n = k
    · subst e1
      have c1 : ¬ n < n := by omega
      simp only [c1, if_false] at ih
      have c2 : n < n + 1 := by omega
      simp only [c2, if_true]
      by_cases ha : a < n ∧ a ≠ n
      · have : a < n + 1 ∧ a ≠ n := ⟨by omega, ha.2⟩
        simp only [ha, this, and_self, if_true, ne_eq, not_false_eq_true] at ih ⊢
        by_cases hb : b < n ∧ b ≠ n ∧ b ≠ a
        · have : b < n + 1 ∧ b ≠ n ∧ b ≠ a := ⟨by omega, hb.2⟩
          rw [if_pos hb, if_pos hb] at ih; rw [if_pos this, if_pos this]; omega
        · have : ¬ (b < n + 1 ∧ b ≠ n ∧ b ≠ a) := fun q => hb ⟨by omega, q.2⟩
          rw [if_neg hb, if_neg hb] at ih; rw [if_neg this, if_neg this]; omega
      · have : ¬ (a < n + 1 ∧ a ≠ n) := fun q => ha ⟨by omega, q.2⟩
        rw [if_neg ha, if_neg ha] at ih; rw [if_neg this, if_neg this]
        by_cases hb : b < n ∧ b ≠ n ∧ b ≠ a
        · have : b < n + 1 ∧ b ≠ n ∧ b ≠ a := ⟨by omega, hb.2⟩
          rw [if_pos hb, if_pos hb] at ih; rw [if_pos this, if_pos this]; omega
        · have : ¬ (b < n + 1 ∧ b ≠ n ∧ b ≠ a) := fun q => hb ⟨by omega, q.2⟩
          rw [if_neg hb, if_neg hb] at ih; rw [if_neg this, if_neg this]; omega
    · have k1 : (k < n + 1) ↔ (k < n) := by omega
      by_cases e2 : n = a
      · subst e2
        have a1 : ¬ (n < n ∧ n ≠ k) := by omega
        have a2 : n < n + 1 ∧ n ≠ k := ⟨by omega, e1⟩
        rw [if_neg a1, if_neg a1] at ih
        rw [if_pos a2, if_pos a2]
        by_cases hb : b < n ∧ b ≠ k ∧ b ≠ n
        · have : b < n + 1 ∧ b ≠ k ∧ b ≠ n := ⟨by omega, hb.2⟩
          rw [if_pos hb, if_pos hb] at ih; rw [if_pos this, if_pos this]
          by_cases hk : k < n
          · rw [if_pos hk, if_pos hk] at ih; rw [if_pos (k1.2 hk), if_pos (k1.2 hk)]; omega
          · rw [if_neg hk, if_neg hk] at ih; rw [if_neg (fun q => hk (k1.1 q)), if_neg (fun q => hk (k1.1 q))]; omega
        · have : ¬ (b < n + 1 ∧ b ≠ k ∧ b ≠ n) := fun q => hb ⟨by omega, q.2⟩
          rw [if_neg hb, if_neg hb] at ih; rw [if_neg this, if_neg this]
          by_cases hk : k < n
          · rw [if_pos hk, if_pos hk] at ih; rw [if_pos (k1.2 hk), if_pos (k1.2 hk)]; omega
          · rw [if_neg hk, if_neg hk] at ih; rw [if_neg (fun q => hk (k1.1 q)), if_neg (fun q => hk (k1.1 q))]; omega
      · have a1 : (a < n + 1 ∧ a ≠ k) ↔ (a < n ∧ a ≠ k) := by omega
        by_cases e3 : n = b
        · subst e3
          have b1 : ¬ (n < n ∧ n ≠ k ∧ n ≠ a) := by omega
          have b2 : n < n + 1 ∧ n ≠ k ∧ n ≠ a := ⟨by omega, e1, e2⟩
          rw [if_neg b1, if_neg b1] at ih
          rw [if_pos b2, if_pos b2]
          simp only [k1, a1]
          omega
        · have b1 : (b < n + 1 ∧ b ≠ k ∧ b ≠ a) ↔ (b < n ∧ b ≠ k ∧ b ≠ a) := by omega
          have := H n (by omega) e1 e2 e3
          simp only [k1, a1, b1]
          omega
theorem edge_no {t : List Nd} {m : Int} (h : Right t m) {i j : Nat} (hi : i < t.length) (hj : j ≤ i) : edge (j : Int) t[i] = 0 := by
  rcases Nat.eq_zero_or_pos (edge (j : Int) t[i]) with e | e
  · exact e
  · have hc := edge_pos.1 e
    rw [← nAt_eq hi] at hc
    obtain ⟨a, b, ea, eb, h1, h2, h3, h4, _⟩ := ask_at h hi hc.1
    have := hc.2
    omega
theorem ups_own {t : List Nd} {m : Int} (h : Right t m) (j : Nat) : ∀ k, j ≤ k → k ≤ t.length → ups (t.take k) (j : Int) = ups (t.take j) (j : Int)
  | 0, h1, h2 => by have : j = 0 := by omega
                    subst this; rfl
  | k + 1, h1, h2 => by
    by_cases e : j = k + 1
    · rw [e]
    · rw [ups_take (by omega), edge_no h (by omega) (by omega), ups_own h j k (by omega) (by omega)]; rfl
theorem ups_mono {t : List Nd} (j : Int) (k : Nat) : ∀ d, k + d ≤ t.length → ups (t.take k) j ≤ ups (t.take (k + d)) j
  | 0, _ => Nat.le_refl _
  | d + 1, h => by
    have := ups_mono (t := t) j k d (by omega)
    have e := ups_take (t := t) (k := k + d) (by omega) j
    rw [show k + (d + 1) = k + d + 1 by omega, e]; omega
theorem count_step {t : List Nd} {m : Int} (F : Fair t m) {k : Nat} (hk : k < t.length) : (lvs t (k + 1)).length + sumN (rest t (k + 1)) t.length = (lvs t k).length + sumN (rest t k) t.length := by
  have hR := F.2.2.2.2.1
  have own : rest t k k = lfs t k := by
    unfold rest
    rw [if_pos]
    refine ⟨Nat.le_refl _, ?_⟩
    by_cases e : k = 0
    · exact .inl e
    · right
      have := ups_own hR k t.length (by omega) (Nat.le_refl _)
      rw [List.take_length, F.2.2.2.2.2 k (by omega) hk] at this
      exact this.symm
  have gone : rest t (k + 1) k = 0 := by unfold rest; rw [if_neg (by omega)]
  have same : ∀ i, i ≠ k → edge (i : Int) t[k] = 0 → rest t (k + 1) i = rest t k i := by
    intro i hi he
    unfold rest
    rw [ups_take hk, he, Nat.add_zero]
    by_cases h1 : k + 1 ≤ i
    · by_cases h2 : i = 0 ∨ ups (t.take k) (i : Int) = 1
      · rw [if_pos ⟨h1, h2⟩, if_pos ⟨by omega, h2⟩]
      · rw [if_neg (fun q => h2 q.2), if_neg (fun q => h2 q.2)]
    · rw [if_neg (fun q => h1 q.1), if_neg (fun q => h1 (by omega))]
  by_cases hl : nf (nAt t k) = -1
  · have he : ∀ i : Nat, edge (i : Int) t[k] = 0 := fun i => by rw [← nAt_eq hk]; unfold edge; rw [if_pos hl]
    have q := sumN_three (g := rest t (k + 1)) (h := rest t k) (k := k) (a := k) (b := k) t.length fun i _ h1 _ _ => same i h1 (he i)
    rw [if_pos hk, if_pos hk, if_neg (by omega), if_neg (by omega), if_neg (by omega), if_neg (by omega), own, gone, lfs_leaf hk hl] at q
    have e : lvs t (k + 1) = lvs t k ++ [(k : Int)] := by
      show (if leafB (nAt t k) = true then lvs t k ++ [(k : Int)] else lvs t k) = _
      rw [if_pos (by unfold leafB; simp [hl])]
    rw [e, List.length_append]
    simp only [List.length_singleton]
    omega
  · obtain ⟨a, b, ea, eb, h1, h2, h3, h4, hab⟩ := ask_at hR hk hl
    have ed : ∀ i : Nat, edge (i : Int) t[k] = (if (a : Int) = i then 1 else 0) + (if (b : Int) = i then 1 else 0) := fun i => by rw [← nAt_eq hk]; unfold edge; rw [if_neg hl, ea, eb]
    have child : ∀ c : Nat, c < t.length → k < c → edge (c : Int) t[k] = 1 → rest t k c = 0 ∧ rest t (k + 1) c = lfs t c := by
      intro c hc hkc he
      have u1 := F.2.2.2.2.2 c (by omega) hc
      have u2 := ups_mono (t := t) (c : Int) (k + 1) (t.length - (k + 1)) (by omega)
      rw [show k + 1 + (t.length - (k + 1)) = t.length by omega, List.take_length, u1, ups_take hk, he] at u2
      constructor
      · unfold rest; rw [if_neg (by omega)]
      · unfold rest
        rw [if_pos]
        refine ⟨by omega, .inr ?_⟩
        rw [ups_take hk, he]; omega
    have ca := child a h2 h1 (by rw [ed, if_pos rfl, if_neg (by omega)])
    have cb := child b h4 h3 (by rw [ed, if_neg (by omega), if_pos rfl])
    have q := sumN_three (g := rest t (k + 1)) (h := rest t k) (k := k) (a := a) (b := b) t.length fun i _ i1 i2 i3 => same i i1 (by rw [ed, if_neg (by omega), if_neg (by omega)])
    have A : a < t.length ∧ a ≠ k := ⟨h2, by omega⟩
    have B : b < t.length ∧ b ≠ k ∧ b ≠ a := ⟨h4, by omega, by omega⟩
    rw [if_pos hk, if_pos hk, if_pos A, if_pos A, if_pos B, if_pos B, own, gone, ca.1, ca.2, cb.1, cb.2, lfs_ask hR hk hl ea eb] at q
    have e : lvs t (k + 1) = lvs t k := by
      show (if leafB (nAt t k) = true then lvs t k ++ [(k : Int)] else lvs t k) = _
      rw [if_neg (by unfold leafB; simp [hl])]
    rw [e]
    omega
theorem count_all {t : List Nd} {m : Int} (F : Fair t m) : ∀ k, k ≤ t.length → (lvs t k).length + sumN (rest t k) t.length = sumN (rest t 0) t.length
  | 0, _ => by simp [lvs]
  | k + 1, h => by rw [count_step F (by omega)]; exact count_all F k (by omega)
theorem leaves_count {t : List Nd} {m : Int} (F : Fair t m) : (lvs t t.length).length = lfs t 0 := by
  have h := count_all F t.length (Nat.le_refl _)
  have e1 : sumN (rest t t.length) t.length = 0 := by
    rw [sumN_congr (g := fun _ => 0) (fun i hi => by unfold rest; rw [if_neg (by omega)]), sumN_zero]
  have e2 : sumN (rest t 0) t.length = lfs t 0 := by
    have : ∀ n, 0 < n → sumN (rest t 0) n = lfs t 0 := by
      intro n
      induction n with
      | zero => intro h; omega
      | succ n ih =>
        intro _
        unfold sumN
        by_cases e : n = 0
        · subst e; unfold sumN rest; simp
        · rw [ih (by omega)]
          have : rest t 0 n = 0 := by
            unfold rest
            rw [if_neg]
            rintro ⟨_, q | q⟩
            · exact e q
            · simp [ups] at q
          omega
    exact this _ F.2.1
  omega
abbrev Gv := Int × Int × List Int × List (List Nd)
abbrev gf (g : Gv) : Int := g.1
abbrev gw (g : Gv) : Int := g.2.1
abbrev gs (g : Gv) : List Int := g.2.2.1
abbrev gt (g : Gv) : List (List Nd) := g.2.2.2
def wBad (w : Int) : Bool := decide (w < 1) || decide (1000 < w)
theorem wbad_false {w : Int} (h : wBad w = false) : 1 ≤ w ∧ w ≤ 1000 := by
  unfold wBad at h
  rw [Bool.or_eq_false_iff] at h
  have h1 := of_decide_eq_false h.1
  have h2 := of_decide_eq_false h.2
  omega
theorem wbad_ok {w : Int} (h1 : 1 ≤ w) (h2 : w ≤ 1000) : wBad w = false := by
  unfold wBad
  rw [decide_eq_false (by omega), decide_eq_false (by omega)]; rfl
def treesF (f : Int) (ts : List (List Nd)) : Int := match firstN (fun i => !decide ((treeF (ts.getD i []) f).2 = 0)) ts.length with
  | some i => (treeF (ts.getD i []) f).2
  | none => 0
theorem trees_at {f : Int} {ts : List (List Nd)} {k : Nat} (hk : k < ts.length) (h : ∀ j, j < k → (treeF (ts.getD j []) f).2 = 0) (hn : (treeF (ts.getD k []) f).2 ≠ 0) : treesF f ts = (treeF (ts.getD k []) f).2 := by
  unfold treesF
  rw [first_hit (k := k) (by show (!decide ((treeF (ts.getD k []) f).2 = 0)) = true; rw [decide_eq_false hn]; rfl) (fun j hj => by show (!decide ((treeF (ts.getD j []) f).2 = 0)) = false; rw [decide_eq_true (h j hj)]; rfl) hk]
theorem trees_all {f : Int} {ts : List (List Nd)} (h : ∀ j, j < ts.length → (treeF (ts.getD j []) f).2 = 0) : treesF f ts = 0 := by
  unfold treesF
  rw [first_miss (fun j hj => by show (!decide ((treeF (ts.getD j []) f).2 = 0)) = false; rw [decide_eq_true (h j hj)]; rfl)]
theorem trees_zero {f : Int} {ts : List (List Nd)} (h : treesF f ts = 0) : ∀ j, j < ts.length → (treeF (ts.getD j []) f).2 = 0 := by
  unfold treesF at h
  split at h
  · rename_i i e
    have q := (first_some e).2
    rw [decide_eq_true h] at q
    cases q
  · rename_i e
    intro j hj
    have := first_none e j hj
    simpa using this
def groveF (g : Gv) : Int :=
  if gf g < 0 ∨ 8 < gf g ∨ gw g < 1 ∨ 3 < gw g then 1
  else if (gt g).length = 0 then 5
  else if 12 < (gt g).length then 4
  else if (gs g).length ≠ (gt g).length then 3
  else if (gs g).any wBad = true then 1
  else treesF (gf g) (gt g)
structure Good (g : Gv) : Prop where
  f0 : 0 ≤ gf g
  f8 : gf g ≤ 8
  w1 : 1 ≤ gw g
  w3 : gw g ≤ 3
  t0 : 0 < (gt g).length
  t12 : (gt g).length ≤ 12
  len : (gs g).length = (gt g).length
  wts : ∀ w ∈ gs g, 1 ≤ w ∧ w ≤ 1000
  trees : ∀ t ∈ gt g, (treeF t (gf g)).2 = 0
theorem good_iff (g : Gv) : groveF g = 0 ↔ Good g := by
  constructor
  · intro h
    unfold groveF at h
    split at h
    · cases h
    · rename_i h1
      split at h
      · cases h
      · rename_i h2
        split at h
        · cases h
        · rename_i h3
          split at h
          · cases h
          · rename_i h4
            split at h
            · cases h
            · rename_i h5
              refine ⟨by omega, by omega, by omega, by omega, by omega, by omega, by omega, ?_, ?_⟩
              · intro w hw
                apply wbad_false
                cases e : wBad w with
                | false => rfl
                | true => exact absurd (List.any_eq_true.2 ⟨w, hw, e⟩) h5
              · intro t ht
                obtain ⟨i, hi, rfl⟩ := List.getElem_of_mem ht
                have := trees_zero h i hi
                rwa [getD_at hi] at this
  · intro h
    unfold groveF
    rw [if_neg (by have := h.f0; have := h.f8; have := h.w1; have := h.w3; omega), if_neg (by have := h.t0; omega), if_neg (by have := h.t12; omega), if_neg (by have := h.len; omega), if_neg, trees_all]
    · intro j hj
      rw [getD_at hj]; exact h.trees _ (List.getElem_mem hj)
    · intro hc
      obtain ⟨w, hw, e⟩ := List.any_eq_true.1 hc
      have := h.wts w hw
      rw [wbad_ok this.1 this.2] at e
      cases e
def standF (g : Gv) (r : List Int) : Int := if groveF g ≠ 0 then groveF g else if rowF r ≠ 0 then rowF r else if (r.length : Int) ≠ gf g then 3 else 0
theorem stand_ok {g : Gv} {r : List Int} (h : standF g r = 0) : Good g ∧ rowF r = 0 ∧ (r.length : Int) = gf g := by
  unfold standF at h
  split at h
  · rename_i h1; exact absurd h h1
  · rename_i h1
    split at h
    · rename_i h2; exact absurd h h2
    · rename_i h2
      split at h
      · cases h
      · rename_i h3
        exact ⟨(good_iff g).1 (by simpa using h1), by simpa using h2, by simpa using h3⟩
theorem stand_of {g : Gv} {r : List Int} (h1 : Good g) (h2 : rowF r = 0) (h3 : (r.length : Int) = gf g) : standF g r = 0 := by
  unfold standF
  rw [if_neg (by simp [(good_iff g).2 h1]), if_neg (by simp [h2]), if_neg (by simp [h3])]
theorem stand_ready {g : Gv} {r : List Int} (h : standF g r = 0) {t : List Nd} (ht : t ∈ gt g) : readyF t r = 0 := by
  obtain ⟨h1, h2, h3⟩ := stand_ok h
  rw [ready_tree h2, h3]
  exact h1.trees t ht
def eachL (g : Gv) (r : List Int) : List Int := (gt g).map fun t => evalV t r
def eachV (g : Gv) (r : List Int) : List Int := if standF g r = 0 then eachL g r else []
theorem each_len (g : Gv) (r : List Int) : (eachL g r).length = (gt g).length := by unfold eachL; simp
theorem each_at (g : Gv) (r : List Int) {i : Nat} (hi : i < (gt g).length) : (eachL g r).getD i 0 = evalV ((gt g).getD i []) r := by
  rw [getD_at (by rw [each_len]; exact hi), getD_at hi]; simp [eachL]
def sumK (l ws : List Int) : Nat → Int
  | 0 => 0
  | k + 1 => sumK l ws k + l.getD k 0 * ws.getD k 0
def allK (ws : List Int) : Nat → Int
  | 0 => 0
  | k + 1 => allK ws k + ws.getD k 0
def votK (l ws : List Int) (v : Int) : Nat → Int
  | 0 => 0
  | k + 1 => votK l ws v k + if l.getD k 0 = v then ws.getD k 0 else 0
def bestK (l ws : List Int) : Nat → Int × Int
  | 0 => (0, 0)
  | k + 1 => if (bestK l ws k).1 < votK l ws (l.getD k 0) l.length ∨ (votK l ws (l.getD k 0) l.length = (bestK l ws k).1 ∧ l.getD k 0 < (bestK l ws k).2) then (votK l ws (l.getD k 0) l.length, l.getD k 0) else bestK l ws k
def together (w : Int) (ws l : List Int) : Int := if w = 1 then sumK l ws l.length else if w = 2 then sumK l ws l.length / allK ws l.length else (bestK l ws l.length).2
def evalG (g : Gv) (r : List Int) : Int := if standF g r = 0 then together (gw g) (gs g) (eachL g r) else 0
theorem vot_pos {l ws : List Int} (hw : ∀ i, i < l.length → 1 ≤ ws.getD i 0) (v : Int) : ∀ k, k ≤ l.length → 0 ≤ votK l ws v k ∧ ∀ j, j < k → l.getD j 0 = v → 1 ≤ votK l ws v k
  | 0, _ => ⟨Int.le_refl _, fun j h => by omega⟩
  | k + 1, hk => by
    obtain ⟨h1, h2⟩ := vot_pos hw v k (by omega)
    have hwk := hw k (by omega)
    unfold votK
    refine ⟨by split <;> omega, fun j hj e => ?_⟩
    by_cases q : j = k
    · subst q; rw [if_pos e]; omega
    · have := h2 j (by omega) e
      split <;> omega
theorem best_spec {l ws : List Int} (hw : ∀ i, i < l.length → 1 ≤ ws.getD i 0) : ∀ k, 0 < k → k ≤ l.length → (∃ j, j < k ∧ (bestK l ws k).2 = l.getD j 0) ∧ (bestK l ws k).1 = votK l ws (bestK l ws k).2 l.length ∧ ∀ i, i < k → votK l ws (l.getD i 0) l.length < (bestK l ws k).1 ∨ (votK l ws (l.getD i 0) l.length = (bestK l ws k).1 ∧ (bestK l ws k).2 ≤ l.getD i 0)
  | 0, h, _ => by omega
  | k + 1, _, hk => by
    by_cases hc : (bestK l ws k).1 < votK l ws (l.getD k 0) l.length ∨ (votK l ws (l.getD k 0) l.length = (bestK l ws k).1 ∧ l.getD k 0 < (bestK l ws k).2)
    · have e : bestK l ws (k + 1) = (votK l ws (l.getD k 0) l.length, l.getD k 0) := by rw [bestK, if_pos hc]
      rw [e]
      refine ⟨⟨k, by omega, rfl⟩, rfl, fun i hi => ?_⟩
      by_cases q : i = k
      · subst q; exact .inr ⟨rfl, Int.le_refl _⟩
      · by_cases k0 : k = 0
        · omega
        · have := (best_spec hw k (by omega) (by omega)).2.2 i (by omega)
          show votK l ws (l.getD i 0) l.length < votK l ws (l.getD k 0) l.length ∨ (votK l ws (l.getD i 0) l.length = votK l ws (l.getD k 0) l.length ∧ l.getD k 0 ≤ l.getD i 0)
          omega
    · have e : bestK l ws (k + 1) = bestK l ws k := by rw [bestK, if_neg hc]
      rw [e]
      by_cases k0 : k = 0
      · subst k0
        have := (vot_pos hw (l.getD 0 0) l.length (Nat.le_refl _)).2 0 (by omega) rfl
        exact absurd (.inl (show (bestK l ws 0).1 < _ by show (0 : Int) < _; omega)) hc
      · obtain ⟨⟨j, h1, h2⟩, h3, h4⟩ := best_spec hw k (by omega) (by omega)
        refine ⟨⟨j, by omega, h2⟩, h3, fun i hi => ?_⟩
        by_cases q : i = k
        · subst q; omega
        · exact h4 i (by omega)
theorem best_unique {l ws : List Int} (hw : ∀ i, i < l.length → 1 ≤ ws.getD i 0) (h0 : 0 < l.length) {b : Int} (hb : ∃ j, j < l.length ∧ b = l.getD j 0) (hm : ∀ i, i < l.length → votK l ws (l.getD i 0) l.length < votK l ws b l.length ∨ (votK l ws (l.getD i 0) l.length = votK l ws b l.length ∧ b ≤ l.getD i 0)) : (bestK l ws l.length).2 = b := by
  obtain ⟨⟨j, h1, h2⟩, h3, h4⟩ := best_spec hw l.length h0 (Nat.le_refl _)
  obtain ⟨i, h5, h6⟩ := hb
  have a := hm j h1
  have c := h4 i h5
  rw [← h2] at a
  rw [← h6, h3] at c
  omega
theorem sum_mono {l m ws : List Int} : ∀ k, (∀ i, i < k → l.getD i 0 ≤ m.getD i 0 ∧ 0 ≤ ws.getD i 0) → sumK l ws k ≤ sumK m ws k
  | 0, _ => Int.le_refl _
  | k + 1, h => by
    have ih := sum_mono (l := l) (m := m) (ws := ws) k fun i hi => h i (by omega)
    obtain ⟨h1, h2⟩ := h k (by omega)
    have := Int.mul_le_mul_of_nonneg_right h1 h2
    unfold sumK
    omega
theorem all_pos {ws : List Int} : ∀ k, (∀ i, i < k → 1 ≤ ws.getD i 0 ∧ ws.getD i 0 ≤ 1000) → (k : Int) ≤ allK ws k ∧ allK ws k ≤ 1000 * k
  | 0, _ => by simp [allK]
  | k + 1, h => by
    have ih := all_pos k fun i hi => h i (by omega)
    have := h k (by omega)
    unfold allK
    omega
theorem sum_bound {l ws : List Int} : ∀ k, (∀ i, i < k → -1000000 ≤ l.getD i 0 ∧ l.getD i 0 ≤ 1000000 ∧ 1 ≤ ws.getD i 0 ∧ ws.getD i 0 ≤ 1000) → -1000000000 * (k : Int) ≤ sumK l ws k ∧ sumK l ws k ≤ 1000000000 * (k : Int)
  | 0, _ => by simp [sumK]
  | k + 1, h => by
    have ih := sum_bound k fun i hi => h i (by omega)
    obtain ⟨h1, h2, h3, h4⟩ := h k (by omega)
    have a : l.getD k 0 * ws.getD k 0 ≤ 1000000 * 1000 := by
      have q1 : l.getD k 0 * ws.getD k 0 ≤ 1000000 * ws.getD k 0 := Int.mul_le_mul_of_nonneg_right h2 (by omega)
      omega
    have b : -1000000 * 1000 ≤ l.getD k 0 * ws.getD k 0 := by
      have q1 : -1000000 * ws.getD k 0 ≤ l.getD k 0 * ws.getD k 0 := Int.mul_le_mul_of_nonneg_right h1 (by omega)
      omega
    unfold sumK
    omega
theorem vot_bound {l ws : List Int} (v : Int) : ∀ k, (∀ i, i < k → 1 ≤ ws.getD i 0 ∧ ws.getD i 0 ≤ 1000) → 0 ≤ votK l ws v k ∧ votK l ws v k ≤ 1000 * k
  | 0, _ => by simp [votK]
  | k + 1, h => by
    have ih := vot_bound (l := l) v k fun i hi => h i (by omega)
    have := h k (by omega)
    unfold votK
    split <;> omega
def lvK (t : List Nd) : Nat → List Int
  | 0 => []
  | k + 1 => if leafB (nAt t k) = true then lvK t k ++ [nv (nAt t k)] else lvK t k
theorem lvK_mem (t : List Nd) : ∀ (k : Nat) (x : Int), x ∈ lvK t k ↔ ∃ j, j < k ∧ leafB (nAt t j) = true ∧ x = nv (nAt t j)
  | 0, x => by simp [lvK]
  | k + 1, x => by
    unfold lvK
    by_cases h : leafB (nAt t k) = true
    · rw [if_pos h, List.mem_append, lvK_mem t k x, List.mem_singleton]
      constructor
      · rintro (⟨j, h1, h2⟩ | rfl)
        · exact ⟨j, by omega, h2⟩
        · exact ⟨k, by omega, h, rfl⟩
      · rintro ⟨j, h1, h2, h3⟩
        by_cases q : j = k
        · subst q; exact .inr h3
        · exact .inl ⟨j, by omega, h2, h3⟩
    · rw [if_neg h, lvK_mem t k x]
      constructor
      · rintro ⟨j, h1, h2⟩
        exact ⟨j, by omega, h2⟩
      · rintro ⟨j, h1, h2, h3⟩
        by_cases q : j = k
        · subst q; exact absurd h2 h
        · exact ⟨j, by omega, h2, h3⟩
def lowL (l : List Int) : Int := (sortI l).getD 0 0
def highL (l : List Int) : Int := (sortI l).getD (l.length - 1) 0
theorem low_mem {l : List Int} (h : 0 < l.length) : lowL l ∈ l := by
  unfold lowL
  rw [getD_at (by rw [sort_length]; exact h)]
  exact (sort_perm l).mem_iff.1 (List.getElem_mem _)
theorem high_mem {l : List Int} (h : 0 < l.length) : highL l ∈ l := by
  unfold highL
  rw [getD_at (by rw [sort_length]; omega)]
  exact (sort_perm l).mem_iff.1 (List.getElem_mem _)
theorem low_le {l : List Int} {x : Int} (hx : x ∈ l) : lowL l ≤ x := by
  have hx' := (sort_perm l).mem_iff.2 hx
  obtain ⟨i, hi, rfl⟩ := List.getElem_of_mem hx'
  unfold lowL
  rw [getD_at (by omega)]
  rcases Nat.eq_zero_or_pos i with h | h
  · subst h; exact Int.le_refl _
  · exact List.pairwise_iff_getElem.1 (sort_pw l) 0 i (by omega) hi h
theorem high_ge {l : List Int} {x : Int} (hx : x ∈ l) : x ≤ highL l := by
  have hx' := (sort_perm l).mem_iff.2 hx
  obtain ⟨i, hi, rfl⟩ := List.getElem_of_mem hx'
  have hl : (sortI l).length = l.length := sort_length l
  unfold highL
  rw [getD_at (by omega)]
  by_cases h : i = l.length - 1
  · subst h; exact Int.le_refl _
  · exact List.pairwise_iff_getElem.1 (sort_pw l) i (l.length - 1) hi (by omega) (by omega)
theorem low_unique {l : List Int} {b : Int} (hb : b ∈ l) (h : ∀ x ∈ l, b ≤ x) : lowL l = b := by
  have h1 := low_le hb
  have h2 := h _ (low_mem (List.length_pos_of_mem hb))
  omega
theorem high_unique {l : List Int} {b : Int} (hb : b ∈ l) (h : ∀ x ∈ l, x ≤ b) : highL l = b := by
  have h1 := high_ge hb
  have h2 := h _ (high_mem (List.length_pos_of_mem hb))
  omega
def lowT (t : List Nd) : Int := lowL (lvK t t.length)
def highT (t : List Nd) : Int := highL (lvK t t.length)
theorem leafV_leaf' {t : List Nd} {r : List Int} (h : readyF t r = 0) : toD t r 0 < t.length ∧ nf (nAt t (toD t r 0)) = -1 := by
  have F := (tree_ok (ready_ok h).2).1
  exact to_end F.2.2.2.2.1 r t.length 0 F.2.1 (by omega)
theorem eval_mem {t : List Nd} {r : List Int} (h : readyF t r = 0) : evalV t r ∈ lvK t t.length := by
  have hl := leafV_leaf' h
  unfold evalV
  rw [if_pos h, lvK_mem]
  refine ⟨toD t r 0, hl.1, ?_, rfl⟩
  unfold leafB
  rw [hl.2]; rfl
theorem eval_between {t : List Nd} {r : List Int} (h : readyF t r = 0) : lowT t ≤ evalV t r ∧ evalV t r ≤ highT t := ⟨low_le (eval_mem h), high_ge (eval_mem h)⟩
theorem lv_in {t : List Nd} {m : Int} (F : Fair t m) : ∀ x ∈ lvK t t.length, -1000000 ≤ x ∧ x ≤ 1000000 := by
  intro x hx
  obtain ⟨j, h1, h2, rfl⟩ := (lvK_mem t _ x).1 hx
  have := F.2.2.2.2.1 j h1
  unfold leafB at h2
  unfold nodeF at this
  rw [if_pos (of_decide_eq_true h2)] at this
  unfold lfF at this
  split at this
  · cases this
  · rename_i hc
    exact out_false (by simpa using hc)
theorem lv_some {t : List Nd} {m : Int} (F : Fair t m) : 0 < (lvK t t.length).length := by
  have hR := F.2.2.2.2.1
  obtain ⟨h1, h2⟩ := to_end hR [] t.length 0 F.2.1 (by omega)
  exact List.length_pos_of_mem ((lvK_mem t _ _).2 ⟨_, h1, by unfold leafB; rw [h2]; rfl, rfl⟩)
def between (w : Int) (ws least most : List Int) : Int × Int := if w ≠ 3 then (together w ws least, together w ws most) else (lowL least, highL most)
def boundsV (g : Gv) : Int × Int := if groveF g = 0 then between (gw g) (gs g) ((gt g).map lowT) ((gt g).map highT) else (0, 0)
theorem wt_at {g : Gv} (h : Good g) {i : Nat} (hi : i < (gt g).length) : 1 ≤ (gs g).getD i 0 ∧ (gs g).getD i 0 ≤ 1000 := by
  have hl := h.len
  rw [getD_at (by omega)]
  exact h.wts _ (List.getElem_mem _)
theorem ediv_mono {a b c : Int} (h : a ≤ b) (hc : 0 < c) : a / c ≤ b / c := Int.ediv_le_ediv hc h
theorem eval_bounds {g : Gv} {r : List Int} (h : standF g r = 0) : (boundsV g).1 ≤ evalG g r ∧ evalG g r ≤ (boundsV g).2 := by
  obtain ⟨G, h2, h3⟩ := stand_ok h
  have hE := each_len g r
  have t0 := G.t0
  have bt : ∀ i, i < (gt g).length → ((gt g).map lowT).getD i 0 ≤ (eachL g r).getD i 0 ∧ (eachL g r).getD i 0 ≤ ((gt g).map highT).getD i 0 := by
    intro i hi
    have e1 : ((gt g).map lowT).getD i 0 = lowT (gt g)[i] := by rw [getD_at (by simpa using hi)]; simp
    have e2 : ((gt g).map highT).getD i 0 = highT (gt g)[i] := by rw [getD_at (by simpa using hi)]; simp
    rw [each_at g r hi, e1, e2, getD_at hi]
    exact eval_between (stand_ready h (List.getElem_mem hi))
  have l1 : ((gt g).map lowT).length = (gt g).length := by simp
  have l2 : ((gt g).map highT).length = (gt g).length := by simp
  unfold boundsV evalG
  rw [if_pos ((good_iff g).2 G), if_pos h]
  unfold between
  by_cases hv : gw g = 3
  · rw [if_neg (by simp [hv])]
    unfold together
    rw [if_neg (by omega), if_neg (by omega), hE]
    obtain ⟨⟨j, j1, j2⟩, _, _⟩ := best_spec (l := eachL g r) (ws := gs g) (fun i hi => (wt_at G (by rw [← hE]; exact hi)).1) (gt g).length t0 (by omega)
    rw [j2]
    have b := bt j j1
    constructor
    · refine Int.le_trans (low_le (x := ((gt g).map lowT).getD j 0) ?_) b.1
      rw [getD_at (by omega)]; exact List.getElem_mem _
    · refine Int.le_trans b.2 (high_ge ?_)
      rw [getD_at (by omega)]; exact List.getElem_mem _
  · rw [if_pos hv]
    have m1 := sum_mono (l := (gt g).map lowT) (m := eachL g r) (ws := gs g) (gt g).length fun i hi => ⟨(bt i hi).1, by have := (wt_at G hi).1; omega⟩
    have m2 := sum_mono (l := eachL g r) (m := (gt g).map highT) (ws := gs g) (gt g).length fun i hi => ⟨(bt i hi).2, by have := (wt_at G hi).1; omega⟩
    have ap := (all_pos (ws := gs g) (gt g).length fun i hi => wt_at G hi).1
    unfold together
    rw [l1, l2, hE]
    by_cases h1 : gw g = 1
    · rw [if_pos h1, if_pos h1, if_pos h1]; exact ⟨m1, m2⟩
    · have h2' : gw g = 2 := by have := G.w1; have := G.w3; omega
      rw [if_neg h1, if_neg h1, if_neg h1, if_pos h2', if_pos h2', if_pos h2']
      exact ⟨ediv_mono m1 (by omega), ediv_mono m2 (by omega)⟩
theorem each_in {g : Gv} {r : List Int} (h : standF g r = 0) {i : Nat} (hi : i < (gt g).length) : -1000000 ≤ (eachL g r).getD i 0 ∧ (eachL g r).getD i 0 ≤ 1000000 := by
  rw [each_at g r hi, getD_at hi]
  have hr := stand_ready h (List.getElem_mem hi)
  exact lv_in (tree_ok (ready_ok hr).2).1 _ (eval_mem hr)
end Go.Proofs.YtelncekgjfpogahGreatDoor.M

namespace Go.Proofs.YtelncekgjfpogahGreatDoor
open Go.ChangeShapes Go.WideShapes Go.ChangeAt Go.RowKit Go.Lib
set_option linter.unusedVariables false
theorem fit_in (n : Int) (w : World) (h1 : -1099511627776 ≤ n) (h2 : n ≤ 1099511627776) :
    Calls Tryz.prog 125 #[.int .i64 n] w fun e w' => e = .returned (.int .i64 n) ∧ w' = w := by
  go_enter Tryz.func125, Tryz.ntmps125
  go_wp2
  go_ret
  exact ⟨rfl, rfl⟩
theorem size_pos (n : Int) (w : World) (h1 : 0 ≤ n) (h2 : n ≤ 1099511627776) :
    Calls Tryz.prog 126 #[.int .i64 n] w fun e w' => e = .returned (.int .i64 n) ∧ w' = w := by
  go_enter Tryz.func126, Tryz.ntmps126
  go_wp2
  go_ret
  exact ⟨rfl, rfl⟩
theorem size_neg (n X : Int) (w : World) (E : Hid (-n = X)) (h1 : -1099511627776 ≤ n) (h2 : n < 0) :
    Calls Tryz.prog 126 #[.int .i64 n] w fun e w' => e = .returned (.int .i64 X) ∧ w' = w := by
  go_enter Tryz.func126, Tryz.ntmps126
  go_wp2
  go_ret
  exact ⟨ret_int E.out, rfl⟩
theorem add_in (a b : Int) (w : World) (a1 : -549755813888 ≤ a) (a2 : a ≤ 549755813888) (b1 : -549755813888 ≤ b) (b2 : b ≤ 549755813888) :
    Calls Tryz.prog 116 #[.int .i64 a, .int .i64 b] w fun e w' => e = .returned (.int .i64 (a + b)) ∧ w' = w := by
  go_enter Tryz.func116, Tryz.ntmps116
  go_wp2_with (go_at_call 125; refine (fit_in _ _ (by omega) (by omega)).mono ?_; rintro e w' ⟨rfl, rfl⟩)
  go_ret
  exact ⟨rfl, rfl⟩
theorem M.mul_far {a b : Int} (a1 : -1000000 ≤ a) (a2 : a ≤ 1000000) (b1 : 1 ≤ b) (b2 : b ≤ 1000) : -1000000000 ≤ a * b ∧ a * b ≤ 1000000000 := by
  have h1 : a * b ≤ 1000000 * b := Int.mul_le_mul_of_nonneg_right a2 (by omega)
  have h2 : -1000000 * b ≤ a * b := Int.mul_le_mul_of_nonneg_right a1 (by omega)
  omega
theorem M.quo_far {x b : Int} (x1 : 0 < x) (x2 : x ≤ 1000000) (b1 : 1 ≤ b) (b2 : b ≤ 1000) : b ≤ 1099511627776 / x := by
  rw [Int.le_ediv_iff_mul_le x1]
  have h1 : x * b ≤ 1000000 * b := Int.mul_le_mul_of_nonneg_right x2 (by omega)
  rw [Int.mul_comm]
  omega
set_option maxHeartbeats 1000000 in
theorem mul_small (a b : Int) (w : World) (a1 : -1000000 ≤ a) (a2 : a ≤ 1000000) (b1 : 1 ≤ b) (b2 : b ≤ 1000) :
    Calls Tryz.prog 97 #[.int .i64 a, .int .i64 b] w fun e w' => e = .returned (.int .i64 (a * b)) ∧ w' = w := by
  obtain ⟨m1, m2⟩ := M.mul_far a1 a2 b1 b2
  rcases (show a = 0 ∨ 0 < a ∨ a < 0 from by omega) with h0 | h0 | h0
  · have E : Hid (0 = a * b) := by unfold Hid; rw [h0, Int.zero_mul]
    have hz : (a == 0) = true := by rw [h0]; rfl
    clear h0
    go_enter Tryz.func97, Tryz.ntmps97
    go_wp2_with (go_at_call 125; refine (fit_in _ _ (by omega) (by omega)).mono ?_; rintro e w' ⟨rfl, rfl⟩)
    go_ret
    exact ⟨rfl, rfl⟩
  · have hz : (a == 0) = false := by simp; omega
    have hq := M.quo_far h0 a2 b1 b2
    go_enter Tryz.func97, Tryz.ntmps97
    go_wp2_with (first | (go_at_call 125; refine (fit_in _ _ (by omega) (by omega)).mono ?_; rintro e w' ⟨rfl, rfl⟩) | (go_at_call 126; refine (size_pos _ _ (by omega) (by omega)).mono ?_; rintro e w' ⟨rfl, rfl⟩))
    go_ret
    exact ⟨rfl, rfl⟩
  · have hz : (a == 0) = false := by simp; omega
    obtain ⟨X, hX⟩ : ∃ X, -a = X := ⟨_, rfl⟩
    have x1 : 0 < X := by omega
    have x2 : X ≤ 1000000 := by omega
    have hq := M.quo_far x1 x2 b1 b2
    have HX := hide hX
    clear hX
    go_enter Tryz.func97, Tryz.ntmps97
    go_wp2_with (first | (go_at_call 125; refine (fit_in _ _ (by omega) (by omega)).mono ?_; rintro e w' ⟨rfl, rfl⟩) | (go_at_call 126; refine (size_pos _ _ (by omega) (by omega)).mono ?_; rintro e w' ⟨rfl, rfl⟩) | (go_at_call 126; refine (size_neg _ X _ HX (by omega) (by omega)).mono ?_; rintro e w' ⟨rfl, rfl⟩))
    go_ret
    exact ⟨rfl, rfl⟩
set_option maxHeartbeats 1000000 in
theorem total_in (a : Option Addr) (ws : List Int) (ca : Nat) (w : World) (h : Rd w a ws) (h0 : 0 < ws.length) (n12 : ws.length ≤ 12) (hx : ∀ i, i < ws.length → 1 ≤ ws.getD i 0 ∧ ws.getD i 0 ≤ 1000) :
    Calls Tryz.prog 85 #[.slice a ws.length ca] w fun e w' => e = .returned (.int .i64 (M.allK ws ws.length)) ∧ w' = w := by
  obtain ⟨ba, oa, rfl, hba, hca⟩ := h.2 (by intro e; rw [e] at h0; simp at h0)
  have HC := hide hca
  have HX := hide hx
  have SB := hide (fun k (hk : k ≤ ws.length) => M.all_pos (ws := ws) k (fun i hi => hx i (by omega)))
  clear h hca hx hba h0
  go_enter Tryz.func85, Tryz.ntmps85
  go_wp2
  go_loopw [3, 8] (fun s i wr => ∃ k : Nat, k ≤ ws.length ∧ s = .int .i64 (M.allK ws k) ∧ i = .int .i64 k ∧ wr = w) (fun _ i _ => ws.length - (intOf i).toNat)
  case atStart => exact ⟨0, Nat.zero_le _, rfl, rfl, rfl⟩
  case round =>
    obtain ⟨k, hk, rfl, rfl, ew⟩ := hrel
    subst wr
    by_cases hlt : k < ws.length
    · have c1 := HC.out k hlt
      obtain ⟨x1, x2⟩ := HX.out k hlt
      obtain ⟨s1, s2⟩ := SB.out k hk
      have SS : Hid (M.allK ws k + ws.getD k 0 = M.allK ws (k + 1)) := rfl
      have kz : (k : Int) < (ws.length : Int) := by omega
      clear HC HX SB
      generalize ws.getD k 0 = x at *
      go_wp2_with (go_at_call 116; refine (add_in _ _ _ (by omega) (by omega) (by omega) (by omega)).mono ?_; rintro e w1 ⟨rfl, e1⟩; subst w1)
      go_roundw
      case rel => exact ⟨k + 1, by omega, by rw [SS.out], by go_num, (by first | rfl | trivial)⟩
      case measure => simp [intOf]; omega
    · have ek : k = ws.length := by omega
      have EE := hide ek
      clear ek HC HX SB
      go_wp2
      go_ret
      exact ⟨ret_int (by rw [EE.out]), rfl⟩
theorem xfit_any (n : Int) (w : World) :
    Calls Tryz.prog 125 #[.int .i64 n] w fun e w' => e = .returned (.int .i64 (M.fitI n)) ∧ w' = w := by
  rcases (show 1099511627776 < n ∨ n < -1099511627776 ∨ (-1099511627776 ≤ n ∧ n ≤ 1099511627776) from by omega) with h | h | ⟨h1, h2⟩
  · have E : Hid (1099511627776 = M.fitI n) := by unfold M.fitI; rw [if_pos h]; exact rfl
    go_enter Tryz.func125, Tryz.ntmps125
    go_wp2
    go_ret
    exact ⟨ret_int E.out, rfl⟩
  · have E : Hid (-1099511627776 = M.fitI n) := by unfold M.fitI; rw [if_neg (by omega), if_pos h]; exact rfl
    go_enter Tryz.func125, Tryz.ntmps125
    go_wp2
    go_ret
    exact ⟨ret_int E.out, rfl⟩
  · have E : Hid (n = M.fitI n) := (M.fit_id ⟨h1, h2⟩).symm
    go_enter Tryz.func125, Tryz.ntmps125
    go_wp2
    go_ret
    exact ⟨ret_int E.out, rfl⟩
theorem xadd_any (a b : Int) (w : World) :
    Calls Tryz.prog 116 #[.int .i64 a, .int .i64 b] w fun e w' => e = .returned (.int .i64 (M.addI a b)) ∧ w' = w := by
  obtain ⟨a1, a2⟩ := M.fit_le a
  obtain ⟨b1, b2⟩ := M.fit_le b
  go_enter Tryz.func116, Tryz.ntmps116
  go_wp2_with (go_at_call 125; refine (xfit_any _ _).mono ?_; rintro e w' ⟨rfl, rfl⟩)
  go_ret
  exact ⟨rfl, rfl⟩
set_option maxHeartbeats 1000000 in
theorem xsq_any (a : Int) (w : World) :
    Calls Tryz.prog 97 #[.int .i64 a, .int .i64 a] w fun e w' => e = .returned (.int .i64 (M.mulI a a)) ∧ w' = w := by
  obtain ⟨a1, a2⟩ := M.fit_le a
  rcases (show M.fitI a = 0 ∨ 0 < M.fitI a ∨ M.fitI a < 0 from by omega) with h0 | h0 | h0
  · have Z := hide (M.mul_zl (b := a) h0)
    go_enter Tryz.func97, Tryz.ntmps97
    go_wp2_with (go_at_call 125; refine (xfit_any _ _).mono ?_; rintro e w' ⟨rfl, rfl⟩)
    go_ret
    exact ⟨ret_int (by simpa using Z.out), rfl⟩
  · have hz : (M.fitI a == 0) = false := by simp; omega
    have hsa : decide (M.fitI a < 0) = false := by simp; omega
    have hs := M.sg_pp (x := M.fitI a) (y := M.fitI a) (by omega) (by omega)
    have Q := hide (M.quo_pp (y := M.fitI a) h0)
    by_cases ht : M.fitI a ≤ 1099511627776 / M.fitI a
    · have hm : M.fitI a * M.fitI a ≤ 1099511627776 := Q.out ▸ ht
      go_enter Tryz.func97, Tryz.ntmps97
      go_wp2_with (first | (go_at_call 125; refine (xfit_any _ _).mono ?_; rintro e w' ⟨rfl, rfl⟩) | (go_at_call 126; refine (size_pos _ _ (by omega) (by omega)).mono ?_; rintro e w' ⟨rfl, rfl⟩))
      go_ret
      exact ⟨ret_int (M.mul_in (by omega) (by omega)), rfl⟩
    · have hm : ¬ M.fitI a * M.fitI a ≤ 1099511627776 := Q.out ▸ ht
      have hd : decide (M.fitI a ≤ 1099511627776 / M.fitI a) = false := by simpa using ht
      go_enter Tryz.func97, Tryz.ntmps97
      go_wp2_with (first | (go_at_call 125; refine (xfit_any _ _).mono ?_; rintro e w' ⟨rfl, rfl⟩) | (go_at_call 126; refine (size_pos _ _ (by omega) (by omega)).mono ?_; rintro e w' ⟨rfl, rfl⟩))
      go_ret
      exact ⟨ret_int (M.mul_hi (by omega)), rfl⟩
  · have hz : (M.fitI a == 0) = false := by simp; omega
    have hsa : decide (M.fitI a < 0) = true := by simp; omega
    obtain ⟨X, hX⟩ : ∃ X, -M.fitI a = X := ⟨_, rfl⟩
    have x1 : 0 < X := by omega
    have x2 : X ≤ 1099511627776 := by omega
    have hs := M.sg_nn (x := M.fitI a) (y := M.fitI a) (by omega) (by omega)
    have Q := hide (M.quo_nn (y := M.fitI a) h0)
    rw [hX] at Q
    have HX := hide hX
    clear hX
    by_cases ht : X ≤ 1099511627776 / X
    · have hm : M.fitI a * M.fitI a ≤ 1099511627776 := Q.out ▸ ht
      go_enter Tryz.func97, Tryz.ntmps97
      go_wp2_with (first | (go_at_call 125; refine (xfit_any _ _).mono ?_; rintro e w' ⟨rfl, rfl⟩) | (go_at_call 126; refine (size_neg _ X _ HX (by omega) (by omega)).mono ?_; rintro e w' ⟨rfl, rfl⟩))
      go_ret
      exact ⟨ret_int (M.mul_in (by omega) (by omega)), rfl⟩
    · have hm : ¬ M.fitI a * M.fitI a ≤ 1099511627776 := Q.out ▸ ht
      have hd : decide (X ≤ 1099511627776 / X) = false := by simpa using ht
      go_enter Tryz.func97, Tryz.ntmps97
      go_wp2_with (first | (go_at_call 125; refine (xfit_any _ _).mono ?_; rintro e w' ⟨rfl, rfl⟩) | (go_at_call 126; refine (size_neg _ X _ HX (by omega) (by omega)).mono ?_; rintro e w' ⟨rfl, rfl⟩))
      go_ret
      exact ⟨ret_int (M.mul_hi (by omega)), rfl⟩
theorem M.tot_step {L : List Int} {k : Nat} (hk : k < L.length) : M.totalI (L.take (k + 1)) = M.addI (M.totalI (L.take k)) (L.getD k 0) := by
  unfold M.totalI
  rw [List.take_succ_eq_append_getElem hk, List.foldl_append, M.getD_at hk]
  rfl
set_option maxHeartbeats 2000000 in
theorem xtotal_any (a : Option Addr) (xs : List Int) (ca : Nat) (w : World) (h : Rd w a xs) :
    Calls Tryz.prog 85 #[.slice a xs.length ca] w fun e w' => e = .returned (.int .i64 (M.totalI xs)) ∧ w' = w := by
  have hm : xs.length ≤ 9223372036854775807 := h.1
  have HR := hide h
  have TM : Hid (∀ k, k < xs.length → M.totalI (xs.take (k + 1)) = M.addI (M.totalI (xs.take k)) (xs.getD k 0)) := fun k hk => M.tot_step hk
  clear h
  go_enter Tryz.func85, Tryz.ntmps85
  go_wp2
  go_loopw [3, 8] (fun u i wr => ∃ k : Nat, k ≤ xs.length ∧ i = .int .i64 k ∧ u = .int .i64 (M.totalI (xs.take k)) ∧ Hid (wr = w)) (fun _ i _ => xs.length - (intOf i).toNat)
  case atStart => exact ⟨0, Nat.zero_le _, rfl, rfl, rfl⟩
  case round =>
    obtain ⟨k, hk, rfl, rfl, E⟩ := hrel
    have e := E.out
    subst e
    by_cases hlt : k < xs.length
    · obtain ⟨b, off, rfl, hb, hc⟩ := HR.out.2 (by intro e; rw [e] at hlt; simp at hlt)
      have hx := hc k hlt
      have kz : (k : Int) < (xs.length : Int) := by omega
      have N := hide (TM.out k hlt)
      clear hc TM
      generalize M.totalI (xs.take k) = t at *
      generalize xs.getD k 0 = x at *
      go_wp2_with (go_at_call 116; refine (xadd_any t x _).mono ?_; rintro e w1 ⟨rfl, e1⟩; have e2 := e1.symm; subst e2)
      go_roundw
      case rel => exact ⟨k + 1, by omega, by go_num, by rw [N.out], (by first | rfl | trivial)⟩
      case measure => simp [intOf]; omega
    · have tk : xs.take k = xs := List.take_of_length_le (by omega)
      have kz : ¬ ((k : Int) < (xs.length : Int)) := by omega
      rw [tk]
      clear TM tk
      go_wp2
      go_ret
      exact ⟨rfl, (by first | rfl | trivial)⟩
end Go.Proofs.YtelncekgjfpogahGreatDoor

namespace Go.Proofs.YtelncekgjfpogahGreatDoor
open Go.ChangeShapes Go.WideShapes Go.ChangeAt Go.RowKit Go.Deep
set_option linter.unusedVariables false
def ndV (n : M.Nd) : Value := .agg #[.int .i64 (M.nf n), .int .i64 (M.nc n), .int .i64 (M.nl n), .int .i64 (M.nr n), .bool (M.ns n), .int .i64 (M.nv n)]
def SixAt (w : World) (b off : Nat) (n : M.Nd) : Prop :=
  w.cell? ⟨b, off, none⟩ = some (.int .i64 (M.nf n)) ∧ w.cell? ⟨b, off + 1, none⟩ = some (.int .i64 (M.nc n)) ∧ w.cell? ⟨b, off + 2, none⟩ = some (.int .i64 (M.nl n)) ∧
  w.cell? ⟨b, off + 3, none⟩ = some (.int .i64 (M.nr n)) ∧ w.cell? ⟨b, off + 4, none⟩ = some (.bool (M.ns n)) ∧ w.cell? ⟨b, off + 5, none⟩ = some (.int .i64 (M.nv n))
theorem SixAt.below {w w' : World} {b off : Nat} {n : M.Nd} {B : Nat} (h : SixAt w b off n) (hb : Below B w w') (hl : b < B) : SixAt w' b off n := by
  obtain ⟨h0, h1, h2, h3, h4, h5⟩ := h
  exact ⟨(hb.cell (p := ⟨b, off, none⟩) hl).trans h0, (hb.cell (p := ⟨b, off + 1, none⟩) hl).trans h1, (hb.cell (p := ⟨b, off + 2, none⟩) hl).trans h2,
    (hb.cell (p := ⟨b, off + 3, none⟩) hl).trans h3, (hb.cell (p := ⟨b, off + 4, none⟩) hl).trans h4, (hb.cell (p := ⟨b, off + 5, none⟩) hl).trans h5⟩
def RdN (w : World) (a : Option Addr) (ts : List M.Nd) : Prop :=
  ts.length ≤ maxLen ∧ (ts ≠ [] → ∃ b off, a = some ⟨b, off, none⟩ ∧ b < w.heap.size ∧ ∀ i, i < ts.length → SixAt w b (off + i * 6) (M.nAt ts i))
theorem RdN.below {w w' : World} {a : Option Addr} {ts : List M.Nd} (h : RdN w a ts) (hb : Below w.heap.size w w') : RdN w' a ts :=
  ⟨h.1, fun hn => by
    obtain ⟨b, off, e, hl, hc⟩ := h.2 hn
    exact ⟨b, off, e, Nat.lt_of_lt_of_le hl hb.size, fun i hi => (hc i hi).below hb hl⟩⟩
theorem cellsInt : Tryz.prog.cellsOf 3 = 1 := by kernel_rfl
theorem add_flat (b off i : Nat) : (⟨b, off, none⟩ : Addr).add i = ⟨b, off + i, none⟩ := by unfold Addr.add; simp
end Go.Proofs.YtelncekgjfpogahGreatDoor
