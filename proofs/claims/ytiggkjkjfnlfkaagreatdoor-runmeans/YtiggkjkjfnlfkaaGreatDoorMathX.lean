/-
  Plain mathematics of regions' spans, of how many leaves there are, and of the text that tells why; no condition beyond those named.
-/
import Derived.Test.YtiggkjkjfnlfkaaGreatDoorMathP
namespace Go.Proofs.YtiggkjkjfnlfkaaGreatDoor.M
set_option linter.unusedVariables false

/-- a span that has no number, as it is told -/
def norm (s : Sp) : Sp := if s.2.1 < s.1 then (1, 0, s.2.2) else s
theorem in_norm (c : Int) (s : Sp) : inS c (norm s) = inS c s := by
  unfold norm
  by_cases h : s.2.1 < s.1
  · rw [if_pos h]
    by_cases hc : c = nilI
    · rw [in_nil hc, in_nil hc]
    · rw [in_num hc, in_num hc]
      have h1 : (decide ((1 : Int) ≤ c) && decide (c ≤ 0)) = false := by
        by_cases q : (1 : Int) ≤ c
        · rw [decide_eq_false (show ¬ c ≤ 0 by omega)]; simp
        · rw [decide_eq_false q]; rfl
      have h2 : (decide (s.1 ≤ c) && decide (c ≤ s.2.1)) = false := by
        by_cases q : s.1 ≤ c
        · rw [decide_eq_false (show ¬ c ≤ s.2.1 by omega)]; simp
        · rw [decide_eq_false q]; rfl
      rw [h2]; exact h1
  · rw [if_neg h]
/-- a span has something -/
def hasS (s : Sp) : Bool := decide (s.1 ≤ s.2.1) || s.2.2
def anyS (l : List Sp) : Bool := l.all hasS
theorem has_norm (s : Sp) : hasS (norm s) = hasS s := by
  unfold hasS norm
  by_cases h : s.2.1 < s.1
  · rw [if_pos h, decide_eq_false (show ¬ s.1 ≤ s.2.1 by omega)]; simp
  · rw [if_neg h]
theorem any_norm (l : List Sp) : anyS (l.map norm) = anyS l := by
  unfold anyS
  rw [List.all_map]
  congr 1
  funext s
  exact has_norm s
theorem has_in {c : Int} {s : Sp} (h : inS c s = true) : hasS s = true := by
  unfold hasS
  by_cases hc : c = nilI
  · rw [in_nil hc] at h; rw [h]; simp
  · rw [in_num hc] at h
    simp at h
    rw [decide_eq_true (show s.1 ≤ s.2.1 by omega)]; rfl
theorem getD_at {α : Type} {l : List α} {i : Nat} {d : α} (h : i < l.length) : l.getD i d = l[i] := by rw [List.getD, List.getElem?_eq_getElem h]; rfl
theorem any_within {r : List Int} {l : List Sp} (h : within r l) : anyS l = true := by
  unfold anyS
  rw [List.all_eq_true]
  intro s hs
  obtain ⟨i, hi, rfl⟩ := List.getElem_of_mem hs
  have := h i hi
  rw [getD_at hi] at this
  exact has_in this
/-- the row that is picked -/
def pickC (s : Sp) : Int := if s.1 ≤ s.2.1 then s.1 else nilI
def pick (l : List Sp) : List Int := l.map pickC
theorem pick_norm (s : Sp) (h : hasS s = true) : inS (pickC (norm s)) s = true ∨ outI s.1 = true := by
  cases ho : outI s.1 with
  | true => exact .inr rfl
  | false =>
    left
    unfold norm pickC
    by_cases hc : s.2.1 < s.1
    · rw [if_pos hc]
      rw [if_neg (by simp)]
      rw [in_nil rfl]
      unfold hasS at h
      rw [decide_eq_false (show ¬ s.1 ≤ s.2.1 by omega)] at h
      simpa using h
    · rw [if_neg hc, if_pos (by omega), in_num (ne_nil ho)]
      rw [decide_eq_true (Int.le_refl _), decide_eq_true (show s.1 ≤ s.2.1 by omega)]; rfl
/-- the fault of one span, and of spans -/
def sp1F (s : Sp) : Int := if outI s.1 = true ∨ outI s.2.1 = true then 1 else if hasS s = false then 5 else 0
def spF (l : List Sp) : Int := if 8 < l.length then 4 else match firstN (fun i => !decide (sp1F (l.getD i (0, 0, false)) = 0)) l.length with
  | some i => sp1F (l.getD i (0, 0, false))
  | none => 0
theorem sp_ok {l : List Sp} (h8 : l.length ≤ 8) (h : ∀ s ∈ l, sp1F s = 0) : spF l = 0 := by
  unfold spF
  rw [if_neg (by omega), first_miss (fun j hj => by rw [getD_at hj, h _ (List.getElem_mem hj)]; rfl)]
/-- the ends of a region's spans -/
def okS (s : Sp) : Prop := -1000000 ≤ s.1 ∧ s.1 ≤ 1000000 ∧ -1000001 ≤ s.2.1 ∧ s.2.1 ≤ 1000000
theorem ok_narrow {n : Nd} {b : Bool} {s : Sp} (h : okS s) (hc : outI (nc n) = false) : okS (narrow n b s) := by
  have := out_false hc
  unfold okS at *
  unfold narrow
  cases b with
  | true =>
    simp only [if_true]
    split <;> omega
  | false =>
    simp only [Bool.false_eq_true, if_false]
    split <;> omega
theorem reg_ok {t : List Nd} {m : Nat} (F : Fair t (m : Int)) : ∀ (f k : Nat) (l : List Sp), k < t.length → l.length = m → (∀ s ∈ l, okS s) → ∀ s ∈ regD t f k l, okS s
  | 0, k, l, hk, hm, hl => hl
  | f + 1, k, l, hk, hm, hl => by
    unfold regD
    cases e : abv t k with
    | none => exact hl
    | some u =>
      obtain ⟨h1, h2⟩ := (abv_iff F hk).1 e
      have q := node_ask (F.2.2.2.2.1 u h1) h2.1
      have hi : (nf (nAt t u)).toNat < l.length := by have := q.1; have := q.2.1; omega
      refine reg_ok F f u _ h1 (by rw [List.length_set]; exact hm) ?_
      intro s hs
      rcases List.mem_or_eq_of_mem_set hs with g | g
      · exact hl s g
      · rw [g, getD_at hi]; exact ok_narrow (hl _ (List.getElem_mem hi)) q.2.2.1
theorem region_ok {t : List Nd} {m : Nat} (F : Fair t (m : Int)) {k : Nat} (hk : k < t.length) : ∀ s ∈ region t m k, okS s := by
  unfold region
  refine reg_ok F t.length k _ hk (by simp) ?_
  intro s hs
  rw [List.mem_replicate] at hs
  rw [hs.2]
  unfold okS all0
  simp
theorem out_in {x : Int} (h1 : -1000000 ≤ x) (h2 : x ≤ 1000000) : outI x = false := by
  unfold outI
  rw [decide_eq_false (show ¬ x < -1000000 by omega), decide_eq_false (show ¬ 1000000 < x by omega)]; rfl
/-- of a leaf that is reached there is a row: the one that is picked -/
theorem witness {t : List Nd} {m : Nat} (F : Fair t (m : Int)) {k : Nat} (hk : k < t.length) (hl : nf (nAt t k) = -1) (ha : anyS (region t m k) = true) :
    spF ((region t m k).map norm) = 0 ∧ rowF (pick ((region t m k).map norm)) = 0 ∧ toD t (pick ((region t m k).map norm)) 0 = k := by
  have h8 : m ≤ 8 := by have := F.2.2.2.1; omega
  have hlen := region_len t m k
  have hok := region_ok F hk
  have hall : ∀ s ∈ region t m k, hasS s = true := by unfold anyS at ha; rw [List.all_eq_true] at ha; exact ha
  have hin : ∀ s ∈ region t m k, inS (pickC (norm s)) s = true := fun s hs => by
    rcases pick_norm s (hall s hs) with q | q
    · exact q
    · have := hok s hs; unfold okS at this
      rw [out_in this.1 this.2.1] at q; cases q
  have hgood : ∀ s ∈ region t m k, badCell (pickC (norm s)) = false := fun s hs => by
    have q := hok s hs
    unfold okS at q
    unfold norm pickC
    by_cases hc : s.2.1 < s.1
    · rw [if_pos hc, if_neg (by simp)]; exact good_nil
    · rw [if_neg hc, if_pos (by omega)]; exact good_cell (out_in q.1 q.2.1)
  have hrow : rowF (pick ((region t m k).map norm)) = 0 := by
    rw [row_ok]
    unfold pick
    refine ⟨by rw [List.length_map, List.length_map, hlen]; exact h8, fun x hx => ?_⟩
    rw [List.map_map, List.mem_map] at hx
    obtain ⟨s, hs, rfl⟩ := hx
    exact hgood s hs
  refine ⟨sp_ok (by rw [List.length_map, hlen]; exact h8) ?_, hrow, ?_⟩
  · intro s' hs'
    rw [List.mem_map] at hs'
    obtain ⟨s, hs, rfl⟩ := hs'
    have q := hok s hs
    unfold okS at q
    unfold sp1F
    rw [has_norm, hall s hs]
    have : ¬ (outI (norm s).1 = true ∨ outI (norm s).2.1 = true) := by
      unfold norm
      by_cases hc : s.2.1 < s.1
      · rw [if_pos hc]; simp [outI]
      · rw [if_neg hc, out_in q.1 q.2.1, out_in (show -1000000 ≤ s.2.1 by omega) q.2.2.2]; simp
    rw [if_neg this]; rfl
  · have hp : (pick ((region t m k).map norm)).length = m := by unfold pick; rw [List.length_map, List.length_map, hlen]
    refine ((region_leaf F hrow hp hk hl).1 ?_).symm
    intro j hj
    have hj' : j < (pick ((region t m k).map norm)).length := by omega
    rw [getD_at hj', getD_at hj]
    have e : (pick ((region t m k).map norm))[j] = pickC (norm (region t m k)[j]) := by unfold pick; simp
    rw [e]
    exact hin _ (List.getElem_mem hj)

/-- the leaves that are reached -/
def rch (t : List Nd) (m : Nat) : Nat → List Int
  | 0 => []
  | k + 1 => if leafB (nAt t k) = true ∧ anyS (region t m k) = true then rch t m k ++ [(k : Int)] else rch t m k
theorem rch_len (t : List Nd) (m : Nat) : ∀ k, (rch t m k).length ≤ k
  | 0 => by unfold rch; simp
  | k + 1 => by
    unfold rch
    have := rch_len t m k
    split
    · simp; omega
    · omega
theorem rch_mem (t : List Nd) (m : Nat) : ∀ (k : Nat) (x : Int), x ∈ rch t m k ↔ ∃ j : Nat, x = j ∧ j < k ∧ leafB (nAt t j) = true ∧ anyS (region t m j) = true
  | 0, x => by
    unfold rch
    constructor
    · intro h; simp at h
    · rintro ⟨j, _, h, _⟩; omega
  | k + 1, x => by
    unfold rch
    have ih := rch_mem t m k x
    by_cases h : leafB (nAt t k) = true ∧ anyS (region t m k) = true
    · rw [if_pos h, List.mem_append, ih]
      constructor
      · rintro (⟨j, e, h1, h2⟩ | q)
        · exact ⟨j, e, by omega, h2⟩
        · exact ⟨k, by simpa using q, by omega, h⟩
      · rintro ⟨j, e, h1, h2⟩
        by_cases hj : j = k
        · subst hj; exact .inr (by simp [e])
        · exact .inl ⟨j, e, by omega, h2⟩
    · rw [if_neg h, ih]
      constructor
      · rintro ⟨j, e, h1, h2⟩; exact ⟨j, e, by omega, h2⟩
      · rintro ⟨j, e, h1, h2⟩
        by_cases hj : j = k
        · subst hj; exact absurd h2 h
        · exact ⟨j, e, by omega, h2⟩

/-- how many leaves are below a node -/
def lfD (t : List Nd) : Nat → Nat → Nat
  | 0, _ => 0
  | f + 1, i => if nf (nAt t i) = -1 then 1 else lfD t f (nl (nAt t i)).toNat + lfD t f (nr (nAt t i)).toNat
def lfs (t : List Nd) (i : Nat) : Nat := lfD t t.length i
theorem lf_enough {t : List Nd} {m : Int} (h : Right t m) : ∀ (f g i : Nat), i < t.length → t.length ≤ f + i → t.length ≤ g + i → lfD t f i = lfD t g i
  | 0, g, i, hi, hf, hg => by omega
  | f + 1, 0, i, hi, hf, hg => by omega
  | f + 1, g + 1, i, hi, hf, hg => by
    unfold lfD
    by_cases hl : nf (nAt t i) = -1
    · rw [if_pos hl, if_pos hl]
    · rw [if_neg hl, if_neg hl]
      obtain ⟨a, b, ea, eb, h1, h2, h3, h4, _⟩ := ask_at h hi hl
      rw [ea, eb, Int.toNat_natCast, Int.toNat_natCast, lf_enough h f g a h2 (by omega) (by omega), lf_enough h f g b h4 (by omega) (by omega)]
theorem lfs_leaf {t : List Nd} {i : Nat} (hi : i < t.length) (hl : nf (nAt t i) = -1) : lfs t i = 1 := by
  unfold lfs
  obtain ⟨f, e⟩ : ∃ f, t.length = f + 1 := ⟨t.length - 1, by omega⟩
  rw [e]; unfold lfD; rw [if_pos hl]
theorem lfs_ask {t : List Nd} {m : Int} (h : Right t m) {i a b : Nat} (hi : i < t.length) (hl : nf (nAt t i) ≠ -1) (ea : nl (nAt t i) = a) (eb : nr (nAt t i) = b) : lfs t i = lfs t a + lfs t b := by
  obtain ⟨a', b', ea', eb', h1, h2, h3, h4, _⟩ := ask_at h hi hl
  have qa : a' = a := by omega
  have qb : b' = b := by omega
  subst qa; subst qb
  unfold lfs
  obtain ⟨f, e⟩ : ∃ f, t.length = f + 1 := ⟨t.length - 1, by omega⟩
  rw [show lfD t t.length i = lfD t f (nl (nAt t i)).toNat + lfD t f (nr (nAt t i)).toNat by rw [e]; conv => lhs; unfold lfD; rw [if_neg hl]]
  rw [ea, eb, Int.toNat_natCast, Int.toNat_natCast, lf_enough h f t.length a' h2 (by omega) (by omega), lf_enough h f t.length b' h4 (by omega) (by omega)]
theorem lfs_bounds {t : List Nd} {m : Int} (h : Right t m) : ∀ (f i : Nat), i < t.length → t.length ≤ f + i → lfs t i ≤ 2 ^ depth t i ∧ depth t i + 1 ≤ lfs t i
  | 0, i, hi, hf => by omega
  | f + 1, i, hi, hf => by
    by_cases hl : nf (nAt t i) = -1
    · rw [lfs_leaf hi hl, depth_leaf hi hl]; simp
    · obtain ⟨a, b, ea, eb, h1, h2, h3, h4, _⟩ := ask_at h hi hl
      rw [lfs_ask h hi hl ea eb, depth_ask h hi hl ea eb]
      obtain ⟨g1, g2⟩ := lfs_bounds h f a h2 (by omega)
      obtain ⟨g3, g4⟩ := lfs_bounds h f b h4 (by omega)
      have p1 : 2 ^ depth t a ≤ 2 ^ max (depth t a) (depth t b) := Nat.pow_le_pow_right (by omega) (by omega)
      have p2 : 2 ^ depth t b ≤ 2 ^ max (depth t a) (depth t b) := Nat.pow_le_pow_right (by omega) (by omega)
      have p3 : 2 ^ (max (depth t a) (depth t b) + 1) = 2 * 2 ^ max (depth t a) (depth t b) := by rw [Nat.pow_succ]; omega
      omega
/-- what is left to be counted behind k nodes -/
def rest (t : List Nd) (k j : Nat) : Nat := if k ≤ j ∧ (j = 0 ∨ ups (t.take k) j = 1) then lfs t j else 0
theorem sumN_three {g h : Nat → Nat} {k a b : Nat} : ∀ n, (∀ i, i < n → i ≠ k → i ≠ a → i ≠ b → g i = h i) → sumN g n + (if k < n then h k else 0) + (if a < n ∧ a ≠ k then h a else 0) + (if b < n ∧ b ≠ k ∧ b ≠ a then h b else 0) = sumN h n + (if k < n then g k else 0) + (if a < n ∧ a ≠ k then g a else 0) + (if b < n ∧ b ≠ k ∧ b ≠ a then g b else 0)
  | 0, _ => by simp [sumN]
  | n + 1, H => by
    have ih := sumN_three n (g := g) (h := h) (k := k) (a := a) (b := b) fun i hi => H i (by omega)
    unfold sumN
    by_cases e1 : n = k
    · subst e1
      have c1 : ¬ n < n := by omega
      simp only [c1, if_false] at ih
      have c2 : n < n + 1 := by omega
      simp only [c2, if_true]
      by_cases ha : a < n ∧ a ≠ n
      · have : a < n + 1 ∧ a ≠ n := ⟨by omega, ha.2⟩
        simp only [ha, this, and_self, if_true, ne_eq, not_false_eq_true] at ih ⊢
        by_cases hb : b < n ∧ b ≠ n ∧ b ≠ a
        · have : b < n + 1 ∧ b ≠ n ∧ b ≠ a := ⟨by omega, hb.2⟩
          rw [if_pos hb, if_pos hb] at ih; rw [if_pos this, if_pos this]; omega
        · have : ¬ (b < n + 1 ∧ b ≠ n ∧ b ≠ a) := fun q => hb ⟨by omega, q.2⟩
          rw [if_neg hb, if_neg hb] at ih; rw [if_neg this, if_neg this]; omega
      · have : ¬ (a < n + 1 ∧ a ≠ n) := fun q => ha ⟨by omega, q.2⟩
        rw [if_neg ha, if_neg ha] at ih; rw [if_neg this, if_neg this]
        by_cases hb : b < n ∧ b ≠ n ∧ b ≠ a
        · have : b < n + 1 ∧ b ≠ n ∧ b ≠ a := ⟨by omega, hb.2⟩
          rw [if_pos hb, if_pos hb] at ih; rw [if_pos this, if_pos this]; omega
        · have : ¬ (b < n + 1 ∧ b ≠ n ∧ b ≠ a) := fun q => hb ⟨by omega, q.2⟩
          rw [if_neg hb, if_neg hb] at ih; rw [if_neg this, if_neg this]; omega
    · have k1 : (k < n + 1) ↔ (k < n) := by omega
      by_cases e2 : n = a
      · subst e2
        have a1 : ¬ (n < n ∧ n ≠ k) := by omega
        have a2 : n < n + 1 ∧ n ≠ k := ⟨by omega, e1⟩
        rw [if_neg a1, if_neg a1] at ih
        rw [if_pos a2, if_pos a2]
        by_cases hb : b < n ∧ b ≠ k ∧ b ≠ n
        · have : b < n + 1 ∧ b ≠ k ∧ b ≠ n := ⟨by omega, hb.2⟩
          rw [if_pos hb, if_pos hb] at ih; rw [if_pos this, if_pos this]
          by_cases hk : k < n
          · rw [if_pos hk, if_pos hk] at ih; rw [if_pos (k1.2 hk), if_pos (k1.2 hk)]; omega
          · rw [if_neg hk, if_neg hk] at ih; rw [if_neg (fun q => hk (k1.1 q)), if_neg (fun q => hk (k1.1 q))]; omega
        · have : ¬ (b < n + 1 ∧ b ≠ k ∧ b ≠ n) := fun q => hb ⟨by omega, q.2⟩
          rw [if_neg hb, if_neg hb] at ih; rw [if_neg this, if_neg this]
          by_cases hk : k < n
          · rw [if_pos hk, if_pos hk] at ih; rw [if_pos (k1.2 hk), if_pos (k1.2 hk)]; omega
          · rw [if_neg hk, if_neg hk] at ih; rw [if_neg (fun q => hk (k1.1 q)), if_neg (fun q => hk (k1.1 q))]; omega
      · have a1 : (a < n + 1 ∧ a ≠ k) ↔ (a < n ∧ a ≠ k) := by omega
        by_cases e3 : n = b
        · subst e3
          have b1 : ¬ (n < n ∧ n ≠ k ∧ n ≠ a) := by omega
          have b2 : n < n + 1 ∧ n ≠ k ∧ n ≠ a := ⟨by omega, e1, e2⟩
          rw [if_neg b1, if_neg b1] at ih
          rw [if_pos b2, if_pos b2]
          simp only [k1, a1]
          omega
        · have b1 : (b < n + 1 ∧ b ≠ k ∧ b ≠ a) ↔ (b < n ∧ b ≠ k ∧ b ≠ a) := by omega
          have := H n (by omega) e1 e2 e3
          simp only [k1, a1, b1]
          omega

theorem edge_no {t : List Nd} {m : Int} (h : Right t m) {i j : Nat} (hi : i < t.length) (hj : j ≤ i) : edge (j : Int) t[i] = 0 := by
  rcases Nat.eq_zero_or_pos (edge (j : Int) t[i]) with e | e
  · exact e
  · have hc := edge_pos.1 e
    rw [← nAt_eq hi] at hc
    obtain ⟨a, b, ea, eb, h1, h2, h3, h4, _⟩ := ask_at h hi hc.1
    have := hc.2
    omega
theorem ups_own {t : List Nd} {m : Int} (h : Right t m) (j : Nat) : ∀ k, j ≤ k → k ≤ t.length → ups (t.take k) (j : Int) = ups (t.take j) (j : Int)
  | 0, h1, h2 => by have : j = 0 := by omega
                    subst this; rfl
  | k + 1, h1, h2 => by
    by_cases e : j = k + 1
    · rw [e]
    · rw [ups_take (by omega), edge_no h (by omega) (by omega), ups_own h j k (by omega) (by omega)]; rfl
theorem ups_mono {t : List Nd} (j : Int) (k : Nat) : ∀ d, k + d ≤ t.length → ups (t.take k) j ≤ ups (t.take (k + d)) j
  | 0, _ => Nat.le_refl _
  | d + 1, h => by
    have := ups_mono (t := t) j k d (by omega)
    have e := ups_take (t := t) (k := k + d) (by omega) j
    rw [show k + (d + 1) = k + d + 1 by omega, e]; omega
theorem count_step {t : List Nd} {m : Int} (F : Fair t m) {k : Nat} (hk : k < t.length) : (lvs t (k + 1)).length + sumN (rest t (k + 1)) t.length = (lvs t k).length + sumN (rest t k) t.length := by
  have hR := F.2.2.2.2.1
  have own : rest t k k = lfs t k := by
    unfold rest
    rw [if_pos]
    refine ⟨Nat.le_refl _, ?_⟩
    by_cases e : k = 0
    · exact .inl e
    · right
      have := ups_own hR k t.length (by omega) (Nat.le_refl _)
      rw [List.take_length, F.2.2.2.2.2 k (by omega) hk] at this
      exact this.symm
  have gone : rest t (k + 1) k = 0 := by unfold rest; rw [if_neg (by omega)]
  have same : ∀ i, i ≠ k → edge (i : Int) t[k] = 0 → rest t (k + 1) i = rest t k i := by
    intro i hi he
    unfold rest
    rw [ups_take hk, he, Nat.add_zero]
    by_cases h1 : k + 1 ≤ i
    · by_cases h2 : i = 0 ∨ ups (t.take k) (i : Int) = 1
      · rw [if_pos ⟨h1, h2⟩, if_pos ⟨by omega, h2⟩]
      · rw [if_neg (fun q => h2 q.2), if_neg (fun q => h2 q.2)]
    · rw [if_neg (fun q => h1 q.1), if_neg (fun q => h1 (by omega))]
  by_cases hl : nf (nAt t k) = -1
  · have he : ∀ i : Nat, edge (i : Int) t[k] = 0 := fun i => by rw [← nAt_eq hk]; unfold edge; rw [if_pos hl]
    have q := sumN_three (g := rest t (k + 1)) (h := rest t k) (k := k) (a := k) (b := k) t.length fun i _ h1 _ _ => same i h1 (he i)
    rw [if_pos hk, if_pos hk, if_neg (by omega), if_neg (by omega), if_neg (by omega), if_neg (by omega), own, gone, lfs_leaf hk hl] at q
    have e : lvs t (k + 1) = lvs t k ++ [(k : Int)] := by
      show (if leafB (nAt t k) = true then lvs t k ++ [(k : Int)] else lvs t k) = _
      rw [if_pos (by unfold leafB; simp [hl])]
    rw [e, List.length_append]
    simp only [List.length_singleton]
    omega
  · obtain ⟨a, b, ea, eb, h1, h2, h3, h4, hab⟩ := ask_at hR hk hl
    have ed : ∀ i : Nat, edge (i : Int) t[k] = (if (a : Int) = i then 1 else 0) + (if (b : Int) = i then 1 else 0) := fun i => by rw [← nAt_eq hk]; unfold edge; rw [if_neg hl, ea, eb]
    have child : ∀ c : Nat, c < t.length → k < c → edge (c : Int) t[k] = 1 → rest t k c = 0 ∧ rest t (k + 1) c = lfs t c := by
      intro c hc hkc he
      have u1 := F.2.2.2.2.2 c (by omega) hc
      have u2 := ups_mono (t := t) (c : Int) (k + 1) (t.length - (k + 1)) (by omega)
      rw [show k + 1 + (t.length - (k + 1)) = t.length by omega, List.take_length, u1, ups_take hk, he] at u2
      constructor
      · unfold rest; rw [if_neg (by omega)]
      · unfold rest
        rw [if_pos]
        refine ⟨by omega, .inr ?_⟩
        rw [ups_take hk, he]; omega
    have ca := child a h2 h1 (by rw [ed, if_pos rfl, if_neg (by omega)])
    have cb := child b h4 h3 (by rw [ed, if_neg (by omega), if_pos rfl])
    have q := sumN_three (g := rest t (k + 1)) (h := rest t k) (k := k) (a := a) (b := b) t.length fun i _ i1 i2 i3 => same i i1 (by rw [ed, if_neg (by omega), if_neg (by omega)])
    have A : a < t.length ∧ a ≠ k := ⟨h2, by omega⟩
    have B : b < t.length ∧ b ≠ k ∧ b ≠ a := ⟨h4, by omega, by omega⟩
    rw [if_pos hk, if_pos hk, if_pos A, if_pos A, if_pos B, if_pos B, own, gone, ca.1, ca.2, cb.1, cb.2, lfs_ask hR hk hl ea eb] at q
    have e : lvs t (k + 1) = lvs t k := by
      show (if leafB (nAt t k) = true then lvs t k ++ [(k : Int)] else lvs t k) = _
      rw [if_neg (by unfold leafB; simp [hl])]
    rw [e]
    omega
theorem count_all {t : List Nd} {m : Int} (F : Fair t m) : ∀ k, k ≤ t.length → (lvs t k).length + sumN (rest t k) t.length = sumN (rest t 0) t.length
  | 0, _ => by simp [lvs]
  | k + 1, h => by rw [count_step F (by omega)]; exact count_all F k (by omega)
theorem leaves_count {t : List Nd} {m : Int} (F : Fair t m) : (lvs t t.length).length = lfs t 0 := by
  have h := count_all F t.length (Nat.le_refl _)
  have e1 : sumN (rest t t.length) t.length = 0 := by
    rw [sumN_congr (g := fun _ => 0) (fun i hi => by unfold rest; rw [if_neg (by omega)]), sumN_zero]
  have e2 : sumN (rest t 0) t.length = lfs t 0 := by
    have : ∀ n, 0 < n → sumN (rest t 0) n = lfs t 0 := by
      intro n
      induction n with
      | zero => intro h; omega
      | succ n ih =>
        intro _
        unfold sumN
        by_cases e : n = 0
        · subst e; unfold sumN rest; simp
        · rw [ih (by omega)]
          have : rest t 0 n = 0 := by
            unfold rest
            rw [if_neg]
            rintro ⟨_, q | q⟩
            · exact e q
            · simp [ups] at q
          omega
    exact this _ F.2.1
  omega
/-- a tree of so many leaves is so deep as it must be, and no deeper than it can be -/
theorem deep_bounds {t : List Nd} {m : Int} (F : Fair t m) : (lvs t t.length).length ≤ 2 ^ depth t 0 ∧ depth t 0 + 1 ≤ (lvs t t.length).length := by
  rw [leaves_count F]; exact lfs_bounds F.2.2.2.2.1 t.length 0 F.2.1 (by omega)

/-- the word of a question, and the text that tells why -/
def whyW (n : Nd) (c : Int) : List UInt8 := 102 :: (Lib.itoa (nf n) ++ if c = nilI then [63] else if c < nc n then 60 :: Lib.itoa (nc n) else 62 :: 61 :: Lib.itoa (nc n))
def whyD (t : List Nd) (r : List Int) : Nat → Nat → List UInt8
  | 0, i => []
  | f + 1, i => if nf (nAt t i) = -1 then 61 :: Lib.itoa (nv (nAt t i)) else whyW (nAt t i) (r.getD (nf (nAt t i)).toNat 0) ++ 32 :: whyD t r f (nextI (nAt t i) r).toNat
def why (t : List Nd) (r : List Int) (i : Nat) : List UInt8 := whyD t r t.length i
theorem why_enough {t : List Nd} {m : Int} (h : Right t m) (r : List Int) : ∀ (f g i : Nat), i < t.length → t.length ≤ f + i → t.length ≤ g + i → whyD t r f i = whyD t r g i
  | 0, g, i, hi, hf, hg => by omega
  | f + 1, 0, i, hi, hf, hg => by omega
  | f + 1, g + 1, i, hi, hf, hg => by
    unfold whyD
    by_cases hl : nf (nAt t i) = -1
    · rw [if_pos hl, if_pos hl]
    · rw [if_neg hl, if_neg hl]
      obtain ⟨k, e, h1, h2⟩ := next_in h r hi hl
      rw [e, Int.toNat_natCast, why_enough h r f g k h2 (by omega) (by omega)]
theorem why_leaf {t : List Nd} {r : List Int} {i : Nat} (hi : i < t.length) (hl : nf (nAt t i) = -1) : why t r i = 61 :: Lib.itoa (nv (nAt t i)) := by
  unfold why
  obtain ⟨f, e⟩ : ∃ f, t.length = f + 1 := ⟨t.length - 1, by omega⟩
  rw [e]; unfold whyD; rw [if_pos hl]
theorem why_next {t : List Nd} {m : Int} (h : Right t m) {r : List Int} {i k : Nat} (hi : i < t.length) (hl : nf (nAt t i) ≠ -1) (e : nextI (nAt t i) r = k) : why t r i = whyW (nAt t i) (r.getD (nf (nAt t i)).toNat 0) ++ 32 :: why t r k := by
  obtain ⟨k', e', h1, h2⟩ := next_in h r hi hl
  have : k' = k := by omega
  subst this
  unfold why
  obtain ⟨f, q⟩ : ∃ f, t.length = f + 1 := ⟨t.length - 1, by omega⟩
  rw [show whyD t r t.length i = whyW (nAt t i) (r.getD (nf (nAt t i)).toNat 0) ++ 32 :: whyD t r f k' by rw [q]; conv => lhs; unfold whyD; rw [if_neg hl, e, Int.toNat_natCast]]
  rw [why_enough h r f t.length k' h2 (by omega) (by omega)]
theorem itoa_no (x : Int) : (Lib.itoa x).count 32 = 0 := by
  rw [List.count_eq_zero]
  intro hc
  unfold Lib.itoa at hc
  split at hc
  · rw [List.mem_cons] at hc
    rcases hc with hc | hc
    · simp at hc
    · have := dig_mem _ _ hc; revert this; decide
  · have := dig_mem _ _ hc; revert this; decide
theorem whyW_no (n : Nd) (c : Int) : (whyW n c).count 32 = 0 := by
  unfold whyW
  split
  · simp [List.count_append, itoa_no]
  · split
    · simp [List.count_append, itoa_no]
    · simp [List.count_append, itoa_no]
/-- as many words as nodes on the way -/
theorem why_words {t : List Nd} {m : Int} (h : Right t m) (r : List Int) : ∀ (f i : Nat), i < t.length → t.length ≤ f + i → (why t r i).count 32 + 1 = (way t r i).length
  | 0, i, hi, hf => by omega
  | f + 1, i, hi, hf => by
    by_cases hl : nf (nAt t i) = -1
    · rw [why_leaf hi hl, way_leaf hi hl]
      simp [itoa_no]
    · obtain ⟨k, e, h1, h2⟩ := next_in h r hi hl
      rw [why_next h hi hl e, way_next h hi hl e, List.count_append, whyW_no, List.count_cons, List.length_cons]
      have ih := why_words h r f k h2 (by omega)
      simp
      omega
/-- its end is the value -/
theorem why_end {t : List Nd} {m : Int} (h : Right t m) (r : List Int) : ∀ (f i : Nat), i < t.length → t.length ≤ f + i → ∃ l, why t r i = l ++ 61 :: Lib.itoa (nv (nAt t (toD t r i)))
  | 0, i, hi, hf => by omega
  | f + 1, i, hi, hf => by
    by_cases hl : nf (nAt t i) = -1
    · rw [why_leaf hi hl, to_leaf hi hl]; exact ⟨[], rfl⟩
    · obtain ⟨k, e, h1, h2⟩ := next_in h r hi hl
      rw [why_next h hi hl e, to_next h hi hl e]
      obtain ⟨l, q⟩ := why_end h r f k h2 (by omega)
      exact ⟨whyW (nAt t i) (r.getD (nf (nAt t i)).toNat 0) ++ 32 :: l, by rw [q]; simp⟩

/-- what the calls answer -/
def pathV (t : List Nd) (r : List Int) : List Int := if readyF t r = 0 then (way t r 0).map Int.ofNat else []
theorem path_len {t : List Nd} {r : List Int} (h : readyF t r = 0) : (pathV t r).length ≤ depth t 0 + 1 := by
  obtain ⟨F, _⟩ := tree_ok (ready_ok h).2
  unfold pathV
  rw [if_pos h, List.length_map]
  exact way_len F.2.2.2.2.1 r t.length 0 F.2.1 (by omega)
/-- the tree of one question that says nothing -/
def oneD : List Nd := [(0, 0, 1, 2, false, 0), (-1, 0, 0, 0, false, 0), (-1, 0, 0, 0, false, 0)]
theorem oneD_ok : (treeF oneD 8).2 = 0 := by decide +kernel
theorem oneD_deep : depthV oneD = 1 := by decide +kernel

end Go.Proofs.YtiggkjkjfnlfkaaGreatDoor.M
