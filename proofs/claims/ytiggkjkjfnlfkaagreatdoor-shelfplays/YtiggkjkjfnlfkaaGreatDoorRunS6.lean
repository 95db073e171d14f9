/-
  Several texts as one: MathP, MathX.
-/
import Derived.Test.YtiggkjkjfnlfkaaGreatDoorRunS5
namespace Go.Proofs.YtiggkjkjfnlfkaaGreatDoor.M
set_option linter.unusedVariables false
/-- the way from a node on -/
def wayD (t : List Nd) (r : List Int) : Nat → Nat → List Nat
  | 0, i => []
  | f + 1, i => if nf (nAt t i) = -1 then [i] else i :: wayD t r f (nextI (nAt t i) r).toNat
def way (t : List Nd) (r : List Int) (i : Nat) : List Nat := wayD t r t.length i
/-- all nodes are right -/
abbrev Right (t : List Nd) (m : Int) : Prop := ∀ j, j < t.length → nodeF (nAt t j) j t.length m = 0
theorem way_enough {t : List Nd} {m : Int} (h : Right t m) (r : List Int) : ∀ (f g i : Nat), i < t.length → t.length ≤ f + i → t.length ≤ g + i → wayD t r f i = wayD t r g i
  | 0, g, i, hi, hf, hg => by omega
  | f + 1, 0, i, hi, hf, hg => by omega
  | f + 1, g + 1, i, hi, hf, hg => by
    unfold wayD
    by_cases hl : nf (nAt t i) = -1
    · rw [if_pos hl, if_pos hl]
    · rw [if_neg hl, if_neg hl]
      obtain ⟨k, e, h1, h2⟩ := next_in h r hi hl
      rw [e, Int.toNat_natCast, way_enough h r f g k h2 (by omega) (by omega)]
theorem way_leaf {t : List Nd} {r : List Int} {i : Nat} (hi : i < t.length) (hl : nf (nAt t i) = -1) : way t r i = [i] := by
  unfold way
  obtain ⟨f, e⟩ : ∃ f, t.length = f + 1 := ⟨t.length - 1, by omega⟩
  rw [e]; unfold wayD; rw [if_pos hl]
theorem way_next {t : List Nd} {m : Int} (h : Right t m) {r : List Int} {i k : Nat} (hi : i < t.length) (hl : nf (nAt t i) ≠ -1) (e : nextI (nAt t i) r = k) : way t r i = i :: way t r k := by
  obtain ⟨k', e', h1, h2⟩ := next_in h r hi hl
  have : k' = k := by omega
  subst this
  unfold way
  obtain ⟨f, q⟩ : ∃ f, t.length = f + 1 := ⟨t.length - 1, by omega⟩
  rw [show wayD t r t.length i = i :: wayD t r f k' by rw [q]; conv => lhs; unfold wayD; rw [if_neg hl, e, Int.toNat_natCast]]
  rw [way_enough h r f t.length k' h2 (by omega) (by omega)]
theorem way_ne {t : List Nd} {m : Int} (h : Right t m) (r : List Int) {i : Nat} (hi : i < t.length) : ∃ l, way t r i = i :: l := by
  by_cases hl : nf (nAt t i) = -1
  · exact ⟨[], way_leaf hi hl⟩
  · obtain ⟨k, e, h1, h2⟩ := next_in h r hi hl
    exact ⟨_, way_next h hi hl e⟩
theorem way_len {t : List Nd} {m : Int} (h : Right t m) (r : List Int) : ∀ (f i : Nat), i < t.length → t.length ≤ f + i → (way t r i).length ≤ depth t i + 1
  | 0, i, hi, hf => by omega
  | f + 1, i, hi, hf => by
    by_cases hl : nf (nAt t i) = -1
    · rw [way_leaf hi hl]; simp
    · obtain ⟨k, e, h1, h2⟩ := next_in h r hi hl
      obtain ⟨a, b, ea, eb, g1, g2, g3, g4, _⟩ := ask_at h hi hl
      rw [way_next h hi hl e, depth_ask h hi hl ea eb, List.length_cons]
      have ih := way_len h r f k h2 (by omega)
      have : depth t k ≤ max (depth t a) (depth t b) := by
        unfold nextI at e
        split at e
        · have : a = k := by omega
          subst this; omega
        · have : b = k := by omega
          subst this; omega
      omega
theorem way_size {t : List Nd} {m : Int} (h : Right t m) (r : List Int) : ∀ (f i : Nat), i < t.length → t.length ≤ f + i → (way t r i).length + i ≤ t.length
  | 0, i, hi, hf => by omega
  | f + 1, i, hi, hf => by
    by_cases hl : nf (nAt t i) = -1
    · rw [way_leaf hi hl]; simp; omega
    · obtain ⟨k, e, h1, h2⟩ := next_in h r hi hl
      rw [way_next h hi hl e, List.length_cons]
      have ih := way_size h r f k h2 (by omega)
      omega
theorem way_mem {t : List Nd} {m : Int} (h : Right t m) (r : List Int) : ∀ (f i : Nat), i < t.length → t.length ≤ f + i → ∀ j ∈ way t r i, i ≤ j ∧ j < t.length
  | 0, i, hi, hf, j, hj => by omega
  | f + 1, i, hi, hf, j, hj => by
    by_cases hl : nf (nAt t i) = -1
    · rw [way_leaf hi hl] at hj
      have : j = i := by simpa using hj
      omega
    · obtain ⟨k, e, h1, h2⟩ := next_in h r hi hl
      rw [way_next h hi hl e, List.mem_cons] at hj
      rcases hj with hj | hj
      · omega
      · have := way_mem h r f k h2 (by omega) j hj; omega
/-- the leaf stands last -/
theorem way_to {t : List Nd} {m : Int} (h : Right t m) (r : List Int) : ∀ (f i : Nat), i < t.length → t.length ≤ f + i → ∀ j ∈ way t r i, (nf (nAt t j) = -1 ↔ j = toD t r i)
  | 0, i, hi, hf, j, hj => by omega
  | f + 1, i, hi, hf, j, hj => by
    by_cases hl : nf (nAt t i) = -1
    · rw [way_leaf hi hl] at hj
      have : j = i := by simpa using hj
      subst this
      rw [to_leaf hi hl]; simp [hl]
    · obtain ⟨k, e, h1, h2⟩ := next_in h r hi hl
      rw [way_next h hi hl e, List.mem_cons] at hj
      rw [to_next h hi hl e]
      rcases hj with rfl | hj
      · constructor
        · intro q; exact absurd q hl
        · intro q
          have := to_end h r f k h2 (by omega)
          rw [← q] at this
          exact absurd this.2 hl
      · exact way_to h r f k h2 (by omega) j hj
theorem to_mem {t : List Nd} {m : Int} (h : Right t m) (r : List Int) : ∀ (f i : Nat), i < t.length → t.length ≤ f + i → toD t r i ∈ way t r i
  | 0, i, hi, hf => by omega
  | f + 1, i, hi, hf => by
    by_cases hl : nf (nAt t i) = -1
    · rw [way_leaf hi hl, to_leaf hi hl]; simp
    · obtain ⟨k, e, h1, h2⟩ := next_in h r hi hl
      rw [way_next h hi hl e, to_next h hi hl e]
      exact List.mem_cons_of_mem _ (to_mem h r f k h2 (by omega))

/-- the node above a place -/
def abv (t : List Nd) (k : Nat) : Option Nat := firstN (fun i => decide (nf (nAt t i) ≠ -1) && (decide (nl (nAt t i) = (k : Int)) || decide (nr (nAt t i) = (k : Int)))) t.length
theorem abv_iff {t : List Nd} {m : Int} (F : Fair t m) {k u : Nat} (hk : k < t.length) : abv t k = some u ↔ u < t.length ∧ chL (nAt t u) k := by
  unfold abv
  constructor
  · intro h
    obtain ⟨h1, h2⟩ := first_some h
    simp at h2
    exact ⟨h1, h2.1, h2.2⟩
  · rintro ⟨h1, h2, h3⟩
    cases e : firstN (fun i => decide (nf (nAt t i) ≠ -1) && (decide (nl (nAt t i) = (k : Int)) || decide (nr (nAt t i) = (k : Int)))) t.length with
    | none =>
      have := first_none e u h1
      simp [h2] at this
      omega
    | some v =>
      obtain ⟨g1, g2⟩ := first_some e
      simp at g2
      have hp : 0 < k := by
        obtain ⟨a, b, ea, eb, q1, q2, q3, q4, _⟩ := ask_at F.2.2.2.2.1 h1 h2
        omega
      rw [up_one (F.2.2.2.2.2 k hp hk) h1 g1 ⟨h2, h3⟩ ⟨g2.1, g2.2⟩]
theorem abv_root {t : List Nd} {m : Int} (F : Fair t m) : abv t 0 = none := by
  cases e : abv t 0 with
  | none => rfl
  | some u =>
    obtain ⟨h1, h2, h3⟩ := (abv_iff F F.2.1).1 e
    obtain ⟨a, b, ea, eb, q1, q2, q3, q4, _⟩ := ask_at F.2.2.2.2.1 h1 h2
    omega
theorem abv_lt {t : List Nd} {m : Int} (F : Fair t m) {k u : Nat} (hk : k < t.length) (h : abv t k = some u) : u < k := by
  obtain ⟨h1, h2, h3⟩ := (abv_iff F hk).1 h
  obtain ⟨a, b, ea, eb, q1, q2, q3, q4, _⟩ := ask_at F.2.2.2.2.1 h1 h2
  omega
theorem abv_some {t : List Nd} {m : Int} (F : Fair t m) {k : Nat} (hk : k < t.length) (hp : 0 < k) : ∃ u, abv t k = some u := by
  obtain ⟨j, hj, hc⟩ := up_some (F.2.2.2.2.2 k hp hk)
  exact ⟨j, (abv_iff F hk).2 ⟨hj, hc⟩⟩

/-- what a question leaves of a span -/
def narrow (n : Nd) (b : Bool) (s : Sp) : Sp :=
  if b = true then (s.1, if nc n - 1 < s.2.1 then nc n - 1 else s.2.1, s.2.2 && ns n) else (if s.1 < nc n then nc n else s.1, s.2.1, s.2.2 && !ns n)
theorem in_narrow {n : Nd} {b : Bool} {s : Sp} {c : Int} : inS c (narrow n b s) = (inS c s && (lessC n c == b)) := by
  unfold inS narrow lessC
  by_cases hc : c = nilI
  · cases b <;> simp [hc]
  · simp only [if_neg hc]
    cases b with
    | true =>
      simp only [if_true]
      by_cases h1 : nc n - 1 < s.2.1
      · simp only [if_pos h1]
        by_cases h2 : s.1 ≤ c
        · by_cases h3 : c < nc n
          · simp [h2, h3]; omega
          · simp [h2, h3]; omega
        · simp [h2]
      · simp only [if_neg h1]
        by_cases h2 : s.1 ≤ c
        · by_cases h3 : c ≤ s.2.1
          · simp [h2, h3]; omega
          · simp [h2, h3]
        · simp [h2]
    | false =>
      simp only [Bool.false_eq_true, if_false]
      by_cases h1 : s.1 < nc n
      · simp only [if_pos h1]
        by_cases h3 : c ≤ s.2.1
        · by_cases h2 : nc n ≤ c
          · simp [h3, h2]; omega
          · simp [h3, h2]; omega
        · simp [h3]
      · simp only [if_neg h1]
        by_cases h2 : s.1 ≤ c
        · by_cases h3 : c ≤ s.2.1
          · simp [h2, h3]; omega
          · simp [h2, h3]
        · simp [h2]

def all0 : Sp := (-1000000, 1000000, true)
/-- what is left when one goes up from a node -/
def regD (t : List Nd) : Nat → Nat → List Sp → List Sp
  | 0, _, l => l
  | f + 1, k, l => match abv t k with
    | none => l
    | some u => regD t f u (l.set (nf (nAt t u)).toNat (narrow (nAt t u) (decide (nl (nAt t u) = (k : Int))) (l.getD (nf (nAt t u)).toNat (0, 0, false))))
def region (t : List Nd) (m : Nat) (k : Nat) : List Sp := regD t t.length k (List.replicate m all0)
theorem reg_len (t : List Nd) : ∀ (f k : Nat) (l : List Sp), (regD t f k l).length = l.length
  | 0, k, l => rfl
  | f + 1, k, l => by
    unfold regD
    split
    · rfl
    · rw [reg_len t f]; simp
theorem region_len (t : List Nd) (m k : Nat) : (region t m k).length = m := by unfold region; rw [reg_len]; simp

/-- a row is within spans -/
def within (r : List Int) (l : List Sp) : Prop := ∀ j, j < l.length → inS (r.getD j 0) (l.getD j (0, 0, false)) = true
/-- a row goes by all questions above a node -/
def passD (t : List Nd) (r : List Int) : Nat → Nat → Prop
  | 0, _ => True
  | f + 1, k => match abv t k with
    | none => True
    | some u => lessC (nAt t u) (r.getD (nf (nAt t u)).toNat 0) = decide (nl (nAt t u) = (k : Int)) ∧ passD t r f u
theorem gd_self {α : Type} {l : List α} {i : Nat} {x d : α} (h : i < l.length) : (l.set i x).getD i d = x := by rw [List.getD, List.getElem?_set_self h]; rfl
theorem gd_ne {α : Type} {l : List α} {i j : Nat} {x d : α} (h : j ≠ i) : (l.set i x).getD j d = l.getD j d := by rw [List.getD, List.getElem?_set_ne (fun q => h q.symm)]; rfl
theorem within_set {r : List Int} {l : List Sp} {i : Nat} {n : Nd} {b : Bool} (hi : i < l.length) : within r (l.set i (narrow n b (l.getD i (0, 0, false)))) ↔ within r l ∧ lessC n (r.getD i 0) = b := by
  unfold within
  rw [List.length_set]
  constructor
  · intro h
    have hb : inS (r.getD i 0) (l.getD i (0, 0, false)) = true ∧ lessC n (r.getD i 0) = b := by
      have := h i hi
      rw [gd_self hi, in_narrow] at this
      simpa using this
    refine ⟨fun j hj => ?_, hb.2⟩
    by_cases e : j = i
    · subst e; exact hb.1
    · have := h j hj
      rw [gd_ne e] at this
      exact this
  · rintro ⟨h, hb⟩ j hj
    by_cases e : j = i
    · subst e
      rw [gd_self hi, in_narrow, h j hj, hb]; simp
    · rw [gd_ne e]
      exact h j hj
theorem reg_pass {t : List Nd} {m : Nat} (F : Fair t (m : Int)) (r : List Int) : ∀ (f k : Nat) (l : List Sp), k < t.length → l.length = m → (within r (regD t f k l) ↔ within r l ∧ passD t r f k)
  | 0, k, l, hk, hl => by unfold regD passD; simp
  | f + 1, k, l, hk, hl => by
    unfold regD passD
    cases e : abv t k with
    | none => simp
    | some u =>
      simp only
      obtain ⟨h1, h2⟩ := (abv_iff F hk).1 e
      obtain ⟨g0, g1, _⟩ := node_ask (F.2.2.2.2.1 u h1) h2.1
      rw [reg_pass F r f u _ h1 (by rw [List.length_set]; exact hl), within_set (by omega)]
      constructor
      · rintro ⟨⟨a, b⟩, c⟩; exact ⟨a, b, c⟩
      · rintro ⟨a, b, c⟩; exact ⟨⟨a, b⟩, c⟩

/-- who goes by all questions above a node comes to it, and no other -/
theorem pass_way {t : List Nd} {m : Nat} (F : Fair t (m : Int)) (r : List Int) : ∀ (f k : Nat), k < t.length → k < f → (passD t r f k ↔ k ∈ way t r 0)
  | 0, k, hk, hf => by omega
  | f + 1, k, hk, hf => by
    have hR := F.2.2.2.2.1
    by_cases h0 : k = 0
    · subst h0
      obtain ⟨l, e⟩ := way_ne hR r F.2.1
      unfold passD
      rw [abv_root F, e]; simp
    · obtain ⟨u, hu⟩ := abv_some F hk (by omega)
      obtain ⟨h1, h2⟩ := (abv_iff F hk).1 hu
      have hlt := abv_lt F hk hu
      unfold passD
      rw [hu]
      simp only
      rw [pass_way F r f u h1 (by omega)]
      obtain ⟨a, b, ea, eb, q1, q2, q3, q4, hab⟩ := ask_at hR h1 h2.1
      have step : ∀ (g i : Nat), i < t.length → t.length ≤ g + i → i ≤ u → (u ∈ way t r i → (nextI (nAt t u) r = k ↔ k ∈ way t r i)) := by
        intro g
        induction g with
        | zero => intro i hi hg hiu hm; omega
        | succ g ih =>
          intro i hi hg hiu hm
          by_cases hl : nf (nAt t i) = -1
          · rw [way_leaf hi hl] at hm
            have : u = i := by simpa using hm
            subst this
            exact absurd hl h2.1
          · obtain ⟨p, ep, p1, p2⟩ := next_in hR r hi hl
            rw [way_next hR hi hl ep] at hm ⊢
            by_cases hui : u = i
            · subst hui
              constructor
              · intro q
                have : p = k := by omega
                subst this
                obtain ⟨l, el⟩ := way_ne hR r p2
                rw [el]; simp
              · intro q
                rw [List.mem_cons] at q
                rcases q with q | q
                · omega
                · by_cases hpk : p = k
                  · omega
                  · exfalso
                    have hne : ∀ (d j : Nat), j < t.length → t.length ≤ d + j → u < j → k ≠ j → k ∉ way t r j := by
                      intro d
                      induction d with
                      | zero => intro j hj hd _ _ _; omega
                      | succ d ihd =>
                        intro j hj hd huj hkj hmem
                        by_cases hjl : nf (nAt t j) = -1
                        · rw [way_leaf hj hjl] at hmem
                          exact hkj (by simpa using hmem)
                        · obtain ⟨p', ep', p1', p2'⟩ := next_in hR r hj hjl
                          rw [way_next hR hj hjl ep', List.mem_cons] at hmem
                          rcases hmem with hmem | hmem
                          · exact hkj hmem
                          · by_cases hkp : k = p'
                            · have : chL (nAt t j) k := ⟨hjl, by
                                unfold nextI at ep'
                                split at ep'
                                · left; omega
                                · right; omega⟩
                              have := up_one (F.2.2.2.2.2 k (by omega) hk) h1 hj h2 this
                              omega
                            · exact ihd p' p2' (by omega) (by omega) hkp hmem
                    exact hne t.length p p2 (by omega) p1 (fun q => hpk q.symm) q
            · rw [List.mem_cons] at hm
              rcases hm with hm | hm
              · exact absurd hm hui
              · have hpu : p ≤ u := (way_mem hR r t.length p p2 (by omega) u hm).1
                rw [ih p p2 (by omega) hpu hm, List.mem_cons]
                constructor
                · intro q; exact .inr q
                · rintro (q | q)
                  · omega
                  · exact q
      have side : lessC (nAt t u) (r.getD (nf (nAt t u)).toNat 0) = decide (nl (nAt t u) = (k : Int)) ↔ nextI (nAt t u) r = k := by
        unfold nextI
        have := h2.2
        cases lessC (nAt t u) (r.getD (nf (nAt t u)).toNat 0) with
        | true =>
          simp
        | false =>
          simp
          constructor
          · intro q; omega
          · intro q; omega
      constructor
      · rintro ⟨q1, q2⟩
        exact (step t.length 0 F.2.1 (by omega) (by omega) q2).1 (side.1 q1)
      · intro q
        have hu0 : u ∈ way t r 0 := by
          have pre : ∀ (g i : Nat), i < t.length → t.length ≤ g + i → i < k → k ∈ way t r i → u ∈ way t r i := by
            intro g
            induction g with
            | zero => intro i hi hg _ _; omega
            | succ g ih =>
              intro i hi hg hik hm
              by_cases hl : nf (nAt t i) = -1
              · rw [way_leaf hi hl] at hm
                have : k = i := by simpa using hm
                omega
              · obtain ⟨p, ep, p1, p2⟩ := next_in hR r hi hl
                rw [way_next hR hi hl ep, List.mem_cons] at hm
                rw [way_next hR hi hl ep, List.mem_cons]
                rcases hm with hm | hm
                · omega
                · by_cases hpk : p = k
                  · left
                    have : chL (nAt t i) k := ⟨hl, by
                      unfold nextI at ep
                      split at ep
                      · left; omega
                      · right; omega⟩
                    exact up_one (F.2.2.2.2.2 k (by omega) hk) h1 hi h2 this
                  · have := way_mem hR r t.length p p2 (by omega) k hm
                    exact .inr (ih p p2 (by omega) (by omega) hm)
          exact pre t.length 0 F.2.1 (by omega) (by omega) q
        exact ⟨side.2 ((step t.length 0 F.2.1 (by omega) (by omega) hu0).2 q), hu0⟩
theorem region_within {t : List Nd} {m : Nat} (F : Fair t (m : Int)) {r : List Int} (hr : rowF r = 0) (hm : r.length = m) {k : Nat} (hk : k < t.length) : within r (region t m k) ↔ k ∈ way t r 0 := by
  unfold region
  rw [reg_pass F r t.length k _ hk (by simp), pass_way F r t.length k hk hk]
  constructor
  · exact fun h => h.2
  · refine fun h => ⟨fun j hj => ?_, h⟩
    have hj' : j < m := by simpa using hj
    have e : (List.replicate m all0).getD j (0, 0, false) = all0 := by simp [List.getD, hj']
    rw [e]
    have hg := ((row_ok r).1 hr).2 (r.getD j 0) (by rw [List.getD, List.getElem?_eq_getElem (by omega)]; exact List.getElem_mem (by omega))
    rcases bad_false hg with q | ⟨q, q2⟩
    · rw [in_nil q]; rfl
    · rw [in_num q]
      have := out_false q2
      show (decide ((-1000000 : Int) ≤ r.getD j 0) && decide (r.getD j 0 ≤ 1000000)) = true
      rw [decide_eq_true (by omega), decide_eq_true (by omega)]; rfl
theorem region_leaf {t : List Nd} {m : Nat} (F : Fair t (m : Int)) {r : List Int} (hr : rowF r = 0) (hm : r.length = m) {k : Nat} (hk : k < t.length) (hl : nf (nAt t k) = -1) : within r (region t m k) ↔ k = toD t r 0 := by
  rw [region_within F hr hm hk]
  constructor
  · intro h; exact (way_to F.2.2.2.2.1 r t.length 0 F.2.1 (by omega) k h).1 hl
  · intro h; rw [h]; exact to_mem F.2.2.2.2.1 r t.length 0 F.2.1 (by omega)
/-- a span that has no number, as it is told -/
def norm (s : Sp) : Sp := if s.2.1 < s.1 then (1, 0, s.2.2) else s
theorem in_norm (c : Int) (s : Sp) : inS c (norm s) = inS c s := by
  unfold norm
  by_cases h : s.2.1 < s.1
  · rw [if_pos h]
    by_cases hc : c = nilI
    · rw [in_nil hc, in_nil hc]
    · rw [in_num hc, in_num hc]
      have h1 : (decide ((1 : Int) ≤ c) && decide (c ≤ 0)) = false := by
        by_cases q : (1 : Int) ≤ c
        · rw [decide_eq_false (show ¬ c ≤ 0 by omega)]; simp
        · rw [decide_eq_false q]; rfl
      have h2 : (decide (s.1 ≤ c) && decide (c ≤ s.2.1)) = false := by
        by_cases q : s.1 ≤ c
        · rw [decide_eq_false (show ¬ c ≤ s.2.1 by omega)]; simp
        · rw [decide_eq_false q]; rfl
      rw [h2]; exact h1
  · rw [if_neg h]
/-- a span has something -/
def hasS (s : Sp) : Bool := decide (s.1 ≤ s.2.1) || s.2.2
def anyS (l : List Sp) : Bool := l.all hasS
theorem has_norm (s : Sp) : hasS (norm s) = hasS s := by
  unfold hasS norm
  by_cases h : s.2.1 < s.1
  · rw [if_pos h, decide_eq_false (show ¬ s.1 ≤ s.2.1 by omega)]; simp
  · rw [if_neg h]
theorem any_norm (l : List Sp) : anyS (l.map norm) = anyS l := by
  unfold anyS
  rw [List.all_map]
  congr 1
  funext s
  exact has_norm s
theorem has_in {c : Int} {s : Sp} (h : inS c s = true) : hasS s = true := by
  unfold hasS
  by_cases hc : c = nilI
  · rw [in_nil hc] at h; rw [h]; simp
  · rw [in_num hc] at h
    simp at h
    rw [decide_eq_true (show s.1 ≤ s.2.1 by omega)]; rfl
theorem getD_at {α : Type} {l : List α} {i : Nat} {d : α} (h : i < l.length) : l.getD i d = l[i] := by rw [List.getD, List.getElem?_eq_getElem h]; rfl
theorem any_within {r : List Int} {l : List Sp} (h : within r l) : anyS l = true := by
  unfold anyS
  rw [List.all_eq_true]
  intro s hs
  obtain ⟨i, hi, rfl⟩ := List.getElem_of_mem hs
  have := h i hi
  rw [getD_at hi] at this
  exact has_in this
/-- the row that is picked -/
def pickC (s : Sp) : Int := if s.1 ≤ s.2.1 then s.1 else nilI
def pick (l : List Sp) : List Int := l.map pickC
theorem pick_norm (s : Sp) (h : hasS s = true) : inS (pickC (norm s)) s = true ∨ outI s.1 = true := by
  cases ho : outI s.1 with
  | true => exact .inr rfl
  | false =>
    left
    unfold norm pickC
    by_cases hc : s.2.1 < s.1
    · rw [if_pos hc]
      rw [if_neg (by simp)]
      rw [in_nil rfl]
      unfold hasS at h
      rw [decide_eq_false (show ¬ s.1 ≤ s.2.1 by omega)] at h
      simpa using h
    · rw [if_neg hc, if_pos (by omega), in_num (ne_nil ho)]
      rw [decide_eq_true (Int.le_refl _), decide_eq_true (show s.1 ≤ s.2.1 by omega)]; rfl
/-- the fault of one span, and of spans -/
def sp1F (s : Sp) : Int := if outI s.1 = true ∨ outI s.2.1 = true then 1 else if hasS s = false then 5 else 0
def spF (l : List Sp) : Int := if 8 < l.length then 4 else match firstN (fun i => !decide (sp1F (l.getD i (0, 0, false)) = 0)) l.length with
  | some i => sp1F (l.getD i (0, 0, false))
  | none => 0
theorem sp_ok {l : List Sp} (h8 : l.length ≤ 8) (h : ∀ s ∈ l, sp1F s = 0) : spF l = 0 := by
  unfold spF
  rw [if_neg (by omega), first_miss (fun j hj => by rw [getD_at hj, h _ (List.getElem_mem hj)]; rfl)]
/-- the ends of a region's spans -/
def okS (s : Sp) : Prop := -1000000 ≤ s.1 ∧ s.1 ≤ 1000000 ∧ -1000001 ≤ s.2.1 ∧ s.2.1 ≤ 1000000
theorem ok_narrow {n : Nd} {b : Bool} {s : Sp} (h : okS s) (hc : outI (nc n) = false) : okS (narrow n b s) := by
  have := out_false hc
  unfold okS at *
  unfold narrow
  cases b with
  | true =>
    simp only [if_true]
    split <;> omega
  | false =>
    simp only [Bool.false_eq_true, if_false]
    split <;> omega
theorem reg_ok {t : List Nd} {m : Nat} (F : Fair t (m : Int)) : ∀ (f k : Nat) (l : List Sp), k < t.length → l.length = m → (∀ s ∈ l, okS s) → ∀ s ∈ regD t f k l, okS s
  | 0, k, l, hk, hm, hl => hl
  | f + 1, k, l, hk, hm, hl => by
    unfold regD
    cases e : abv t k with
    | none => exact hl
    | some u =>
      obtain ⟨h1, h2⟩ := (abv_iff F hk).1 e
      have q := node_ask (F.2.2.2.2.1 u h1) h2.1
      have hi : (nf (nAt t u)).toNat < l.length := by have := q.1; have := q.2.1; omega
      refine reg_ok F f u _ h1 (by rw [List.length_set]; exact hm) ?_
      intro s hs
      rcases List.mem_or_eq_of_mem_set hs with g | g
      · exact hl s g
      · rw [g, getD_at hi]; exact ok_narrow (hl _ (List.getElem_mem hi)) q.2.2.1
theorem region_ok {t : List Nd} {m : Nat} (F : Fair t (m : Int)) {k : Nat} (hk : k < t.length) : ∀ s ∈ region t m k, okS s := by
  unfold region
  refine reg_ok F t.length k _ hk (by simp) ?_
  intro s hs
  rw [List.mem_replicate] at hs
  rw [hs.2]
  unfold okS all0
  simp
theorem out_in {x : Int} (h1 : -1000000 ≤ x) (h2 : x ≤ 1000000) : outI x = false := by
  unfold outI
  rw [decide_eq_false (show ¬ x < -1000000 by omega), decide_eq_false (show ¬ 1000000 < x by omega)]; rfl
/-- of a leaf that is reached there is a row: the one that is picked -/
theorem witness {t : List Nd} {m : Nat} (F : Fair t (m : Int)) {k : Nat} (hk : k < t.length) (hl : nf (nAt t k) = -1) (ha : anyS (region t m k) = true) :
    spF ((region t m k).map norm) = 0 ∧ rowF (pick ((region t m k).map norm)) = 0 ∧ toD t (pick ((region t m k).map norm)) 0 = k := by
  have h8 : m ≤ 8 := by have := F.2.2.2.1; omega
  have hlen := region_len t m k
  have hok := region_ok F hk
  have hall : ∀ s ∈ region t m k, hasS s = true := by unfold anyS at ha; rw [List.all_eq_true] at ha; exact ha
  have hin : ∀ s ∈ region t m k, inS (pickC (norm s)) s = true := fun s hs => by
    rcases pick_norm s (hall s hs) with q | q
    · exact q
    · have := hok s hs; unfold okS at this
      rw [out_in this.1 this.2.1] at q; cases q
  have hgood : ∀ s ∈ region t m k, badCell (pickC (norm s)) = false := fun s hs => by
    have q := hok s hs
    unfold okS at q
    unfold norm pickC
    by_cases hc : s.2.1 < s.1
    · rw [if_pos hc, if_neg (by simp)]; exact good_nil
    · rw [if_neg hc, if_pos (by omega)]; exact good_cell (out_in q.1 q.2.1)
  have hrow : rowF (pick ((region t m k).map norm)) = 0 := by
    rw [row_ok]
    unfold pick
    refine ⟨by rw [List.length_map, List.length_map, hlen]; exact h8, fun x hx => ?_⟩
    rw [List.map_map, List.mem_map] at hx
    obtain ⟨s, hs, rfl⟩ := hx
    exact hgood s hs
  refine ⟨sp_ok (by rw [List.length_map, hlen]; exact h8) ?_, hrow, ?_⟩
  · intro s' hs'
    rw [List.mem_map] at hs'
    obtain ⟨s, hs, rfl⟩ := hs'
    have q := hok s hs
    unfold okS at q
    unfold sp1F
    rw [has_norm, hall s hs]
    have : ¬ (outI (norm s).1 = true ∨ outI (norm s).2.1 = true) := by
      unfold norm
      by_cases hc : s.2.1 < s.1
      · rw [if_pos hc]; simp [outI]
      · rw [if_neg hc, out_in q.1 q.2.1, out_in (show -1000000 ≤ s.2.1 by omega) q.2.2.2]; simp
    rw [if_neg this]; rfl
  · have hp : (pick ((region t m k).map norm)).length = m := by unfold pick; rw [List.length_map, List.length_map, hlen]
    refine ((region_leaf F hrow hp hk hl).1 ?_).symm
    intro j hj
    have hj' : j < (pick ((region t m k).map norm)).length := by omega
    rw [getD_at hj', getD_at hj]
    have e : (pick ((region t m k).map norm))[j] = pickC (norm (region t m k)[j]) := by unfold pick; simp
    rw [e]
    exact hin _ (List.getElem_mem hj)

/-- the leaves that are reached -/
def rch (t : List Nd) (m : Nat) : Nat → List Int
  | 0 => []
  | k + 1 => if leafB (nAt t k) = true ∧ anyS (region t m k) = true then rch t m k ++ [(k : Int)] else rch t m k
theorem rch_len (t : List Nd) (m : Nat) : ∀ k, (rch t m k).length ≤ k
  | 0 => by unfold rch; simp
  | k + 1 => by
    unfold rch
    have := rch_len t m k
    split
    · simp; omega
    · omega
theorem rch_mem (t : List Nd) (m : Nat) : ∀ (k : Nat) (x : Int), x ∈ rch t m k ↔ ∃ j : Nat, x = j ∧ j < k ∧ leafB (nAt t j) = true ∧ anyS (region t m j) = true
  | 0, x => by
    unfold rch
    constructor
    · intro h; simp at h
    · rintro ⟨j, _, h, _⟩; omega
  | k + 1, x => by
    unfold rch
    have ih := rch_mem t m k x
    by_cases h : leafB (nAt t k) = true ∧ anyS (region t m k) = true
    · rw [if_pos h, List.mem_append, ih]
      constructor
      · rintro (⟨j, e, h1, h2⟩ | q)
        · exact ⟨j, e, by omega, h2⟩
        · exact ⟨k, by simpa using q, by omega, h⟩
      · rintro ⟨j, e, h1, h2⟩
        by_cases hj : j = k
        · subst hj; exact .inr (by simp [e])
        · exact .inl ⟨j, e, by omega, h2⟩
    · rw [if_neg h, ih]
      constructor
      · rintro ⟨j, e, h1, h2⟩; exact ⟨j, e, by omega, h2⟩
      · rintro ⟨j, e, h1, h2⟩
        by_cases hj : j = k
        · subst hj; exact absurd h2 h
        · exact ⟨j, e, by omega, h2⟩

/-- how many leaves are below a node -/
def lfD (t : List Nd) : Nat → Nat → Nat
  | 0, _ => 0
  | f + 1, i => if nf (nAt t i) = -1 then 1 else lfD t f (nl (nAt t i)).toNat + lfD t f (nr (nAt t i)).toNat
def lfs (t : List Nd) (i : Nat) : Nat := lfD t t.length i
theorem lf_enough {t : List Nd} {m : Int} (h : Right t m) : ∀ (f g i : Nat), i < t.length → t.length ≤ f + i → t.length ≤ g + i → lfD t f i = lfD t g i
  | 0, g, i, hi, hf, hg => by omega
  | f + 1, 0, i, hi, hf, hg => by omega
  | f + 1, g + 1, i, hi, hf, hg => by
    unfold lfD
    by_cases hl : nf (nAt t i) = -1
    · rw [if_pos hl, if_pos hl]
    · rw [if_neg hl, if_neg hl]
      obtain ⟨a, b, ea, eb, h1, h2, h3, h4, _⟩ := ask_at h hi hl
      rw [ea, eb, Int.toNat_natCast, Int.toNat_natCast, lf_enough h f g a h2 (by omega) (by omega), lf_enough h f g b h4 (by omega) (by omega)]
theorem lfs_leaf {t : List Nd} {i : Nat} (hi : i < t.length) (hl : nf (nAt t i) = -1) : lfs t i = 1 := by
  unfold lfs
  obtain ⟨f, e⟩ : ∃ f, t.length = f + 1 := ⟨t.length - 1, by omega⟩
  rw [e]; unfold lfD; rw [if_pos hl]
theorem lfs_ask {t : List Nd} {m : Int} (h : Right t m) {i a b : Nat} (hi : i < t.length) (hl : nf (nAt t i) ≠ -1) (ea : nl (nAt t i) = a) (eb : nr (nAt t i) = b) : lfs t i = lfs t a + lfs t b := by
  obtain ⟨a', b', ea', eb', h1, h2, h3, h4, _⟩ := ask_at h hi hl
  have qa : a' = a := by omega
  have qb : b' = b := by omega
  subst qa; subst qb
  unfold lfs
  obtain ⟨f, e⟩ : ∃ f, t.length = f + 1 := ⟨t.length - 1, by omega⟩
  rw [show lfD t t.length i = lfD t f (nl (nAt t i)).toNat + lfD t f (nr (nAt t i)).toNat by rw [e]; conv => lhs; unfold lfD; rw [if_neg hl]]
  rw [ea, eb, Int.toNat_natCast, Int.toNat_natCast, lf_enough h f t.length a' h2 (by omega) (by omega), lf_enough h f t.length b' h4 (by omega) (by omega)]
theorem lfs_bounds {t : List Nd} {m : Int} (h : Right t m) : ∀ (f i : Nat), i < t.length → t.length ≤ f + i → lfs t i ≤ 2 ^ depth t i ∧ depth t i + 1 ≤ lfs t i
  | 0, i, hi, hf => by omega
  | f + 1, i, hi, hf => by
    by_cases hl : nf (nAt t i) = -1
    · rw [lfs_leaf hi hl, depth_leaf hi hl]; simp
    · obtain ⟨a, b, ea, eb, h1, h2, h3, h4, _⟩ := ask_at h hi hl
      rw [lfs_ask h hi hl ea eb, depth_ask h hi hl ea eb]
      obtain ⟨g1, g2⟩ := lfs_bounds h f a h2 (by omega)
      obtain ⟨g3, g4⟩ := lfs_bounds h f b h4 (by omega)
      have p1 : 2 ^ depth t a ≤ 2 ^ max (depth t a) (depth t b) := Nat.pow_le_pow_right (by omega) (by omega)
      have p2 : 2 ^ depth t b ≤ 2 ^ max (depth t a) (depth t b) := Nat.pow_le_pow_right (by omega) (by omega)
      have p3 : 2 ^ (max (depth t a) (depth t b) + 1) = 2 * 2 ^ max (depth t a) (depth t b) := by rw [Nat.pow_succ]; omega
      omega
/-- what is left to be counted behind k nodes -/
def rest (t : List Nd) (k j : Nat) : Nat := if k ≤ j ∧ (j = 0 ∨ ups (t.take k) j = 1) then lfs t j else 0
theorem sumN_three {g h : Nat → Nat} {k a b : Nat} : ∀ n, (∀ i, i < n → i ≠ k → i ≠ a → i ≠ b → g i = h i) → sumN g n + (if k < n then h k else 0) + (if a < n ∧ a ≠ k then h a else 0) + (if b < n ∧ b ≠ k ∧ b ≠ a then h b else 0) = sumN h n + (if k < n then g k else 0) + (if a < n ∧ a ≠ k then g a else 0) + (if b < n ∧ b ≠ k ∧ b ≠ a then g b else 0)
  | 0, _ => by simp [sumN]
  | n + 1, H => by
    have ih := sumN_three n (g := g) (h := h) (k := k) (a := a) (b := b) fun i hi => H i (by omega)
    unfold sumN
    by_cases e1 : n = k
    · subst e1
      have c1 : ¬ n < n := by omega
      simp only [c1, if_false] at ih
      have c2 : n < n + 1 := by omega
      simp only [c2, if_true]
      by_cases ha : a < n ∧ a ≠ n
      · have : a < n + 1 ∧ a ≠ n := ⟨by omega, ha.2⟩
        simp only [ha, this, and_self, if_true, ne_eq, not_false_eq_true] at ih ⊢
        by_cases hb : b < n ∧ b ≠ n ∧ b ≠ a
        · have : b < n + 1 ∧ b ≠ n ∧ b ≠ a := ⟨by omega, hb.2⟩
          rw [if_pos hb, if_pos hb] at ih; rw [if_pos this, if_pos this]; omega
        · have : ¬ (b < n + 1 ∧ b ≠ n ∧ b ≠ a) := fun q => hb ⟨by omega, q.2⟩
          rw [if_neg hb, if_neg hb] at ih; rw [if_neg this, if_neg this]; omega
      · have : ¬ (a < n + 1 ∧ a ≠ n) := fun q => ha ⟨by omega, q.2⟩
        rw [if_neg ha, if_neg ha] at ih; rw [if_neg this, if_neg this]
        by_cases hb : b < n ∧ b ≠ n ∧ b ≠ a
        · have : b < n + 1 ∧ b ≠ n ∧ b ≠ a := ⟨by omega, hb.2⟩
          rw [if_pos hb, if_pos hb] at ih; rw [if_pos this, if_pos this]; omega
        · have : ¬ (b < n + 1 ∧ b ≠ n ∧ b ≠ a) := fun q => hb ⟨by omega, q.2⟩
          rw [if_neg hb, if_neg hb] at ih; rw [if_neg this, if_neg this]; omega
    · have k1 : (k < n + 1) ↔ (k < n) := by omega
      by_cases e2 : n = a
      · subst e2
        have a1 : ¬ (n < n ∧ n ≠ k) := by omega
        have a2 : n < n + 1 ∧ n ≠ k := ⟨by omega, e1⟩
        rw [if_neg a1, if_neg a1] at ih
        rw [if_pos a2, if_pos a2]
        by_cases hb : b < n ∧ b ≠ k ∧ b ≠ n
        · have : b < n + 1 ∧ b ≠ k ∧ b ≠ n := ⟨by omega, hb.2⟩
          rw [if_pos hb, if_pos hb] at ih; rw [if_pos this, if_pos this]
          by_cases hk : k < n
          · rw [if_pos hk, if_pos hk] at ih; rw [if_pos (k1.2 hk), if_pos (k1.2 hk)]; omega
          · rw [if_neg hk, if_neg hk] at ih; rw [if_neg (fun q => hk (k1.1 q)), if_neg (fun q => hk (k1.1 q))]; omega
        · have : ¬ (b < n + 1 ∧ b ≠ k ∧ b ≠ n) := fun q => hb ⟨by omega, q.2⟩
          rw [if_neg hb, if_neg hb] at ih; rw [if_neg this, if_neg this]
          by_cases hk : k < n
          · rw [if_pos hk, if_pos hk] at ih; rw [if_pos (k1.2 hk), if_pos (k1.2 hk)]; omega
          · rw [if_neg hk, if_neg hk] at ih; rw [if_neg (fun q => hk (k1.1 q)), if_neg (fun q => hk (k1.1 q))]; omega
      · have a1 : (a < n + 1 ∧ a ≠ k) ↔ (a < n ∧ a ≠ k) := by omega
        by_cases e3 : n = b
        · subst e3
          have b1 : ¬ (n < n ∧ n ≠ k ∧ n ≠ a) := by omega
          have b2 : n < n + 1 ∧ n ≠ k ∧ n ≠ a := ⟨by omega, e1, e2⟩
          rw [if_neg b1, if_neg b1] at ih
          rw [if_pos b2, if_pos b2]
          simp only [k1, a1]
          omega
        · have b1 : (b < n + 1 ∧ b ≠ k ∧ b ≠ a) ↔ (b < n ∧ b ≠ k ∧ b ≠ a) := by omega
          have := H n (by omega) e1 e2 e3
          simp only [k1, a1, b1]
          omega

theorem edge_no {t : List Nd} {m : Int} (h : Right t m) {i j : Nat} (hi : i < t.length) (hj : j ≤ i) : edge (j : Int) t[i] = 0 := by
  rcases Nat.eq_zero_or_pos (edge (j : Int) t[i]) with e | e
  · exact e
  · have hc := edge_pos.1 e
    rw [← nAt_eq hi] at hc
    obtain ⟨a, b, ea, eb, h1, h2, h3, h4, _⟩ := ask_at h hi hc.1
    have := hc.2
    omega
theorem ups_own {t : List Nd} {m : Int} (h : Right t m) (j : Nat) : ∀ k, j ≤ k → k ≤ t.length → ups (t.take k) (j : Int) = ups (t.take j) (j : Int)
  | 0, h1, h2 => by have : j = 0 := by omega
                    subst this; rfl
  | k + 1, h1, h2 => by
    by_cases e : j = k + 1
    · rw [e]
    · rw [ups_take (by omega), edge_no h (by omega) (by omega), ups_own h j k (by omega) (by omega)]; rfl
theorem ups_mono {t : List Nd} (j : Int) (k : Nat) : ∀ d, k + d ≤ t.length → ups (t.take k) j ≤ ups (t.take (k + d)) j
  | 0, _ => Nat.le_refl _
  | d + 1, h => by
    have := ups_mono (t := t) j k d (by omega)
    have e := ups_take (t := t) (k := k + d) (by omega) j
    rw [show k + (d + 1) = k + d + 1 by omega, e]; omega
theorem count_step {t : List Nd} {m : Int} (F : Fair t m) {k : Nat} (hk : k < t.length) : (lvs t (k + 1)).length + sumN (rest t (k + 1)) t.length = (lvs t k).length + sumN (rest t k) t.length := by
  have hR := F.2.2.2.2.1
  have own : rest t k k = lfs t k := by
    unfold rest
    rw [if_pos]
    refine ⟨Nat.le_refl _, ?_⟩
    by_cases e : k = 0
    · exact .inl e
    · right
      have := ups_own hR k t.length (by omega) (Nat.le_refl _)
      rw [List.take_length, F.2.2.2.2.2 k (by omega) hk] at this
      exact this.symm
  have gone : rest t (k + 1) k = 0 := by unfold rest; rw [if_neg (by omega)]
  have same : ∀ i, i ≠ k → edge (i : Int) t[k] = 0 → rest t (k + 1) i = rest t k i := by
    intro i hi he
    unfold rest
    rw [ups_take hk, he, Nat.add_zero]
    by_cases h1 : k + 1 ≤ i
    · by_cases h2 : i = 0 ∨ ups (t.take k) (i : Int) = 1
      · rw [if_pos ⟨h1, h2⟩, if_pos ⟨by omega, h2⟩]
      · rw [if_neg (fun q => h2 q.2), if_neg (fun q => h2 q.2)]
    · rw [if_neg (fun q => h1 q.1), if_neg (fun q => h1 (by omega))]
  by_cases hl : nf (nAt t k) = -1
  · have he : ∀ i : Nat, edge (i : Int) t[k] = 0 := fun i => by rw [← nAt_eq hk]; unfold edge; rw [if_pos hl]
    have q := sumN_three (g := rest t (k + 1)) (h := rest t k) (k := k) (a := k) (b := k) t.length fun i _ h1 _ _ => same i h1 (he i)
    rw [if_pos hk, if_pos hk, if_neg (by omega), if_neg (by omega), if_neg (by omega), if_neg (by omega), own, gone, lfs_leaf hk hl] at q
    have e : lvs t (k + 1) = lvs t k ++ [(k : Int)] := by
      show (if leafB (nAt t k) = true then lvs t k ++ [(k : Int)] else lvs t k) = _
      rw [if_pos (by unfold leafB; simp [hl])]
    rw [e, List.length_append]
    simp only [List.length_singleton]
    omega
  · obtain ⟨a, b, ea, eb, h1, h2, h3, h4, hab⟩ := ask_at hR hk hl
    have ed : ∀ i : Nat, edge (i : Int) t[k] = (if (a : Int) = i then 1 else 0) + (if (b : Int) = i then 1 else 0) := fun i => by rw [← nAt_eq hk]; unfold edge; rw [if_neg hl, ea, eb]
    have child : ∀ c : Nat, c < t.length → k < c → edge (c : Int) t[k] = 1 → rest t k c = 0 ∧ rest t (k + 1) c = lfs t c := by
      intro c hc hkc he
      have u1 := F.2.2.2.2.2 c (by omega) hc
      have u2 := ups_mono (t := t) (c : Int) (k + 1) (t.length - (k + 1)) (by omega)
      rw [show k + 1 + (t.length - (k + 1)) = t.length by omega, List.take_length, u1, ups_take hk, he] at u2
      constructor
      · unfold rest; rw [if_neg (by omega)]
      · unfold rest
        rw [if_pos]
        refine ⟨by omega, .inr ?_⟩
        rw [ups_take hk, he]; omega
    have ca := child a h2 h1 (by rw [ed, if_pos rfl, if_neg (by omega)])
    have cb := child b h4 h3 (by rw [ed, if_neg (by omega), if_pos rfl])
    have q := sumN_three (g := rest t (k + 1)) (h := rest t k) (k := k) (a := a) (b := b) t.length fun i _ i1 i2 i3 => same i i1 (by rw [ed, if_neg (by omega), if_neg (by omega)])
    have A : a < t.length ∧ a ≠ k := ⟨h2, by omega⟩
    have B : b < t.length ∧ b ≠ k ∧ b ≠ a := ⟨h4, by omega, by omega⟩
    rw [if_pos hk, if_pos hk, if_pos A, if_pos A, if_pos B, if_pos B, own, gone, ca.1, ca.2, cb.1, cb.2, lfs_ask hR hk hl ea eb] at q
    have e : lvs t (k + 1) = lvs t k := by
      show (if leafB (nAt t k) = true then lvs t k ++ [(k : Int)] else lvs t k) = _
      rw [if_neg (by unfold leafB; simp [hl])]
    rw [e]
    omega
theorem count_all {t : List Nd} {m : Int} (F : Fair t m) : ∀ k, k ≤ t.length → (lvs t k).length + sumN (rest t k) t.length = sumN (rest t 0) t.length
  | 0, _ => by simp [lvs]
  | k + 1, h => by rw [count_step F (by omega)]; exact count_all F k (by omega)
theorem leaves_count {t : List Nd} {m : Int} (F : Fair t m) : (lvs t t.length).length = lfs t 0 := by
  have h := count_all F t.length (Nat.le_refl _)
  have e1 : sumN (rest t t.length) t.length = 0 := by
    rw [sumN_congr (g := fun _ => 0) (fun i hi => by unfold rest; rw [if_neg (by omega)]), sumN_zero]
  have e2 : sumN (rest t 0) t.length = lfs t 0 := by
    have : ∀ n, 0 < n → sumN (rest t 0) n = lfs t 0 := by
      intro n
      induction n with
      | zero => intro h; omega
      | succ n ih =>
        intro _
        unfold sumN
        by_cases e : n = 0
        · subst e; unfold sumN rest; simp
        · rw [ih (by omega)]
          have : rest t 0 n = 0 := by
            unfold rest
            rw [if_neg]
            rintro ⟨_, q | q⟩
            · exact e q
            · simp [ups] at q
          omega
    exact this _ F.2.1
  omega
/-- a tree of so many leaves is so deep as it must be, and no deeper than it can be -/
theorem deep_bounds {t : List Nd} {m : Int} (F : Fair t m) : (lvs t t.length).length ≤ 2 ^ depth t 0 ∧ depth t 0 + 1 ≤ (lvs t t.length).length := by
  rw [leaves_count F]; exact lfs_bounds F.2.2.2.2.1 t.length 0 F.2.1 (by omega)

/-- the word of a question, and the text that tells why -/
def whyW (n : Nd) (c : Int) : List UInt8 := 102 :: (Lib.itoa (nf n) ++ if c = nilI then [63] else if c < nc n then 60 :: Lib.itoa (nc n) else 62 :: 61 :: Lib.itoa (nc n))
def whyD (t : List Nd) (r : List Int) : Nat → Nat → List UInt8
  | 0, i => []
  | f + 1, i => if nf (nAt t i) = -1 then 61 :: Lib.itoa (nv (nAt t i)) else whyW (nAt t i) (r.getD (nf (nAt t i)).toNat 0) ++ 32 :: whyD t r f (nextI (nAt t i) r).toNat
def why (t : List Nd) (r : List Int) (i : Nat) : List UInt8 := whyD t r t.length i
theorem why_enough {t : List Nd} {m : Int} (h : Right t m) (r : List Int) : ∀ (f g i : Nat), i < t.length → t.length ≤ f + i → t.length ≤ g + i → whyD t r f i = whyD t r g i
  | 0, g, i, hi, hf, hg => by omega
  | f + 1, 0, i, hi, hf, hg => by omega
  | f + 1, g + 1, i, hi, hf, hg => by
    unfold whyD
    by_cases hl : nf (nAt t i) = -1
    · rw [if_pos hl, if_pos hl]
    · rw [if_neg hl, if_neg hl]
      obtain ⟨k, e, h1, h2⟩ := next_in h r hi hl
      rw [e, Int.toNat_natCast, why_enough h r f g k h2 (by omega) (by omega)]
theorem why_leaf {t : List Nd} {r : List Int} {i : Nat} (hi : i < t.length) (hl : nf (nAt t i) = -1) : why t r i = 61 :: Lib.itoa (nv (nAt t i)) := by
  unfold why
  obtain ⟨f, e⟩ : ∃ f, t.length = f + 1 := ⟨t.length - 1, by omega⟩
  rw [e]; unfold whyD; rw [if_pos hl]
theorem why_next {t : List Nd} {m : Int} (h : Right t m) {r : List Int} {i k : Nat} (hi : i < t.length) (hl : nf (nAt t i) ≠ -1) (e : nextI (nAt t i) r = k) : why t r i = whyW (nAt t i) (r.getD (nf (nAt t i)).toNat 0) ++ 32 :: why t r k := by
  obtain ⟨k', e', h1, h2⟩ := next_in h r hi hl
  have : k' = k := by omega
  subst this
  unfold why
  obtain ⟨f, q⟩ : ∃ f, t.length = f + 1 := ⟨t.length - 1, by omega⟩
  rw [show whyD t r t.length i = whyW (nAt t i) (r.getD (nf (nAt t i)).toNat 0) ++ 32 :: whyD t r f k' by rw [q]; conv => lhs; unfold whyD; rw [if_neg hl, e, Int.toNat_natCast]]
  rw [why_enough h r f t.length k' h2 (by omega) (by omega)]
theorem itoa_no (x : Int) : (Lib.itoa x).count 32 = 0 := by
  rw [List.count_eq_zero]
  intro hc
  unfold Lib.itoa at hc
  split at hc
  · rw [List.mem_cons] at hc
    rcases hc with hc | hc
    · simp at hc
    · have := dig_mem _ _ hc; revert this; decide
  · have := dig_mem _ _ hc; revert this; decide
theorem whyW_no (n : Nd) (c : Int) : (whyW n c).count 32 = 0 := by
  unfold whyW
  split
  · simp [List.count_append, itoa_no]
  · split
    · simp [List.count_append, itoa_no]
    · simp [List.count_append, itoa_no]
/-- as many words as nodes on the way -/
theorem why_words {t : List Nd} {m : Int} (h : Right t m) (r : List Int) : ∀ (f i : Nat), i < t.length → t.length ≤ f + i → (why t r i).count 32 + 1 = (way t r i).length
  | 0, i, hi, hf => by omega
  | f + 1, i, hi, hf => by
    by_cases hl : nf (nAt t i) = -1
    · rw [why_leaf hi hl, way_leaf hi hl]
      simp [itoa_no]
    · obtain ⟨k, e, h1, h2⟩ := next_in h r hi hl
      rw [why_next h hi hl e, way_next h hi hl e, List.count_append, whyW_no, List.count_cons, List.length_cons]
      have ih := why_words h r f k h2 (by omega)
      simp
      omega
/-- its end is the value -/
theorem why_end {t : List Nd} {m : Int} (h : Right t m) (r : List Int) : ∀ (f i : Nat), i < t.length → t.length ≤ f + i → ∃ l, why t r i = l ++ 61 :: Lib.itoa (nv (nAt t (toD t r i)))
  | 0, i, hi, hf => by omega
  | f + 1, i, hi, hf => by
    by_cases hl : nf (nAt t i) = -1
    · rw [why_leaf hi hl, to_leaf hi hl]; exact ⟨[], rfl⟩
    · obtain ⟨k, e, h1, h2⟩ := next_in h r hi hl
      rw [why_next h hi hl e, to_next h hi hl e]
      obtain ⟨l, q⟩ := why_end h r f k h2 (by omega)
      exact ⟨whyW (nAt t i) (r.getD (nf (nAt t i)).toNat 0) ++ 32 :: l, by rw [q]; simp⟩

/-- what the calls answer -/
def pathV (t : List Nd) (r : List Int) : List Int := if readyF t r = 0 then (way t r 0).map Int.ofNat else []
theorem path_len {t : List Nd} {r : List Int} (h : readyF t r = 0) : (pathV t r).length ≤ depth t 0 + 1 := by
  obtain ⟨F, _⟩ := tree_ok (ready_ok h).2
  unfold pathV
  rw [if_pos h, List.length_map]
  exact way_len F.2.2.2.2.1 r t.length 0 F.2.1 (by omega)
/-- the tree of one question that says nothing -/
def oneD : List Nd := [(0, 0, 1, 2, false, 0), (-1, 0, 0, 0, false, 0), (-1, 0, 0, 0, false, 0)]
theorem oneD_ok : (treeF oneD 8).2 = 0 := by decide +kernel
theorem oneD_deep : depthV oneD = 1 := by decide +kernel
end Go.Proofs.YtiggkjkjfnlfkaaGreatDoor.M
