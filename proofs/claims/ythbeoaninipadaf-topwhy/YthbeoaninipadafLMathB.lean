/-
  Several texts as one: MathP, MathX, MathG, MathJ, MathH, MathZ, MathLa, MathU, MathLb, MathLc.
-/
import Derived.Test.YthbeoaninipadafLMathA
import Derived.Lib.Join
namespace Go.Proofs.Ythbeoaninipadaf.M
set_option linter.unusedVariables false

/-- the way from a node on -/
def wayD (t : List Nd) (r : List Int) : Nat → Nat → List Nat
  | 0, i => []
  | f + 1, i => if nf (nAt t i) = -1 then [i] else i :: wayD t r f (nextI (nAt t i) r).toNat
def way (t : List Nd) (r : List Int) (i : Nat) : List Nat := wayD t r t.length i
/-- all nodes are right -/
abbrev Right (t : List Nd) (m : Int) : Prop := ∀ j, j < t.length → nodeF (nAt t j) j t.length m = 0
theorem way_enough {t : List Nd} {m : Int} (h : Right t m) (r : List Int) : ∀ (f g i : Nat), i < t.length → t.length ≤ f + i → t.length ≤ g + i → wayD t r f i = wayD t r g i
  | 0, g, i, hi, hf, hg => by omega
  | f + 1, 0, i, hi, hf, hg => by omega
  | f + 1, g + 1, i, hi, hf, hg => by
    unfold wayD
    by_cases hl : nf (nAt t i) = -1
    · rw [if_pos hl, if_pos hl]
    · rw [if_neg hl, if_neg hl]
      obtain ⟨k, e, h1, h2⟩ := next_in h r hi hl
      rw [e, Int.toNat_natCast, way_enough h r f g k h2 (by omega) (by omega)]
theorem way_leaf {t : List Nd} {r : List Int} {i : Nat} (hi : i < t.length) (hl : nf (nAt t i) = -1) : way t r i = [i] := by
  unfold way
  obtain ⟨f, e⟩ : ∃ f, t.length = f + 1 := ⟨t.length - 1, by omega⟩
  rw [e]; unfold wayD; rw [if_pos hl]
theorem way_next {t : List Nd} {m : Int} (h : Right t m) {r : List Int} {i k : Nat} (hi : i < t.length) (hl : nf (nAt t i) ≠ -1) (e : nextI (nAt t i) r = k) : way t r i = i :: way t r k := by
  obtain ⟨k', e', h1, h2⟩ := next_in h r hi hl
  have : k' = k := by omega
  subst this
  unfold way
  obtain ⟨f, q⟩ : ∃ f, t.length = f + 1 := ⟨t.length - 1, by omega⟩
  rw [show wayD t r t.length i = i :: wayD t r f k' by rw [q]; conv => lhs; unfold wayD; rw [if_neg hl, e, Int.toNat_natCast]]
  rw [way_enough h r f t.length k' h2 (by omega) (by omega)]
theorem way_ne {t : List Nd} {m : Int} (h : Right t m) (r : List Int) {i : Nat} (hi : i < t.length) : ∃ l, way t r i = i :: l := by
  by_cases hl : nf (nAt t i) = -1
  · exact ⟨[], way_leaf hi hl⟩
  · obtain ⟨k, e, h1, h2⟩ := next_in h r hi hl
    exact ⟨_, way_next h hi hl e⟩
theorem way_len {t : List Nd} {m : Int} (h : Right t m) (r : List Int) : ∀ (f i : Nat), i < t.length → t.length ≤ f + i → (way t r i).length ≤ depth t i + 1
  | 0, i, hi, hf => by omega
  | f + 1, i, hi, hf => by
    by_cases hl : nf (nAt t i) = -1
    · rw [way_leaf hi hl]; simp
    · obtain ⟨k, e, h1, h2⟩ := next_in h r hi hl
      obtain ⟨a, b, ea, eb, g1, g2, g3, g4, _⟩ := ask_at h hi hl
      rw [way_next h hi hl e, depth_ask h hi hl ea eb, List.length_cons]
      have ih := way_len h r f k h2 (by omega)
      have : depth t k ≤ max (depth t a) (depth t b) := by
        unfold nextI at e
        split at e
        · have : a = k := by omega
          subst this; omega
        · have : b = k := by omega
          subst this; omega
      omega
theorem way_size {t : List Nd} {m : Int} (h : Right t m) (r : List Int) : ∀ (f i : Nat), i < t.length → t.length ≤ f + i → (way t r i).length + i ≤ t.length
  | 0, i, hi, hf => by omega
  | f + 1, i, hi, hf => by
    by_cases hl : nf (nAt t i) = -1
    · rw [way_leaf hi hl]; simp; omega
    · obtain ⟨k, e, h1, h2⟩ := next_in h r hi hl
      rw [way_next h hi hl e, List.length_cons]
      have ih := way_size h r f k h2 (by omega)
      omega
theorem way_mem {t : List Nd} {m : Int} (h : Right t m) (r : List Int) : ∀ (f i : Nat), i < t.length → t.length ≤ f + i → ∀ j ∈ way t r i, i ≤ j ∧ j < t.length
  | 0, i, hi, hf, j, hj => by omega
  | f + 1, i, hi, hf, j, hj => by
    by_cases hl : nf (nAt t i) = -1
    · rw [way_leaf hi hl] at hj
      have : j = i := by simpa using hj
      omega
    · obtain ⟨k, e, h1, h2⟩ := next_in h r hi hl
      rw [way_next h hi hl e, List.mem_cons] at hj
      rcases hj with hj | hj
      · omega
      · have := way_mem h r f k h2 (by omega) j hj; omega
/-- the leaf stands last -/
theorem way_to {t : List Nd} {m : Int} (h : Right t m) (r : List Int) : ∀ (f i : Nat), i < t.length → t.length ≤ f + i → ∀ j ∈ way t r i, (nf (nAt t j) = -1 ↔ j = toD t r i)
  | 0, i, hi, hf, j, hj => by omega
  | f + 1, i, hi, hf, j, hj => by
    by_cases hl : nf (nAt t i) = -1
    · rw [way_leaf hi hl] at hj
      have : j = i := by simpa using hj
      subst this
      rw [to_leaf hi hl]; simp [hl]
    · obtain ⟨k, e, h1, h2⟩ := next_in h r hi hl
      rw [way_next h hi hl e, List.mem_cons] at hj
      rw [to_next h hi hl e]
      rcases hj with rfl | hj
      · constructor
        · intro q; exact absurd q hl
        · intro q
          have := to_end h r f k h2 (by omega)
          rw [← q] at this
          exact absurd this.2 hl
      · exact way_to h r f k h2 (by omega) j hj
theorem to_mem {t : List Nd} {m : Int} (h : Right t m) (r : List Int) : ∀ (f i : Nat), i < t.length → t.length ≤ f + i → toD t r i ∈ way t r i
  | 0, i, hi, hf => by omega
  | f + 1, i, hi, hf => by
    by_cases hl : nf (nAt t i) = -1
    · rw [way_leaf hi hl, to_leaf hi hl]; simp
    · obtain ⟨k, e, h1, h2⟩ := next_in h r hi hl
      rw [way_next h hi hl e, to_next h hi hl e]
      exact List.mem_cons_of_mem _ (to_mem h r f k h2 (by omega))

/-- the node above a place -/
def abv (t : List Nd) (k : Nat) : Option Nat := firstN (fun i => decide (nf (nAt t i) ≠ -1) && (decide (nl (nAt t i) = (k : Int)) || decide (nr (nAt t i) = (k : Int)))) t.length
theorem abv_iff {t : List Nd} {m : Int} (F : Fair t m) {k u : Nat} (hk : k < t.length) : abv t k = some u ↔ u < t.length ∧ chL (nAt t u) k := by
  unfold abv
  constructor
  · intro h
    obtain ⟨h1, h2⟩ := first_some h
    simp at h2
    exact ⟨h1, h2.1, h2.2⟩
  · rintro ⟨h1, h2, h3⟩
    cases e : firstN (fun i => decide (nf (nAt t i) ≠ -1) && (decide (nl (nAt t i) = (k : Int)) || decide (nr (nAt t i) = (k : Int)))) t.length with
    | none =>
      have := first_none e u h1
      simp [h2] at this
      omega
    | some v =>
      obtain ⟨g1, g2⟩ := first_some e
      simp at g2
      have hp : 0 < k := by
        obtain ⟨a, b, ea, eb, q1, q2, q3, q4, _⟩ := ask_at F.2.2.2.2.1 h1 h2
        omega
      rw [up_one (F.2.2.2.2.2 k hp hk) h1 g1 ⟨h2, h3⟩ ⟨g2.1, g2.2⟩]
theorem abv_root {t : List Nd} {m : Int} (F : Fair t m) : abv t 0 = none := by
  cases e : abv t 0 with
  | none => rfl
  | some u =>
    obtain ⟨h1, h2, h3⟩ := (abv_iff F F.2.1).1 e
    obtain ⟨a, b, ea, eb, q1, q2, q3, q4, _⟩ := ask_at F.2.2.2.2.1 h1 h2
    omega
theorem abv_lt {t : List Nd} {m : Int} (F : Fair t m) {k u : Nat} (hk : k < t.length) (h : abv t k = some u) : u < k := by
  obtain ⟨h1, h2, h3⟩ := (abv_iff F hk).1 h
  obtain ⟨a, b, ea, eb, q1, q2, q3, q4, _⟩ := ask_at F.2.2.2.2.1 h1 h2
  omega
theorem abv_some {t : List Nd} {m : Int} (F : Fair t m) {k : Nat} (hk : k < t.length) (hp : 0 < k) : ∃ u, abv t k = some u := by
  obtain ⟨j, hj, hc⟩ := up_some (F.2.2.2.2.2 k hp hk)
  exact ⟨j, (abv_iff F hk).2 ⟨hj, hc⟩⟩

/-- what a question leaves of a span -/
def narrow (n : Nd) (b : Bool) (s : Sp) : Sp :=
  if b = true then (s.1, if nc n - 1 < s.2.1 then nc n - 1 else s.2.1, s.2.2 && ns n) else (if s.1 < nc n then nc n else s.1, s.2.1, s.2.2 && !ns n)
theorem in_narrow {n : Nd} {b : Bool} {s : Sp} {c : Int} : inS c (narrow n b s) = (inS c s && (lessC n c == b)) := by
  unfold inS narrow lessC
  by_cases hc : c = nilI
  · cases b <;> simp [hc]
  · simp only [if_neg hc]
    cases b with
    | true =>
      simp only [if_true]
      by_cases h1 : nc n - 1 < s.2.1
      · simp only [if_pos h1]
        by_cases h2 : s.1 ≤ c
        · by_cases h3 : c < nc n
          · simp [h2, h3]; omega
          · simp [h2, h3]; omega
        · simp [h2]
      · simp only [if_neg h1]
        by_cases h2 : s.1 ≤ c
        · by_cases h3 : c ≤ s.2.1
          · simp [h2, h3]; omega
          · simp [h2, h3]
        · simp [h2]
    | false =>
      simp only [Bool.false_eq_true, if_false]
      by_cases h1 : s.1 < nc n
      · simp only [if_pos h1]
        by_cases h3 : c ≤ s.2.1
        · by_cases h2 : nc n ≤ c
          · simp [h3, h2]; omega
          · simp [h3, h2]; omega
        · simp [h3]
      · simp only [if_neg h1]
        by_cases h2 : s.1 ≤ c
        · by_cases h3 : c ≤ s.2.1
          · simp [h2, h3]; omega
          · simp [h2, h3]
        · simp [h2]

def all0 : Sp := (-1000000, 1000000, true)
/-- what is left when one goes up from a node -/
def regD (t : List Nd) : Nat → Nat → List Sp → List Sp
  | 0, _, l => l
  | f + 1, k, l => match abv t k with
    | none => l
    | some u => regD t f u (l.set (nf (nAt t u)).toNat (narrow (nAt t u) (decide (nl (nAt t u) = (k : Int))) (l.getD (nf (nAt t u)).toNat (0, 0, false))))
def region (t : List Nd) (m : Nat) (k : Nat) : List Sp := regD t t.length k (List.replicate m all0)
theorem reg_len (t : List Nd) : ∀ (f k : Nat) (l : List Sp), (regD t f k l).length = l.length
  | 0, k, l => rfl
  | f + 1, k, l => by
    unfold regD
    split
    · rfl
    · rw [reg_len t f]; simp
theorem region_len (t : List Nd) (m k : Nat) : (region t m k).length = m := by unfold region; rw [reg_len]; simp

/-- a row is within spans -/
def within (r : List Int) (l : List Sp) : Prop := ∀ j, j < l.length → inS (r.getD j 0) (l.getD j (0, 0, false)) = true
/-- a row goes by all questions above a node -/
def passD (t : List Nd) (r : List Int) : Nat → Nat → Prop
  | 0, _ => True
  | f + 1, k => match abv t k with
    | none => True
    | some u => lessC (nAt t u) (r.getD (nf (nAt t u)).toNat 0) = decide (nl (nAt t u) = (k : Int)) ∧ passD t r f u
theorem gd_self {α : Type} {l : List α} {i : Nat} {x d : α} (h : i < l.length) : (l.set i x).getD i d = x := by rw [List.getD, List.getElem?_set_self h]; rfl
theorem gd_ne {α : Type} {l : List α} {i j : Nat} {x d : α} (h : j ≠ i) : (l.set i x).getD j d = l.getD j d := by rw [List.getD, List.getElem?_set_ne (fun q => h q.symm)]; rfl
theorem within_set {r : List Int} {l : List Sp} {i : Nat} {n : Nd} {b : Bool} (hi : i < l.length) : within r (l.set i (narrow n b (l.getD i (0, 0, false)))) ↔ within r l ∧ lessC n (r.getD i 0) = b := by
  unfold within
  rw [List.length_set]
  constructor
  · intro h
    have hb : inS (r.getD i 0) (l.getD i (0, 0, false)) = true ∧ lessC n (r.getD i 0) = b := by
      have := h i hi
      rw [gd_self hi, in_narrow] at this
      simpa using this
    refine ⟨fun j hj => ?_, hb.2⟩
    by_cases e : j = i
    · subst e; exact hb.1
    · have := h j hj
      rw [gd_ne e] at this
      exact this
  · rintro ⟨h, hb⟩ j hj
    by_cases e : j = i
    · subst e
      rw [gd_self hi, in_narrow, h j hj, hb]; simp
    · rw [gd_ne e]
      exact h j hj
theorem reg_pass {t : List Nd} {m : Nat} (F : Fair t (m : Int)) (r : List Int) : ∀ (f k : Nat) (l : List Sp), k < t.length → l.length = m → (within r (regD t f k l) ↔ within r l ∧ passD t r f k)
  | 0, k, l, hk, hl => by unfold regD passD; simp
  | f + 1, k, l, hk, hl => by
    unfold regD passD
    cases e : abv t k with
    | none => simp
    | some u =>
      simp only
      obtain ⟨h1, h2⟩ := (abv_iff F hk).1 e
      obtain ⟨g0, g1, _⟩ := node_ask (F.2.2.2.2.1 u h1) h2.1
      rw [reg_pass F r f u _ h1 (by rw [List.length_set]; exact hl), within_set (by omega)]
      constructor
      · rintro ⟨⟨a, b⟩, c⟩; exact ⟨a, b, c⟩
      · rintro ⟨a, b, c⟩; exact ⟨⟨a, b⟩, c⟩

/-- who goes by all questions above a node comes to it, and no other -/
theorem pass_way {t : List Nd} {m : Nat} (F : Fair t (m : Int)) (r : List Int) : ∀ (f k : Nat), k < t.length → k < f → (passD t r f k ↔ k ∈ way t r 0)
  | 0, k, hk, hf => by omega
  | f + 1, k, hk, hf => by
    have hR := F.2.2.2.2.1
    by_cases h0 : k = 0
    · subst h0
      obtain ⟨l, e⟩ := way_ne hR r F.2.1
      unfold passD
      rw [abv_root F, e]; simp
    · obtain ⟨u, hu⟩ := abv_some F hk (by omega)
      obtain ⟨h1, h2⟩ := (abv_iff F hk).1 hu
      have hlt := abv_lt F hk hu
      unfold passD
      rw [hu]
      simp only
      rw [pass_way F r f u h1 (by omega)]
      obtain ⟨a, b, ea, eb, q1, q2, q3, q4, hab⟩ := ask_at hR h1 h2.1
      have step : ∀ (g i : Nat), i < t.length → t.length ≤ g + i → i ≤ u → (u ∈ way t r i → (nextI (nAt t u) r = k ↔ k ∈ way t r i)) := by
        intro g
        induction g with
        | zero => intro i hi hg hiu hm; omega
        | succ g ih =>
          intro i hi hg hiu hm
          by_cases hl : nf (nAt t i) = -1
          · rw [way_leaf hi hl] at hm
            have : u = i := by simpa using hm
            subst this
            exact absurd hl h2.1
          · obtain ⟨p, ep, p1, p2⟩ := next_in hR r hi hl
            rw [way_next hR hi hl ep] at hm ⊢
            by_cases hui : u = i
            · subst hui
              constructor
              · intro q
                have : p = k := by omega
                subst this
                obtain ⟨l, el⟩ := way_ne hR r p2
                rw [el]; simp
              · intro q
                rw [List.mem_cons] at q
                rcases q with q | q
                · omega
                · by_cases hpk : p = k
                  · omega
                  · exfalso
                    have hne : ∀ (d j : Nat), j < t.length → t.length ≤ d + j → u < j → k ≠ j → k ∉ way t r j := by
                      intro d
                      induction d with
                      | zero => intro j hj hd _ _ _; omega
                      | succ d ihd =>
                        intro j hj hd huj hkj hmem
                        by_cases hjl : nf (nAt t j) = -1
                        · rw [way_leaf hj hjl] at hmem
                          exact hkj (by simpa using hmem)
                        · obtain ⟨p', ep', p1', p2'⟩ := next_in hR r hj hjl
                          rw [way_next hR hj hjl ep', List.mem_cons] at hmem
                          rcases hmem with hmem | hmem
                          · exact hkj hmem
                          · by_cases hkp : k = p'
                            · have : chL (nAt t j) k := ⟨hjl, by
                                unfold nextI at ep'
                                split at ep'
                                · left; omega
                                · right; omega⟩
                              have := up_one (F.2.2.2.2.2 k (by omega) hk) h1 hj h2 this
                              omega
                            · exact ihd p' p2' (by omega) (by omega) hkp hmem
                    exact hne t.length p p2 (by omega) p1 (fun q => hpk q.symm) q
            · rw [List.mem_cons] at hm
              rcases hm with hm | hm
              · exact absurd hm hui
              · have hpu : p ≤ u := (way_mem hR r t.length p p2 (by omega) u hm).1
                rw [ih p p2 (by omega) hpu hm, List.mem_cons]
                constructor
                · intro q; exact .inr q
                · rintro (q | q)
                  · omega
                  · exact q
      have side : lessC (nAt t u) (r.getD (nf (nAt t u)).toNat 0) = decide (nl (nAt t u) = (k : Int)) ↔ nextI (nAt t u) r = k := by
        unfold nextI
        have := h2.2
        cases lessC (nAt t u) (r.getD (nf (nAt t u)).toNat 0) with
        | true =>
          simp
        | false =>
          simp
          constructor
          · intro q; omega
          · intro q; omega
      constructor
      · rintro ⟨q1, q2⟩
        exact (step t.length 0 F.2.1 (by omega) (by omega) q2).1 (side.1 q1)
      · intro q
        have hu0 : u ∈ way t r 0 := by
          have pre : ∀ (g i : Nat), i < t.length → t.length ≤ g + i → i < k → k ∈ way t r i → u ∈ way t r i := by
            intro g
            induction g with
            | zero => intro i hi hg _ _; omega
            | succ g ih =>
              intro i hi hg hik hm
              by_cases hl : nf (nAt t i) = -1
              · rw [way_leaf hi hl] at hm
                have : k = i := by simpa using hm
                omega
              · obtain ⟨p, ep, p1, p2⟩ := next_in hR r hi hl
                rw [way_next hR hi hl ep, List.mem_cons] at hm
                rw [way_next hR hi hl ep, List.mem_cons]
                rcases hm with hm | hm
                · omega
                · by_cases hpk : p = k
                  · left
                    have : chL (nAt t i) k := ⟨hl, by
                      unfold nextI at ep
                      split at ep
                      · left; omega
                      · right; omega⟩
                    exact up_one (F.2.2.2.2.2 k (by omega) hk) h1 hi h2 this
                  · have := way_mem hR r t.length p p2 (by omega) k hm
                    exact .inr (ih p p2 (by omega) (by omega) hm)
          exact pre t.length 0 F.2.1 (by omega) (by omega) q
        exact ⟨side.2 ((step t.length 0 F.2.1 (by omega) (by omega) hu0).2 q), hu0⟩
theorem region_within {t : List Nd} {m : Nat} (F : Fair t (m : Int)) {r : List Int} (hr : rowF r = 0) (hm : r.length = m) {k : Nat} (hk : k < t.length) : within r (region t m k) ↔ k ∈ way t r 0 := by
  unfold region
  rw [reg_pass F r t.length k _ hk (by simp), pass_way F r t.length k hk hk]
  constructor
  · exact fun h => h.2
  · refine fun h => ⟨fun j hj => ?_, h⟩
    have hj' : j < m := by simpa using hj
    have e : (List.replicate m all0).getD j (0, 0, false) = all0 := by simp [List.getD, hj']
    rw [e]
    have hg := ((row_ok r).1 hr).2 (r.getD j 0) (by rw [List.getD, List.getElem?_eq_getElem (by omega)]; exact List.getElem_mem (by omega))
    rcases bad_false hg with q | ⟨q, q2⟩
    · rw [in_nil q]; rfl
    · rw [in_num q]
      have := out_false q2
      show (decide ((-1000000 : Int) ≤ r.getD j 0) && decide (r.getD j 0 ≤ 1000000)) = true
      rw [decide_eq_true (by omega), decide_eq_true (by omega)]; rfl
theorem region_leaf {t : List Nd} {m : Nat} (F : Fair t (m : Int)) {r : List Int} (hr : rowF r = 0) (hm : r.length = m) {k : Nat} (hk : k < t.length) (hl : nf (nAt t k) = -1) : within r (region t m k) ↔ k = toD t r 0 := by
  rw [region_within F hr hm hk]
  constructor
  · intro h; exact (way_to F.2.2.2.2.1 r t.length 0 F.2.1 (by omega) k h).1 hl
  · intro h; rw [h]; exact to_mem F.2.2.2.2.1 r t.length 0 F.2.1 (by omega)

end Go.Proofs.Ythbeoaninipadaf.M

namespace Go.Proofs.Ythbeoaninipadaf.M
set_option linter.unusedVariables false

/-- a span that has no number, as it is told -/
def norm (s : Sp) : Sp := if s.2.1 < s.1 then (1, 0, s.2.2) else s
theorem in_norm (c : Int) (s : Sp) : inS c (norm s) = inS c s := by
  unfold norm
  by_cases h : s.2.1 < s.1
  · rw [if_pos h]
    by_cases hc : c = nilI
    · rw [in_nil hc, in_nil hc]
    · rw [in_num hc, in_num hc]
      have h1 : (decide ((1 : Int) ≤ c) && decide (c ≤ 0)) = false := by
        by_cases q : (1 : Int) ≤ c
        · rw [decide_eq_false (show ¬ c ≤ 0 by omega)]; simp
        · rw [decide_eq_false q]; rfl
      have h2 : (decide (s.1 ≤ c) && decide (c ≤ s.2.1)) = false := by
        by_cases q : s.1 ≤ c
        · rw [decide_eq_false (show ¬ c ≤ s.2.1 by omega)]; simp
        · rw [decide_eq_false q]; rfl
      rw [h2]; exact h1
  · rw [if_neg h]
/-- a span has something -/
def hasS (s : Sp) : Bool := decide (s.1 ≤ s.2.1) || s.2.2
def anyS (l : List Sp) : Bool := l.all hasS
theorem has_norm (s : Sp) : hasS (norm s) = hasS s := by
  unfold hasS norm
  by_cases h : s.2.1 < s.1
  · rw [if_pos h, decide_eq_false (show ¬ s.1 ≤ s.2.1 by omega)]; simp
  · rw [if_neg h]
theorem any_norm (l : List Sp) : anyS (l.map norm) = anyS l := by
  unfold anyS
  rw [List.all_map]
  congr 1
  funext s
  exact has_norm s
theorem has_in {c : Int} {s : Sp} (h : inS c s = true) : hasS s = true := by
  unfold hasS
  by_cases hc : c = nilI
  · rw [in_nil hc] at h; rw [h]; simp
  · rw [in_num hc] at h
    simp at h
    rw [decide_eq_true (show s.1 ≤ s.2.1 by omega)]; rfl
theorem getD_at {α : Type} {l : List α} {i : Nat} {d : α} (h : i < l.length) : l.getD i d = l[i] := by rw [List.getD, List.getElem?_eq_getElem h]; rfl
theorem any_within {r : List Int} {l : List Sp} (h : within r l) : anyS l = true := by
  unfold anyS
  rw [List.all_eq_true]
  intro s hs
  obtain ⟨i, hi, rfl⟩ := List.getElem_of_mem hs
  have := h i hi
  rw [getD_at hi] at this
  exact has_in this
/-- the row that is picked -/
def pickC (s : Sp) : Int := if s.1 ≤ s.2.1 then s.1 else nilI
def pick (l : List Sp) : List Int := l.map pickC
theorem pick_norm (s : Sp) (h : hasS s = true) : inS (pickC (norm s)) s = true ∨ outI s.1 = true := by
  cases ho : outI s.1 with
  | true => exact .inr rfl
  | false =>
    left
    unfold norm pickC
    by_cases hc : s.2.1 < s.1
    · rw [if_pos hc]
      rw [if_neg (by simp)]
      rw [in_nil rfl]
      unfold hasS at h
      rw [decide_eq_false (show ¬ s.1 ≤ s.2.1 by omega)] at h
      simpa using h
    · rw [if_neg hc, if_pos (by omega), in_num (ne_nil ho)]
      rw [decide_eq_true (Int.le_refl _), decide_eq_true (show s.1 ≤ s.2.1 by omega)]; rfl
/-- the fault of one span, and of spans -/
def sp1F (s : Sp) : Int := if outI s.1 = true ∨ outI s.2.1 = true then 1 else if hasS s = false then 5 else 0
def spF (l : List Sp) : Int := if 8 < l.length then 4 else match firstN (fun i => !decide (sp1F (l.getD i (0, 0, false)) = 0)) l.length with
  | some i => sp1F (l.getD i (0, 0, false))
  | none => 0
theorem sp_ok {l : List Sp} (h8 : l.length ≤ 8) (h : ∀ s ∈ l, sp1F s = 0) : spF l = 0 := by
  unfold spF
  rw [if_neg (by omega), first_miss (fun j hj => by rw [getD_at hj, h _ (List.getElem_mem hj)]; rfl)]
/-- the ends of a region's spans -/
def okS (s : Sp) : Prop := -1000000 ≤ s.1 ∧ s.1 ≤ 1000000 ∧ -1000001 ≤ s.2.1 ∧ s.2.1 ≤ 1000000
theorem ok_narrow {n : Nd} {b : Bool} {s : Sp} (h : okS s) (hc : outI (nc n) = false) : okS (narrow n b s) := by
  have := out_false hc
  unfold okS at *
  unfold narrow
  cases b with
  | true =>
    simp only [if_true]
    split <;> omega
  | false =>
    simp only [Bool.false_eq_true, if_false]
    split <;> omega
theorem reg_ok {t : List Nd} {m : Nat} (F : Fair t (m : Int)) : ∀ (f k : Nat) (l : List Sp), k < t.length → l.length = m → (∀ s ∈ l, okS s) → ∀ s ∈ regD t f k l, okS s
  | 0, k, l, hk, hm, hl => hl
  | f + 1, k, l, hk, hm, hl => by
    unfold regD
    cases e : abv t k with
    | none => exact hl
    | some u =>
      obtain ⟨h1, h2⟩ := (abv_iff F hk).1 e
      have q := node_ask (F.2.2.2.2.1 u h1) h2.1
      have hi : (nf (nAt t u)).toNat < l.length := by have := q.1; have := q.2.1; omega
      refine reg_ok F f u _ h1 (by rw [List.length_set]; exact hm) ?_
      intro s hs
      rcases List.mem_or_eq_of_mem_set hs with g | g
      · exact hl s g
      · rw [g, getD_at hi]; exact ok_narrow (hl _ (List.getElem_mem hi)) q.2.2.1
theorem region_ok {t : List Nd} {m : Nat} (F : Fair t (m : Int)) {k : Nat} (hk : k < t.length) : ∀ s ∈ region t m k, okS s := by
  unfold region
  refine reg_ok F t.length k _ hk (by simp) ?_
  intro s hs
  rw [List.mem_replicate] at hs
  rw [hs.2]
  unfold okS all0
  simp
theorem out_in {x : Int} (h1 : -1000000 ≤ x) (h2 : x ≤ 1000000) : outI x = false := by
  unfold outI
  rw [decide_eq_false (show ¬ x < -1000000 by omega), decide_eq_false (show ¬ 1000000 < x by omega)]; rfl
/-- of a leaf that is reached there is a row: the one that is picked -/
theorem witness {t : List Nd} {m : Nat} (F : Fair t (m : Int)) {k : Nat} (hk : k < t.length) (hl : nf (nAt t k) = -1) (ha : anyS (region t m k) = true) :
    spF ((region t m k).map norm) = 0 ∧ rowF (pick ((region t m k).map norm)) = 0 ∧ toD t (pick ((region t m k).map norm)) 0 = k := by
  have h8 : m ≤ 8 := by have := F.2.2.2.1; omega
  have hlen := region_len t m k
  have hok := region_ok F hk
  have hall : ∀ s ∈ region t m k, hasS s = true := by unfold anyS at ha; rw [List.all_eq_true] at ha; exact ha
  have hin : ∀ s ∈ region t m k, inS (pickC (norm s)) s = true := fun s hs => by
    rcases pick_norm s (hall s hs) with q | q
    · exact q
    · have := hok s hs; unfold okS at this
      rw [out_in this.1 this.2.1] at q; cases q
  have hgood : ∀ s ∈ region t m k, badCell (pickC (norm s)) = false := fun s hs => by
    have q := hok s hs
    unfold okS at q
    unfold norm pickC
    by_cases hc : s.2.1 < s.1
    · rw [if_pos hc, if_neg (by simp)]; exact good_nil
    · rw [if_neg hc, if_pos (by omega)]; exact good_cell (out_in q.1 q.2.1)
  have hrow : rowF (pick ((region t m k).map norm)) = 0 := by
    rw [row_ok]
    unfold pick
    refine ⟨by rw [List.length_map, List.length_map, hlen]; exact h8, fun x hx => ?_⟩
    rw [List.map_map, List.mem_map] at hx
    obtain ⟨s, hs, rfl⟩ := hx
    exact hgood s hs
  refine ⟨sp_ok (by rw [List.length_map, hlen]; exact h8) ?_, hrow, ?_⟩
  · intro s' hs'
    rw [List.mem_map] at hs'
    obtain ⟨s, hs, rfl⟩ := hs'
    have q := hok s hs
    unfold okS at q
    unfold sp1F
    rw [has_norm, hall s hs]
    have : ¬ (outI (norm s).1 = true ∨ outI (norm s).2.1 = true) := by
      unfold norm
      by_cases hc : s.2.1 < s.1
      · rw [if_pos hc]; simp [outI]
      · rw [if_neg hc, out_in q.1 q.2.1, out_in (show -1000000 ≤ s.2.1 by omega) q.2.2.2]; simp
    rw [if_neg this]; rfl
  · have hp : (pick ((region t m k).map norm)).length = m := by unfold pick; rw [List.length_map, List.length_map, hlen]
    refine ((region_leaf F hrow hp hk hl).1 ?_).symm
    intro j hj
    have hj' : j < (pick ((region t m k).map norm)).length := by omega
    rw [getD_at hj', getD_at hj]
    have e : (pick ((region t m k).map norm))[j] = pickC (norm (region t m k)[j]) := by unfold pick; simp
    rw [e]
    exact hin _ (List.getElem_mem hj)

/-- the leaves that are reached -/
def rch (t : List Nd) (m : Nat) : Nat → List Int
  | 0 => []
  | k + 1 => if leafB (nAt t k) = true ∧ anyS (region t m k) = true then rch t m k ++ [(k : Int)] else rch t m k
theorem rch_len (t : List Nd) (m : Nat) : ∀ k, (rch t m k).length ≤ k
  | 0 => by unfold rch; simp
  | k + 1 => by
    unfold rch
    have := rch_len t m k
    split
    · simp; omega
    · omega
theorem rch_mem (t : List Nd) (m : Nat) : ∀ (k : Nat) (x : Int), x ∈ rch t m k ↔ ∃ j : Nat, x = j ∧ j < k ∧ leafB (nAt t j) = true ∧ anyS (region t m j) = true
  | 0, x => by
    unfold rch
    constructor
    · intro h; simp at h
    · rintro ⟨j, _, h, _⟩; omega
  | k + 1, x => by
    unfold rch
    have ih := rch_mem t m k x
    by_cases h : leafB (nAt t k) = true ∧ anyS (region t m k) = true
    · rw [if_pos h, List.mem_append, ih]
      constructor
      · rintro (⟨j, e, h1, h2⟩ | q)
        · exact ⟨j, e, by omega, h2⟩
        · exact ⟨k, by simpa using q, by omega, h⟩
      · rintro ⟨j, e, h1, h2⟩
        by_cases hj : j = k
        · subst hj; exact .inr (by simp [e])
        · exact .inl ⟨j, e, by omega, h2⟩
    · rw [if_neg h, ih]
      constructor
      · rintro ⟨j, e, h1, h2⟩; exact ⟨j, e, by omega, h2⟩
      · rintro ⟨j, e, h1, h2⟩
        by_cases hj : j = k
        · subst hj; exact absurd h2 h
        · exact ⟨j, e, by omega, h2⟩

/-- how many leaves are below a node -/
def lfD (t : List Nd) : Nat → Nat → Nat
  | 0, _ => 0
  | f + 1, i => if nf (nAt t i) = -1 then 1 else lfD t f (nl (nAt t i)).toNat + lfD t f (nr (nAt t i)).toNat
def lfs (t : List Nd) (i : Nat) : Nat := lfD t t.length i
theorem lf_enough {t : List Nd} {m : Int} (h : Right t m) : ∀ (f g i : Nat), i < t.length → t.length ≤ f + i → t.length ≤ g + i → lfD t f i = lfD t g i
  | 0, g, i, hi, hf, hg => by omega
  | f + 1, 0, i, hi, hf, hg => by omega
  | f + 1, g + 1, i, hi, hf, hg => by
    unfold lfD
    by_cases hl : nf (nAt t i) = -1
    · rw [if_pos hl, if_pos hl]
    · rw [if_neg hl, if_neg hl]
      obtain ⟨a, b, ea, eb, h1, h2, h3, h4, _⟩ := ask_at h hi hl
      rw [ea, eb, Int.toNat_natCast, Int.toNat_natCast, lf_enough h f g a h2 (by omega) (by omega), lf_enough h f g b h4 (by omega) (by omega)]
theorem lfs_leaf {t : List Nd} {i : Nat} (hi : i < t.length) (hl : nf (nAt t i) = -1) : lfs t i = 1 := by
  unfold lfs
  obtain ⟨f, e⟩ : ∃ f, t.length = f + 1 := ⟨t.length - 1, by omega⟩
  rw [e]; unfold lfD; rw [if_pos hl]
theorem lfs_ask {t : List Nd} {m : Int} (h : Right t m) {i a b : Nat} (hi : i < t.length) (hl : nf (nAt t i) ≠ -1) (ea : nl (nAt t i) = a) (eb : nr (nAt t i) = b) : lfs t i = lfs t a + lfs t b := by
  obtain ⟨a', b', ea', eb', h1, h2, h3, h4, _⟩ := ask_at h hi hl
  have qa : a' = a := by omega
  have qb : b' = b := by omega
  subst qa; subst qb
  unfold lfs
  obtain ⟨f, e⟩ : ∃ f, t.length = f + 1 := ⟨t.length - 1, by omega⟩
  rw [show lfD t t.length i = lfD t f (nl (nAt t i)).toNat + lfD t f (nr (nAt t i)).toNat by rw [e]; conv => lhs; unfold lfD; rw [if_neg hl]]
  rw [ea, eb, Int.toNat_natCast, Int.toNat_natCast, lf_enough h f t.length a' h2 (by omega) (by omega), lf_enough h f t.length b' h4 (by omega) (by omega)]
theorem lfs_bounds {t : List Nd} {m : Int} (h : Right t m) : ∀ (f i : Nat), i < t.length → t.length ≤ f + i → lfs t i ≤ 2 ^ depth t i ∧ depth t i + 1 ≤ lfs t i
  | 0, i, hi, hf => by omega
  | f + 1, i, hi, hf => by
    by_cases hl : nf (nAt t i) = -1
    · rw [lfs_leaf hi hl, depth_leaf hi hl]; simp
    · obtain ⟨a, b, ea, eb, h1, h2, h3, h4, _⟩ := ask_at h hi hl
      rw [lfs_ask h hi hl ea eb, depth_ask h hi hl ea eb]
      obtain ⟨g1, g2⟩ := lfs_bounds h f a h2 (by omega)
      obtain ⟨g3, g4⟩ := lfs_bounds h f b h4 (by omega)
      have p1 : 2 ^ depth t a ≤ 2 ^ max (depth t a) (depth t b) := Nat.pow_le_pow_right (by omega) (by omega)
      have p2 : 2 ^ depth t b ≤ 2 ^ max (depth t a) (depth t b) := Nat.pow_le_pow_right (by omega) (by omega)
      have p3 : 2 ^ (max (depth t a) (depth t b) + 1) = 2 * 2 ^ max (depth t a) (depth t b) := by rw [Nat.pow_succ]; omega
      omega
/-- what is left to be counted behind k nodes -/
def rest (t : List Nd) (k j : Nat) : Nat := if k ≤ j ∧ (j = 0 ∨ ups (t.take k) j = 1) then lfs t j else 0
theorem sumN_three {g h : Nat → Nat} {k a b : Nat} : ∀ n, (∀ i, i < n → i ≠ k → i ≠ a → i ≠ b → g i = h i) → sumN g n + (if k < n then h k else 0) + (if a < n ∧ a ≠ k then h a else 0) + (if b < n ∧ b ≠ k ∧ b ≠ a then h b else 0) = sumN h n + (if k < n then g k else 0) + (if a < n ∧ a ≠ k then g a else 0) + (if b < n ∧ b ≠ k ∧ b ≠ a then g b else 0)
  | 0, _ => by simp [sumN]
  | n + 1, H => by
    have ih := sumN_three n (g := g) (h := h) (k := k) (a := a) (b := b) fun i hi => H i (by omega)
    unfold sumN
    by_cases e1 : n = k
    · subst e1
      have c1 : ¬ n < n := by omega
      simp only [c1, if_false] at ih
      have c2 : n < n + 1 := by omega
      simp only [c2, if_true]
      by_cases ha : a < n ∧ a ≠ n
      · have : a < n + 1 ∧ a ≠ n := ⟨by omega, ha.2⟩
        simp only [ha, this, and_self, if_true, ne_eq, not_false_eq_true] at ih ⊢
        by_cases hb : b < n ∧ b ≠ n ∧ b ≠ a
        · have : b < n + 1 ∧ b ≠ n ∧ b ≠ a := ⟨by omega, hb.2⟩
          rw [if_pos hb, if_pos hb] at ih; rw [if_pos this, if_pos this]; omega
        · have : ¬ (b < n + 1 ∧ b ≠ n ∧ b ≠ a) := fun q => hb ⟨by omega, q.2⟩
          rw [if_neg hb, if_neg hb] at ih; rw [if_neg this, if_neg this]; omega
      · have : ¬ (a < n + 1 ∧ a ≠ n) := fun q => ha ⟨by omega, q.2⟩
        rw [if_neg ha, if_neg ha] at ih; rw [if_neg this, if_neg this]
        by_cases hb : b < n ∧ b ≠ n ∧ b ≠ a
        · have : b < n + 1 ∧ b ≠ n ∧ b ≠ a := ⟨by omega, hb.2⟩
          rw [if_pos hb, if_pos hb] at ih; rw [if_pos this, if_pos this]; omega
        · have : ¬ (b < n + 1 ∧ b ≠ n ∧ b ≠ a) := fun q => hb ⟨by omega, q.2⟩
          rw [if_neg hb, if_neg hb] at ih; rw [if_neg this, if_neg this]; omega
    · have k1 : (k < n + 1) ↔ (k < n) := by omega
      by_cases e2 : n = a
      · subst e2
        have a1 : ¬ (n < n ∧ n ≠ k) := by omega
        have a2 : n < n + 1 ∧ n ≠ k := ⟨by omega, e1⟩
        rw [if_neg a1, if_neg a1] at ih
        rw [if_pos a2, if_pos a2]
        by_cases hb : b < n ∧ b ≠ k ∧ b ≠ n
        · have : b < n + 1 ∧ b ≠ k ∧ b ≠ n := ⟨by omega, hb.2⟩
          rw [if_pos hb, if_pos hb] at ih; rw [if_pos this, if_pos this]
          by_cases hk : k < n
          · rw [if_pos hk, if_pos hk] at ih; rw [if_pos (k1.2 hk), if_pos (k1.2 hk)]; omega
          · rw [if_neg hk, if_neg hk] at ih; rw [if_neg (fun q => hk (k1.1 q)), if_neg (fun q => hk (k1.1 q))]; omega
        · have : ¬ (b < n + 1 ∧ b ≠ k ∧ b ≠ n) := fun q => hb ⟨by omega, q.2⟩
          rw [if_neg hb, if_neg hb] at ih; rw [if_neg this, if_neg this]
          by_cases hk : k < n
          · rw [if_pos hk, if_pos hk] at ih; rw [if_pos (k1.2 hk), if_pos (k1.2 hk)]; omega
          · rw [if_neg hk, if_neg hk] at ih; rw [if_neg (fun q => hk (k1.1 q)), if_neg (fun q => hk (k1.1 q))]; omega
      · have a1 : (a < n + 1 ∧ a ≠ k) ↔ (a < n ∧ a ≠ k) := by omega
        by_cases e3 : n = b
        · subst e3
          have b1 : ¬ (n < n ∧ n ≠ k ∧ n ≠ a) := by omega
          have b2 : n < n + 1 ∧ n ≠ k ∧ n ≠ a := ⟨by omega, e1, e2⟩
          rw [if_neg b1, if_neg b1] at ih
          rw [if_pos b2, if_pos b2]
          simp only [k1, a1]
          omega
        · have b1 : (b < n + 1 ∧ b ≠ k ∧ b ≠ a) ↔ (b < n ∧ b ≠ k ∧ b ≠ a) := by omega
          have := H n (by omega) e1 e2 e3
          simp only [k1, a1, b1]
          omega

theorem edge_no {t : List Nd} {m : Int} (h : Right t m) {i j : Nat} (hi : i < t.length) (hj : j ≤ i) : edge (j : Int) t[i] = 0 := by
  rcases Nat.eq_zero_or_pos (edge (j : Int) t[i]) with e | e
  · exact e
  · have hc := edge_pos.1 e
    rw [← nAt_eq hi] at hc
    obtain ⟨a, b, ea, eb, h1, h2, h3, h4, _⟩ := ask_at h hi hc.1
    have := hc.2
    omega
theorem ups_own {t : List Nd} {m : Int} (h : Right t m) (j : Nat) : ∀ k, j ≤ k → k ≤ t.length → ups (t.take k) (j : Int) = ups (t.take j) (j : Int)
  | 0, h1, h2 => by have : j = 0 := by omega
                    subst this; rfl
  | k + 1, h1, h2 => by
    by_cases e : j = k + 1
    · rw [e]
    · rw [ups_take (by omega), edge_no h (by omega) (by omega), ups_own h j k (by omega) (by omega)]; rfl
theorem ups_mono {t : List Nd} (j : Int) (k : Nat) : ∀ d, k + d ≤ t.length → ups (t.take k) j ≤ ups (t.take (k + d)) j
  | 0, _ => Nat.le_refl _
  | d + 1, h => by
    have := ups_mono (t := t) j k d (by omega)
    have e := ups_take (t := t) (k := k + d) (by omega) j
    rw [show k + (d + 1) = k + d + 1 by omega, e]; omega
theorem count_step {t : List Nd} {m : Int} (F : Fair t m) {k : Nat} (hk : k < t.length) : (lvs t (k + 1)).length + sumN (rest t (k + 1)) t.length = (lvs t k).length + sumN (rest t k) t.length := by
  have hR := F.2.2.2.2.1
  have own : rest t k k = lfs t k := by
    unfold rest
    rw [if_pos]
    refine ⟨Nat.le_refl _, ?_⟩
    by_cases e : k = 0
    · exact .inl e
    · right
      have := ups_own hR k t.length (by omega) (Nat.le_refl _)
      rw [List.take_length, F.2.2.2.2.2 k (by omega) hk] at this
      exact this.symm
  have gone : rest t (k + 1) k = 0 := by unfold rest; rw [if_neg (by omega)]
  have same : ∀ i, i ≠ k → edge (i : Int) t[k] = 0 → rest t (k + 1) i = rest t k i := by
    intro i hi he
    unfold rest
    rw [ups_take hk, he, Nat.add_zero]
    by_cases h1 : k + 1 ≤ i
    · by_cases h2 : i = 0 ∨ ups (t.take k) (i : Int) = 1
      · rw [if_pos ⟨h1, h2⟩, if_pos ⟨by omega, h2⟩]
      · rw [if_neg (fun q => h2 q.2), if_neg (fun q => h2 q.2)]
    · rw [if_neg (fun q => h1 q.1), if_neg (fun q => h1 (by omega))]
  by_cases hl : nf (nAt t k) = -1
  · have he : ∀ i : Nat, edge (i : Int) t[k] = 0 := fun i => by rw [← nAt_eq hk]; unfold edge; rw [if_pos hl]
    have q := sumN_three (g := rest t (k + 1)) (h := rest t k) (k := k) (a := k) (b := k) t.length fun i _ h1 _ _ => same i h1 (he i)
    rw [if_pos hk, if_pos hk, if_neg (by omega), if_neg (by omega), if_neg (by omega), if_neg (by omega), own, gone, lfs_leaf hk hl] at q
    have e : lvs t (k + 1) = lvs t k ++ [(k : Int)] := by
      show (if leafB (nAt t k) = true then lvs t k ++ [(k : Int)] else lvs t k) = _
      rw [if_pos (by unfold leafB; simp [hl])]
    rw [e, List.length_append]
    simp only [List.length_singleton]
    omega
  · obtain ⟨a, b, ea, eb, h1, h2, h3, h4, hab⟩ := ask_at hR hk hl
    have ed : ∀ i : Nat, edge (i : Int) t[k] = (if (a : Int) = i then 1 else 0) + (if (b : Int) = i then 1 else 0) := fun i => by rw [← nAt_eq hk]; unfold edge; rw [if_neg hl, ea, eb]
    have child : ∀ c : Nat, c < t.length → k < c → edge (c : Int) t[k] = 1 → rest t k c = 0 ∧ rest t (k + 1) c = lfs t c := by
      intro c hc hkc he
      have u1 := F.2.2.2.2.2 c (by omega) hc
      have u2 := ups_mono (t := t) (c : Int) (k + 1) (t.length - (k + 1)) (by omega)
      rw [show k + 1 + (t.length - (k + 1)) = t.length by omega, List.take_length, u1, ups_take hk, he] at u2
      constructor
      · unfold rest; rw [if_neg (by omega)]
      · unfold rest
        rw [if_pos]
        refine ⟨by omega, .inr ?_⟩
        rw [ups_take hk, he]; omega
    have ca := child a h2 h1 (by rw [ed, if_pos rfl, if_neg (by omega)])
    have cb := child b h4 h3 (by rw [ed, if_neg (by omega), if_pos rfl])
    have q := sumN_three (g := rest t (k + 1)) (h := rest t k) (k := k) (a := a) (b := b) t.length fun i _ i1 i2 i3 => same i i1 (by rw [ed, if_neg (by omega), if_neg (by omega)])
    have A : a < t.length ∧ a ≠ k := ⟨h2, by omega⟩
    have B : b < t.length ∧ b ≠ k ∧ b ≠ a := ⟨h4, by omega, by omega⟩
    rw [if_pos hk, if_pos hk, if_pos A, if_pos A, if_pos B, if_pos B, own, gone, ca.1, ca.2, cb.1, cb.2, lfs_ask hR hk hl ea eb] at q
    have e : lvs t (k + 1) = lvs t k := by
      show (if leafB (nAt t k) = true then lvs t k ++ [(k : Int)] else lvs t k) = _
      rw [if_neg (by unfold leafB; simp [hl])]
    rw [e]
    omega
theorem count_all {t : List Nd} {m : Int} (F : Fair t m) : ∀ k, k ≤ t.length → (lvs t k).length + sumN (rest t k) t.length = sumN (rest t 0) t.length
  | 0, _ => by simp [lvs]
  | k + 1, h => by rw [count_step F (by omega)]; exact count_all F k (by omega)
theorem leaves_count {t : List Nd} {m : Int} (F : Fair t m) : (lvs t t.length).length = lfs t 0 := by
  have h := count_all F t.length (Nat.le_refl _)
  have e1 : sumN (rest t t.length) t.length = 0 := by
    rw [sumN_congr (g := fun _ => 0) (fun i hi => by unfold rest; rw [if_neg (by omega)]), sumN_zero]
  have e2 : sumN (rest t 0) t.length = lfs t 0 := by
    have : ∀ n, 0 < n → sumN (rest t 0) n = lfs t 0 := by
      intro n
      induction n with
      | zero => intro h; omega
      | succ n ih =>
        intro _
        unfold sumN
        by_cases e : n = 0
        · subst e; unfold sumN rest; simp
        · rw [ih (by omega)]
          have : rest t 0 n = 0 := by
            unfold rest
            rw [if_neg]
            rintro ⟨_, q | q⟩
            · exact e q
            · simp [ups] at q
          omega
    exact this _ F.2.1
  omega
/-- a tree of so many leaves is so deep as it must be, and no deeper than it can be -/
theorem deep_bounds {t : List Nd} {m : Int} (F : Fair t m) : (lvs t t.length).length ≤ 2 ^ depth t 0 ∧ depth t 0 + 1 ≤ (lvs t t.length).length := by
  rw [leaves_count F]; exact lfs_bounds F.2.2.2.2.1 t.length 0 F.2.1 (by omega)

/-- the word of a question, and the text that tells why -/
def whyW (n : Nd) (c : Int) : List UInt8 := 102 :: (Lib.itoa (nf n) ++ if c = nilI then [63] else if c < nc n then 60 :: Lib.itoa (nc n) else 62 :: 61 :: Lib.itoa (nc n))
def whyD (t : List Nd) (r : List Int) : Nat → Nat → List UInt8
  | 0, i => []
  | f + 1, i => if nf (nAt t i) = -1 then 61 :: Lib.itoa (nv (nAt t i)) else whyW (nAt t i) (r.getD (nf (nAt t i)).toNat 0) ++ 32 :: whyD t r f (nextI (nAt t i) r).toNat
def why (t : List Nd) (r : List Int) (i : Nat) : List UInt8 := whyD t r t.length i
theorem why_enough {t : List Nd} {m : Int} (h : Right t m) (r : List Int) : ∀ (f g i : Nat), i < t.length → t.length ≤ f + i → t.length ≤ g + i → whyD t r f i = whyD t r g i
  | 0, g, i, hi, hf, hg => by omega
  | f + 1, 0, i, hi, hf, hg => by omega
  | f + 1, g + 1, i, hi, hf, hg => by
    unfold whyD
    by_cases hl : nf (nAt t i) = -1
    · rw [if_pos hl, if_pos hl]
    · rw [if_neg hl, if_neg hl]
      obtain ⟨k, e, h1, h2⟩ := next_in h r hi hl
      rw [e, Int.toNat_natCast, why_enough h r f g k h2 (by omega) (by omega)]
theorem why_leaf {t : List Nd} {r : List Int} {i : Nat} (hi : i < t.length) (hl : nf (nAt t i) = -1) : why t r i = 61 :: Lib.itoa (nv (nAt t i)) := by
  unfold why
  obtain ⟨f, e⟩ : ∃ f, t.length = f + 1 := ⟨t.length - 1, by omega⟩
  rw [e]; unfold whyD; rw [if_pos hl]
theorem why_next {t : List Nd} {m : Int} (h : Right t m) {r : List Int} {i k : Nat} (hi : i < t.length) (hl : nf (nAt t i) ≠ -1) (e : nextI (nAt t i) r = k) : why t r i = whyW (nAt t i) (r.getD (nf (nAt t i)).toNat 0) ++ 32 :: why t r k := by
  obtain ⟨k', e', h1, h2⟩ := next_in h r hi hl
  have : k' = k := by omega
  subst this
  unfold why
  obtain ⟨f, q⟩ : ∃ f, t.length = f + 1 := ⟨t.length - 1, by omega⟩
  rw [show whyD t r t.length i = whyW (nAt t i) (r.getD (nf (nAt t i)).toNat 0) ++ 32 :: whyD t r f k' by rw [q]; conv => lhs; unfold whyD; rw [if_neg hl, e, Int.toNat_natCast]]
  rw [why_enough h r f t.length k' h2 (by omega) (by omega)]
theorem itoa_no (x : Int) : (Lib.itoa x).count 32 = 0 := by
  rw [List.count_eq_zero]
  intro hc
  unfold Lib.itoa at hc
  split at hc
  · rw [List.mem_cons] at hc
    rcases hc with hc | hc
    · simp at hc
    · have := dig_mem _ _ hc; revert this; decide
  · have := dig_mem _ _ hc; revert this; decide
theorem whyW_no (n : Nd) (c : Int) : (whyW n c).count 32 = 0 := by
  unfold whyW
  split
  · simp [List.count_append, itoa_no]
  · split
    · simp [List.count_append, itoa_no]
    · simp [List.count_append, itoa_no]
/-- as many words as nodes on the way -/
theorem why_words {t : List Nd} {m : Int} (h : Right t m) (r : List Int) : ∀ (f i : Nat), i < t.length → t.length ≤ f + i → (why t r i).count 32 + 1 = (way t r i).length
  | 0, i, hi, hf => by omega
  | f + 1, i, hi, hf => by
    by_cases hl : nf (nAt t i) = -1
    · rw [why_leaf hi hl, way_leaf hi hl]
      simp [itoa_no]
    · obtain ⟨k, e, h1, h2⟩ := next_in h r hi hl
      rw [why_next h hi hl e, way_next h hi hl e, List.count_append, whyW_no, List.count_cons, List.length_cons]
      have ih := why_words h r f k h2 (by omega)
      simp
      omega
/-- its end is the value -/
theorem why_end {t : List Nd} {m : Int} (h : Right t m) (r : List Int) : ∀ (f i : Nat), i < t.length → t.length ≤ f + i → ∃ l, why t r i = l ++ 61 :: Lib.itoa (nv (nAt t (toD t r i)))
  | 0, i, hi, hf => by omega
  | f + 1, i, hi, hf => by
    by_cases hl : nf (nAt t i) = -1
    · rw [why_leaf hi hl, to_leaf hi hl]; exact ⟨[], rfl⟩
    · obtain ⟨k, e, h1, h2⟩ := next_in h r hi hl
      rw [why_next h hi hl e, to_next h hi hl e]
      obtain ⟨l, q⟩ := why_end h r f k h2 (by omega)
      exact ⟨whyW (nAt t i) (r.getD (nf (nAt t i)).toNat 0) ++ 32 :: l, by rw [q]; simp⟩

/-- what the calls answer -/
def pathV (t : List Nd) (r : List Int) : List Int := if readyF t r = 0 then (way t r 0).map Int.ofNat else []
theorem path_len {t : List Nd} {r : List Int} (h : readyF t r = 0) : (pathV t r).length ≤ depth t 0 + 1 := by
  obtain ⟨F, _⟩ := tree_ok (ready_ok h).2
  unfold pathV
  rw [if_pos h, List.length_map]
  exact way_len F.2.2.2.2.1 r t.length 0 F.2.1 (by omega)
/-- the tree of one question that says nothing -/
def oneD : List Nd := [(0, 0, 1, 2, false, 0), (-1, 0, 0, 0, false, 0), (-1, 0, 0, 0, false, 0)]
theorem oneD_ok : (treeF oneD 8).2 = 0 := by decide +kernel
theorem oneD_deep : depthV oneD = 1 := by decide +kernel

end Go.Proofs.Ythbeoaninipadaf.M

namespace Go.Proofs.Ythbeoaninipadaf.M
set_option linter.unusedVariables false

/-- a grove: Features, Way, Weights, Trees -/
abbrev Gv := Int × Int × List Int × List (List Nd)
abbrev gf (g : Gv) : Int := g.1
abbrev gw (g : Gv) : Int := g.2.1
abbrev gs (g : Gv) : List Int := g.2.2.1
abbrev gt (g : Gv) : List (List Nd) := g.2.2.2

def wBad (w : Int) : Bool := decide (w < 1) || decide (1000 < w)
theorem wbad_false {w : Int} (h : wBad w = false) : 1 ≤ w ∧ w ≤ 1000 := by
  unfold wBad at h
  rw [Bool.or_eq_false_iff] at h
  have h1 := of_decide_eq_false h.1
  have h2 := of_decide_eq_false h.2
  omega
theorem wbad_ok {w : Int} (h1 : 1 ≤ w) (h2 : w ≤ 1000) : wBad w = false := by
  unfold wBad
  rw [decide_eq_false (by omega), decide_eq_false (by omega)]; rfl
/-- the fault of the first tree that has one -/
def treesF (f : Int) (ts : List (List Nd)) : Int := match firstN (fun i => !decide ((treeF (ts.getD i []) f).2 = 0)) ts.length with
  | some i => (treeF (ts.getD i []) f).2
  | none => 0
theorem trees_at {f : Int} {ts : List (List Nd)} {k : Nat} (hk : k < ts.length) (h : ∀ j, j < k → (treeF (ts.getD j []) f).2 = 0) (hn : (treeF (ts.getD k []) f).2 ≠ 0) : treesF f ts = (treeF (ts.getD k []) f).2 := by
  unfold treesF
  rw [first_hit (k := k) (by show (!decide ((treeF (ts.getD k []) f).2 = 0)) = true; rw [decide_eq_false hn]; rfl) (fun j hj => by show (!decide ((treeF (ts.getD j []) f).2 = 0)) = false; rw [decide_eq_true (h j hj)]; rfl) hk]
theorem trees_all {f : Int} {ts : List (List Nd)} (h : ∀ j, j < ts.length → (treeF (ts.getD j []) f).2 = 0) : treesF f ts = 0 := by
  unfold treesF
  rw [first_miss (fun j hj => by show (!decide ((treeF (ts.getD j []) f).2 = 0)) = false; rw [decide_eq_true (h j hj)]; rfl)]
theorem trees_zero {f : Int} {ts : List (List Nd)} (h : treesF f ts = 0) : ∀ j, j < ts.length → (treeF (ts.getD j []) f).2 = 0 := by
  unfold treesF at h
  split at h
  · rename_i i e
    have q := (first_some e).2
    rw [decide_eq_true h] at q
    cases q
  · rename_i e
    intro j hj
    have := first_none e j hj
    simpa using this

def groveF (g : Gv) : Int :=
  if gf g < 0 ∨ 8 < gf g ∨ gw g < 1 ∨ 3 < gw g then 1
  else if (gt g).length = 0 then 5
  else if 12 < (gt g).length then 4
  else if (gs g).length ≠ (gt g).length then 3
  else if (gs g).any wBad = true then 1
  else treesF (gf g) (gt g)
/-- all that is right with a grove that is right -/
structure Good (g : Gv) : Prop where
  f0 : 0 ≤ gf g
  f8 : gf g ≤ 8
  w1 : 1 ≤ gw g
  w3 : gw g ≤ 3
  t0 : 0 < (gt g).length
  t12 : (gt g).length ≤ 12
  len : (gs g).length = (gt g).length
  wts : ∀ w ∈ gs g, 1 ≤ w ∧ w ≤ 1000
  trees : ∀ t ∈ gt g, (treeF t (gf g)).2 = 0
theorem good_iff (g : Gv) : groveF g = 0 ↔ Good g := by
  constructor
  · intro h
    unfold groveF at h
    split at h
    · cases h
    · rename_i h1
      split at h
      · cases h
      · rename_i h2
        split at h
        · cases h
        · rename_i h3
          split at h
          · cases h
          · rename_i h4
            split at h
            · cases h
            · rename_i h5
              refine ⟨by omega, by omega, by omega, by omega, by omega, by omega, by omega, ?_, ?_⟩
              · intro w hw
                apply wbad_false
                cases e : wBad w with
                | false => rfl
                | true => exact absurd (List.any_eq_true.2 ⟨w, hw, e⟩) h5
              · intro t ht
                obtain ⟨i, hi, rfl⟩ := List.getElem_of_mem ht
                have := trees_zero h i hi
                rwa [getD_at hi] at this
  · intro h
    unfold groveF
    rw [if_neg (by have := h.f0; have := h.f8; have := h.w1; have := h.w3; omega), if_neg (by have := h.t0; omega), if_neg (by have := h.t12; omega), if_neg (by have := h.len; omega), if_neg, trees_all]
    · intro j hj
      rw [getD_at hj]; exact h.trees _ (List.getElem_mem hj)
    · intro hc
      obtain ⟨w, hw, e⟩ := List.any_eq_true.1 hc
      have := h.wts w hw
      rw [wbad_ok this.1 this.2] at e
      cases e

/-- the fault of a grove and a row -/
def standF (g : Gv) (r : List Int) : Int := if groveF g ≠ 0 then groveF g else if rowF r ≠ 0 then rowF r else if (r.length : Int) ≠ gf g then 3 else 0
theorem stand_ok {g : Gv} {r : List Int} (h : standF g r = 0) : Good g ∧ rowF r = 0 ∧ (r.length : Int) = gf g := by
  unfold standF at h
  split at h
  · rename_i h1; exact absurd h h1
  · rename_i h1
    split at h
    · rename_i h2; exact absurd h h2
    · rename_i h2
      split at h
      · cases h
      · rename_i h3
        exact ⟨(good_iff g).1 (by simpa using h1), by simpa using h2, by simpa using h3⟩
theorem stand_of {g : Gv} {r : List Int} (h1 : Good g) (h2 : rowF r = 0) (h3 : (r.length : Int) = gf g) : standF g r = 0 := by
  unfold standF
  rw [if_neg (by simp [(good_iff g).2 h1]), if_neg (by simp [h2]), if_neg (by simp [h3])]
theorem stand_ready {g : Gv} {r : List Int} (h : standF g r = 0) {t : List Nd} (ht : t ∈ gt g) : readyF t r = 0 := by
  obtain ⟨h1, h2, h3⟩ := stand_ok h
  rw [ready_tree h2, h3]
  exact h1.trees t ht

def eachL (g : Gv) (r : List Int) : List Int := (gt g).map fun t => evalV t r
def eachV (g : Gv) (r : List Int) : List Int := if standF g r = 0 then eachL g r else []
theorem each_len (g : Gv) (r : List Int) : (eachL g r).length = (gt g).length := by unfold eachL; simp
theorem each_at (g : Gv) (r : List Int) {i : Nat} (hi : i < (gt g).length) : (eachL g r).getD i 0 = evalV ((gt g).getD i []) r := by
  rw [getD_at (by rw [each_len]; exact hi), getD_at hi]; simp [eachL]

/-! ### together -/
def sumK (l ws : List Int) : Nat → Int
  | 0 => 0
  | k + 1 => sumK l ws k + l.getD k 0 * ws.getD k 0
def allK (ws : List Int) : Nat → Int
  | 0 => 0
  | k + 1 => allK ws k + ws.getD k 0
def votK (l ws : List Int) (v : Int) : Nat → Int
  | 0 => 0
  | k + 1 => votK l ws v k + if l.getD k 0 = v then ws.getD k 0 else 0
/-- of the first k values: the most votes, and who has them -/
def bestK (l ws : List Int) : Nat → Int × Int
  | 0 => (0, 0)
  | k + 1 => if (bestK l ws k).1 < votK l ws (l.getD k 0) l.length ∨ (votK l ws (l.getD k 0) l.length = (bestK l ws k).1 ∧ l.getD k 0 < (bestK l ws k).2) then (votK l ws (l.getD k 0) l.length, l.getD k 0) else bestK l ws k
def together (w : Int) (ws l : List Int) : Int := if w = 1 then sumK l ws l.length else if w = 2 then sumK l ws l.length / allK ws l.length else (bestK l ws l.length).2
def evalG (g : Gv) (r : List Int) : Int := if standF g r = 0 then together (gw g) (gs g) (eachL g r) else 0

theorem vot_pos {l ws : List Int} (hw : ∀ i, i < l.length → 1 ≤ ws.getD i 0) (v : Int) : ∀ k, k ≤ l.length → 0 ≤ votK l ws v k ∧ ∀ j, j < k → l.getD j 0 = v → 1 ≤ votK l ws v k
  | 0, _ => ⟨Int.le_refl _, fun j h => by omega⟩
  | k + 1, hk => by
    obtain ⟨h1, h2⟩ := vot_pos hw v k (by omega)
    have hwk := hw k (by omega)
    unfold votK
    refine ⟨by split <;> omega, fun j hj e => ?_⟩
    by_cases q : j = k
    · subst q; rw [if_pos e]; omega
    · have := h2 j (by omega) e
      split <;> omega
theorem best_spec {l ws : List Int} (hw : ∀ i, i < l.length → 1 ≤ ws.getD i 0) : ∀ k, 0 < k → k ≤ l.length → (∃ j, j < k ∧ (bestK l ws k).2 = l.getD j 0) ∧ (bestK l ws k).1 = votK l ws (bestK l ws k).2 l.length ∧ ∀ i, i < k → votK l ws (l.getD i 0) l.length < (bestK l ws k).1 ∨ (votK l ws (l.getD i 0) l.length = (bestK l ws k).1 ∧ (bestK l ws k).2 ≤ l.getD i 0)
  | 0, h, _ => by omega
  | k + 1, _, hk => by
    by_cases hc : (bestK l ws k).1 < votK l ws (l.getD k 0) l.length ∨ (votK l ws (l.getD k 0) l.length = (bestK l ws k).1 ∧ l.getD k 0 < (bestK l ws k).2)
    · have e : bestK l ws (k + 1) = (votK l ws (l.getD k 0) l.length, l.getD k 0) := by rw [bestK, if_pos hc]
      rw [e]
      refine ⟨⟨k, by omega, rfl⟩, rfl, fun i hi => ?_⟩
      by_cases q : i = k
      · subst q; exact .inr ⟨rfl, Int.le_refl _⟩
      · by_cases k0 : k = 0
        · omega
        · have := (best_spec hw k (by omega) (by omega)).2.2 i (by omega)
          show votK l ws (l.getD i 0) l.length < votK l ws (l.getD k 0) l.length ∨ (votK l ws (l.getD i 0) l.length = votK l ws (l.getD k 0) l.length ∧ l.getD k 0 ≤ l.getD i 0)
          omega
    · have e : bestK l ws (k + 1) = bestK l ws k := by rw [bestK, if_neg hc]
      rw [e]
      by_cases k0 : k = 0
      · subst k0
        have := (vot_pos hw (l.getD 0 0) l.length (Nat.le_refl _)).2 0 (by omega) rfl
        exact absurd (.inl (show (bestK l ws 0).1 < _ by show (0 : Int) < _; omega)) hc
      · obtain ⟨⟨j, h1, h2⟩, h3, h4⟩ := best_spec hw k (by omega) (by omega)
        refine ⟨⟨j, by omega, h2⟩, h3, fun i hi => ?_⟩
        by_cases q : i = k
        · subst q; omega
        · exact h4 i (by omega)
/-- who has most votes, and of equal ones is the least, is the one that is told -/
theorem best_unique {l ws : List Int} (hw : ∀ i, i < l.length → 1 ≤ ws.getD i 0) (h0 : 0 < l.length) {b : Int} (hb : ∃ j, j < l.length ∧ b = l.getD j 0) (hm : ∀ i, i < l.length → votK l ws (l.getD i 0) l.length < votK l ws b l.length ∨ (votK l ws (l.getD i 0) l.length = votK l ws b l.length ∧ b ≤ l.getD i 0)) : (bestK l ws l.length).2 = b := by
  obtain ⟨⟨j, h1, h2⟩, h3, h4⟩ := best_spec hw l.length h0 (Nat.le_refl _)
  obtain ⟨i, h5, h6⟩ := hb
  have a := hm j h1
  have c := h4 i h5
  rw [← h2] at a
  rw [← h6, h3] at c
  omega

/-! ### what is more stays more -/
theorem sum_mono {l m ws : List Int} : ∀ k, (∀ i, i < k → l.getD i 0 ≤ m.getD i 0 ∧ 0 ≤ ws.getD i 0) → sumK l ws k ≤ sumK m ws k
  | 0, _ => Int.le_refl _
  | k + 1, h => by
    have ih := sum_mono (l := l) (m := m) (ws := ws) k fun i hi => h i (by omega)
    obtain ⟨h1, h2⟩ := h k (by omega)
    have := Int.mul_le_mul_of_nonneg_right h1 h2
    unfold sumK
    omega
theorem all_pos {ws : List Int} : ∀ k, (∀ i, i < k → 1 ≤ ws.getD i 0 ∧ ws.getD i 0 ≤ 1000) → (k : Int) ≤ allK ws k ∧ allK ws k ≤ 1000 * k
  | 0, _ => by simp [allK]
  | k + 1, h => by
    have ih := all_pos k fun i hi => h i (by omega)
    have := h k (by omega)
    unfold allK
    omega
theorem sum_bound {l ws : List Int} : ∀ k, (∀ i, i < k → -1000000 ≤ l.getD i 0 ∧ l.getD i 0 ≤ 1000000 ∧ 1 ≤ ws.getD i 0 ∧ ws.getD i 0 ≤ 1000) → -1000000000 * (k : Int) ≤ sumK l ws k ∧ sumK l ws k ≤ 1000000000 * (k : Int)
  | 0, _ => by simp [sumK]
  | k + 1, h => by
    have ih := sum_bound k fun i hi => h i (by omega)
    obtain ⟨h1, h2, h3, h4⟩ := h k (by omega)
    have a : l.getD k 0 * ws.getD k 0 ≤ 1000000 * 1000 := by
      have q1 : l.getD k 0 * ws.getD k 0 ≤ 1000000 * ws.getD k 0 := Int.mul_le_mul_of_nonneg_right h2 (by omega)
      omega
    have b : -1000000 * 1000 ≤ l.getD k 0 * ws.getD k 0 := by
      have q1 : -1000000 * ws.getD k 0 ≤ l.getD k 0 * ws.getD k 0 := Int.mul_le_mul_of_nonneg_right h1 (by omega)
      omega
    unfold sumK
    omega
theorem vot_bound {l ws : List Int} (v : Int) : ∀ k, (∀ i, i < k → 1 ≤ ws.getD i 0 ∧ ws.getD i 0 ≤ 1000) → 0 ≤ votK l ws v k ∧ votK l ws v k ≤ 1000 * k
  | 0, _ => by simp [votK]
  | k + 1, h => by
    have ih := vot_bound (l := l) v k fun i hi => h i (by omega)
    have := h k (by omega)
    unfold votK
    split <;> omega

end Go.Proofs.Ythbeoaninipadaf.M

namespace Go.Proofs.Ythbeoaninipadaf.M
set_option linter.unusedVariables false

/-! ### the leaves' values -/
def lvK (t : List Nd) : Nat → List Int
  | 0 => []
  | k + 1 => if leafB (nAt t k) = true then lvK t k ++ [nv (nAt t k)] else lvK t k
theorem lvK_mem (t : List Nd) : ∀ (k : Nat) (x : Int), x ∈ lvK t k ↔ ∃ j, j < k ∧ leafB (nAt t j) = true ∧ x = nv (nAt t j)
  | 0, x => by simp [lvK]
  | k + 1, x => by
    unfold lvK
    by_cases h : leafB (nAt t k) = true
    · rw [if_pos h, List.mem_append, lvK_mem t k x, List.mem_singleton]
      constructor
      · rintro (⟨j, h1, h2⟩ | rfl)
        · exact ⟨j, by omega, h2⟩
        · exact ⟨k, by omega, h, rfl⟩
      · rintro ⟨j, h1, h2, h3⟩
        by_cases q : j = k
        · subst q; exact .inr h3
        · exact .inl ⟨j, by omega, h2, h3⟩
    · rw [if_neg h, lvK_mem t k x]
      constructor
      · rintro ⟨j, h1, h2⟩
        exact ⟨j, by omega, h2⟩
      · rintro ⟨j, h1, h2, h3⟩
        by_cases q : j = k
        · subst q; exact absurd h2 h
        · exact ⟨j, by omega, h2, h3⟩
theorem lvK_len (t : List Nd) : ∀ k, (lvK t k).length ≤ k
  | 0 => Nat.le_refl _
  | k + 1 => by
    have := lvK_len t k
    unfold lvK
    split
    · simp; omega
    · omega
/-- the least, the greatest of a list -/
def lowL (l : List Int) : Int := (sortI l).getD 0 0
def highL (l : List Int) : Int := (sortI l).getD (l.length - 1) 0
theorem low_mem {l : List Int} (h : 0 < l.length) : lowL l ∈ l := by
  unfold lowL
  rw [getD_at (by rw [sort_length]; exact h)]
  exact (sort_perm l).mem_iff.1 (List.getElem_mem _)
theorem high_mem {l : List Int} (h : 0 < l.length) : highL l ∈ l := by
  unfold highL
  rw [getD_at (by rw [sort_length]; omega)]
  exact (sort_perm l).mem_iff.1 (List.getElem_mem _)
theorem low_le {l : List Int} {x : Int} (hx : x ∈ l) : lowL l ≤ x := by
  have hx' := (sort_perm l).mem_iff.2 hx
  obtain ⟨i, hi, rfl⟩ := List.getElem_of_mem hx'
  unfold lowL
  rw [getD_at (by omega)]
  rcases Nat.eq_zero_or_pos i with h | h
  · subst h; exact Int.le_refl _
  · exact List.pairwise_iff_getElem.1 (sort_pw l) 0 i (by omega) hi h
theorem high_ge {l : List Int} {x : Int} (hx : x ∈ l) : x ≤ highL l := by
  have hx' := (sort_perm l).mem_iff.2 hx
  obtain ⟨i, hi, rfl⟩ := List.getElem_of_mem hx'
  have hl : (sortI l).length = l.length := sort_length l
  unfold highL
  rw [getD_at (by omega)]
  by_cases h : i = l.length - 1
  · subst h; exact Int.le_refl _
  · exact List.pairwise_iff_getElem.1 (sort_pw l) i (l.length - 1) hi (by omega) (by omega)
theorem low_unique {l : List Int} {b : Int} (hb : b ∈ l) (h : ∀ x ∈ l, b ≤ x) : lowL l = b := by
  have h1 := low_le hb
  have h2 := h _ (low_mem (List.length_pos_of_mem hb))
  omega
theorem high_unique {l : List Int} {b : Int} (hb : b ∈ l) (h : ∀ x ∈ l, x ≤ b) : highL l = b := by
  have h1 := high_ge hb
  have h2 := h _ (high_mem (List.length_pos_of_mem hb))
  omega
def lowT (t : List Nd) : Int := lowL (lvK t t.length)
def highT (t : List Nd) : Int := highL (lvK t t.length)
theorem leafV_leaf' {t : List Nd} {r : List Int} (h : readyF t r = 0) : toD t r 0 < t.length ∧ nf (nAt t (toD t r 0)) = -1 := by
  have F := (tree_ok (ready_ok h).2).1
  exact to_end F.2.2.2.2.1 r t.length 0 F.2.1 (by omega)
theorem eval_mem {t : List Nd} {r : List Int} (h : readyF t r = 0) : evalV t r ∈ lvK t t.length := by
  have hl := leafV_leaf' h
  unfold evalV
  rw [if_pos h, lvK_mem]
  refine ⟨toD t r 0, hl.1, ?_, rfl⟩
  unfold leafB
  rw [hl.2]; rfl
theorem eval_between {t : List Nd} {r : List Int} (h : readyF t r = 0) : lowT t ≤ evalV t r ∧ evalV t r ≤ highT t := ⟨low_le (eval_mem h), high_ge (eval_mem h)⟩
theorem lv_in {t : List Nd} {m : Int} (F : Fair t m) : ∀ x ∈ lvK t t.length, -1000000 ≤ x ∧ x ≤ 1000000 := by
  intro x hx
  obtain ⟨j, h1, h2, rfl⟩ := (lvK_mem t _ x).1 hx
  have := F.2.2.2.2.1 j h1
  unfold leafB at h2
  unfold nodeF at this
  rw [if_pos (of_decide_eq_true h2)] at this
  unfold lfF at this
  split at this
  · cases this
  · rename_i hc
    exact out_false (by simpa using hc)
theorem lv_some {t : List Nd} {m : Int} (F : Fair t m) : 0 < (lvK t t.length).length := by
  have hR := F.2.2.2.2.1
  obtain ⟨h1, h2⟩ := to_end hR [] t.length 0 F.2.1 (by omega)
  exact List.length_pos_of_mem ((lvK_mem t _ _).2 ⟨_, h1, by unfold leafB; rw [h2]; rfl, rfl⟩)

/-! ### bounds -/
def between (w : Int) (ws least most : List Int) : Int × Int := if w ≠ 3 then (together w ws least, together w ws most) else (lowL least, highL most)
def boundsV (g : Gv) : Int × Int := if groveF g = 0 then between (gw g) (gs g) ((gt g).map lowT) ((gt g).map highT) else (0, 0)
theorem wt_at {g : Gv} (h : Good g) {i : Nat} (hi : i < (gt g).length) : 1 ≤ (gs g).getD i 0 ∧ (gs g).getD i 0 ≤ 1000 := by
  have hl := h.len
  rw [getD_at (by omega)]
  exact h.wts _ (List.getElem_mem _)
theorem ediv_mono {a b c : Int} (h : a ≤ b) (hc : 0 < c) : a / c ≤ b / c := Int.ediv_le_ediv hc h
theorem eval_bounds {g : Gv} {r : List Int} (h : standF g r = 0) : (boundsV g).1 ≤ evalG g r ∧ evalG g r ≤ (boundsV g).2 := by
  obtain ⟨G, h2, h3⟩ := stand_ok h
  have hE := each_len g r
  have t0 := G.t0
  have bt : ∀ i, i < (gt g).length → ((gt g).map lowT).getD i 0 ≤ (eachL g r).getD i 0 ∧ (eachL g r).getD i 0 ≤ ((gt g).map highT).getD i 0 := by
    intro i hi
    have e1 : ((gt g).map lowT).getD i 0 = lowT (gt g)[i] := by rw [getD_at (by simpa using hi)]; simp
    have e2 : ((gt g).map highT).getD i 0 = highT (gt g)[i] := by rw [getD_at (by simpa using hi)]; simp
    rw [each_at g r hi, e1, e2, getD_at hi]
    exact eval_between (stand_ready h (List.getElem_mem hi))
  have l1 : ((gt g).map lowT).length = (gt g).length := by simp
  have l2 : ((gt g).map highT).length = (gt g).length := by simp
  unfold boundsV evalG
  rw [if_pos ((good_iff g).2 G), if_pos h]
  unfold between
  by_cases hv : gw g = 3
  · rw [if_neg (by simp [hv])]
    unfold together
    rw [if_neg (by omega), if_neg (by omega), hE]
    obtain ⟨⟨j, j1, j2⟩, _, _⟩ := best_spec (l := eachL g r) (ws := gs g) (fun i hi => (wt_at G (by rw [← hE]; exact hi)).1) (gt g).length t0 (by omega)
    rw [j2]
    have b := bt j j1
    constructor
    · refine Int.le_trans (low_le (x := ((gt g).map lowT).getD j 0) ?_) b.1
      rw [getD_at (by omega)]; exact List.getElem_mem _
    · refine Int.le_trans b.2 (high_ge ?_)
      rw [getD_at (by omega)]; exact List.getElem_mem _
  · rw [if_pos hv]
    have m1 := sum_mono (l := (gt g).map lowT) (m := eachL g r) (ws := gs g) (gt g).length fun i hi => ⟨(bt i hi).1, by have := (wt_at G hi).1; omega⟩
    have m2 := sum_mono (l := eachL g r) (m := (gt g).map highT) (ws := gs g) (gt g).length fun i hi => ⟨(bt i hi).2, by have := (wt_at G hi).1; omega⟩
    have ap := (all_pos (ws := gs g) (gt g).length fun i hi => wt_at G hi).1
    unfold together
    rw [l1, l2, hE]
    by_cases h1 : gw g = 1
    · rw [if_pos h1, if_pos h1, if_pos h1]; exact ⟨m1, m2⟩
    · have h2' : gw g = 2 := by have := G.w1; have := G.w3; omega
      rw [if_neg h1, if_neg h1, if_neg h1, if_pos h2', if_pos h2', if_pos h2']
      exact ⟨ediv_mono m1 (by omega), ediv_mono m2 (by omega)⟩
theorem vote_in {g : Gv} {r : List Int} (h : standF g r = 0) (hv : gw g = 3) : ∃ j, j < (eachL g r).length ∧ (eachL g r).getD j 0 = evalG g r := by
  obtain ⟨G, _, _⟩ := stand_ok h
  have hE := each_len g r
  unfold evalG
  rw [if_pos h]
  unfold together
  rw [if_neg (by omega), if_neg (by omega)]
  obtain ⟨⟨j, j1, j2⟩, _, _⟩ := best_spec (l := eachL g r) (ws := gs g) (fun i hi => (wt_at G (by rw [← hE]; exact hi)).1) (eachL g r).length (by have := G.t0; omega) (Nat.le_refl _)
  exact ⟨j, j1, j2.symm⟩

/-! ### two as one -/
def joinF (a b : Gv) : Int := if groveF a ≠ 0 then groveF a else if groveF b ≠ 0 then groveF b else if gf a ≠ gf b ∨ gw a ≠ gw b then 3 else if 12 < (gt a).length + (gt b).length then 4 else 0
def joinG (a b : Gv) : Gv := (gf a, gw a, gs a ++ gs b, gt a ++ gt b)
def joinV (a b : Gv) : Gv := if joinF a b = 0 then joinG a b else (0, 0, [], [])
theorem join_ok {a b : Gv} (h : joinF a b = 0) : Good a ∧ Good b ∧ gf a = gf b ∧ gw a = gw b ∧ (gt a).length + (gt b).length ≤ 12 := by
  unfold joinF at h
  split at h
  · rename_i h1; exact absurd h h1
  · rename_i h1
    split at h
    · rename_i h2; exact absurd h h2
    · rename_i h2
      split at h
      · cases h
      · rename_i h3
        split at h
        · cases h
        · rename_i h4
          exact ⟨(good_iff a).1 (by simpa using h1), (good_iff b).1 (by simpa using h2), by omega, by omega, by omega⟩
theorem join_good {a b : Gv} (h : joinF a b = 0) : Good (joinG a b) := by
  obtain ⟨A, B, e1, e2, e3⟩ := join_ok h
  refine ⟨A.f0, A.f8, A.w1, A.w3, ?_, ?_, ?_, ?_, ?_⟩
  · show 0 < (gt a ++ gt b).length; rw [List.length_append]; have := A.t0; omega
  · show (gt a ++ gt b).length ≤ 12; rw [List.length_append]; exact e3
  · show (gs a ++ gs b).length = (gt a ++ gt b).length; rw [List.length_append, List.length_append, A.len, B.len]
  · intro w hw
    rcases List.mem_append.1 hw with q | q
    · exact A.wts w q
    · exact B.wts w q
  · intro t ht
    rcases List.mem_append.1 ht with q | q
    · exact A.trees t q
    · show (treeF t (gf a)).2 = 0
      rw [e1]; exact B.trees t q
theorem getD_left {l m : List Int} {i : Nat} (h : i < l.length) : (l ++ m).getD i 0 = l.getD i 0 := by
  rw [getD_at (by simp; omega), getD_at h, List.getElem_append_left h]
theorem getD_right {l m : List Int} {n i : Nat} (hn : l.length = n) : (l ++ m).getD (n + i) 0 = m.getD i 0 := by
  subst hn
  simp [List.getD, List.getElem?_append_right]
theorem sum_app {l m ws vs : List Int} {n : Nat} (hl : l.length = n) (hw : ws.length = n) : ∀ k, sumK (l ++ m) (ws ++ vs) (n + k) = sumK l ws n + sumK m vs k
  | 0 => by
    have : ∀ j, j ≤ n → sumK (l ++ m) (ws ++ vs) j = sumK l ws j := by
      intro j
      induction j with
      | zero => intro _; rfl
      | succ j ih =>
        intro hj
        rw [sumK, sumK, ih (by omega), getD_left (by omega), getD_left (by omega)]
    show sumK (l ++ m) (ws ++ vs) n = sumK l ws n + 0
    rw [this n (Nat.le_refl _)]; omega
  | k + 1 => by
    show sumK (l ++ m) (ws ++ vs) (n + k) + (l ++ m).getD (n + k) 0 * (ws ++ vs).getD (n + k) 0 = _
    rw [sum_app hl hw k, getD_right hl, getD_right hw, sumK]
    omega
theorem all_app {ws vs : List Int} {n : Nat} (hw : ws.length = n) : ∀ k, allK (ws ++ vs) (n + k) = allK ws n + allK vs k
  | 0 => by
    have : ∀ j, j ≤ n → allK (ws ++ vs) j = allK ws j := by
      intro j
      induction j with
      | zero => intro _; rfl
      | succ j ih =>
        intro hj
        rw [allK, allK, ih (by omega), getD_left (by omega)]
    show allK (ws ++ vs) n = allK ws n + 0
    rw [this n (Nat.le_refl _)]; omega
  | k + 1 => by
    show allK (ws ++ vs) (n + k) + (ws ++ vs).getD (n + k) 0 = _
    rw [all_app hw k, getD_right hw, allK]
    omega
theorem vot_app {l m ws vs : List Int} {n : Nat} (hl : l.length = n) (hw : ws.length = n) (v : Int) : ∀ k, votK (l ++ m) (ws ++ vs) v (n + k) = votK l ws v n + votK m vs v k
  | 0 => by
    have : ∀ j, j ≤ n → votK (l ++ m) (ws ++ vs) v j = votK l ws v j := by
      intro j
      induction j with
      | zero => intro _; rfl
      | succ j ih =>
        intro hj
        rw [votK, votK, ih (by omega), getD_left (by omega), getD_left (by omega)]
    show votK (l ++ m) (ws ++ vs) v n = votK l ws v n + 0
    rw [this n (Nat.le_refl _)]; omega
  | k + 1 => by
    show (votK (l ++ m) (ws ++ vs) v (n + k) + if (l ++ m).getD (n + k) 0 = v then (ws ++ vs).getD (n + k) 0 else 0) = _
    rw [vot_app hl hw v k, getD_right hl, getD_right hw, votK]
    omega
theorem each_app (a b : Gv) (r : List Int) : eachL (joinG a b) r = eachL a r ++ eachL b r := by
  unfold eachL joinG
  show List.map _ (gt a ++ gt b) = _
  rw [List.map_append]
theorem join_stand {a b : Gv} {r : List Int} (h : joinF a b = 0) (hs : standF a r = 0) : standF b r = 0 ∧ standF (joinG a b) r = 0 := by
  obtain ⟨A, B, e1, e2, e3⟩ := join_ok h
  obtain ⟨_, h2, h3⟩ := stand_ok hs
  exact ⟨stand_of B h2 (by rw [← e1]; exact h3), stand_of (join_good h) h2 h3⟩
theorem join_sum {a b : Gv} {r : List Int} (h : joinF a b = 0) (hs : standF a r = 0) (hw : gw a = 1) : evalG (joinG a b) r = evalG a r + evalG b r := by
  obtain ⟨A, B, e1, e2, e3⟩ := join_ok h
  obtain ⟨s1, s2⟩ := join_stand h hs
  unfold evalG
  rw [if_pos s2, if_pos hs, if_pos s1]
  unfold together
  rw [if_pos (show gw (joinG a b) = 1 from hw), if_pos hw, if_pos (by rw [← e2]; exact hw), each_app, List.length_append]
  exact sum_app rfl (by rw [each_len]; exact A.len) _
theorem twice {g : Gv} {r : List Int} (h : joinF g g = 0) (hs : standF g r = 0) : evalG (joinG g g) r = if gw g = 1 then 2 * evalG g r else evalG g r := by
  obtain ⟨A, _, _, _, _⟩ := join_ok h
  obtain ⟨_, s2⟩ := join_stand h hs
  by_cases h1 : gw g = 1
  · rw [if_pos h1, join_sum h hs h1]; omega
  · rw [if_neg h1]
    have hE := each_len g r
    have hl : (gs g).length = (eachL g r).length := by rw [hE]; exact A.len
    unfold evalG
    rw [if_pos s2, if_pos hs]
    unfold together
    have ew : gw (joinG g g) = gw g := rfl
    have es : gs (joinG g g) = gs g ++ gs g := rfl
    rw [ew, es, if_neg h1, if_neg h1, each_app, List.length_append]
    by_cases h2 : gw g = 2
    · rw [if_pos h2, if_pos h2, sum_app rfl hl, all_app hl]
      have ap := (all_pos (ws := gs g) (eachL g r).length fun i hi => wt_at A (by rw [← hE]; exact hi)).1
      have a0 : 0 < (eachL g r).length := by rw [hE]; exact A.t0
      rw [show sumK (eachL g r) (gs g) (eachL g r).length + sumK (eachL g r) (gs g) (eachL g r).length = 2 * sumK (eachL g r) (gs g) (eachL g r).length by omega,
        show allK (gs g) (eachL g r).length + allK (gs g) (eachL g r).length = 2 * allK (gs g) (eachL g r).length by omega]
      exact Int.mul_ediv_mul_of_pos _ _ (by omega)
    · rw [if_neg h2, if_neg h2]
      have w1 : ∀ i, i < (eachL g r).length → 1 ≤ (gs g).getD i 0 := fun i hi => (wt_at A (by rw [← hE]; exact hi)).1
      have a0 : 0 < (eachL g r).length := by rw [hE]; exact A.t0
      obtain ⟨⟨j, j1, j2⟩, j3, j4⟩ := best_spec w1 (eachL g r).length a0 (Nat.le_refl _)
      have key : ∀ i, i < (eachL g r).length + (eachL g r).length → ∃ i', i' < (eachL g r).length ∧ (eachL g r ++ eachL g r).getD i 0 = (eachL g r).getD i' 0 := by
        intro i hi
        by_cases q : i < (eachL g r).length
        · exact ⟨i, q, getD_left q⟩
        · refine ⟨i - (eachL g r).length, by omega, ?_⟩
          have := getD_right (l := eachL g r) (m := eachL g r) (i := i - (eachL g r).length) rfl
          rwa [show (eachL g r).length + (i - (eachL g r).length) = i by omega] at this
      have vt : ∀ v, votK (eachL g r ++ eachL g r) (gs g ++ gs g) v ((eachL g r).length + (eachL g r).length) = 2 * votK (eachL g r) (gs g) v (eachL g r).length := by
        intro v
        rw [vot_app rfl hl v]; omega
      have := best_unique (l := eachL g r ++ eachL g r) (ws := gs g ++ gs g) (b := (bestK (eachL g r) (gs g) (eachL g r).length).2)
        (fun i hi => by
          rw [List.length_append] at hi
          by_cases q : i < (eachL g r).length
          · rw [getD_left (by omega)]; exact w1 i q
          · have e := getD_right (l := gs g) (m := gs g) (i := i - (eachL g r).length) hl
            rw [show (eachL g r).length + (i - (eachL g r).length) = i by omega] at e
            rw [e]; exact w1 _ (by omega))
        (by rw [List.length_append]; omega)
        ⟨j, by rw [List.length_append]; omega, by rw [getD_left j1]; exact j2⟩
        (fun i hi => by
          rw [List.length_append] at hi ⊢
          obtain ⟨i', q1, q2⟩ := key i hi
          rw [q2, vt, vt, ← j3]
          have := j4 i' q1
          omega)
      rw [List.length_append] at this
      exact this

theorem join_self {g : Gv} (h : Good g) : joinF g g = 0 ∨ (joinF g g = 4 ∧ 12 < 2 * (gt g).length) := by
  unfold joinF
  rw [if_neg (by simp [(good_iff g).2 h]), if_neg (by simp [(good_iff g).2 h]), if_neg (by simp)]
  by_cases q : 12 < (gt g).length + (gt g).length
  · rw [if_pos q]; exact .inr ⟨rfl, by omega⟩
  · rw [if_neg q]; exact .inl rfl
theorem each_in {g : Gv} {r : List Int} (h : standF g r = 0) {i : Nat} (hi : i < (gt g).length) : -1000000 ≤ (eachL g r).getD i 0 ∧ (eachL g r).getD i 0 ≤ 1000000 := by
  rw [each_at g r hi, getD_at hi]
  have hr := stand_ready h (List.getElem_mem hi)
  exact lv_in (tree_ok (ready_ok hr).2).1 _ (eval_mem hr)
theorem eval_range {g : Gv} {r : List Int} (h : standF g r = 0) (hw : gw g = 1) : -12000000000 ≤ evalG g r ∧ evalG g r ≤ 12000000000 := by
  obtain ⟨G, _, _⟩ := stand_ok h
  unfold evalG
  rw [if_pos h]
  unfold together
  rw [if_pos hw, each_len]
  have := sum_bound (l := eachL g r) (ws := gs g) (gt g).length fun i hi => ⟨(each_in h hi).1, (each_in h hi).2, (wt_at G hi).1, (wt_at G hi).2⟩
  have := G.t12
  omega
def one7 : Gv := (0, 3, [1], [[(-1, 0, 0, 0, false, 7)]])
theorem one7_stand : standF one7 [] = 0 := by decide +kernel
theorem one7_each : eachV one7 [] = [7] := by decide +kernel
def two7 : Gv := (0, 2, [1, 3], [[(-1, 0, 0, 0, false, 7)], [(-1, 0, 0, 0, false, 7)]])
theorem two7_stand : standF two7 [] = 0 := by decide +kernel
theorem two7_eval : evalG two7 [] = 7 := by decide +kernel

end Go.Proofs.Ythbeoaninipadaf.M

namespace Go.Proofs.Ythbeoaninipadaf.M
set_option linter.unusedVariables false

/-- a cell that no question asks for, changed -/
theorem getD_set {r : List Int} {k j : Nat} {c : Int} (h : j ≠ k) : r.getD j 0 = (r.set k c).getD j 0 := by
  simp [List.getD, List.getElem?_set_ne (Ne.symm h)]
theorem ready_set {t : List Nd} {r : List Int} {k : Nat} {c : Int} (h : readyF t r = 0) (hc : outI c = false) : readyF t (r.set k c) = 0 := by
  obtain ⟨h1, h2⟩ := ready_ok h
  obtain ⟨g1, g2⟩ := (row_ok r).1 h1
  have h3 : rowF (r.set k c) = 0 := (row_ok _).2 ⟨by rw [List.length_set]; exact g1, fun x hx => by
    rcases List.mem_or_eq_of_mem_set hx with q | q
    · exact g2 x q
    · subst q; exact good_cell hc⟩
  rw [ready_tree h3, List.length_set]; exact h2
theorem leaf_set {t : List Nd} {r : List Int} {k : Nat} {c : Int} (h : readyF t r = 0) (hc : outI c = false) (hn : ∀ j, j < t.length → nf (nAt t j) ≠ (k : Int)) : leafV t (r.set k c) = leafV t r := by
  obtain ⟨F, _⟩ := tree_ok (ready_ok h).2
  unfold leafV
  rw [if_pos h, if_pos (ready_set h hc)]
  exact (go_same F.2.2.2.2.1 (fun j hj => getD_set hj) hn t.length 0 F.2.1).symm
theorem any_take {l : List Int} {x : Int} {k : Nat} (h : k < l.length) : (l.take (k + 1)).any (· == x) = ((l.take k).any (· == x) || l[k] == x) := by
  rw [List.take_succ_eq_append_getElem h, List.any_append]; simp
theorem leaf_among {t : List Nd} {r : List Int} (h : readyF t r = 0) (h8 : (treeF t 8).2 = 0) : (leavesV t).any (· == (leafV t r : Int)) = true := by
  obtain ⟨F, _⟩ := tree_ok (ready_ok h).2
  obtain ⟨h1, h2⟩ := to_end F.2.2.2.2.1 r t.length 0 F.2.1 (by omega)
  unfold leavesV leafV
  rw [if_pos h8, if_pos h, List.any_eq_true]
  exact ⟨_, lvs_mem t t.length _ h1 h2, by simp⟩
theorem leaves_half {t : List Nd} (h : (treeF t 8).2 = 0) : 2 * (leavesV t).length = t.length + 1 := by
  obtain ⟨F, _⟩ := tree_ok h
  unfold leavesV
  rw [if_pos h]; exact halves F
/-- the tree of one question -/
def oneT : List Nd := [(0, 5, 1, 2, false, 0), (-1, 0, 0, 0, false, 7), (-1, 0, 0, 0, false, 9)]
theorem one_ready (x : Int) (h : x = 4 ∨ x = 5) : readyF oneT [x] = 0 := by rcases h with rfl | rfl <;> decide +kernel
theorem one_four : evalV oneT [4] = 7 := by decide +kernel
theorem one_five : evalV oneT [5] = 9 := by decide +kernel

end Go.Proofs.Ythbeoaninipadaf.M

namespace Go.Proofs.Ythbeoaninipadaf.M
set_option linter.unusedVariables false

def isLf (t : List Nd) (k : Int) : Bool := decide (0 ≤ k) && decide (k < (t.length : Int)) && leafB (nAt t k.toNat)
def regF (t : List Nd) (m k : Int) : Int := if (treeF t m).2 ≠ 0 then (treeF t m).2 else if isLf t k = false then 1 else 0
def regV (t : List Nd) (m k : Int) : List Sp := if regF t m k = 0 then (region t m.toNat k.toNat).map norm else []
def regB (t : List Nd) (m k : Int) : Bool := if regF t m k = 0 then anyS (region t m.toNat k.toNat) else false
def rchV (t : List Nd) (m : Int) : List Int := if (treeF t m).2 = 0 then rch t m.toNat t.length else []
def witV (l : List Sp) : List Int := if spF l = 0 then pick l else []

theorem within_norm {r : List Int} {l : List Sp} : within r (l.map norm) ↔ within r l := by
  unfold within
  rw [List.length_map]
  constructor
  · intro h j hj
    have := h j hj
    rw [getD_at (l := l.map norm) (by rw [List.length_map]; exact hj), List.getElem_map, in_norm] at this
    rw [getD_at (l := l) hj]; exact this
  · intro h j hj
    have := h j hj
    rw [getD_at (l := l) hj] at this
    rw [getD_at (l := l.map norm) (by rw [List.length_map]; exact hj), List.getElem_map, in_norm]; exact this
theorem fit_within {xs : List Int} {ss : List Sp} (h : rowF xs = 0) (hl : ss.length = xs.length) : fitV xs ss = true ↔ within xs ss := by
  rw [(fit_ok h hl).2]
  unfold within outAt
  rw [Bool.not_eq_true', List.any_eq_false, hl]
  constructor
  · intro q j hj
    have := q j (List.mem_range.2 hj)
    simpa using this
  · intro q j hj
    have := q j (List.mem_range.1 hj)
    rw [this]; simp

/-- what a leaf's place gives -/
theorem leaf_place {t : List Nd} {r : List Int} (h : readyF t r = 0) {k : Nat} (hk : k < t.length) (hl : nf (nAt t k) = -1) :
    regF t (r.length : Int) (k : Int) = 0 ∧ fitF r (regV t (r.length : Int) (k : Int)) = 0 ∧ fitV r (regV t (r.length : Int) (k : Int)) = decide (k = leafV t r) ∧
    regB t (r.length : Int) (k : Int) = (rchV t (r.length : Int)).any (· == (k : Int)) ∧ (k = leafV t r → regB t (r.length : Int) (k : Int) = true) := by
  obtain ⟨h1, h2⟩ := ready_ok h
  obtain ⟨F, _⟩ := tree_ok h2
  have e0 : regF t (r.length : Int) (k : Int) = 0 := by
    unfold regF isLf
    rw [if_neg (by simp [h2]), if_neg]
    rw [decide_eq_true (show (0 : Int) ≤ (k : Int) by omega), decide_eq_true (show (k : Int) < (t.length : Int) by omega), Int.toNat_natCast]
    unfold leafB
    rw [decide_eq_true hl]; simp
  have eV : regV t (r.length : Int) (k : Int) = (region t r.length k).map norm := by unfold regV; rw [if_pos e0, Int.toNat_natCast, Int.toNat_natCast]
  have eB : regB t (r.length : Int) (k : Int) = anyS (region t r.length k) := by unfold regB; rw [if_pos e0, Int.toNat_natCast, Int.toNat_natCast]
  have eL : leafV t r = toD t r 0 := by unfold leafV; rw [if_pos h]
  have eR : rchV t (r.length : Int) = rch t r.length t.length := by unfold rchV; rw [if_pos h2, Int.toNat_natCast]
  have hlen : ((region t r.length k).map norm).length = r.length := by rw [List.length_map, region_len]
  have hw := region_leaf F h1 rfl hk hl
  refine ⟨e0, by rw [eV]; exact (fit_ok h1 hlen).1, ?_, ?_, ?_⟩
  · rw [eV, eL]
    have : fitV r ((region t r.length k).map norm) = true ↔ k = toD t r 0 := by rw [fit_within h1 hlen, within_norm, hw]
    by_cases q : k = toD t r 0
    · rw [this.2 q, decide_eq_true q]
    · rw [decide_eq_false q]
      cases e : fitV r ((region t r.length k).map norm) with
      | false => rfl
      | true => exact absurd (this.1 e) q
  · rw [eB, eR]
    cases ha : anyS (region t r.length k) with
    | true =>
      symm
      rw [List.any_eq_true]
      exact ⟨(k : Int), (rch_mem t r.length t.length _).2 ⟨k, rfl, hk, by unfold leafB; exact decide_eq_true hl, ha⟩, by simp⟩
    | false =>
      symm
      rw [List.any_eq_false]
      intro x hx hq
      obtain ⟨j, e, _, _, hj⟩ := (rch_mem t r.length t.length _).1 hx
      have : x = (k : Int) := by simpa using hq
      have : j = k := by omega
      subst this
      rw [ha] at hj; cases hj
  · intro q
    rw [eB]
    exact any_within (hw.2 (by rw [q, eL]))
theorem wit_place {t : List Nd} {r : List Int} (h : readyF t r = 0) {k : Nat} (hk : k < t.length) (hl : nf (nAt t k) = -1) (hb : regB t (r.length : Int) (k : Int) = true) :
    spF (regV t (r.length : Int) (k : Int)) = 0 ∧ readyF t (witV (regV t (r.length : Int) (k : Int))) = 0 ∧ leafV t (witV (regV t (r.length : Int) (k : Int))) = k := by
  obtain ⟨h1, h2⟩ := ready_ok h
  obtain ⟨F, _⟩ := tree_ok h2
  have e0 := (leaf_place h hk hl).1
  have eV : regV t (r.length : Int) (k : Int) = (region t r.length k).map norm := by unfold regV; rw [if_pos e0, Int.toNat_natCast, Int.toNat_natCast]
  have eB : regB t (r.length : Int) (k : Int) = anyS (region t r.length k) := by unfold regB; rw [if_pos e0, Int.toNat_natCast, Int.toNat_natCast]
  rw [eB] at hb
  obtain ⟨g1, g2, g3⟩ := witness F hk hl hb
  rw [eV]
  have eW : witV ((region t r.length k).map norm) = pick ((region t r.length k).map norm) := by unfold witV; rw [if_pos g1]
  have hp : (pick ((region t r.length k).map norm)).length = r.length := by unfold pick; rw [List.length_map, List.length_map, region_len]
  have hready : readyF t (pick ((region t r.length k).map norm)) = 0 := by rw [ready_tree g2, hp]; exact h2
  refine ⟨g1, by rw [eW]; exact hready, ?_⟩
  rw [eW]; unfold leafV; rw [if_pos hready]; exact g3
theorem one_region : regF oneT 1 2 = 0 ∧ regV oneT 1 2 = [(5, 1000000, true)] ∧ regB oneT 1 2 = true := by decide +kernel
theorem leafV_leaf {t : List Nd} {r : List Int} (h : readyF t r = 0) : leafV t r < t.length ∧ nf (nAt t (leafV t r)) = -1 := by
  obtain ⟨F, _⟩ := tree_ok (ready_ok h).2
  unfold leafV
  rw [if_pos h]
  exact to_end F.2.2.2.2.1 r t.length 0 F.2.1 (by omega)

end Go.Proofs.Ythbeoaninipadaf.M

namespace Go.Proofs.Ythbeoaninipadaf.M
set_option linter.unusedVariables false

/-! ### in common -/
def meetS (a b : Sp) : Sp := (if a.1 < b.1 then b.1 else a.1, if b.2.1 < a.2.1 then b.2.1 else a.2.1, a.2.2 && b.2.2)
def meet (a b : List Sp) : List Sp := List.zipWith meetS a b
theorem meet_len {a b : List Sp} (h : a.length = b.length) : (meet a b).length = a.length := by unfold meet; rw [List.length_zipWith, h]; exact Nat.min_self _
theorem meet_at {a b : List Sp} (h : a.length = b.length) {i : Nat} (hi : i < a.length) : (meet a b).getD i (0, 0, false) = meetS (a.getD i (0, 0, false)) (b.getD i (0, 0, false)) := by
  unfold meet
  simp [List.getD, List.getElem?_zipWith, hi, show i < b.length by omega]
theorem meet_take {a b : List Sp} (h : a.length = b.length) {k : Nat} (hk : k < a.length) : meet (a.take (k + 1)) (b.take (k + 1)) = meet (a.take k) (b.take k) ++ [meetS (a.getD k (0, 0, false)) (b.getD k (0, 0, false))] := by
  unfold meet
  rw [List.take_succ_eq_append_getElem hk, List.take_succ_eq_append_getElem (show k < b.length by omega), List.zipWith_append (by simp; omega), getD_at hk, getD_at (show k < b.length by omega)]
  rfl
theorem in_meet (c : Int) (a b : Sp) : inS c (meetS a b) = (inS c a && inS c b) := by
  by_cases h : c = nilI
  · rw [in_nil h, in_nil h, in_nil h]; rfl
  · rw [in_num h, in_num h, in_num h]
    unfold meetS
    rw [Bool.eq_iff_iff]
    simp only [Bool.and_eq_true, decide_eq_true_eq]
    constructor
    · rintro ⟨h1, h2⟩
      split at h1 <;> split at h2 <;> omega
    · rintro ⟨⟨h1, h2⟩, h3, h4⟩
      constructor <;> split <;> omega
theorem within_meet {r : List Int} {a b : List Sp} (h : a.length = b.length) : within r (meet a b) ↔ within r a ∧ within r b := by
  unfold within
  rw [meet_len h]
  constructor
  · intro q
    refine ⟨fun j hj => ?_, fun j hj => ?_⟩
    · have := q j hj
      rw [meet_at h hj, in_meet, Bool.and_eq_true] at this
      exact this.1
    · have := q j (by omega)
      rw [meet_at h (by omega), in_meet, Bool.and_eq_true] at this
      exact this.2
  · rintro ⟨q1, q2⟩ j hj
    rw [meet_at h hj, in_meet, q1 j hj, q2 j (by omega)]
    rfl
theorem sp_zero {l : List Sp} (h : spF l = 0) : l.length ≤ 8 ∧ ∀ i, i < l.length → sp1F (l.getD i (0, 0, false)) = 0 := by
  unfold spF at h
  by_cases h8 : 8 < l.length
  · rw [if_pos h8] at h; cases h
  · rw [if_neg h8] at h
    refine ⟨by omega, ?_⟩
    split at h
    · rename_i k e
      have q := (first_some e).2
      rw [decide_eq_true h] at q
      cases q
    · rename_i e
      intro i hi
      have := first_none e i hi
      simpa using this
theorem sp1_zero {s : Sp} (h : sp1F s = 0) : outI s.1 = false ∧ outI s.2.1 = false ∧ hasS s = true := by
  unfold sp1F at h
  by_cases c : outI s.1 = true ∨ outI s.2.1 = true
  · rw [if_pos c] at h; cases h
  · rw [if_neg c] at h
    by_cases d : hasS s = false
    · rw [if_pos d] at h; cases h
    · refine ⟨?_, ?_, by simpa using d⟩
      · cases e : outI s.1 with
        | false => rfl
        | true => exact absurd (.inl e) c
      · cases e : outI s.2.1 with
        | false => rfl
        | true => exact absurd (.inr e) c
theorem in_out {x : Int} (h : outI x = false) : -1000000 ≤ x ∧ x ≤ 1000000 := by
  unfold outI at h
  simp at h
  omega
/-- a row of spans that begin where numbers are -/
theorem pick_row {l : List Sp} (h8 : l.length ≤ 8) (ho : ∀ i, i < l.length → -1000000 ≤ (l.getD i (0, 0, false)).1 ∧ (l.getD i (0, 0, false)).1 ≤ 1000000) (h : anyS l = true) : rowF (pick l) = 0 ∧ (pick l).length = l.length ∧ within (pick l) l := by
  have hl : (pick l).length = l.length := by unfold pick; simp
  have at' : ∀ i, i < l.length → (pick l).getD i 0 = pickC (l.getD i (0, 0, false)) := fun i hi => by
    rw [getD_at (by omega), getD_at hi]; unfold pick; simp
  have nn : ∀ x : Int, -1000000 ≤ x → x ≠ nilI := fun x hx e => by unfold nilI at e; omega
  refine ⟨?_, hl, ?_⟩
  · rw [row_ok]
    refine ⟨by omega, fun x hx => ?_⟩
    obtain ⟨i, hi, rfl⟩ := List.getElem_of_mem hx
    have hi' : i < l.length := by omega
    have e := at' i hi'
    rw [getD_at hi] at e
    rw [e]
    unfold pickC
    by_cases c : (l.getD i (0, 0, false)).1 ≤ (l.getD i (0, 0, false)).2.1
    · rw [if_pos c]; exact good_cell (out_in (ho i hi').1 (ho i hi').2)
    · rw [if_neg c]; exact good_nil
  · intro j hj
    rw [at' j hj]
    have hs : hasS (l.getD j (0, 0, false)) = true := by
      unfold anyS at h
      rw [List.all_eq_true] at h
      rw [getD_at hj]; exact h _ (List.getElem_mem hj)
    unfold pickC
    by_cases c : (l.getD j (0, 0, false)).1 ≤ (l.getD j (0, 0, false)).2.1
    · rw [if_pos c, in_num (nn _ (ho j hj).1), decide_eq_true c, decide_eq_true (Int.le_refl _)]
      rfl
    · rw [if_neg c, in_nil rfl]
      unfold hasS at hs
      rw [decide_eq_false c, Bool.false_or] at hs
      exact hs

/-! ### the least and the greatest -/
def cnt (t : List Nd) (l : List Sp) (j : Nat) : Bool := leafB (nAt t j) && anyS (meet (region t l.length j) l)
def ends0 : Bool × Int × Int × List Int × List Int := (false, 0, 0, [], [])
/-- one leaf more -/
def endS (s : Bool × Int × Int × List Int × List Int) (v : Int) (p : List Int) : Bool × Int × Int × List Int × List Int :=
  (true, if s.1 = false ∨ v < s.2.1 then v else s.2.1, if s.1 = false ∨ s.2.2.1 < v then v else s.2.2.1, if s.1 = false ∨ v < s.2.1 then p else s.2.2.2.1, if s.1 = false ∨ s.2.2.1 < v then p else s.2.2.2.2)
def endsK (t : List Nd) (l : List Sp) : Nat → Bool × Int × Int × List Int × List Int
  | 0 => ends0
  | k + 1 => if cnt t l k = true then endS (endsK t l k) (nv (nAt t k)) (pick (meet (region t l.length k) l)) else endsK t l k
theorem ends_spec (t : List Nd) (l : List Sp) : ∀ k, ((endsK t l k).1 = true ↔ ∃ j, j < k ∧ cnt t l j = true) ∧ ((endsK t l k).1 = true →
    (∃ j, j < k ∧ cnt t l j = true ∧ (endsK t l k).2.1 = nv (nAt t j) ∧ (endsK t l k).2.2.2.1 = pick (meet (region t l.length j) l)) ∧ (∀ i, i < k → cnt t l i = true → (endsK t l k).2.1 ≤ nv (nAt t i)) ∧
    (∃ j, j < k ∧ cnt t l j = true ∧ (endsK t l k).2.2.1 = nv (nAt t j) ∧ (endsK t l k).2.2.2.2 = pick (meet (region t l.length j) l)) ∧ (∀ i, i < k → cnt t l i = true → nv (nAt t i) ≤ (endsK t l k).2.2.1))
  | 0 => by
    refine ⟨⟨fun h => ?_, ?_⟩, fun h => ?_⟩
    · have : false = true := h
      cases this
    · rintro ⟨j, hj, _⟩; omega
    · have : false = true := h
      cases this
  | k + 1 => by
    obtain ⟨i1, i2⟩ := ends_spec t l k
    unfold endsK
    by_cases c : cnt t l k = true
    · rw [if_pos c]
      generalize endsK t l k = s at *
      have e1 : (endS s (nv (nAt t k)) (pick (meet (region t l.length k) l))).1 = true := rfl
      refine ⟨⟨fun _ => ⟨k, by omega, c⟩, fun _ => rfl⟩, fun _ => ⟨?_, ?_, ?_, ?_⟩⟩
      · by_cases d : s.1 = false ∨ nv (nAt t k) < s.2.1
        · refine ⟨k, by omega, c, ?_, ?_⟩
          · show (if _ then _ else _) = _; rw [if_pos d]
          · show (if _ then _ else _) = _; rw [if_pos d]
        · obtain ⟨⟨j, j1, j2, j3, j4⟩, _⟩ := i2 (by cases e : s.1 with
            | true => rfl
            | false => exact absurd (.inl e) d)
          refine ⟨j, by omega, j2, ?_, ?_⟩
          · show (if _ then _ else _) = _; rw [if_neg d]; exact j3
          · show (if _ then _ else _) = _; rw [if_neg d]; exact j4
      · intro i hi hc
        show (if s.1 = false ∨ nv (nAt t k) < s.2.1 then nv (nAt t k) else s.2.1) ≤ _
        by_cases e : i = k
        · subst e; split <;> omega
        · cases e1 : s.1 with
          | false => exact absurd (i1.2 ⟨i, by omega, hc⟩) (by rw [e1]; decide)
          | true =>
            have := (i2 e1).2.1 i (by omega) hc
            by_cases d : nv (nAt t k) < s.2.1
            · rw [if_pos (.inr d)]; omega
            · rw [if_neg (fun q => q.elim (fun z => by cases z) d)]; exact this
      · by_cases d : s.1 = false ∨ s.2.2.1 < nv (nAt t k)
        · refine ⟨k, by omega, c, ?_, ?_⟩
          · show (if _ then _ else _) = _; rw [if_pos d]
          · show (if _ then _ else _) = _; rw [if_pos d]
        · obtain ⟨_, _, ⟨j, j1, j2, j3, j4⟩, _⟩ := i2 (by cases e : s.1 with
            | true => rfl
            | false => exact absurd (.inl e) d)
          refine ⟨j, by omega, j2, ?_, ?_⟩
          · show (if _ then _ else _) = _; rw [if_neg d]; exact j3
          · show (if _ then _ else _) = _; rw [if_neg d]; exact j4
      · intro i hi hc
        show _ ≤ (if s.1 = false ∨ s.2.2.1 < nv (nAt t k) then nv (nAt t k) else s.2.2.1)
        by_cases e : i = k
        · subst e; split <;> omega
        · cases e1 : s.1 with
          | false => exact absurd (i1.2 ⟨i, by omega, hc⟩) (by rw [e1]; decide)
          | true =>
            have := (i2 e1).2.2.2 i (by omega) hc
            by_cases d : s.2.2.1 < nv (nAt t k)
            · rw [if_pos (.inr d)]; omega
            · rw [if_neg (fun q => q.elim (fun z => by cases z) d)]; exact this
    · rw [if_neg c]
      refine ⟨⟨fun h => ?_, fun ⟨j, h1, h2⟩ => i1.2 ⟨j, ?_, h2⟩⟩, fun h => ?_⟩
      · obtain ⟨j, h1, h2⟩ := i1.1 h; exact ⟨j, by omega, h2⟩
      · by_cases e : j = k
        · subst e; exact absurd h2 c
        · omega
      · obtain ⟨⟨j, j1, j2, j3, j4⟩, q, ⟨y, y1, y2, y3, y4⟩, u⟩ := i2 h
        have ne : ∀ i, i < k + 1 → cnt t l i = true → i < k := fun i hi hc => by
          by_cases e : i = k
          · subst e; exact absurd hc c
          · omega
        exact ⟨⟨j, by omega, j2, j3, j4⟩, fun i hi hc => q i (ne i hi hc) hc, ⟨y, by omega, y2, y3, y4⟩, fun i hi hc => u i (ne i hi hc) hc⟩

def limF (t : List Nd) (l : List Sp) : Int := if spF l ≠ 0 then spF l else (treeF t (l.length : Int)).2
def limV (t : List Nd) (l : List Sp) : Bool × Int × Int × List Int × List Int := if limF t l = 0 then endsK t l t.length else ends0
theorem lim_ok {t : List Nd} {l : List Sp} (h : limF t l = 0) : spF l = 0 ∧ (treeF t (l.length : Int)).2 = 0 := by
  unfold limF at h
  by_cases c : spF l = 0
  · rw [if_neg (by simp [c])] at h; exact ⟨c, h⟩
  · rw [if_pos c] at h; exact absurd h c
theorem lim_of {t : List Nd} {l : List Sp} (h1 : spF l = 0) (h2 : (treeF t (l.length : Int)).2 = 0) : limF t l = 0 := by
  unfold limF; rw [if_neg (by simp [h1])]; exact h2
/-- a leaf that is counted has a row -/
theorem lim_row {t : List Nd} {l : List Sp} (h : limF t l = 0) {j : Nat} (hj : j < t.length) (hc : cnt t l j = true) : readyF t (pick (meet (region t l.length j) l)) = 0 ∧ evalV t (pick (meet (region t l.length j) l)) = nv (nAt t j) ∧ fitF (pick (meet (region t l.length j) l)) l = 0 ∧ fitV (pick (meet (region t l.length j) l)) l = true := by
  obtain ⟨h1, h2⟩ := lim_ok h
  obtain ⟨F, _⟩ := tree_ok h2
  obtain ⟨l8, hs⟩ := sp_zero h1
  unfold cnt at hc
  rw [Bool.and_eq_true] at hc
  have hl : (region t l.length j).length = l.length := region_len _ _ _
  have ml := meet_len hl
  have ho : ∀ i, i < (meet (region t l.length j) l).length → -1000000 ≤ ((meet (region t l.length j) l).getD i (0, 0, false)).1 ∧ ((meet (region t l.length j) l).getD i (0, 0, false)).1 ≤ 1000000 := fun i hi => by
    rw [meet_at hl (by omega)]
    have r1 := region_ok F hj ((region t l.length j).getD i (0, 0, false)) (by rw [getD_at (by omega)]; exact List.getElem_mem _)
    have r2 := in_out (sp1_zero (hs i (by omega))).1
    unfold okS at r1
    unfold meetS
    simp only
    split <;> omega
  obtain ⟨p1, p2, p3⟩ := pick_row (by omega) ho hc.2
  have p4 : (pick (meet (region t l.length j) l)).length = l.length := by omega
  obtain ⟨w1, w2⟩ := (within_meet hl).1 p3
  have hf : nf (nAt t j) = -1 := of_decide_eq_true hc.1
  have hy : readyF t (pick (meet (region t l.length j) l)) = 0 := by rw [ready_tree p1, p4]; exact h2
  have hd := (region_leaf F p1 p4 hj hf).1 w1
  refine ⟨hy, ?_, (fit_ok p1 p4.symm).1, (fit_within p1 p4.symm).2 w2⟩
  unfold evalV
  rw [if_pos hy, ← hd]
/-- what a row within spans comes to is counted -/
theorem lim_in {t : List Nd} {l : List Sp} {r : List Int} (h : limF t l = 0) (hr : rowF r = 0) (hl : r.length = l.length) (hw : within r l) : readyF t r = 0 ∧ ∃ j, j < t.length ∧ cnt t l j = true ∧ evalV t r = nv (nAt t j) := by
  obtain ⟨h1, h2⟩ := lim_ok h
  obtain ⟨F, _⟩ := tree_ok h2
  have hy : readyF t r = 0 := by rw [ready_tree hr, hl]; exact h2
  obtain ⟨g1, g2⟩ := leafV_leaf' hy
  refine ⟨hy, toD t r 0, g1, ?_, by unfold evalV; rw [if_pos hy]⟩
  have hm : within r (meet (region t l.length (toD t r 0)) l) := (within_meet (region_len _ _ _)).2 ⟨(region_leaf F hr hl g1 g2).2 rfl, hw⟩
  unfold cnt
  rw [any_within hm, Bool.and_true]
  exact decide_eq_true g2
theorem lim_some {t : List Nd} {l : List Sp} (h : limF t l = 0) : (endsK t l t.length).1 = true := by
  obtain ⟨h1, h2⟩ := lim_ok h
  obtain ⟨l8, hs⟩ := sp_zero h1
  have ha : anyS l = true := by
    unfold anyS
    rw [List.all_eq_true]
    intro s hs'
    obtain ⟨i, hi, rfl⟩ := List.getElem_of_mem hs'
    have := (sp1_zero (hs i hi)).2.2
    rw [getD_at hi] at this
    exact this
  obtain ⟨p1, p2, p3⟩ := pick_row l8 (fun i hi => in_out (sp1_zero (hs i hi)).1) ha
  obtain ⟨_, j, j1, j2, _⟩ := lim_in h p1 p2 p3
  exact ((ends_spec t l t.length).1).2 ⟨j, j1, j2⟩
abbrev limLo (t : List Nd) (l : List Sp) : Int := (limV t l).2.1
abbrev limHi (t : List Nd) (l : List Sp) : Int := (limV t l).2.2.1
abbrev limA (t : List Nd) (l : List Sp) : List Int := (limV t l).2.2.2.1
abbrev limB (t : List Nd) (l : List Sp) : List Int := (limV t l).2.2.2.2
theorem lim_least {t : List Nd} {l : List Sp} (h : limF t l = 0) : readyF t (limA t l) = 0 ∧ evalV t (limA t l) = limLo t l ∧ fitF (limA t l) l = 0 ∧ fitV (limA t l) l = true := by
  have e : limV t l = endsK t l t.length := by unfold limV; rw [if_pos h]
  obtain ⟨⟨j, j1, j2, j3, j4⟩, _⟩ := (ends_spec t l t.length).2 (lim_some h)
  obtain ⟨q1, q2, q3, q4⟩ := lim_row h j1 j2
  show readyF t (limV t l).2.2.2.1 = 0 ∧ evalV t (limV t l).2.2.2.1 = (limV t l).2.1 ∧ fitF (limV t l).2.2.2.1 l = 0 ∧ fitV (limV t l).2.2.2.1 l = true
  rw [e, j3, j4]
  exact ⟨q1, q2, q3, q4⟩
theorem lim_most {t : List Nd} {l : List Sp} (h : limF t l = 0) : readyF t (limB t l) = 0 ∧ evalV t (limB t l) = limHi t l ∧ fitF (limB t l) l = 0 ∧ fitV (limB t l) l = true := by
  have e : limV t l = endsK t l t.length := by unfold limV; rw [if_pos h]
  obtain ⟨_, _, ⟨j, j1, j2, j3, j4⟩, _⟩ := (ends_spec t l t.length).2 (lim_some h)
  obtain ⟨q1, q2, q3, q4⟩ := lim_row h j1 j2
  show readyF t (limV t l).2.2.2.2 = 0 ∧ evalV t (limV t l).2.2.2.2 = (limV t l).2.2.1 ∧ fitF (limV t l).2.2.2.2 l = 0 ∧ fitV (limV t l).2.2.2.2 l = true
  rw [e, j3, j4]
  exact ⟨q1, q2, q3, q4⟩
theorem fit_parts {r : List Int} {l : List Sp} (h1 : fitF r l = 0) (h2 : fitV r l = true) : rowF r = 0 ∧ r.length = l.length ∧ within r l := by
  by_cases c : rowF r = 0
  · by_cases d : l.length = r.length
    · exact ⟨c, d.symm, (fit_within c d).1 h2⟩
    · rw [(fit_len c d).1] at h1; cases h1
  · rw [(fit_row c).1] at h1; exact absurd h1 c
/-- nothing comes beyond -/
theorem lim_between {t : List Nd} {l : List Sp} {r : List Int} (h : limF t l = 0) (h1 : fitF r l = 0) (h2 : fitV r l = true) : readyF t r = 0 ∧ limLo t l ≤ evalV t r ∧ evalV t r ≤ limHi t l := by
  obtain ⟨c1, c2, c3⟩ := fit_parts h1 h2
  have e : limV t l = endsK t l t.length := by unfold limV; rw [if_pos h]
  obtain ⟨hy, j, j1, j2, j3⟩ := lim_in h c1 c2 c3
  obtain ⟨_, q, _, u⟩ := (ends_spec t l t.length).2 (lim_some h)
  refine ⟨hy, ?_⟩
  show (limV t l).2.1 ≤ _ ∧ _ ≤ (limV t l).2.2.1
  rw [e, j3]
  exact ⟨q j j1 j2, u j j1 j2⟩
/-- what is told is a number that a leaf has -/
theorem lim_range {t : List Nd} {l : List Sp} (h : limF t l = 0) : (-1000000 ≤ limLo t l ∧ limLo t l ≤ 1000000) ∧ (-1000000 ≤ limHi t l ∧ limHi t l ≤ 1000000) := by
  obtain ⟨_, h2⟩ := lim_ok h
  obtain ⟨F, _⟩ := tree_ok h2
  have a := lim_least h
  have b := lim_most h
  rw [← a.2.1, ← b.2.1]
  exact ⟨lv_in F _ (eval_mem a.1), lv_in F _ (eval_mem b.1)⟩

/-! ### groves -/
theorem between_bounds {g : Gv} {r L H : List Int} (h : standF g r = 0) (l1 : L.length = (gt g).length) (l2 : H.length = (gt g).length) (bt : ∀ i, i < (gt g).length → L.getD i 0 ≤ (eachL g r).getD i 0 ∧ (eachL g r).getD i 0 ≤ H.getD i 0) : (between (gw g) (gs g) L H).1 ≤ evalG g r ∧ evalG g r ≤ (between (gw g) (gs g) L H).2 := by
  obtain ⟨G, h2, h3⟩ := stand_ok h
  have hE := each_len g r
  have t0 := G.t0
  unfold evalG
  rw [if_pos h]
  unfold between
  by_cases hv : gw g = 3
  · rw [if_neg (by simp [hv])]
    unfold together
    rw [if_neg (by omega), if_neg (by omega), hE]
    obtain ⟨⟨j, j1, j2⟩, _, _⟩ := best_spec (l := eachL g r) (ws := gs g) (fun i hi => (wt_at G (by rw [← hE]; exact hi)).1) (gt g).length t0 (by omega)
    rw [j2]
    have b := bt j j1
    constructor
    · refine Int.le_trans (low_le (x := L.getD j 0) ?_) b.1
      rw [getD_at (by omega)]; exact List.getElem_mem _
    · refine Int.le_trans b.2 (high_ge ?_)
      rw [getD_at (by omega)]; exact List.getElem_mem _
  · rw [if_pos hv]
    have m1 := sum_mono (l := L) (m := eachL g r) (ws := gs g) (gt g).length fun i hi => ⟨(bt i hi).1, by have := (wt_at G hi).1; omega⟩
    have m2 := sum_mono (l := eachL g r) (m := H) (ws := gs g) (gt g).length fun i hi => ⟨(bt i hi).2, by have := (wt_at G hi).1; omega⟩
    have ap := (all_pos (ws := gs g) (gt g).length fun i hi => wt_at G hi).1
    unfold together
    rw [l1, l2, hE]
    by_cases h1 : gw g = 1
    · rw [if_pos h1, if_pos h1, if_pos h1]; exact ⟨m1, m2⟩
    · have h2' : gw g = 2 := by have := G.w1; have := G.w3; omega
      rw [if_neg h1, if_neg h1, if_neg h1, if_pos h2', if_pos h2', if_pos h2']
      exact ⟨ediv_mono m1 (by omega), ediv_mono m2 (by omega)⟩
def limGF (g : Gv) (l : List Sp) : Int := if groveF g ≠ 0 then groveF g else if (l.length : Int) ≠ gf g then 3 else spF l
def lowsL (g : Gv) (l : List Sp) : List Int := (gt g).map fun t => limLo t l
def highsL (g : Gv) (l : List Sp) : List Int := (gt g).map fun t => limHi t l
def limGV (g : Gv) (l : List Sp) : Int × Int := if limGF g l = 0 then between (gw g) (gs g) (lowsL g l) (highsL g l) else (0, 0)
theorem limG_ok {g : Gv} {l : List Sp} (h : limGF g l = 0) : Good g ∧ (l.length : Int) = gf g ∧ spF l = 0 ∧ ∀ t ∈ gt g, limF t l = 0 := by
  unfold limGF at h
  by_cases c : groveF g = 0
  · rw [if_neg (by simp [c])] at h
    have G := (good_iff g).1 c
    by_cases d : (l.length : Int) = gf g
    · rw [if_neg (by simp [d])] at h
      exact ⟨G, d, h, fun t ht => lim_of h (by rw [d]; exact G.trees t ht)⟩
    · rw [if_pos d] at h; cases h
  · rw [if_pos c] at h; exact absurd h c
theorem lim_grove {g : Gv} {l : List Sp} {r : List Int} (h : limGF g l = 0) (h1 : fitF r l = 0) (h2 : fitV r l = true) : standF g r = 0 ∧ (limGV g l).1 ≤ evalG g r ∧ evalG g r ≤ (limGV g l).2 := by
  obtain ⟨G, d, s, ht⟩ := limG_ok h
  obtain ⟨c1, c2, c3⟩ := fit_parts h1 h2
  have hst : standF g r = 0 := stand_of G c1 (by rw [c2]; exact d)
  refine ⟨hst, ?_⟩
  unfold limGV
  rw [if_pos h]
  refine between_bounds hst (by unfold lowsL; simp) (by unfold highsL; simp) (fun i hi => ?_)
  have e1 : (lowsL g l).getD i 0 = limLo (gt g)[i] l := by rw [getD_at (by unfold lowsL; simpa using hi)]; unfold lowsL; simp
  have e2 : (highsL g l).getD i 0 = limHi (gt g)[i] l := by rw [getD_at (by unfold highsL; simpa using hi)]; unfold highsL; simp
  rw [each_at g r hi, e1, e2, getD_at hi]
  exact (lim_between (ht _ (List.getElem_mem hi)) h1 h2).2

end Go.Proofs.Ythbeoaninipadaf.M

namespace Go.Proofs.Ythbeoaninipadaf.M
set_option linter.unusedVariables false

/-- who is above node n, looked for from the place behind a downwards -/
def upD (t : List Nd) : Nat → Nat → List Nat
  | n, 0 => []
  | n, a + 1 => if nl (nAt t a) = (n : Int) ∨ nr (nAt t a) = (n : Int) then a :: upD t a a else upD t n a
def upW (t : List Nd) (k : Nat) : List Nat := k :: upD t k k
def wayN (t : List Nd) (k : Nat) : List Int := (upW t k).reverse.map Int.ofNat
theorem upD_zero (t : List Nd) (n : Nat) : upD t n 0 = [] := by unfold upD; rfl
theorem upD_yes {t : List Nd} {n a : Nat} (h : nl (nAt t a) = (n : Int) ∨ nr (nAt t a) = (n : Int)) : upD t n (a + 1) = a :: upD t a a := by rw [upD, if_pos h]
theorem upD_no {t : List Nd} {n a : Nat} (h : ¬ (nl (nAt t a) = (n : Int) ∨ nr (nAt t a) = (n : Int))) : upD t n (a + 1) = upD t n a := by rw [upD, if_neg h]
theorem upD_len (t : List Nd) : ∀ (a n : Nat), (upD t n a).length ≤ a := by
  intro a
  induction a using Nat.strongRecOn with
  | _ a ih =>
    intro n
    rcases a with _ | b
    · rw [upD_zero]; exact Nat.le_refl 0
    · by_cases h : nl (nAt t b) = (n : Int) ∨ nr (nAt t b) = (n : Int)
      · rw [upD_yes h, List.length_cons]; have := ih b (by omega) b; omega
      · rw [upD_no h]; have := ih b (by omega) n; omega
theorem upW_len (t : List Nd) (k : Nat) : (upW t k).length ≤ k + 1 := by unfold upW; rw [List.length_cons]; have := upD_len t k k; omega
theorem upD_mem (t : List Nd) : ∀ (a n : Nat), ∀ x ∈ upD t n a, x < a := by
  intro a
  induction a using Nat.strongRecOn with
  | _ a ih =>
    intro n x hx
    rcases a with _ | b
    · rw [upD_zero] at hx; cases hx
    · by_cases h : nl (nAt t b) = (n : Int) ∨ nr (nAt t b) = (n : Int)
      · rw [upD_yes h] at hx
        rcases List.mem_cons.1 hx with rfl | q
        · omega
        · have := ih b (by omega) b x q; omega
      · rw [upD_no h] at hx; have := ih b (by omega) n x hx; omega

theorem leaf_zero {t : List Nd} {m : Int} (h : Right t m) {i : Nat} (hi : i < t.length) (hl : nf (nAt t i) = -1) : nl (nAt t i) = 0 ∧ nr (nAt t i) = 0 := by
  have := h i hi
  unfold nodeF at this
  rw [if_pos hl] at this
  unfold lfF at this
  split at this
  · cases this
  · split at this
    · cases this
    · rename_i h1 h2
      simp at h1 h2
      omega
theorem upD_up {t : List Nd} {m : Int} (F : Fair t m) {k u : Nat} (hk : k < t.length) (hu : u < t.length) (hc : chL (nAt t u) k) : upD t k k = u :: upD t u u := by
  have hlt : u < k := abv_lt F hk ((abv_iff F hk).2 ⟨hu, hc⟩)
  have step : ∀ d, u + 1 + d ≤ k → upD t k (u + 1 + d) = u :: upD t u u := by
    intro d
    induction d with
    | zero => intro _; exact upD_yes hc.2
    | succ d ih =>
      intro hd
      rw [show u + 1 + (d + 1) = (u + 1 + d) + 1 by omega, upD_no, ih (by omega)]
      intro q
      have hv : u + 1 + d < t.length := by omega
      by_cases hl : nf (nAt t (u + 1 + d)) = -1
      · have := leaf_zero F.2.2.2.2.1 hv hl; omega
      · have := up_one (F.2.2.2.2.2 k (by omega) hk) hu hv hc ⟨hl, q⟩
        omega
  have := step (k - (u + 1)) (by omega)
  rwa [show u + 1 + (k - (u + 1)) = k by omega] at this
theorem way_up_from {t : List Nd} {m : Int} (F : Fair t m) (r : List Int) : ∀ (f i : Nat), i < t.length → t.length ≤ f + i → (upD t i i).reverse ++ way t r i = (upW t (toD t r i)).reverse
  | 0, i, hi, hf => by omega
  | f + 1, i, hi, hf => by
    by_cases hl : nf (nAt t i) = -1
    · rw [way_leaf hi hl, to_leaf hi hl]; unfold upW; simp
    · obtain ⟨k, e, h1, h2⟩ := next_in F.2.2.2.2.1 r hi hl
      have hc : chL (nAt t i) k := ⟨hl, by unfold nextI at e; split at e <;> omega⟩
      rw [way_next F.2.2.2.2.1 hi hl e, to_next F.2.2.2.2.1 hi hl e, ← way_up_from F r f k h2 (by omega), upD_up F h2 hi hc]
      simp
theorem way_up {t : List Nd} {m : Int} (F : Fair t m) (r : List Int) : (way t r 0).map Int.ofNat = wayN t (toD t r 0) := by
  unfold wayN
  rw [← way_up_from F r t.length 0 F.2.1 (by omega), upD_zero]
  rfl
theorem path_up {t : List Nd} {r : List Int} (h : readyF t r = 0) : pathV t r = wayN t (leafV t r) := by
  unfold pathV leafV
  rw [if_pos h, if_pos h]
  exact way_up (tree_ok (ready_ok h).2).1 r

/-- one question's narrowing of a list of spans -/
def stp (t : List Nd) (u k : Nat) (l : List Sp) : List Sp := l.set (nf (nAt t u)).toNat (narrow (nAt t u) (decide (nl (nAt t u) = (k : Int))) (l.getD (nf (nAt t u)).toNat (0, 0, false)))
theorem stp_len (t : List Nd) (u k : Nat) (l : List Sp) : (stp t u k l).length = l.length := by unfold stp; simp
theorem if_min (a b : Int) : (if a < b then a else b) = min a b := by split <;> omega
theorem if_max (a b : Int) : (if a < b then b else a) = max a b := by split <;> omega
theorem narrow_swap (n n' : Nd) (b b' : Bool) (s : Sp) : narrow n b (narrow n' b' s) = narrow n' b' (narrow n b s) := by
  obtain ⟨x, y, z⟩ := s
  unfold narrow
  simp only [if_min, if_max]
  cases b <;> cases b' <;> simp only [if_true, Bool.false_eq_true, if_false, Prod.mk.injEq, true_and] <;> (try refine ⟨?_, ?_⟩) <;> first
    | omega
    | (cases z <;> cases ns n <;> cases ns n' <;> rfl)
theorem stp_swap (t : List Nd) (u k v j : Nat) (l : List Sp) : stp t u k (stp t v j l) = stp t v j (stp t u k l) := by
  unfold stp
  generalize (nf (nAt t u)).toNat = p
  generalize (nf (nAt t v)).toNat = q
  by_cases e : p = q
  · subst e
    by_cases hp : p < l.length
    · rw [gd_self hp, gd_self hp, narrow_swap]; simp
    · simp [List.set_eq_of_length_le (Nat.not_lt.1 hp)]
  · rw [gd_ne e, gd_ne (fun h => e h.symm), List.set_comm _ _ (fun h => e h.symm)]
theorem regD_stp (t : List Nd) (v j : Nat) : ∀ (f k : Nat) (l : List Sp), regD t f k (stp t v j l) = stp t v j (regD t f k l)
  | 0, k, l => rfl
  | f + 1, k, l => by
    unfold regD
    cases abv t k with
    | none => rfl
    | some u =>
      show regD t f u (stp t u k (stp t v j l)) = stp t v j (regD t f u (stp t u k l))
      rw [stp_swap, regD_stp t v j f u]
theorem regD_fuel {t : List Nd} {m : Int} (F : Fair t m) : ∀ (f g k : Nat) (l : List Sp), k < t.length → k < f → k < g → regD t f k l = regD t g k l
  | 0, g, k, l, hk, hf, hg => by omega
  | f + 1, 0, k, l, hk, hf, hg => by omega
  | f + 1, g + 1, k, l, hk, hf, hg => by
    unfold regD
    cases e : abv t k with
    | none => rfl
    | some u =>
      have := abv_lt F hk e
      exact regD_fuel F f g u _ (by omega) (by omega) (by omega)
theorem region_root {t : List Nd} {m : Nat} (F : Fair t (m : Int)) : region t m 0 = List.replicate m all0 := by
  unfold region
  obtain ⟨f, e⟩ : ∃ f, t.length = f + 1 := ⟨t.length - 1, by have := F.2.1; omega⟩
  rw [e]
  unfold regD
  rw [abv_root F]
theorem region_next {t : List Nd} {m : Nat} (F : Fair t (m : Int)) {u k : Nat} (hu : u < t.length) (hk : k < t.length) (hc : chL (nAt t u) k) : region t m k = stp t u k (region t m u) := by
  have ha : abv t k = some u := (abv_iff F hk).2 ⟨hu, hc⟩
  have hlt := abv_lt F hk ha
  unfold region
  obtain ⟨f, e⟩ : ∃ f, t.length = f + 1 := ⟨t.length - 1, by omega⟩
  rw [← regD_stp, regD_fuel F t.length f u _ hu hu (by omega)]
  conv => lhs; rw [e]; unfold regD; rw [ha]
  rfl

/-- narrowed, and brought to one form where no number is left -/
theorem norm_narrow (n : Nd) (b : Bool) (s : Sp) : norm (narrow n b (norm s)) = norm (narrow n b s) := by
  obtain ⟨x, y, z⟩ := s
  unfold norm narrow
  simp only [if_min, if_max]
  by_cases h : y < x
  · rw [if_pos h]
    cases b
    · simp only [Bool.false_eq_true, if_false]
      rw [if_pos (by omega), if_pos (by omega)]
    · simp only [if_true]
      rw [if_pos (by omega), if_pos (by omega)]
  · rw [if_neg h]
theorem map_getD_norm (l : List Sp) {i : Nat} (h : i < l.length) : (l.map norm).getD i (0, 0, false) = norm (l.getD i (0, 0, false)) := by
  rw [getD_at (by simpa using h), getD_at h]; simp
theorem region_norm {t : List Nd} {m : Nat} (F : Fair t (m : Int)) {u k : Nat} (hu : u < t.length) (hk : k < t.length) (hc : chL (nAt t u) k) :
    (region t m k).map norm = ((region t m u).map norm).set (nf (nAt t u)).toNat (norm (narrow (nAt t u) (decide (nl (nAt t u) = (k : Int))) (((region t m u).map norm).getD (nf (nAt t u)).toNat (0, 0, false)))) := by
  rw [region_next F hu hk hc]
  unfold stp
  rw [List.map_set]
  by_cases h : (nf (nAt t u)).toNat < (region t m u).length
  · rw [map_getD_norm _ h, norm_narrow]
  · rw [List.set_eq_of_length_le (by simpa using h), List.set_eq_of_length_le (by simpa using h)]
theorem all_norm (m : Nat) : (List.replicate m all0).map norm = List.replicate m all0 := by
  rw [List.map_replicate]; rfl

/-- neighbours on a way: each is above the next -/
theorem upD_pair {t : List Nd} {m : Int} (F : Fair t m) : ∀ (a n : Nat), n < t.length → a ≤ n → ∀ i x y, (n :: upD t n a)[i]? = some y → (n :: upD t n a)[i + 1]? = some x → x < t.length ∧ y < t.length ∧ chL (nAt t x) y := by
  intro a
  induction a using Nat.strongRecOn with
  | _ a ih =>
    intro n hn han i x y h1 h2
    rcases a with _ | b
    · rw [upD_zero] at h2; simp at h2
    · by_cases h : nl (nAt t b) = (n : Int) ∨ nr (nAt t b) = (n : Int)
      · rw [upD_yes h] at h1 h2
        rcases i with _ | i
        · simp at h1 h2
          subst h1; subst h2
          refine ⟨by omega, hn, ?_, h⟩
          intro q
          have := leaf_zero F.2.2.2.2.1 (show b < t.length by omega) q
          omega
        · simp only [List.getElem?_cons_succ] at h1 h2
          exact ih b (by omega) b (by omega) (Nat.le_refl _) i x y h1 (by simpa using h2)
      · rw [upD_no h] at h1 h2
        exact ih b (by omega) n hn (by omega) i x y h1 h2
theorem upD_last {t : List Nd} {m : Int} (F : Fair t m) : ∀ (k : Nat), k < t.length → (upW t k).getLast? = some 0 := by
  intro k
  induction k using Nat.strongRecOn with
  | _ k ih =>
    intro hk
    rcases Nat.eq_zero_or_pos k with rfl | hp
    · unfold upW; rw [upD_zero]; rfl
    · obtain ⟨u, hu⟩ := abv_some F hk hp
      obtain ⟨h1, h2⟩ := (abv_iff F hk).1 hu
      have hl := abv_lt F hk hu
      have := ih u hl h1
      unfold upW at this ⊢
      rw [upD_up F hk h1 h2, List.getLast?_cons_cons]
      exact this
/-- the places of a way, from the root on -/
def upL (t : List Nd) (k : Nat) : List Nat := (upW t k).reverse
theorem upL_len (t : List Nd) (k : Nat) : 0 < (upL t k).length ∧ (upL t k).length ≤ k + 1 := by
  unfold upL
  rw [List.length_reverse]
  exact ⟨by unfold upW; simp, upW_len t k⟩
theorem upL_first {t : List Nd} {m : Int} (F : Fair t m) {k : Nat} (hk : k < t.length) : (upL t k).getD 0 0 = 0 := by
  have h := upD_last F k hk
  unfold upL
  have : (upW t k).reverse.head? = some 0 := by rw [List.head?_reverse]; exact h
  rw [List.getD_eq_getElem?_getD, ← List.head?_eq_getElem?, this]; rfl
theorem upL_end (t : List Nd) (k : Nat) : (upL t k).getD ((upL t k).length - 1) 0 = k := by
  unfold upL upW
  simp
theorem upL_pair {t : List Nd} {m : Int} (F : Fair t m) {k : Nat} (hk : k < t.length) {i : Nat} (hi : i + 1 < (upL t k).length) :
    (upL t k).getD i 0 < t.length ∧ (upL t k).getD (i + 1) 0 < t.length ∧ chL (nAt t ((upL t k).getD i 0)) ((upL t k).getD (i + 1) 0) := by
  have hl : (upL t k).length = (upW t k).length := by unfold upL; simp
  have e1 : (upW t k)[(upW t k).length - 1 - i]? = some ((upL t k).getD i 0) := by
    unfold upL at hi ⊢
    rw [List.length_reverse] at hi
    rw [List.getD_eq_getElem?_getD, List.getElem?_reverse (by omega), List.getElem?_eq_getElem (by omega)]; rfl
  have e2 : (upW t k)[(upW t k).length - 1 - (i + 1)]? = some ((upL t k).getD (i + 1) 0) := by
    unfold upL at hi ⊢
    rw [List.length_reverse] at hi
    rw [List.getD_eq_getElem?_getD, List.getElem?_reverse (by omega), List.getElem?_eq_getElem (by omega)]; rfl
  have := upD_pair F k k hk (Nat.le_refl _) ((upW t k).length - 1 - (i + 1)) _ _ e2 (by rw [← e1]; congr 1; omega)
  exact this
theorem wayN_at (t : List Nd) (k i : Nat) (h : i < (upL t k).length) : (wayN t k).getD i 0 = ((upL t k).getD i 0 : Nat) := by
  unfold wayN
  show ((upL t k).map Int.ofNat).getD i 0 = _
  rw [getD_at (by simpa using h), getD_at h]
  simp
theorem wayN_len (t : List Nd) (k : Nat) : (wayN t k).length = (upL t k).length := by unfold wayN upL; simp
/-- the place behind a way's node is below it -/
theorem upL_mem {t : List Nd} {k : Nat} (hk : k < t.length) {i : Nat} (hi : i < (upL t k).length) : (upL t k).getD i 0 < t.length := by
  have : (upL t k).getD i 0 ∈ upL t k := by rw [getD_at hi]; exact List.getElem_mem hi
  unfold upL upW at this
  rcases List.mem_cons.1 (List.mem_reverse.1 this) with q | q
  · unfold upL upW; rw [q]; exact hk
  · have := upD_mem t k k _ q; unfold upL upW; omega

/-- one word of a reason -/
def wordN (n : Nd) (r : List Int) : List UInt8 := if nf n = -1 then 61 :: Lib.itoa (nv n) else whyW n (r.getD (nf n).toNat 0)
theorem why_join_from {t : List Nd} {m : Int} (h : Right t m) (r : List Int) : ∀ (f i : Nat), i < t.length → t.length ≤ f + i → why t r i = Lib.join ((way t r i).map fun j => wordN (nAt t j) r) [32]
  | 0, i, hi, hf => by omega
  | f + 1, i, hi, hf => by
    by_cases hl : nf (nAt t i) = -1
    · rw [why_leaf hi hl, way_leaf hi hl]
      show _ = Lib.join [wordN (nAt t i) r] [32]
      rw [Lib.join_one]; unfold wordN; rw [if_pos hl]
    · obtain ⟨k, e, h1, h2⟩ := next_in h r hi hl
      rw [why_next h hi hl e, way_next h hi hl e, why_join_from h r f k h2 (by omega)]
      obtain ⟨l, hw⟩ := way_ne h r h2
      rw [hw, List.map_cons, List.map_cons, Lib.join_cons, Lib.join_cons]
      unfold Lib.joinTail
      have : wordN (nAt t i) r = whyW (nAt t i) (r.getD (nf (nAt t i)).toNat 0) := by unfold wordN; rw [if_neg hl]
      rw [this]; simp
theorem why_join {t : List Nd} {r : List Int} (h : readyF t r = 0) : why t r 0 = Lib.join ((upL t (leafV t r)).map fun j => wordN (nAt t j) r) [32] := by
  have F := (tree_ok (ready_ok h).2).1
  rw [why_join_from F.2.2.2.2.1 r t.length 0 F.2.1 (by omega)]
  have := way_up_from F r t.length 0 F.2.1 (by omega)
  rw [upD_zero] at this
  unfold upL leafV
  rw [if_pos h, ← this]
  rfl

end Go.Proofs.Ythbeoaninipadaf.M

namespace Go.Proofs.Ythbeoaninipadaf.M
set_option linter.unusedVariables false

/-! ### rising, each once -/
def unqK (S : List Int) : Nat → List Int
  | 0 => []
  | k + 1 => if k = 0 ∨ S.getD k 0 ≠ S.getD (k - 1) 0 then unqK S k ++ [S.getD k 0] else unqK S k
theorem unq_len (S : List Int) : ∀ k, (unqK S k).length ≤ k
  | 0 => by unfold unqK; simp
  | k + 1 => by
    have := unq_len S k
    unfold unqK
    split
    · simp; omega
    · omega
theorem pw_le {S : List Int} (hs : S.Pairwise (fun a b => a ≤ b)) {i j : Nat} (hij : i ≤ j) (hj : j < S.length) : S.getD i 0 ≤ S.getD j 0 := by
  rw [getD_at hj, getD_at (show i < S.length by omega)]
  by_cases e : i = j
  · subst e; exact Int.le_refl _
  · exact List.pairwise_iff_getElem.1 hs i j (by omega) hj (by omega)
theorem unq_spec {S : List Int} (hs : S.Pairwise (fun a b => a ≤ b)) : ∀ k, k ≤ S.length → (unqK S k).Pairwise (fun a b => a < b) ∧ (∀ x, x ∈ unqK S k ↔ ∃ i, i < k ∧ S.getD i 0 = x)
  | 0, h => by unfold unqK; simp
  | k + 1, h => by
    obtain ⟨i1, i2⟩ := unq_spec hs k (by omega)
    unfold unqK
    by_cases c : k = 0 ∨ S.getD k 0 ≠ S.getD (k - 1) 0
    · rw [if_pos c]
      refine ⟨?_, fun x => ?_⟩
      · rw [List.pairwise_append]
        refine ⟨i1, by simp, fun a ha b hb => ?_⟩
        obtain ⟨i, hi, rfl⟩ := (i2 a).1 ha
        have hb' : b = S.getD k 0 := by simpa using hb
        subst hb'
        have h1 := pw_le hs (show i ≤ k - 1 by omega) (show k - 1 < S.length by omega)
        have h2 := pw_le hs (show k - 1 ≤ k by omega) (show k < S.length by omega)
        rcases c with c | c
        · omega
        · omega
      · rw [List.mem_append, i2]
        constructor
        · rintro (⟨i, hi, e⟩ | q)
          · exact ⟨i, by omega, e⟩
          · exact ⟨k, by omega, (List.mem_singleton.1 q).symm⟩
        · rintro ⟨i, hi, e⟩
          by_cases ik : i = k
          · subst ik; exact .inr (List.mem_singleton.2 e.symm)
          · exact .inl ⟨i, by omega, e⟩
    · rw [if_neg c]
      refine ⟨i1, fun x => ?_⟩
      rw [i2]
      constructor
      · rintro ⟨i, hi, e⟩; exact ⟨i, by omega, e⟩
      · rintro ⟨i, hi, e⟩
        by_cases ik : i = k
        · subst ik
          have c1 : i ≠ 0 := fun q => c (.inl q)
          have c2 : S.getD i 0 = S.getD (i - 1) 0 := Decidable.not_not.1 (fun q => c (.inr q))
          exact ⟨i - 1, by omega, by rw [← c2]; exact e⟩
        · exact ⟨i, by omega, e⟩
theorem rise_same : ∀ {a b : List Int}, a.Pairwise (fun x y => x < y) → b.Pairwise (fun x y => x < y) → (∀ x, x ∈ a ↔ x ∈ b) → a = b
  | [], [], _, _, _ => rfl
  | [], y :: b, _, _, h => absurd ((h y).2 (by simp)) (by simp)
  | x :: a, [], _, _, h => absurd ((h x).1 (by simp)) (by simp)
  | x :: a, y :: b, ha, hb, h => by
    rw [List.pairwise_cons] at ha hb
    have e : x = y := by
      rcases List.mem_cons.1 ((h x).1 (by simp)) with q | q
      · exact q
      · rcases List.mem_cons.1 ((h y).2 (by simp)) with p | p
        · exact p.symm
        · have := hb.1 x q; have := ha.1 y p; omega
    subst e
    rw [rise_same ha.2 hb.2 (fun z => ⟨fun hz => ?_, fun hz => ?_⟩)]
    · rcases List.mem_cons.1 ((h z).1 (List.mem_cons_of_mem _ hz)) with q | q
      · have := ha.1 z hz; omega
      · exact q
    · rcases List.mem_cons.1 ((h z).2 (List.mem_cons_of_mem _ hz)) with q | q
      · have := hb.1 z hz; omega
      · exact q

/-! ### a tree's cuts of a feature -/
def cutL (t : List Nd) (f : Int) : Nat → List Int
  | 0 => []
  | k + 1 => if nf (nAt t k) = f then cutL t f k ++ [nc (nAt t k)] else cutL t f k
theorem cutL_len (t : List Nd) (f : Int) : ∀ k, (cutL t f k).length ≤ k
  | 0 => by unfold cutL; simp
  | k + 1 => by
    have := cutL_len t f k
    unfold cutL
    split
    · simp; omega
    · omega
theorem cutL_mem (t : List Nd) (f : Int) : ∀ k x, x ∈ cutL t f k ↔ ∃ i, i < k ∧ nf (nAt t i) = f ∧ nc (nAt t i) = x
  | 0, x => by unfold cutL; simp
  | k + 1, x => by
    have ih := cutL_mem t f k x
    unfold cutL
    by_cases c : nf (nAt t k) = f
    · rw [if_pos c, List.mem_append, ih]
      constructor
      · rintro (⟨i, hi, e⟩ | q)
        · exact ⟨i, by omega, e⟩
        · exact ⟨k, by omega, c, (List.mem_singleton.1 q).symm⟩
      · rintro ⟨i, hi, e1, e2⟩
        by_cases ik : i = k
        · subst ik; exact .inr (by simp [e2])
        · exact .inl ⟨i, by omega, e1, e2⟩
    · rw [if_neg c, ih]
      constructor
      · rintro ⟨i, hi, e⟩; exact ⟨i, by omega, e⟩
      · rintro ⟨i, hi, e1, e2⟩
        by_cases ik : i = k
        · subst ik; exact absurd e1 c
        · exact ⟨i, by omega, e1, e2⟩
theorem cut_few {t : List Nd} {f : Int} (hf : 0 ≤ f) : ∀ k, (cutL t f k).length + (lvs t k).length ≤ k
  | 0 => by unfold cutL lvs; simp
  | k + 1 => by
    have ih := cut_few (t := t) hf k
    unfold cutL lvs
    by_cases c : leafB (nAt t k) = true
    · have c' : nf (nAt t k) = -1 := of_decide_eq_true c
      rw [if_pos c, if_neg (by omega), List.length_append]
      simp
      omega
    · rw [if_neg c]
      split
      · rw [List.length_append]; simp; omega
      · omega
def cutsS (t : List Nd) (f : Int) : List Int := unqK (sortI (cutL t f t.length)) (cutL t f t.length).length
theorem cutsS_pw (t : List Nd) (f : Int) : (cutsS t f).Pairwise (fun a b => a < b) := by
  unfold cutsS
  exact (unq_spec (sort_pw _) _ (by rw [sort_length]; exact Nat.le_refl _)).1
theorem cutsS_mem (t : List Nd) (f x : Int) : x ∈ cutsS t f ↔ ∃ i, i < t.length ∧ nf (nAt t i) = f ∧ nc (nAt t i) = x := by
  unfold cutsS
  rw [(unq_spec (sort_pw _) _ (by rw [sort_length]; exact Nat.le_refl _)).2, ← cutL_mem]
  constructor
  · rintro ⟨i, hi, e⟩
    rw [getD_at (by rw [sort_length]; exact hi)] at e
    rw [← e]
    exact (sort_perm _).mem_iff.1 (List.getElem_mem _)
  · intro h
    obtain ⟨i, hi, e⟩ := List.getElem_of_mem ((sort_perm (cutL t f t.length)).mem_iff.2 h)
    refine ⟨i, by rw [← sort_length]; exact hi, ?_⟩
    rw [getD_at hi]; exact e
theorem cutsS_ok {t : List Nd} {m f : Int} (F : Fair t m) (hf : 0 ≤ f) : cutsI (cutsS t f) = 0 := by
  rw [cuts_ok]
  have l63 := F.1
  refine ⟨?_, fun x hx => ?_, cutsS_pw t f⟩
  · have h1 := unq_len (sortI (cutL t f t.length)) (cutL t f t.length).length
    have h2 : (cutL t f t.length).length ≤ 60 := by
      have hk := cut_few (t := t) hf t.length
      have := halves F
      omega
    unfold cutsS
    omega
  · obtain ⟨i, hi, e1, e2⟩ := (cutsS_mem t f x).1 hx
    have := (node_ask (F.2.2.2.2.1 i hi) (by omega)).2.2.1
    rw [← e2]; exact this

/-! ### what comes with a cell -/
theorem to_agree {t : List Nd} {m : Int} (h : Right t m) {r s : List Int} (hq : ∀ i, i < t.length → nf (nAt t i) ≠ -1 → lessC (nAt t i) (r.getD (nf (nAt t i)).toNat 0) = lessC (nAt t i) (s.getD (nf (nAt t i)).toNat 0)) : ∀ k i, i < t.length → t.length ≤ k + i → toD t r i = toD t s i
  | 0, i, hi, hk => by omega
  | k + 1, i, hi, hk => by
    by_cases hl : nf (nAt t i) = -1
    · rw [to_leaf hi hl, to_leaf hi hl]
    · obtain ⟨j, ej, j1, j2⟩ := next_in h r hi hl
      have e2 : nextI (nAt t i) s = j := by
        rw [← ej]; unfold nextI; rw [hq i hi hl]
      rw [to_next h hi hl ej, to_next h hi hl e2]
      exact to_agree h hq k j j2 (by omega)
def valS (t : List Nd) (r : List Int) (f : Nat) (c : Int) : Int := nv (nAt t (toD t (r.set f c) 0))
def stepsF (t : List Nd) (r : List Int) (f : Int) : Int := if readyF t r ≠ 0 then readyF t r else if f < 0 ∨ (r.length : Int) ≤ f then 1 else 0
def valsS (t : List Nd) (r : List Int) (f : Nat) : List Int := valS t r f (-2000000) :: (cutsS t (f : Int)).map (valS t r f)
def stepsC (t : List Nd) (r : List Int) (f : Int) : List Int := if stepsF t r f = 0 then cutsS t f else []
def stepsV (t : List Nd) (r : List Int) (f : Int) : List Int := if stepsF t r f = 0 then valsS t r f.toNat else []
theorem steps_ok {t : List Nd} {r : List Int} {f : Int} (h : stepsF t r f = 0) : readyF t r = 0 ∧ 0 ≤ f ∧ f < (r.length : Int) := by
  unfold stepsF at h
  by_cases c : readyF t r = 0
  · rw [if_neg (by simp [c])] at h
    by_cases d : f < 0 ∨ (r.length : Int) ≤ f
    · rw [if_pos d] at h; cases h
    · exact ⟨c, by omega, by omega⟩
  · rw [if_pos c] at h; exact absurd h c
theorem row_set {r : List Int} {f : Nat} {c : Int} (h : rowF r = 0) (hc : outI c = false) : rowF (r.set f c) = 0 := by
  rw [row_ok] at h ⊢
  refine ⟨by rw [List.length_set]; exact h.1, fun x hx => ?_⟩
  rcases List.mem_or_eq_of_mem_set hx with q | q
  · exact h.2 x q
  · rw [q]; exact good_cell hc
/-- numbers between the same cuts come to the same -/
theorem val_same {t : List Nd} {m : Int} (F : Fair t m) {r : List Int} {f : Nat} {x y : Int} (hx : x ≠ nilI) (hy : y ≠ nilI) (h : ∀ q ∈ cutsS t (f : Int), x < q ↔ y < q) : valS t r f x = valS t r f y := by
  unfold valS
  rw [to_agree F.2.2.2.2.1 (r := r.set f x) (s := r.set f y) (fun i hi hl => ?_) t.length 0 F.2.1 (by omega)]
  have g0 := (node_ask (F.2.2.2.2.1 i hi) hl).1
  by_cases e : (nf (nAt t i)).toNat = f
  · have hm : nc (nAt t i) ∈ cutsS t (f : Int) := (cutsS_mem t _ _).2 ⟨i, hi, by omega, rfl⟩
    rw [e]
    by_cases hfl : f < r.length
    · rw [gd_self hfl, gd_self hfl]
      unfold lessC
      rw [if_neg hx, if_neg hy]
      have := h _ hm
      by_cases c : x < nc (nAt t i)
      · rw [decide_eq_true c, decide_eq_true (this.1 c)]
      · rw [decide_eq_false c, decide_eq_false (fun q => c (this.2 q))]
    · rw [List.set_eq_of_length_le (by omega), List.set_eq_of_length_le (by omega)]
  · rw [gd_ne e, gd_ne e]
theorem not_nil {x : Int} (h : -2000000 ≤ x) : x ≠ nilI := fun e => by unfold nilI at e; omega
/-- what comes with a cell is what is told of its bin -/
theorem steps_bin {t : List Nd} {r : List Int} {f : Int} {c : Int} (h : stepsF t r f = 0) (hc : outI c = false) : cutsI (cutsS t f) = 0 ∧ readyF t (r.set f.toNat c) = 0 ∧ (valsS t r f.toNat).length = (cutsS t f).length + 1 ∧ binI (cutsS t f) c < (valsS t r f.toNat).length ∧ (valsS t r f.toNat).getD (binI (cutsS t f) c) 0 = evalV t (r.set f.toNat c) := by
  obtain ⟨hy, f0, f1⟩ := steps_ok h
  obtain ⟨hr, ht⟩ := ready_ok hy
  obtain ⟨F, _⟩ := tree_ok ht
  obtain ⟨fn, rfl⟩ : ∃ fn : Nat, f = (fn : Int) := ⟨f.toNat, by omega⟩
  rw [Int.toNat_natCast]
  have ce := cutsS_ok F f0
  have rs : readyF t (r.set fn c) = 0 := by rw [ready_tree (row_set hr hc), List.length_set]; exact ht
  have vl : (valsS t r fn).length = (cutsS t (fn : Int)).length + 1 := by unfold valsS; simp
  have bl := bin_le (cutsS t (fn : Int)) c
  obtain ⟨c1, c2⟩ := out_false hc
  have pw := cutsS_pw t (fn : Int)
  have ev : evalV t (r.set fn c) = valS t r fn c := by unfold evalV valS; rw [if_pos rs]
  refine ⟨ce, rs, vl, by omega, ?_⟩
  rw [ev]
  rcases hk : binI (cutsS t (fn : Int)) c with _ | k
  · show valS t r fn (-2000000) = _
    refine val_same F (not_nil (by omega)) (not_nil (by omega)) (fun q hq => ?_)
    obtain ⟨i, hi, rfl⟩ := List.getElem_of_mem hq
    have h1 := bin_high _ c pw i hi (by omega)
    have h2 := out_false (((cuts_ok _).1 ce).2.1 _ (List.getElem_mem hi))
    omega
  · have hkl : k < (cutsS t (fn : Int)).length := by omega
    have e : (valsS t r fn).getD (k + 1) 0 = valS t r fn (cutsS t (fn : Int))[k] := by
      unfold valsS
      rw [List.getD_cons_succ, getD_at (by simpa using hkl)]
      simp
    rw [e]
    have h2 := out_false (((cuts_ok _).1 ce).2.1 _ (List.getElem_mem hkl))
    refine val_same F (not_nil (by omega)) (not_nil (by omega)) (fun q hq => ?_)
    obtain ⟨i, hi, rfl⟩ := List.getElem_of_mem hq
    have lk := bin_low _ c pw k hkl (by omega)
    by_cases c3 : i < binI (cutsS t (fn : Int)) c
    · have l1 := bin_low _ c pw i hi c3
      have l2 : (cutsS t (fn : Int))[i] ≤ (cutsS t (fn : Int))[k] := by
        by_cases ik : i = k
        · subst ik; exact Int.le_refl _
        · exact Int.le_of_lt (List.pairwise_iff_getElem.1 pw i k hi hkl (by omega))
      omega
    · have l1 := bin_high _ c pw i hi (by omega)
      have l2 := List.pairwise_iff_getElem.1 pw k i hkl hi (by omega)
      omega

end Go.Proofs.Ythbeoaninipadaf.M

namespace Go.Proofs.Ythbeoaninipadaf.M
set_option linter.unusedVariables false

theorem any_at {l : List Sp} : anyS l = true ↔ ∀ i, i < l.length → hasS (l.getD i (0, 0, false)) = true := by
  unfold anyS
  rw [List.all_eq_true]
  constructor
  · intro h i hi
    rw [getD_at hi]; exact h _ (List.getElem_mem hi)
  · intro h s hs
    obtain ⟨i, hi, rfl⟩ := List.getElem_of_mem hs
    have := h i hi
    rwa [getD_at hi] at this
theorem has_meet_left {a b : Sp} (h : hasS (meetS a b) = true) : hasS a = true := by
  unfold hasS meetS at *
  simp only [Bool.or_eq_true, decide_eq_true_eq, Bool.and_eq_true] at *
  rcases h with h | h
  · left; split at h <;> split at h <;> omega
  · exact .inr h.1
theorem any_left {a b : List Sp} (hl : a.length = b.length) (h : anyS (meet a b) = true) : anyS a = true := by
  rw [any_at] at h ⊢
  intro i hi
  have := h i (by rw [meet_len hl]; exact hi)
  rw [meet_at hl hi] at this
  exact has_meet_left this
theorem nrm_low {s : Sp} (h : s.1 ≤ s.2.1) : norm s = s := by unfold norm; rw [if_neg (by omega)]
theorem nrm_no {s : Sp} (h : s.2.1 < s.1) : (norm s).1 = 1 ∧ (norm s).2.1 = 0 ∧ (norm s).2.2 = s.2.2 := by unfold norm; rw [if_pos (by omega)]; exact ⟨rfl, rfl, rfl⟩
theorem meet_norm (a b : Sp) : hasS (meetS (norm a) b) = hasS (meetS a b) ∧ pickC (meetS (norm a) b) = pickC (meetS a b) := by
  by_cases h : a.1 ≤ a.2.1
  · rw [nrm_low h]; exact ⟨rfl, rfl⟩
  · obtain ⟨n1, n2, n3⟩ := nrm_no (s := a) (by omega)
    have e1 : ¬ (meetS (norm a) b).1 ≤ (meetS (norm a) b).2.1 := by
      unfold meetS; rw [n1, n2]; simp only; split <;> split <;> omega
    have e2 : ¬ (meetS a b).1 ≤ (meetS a b).2.1 := by
      unfold meetS; simp only; split <;> split <;> omega
    unfold hasS pickC
    rw [if_neg e1, if_neg e2, decide_eq_false e1, decide_eq_false e2]
    refine ⟨?_, rfl⟩
    show (false || ((norm a).2.2 && b.2.2)) = (false || (a.2.2 && b.2.2))
    rw [n3]
theorem nrm_len (a : List Sp) : (a.map norm).length = a.length := List.length_map _
theorem nrm_at {a : List Sp} {i : Nat} (hi : i < a.length) : (a.map norm).getD i (0, 0, false) = norm (a.getD i (0, 0, false)) := by
  rw [getD_at (by simpa using hi), getD_at hi]; simp
theorem any_meet_norm {a b : List Sp} (hl : a.length = b.length) : anyS (meet (a.map norm) b) = anyS (meet a b) := by
  have hl' : (a.map norm).length = b.length := by rw [nrm_len]; exact hl
  rw [Bool.eq_iff_iff, any_at, any_at, meet_len hl, meet_len hl', nrm_len]
  constructor
  · intro h i hi
    have := h i hi
    rw [meet_at hl' (by rw [nrm_len]; exact hi), nrm_at hi, (meet_norm _ _).1] at this
    rw [meet_at hl hi]; exact this
  · intro h i hi
    have := h i hi
    rw [meet_at hl hi] at this
    rw [meet_at hl' (by rw [nrm_len]; exact hi), nrm_at hi, (meet_norm _ _).1]; exact this
theorem pick_meet_norm {a b : List Sp} (hl : a.length = b.length) : pick (meet (a.map norm) b) = pick (meet a b) := by
  have hl' : (a.map norm).length = b.length := by rw [nrm_len]; exact hl
  unfold pick
  refine List.ext_getElem (by rw [List.length_map, List.length_map, meet_len hl, meet_len hl', nrm_len]) fun i h1 h2 => ?_
  have hi : i < a.length := by rw [List.length_map, meet_len hl] at h2; exact h2
  have g1 : i < (meet (a.map norm) b).length := by rw [meet_len hl', nrm_len]; exact hi
  have g2 : i < (meet a b).length := by rw [meet_len hl]; exact hi
  rw [List.getElem_map, List.getElem_map, ← getD_at g1, ← getD_at g2, meet_at hl' (by rw [nrm_len]; exact hi), nrm_at hi, (meet_norm _ _).2, meet_at hl hi]
/-- what both have in common is of a right form -/
theorem meet_in {a b : List Sp} (hl : a.length = b.length) (ha : ∀ i, i < a.length → okS (a.getD i (0, 0, false))) (hb : spF b = 0) : ∀ i, i < (meet (a.map norm) b).length → outI ((meet (a.map norm) b).getD i (0, 0, false)).1 = false ∧ outI ((meet (a.map norm) b).getD i (0, 0, false)).2.1 = false := by
  have hl' : (a.map norm).length = b.length := by rw [nrm_len]; exact hl
  intro i hi
  rw [meet_len hl', nrm_len] at hi
  rw [meet_at hl' (by rw [nrm_len]; exact hi), nrm_at hi]
  have h1 := ha i hi
  have h2 := sp1_zero ((sp_zero hb).2 i (by omega))
  have h3 := in_out h2.1
  have h4 := in_out h2.2.1
  unfold okS at h1
  generalize a.getD i (0, 0, false) = s at *
  generalize b.getD i (0, 0, false) = u at *
  have n1 : -1000000 ≤ (norm s).1 ∧ (norm s).1 ≤ 1000000 ∧ -1000000 ≤ (norm s).2.1 ∧ (norm s).2.1 ≤ 1000000 := by
    by_cases h : s.1 ≤ s.2.1
    · rw [nrm_low h]; omega
    · obtain ⟨q1, q2, q3⟩ := nrm_no (s := s) (by omega)
      rw [q1, q2]; omega
  unfold meetS
  simp only
  constructor
  · refine out_in ?_ ?_ <;> split <;> omega
  · refine out_in ?_ ?_ <;> split <;> omega
theorem meet_sp {t : List Nd} {l : List Sp} (F : Fair t (l.length : Int)) {j : Nat} (hj : j < t.length) (hs : spF l = 0) : spF (meet ((region t l.length j).map norm) l) = 0 ↔ anyS (meet (region t l.length j) l) = true := by
  have hl := region_len t l.length j
  have l8 := (sp_zero hs).1
  have ml : (meet ((region t l.length j).map norm) l).length = l.length := by rw [meet_len (by rw [nrm_len]; exact hl), nrm_len, hl]
  have ok := meet_in hl (fun i hi => by rw [getD_at hi]; exact region_ok F hj _ (List.getElem_mem hi)) hs
  rw [← any_meet_norm hl]
  constructor
  · intro h
    rw [any_at]
    exact fun i hi => (sp1_zero ((sp_zero h).2 i hi)).2.2
  · intro h
    refine sp_ok (by omega) fun s hs' => ?_
    obtain ⟨i, hi, rfl⟩ := List.getElem_of_mem hs'
    have o := ok i hi
    have p := any_at.1 h i hi
    rw [getD_at hi] at o p
    unfold sp1F
    rw [if_neg (by rw [o.1, o.2]; decide), if_neg (by rw [p]; decide)]
theorem meet_wit {t : List Nd} {l : List Sp} (F : Fair t (l.length : Int)) {j : Nat} (hj : j < t.length) (hs : spF l = 0) (h : anyS (meet (region t l.length j) l) = true) : witV (meet ((region t l.length j).map norm) l) = pick (meet (region t l.length j) l) := by
  unfold witV
  rw [if_pos ((meet_sp F hj hs).2 h), pick_meet_norm (region_len t l.length j)]

/-! ### leaf by leaf -/
abbrev EndsS := Bool × Int × Int × List Int × List Int
def fed (t : List Nd) (l : List Sp) (s : EndsS) (j : Nat) : EndsS := if anyS (meet (region t l.length j) l) = true then endS s (nv (nAt t j)) (pick (meet (region t l.length j) l)) else s
def fedL (t : List Nd) (l : List Sp) (L : List Int) : EndsS := L.foldl (fun s x => fed t l s x.toNat) ends0
theorem fed_more (t : List Nd) (l : List Sp) (L : List Int) {k : Nat} (hk : k < L.length) : fedL t l (L.take (k + 1)) = fed t l (fedL t l (L.take k)) (L.getD k 0).toNat := by
  unfold fedL
  rw [List.take_succ_eq_append_getElem hk, List.foldl_append, getD_at hk]
  rfl
theorem fed_rch (t : List Nd) (l : List Sp) : ∀ k, fedL t l (rch t l.length k) = endsK t l k
  | 0 => rfl
  | k + 1 => by
    have ih := fed_rch t l k
    unfold rch endsK cnt
    by_cases h1 : leafB (nAt t k) = true
    · by_cases h2 : anyS (region t l.length k) = true
      · rw [if_pos ⟨h1, h2⟩]
        unfold fedL at ih ⊢
        rw [List.foldl_append, ih]
        show fed t l (endsK t l k) ((k : Int)).toNat = _
        rw [Int.toNat_natCast, h1, Bool.true_and]
        rfl
      · rw [if_neg (fun q => h2 q.2), h1, Bool.true_and, if_neg (fun q => h2 (any_left (region_len _ _ _) q))]
        exact ih
    · rw [if_neg (fun q => h1 q.1)]
      have h1' : leafB (nAt t k) = false := by simpa using h1
      rw [h1', Bool.false_and, if_neg (by decide)]
      exact ih
/-- a reached leaf -/
theorem rch_at {t : List Nd} {m : Nat} {k : Nat} (hk : k < (rch t m t.length).length) : ∃ j : Nat, (rch t m t.length).getD k 0 = (j : Int) ∧ j < t.length ∧ leafB (nAt t j) = true := by
  have := (rch_mem t m t.length ((rch t m t.length).getD k 0)).1 (by rw [getD_at hk]; exact List.getElem_mem _)
  obtain ⟨j, e, h1, h2, _⟩ := this
  exact ⟨j, e, h1, h2⟩
theorem reg_at {t : List Nd} {m : Nat} {j : Nat} (ht : (treeF t (m : Int)).2 = 0) (hj : j < t.length) (hl : leafB (nAt t j) = true) : regF t (m : Int) (j : Int) = 0 ∧ regV t (m : Int) (j : Int) = (region t m j).map norm := by
  have e : regF t (m : Int) (j : Int) = 0 := by
    unfold regF isLf
    rw [if_neg (by simp [ht]), decide_eq_true (show (0 : Int) ≤ (j : Int) by omega), decide_eq_true (show (j : Int) < (t.length : Int) by omega), Int.toNat_natCast, hl]
    rfl
  refine ⟨e, ?_⟩
  unfold regV
  rw [if_pos e, Int.toNat_natCast, Int.toNat_natCast]

/-! ### as the program has them: numbers beyond all at first -/
def loS (s : EndsS) : Int := if s.1 = true then s.2.1 else 1000001
def hiS (s : EndsS) : Int := if s.1 = true then s.2.2.1 else -1000001
theorem lo_more {s : EndsS} {v : Int} {p : List Int} (h1 : v ≤ 1000000) : loS (endS s v p) = if v < loS s then v else loS s := by
  unfold loS endS
  simp only [if_true]
  cases s.1
  · simp; omega
  · simp
theorem hi_more {s : EndsS} {v : Int} {p : List Int} (h1 : -1000000 ≤ v) : hiS (endS s v p) = if hiS s < v then v else hiS s := by
  unfold hiS endS
  simp only [if_true]
  cases s.1
  · simp; omega
  · simp
theorem rowA_more {s : EndsS} {v : Int} {p : List Int} (h1 : v ≤ 1000000) : (endS s v p).2.2.2.1 = if v < loS s then p else s.2.2.2.1 := by
  unfold loS endS
  cases s.1
  · simp; intro; omega
  · simp
theorem rowB_more {s : EndsS} {v : Int} {p : List Int} (h1 : -1000000 ≤ v) : (endS s v p).2.2.2.2 = if hiS s < v then p else s.2.2.2.2 := by
  unfold hiS endS
  cases s.1
  · simp; intro; omega
  · simp
theorem leaf_in {t : List Nd} {m : Int} (F : Fair t m) {j : Nat} (hj : j < t.length) (hl : leafB (nAt t j) = true) : -1000000 ≤ nv (nAt t j) ∧ nv (nAt t j) ≤ 1000000 := by
  exact lv_in F _ ((lvK_mem t _ _).2 ⟨j, hj, hl, rfl⟩)

end Go.Proofs.Ythbeoaninipadaf.M
