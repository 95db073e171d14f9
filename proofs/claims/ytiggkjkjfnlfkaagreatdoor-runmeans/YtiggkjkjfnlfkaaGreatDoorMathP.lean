/-
  Plain mathematics of ways and regions: the way of a row, what cells may be so that a row comes to a node, and that just those rows come there; a way is no longer than the tree is deep; how many leaves there are; no condition beyond those named.
-/
import Derived.Test.YtiggkjkjfnlfkaaGreatDoorMathQ
import Derived.Test.YtiggkjkjfnlfkaaGreatDoorMathF
namespace Go.Proofs.YtiggkjkjfnlfkaaGreatDoor.M
set_option linter.unusedVariables false

/-- the way from a node on -/
def wayD (t : List Nd) (r : List Int) : Nat → Nat → List Nat
  | 0, i => []
  | f + 1, i => if nf (nAt t i) = -1 then [i] else i :: wayD t r f (nextI (nAt t i) r).toNat
def way (t : List Nd) (r : List Int) (i : Nat) : List Nat := wayD t r t.length i
/-- all nodes are right -/
abbrev Right (t : List Nd) (m : Int) : Prop := ∀ j, j < t.length → nodeF (nAt t j) j t.length m = 0
theorem way_enough {t : List Nd} {m : Int} (h : Right t m) (r : List Int) : ∀ (f g i : Nat), i < t.length → t.length ≤ f + i → t.length ≤ g + i → wayD t r f i = wayD t r g i
  | 0, g, i, hi, hf, hg => by omega
  | f + 1, 0, i, hi, hf, hg => by omega
  | f + 1, g + 1, i, hi, hf, hg => by
    unfold wayD
    by_cases hl : nf (nAt t i) = -1
    · rw [if_pos hl, if_pos hl]
    · rw [if_neg hl, if_neg hl]
      obtain ⟨k, e, h1, h2⟩ := next_in h r hi hl
      rw [e, Int.toNat_natCast, way_enough h r f g k h2 (by omega) (by omega)]
theorem way_leaf {t : List Nd} {r : List Int} {i : Nat} (hi : i < t.length) (hl : nf (nAt t i) = -1) : way t r i = [i] := by
  unfold way
  obtain ⟨f, e⟩ : ∃ f, t.length = f + 1 := ⟨t.length - 1, by omega⟩
  rw [e]; unfold wayD; rw [if_pos hl]
theorem way_next {t : List Nd} {m : Int} (h : Right t m) {r : List Int} {i k : Nat} (hi : i < t.length) (hl : nf (nAt t i) ≠ -1) (e : nextI (nAt t i) r = k) : way t r i = i :: way t r k := by
  obtain ⟨k', e', h1, h2⟩ := next_in h r hi hl
  have : k' = k := by omega
  subst this
  unfold way
  obtain ⟨f, q⟩ : ∃ f, t.length = f + 1 := ⟨t.length - 1, by omega⟩
  rw [show wayD t r t.length i = i :: wayD t r f k' by rw [q]; conv => lhs; unfold wayD; rw [if_neg hl, e, Int.toNat_natCast]]
  rw [way_enough h r f t.length k' h2 (by omega) (by omega)]
theorem way_ne {t : List Nd} {m : Int} (h : Right t m) (r : List Int) {i : Nat} (hi : i < t.length) : ∃ l, way t r i = i :: l := by
  by_cases hl : nf (nAt t i) = -1
  · exact ⟨[], way_leaf hi hl⟩
  · obtain ⟨k, e, h1, h2⟩ := next_in h r hi hl
    exact ⟨_, way_next h hi hl e⟩
theorem way_len {t : List Nd} {m : Int} (h : Right t m) (r : List Int) : ∀ (f i : Nat), i < t.length → t.length ≤ f + i → (way t r i).length ≤ depth t i + 1
  | 0, i, hi, hf => by omega
  | f + 1, i, hi, hf => by
    by_cases hl : nf (nAt t i) = -1
    · rw [way_leaf hi hl]; simp
    · obtain ⟨k, e, h1, h2⟩ := next_in h r hi hl
      obtain ⟨a, b, ea, eb, g1, g2, g3, g4, _⟩ := ask_at h hi hl
      rw [way_next h hi hl e, depth_ask h hi hl ea eb, List.length_cons]
      have ih := way_len h r f k h2 (by omega)
      have : depth t k ≤ max (depth t a) (depth t b) := by
        unfold nextI at e
        split at e
        · have : a = k := by omega
          subst this; omega
        · have : b = k := by omega
          subst this; omega
      omega
theorem way_size {t : List Nd} {m : Int} (h : Right t m) (r : List Int) : ∀ (f i : Nat), i < t.length → t.length ≤ f + i → (way t r i).length + i ≤ t.length
  | 0, i, hi, hf => by omega
  | f + 1, i, hi, hf => by
    by_cases hl : nf (nAt t i) = -1
    · rw [way_leaf hi hl]; simp; omega
    · obtain ⟨k, e, h1, h2⟩ := next_in h r hi hl
      rw [way_next h hi hl e, List.length_cons]
      have ih := way_size h r f k h2 (by omega)
      omega
theorem way_mem {t : List Nd} {m : Int} (h : Right t m) (r : List Int) : ∀ (f i : Nat), i < t.length → t.length ≤ f + i → ∀ j ∈ way t r i, i ≤ j ∧ j < t.length
  | 0, i, hi, hf, j, hj => by omega
  | f + 1, i, hi, hf, j, hj => by
    by_cases hl : nf (nAt t i) = -1
    · rw [way_leaf hi hl] at hj
      have : j = i := by simpa using hj
      omega
    · obtain ⟨k, e, h1, h2⟩ := next_in h r hi hl
      rw [way_next h hi hl e, List.mem_cons] at hj
      rcases hj with hj | hj
      · omega
      · have := way_mem h r f k h2 (by omega) j hj; omega
/-- the leaf stands last -/
theorem way_to {t : List Nd} {m : Int} (h : Right t m) (r : List Int) : ∀ (f i : Nat), i < t.length → t.length ≤ f + i → ∀ j ∈ way t r i, (nf (nAt t j) = -1 ↔ j = toD t r i)
  | 0, i, hi, hf, j, hj => by omega
  | f + 1, i, hi, hf, j, hj => by
    by_cases hl : nf (nAt t i) = -1
    · rw [way_leaf hi hl] at hj
      have : j = i := by simpa using hj
      subst this
      rw [to_leaf hi hl]; simp [hl]
    · obtain ⟨k, e, h1, h2⟩ := next_in h r hi hl
      rw [way_next h hi hl e, List.mem_cons] at hj
      rw [to_next h hi hl e]
      rcases hj with rfl | hj
      · constructor
        · intro q; exact absurd q hl
        · intro q
          have := to_end h r f k h2 (by omega)
          rw [← q] at this
          exact absurd this.2 hl
      · exact way_to h r f k h2 (by omega) j hj
theorem to_mem {t : List Nd} {m : Int} (h : Right t m) (r : List Int) : ∀ (f i : Nat), i < t.length → t.length ≤ f + i → toD t r i ∈ way t r i
  | 0, i, hi, hf => by omega
  | f + 1, i, hi, hf => by
    by_cases hl : nf (nAt t i) = -1
    · rw [way_leaf hi hl, to_leaf hi hl]; simp
    · obtain ⟨k, e, h1, h2⟩ := next_in h r hi hl
      rw [way_next h hi hl e, to_next h hi hl e]
      exact List.mem_cons_of_mem _ (to_mem h r f k h2 (by omega))

/-- the node above a place -/
def abv (t : List Nd) (k : Nat) : Option Nat := firstN (fun i => decide (nf (nAt t i) ≠ -1) && (decide (nl (nAt t i) = (k : Int)) || decide (nr (nAt t i) = (k : Int)))) t.length
theorem abv_iff {t : List Nd} {m : Int} (F : Fair t m) {k u : Nat} (hk : k < t.length) : abv t k = some u ↔ u < t.length ∧ chL (nAt t u) k := by
  unfold abv
  constructor
  · intro h
    obtain ⟨h1, h2⟩ := first_some h
    simp at h2
    exact ⟨h1, h2.1, h2.2⟩
  · rintro ⟨h1, h2, h3⟩
    cases e : firstN (fun i => decide (nf (nAt t i) ≠ -1) && (decide (nl (nAt t i) = (k : Int)) || decide (nr (nAt t i) = (k : Int)))) t.length with
    | none =>
      have := first_none e u h1
      simp [h2] at this
      omega
    | some v =>
      obtain ⟨g1, g2⟩ := first_some e
      simp at g2
      have hp : 0 < k := by
        obtain ⟨a, b, ea, eb, q1, q2, q3, q4, _⟩ := ask_at F.2.2.2.2.1 h1 h2
        omega
      rw [up_one (F.2.2.2.2.2 k hp hk) h1 g1 ⟨h2, h3⟩ ⟨g2.1, g2.2⟩]
theorem abv_root {t : List Nd} {m : Int} (F : Fair t m) : abv t 0 = none := by
  cases e : abv t 0 with
  | none => rfl
  | some u =>
    obtain ⟨h1, h2, h3⟩ := (abv_iff F F.2.1).1 e
    obtain ⟨a, b, ea, eb, q1, q2, q3, q4, _⟩ := ask_at F.2.2.2.2.1 h1 h2
    omega
theorem abv_lt {t : List Nd} {m : Int} (F : Fair t m) {k u : Nat} (hk : k < t.length) (h : abv t k = some u) : u < k := by
  obtain ⟨h1, h2, h3⟩ := (abv_iff F hk).1 h
  obtain ⟨a, b, ea, eb, q1, q2, q3, q4, _⟩ := ask_at F.2.2.2.2.1 h1 h2
  omega
theorem abv_some {t : List Nd} {m : Int} (F : Fair t m) {k : Nat} (hk : k < t.length) (hp : 0 < k) : ∃ u, abv t k = some u := by
  obtain ⟨j, hj, hc⟩ := up_some (F.2.2.2.2.2 k hp hk)
  exact ⟨j, (abv_iff F hk).2 ⟨hj, hc⟩⟩

/-- what a question leaves of a span -/
def narrow (n : Nd) (b : Bool) (s : Sp) : Sp :=
  if b = true then (s.1, if nc n - 1 < s.2.1 then nc n - 1 else s.2.1, s.2.2 && ns n) else (if s.1 < nc n then nc n else s.1, s.2.1, s.2.2 && !ns n)
theorem in_narrow {n : Nd} {b : Bool} {s : Sp} {c : Int} : inS c (narrow n b s) = (inS c s && (lessC n c == b)) := by
  unfold inS narrow lessC
  by_cases hc : c = nilI
  · cases b <;> simp [hc]
  · simp only [if_neg hc]
    cases b with
    | true =>
      simp only [if_true]
      by_cases h1 : nc n - 1 < s.2.1
      · simp only [if_pos h1]
        by_cases h2 : s.1 ≤ c
        · by_cases h3 : c < nc n
          · simp [h2, h3]; omega
          · simp [h2, h3]; omega
        · simp [h2]
      · simp only [if_neg h1]
        by_cases h2 : s.1 ≤ c
        · by_cases h3 : c ≤ s.2.1
          · simp [h2, h3]; omega
          · simp [h2, h3]
        · simp [h2]
    | false =>
      simp only [Bool.false_eq_true, if_false]
      by_cases h1 : s.1 < nc n
      · simp only [if_pos h1]
        by_cases h3 : c ≤ s.2.1
        · by_cases h2 : nc n ≤ c
          · simp [h3, h2]; omega
          · simp [h3, h2]; omega
        · simp [h3]
      · simp only [if_neg h1]
        by_cases h2 : s.1 ≤ c
        · by_cases h3 : c ≤ s.2.1
          · simp [h2, h3]; omega
          · simp [h2, h3]
        · simp [h2]

def all0 : Sp := (-1000000, 1000000, true)
/-- what is left when one goes up from a node -/
def regD (t : List Nd) : Nat → Nat → List Sp → List Sp
  | 0, _, l => l
  | f + 1, k, l => match abv t k with
    | none => l
    | some u => regD t f u (l.set (nf (nAt t u)).toNat (narrow (nAt t u) (decide (nl (nAt t u) = (k : Int))) (l.getD (nf (nAt t u)).toNat (0, 0, false))))
def region (t : List Nd) (m : Nat) (k : Nat) : List Sp := regD t t.length k (List.replicate m all0)
theorem reg_len (t : List Nd) : ∀ (f k : Nat) (l : List Sp), (regD t f k l).length = l.length
  | 0, k, l => rfl
  | f + 1, k, l => by
    unfold regD
    split
    · rfl
    · rw [reg_len t f]; simp
theorem region_len (t : List Nd) (m k : Nat) : (region t m k).length = m := by unfold region; rw [reg_len]; simp

/-- a row is within spans -/
def within (r : List Int) (l : List Sp) : Prop := ∀ j, j < l.length → inS (r.getD j 0) (l.getD j (0, 0, false)) = true
/-- a row goes by all questions above a node -/
def passD (t : List Nd) (r : List Int) : Nat → Nat → Prop
  | 0, _ => True
  | f + 1, k => match abv t k with
    | none => True
    | some u => lessC (nAt t u) (r.getD (nf (nAt t u)).toNat 0) = decide (nl (nAt t u) = (k : Int)) ∧ passD t r f u
theorem gd_self {α : Type} {l : List α} {i : Nat} {x d : α} (h : i < l.length) : (l.set i x).getD i d = x := by rw [List.getD, List.getElem?_set_self h]; rfl
theorem gd_ne {α : Type} {l : List α} {i j : Nat} {x d : α} (h : j ≠ i) : (l.set i x).getD j d = l.getD j d := by rw [List.getD, List.getElem?_set_ne (fun q => h q.symm)]; rfl
theorem within_set {r : List Int} {l : List Sp} {i : Nat} {n : Nd} {b : Bool} (hi : i < l.length) : within r (l.set i (narrow n b (l.getD i (0, 0, false)))) ↔ within r l ∧ lessC n (r.getD i 0) = b := by
  unfold within
  rw [List.length_set]
  constructor
  · intro h
    have hb : inS (r.getD i 0) (l.getD i (0, 0, false)) = true ∧ lessC n (r.getD i 0) = b := by
      have := h i hi
      rw [gd_self hi, in_narrow] at this
      simpa using this
    refine ⟨fun j hj => ?_, hb.2⟩
    by_cases e : j = i
    · subst e; exact hb.1
    · have := h j hj
      rw [gd_ne e] at this
      exact this
  · rintro ⟨h, hb⟩ j hj
    by_cases e : j = i
    · subst e
      rw [gd_self hi, in_narrow, h j hj, hb]; simp
    · rw [gd_ne e]
      exact h j hj
theorem reg_pass {t : List Nd} {m : Nat} (F : Fair t (m : Int)) (r : List Int) : ∀ (f k : Nat) (l : List Sp), k < t.length → l.length = m → (within r (regD t f k l) ↔ within r l ∧ passD t r f k)
  | 0, k, l, hk, hl => by unfold regD passD; simp
  | f + 1, k, l, hk, hl => by
    unfold regD passD
    cases e : abv t k with
    | none => simp
    | some u =>
      simp only
      obtain ⟨h1, h2⟩ := (abv_iff F hk).1 e
      obtain ⟨g0, g1, _⟩ := node_ask (F.2.2.2.2.1 u h1) h2.1
      rw [reg_pass F r f u _ h1 (by rw [List.length_set]; exact hl), within_set (by omega)]
      constructor
      · rintro ⟨⟨a, b⟩, c⟩; exact ⟨a, b, c⟩
      · rintro ⟨a, b, c⟩; exact ⟨⟨a, b⟩, c⟩

/-- who goes by all questions above a node comes to it, and no other -/
theorem pass_way {t : List Nd} {m : Nat} (F : Fair t (m : Int)) (r : List Int) : ∀ (f k : Nat), k < t.length → k < f → (passD t r f k ↔ k ∈ way t r 0)
  | 0, k, hk, hf => by omega
  | f + 1, k, hk, hf => by
    have hR := F.2.2.2.2.1
    by_cases h0 : k = 0
    · subst h0
      obtain ⟨l, e⟩ := way_ne hR r F.2.1
      unfold passD
      rw [abv_root F, e]; simp
    · obtain ⟨u, hu⟩ := abv_some F hk (by omega)
      obtain ⟨h1, h2⟩ := (abv_iff F hk).1 hu
      have hlt := abv_lt F hk hu
      unfold passD
      rw [hu]
      simp only
      rw [pass_way F r f u h1 (by omega)]
      obtain ⟨a, b, ea, eb, q1, q2, q3, q4, hab⟩ := ask_at hR h1 h2.1
      have step : ∀ (g i : Nat), i < t.length → t.length ≤ g + i → i ≤ u → (u ∈ way t r i → (nextI (nAt t u) r = k ↔ k ∈ way t r i)) := by
        intro g
        induction g with
        | zero => intro i hi hg hiu hm; omega
        | succ g ih =>
          intro i hi hg hiu hm
          by_cases hl : nf (nAt t i) = -1
          · rw [way_leaf hi hl] at hm
            have : u = i := by simpa using hm
            subst this
            exact absurd hl h2.1
          · obtain ⟨p, ep, p1, p2⟩ := next_in hR r hi hl
            rw [way_next hR hi hl ep] at hm ⊢
            by_cases hui : u = i
            · subst hui
              constructor
              · intro q
                have : p = k := by omega
                subst this
                obtain ⟨l, el⟩ := way_ne hR r p2
                rw [el]; simp
              · intro q
                rw [List.mem_cons] at q
                rcases q with q | q
                · omega
                · by_cases hpk : p = k
                  · omega
                  · exfalso
                    have hne : ∀ (d j : Nat), j < t.length → t.length ≤ d + j → u < j → k ≠ j → k ∉ way t r j := by
                      intro d
                      induction d with
                      | zero => intro j hj hd _ _ _; omega
                      | succ d ihd =>
                        intro j hj hd huj hkj hmem
                        by_cases hjl : nf (nAt t j) = -1
                        · rw [way_leaf hj hjl] at hmem
                          exact hkj (by simpa using hmem)
                        · obtain ⟨p', ep', p1', p2'⟩ := next_in hR r hj hjl
                          rw [way_next hR hj hjl ep', List.mem_cons] at hmem
                          rcases hmem with hmem | hmem
                          · exact hkj hmem
                          · by_cases hkp : k = p'
                            · have : chL (nAt t j) k := ⟨hjl, by
                                unfold nextI at ep'
                                split at ep'
                                · left; omega
                                · right; omega⟩
                              have := up_one (F.2.2.2.2.2 k (by omega) hk) h1 hj h2 this
                              omega
                            · exact ihd p' p2' (by omega) (by omega) hkp hmem
                    exact hne t.length p p2 (by omega) p1 (fun q => hpk q.symm) q
            · rw [List.mem_cons] at hm
              rcases hm with hm | hm
              · exact absurd hm hui
              · have hpu : p ≤ u := (way_mem hR r t.length p p2 (by omega) u hm).1
                rw [ih p p2 (by omega) hpu hm, List.mem_cons]
                constructor
                · intro q; exact .inr q
                · rintro (q | q)
                  · omega
                  · exact q
      have side : lessC (nAt t u) (r.getD (nf (nAt t u)).toNat 0) = decide (nl (nAt t u) = (k : Int)) ↔ nextI (nAt t u) r = k := by
        unfold nextI
        have := h2.2
        cases lessC (nAt t u) (r.getD (nf (nAt t u)).toNat 0) with
        | true =>
          simp
        | false =>
          simp
          constructor
          · intro q; omega
          · intro q; omega
      constructor
      · rintro ⟨q1, q2⟩
        exact (step t.length 0 F.2.1 (by omega) (by omega) q2).1 (side.1 q1)
      · intro q
        have hu0 : u ∈ way t r 0 := by
          have pre : ∀ (g i : Nat), i < t.length → t.length ≤ g + i → i < k → k ∈ way t r i → u ∈ way t r i := by
            intro g
            induction g with
            | zero => intro i hi hg _ _; omega
            | succ g ih =>
              intro i hi hg hik hm
              by_cases hl : nf (nAt t i) = -1
              · rw [way_leaf hi hl] at hm
                have : k = i := by simpa using hm
                omega
              · obtain ⟨p, ep, p1, p2⟩ := next_in hR r hi hl
                rw [way_next hR hi hl ep, List.mem_cons] at hm
                rw [way_next hR hi hl ep, List.mem_cons]
                rcases hm with hm | hm
                · omega
                · by_cases hpk : p = k
                  · left
                    have : chL (nAt t i) k := ⟨hl, by
                      unfold nextI at ep
                      split at ep
                      · left; omega
                      · right; omega⟩
                    exact up_one (F.2.2.2.2.2 k (by omega) hk) h1 hi h2 this
                  · have := way_mem hR r t.length p p2 (by omega) k hm
                    exact .inr (ih p p2 (by omega) (by omega) hm)
          exact pre t.length 0 F.2.1 (by omega) (by omega) q
        exact ⟨side.2 ((step t.length 0 F.2.1 (by omega) (by omega) hu0).2 q), hu0⟩
theorem region_within {t : List Nd} {m : Nat} (F : Fair t (m : Int)) {r : List Int} (hr : rowF r = 0) (hm : r.length = m) {k : Nat} (hk : k < t.length) : within r (region t m k) ↔ k ∈ way t r 0 := by
  unfold region
  rw [reg_pass F r t.length k _ hk (by simp), pass_way F r t.length k hk hk]
  constructor
  · exact fun h => h.2
  · refine fun h => ⟨fun j hj => ?_, h⟩
    have hj' : j < m := by simpa using hj
    have e : (List.replicate m all0).getD j (0, 0, false) = all0 := by simp [List.getD, hj']
    rw [e]
    have hg := ((row_ok r).1 hr).2 (r.getD j 0) (by rw [List.getD, List.getElem?_eq_getElem (by omega)]; exact List.getElem_mem (by omega))
    rcases bad_false hg with q | ⟨q, q2⟩
    · rw [in_nil q]; rfl
    · rw [in_num q]
      have := out_false q2
      show (decide ((-1000000 : Int) ≤ r.getD j 0) && decide (r.getD j 0 ≤ 1000000)) = true
      rw [decide_eq_true (by omega), decide_eq_true (by omega)]; rfl
theorem region_leaf {t : List Nd} {m : Nat} (F : Fair t (m : Int)) {r : List Int} (hr : rowF r = 0) (hm : r.length = m) {k : Nat} (hk : k < t.length) (hl : nf (nAt t k) = -1) : within r (region t m k) ↔ k = toD t r 0 := by
  rw [region_within F hr hm hk]
  constructor
  · intro h; exact (way_to F.2.2.2.2.1 r t.length 0 F.2.1 (by omega) k h).1 hl
  · intro h; rw [h]; exact to_mem F.2.2.2.2.1 r t.length 0 F.2.1 (by omega)

end Go.Proofs.YtiggkjkjfnlfkaaGreatDoor.M
