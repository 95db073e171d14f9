/-
  Nodes that tell a tree from a place on, wherever they lie; who comes to a place; a tree told in fewer questions from the last node to the first; no condition beyond those named.
-/
import Derived.Test.YtjnkkniefpmgdadMathO
namespace Go.Proofs.Ytjnkkniefpmgdad.M
set_option linter.unusedVariables false

/-- from the place on the nodes tell this tree -/
def Den (sh : List Nd) : BT → Nat → Prop
  | .lf v, j => j < sh.length ∧ nAt sh j = (-1, 0, 0, 0, false, v)
  | .nd f c s l r, j => j < sh.length ∧ f ≠ -1 ∧ ∃ a b : Nat, nAt sh j = (f, c, (a : Int), (b : Int), s, 0) ∧ j < a ∧ j < b ∧ Den sh l a ∧ Den sh r b
theorem Den.lt {sh : List Nd} : ∀ {T : BT} {j : Nat}, Den sh T j → j < sh.length
  | .lf _, j, h => h.1
  | .nd _ _ _ _ _, j, h => h.1
/-- nodes ahead of the place do not matter -/
theorem Den.keep {sh sh' : List Nd} (hl : sh'.length = sh.length) : ∀ {T : BT} {j : Nat}, (∀ q, j ≤ q → nAt sh' q = nAt sh q) → Den sh T j → Den sh' T j
  | .lf v, j, h, ⟨h1, h2⟩ => ⟨by omega, by rw [h j (Nat.le_refl _)]; exact h2⟩
  | .nd f c s l r, j, h, ⟨h1, h2, a, b, h3, h4, h5, h6, h7⟩ => ⟨by omega, h2, a, b, by rw [h j (Nat.le_refl _)]; exact h3, h4, h5, Den.keep hl (fun q hq => h q (by omega)) h6, Den.keep hl (fun q hq => h q (by omega)) h7⟩
theorem Den.leaf_iff {sh : List Nd} {T : BT} {j : Nat} (h : Den sh T j) : (nf (nAt sh j) = -1 ↔ ∃ v, T = .lf v) ∧ ∀ v, T = .lf v → nv (nAt sh j) = v := by
  cases T with
  | lf v =>
    obtain ⟨h1, h2⟩ := h
    rw [h2]
    exact ⟨⟨fun _ => ⟨v, rfl⟩, fun _ => rfl⟩, fun u e => by cases e; rfl⟩
  | nd f c s l r =>
    obtain ⟨h1, h2, a, b, h3, _⟩ := h
    rw [h3]
    exact ⟨⟨fun q => absurd q h2, fun ⟨v, e⟩ => by cases e⟩, fun v e => by cases e⟩

theorem leaf_whole' {t : List Nd} {m : Int} (h : Right t m) {i : Nat} (hi : i < t.length) (hf : nf (nAt t i) = -1) : nAt t i = (-1, 0, 0, 0, false, nv (nAt t i)) := by
  have := h i hi
  unfold nodeF at this
  rw [if_pos hf] at this
  unfold lfF at this
  generalize nAt t i = n at *
  by_cases q1 : outI (nv n) = true
  · rw [if_pos q1] at this; cases this
  · rw [if_neg q1] at this
    by_cases q : nc n ≠ 0 ∨ nl n ≠ 0 ∨ nr n ≠ 0 ∨ ns n = true
    · rw [if_pos q] at this; cases this
    · have b0 : nc n = 0 := Decidable.not_not.1 (fun h => q (.inl h))
      have c0 : nl n = 0 := Decidable.not_not.1 (fun h => q (.inr (.inl h)))
      have d0 : nr n = 0 := Decidable.not_not.1 (fun h => q (.inr (.inr (.inl h))))
      have e0 : ns n = false := by
        cases e : ns n with
        | false => rfl
        | true => exact absurd (.inr (.inr (.inr e))) q
      have w : n = (nf n, nc n, nl n, nr n, ns n, nv n) := rfl
      rw [hf, b0, c0, d0, e0] at w
      exact w
/-- a tree that is right tells itself -/
theorem den_bt {t : List Nd} {m : Int} (h : Right t m) : ∀ (k i : Nat), i < t.length → t.length ≤ k + i → Den t (bt t i) i
  | 0, i, hi, hk => by omega
  | k + 1, i, hi, hk => by
    by_cases hf : nf (nAt t i) = -1
    · rw [bt_leaf hi hf]; exact ⟨hi, leaf_whole' h hi hf⟩
    · obtain ⟨a, b, ea, eb, h1, h2, h3, h4, _⟩ := ask_at h hi hf
      have hv : nv (nAt t i) = 0 := (node_ask (h i hi) hf).2.2.2.2.2.2.2.1
      rw [bt_ask h hi hf ea eb]
      refine ⟨hi, hf, a, b, ?_, h1, h3, den_bt h k a h2 (by omega), den_bt h k b h4 (by omega)⟩
      rw [← ea, ← eb, ← hv]
      rfl

/-! ### who comes to a place -/
/-- does a row come to the place? -/
def cmV (t : List Nd) (m i : Nat) : Bool := anyS (region t m i)
/-- .. told of leaves alone -/
def cmL (t : List Nd) (m i : Nat) : Bool := leafB (nAt t i) && cmV t m i
theorem rch_has (t : List Nd) (m : Nat) : ∀ k (x : Int), x ∈ rch t m k ↔ ∃ i : Nat, i < k ∧ x = (i : Int) ∧ cmL t m i = true
  | 0, x => by unfold rch; simp
  | k + 1, x => by
    have ih := rch_has t m k x
    unfold rch
    by_cases c : leafB (nAt t k) = true ∧ anyS (region t m k) = true
    · rw [if_pos c, List.mem_append, ih]
      constructor
      · rintro (⟨i, h1, h2, h3⟩ | h)
        · exact ⟨i, by omega, h2, h3⟩
        · exact ⟨k, by omega, by simpa using h, by unfold cmL cmV; rw [c.1, c.2]; rfl⟩
      · rintro ⟨i, h1, h2, h3⟩
        by_cases e : i = k
        · subst e; exact .inr (by simp [h2])
        · exact .inl ⟨i, by omega, h2, h3⟩
    · rw [if_neg c, ih]
      constructor
      · rintro ⟨i, h1, h2, h3⟩; exact ⟨i, by omega, h2, h3⟩
      · rintro ⟨i, h1, h2, h3⟩
        by_cases e : i = k
        · subst e
          unfold cmL cmV at h3
          rw [Bool.and_eq_true] at h3
          exact absurd h3 c
        · exact ⟨i, by omega, h2, h3⟩
theorem cm_leaf {t : List Nd} {m i : Nat} (hf : nf (nAt t i) = -1) : cmV t m i = cmL t m i := by
  unfold cmL
  have : leafB (nAt t i) = true := decide_eq_true hf
  rw [this, Bool.true_and]
theorem cm_ask {t : List Nd} {m : Nat} (F : Fair t (m : Int)) {i a b : Nat} (hi : i < t.length) (hf : nf (nAt t i) ≠ -1) (ea : nl (nAt t i) = a) (eb : nr (nAt t i) = b) : cmV t m i = (cmV t m a || cmV t m b) := by
  obtain ⟨a', b', ea', eb', h1, h2, h3, h4, _⟩ := ask_at F.2.2.2.2.1 hi hf
  have e1 : a' = a := by omega
  have e2 : b' = b := by omega
  subst e1
  subst e2
  obtain ⟨p1, p2⟩ := pw_sides F hi hf ea eb
  have r0 := reach_iff F hi
  have r1 := reach_iff F h2
  have r2 := reach_iff F h4
  unfold cmV
  rw [Bool.eq_iff_iff, Bool.or_eq_true, r0, r1, r2, ← p1, ← p2]
  constructor
  · rintro ⟨x, hx⟩
    cases e : goes (nf (nAt t i)) (nc (nAt t i)) (ns (nAt t i)) x with
    | true => exact .inl ⟨x, hx, e⟩
    | false => exact .inr ⟨x, hx, e⟩
  · rintro (⟨x, hx, _⟩ | ⟨x, hx, _⟩)
    · exact ⟨x, hx⟩
    · exact ⟨x, hx⟩
theorem cm_root {t : List Nd} {m : Nat} (F : Fair t (m : Int)) : cmV t m 0 = true := by
  refine (reach_iff F F.2.1).2 ?_
  rw [pw_root F]
  exact vld_some (by have := F.2.2.2.1; omega)
/-- the answers while they are worked out: those from k on are whole, the others tell of leaves alone -/
def cmK (t : List Nd) (m k i : Nat) : Bool := if k ≤ i then cmV t m i else cmL t m i
def cmLs (t : List Nd) (m k : Nat) : List Bool := (List.range 63).map fun i : Nat => if i < t.length then cmK t m k i else false
theorem cmLs_len (t : List Nd) (m k : Nat) : (cmLs t m k).length = 63 := by unfold cmLs; simp
theorem cmLs_at {t : List Nd} {m k i : Nat} (h : i < t.length) (hl : t.length ≤ 63) : (cmLs t m k).getD i false = cmK t m k i := by
  unfold cmLs
  simp [List.getD, show i < 63 by omega, h]
theorem cmLs_set {t : List Nd} {m k : Nat} (hk : k < t.length) (hl : t.length ≤ 63) : (cmLs t m (k + 1)).set k (cmV t m k) = cmLs t m k := by
  apply List.ext_getElem?
  intro i
  unfold cmLs
  rw [List.getElem?_set]
  by_cases e : k = i
  · subst e
    simp [show k < 63 by omega, hk, cmK]
  · rw [if_neg e]
    simp only [List.getElem?_map]
    by_cases h63 : i < 63
    · simp only [List.getElem?_range h63, Option.map_some]
      congr 1
      by_cases hi : i < t.length
      · rw [if_pos hi, if_pos hi]
        unfold cmK
        by_cases c : k ≤ i
        · rw [if_pos c, if_pos (by omega)]
        · rw [if_neg c, if_neg (by omega)]
      · rw [if_neg hi, if_neg hi]
    · rw [List.getElem?_eq_none (by simp; omega)]
      simp
theorem cmLs_leaf {t : List Nd} {m k : Nat} (hk : k < t.length) (hf : nf (nAt t k) = -1) : cmLs t m (k + 1) = cmLs t m k := by
  unfold cmLs
  apply List.map_congr_left
  intro i _
  by_cases hi : i < t.length
  · rw [if_pos hi, if_pos hi]
    unfold cmK
    by_cases e : i = k
    · subst e
      rw [if_neg (by omega), if_pos (Nat.le_refl _), cm_leaf hf]
    · by_cases c : k ≤ i
      · rw [if_pos c, if_pos (by omega)]
      · rw [if_neg c, if_neg (by omega)]
  · rw [if_neg hi, if_neg hi]
/-- leaves that are told, one behind the other -/
def cmR (t : List Nd) (l : List Int) : List Bool := (List.range 63).map fun i : Nat => decide ((i : Int) ∈ l)
theorem cmR_len (t : List Nd) (l : List Int) : (cmR t l).length = 63 := by unfold cmR; simp
theorem cmR_nil (t : List Nd) : cmR t [] = List.replicate 63 false := by
  unfold cmR
  rw [show (fun i : Nat => decide ((i : Int) ∈ ([] : List Int))) = fun _ => false by funext i; simp]
  simp [List.map_const']
theorem cmR_more (t : List Nd) (l : List Int) (j : Nat) (hj : j < 63) : (cmR t l).set j true = cmR t (l ++ [(j : Int)]) := by
  apply List.ext_getElem?
  intro i
  unfold cmR
  rw [List.getElem?_set]
  by_cases e : j = i
  · subst e
    simp [hj]
  · rw [if_neg e]
    simp only [List.getElem?_map]
    by_cases h63 : i < 63
    · simp only [List.getElem?_range h63, Option.map_some, List.mem_append, List.mem_singleton]
      congr 1
      have : ¬ ((i : Int) = (j : Int)) := by omega
      simp [this]
    · rw [List.getElem?_eq_none (by simp; omega)]
      simp
theorem cmR_all (t : List Nd) (m : Nat) : cmR t (rch t m t.length) = cmLs t m t.length := by
  unfold cmR cmLs
  apply List.map_congr_left
  intro i _
  by_cases hi : i < t.length
  · rw [if_pos hi]
    unfold cmK
    rw [if_neg (by omega), Bool.eq_iff_iff, decide_eq_true_iff, rch_has]
    constructor
    · rintro ⟨j, h1, h2, h3⟩
      have : i = j := by omega
      subst this
      exact h3
    · intro h; exact ⟨i, hi, rfl, h⟩
  · rw [if_neg hi, decide_eq_false_iff_not, rch_has]
    rintro ⟨j, h1, h2, h3⟩
    omega

/-! ### in fewer questions, from the last node to the first -/
/-- as far as k: the nodes ahead of it are as they were; from it on each place has another one in its stead, which tells what becomes of it -/
structure Shr (t : List Nd) (m k : Nat) (sh : List Nd) (ins : List Int) : Prop where
  len : sh.length = t.length
  ilen : ins.length = 63
  old : ∀ i, i < k → nAt sh i = nAt t i
  leaf : ∀ i, k ≤ i → i < t.length → nf (nAt t i) = -1 → nAt sh i = nAt t i
  new : ∀ i, k ≤ i → i < t.length → ∃ (j : Nat) (T : BT), i ≤ j ∧ ins.getD i 0 = (j : Int) ∧ Den sh T j ∧ (cmV t m i = true → T = prn (Pw t m i) (bt t i))
theorem Shr.start {t : List Nd} {m : Nat} : Shr t m t.length t (List.replicate 63 0) :=
  ⟨rfl, by simp, fun _ _ => rfl, fun i h1 h2 => by omega, fun i h1 h2 => by omega⟩
theorem getD_set_ne {l : List Int} {i j : Nat} {x : Int} (h : i ≠ j) : (l.set i x).getD j 0 = l.getD j 0 := by
  simp only [List.getD]; rw [List.getElem?_set_ne h]
theorem getD_set_at {l : List Int} {i : Nat} {x : Int} (h : i < l.length) : (l.set i x).getD i 0 = x := by
  simp [List.getD, h]
/-- a leaf stays -/
theorem Shr.stay {t : List Nd} {m k : Nat} {sh : List Nd} {ins : List Int} (F : Fair t (m : Int)) (S : Shr t m (k + 1) sh ins) (hk : k < t.length) (hf : nf (nAt t k) = -1) : Shr t m k sh (ins.set k (k : Int)) := by
  have l63 := F.1
  have hR := F.2.2.2.2.1
  have el : k < ins.length := by rw [S.ilen]; omega
  refine ⟨S.len, by rw [List.length_set]; exact S.ilen, fun i hi => S.old i (by omega), fun i h1 h2 h3 => ?_, fun i h1 h2 => ?_⟩
  · by_cases e : i = k
    · subst e; exact S.old i (by omega)
    · exact S.leaf i (by omega) h2 h3
  · by_cases e : i = k
    · subst e
      refine ⟨i, .lf (nv (nAt t i)), Nat.le_refl _, getD_set_at el, ⟨by rw [S.len]; exact h2, ?_⟩, fun _ => ?_⟩
      · rw [S.old i (by omega)]; exact leaf_whole' hR h2 hf
      · rw [bt_leaf h2 hf]; rfl
    · obtain ⟨j, T, g1, g2, g3, g4⟩ := S.new i (by omega) h2
      exact ⟨j, T, g1, by rw [getD_set_ne (by omega)]; exact g2, g3, g4⟩
/-- a node that asks, its sides turned -/
def turned (n : Nd) (a b : Int) : Nd := (nf n, nc n, a, b, ns n, nv n)
/-- which one comes in its place -/
def insV (ca cb : Bool) (sh : List Nd) (k ja jb : Nat) : Nat := if ca = false then jb else if cb = false then ja else if nf (nAt sh ja) = -1 ∧ nf (nAt sh jb) = -1 ∧ nv (nAt sh ja) = nv (nAt sh jb) then ja else k
theorem Shr.sides {t : List Nd} {m k : Nat} {sh : List Nd} {ins : List Int} (F : Fair t (m : Int)) (S : Shr t m (k + 1) sh ins) (hk : k < t.length) {a b : Nat} (hf : nf (nAt t k) ≠ -1) (ea : nl (nAt t k) = a) (eb : nr (nAt t k) = b) :
    k < a ∧ a < t.length ∧ k < b ∧ b < t.length ∧ ∃ ja jb : Nat, ins.getD a 0 = (ja : Int) ∧ ins.getD b 0 = (jb : Int) ∧ k < ja ∧ ja < t.length ∧ k < jb ∧ jb < t.length ∧
      Shr t m k (sh.set k (turned (nAt t k) (ja : Int) (jb : Int))) (ins.set k (insV (cmV t m a) (cmV t m b) (sh.set k (turned (nAt t k) (ja : Int) (jb : Int))) k ja jb : Nat)) := by
  have l63 := F.1
  have hR := F.2.2.2.2.1
  have el : k < ins.length := by rw [S.ilen]; omega
  obtain ⟨a', b', ea', eb', h1, h2, h3, h4, _⟩ := ask_at hR hk hf
  have e1 : a' = a := by omega
  have e2 : b' = b := by omega
  subst e1
  subst e2
  obtain ⟨ja, TA, a1, a2, a3, a4⟩ := S.new a' (by omega) h2
  obtain ⟨jb, TB, b1, b2, b3, b4⟩ := S.new b' (by omega) h4
  have la := a3.lt
  have lb := b3.lt
  rw [S.len] at la lb
  refine ⟨h1, h2, h3, h4, ja, jb, a2, b2, by omega, la, by omega, lb, ?_⟩
  have hv : nv (nAt t k) = 0 := (node_ask (hR k hk) hf).2.2.2.2.2.2.2.1
  obtain ⟨sh', hsh⟩ : ∃ s, s = sh.set k (turned (nAt t k) (ja : Int) (jb : Int)) := ⟨_, rfl⟩
  have sl : sh'.length = sh.length := by rw [hsh, List.length_set]
  have sk : nAt sh' k = turned (nAt t k) (ja : Int) (jb : Int) := by rw [hsh]; exact set_at (by rw [S.len]; exact hk)
  have sn : ∀ q, q ≠ k → nAt sh' q = nAt sh q := fun q hq => by rw [hsh]; exact set_ne hq
  rw [← hsh]
  clear hsh
  have a3' : Den sh' TA ja := a3.keep sl (fun q hq => sn q (by omega))
  have b3' : Den sh' TB jb := b3.keep sl (fun q hq => sn q (by omega))
  obtain ⟨p1, p2⟩ := pw_sides F hk hf ea eb
  have r1 := reach_iff F h2
  have r2 := reach_iff F h4
  have x1 : (∃ x, Pw t m k x ∧ goes (nf (nAt t k)) (nc (nAt t k)) (ns (nAt t k)) x = true) ↔ ∃ x, Pw t m a' x := by
    rw [← p1]
  have x2 : (∃ x, Pw t m k x ∧ goes (nf (nAt t k)) (nc (nAt t k)) (ns (nAt t k)) x = false) ↔ ∃ x, Pw t m b' x := by
    rw [← p2]
  refine ⟨by rw [sl]; exact S.len, by rw [List.length_set]; exact S.ilen, fun i hi => by rw [sn i (by omega)]; exact S.old i (by omega), fun i g1 g2 g3 => ?_, fun i g1 g2 => ?_⟩
  · have e : i ≠ k := fun e => by subst e; exact hf g3
    rw [sn i e]
    exact S.leaf i (by omega) g2 g3
  · by_cases e : i = k
    · subst e
      rw [getD_set_at el]
      have ck := cm_ask F hk hf ea eb
      unfold insV
      cases ca : cmV t m a' with
      | false =>
        rw [if_pos rfl]
        refine ⟨jb, TB, by omega, rfl, b3', fun hc => ?_⟩
        rw [ck, ca, Bool.false_or] at hc
        have n : ¬ ∃ x, Pw t m i x ∧ goes (nf (nAt t i)) (nc (nAt t i)) (ns (nAt t i)) x = true := fun h => by
          have := r1.2 (x1.1 h)
          unfold cmV at ca
          rw [ca] at this; cases this
        rw [b4 hc, bt_ask hR hk hf ea eb, prn_left n, p2]
      | true =>
        rw [if_neg (by decide)]
        have y1 := x1.2 (r1.1 ca)
        cases cb : cmV t m b' with
        | false =>
          rw [if_pos rfl]
          refine ⟨ja, TA, by omega, rfl, a3', fun hc => ?_⟩
          have n : ¬ ∃ x, Pw t m i x ∧ goes (nf (nAt t i)) (nc (nAt t i)) (ns (nAt t i)) x = false := fun h => by
            have := r2.2 (x2.1 h)
            unfold cmV at cb
            rw [cb] at this; cases this
          rw [a4 ca, bt_ask hR hk hf ea eb, prn_right y1 n, p1]
        | true =>
          rw [if_neg (by decide)]
          have y2 := x2.2 (r2.1 cb)
          have la3 := a3'.leaf_iff
          have lb3 := b3'.leaf_iff
          have E : prn (Pw t m i) (bt t i) = joinB (nf (nAt t i)) (nc (nAt t i)) (ns (nAt t i)) TA TB := by
            rw [bt_ask hR hk hf ea eb, prn_both y1 y2, p1, p2, ← a4 ca, ← b4 cb]
          by_cases c : nf (nAt sh' ja) = -1 ∧ nf (nAt sh' jb) = -1 ∧ nv (nAt sh' ja) = nv (nAt sh' jb)
          · rw [if_pos c]
            refine ⟨ja, TA, by omega, rfl, a3', fun _ => ?_⟩
            obtain ⟨c1, c2, c3⟩ := c
            obtain ⟨v, ev⟩ := la3.1.1 c1
            obtain ⟨u, eu⟩ := lb3.1.1 c2
            rw [la3.2 v ev, lb3.2 u eu] at c3
            rw [E, ev, eu, c3]
            show _ = if u = u then BT.lf u else _
            rw [if_pos rfl]
          · rw [if_neg c]
            refine ⟨i, .nd (nf (nAt t i)) (nc (nAt t i)) (ns (nAt t i)) TA TB, Nat.le_refl _, rfl, ⟨by rw [sl, S.len]; exact hk, hf, ja, jb, ?_, by omega, by omega, a3', b3'⟩, fun _ => ?_⟩
            · rw [sk]
              unfold turned
              rw [hv]
            · rw [E, joinB_plain (fun v q => c ⟨la3.1.2 ⟨v, q.1⟩, lb3.1.2 ⟨v, q.2⟩, by rw [la3.2 v q.1, lb3.2 v q.2]⟩)]
    · obtain ⟨j, T, q1, q2, q3, q4⟩ := S.new i (by omega) g2
      exact ⟨j, T, q1, by rw [getD_set_ne (by omega)]; exact q2, q3.keep sl (fun q hq => sn q (by omega)), q4⟩
/-- at the end the root's place tells the tree, pruned -/
theorem Shr.done {t : List Nd} {m : Nat} {sh : List Nd} {ins : List Int} (F : Fair t (m : Int)) (S : Shr t m 0 sh ins) : ∃ j : Nat, ins.getD 0 0 = (j : Int) ∧ j < t.length ∧ Den sh (prn (vld m) (bt t 0)) j := by
  obtain ⟨j, T, q1, q2, q3, q4⟩ := S.new 0 (Nat.le_refl _) F.2.1
  have e := q4 (cm_root F)
  rw [pw_root F] at e
  rw [e] at q3
  exact ⟨j, q2, by have := q3.lt; rw [S.len] at this; exact this, q3⟩

end Go.Proofs.Ytjnkkniefpmgdad.M
