/-
  Several texts as one: MathY, MathWd, MathWl, WeiLay, DifPT, Spans.
-/
import Derived.Test.YtlloiccodjnkcagGreatDoorRunC12
import Derived.Test.YtlloiccodjnkcagGreatDoorRunC7
import Derived.Deep.Cut
import Derived.Deep.CutRange
import Derived.RegionTactic
import Derived.Test.YtlloiccodjnkcagGreatDoorRunC3
import Derived.Test.YtlloiccodjnkcagGreatDoorRunC8
import Derived.Test.YtlloiccodjnkcagGreatDoorRunC1
namespace Go.Proofs.YtlloiccodjnkcagGreatDoor.M
set_option linter.unusedVariables false

/-- from the place on the nodes tell this tree -/
def Den (sh : List Nd) : BT → Nat → Prop
  | .lf v, j => j < sh.length ∧ nAt sh j = (-1, 0, 0, 0, false, v)
  | .nd f c s l r, j => j < sh.length ∧ f ≠ -1 ∧ ∃ a b : Nat, nAt sh j = (f, c, (a : Int), (b : Int), s, 0) ∧ j < a ∧ j < b ∧ Den sh l a ∧ Den sh r b
theorem Den.lt {sh : List Nd} : ∀ {T : BT} {j : Nat}, Den sh T j → j < sh.length
  | .lf _, j, h => h.1
  | .nd _ _ _ _ _, j, h => h.1
/-- nodes ahead of the place do not matter -/
theorem Den.keep {sh sh' : List Nd} (hl : sh'.length = sh.length) : ∀ {T : BT} {j : Nat}, (∀ q, j ≤ q → nAt sh' q = nAt sh q) → Den sh T j → Den sh' T j
  | .lf v, j, h, ⟨h1, h2⟩ => ⟨by omega, by rw [h j (Nat.le_refl _)]; exact h2⟩
  | .nd f c s l r, j, h, ⟨h1, h2, a, b, h3, h4, h5, h6, h7⟩ => ⟨by omega, h2, a, b, by rw [h j (Nat.le_refl _)]; exact h3, h4, h5, Den.keep hl (fun q hq => h q (by omega)) h6, Den.keep hl (fun q hq => h q (by omega)) h7⟩
theorem Den.leaf_iff {sh : List Nd} {T : BT} {j : Nat} (h : Den sh T j) : (nf (nAt sh j) = -1 ↔ ∃ v, T = .lf v) ∧ ∀ v, T = .lf v → nv (nAt sh j) = v := by
  cases T with
  | lf v =>
    obtain ⟨h1, h2⟩ := h
    rw [h2]
    exact ⟨⟨fun _ => ⟨v, rfl⟩, fun _ => rfl⟩, fun u e => by cases e; rfl⟩
  | nd f c s l r =>
    obtain ⟨h1, h2, a, b, h3, _⟩ := h
    rw [h3]
    exact ⟨⟨fun q => absurd q h2, fun ⟨v, e⟩ => by cases e⟩, fun v e => by cases e⟩

theorem leaf_whole' {t : List Nd} {m : Int} (h : Right t m) {i : Nat} (hi : i < t.length) (hf : nf (nAt t i) = -1) : nAt t i = (-1, 0, 0, 0, false, nv (nAt t i)) := by
  have := h i hi
  unfold nodeF at this
  rw [if_pos hf] at this
  unfold lfF at this
  generalize nAt t i = n at *
  by_cases q1 : outI (nv n) = true
  · rw [if_pos q1] at this; cases this
  · rw [if_neg q1] at this
    by_cases q : nc n ≠ 0 ∨ nl n ≠ 0 ∨ nr n ≠ 0 ∨ ns n = true
    · rw [if_pos q] at this; cases this
    · have b0 : nc n = 0 := Decidable.not_not.1 (fun h => q (.inl h))
      have c0 : nl n = 0 := Decidable.not_not.1 (fun h => q (.inr (.inl h)))
      have d0 : nr n = 0 := Decidable.not_not.1 (fun h => q (.inr (.inr (.inl h))))
      have e0 : ns n = false := by
        cases e : ns n with
        | false => rfl
        | true => exact absurd (.inr (.inr (.inr e))) q
      have w : n = (nf n, nc n, nl n, nr n, ns n, nv n) := rfl
      rw [hf, b0, c0, d0, e0] at w
      exact w
/-- a tree that is right tells itself -/
theorem den_bt {t : List Nd} {m : Int} (h : Right t m) : ∀ (k i : Nat), i < t.length → t.length ≤ k + i → Den t (bt t i) i
  | 0, i, hi, hk => by omega
  | k + 1, i, hi, hk => by
    by_cases hf : nf (nAt t i) = -1
    · rw [bt_leaf hi hf]; exact ⟨hi, leaf_whole' h hi hf⟩
    · obtain ⟨a, b, ea, eb, h1, h2, h3, h4, _⟩ := ask_at h hi hf
      have hv : nv (nAt t i) = 0 := (node_ask (h i hi) hf).2.2.2.2.2.2.2.1
      rw [bt_ask h hi hf ea eb]
      refine ⟨hi, hf, a, b, ?_, h1, h3, den_bt h k a h2 (by omega), den_bt h k b h4 (by omega)⟩
      rw [← ea, ← eb, ← hv]
      rfl

/-! ### who comes to a place -/
/-- does a row come to the place? -/
def cmV (t : List Nd) (m i : Nat) : Bool := anyS (region t m i)
/-- .. told of leaves alone -/
def cmL (t : List Nd) (m i : Nat) : Bool := leafB (nAt t i) && cmV t m i
theorem rch_has (t : List Nd) (m : Nat) : ∀ k (x : Int), x ∈ rch t m k ↔ ∃ i : Nat, i < k ∧ x = (i : Int) ∧ cmL t m i = true
  | 0, x => by unfold rch; simp
  | k + 1, x => by
    have ih := rch_has t m k x
    unfold rch
    by_cases c : leafB (nAt t k) = true ∧ anyS (region t m k) = true
    · rw [if_pos c, List.mem_append, ih]
      constructor
      · rintro (⟨i, h1, h2, h3⟩ | h)
        · exact ⟨i, by omega, h2, h3⟩
        · exact ⟨k, by omega, by simpa using h, by unfold cmL cmV; rw [c.1, c.2]; rfl⟩
      · rintro ⟨i, h1, h2, h3⟩
        by_cases e : i = k
        · subst e; exact .inr (by simp [h2])
        · exact .inl ⟨i, by omega, h2, h3⟩
    · rw [if_neg c, ih]
      constructor
      · rintro ⟨i, h1, h2, h3⟩; exact ⟨i, by omega, h2, h3⟩
      · rintro ⟨i, h1, h2, h3⟩
        by_cases e : i = k
        · subst e
          unfold cmL cmV at h3
          rw [Bool.and_eq_true] at h3
          exact absurd h3 c
        · exact ⟨i, by omega, h2, h3⟩
theorem cm_leaf {t : List Nd} {m i : Nat} (hf : nf (nAt t i) = -1) : cmV t m i = cmL t m i := by
  unfold cmL
  have : leafB (nAt t i) = true := decide_eq_true hf
  rw [this, Bool.true_and]
theorem cm_ask {t : List Nd} {m : Nat} (F : Fair t (m : Int)) {i a b : Nat} (hi : i < t.length) (hf : nf (nAt t i) ≠ -1) (ea : nl (nAt t i) = a) (eb : nr (nAt t i) = b) : cmV t m i = (cmV t m a || cmV t m b) := by
  obtain ⟨a', b', ea', eb', h1, h2, h3, h4, _⟩ := ask_at F.2.2.2.2.1 hi hf
  have e1 : a' = a := by omega
  have e2 : b' = b := by omega
  subst e1
  subst e2
  obtain ⟨p1, p2⟩ := pw_sides F hi hf ea eb
  have r0 := reach_iff F hi
  have r1 := reach_iff F h2
  have r2 := reach_iff F h4
  unfold cmV
  rw [Bool.eq_iff_iff, Bool.or_eq_true, r0, r1, r2, ← p1, ← p2]
  constructor
  · rintro ⟨x, hx⟩
    cases e : goes (nf (nAt t i)) (nc (nAt t i)) (ns (nAt t i)) x with
    | true => exact .inl ⟨x, hx, e⟩
    | false => exact .inr ⟨x, hx, e⟩
  · rintro (⟨x, hx, _⟩ | ⟨x, hx, _⟩)
    · exact ⟨x, hx⟩
    · exact ⟨x, hx⟩
theorem cm_root {t : List Nd} {m : Nat} (F : Fair t (m : Int)) : cmV t m 0 = true := by
  refine (reach_iff F F.2.1).2 ?_
  rw [pw_root F]
  exact vld_some (by have := F.2.2.2.1; omega)
/-- the answers while they are worked out: those from k on are whole, the others tell of leaves alone -/
def cmK (t : List Nd) (m k i : Nat) : Bool := if k ≤ i then cmV t m i else cmL t m i
def cmLs (t : List Nd) (m k : Nat) : List Bool := (List.range 63).map fun i : Nat => if i < t.length then cmK t m k i else false
theorem cmLs_len (t : List Nd) (m k : Nat) : (cmLs t m k).length = 63 := by unfold cmLs; simp
theorem cmLs_at {t : List Nd} {m k i : Nat} (h : i < t.length) (hl : t.length ≤ 63) : (cmLs t m k).getD i false = cmK t m k i := by
  unfold cmLs
  simp [List.getD, show i < 63 by omega, h]
theorem cmLs_set {t : List Nd} {m k : Nat} (hk : k < t.length) (hl : t.length ≤ 63) : (cmLs t m (k + 1)).set k (cmV t m k) = cmLs t m k := by
  apply List.ext_getElem?
  intro i
  unfold cmLs
  rw [List.getElem?_set]
  by_cases e : k = i
  · subst e
    simp [show k < 63 by omega, hk, cmK]
  · rw [if_neg e]
    simp only [List.getElem?_map]
    by_cases h63 : i < 63
    · simp only [List.getElem?_range h63, Option.map_some]
      congr 1
      by_cases hi : i < t.length
      · rw [if_pos hi, if_pos hi]
        unfold cmK
        by_cases c : k ≤ i
        · rw [if_pos c, if_pos (by omega)]
        · rw [if_neg c, if_neg (by omega)]
      · rw [if_neg hi, if_neg hi]
    · rw [List.getElem?_eq_none (by simp; omega)]
      simp
theorem cmLs_leaf {t : List Nd} {m k : Nat} (hk : k < t.length) (hf : nf (nAt t k) = -1) : cmLs t m (k + 1) = cmLs t m k := by
  unfold cmLs
  apply List.map_congr_left
  intro i _
  by_cases hi : i < t.length
  · rw [if_pos hi, if_pos hi]
    unfold cmK
    by_cases e : i = k
    · subst e
      rw [if_neg (by omega), if_pos (Nat.le_refl _), cm_leaf hf]
    · by_cases c : k ≤ i
      · rw [if_pos c, if_pos (by omega)]
      · rw [if_neg c, if_neg (by omega)]
  · rw [if_neg hi, if_neg hi]
/-- leaves that are told, one behind the other -/
def cmR (t : List Nd) (l : List Int) : List Bool := (List.range 63).map fun i : Nat => decide ((i : Int) ∈ l)
theorem cmR_len (t : List Nd) (l : List Int) : (cmR t l).length = 63 := by unfold cmR; simp
theorem cmR_nil (t : List Nd) : cmR t [] = List.replicate 63 false := by
  unfold cmR
  rw [show (fun i : Nat => decide ((i : Int) ∈ ([] : List Int))) = fun _ => false by funext i; simp]
  simp [List.map_const']
theorem cmR_more (t : List Nd) (l : List Int) (j : Nat) (hj : j < 63) : (cmR t l).set j true = cmR t (l ++ [(j : Int)]) := by
  apply List.ext_getElem?
  intro i
  unfold cmR
  rw [List.getElem?_set]
  by_cases e : j = i
  · subst e
    simp [hj]
  · rw [if_neg e]
    simp only [List.getElem?_map]
    by_cases h63 : i < 63
    · simp only [List.getElem?_range h63, Option.map_some, List.mem_append, List.mem_singleton]
      congr 1
      have : ¬ ((i : Int) = (j : Int)) := by omega
      simp [this]
    · rw [List.getElem?_eq_none (by simp; omega)]
      simp
theorem cmR_all (t : List Nd) (m : Nat) : cmR t (rch t m t.length) = cmLs t m t.length := by
  unfold cmR cmLs
  apply List.map_congr_left
  intro i _
  by_cases hi : i < t.length
  · rw [if_pos hi]
    unfold cmK
    rw [if_neg (by omega), Bool.eq_iff_iff, decide_eq_true_iff, rch_has]
    constructor
    · rintro ⟨j, h1, h2, h3⟩
      have : i = j := by omega
      subst this
      exact h3
    · intro h; exact ⟨i, hi, rfl, h⟩
  · rw [if_neg hi, decide_eq_false_iff_not, rch_has]
    rintro ⟨j, h1, h2, h3⟩
    omega

/-! ### in fewer questions, from the last node to the first -/
/-- as far as k: the nodes ahead of it are as they were; from it on each place has another one in its stead, which tells what becomes of it -/
structure Shr (t : List Nd) (m k : Nat) (sh : List Nd) (ins : List Int) : Prop where
  len : sh.length = t.length
  ilen : ins.length = 63
  old : ∀ i, i < k → nAt sh i = nAt t i
  leaf : ∀ i, k ≤ i → i < t.length → nf (nAt t i) = -1 → nAt sh i = nAt t i
  new : ∀ i, k ≤ i → i < t.length → ∃ (j : Nat) (T : BT), i ≤ j ∧ ins.getD i 0 = (j : Int) ∧ Den sh T j ∧ (cmV t m i = true → T = prn (Pw t m i) (bt t i))
theorem Shr.start {t : List Nd} {m : Nat} : Shr t m t.length t (List.replicate 63 0) :=
  ⟨rfl, by simp, fun _ _ => rfl, fun i h1 h2 => by omega, fun i h1 h2 => by omega⟩
theorem getD_set_ne {l : List Int} {i j : Nat} {x : Int} (h : i ≠ j) : (l.set i x).getD j 0 = l.getD j 0 := by
  simp only [List.getD]; rw [List.getElem?_set_ne h]
theorem getD_set_at {l : List Int} {i : Nat} {x : Int} (h : i < l.length) : (l.set i x).getD i 0 = x := by
  simp [List.getD, h]
/-- a leaf stays -/
theorem Shr.stay {t : List Nd} {m k : Nat} {sh : List Nd} {ins : List Int} (F : Fair t (m : Int)) (S : Shr t m (k + 1) sh ins) (hk : k < t.length) (hf : nf (nAt t k) = -1) : Shr t m k sh (ins.set k (k : Int)) := by
  have l63 := F.1
  have hR := F.2.2.2.2.1
  have el : k < ins.length := by rw [S.ilen]; omega
  refine ⟨S.len, by rw [List.length_set]; exact S.ilen, fun i hi => S.old i (by omega), fun i h1 h2 h3 => ?_, fun i h1 h2 => ?_⟩
  · by_cases e : i = k
    · subst e; exact S.old i (by omega)
    · exact S.leaf i (by omega) h2 h3
  · by_cases e : i = k
    · subst e
      refine ⟨i, .lf (nv (nAt t i)), Nat.le_refl _, getD_set_at el, ⟨by rw [S.len]; exact h2, ?_⟩, fun _ => ?_⟩
      · rw [S.old i (by omega)]; exact leaf_whole' hR h2 hf
      · rw [bt_leaf h2 hf]; rfl
    · obtain ⟨j, T, g1, g2, g3, g4⟩ := S.new i (by omega) h2
      exact ⟨j, T, g1, by rw [getD_set_ne (by omega)]; exact g2, g3, g4⟩
/-- a node that asks, its sides turned -/
def turned (n : Nd) (a b : Int) : Nd := (nf n, nc n, a, b, ns n, nv n)
/-- which one comes in its place -/
def insV (ca cb : Bool) (sh : List Nd) (k ja jb : Nat) : Nat := if ca = false then jb else if cb = false then ja else if nf (nAt sh ja) = -1 ∧ nf (nAt sh jb) = -1 ∧ nv (nAt sh ja) = nv (nAt sh jb) then ja else k
theorem Shr.sides {t : List Nd} {m k : Nat} {sh : List Nd} {ins : List Int} (F : Fair t (m : Int)) (S : Shr t m (k + 1) sh ins) (hk : k < t.length) {a b : Nat} (hf : nf (nAt t k) ≠ -1) (ea : nl (nAt t k) = a) (eb : nr (nAt t k) = b) :
    k < a ∧ a < t.length ∧ k < b ∧ b < t.length ∧ ∃ ja jb : Nat, ins.getD a 0 = (ja : Int) ∧ ins.getD b 0 = (jb : Int) ∧ k < ja ∧ ja < t.length ∧ k < jb ∧ jb < t.length ∧
      Shr t m k (sh.set k (turned (nAt t k) (ja : Int) (jb : Int))) (ins.set k (insV (cmV t m a) (cmV t m b) (sh.set k (turned (nAt t k) (ja : Int) (jb : Int))) k ja jb : Nat)) := by
  have l63 := F.1
  have hR := F.2.2.2.2.1
  have el : k < ins.length := by rw [S.ilen]; omega
  obtain ⟨a', b', ea', eb', h1, h2, h3, h4, _⟩ := ask_at hR hk hf
  have e1 : a' = a := by omega
  have e2 : b' = b := by omega
  subst e1
  subst e2
  obtain ⟨ja, TA, a1, a2, a3, a4⟩ := S.new a' (by omega) h2
  obtain ⟨jb, TB, b1, b2, b3, b4⟩ := S.new b' (by omega) h4
  have la := a3.lt
  have lb := b3.lt
  rw [S.len] at la lb
  refine ⟨h1, h2, h3, h4, ja, jb, a2, b2, by omega, la, by omega, lb, ?_⟩
  have hv : nv (nAt t k) = 0 := (node_ask (hR k hk) hf).2.2.2.2.2.2.2.1
  obtain ⟨sh', hsh⟩ : ∃ s, s = sh.set k (turned (nAt t k) (ja : Int) (jb : Int)) := ⟨_, rfl⟩
  have sl : sh'.length = sh.length := by rw [hsh, List.length_set]
  have sk : nAt sh' k = turned (nAt t k) (ja : Int) (jb : Int) := by rw [hsh]; exact set_at (by rw [S.len]; exact hk)
  have sn : ∀ q, q ≠ k → nAt sh' q = nAt sh q := fun q hq => by rw [hsh]; exact set_ne hq
  rw [← hsh]
  clear hsh
  have a3' : Den sh' TA ja := a3.keep sl (fun q hq => sn q (by omega))
  have b3' : Den sh' TB jb := b3.keep sl (fun q hq => sn q (by omega))
  obtain ⟨p1, p2⟩ := pw_sides F hk hf ea eb
  have r1 := reach_iff F h2
  have r2 := reach_iff F h4
  have x1 : (∃ x, Pw t m k x ∧ goes (nf (nAt t k)) (nc (nAt t k)) (ns (nAt t k)) x = true) ↔ ∃ x, Pw t m a' x := by
    rw [← p1]
  have x2 : (∃ x, Pw t m k x ∧ goes (nf (nAt t k)) (nc (nAt t k)) (ns (nAt t k)) x = false) ↔ ∃ x, Pw t m b' x := by
    rw [← p2]
  refine ⟨by rw [sl]; exact S.len, by rw [List.length_set]; exact S.ilen, fun i hi => by rw [sn i (by omega)]; exact S.old i (by omega), fun i g1 g2 g3 => ?_, fun i g1 g2 => ?_⟩
  · have e : i ≠ k := fun e => by subst e; exact hf g3
    rw [sn i e]
    exact S.leaf i (by omega) g2 g3
  · by_cases e : i = k
    · subst e
      rw [getD_set_at el]
      have ck := cm_ask F hk hf ea eb
      unfold insV
      cases ca : cmV t m a' with
      | false =>
        rw [if_pos rfl]
        refine ⟨jb, TB, by omega, rfl, b3', fun hc => ?_⟩
        rw [ck, ca, Bool.false_or] at hc
        have n : ¬ ∃ x, Pw t m i x ∧ goes (nf (nAt t i)) (nc (nAt t i)) (ns (nAt t i)) x = true := fun h => by
          have := r1.2 (x1.1 h)
          unfold cmV at ca
          rw [ca] at this; cases this
        rw [b4 hc, bt_ask hR hk hf ea eb, prn_left n, p2]
      | true =>
        rw [if_neg (by decide)]
        have y1 := x1.2 (r1.1 ca)
        cases cb : cmV t m b' with
        | false =>
          rw [if_pos rfl]
          refine ⟨ja, TA, by omega, rfl, a3', fun hc => ?_⟩
          have n : ¬ ∃ x, Pw t m i x ∧ goes (nf (nAt t i)) (nc (nAt t i)) (ns (nAt t i)) x = false := fun h => by
            have := r2.2 (x2.1 h)
            unfold cmV at cb
            rw [cb] at this; cases this
          rw [a4 ca, bt_ask hR hk hf ea eb, prn_right y1 n, p1]
        | true =>
          rw [if_neg (by decide)]
          have y2 := x2.2 (r2.1 cb)
          have la3 := a3'.leaf_iff
          have lb3 := b3'.leaf_iff
          have E : prn (Pw t m i) (bt t i) = joinB (nf (nAt t i)) (nc (nAt t i)) (ns (nAt t i)) TA TB := by
            rw [bt_ask hR hk hf ea eb, prn_both y1 y2, p1, p2, ← a4 ca, ← b4 cb]
          by_cases c : nf (nAt sh' ja) = -1 ∧ nf (nAt sh' jb) = -1 ∧ nv (nAt sh' ja) = nv (nAt sh' jb)
          · rw [if_pos c]
            refine ⟨ja, TA, by omega, rfl, a3', fun _ => ?_⟩
            obtain ⟨c1, c2, c3⟩ := c
            obtain ⟨v, ev⟩ := la3.1.1 c1
            obtain ⟨u, eu⟩ := lb3.1.1 c2
            rw [la3.2 v ev, lb3.2 u eu] at c3
            rw [E, ev, eu, c3]
            show _ = if u = u then BT.lf u else _
            rw [if_pos rfl]
          · rw [if_neg c]
            refine ⟨i, .nd (nf (nAt t i)) (nc (nAt t i)) (ns (nAt t i)) TA TB, Nat.le_refl _, rfl, ⟨by rw [sl, S.len]; exact hk, hf, ja, jb, ?_, by omega, by omega, a3', b3'⟩, fun _ => ?_⟩
            · rw [sk]
              unfold turned
              rw [hv]
            · rw [E, joinB_plain (fun v q => c ⟨la3.1.2 ⟨v, q.1⟩, lb3.1.2 ⟨v, q.2⟩, by rw [la3.2 v q.1, lb3.2 v q.2]⟩)]
    · obtain ⟨j, T, q1, q2, q3, q4⟩ := S.new i (by omega) g2
      exact ⟨j, T, q1, by rw [getD_set_ne (by omega)]; exact q2, q3.keep sl (fun q hq => sn q (by omega)), q4⟩
/-- at the end the root's place tells the tree, pruned -/
theorem Shr.done {t : List Nd} {m : Nat} {sh : List Nd} {ins : List Int} (F : Fair t (m : Int)) (S : Shr t m 0 sh ins) : ∃ j : Nat, ins.getD 0 0 = (j : Int) ∧ j < t.length ∧ Den sh (prn (vld m) (bt t 0)) j := by
  obtain ⟨j, T, q1, q2, q3, q4⟩ := S.new 0 (Nat.le_refl _) F.2.1
  have e := q4 (cm_root F)
  rw [pw_root F] at e
  rw [e] at q3
  exact ⟨j, q2, by have := q3.lt; rw [S.len] at this; exact this, q3⟩

end Go.Proofs.YtlloiccodjnkcagGreatDoor.M

namespace Go.Proofs.YtlloiccodjnkcagGreatDoor.M
set_option linter.unusedVariables false

/-- a tree that became of another one, without a feature at a place -/
structure Gone (m : Nat) (f : Int) (T : BT) (i : Nat) (T' : BT) : Prop where
  ok : okB (m : Int) T'
  size : T'.size < T.size
  deep : T'.deep ≤ T.deep
  same : wo f T' = wo f T
  pre : (pre T').take i = (pre T).take i
theorem sub_ask {T : BT} {i : Nat} (hi : i < T.size) (h : nf (nAt (lay T 0) i) ≠ -1) : ∃ c s l r, sub T i = .nd (nf (nAt (lay T 0) i)) c s l r ∧ nAt (lay T 0) i = (nf (nAt (lay T 0) i), c, ((i + 1 : Nat) : Int), ((i + 1 + l.size : Nat) : Int), s, 0) ∧ Sits (lay T 0) (i + 1) l ∧ Sits (lay T 0) (i + 1 + l.size) r := by
  have S := (sits_lay T).under hi
  rw [Nat.zero_add] at S
  cases hs : sub T i with
  | lf v =>
    rw [hs] at S
    have e := S.leaf
    rw [e] at h
    exact absurd rfl h
  | nd f c s l r =>
    rw [hs] at S
    obtain ⟨e, s1, s2⟩ := S.sides
    have ef : nf (nAt (lay T 0) i) = f := by rw [e]; rfl
    exact ⟨c, s, l, r, by rw [ef], by rw [ef]; exact e, s1, s2⟩
/-- to which side it gives way -/
def sideN (n : Nd) : Int := if ns n = true then nl n else nr n
theorem gone {m : Nat} {T : BT} (ok : okB (m : Int) T) (h8 : m ≤ 8) (hz : T.size ≤ 63) {i : Nat} (hi : i < T.size) (h : nf (nAt (lay T 0) i) ≠ -1) :
    ∃ tw : Nat, sideN (nAt (lay T 0) i) = (tw : Int) ∧ tw < (lay T 0).length ∧ chL (nAt (lay T 0) i) (tw : Nat) ∧
      (i = 0 → Gone m (nf (nAt (lay T 0) i)) T i (bt (lay T 0) tw)) ∧
      ∀ up, Below2 (lay T 0) m up i tw → Gone m (nf (nAt (lay T 0) i)) T i (bt ((lay T 0).set up (turnN (nAt (lay T 0) up) i tw)) 0) := by
  have F : Fair (lay T 0) (m : Int) := lay_fair ok (by omega) (by omega) hz
  have hR := F.2.2.2.2.1
  obtain ⟨c, s, l, r, es, en, s1, s2⟩ := sub_ask hi h
  have lp := BT.size_pos l
  have rp := BT.size_pos r
  have so := sub_ok T i hi ok
  rw [es] at so
  have ll := lay_len T 0
  -- the side
  obtain ⟨tw, V, eto, tolt, tch, hV, vsz, vdp, vok, vwo⟩ : ∃ (tw : Nat) (V : BT), sideN (nAt (lay T 0) i) = (tw : Int) ∧ tw < (lay T 0).length ∧ chL (nAt (lay T 0) i) (tw : Nat) ∧ Sits (lay T 0) tw V ∧ V.size < (sub T i).size ∧ V.deep ≤ (sub T i).deep ∧ okB (m : Int) V ∧ wo (nf (nAt (lay T 0) i)) V = wo (nf (nAt (lay T 0) i)) (sub T i) := by
    have z1 : (sub T i).size = 1 + l.size + r.size := by rw [es]; rfl
    have z2 : (sub T i).deep = 1 + max l.deep r.deep := by rw [es]; rfl
    cases hs : s with
    | true =>
      subst hs
      refine ⟨i + 1, l, by rw [en]; rfl, by have := s1.1; omega, ⟨h, .inl (by rw [en]; rfl)⟩, s1, by omega, by omega, so.2.2.2.1, ?_⟩
      rw [es, wo_hit, if_pos rfl]
    | false =>
      subst hs
      refine ⟨i + 1 + l.size, r, by rw [en]; rfl, by have := s2.1; omega, ⟨h, .inr (by rw [en]; rfl)⟩, s2, by omega, by omega, so.2.2.2.2, ?_⟩
      rw [es, wo_hit, if_neg (by decide)]
  have make : ∀ T', T' = rep T i V → Gone m (nf (nAt (lay T 0) i)) T i T' := fun T' e => by
    subst e
    exact ⟨rep_ok T i V hi ok vok, rep_size T i V hi vsz, rep_deep T i V hi vdp, rep_wo T i V hi vwo, rep_pre T i V hi⟩
  refine ⟨tw, eto, tolt, tch, fun z => make _ ?_, fun up B => make _ ?_⟩
  · subst z
    rw [hV.tree hR vok, rep_zero]
  · have l1 := ch_lt hR B.hup B.c1
    have l2 := ch_lt hR B.hat B.c2
    have hl : ((lay T 0).set up (turnN (nAt (lay T 0) up) i tw)).length = (lay T 0).length := List.length_set
    have hq : ∀ q, q ≠ up → nAt ((lay T 0).set up (turnN (nAt (lay T 0) up) i tw)) q = nAt (lay T 0) q := fun q hq => set_ne hq
    have kV : Sits ((lay T 0).set up (turnN (nAt (lay T 0) up) i tw)) tw V := hV.kept hl hq (.inl (by omega))
    have := (Sits.turned (m := (m : Int)) B.right hl hq (set_at B.hup) B.c1 (kV.tree B.right vok) (T := T) (k := 0) ok (sits_lay T) (Nat.zero_le _) (by rw [Nat.zero_add, ← ll]; exact B.hup)).2.2
    rw [this, Nat.sub_zero]

end Go.Proofs.YtlloiccodjnkcagGreatDoor.M

namespace Go.Proofs.YtlloiccodjnkcagGreatDoor.M
set_option linter.unusedVariables false

/-- past the nodes that ask for a feature -/
def pstK (t : List Nd) (f : Int) : Nat → Nat → Nat
  | 0, i => i
  | n + 1, i => if nf (nAt t i) = f then pstK t f n (sideN (nAt t i)).toNat else i
def pst (t : List Nd) (f : Int) (i : Nat) : Nat := pstK t f t.length i
theorem side_in {t : List Nd} {m : Int} (h : Right t m) {i : Nat} (hi : i < t.length) (hf : nf (nAt t i) ≠ -1) : ∃ a : Nat, sideN (nAt t i) = (a : Int) ∧ i < a ∧ a < t.length := by
  obtain ⟨a, b, ea, eb, h1, h2, h3, h4, _⟩ := ask_at h hi hf
  unfold sideN
  split
  · exact ⟨a, ea, h1, h2⟩
  · exact ⟨b, eb, h3, h4⟩
theorem pst_miss {t : List Nd} {f : Int} {n i : Nat} (h : nf (nAt t i) ≠ f) : pstK t f n i = i := by
  cases n with
  | zero => rfl
  | succ n => show (if _ then _ else _) = _; rw [if_neg h]
theorem pst_hit {t : List Nd} {f : Int} {n i a : Nat} (h : nf (nAt t i) = f) (ha : sideN (nAt t i) = (a : Int)) : pstK t f (n + 1) i = pstK t f n a := by
  show (if _ then _ else _) = _
  rw [if_pos h, ha, Int.toNat_natCast]
theorem pst_enough {t : List Nd} {m f : Int} (h : Right t m) (h0 : f ≠ -1) : ∀ (k n n' i : Nat), i < t.length → t.length ≤ k + i → t.length ≤ n + i → t.length ≤ n' + i → pstK t f n i = pstK t f n' i
  | 0, n, n', i, hi, hk, _, _ => by omega
  | k + 1, n, n', i, hi, hk, hn, hn' => by
    by_cases e : nf (nAt t i) = f
    · obtain ⟨a, ea, h1, h2⟩ := side_in h hi (by rw [e]; exact h0)
      obtain ⟨n, rfl⟩ : ∃ x, n = x + 1 := ⟨n - 1, by omega⟩
      obtain ⟨n', rfl⟩ : ∃ x, n' = x + 1 := ⟨n' - 1, by omega⟩
      rw [pst_hit e ea, pst_hit e ea]
      exact pst_enough h h0 k n n' a h2 (by omega) (by omega) (by omega)
    · rw [pst_miss e, pst_miss e]
theorem pst_on {t : List Nd} {m f : Int} (h : Right t m) (h0 : f ≠ -1) {i a : Nat} (hi : i < t.length) (e : nf (nAt t i) = f) (ea : sideN (nAt t i) = (a : Int)) : pst t f i = pst t f a := by
  obtain ⟨a', ea', h1, h2⟩ := side_in h hi (by rw [e]; exact h0)
  have : a' = a := by omega
  subst this
  unfold pst
  rw [pst_enough h h0 t.length t.length (t.length + 1) i hi (by omega) (by omega) (by omega), pst_hit e ea]
/-- nodes that tell a tree from a place on, past those that ask for a feature -/
def WDen (t : List Nd) (f : Int) : BT → Nat → Prop
  | .lf v, j => j < t.length ∧ pst t f j < t.length ∧ nAt t (pst t f j) = (-1, 0, 0, 0, false, v)
  | .nd g c s l r, j => j < t.length ∧ pst t f j < t.length ∧ g ≠ -1 ∧ ∃ a b : Nat, nAt t (pst t f j) = (g, c, (a : Int), (b : Int), s, 0) ∧ WDen t f l a ∧ WDen t f r b
theorem WDen.move {t : List Nd} {f : Int} {T : BT} {i j : Nat} (hi : i < t.length) (e : pst t f i = pst t f j) (h : WDen t f T j) : WDen t f T i := by
  cases T with
  | lf v =>
    obtain ⟨_, h2, h3⟩ := h
    exact ⟨hi, by rw [e]; exact h2, by rw [e]; exact h3⟩
  | nd g c s l r =>
    obtain ⟨_, h2, h3, a, b, h4, h5⟩ := h
    exact ⟨hi, by rw [e]; exact h2, h3, a, b, by rw [e]; exact h4, h5⟩
theorem wden {t : List Nd} {m f : Int} (h : Right t m) (h0 : f ≠ -1) : ∀ (k i : Nat), i < t.length → t.length ≤ k + i → WDen t f (wo f (bt t i)) i
  | 0, i, hi, hk => by omega
  | k + 1, i, hi, hk => by
    have D := den_bt h t.length i hi (by omega)
    by_cases hl : nf (nAt t i) = -1
    · rw [bt_leaf hi hl] at D ⊢
      have e : pst t f i = i := pst_miss (by rw [hl]; exact fun q => h0 q.symm)
      exact ⟨hi, by rw [e]; exact hi, by rw [e]; exact D.2⟩
    · obtain ⟨a, b, ea, eb, h1, h2, h3, h4, _⟩ := ask_at h hi hl
      have B := bt_ask h hi hl ea eb
      rw [B] at D ⊢
      by_cases e : nf (nAt t i) = f
      · rw [e, wo_hit]
        split
        · rename_i hs
          exact (wden h h0 k a h2 (by omega)).move hi (pst_on h h0 hi e (by unfold sideN; rw [if_pos hs]; exact ea))
        · rename_i hs
          exact (wden h h0 k b h4 (by omega)).move hi (pst_on h h0 hi e (by unfold sideN; rw [if_neg hs]; exact eb))
      · rw [wo_miss e]
        have q : pst t f i = i := pst_miss e
        obtain ⟨_, d2, a', b', d3, _, _, _, _⟩ := D
        have ea' : (a' : Int) = (a : Int) := by rw [← ea, d3]; rfl
        have eb' : (b' : Int) = (b : Int) := by rw [← eb, d3]; rfl
        refine ⟨hi, by rw [q]; exact hi, hl, a, b, ?_, wden h h0 k a h2 (by omega), wden h h0 k b h4 (by omega)⟩
        rw [q, ← ea', ← eb']
        exact d3

end Go.Proofs.YtlloiccodjnkcagGreatDoor.M

namespace Go.Proofs.YtlloiccodjnkcagGreatDoor
open Go.ChangeShapes Go.WideShapes Go.ChangeAt Go.RowKit Go.Lib
set_option linter.unusedVariables false

set_option maxHeartbeats 4000000 in
set_option maxRecDepth 10000 in
theorem past_any (ts : List M.Nd) (m : Int) (hR : M.Right ts m) (l63 : ts.length ≤ 63) (bt ot cap ff i : Nat) (w : World) (hi : i < ts.length) (hbt : bt < w.heap.size) (hct : ∀ j, j < ts.length → SixAt w bt (ot + j * 6) (M.nAt ts j)) :
    Calls Tryz.prog 61 #[.slice (some ⟨bt, ot, none⟩) ts.length cap, .int .i64 (i : Nat), .int .i64 (ff : Nat)] w fun e w' => e = .returned (.int .i64 (M.pst ts (ff : Int) i : Nat)) ∧ Below w.heap.size w w' := by
  have HC : Hid (∀ W, Below w.heap.size w W → ∀ j, j < ts.length → SixAt W bt (ot + j * 6) (M.nAt ts j)) := fun W hW j hj => (hct j hj).below hW hbt
  have P0 : Hid (M.pst ts (ff : Int) i = M.pstK ts (ff : Int) ts.length i) := rfl
  have SI : Hid (∀ j, j < ts.length → M.nf (M.nAt ts j) = (ff : Int) → ∃ a : Nat, M.sideN (M.nAt ts j) = (a : Int) ∧ j < a ∧ a < ts.length ∧ ∀ n, M.pstK ts (ff : Int) (n + 1) j = M.pstK ts (ff : Int) n a) := fun j hj e => by
    obtain ⟨a, ea, h1, h2⟩ := M.side_in hR hj (by rw [e]; omega)
    exact ⟨a, ea, h1, h2, fun n => M.pst_hit e ea⟩
  have SM : Hid (∀ j n, M.nf (M.nAt ts j) ≠ (ff : Int) → M.pstK ts (ff : Int) n j = j) := fun j n e => M.pst_miss e
  have TL := hide (fun j W => toleft_any (M.nAt ts j) M.nilI W)
  have LS : Hid (∀ j, M.lessC (M.nAt ts j) M.nilI = M.ns (M.nAt ts j)) := fun j => by unfold M.lessC; rw [if_pos rfl]
  generalize M.pst ts (ff : Int) i = o at *
  clear hct
  go_enter Tryz.func61, Tryz.ntmps61
  go_wp2
  go_loopw [1] (fun v wr => ∃ j n : Nat, v = .int .i64 j ∧ j < ts.length ∧ Hid (o = M.pstK ts (ff : Int) n j ∧ ts.length ≤ n + j) ∧ Hid (Below w.heap.size w wr)) (fun v _ => ts.length - (intOf v).toNat)
  case atStart => exact ⟨i, ts.length, rfl, hi, ⟨P0.out, by omega⟩, Below.refl _ _⟩
  case round =>
    obtain ⟨j, n, rfl, hj, PN, KB⟩ := hrel
    have jz : (j : Int) < (ts.length : Int) := by omega
    obtain ⟨s0, s1, s2, s3, s4, s5⟩ := HC.out wr KB.out j hj
    by_cases hf : M.nf (M.nAt ts j) = (ff : Int)
    · obtain ⟨a, ea, h1, h2, h3⟩ := SI.out j hj hf
      have q : (M.nf (M.nAt ts j) == (ff : Int)) = true := by rw [beq_iff_eq]; exact hf
      obtain ⟨n', rfl⟩ : ∃ x, n = x + 1 := ⟨n - 1, by have := PN.out.2; omega⟩
      have PN2 : Hid (o = M.pstK ts (ff : Int) n' a ∧ ts.length ≤ n' + a) := ⟨by rw [PN.out.1]; exact h3 n', by have := PN.out.2; omega⟩
      have T1 := hide (TL.out j wr)
      unfold ndV at T1
      rw [LS.out j] at T1
      have C2 := hide (fun W hW => HC.out W (below_on KB.out hW) j hj)
      unfold M.sideN at ea
      clear hf SI SM TL LS h3 PN P0 HC
      generalize M.nf (M.nAt ts j) = nf at *
      generalize M.nc (M.nAt ts j) = nc at *
      generalize M.nv (M.nAt ts j) = nv at *
      cases hs : M.ns (M.nAt ts j) with
      | true =>
        rw [hs] at s4 ea T1
        rw [if_pos rfl] at ea
        rw [ea] at s2 T1
        go_wp2_with (go_at_call 65; refine T1.out.mono ?_; rintro e w1 ⟨rfl, hb1⟩; have K1 := hide (below_on KB.out hb1); obtain ⟨t0, t1, t2, t3, t4, t5⟩ := C2.out w1 hb1; rw [ea] at t2; clear hb1)
        go_roundw
        case rel => exact ⟨a, n', rfl, h2, PN2, K1⟩
        case measure => simp [intOf]; omega
      | false =>
        rw [hs] at s4 ea T1
        rw [if_neg (by decide)] at ea
        rw [ea] at s3 T1
        go_wp2_with (go_at_call 65; refine T1.out.mono ?_; rintro e w1 ⟨rfl, hb1⟩; have K1 := hide (below_on KB.out hb1); obtain ⟨t0, t1, t2, t3, t4, t5⟩ := C2.out w1 hb1; rw [ea] at t3; clear hb1)
        go_roundw
        case rel => exact ⟨a, n', rfl, h2, PN2, K1⟩
        case measure => simp [intOf]; omega
    · have q : (M.nf (M.nAt ts j) == (ff : Int)) = false := by rw [beq_eq_false_iff_ne]; exact hf
      have E1 : Hid (j = o) := by unfold Hid; rw [PN.out.1, SM.out j n hf]
      clear hf SI SM TL LS PN P0 HC
      go_wp2
      go_ret
      exact ⟨by rw [← E1.out]; rfl, KB.out⟩

set_option maxHeartbeats 8000000 in
set_option maxRecDepth 10000 in
theorem wlay_any (ts : List M.Nd) (l63 : ts.length ≤ 63) (bt ot cap B ff : Nat) (PA : ∀ (i : Nat) (w : World), i < ts.length → bt < w.heap.size → (∀ j, j < ts.length → SixAt w bt (ot + j * 6) (M.nAt ts j)) → Calls Tryz.prog 61 #[.slice (some ⟨bt, ot, none⟩) ts.length cap, .int .i64 (i : Nat), .int .i64 (ff : Nat)] w fun e w' => e = .returned (.int .i64 (M.pst ts (ff : Int) i : Nat)) ∧ Below w.heap.size w w') : ∀ (T : M.BT) (i : Nat), M.WDen ts (ff : Int) T i → ∀ (O : List M.Nd) (va : Option Addr) (vc : Nat) (w : World), bt < w.heap.size → (∀ j, j < ts.length → SixAt w bt (ot + j * 6) (M.nAt ts j)) → (Value.slice va O.length vc).ownBlock ≠ some bt → w.ownsRow B 64 6 (.slice va O.length vc) O.length (ndCells O) → B ≤ w.heap.size → O.length + T.size ≤ 1000 →
    Calls Tryz.prog 32 #[.slice va O.length vc, .slice (some ⟨bt, ot, none⟩) ts.length cap, .int .i64 (i : Nat), .int .i64 (ff : Nat)] w fun e w' => ∃ g c, e = .returned (.slice (some ⟨g, 0, none⟩) (O.length + T.size) c) ∧ w'.ownsRow B 64 6 (.slice (some ⟨g, 0, none⟩) (O.length + T.size) c) (O.length + T.size) (ndCells (O ++ M.lay T O.length)) ∧ w.grownBy w' (Value.slice va O.length vc).ownBlock ∧ ((Value.slice va O.length vc).ownBlock = some g ∨ w.heap.size ≤ g) := by
  intro T
  induction T with
  | lf v =>
    intro i hD O va vc w hbt hct hne hv hB hsz
    obtain ⟨hi0, hi, hn⟩ := hD
    have PI := hide (PA i w hi0 hbt hct)
    obtain ⟨p, hp⟩ : ∃ p, p = M.pst ts (ff : Int) i := ⟨_, rfl⟩
    rw [← hp] at PI hi hn
    clear hp
    have H0 : Hid (bt < w.heap.size ∧ (∀ j, j < ts.length → SixAt w bt (ot + j * 6) (M.nAt ts j)) ∧ w.ownsRow B 64 6 (.slice va O.length vc) O.length (ndCells O) ∧ B ≤ w.heap.size) := ⟨hbt, hct, hv, hB⟩
    clear hbt hct hv hB
    have ol : O.length ≤ 1000 := by omega
    have e1 : (M.BT.lf v).size = 1 := rfl
    have e2 : M.lay (.lf v) O.length = [(-1, 0, 0, 0, false, v)] := rfl
    rw [e1, e2]
    clear e1 e2 hsz
    go_enter Tryz.func32, Tryz.ntmps32
    go_upto_region 2 with (go_at_call 61; refine PI.out.mono ?_; rintro e wp ⟨rfl, hbp⟩; have KP := hide hbp; clear hbp)
    have hbt : bt < wp.heap.size := Nat.lt_of_lt_of_le H0.out.1 KP.out.size
    have hct : ∀ j, j < ts.length → SixAt wp bt (ot + j * 6) (M.nAt ts j) := fun j hj => (H0.out.2.1 j hj).below KP.out H0.out.1
    have hv := own_up H0.out.2.2.1 KP.out
    have hB : B ≤ wp.heap.size := Nat.le_trans H0.out.2.2.2 KP.out.size
    clear PI
    have iz : (p : Int) < (ts.length : Int) := by omega
    obtain ⟨j0, hj, hy0, hy1, hy2⟩ := info_parts infoN
    have J0 := hide hj
    have R0 := hct p hi
    rw [hn] at R0
    have HL : Hid (∀ g, (Value.slice va O.length vc).ownBlock = some g → g < wp.heap.size) := fun g hg => (hv.lt g hg).2
    have HV := hide hv
    have RA : Hid (∀ o, SixAt (wp.alloc o) bt (ot + p * 6) (-1, 0, 0, 0, false, v)) := fun o => R0.below ((Below.refl _ wp).alloc (Nat.le_refl _) o) hbt
    have r0 : wp.cell? ⟨bt, ot + p * 6, none⟩ = some (.int .i64 (-1)) := R0.1
    have a0 : ∀ o, (wp.alloc o).cell? ⟨bt, ot + p * 6, none⟩ = some (.int .i64 (-1)) := fun o => (RA.out o).1
    have r1 : wp.cell? ⟨bt, ot + p * 6 + 1, none⟩ = some (.int .i64 0) := R0.2.1
    have a1 : ∀ o, (wp.alloc o).cell? ⟨bt, ot + p * 6 + 1, none⟩ = some (.int .i64 0) := fun o => (RA.out o).2.1
    have r2 : wp.cell? ⟨bt, ot + p * 6 + 2, none⟩ = some (.int .i64 0) := R0.2.2.1
    have a2 : ∀ o, (wp.alloc o).cell? ⟨bt, ot + p * 6 + 2, none⟩ = some (.int .i64 0) := fun o => (RA.out o).2.2.1
    have r3 : wp.cell? ⟨bt, ot + p * 6 + 3, none⟩ = some (.int .i64 0) := R0.2.2.2.1
    have a3 : ∀ o, (wp.alloc o).cell? ⟨bt, ot + p * 6 + 3, none⟩ = some (.int .i64 0) := fun o => (RA.out o).2.2.2.1
    have r4 : wp.cell? ⟨bt, ot + p * 6 + 4, none⟩ = some (.bool false) := R0.2.2.2.2.1
    have a4 : ∀ o, (wp.alloc o).cell? ⟨bt, ot + p * 6 + 4, none⟩ = some (.bool false) := fun o => (RA.out o).2.2.2.2.1
    have r5 : wp.cell? ⟨bt, ot + p * 6 + 5, none⟩ = some (.int .i64 v) := R0.2.2.2.2.2
    have a5 : ∀ o, (wp.alloc o).cell? ⟨bt, ot + p * 6 + 5, none⟩ = some (.int .i64 v) := fun o => (RA.out o).2.2.2.2.2
    have HC := hide hct
    have HE := hide hne
    clear hv hct hj hne hn R0 RA
    go_cut [9, 10] from 15 to 20 (fun x y wx => x = .int .i64 (O.length : Int) ∧ y = .pointer (some ⟨wp.heap.size, 0, none⟩) ∧ Hid (Below wp.heap.size wp wx ∧ wx.heap.size = wp.heap.size + 1 ∧ SixAt wx wp.heap.size 0 (-1, 0, 0, 0, false, v)))
    case first =>
      clear HC HL HV HE
      go_region
      all_goals (
        go_wp2
        go_meet
        case rel => exact ⟨rfl, rfl, ((Below.refl _ wp).alloc (Nat.le_refl _) _).drew, by simp, six_alloc wp (-1, 0, 0, 0, false, v) _⟩)
    case rest =>
      obtain ⟨rfl, rfl, HX⟩ := hcut
      clear r0 r1 r2 r3 r4 r5 a0 a1 a2 a3 a4 a5
      have HO := hide (own_up HV.out HX.out.1)
      have ws := HX.out.2.1
      have s0 : wc.cell? ⟨wp.heap.size, 0, none⟩ = some (.int .i64 (-1)) := HX.out.2.2.1
      have s1 : wc.cell? ⟨wp.heap.size, 1, none⟩ = some (.int .i64 0) := HX.out.2.2.2.1
      have s2 : wc.cell? ⟨wp.heap.size, 2, none⟩ = some (.int .i64 0) := HX.out.2.2.2.2.1
      have s3 : wc.cell? ⟨wp.heap.size, 3, none⟩ = some (.int .i64 0) := HX.out.2.2.2.2.2.1
      have s4 : wc.cell? ⟨wp.heap.size, 4, none⟩ = some (.bool false) := HX.out.2.2.2.2.2.2.1
      have s5 : wc.cell? ⟨wp.heap.size, 5, none⟩ = some (.int .i64 v) := HX.out.2.2.2.2.2.2.2
      have KB : Hid (∀ W, wc.grownBy W (Value.slice va O.length vc).ownBlock → W.cell? ⟨wp.heap.size, 0, none⟩ = some (.int .i64 (-1))) := fun W hW => (six_keep (hW.block _ (by omega) (fun e => by have := HL.out _ e.symm; omega)) HX.out.2.2).1
      have WS := hide ws
      clear ws
      go_wp2_with (at_builtin; refine wpList_append_lies _ rfl (.tmp 21) (.tmp 23) 26 rfl B 64 j0 (.agg #[.int .i64 0, .int .i64 0, .int .i64 0, .int .i64 0, .bool false, .int .i64 0]) 6 48 Tryz.underlying26 J0.out hy0 hy1 hy2 rfl (by omega) (.slice va O.length vc) O.length (ndCells O) rfl (HO.out.alloc _) ⟨wc.heap.size, 0, none⟩ 1 1 [.int .i64 (-1), .int .i64 0, .int .i64 0, .int .i64 0, .bool false, .int .i64 v] rfl rfl (World.news_of_block (heap_alloc_new _ _)) (by simp [Value.oneCell']) (by omega) (by unfold maxLen; omega) (by omega) (by simp; have := WS.out; omega) (wc.heap.size + 1) (by simp) ?_)
      intro g1 c1 w1 hov hgrow hat hlt1
      have HO1 : Hid (w1.ownsRow B 64 6 (.slice (some ⟨g1, 0, none⟩) (O.length + 1) c1) (O.length + 1) (ndCells (O ++ [(-1, 0, 0, 0, false, v)]))) := by
        unfold Hid; rw [ndCells_app]; exact hov
      have G1 : Hid (wc.grownBy w1 (Value.slice va O.length vc).ownBlock) := grown_trans (World.grownBy_alloc wc _ _) hgrow (.inl rfl)
      have A1 : Hid ((Value.slice va O.length vc).ownBlock = some g1 ∨ wp.heap.size ≤ g1) := by
        rcases hat with q | q
        · exact .inl q
        · exact .inr (by have := WS.out; omega)
      have z0 := KB.out w1 G1.out
      clear hov hgrow hat HV HO s0 s1 s2 s3 s4 s5 KB
      go_wp2
      go_ret
      exact ⟨g1, c1, rfl, HO1.out, grown_trans (grown_of KP.out _) (grown_trans (grown_of HX.out.1 _) G1.out (.inl rfl)) (.inl rfl), A1.out.imp id (fun q => Nat.le_trans KP.out.size q)⟩
  | nd f c s l r ihl ihr =>
    intro i hD O va vc w hbt hct hne hv hB hsz
    obtain ⟨hi0, hi, hf, a, b, hn, hDl, hDr⟩ := hD
    have PI := hide (PA i w hi0 hbt hct)
    obtain ⟨p, hp⟩ : ∃ p, p = M.pst ts (ff : Int) i := ⟨_, rfl⟩
    rw [← hp] at PI hi hn
    clear hp
    have H0 : Hid (bt < w.heap.size ∧ (∀ j, j < ts.length → SixAt w bt (ot + j * 6) (M.nAt ts j)) ∧ w.ownsRow B 64 6 (.slice va O.length vc) O.length (ndCells O) ∧ B ≤ w.heap.size) := ⟨hbt, hct, hv, hB⟩
    clear hbt hct hv hB
    have ol : O.length ≤ 1000 := by omega
    have hf' : (f == -1) = false := by rw [beq_eq_false_iff_ne]; exact hf
    have IA := hide (ihl a hDl)
    have IB := hide (ihr b hDr)
    have LA : Hid (∀ k, (M.lay l k).length = l.size) := fun k => M.lay_len _ k
    have e1 : (M.BT.nd f c s l r).size = 1 + l.size + r.size := rfl
    have e2 : M.lay (.nd f c s l r) O.length = (f, c, ((O.length + 1 : Nat) : Int), ((O.length + 1 + l.size : Nat) : Int), s, 0) :: (M.lay l (O.length + 1) ++ M.lay r (O.length + 1 + l.size)) := rfl
    have cz1 : ((O.length + 1 : Nat) : Int) = (O.length : Int) + 1 := by omega
    have cz2 : ((O.length + 1 + l.size : Nat) : Int) = (O.length : Int) + 1 + (l.size : Int) := by omega
    rw [e1] at hsz
    rw [e1, e2, cz1, cz2, show O.length + (1 + l.size + r.size) = O.length + 1 + l.size + r.size by omega]
    clear e1 e2 cz1 cz2 ihl ihr hDl hDr hf
    generalize htl : l.size = sl at *
    generalize htr : r.size = sr at *
    have TL := hide htl
    have TR := hide htr
    clear htl htr
    go_enter Tryz.func32, Tryz.ntmps32
    go_upto_region 2 with (go_at_call 61; refine PI.out.mono ?_; rintro e wp ⟨rfl, hbp⟩; have KP := hide hbp; clear hbp)
    have hbt : bt < wp.heap.size := Nat.lt_of_lt_of_le H0.out.1 KP.out.size
    have hct : ∀ j, j < ts.length → SixAt wp bt (ot + j * 6) (M.nAt ts j) := fun j hj => (H0.out.2.1 j hj).below KP.out H0.out.1
    have hv := own_up H0.out.2.2.1 KP.out
    have hB : B ≤ wp.heap.size := Nat.le_trans H0.out.2.2.2 KP.out.size
    clear PI
    have iz : (p : Int) < (ts.length : Int) := by omega
    obtain ⟨j0, hj, hy0, hy1, hy2⟩ := info_parts infoN
    have J0 := hide hj
    have R0 := hct p hi
    rw [hn] at R0
    have HL : Hid (∀ g, (Value.slice va O.length vc).ownBlock = some g → g < wp.heap.size) := fun g hg => (hv.lt g hg).2
    have HV := hide hv
    have RA : Hid (∀ o, SixAt (wp.alloc o) bt (ot + p * 6) (f, c, (a : Int), (b : Int), s, 0)) := fun o => R0.below ((Below.refl _ wp).alloc (Nat.le_refl _) o) hbt
    have r0 : wp.cell? ⟨bt, ot + p * 6, none⟩ = some (.int .i64 f) := R0.1
    have a0 : ∀ o, (wp.alloc o).cell? ⟨bt, ot + p * 6, none⟩ = some (.int .i64 f) := fun o => (RA.out o).1
    have r1 : wp.cell? ⟨bt, ot + p * 6 + 1, none⟩ = some (.int .i64 c) := R0.2.1
    have a1 : ∀ o, (wp.alloc o).cell? ⟨bt, ot + p * 6 + 1, none⟩ = some (.int .i64 c) := fun o => (RA.out o).2.1
    have r2 : wp.cell? ⟨bt, ot + p * 6 + 2, none⟩ = some (.int .i64 (a : Int)) := R0.2.2.1
    have a2 : ∀ o, (wp.alloc o).cell? ⟨bt, ot + p * 6 + 2, none⟩ = some (.int .i64 (a : Int)) := fun o => (RA.out o).2.2.1
    have r3 : wp.cell? ⟨bt, ot + p * 6 + 3, none⟩ = some (.int .i64 (b : Int)) := R0.2.2.2.1
    have a3 : ∀ o, (wp.alloc o).cell? ⟨bt, ot + p * 6 + 3, none⟩ = some (.int .i64 (b : Int)) := fun o => (RA.out o).2.2.2.1
    have r4 : wp.cell? ⟨bt, ot + p * 6 + 4, none⟩ = some (.bool s) := R0.2.2.2.2.1
    have a4 : ∀ o, (wp.alloc o).cell? ⟨bt, ot + p * 6 + 4, none⟩ = some (.bool s) := fun o => (RA.out o).2.2.2.2.1
    have r5 : wp.cell? ⟨bt, ot + p * 6 + 5, none⟩ = some (.int .i64 0) := R0.2.2.2.2.2
    have a5 : ∀ o, (wp.alloc o).cell? ⟨bt, ot + p * 6 + 5, none⟩ = some (.int .i64 0) := fun o => (RA.out o).2.2.2.2.2
    have HC := hide hct
    have HE := hide hne
    clear hv hct hj hne hn R0 RA
    go_cut [9, 10] from 15 to 20 (fun x y wx => x = .int .i64 (O.length : Int) ∧ y = .pointer (some ⟨wp.heap.size, 0, none⟩) ∧ Hid (Below wp.heap.size wp wx ∧ wx.heap.size = wp.heap.size + 1 ∧ SixAt wx wp.heap.size 0 (f, c, (a : Int), (b : Int), s, 0)))
    case first =>
      clear HC HL HV HE
      go_region
      all_goals (
        go_wp2
        go_meet
        case rel => exact ⟨rfl, rfl, ((Below.refl _ wp).alloc (Nat.le_refl _) _).drew, by simp, six_alloc wp (f, c, (a : Int), (b : Int), s, 0) _⟩)
    case rest =>
      obtain ⟨rfl, rfl, HX⟩ := hcut
      clear r0 r1 r2 r3 r4 r5 a0 a1 a2 a3 a4 a5
      have HO := hide (own_up HV.out HX.out.1)
      have ws := HX.out.2.1
      have s0 : wc.cell? ⟨wp.heap.size, 0, none⟩ = some (.int .i64 f) := HX.out.2.2.1
      have s1 : wc.cell? ⟨wp.heap.size, 1, none⟩ = some (.int .i64 c) := HX.out.2.2.2.1
      have s2 : wc.cell? ⟨wp.heap.size, 2, none⟩ = some (.int .i64 (a : Int)) := HX.out.2.2.2.2.1
      have s3 : wc.cell? ⟨wp.heap.size, 3, none⟩ = some (.int .i64 (b : Int)) := HX.out.2.2.2.2.2.1
      have s4 : wc.cell? ⟨wp.heap.size, 4, none⟩ = some (.bool s) := HX.out.2.2.2.2.2.2.1
      have s5 : wc.cell? ⟨wp.heap.size, 5, none⟩ = some (.int .i64 0) := HX.out.2.2.2.2.2.2.2
      have KB : Hid (∀ W, wc.grownBy W (Value.slice va O.length vc).ownBlock → W.cell? ⟨wp.heap.size, 0, none⟩ = some (.int .i64 f) ∧ W.cell? ⟨wp.heap.size, 2, none⟩ = some (.int .i64 (a : Int)) ∧ W.cell? ⟨wp.heap.size, 3, none⟩ = some (.int .i64 (b : Int))) := fun W hW => by
        have q := six_keep (hW.block wp.heap.size (by omega) (fun e => by have := HL.out _ e.symm; omega)) HX.out.2.2
        exact ⟨q.1, q.2.2.1, q.2.2.2.1⟩
      have KC : Hid (∀ W, wc.grownBy W (Value.slice va O.length vc).ownBlock → bt < W.heap.size ∧ wc.heap.size ≤ W.heap.size ∧ ∀ j, j < ts.length → SixAt W bt (ot + j * 6) (M.nAt ts j)) := fun W hW => by
        refine ⟨by have := hW.size; omega, hW.size, fun j hj => ?_⟩
        exact six_keep (hW.block bt (by omega) (fun e => HE.out e.symm)) ((HC.out j hj).below HX.out.1 hbt)
      have WS := hide ws
      clear ws
      go_wp2_with (at_builtin; refine wpList_append_lies _ rfl (.tmp 21) (.tmp 23) 26 rfl B 64 j0 (.agg #[.int .i64 0, .int .i64 0, .int .i64 0, .int .i64 0, .bool false, .int .i64 0]) 6 48 Tryz.underlying26 J0.out hy0 hy1 hy2 rfl (by omega) (.slice va O.length vc) O.length (ndCells O) rfl (HO.out.alloc _) ⟨wc.heap.size, 0, none⟩ 1 1 [.int .i64 f, .int .i64 c, .int .i64 (a : Int), .int .i64 (b : Int), .bool s, .int .i64 0] rfl rfl (World.news_of_block (heap_alloc_new _ _)) (by simp [Value.oneCell']) (by omega) (by unfold maxLen; omega) (by omega) (by simp; have := WS.out; omega) (wc.heap.size + 1) (by simp) ?_)
      intro g1 c1 w1 hov hgrow hat hlt1
      have HO1 : Hid (w1.ownsRow B 64 6 (.slice (some ⟨g1, 0, none⟩) (O.length + 1) c1) (O.length + 1) (ndCells (O ++ [(f, c, (a : Int), (b : Int), s, (0 : Int))]))) := by
        unfold Hid; rw [ndCells_app]; exact hov
      have G1 : Hid (wc.grownBy w1 (Value.slice va O.length vc).ownBlock) := grown_trans (World.grownBy_alloc wc _ _) hgrow (.inl rfl)
      have A1 : Hid ((Value.slice va O.length vc).ownBlock = some g1 ∨ wc.heap.size ≤ g1) := by
        rcases hat with q | q
        · exact .inl q
        · exact .inr (by omega)
      have L0 : O.length < (O ++ [(f, c, (a : Int), (b : Int), s, (0 : Int))]).length := by simp
      obtain ⟨t0, t2, t3⟩ := KB.out w1 G1.out
      obtain ⟨x0, x1, x2, x3, x4, x5⟩ := ndCells_at _ O.length L0
      have q2 := (HO1.out.cellAt (O.length * 6 + 2) (by omega)).trans x2
      have fz2 := HO1.out.frozenAt (O.length * 6 + 2)
      have oz : ((O.length : Nat) : Int) < ((O.length + 1 : Nat) : Int) := by omega
      clear hov hgrow hat HV HO s0 s1 s2 s3 s4 s5 x0 x1 x2 x3 x4 x5 L0
      go_upto_region 7 with fail
      obtain ⟨w2, hw2⟩ : ∃ W, W = w1.setCell ⟨g1, O.length * 6 + 2, none⟩ (.int .i64 ((O.length : Int) + 1)) := ⟨_, rfl⟩
      rw [← hw2]
      have g1s : Hid ((some g1 : Option Nat) = (Value.slice va O.length vc).ownBlock ∨ ∀ q, (some g1 : Option Nat) = some q → wc.heap.size ≤ q) := by
        rcases A1.out with q | q
        · exact .inl q.symm
        · exact .inr (fun z hz => by cases hz; exact q)
      have HO2 : Hid (w2.ownsRow B 64 6 (.slice (some ⟨g1, 0, none⟩) (O.length + 1) c1) (O.length + 1) (ndCells (O ++ [(f, c, (O.length : Int) + 1, (b : Int), s, (0 : Int))]))) := by
        have st := (HO1.out.stored (O.length * 6 + 2) (.int .i64 ((O.length : Int) + 1))).1
        rw [ndCells_setL _ O.length (by simp), nAt_last, set_last] at st
        rw [hw2]
        exact st
      have G2 : Hid (wc.grownBy w2 (Value.slice va O.length vc).ownBlock) := by
        rw [hw2]
        exact grown_trans G1.out grown_set g1s.out
      have gne : Hid (g1 ≠ bt) := fun e => by
        subst e
        rcases A1.out with q | q
        · exact HE.out q
        · have := WS.out; omega
      obtain ⟨kc1, kc2, kc3⟩ := KC.out w2 G2.out
      have I1 := IA.out (O ++ [(f, c, (O.length : Int) + 1, (b : Int), s, (0 : Int))]) (some ⟨g1, 0, none⟩) c1 w2 kc1 kc3 (fun e => gne.out (by cases e; rfl)) (by rw [List.length_append]; exact HO2.out) (by have := WS.out; omega) (by rw [List.length_append]; simp; omega)
      rw [show (O ++ [(f, c, (O.length : Int) + 1, (b : Int), s, (0 : Int))]).length = O.length + 1 by simp] at I1
      have HI1 := hide I1
      obtain ⟨u0, u2, u3⟩ := KB.out w2 G2.out
      clear hw2 I1 HO1 q2 fz2 t0 t2 t3 kc1 kc3 IA
      go_upto_region 8 with (go_at_call 32; refine HI1.out.mono ?_; rintro e w3 ⟨g3, c3, rfl, ho3, hg3, ha3⟩)
      have G3 : Hid (wc.grownBy w3 (Value.slice va O.length vc).ownBlock) := grown_trans G2.out hg3 g1s.out
      have A3 : Hid ((Value.slice va O.length vc).ownBlock = some g3 ∨ wc.heap.size ≤ g3) := by
        rcases ha3 with q | q
        · have e : g1 = g3 := by simpa [Value.ownBlock] using q
          rw [← e]; exact A1.out
        · exact .inr (Nat.le_trans kc2 q)
      have HO3 : Hid (w3.ownsRow B 64 6 (.slice (some ⟨g3, 0, none⟩) (O.length + 1 + sl) c3) (O.length + 1 + sl) (ndCells (O ++ (f, c, (O.length : Int) + 1, (b : Int), s, (0 : Int)) :: M.lay l (O.length + 1)))) := by
        have := ho3
        rw [List.append_assoc] at this
        exact this
      have L3 : O.length < (O ++ (f, c, (O.length : Int) + 1, (b : Int), s, (0 : Int)) :: M.lay l (O.length + 1)).length := by simp
      obtain ⟨x0, x1, x2, x3, x4, x5⟩ := ndCells_at _ O.length L3
      have q3 := (HO3.out.cellAt (O.length * 6 + 3) (by omega)).trans x3
      have fz3 := HO3.out.frozenAt (O.length * 6 + 3)
      have oz3 : ((O.length : Nat) : Int) < ((O.length + 1 + sl : Nat) : Int) := by omega
      clear ho3 hg3 ha3 HO2 x0 x1 x2 x3 x4 x5 L3 u0 u2 u3 HI1 kc2
      go_upto_region 9 with fail
      obtain ⟨w4, hw4⟩ : ∃ W, W = w3.setCell ⟨g3, O.length * 6 + 3, none⟩ (.int .i64 ((O.length : Int) + 1 + (sl : Int))) := ⟨_, rfl⟩
      rw [← hw4]
      have g3s : Hid ((some g3 : Option Nat) = (Value.slice va O.length vc).ownBlock ∨ ∀ q, (some g3 : Option Nat) = some q → wc.heap.size ≤ q) := by
        rcases A3.out with q | q
        · exact .inl q.symm
        · exact .inr (fun z hz => by cases hz; exact q)
      have HO4 : Hid (w4.ownsRow B 64 6 (.slice (some ⟨g3, 0, none⟩) (O.length + 1 + sl) c3) (O.length + 1 + sl) (ndCells (O ++ (f, c, (O.length : Int) + 1, (O.length : Int) + 1 + (sl : Int), s, (0 : Int)) :: M.lay l (O.length + 1)))) := by
        have st := (HO3.out.stored (O.length * 6 + 3) (.int .i64 ((O.length : Int) + 1 + (sl : Int)))).1
        rw [ndCells_setR _ O.length (by simp), nAt_last, set_last] at st
        rw [hw4]
        exact st
      have G4 : Hid (wc.grownBy w4 (Value.slice va O.length vc).ownBlock) := by
        rw [hw4]
        exact grown_trans G3.out grown_set g3s.out
      have gne3 : Hid (g3 ≠ bt) := fun e => by
        subst e
        rcases A3.out with q | q
        · exact HE.out q
        · have := WS.out; omega
      obtain ⟨kc1, kc2, kc3⟩ := KC.out w4 G4.out
      have len4 : (O ++ (f, c, (O.length : Int) + 1, (O.length : Int) + 1 + (sl : Int), s, (0 : Int)) :: M.lay l (O.length + 1)).length = O.length + 1 + sl := by
        rw [List.length_append, List.length_cons, LA.out]; omega
      have I2 := IB.out (O ++ (f, c, (O.length : Int) + 1, (O.length : Int) + 1 + (sl : Int), s, (0 : Int)) :: M.lay l (O.length + 1)) (some ⟨g3, 0, none⟩) c3 w4 kc1 kc3 (fun e => gne3.out (by cases e; rfl)) (by rw [len4]; exact HO4.out) (by have := WS.out; omega) (by rw [len4]; omega)
      rw [len4] at I2
      have HI2 := hide I2
      obtain ⟨u0, u2, u3⟩ := KB.out w4 G4.out
      clear hw4 I2 HO3 q3 fz3 len4 KB KC IB kc1 kc3 HC HE
      go_wp2_with (go_at_call 32; refine HI2.out.mono ?_; rintro e w5 ⟨g5, c5, rfl, ho5, hg5, ha5⟩)
      go_ret
      refine ⟨g5, c5, rfl, ?_, grown_trans (grown_of KP.out _) (grown_trans (grown_of HX.out.1 _) (grown_trans G4.out hg5 g3s.out) (.inl rfl)) (.inl rfl), ?_⟩
      · rw [List.append_assoc, List.cons_append] at ho5
        exact ho5
      · have := HX.out.1.size
        have := KP.out.size
        rcases ha5 with q | q
        · have e : g3 = g5 := by simpa [Value.ownBlock] using q
          rw [← e]
          rcases A3.out with q | q
          · exact .inl q
          · exact .inr (by omega)
        · exact .inr (by omega)

end Go.Proofs.YtlloiccodjnkcagGreatDoor

namespace Go.Proofs.YtlloiccodjnkcagGreatDoor
open Go.ChangeShapes Go.WideShapes Go.ChangeAt Go.RowKit Go.Lib
set_option linter.unusedVariables false

/-- the fault of two trees, or that they do not differ -/
def M.difTF (a b : List M.Nd) (m : Int) : Int := if M.difF a b m ≠ 0 then M.difF a b m else if M.movedV a b m = 0 then 5 else 0
theorem M.dift_bad {a b : List M.Nd} {m : Int} (h : M.difF a b m ≠ 0) : M.difTF a b m = M.difF a b m := by unfold M.difTF; rw [if_pos h]
theorem M.dift_same {a b : List M.Nd} {m : Int} (h : M.difF a b m = 0) (hm : M.movedV a b m = 0) : M.difTF a b m = 5 := by unfold M.difTF; rw [if_neg (by simp [h]), if_pos hm]
theorem M.dift_not {a b : List M.Nd} {m : Int} (h : M.difF a b m = 0) (hm : M.movedV a b m ≠ 0) : M.difTF a b m = 0 := by unfold M.difTF; rw [if_neg (by simp [h]), if_neg hm]
def DifTreesGives : Prop := ∀ (a b : Option Addr) (ts us : List M.Nd) (ca cb : Nat) (m : Int) (W : World), RdN W a ts → RdN W b us → Calls Tryz.prog 49 #[.slice a ts.length ca, .slice b us.length cb, .int .i64 m] W fun e w' => ∃ (L : List Int) (wa : Option Addr) (wc : Nat), e = .returned (.tuple #[.slice wa L.length wc, errV (M.difTF ts us m)]) ∧ Rd w' wa L ∧ (M.difTF ts us m = 0 → M.rowF L = 0 ∧ (L.length : Int) = m ∧ M.evalV ts L ≠ M.evalV us L) ∧ Below W.heap.size W w'

end Go.Proofs.YtlloiccodjnkcagGreatDoor

namespace Go.Proofs.YtlloiccodjnkcagGreatDoor
open Go.ChangeShapes Go.WideShapes Go.ChangeAt Go.RowKit
set_option linter.unusedVariables false

def spV (s : M.Sp) : Value := .agg #[.int .i64 s.1, .int .i64 s.2.1, .bool s.2.2]
/-- spans, where they lie -/
def RdS (w : World) (a : Option Addr) (ss : List M.Sp) : Prop :=
  ss.length ≤ maxLen ∧ (ss ≠ [] → ∃ b off, a = some ⟨b, off, none⟩ ∧ b < w.heap.size ∧ ∀ i, i < ss.length →
    w.cell? ⟨b, off + i * 3, none⟩ = some (.int .i64 (ss.getD i (0, 0, false)).1) ∧ w.cell? ⟨b, off + i * 3 + 1, none⟩ = some (.int .i64 (ss.getD i (0, 0, false)).2.1) ∧ w.cell? ⟨b, off + i * 3 + 2, none⟩ = some (.bool (ss.getD i (0, 0, false)).2.2))
theorem RdS.below {w w' : World} {a : Option Addr} {ss : List M.Sp} (h : RdS w a ss) (hb : Below w.heap.size w w') : RdS w' a ss :=
  ⟨h.1, fun hn => by
    obtain ⟨b, off, e, hl, hc⟩ := h.2 hn
    refine ⟨b, off, e, Nat.lt_of_lt_of_le hl hb.size, fun i hi => ?_⟩
    obtain ⟨h1, h2, h3⟩ := hc i hi
    exact ⟨(hb.cell (p := ⟨b, off + i * 3, none⟩) hl).trans h1, (hb.cell (p := ⟨b, off + i * 3 + 1, none⟩) hl).trans h2, (hb.cell (p := ⟨b, off + i * 3 + 2, none⟩) hl).trans h3⟩⟩

def spCells (ss : List M.Sp) : List Value := ss.flatMap fun s => [.int .i64 s.1, .int .i64 s.2.1, .bool s.2.2]
theorem spCells_snoc (ss : List M.Sp) (s : M.Sp) : spCells (ss ++ [s]) = spCells ss ++ [.int .i64 s.1, .int .i64 s.2.1, .bool s.2.2] := by simp [spCells]
theorem spCells_at : ∀ (ss : List M.Sp) (i : Nat), i < ss.length → (spCells ss)[i * 3]? = some (.int .i64 (ss.getD i (0, 0, false)).1) ∧ (spCells ss)[i * 3 + 1]? = some (.int .i64 (ss.getD i (0, 0, false)).2.1) ∧ (spCells ss)[i * 3 + 2]? = some (.bool (ss.getD i (0, 0, false)).2.2)
  | [], i, h => by simp at h
  | s :: t, 0, h => ⟨rfl, rfl, rfl⟩
  | s :: t, i + 1, h => by
    have := spCells_at t i (by simpa using h)
    have e : spCells (s :: t) = .int .i64 s.1 :: .int .i64 s.2.1 :: .bool s.2.2 :: spCells t := rfl
    rw [e, show (i + 1) * 3 = i * 3 + 1 + 1 + 1 by omega]
    simpa using this
theorem own_rdS {w : World} {base n : Nat} {v : Value} {ss : List M.Sp} (hn : ss.length = n) (hm : n ≤ maxLen) (h : w.ownsRow base 202 3 v n (spCells ss)) : ∃ a cap, v = .slice a n cap ∧ RdS w a ss := by
  subst hn
  rcases h.2 with ⟨hv, h0⟩ | ⟨g, cap, cur, hv, hb, hg, h1, h2, h3, h4⟩
  · have e : ss = [] := List.length_eq_zero_iff.1 h0
    subst e
    exact ⟨none, 0, hv, ⟨Nat.zero_le _, fun h => absurd rfl h⟩⟩
  · subst hv
    refine ⟨_, cap, rfl, ⟨hm, fun _ => ⟨g, 0, rfl, (Array.getElem?_eq_some_iff.1 hg).1, fun i hi => ?_⟩⟩⟩
    obtain ⟨q0, q1, q2⟩ := spCells_at ss i hi
    rw [Nat.zero_add]
    exact ⟨(h.cellAt (i * 3) (by omega)).trans q0, (h.cellAt (i * 3 + 1) (by omega)).trans q1, (h.cellAt (i * 3 + 2) (by omega)).trans q2⟩
theorem info33 : (Tryz.prog.info? 202).map (fun i => (i.zero, i.size, i.bytes)) = some (some (.agg #[.int .i64 0, .int .i64 0, .bool false]), 3, 24) := by kernel_rfl

/-- a span of such a row, changed -/
theorem spCells_set : ∀ (ss : List M.Sp) (i : Nat) (s : M.Sp), (((spCells ss).set (i * 3) (.int .i64 s.1)).set (i * 3 + 1) (.int .i64 s.2.1)).set (i * 3 + 2) (.bool s.2.2) = spCells (ss.set i s)
  | [], i, s => by simp [spCells]
  | x :: t, 0, s => rfl
  | x :: t, i + 1, s => by
    have e : spCells (x :: t) = .int .i64 x.1 :: .int .i64 x.2.1 :: .bool x.2.2 :: spCells t := rfl
    have e2 : spCells ((x :: t).set (i + 1) s) = .int .i64 x.1 :: .int .i64 x.2.1 :: .bool x.2.2 :: spCells (t.set i s) := rfl
    rw [e, e2, ← spCells_set t i s, show (i + 1) * 3 = i * 3 + 1 + 1 + 1 by omega]
    rfl
theorem own_setS {w : World} {base n g cap : Nat} {ss : List M.Sp} (h : w.ownsRow base 202 3 (.slice (some ⟨g, 0, none⟩) n cap) n (spCells ss)) (i : Nat) (s : M.Sp) :
    (((w.setCell ⟨g, i * 3, none⟩ (.int .i64 s.1)).setCell ⟨g, i * 3 + 1, none⟩ (.int .i64 s.2.1)).setCell ⟨g, i * 3 + 2, none⟩ (.bool s.2.2)).ownsRow base 202 3 (.slice (some ⟨g, 0, none⟩) n cap) n (spCells (ss.set i s)) := by
  have h1 := (h.stored (i * 3) (.int .i64 s.1)).1
  have h2 := (h1.stored (i * 3 + 1) (.int .i64 s.2.1)).1
  have h3 := (h2.stored (i * 3 + 2) (.bool s.2.2)).1
  rw [spCells_set] at h3
  exact h3

end Go.Proofs.YtlloiccodjnkcagGreatDoor
