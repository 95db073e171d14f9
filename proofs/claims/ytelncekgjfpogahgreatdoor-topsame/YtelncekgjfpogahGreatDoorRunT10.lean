/-
  Several texts as one: MathY, PCome, PLayN, PLay, MathU.
-/
import Derived.Test.YtelncekgjfpogahGreatDoorRunT9
import Derived.Test.YtelncekgjfpogahGreatDoorRunT4
import Derived.Laws.Rows
import Derived.RegionTactic
import Derived.Deep.Cut
import Derived.Deep.CutRange
import Derived.Test.YtelncekgjfpogahGreatDoorRunT6
import Derived.Lib.Join
namespace Go.Proofs.YtelncekgjfpogahGreatDoor.M
set_option linter.unusedVariables false
def Den (sh : List Nd) : BT → Nat → Prop
 | .lf v, j => j < sh.length ∧ nAt sh j = (-1, 0, 0, 0, false, v)
 | .nd f c s l r, j => j < sh.length ∧ f ≠ -1 ∧ ∃ a b : Nat, nAt sh j = (f, c, (a : Int), (b : Int), s, 0) ∧ j < a ∧ j < b ∧ Den sh l a ∧ Den sh r b
theorem Den.lt {sh : List Nd} : ∀ {T : BT} {j : Nat}, Den sh T j → j < sh.length
 | .lf _, j, h => h.1
 | .nd _ _ _ _ _, j, h => h.1
theorem Den.keep {sh sh' : List Nd} (hl : sh'.length = sh.length) : ∀ {T : BT} {j : Nat}, (∀ q, j ≤ q → nAt sh' q = nAt sh q) → Den sh T j → Den sh' T j
 | .lf v, j, h, ⟨h1, h2⟩ => ⟨by omega, by rw [h j (Nat.le_refl _)]; exact h2⟩
 | .nd f c s l r, j, h, ⟨h1, h2, a, b, h3, h4, h5, h6, h7⟩ => ⟨by omega, h2, a, b, by rw [h j (Nat.le_refl _)]; exact h3, h4, h5, Den.keep hl (fun q hq => h q (by omega)) h6, Den.keep hl (fun q hq => h q (by omega)) h7⟩
theorem Den.leaf_iff {sh : List Nd} {T : BT} {j : Nat} (h : Den sh T j) : (nf (nAt sh j) = -1 ↔ ∃ v, T = .lf v) ∧ ∀ v, T = .lf v → nv (nAt sh j) = v := by
 cases T with
 | lf v =>
   obtain ⟨h1, h2⟩ := h
   rw [h2]
   exact ⟨⟨fun _ => ⟨v, rfl⟩, fun _ => rfl⟩, fun u e => by cases e; rfl⟩
 | nd f c s l r =>
   obtain ⟨h1, h2, a, b, h3, _⟩ := h
   rw [h3]
   exact ⟨⟨fun q => absurd q h2, fun ⟨v, e⟩ => by cases e⟩, fun v e => by cases e⟩
theorem leaf_whole' {t : List Nd} {m : Int} (h : Right t m) {i : Nat} (hi : i < t.length) (hf : nf (nAt t i) = -1) : nAt t i = (-1, 0, 0, 0, false, nv (nAt t i)) := by
 have := h i hi
 unfold nodeF at this
 rw [if_pos hf] at this
 unfold lfF at this
 generalize nAt t i = n at *
 by_cases q1 : outI (nv n) = true
 · rw [if_pos q1] at this; cases this
 · rw [if_neg q1] at this
   by_cases q : nc n ≠ 0 ∨ nl n ≠ 0 ∨ nr n ≠ 0 ∨ ns n = true
   · rw [if_pos q] at this; cases this
   · have b0 : nc n = 0 := Decidable.not_not.1 (fun h => q (.inl h))
     have c0 : nl n = 0 := Decidable.not_not.1 (fun h => q (.inr (.inl h)))
     have d0 : nr n = 0 := Decidable.not_not.1 (fun h => q (.inr (.inr (.inl h))))
     have e0 : ns n = false := by
      cases e : ns n with
      | false => rfl
      | true => exact absurd (.inr (.inr (.inr e))) q
     have w : n = (nf n, nc n, nl n, nr n, ns n, nv n) := rfl
     rw [hf, b0, c0, d0, e0] at w
     exact w
def cmV (t : List Nd) (m i : Nat) : Bool := anyS (region t m i)
def cmL (t : List Nd) (m i : Nat) : Bool := leafB (nAt t i) && cmV t m i
theorem rch_has (t : List Nd) (m : Nat) : ∀ k (x : Int), x ∈ rch t m k ↔ ∃ i : Nat, i < k ∧ x = (i : Int) ∧ cmL t m i = true
 | 0, x => by unfold rch; simp
 | k + 1, x => by
   have ih := rch_has t m k x
   unfold rch
   by_cases c : leafB (nAt t k) = true ∧ anyS (region t m k) = true
   · rw [if_pos c, List.mem_append, ih]
     constructor
     · rintro (⟨i, h1, h2, h3⟩ | h)
       · exact ⟨i, by omega, h2, h3⟩
       · exact ⟨k, by omega, by simpa using h, by unfold cmL cmV; rw [c.1, c.2]; rfl⟩
     · rintro ⟨i, h1, h2, h3⟩
       by_cases e : i = k
       · subst e; exact .inr (by simp [h2])
       · exact .inl ⟨i, by omega, h2, h3⟩
   · rw [if_neg c, ih]
     constructor
     · rintro ⟨i, h1, h2, h3⟩; exact ⟨i, by omega, h2, h3⟩
     · rintro ⟨i, h1, h2, h3⟩
       by_cases e : i = k
       · subst e
         unfold cmL cmV at h3
         rw [Bool.and_eq_true] at h3
         exact absurd h3 c
       · exact ⟨i, by omega, h2, h3⟩
theorem cm_leaf {t : List Nd} {m i : Nat} (hf : nf (nAt t i) = -1) : cmV t m i = cmL t m i := by
 unfold cmL
 have : leafB (nAt t i) = true := decide_eq_true hf
 rw [this, Bool.true_and]
theorem cm_ask {t : List Nd} {m : Nat} (F : Fair t (m : Int)) {i a b : Nat} (hi : i < t.length) (hf : nf (nAt t i) ≠ -1) (ea : nl (nAt t i) = a) (eb : nr (nAt t i) = b) : cmV t m i = (cmV t m a || cmV t m b) := by
 obtain ⟨a', b', ea', eb', h1, h2, h3, h4, _⟩ := ask_at F.2.2.2.2.1 hi hf
 have e1 : a' = a := by omega
 have e2 : b' = b := by omega
 subst e1
 subst e2
 obtain ⟨p1, p2⟩ := pw_sides F hi hf ea eb
 have r0 := reach_iff F hi
 have r1 := reach_iff F h2
 have r2 := reach_iff F h4
 unfold cmV
 rw [Bool.eq_iff_iff, Bool.or_eq_true, r0, r1, r2, ← p1, ← p2]
 constructor
 · rintro ⟨x, hx⟩
   cases e : goes (nf (nAt t i)) (nc (nAt t i)) (ns (nAt t i)) x with
   | true => exact .inl ⟨x, hx, e⟩
   | false => exact .inr ⟨x, hx, e⟩
 · rintro (⟨x, hx, _⟩ | ⟨x, hx, _⟩)
   · exact ⟨x, hx⟩
   · exact ⟨x, hx⟩
theorem cm_root {t : List Nd} {m : Nat} (F : Fair t (m : Int)) : cmV t m 0 = true := by
 refine (reach_iff F F.2.1).2 ?_
 rw [pw_root F]
 exact vld_some (by have := F.2.2.2.1; omega)
def cmK (t : List Nd) (m k i : Nat) : Bool := if k ≤ i then cmV t m i else cmL t m i
def cmLs (t : List Nd) (m k : Nat) : List Bool := (List.range 63).map fun i : Nat => if i < t.length then cmK t m k i else false
theorem cmLs_len (t : List Nd) (m k : Nat) : (cmLs t m k).length = 63 := by unfold cmLs; simp
theorem cmLs_at {t : List Nd} {m k i : Nat} (h : i < t.length) (hl : t.length ≤ 63) : (cmLs t m k).getD i false = cmK t m k i := by
 unfold cmLs
 simp [List.getD, show i < 63 by omega, h]
theorem cmLs_set {t : List Nd} {m k : Nat} (hk : k < t.length) (hl : t.length ≤ 63) : (cmLs t m (k + 1)).set k (cmV t m k) = cmLs t m k := by
 apply List.ext_getElem?
 intro i
 unfold cmLs
 rw [List.getElem?_set]
 by_cases e : k = i
 · subst e
   simp [show k < 63 by omega, hk, cmK]
 · rw [if_neg e]
   simp only [List.getElem?_map]
   by_cases h63 : i < 63
   · simp only [List.getElem?_range h63, Option.map_some]
     congr 1
     by_cases hi : i < t.length
     · rw [if_pos hi, if_pos hi]
       unfold cmK
       by_cases c : k ≤ i
       · rw [if_pos c, if_pos (by omega)]
       · rw [if_neg c, if_neg (by omega)]
     · rw [if_neg hi, if_neg hi]
   · rw [List.getElem?_eq_none (by simp; omega)]
     simp
theorem cmLs_leaf {t : List Nd} {m k : Nat} (hk : k < t.length) (hf : nf (nAt t k) = -1) : cmLs t m (k + 1) = cmLs t m k := by
 unfold cmLs
 apply List.map_congr_left
 intro i _
 by_cases hi : i < t.length
 · rw [if_pos hi, if_pos hi]
   unfold cmK
   by_cases e : i = k
   · subst e
     rw [if_neg (by omega), if_pos (Nat.le_refl _), cm_leaf hf]
   · by_cases c : k ≤ i
     · rw [if_pos c, if_pos (by omega)]
     · rw [if_neg c, if_neg (by omega)]
 · rw [if_neg hi, if_neg hi]
def cmR (t : List Nd) (l : List Int) : List Bool := (List.range 63).map fun i : Nat => decide ((i : Int) ∈ l)
theorem cmR_nil (t : List Nd) : cmR t [] = List.replicate 63 false := by
 unfold cmR
 rw [show (fun i : Nat => decide ((i : Int) ∈ ([] : List Int))) = fun _ => false by funext i; simp]
 simp [List.map_const']
theorem cmR_more (t : List Nd) (l : List Int) (j : Nat) (hj : j < 63) : (cmR t l).set j true = cmR t (l ++ [(j : Int)]) := by
 apply List.ext_getElem?
 intro i
 unfold cmR
 rw [List.getElem?_set]
 by_cases e : j = i
 · subst e
   simp [hj]
 · rw [if_neg e]
   simp only [List.getElem?_map]
   by_cases h63 : i < 63
   · simp only [List.getElem?_range h63, Option.map_some, List.mem_append, List.mem_singleton]
     congr 1
     have : ¬ ((i : Int) = (j : Int)) := by omega
     simp [this]
   · rw [List.getElem?_eq_none (by simp; omega)]
     simp
theorem cmR_all (t : List Nd) (m : Nat) : cmR t (rch t m t.length) = cmLs t m t.length := by
 unfold cmR cmLs
 apply List.map_congr_left
 intro i _
 by_cases hi : i < t.length
 · rw [if_pos hi]
   unfold cmK
   rw [if_neg (by omega), Bool.eq_iff_iff, decide_eq_true_iff, rch_has]
   constructor
   · rintro ⟨j, h1, h2, h3⟩
     have : i = j := by omega
     subst this
     exact h3
   · intro h; exact ⟨i, hi, rfl, h⟩
 · rw [if_neg hi, decide_eq_false_iff_not, rch_has]
   rintro ⟨j, h1, h2, h3⟩
   omega
structure Shr (t : List Nd) (m k : Nat) (sh : List Nd) (ins : List Int) : Prop where
 len : sh.length = t.length
 ilen : ins.length = 63
 old : ∀ i, i < k → nAt sh i = nAt t i
 leaf : ∀ i, k ≤ i → i < t.length → nf (nAt t i) = -1 → nAt sh i = nAt t i
 new : ∀ i, k ≤ i → i < t.length → ∃ (j : Nat) (T : BT), i ≤ j ∧ ins.getD i 0 = (j : Int) ∧ Den sh T j ∧ (cmV t m i = true → T = prn (Pw t m i) (bt t i))
theorem Shr.start {t : List Nd} {m : Nat} : Shr t m t.length t (List.replicate 63 0) :=
 ⟨rfl, by simp, fun _ _ => rfl, fun i h1 h2 => by omega, fun i h1 h2 => by omega⟩
theorem getD_set_ne {l : List Int} {i j : Nat} {x : Int} (h : i ≠ j) : (l.set i x).getD j 0 = l.getD j 0 := by
 simp only [List.getD]; rw [List.getElem?_set_ne h]
theorem getD_set_at {l : List Int} {i : Nat} {x : Int} (h : i < l.length) : (l.set i x).getD i 0 = x := by
 simp [List.getD, h]
theorem Shr.stay {t : List Nd} {m k : Nat} {sh : List Nd} {ins : List Int} (F : Fair t (m : Int)) (S : Shr t m (k + 1) sh ins) (hk : k < t.length) (hf : nf (nAt t k) = -1) : Shr t m k sh (ins.set k (k : Int)) := by
 have l63 := F.1
 have hR := F.2.2.2.2.1
 have el : k < ins.length := by rw [S.ilen]; omega
 refine ⟨S.len, by rw [List.length_set]; exact S.ilen, fun i hi => S.old i (by omega), fun i h1 h2 h3 => ?_, fun i h1 h2 => ?_⟩
 · by_cases e : i = k
   · subst e; exact S.old i (by omega)
   · exact S.leaf i (by omega) h2 h3
 · by_cases e : i = k
   · subst e
     refine ⟨i, .lf (nv (nAt t i)), Nat.le_refl _, getD_set_at el, ⟨by rw [S.len]; exact h2, ?_⟩, fun _ => ?_⟩
     · rw [S.old i (by omega)]; exact leaf_whole' hR h2 hf
     · rw [bt_leaf h2 hf]; rfl
   · obtain ⟨j, T, g1, g2, g3, g4⟩ := S.new i (by omega) h2
     exact ⟨j, T, g1, by rw [getD_set_ne (by omega)]; exact g2, g3, g4⟩
def turned (n : Nd) (a b : Int) : Nd := (nf n, nc n, a, b, ns n, nv n)
def insV (ca cb : Bool) (sh : List Nd) (k ja jb : Nat) : Nat := if ca = false then jb else if cb = false then ja else if nf (nAt sh ja) = -1 ∧ nf (nAt sh jb) = -1 ∧ nv (nAt sh ja) = nv (nAt sh jb) then ja else k
theorem Shr.sides {t : List Nd} {m k : Nat} {sh : List Nd} {ins : List Int} (F : Fair t (m : Int)) (S : Shr t m (k + 1) sh ins) (hk : k < t.length) {a b : Nat} (hf : nf (nAt t k) ≠ -1) (ea : nl (nAt t k) = a) (eb : nr (nAt t k) = b) :
 k < a ∧ a < t.length ∧ k < b ∧ b < t.length ∧ ∃ ja jb : Nat, ins.getD a 0 = (ja : Int) ∧ ins.getD b 0 = (jb : Int) ∧ k < ja ∧ ja < t.length ∧ k < jb ∧ jb < t.length ∧
  Shr t m k (sh.set k (turned (nAt t k) (ja : Int) (jb : Int))) (ins.set k (insV (cmV t m a) (cmV t m b) (sh.set k (turned (nAt t k) (ja : Int) (jb : Int))) k ja jb : Nat)) := by
 have l63 := F.1
 have hR := F.2.2.2.2.1
 have el : k < ins.length := by rw [S.ilen]; omega
 obtain ⟨a', b', ea', eb', h1, h2, h3, h4, _⟩ := ask_at hR hk hf
 have e1 : a' = a := by omega
 have e2 : b' = b := by omega
 subst e1
 subst e2
 obtain ⟨ja, TA, a1, a2, a3, a4⟩ := S.new a' (by omega) h2
 obtain ⟨jb, TB, b1, b2, b3, b4⟩ := S.new b' (by omega) h4
 have la := a3.lt
 have lb := b3.lt
 rw [S.len] at la lb
 refine ⟨h1, h2, h3, h4, ja, jb, a2, b2, by omega, la, by omega, lb, ?_⟩
 have hv : nv (nAt t k) = 0 := (node_ask (hR k hk) hf).2.2.2.2.2.2.2.1
 obtain ⟨sh', hsh⟩ : ∃ s, s = sh.set k (turned (nAt t k) (ja : Int) (jb : Int)) := ⟨_, rfl⟩
 have sl : sh'.length = sh.length := by rw [hsh, List.length_set]
 have sk : nAt sh' k = turned (nAt t k) (ja : Int) (jb : Int) := by rw [hsh]; exact set_at (by rw [S.len]; exact hk)
 have sn : ∀ q, q ≠ k → nAt sh' q = nAt sh q := fun q hq => by rw [hsh]; exact set_ne hq
 rw [← hsh]
 clear hsh
 have a3' : Den sh' TA ja := a3.keep sl (fun q hq => sn q (by omega))
 have b3' : Den sh' TB jb := b3.keep sl (fun q hq => sn q (by omega))
 obtain ⟨p1, p2⟩ := pw_sides F hk hf ea eb
 have r1 := reach_iff F h2
 have r2 := reach_iff F h4
 have x1 : (∃ x, Pw t m k x ∧ goes (nf (nAt t k)) (nc (nAt t k)) (ns (nAt t k)) x = true) ↔ ∃ x, Pw t m a' x := by
  rw [← p1]
 have x2 : (∃ x, Pw t m k x ∧ goes (nf (nAt t k)) (nc (nAt t k)) (ns (nAt t k)) x = false) ↔ ∃ x, Pw t m b' x := by
  rw [← p2]
 refine ⟨by rw [sl]; exact S.len, by rw [List.length_set]; exact S.ilen, fun i hi => by rw [sn i (by omega)]; exact S.old i (by omega), fun i g1 g2 g3 => ?_, fun i g1 g2 => ?_⟩
 · have e : i ≠ k := fun e => by subst e; exact hf g3
   rw [sn i e]
   exact S.leaf i (by omega) g2 g3
 · by_cases e : i = k
   · subst e
     rw [getD_set_at el]
     have ck := cm_ask F hk hf ea eb
     unfold insV
     cases ca : cmV t m a' with
     | false =>
       rw [if_pos rfl]
       refine ⟨jb, TB, by omega, rfl, b3', fun hc => ?_⟩
       rw [ck, ca, Bool.false_or] at hc
       have n : ¬ ∃ x, Pw t m i x ∧ goes (nf (nAt t i)) (nc (nAt t i)) (ns (nAt t i)) x = true := fun h => by
        have := r1.2 (x1.1 h)
        unfold cmV at ca
        rw [ca] at this; cases this
       rw [b4 hc, bt_ask hR hk hf ea eb, prn_left n, p2]
     | true =>
       rw [if_neg (by decide)]
       have y1 := x1.2 (r1.1 ca)
       cases cb : cmV t m b' with
       | false =>
         rw [if_pos rfl]
         refine ⟨ja, TA, by omega, rfl, a3', fun hc => ?_⟩
         have n : ¬ ∃ x, Pw t m i x ∧ goes (nf (nAt t i)) (nc (nAt t i)) (ns (nAt t i)) x = false := fun h => by
          have := r2.2 (x2.1 h)
          unfold cmV at cb
          rw [cb] at this; cases this
         rw [a4 ca, bt_ask hR hk hf ea eb, prn_right y1 n, p1]
       | true =>
         rw [if_neg (by decide)]
         have y2 := x2.2 (r2.1 cb)
         have la3 := a3'.leaf_iff
         have lb3 := b3'.leaf_iff
         have E : prn (Pw t m i) (bt t i) = joinB (nf (nAt t i)) (nc (nAt t i)) (ns (nAt t i)) TA TB := by
          rw [bt_ask hR hk hf ea eb, prn_both y1 y2, p1, p2, ← a4 ca, ← b4 cb]
         by_cases c : nf (nAt sh' ja) = -1 ∧ nf (nAt sh' jb) = -1 ∧ nv (nAt sh' ja) = nv (nAt sh' jb)
         · rw [if_pos c]
           refine ⟨ja, TA, by omega, rfl, a3', fun _ => ?_⟩
           obtain ⟨c1, c2, c3⟩ := c
           obtain ⟨v, ev⟩ := la3.1.1 c1
           obtain ⟨u, eu⟩ := lb3.1.1 c2
           rw [la3.2 v ev, lb3.2 u eu] at c3
           rw [E, ev, eu, c3]
           show _ = if u = u then BT.lf u else _
           rw [if_pos rfl]
         · rw [if_neg c]
           refine ⟨i, .nd (nf (nAt t i)) (nc (nAt t i)) (ns (nAt t i)) TA TB, Nat.le_refl _, rfl, ⟨by rw [sl, S.len]; exact hk, hf, ja, jb, ?_, by omega, by omega, a3', b3'⟩, fun _ => ?_⟩
           · rw [sk]
             unfold turned
             rw [hv]
           · rw [E, joinB_plain (fun v q => c ⟨la3.1.2 ⟨v, q.1⟩, lb3.1.2 ⟨v, q.2⟩, by rw [la3.2 v q.1, lb3.2 v q.2]⟩)]
   · obtain ⟨j, T, q1, q2, q3, q4⟩ := S.new i (by omega) g2
     exact ⟨j, T, q1, by rw [getD_set_ne (by omega)]; exact q2, q3.keep sl (fun q hq => sn q (by omega)), q4⟩
theorem Shr.done {t : List Nd} {m : Nat} {sh : List Nd} {ins : List Int} (F : Fair t (m : Int)) (S : Shr t m 0 sh ins) : ∃ j : Nat, ins.getD 0 0 = (j : Int) ∧ j < t.length ∧ Den sh (prn (vld m) (bt t 0)) j := by
 obtain ⟨j, T, q1, q2, q3, q4⟩ := S.new 0 (Nat.le_refl _) F.2.1
 have e := q4 (cm_root F)
 rw [pw_root F] at e
 rw [e] at q3
 exact ⟨j, q2, by have := q3.lt; rw [S.len] at this; exact this, q3⟩
end Go.Proofs.YtelncekgjfpogahGreatDoor.M
namespace Go.Proofs.YtelncekgjfpogahGreatDoor
open Go.ChangeShapes Go.WideShapes Go.ChangeAt Go.RowKit Go.Lib
set_option linter.unusedVariables false
def ArrB (w : World) (B g : Nat) (F : List Bool) : Prop := F.length = 63 ∧ w.ownsRow B 164 1 (.slice (some ⟨g, 0, none⟩) 63 63) 63 (F.map Value.bool)
theorem ArrB.cell {w : World} {B g : Nat} {F : List Bool} (h : ArrB w B g F) {i : Nat} (hi : i < 63) : w.cell? ⟨g, i, none⟩ = some (.bool (F.getD i false)) := by
 rw [h.2.cellAt i (by omega)]
 have := h.1
 simp [List.getD, show i < F.length by omega]
theorem ArrB.frozen {w : World} {B g : Nat} {F : List Bool} (h : ArrB w B g F) (i : Nat) : w.frozen? ⟨g, i, none⟩ = false := h.2.frozenAt i
theorem ArrB.set {w : World} {B g : Nat} {F : List Bool} (h : ArrB w B g F) (i : Nat) (x : Bool) : ArrB (w.setCell ⟨g, i, none⟩ (.bool x)) B g (F.set i x) := by
 refine ⟨by rw [List.length_set]; exact h.1, ?_⟩
 rw [List.map_set]
 exact (h.2.stored i (.bool x)).1
theorem ArrB.up {w w' : World} {B g : Nat} {F : List Bool} (h : ArrB w B g F) (hb : Below w.heap.size w w') : ArrB w' B g F := ⟨h.1, own_up h.2 hb⟩
theorem ArrB.lt {w : World} {B g : Nat} {F : List Bool} (h : ArrB w B g F) : B ≤ g ∧ g < w.heap.size := h.2.lt g rfl
theorem ArrB.of {w : World} {B g : Nat} {F : List Bool} (hl : F.length = 63) (hB : B ≤ g) (hg : w.heap[g]? = some (.cells (F.map Value.bool).toArray 164 (0, 0))) : ArrB w B g F :=
 ⟨hl, by simp [hl], .inr ⟨g, 63, _, rfl, hB, hg, Nat.le_refl _, by unfold maxLen; omega, by simp [hl], by rw [List.toList_toArray, List.take_of_length_le (by simp [hl])]⟩⟩
theorem ArrB.block {w : World} {B g : Nat} {F : List Bool} (h : ArrB w B g F) : w.heap[g]? = some (.cells (F.map Value.bool).toArray 164 (0, 0)) := by
 rcases h.2.2 with ⟨h0, _⟩ | ⟨g', cap, cur, e, h1, h2, h3, h4, h5, h6⟩
 · cases h0
 · cases e
   rw [h2]
   have : cur = (F.map Value.bool).toArray := by
    apply Array.toList_inj.1
    rw [← h6, List.take_of_length_le (by simp [h5])]
   rw [this]
theorem ArrB.new (w : World) (B : Nat) (hB : B ≤ w.heap.size) : ArrB (w.alloc (.cells ((List.replicate 63 (Value.bool false)).toArray) 164)) B w.heap.size (List.replicate 63 false) := by
 refine ⟨by simp, ?_⟩
 have := World.ownsRow_lit (base := B) (e := 164) (size := 1) w ((List.replicate 63 (Value.bool false)).toArray) 63 hB (by unfold maxLen; omega) (by simp)
 rw [List.map_replicate]
 exact this
theorem infoB : (Tryz.prog.info? 164).map (·.size) = some 63 := by kernel_rfl
theorem bools_one (F : List Bool) : (F.map Value.bool).toArray.all (·.oneCell') = true := by
 simp [Value.oneCell']
theorem setRow_same {w : World} {g : Nat} {cs : Array Value} {t : TypeId} {fr : Nat × Nat} (hg : w.heap[g]? = some (.cells cs t fr)) : w.setRow g cs = w := by
 obtain ⟨h, e⟩ := Array.getElem?_eq_some_iff.1 hg
 unfold World.setRow
 have q : ∀ h : Array Obj, h = w.heap → ({ w with heap := h } : World) = w := fun h e => by rw [e]
 apply q
 apply Array.ext
 · simp
 · intro i h1 h2
   rw [Array.getElem_modify]
   split
   · rename_i q
     subst q
     rw [e]
   · rfl
set_option maxHeartbeats 4000000 in
set_option maxRecDepth 10000 in
theorem come_any (a0 : Option Addr) (ts : List M.Nd) (cap m : Nat) (ra : Option Addr) (rc : Nat) (w : World) (h : RdN w a0 ts) (F : M.Fair ts (m : Int)) (hr : Rd w ra (M.rch ts m ts.length)) :
 Calls Tryz.prog 106 #[.slice a0 ts.length cap, .slice ra (M.rch ts m ts.length).length rc] w fun e w' => e = .returned (.agg ((M.cmLs ts m 0).map Value.bool).toArray) ∧ Below w.heap.size w w' := by
 have l63 := F.1
 have l0 := F.2.1
 have HF := hide F
 have RM : Hid (∀ x ∈ M.rch ts m ts.length, ∃ j : Nat, x = (j : Int) ∧ j < 63) := fun x hx => by
  obtain ⟨i, h1, h2, h3⟩ := (M.rch_has ts m ts.length x).1 hx
  exact ⟨i, h2, by omega⟩
 have RA : Hid (M.cmR ts (M.rch ts m ts.length) = M.cmLs ts m ts.length) := M.cmR_all ts m
 have R63 : (M.rch ts m ts.length).length ≤ 63 := Nat.le_trans (M.rch_len ts m ts.length) l63
 obtain ⟨b0, off, rfl, hb0, hc⟩ := h.2 (by intro e; rw [e] at l0; simp at l0)
 have HN : Hid (∀ W, Below w.heap.size w W → ∀ j, j < ts.length → SixAt W b0 (off + j * 6) (M.nAt ts j)) := fun W hW j hj => (hc j hj).below hW hb0
 have HR : Hid (∀ W, Below w.heap.size w W → Rd W ra (M.rch ts m ts.length)) := fun W hW => hr.below hW
 have CA : Hid (∀ i a b : Nat, i < ts.length → M.nf (M.nAt ts i) ≠ -1 → M.nl (M.nAt ts i) = a → M.nr (M.nAt ts i) = b → M.cmV ts m i = (M.cmV ts m a || M.cmV ts m b)) := fun i a b h1 h2 h3 h4 => M.cm_ask F h1 h2 h3 h4
 have HA : Hid (∀ i, i < ts.length → M.nf (M.nAt ts i) ≠ -1 → ∃ a b : Nat, M.nl (M.nAt ts i) = a ∧ M.nr (M.nAt ts i) = b ∧ i < a ∧ a < ts.length ∧ i < b ∧ b < ts.length) := fun i h1 h2 => by
  obtain ⟨a, b, ea, eb, q1, q2, q3, q4, _⟩ := M.ask_at F.2.2.2.2.1 h1 h2
  exact ⟨a, b, ea, eb, q1, q2, q3, q4⟩
 clear h hc hr F
 generalize hRL : M.rch ts m ts.length = RL at *
 clear hRL
 go_enter Tryz.func106, Tryz.ntmps106
 go_wp2
 go_loopw [6, 10] (fun _ i wr => ∃ k : Nat, k ≤ RL.length ∧ i = .int .i64 k ∧ Hid (ArrB wr w.heap.size w.heap.size (M.cmR ts (RL.take k))) ∧ Hid (Below w.heap.size w wr)) (fun _ i _ => RL.length - (intOf i).toNat)
 case atStart =>
  refine ⟨0, Nat.zero_le _, rfl, ?_, (Below.refl _ w).alloc (Nat.le_refl _) _⟩
  rw [List.take_zero, M.cmR_nil]
  exact ArrB.new w w.heap.size (Nat.le_refl _)
 case round =>
  obtain ⟨k, hk, rfl, AB, HB⟩ := hrel
  by_cases hlt : k < RL.length
  · obtain ⟨j, ej, hj⟩ := RM.out RL[k] (List.getElem_mem hlt)
    obtain ⟨rb, ro, era, hrb, hrc⟩ := (HR.out wr HB.out).2 (by intro e; rw [e] at hlt; simp at hlt)
    have c1 := hrc k hlt
    rw [show RL.getD k 0 = RL[k] by simp [List.getD, hlt], ej] at c1
    have kz : (k : Int) < (RL.length : Int) := by omega
    have c2 := AB.out.cell hj
    have f2 := AB.out.frozen j
    have N : Hid (ArrB (wr.setCell ⟨w.heap.size, j, none⟩ (.bool true)) w.heap.size w.heap.size (M.cmR ts (RL.take (k + 1)))) := by
     have := AB.out.set j true
     rw [M.cmR_more _ _ _ hj] at this
     rw [List.take_add_one, List.getElem?_eq_getElem hlt, ej]
     exact this
    have jz : (j : Int) < 63 := by omega
    subst era
    clear hrc RM HR HN HA CA RA AB ej
    go_wp2
    go_roundw
    case rel => exact ⟨k + 1, by omega, by go_num, N, HB.out.setCell (p := ⟨w.heap.size, j, none⟩) (Nat.le_refl _) _⟩
    case measure => simp [intOf] <;> omega
  · have hke : k = RL.length := by omega
    have A0 : Hid (ArrB wr w.heap.size w.heap.size (M.cmLs ts m ts.length)) := by
     have := AB.out
     rw [hke, List.take_length, RA.out] at this
     exact this
    have kz : ¬ ((k : Int) < (RL.length : Int)) := by omega
    clear hke RM HR RA AB
    go_wp2
    go_loopw [7] (fun i wr => ∃ k : Nat, k ≤ ts.length ∧ i = .int .i64 ((k : Int) - 1) ∧ Hid (ArrB wr w.heap.size w.heap.size (M.cmLs ts m k)) ∧ Hid (Below w.heap.size w wr)) (fun i _ => (intOf i + 1).toNat)
    case atStart => exact ⟨ts.length, Nat.le_refl _, by go_num, A0, HB⟩
    case round =>
     clear A0 HB
     obtain ⟨k2, hk2, hi, AB, HB⟩ := hrel
     rcases k2 with _ | i
     · replace hi : _ = Value.int .i64 (-1) := hi
       subst hi
       have hbk := AB.out.block
       clear HN HA CA
       go_upto_region 11 with fail
       go_wp2_with (first
        | (refine wpList_load_row rfl 164 (.tmp 4) rfl w.heap.size rfl 164 _ (0, 0) _ hbk Tryz.underlying164 rfl (by rw [infoB]; simp [M.cmLs_len]) ?_)
        | (refine wpList_store_row rfl 164 (.tmp 4) (.tmp 48) rfl w.heap.size _ rfl rfl 164 _ hbk (by rw [infoB]; simp [M.cmLs_len]) rfl (bools_one _) ?_; rw [setRow_same hbk]))
       refine bodyPost_ret (v := .agg ((M.cmLs ts m 0).map Value.bool).toArray) (results_cell_row rfl _ wr w.heap.size 164 _ (0, 0) _ rfl hbk Tryz.underlying164 rfl (by rw [infoB]; simp [M.cmLs_len])) rfl ⟨rfl, HB.out⟩
     · have e0 : ((i + 1 : Nat) : Int) - 1 = (i : Int) := by omega
       rw [e0] at hi
       subst hi
       clear e0
       have hil : i < ts.length := by omega
       have iz : (i : Int) < (ts.length : Int) := by omega
       obtain ⟨s0, s1, s2, s3, s4, s5⟩ := HN.out wr HB.out i hil
       by_cases hf : M.nf (M.nAt ts i) = -1
       · have q : (M.nf (M.nAt ts i) != -1) = false := by rw [bne_eq_false_iff_eq]; exact hf
         have N : Hid (ArrB wr w.heap.size w.heap.size (M.cmLs ts m i)) := by
          have := AB.out
          rw [M.cmLs_leaf hil hf] at this
          exact this
         clear HN HA CA AB hf s1 s2 s3 s4 s5
         go_wp2
         go_roundw
         case rel => exact ⟨i, by omega, by go_num, N, HB⟩
         case measure => simp [intOf] <;> omega
       · have q : (M.nf (M.nAt ts i) != -1) = true := by rw [bne_iff_ne]; exact hf
         obtain ⟨a, b, ea, eb, h1, h2, h3, h4⟩ := HA.out i hil hf
         have ce := CA.out i a b hil hf ea eb
         rw [ea] at s2
         rw [eb] at s3
         have az : (a : Int) < 63 := by omega
         have bz : (b : Int) < 63 := by omega
         have i63 : (i : Int) < 63 := by omega
         have ca := AB.out.cell (show a < 63 by omega)
         have cb := AB.out.cell (show b < 63 by omega)
         have ci := AB.out.cell (show i < 63 by omega)
         have fi := AB.out.frozen i
         rw [M.cmLs_at h2 l63, show M.cmK ts m (i + 1) a = M.cmV ts m a by unfold M.cmK; rw [if_pos (by omega)]] at ca
         rw [M.cmLs_at h4 l63, show M.cmK ts m (i + 1) b = M.cmV ts m b by unfold M.cmK; rw [if_pos (by omega)]] at cb
         have N : Hid (ArrB (wr.setCell ⟨w.heap.size, i, none⟩ (.bool (M.cmV ts m a || M.cmV ts m b))) w.heap.size w.heap.size (M.cmLs ts m i)) := by
          have := AB.out.set i (M.cmV ts m a || M.cmV ts m b)
          rw [← ce, M.cmLs_set hil l63] at this
          rw [← ce]
          exact this
         clear HN HA CA AB hf s1 s4 s5 ea eb ce
         generalize M.cmV ts m a = va at *
         generalize M.cmV ts m b = vb at *
         cases va with
         | true =>
           go_wp2
           go_roundw
           case rel => exact ⟨i, by omega, by go_num, N, HB.out.setCell (p := ⟨w.heap.size, i, none⟩) (Nat.le_refl _) _⟩
           case measure => simp [intOf] <;> omega
         | false =>
           go_wp2
           go_roundw
           case rel => exact ⟨i, by omega, by go_num, N, HB.out.setCell (p := ⟨w.heap.size, i, none⟩) (Nat.le_refl _) _⟩
           case measure => simp [intOf] <;> omega
theorem nAt_last (O : List M.Nd) (n : M.Nd) (C : List M.Nd) : M.nAt (O ++ n :: C) O.length = n := by unfold M.nAt; simp [List.getD]
theorem set_last (O : List M.Nd) (n n' : M.Nd) (C : List M.Nd) : (O ++ n :: C).set O.length n' = O ++ n' :: C := by
 rw [List.set_append_right _ _ (Nat.le_refl _), Nat.sub_self, List.set_cons_zero]
theorem six_keep {w W : World} {b off : Nat} {n : M.Nd} (hb : W.heap[b]? = w.heap[b]?) (h : SixAt w b off n) : SixAt W b off n := by
 obtain ⟨h0, h1, h2, h3, h4, h5⟩ := h
 exact ⟨(World.cell?_of_block (a := ⟨b, _, none⟩) hb).trans h0, (World.cell?_of_block (a := ⟨b, _, none⟩) hb).trans h1, (World.cell?_of_block (a := ⟨b, _, none⟩) hb).trans h2, (World.cell?_of_block (a := ⟨b, _, none⟩) hb).trans h3, (World.cell?_of_block (a := ⟨b, _, none⟩) hb).trans h4, (World.cell?_of_block (a := ⟨b, _, none⟩) hb).trans h5⟩
theorem six_alloc (w : World) (n : M.Nd) (t : TypeId) : SixAt ((w.alloc (.cells #[.int .i64 (M.nf n), .int .i64 (M.nc n), .int .i64 (M.nl n), .int .i64 (M.nr n), .bool (M.ns n), .int .i64 (M.nv n)] t)).drew) w.heap.size 0 n :=
 ⟨World.cell?_alloc_at _ _ _ 0 rfl, World.cell?_alloc_at _ _ _ 1 rfl, World.cell?_alloc_at _ _ _ 2 rfl, World.cell?_alloc_at _ _ _ 3 rfl, World.cell?_alloc_at _ _ _ 4 rfl, World.cell?_alloc_at _ _ _ 5 rfl⟩
set_option maxHeartbeats 8000000 in
set_option maxRecDepth 10000 in
theorem play_any (ts : List M.Nd) (l63 : ts.length ≤ 63) (bt ot cap B : Nat) : ∀ (T : M.BT) (i : Nat), M.Den ts T i → ∀ (O : List M.Nd) (va : Option Addr) (vc : Nat) (w : World), bt < w.heap.size → (∀ j, j < ts.length → SixAt w bt (ot + j * 6) (M.nAt ts j)) → (Value.slice va O.length vc).ownBlock ≠ some bt → w.ownsRow B 86 6 (.slice va O.length vc) O.length (ndCells O) → B ≤ w.heap.size → O.length + T.size ≤ 1000 →
 Calls Tryz.prog 73 #[.slice va O.length vc, .slice (some ⟨bt, ot, none⟩) ts.length cap, .int .i64 (i : Nat)] w fun e w' => ∃ g c, e = .returned (.slice (some ⟨g, 0, none⟩) (O.length + T.size) c) ∧ w'.ownsRow B 86 6 (.slice (some ⟨g, 0, none⟩) (O.length + T.size) c) (O.length + T.size) (ndCells (O ++ M.lay T O.length)) ∧ w.grownBy w' (Value.slice va O.length vc).ownBlock ∧ ((Value.slice va O.length vc).ownBlock = some g ∨ w.heap.size ≤ g) := by
 intro T
 induction T with
 | lf v =>
   intro i hD O va vc w hbt hct hne hv hB hsz
   obtain ⟨hi, hn⟩ := hD
   have iz : (i : Int) < (ts.length : Int) := by omega
   obtain ⟨j0, hj, hy0, hy1, hy2⟩ := info_parts infoN
   have J0 := hide hj
   have R0 := hct i hi
   rw [hn] at R0
   have HL : Hid (∀ g, (Value.slice va O.length vc).ownBlock = some g → g < w.heap.size) := fun g hg => (hv.lt g hg).2
   have HV := hide hv
   have RA : Hid (∀ o, SixAt (w.alloc o) bt (ot + i * 6) (-1, 0, 0, 0, false, v)) := fun o => R0.below ((Below.refl _ w).alloc (Nat.le_refl _) o) hbt
   have r0 : w.cell? ⟨bt, ot + i * 6, none⟩ = some (.int .i64 (-1)) := R0.1
   have a0 : ∀ o, (w.alloc o).cell? ⟨bt, ot + i * 6, none⟩ = some (.int .i64 (-1)) := fun o => (RA.out o).1
   have r1 : w.cell? ⟨bt, ot + i * 6 + 1, none⟩ = some (.int .i64 0) := R0.2.1
   have a1 : ∀ o, (w.alloc o).cell? ⟨bt, ot + i * 6 + 1, none⟩ = some (.int .i64 0) := fun o => (RA.out o).2.1
   have r2 : w.cell? ⟨bt, ot + i * 6 + 2, none⟩ = some (.int .i64 0) := R0.2.2.1
   have a2 : ∀ o, (w.alloc o).cell? ⟨bt, ot + i * 6 + 2, none⟩ = some (.int .i64 0) := fun o => (RA.out o).2.2.1
   have r3 : w.cell? ⟨bt, ot + i * 6 + 3, none⟩ = some (.int .i64 0) := R0.2.2.2.1
   have a3 : ∀ o, (w.alloc o).cell? ⟨bt, ot + i * 6 + 3, none⟩ = some (.int .i64 0) := fun o => (RA.out o).2.2.2.1
   have r4 : w.cell? ⟨bt, ot + i * 6 + 4, none⟩ = some (.bool false) := R0.2.2.2.2.1
   have a4 : ∀ o, (w.alloc o).cell? ⟨bt, ot + i * 6 + 4, none⟩ = some (.bool false) := fun o => (RA.out o).2.2.2.2.1
   have r5 : w.cell? ⟨bt, ot + i * 6 + 5, none⟩ = some (.int .i64 v) := R0.2.2.2.2.2
   have a5 : ∀ o, (w.alloc o).cell? ⟨bt, ot + i * 6 + 5, none⟩ = some (.int .i64 v) := fun o => (RA.out o).2.2.2.2.2
   have ol : O.length ≤ 1000 := by omega
   have e1 : (M.BT.lf v).size = 1 := rfl
   have e2 : M.lay (.lf v) O.length = [(-1, 0, 0, 0, false, v)] := rfl
   rw [e1, e2]
   have HC := hide True.intro
   have HE := hide True.intro
   clear hv hct hj hne hn hsz e1 e2 R0 RA
   go_enter Tryz.func73, Tryz.ntmps73
   go_upto_region 1 with fail
   go_cut [7, 8] from 9 to 14 (fun x y wx => x = .int .i64 (O.length : Int) ∧ y = .pointer (some ⟨w.heap.size, 0, none⟩) ∧ Hid (Below w.heap.size w wx ∧ wx.heap.size = w.heap.size + 1 ∧ SixAt wx w.heap.size 0 (-1, 0, 0, 0, false, v)))
   case first =>
    clear HC HL HV HE
    go_region
    all_goals (
     go_wp2
     go_meet
     case rel => exact ⟨rfl, rfl, ((Below.refl _ w).alloc (Nat.le_refl _) _).drew, by simp, six_alloc w (-1, 0, 0, 0, false, v) _⟩)
   case rest =>
    obtain ⟨rfl, rfl, HX⟩ := hcut
    clear r0 r1 r2 r3 r4 r5 a0 a1 a2 a3 a4 a5
    have HO := hide (own_up HV.out HX.out.1)
    have ws := HX.out.2.1
    have s0 : wc.cell? ⟨w.heap.size, 0, none⟩ = some (.int .i64 (-1)) := HX.out.2.2.1
    have s1 : wc.cell? ⟨w.heap.size, 1, none⟩ = some (.int .i64 0) := HX.out.2.2.2.1
    have s2 : wc.cell? ⟨w.heap.size, 2, none⟩ = some (.int .i64 0) := HX.out.2.2.2.2.1
    have s3 : wc.cell? ⟨w.heap.size, 3, none⟩ = some (.int .i64 0) := HX.out.2.2.2.2.2.1
    have s4 : wc.cell? ⟨w.heap.size, 4, none⟩ = some (.bool false) := HX.out.2.2.2.2.2.2.1
    have s5 : wc.cell? ⟨w.heap.size, 5, none⟩ = some (.int .i64 v) := HX.out.2.2.2.2.2.2.2
    have KB : Hid (∀ W, wc.grownBy W (Value.slice va O.length vc).ownBlock → W.cell? ⟨w.heap.size, 0, none⟩ = some (.int .i64 (-1))) := fun W hW => (six_keep (hW.block _ (by omega) (fun e => by have := HL.out _ e.symm; omega)) HX.out.2.2).1
    have WS := hide ws
    clear ws
    go_wp2_with (at_builtin; refine wpList_append_lies _ rfl (.tmp 15) (.tmp 17) 66 rfl B 86 j0 (.agg #[.int .i64 0, .int .i64 0, .int .i64 0, .int .i64 0, .bool false, .int .i64 0]) 6 48 Tryz.underlying66 J0.out hy0 hy1 hy2 rfl (by omega) (.slice va O.length vc) O.length (ndCells O) rfl (HO.out.alloc _) ⟨wc.heap.size, 0, none⟩ 1 1 [.int .i64 (-1), .int .i64 0, .int .i64 0, .int .i64 0, .bool false, .int .i64 v] rfl rfl (World.news_of_block (heap_alloc_new _ _)) (by simp [Value.oneCell']) (by omega) (by unfold maxLen; omega) (by omega) (by simp; have := WS.out; omega) (wc.heap.size + 1) (by simp) ?_)
    intro g1 c1 w1 hov hgrow hat hlt1
    have HO1 : Hid (w1.ownsRow B 86 6 (.slice (some ⟨g1, 0, none⟩) (O.length + 1) c1) (O.length + 1) (ndCells (O ++ [(-1, 0, 0, 0, false, v)]))) := by
     unfold Hid; rw [ndCells_app]; exact hov
    have G1 : Hid (wc.grownBy w1 (Value.slice va O.length vc).ownBlock) := grown_trans (World.grownBy_alloc wc _ _) hgrow (.inl rfl)
    have A1 : Hid ((Value.slice va O.length vc).ownBlock = some g1 ∨ w.heap.size ≤ g1) := by
     rcases hat with q | q
     · exact .inl q
     · exact .inr (by have := WS.out; omega)
    have z0 := KB.out w1 G1.out
    clear hov hgrow hat HV HO s0 s1 s2 s3 s4 s5 KB
    go_wp2
    go_ret
    exact ⟨g1, c1, rfl, HO1.out, grown_trans (grown_of HX.out.1 _) G1.out (.inl rfl), A1.out⟩
 | nd f c s l r ihl ihr =>
   intro i hD O va vc w hbt hct hne hv hB hsz
   obtain ⟨hi, hf, a, b, hn, hia, hib, hDl, hDr⟩ := hD
   have iz : (i : Int) < (ts.length : Int) := by omega
   obtain ⟨j0, hj, hy0, hy1, hy2⟩ := info_parts infoN
   have J0 := hide hj
   have R0 := hct i hi
   rw [hn] at R0
   have HL : Hid (∀ g, (Value.slice va O.length vc).ownBlock = some g → g < w.heap.size) := fun g hg => (hv.lt g hg).2
   have HV := hide hv
   have RA : Hid (∀ o, SixAt (w.alloc o) bt (ot + i * 6) (f, c, (a : Int), (b : Int), s, 0)) := fun o => R0.below ((Below.refl _ w).alloc (Nat.le_refl _) o) hbt
   have r0 : w.cell? ⟨bt, ot + i * 6, none⟩ = some (.int .i64 f) := R0.1
   have a0 : ∀ o, (w.alloc o).cell? ⟨bt, ot + i * 6, none⟩ = some (.int .i64 f) := fun o => (RA.out o).1
   have r1 : w.cell? ⟨bt, ot + i * 6 + 1, none⟩ = some (.int .i64 c) := R0.2.1
   have a1 : ∀ o, (w.alloc o).cell? ⟨bt, ot + i * 6 + 1, none⟩ = some (.int .i64 c) := fun o => (RA.out o).2.1
   have r2 : w.cell? ⟨bt, ot + i * 6 + 2, none⟩ = some (.int .i64 (a : Int)) := R0.2.2.1
   have a2 : ∀ o, (w.alloc o).cell? ⟨bt, ot + i * 6 + 2, none⟩ = some (.int .i64 (a : Int)) := fun o => (RA.out o).2.2.1
   have r3 : w.cell? ⟨bt, ot + i * 6 + 3, none⟩ = some (.int .i64 (b : Int)) := R0.2.2.2.1
   have a3 : ∀ o, (w.alloc o).cell? ⟨bt, ot + i * 6 + 3, none⟩ = some (.int .i64 (b : Int)) := fun o => (RA.out o).2.2.2.1
   have r4 : w.cell? ⟨bt, ot + i * 6 + 4, none⟩ = some (.bool s) := R0.2.2.2.2.1
   have a4 : ∀ o, (w.alloc o).cell? ⟨bt, ot + i * 6 + 4, none⟩ = some (.bool s) := fun o => (RA.out o).2.2.2.2.1
   have r5 : w.cell? ⟨bt, ot + i * 6 + 5, none⟩ = some (.int .i64 0) := R0.2.2.2.2.2
   have a5 : ∀ o, (w.alloc o).cell? ⟨bt, ot + i * 6 + 5, none⟩ = some (.int .i64 0) := fun o => (RA.out o).2.2.2.2.2
   have ol : O.length ≤ 1000 := by omega
   have hf' : (f == -1) = false := by rw [beq_eq_false_iff_ne]; exact hf
   have IA := hide (ihl a hDl)
   have IB := hide (ihr b hDr)
   have LA : Hid (∀ k, (M.lay l k).length = l.size) := fun k => M.lay_len _ k
   have e1 : (M.BT.nd f c s l r).size = 1 + l.size + r.size := rfl
   have e2 : M.lay (.nd f c s l r) O.length = (f, c, ((O.length + 1 : Nat) : Int), ((O.length + 1 + l.size : Nat) : Int), s, 0) :: (M.lay l (O.length + 1) ++ M.lay r (O.length + 1 + l.size)) := rfl
   have cz1 : ((O.length + 1 : Nat) : Int) = (O.length : Int) + 1 := by omega
   have cz2 : ((O.length + 1 + l.size : Nat) : Int) = (O.length : Int) + 1 + (l.size : Int) := by omega
   rw [e1] at hsz
   rw [e1, e2, cz1, cz2, show O.length + (1 + l.size + r.size) = O.length + 1 + l.size + r.size by omega]
   have HC := hide hct
   have HE := hide hne
   clear hv hct hj hne hn e1 e2 cz1 cz2 R0 RA ihl ihr hDl hDr hf
   generalize htl : l.size = sl at *
   generalize htr : r.size = sr at *
   have TL := hide htl
   have TR := hide htr
   clear htl htr
   go_enter Tryz.func73, Tryz.ntmps73
   go_upto_region 1 with fail
   go_cut [7, 8] from 9 to 14 (fun x y wx => x = .int .i64 (O.length : Int) ∧ y = .pointer (some ⟨w.heap.size, 0, none⟩) ∧ Hid (Below w.heap.size w wx ∧ wx.heap.size = w.heap.size + 1 ∧ SixAt wx w.heap.size 0 (f, c, (a : Int), (b : Int), s, 0)))
   case first =>
    clear HC HL HV HE
    go_region
    all_goals (
     go_wp2
     go_meet
     case rel => exact ⟨rfl, rfl, ((Below.refl _ w).alloc (Nat.le_refl _) _).drew, by simp, six_alloc w (f, c, (a : Int), (b : Int), s, 0) _⟩)
   case rest =>
    obtain ⟨rfl, rfl, HX⟩ := hcut
    clear r0 r1 r2 r3 r4 r5 a0 a1 a2 a3 a4 a5
    have HO := hide (own_up HV.out HX.out.1)
    have ws := HX.out.2.1
    have s0 : wc.cell? ⟨w.heap.size, 0, none⟩ = some (.int .i64 f) := HX.out.2.2.1
    have s1 : wc.cell? ⟨w.heap.size, 1, none⟩ = some (.int .i64 c) := HX.out.2.2.2.1
    have s2 : wc.cell? ⟨w.heap.size, 2, none⟩ = some (.int .i64 (a : Int)) := HX.out.2.2.2.2.1
    have s3 : wc.cell? ⟨w.heap.size, 3, none⟩ = some (.int .i64 (b : Int)) := HX.out.2.2.2.2.2.1
    have s4 : wc.cell? ⟨w.heap.size, 4, none⟩ = some (.bool s) := HX.out.2.2.2.2.2.2.1
    have s5 : wc.cell? ⟨w.heap.size, 5, none⟩ = some (.int .i64 0) := HX.out.2.2.2.2.2.2.2
    have KB : Hid (∀ W, wc.grownBy W (Value.slice va O.length vc).ownBlock → W.cell? ⟨w.heap.size, 0, none⟩ = some (.int .i64 f) ∧ W.cell? ⟨w.heap.size, 2, none⟩ = some (.int .i64 (a : Int)) ∧ W.cell? ⟨w.heap.size, 3, none⟩ = some (.int .i64 (b : Int))) := fun W hW => by
     have q := six_keep (hW.block w.heap.size (by omega) (fun e => by have := HL.out _ e.symm; omega)) HX.out.2.2
     exact ⟨q.1, q.2.2.1, q.2.2.2.1⟩
    have KC : Hid (∀ W, wc.grownBy W (Value.slice va O.length vc).ownBlock → bt < W.heap.size ∧ wc.heap.size ≤ W.heap.size ∧ ∀ j, j < ts.length → SixAt W bt (ot + j * 6) (M.nAt ts j)) := fun W hW => by
     refine ⟨by have := hW.size; omega, hW.size, fun j hj => ?_⟩
     exact six_keep (hW.block bt (by omega) (fun e => HE.out e.symm)) ((HC.out j hj).below HX.out.1 hbt)
    have WS := hide ws
    clear ws
    go_wp2_with (at_builtin; refine wpList_append_lies _ rfl (.tmp 15) (.tmp 17) 66 rfl B 86 j0 (.agg #[.int .i64 0, .int .i64 0, .int .i64 0, .int .i64 0, .bool false, .int .i64 0]) 6 48 Tryz.underlying66 J0.out hy0 hy1 hy2 rfl (by omega) (.slice va O.length vc) O.length (ndCells O) rfl (HO.out.alloc _) ⟨wc.heap.size, 0, none⟩ 1 1 [.int .i64 f, .int .i64 c, .int .i64 (a : Int), .int .i64 (b : Int), .bool s, .int .i64 0] rfl rfl (World.news_of_block (heap_alloc_new _ _)) (by simp [Value.oneCell']) (by omega) (by unfold maxLen; omega) (by omega) (by simp; have := WS.out; omega) (wc.heap.size + 1) (by simp) ?_)
    intro g1 c1 w1 hov hgrow hat hlt1
    have HO1 : Hid (w1.ownsRow B 86 6 (.slice (some ⟨g1, 0, none⟩) (O.length + 1) c1) (O.length + 1) (ndCells (O ++ [(f, c, (a : Int), (b : Int), s, (0 : Int))]))) := by
     unfold Hid; rw [ndCells_app]; exact hov
    have G1 : Hid (wc.grownBy w1 (Value.slice va O.length vc).ownBlock) := grown_trans (World.grownBy_alloc wc _ _) hgrow (.inl rfl)
    have A1 : Hid ((Value.slice va O.length vc).ownBlock = some g1 ∨ wc.heap.size ≤ g1) := by
     rcases hat with q | q
     · exact .inl q
     · exact .inr (by omega)
    have L0 : O.length < (O ++ [(f, c, (a : Int), (b : Int), s, (0 : Int))]).length := by simp
    obtain ⟨t0, t2, t3⟩ := KB.out w1 G1.out
    obtain ⟨x0, x1, x2, x3, x4, x5⟩ := ndCells_at _ O.length L0
    have q2 := (HO1.out.cellAt (O.length * 6 + 2) (by omega)).trans x2
    have fz2 := HO1.out.frozenAt (O.length * 6 + 2)
    have oz : ((O.length : Nat) : Int) < ((O.length + 1 : Nat) : Int) := by omega
    clear hov hgrow hat HV HO s0 s1 s2 s3 s4 s5 x0 x1 x2 x3 x4 x5 L0
    go_upto_region 6 with fail
    obtain ⟨w2, hw2⟩ : ∃ W, W = w1.setCell ⟨g1, O.length * 6 + 2, none⟩ (.int .i64 ((O.length : Int) + 1)) := ⟨_, rfl⟩
    rw [← hw2]
    have g1s : Hid ((some g1 : Option Nat) = (Value.slice va O.length vc).ownBlock ∨ ∀ q, (some g1 : Option Nat) = some q → wc.heap.size ≤ q) := by
     rcases A1.out with q | q
     · exact .inl q.symm
     · exact .inr (fun z hz => by cases hz; exact q)
    have HO2 : Hid (w2.ownsRow B 86 6 (.slice (some ⟨g1, 0, none⟩) (O.length + 1) c1) (O.length + 1) (ndCells (O ++ [(f, c, (O.length : Int) + 1, (b : Int), s, (0 : Int))]))) := by
     have st := (HO1.out.stored (O.length * 6 + 2) (.int .i64 ((O.length : Int) + 1))).1
     rw [ndCells_setL _ O.length (by simp), nAt_last, set_last] at st
     rw [hw2]
     exact st
    have G2 : Hid (wc.grownBy w2 (Value.slice va O.length vc).ownBlock) := by
     rw [hw2]
     exact grown_trans G1.out grown_set g1s.out
    have gne : Hid (g1 ≠ bt) := fun e => by
     subst e
     rcases A1.out with q | q
     · exact HE.out q
     · have := WS.out; omega
    obtain ⟨kc1, kc2, kc3⟩ := KC.out w2 G2.out
    have I1 := IA.out (O ++ [(f, c, (O.length : Int) + 1, (b : Int), s, (0 : Int))]) (some ⟨g1, 0, none⟩) c1 w2 kc1 kc3 (fun e => gne.out (by cases e; rfl)) (by rw [List.length_append]; exact HO2.out) (by have := WS.out; omega) (by rw [List.length_append]; simp; omega)
    rw [show (O ++ [(f, c, (O.length : Int) + 1, (b : Int), s, (0 : Int))]).length = O.length + 1 by simp] at I1
    have HI1 := hide I1
    obtain ⟨u0, u2, u3⟩ := KB.out w2 G2.out
    clear hw2 I1 HO1 q2 fz2 t0 t2 t3 kc1 kc3 IA
    go_upto_region 7 with (go_at_call 73; refine HI1.out.mono ?_; rintro e w3 ⟨g3, c3, rfl, ho3, hg3, ha3⟩)
    have G3 : Hid (wc.grownBy w3 (Value.slice va O.length vc).ownBlock) := grown_trans G2.out hg3 g1s.out
    have A3 : Hid ((Value.slice va O.length vc).ownBlock = some g3 ∨ wc.heap.size ≤ g3) := by
     rcases ha3 with q | q
     · have e : g1 = g3 := by simpa [Value.ownBlock] using q
       rw [← e]; exact A1.out
     · exact .inr (Nat.le_trans kc2 q)
    have HO3 : Hid (w3.ownsRow B 86 6 (.slice (some ⟨g3, 0, none⟩) (O.length + 1 + sl) c3) (O.length + 1 + sl) (ndCells (O ++ (f, c, (O.length : Int) + 1, (b : Int), s, (0 : Int)) :: M.lay l (O.length + 1)))) := by
     have := ho3
     rw [List.append_assoc] at this
     exact this
    have L3 : O.length < (O ++ (f, c, (O.length : Int) + 1, (b : Int), s, (0 : Int)) :: M.lay l (O.length + 1)).length := by simp
    obtain ⟨x0, x1, x2, x3, x4, x5⟩ := ndCells_at _ O.length L3
    have q3 := (HO3.out.cellAt (O.length * 6 + 3) (by omega)).trans x3
    have fz3 := HO3.out.frozenAt (O.length * 6 + 3)
    have oz3 : ((O.length : Nat) : Int) < ((O.length + 1 + sl : Nat) : Int) := by omega
    clear ho3 hg3 ha3 HO2 x0 x1 x2 x3 x4 x5 L3 u0 u2 u3 HI1 kc2
    go_upto_region 8 with fail
    obtain ⟨w4, hw4⟩ : ∃ W, W = w3.setCell ⟨g3, O.length * 6 + 3, none⟩ (.int .i64 ((O.length : Int) + 1 + (sl : Int))) := ⟨_, rfl⟩
    rw [← hw4]
    have g3s : Hid ((some g3 : Option Nat) = (Value.slice va O.length vc).ownBlock ∨ ∀ q, (some g3 : Option Nat) = some q → wc.heap.size ≤ q) := by
     rcases A3.out with q | q
     · exact .inl q.symm
     · exact .inr (fun z hz => by cases hz; exact q)
    have HO4 : Hid (w4.ownsRow B 86 6 (.slice (some ⟨g3, 0, none⟩) (O.length + 1 + sl) c3) (O.length + 1 + sl) (ndCells (O ++ (f, c, (O.length : Int) + 1, (O.length : Int) + 1 + (sl : Int), s, (0 : Int)) :: M.lay l (O.length + 1)))) := by
     have st := (HO3.out.stored (O.length * 6 + 3) (.int .i64 ((O.length : Int) + 1 + (sl : Int)))).1
     rw [ndCells_setR _ O.length (by simp), nAt_last, set_last] at st
     rw [hw4]
     exact st
    have G4 : Hid (wc.grownBy w4 (Value.slice va O.length vc).ownBlock) := by
     rw [hw4]
     exact grown_trans G3.out grown_set g3s.out
    have gne3 : Hid (g3 ≠ bt) := fun e => by
     subst e
     rcases A3.out with q | q
     · exact HE.out q
     · have := WS.out; omega
    obtain ⟨kc1, kc2, kc3⟩ := KC.out w4 G4.out
    have len4 : (O ++ (f, c, (O.length : Int) + 1, (O.length : Int) + 1 + (sl : Int), s, (0 : Int)) :: M.lay l (O.length + 1)).length = O.length + 1 + sl := by
     rw [List.length_append, List.length_cons, LA.out]; omega
    have I2 := IB.out (O ++ (f, c, (O.length : Int) + 1, (O.length : Int) + 1 + (sl : Int), s, (0 : Int)) :: M.lay l (O.length + 1)) (some ⟨g3, 0, none⟩) c3 w4 kc1 kc3 (fun e => gne3.out (by cases e; rfl)) (by rw [len4]; exact HO4.out) (by have := WS.out; omega) (by rw [len4]; omega)
    rw [len4] at I2
    have HI2 := hide I2
    obtain ⟨u0, u2, u3⟩ := KB.out w4 G4.out
    clear hw4 I2 HO3 q3 fz3 len4 KB KC IB kc1 kc3 HC HE
    go_wp2_with (go_at_call 73; refine HI2.out.mono ?_; rintro e w5 ⟨g5, c5, rfl, ho5, hg5, ha5⟩)
    go_ret
    refine ⟨g5, c5, rfl, ?_, grown_trans (grown_of HX.out.1 _) (grown_trans G4.out hg5 g3s.out) (.inl rfl), ?_⟩
    · rw [List.append_assoc, List.cons_append] at ho5
      exact ho5
    · have := HX.out.1.size
      rcases ha5 with q | q
      · have e : g3 = g5 := by simpa [Value.ownBlock] using q
        rw [← e]
        rcases A3.out with q | q
        · exact .inl q
        · exact .inr (by omega)
      · exact .inr (by omega)
end Go.Proofs.YtelncekgjfpogahGreatDoor
namespace Go.Proofs.YtelncekgjfpogahGreatDoor.M
set_option linter.unusedVariables false
def upD (t : List Nd) : Nat → Nat → List Nat
 | n, 0 => []
 | n, a + 1 => if nl (nAt t a) = (n : Int) ∨ nr (nAt t a) = (n : Int) then a :: upD t a a else upD t n a
def upW (t : List Nd) (k : Nat) : List Nat := k :: upD t k k
def wayN (t : List Nd) (k : Nat) : List Int := (upW t k).reverse.map Int.ofNat
theorem upD_zero (t : List Nd) (n : Nat) : upD t n 0 = [] := by unfold upD; rfl
theorem upD_yes {t : List Nd} {n a : Nat} (h : nl (nAt t a) = (n : Int) ∨ nr (nAt t a) = (n : Int)) : upD t n (a + 1) = a :: upD t a a := by rw [upD, if_pos h]
theorem upD_no {t : List Nd} {n a : Nat} (h : ¬ (nl (nAt t a) = (n : Int) ∨ nr (nAt t a) = (n : Int))) : upD t n (a + 1) = upD t n a := by rw [upD, if_neg h]
theorem upD_len (t : List Nd) : ∀ (a n : Nat), (upD t n a).length ≤ a := by
 intro a
 induction a using Nat.strongRecOn with
 | _ a ih =>
   intro n
   rcases a with _ | b
   · rw [upD_zero]; exact Nat.le_refl 0
   · by_cases h : nl (nAt t b) = (n : Int) ∨ nr (nAt t b) = (n : Int)
     · rw [upD_yes h, List.length_cons]; have := ih b (by omega) b; omega
     · rw [upD_no h]; have := ih b (by omega) n; omega
theorem upW_len (t : List Nd) (k : Nat) : (upW t k).length ≤ k + 1 := by unfold upW; rw [List.length_cons]; have := upD_len t k k; omega
theorem leaf_zero {t : List Nd} {m : Int} (h : Right t m) {i : Nat} (hi : i < t.length) (hl : nf (nAt t i) = -1) : nl (nAt t i) = 0 ∧ nr (nAt t i) = 0 := by
 have := h i hi
 unfold nodeF at this
 rw [if_pos hl] at this
 unfold lfF at this
 split at this
 · cases this
 · split at this
   · cases this
   · rename_i h1 h2
     simp at h1 h2
     omega
theorem upD_up {t : List Nd} {m : Int} (F : Fair t m) {k u : Nat} (hk : k < t.length) (hu : u < t.length) (hc : chL (nAt t u) k) : upD t k k = u :: upD t u u := by
 have hlt : u < k := abv_lt F hk ((abv_iff F hk).2 ⟨hu, hc⟩)
 have step : ∀ d, u + 1 + d ≤ k → upD t k (u + 1 + d) = u :: upD t u u := by
  intro d
  induction d with
  | zero => intro _; exact upD_yes hc.2
  | succ d ih =>
    intro hd
    rw [show u + 1 + (d + 1) = (u + 1 + d) + 1 by omega, upD_no, ih (by omega)]
    intro q
    have hv : u + 1 + d < t.length := by omega
    by_cases hl : nf (nAt t (u + 1 + d)) = -1
    · have := leaf_zero F.2.2.2.2.1 hv hl; omega
    · have := up_one (F.2.2.2.2.2 k (by omega) hk) hu hv hc ⟨hl, q⟩
      omega
 have := step (k - (u + 1)) (by omega)
 rwa [show u + 1 + (k - (u + 1)) = k by omega] at this
def stp (t : List Nd) (u k : Nat) (l : List Sp) : List Sp := l.set (nf (nAt t u)).toNat (narrow (nAt t u) (decide (nl (nAt t u) = (k : Int))) (l.getD (nf (nAt t u)).toNat (0, 0, false)))
theorem if_min (a b : Int) : (if a < b then a else b) = min a b := by split <;> omega
theorem if_max (a b : Int) : (if a < b then b else a) = max a b := by split <;> omega
theorem narrow_swap (n n' : Nd) (b b' : Bool) (s : Sp) : narrow n b (narrow n' b' s) = narrow n' b' (narrow n b s) := by
 obtain ⟨x, y, z⟩ := s
 unfold narrow
 simp only [if_min, if_max]
 cases b <;> cases b' <;> simp only [if_true, Bool.false_eq_true, if_false, Prod.mk.injEq, true_and] <;> (try refine ⟨?_, ?_⟩) <;> first
  | omega
  | (cases z <;> cases ns n <;> cases ns n' <;> rfl)
theorem stp_swap (t : List Nd) (u k v j : Nat) (l : List Sp) : stp t u k (stp t v j l) = stp t v j (stp t u k l) := by
 unfold stp
 generalize (nf (nAt t u)).toNat = p
 generalize (nf (nAt t v)).toNat = q
 by_cases e : p = q
 · subst e
   by_cases hp : p < l.length
   · rw [gd_self hp, gd_self hp, narrow_swap]; simp
   · simp [List.set_eq_of_length_le (Nat.not_lt.1 hp)]
 · rw [gd_ne e, gd_ne (fun h => e h.symm), List.set_comm _ _ (fun h => e h.symm)]
theorem regD_stp (t : List Nd) (v j : Nat) : ∀ (f k : Nat) (l : List Sp), regD t f k (stp t v j l) = stp t v j (regD t f k l)
 | 0, k, l => rfl
 | f + 1, k, l => by
   unfold regD
   cases abv t k with
   | none => rfl
   | some u =>
     show regD t f u (stp t u k (stp t v j l)) = stp t v j (regD t f u (stp t u k l))
     rw [stp_swap, regD_stp t v j f u]
theorem regD_fuel {t : List Nd} {m : Int} (F : Fair t m) : ∀ (f g k : Nat) (l : List Sp), k < t.length → k < f → k < g → regD t f k l = regD t g k l
 | 0, g, k, l, hk, hf, hg => by omega
 | f + 1, 0, k, l, hk, hf, hg => by omega
 | f + 1, g + 1, k, l, hk, hf, hg => by
   unfold regD
   cases e : abv t k with
   | none => rfl
   | some u =>
     have := abv_lt F hk e
     exact regD_fuel F f g u _ (by omega) (by omega) (by omega)
theorem region_root {t : List Nd} {m : Nat} (F : Fair t (m : Int)) : region t m 0 = List.replicate m all0 := by
 unfold region
 obtain ⟨f, e⟩ : ∃ f, t.length = f + 1 := ⟨t.length - 1, by have := F.2.1; omega⟩
 rw [e]
 unfold regD
 rw [abv_root F]
theorem region_next {t : List Nd} {m : Nat} (F : Fair t (m : Int)) {u k : Nat} (hu : u < t.length) (hk : k < t.length) (hc : chL (nAt t u) k) : region t m k = stp t u k (region t m u) := by
 have ha : abv t k = some u := (abv_iff F hk).2 ⟨hu, hc⟩
 have hlt := abv_lt F hk ha
 unfold region
 obtain ⟨f, e⟩ : ∃ f, t.length = f + 1 := ⟨t.length - 1, by omega⟩
 rw [← regD_stp, regD_fuel F t.length f u _ hu hu (by omega)]
 conv => lhs; rw [e]; unfold regD; rw [ha]
 rfl
theorem norm_narrow (n : Nd) (b : Bool) (s : Sp) : norm (narrow n b (norm s)) = norm (narrow n b s) := by
 obtain ⟨x, y, z⟩ := s
 unfold norm narrow
 simp only [if_min, if_max]
 by_cases h : y < x
 · rw [if_pos h]
   cases b
   · simp only [Bool.false_eq_true, if_false]
     rw [if_pos (by omega), if_pos (by omega)]
   · simp only [if_true]
     rw [if_pos (by omega), if_pos (by omega)]
 · rw [if_neg h]
theorem map_getD_norm (l : List Sp) {i : Nat} (h : i < l.length) : (l.map norm).getD i (0, 0, false) = norm (l.getD i (0, 0, false)) := by
 rw [getD_at (by simpa using h), getD_at h]; simp
theorem region_norm {t : List Nd} {m : Nat} (F : Fair t (m : Int)) {u k : Nat} (hu : u < t.length) (hk : k < t.length) (hc : chL (nAt t u) k) :
 (region t m k).map norm = ((region t m u).map norm).set (nf (nAt t u)).toNat (norm (narrow (nAt t u) (decide (nl (nAt t u) = (k : Int))) (((region t m u).map norm).getD (nf (nAt t u)).toNat (0, 0, false)))) := by
 rw [region_next F hu hk hc]
 unfold stp
 rw [List.map_set]
 by_cases h : (nf (nAt t u)).toNat < (region t m u).length
 · rw [map_getD_norm _ h, norm_narrow]
 · rw [List.set_eq_of_length_le (by simpa using h), List.set_eq_of_length_le (by simpa using h)]
theorem all_norm (m : Nat) : (List.replicate m all0).map norm = List.replicate m all0 := by
 rw [List.map_replicate]; rfl
theorem upD_pair {t : List Nd} {m : Int} (F : Fair t m) : ∀ (a n : Nat), n < t.length → a ≤ n → ∀ i x y, (n :: upD t n a)[i]? = some y → (n :: upD t n a)[i + 1]? = some x → x < t.length ∧ y < t.length ∧ chL (nAt t x) y := by
 intro a
 induction a using Nat.strongRecOn with
 | _ a ih =>
   intro n hn han i x y h1 h2
   rcases a with _ | b
   · rw [upD_zero] at h2; simp at h2
   · by_cases h : nl (nAt t b) = (n : Int) ∨ nr (nAt t b) = (n : Int)
     · rw [upD_yes h] at h1 h2
       rcases i with _ | i
       · simp at h1 h2
         subst h1; subst h2
         refine ⟨by omega, hn, ?_, h⟩
         intro q
         have := leaf_zero F.2.2.2.2.1 (show b < t.length by omega) q
         omega
       · simp only [List.getElem?_cons_succ] at h1 h2
         exact ih b (by omega) b (by omega) (Nat.le_refl _) i x y h1 (by simpa using h2)
     · rw [upD_no h] at h1 h2
       exact ih b (by omega) n hn (by omega) i x y h1 h2
theorem upD_last {t : List Nd} {m : Int} (F : Fair t m) : ∀ (k : Nat), k < t.length → (upW t k).getLast? = some 0 := by
 intro k
 induction k using Nat.strongRecOn with
 | _ k ih =>
   intro hk
   rcases Nat.eq_zero_or_pos k with rfl | hp
   · unfold upW; rw [upD_zero]; rfl
   · obtain ⟨u, hu⟩ := abv_some F hk hp
     obtain ⟨h1, h2⟩ := (abv_iff F hk).1 hu
     have hl := abv_lt F hk hu
     have := ih u hl h1
     unfold upW at this ⊢
     rw [upD_up F hk h1 h2, List.getLast?_cons_cons]
     exact this
def upL (t : List Nd) (k : Nat) : List Nat := (upW t k).reverse
theorem upL_len (t : List Nd) (k : Nat) : 0 < (upL t k).length ∧ (upL t k).length ≤ k + 1 := by
 unfold upL
 rw [List.length_reverse]
 exact ⟨by unfold upW; simp, upW_len t k⟩
theorem upL_first {t : List Nd} {m : Int} (F : Fair t m) {k : Nat} (hk : k < t.length) : (upL t k).getD 0 0 = 0 := by
 have h := upD_last F k hk
 unfold upL
 have : (upW t k).reverse.head? = some 0 := by rw [List.head?_reverse]; exact h
 rw [List.getD_eq_getElem?_getD, ← List.head?_eq_getElem?, this]; rfl
theorem upL_end (t : List Nd) (k : Nat) : (upL t k).getD ((upL t k).length - 1) 0 = k := by
 unfold upL upW
 simp
theorem upL_pair {t : List Nd} {m : Int} (F : Fair t m) {k : Nat} (hk : k < t.length) {i : Nat} (hi : i + 1 < (upL t k).length) :
 (upL t k).getD i 0 < t.length ∧ (upL t k).getD (i + 1) 0 < t.length ∧ chL (nAt t ((upL t k).getD i 0)) ((upL t k).getD (i + 1) 0) := by
 have hl : (upL t k).length = (upW t k).length := by unfold upL; simp
 have e1 : (upW t k)[(upW t k).length - 1 - i]? = some ((upL t k).getD i 0) := by
  unfold upL at hi ⊢
  rw [List.length_reverse] at hi
  rw [List.getD_eq_getElem?_getD, List.getElem?_reverse (by omega), List.getElem?_eq_getElem (by omega)]; rfl
 have e2 : (upW t k)[(upW t k).length - 1 - (i + 1)]? = some ((upL t k).getD (i + 1) 0) := by
  unfold upL at hi ⊢
  rw [List.length_reverse] at hi
  rw [List.getD_eq_getElem?_getD, List.getElem?_reverse (by omega), List.getElem?_eq_getElem (by omega)]; rfl
 have := upD_pair F k k hk (Nat.le_refl _) ((upW t k).length - 1 - (i + 1)) _ _ e2 (by rw [← e1]; congr 1; omega)
 exact this
theorem wayN_at (t : List Nd) (k i : Nat) (h : i < (upL t k).length) : (wayN t k).getD i 0 = ((upL t k).getD i 0 : Nat) := by
 unfold wayN
 show ((upL t k).map Int.ofNat).getD i 0 = _
 rw [getD_at (by simpa using h), getD_at h]
 simp
theorem wayN_len (t : List Nd) (k : Nat) : (wayN t k).length = (upL t k).length := by unfold wayN upL; simp
end Go.Proofs.YtelncekgjfpogahGreatDoor.M
