/-
  Several texts as one: MathLa, MathDf, DifPT, MathLv, MathDg, Keeps, MathLb, MathLc, MathDh.
-/
import Derived.Test.YtelncekgjfpogahGreatDoorRunT9
import Derived.Test.YtelncekgjfpogahGreatDoorRunT4
import Derived.Test.YtelncekgjfpogahGreatDoorRunT11
import Derived.Test.YtelncekgjfpogahGreatDoorRunT6
import Derived.RegionTactic
namespace Go.Proofs.YtelncekgjfpogahGreatDoor.M
set_option linter.unusedVariables false
def meetS (a b : Sp) : Sp := (if a.1 < b.1 then b.1 else a.1, if b.2.1 < a.2.1 then b.2.1 else a.2.1, a.2.2 && b.2.2)
def meet (a b : List Sp) : List Sp := List.zipWith meetS a b
theorem meet_len {a b : List Sp} (h : a.length = b.length) : (meet a b).length = a.length := by unfold meet; rw [List.length_zipWith, h]; exact Nat.min_self _
theorem meet_at {a b : List Sp} (h : a.length = b.length) {i : Nat} (hi : i < a.length) : (meet a b).getD i (0, 0, false) = meetS (a.getD i (0, 0, false)) (b.getD i (0, 0, false)) := by
 unfold meet
 simp [List.getD, List.getElem?_zipWith, hi, show i < b.length by omega]
theorem in_meet (c : Int) (a b : Sp) : inS c (meetS a b) = (inS c a && inS c b) := by
 by_cases h : c = nilI
 · rw [in_nil h, in_nil h, in_nil h]; rfl
 · rw [in_num h, in_num h, in_num h]
   unfold meetS
   rw [Bool.eq_iff_iff]
   simp only [Bool.and_eq_true, decide_eq_true_eq]
   constructor
   · rintro ⟨h1, h2⟩
     split at h1 <;> split at h2 <;> omega
   · rintro ⟨⟨h1, h2⟩, h3, h4⟩
     constructor <;> split <;> omega
theorem within_meet {r : List Int} {a b : List Sp} (h : a.length = b.length) : within r (meet a b) ↔ within r a ∧ within r b := by
 unfold within
 rw [meet_len h]
 constructor
 · intro q
   refine ⟨fun j hj => ?_, fun j hj => ?_⟩
   · have := q j hj
     rw [meet_at h hj, in_meet, Bool.and_eq_true] at this
     exact this.1
   · have := q j (by omega)
     rw [meet_at h (by omega), in_meet, Bool.and_eq_true] at this
     exact this.2
 · rintro ⟨q1, q2⟩ j hj
   rw [meet_at h hj, in_meet, q1 j hj, q2 j (by omega)]
   rfl
theorem sp_zero {l : List Sp} (h : spF l = 0) : l.length ≤ 8 ∧ ∀ i, i < l.length → sp1F (l.getD i (0, 0, false)) = 0 := by
 unfold spF at h
 by_cases h8 : 8 < l.length
 · rw [if_pos h8] at h; cases h
 · rw [if_neg h8] at h
   refine ⟨by omega, ?_⟩
   split at h
   · rename_i k e
     have q := (first_some e).2
     rw [decide_eq_true h] at q
     cases q
   · rename_i e
     intro i hi
     have := first_none e i hi
     simpa using this
theorem sp1_zero {s : Sp} (h : sp1F s = 0) : outI s.1 = false ∧ outI s.2.1 = false ∧ hasS s = true := by
 unfold sp1F at h
 by_cases c : outI s.1 = true ∨ outI s.2.1 = true
 · rw [if_pos c] at h; cases h
 · rw [if_neg c] at h
   by_cases d : hasS s = false
   · rw [if_pos d] at h; cases h
   · refine ⟨?_, ?_, by simpa using d⟩
     · cases e : outI s.1 with
       | false => rfl
       | true => exact absurd (.inl e) c
     · cases e : outI s.2.1 with
       | false => rfl
       | true => exact absurd (.inr e) c
theorem in_out {x : Int} (h : outI x = false) : -1000000 ≤ x ∧ x ≤ 1000000 := by
 unfold outI at h
 simp at h
 omega
theorem pick_row {l : List Sp} (h8 : l.length ≤ 8) (ho : ∀ i, i < l.length → -1000000 ≤ (l.getD i (0, 0, false)).1 ∧ (l.getD i (0, 0, false)).1 ≤ 1000000) (h : anyS l = true) : rowF (pick l) = 0 ∧ (pick l).length = l.length ∧ within (pick l) l := by
 have hl : (pick l).length = l.length := by unfold pick; simp
 have at' : ∀ i, i < l.length → (pick l).getD i 0 = pickC (l.getD i (0, 0, false)) := fun i hi => by
  rw [getD_at (by omega), getD_at hi]; unfold pick; simp
 have nn : ∀ x : Int, -1000000 ≤ x → x ≠ nilI := fun x hx e => by unfold nilI at e; omega
 refine ⟨?_, hl, ?_⟩
 · rw [row_ok]
   refine ⟨by omega, fun x hx => ?_⟩
   obtain ⟨i, hi, rfl⟩ := List.getElem_of_mem hx
   have hi' : i < l.length := by omega
   have e := at' i hi'
   rw [getD_at hi] at e
   rw [e]
   unfold pickC
   by_cases c : (l.getD i (0, 0, false)).1 ≤ (l.getD i (0, 0, false)).2.1
   · rw [if_pos c]; exact good_cell (out_in (ho i hi').1 (ho i hi').2)
   · rw [if_neg c]; exact good_nil
 · intro j hj
   rw [at' j hj]
   have hs : hasS (l.getD j (0, 0, false)) = true := by
    unfold anyS at h
    rw [List.all_eq_true] at h
    rw [getD_at hj]; exact h _ (List.getElem_mem hj)
   unfold pickC
   by_cases c : (l.getD j (0, 0, false)).1 ≤ (l.getD j (0, 0, false)).2.1
   · rw [if_pos c, in_num (nn _ (ho j hj).1), decide_eq_true c, decide_eq_true (Int.le_refl _)]
     rfl
   · rw [if_neg c, in_nil rfl]
     unfold hasS at hs
     rw [decide_eq_false c, Bool.false_or] at hs
     exact hs
def cnt (t : List Nd) (l : List Sp) (j : Nat) : Bool := leafB (nAt t j) && anyS (meet (region t l.length j) l)
def ends0 : Bool × Int × Int × List Int × List Int := (false, 0, 0, [], [])
def endS (s : Bool × Int × Int × List Int × List Int) (v : Int) (p : List Int) : Bool × Int × Int × List Int × List Int :=
 (true, if s.1 = false ∨ v < s.2.1 then v else s.2.1, if s.1 = false ∨ s.2.2.1 < v then v else s.2.2.1, if s.1 = false ∨ v < s.2.1 then p else s.2.2.2.1, if s.1 = false ∨ s.2.2.1 < v then p else s.2.2.2.2)
def endsK (t : List Nd) (l : List Sp) : Nat → Bool × Int × Int × List Int × List Int
 | 0 => ends0
 | k + 1 => if cnt t l k = true then endS (endsK t l k) (nv (nAt t k)) (pick (meet (region t l.length k) l)) else endsK t l k
theorem ends_spec (t : List Nd) (l : List Sp) : ∀ k, ((endsK t l k).1 = true ↔ ∃ j, j < k ∧ cnt t l j = true) ∧ ((endsK t l k).1 = true →
 (∃ j, j < k ∧ cnt t l j = true ∧ (endsK t l k).2.1 = nv (nAt t j) ∧ (endsK t l k).2.2.2.1 = pick (meet (region t l.length j) l)) ∧ (∀ i, i < k → cnt t l i = true → (endsK t l k).2.1 ≤ nv (nAt t i)) ∧
 (∃ j, j < k ∧ cnt t l j = true ∧ (endsK t l k).2.2.1 = nv (nAt t j) ∧ (endsK t l k).2.2.2.2 = pick (meet (region t l.length j) l)) ∧ (∀ i, i < k → cnt t l i = true → nv (nAt t i) ≤ (endsK t l k).2.2.1))
 | 0 => by
   refine ⟨⟨fun h => ?_, ?_⟩, fun h => ?_⟩
   · have : false = true := h
     cases this
   · rintro ⟨j, hj, _⟩; omega
   · have : false = true := h
     cases this
 | k + 1 => by
   obtain ⟨i1, i2⟩ := ends_spec t l k
   unfold endsK
   by_cases c : cnt t l k = true
   · rw [if_pos c]
     generalize endsK t l k = s at *
     have e1 : (endS s (nv (nAt t k)) (pick (meet (region t l.length k) l))).1 = true := rfl
     refine ⟨⟨fun _ => ⟨k, by omega, c⟩, fun _ => rfl⟩, fun _ => ⟨?_, ?_, ?_, ?_⟩⟩
     · by_cases d : s.1 = false ∨ nv (nAt t k) < s.2.1
       · refine ⟨k, by omega, c, ?_, ?_⟩
         · show (if _ then _ else _) = _; rw [if_pos d]
         · show (if _ then _ else _) = _; rw [if_pos d]
       · obtain ⟨⟨j, j1, j2, j3, j4⟩, _⟩ := i2 (by cases e : s.1 with
          | true => rfl
          | false => exact absurd (.inl e) d)
         refine ⟨j, by omega, j2, ?_, ?_⟩
         · show (if _ then _ else _) = _; rw [if_neg d]; exact j3
         · show (if _ then _ else _) = _; rw [if_neg d]; exact j4
     · intro i hi hc
       show (if s.1 = false ∨ nv (nAt t k) < s.2.1 then nv (nAt t k) else s.2.1) ≤ _
       by_cases e : i = k
       · subst e; split <;> omega
       · cases e1 : s.1 with
         | false => exact absurd (i1.2 ⟨i, by omega, hc⟩) (by rw [e1]; decide)
         | true =>
           have := (i2 e1).2.1 i (by omega) hc
           by_cases d : nv (nAt t k) < s.2.1
           · rw [if_pos (.inr d)]; omega
           · rw [if_neg (fun q => q.elim (fun z => by cases z) d)]; exact this
     · by_cases d : s.1 = false ∨ s.2.2.1 < nv (nAt t k)
       · refine ⟨k, by omega, c, ?_, ?_⟩
         · show (if _ then _ else _) = _; rw [if_pos d]
         · show (if _ then _ else _) = _; rw [if_pos d]
       · obtain ⟨_, _, ⟨j, j1, j2, j3, j4⟩, _⟩ := i2 (by cases e : s.1 with
          | true => rfl
          | false => exact absurd (.inl e) d)
         refine ⟨j, by omega, j2, ?_, ?_⟩
         · show (if _ then _ else _) = _; rw [if_neg d]; exact j3
         · show (if _ then _ else _) = _; rw [if_neg d]; exact j4
     · intro i hi hc
       show _ ≤ (if s.1 = false ∨ s.2.2.1 < nv (nAt t k) then nv (nAt t k) else s.2.2.1)
       by_cases e : i = k
       · subst e; split <;> omega
       · cases e1 : s.1 with
         | false => exact absurd (i1.2 ⟨i, by omega, hc⟩) (by rw [e1]; decide)
         | true =>
           have := (i2 e1).2.2.2 i (by omega) hc
           by_cases d : s.2.2.1 < nv (nAt t k)
           · rw [if_pos (.inr d)]; omega
           · rw [if_neg (fun q => q.elim (fun z => by cases z) d)]; exact this
   · rw [if_neg c]
     refine ⟨⟨fun h => ?_, fun ⟨j, h1, h2⟩ => i1.2 ⟨j, ?_, h2⟩⟩, fun h => ?_⟩
     · obtain ⟨j, h1, h2⟩ := i1.1 h; exact ⟨j, by omega, h2⟩
     · by_cases e : j = k
       · subst e; exact absurd h2 c
       · omega
     · obtain ⟨⟨j, j1, j2, j3, j4⟩, q, ⟨y, y1, y2, y3, y4⟩, u⟩ := i2 h
       have ne : ∀ i, i < k + 1 → cnt t l i = true → i < k := fun i hi hc => by
        by_cases e : i = k
        · subst e; exact absurd hc c
        · omega
       exact ⟨⟨j, by omega, j2, j3, j4⟩, fun i hi hc => q i (ne i hi hc) hc, ⟨y, by omega, y2, y3, y4⟩, fun i hi hc => u i (ne i hi hc) hc⟩
def limF (t : List Nd) (l : List Sp) : Int := if spF l ≠ 0 then spF l else (treeF t (l.length : Int)).2
def limV (t : List Nd) (l : List Sp) : Bool × Int × Int × List Int × List Int := if limF t l = 0 then endsK t l t.length else ends0
theorem lim_ok {t : List Nd} {l : List Sp} (h : limF t l = 0) : spF l = 0 ∧ (treeF t (l.length : Int)).2 = 0 := by
 unfold limF at h
 by_cases c : spF l = 0
 · rw [if_neg (by simp [c])] at h; exact ⟨c, h⟩
 · rw [if_pos c] at h; exact absurd h c
theorem lim_of {t : List Nd} {l : List Sp} (h1 : spF l = 0) (h2 : (treeF t (l.length : Int)).2 = 0) : limF t l = 0 := by
 unfold limF; rw [if_neg (by simp [h1])]; exact h2
theorem lim_row {t : List Nd} {l : List Sp} (h : limF t l = 0) {j : Nat} (hj : j < t.length) (hc : cnt t l j = true) : readyF t (pick (meet (region t l.length j) l)) = 0 ∧ evalV t (pick (meet (region t l.length j) l)) = nv (nAt t j) ∧ fitF (pick (meet (region t l.length j) l)) l = 0 ∧ fitV (pick (meet (region t l.length j) l)) l = true := by
 obtain ⟨h1, h2⟩ := lim_ok h
 obtain ⟨F, _⟩ := tree_ok h2
 obtain ⟨l8, hs⟩ := sp_zero h1
 unfold cnt at hc
 rw [Bool.and_eq_true] at hc
 have hl : (region t l.length j).length = l.length := region_len _ _ _
 have ml := meet_len hl
 have ho : ∀ i, i < (meet (region t l.length j) l).length → -1000000 ≤ ((meet (region t l.length j) l).getD i (0, 0, false)).1 ∧ ((meet (region t l.length j) l).getD i (0, 0, false)).1 ≤ 1000000 := fun i hi => by
  rw [meet_at hl (by omega)]
  have r1 := region_ok F hj ((region t l.length j).getD i (0, 0, false)) (by rw [getD_at (by omega)]; exact List.getElem_mem _)
  have r2 := in_out (sp1_zero (hs i (by omega))).1
  unfold okS at r1
  unfold meetS
  simp only
  split <;> omega
 obtain ⟨p1, p2, p3⟩ := pick_row (by omega) ho hc.2
 have p4 : (pick (meet (region t l.length j) l)).length = l.length := by omega
 obtain ⟨w1, w2⟩ := (within_meet hl).1 p3
 have hf : nf (nAt t j) = -1 := of_decide_eq_true hc.1
 have hy : readyF t (pick (meet (region t l.length j) l)) = 0 := by rw [ready_tree p1, p4]; exact h2
 have hd := (region_leaf F p1 p4 hj hf).1 w1
 refine ⟨hy, ?_, (fit_ok p1 p4.symm).1, (fit_within p1 p4.symm).2 w2⟩
 unfold evalV
 rw [if_pos hy, ← hd]
theorem lim_in {t : List Nd} {l : List Sp} {r : List Int} (h : limF t l = 0) (hr : rowF r = 0) (hl : r.length = l.length) (hw : within r l) : readyF t r = 0 ∧ ∃ j, j < t.length ∧ cnt t l j = true ∧ evalV t r = nv (nAt t j) := by
 obtain ⟨h1, h2⟩ := lim_ok h
 obtain ⟨F, _⟩ := tree_ok h2
 have hy : readyF t r = 0 := by rw [ready_tree hr, hl]; exact h2
 obtain ⟨g1, g2⟩ := leafV_leaf' hy
 refine ⟨hy, toD t r 0, g1, ?_, by unfold evalV; rw [if_pos hy]⟩
 have hm : within r (meet (region t l.length (toD t r 0)) l) := (within_meet (region_len _ _ _)).2 ⟨(region_leaf F hr hl g1 g2).2 rfl, hw⟩
 unfold cnt
 rw [any_within hm, Bool.and_true]
 exact decide_eq_true g2
theorem lim_some {t : List Nd} {l : List Sp} (h : limF t l = 0) : (endsK t l t.length).1 = true := by
 obtain ⟨h1, h2⟩ := lim_ok h
 obtain ⟨l8, hs⟩ := sp_zero h1
 have ha : anyS l = true := by
  unfold anyS
  rw [List.all_eq_true]
  intro s hs'
  obtain ⟨i, hi, rfl⟩ := List.getElem_of_mem hs'
  have := (sp1_zero (hs i hi)).2.2
  rw [getD_at hi] at this
  exact this
 obtain ⟨p1, p2, p3⟩ := pick_row l8 (fun i hi => in_out (sp1_zero (hs i hi)).1) ha
 obtain ⟨_, j, j1, j2, _⟩ := lim_in h p1 p2 p3
 exact ((ends_spec t l t.length).1).2 ⟨j, j1, j2⟩
abbrev limLo (t : List Nd) (l : List Sp) : Int := (limV t l).2.1
abbrev limHi (t : List Nd) (l : List Sp) : Int := (limV t l).2.2.1
abbrev limA (t : List Nd) (l : List Sp) : List Int := (limV t l).2.2.2.1
abbrev limB (t : List Nd) (l : List Sp) : List Int := (limV t l).2.2.2.2
theorem lim_least {t : List Nd} {l : List Sp} (h : limF t l = 0) : readyF t (limA t l) = 0 ∧ evalV t (limA t l) = limLo t l ∧ fitF (limA t l) l = 0 ∧ fitV (limA t l) l = true := by
 have e : limV t l = endsK t l t.length := by unfold limV; rw [if_pos h]
 obtain ⟨⟨j, j1, j2, j3, j4⟩, _⟩ := (ends_spec t l t.length).2 (lim_some h)
 obtain ⟨q1, q2, q3, q4⟩ := lim_row h j1 j2
 show readyF t (limV t l).2.2.2.1 = 0 ∧ evalV t (limV t l).2.2.2.1 = (limV t l).2.1 ∧ fitF (limV t l).2.2.2.1 l = 0 ∧ fitV (limV t l).2.2.2.1 l = true
 rw [e, j3, j4]
 exact ⟨q1, q2, q3, q4⟩
theorem lim_most {t : List Nd} {l : List Sp} (h : limF t l = 0) : readyF t (limB t l) = 0 ∧ evalV t (limB t l) = limHi t l ∧ fitF (limB t l) l = 0 ∧ fitV (limB t l) l = true := by
 have e : limV t l = endsK t l t.length := by unfold limV; rw [if_pos h]
 obtain ⟨_, _, ⟨j, j1, j2, j3, j4⟩, _⟩ := (ends_spec t l t.length).2 (lim_some h)
 obtain ⟨q1, q2, q3, q4⟩ := lim_row h j1 j2
 show readyF t (limV t l).2.2.2.2 = 0 ∧ evalV t (limV t l).2.2.2.2 = (limV t l).2.2.1 ∧ fitF (limV t l).2.2.2.2 l = 0 ∧ fitV (limV t l).2.2.2.2 l = true
 rw [e, j3, j4]
 exact ⟨q1, q2, q3, q4⟩
theorem fit_parts {r : List Int} {l : List Sp} (h1 : fitF r l = 0) (h2 : fitV r l = true) : rowF r = 0 ∧ r.length = l.length ∧ within r l := by
 by_cases c : rowF r = 0
 · by_cases d : l.length = r.length
   · exact ⟨c, d.symm, (fit_within c d).1 h2⟩
   · rw [(fit_len c d).1] at h1; cases h1
 · rw [(fit_row c).1] at h1; exact absurd h1 c
theorem lim_range {t : List Nd} {l : List Sp} (h : limF t l = 0) : (-1000000 ≤ limLo t l ∧ limLo t l ≤ 1000000) ∧ (-1000000 ≤ limHi t l ∧ limHi t l ≤ 1000000) := by
 obtain ⟨_, h2⟩ := lim_ok h
 obtain ⟨F, _⟩ := tree_ok h2
 have a := lim_least h
 have b := lim_most h
 rw [← a.2.1, ← b.2.1]
 exact ⟨lv_in F _ (eval_mem a.1), lv_in F _ (eval_mem b.1)⟩
def limGF (g : Gv) (l : List Sp) : Int := if groveF g ≠ 0 then groveF g else if (l.length : Int) ≠ gf g then 3 else spF l
def lowsL (g : Gv) (l : List Sp) : List Int := (gt g).map fun t => limLo t l
def highsL (g : Gv) (l : List Sp) : List Int := (gt g).map fun t => limHi t l
def limGV (g : Gv) (l : List Sp) : Int × Int := if limGF g l = 0 then between (gw g) (gs g) (lowsL g l) (highsL g l) else (0, 0)
theorem limG_ok {g : Gv} {l : List Sp} (h : limGF g l = 0) : Good g ∧ (l.length : Int) = gf g ∧ spF l = 0 ∧ ∀ t ∈ gt g, limF t l = 0 := by
 unfold limGF at h
 by_cases c : groveF g = 0
 · rw [if_neg (by simp [c])] at h
   have G := (good_iff g).1 c
   by_cases d : (l.length : Int) = gf g
   · rw [if_neg (by simp [d])] at h
     exact ⟨G, d, h, fun t ht => lim_of h (by rw [d]; exact G.trees t ht)⟩
   · rw [if_pos d] at h; cases h
 · rw [if_pos c] at h; exact absurd h c
def mvB (a b : List Nd) (m i k : Nat) : Bool := leafB (nAt a i) && leafB (nAt b k) && !decide (nv (nAt a i) = nv (nAt b k)) && anyS (meet (region a m i) (region b m k))
def cnB (p : Bool) : Nat := if p = true then 1 else 0
def mvR (a b : List Nd) (m i k : Nat) : Nat := sumN (fun k => cnB (mvB a b m i k)) k
def mvK (a b : List Nd) (m i : Nat) : Nat := sumN (fun i => mvR a b m i b.length) i
def difF (a b : List Nd) (m : Int) : Int := if (treeF a m).2 ≠ 0 then (treeF a m).2 else (treeF b m).2
def movedV (a b : List Nd) (m : Int) : Nat := if difF a b m = 0 then mvK a b m.toNat a.length else 0
theorem dif_ok {a b : List Nd} {m : Int} (h : difF a b m = 0) : (treeF a m).2 = 0 ∧ (treeF b m).2 = 0 := by
 unfold difF at h
 by_cases c : (treeF a m).2 = 0
 · rw [if_neg (by simp [c])] at h; exact ⟨c, h⟩
 · rw [if_pos c] at h; exact absurd h c
theorem dif_of {a b : List Nd} {m : Int} (h1 : (treeF a m).2 = 0) (h2 : (treeF b m).2 = 0) : difF a b m = 0 := by
 unfold difF; rw [if_neg (by simp [h1])]; exact h2
theorem sumP {g : Nat → Nat} : ∀ n, 0 < sumN g n ↔ ∃ i, i < n ∧ 0 < g i
 | 0 => by
   constructor
   · intro h; exact absurd h (by unfold sumN; omega)
   · rintro ⟨i, hi, _⟩; omega
 | n + 1 => by
   have ih := sumP (g := g) n
   unfold sumN
   constructor
   · intro h
     by_cases c : 0 < g n
     · exact ⟨n, by omega, c⟩
     · obtain ⟨i, hi, e⟩ := ih.1 (by omega); exact ⟨i, by omega, e⟩
   · rintro ⟨i, hi, e⟩
     by_cases q : i = n
     · subst q; omega
     · have := ih.2 ⟨i, by omega, e⟩; omega
theorem sum_none : ∀ n, sumN (fun _ => 0) n = 0
 | 0 => by unfold sumN; rfl
 | n + 1 => by
   have ih := sum_none n
   unfold sumN
   omega
theorem sum_same {g h : Nat → Nat} : ∀ n, (∀ i, i < n → g i = h i) → sumN g n = sumN h n
 | 0, _ => by unfold sumN; rfl
 | n + 1, e => by
   have ih := sum_same n (fun i hi => e i (by omega))
   unfold sumN
   rw [ih, e n (by omega)]
theorem mv_pos (a b : List Nd) (m n : Nat) : 0 < mvK a b m n ↔ ∃ i, i < n ∧ ∃ k, k < b.length ∧ mvB a b m i k = true := by
 unfold mvK mvR
 rw [sumP]
 constructor
 · rintro ⟨i, hi, e⟩
   obtain ⟨k, hk, e2⟩ := (sumP _).1 e
   refine ⟨i, hi, k, hk, ?_⟩
   unfold cnB at e2
   by_cases c : mvB a b m i k = true
   · exact c
   · rw [if_neg c] at e2; omega
 · rintro ⟨i, hi, k, hk, e⟩
   exact ⟨i, hi, (sumP _).2 ⟨k, hk, by unfold cnB; rw [if_pos e]; omega⟩⟩
theorem meetS_comm (x y : Sp) : meetS x y = meetS y x := by
 unfold meetS
 rw [Bool.and_comm]
 have h1 : (if x.1 < y.1 then y.1 else x.1) = if y.1 < x.1 then x.1 else y.1 := by split <;> split <;> omega
 have h2 : (if y.2.1 < x.2.1 then y.2.1 else x.2.1) = if x.2.1 < y.2.1 then x.2.1 else y.2.1 := by split <;> split <;> omega
 rw [h1, h2]
theorem meet_comm : ∀ (x y : List Sp), meet x y = meet y x
 | [], [] => rfl
 | [], _ :: _ => rfl
 | _ :: _, [] => rfl
 | u :: x, v :: y => by
   show meetS u v :: meet x y = meetS v u :: meet y x
   rw [meetS_comm, meet_comm x y]
theorem mv_row {a b : List Nd} {m : Nat} (ha : (treeF a (m : Int)).2 = 0) (hb : (treeF b (m : Int)).2 = 0) {i k : Nat} (hi : i < a.length) (hk : k < b.length) (h : mvB a b m i k = true) : rowF (pick (meet (region a m i) (region b m k))) = 0 ∧ (pick (meet (region a m i) (region b m k))).length = m ∧ evalV a (pick (meet (region a m i) (region b m k))) = nv (nAt a i) ∧ evalV b (pick (meet (region a m i) (region b m k))) = nv (nAt b k) ∧ nv (nAt a i) ≠ nv (nAt b k) := by
 obtain ⟨Fa, _⟩ := tree_ok ha
 obtain ⟨Fb, _⟩ := tree_ok hb
 unfold mvB at h
 rw [Bool.and_eq_true, Bool.and_eq_true, Bool.and_eq_true] at h
 obtain ⟨⟨⟨h1, h2⟩, h3⟩, h4⟩ := h
 have hl : (region a m i).length = (region b m k).length := by rw [region_len, region_len]
 have ml := meet_len hl
 have ra := region_len a m i
 have m8 : m ≤ 8 := by have := Fa.2.2.2.1; omega
 have ho : ∀ j, j < (meet (region a m i) (region b m k)).length → -1000000 ≤ ((meet (region a m i) (region b m k)).getD j (0, 0, false)).1 ∧ ((meet (region a m i) (region b m k)).getD j (0, 0, false)).1 ≤ 1000000 := fun j hj => by
  rw [meet_at hl (by omega)]
  have r1 := region_ok Fa hi ((region a m i).getD j (0, 0, false)) (by rw [getD_at (by omega)]; exact List.getElem_mem _)
  have r2 := region_ok Fb hk ((region b m k).getD j (0, 0, false)) (by rw [getD_at (by omega)]; exact List.getElem_mem _)
  unfold okS at r1 r2
  unfold meetS
  simp only
  split <;> omega
 obtain ⟨p1, p2, p3⟩ := pick_row (by omega) ho h4
 have p4 : (pick (meet (region a m i) (region b m k))).length = m := by omega
 obtain ⟨w1, w2⟩ := (within_meet hl).1 p3
 have f1 : nf (nAt a i) = -1 := of_decide_eq_true h1
 have f2 : nf (nAt b k) = -1 := of_decide_eq_true h2
 have d1 := (region_leaf Fa p1 p4 hi f1).1 w1
 have d2 := (region_leaf Fb p1 p4 hk f2).1 w2
 have y1 : readyF a (pick (meet (region a m i) (region b m k))) = 0 := by rw [ready_tree p1, p4]; exact ha
 have y2 : readyF b (pick (meet (region a m i) (region b m k))) = 0 := by rw [ready_tree p1, p4]; exact hb
 refine ⟨p1, p4, ?_, ?_, ?_⟩
 · unfold evalV; rw [if_pos y1, ← d1]
 · unfold evalV; rw [if_pos y2, ← d2]
 · simpa using h3
theorem mv_of {a b : List Nd} {m : Nat} (ha : (treeF a (m : Int)).2 = 0) (hb : (treeF b (m : Int)).2 = 0) {x : List Int} (hx : rowF x = 0) (hm : x.length = m) (hn : evalV a x ≠ evalV b x) : ∃ i, i < a.length ∧ ∃ k, k < b.length ∧ mvB a b m i k = true := by
 obtain ⟨Fa, _⟩ := tree_ok ha
 obtain ⟨Fb, _⟩ := tree_ok hb
 have y1 : readyF a x = 0 := by rw [ready_tree hx, hm]; exact ha
 have y2 : readyF b x = 0 := by rw [ready_tree hx, hm]; exact hb
 obtain ⟨g1, g2⟩ := leafV_leaf' y1
 obtain ⟨k1, k2⟩ := leafV_leaf' y2
 refine ⟨toD a x 0, g1, toD b x 0, k1, ?_⟩
 have hw : within x (meet (region a m (toD a x 0)) (region b m (toD b x 0))) := (within_meet (by rw [region_len, region_len])).2 ⟨(region_leaf Fa hx hm g1 g2).2 rfl, (region_leaf Fb hx hm k1 k2).2 rfl⟩
 unfold evalV at hn
 rw [if_pos y1, if_pos y2] at hn
 unfold mvB
 rw [any_within hw, show leafB (nAt a (toD a x 0)) = true from decide_eq_true g2, show leafB (nAt b (toD b x 0)) = true from decide_eq_true k2, decide_eq_false hn]
 rfl
theorem moved_iff {a b : List Nd} {m : Int} (h : difF a b m = 0) : 0 < movedV a b m ↔ ∃ x, rowF x = 0 ∧ (x.length : Int) = m ∧ evalV a x ≠ evalV b x := by
 obtain ⟨ha, hb⟩ := dif_ok h
 have m0 := (tree_ok ha).1.2.2.1
 obtain ⟨n, rfl⟩ : ∃ n : Nat, m = (n : Int) := ⟨m.toNat, by omega⟩
 unfold movedV
 rw [if_pos h, Int.toNat_natCast, mv_pos]
 constructor
 · rintro ⟨i, hi, k, hk, e⟩
   obtain ⟨p1, p2, p3, p4, p5⟩ := mv_row ha hb hi hk e
   exact ⟨_, p1, by rw [p2], by rw [p3, p4]; exact p5⟩
 · rintro ⟨x, h1, h2, h3⟩
   exact mv_of ha hb h1 (by omega) h3
theorem moved_zero {a b : List Nd} {m : Int} (h : difF a b m = 0) (hs : ∀ x, rowF x = 0 → (x.length : Int) = m → evalV a x = evalV b x) : movedV a b m = 0 := by
 by_cases c : 0 < movedV a b m
 · obtain ⟨x, h1, h2, h3⟩ := (moved_iff h).1 c
   exact absurd (hs x h1 h2) h3
 · omega
end Go.Proofs.YtelncekgjfpogahGreatDoor.M
namespace Go.Proofs.YtelncekgjfpogahGreatDoor
open Go.ChangeShapes Go.WideShapes Go.ChangeAt Go.RowKit Go.Lib
set_option linter.unusedVariables false
def M.difTF (a b : List M.Nd) (m : Int) : Int := if M.difF a b m ≠ 0 then M.difF a b m else if M.movedV a b m = 0 then 5 else 0
theorem M.dift_bad {a b : List M.Nd} {m : Int} (h : M.difF a b m ≠ 0) : M.difTF a b m = M.difF a b m := by unfold M.difTF; rw [if_pos h]
theorem M.dift_same {a b : List M.Nd} {m : Int} (h : M.difF a b m = 0) (hm : M.movedV a b m = 0) : M.difTF a b m = 5 := by unfold M.difTF; rw [if_neg (by simp [h]), if_pos hm]
theorem M.dift_not {a b : List M.Nd} {m : Int} (h : M.difF a b m = 0) (hm : M.movedV a b m ≠ 0) : M.difTF a b m = 0 := by unfold M.difTF; rw [if_neg (by simp [h]), if_neg hm]
def DifTreesGives : Prop := ∀ (a b : Option Addr) (ts us : List M.Nd) (ca cb : Nat) (m : Int) (W : World), RdN W a ts → RdN W b us → Calls Tryz.prog 46 #[.slice a ts.length ca, .slice b us.length cb, .int .i64 m] W fun e w' => ∃ (L : List Int) (wa : Option Addr) (wc : Nat), e = .returned (.tuple #[.slice wa L.length wc, errV (M.difTF ts us m)]) ∧ Rd w' wa L ∧ (M.difTF ts us m = 0 → M.rowF L = 0 ∧ (L.length : Int) = m ∧ M.evalV ts L ≠ M.evalV us L) ∧ Below W.heap.size W w'
end Go.Proofs.YtelncekgjfpogahGreatDoor
namespace Go.Proofs.YtelncekgjfpogahGreatDoor.M
set_option linter.unusedVariables false
def gdF (g o : Gv) : Int := if groveF g ≠ 0 then groveF g else if groveF o ≠ 0 then groveF o else if gf g ≠ gf o ∨ gw g ≠ gw o ∨ (gt g).length ≠ (gt o).length then 3 else 0
def gdP (g o : Gv) (i : Nat) : Bool := decide (0 < movedV ((gt g).getD i []) ((gt o).getD i []) (gf g)) || !decide ((gs g).getD i 0 = (gs o).getD i 0)
def difGF (g o : Gv) : Int := if gdF g o ≠ 0 then gdF g o else match firstN (gdP g o) (gt g).length with
 | some _ => 0
 | none => 5
def difGV (g o : Gv) : Nat := if gdF g o = 0 then (match firstN (gdP g o) (gt g).length with
 | some i => i
 | none => 0) else 0
theorem gd_ok {g o : Gv} (h : gdF g o = 0) : Good g ∧ Good o ∧ gf g = gf o ∧ gw g = gw o ∧ (gt g).length = (gt o).length := by
 unfold gdF at h
 by_cases c : groveF g = 0
 · rw [if_neg (by simp [c])] at h
   by_cases d : groveF o = 0
   · rw [if_neg (by simp [d])] at h
     by_cases e : gf g ≠ gf o ∨ gw g ≠ gw o ∨ (gt g).length ≠ (gt o).length
     · rw [if_pos e] at h; cases h
     · refine ⟨(good_iff g).1 c, (good_iff o).1 d, Decidable.not_not.1 (fun q => e (.inl q)), Decidable.not_not.1 (fun q => e (.inr (.inl q))), Decidable.not_not.1 (fun q => e (.inr (.inr q)))⟩
   · rw [if_pos d] at h; exact absurd h d
 · rw [if_pos c] at h; exact absurd h c
theorem gd_of {g o : Gv} (h1 : Good g) (h2 : Good o) (h3 : gf g = gf o) (h4 : gw g = gw o) (h5 : (gt g).length = (gt o).length) : gdF g o = 0 := by
 unfold gdF
 rw [if_neg (by rw [(good_iff g).2 h1]; simp), if_neg (by rw [(good_iff o).2 h2]; simp), if_neg]
 rintro (q | q | q)
 · exact q h3
 · exact q h4
 · exact q h5
theorem gd_hit {g o : Gv} {k : Nat} (h : gdF g o = 0) (hk : k < (gt g).length) (hp : gdP g o k = true) (hj : ∀ j, j < k → gdP g o j = false) : difGF g o = 0 ∧ difGV g o = k := by
 unfold difGF difGV
 rw [if_neg (by simp [h]), if_pos h, first_hit hp hj hk]
 exact ⟨rfl, rfl⟩
theorem gd_miss {g o : Gv} (h : gdF g o = 0) (hj : ∀ j, j < (gt g).length → gdP g o j = false) : difGF g o = 5 ∧ difGV g o = 0 := by
 unfold difGF difGV
 rw [if_neg (by simp [h]), if_pos h, first_miss hj]
 exact ⟨rfl, rfl⟩
theorem gd_bad {g o : Gv} (h : gdF g o ≠ 0) : difGF g o = gdF g o ∧ difGV g o = 0 := by
 unfold difGF difGV
 rw [if_pos h, if_neg h]
 exact ⟨rfl, rfl⟩
end Go.Proofs.YtelncekgjfpogahGreatDoor.M
namespace Go.Proofs.YtelncekgjfpogahGreatDoor
open Go.ChangeShapes Go.WideShapes Go.ChangeAt Go.RowKit Go.Lib
set_option linter.unusedVariables false
def Keeps (K : Nat → Prop) (W W' : World) : Prop := W.heap.size ≤ W'.heap.size ∧ ∀ b o, K b → b < W.heap.size → W'.cell? ⟨b, o, none⟩ = W.cell? ⟨b, o, none⟩
theorem Keeps.refl (K : Nat → Prop) (W : World) : Keeps K W W := ⟨Nat.le_refl _, fun _ _ _ _ => rfl⟩
theorem Keeps.trans {K : Nat → Prop} {W1 W2 W3 : World} (h1 : Keeps K W1 W2) (h2 : Keeps K W2 W3) : Keeps K W1 W3 := ⟨Nat.le_trans h1.1 h2.1, fun b o hb hl => (h2.2 b o hb (Nat.lt_of_lt_of_le hl h1.1)).trans (h1.2 b o hb hl)⟩
theorem Keeps.of {K : Nat → Prop} {W W' : World} (h : Below W.heap.size W W') : Keeps K W W' := ⟨h.size, fun b o _ hl => h.cell (p := ⟨b, o, none⟩) hl⟩
theorem Keeps.mono {K K' : Nat → Prop} {W W' : World} (h : Keeps K W W') (hk : ∀ b, K' b → K b) : Keeps K' W W' := ⟨h.1, fun b o hb hl => h.2 b o (hk b hb) hl⟩
theorem Keeps.set {K : Nat → Prop} {W W' : World} (h : Keeps K W W') {p o : Nat} (hp : ¬ K p) (v : Value) : Keeps K W (W'.setCell ⟨p, o, none⟩ v) :=
 ⟨by simpa using h.1, fun b o' hb hl => (World.cell?_setCell_other _ _ _ _ (by intro e; cases e; exact hp hb)).trans (h.2 b o' hb hl)⟩
theorem Rd.keeps {K : Nat → Prop} {W W' : World} {ra : Option Addr} {L : List Int} (h : Rd W ra L) (hB : L ≠ [] → ∀ x, ra = some x → K x.block) (hf : Keeps K W W') : Rd W' ra L := by
 refine ⟨h.1, fun hn => ?_⟩
 obtain ⟨b, off, rfl, hb, hc⟩ := h.2 hn
 exact ⟨b, off, rfl, Nat.lt_of_lt_of_le hb hf.1, fun i hi => (hf.2 b _ (hB hn _ rfl) hb).trans (hc i hi)⟩
theorem RdS.keeps {K : Nat → Prop} {W W' : World} {ra : Option Addr} {L : List M.Sp} (h : RdS W ra L) (hB : L ≠ [] → ∀ x, ra = some x → K x.block) (hf : Keeps K W W') : RdS W' ra L := by
 refine ⟨h.1, fun hn => ?_⟩
 obtain ⟨b, off, rfl, hb, hc⟩ := h.2 hn
 refine ⟨b, off, rfl, Nat.lt_of_lt_of_le hb hf.1, fun i hi => ?_⟩
 obtain ⟨c0, c1, c2⟩ := hc i hi
 exact ⟨(hf.2 b _ (hB hn _ rfl) hb).trans c0, (hf.2 b _ (hB hn _ rfl) hb).trans c1, (hf.2 b _ (hB hn _ rfl) hb).trans c2⟩
structure Doer (w : World) (Inv : (Nat → Prop) → Nat → World → Prop) : Prop where
 up : ∀ {K K' : Nat → Prop} {s : Nat} {W W' : World}, Inv K s W → (∀ b, K' b → K b ∨ (W.heap.size ≤ b ∧ b < W'.heap.size)) → Below W.heap.size W W' → Inv K' s W'
 kb : ∀ {K : Nat → Prop} {s : Nat} {W : World}, Inv K s W → ∀ b, K b → b < W.heap.size
 below : ∀ {K : Nat → Prop} {s : Nat} {W : World}, Inv K s W → Below w.heap.size w W
theorem Doer.on {w : World} {Inv : (Nat → Prop) → Nat → World → Prop} (D : Doer w Inv) {K : Nat → Prop} {s : Nat} {W W' : World} (h : Inv K s W) (hb : Below W.heap.size W W') : Inv K s W' := D.up h (fun b hk => .inl hk) hb
structure MV (w : World) (p : Nat) (K : Nat → Prop) (n : Nat) (W : World) : Prop where
 cell : W.cell? ⟨p, 0, none⟩ = some (.int .i64 (n : Nat))
 froz : W.frozen? ⟨p, 0, none⟩ = false
 lt : p < W.heap.size
 ge : w.heap.size ≤ p
 out : ¬ K p
 kb : ∀ b, K b → b < W.heap.size
 below : Below w.heap.size w W
theorem up_kb {K K' : Nat → Prop} {W W' : World} (hk : ∀ b, K' b → K b ∨ (W.heap.size ≤ b ∧ b < W'.heap.size)) (h : ∀ b, K b → b < W.heap.size) (hb : W.heap.size ≤ W'.heap.size) : ∀ b, K' b → b < W'.heap.size := fun b q => by
 rcases hk b q with e | e
 · exact Nat.lt_of_lt_of_le (h b e) hb
 · exact e.2
theorem mv_doer (w : World) (p : Nat) : Doer w (MV w p) :=
 ⟨fun {K K' s W W'} h hk hb => ⟨(hb.cell (p := ⟨p, 0, none⟩) h.lt).trans h.cell, (hb.frozen (p := ⟨p, 0, none⟩) h.lt).trans h.froz, Nat.lt_of_lt_of_le h.lt hb.size, h.ge, fun q => by
  rcases hk p q with e | e
  · exact h.out e
  · exact absurd h.lt (by omega), up_kb hk h.kb hb.size, below_on h.below hb⟩, fun h => h.kb, fun h => h.below⟩
structure TV (w : World) (P : List Int → Prop) (p : Nat) (K : Nat → Prop) (n : Nat) (W : World) : Prop where
 lt : p < W.heap.size
 ge : w.heap.size ≤ p
 out : ¬ K p
 kb : ∀ b, K b → b < W.heap.size
 froz : W.frozen? ⟨p, 0, none⟩ = false
 below : Below w.heap.size w W
 rows : ∃ v Vs, W.cell? ⟨p, 0, none⟩ = some v ∧ W.ownsRow (p + 1) 23 1 v n Vs ∧ (∀ g, v.ownBlock = some g → ¬ K g) ∧ (0 < n → ∃ pb pc L, Vs[0]? = some (.slice (some ⟨pb, 0, none⟩) L.length pc) ∧ Rd W (some ⟨pb, 0, none⟩) L ∧ P L ∧ p ≠ pb ∧ pb < W.heap.size ∧ v.ownBlock ≠ some pb)
theorem own_lt {W : World} {base n e size : Nat} {v : Value} {l : List Value} (h : W.ownsRow base e size v n l) {g : Nat} (hg : v.ownBlock = some g) : g < W.heap.size := (h.lt g hg).2
theorem tv_doer (w : World) (P : List Int → Prop) (p : Nat) : Doer w (TV w P p) := by
 refine ⟨fun {K K' s W W'} h hk hb => ⟨Nat.lt_of_lt_of_le h.lt hb.size, h.ge, fun q => ?_, up_kb hk h.kb hb.size, (hb.frozen (p := ⟨p, 0, none⟩) h.lt).trans h.froz, below_on h.below hb, ?_⟩, fun h => h.kb, fun h => h.below⟩
 · rcases hk p q with e | e
   · exact h.out e
   · exact absurd h.lt (by omega)
 · obtain ⟨v, Vs, c, o, ok, f⟩ := h.rows
   refine ⟨v, Vs, (hb.cell (p := ⟨p, 0, none⟩) h.lt).trans c, own_up o hb, fun g hg q => ?_, fun hn => ?_⟩
   · rcases hk g q with e | e
     · exact ok g hg e
     · exact absurd (own_lt o hg) (by omega)
   · obtain ⟨pb, pc, L, f1, f2, f3, f4, f5, f6⟩ := f hn
     exact ⟨pb, pc, L, f1, f2.below hb, f3, f4, Nat.lt_of_lt_of_le f5 hb.size, f6⟩
end Go.Proofs.YtelncekgjfpogahGreatDoor
namespace Go.Proofs.YtelncekgjfpogahGreatDoor.M
set_option linter.unusedVariables false
theorem any_at {l : List Sp} : anyS l = true ↔ ∀ i, i < l.length → hasS (l.getD i (0, 0, false)) = true := by
 unfold anyS
 rw [List.all_eq_true]
 constructor
 · intro h i hi
   rw [getD_at hi]; exact h _ (List.getElem_mem hi)
 · intro h s hs
   obtain ⟨i, hi, rfl⟩ := List.getElem_of_mem hs
   have := h i hi
   rwa [getD_at hi] at this
theorem has_meet_left {a b : Sp} (h : hasS (meetS a b) = true) : hasS a = true := by
 unfold hasS meetS at *
 simp only [Bool.or_eq_true, decide_eq_true_eq, Bool.and_eq_true] at *
 rcases h with h | h
 · left; split at h <;> split at h <;> omega
 · exact .inr h.1
theorem any_left {a b : List Sp} (hl : a.length = b.length) (h : anyS (meet a b) = true) : anyS a = true := by
 rw [any_at] at h ⊢
 intro i hi
 have := h i (by rw [meet_len hl]; exact hi)
 rw [meet_at hl hi] at this
 exact has_meet_left this
theorem nrm_low {s : Sp} (h : s.1 ≤ s.2.1) : norm s = s := by unfold norm; rw [if_neg (by omega)]
theorem nrm_no {s : Sp} (h : s.2.1 < s.1) : (norm s).1 = 1 ∧ (norm s).2.1 = 0 ∧ (norm s).2.2 = s.2.2 := by unfold norm; rw [if_pos (by omega)]; exact ⟨rfl, rfl, rfl⟩
theorem meet_norm (a b : Sp) : hasS (meetS (norm a) b) = hasS (meetS a b) ∧ pickC (meetS (norm a) b) = pickC (meetS a b) := by
 by_cases h : a.1 ≤ a.2.1
 · rw [nrm_low h]; exact ⟨rfl, rfl⟩
 · obtain ⟨n1, n2, n3⟩ := nrm_no (s := a) (by omega)
   have e1 : ¬ (meetS (norm a) b).1 ≤ (meetS (norm a) b).2.1 := by
    unfold meetS; rw [n1, n2]; simp only; split <;> split <;> omega
   have e2 : ¬ (meetS a b).1 ≤ (meetS a b).2.1 := by
    unfold meetS; simp only; split <;> split <;> omega
   unfold hasS pickC
   rw [if_neg e1, if_neg e2, decide_eq_false e1, decide_eq_false e2]
   refine ⟨?_, rfl⟩
   show (false || ((norm a).2.2 && b.2.2)) = (false || (a.2.2 && b.2.2))
   rw [n3]
theorem nrm_len (a : List Sp) : (a.map norm).length = a.length := List.length_map _
theorem nrm_at {a : List Sp} {i : Nat} (hi : i < a.length) : (a.map norm).getD i (0, 0, false) = norm (a.getD i (0, 0, false)) := by
 rw [getD_at (by simpa using hi), getD_at hi]; simp
theorem any_meet_norm {a b : List Sp} (hl : a.length = b.length) : anyS (meet (a.map norm) b) = anyS (meet a b) := by
 have hl' : (a.map norm).length = b.length := by rw [nrm_len]; exact hl
 rw [Bool.eq_iff_iff, any_at, any_at, meet_len hl, meet_len hl', nrm_len]
 constructor
 · intro h i hi
   have := h i hi
   rw [meet_at hl' (by rw [nrm_len]; exact hi), nrm_at hi, (meet_norm _ _).1] at this
   rw [meet_at hl hi]; exact this
 · intro h i hi
   have := h i hi
   rw [meet_at hl hi] at this
   rw [meet_at hl' (by rw [nrm_len]; exact hi), nrm_at hi, (meet_norm _ _).1]; exact this
theorem pick_meet_norm {a b : List Sp} (hl : a.length = b.length) : pick (meet (a.map norm) b) = pick (meet a b) := by
 have hl' : (a.map norm).length = b.length := by rw [nrm_len]; exact hl
 unfold pick
 refine List.ext_getElem (by rw [List.length_map, List.length_map, meet_len hl, meet_len hl', nrm_len]) fun i h1 h2 => ?_
 have hi : i < a.length := by rw [List.length_map, meet_len hl] at h2; exact h2
 have g1 : i < (meet (a.map norm) b).length := by rw [meet_len hl', nrm_len]; exact hi
 have g2 : i < (meet a b).length := by rw [meet_len hl]; exact hi
 rw [List.getElem_map, List.getElem_map, ← getD_at g1, ← getD_at g2, meet_at hl' (by rw [nrm_len]; exact hi), nrm_at hi, (meet_norm _ _).2, meet_at hl hi]
theorem meet_in {a b : List Sp} (hl : a.length = b.length) (ha : ∀ i, i < a.length → okS (a.getD i (0, 0, false))) (hb : spF b = 0) : ∀ i, i < (meet (a.map norm) b).length → outI ((meet (a.map norm) b).getD i (0, 0, false)).1 = false ∧ outI ((meet (a.map norm) b).getD i (0, 0, false)).2.1 = false := by
 have hl' : (a.map norm).length = b.length := by rw [nrm_len]; exact hl
 intro i hi
 rw [meet_len hl', nrm_len] at hi
 rw [meet_at hl' (by rw [nrm_len]; exact hi), nrm_at hi]
 have h1 := ha i hi
 have h2 := sp1_zero ((sp_zero hb).2 i (by omega))
 have h3 := in_out h2.1
 have h4 := in_out h2.2.1
 unfold okS at h1
 generalize a.getD i (0, 0, false) = s at *
 generalize b.getD i (0, 0, false) = u at *
 have n1 : -1000000 ≤ (norm s).1 ∧ (norm s).1 ≤ 1000000 ∧ -1000000 ≤ (norm s).2.1 ∧ (norm s).2.1 ≤ 1000000 := by
  by_cases h : s.1 ≤ s.2.1
  · rw [nrm_low h]; omega
  · obtain ⟨q1, q2, q3⟩ := nrm_no (s := s) (by omega)
    rw [q1, q2]; omega
 unfold meetS
 simp only
 constructor
 · refine out_in ?_ ?_ <;> split <;> omega
 · refine out_in ?_ ?_ <;> split <;> omega
theorem meet_sp {t : List Nd} {l : List Sp} (F : Fair t (l.length : Int)) {j : Nat} (hj : j < t.length) (hs : spF l = 0) : spF (meet ((region t l.length j).map norm) l) = 0 ↔ anyS (meet (region t l.length j) l) = true := by
 have hl := region_len t l.length j
 have l8 := (sp_zero hs).1
 have ml : (meet ((region t l.length j).map norm) l).length = l.length := by rw [meet_len (by rw [nrm_len]; exact hl), nrm_len, hl]
 have ok := meet_in hl (fun i hi => by rw [getD_at hi]; exact region_ok F hj _ (List.getElem_mem hi)) hs
 rw [← any_meet_norm hl]
 constructor
 · intro h
   rw [any_at]
   exact fun i hi => (sp1_zero ((sp_zero h).2 i hi)).2.2
 · intro h
   refine sp_ok (by omega) fun s hs' => ?_
   obtain ⟨i, hi, rfl⟩ := List.getElem_of_mem hs'
   have o := ok i hi
   have p := any_at.1 h i hi
   rw [getD_at hi] at o p
   unfold sp1F
   rw [if_neg (by rw [o.1, o.2]; decide), if_neg (by rw [p]; decide)]
theorem meet_wit {t : List Nd} {l : List Sp} (F : Fair t (l.length : Int)) {j : Nat} (hj : j < t.length) (hs : spF l = 0) (h : anyS (meet (region t l.length j) l) = true) : witV (meet ((region t l.length j).map norm) l) = pick (meet (region t l.length j) l) := by
 unfold witV
 rw [if_pos ((meet_sp F hj hs).2 h), pick_meet_norm (region_len t l.length j)]
abbrev EndsS := Bool × Int × Int × List Int × List Int
def fed (t : List Nd) (l : List Sp) (s : EndsS) (j : Nat) : EndsS := if anyS (meet (region t l.length j) l) = true then endS s (nv (nAt t j)) (pick (meet (region t l.length j) l)) else s
def fedL (t : List Nd) (l : List Sp) (L : List Int) : EndsS := L.foldl (fun s x => fed t l s x.toNat) ends0
theorem fed_more (t : List Nd) (l : List Sp) (L : List Int) {k : Nat} (hk : k < L.length) : fedL t l (L.take (k + 1)) = fed t l (fedL t l (L.take k)) (L.getD k 0).toNat := by
 unfold fedL
 rw [List.take_succ_eq_append_getElem hk, List.foldl_append, getD_at hk]
 rfl
theorem fed_rch (t : List Nd) (l : List Sp) : ∀ k, fedL t l (rch t l.length k) = endsK t l k
 | 0 => rfl
 | k + 1 => by
   have ih := fed_rch t l k
   unfold rch endsK cnt
   by_cases h1 : leafB (nAt t k) = true
   · by_cases h2 : anyS (region t l.length k) = true
     · rw [if_pos ⟨h1, h2⟩]
       unfold fedL at ih ⊢
       rw [List.foldl_append, ih]
       show fed t l (endsK t l k) ((k : Int)).toNat = _
       rw [Int.toNat_natCast, h1, Bool.true_and]
       rfl
     · rw [if_neg (fun q => h2 q.2), h1, Bool.true_and, if_neg (fun q => h2 (any_left (region_len _ _ _) q))]
       exact ih
   · rw [if_neg (fun q => h1 q.1)]
     have h1' : leafB (nAt t k) = false := by simpa using h1
     rw [h1', Bool.false_and, if_neg (by decide)]
     exact ih
theorem rch_at {t : List Nd} {m : Nat} {k : Nat} (hk : k < (rch t m t.length).length) : ∃ j : Nat, (rch t m t.length).getD k 0 = (j : Int) ∧ j < t.length ∧ leafB (nAt t j) = true := by
 have := (rch_mem t m t.length ((rch t m t.length).getD k 0)).1 (by rw [getD_at hk]; exact List.getElem_mem _)
 obtain ⟨j, e, h1, h2, _⟩ := this
 exact ⟨j, e, h1, h2⟩
theorem reg_at {t : List Nd} {m : Nat} {j : Nat} (ht : (treeF t (m : Int)).2 = 0) (hj : j < t.length) (hl : leafB (nAt t j) = true) : regF t (m : Int) (j : Int) = 0 ∧ regV t (m : Int) (j : Int) = (region t m j).map norm := by
 have e : regF t (m : Int) (j : Int) = 0 := by
  unfold regF isLf
  rw [if_neg (by simp [ht]), decide_eq_true (show (0 : Int) ≤ (j : Int) by omega), decide_eq_true (show (j : Int) < (t.length : Int) by omega), Int.toNat_natCast, hl]
  rfl
 refine ⟨e, ?_⟩
 unfold regV
 rw [if_pos e, Int.toNat_natCast, Int.toNat_natCast]
def loS (s : EndsS) : Int := if s.1 = true then s.2.1 else 1000001
def hiS (s : EndsS) : Int := if s.1 = true then s.2.2.1 else -1000001
theorem lo_more {s : EndsS} {v : Int} {p : List Int} (h1 : v ≤ 1000000) : loS (endS s v p) = if v < loS s then v else loS s := by
 unfold loS endS
 simp only [if_true]
 cases s.1
 · simp; omega
 · simp
theorem hi_more {s : EndsS} {v : Int} {p : List Int} (h1 : -1000000 ≤ v) : hiS (endS s v p) = if hiS s < v then v else hiS s := by
 unfold hiS endS
 simp only [if_true]
 cases s.1
 · simp; omega
 · simp
theorem leaf_in {t : List Nd} {m : Int} (F : Fair t m) {j : Nat} (hj : j < t.length) (hl : leafB (nAt t j) = true) : -1000000 ≤ nv (nAt t j) ∧ nv (nAt t j) ≤ 1000000 := by
 exact lv_in F _ ((lvK_mem t _ _).2 ⟨j, hj, hl, rfl⟩)
def sumL (f : Nat → Nat) (L : List Int) : Nat := L.foldl (fun s x => s + f x.toNat) 0
theorem sumL_more (f : Nat → Nat) (L : List Int) {k : Nat} (hk : k < L.length) : sumL f (L.take (k + 1)) = sumL f (L.take k) + f (L.getD k 0).toNat := by
 unfold sumL
 rw [List.take_succ_eq_append_getElem hk, List.foldl_append, getD_at hk]
 rfl
theorem sumL_rch (f : Nat → Nat) (t : List Nd) (m : Nat) : ∀ k, sumL f (rch t m k) = sumN (fun j => if leafB (nAt t j) = true ∧ anyS (region t m j) = true then f j else 0) k
 | 0 => rfl
 | k + 1 => by
   have ih := sumL_rch f t m k
   unfold rch sumN
   by_cases h : leafB (nAt t k) = true ∧ anyS (region t m k) = true
   · rw [if_pos h, if_pos h, ← ih]
     unfold sumL
     rw [List.foldl_append]
     show _ + f ((k : Int)).toNat = _
     rw [Int.toNat_natCast]
   · rw [if_neg h, if_neg h, ih]; rfl
theorem sumL_from {f : Nat → Nat} {c : Nat} (h : ∀ j, f j ≤ c) : ∀ (L : List Int) (s : Nat), L.foldl (fun s x => s + f x.toNat) s ≤ s + L.length * c
 | [], s => by simp
 | x :: L, s => by
   have ih := sumL_from h L (s + f x.toNat)
   have := h x.toNat
   rw [List.foldl_cons, List.length_cons, Nat.add_mul]
   omega
theorem sumL_le {f : Nat → Nat} {c : Nat} (h : ∀ j, f j ≤ c) (L : List Int) : sumL f L ≤ L.length * c := by
 have := sumL_from h L 0
 unfold sumL
 omega
def tmC (ts us : List Nd) (i j : Nat) : Nat := if nv (nAt us j) = nv (nAt ts i) then 0 else 1
theorem tmC_le (ts us : List Nd) (i j : Nat) : tmC ts us i j ≤ 1 := by unfold tmC; split <;> omega
def inC (us : List Nd) (ss : List Sp) (c : Nat → Nat) (j : Nat) : Nat := if anyS (meet (region us ss.length j) ss) = true then c j else 0
theorem inC_le {us : List Nd} {ss : List Sp} {c : Nat → Nat} {n : Nat} (h : ∀ j, c j ≤ n) (j : Nat) : inC us ss c j ≤ n := by
 have := h j
 unfold inC; split <;> omega
theorem nrm_reg (ts : List Nd) (m i : Nat) : ((region ts m i).map norm).length = m := by rw [nrm_len, region_len]
theorem in_comm (ts us : List Nd) (m i j : Nat) : meet (region us m j) ((region ts m i).map norm) = meet ((region ts m i).map norm) (region us m j) := meet_comm _ _
theorem any_pair (ts us : List Nd) (m i j : Nat) : anyS (meet (region us m j) ((region ts m i).map norm)) = anyS (meet (region ts m i) (region us m j)) := by
 rw [in_comm, any_meet_norm (by rw [region_len, region_len])]
theorem pick_pair (ts us : List Nd) (m i j : Nat) : pick (meet (region us m j) ((region ts m i).map norm)) = pick (meet (region ts m i) (region us m j)) := by
 rw [in_comm, pick_meet_norm (by rw [region_len, region_len])]
theorem mvR_at {ts us : List Nd} {m i : Nat} (hl : leafB (nAt ts i) = true) : sumL (inC us ((region ts m i).map norm) (tmC ts us i)) (rch us m us.length) = mvR ts us m i us.length := by
 rw [sumL_rch]
 unfold mvR
 refine sum_same _ fun j hj => ?_
 unfold cnB mvB inC tmC
 rw [nrm_reg, any_pair, hl, Bool.true_and]
 by_cases h1 : leafB (nAt us j) = true
 · by_cases h2 : anyS (meet (region ts m i) (region us m j)) = true
   · have h3 : anyS (region us m j) = true := by
      rw [meet_comm] at h2
      exact any_left (by rw [region_len, region_len]) h2
     rw [if_pos ⟨h1, h3⟩, if_pos h2, h1, h2]
     by_cases h4 : nv (nAt us j) = nv (nAt ts i)
     · rw [if_pos h4, decide_eq_true h4.symm]; rfl
     · rw [if_neg h4, decide_eq_false (fun e => h4 e.symm)]; rfl
   · have h2' : anyS (meet (region ts m i) (region us m j)) = false := by simpa using h2
     rw [h2', Bool.and_false]
     simp
 · have h1' : leafB (nAt us j) = false := by simpa using h1
   rw [h1', if_neg (fun q => by cases q.1)]
   rfl
theorem mvR_no {ts us : List Nd} {m i : Nat} (h : ¬ (leafB (nAt ts i) = true ∧ anyS (region ts m i) = true)) : mvR ts us m i us.length = 0 := by
 unfold mvR
 have : ∀ j, cnB (mvB ts us m i j) = 0 := fun j => by
  unfold cnB
  refine if_neg fun e => h ?_
  unfold mvB at e
  rw [Bool.and_eq_true, Bool.and_eq_true, Bool.and_eq_true] at e
  exact ⟨e.1.1.1, any_left (by rw [region_len, region_len]) e.2⟩
 rw [sum_same (h := fun _ => 0) _ (fun j _ => this j), sum_none]
theorem mvK_at (ts us : List Nd) (m : Nat) : sumL (fun i => mvR ts us m i us.length) (rch ts m ts.length) = mvK ts us m ts.length := by
 rw [sumL_rch]
 unfold mvK
 refine sum_same _ fun i hi => ?_
 by_cases h : leafB (nAt ts i) = true ∧ anyS (region ts m i) = true
 · rw [if_pos h]
 · rw [if_neg h, mvR_no h]
theorem sumN_le {f : Nat → Nat} {c : Nat} (h : ∀ j, f j ≤ c) : ∀ n, sumN f n ≤ n * c
 | 0 => by unfold sumN; omega
 | n + 1 => by
   have ih := sumN_le h n
   have := h n
   unfold sumN
   rw [Nat.add_mul]
   omega
theorem mvR_le (ts us : List Nd) (m i : Nat) : mvR ts us m i us.length ≤ us.length := by
 have := sumN_le (f := fun k => cnB (mvB ts us m i k)) (c := 1) (fun j => by unfold cnB; split <;> omega) us.length
 unfold mvR
 omega
theorem reg_sp {ts : List Nd} {m i : Nat} (F : Fair ts (m : Int)) (hi : i < ts.length) (ha : anyS (region ts m i) = true) : spF ((region ts m i).map norm) = 0 := by
 have m8 : m ≤ 8 := by have := F.2.2.2.1; omega
 refine sp_ok (by rw [nrm_reg]; exact m8) fun s hs => ?_
 have hh : hasS s = true := by
  have := any_norm (region ts m i)
  rw [ha] at this
  unfold anyS at this
  exact List.all_eq_true.1 this s hs
 obtain ⟨u, hu, rfl⟩ := List.mem_map.1 hs
 have ok := region_ok F hi u hu
 unfold okS at ok
 have n1 : -1000000 ≤ (norm u).1 ∧ (norm u).1 ≤ 1000000 ∧ -1000000 ≤ (norm u).2.1 ∧ (norm u).2.1 ≤ 1000000 := by
  by_cases h : u.1 ≤ u.2.1
  · rw [nrm_low h]; omega
  · obtain ⟨q1, q2, q3⟩ := nrm_no (s := u) (by omega)
    rw [q1, q2]; omega
 unfold sp1F
 rw [if_neg (by rw [out_in n1.1 n1.2.1, out_in n1.2.2.1 n1.2.2.2]; decide), if_neg (by rw [hh]; decide)]
theorem rch_any {t : List Nd} {m : Nat} {k : Nat} (hk : k < (rch t m t.length).length) : ∃ j : Nat, (rch t m t.length).getD k 0 = (j : Int) ∧ j < t.length ∧ leafB (nAt t j) = true ∧ anyS (region t m j) = true := by
 have := (rch_mem t m t.length ((rch t m t.length).getD k 0)).1 (by rw [getD_at hk]; exact List.getElem_mem _)
 obtain ⟨j, e, h1, h2, h3⟩ := this
 exact ⟨j, e, h1, h2, h3⟩
theorem pair_row {ts us : List Nd} {m : Nat} (ha : (treeF ts (m : Int)).2 = 0) (hb : (treeF us (m : Int)).2 = 0) {i j : Nat} (hi : i < ts.length) (hj : j < us.length) (hl : leafB (nAt ts i) = true) (hk : leafB (nAt us j) = true) (hn : nv (nAt us j) ≠ nv (nAt ts i)) (h : anyS (meet (region us m j) ((region ts m i).map norm)) = true) :
 rowF (pick (meet (region us m j) ((region ts m i).map norm))) = 0 ∧ (pick (meet (region us m j) ((region ts m i).map norm))).length = m ∧ evalV ts (pick (meet (region us m j) ((region ts m i).map norm))) ≠ evalV us (pick (meet (region us m j) ((region ts m i).map norm))) := by
 rw [any_pair] at h
 rw [pick_pair]
 have hm : mvB ts us m i j = true := by
  unfold mvB
  rw [hl, hk, h, decide_eq_false (fun e => hn e.symm)]; rfl
 obtain ⟨p1, p2, p3, p4, p5⟩ := mv_row ha hb hi hj hm
 exact ⟨p1, p2, by rw [p3, p4]; exact p5⟩
theorem rch_some {ts : List Nd} {m : Nat} (ht : (treeF ts (m : Int)).2 = 0) : 0 < (rch ts m ts.length).length := by
 obtain ⟨F, _⟩ := tree_ok ht
 have m8 : m ≤ 8 := by have := F.2.2.2.1; omega
 have hx : rowF (List.replicate m 0) = 0 := (row_ok _).2 ⟨by simpa using m8, fun x hx => by rw [(List.mem_replicate.1 hx).2]; rfl⟩
 have hm : (List.replicate m (0 : Int)).length = m := by simp
 have y : readyF ts (List.replicate m 0) = 0 := by rw [ready_tree hx, hm]; exact ht
 obtain ⟨g1, g2⟩ := leafV_leaf' y
 have hw := (region_leaf F hx hm g1 g2).2 rfl
 have := (rch_mem ts m ts.length _).2 ⟨_, rfl, g1, decide_eq_true g2, any_within hw⟩
 exact List.length_pos_of_mem this
theorem lim_reg {ts us : List Nd} {m i : Nat} (F : Fair ts (m : Int)) (hi : i < ts.length) (ha : anyS (region ts m i) = true) : limF us ((region ts m i).map norm) = (treeF us (m : Int)).2 := by
 unfold limF
 rw [if_neg (by simp [reg_sp F hi ha]), nrm_reg]
end Go.Proofs.YtelncekgjfpogahGreatDoor.M
