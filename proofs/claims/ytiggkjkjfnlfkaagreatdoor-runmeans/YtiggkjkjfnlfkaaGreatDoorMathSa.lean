/-
  Samples, the question by which most is put right, and the tree that is grown; no condition beyond those named.
-/
import Derived.Test.YtiggkjkjfnlfkaaGreatDoorMathI
namespace Go.Proofs.YtiggkjkjfnlfkaaGreatDoor.M
set_option linter.unusedVariables false

abbrev Sa := List Int × Int
def colA (s : Sa) (f : Nat) : Int := s.1.getD f 0
def sAt (l : List Sa) (i : Nat) : Sa := l.getD i ([], 0)
def sa1F (m : Int) (s : Sa) : Int := if rowF s.1 ≠ 0 then rowF s.1 else if s.2 < -1000 ∨ 1000 < s.2 then 1 else if (s.1.length : Int) ≠ m then 3 else if nilI ∈ s.1 then 5 else 0
def samF (l : List Sa) (m : Int) : Nat × Int := if 60 < l.length then (0, 4) else if l.length = 0 then (0, 5) else if m < 0 ∨ 8 < m then (0, 1) else match firstN (fun i => !decide (sa1F m (sAt l i) = 0)) l.length with
  | some i => (i, sa1F m (sAt l i))
  | none => (0, 0)

/-! ### on both sides of a cut -/
def sideB (f : Nat) (c : Int) (s : Sa) : Bool := decide (colA s f < c)
def partS (l : List Sa) (f : Nat) (c : Int) (b : Bool) : List Sa := l.filter fun s => sideB f c s == b
def sumT : List Sa → Int
  | [] => 0
  | s :: l => s.2 + sumT l
theorem sumT_app (a b : List Sa) : sumT (a ++ b) = sumT a + sumT b := by
  induction a with
  | nil => simp [sumT]
  | cons s a ih => show s.2 + sumT (a ++ b) = s.2 + sumT a + sumT b; rw [ih]; omega
theorem part_sum (l : List Sa) (f : Nat) (c : Int) : sumT (partS l f c true) + sumT (partS l f c false) = sumT l ∧ (partS l f c true).length + (partS l f c false).length = l.length := by
  induction l with
  | nil => exact ⟨rfl, rfl⟩
  | cons s l ih =>
    unfold partS at *
    cases h : sideB f c s
    · rw [List.filter_cons_of_neg (by simp [h]), List.filter_cons_of_pos (by simp [h])]
      obtain ⟨i1, i2⟩ := ih
      refine ⟨?_, by rw [List.length_cons, List.length_cons]; omega⟩
      show _ + (s.2 + sumT _) = s.2 + sumT l
      omega
    · rw [List.filter_cons_of_pos (by simp [h]), List.filter_cons_of_neg (by simp [h])]
      obtain ⟨i1, i2⟩ := ih
      refine ⟨?_, by rw [List.length_cons, List.length_cons]; omega⟩
      show s.2 + sumT _ + _ = s.2 + sumT l
      omega
def nB (l : List Sa) (f : Nat) (c : Int) (b : Bool) : Int := ((partS l f c b).length : Nat)
def tB (l : List Sa) (f : Nat) (c : Int) (b : Bool) : Int := sumT (partS l f c b)
def spU (l : List Sa) (f : Nat) (c : Int) : Int := tB l f c true * tB l f c true * nB l f c false + tB l f c false * tB l f c false * nB l f c true
def spD (l : List Sa) (f : Nat) (c : Int) : Int := nB l f c true * nB l f c false
def okC (l : List Sa) (least : Int) (f : Nat) (c : Int) : Bool := !(decide (nB l f c true < least) || decide (nB l f c false < least) || decide (nB l f c true = 0))

/-! ### the best so far -/
abbrev SpS := Int × Int × Nat × Int × Bool
def sp0 (l : List Sa) : SpS := (sumT l * sumT l, (l.length : Nat), 0, 0, false)
def spGt (l : List Sa) (st : SpS) (f : Nat) (c : Int) : Bool := decide (st.1 * spD l f c < spU l f c * st.2.1) || (st.2.2.2.2 && decide (spU l f c * st.2.1 = st.1 * spD l f c) && decide (f = st.2.2.1) && decide (c < st.2.2.2.1))
def spN (l : List Sa) (least : Int) (st : SpS) (f : Nat) (c : Int) : SpS := if okC l least f c = true then (if spGt l st f c = true then (spU l f c, spD l f c, f, c, true) else st) else st
def spI (l : List Sa) (least : Int) (f : Nat) (st : SpS) : Nat → SpS
  | 0 => st
  | k + 1 => spN l least (spI l least f st k) f (colA (sAt l k) f)
def spA (l : List Sa) (least : Int) : Nat → SpS
  | 0 => sp0 l
  | f + 1 => spI l least f (spA l least f) l.length
def spV (l : List Sa) (m : Nat) (least : Int) : SpS := spA l least m

/-! ### fractions -/
theorem fr_gt {a b c d e f : Int} (hb : 0 < b) (hd : 0 < d) (hf : 0 < f) (h1 : c * b < a * d) (h2 : e * d ≤ c * f) : e * b < a * f := by
  have h3 : c * b * f < a * d * f := Int.mul_lt_mul_of_pos_right h1 hf
  have h4 : e * d * b ≤ c * f * b := Int.mul_le_mul_of_nonneg_right h2 (by omega)
  have h5 : (e * b) * d < (a * f) * d := by grind
  exact Int.lt_of_mul_lt_mul_right h5 (by omega)
theorem fr_ge {a b c d e f : Int} (hb : 0 < b) (hd : 0 < d) (hf : 0 < f) (h1 : c * b ≤ a * d) (h2 : e * d < c * f) : e * b < a * f := by
  have h3 : c * b * f ≤ a * d * f := Int.mul_le_mul_of_nonneg_right h1 (by omega)
  have h4 : e * d * b < c * f * b := Int.mul_lt_mul_of_pos_right h2 hb
  have h5 : (e * b) * d < (a * f) * d := by grind
  exact Int.lt_of_mul_lt_mul_right h5 (by omega)
theorem fr_eq {a b c d e f : Int} (hb : 0 < b) (hd : 0 < d) (hf : 0 < f) (h1 : c * b = a * d) (h2 : e * d = c * f) : e * b = a * f := by
  have h5 : (e * b) * d = (a * f) * d := by grind
  exact Int.eq_of_mul_eq_mul_right (by omega) h5
theorem spD_pos {l : List Sa} {least : Int} {f : Nat} {c : Int} (h1 : 1 ≤ least) (h : okC l least f c = true) : 0 < spD l f c ∧ least ≤ nB l f c true ∧ least ≤ nB l f c false := by
  unfold okC at h
  simp only [Bool.not_eq_true', Bool.or_eq_false_iff, decide_eq_false_iff_not] at h
  refine ⟨?_, by omega, by omega⟩
  unfold spD
  exact Int.mul_pos (by omega) (by omega)

/-! ### which is best -/
/-- a question that may be asked -/
def Cand (l : List Sa) (m : Nat) (least : Int) (f : Nat) (c : Int) : Prop := f < m ∧ (∃ i, i < l.length ∧ colA (sAt l i) f = c) ∧ okC l least f c = true
/-- the one puts more right than the other, or as much and comes first -/
def Beats (l : List Sa) (f : Nat) (c : Int) (f' : Nat) (c' : Int) : Prop := spU l f' c' * spD l f c < spU l f c * spD l f' c' ∨ (spU l f c * spD l f' c' = spU l f' c' * spD l f c ∧ (f < f' ∨ (f = f' ∧ c < c')))
/-- it puts right more than no question -/
def More (l : List Sa) (f : Nat) (c : Int) : Prop := sumT l * sumT l * spD l f c < spU l f c * (l.length : Nat)
structure SpInv (l : List Sa) (least : Int) (F : Nat) (P : Nat → Int → Prop) (st : SpS) : Prop where
  no : st.2.2.2.2 = false → st = sp0 l ∧ ∀ f c, P f c → okC l least f c = true → ¬ More l f c
  yes : st.2.2.2.2 = true → P st.2.2.1 st.2.2.2.1 ∧ okC l least st.2.2.1 st.2.2.2.1 = true ∧ st.1 = spU l st.2.2.1 st.2.2.2.1 ∧ st.2.1 = spD l st.2.2.1 st.2.2.2.1 ∧ More l st.2.2.1 st.2.2.2.1 ∧ ∀ f c, P f c → okC l least f c = true → (f = st.2.2.1 ∧ c = st.2.2.2.1) ∨ Beats l st.2.2.1 st.2.2.2.1 f c
  upto : ∀ f c, P f c → f ≤ F
theorem SpInv.same {l : List Sa} {least : Int} {F : Nat} {P Q : Nat → Int → Prop} {st : SpS} (h : SpInv l least F P st) (e : ∀ f c, P f c ↔ Q f c) : SpInv l least F Q st :=
  ⟨fun q => ⟨(h.no q).1, fun f c hp => (h.no q).2 f c ((e f c).2 hp)⟩, fun q => ⟨(e _ _).1 (h.yes q).1, (h.yes q).2.1, (h.yes q).2.2.1, (h.yes q).2.2.2.1, (h.yes q).2.2.2.2.1, fun f c hp => (h.yes q).2.2.2.2.2 f c ((e f c).2 hp)⟩, fun f c hp => h.upto f c ((e f c).2 hp)⟩
theorem beats_trans {l : List Sa} {least : Int} {f g h : Nat} {c d e : Int} (h1 : 1 ≤ least) (of : okC l least f c = true) (og : okC l least g d = true) (oh : okC l least h e = true) (a : Beats l f c g d) (b : Beats l g d h e) : Beats l f c h e := by
  have df := (spD_pos h1 of).1
  have dg := (spD_pos h1 og).1
  have dh := (spD_pos h1 oh).1
  unfold Beats at *
  rcases a with a | ⟨a, a2⟩
  · rcases b with b | ⟨b, b2⟩
    · exact .inl (fr_gt (c := spU l g d) (d := spD l g d) df dg dh a (Int.le_of_lt b))
    · exact .inl (fr_gt (c := spU l g d) (d := spD l g d) df dg dh a (by omega))
  · rcases b with b | ⟨b, b2⟩
    · exact .inl (fr_ge (c := spU l g d) (d := spD l g d) df dg dh (by omega) b)
    · refine .inr ⟨(fr_eq (c := spU l g d) (d := spD l g d) df dg dh a.symm b.symm).symm, ?_⟩
      rcases a2 with a2 | a2 <;> rcases b2 with b2 | b2 <;> omega
/-- one question more -/
theorem SpInv.more {l : List Sa} {least : Int} {F : Nat} {P : Nat → Int → Prop} {st : SpS} (h1 : 1 ≤ least) (hl : 0 < l.length) (h : SpInv l least F P st) (c : Int) : SpInv l least F (fun f d => P f d ∨ (f = F ∧ d = c)) (spN l least st F c) := by
  have up' : ∀ f d, (P f d ∨ (f = F ∧ d = c)) → f ≤ F := fun f d q => q.elim (h.upto f d) (fun q => by omega)
  have hN : (0 : Int) < (l.length : Nat) := by omega
  unfold spN
  by_cases ok : okC l least F c = true
  · rw [if_pos ok]
    have dp := (spD_pos h1 ok).1
    cases hf : st.2.2.2.2 with
    | false =>
      obtain ⟨e0, n0⟩ := h.no hf
      by_cases g : spGt l st F c = true
      · rw [if_pos g]
        have mo : More l F c := by
          unfold spGt at g
          rw [hf, Bool.false_and, Bool.false_and, Bool.false_and, Bool.or_false] at g
          have g' := of_decide_eq_true g
          rw [e0] at g'
          exact g'
        refine ⟨fun q => (by cases q), fun _ => ⟨.inr ⟨rfl, rfl⟩, ok, rfl, rfl, mo, fun f d hp oc => ?_⟩, up'⟩
        rcases hp with hp | ⟨rfl, rfl⟩
        · have nm := n0 f d hp oc
          unfold More at nm mo
          refine .inr (.inl ?_)
          have dd := (spD_pos h1 oc).1
          exact fr_gt (c := sumT l * sumT l) (d := (l.length : Nat)) dp hN dd mo (by omega)
        · exact .inl ⟨rfl, rfl⟩
      · rw [if_neg g]
        refine ⟨fun _ => ⟨e0, fun f d hp oc mo => ?_⟩, fun q => (by rw [hf] at q; cases q), up'⟩
        rcases hp with hp | ⟨rfl, rfl⟩
        · exact n0 f d hp oc mo
        · refine g ?_
          unfold spGt
          rw [Bool.or_eq_true]
          left
          rw [e0]
          exact decide_eq_true mo
    | true =>
      obtain ⟨y1, y2, y3, y4, y5, y6⟩ := h.yes hf
      have db := (spD_pos h1 y2).1
      have lef := h.upto _ _ y1
      by_cases g : spGt l st F c = true
      · rw [if_pos g]
        have bt : Beats l F c st.2.2.1 st.2.2.2.1 := by
          unfold spGt at g
          rw [hf, y3, y4] at g
          simp only [Bool.or_eq_true, Bool.and_eq_true, decide_eq_true_eq] at g
          rcases g with g | ⟨⟨⟨_, g1⟩, g2⟩, g3⟩
          · exact .inl g
          · exact .inr ⟨g1, .inr ⟨g2, g3⟩⟩
        have mo : More l F c := by
          unfold More at y5 ⊢
          rcases bt with b | ⟨b, _⟩
          · exact fr_gt (c := spU l st.2.2.1 st.2.2.2.1) (d := spD l st.2.2.1 st.2.2.2.1) dp db hN b (Int.le_of_lt y5)
          · exact fr_ge (c := spU l st.2.2.1 st.2.2.2.1) (d := spD l st.2.2.1 st.2.2.2.1) dp db hN (by omega) y5
        refine ⟨fun q => (by cases q), fun _ => ⟨.inr ⟨rfl, rfl⟩, ok, rfl, rfl, mo, fun f d hp oc => ?_⟩, up'⟩
        rcases hp with hp | ⟨rfl, rfl⟩
        · rcases y6 f d hp oc with ⟨rfl, rfl⟩ | b
          · exact .inr bt
          · exact .inr (beats_trans h1 ok y2 oc bt b)
        · exact .inl ⟨rfl, rfl⟩
      · rw [if_neg g]
        refine ⟨fun q => (by rw [hf] at q; cases q), fun _ => ⟨.inl y1, y2, y3, y4, y5, fun f d hp oc => ?_⟩, up'⟩
        rcases hp with hp | ⟨rfl, rfl⟩
        · exact y6 f d hp oc
        · unfold spGt at g
          rw [hf, y3, y4] at g
          simp only [Bool.or_eq_true, Bool.and_eq_true, decide_eq_true_eq, not_or, not_and] at g
          obtain ⟨g1, g2⟩ := g
          by_cases e : spU l f d * spD l st.2.2.1 st.2.2.2.1 = spU l st.2.2.1 st.2.2.2.1 * spD l f d
          · by_cases ef : f = st.2.2.1
            · have := g2 ⟨⟨trivial, e⟩, ef⟩
              by_cases ec : d = st.2.2.2.1
              · exact .inl ⟨ef, ec⟩
              · exact .inr (.inr ⟨e.symm, .inr ⟨ef.symm, by omega⟩⟩)
            · exact .inr (.inr ⟨e.symm, .inl (by omega)⟩)
          · exact .inr (.inl (by omega))
  · rw [if_neg ok]
    refine ⟨fun q => ⟨(h.no q).1, fun f d hp oc => ?_⟩, fun q => ⟨.inl (h.yes q).1, (h.yes q).2.1, (h.yes q).2.2.1, (h.yes q).2.2.2.1, (h.yes q).2.2.2.2.1, fun f d hp oc => ?_⟩, up'⟩
    · rcases hp with hp | ⟨rfl, rfl⟩
      · exact (h.no q).2 f d hp oc
      · exact absurd oc ok
    · rcases hp with hp | ⟨rfl, rfl⟩
      · exact (h.yes q).2.2.2.2.2 f d hp oc
      · exact absurd oc ok

theorem spI_inv {l : List Sa} {least : Int} {F : Nat} {P : Nat → Int → Prop} {st : SpS} (h1 : 1 ≤ least) (hl : 0 < l.length) (h : SpInv l least F P st) : ∀ k, SpInv l least F (fun f d => P f d ∨ (f = F ∧ ∃ i, i < k ∧ colA (sAt l i) F = d)) (spI l least F st k)
  | 0 => h.same fun f c => ⟨.inl, fun q => q.elim id (fun ⟨_, i, hi, _⟩ => by omega)⟩
  | k + 1 => ((spI_inv h1 hl h k).more h1 hl (colA (sAt l k) F)).same fun f c => by
    constructor
    · rintro ((q | ⟨rfl, i, hi, e⟩) | ⟨rfl, rfl⟩)
      · exact .inl q
      · exact .inr ⟨rfl, i, by omega, e⟩
      · exact .inr ⟨rfl, k, by omega, rfl⟩
    · rintro (q | ⟨rfl, i, hi, e⟩)
      · exact .inl (.inl q)
      · by_cases ik : i = k
        · subst ik; exact .inr ⟨rfl, e.symm⟩
        · exact .inl (.inr ⟨rfl, i, by omega, e⟩)
theorem SpInv.wide {l : List Sa} {least : Int} {F G : Nat} {P : Nat → Int → Prop} {st : SpS} (h : SpInv l least F P st) (hg : F ≤ G) : SpInv l least G P st := ⟨h.no, h.yes, fun f c hp => Nat.le_trans (h.upto f c hp) hg⟩
theorem spA_inv {l : List Sa} {least : Int} (h1 : 1 ≤ least) (hl : 0 < l.length) : ∀ m, SpInv l least m (fun f d => f < m ∧ ∃ i, i < l.length ∧ colA (sAt l i) f = d) (spA l least m)
  | 0 => ⟨fun _ => ⟨rfl, fun f c hp => by omega⟩, fun q => (by cases q), fun f c hp => by omega⟩
  | m + 1 => ((spI_inv h1 hl (spA_inv h1 hl m) l.length).wide (Nat.le_succ m)).same fun f c => by
    constructor
    · rintro (⟨h, q⟩ | ⟨rfl, q⟩)
      · exact ⟨by omega, q⟩
      · exact ⟨by omega, q⟩
    · rintro ⟨h, q⟩
      by_cases e : f = m
      · subst e; exact .inr ⟨rfl, q⟩
      · exact .inl ⟨by omega, q⟩
/-- which question is best -/
theorem split_spec {l : List Sa} {m : Nat} {least : Int} (h1 : 1 ≤ least) (hl : 0 < l.length) :
    ((spV l m least).2.2.2.2 = false → (spV l m least).2.2.1 = 0 ∧ (spV l m least).2.2.2.1 = 0 ∧ ∀ f c, Cand l m least f c → ¬ More l f c) ∧
    ((spV l m least).2.2.2.2 = true → Cand l m least (spV l m least).2.2.1 (spV l m least).2.2.2.1 ∧ More l (spV l m least).2.2.1 (spV l m least).2.2.2.1 ∧ ∀ f c, Cand l m least f c → (f = (spV l m least).2.2.1 ∧ c = (spV l m least).2.2.2.1) ∨ Beats l (spV l m least).2.2.1 (spV l m least).2.2.2.1 f c) := by
  have I := spA_inv h1 hl m
  refine ⟨fun q => ?_, fun q => ?_⟩
  · obtain ⟨e, n⟩ := I.no q
    refine ⟨?_, ?_, fun f c hc => n f c ⟨hc.1, hc.2.1⟩ hc.2.2⟩
    · show (spA l least m).2.2.1 = 0; rw [e]; rfl
    · show (spA l least m).2.2.2.1 = 0; rw [e]; rfl
  · obtain ⟨y1, y2, y3, y4, y5, y6⟩ := I.yes q
    exact ⟨⟨y1.1, y1.2, y2⟩, y5, fun f c hc => y6 f c ⟨hc.1, hc.2.1⟩ hc.2.2⟩
theorem beats_not {l : List Sa} {f g : Nat} {c d : Int} (a : Beats l f c g d) (b : Beats l g d f c) : False := by
  unfold Beats at a b
  rcases a with a | ⟨a, a2⟩
  · rcases b with b | ⟨b, b2⟩
    · omega
    · omega
  · rcases b with b | ⟨b, b2⟩
    · omega
    · omega
/-- what is best is one alone -/
theorem split_only {l : List Sa} {m : Nat} {least : Int} (h1 : 1 ≤ least) (hl : 0 < l.length) {f : Nat} {c : Int} (hc : Cand l m least f c) (hm : More l f c) (hb : ∀ g d, Cand l m least g d → (g = f ∧ d = c) ∨ Beats l f c g d) : (spV l m least).2.2.2.2 = true ∧ (spV l m least).2.2.1 = f ∧ (spV l m least).2.2.2.1 = c := by
  obtain ⟨s1, s2⟩ := split_spec (m := m) h1 hl
  cases q : (spV l m least).2.2.2.2 with
  | false => exact absurd hm ((s1 q).2.2 f c hc)
  | true =>
    obtain ⟨t1, t2, t3⟩ := s2 q
    rcases t3 f c hc with ⟨e1, e2⟩ | b
    · exact ⟨rfl, e1.symm, e2.symm⟩
    · rcases hb _ _ t1 with ⟨e1, e2⟩ | b2
      · exact ⟨rfl, e1, e2⟩
      · exact absurd b2 (fun b2 => beats_not b b2)
theorem split_none {l : List Sa} {m : Nat} {least : Int} (h1 : 1 ≤ least) (hl : 0 < l.length) (h : ∀ f c, Cand l m least f c → ¬ More l f c) : (spV l m least).2.2.2.2 = false := by
  cases q : (spV l m least).2.2.2.2 with
  | false => rfl
  | true =>
    obtain ⟨t1, t2, _⟩ := (split_spec (m := m) h1 hl).2 q
    exact absurd t2 (h _ _ t1)

/-! ### targets that are shifted -/
def shiftL (b : Int) (l : List Sa) : List Sa := l.map fun s => (s.1, s.2 + b)
theorem shift_len (b : Int) (l : List Sa) : (shiftL b l).length = l.length := by unfold shiftL; simp
theorem shift_sum (b : Int) : ∀ l : List Sa, sumT (shiftL b l) = sumT l + b * (l.length : Nat)
  | [] => by simp [shiftL, sumT]
  | s :: l => by
    have ih := shift_sum b l
    show (s.2 + b) + sumT (shiftL b l) = s.2 + sumT l + b * ((l.length + 1 : Nat) : Int)
    rw [ih, Int.natCast_add, Int.mul_add]
    simp
    omega
theorem shift_part (b : Int) (l : List Sa) (f : Nat) (c : Int) (d : Bool) : partS (shiftL b l) f c d = shiftL b (partS l f c d) := by
  unfold partS shiftL
  rw [List.filter_map]
  rfl
theorem shift_n (b : Int) (l : List Sa) (f : Nat) (c : Int) (d : Bool) : nB (shiftL b l) f c d = nB l f c d := by unfold nB; rw [shift_part, shift_len]
theorem shift_t (b : Int) (l : List Sa) (f : Nat) (c : Int) (d : Bool) : tB (shiftL b l) f c d = tB l f c d + b * nB l f c d := by unfold tB nB; rw [shift_part, shift_sum]
def shK (b : Int) (l : List Sa) : Int := 2 * b * sumT l + b * b * (l.length : Nat)
theorem shift_U (b : Int) (l : List Sa) (f : Nat) (c : Int) : spU (shiftL b l) f c = spU l f c + spD l f c * shK b l := by
  have h1 : tB l f c true + tB l f c false = sumT l := (part_sum l f c).1
  have h2 : nB l f c true + nB l f c false = (l.length : Nat) := by have := (part_sum l f c).2; unfold nB; omega
  unfold spU spD shK
  rw [shift_t, shift_t, shift_n, shift_n, ← h1, ← h2]
  grind
theorem shift_D (b : Int) (l : List Sa) (f : Nat) (c : Int) : spD (shiftL b l) f c = spD l f c := by unfold spD; rw [shift_n, shift_n]
theorem shift_ok (b : Int) (l : List Sa) (least : Int) (f : Nat) (c : Int) : okC (shiftL b l) least f c = okC l least f c := by unfold okC; rw [shift_n, shift_n]
theorem shift_more (b : Int) (l : List Sa) (f : Nat) (c : Int) : More (shiftL b l) f c ↔ More l f c := by
  unfold More
  rw [shift_U, shift_D, shift_sum, shift_len]
  unfold shK
  have e : (sumT l + b * (l.length : Nat)) * (sumT l + b * (l.length : Nat)) * spD l f c = sumT l * sumT l * spD l f c + (spD l f c * (2 * b * sumT l + b * b * (l.length : Nat))) * (l.length : Nat) := by grind
  rw [e, Int.add_mul]
  omega
theorem shift_beats (b : Int) (l : List Sa) (f g : Nat) (c d : Int) : Beats (shiftL b l) f c g d ↔ Beats l f c g d := by
  unfold Beats
  rw [shift_U, shift_U, shift_D, shift_D]
  have e1 : (spU l g d + spD l g d * shK b l) * spD l f c = spU l g d * spD l f c + spD l g d * spD l f c * shK b l := by grind
  have e2 : (spU l f c + spD l f c * shK b l) * spD l g d = spU l f c * spD l g d + spD l g d * spD l f c * shK b l := by grind
  rw [e1, e2]
  constructor
  · rintro (h | ⟨h, q⟩)
    · exact .inl (by omega)
    · exact .inr ⟨by omega, q⟩
  · rintro (h | ⟨h, q⟩)
    · exact .inl (by omega)
    · exact .inr ⟨by omega, q⟩
theorem shift_at (b : Int) {l : List Sa} {i : Nat} (hi : i < l.length) (f : Nat) : colA (sAt (shiftL b l) i) f = colA (sAt l i) f := by
  have e : sAt (shiftL b l) i = ((sAt l i).1, (sAt l i).2 + b) := by
    unfold sAt shiftL
    rw [getD_at (l := l.map _) (by simpa using hi), getD_at (l := l) hi, List.getElem_map]
  rw [e]
  rfl
theorem shift_cand (b : Int) (l : List Sa) (m : Nat) (least : Int) (f : Nat) (c : Int) : Cand (shiftL b l) m least f c ↔ Cand l m least f c := by
  unfold Cand
  rw [shift_ok, shift_len]
  constructor
  · rintro ⟨h, ⟨i, hi, e⟩, q⟩
    exact ⟨h, ⟨i, hi, by rw [← shift_at b hi]; exact e⟩, q⟩
  · rintro ⟨h, ⟨i, hi, e⟩, q⟩
    exact ⟨h, ⟨i, hi, by rw [shift_at b hi]; exact e⟩, q⟩
/-- a shift changes no question -/
theorem shift_split (b : Int) {l : List Sa} {m : Nat} {least : Int} (h1 : 1 ≤ least) (hl : 0 < l.length) : (spV (shiftL b l) m least).2.2 = (spV l m least).2.2 := by
  have hl' : 0 < (shiftL b l).length := by rw [shift_len]; exact hl
  cases q : (spV l m least).2.2.2.2 with
  | true =>
    obtain ⟨t1, t2, t3⟩ := (split_spec (m := m) h1 hl).2 q
    obtain ⟨r1, r2, r3⟩ := split_only (m := m) h1 hl' ((shift_cand b l m least _ _).2 t1) ((shift_more b l _ _).2 t2) fun g d hc => (t3 g d ((shift_cand b l m least g d).1 hc)).imp id (fun z => (shift_beats b l _ _ _ _).2 z)
    exact Prod.ext r2 (Prod.ext r3 (by rw [r1, q]))
  | false =>
    obtain ⟨e1, e2, n⟩ := (split_spec (m := m) h1 hl).1 q
    have r := split_none (m := m) h1 hl' fun f c hc mo => n f c ((shift_cand b l m least f c).1 hc) ((shift_more b l f c).1 mo)
    obtain ⟨d1, d2, _⟩ := (split_spec (m := m) h1 hl').1 r
    exact Prod.ext (by rw [d1, e1]) (Prod.ext (by rw [d2, e2]) (by rw [r, q]))

end Go.Proofs.YtiggkjkjfnlfkaaGreatDoor.M
