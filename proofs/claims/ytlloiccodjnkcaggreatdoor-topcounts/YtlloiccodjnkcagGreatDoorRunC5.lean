/-
  Several texts as one: MathSa, MathSb, MathSc.
-/
import Derived.Test.YtlloiccodjnkcagGreatDoorRunC4
namespace Go.Proofs.YtlloiccodjnkcagGreatDoor.M
set_option linter.unusedVariables false

abbrev Sa := List Int × Int
def colA (s : Sa) (f : Nat) : Int := s.1.getD f 0
def sAt (l : List Sa) (i : Nat) : Sa := l.getD i ([], 0)
def sa1F (m : Int) (s : Sa) : Int := if rowF s.1 ≠ 0 then rowF s.1 else if s.2 < -1000 ∨ 1000 < s.2 then 1 else if (s.1.length : Int) ≠ m then 3 else if nilI ∈ s.1 then 5 else 0
def samF (l : List Sa) (m : Int) : Nat × Int := if 60 < l.length then (0, 4) else if l.length = 0 then (0, 5) else if m < 0 ∨ 8 < m then (0, 1) else match firstN (fun i => !decide (sa1F m (sAt l i) = 0)) l.length with
  | some i => (i, sa1F m (sAt l i))
  | none => (0, 0)

/-! ### on both sides of a cut -/
def sideB (f : Nat) (c : Int) (s : Sa) : Bool := decide (colA s f < c)
def partS (l : List Sa) (f : Nat) (c : Int) (b : Bool) : List Sa := l.filter fun s => sideB f c s == b
def sumT : List Sa → Int
  | [] => 0
  | s :: l => s.2 + sumT l
theorem sumT_app (a b : List Sa) : sumT (a ++ b) = sumT a + sumT b := by
  induction a with
  | nil => simp [sumT]
  | cons s a ih => show s.2 + sumT (a ++ b) = s.2 + sumT a + sumT b; rw [ih]; omega
theorem part_sum (l : List Sa) (f : Nat) (c : Int) : sumT (partS l f c true) + sumT (partS l f c false) = sumT l ∧ (partS l f c true).length + (partS l f c false).length = l.length := by
  induction l with
  | nil => exact ⟨rfl, rfl⟩
  | cons s l ih =>
    unfold partS at *
    cases h : sideB f c s
    · rw [List.filter_cons_of_neg (by simp [h]), List.filter_cons_of_pos (by simp [h])]
      obtain ⟨i1, i2⟩ := ih
      refine ⟨?_, by rw [List.length_cons, List.length_cons]; omega⟩
      show _ + (s.2 + sumT _) = s.2 + sumT l
      omega
    · rw [List.filter_cons_of_pos (by simp [h]), List.filter_cons_of_neg (by simp [h])]
      obtain ⟨i1, i2⟩ := ih
      refine ⟨?_, by rw [List.length_cons, List.length_cons]; omega⟩
      show s.2 + sumT _ + _ = s.2 + sumT l
      omega
def nB (l : List Sa) (f : Nat) (c : Int) (b : Bool) : Int := ((partS l f c b).length : Nat)
def tB (l : List Sa) (f : Nat) (c : Int) (b : Bool) : Int := sumT (partS l f c b)
def spU (l : List Sa) (f : Nat) (c : Int) : Int := tB l f c true * tB l f c true * nB l f c false + tB l f c false * tB l f c false * nB l f c true
def spD (l : List Sa) (f : Nat) (c : Int) : Int := nB l f c true * nB l f c false
def okC (l : List Sa) (least : Int) (f : Nat) (c : Int) : Bool := !(decide (nB l f c true < least) || decide (nB l f c false < least) || decide (nB l f c true = 0))

/-! ### the best so far -/
abbrev SpS := Int × Int × Nat × Int × Bool
def sp0 (l : List Sa) : SpS := (sumT l * sumT l, (l.length : Nat), 0, 0, false)
def spGt (l : List Sa) (st : SpS) (f : Nat) (c : Int) : Bool := decide (st.1 * spD l f c < spU l f c * st.2.1) || (st.2.2.2.2 && decide (spU l f c * st.2.1 = st.1 * spD l f c) && decide (f = st.2.2.1) && decide (c < st.2.2.2.1))
def spN (l : List Sa) (least : Int) (st : SpS) (f : Nat) (c : Int) : SpS := if okC l least f c = true then (if spGt l st f c = true then (spU l f c, spD l f c, f, c, true) else st) else st
def spI (l : List Sa) (least : Int) (f : Nat) (st : SpS) : Nat → SpS
  | 0 => st
  | k + 1 => spN l least (spI l least f st k) f (colA (sAt l k) f)
def spA (l : List Sa) (least : Int) : Nat → SpS
  | 0 => sp0 l
  | f + 1 => spI l least f (spA l least f) l.length
def spV (l : List Sa) (m : Nat) (least : Int) : SpS := spA l least m

/-! ### fractions -/
theorem fr_gt {a b c d e f : Int} (hb : 0 < b) (hd : 0 < d) (hf : 0 < f) (h1 : c * b < a * d) (h2 : e * d ≤ c * f) : e * b < a * f := by
  have h3 : c * b * f < a * d * f := Int.mul_lt_mul_of_pos_right h1 hf
  have h4 : e * d * b ≤ c * f * b := Int.mul_le_mul_of_nonneg_right h2 (by omega)
  have h5 : (e * b) * d < (a * f) * d := by grind
  exact Int.lt_of_mul_lt_mul_right h5 (by omega)
theorem fr_ge {a b c d e f : Int} (hb : 0 < b) (hd : 0 < d) (hf : 0 < f) (h1 : c * b ≤ a * d) (h2 : e * d < c * f) : e * b < a * f := by
  have h3 : c * b * f ≤ a * d * f := Int.mul_le_mul_of_nonneg_right h1 (by omega)
  have h4 : e * d * b < c * f * b := Int.mul_lt_mul_of_pos_right h2 hb
  have h5 : (e * b) * d < (a * f) * d := by grind
  exact Int.lt_of_mul_lt_mul_right h5 (by omega)
theorem fr_eq {a b c d e f : Int} (hb : 0 < b) (hd : 0 < d) (hf : 0 < f) (h1 : c * b = a * d) (h2 : e * d = c * f) : e * b = a * f := by
  have h5 : (e * b) * d = (a * f) * d := by grind
  exact Int.eq_of_mul_eq_mul_right (by omega) h5
theorem spD_pos {l : List Sa} {least : Int} {f : Nat} {c : Int} (h1 : 1 ≤ least) (h : okC l least f c = true) : 0 < spD l f c ∧ least ≤ nB l f c true ∧ least ≤ nB l f c false := by
  unfold okC at h
  simp only [Bool.not_eq_true', Bool.or_eq_false_iff, decide_eq_false_iff_not] at h
  refine ⟨?_, by omega, by omega⟩
  unfold spD
  exact Int.mul_pos (by omega) (by omega)

/-! ### which is best -/
/-- a question that may be asked -/
def Cand (l : List Sa) (m : Nat) (least : Int) (f : Nat) (c : Int) : Prop := f < m ∧ (∃ i, i < l.length ∧ colA (sAt l i) f = c) ∧ okC l least f c = true
/-- the one puts more right than the other, or as much and comes first -/
def Beats (l : List Sa) (f : Nat) (c : Int) (f' : Nat) (c' : Int) : Prop := spU l f' c' * spD l f c < spU l f c * spD l f' c' ∨ (spU l f c * spD l f' c' = spU l f' c' * spD l f c ∧ (f < f' ∨ (f = f' ∧ c < c')))
/-- it puts right more than no question -/
def More (l : List Sa) (f : Nat) (c : Int) : Prop := sumT l * sumT l * spD l f c < spU l f c * (l.length : Nat)
structure SpInv (l : List Sa) (least : Int) (F : Nat) (P : Nat → Int → Prop) (st : SpS) : Prop where
  no : st.2.2.2.2 = false → st = sp0 l ∧ ∀ f c, P f c → okC l least f c = true → ¬ More l f c
  yes : st.2.2.2.2 = true → P st.2.2.1 st.2.2.2.1 ∧ okC l least st.2.2.1 st.2.2.2.1 = true ∧ st.1 = spU l st.2.2.1 st.2.2.2.1 ∧ st.2.1 = spD l st.2.2.1 st.2.2.2.1 ∧ More l st.2.2.1 st.2.2.2.1 ∧ ∀ f c, P f c → okC l least f c = true → (f = st.2.2.1 ∧ c = st.2.2.2.1) ∨ Beats l st.2.2.1 st.2.2.2.1 f c
  upto : ∀ f c, P f c → f ≤ F
theorem SpInv.same {l : List Sa} {least : Int} {F : Nat} {P Q : Nat → Int → Prop} {st : SpS} (h : SpInv l least F P st) (e : ∀ f c, P f c ↔ Q f c) : SpInv l least F Q st :=
  ⟨fun q => ⟨(h.no q).1, fun f c hp => (h.no q).2 f c ((e f c).2 hp)⟩, fun q => ⟨(e _ _).1 (h.yes q).1, (h.yes q).2.1, (h.yes q).2.2.1, (h.yes q).2.2.2.1, (h.yes q).2.2.2.2.1, fun f c hp => (h.yes q).2.2.2.2.2 f c ((e f c).2 hp)⟩, fun f c hp => h.upto f c ((e f c).2 hp)⟩
theorem beats_trans {l : List Sa} {least : Int} {f g h : Nat} {c d e : Int} (h1 : 1 ≤ least) (of : okC l least f c = true) (og : okC l least g d = true) (oh : okC l least h e = true) (a : Beats l f c g d) (b : Beats l g d h e) : Beats l f c h e := by
  have df := (spD_pos h1 of).1
  have dg := (spD_pos h1 og).1
  have dh := (spD_pos h1 oh).1
  unfold Beats at *
  rcases a with a | ⟨a, a2⟩
  · rcases b with b | ⟨b, b2⟩
    · exact .inl (fr_gt (c := spU l g d) (d := spD l g d) df dg dh a (Int.le_of_lt b))
    · exact .inl (fr_gt (c := spU l g d) (d := spD l g d) df dg dh a (by omega))
  · rcases b with b | ⟨b, b2⟩
    · exact .inl (fr_ge (c := spU l g d) (d := spD l g d) df dg dh (by omega) b)
    · refine .inr ⟨(fr_eq (c := spU l g d) (d := spD l g d) df dg dh a.symm b.symm).symm, ?_⟩
      rcases a2 with a2 | a2 <;> rcases b2 with b2 | b2 <;> omega
/-- one question more -/
theorem SpInv.more {l : List Sa} {least : Int} {F : Nat} {P : Nat → Int → Prop} {st : SpS} (h1 : 1 ≤ least) (hl : 0 < l.length) (h : SpInv l least F P st) (c : Int) : SpInv l least F (fun f d => P f d ∨ (f = F ∧ d = c)) (spN l least st F c) := by
  have up' : ∀ f d, (P f d ∨ (f = F ∧ d = c)) → f ≤ F := fun f d q => q.elim (h.upto f d) (fun q => by omega)
  have hN : (0 : Int) < (l.length : Nat) := by omega
  unfold spN
  by_cases ok : okC l least F c = true
  · rw [if_pos ok]
    have dp := (spD_pos h1 ok).1
    cases hf : st.2.2.2.2 with
    | false =>
      obtain ⟨e0, n0⟩ := h.no hf
      by_cases g : spGt l st F c = true
      · rw [if_pos g]
        have mo : More l F c := by
          unfold spGt at g
          rw [hf, Bool.false_and, Bool.false_and, Bool.false_and, Bool.or_false] at g
          have g' := of_decide_eq_true g
          rw [e0] at g'
          exact g'
        refine ⟨fun q => (by cases q), fun _ => ⟨.inr ⟨rfl, rfl⟩, ok, rfl, rfl, mo, fun f d hp oc => ?_⟩, up'⟩
        rcases hp with hp | ⟨rfl, rfl⟩
        · have nm := n0 f d hp oc
          unfold More at nm mo
          refine .inr (.inl ?_)
          have dd := (spD_pos h1 oc).1
          exact fr_gt (c := sumT l * sumT l) (d := (l.length : Nat)) dp hN dd mo (by omega)
        · exact .inl ⟨rfl, rfl⟩
      · rw [if_neg g]
        refine ⟨fun _ => ⟨e0, fun f d hp oc mo => ?_⟩, fun q => (by rw [hf] at q; cases q), up'⟩
        rcases hp with hp | ⟨rfl, rfl⟩
        · exact n0 f d hp oc mo
        · refine g ?_
          unfold spGt
          rw [Bool.or_eq_true]
          left
          rw [e0]
          exact decide_eq_true mo
    | true =>
      obtain ⟨y1, y2, y3, y4, y5, y6⟩ := h.yes hf
      have db := (spD_pos h1 y2).1
      have lef := h.upto _ _ y1
      by_cases g : spGt l st F c = true
      · rw [if_pos g]
        have bt : Beats l F c st.2.2.1 st.2.2.2.1 := by
          unfold spGt at g
          rw [hf, y3, y4] at g
          simp only [Bool.or_eq_true, Bool.and_eq_true, decide_eq_true_eq] at g
          rcases g with g | ⟨⟨⟨_, g1⟩, g2⟩, g3⟩
          · exact .inl g
          · exact .inr ⟨g1, .inr ⟨g2, g3⟩⟩
        have mo : More l F c := by
          unfold More at y5 ⊢
          rcases bt with b | ⟨b, _⟩
          · exact fr_gt (c := spU l st.2.2.1 st.2.2.2.1) (d := spD l st.2.2.1 st.2.2.2.1) dp db hN b (Int.le_of_lt y5)
          · exact fr_ge (c := spU l st.2.2.1 st.2.2.2.1) (d := spD l st.2.2.1 st.2.2.2.1) dp db hN (by omega) y5
        refine ⟨fun q => (by cases q), fun _ => ⟨.inr ⟨rfl, rfl⟩, ok, rfl, rfl, mo, fun f d hp oc => ?_⟩, up'⟩
        rcases hp with hp | ⟨rfl, rfl⟩
        · rcases y6 f d hp oc with ⟨rfl, rfl⟩ | b
          · exact .inr bt
          · exact .inr (beats_trans h1 ok y2 oc bt b)
        · exact .inl ⟨rfl, rfl⟩
      · rw [if_neg g]
        refine ⟨fun q => (by rw [hf] at q; cases q), fun _ => ⟨.inl y1, y2, y3, y4, y5, fun f d hp oc => ?_⟩, up'⟩
        rcases hp with hp | ⟨rfl, rfl⟩
        · exact y6 f d hp oc
        · unfold spGt at g
          rw [hf, y3, y4] at g
          simp only [Bool.or_eq_true, Bool.and_eq_true, decide_eq_true_eq, not_or, not_and] at g
          obtain ⟨g1, g2⟩ := g
          by_cases e : spU l f d * spD l st.2.2.1 st.2.2.2.1 = spU l st.2.2.1 st.2.2.2.1 * spD l f d
          · by_cases ef : f = st.2.2.1
            · have := g2 ⟨⟨trivial, e⟩, ef⟩
              by_cases ec : d = st.2.2.2.1
              · exact .inl ⟨ef, ec⟩
              · exact .inr (.inr ⟨e.symm, .inr ⟨ef.symm, by omega⟩⟩)
            · exact .inr (.inr ⟨e.symm, .inl (by omega)⟩)
          · exact .inr (.inl (by omega))
  · rw [if_neg ok]
    refine ⟨fun q => ⟨(h.no q).1, fun f d hp oc => ?_⟩, fun q => ⟨.inl (h.yes q).1, (h.yes q).2.1, (h.yes q).2.2.1, (h.yes q).2.2.2.1, (h.yes q).2.2.2.2.1, fun f d hp oc => ?_⟩, up'⟩
    · rcases hp with hp | ⟨rfl, rfl⟩
      · exact (h.no q).2 f d hp oc
      · exact absurd oc ok
    · rcases hp with hp | ⟨rfl, rfl⟩
      · exact (h.yes q).2.2.2.2.2 f d hp oc
      · exact absurd oc ok

theorem spI_inv {l : List Sa} {least : Int} {F : Nat} {P : Nat → Int → Prop} {st : SpS} (h1 : 1 ≤ least) (hl : 0 < l.length) (h : SpInv l least F P st) : ∀ k, SpInv l least F (fun f d => P f d ∨ (f = F ∧ ∃ i, i < k ∧ colA (sAt l i) F = d)) (spI l least F st k)
  | 0 => h.same fun f c => ⟨.inl, fun q => q.elim id (fun ⟨_, i, hi, _⟩ => by omega)⟩
  | k + 1 => ((spI_inv h1 hl h k).more h1 hl (colA (sAt l k) F)).same fun f c => by
    constructor
    · rintro ((q | ⟨rfl, i, hi, e⟩) | ⟨rfl, rfl⟩)
      · exact .inl q
      · exact .inr ⟨rfl, i, by omega, e⟩
      · exact .inr ⟨rfl, k, by omega, rfl⟩
    · rintro (q | ⟨rfl, i, hi, e⟩)
      · exact .inl (.inl q)
      · by_cases ik : i = k
        · subst ik; exact .inr ⟨rfl, e.symm⟩
        · exact .inl (.inr ⟨rfl, i, by omega, e⟩)
theorem SpInv.wide {l : List Sa} {least : Int} {F G : Nat} {P : Nat → Int → Prop} {st : SpS} (h : SpInv l least F P st) (hg : F ≤ G) : SpInv l least G P st := ⟨h.no, h.yes, fun f c hp => Nat.le_trans (h.upto f c hp) hg⟩
theorem spA_inv {l : List Sa} {least : Int} (h1 : 1 ≤ least) (hl : 0 < l.length) : ∀ m, SpInv l least m (fun f d => f < m ∧ ∃ i, i < l.length ∧ colA (sAt l i) f = d) (spA l least m)
  | 0 => ⟨fun _ => ⟨rfl, fun f c hp => by omega⟩, fun q => (by cases q), fun f c hp => by omega⟩
  | m + 1 => ((spI_inv h1 hl (spA_inv h1 hl m) l.length).wide (Nat.le_succ m)).same fun f c => by
    constructor
    · rintro (⟨h, q⟩ | ⟨rfl, q⟩)
      · exact ⟨by omega, q⟩
      · exact ⟨by omega, q⟩
    · rintro ⟨h, q⟩
      by_cases e : f = m
      · subst e; exact .inr ⟨rfl, q⟩
      · exact .inl ⟨by omega, q⟩
/-- which question is best -/
theorem split_spec {l : List Sa} {m : Nat} {least : Int} (h1 : 1 ≤ least) (hl : 0 < l.length) :
    ((spV l m least).2.2.2.2 = false → (spV l m least).2.2.1 = 0 ∧ (spV l m least).2.2.2.1 = 0 ∧ ∀ f c, Cand l m least f c → ¬ More l f c) ∧
    ((spV l m least).2.2.2.2 = true → Cand l m least (spV l m least).2.2.1 (spV l m least).2.2.2.1 ∧ More l (spV l m least).2.2.1 (spV l m least).2.2.2.1 ∧ ∀ f c, Cand l m least f c → (f = (spV l m least).2.2.1 ∧ c = (spV l m least).2.2.2.1) ∨ Beats l (spV l m least).2.2.1 (spV l m least).2.2.2.1 f c) := by
  have I := spA_inv h1 hl m
  refine ⟨fun q => ?_, fun q => ?_⟩
  · obtain ⟨e, n⟩ := I.no q
    refine ⟨?_, ?_, fun f c hc => n f c ⟨hc.1, hc.2.1⟩ hc.2.2⟩
    · show (spA l least m).2.2.1 = 0; rw [e]; rfl
    · show (spA l least m).2.2.2.1 = 0; rw [e]; rfl
  · obtain ⟨y1, y2, y3, y4, y5, y6⟩ := I.yes q
    exact ⟨⟨y1.1, y1.2, y2⟩, y5, fun f c hc => y6 f c ⟨hc.1, hc.2.1⟩ hc.2.2⟩
theorem beats_not {l : List Sa} {f g : Nat} {c d : Int} (a : Beats l f c g d) (b : Beats l g d f c) : False := by
  unfold Beats at a b
  rcases a with a | ⟨a, a2⟩
  · rcases b with b | ⟨b, b2⟩
    · omega
    · omega
  · rcases b with b | ⟨b, b2⟩
    · omega
    · omega
/-- what is best is one alone -/
theorem split_only {l : List Sa} {m : Nat} {least : Int} (h1 : 1 ≤ least) (hl : 0 < l.length) {f : Nat} {c : Int} (hc : Cand l m least f c) (hm : More l f c) (hb : ∀ g d, Cand l m least g d → (g = f ∧ d = c) ∨ Beats l f c g d) : (spV l m least).2.2.2.2 = true ∧ (spV l m least).2.2.1 = f ∧ (spV l m least).2.2.2.1 = c := by
  obtain ⟨s1, s2⟩ := split_spec (m := m) h1 hl
  cases q : (spV l m least).2.2.2.2 with
  | false => exact absurd hm ((s1 q).2.2 f c hc)
  | true =>
    obtain ⟨t1, t2, t3⟩ := s2 q
    rcases t3 f c hc with ⟨e1, e2⟩ | b
    · exact ⟨rfl, e1.symm, e2.symm⟩
    · rcases hb _ _ t1 with ⟨e1, e2⟩ | b2
      · exact ⟨rfl, e1, e2⟩
      · exact absurd b2 (fun b2 => beats_not b b2)
theorem split_none {l : List Sa} {m : Nat} {least : Int} (h1 : 1 ≤ least) (hl : 0 < l.length) (h : ∀ f c, Cand l m least f c → ¬ More l f c) : (spV l m least).2.2.2.2 = false := by
  cases q : (spV l m least).2.2.2.2 with
  | false => rfl
  | true =>
    obtain ⟨t1, t2, _⟩ := (split_spec (m := m) h1 hl).2 q
    exact absurd t2 (h _ _ t1)

/-! ### targets that are shifted -/
def shiftL (b : Int) (l : List Sa) : List Sa := l.map fun s => (s.1, s.2 + b)
theorem shift_len (b : Int) (l : List Sa) : (shiftL b l).length = l.length := by unfold shiftL; simp
theorem shift_sum (b : Int) : ∀ l : List Sa, sumT (shiftL b l) = sumT l + b * (l.length : Nat)
  | [] => by simp [shiftL, sumT]
  | s :: l => by
    have ih := shift_sum b l
    show (s.2 + b) + sumT (shiftL b l) = s.2 + sumT l + b * ((l.length + 1 : Nat) : Int)
    rw [ih, Int.natCast_add, Int.mul_add]
    simp
    omega
theorem shift_part (b : Int) (l : List Sa) (f : Nat) (c : Int) (d : Bool) : partS (shiftL b l) f c d = shiftL b (partS l f c d) := by
  unfold partS shiftL
  rw [List.filter_map]
  rfl
theorem shift_n (b : Int) (l : List Sa) (f : Nat) (c : Int) (d : Bool) : nB (shiftL b l) f c d = nB l f c d := by unfold nB; rw [shift_part, shift_len]
theorem shift_t (b : Int) (l : List Sa) (f : Nat) (c : Int) (d : Bool) : tB (shiftL b l) f c d = tB l f c d + b * nB l f c d := by unfold tB nB; rw [shift_part, shift_sum]
def shK (b : Int) (l : List Sa) : Int := 2 * b * sumT l + b * b * (l.length : Nat)
theorem shift_U (b : Int) (l : List Sa) (f : Nat) (c : Int) : spU (shiftL b l) f c = spU l f c + spD l f c * shK b l := by
  have h1 : tB l f c true + tB l f c false = sumT l := (part_sum l f c).1
  have h2 : nB l f c true + nB l f c false = (l.length : Nat) := by have := (part_sum l f c).2; unfold nB; omega
  unfold spU spD shK
  rw [shift_t, shift_t, shift_n, shift_n, ← h1, ← h2]
  grind
theorem shift_D (b : Int) (l : List Sa) (f : Nat) (c : Int) : spD (shiftL b l) f c = spD l f c := by unfold spD; rw [shift_n, shift_n]
theorem shift_ok (b : Int) (l : List Sa) (least : Int) (f : Nat) (c : Int) : okC (shiftL b l) least f c = okC l least f c := by unfold okC; rw [shift_n, shift_n]
theorem shift_more (b : Int) (l : List Sa) (f : Nat) (c : Int) : More (shiftL b l) f c ↔ More l f c := by
  unfold More
  rw [shift_U, shift_D, shift_sum, shift_len]
  unfold shK
  have e : (sumT l + b * (l.length : Nat)) * (sumT l + b * (l.length : Nat)) * spD l f c = sumT l * sumT l * spD l f c + (spD l f c * (2 * b * sumT l + b * b * (l.length : Nat))) * (l.length : Nat) := by grind
  rw [e, Int.add_mul]
  omega
theorem shift_beats (b : Int) (l : List Sa) (f g : Nat) (c d : Int) : Beats (shiftL b l) f c g d ↔ Beats l f c g d := by
  unfold Beats
  rw [shift_U, shift_U, shift_D, shift_D]
  have e1 : (spU l g d + spD l g d * shK b l) * spD l f c = spU l g d * spD l f c + spD l g d * spD l f c * shK b l := by grind
  have e2 : (spU l f c + spD l f c * shK b l) * spD l g d = spU l f c * spD l g d + spD l g d * spD l f c * shK b l := by grind
  rw [e1, e2]
  constructor
  · rintro (h | ⟨h, q⟩)
    · exact .inl (by omega)
    · exact .inr ⟨by omega, q⟩
  · rintro (h | ⟨h, q⟩)
    · exact .inl (by omega)
    · exact .inr ⟨by omega, q⟩
theorem shift_at (b : Int) {l : List Sa} {i : Nat} (hi : i < l.length) (f : Nat) : colA (sAt (shiftL b l) i) f = colA (sAt l i) f := by
  have e : sAt (shiftL b l) i = ((sAt l i).1, (sAt l i).2 + b) := by
    unfold sAt shiftL
    rw [getD_at (l := l.map _) (by simpa using hi), getD_at (l := l) hi, List.getElem_map]
  rw [e]
  rfl
theorem shift_cand (b : Int) (l : List Sa) (m : Nat) (least : Int) (f : Nat) (c : Int) : Cand (shiftL b l) m least f c ↔ Cand l m least f c := by
  unfold Cand
  rw [shift_ok, shift_len]
  constructor
  · rintro ⟨h, ⟨i, hi, e⟩, q⟩
    exact ⟨h, ⟨i, hi, by rw [← shift_at b hi]; exact e⟩, q⟩
  · rintro ⟨h, ⟨i, hi, e⟩, q⟩
    exact ⟨h, ⟨i, hi, by rw [shift_at b hi]; exact e⟩, q⟩
/-- a shift changes no question -/
theorem shift_split (b : Int) {l : List Sa} {m : Nat} {least : Int} (h1 : 1 ≤ least) (hl : 0 < l.length) : (spV (shiftL b l) m least).2.2 = (spV l m least).2.2 := by
  have hl' : 0 < (shiftL b l).length := by rw [shift_len]; exact hl
  cases q : (spV l m least).2.2.2.2 with
  | true =>
    obtain ⟨t1, t2, t3⟩ := (split_spec (m := m) h1 hl).2 q
    obtain ⟨r1, r2, r3⟩ := split_only (m := m) h1 hl' ((shift_cand b l m least _ _).2 t1) ((shift_more b l _ _).2 t2) fun g d hc => (t3 g d ((shift_cand b l m least g d).1 hc)).imp id (fun z => (shift_beats b l _ _ _ _).2 z)
    exact Prod.ext r2 (Prod.ext r3 (by rw [r1, q]))
  | false =>
    obtain ⟨e1, e2, n⟩ := (split_spec (m := m) h1 hl).1 q
    have r := split_none (m := m) h1 hl' fun f c hc mo => n f c ((shift_cand b l m least f c).1 hc) ((shift_more b l f c).1 mo)
    obtain ⟨d1, d2, _⟩ := (split_spec (m := m) h1 hl').1 r
    exact Prod.ext (by rw [d1, e1]) (Prod.ext (by rw [d2, e2]) (by rw [r, q]))

end Go.Proofs.YtlloiccodjnkcagGreatDoor.M

namespace Go.Proofs.YtlloiccodjnkcagGreatDoor.M
set_option linter.unusedVariables false

/-- samples that are right, as many or fewer -/
structure GoodS (l : List Sa) (m : Nat) : Prop where
  le : l.length ≤ 60
  m8 : m ≤ 8
  each : ∀ s ∈ l, rowF s.1 = 0 ∧ s.1.length = m ∧ (-1000 ≤ s.2 ∧ s.2 ≤ 1000) ∧ nilI ∉ s.1
theorem sa1_zero {m : Int} {s : Sa} (h : sa1F m s = 0) : rowF s.1 = 0 ∧ (s.1.length : Int) = m ∧ (-1000 ≤ s.2 ∧ s.2 ≤ 1000) ∧ nilI ∉ s.1 := by
  unfold sa1F at h
  by_cases c1 : rowF s.1 = 0
  · rw [if_neg (by simp [c1])] at h
    by_cases c2 : s.2 < -1000 ∨ 1000 < s.2
    · rw [if_pos c2] at h; cases h
    · rw [if_neg c2] at h
      by_cases c3 : (s.1.length : Int) = m
      · rw [if_neg (by simp [c3])] at h
        by_cases c4 : nilI ∈ s.1
        · rw [if_pos c4] at h; cases h
        · exact ⟨c1, c3, by omega, c4⟩
      · rw [if_pos c3] at h; cases h
  · rw [if_pos c1] at h; exact absurd h c1
theorem sam_ok {l : List Sa} {m : Int} (h : (samF l m).2 = 0) : GoodS l m.toNat ∧ 0 < l.length ∧ ((m.toNat : Nat) : Int) = m ∧ (samF l m).1 = 0 := by
  unfold samF at h ⊢
  by_cases c1 : 60 < l.length
  · rw [if_pos c1] at h; cases h
  · rw [if_neg c1] at h ⊢
    by_cases c2 : l.length = 0
    · rw [if_pos c2] at h; cases h
    · rw [if_neg c2] at h ⊢
      by_cases c3 : m < 0 ∨ 8 < m
      · rw [if_pos c3] at h; cases h
      · rw [if_neg c3] at h ⊢
        split at h
        · rename_i k e
          have q := (first_some e).2
          rw [decide_eq_true h] at q
          cases q
        · rename_i e
          refine ⟨⟨by omega, by omega, fun s hs => ?_⟩, by omega, by omega, rfl⟩
          obtain ⟨i, hi, rfl⟩ := List.getElem_of_mem hs
          have q := first_none e i hi
          have q' : sa1F m (sAt l i) = 0 := by simpa using q
          have e2 : sAt l i = l[i] := by unfold sAt; rw [getD_at hi]
          rw [e2] at q'
          obtain ⟨z1, z2, z3, z4⟩ := sa1_zero q'
          exact ⟨z1, by omega, z3, z4⟩
theorem GoodS.part {l : List Sa} {m : Nat} (h : GoodS l m) (f : Nat) (c : Int) (b : Bool) : GoodS (partS l f c b) m :=
  ⟨Nat.le_trans (List.length_filter_le _ _) h.le, h.m8, fun s hs => h.each s (List.mem_filter.1 hs).1⟩
theorem sum_in : ∀ {l : List Sa}, (∀ s ∈ l, -1000 ≤ s.2 ∧ s.2 ≤ 1000) → -1000 * (l.length : Nat) ≤ sumT l ∧ sumT l ≤ 1000 * (l.length : Nat)
  | [], _ => by simp [sumT]
  | s :: l, h => by
    have ih := sum_in (l := l) fun x hx => h x (List.mem_cons_of_mem _ hx)
    have := h s (List.mem_cons_self ..)
    show _ ≤ s.2 + sumT l ∧ s.2 + sumT l ≤ _
    rw [List.length_cons]
    omega

/-! ### grown -/
def meanS (l : List Sa) : Int := sumT l / (l.length : Nat)
def growT (m : Nat) (least : Int) : Nat → List Sa → BT
  | 0, l => .lf (meanS l)
  | d + 1, l => if (spV l m least).2.2.2.2 = true then .nd ((spV l m least).2.2.1 : Nat) (spV l m least).2.2.2.1 (decide (nB l (spV l m least).2.2.1 (spV l m least).2.2.2.1 false < nB l (spV l m least).2.2.1 (spV l m least).2.2.2.1 true)) (growT m least d (partS l (spV l m least).2.2.1 (spV l m least).2.2.2.1 true)) (growT m least d (partS l (spV l m least).2.2.1 (spV l m least).2.2.2.1 false)) else .lf (meanS l)
theorem grow_deep (m : Nat) (least : Int) : ∀ (d : Nat) (l : List Sa), (growT m least d l).deep ≤ d ∧ (growT m least d l).size + 1 ≤ 2 ^ (d + 1)
  | 0, l => ⟨Nat.le_refl _, Nat.le_refl _⟩
  | d + 1, l => by
    unfold growT
    split
    · obtain ⟨a1, a2⟩ := grow_deep m least d (partS l (spV l m least).2.2.1 (spV l m least).2.2.2.1 true)
      obtain ⟨b1, b2⟩ := grow_deep m least d (partS l (spV l m least).2.2.1 (spV l m least).2.2.2.1 false)
      refine ⟨?_, ?_⟩
      · show 1 + max _ _ ≤ d + 1
        omega
      · show 1 + _ + _ + 1 ≤ 2 ^ (d + 1 + 1)
        rw [Nat.pow_succ]
        omega
    · refine ⟨Nat.zero_le _, ?_⟩
      show 1 + 1 ≤ 2 ^ (d + 1 + 1)
      have : 1 ≤ 2 ^ (d + 1) := Nat.one_le_two_pow
      rw [Nat.pow_succ]; omega
/-- both sides of the question that is asked have samples -/
theorem grow_sides {l : List Sa} {m : Nat} {least : Int} (h1 : 1 ≤ least) (hl : 0 < l.length) (q : (spV l m least).2.2.2.2 = true) :
    (spV l m least).2.2.1 < m ∧ (∃ i, i < l.length ∧ colA (sAt l i) (spV l m least).2.2.1 = (spV l m least).2.2.2.1) ∧ least ≤ nB l (spV l m least).2.2.1 (spV l m least).2.2.2.1 true ∧ least ≤ nB l (spV l m least).2.2.1 (spV l m least).2.2.2.1 false ∧ More l (spV l m least).2.2.1 (spV l m least).2.2.2.1 := by
  obtain ⟨t1, t2, _⟩ := (split_spec (m := m) h1 hl).2 q
  exact ⟨t1.1, t1.2.1, (spD_pos h1 t1.2.2).2.1, (spD_pos h1 t1.2.2).2.2, t2⟩
theorem mean_in {l : List Sa} {m : Nat} (h : GoodS l m) (hl : 0 < l.length) : -1000 ≤ meanS l ∧ meanS l ≤ 1000 := by
  have hs := sum_in fun s hs => (h.each s hs).2.2.1
  unfold meanS
  have hp : (0 : Int) < (l.length : Nat) := by omega
  constructor
  · exact (Int.le_ediv_iff_mul_le hp).2 hs.1
  · exact Int.le_of_lt_add_one (Int.ediv_lt_of_lt_mul hp (by omega))
theorem cell_in {l : List Sa} {m : Nat} (h : GoodS l m) {i f : Nat} (hi : i < l.length) (hf : f < m) : outI (colA (sAt l i) f) = false := by
  have e : sAt l i = l[i] := by unfold sAt; rw [getD_at hi]
  obtain ⟨z1, z2, z3, z4⟩ := h.each l[i] (List.getElem_mem hi)
  have hm : l[i].1.getD f 0 ∈ l[i].1 := by rw [getD_at (by omega)]; exact List.getElem_mem _
  unfold colA
  rw [e]
  have := ((row_ok _).1 z1).2 _ hm
  unfold badCell at this
  by_cases c : l[i].1.getD f 0 = nilI
  · exact absurd (c ▸ hm) z4
  · rw [decide_eq_false c] at this
    exact this
theorem grow_ok {m : Nat} {least : Int} (h1 : 1 ≤ least) : ∀ (d : Nat) {l : List Sa}, GoodS l m → 0 < l.length → okB (m : Int) (growT m least d l)
  | 0, l, h, hl => by
    have := mean_in h hl
    exact out_in (by omega) (by omega)
  | d + 1, l, h, hl => by
    unfold growT
    split
    · rename_i q
      obtain ⟨s1, ⟨i, hi, e⟩, s3, s4, _⟩ := grow_sides h1 hl q
      have n1 : 0 < (partS l (spV l m least).2.2.1 (spV l m least).2.2.2.1 true).length := by unfold nB at s3; omega
      have n2 : 0 < (partS l (spV l m least).2.2.1 (spV l m least).2.2.2.1 false).length := by unfold nB at s4; omega
      refine ⟨by omega, by omega, ?_, grow_ok h1 d (h.part _ _ _) n1, grow_ok h1 d (h.part _ _ _) n2⟩
      rw [← e]
      exact cell_in h hi s1
    · have := mean_in h hl
      exact out_in (by omega) (by omega)
def grwF (l : List Sa) (m depth least : Int) : Int := if (samF l m).2 ≠ 0 then (samF l m).2 else if depth < 0 ∨ 5 < depth ∨ least < 1 ∨ 60 < least then 1 else 0
def grwT (l : List Sa) (m depth least : Int) : List Nd := if grwF l m depth least = 0 then lay (growT m.toNat least depth.toNat l) 0 else []
theorem grw_ok {l : List Sa} {m depth least : Int} (h : grwF l m depth least = 0) : (samF l m).2 = 0 ∧ 0 ≤ depth ∧ depth ≤ 5 ∧ 1 ≤ least ∧ least ≤ 60 := by
  unfold grwF at h
  by_cases c : (samF l m).2 = 0
  · rw [if_neg (by simp [c])] at h
    by_cases d : depth < 0 ∨ 5 < depth ∨ least < 1 ∨ 60 < least
    · rw [if_pos d] at h; cases h
    · exact ⟨c, by omega, by omega, by omega, by omega⟩
  · rw [if_pos c] at h; exact absurd h c
/-- what is grown is a tree that is right -/
theorem grw_tree {l : List Sa} {m depth least : Int} (h : grwF l m depth least = 0) : (treeF (grwT l m depth least) m).2 = 0 ∧ okB m (growT m.toNat least depth.toNat l) ∧ (grwT l m depth least).length ≤ 63 := by
  obtain ⟨h1, d0, d5, l1, l60⟩ := grw_ok h
  obtain ⟨G, hl, hm, _⟩ := sam_ok h1
  have ok := grow_ok (m := m.toNat) l1 depth.toNat G hl
  rw [hm] at ok
  obtain ⟨g1, g2⟩ := grow_deep m.toNat least depth.toNat l
  have p : 2 ^ (depth.toNat + 1) ≤ 2 ^ 6 := Nat.pow_le_pow_right (by decide) (by omega)
  have m8 := G.m8
  unfold grwT
  rw [if_pos h]
  exact ⟨lay_tree ok (by omega) (by omega) (by omega) (by omega), ok, by rw [lay_len]; omega⟩

/-! ### shifted -/
def shB (b : Int) : BT → BT
  | .lf v => .lf (v + b)
  | .nd f c s l r => .nd f c s (shB b l) (shB b r)
theorem sh_size (b : Int) : ∀ T : BT, (shB b T).size = T.size
  | .lf _ => rfl
  | .nd _ _ _ l r => by unfold shB BT.size; rw [sh_size b l, sh_size b r]
def shN (b : Int) (n : Nd) : Nd := if nf n = -1 then (nf n, nc n, nl n, nr n, ns n, nv n + b) else n
theorem sh_lay (b : Int) {m : Int} : ∀ (T : BT) (k : Nat), okB m T → lay (shB b T) k = (lay T k).map (shN b)
  | .lf v, k, _ => rfl
  | .nd f c s l r, k, h => by
    obtain ⟨h1, h2, h3, h4, h5⟩ := h
    show (f, c, ((k + 1 : Nat) : Int), ((k + 1 + (shB b l).size : Nat) : Int), s, 0) :: (lay (shB b l) (k + 1) ++ lay (shB b r) (k + 1 + (shB b l).size)) = ((f, c, ((k + 1 : Nat) : Int), ((k + 1 + l.size : Nat) : Int), s, 0) :: (lay l (k + 1) ++ lay r (k + 1 + l.size))).map (shN b)
    rw [sh_size, sh_lay b l _ h4, sh_lay b r _ h5, List.map_cons, List.map_append]
    congr 1
    have e : ∀ x y : Int, ¬ nf ((f, c, x, y, s, 0) : Nd) = -1 := fun x y q => by have q' : f = -1 := q; omega
    unfold shN
    rw [if_neg (e _ _)]
theorem shift_mean (b : Int) {l : List Sa} (hl : 0 < l.length) : meanS (shiftL b l) = meanS l + b := by
  unfold meanS
  rw [shift_sum, shift_len, Int.add_mul_ediv_right _ _ (by omega)]
theorem shift_grow (b : Int) {m : Nat} {least : Int} (h1 : 1 ≤ least) : ∀ (d : Nat) {l : List Sa}, 0 < l.length → growT m least d (shiftL b l) = shB b (growT m least d l)
  | 0, l, hl => by
    show BT.lf _ = BT.lf _
    rw [shift_mean b hl]
  | d + 1, l, hl => by
    unfold growT
    have e := shift_split b (m := m) h1 hl
    have e1 : (spV (shiftL b l) m least).2.2.1 = (spV l m least).2.2.1 := by rw [e]
    have e2 : (spV (shiftL b l) m least).2.2.2.1 = (spV l m least).2.2.2.1 := by rw [e]
    have e3 : (spV (shiftL b l) m least).2.2.2.2 = (spV l m least).2.2.2.2 := by rw [e]
    rw [e1, e2, e3, shift_n, shift_n, shift_part, shift_part]
    by_cases q : (spV l m least).2.2.2.2 = true
    · obtain ⟨s1, _, s3, s4, _⟩ := grow_sides h1 hl q
      rw [if_pos q, if_pos q, shift_grow b h1 d (by unfold nB at s3; omega), shift_grow b h1 d (by unfold nB at s4; omega)]
      rfl
    · rw [if_neg q, if_neg q, shift_mean b hl]
      rfl

/-! ### what is wrong -/
def sqW (T : BT) : List Sa → Int
  | [] => 0
  | s :: l => (s.2 - evB T s.1) * (s.2 - evB T s.1) + sqW T l
def sqT : List Sa → Int
  | [] => 0
  | s :: l => s.2 * s.2 + sqT l
theorem sqW_leaf (v : Int) : ∀ l : List Sa, sqW (.lf v) l = sqT l - 2 * v * sumT l + (l.length : Nat) * (v * v)
  | [] => by simp [sqW, sqT, sumT]
  | s :: l => by
    have ih := sqW_leaf v l
    show (s.2 - v) * (s.2 - v) + sqW (.lf v) l = s.2 * s.2 + sqT l - 2 * v * (s.2 + sumT l) + ((l.length + 1 : Nat) : Int) * (v * v)
    rw [ih]
    grind
theorem sqT_part (l : List Sa) (f : Nat) (c : Int) : sqT (partS l f c true) + sqT (partS l f c false) = sqT l := by
  induction l with
  | nil => rfl
  | cons s l ih =>
    unfold partS at *
    cases h : sideB f c s
    · rw [List.filter_cons_of_neg (by simp [h]), List.filter_cons_of_pos (by simp [h])]
      show _ + (s.2 * s.2 + sqT _) = s.2 * s.2 + sqT l
      omega
    · rw [List.filter_cons_of_pos (by simp [h]), List.filter_cons_of_neg (by simp [h])]
      show s.2 * s.2 + sqT _ + _ = s.2 * s.2 + sqT l
      omega
/-- a row of samples goes as its cell does -/
theorem goes_side {l : List Sa} {m : Nat} (h : GoodS l m) {f : Nat} (hf : f < m) (c : Int) (b : Bool) {s : Sa} (hs : s ∈ l) : goes (f : Nat) c b s.1 = sideB f c s := by
  obtain ⟨z1, z2, z3, z4⟩ := h.each s hs
  unfold goes sideB colA
  rw [Int.toNat_natCast]
  have hm : s.1.getD f 0 ∈ s.1 := by rw [getD_at (by omega)]; exact List.getElem_mem _
  rw [if_neg (fun e => z4 (by rw [← e]; exact hm))]
theorem sqW_ask (f : Nat) (c : Int) (b : Bool) (L R : BT) : ∀ {l : List Sa}, (∀ s ∈ l, goes (f : Nat) c b s.1 = sideB f c s) → sqW (.nd (f : Nat) c b L R) l = sqW L (partS l f c true) + sqW R (partS l f c false)
  | [], _ => rfl
  | s :: l, h => by
    have ih := sqW_ask f c b L R (l := l) fun x hx => h x (List.mem_cons_of_mem _ hx)
    have hs := h s (List.mem_cons_self ..)
    have e : evB (.nd (f : Nat) c b L R) s.1 = if sideB f c s = true then evB L s.1 else evB R s.1 := by
      show (if goes (f : Nat) c b s.1 = true then _ else _) = _
      rw [hs]
    show (s.2 - evB (.nd (f : Nat) c b L R) s.1) * (s.2 - evB (.nd (f : Nat) c b L R) s.1) + sqW (.nd (f : Nat) c b L R) l = _
    rw [e, ih]
    unfold partS
    cases q : sideB f c s
    · rw [List.filter_cons_of_neg (by simp [q]), List.filter_cons_of_pos (by simp [q]), if_neg (by decide)]
      show _ = sqW L _ + ((s.2 - evB R s.1) * (s.2 - evB R s.1) + sqW R _)
      omega
    · rw [List.filter_cons_of_pos (by simp [q]), List.filter_cons_of_neg (by simp [q]), if_pos rfl]
      show _ = (s.2 - evB L s.1) * (s.2 - evB L s.1) + sqW L _ + sqW R _
      omega
/-- the mean, rounded down, is less than one away -/
theorem mean_leaf {l : List Sa} (hl : 0 < l.length) : (l.length : Nat) * sqT l - sumT l * sumT l ≤ (l.length : Nat) * sqW (.lf (meanS l)) l ∧ (l.length : Nat) * sqW (.lf (meanS l)) l ≤ (l.length : Nat) * sqT l - sumT l * sumT l + (l.length : Nat) * (l.length : Nat) := by
  have hp : (0 : Int) < (l.length : Nat) := by omega
  have h1 : meanS l * (l.length : Nat) ≤ sumT l := Int.ediv_mul_le _ (by omega)
  have h2 : sumT l < meanS l * (l.length : Nat) + (l.length : Nat) := by
    have := Int.lt_ediv_add_one_mul_self (sumT l) hp
    unfold meanS
    rw [Int.add_mul, Int.one_mul] at this
    exact this
  rw [sqW_leaf]
  generalize meanS l = v at *
  generalize sumT l = S at *
  generalize sqT l = Q at *
  generalize ((l.length : Nat) : Int) = n at *
  have e : n * (Q - 2 * v * S + n * (v * v)) = n * Q - S * S + (S - v * n) * (S - v * n) := by grind
  rw [e]
  have d0 : 0 ≤ S - v * n := by omega
  have d1 : S - v * n < n := by omega
  generalize S - v * n = d at *
  have p1 : 0 ≤ d * d := Int.mul_nonneg d0 d0
  have p2 : d * d ≤ n * n := Int.mul_le_mul (by omega) (by omega) d0 (by omega)
  omega
/-- a question that puts more right: less is wrong, but for what is rounded -/
theorem split_less {l : List Sa} {f : Nat} {c : Int} (n1 : 0 < nB l f c true) (n2 : 0 < nB l f c false) (hm : More l f c) : sqW (.lf (meanS (partS l f c true))) (partS l f c true) + sqW (.lf (meanS (partS l f c false))) (partS l f c false) ≤ sqW (.lf (meanS l)) l + (l.length : Nat) := by
  have a1 : 0 < (partS l f c true).length := by unfold nB at n1; omega
  have a2 : 0 < (partS l f c false).length := by unfold nB at n2; omega
  obtain ⟨_, u1⟩ := mean_leaf a1
  obtain ⟨_, u2⟩ := mean_leaf a2
  obtain ⟨s1, s2⟩ := part_sum l f c
  have al : 0 < l.length := by omega
  obtain ⟨u3, _⟩ := mean_leaf al
  have q := sqT_part l f c
  unfold More spU spD tB nB at hm
  have e2 : ((l.length : Nat) : Int) = ((partS l f c true).length : Nat) + ((partS l f c false).length : Nat) := by omega
  generalize sqW (.lf (meanS (partS l f c true))) (partS l f c true) = W1 at *
  generalize sqW (.lf (meanS (partS l f c false))) (partS l f c false) = W2 at *
  generalize sqW (.lf (meanS l)) l = W at *
  generalize sumT (partS l f c true) = S1 at *
  generalize sumT (partS l f c false) = S2 at *
  generalize sqT (partS l f c true) = Q1 at *
  generalize sqT (partS l f c false) = Q2 at *
  have p1 : (0 : Int) < ((partS l f c true).length : Nat) := by omega
  have p2 : (0 : Int) < ((partS l f c false).length : Nat) := by omega
  rw [← q, ← s1] at u3
  rw [← s1] at hm
  rw [e2] at u3 hm ⊢
  generalize (((partS l f c true).length : Nat) : Int) = a at *
  generalize (((partS l f c false).length : Nat) : Int) = b at *
  clear s1 s2 al q e2 n1 n2
  have k1 : (a * W1) * (b * (a + b)) ≤ (a * Q1 - S1 * S1 + a * a) * (b * (a + b)) := Int.mul_le_mul_of_nonneg_right u1 (Int.mul_nonneg (by omega) (by omega))
  have k2 : (b * W2) * (a * (a + b)) ≤ (b * Q2 - S2 * S2 + b * b) * (a * (a + b)) := Int.mul_le_mul_of_nonneg_right u2 (Int.mul_nonneg (by omega) (by omega))
  have k3 : ((a + b) * (Q1 + Q2) - (S1 + S2) * (S1 + S2)) * (a * b) ≤ ((a + b) * W) * (a * b) := Int.mul_le_mul_of_nonneg_right u3 (Int.mul_nonneg (by omega) (by omega))
  have pos : 0 < a * b * (a + b) := Int.mul_pos (Int.mul_pos p1 p2) (by omega)
  have fin : (W1 + W2) * (a * b * (a + b)) ≤ (W + (a + b)) * (a * b * (a + b)) := by grind
  exact Int.le_of_mul_le_mul_right fin pos
/-- more questions, no more wrong, but for what is rounded -/
theorem grow_less {m : Nat} {least : Int} (h1 : 1 ≤ least) : ∀ (d : Nat) {l : List Sa}, GoodS l m → 0 < l.length → sqW (growT m least (d + 1) l) l ≤ sqW (growT m least d l) l + (l.length : Nat)
  | 0, l, h, hl => by
    show sqW (if _ then _ else _) l ≤ sqW (.lf (meanS l)) l + _
    by_cases q : (spV l m least).2.2.2.2 = true
    · rw [if_pos q]
      obtain ⟨s1, _, s3, s4, s5⟩ := grow_sides h1 hl q
      rw [sqW_ask _ _ _ _ _ fun s hs => goes_side h s1 _ _ hs]
      exact split_less (by omega) (by omega) s5
    · rw [if_neg q]
      omega
  | d + 1, l, h, hl => by
    have u : ∀ k, growT m least (k + 1) l = if (spV l m least).2.2.2.2 = true then .nd ((spV l m least).2.2.1 : Nat) (spV l m least).2.2.2.1 (decide (nB l (spV l m least).2.2.1 (spV l m least).2.2.2.1 false < nB l (spV l m least).2.2.1 (spV l m least).2.2.2.1 true)) (growT m least k (partS l (spV l m least).2.2.1 (spV l m least).2.2.2.1 true)) (growT m least k (partS l (spV l m least).2.2.1 (spV l m least).2.2.2.1 false)) else .lf (meanS l) := fun k => rfl
    rw [u (d + 1), u d]
    by_cases q : (spV l m least).2.2.2.2 = true
    · rw [if_pos q, if_pos q]
      obtain ⟨s1, _, s3, s4, s5⟩ := grow_sides h1 hl q
      rw [sqW_ask _ _ _ _ _ fun s hs => goes_side h s1 _ _ hs, sqW_ask _ _ _ _ _ fun s hs => goes_side h s1 _ _ hs]
      have i1 := grow_less h1 d (h.part (spV l m least).2.2.1 (spV l m least).2.2.2.1 true) (by unfold nB at s3; omega)
      have i2 := grow_less h1 d (h.part (spV l m least).2.2.1 (spV l m least).2.2.2.1 false) (by unfold nB at s4; omega)
      have n := (part_sum l (spV l m least).2.2.1 (spV l m least).2.2.2.1).2
      omega
    · rw [if_neg q, if_neg q]
      omega

end Go.Proofs.YtlloiccodjnkcagGreatDoor.M

namespace Go.Proofs.YtlloiccodjnkcagGreatDoor.M
set_option linter.unusedVariables false

/-! ### to which leaf a row comes -/
def posB : BT → Nat → List Int → Nat
  | .lf _, k, _ => k
  | .nd f c s l r, k, x => if goes f c s x = true then posB l (k + 1) x else posB r (k + 1 + l.size) x
theorem pos_in : ∀ (T : BT) (k : Nat) (x : List Int), k ≤ posB T k x ∧ posB T k x < k + T.size
  | .lf _, k, x => by unfold posB BT.size; omega
  | .nd f c s l r, k, x => by
    have h1 := pos_in l (k + 1) x
    have h2 := pos_in r (k + 1 + l.size) x
    show k ≤ (if goes f c s x = true then posB l (k + 1) x else posB r (k + 1 + l.size) x) ∧ (if goes f c s x = true then posB l (k + 1) x else posB r (k + 1 + l.size) x) < k + (1 + l.size + r.size)
    split <;> omega
theorem getD_front {α : Type} {A B : List α} {i : Nat} {d : α} (h : i < A.length) : (A ++ B).getD i d = A.getD i d := by
  rw [List.getD, List.getD, List.getElem?_append_left h]
theorem getD_behind {α : Type} {A B : List α} {i : Nat} {d : α} : (A ++ B).getD (A.length + i) d = B.getD i d := by
  rw [List.getD, List.getD, List.getElem?_append_right (by omega), Nat.add_sub_cancel_left]
theorem ok_more {m n : Int} (h : m ≤ n) : ∀ {T : BT}, okB m T → okB n T
  | .lf _, q => q
  | .nd _ _ _ _ _, ⟨h1, h2, h3, h4, h5⟩ => ⟨h1, by omega, h3, ok_more h h4, ok_more h h5⟩
theorem less_goes {f c : Int} {s : Bool} {a b : Int} (x : List Int) : lessC ((f, c, a, b, s, 0) : Nd) (x.getD f.toNat 0) = goes f c s x := rfl
/-- what lies at a place of what is laid within others -/
theorem lay_at {A C : List Nd} (L : List Nd) {j : Nat} (hj : j < L.length) : nAt (A ++ L ++ C) (A.length + j) = nAt L j := by
  unfold nAt
  rw [List.append_assoc, getD_behind, getD_front hj]
theorem pos_to {t : List Nd} {m : Int} (hR : Right t m) (x : List Int) : ∀ (T : BT) (A C : List Nd), okB m T → t = A ++ lay T A.length ++ C → toD t x A.length = posB T A.length x
  | .lf v, A, C, _, e => by
    have h0 : nAt t A.length = (-1, 0, 0, 0, false, v) := by
      have := lay_at (A := A) (C := C) (lay (.lf v) A.length) (j := 0) (by rw [lay_len]; exact Nat.one_pos)
      rw [e]
      exact this
    exact to_leaf (by rw [e]; simp [lay]) (by rw [h0]; rfl)
  | .nd f c s l r, A, C, ok, e => by
    obtain ⟨o1, o2, o3, o4, o5⟩ := ok
    have sz : (lay (.nd f c s l r) A.length).length = 1 + l.size + r.size := lay_len _ _
    have tl : t.length = A.length + (1 + l.size + r.size) + C.length := by rw [e, List.length_append, List.length_append, sz]
    have h0 : nAt t A.length = (f, c, ((A.length + 1 : Nat) : Int), ((A.length + 1 + l.size : Nat) : Int), s, 0) := by
      have := lay_at (A := A) (C := C) (lay (.nd f c s l r) A.length) (j := 0) (by rw [sz]; omega)
      rw [e]
      exact this
    have hf : nf (nAt t A.length) ≠ -1 := by rw [h0]; show f ≠ -1; omega
    have eL : t = (A ++ [(f, c, ((A.length + 1 : Nat) : Int), ((A.length + 1 + l.size : Nat) : Int), s, 0)]) ++ lay l (A ++ [(f, c, ((A.length + 1 : Nat) : Int), ((A.length + 1 + l.size : Nat) : Int), s, (0 : Int))]).length ++ (lay r (A.length + 1 + l.size) ++ C) := by
      rw [e, List.length_append]; simp [lay]
    have eR : t = (A ++ (f, c, ((A.length + 1 : Nat) : Int), ((A.length + 1 + l.size : Nat) : Int), s, 0) :: lay l (A.length + 1)) ++ lay r (A ++ (f, c, ((A.length + 1 : Nat) : Int), ((A.length + 1 + l.size : Nat) : Int), s, (0 : Int)) :: lay l (A.length + 1)).length ++ C := by
      rw [e, List.length_append, List.length_cons, lay_len, show A.length + (l.size + 1) = A.length + 1 + l.size by omega]; simp [lay]
    have i1 := pos_to hR x l _ _ o4 eL
    have i2 := pos_to hR x r _ _ o5 eR
    rw [List.length_append, List.length_singleton] at i1
    rw [List.length_append, List.length_cons, lay_len, show A.length + (l.size + 1) = A.length + 1 + l.size by omega] at i2
    unfold posB
    have hA : A.length < t.length := by omega
    cases q : goes f c s x
    · rw [if_neg (by decide), ← i2]
      refine to_next hR hA hf ?_
      unfold nextI
      rw [h0]
      show (if lessC ((f, c, _, _, s, 0) : Nd) (x.getD f.toNat 0) = true then _ else _) = _
      rw [less_goes, q, if_neg (by decide)]
      rfl
    · rw [if_pos rfl, ← i1]
      refine to_next hR hA hf ?_
      unfold nextI
      rw [h0]
      show (if lessC ((f, c, _, _, s, 0) : Nd) (x.getD f.toNat 0) = true then _ else _) = _
      rw [less_goes, q, if_pos rfl]
      rfl
theorem leaf_pos {T : BT} {r : List Int} (ok : okB (r.length : Int) T) (hz : (treeF (lay T 0) (r.length : Int)).2 = 0) (hr : rowF r = 0) : readyF (lay T 0) r = 0 ∧ leafV (lay T 0) r = posB T 0 r := by
  have hy : readyF (lay T 0) r = 0 := by rw [ready_tree hr]; exact hz
  refine ⟨hy, ?_⟩
  have F := (tree_ok hz).1
  have := pos_to F.2.2.2.2.1 r T [] [] ok (by simp)
  unfold leafV
  rw [if_pos hy]
  exact this

/-! ### the samples of a leaf -/
def atP (T : BT) (k : Nat) (l : List Sa) (p : Nat) : List Sa := l.filter fun s => decide (posB T k s.1 = p)
/-- a place of a leaf, and its number -/
def LfAt : BT → Nat → Nat → Int → Prop
  | .lf v, k, p, u => p = k ∧ u = v
  | .nd _ _ _ l r, k, p, u => LfAt l (k + 1) p u ∨ LfAt r (k + 1 + l.size) p u
theorem lf_in : ∀ {T : BT} {k p : Nat} {u : Int}, LfAt T k p u → k ≤ p ∧ p < k + T.size
  | .lf v, k, p, u, h => by obtain ⟨rfl, rfl⟩ := h; unfold BT.size; omega
  | .nd f c s l r, k, p, u, h => by
    unfold BT.size
    rcases h with h | h
    · have := lf_in h; omega
    · have := lf_in h; omega
theorem lf_of : ∀ {m : Int} (T : BT) (k p : Nat), okB m T → k ≤ p → p < k + T.size → nf (nAt (lay T k) (p - k)) = -1 → LfAt T k p (nv (nAt (lay T k) (p - k)))
  | m, .lf v, k, p, _, h1, h2, _ => by
    have : p = k := by unfold BT.size at h2; omega
    subst this
    rw [Nat.sub_self]
    exact ⟨rfl, rfl⟩
  | m, .nd f c s l r, k, p, ok, h1, h2, hf => by
    obtain ⟨o1, o2, o3, o4, o5⟩ := ok
    have h2' : p < k + (1 + l.size + r.size) := h2
    by_cases e0 : p = k
    · subst e0
      rw [Nat.sub_self] at hf
      have : f = -1 := hf
      omega
    · by_cases e1 : p < k + 1 + l.size
      · have e : nAt (lay (.nd f c s l r) k) (p - k) = nAt (lay l (k + 1)) (p - (k + 1)) := by
          rw [show p - k = (p - (k + 1)) + 1 by omega]
          show nAt (_ :: (lay l (k + 1) ++ _)) (p - (k + 1) + 1) = _
          unfold nAt
          rw [List.getD_cons_succ, getD_front (by rw [lay_len]; omega)]
        rw [e] at hf ⊢
        exact .inl (lf_of l (k + 1) p o4 (by omega) (by omega) hf)
      · have e : nAt (lay (.nd f c s l r) k) (p - k) = nAt (lay r (k + 1 + l.size)) (p - (k + 1 + l.size)) := by
          rw [show p - k = (l.size + (p - (k + 1 + l.size))) + 1 by omega]
          show nAt (_ :: (lay l (k + 1) ++ lay r (k + 1 + l.size))) (l.size + (p - (k + 1 + l.size)) + 1) = _
          unfold nAt
          rw [List.getD_cons_succ, ← lay_len l (k + 1), getD_behind]
        rw [e] at hf ⊢
        exact .inr (lf_of r (k + 1 + l.size) p o5 (by omega) (by omega) hf)
theorem at_left {l : List Sa} {m : Nat} (h : GoodS l m) {f : Nat} (hf : f < m) {c : Int} {s : Bool} {L R : BT} {k p : Nat} (hp : p < k + 1 + L.size) (hk : k + 1 ≤ p) : atP (.nd (f : Nat) c s L R) k l p = atP L (k + 1) (partS l f c true) p := by
  unfold atP partS
  rw [List.filter_filter]
  refine List.filter_congr fun x hx => ?_
  have g := goes_side h hf c s hx
  show decide ((if goes (f : Nat) c s x.1 = true then posB L (k + 1) x.1 else posB R (k + 1 + L.size) x.1) = p) = _
  rw [g]
  cases q : sideB f c x
  · have := pos_in R (k + 1 + L.size) x.1
    rw [if_neg (by decide), decide_eq_false (by omega)]
    simp
  · rw [if_pos rfl]
    simp
theorem at_right {l : List Sa} {m : Nat} (h : GoodS l m) {f : Nat} (hf : f < m) {c : Int} {s : Bool} {L R : BT} {k p : Nat} (hp : k + 1 + L.size ≤ p) : atP (.nd (f : Nat) c s L R) k l p = atP R (k + 1 + L.size) (partS l f c false) p := by
  unfold atP partS
  rw [List.filter_filter]
  refine List.filter_congr fun x hx => ?_
  have g := goes_side h hf c s hx
  show decide ((if goes (f : Nat) c s x.1 = true then posB L (k + 1) x.1 else posB R (k + 1 + L.size) x.1) = p) = _
  rw [g]
  cases q : sideB f c x
  · rw [if_neg (by decide)]
    simp
  · have := pos_in L (k + 1) x.1
    rw [if_pos rfl, decide_eq_false (by omega)]
    simp
/-- each leaf of a grown tree has as many samples as it must, and their mean -/
theorem grow_leaf {m : Nat} {least : Int} (h1 : 1 ≤ least) : ∀ (d : Nat) {l : List Sa}, GoodS l m → 0 < l.length → ∀ (k p : Nat) (u : Int), LfAt (growT m least d l) k p u → 0 < (atP (growT m least d l) k l p).length ∧ u = meanS (atP (growT m least d l) k l p) ∧ (1 < (growT m least d l).size ∨ least ≤ (l.length : Nat) → least ≤ ((atP (growT m least d l) k l p).length : Nat))
  | 0, l, h, hl, k, p, u, q => by
    obtain ⟨rfl, rfl⟩ := q
    have e : atP (growT m least 0 l) p l p = l := List.filter_eq_self.2 fun x _ => decide_eq_true rfl
    rw [e]
    refine ⟨hl, rfl, fun z => z.elim (fun z => ?_) id⟩
    have : (1 : Nat) < 1 := z
    omega
  | d + 1, l, h, hl, k, p, u, q => by
    have U : growT m least (d + 1) l = if (spV l m least).2.2.2.2 = true then .nd ((spV l m least).2.2.1 : Nat) (spV l m least).2.2.2.1 (decide (nB l (spV l m least).2.2.1 (spV l m least).2.2.2.1 false < nB l (spV l m least).2.2.1 (spV l m least).2.2.2.1 true)) (growT m least d (partS l (spV l m least).2.2.1 (spV l m least).2.2.2.1 true)) (growT m least d (partS l (spV l m least).2.2.1 (spV l m least).2.2.2.1 false)) else .lf (meanS l) := rfl
    rw [U] at q ⊢
    by_cases c : (spV l m least).2.2.2.2 = true
    · rw [if_pos c] at q ⊢
      obtain ⟨s1, _, s3, s4, s5⟩ := grow_sides h1 hl c
      unfold nB at s3 s4
      rcases q with q | q
      · have b := lf_in q
        rw [at_left h s1 b.2 b.1]
        obtain ⟨i1, i2, i3⟩ := grow_leaf h1 d (h.part _ _ _) (by omega) _ _ _ q
        exact ⟨i1, i2, fun _ => i3 (.inr s3)⟩
      · have b := lf_in q
        rw [at_right h s1 b.1]
        obtain ⟨i1, i2, i3⟩ := grow_leaf h1 d (h.part _ _ _) (by omega) _ _ _ q
        exact ⟨i1, i2, fun _ => i3 (.inr s4)⟩
    · rw [if_neg c] at q ⊢
      obtain ⟨rfl, rfl⟩ := q
      have e : atP (.lf (meanS l)) p l p = l := List.filter_eq_self.2 fun x _ => decide_eq_true rfl
      rw [e]
      refine ⟨hl, rfl, fun z => z.elim (fun z => ?_) id⟩
      have : (1 : Nat) < 1 := z
      omega
theorem mean_between {l : List Sa} (hl : 0 < l.length) : meanS l * (l.length : Nat) ≤ sumT l ∧ sumT l < (meanS l + 1) * (l.length : Nat) := by
  have hp : (0 : Int) < (l.length : Nat) := by omega
  exact ⟨Int.ediv_mul_le _ (by omega), Int.lt_ediv_add_one_mul_self (sumT l) hp⟩

/-! ### any number as a cut -/
theorem part_same {l : List Sa} {f : Nat} {c d : Int} (h : ∀ s ∈ l, sideB f c s = sideB f d s) (b : Bool) : partS l f c b = partS l f d b := by
  unfold partS
  exact List.filter_congr fun x hx => by rw [h x hx]
/-- the least of a list's numbers that are not below one -/
theorem next_up {l : List Sa} {f : Nat} {c : Int} (h : 0 < nB l f c false) : ∃ i, i < l.length ∧ c ≤ colA (sAt l i) f ∧ ∀ s ∈ l, sideB f c s = sideB f (colA (sAt l i) f) s := by
  have : ∃ s ∈ l, sideB f c s = false := by
    unfold nB partS at h
    have h' : 0 < (l.filter fun s => sideB f c s == false).length := by omega
    obtain ⟨s, hs⟩ := List.exists_mem_of_length_pos h'
    obtain ⟨h2, h3⟩ := List.mem_filter.1 hs
    exact ⟨s, h2, by simpa using h3⟩
  clear h
  induction l with
  | nil => obtain ⟨s, hs, _⟩ := this; cases hs
  | cons a l ih =>
    by_cases q : ∃ s ∈ l, sideB f c s = false
    · obtain ⟨i, hi, hc, he⟩ := ih q
      have e : sAt (a :: l) (i + 1) = sAt l i := rfl
      by_cases ca : sideB f c a = false
      · have ca' : c ≤ colA a f := by
          unfold sideB at ca
          have := of_decide_eq_false ca
          omega
        by_cases le : colA a f < colA (sAt l i) f
        · refine ⟨0, by simp, ca', fun s hs => ?_⟩
          show _ = sideB f (colA a f) s
          rcases List.mem_cons.1 hs with rfl | hs
          · rw [ca]; unfold sideB; rw [decide_eq_false (by omega)]
          · have := he s hs
            unfold sideB at this ⊢
            by_cases z : colA s f < c
            · rw [decide_eq_true z, decide_eq_true (by omega)]
            · rw [decide_eq_false z] at this
              have := of_decide_eq_false this.symm
              rw [decide_eq_false z, decide_eq_false (by omega)]
        · refine ⟨i + 1, by simpa using hi, by rw [e]; exact hc, fun s hs => ?_⟩
          rw [e]
          rcases List.mem_cons.1 hs with rfl | hs
          · rw [ca]; unfold sideB; rw [decide_eq_false (by omega)]
          · exact he s hs
      · refine ⟨i + 1, by simpa using hi, by rw [e]; exact hc, fun s hs => ?_⟩
        rw [e]
        rcases List.mem_cons.1 hs with rfl | hs
        · have ca' : sideB f c s = true := by simpa using ca
          rw [ca']
          unfold sideB at ca' ⊢
          have := of_decide_eq_true ca'
          rw [decide_eq_true (by omega)]
        · exact he s hs
    · obtain ⟨s, hs, hq⟩ := this
      have sa : s = a := by
        rcases List.mem_cons.1 hs with rfl | hs
        · rfl
        · exact absurd ⟨s, hs, hq⟩ q
      subst sa
      have hq' : c ≤ colA s f := by
        unfold sideB at hq
        have := of_decide_eq_false hq
        omega
      refine ⟨0, by simp, hq', fun x hx => ?_⟩
      show _ = sideB f (colA s f) x
      rcases List.mem_cons.1 hx with rfl | hx
      · rw [hq]; unfold sideB; rw [decide_eq_false (by omega)]
      · have hx' : sideB f c x = true := by
          cases z : sideB f c x with
          | true => rfl
          | false => exact absurd ⟨x, hx, z⟩ q
        rw [hx']
        unfold sideB at hx' ⊢
        have := of_decide_eq_true hx'
        rw [decide_eq_true (by omega)]
/-- no question puts more right than the first one -/
theorem split_best {l : List Sa} {m : Nat} {least : Int} (h1 : 1 ≤ least) (hl : 0 < l.length) {f : Nat} (hf : f < m) {c : Int} (n1 : least ≤ nB l f c true) (n2 : least ≤ nB l f c false) :
    ((spV l m least).2.2.2.2 = false → spU l f c * (l.length : Nat) ≤ sumT l * sumT l * spD l f c) ∧
    ((spV l m least).2.2.2.2 = true → spU l f c * spD l (spV l m least).2.2.1 (spV l m least).2.2.2.1 ≤ spU l (spV l m least).2.2.1 (spV l m least).2.2.2.1 * spD l f c) := by
  obtain ⟨i, hi, hc, he⟩ := next_up (l := l) (f := f) (c := c) (by omega)
  have eP := fun b => part_same he b
  have eN : ∀ b, nB l f c b = nB l f (colA (sAt l i) f) b := fun b => by unfold nB; rw [eP]
  have eT : ∀ b, tB l f c b = tB l f (colA (sAt l i) f) b := fun b => by unfold tB; rw [eP]
  have eU : spU l f c = spU l f (colA (sAt l i) f) := by unfold spU; rw [eN, eN, eT, eT]
  have eD : spD l f c = spD l f (colA (sAt l i) f) := by unfold spD; rw [eN, eN]
  have ok : okC l least f (colA (sAt l i) f) = true := by
    unfold okC
    rw [← eN, ← eN, decide_eq_false (by omega), decide_eq_false (by omega), decide_eq_false (by omega)]
    rfl
  have cd : Cand l m least f (colA (sAt l i) f) := ⟨hf, ⟨i, hi, rfl⟩, ok⟩
  obtain ⟨s1, s2⟩ := split_spec (m := m) h1 hl
  rw [eU, eD]
  refine ⟨fun q => ?_, fun q => ?_⟩
  · have := (s1 q).2.2 _ _ cd
    unfold More at this
    omega
  · rcases (s2 q).2.2 _ _ cd with ⟨e1, e2⟩ | b
    · rw [← e1, ← e2]
      exact Int.le_refl _
    · unfold Beats at b
      rcases b with b | ⟨b, _⟩ <;> omega

end Go.Proofs.YtlloiccodjnkcagGreatDoor.M
