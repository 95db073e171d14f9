/-
  Several texts as one: MathBc, MathWa, MathWb, UsCells, MathWc, MathWe, MathWg.
-/
import Derived.Test.YtlloiccodjnkcagGreatDoorRunC6
import Derived.Test.YtlloiccodjnkcagGreatDoorRunC4
import Derived.Test.YtlloiccodjnkcagGreatDoorRunC1
import Derived.Test.YtlloiccodjnkcagGreatDoorRunC5
namespace Go.Proofs.YtlloiccodjnkcagGreatDoor.M
set_option linter.unusedVariables false

theorem boo_gt {l : List Sa} {m r d s : Int} (h : booF l m r d s = 0) : gt (booG l m r d s) = (booS l m r d s).1.map (boL (booS l m r d s).1.length) := by
  unfold booG; rw [if_pos h]; rfl
theorem boL_len (n : Nat) (T : BT) : (boL n T).length = T.size := by unfold boL; rw [lay_len, sc_size]
theorem boo_less {l : List Sa} {m r d s : Int} (h : booF l m r d s = 0) (h1 : 1 ≤ r) : booF l m (r - 1) d s = 0 ∧ ((gt (booG l m r d s)).length : Int) ≤ r + 1 ∧ (gt (booG l m (r - 1) d s)).length ≤ (gt (booG l m r d s)).length ∧
    (∀ i, i < (gt (booG l m (r - 1) d s)).length → ((gt (booG l m r d s)).getD i []).length = ((gt (booG l m (r - 1) d s)).getD i []).length) ∧
    ((gt (booG l m r d s)).length = (gt (booG l m (r - 1) d s)).length → wrgG (booG l m r d s) l = wrgG (booG l m (r - 1) d s) l) ∧ ((gt (booG l m r d s)).length ≠ (gt (booG l m (r - 1) d s)).length → wrgG (booG l m r d s) l < wrgG (booG l m (r - 1) d s) l) := by
  obtain ⟨a1, r0, r8, d1, d4, s1, s2⟩ := boo_ok h
  have h' : booF l m (r - 1) d s = 0 := by unfold booF; rw [if_neg (by simp [a1]), if_neg (by omega)]
  obtain ⟨k, hk⟩ : ∃ k : Nat, r = ((k + 1 : Nat) : Int) := ⟨(r - 1).toNat, by omega⟩
  have e1 : booS l m r d s = boR m.toNat d.toNat s l (k + 1) := by unfold booS; rw [hk, Int.toNat_natCast]
  have e2 : booS l m (r - 1) d s = boR m.toNat d.toNat s l k := by unfold booS; rw [show (r - 1).toNat = k by omega]
  have tk := (boo_inv h).1.tk
  have w1 := (boo_rest h).2.2.1
  have w2 := (boo_rest h').2.2.1
  rw [w1, w2, boo_gt h, boo_gt h', List.length_map, List.length_map]
  rcases bo_step m.toNat d.toNat s l k with ⟨q1, q2⟩ | ⟨⟨T, q1⟩, q2⟩
  · rw [← e1, ← e2] at q1 q2
    rw [q1, q2]
    exact ⟨h', by rw [q1] at tk; omega, Nat.le_refl _, fun i hi => rfl, fun _ => rfl, fun q => absurd rfl q⟩
  · rw [← e1, ← e2] at q1 q2
    have ln : (booS l m r d s).1.length = (booS l m (r - 1) d s).1.length + 1 := by rw [q1]; simp
    refine ⟨h', by omega, by omega, fun i hi => ?_, fun q => by omega, fun _ => q2⟩
    have g1 : i < (booS l m r d s).1.length := by omega
    rw [getD_at (by rw [List.length_map]; exact g1), getD_at (by rw [List.length_map]; exact hi), List.getElem_map, List.getElem_map, boL_len, boL_len]
    congr 1
    have : (booS l m r d s).1[i] = ((booS l m (r - 1) d s).1 ++ [T])[i]'(by rw [List.length_append]; simp; omega) := by congr 1
    rw [this, List.getElem_append_left hi]
theorem sum_less (v : Int) : ∀ l : List Sa, (l.map fun s => s.2 - v).sum = sumT l - v * (l.length : Nat)
  | [] => by simp [sumT]
  | s :: l => by
    have ih := sum_less v l
    rw [List.map_cons, List.sum_cons, ih, List.length_cons]
    show s.2 - v + (sumT l - v * (l.length : Nat)) = s.2 + sumT l - v * ((l.length + 1 : Nat) : Int)
    have : ((l.length + 1 : Nat) : Int) = (l.length : Int) + 1 := by simp
    rw [this, Int.mul_add]
    omega
/-- before the first round -/
theorem boo_first {l : List Sa} {m d s : Int} (h : booF l m 0 d s = 0) : (gt (booG l m 0 d s)).length = 1 ∧ ((gt (booG l m 0 d s)).getD 0 []).length = 1 ∧ restF (booG l m 0 d s) l = 0 ∧ (restV (booG l m 0 d s) l).length = l.length ∧ 0 ≤ (restV (booG l m 0 d s) l).sum ∧ (restV (booG l m 0 d s) l).sum < (l.length : Nat) ∧ ∀ x ∈ restV (booG l m 0 d s) l, -2000 ≤ x ∧ x ≤ 2000 := by
  obtain ⟨a1, r0, r8, d1, d4, s1, s2⟩ := boo_ok h
  obtain ⟨G, hl, hm, _⟩ := sam_ok a1
  obtain ⟨f0, rv, _, _⟩ := boo_rest h
  have e0 : booS l m 0 d s = bo0 l := rfl
  have mi := mean_in G hl
  rw [rv, e0, boo_gt h, e0]
  have hp : (0 : Int) < (l.length : Nat) := by omega
  have ed := Int.mul_ediv_add_emod (sumT l) (l.length : Nat)
  have e1 := Int.emod_nonneg (sumT l) (show ((l.length : Nat) : Int) ≠ 0 by omega)
  have e2 := Int.emod_lt_of_pos (sumT l) hp
  have sm : (bo0 l).2.1.sum = sumT l - meanS l * (l.length : Nat) := sum_less (meanS l) l
  have me : meanS l * ((l.length : Nat) : Int) = (l.length : Nat) * (sumT l / (l.length : Nat)) := by unfold meanS; rw [Int.mul_comm]
  refine ⟨rfl, rfl, f0, ?_, by rw [sm, me]; omega, by rw [sm, me]; omega, fun x hx => ?_⟩
  · show (l.map _).length = _; rw [List.length_map]
  · obtain ⟨u, hu, rfl⟩ := List.mem_map.1 (show x ∈ l.map (fun s => s.2 - meanS l) from hx)
    have := (G.each u hu).2.2.1
    omega
theorem boo_four : booF [([1], 0), ([2], 0), ([3], 8), ([4], 8)] 1 1 1 100 = 0 ∧ (gt (booG [([1], 0), ([2], 0), ([3], 8), ([4], 8)] 1 1 1 100)).length = 2 ∧ sqs (booS [([1], 0), ([2], 0), ([3], 8), ([4], 8)] 1 1 1 100).2.1 = 0 := by decide +kernel

end Go.Proofs.YtlloiccodjnkcagGreatDoor.M

namespace Go.Proofs.YtlloiccodjnkcagGreatDoor.M
set_option linter.unusedVariables false

/-! ### without a feature -/
def wo (f : Int) : BT → BT
  | .lf v => .lf v
  | .nd g c s l r => if g = f then (if s = true then wo f l else wo f r) else .nd g c s (wo f l) (wo f r)
def freeB (f : Int) : BT → Prop
  | .lf _ => True
  | .nd g _ _ l r => g ≠ f ∧ freeB f l ∧ freeB f r
theorem wo_hit {f c : Int} {s : Bool} {l r : BT} : wo f (.nd f c s l r) = if s = true then wo f l else wo f r := by
  show (if f = f then _ else _) = _
  rw [if_pos rfl]
theorem wo_miss {f g c : Int} {s : Bool} {l r : BT} (h : g ≠ f) : wo f (.nd g c s l r) = .nd g c s (wo f l) (wo f r) := by
  show (if g = f then _ else _) = _
  rw [if_neg h]
theorem wo_free (f : Int) : ∀ T : BT, freeB f (wo f T)
  | .lf _ => trivial
  | .nd g c s l r => by
    by_cases h : g = f
    · subst h; rw [wo_hit]; split
      · exact wo_free g l
      · exact wo_free g r
    · rw [wo_miss h]; exact ⟨h, wo_free f l, wo_free f r⟩
theorem wo_same {f : Int} : ∀ T : BT, freeB f T → wo f T = T
  | .lf _, _ => rfl
  | .nd g c s l r, h => by rw [wo_miss h.1, wo_same l h.2.1, wo_same r h.2.2]
theorem wo_ok {f m : Int} : ∀ T : BT, okB m T → okB m (wo f T)
  | .lf _, h => h
  | .nd g c s l r, h => by
    by_cases e : g = f
    · subst e; rw [wo_hit]; split
      · exact wo_ok l h.2.2.2.1
      · exact wo_ok r h.2.2.2.2
    · rw [wo_miss e]; exact ⟨h.1, h.2.1, h.2.2.1, wo_ok l h.2.2.2.1, wo_ok r h.2.2.2.2⟩
theorem wo_le (f : Int) : ∀ T : BT, (wo f T).size ≤ T.size ∧ (wo f T).deep ≤ T.deep
  | .lf _ => ⟨Nat.le_refl _, Nat.le_refl _⟩
  | .nd g c s l r => by
    have h1 := wo_le f l
    have h2 := wo_le f r
    by_cases e : g = f
    · subst e; rw [wo_hit]
      show _ ≤ 1 + l.size + r.size ∧ _ ≤ 1 + max l.deep r.deep
      split <;> omega
    · rw [wo_miss e]
      show 1 + _ + _ ≤ 1 + _ + _ ∧ 1 + max _ _ ≤ 1 + max _ _
      omega
/-- what it tells -/
theorem wo_ev {f : Nat} {x : List Int} (hx : f < x.length) {m : Int} : ∀ T : BT, okB m T → evB (wo (f : Int) T) x = evB T (x.set f nilI)
  | .lf _, _ => rfl
  | .nd g c s l r, h => by
    have h1 := wo_ev hx l h.2.2.2.1
    have h2 := wo_ev hx r h.2.2.2.2
    have gn : ((g.toNat : Nat) : Int) = g := Int.toNat_of_nonneg h.1
    by_cases e : g = (f : Int)
    · subst e
      rw [wo_hit]
      have eg : goes (f : Int) c s (x.set f nilI) = s := by
        unfold goes
        rw [Int.toNat_natCast, if_pos (by simp [List.getD, hx])]
      show _ = if goes (f : Int) c s (x.set f nilI) = true then _ else _
      rw [eg]
      split
      · exact h1
      · exact h2
    · rw [wo_miss e]
      have eg : goes g c s (x.set f nilI) = goes g c s x := by
        unfold goes
        have : (x.set f nilI).getD g.toNat 0 = x.getD g.toNat 0 := by
          have ne : f ≠ g.toNat := fun z => e (by omega)
          simp [List.getD, ne]
        rw [this]
      show (if goes g c s x = true then _ else _) = if goes g c s (x.set f nilI) = true then _ else _
      rw [eg, h1, h2]

/-! ### the features, as they are laid -/
def pre : BT → List Int
  | .lf _ => [-1]
  | .nd f _ _ l r => f :: (pre l ++ pre r)
theorem pre_len : ∀ T : BT, (pre T).length = T.size
  | .lf _ => rfl
  | .nd _ _ _ l r => by
    show (pre l ++ pre r).length + 1 = 1 + l.size + r.size
    rw [List.length_append, pre_len l, pre_len r]; omega
theorem pre_lay : ∀ (T : BT) (k : Nat), (lay T k).map nf = pre T
  | .lf _, k => rfl
  | .nd f c s l r, k => by
    show f :: (lay l (k + 1) ++ lay r (k + 1 + l.size)).map nf = f :: (pre l ++ pre r)
    rw [List.map_append, pre_lay l, pre_lay r]
theorem pre_free {f : Int} (hf : f ≠ -1) : ∀ T : BT, freeB f T ↔ ∀ g ∈ pre T, g ≠ f
  | .lf _ => ⟨fun _ g hg => by
      have : g = -1 := by simpa [pre] using hg
      subst this; exact fun e => hf e.symm, fun _ => trivial⟩
  | .nd g c s l r => by
    have h1 := pre_free hf l
    have h2 := pre_free hf r
    show (g ≠ f ∧ freeB f l ∧ freeB f r) ↔ ∀ x ∈ g :: (pre l ++ pre r), x ≠ f
    rw [h1, h2]
    constructor
    · rintro ⟨a, b, c⟩ x hx
      rcases List.mem_cons.1 hx with e | e
      · rw [e]; exact a
      · rcases List.mem_append.1 e with z | z
        · exact b x z
        · exact c x z
    · intro h
      exact ⟨h g (List.mem_cons_self ..), fun x hx => h x (List.mem_cons_of_mem _ (List.mem_append.2 (.inl hx))), fun x hx => h x (List.mem_cons_of_mem _ (List.mem_append.2 (.inr hx)))⟩

/-! ### the tree at a place, and another one there -/
def sub : BT → Nat → BT
  | T, 0 => T
  | .lf v, _ + 1 => .lf v
  | .nd _ _ _ l r, i + 1 => if i < l.size then sub l i else sub r (i - l.size)
def rep : BT → Nat → BT → BT
  | _, 0, V => V
  | .lf v, _ + 1, _ => .lf v
  | .nd f c s l r, i + 1, V => if i < l.size then .nd f c s (rep l i V) r else .nd f c s l (rep r (i - l.size) V)
theorem rep_zero (T V : BT) : rep T 0 V = V := by cases T <;> rfl
theorem sub_zero (T : BT) : sub T 0 = T := by cases T <;> rfl
theorem rep_pre : ∀ (T : BT) (i : Nat) (V : BT), i < T.size → (pre (rep T i V)).take i = (pre T).take i
  | T, 0, V, _ => by simp
  | .lf v, i + 1, V, h => by have : (BT.lf v).size = 1 := rfl; omega
  | .nd f c s l r, i + 1, V, h => by
    have hs : i + 1 < 1 + l.size + r.size := h
    unfold rep
    by_cases e : i < l.size
    · rw [if_pos e]
      show (f :: (pre (rep l i V) ++ pre r)).take (i + 1) = (f :: (pre l ++ pre r)).take (i + 1)
      rw [List.take_succ_cons, List.take_succ_cons]
      congr 1
      have ih := rep_pre l i V e
      have l1 : i ≤ (pre (rep l i V)).length := by
        have := congrArg List.length ih
        rw [List.length_take, List.length_take, pre_len l] at this
        omega
      rw [List.take_append_of_le_length l1, List.take_append_of_le_length (by rw [pre_len]; omega), ih]
    · rw [if_neg e]
      show (f :: (pre l ++ pre (rep r (i - l.size) V))).take (i + 1) = (f :: (pre l ++ pre r)).take (i + 1)
      rw [List.take_succ_cons, List.take_succ_cons]
      congr 1
      have ih := rep_pre r (i - l.size) V (by omega)
      rw [List.take_append, List.take_append, pre_len l, ih]
theorem rep_wo {f : Int} : ∀ (T : BT) (i : Nat) (V : BT), i < T.size → wo f V = wo f (sub T i) → wo f (rep T i V) = wo f T
  | T, 0, V, _, h => by rw [rep_zero, h, sub_zero]
  | .lf v, i + 1, V, h, _ => by have : (BT.lf v).size = 1 := rfl; omega
  | .nd g c s l r, i + 1, V, h, hv => by
    have hs : i + 1 < 1 + l.size + r.size := h
    unfold rep
    unfold sub at hv
    by_cases e : i < l.size
    · rw [if_pos e] at hv ⊢
      have ih := rep_wo l i V e hv
      by_cases q : g = f
      · subst q; rw [wo_hit, wo_hit, ih]
      · rw [wo_miss q, wo_miss q, ih]
    · rw [if_neg e] at hv ⊢
      have ih := rep_wo r (i - l.size) V (by omega) hv
      by_cases q : g = f
      · subst q; rw [wo_hit, wo_hit, ih]
      · rw [wo_miss q, wo_miss q, ih]
theorem rep_size : ∀ (T : BT) (i : Nat) (V : BT), i < T.size → V.size < (sub T i).size → (rep T i V).size < T.size
  | T, 0, V, _, h => by rw [rep_zero]; rw [sub_zero] at h; exact h
  | .lf v, i + 1, V, h, _ => by have : (BT.lf v).size = 1 := rfl; omega
  | .nd g c s l r, i + 1, V, h, hv => by
    have hs : i + 1 < 1 + l.size + r.size := h
    unfold rep
    unfold sub at hv
    by_cases e : i < l.size
    · rw [if_pos e] at hv ⊢
      have ih := rep_size l i V e hv
      show 1 + (rep l i V).size + r.size < 1 + l.size + r.size
      omega
    · rw [if_neg e] at hv ⊢
      have ih := rep_size r (i - l.size) V (by omega) hv
      show 1 + l.size + (rep r (i - l.size) V).size < 1 + l.size + r.size
      omega
theorem rep_deep : ∀ (T : BT) (i : Nat) (V : BT), i < T.size → V.deep ≤ (sub T i).deep → (rep T i V).deep ≤ T.deep
  | T, 0, V, _, h => by rw [rep_zero]; rw [sub_zero] at h; exact h
  | .lf v, i + 1, V, h, _ => by have : (BT.lf v).size = 1 := rfl; omega
  | .nd g c s l r, i + 1, V, h, hv => by
    have hs : i + 1 < 1 + l.size + r.size := h
    unfold rep
    unfold sub at hv
    by_cases e : i < l.size
    · rw [if_pos e] at hv ⊢
      have ih := rep_deep l i V e hv
      show 1 + max (rep l i V).deep r.deep ≤ 1 + max l.deep r.deep
      omega
    · rw [if_neg e] at hv ⊢
      have ih := rep_deep r (i - l.size) V (by omega) hv
      show 1 + max l.deep (rep r (i - l.size) V).deep ≤ 1 + max l.deep r.deep
      omega
theorem rep_ok {m : Int} : ∀ (T : BT) (i : Nat) (V : BT), i < T.size → okB m T → okB m V → okB m (rep T i V)
  | T, 0, V, _, _, h => by rw [rep_zero]; exact h
  | .lf v, i + 1, V, h, _, _ => by have : (BT.lf v).size = 1 := rfl; omega
  | .nd g c s l r, i + 1, V, h, hk, hv => by
    have hs : i + 1 < 1 + l.size + r.size := h
    unfold rep
    by_cases e : i < l.size
    · rw [if_pos e]; exact ⟨hk.1, hk.2.1, hk.2.2.1, rep_ok l i V e hk.2.2.2.1 hv, hk.2.2.2.2⟩
    · rw [if_neg e]; exact ⟨hk.1, hk.2.1, hk.2.2.1, hk.2.2.2.1, rep_ok r (i - l.size) V (by omega) hk.2.2.2.2 hv⟩
theorem sub_ok {m : Int} : ∀ (T : BT) (i : Nat), i < T.size → okB m T → okB m (sub T i)
  | T, 0, _, h => by rw [sub_zero]; exact h
  | .lf v, i + 1, h, _ => by have : (BT.lf v).size = 1 := rfl; omega
  | .nd g c s l r, i + 1, h, hk => by
    have hs : i + 1 < 1 + l.size + r.size := h
    unfold sub
    by_cases e : i < l.size
    · rw [if_pos e]; exact sub_ok l i e hk.2.2.2.1
    · rw [if_neg e]; exact sub_ok r (i - l.size) (by omega) hk.2.2.2.2

/-! ### a tree that sits at a place of what is laid -/
def Sits (t : List Nd) (k : Nat) (T : BT) : Prop := k + T.size ≤ t.length ∧ ∀ j, j < T.size → nAt t (k + j) = nAt (lay T k) j
theorem sits_lay (T : BT) : Sits (lay T 0) 0 T := ⟨by rw [lay_len]; omega, fun j _ => by rw [Nat.zero_add]⟩
theorem nAt_left (a b : List Nd) {j : Nat} (h : j < a.length) : nAt (a ++ b) j = nAt a j := by
  unfold nAt; simp [List.getD, List.getElem?_append_left h]
theorem nAt_right (a b : List Nd) {j : Nat} (h : a.length ≤ j) : nAt (a ++ b) j = nAt b (j - a.length) := by
  unfold nAt; simp [List.getD, List.getElem?_append_right h]
theorem Sits.sides {t : List Nd} {k : Nat} {f c : Int} {s : Bool} {l r : BT} (h : Sits t k (.nd f c s l r)) : nAt t k = (f, c, ((k + 1 : Nat) : Int), ((k + 1 + l.size : Nat) : Int), s, 0) ∧ Sits t (k + 1) l ∧ Sits t (k + 1 + l.size) r := by
  obtain ⟨h1, h2⟩ := h
  have hs : (BT.nd f c s l r).size = 1 + l.size + r.size := rfl
  rw [hs] at h1 h2
  have cut : ∀ j, nAt (lay (.nd f c s l r) k) (j + 1) = nAt (lay l (k + 1) ++ lay r (k + 1 + l.size)) j := fun j => by
    show nAt ((f, c, ((k + 1 : Nat) : Int), ((k + 1 + l.size : Nat) : Int), s, 0) :: (lay l (k + 1) ++ lay r (k + 1 + l.size))) (j + 1) = _
    unfold nAt; simp [List.getD]
  refine ⟨by have := h2 0 (by omega); rw [Nat.add_zero] at this; rw [this]; rfl, ⟨by omega, fun j hj => ?_⟩, ⟨by omega, fun j hj => ?_⟩⟩
  · have := h2 (j + 1) (by omega)
    rw [cut, nAt_left _ _ (by rw [lay_len]; exact hj)] at this
    rw [show k + 1 + j = k + (j + 1) by omega]; exact this
  · have := h2 (l.size + j + 1) (by omega)
    rw [cut, nAt_right _ _ (by rw [lay_len]; omega), lay_len, show l.size + j - l.size = j by omega] at this
    rw [show k + 1 + l.size + j = k + (l.size + j + 1) by omega]; exact this
theorem Sits.leaf {t : List Nd} {k : Nat} {v : Int} (h : Sits t k (.lf v)) : nAt t k = (-1, 0, 0, 0, false, v) := by
  have := h.2 0 Nat.one_pos
  rw [Nat.add_zero] at this
  rw [this]; rfl
theorem Sits.tree {t : List Nd} {m : Int} (hR : Right t m) : ∀ {T : BT} {k : Nat}, okB m T → Sits t k T → bt t k = T
  | .lf v, k, _, h => by
    have hk : k < t.length := by have := h.1; have : (BT.lf v).size = 1 := rfl; omega
    have e := h.leaf
    rw [bt_leaf hk (by rw [e]; rfl), e]; rfl
  | .nd f c s l r, k, ok, h => by
    have hk : k < t.length := by have := h.1; have : (BT.nd f c s l r).size = 1 + l.size + r.size := rfl; omega
    obtain ⟨e, h1, h2⟩ := h.sides
    have f0 : nf (nAt t k) ≠ -1 := by rw [e]; show f ≠ -1; have := ok.1; omega
    rw [bt_ask hR hk f0 (a := k + 1) (b := k + 1 + l.size) (by rw [e]; rfl) (by rw [e]; rfl), h1.tree hR ok.2.2.2.1, h2.tree hR ok.2.2.2.2, e]
    rfl
theorem Sits.under {t : List Nd} : ∀ {T : BT} {k i : Nat}, Sits t k T → i < T.size → Sits t (k + i) (sub T i)
  | T, k, 0, h, _ => by rw [sub_zero]; exact h
  | .lf v, k, i + 1, _, hi => by have : (BT.lf v).size = 1 := rfl; omega
  | .nd f c s l r, k, i + 1, h, hi => by
    have hs : i + 1 < 1 + l.size + r.size := hi
    obtain ⟨_, h1, h2⟩ := h.sides
    unfold sub
    by_cases e : i < l.size
    · rw [if_pos e, show k + (i + 1) = k + 1 + i by omega]; exact h1.under e
    · rw [if_neg e, show k + (i + 1) = k + 1 + l.size + (i - l.size) by omega]; exact h2.under (by omega)
/-- what sits there where nothing is turned -/
theorem Sits.kept {t u : List Nd} {k : Nat} {T : BT} {up : Nat} (h : Sits t k T) (hl : u.length = t.length) (hq : ∀ q, q ≠ up → nAt u q = nAt t q) (hu : up < k ∨ k + T.size ≤ up) : Sits u k T :=
  ⟨by rw [hl]; exact h.1, fun j hj => by rw [hq (k + j) (by omega)]; exact h.2 j hj⟩
/-- a node gave way: the tree at its place is another one -/
theorem Sits.turned {t u : List Nd} {m : Int} (hu : Right u m) (hl : u.length = t.length) {up at' tw : Nat} (hq : ∀ q, q ≠ up → nAt u q = nAt t q) (hn : nAt u up = turnN (nAt t up) at' tw) (hc : chL (nAt t up) (at' : Nat)) {V : BT} (hV : bt u tw = V) :
    ∀ {T : BT} {k : Nat}, okB m T → Sits t k T → k ≤ up → up < k + T.size → k < at' ∧ at' < k + T.size ∧ bt u k = rep T (at' - k) V
  | .lf v, k, _, h, h1, h2 => by
    have e := h.leaf
    have : up = k := by have : (BT.lf v).size = 1 := rfl; omega
    subst this
    exact absurd (by rw [e]; rfl) hc.1
  | .nd f c s l r, k, ok, h, h1, h2 => by
    have hs : up < k + (1 + l.size + r.size) := h2
    have lp := BT.size_pos l
    have rp := BT.size_pos r
    have hk : k < u.length := by rw [hl]; have := h.1; have : (BT.nd f c s l r).size = 1 + l.size + r.size := rfl; omega
    obtain ⟨e, s1, s2⟩ := h.sides
    have fz : f ≠ -1 := by have := ok.1; omega
    by_cases c0 : up = k
    · subst c0
      rw [e] at hn hc
      have k1 : Sits u (up + 1) l := s1.kept hl hq (.inl (by omega))
      have k2 : Sits u (up + 1 + l.size) r := s2.kept hl hq (.inl (by omega))
      have b1 := k1.tree hu ok.2.2.2.1
      have b2 := k2.tree hu ok.2.2.2.2
      by_cases ca : at' = up + 1
      · subst ca
        have en : nAt u up = (f, c, (tw : Int), ((up + 1 + l.size : Nat) : Int), s, 0) := by rw [hn]; unfold turnN; rw [if_pos (show nl (f, c, ((up + 1 : Nat) : Int), ((up + 1 + l.size : Nat) : Int), s, (0 : Int)) = ((up + 1 : Nat) : Int) from rfl)]; rfl
        refine ⟨by omega, by show up + 1 < up + (1 + l.size + r.size); omega, ?_⟩
        rw [bt_ask hu hk (a := tw) (b := up + 1 + l.size) (by rw [en]; exact fz) (by rw [en]; rfl) (by rw [en]; rfl), en, hV, b2]
        rw [show up + 1 - up = 0 + 1 by omega]
        show BT.nd f c s V r = if 0 < l.size then .nd f c s (rep l 0 V) r else _
        rw [if_pos lp, rep_zero]
      · have cb : at' = up + 1 + l.size := by
          rcases hc.2 with z | z
          · have : ((up + 1 : Nat) : Int) = (at' : Int) := z; omega
          · have : ((up + 1 + l.size : Nat) : Int) = (at' : Int) := z; omega
        subst cb
        have en : nAt u up = (f, c, ((up + 1 : Nat) : Int), (tw : Int), s, 0) := by
          rw [hn]; unfold turnN
          rw [if_neg (by show ¬ ((up + 1 : Nat) : Int) = ((up + 1 + l.size : Nat) : Int); omega)]; rfl
        refine ⟨by omega, by show up + 1 + l.size < up + (1 + l.size + r.size); omega, ?_⟩
        rw [bt_ask hu hk (a := up + 1) (b := tw) (by rw [en]; exact fz) (by rw [en]; rfl) (by rw [en]; rfl), en, hV, b1]
        rw [show up + 1 + l.size - up = l.size + 1 by omega]
        show BT.nd f c s l V = if l.size < l.size then _ else .nd f c s l (rep r (l.size - l.size) V)
        rw [if_neg (Nat.lt_irrefl _), Nat.sub_self, rep_zero]
    · have ek := hq k (fun z => c0 z.symm)
      rw [e] at ek
      by_cases cl : up < k + 1 + l.size
      · obtain ⟨p1, p2, p3⟩ := Sits.turned hu hl hq hn hc hV ok.2.2.2.1 s1 (by omega) cl
        have k2 : Sits u (k + 1 + l.size) r := s2.kept hl hq (.inl (by omega))
        refine ⟨by omega, by show at' < k + (1 + l.size + r.size); omega, ?_⟩
        rw [bt_ask hu hk (a := k + 1) (b := k + 1 + l.size) (by rw [ek]; exact fz) (by rw [ek]; rfl) (by rw [ek]; rfl), ek, p3, k2.tree hu ok.2.2.2.2]
        obtain ⟨d, hd⟩ : ∃ d, at' - k = d + 1 := ⟨at' - k - 1, by omega⟩
        rw [hd, show at' - (k + 1) = d by omega]
        show BT.nd f c s (rep l d V) r = if d < l.size then .nd f c s (rep l d V) r else _
        rw [if_pos (by omega)]
      · obtain ⟨p1, p2, p3⟩ := Sits.turned hu hl hq hn hc hV ok.2.2.2.2 s2 (by omega) (by omega)
        have k1 : Sits u (k + 1) l := s1.kept hl hq (.inr (by omega))
        refine ⟨by omega, by show at' < k + (1 + l.size + r.size); omega, ?_⟩
        rw [bt_ask hu hk (a := k + 1) (b := k + 1 + l.size) (by rw [ek]; exact fz) (by rw [ek]; rfl) (by rw [ek]; rfl), ek, p3, k1.tree hu ok.2.2.2.1]
        obtain ⟨d, hd⟩ : ∃ d, at' - k = d + 1 := ⟨at' - k - 1, by omega⟩
        rw [hd, show at' - (k + 1 + l.size) = d - l.size by omega]
        show BT.nd f c s l (rep r (d - l.size) V) = if d < l.size then _ else .nd f c s l (rep r (d - l.size) V)
        rw [if_neg (by omega)]

end Go.Proofs.YtlloiccodjnkcagGreatDoor.M

namespace Go.Proofs.YtlloiccodjnkcagGreatDoor.M
set_option linter.unusedVariables false

/-- a feature, its nodes, its gain -/
abbrev Us := Int × Int × Int
def keyU (g : Bool) (u : Us) : Int := if g = true then u.2.2 else u.2.1
/-- the greater one first, of equal ones the lesser feature -/
def RkU (g : Bool) (a b : Us) : Prop := keyU g b < keyU g a ∨ (keyU g a = keyU g b ∧ a.1 < b.1)
theorem rk_irr {g : Bool} {a : Us} (h : RkU g a a) : False := by rcases h with h | ⟨_, h⟩ <;> omega
theorem rk_asym {g : Bool} {a b : Us} (h : RkU g a b) (k : RkU g b a) : False := by
  rcases h with h | ⟨h1, h2⟩ <;> rcases k with k | ⟨k1, k2⟩ <;> omega
/-- in that order there is one list alone -/
theorem rk_same {g : Bool} : ∀ {a b : List Us}, a.Pairwise (RkU g) → b.Pairwise (RkU g) → (∀ x, x ∈ a ↔ x ∈ b) → a = b
  | [], [], _, _, _ => rfl
  | [], y :: b, _, _, h => by have := (h y).2 (List.mem_cons_self ..); cases this
  | x :: a, [], _, _, h => by have := (h x).1 (List.mem_cons_self ..); cases this
  | x :: a, y :: b, ha, hb, h => by
    obtain ⟨a1, a2⟩ := List.pairwise_cons.1 ha
    obtain ⟨b1, b2⟩ := List.pairwise_cons.1 hb
    have e : x = y := by
      rcases List.mem_cons.1 ((h x).1 (List.mem_cons_self ..)) with e | e
      · exact e
      · rcases List.mem_cons.1 ((h y).2 (List.mem_cons_self ..)) with z | z
        · exact z.symm
        · exact absurd (a1 y z) (fun q => rk_asym q (b1 x e))
    subst e
    congr 1
    refine rk_same a2 b2 fun z => ⟨fun hz => ?_, fun hz => ?_⟩
    · rcases List.mem_cons.1 ((h z).1 (List.mem_cons_of_mem _ hz)) with e | e
      · subst e; exact absurd (a1 z hz) rk_irr
      · exact e
    · rcases List.mem_cons.1 ((h z).2 (List.mem_cons_of_mem _ hz)) with e | e
      · subst e; exact absurd (b1 z hz) rk_irr
      · exact e

/-! ### one by one, as the document has it -/
/-- how many of those that are there stay ahead, counted from behind -/
def toU (g : Bool) (out : List Us) (u : Us) : Nat → Nat
  | 0 => 0
  | k + 1 => if keyU g (out.getD k (0, 0, 0)) < keyU g u then toU g out u k else k + 1
theorem toU_le (g : Bool) (out : List Us) (u : Us) : ∀ k, toU g out u k ≤ k
  | 0 => Nat.le_refl _
  | k + 1 => by
    unfold toU
    split
    · have := toU_le g out u k; omega
    · exact Nat.le_refl _
def insU (g : Bool) (out : List Us) (u : Us) : List Us := out.take (toU g out u out.length) ++ [u] ++ out.drop (toU g out u out.length)
def rankK (g : Bool) (l : List Us) : Nat → List Us
  | 0 => []
  | k + 1 => if (l.getD k (0, 0, 0)).2.1 = 0 then rankK g l k else insU g (rankK g l k) (l.getD k (0, 0, 0))
def rankU (g : Bool) (l : List Us) : List Us := rankK g l l.length
theorem toU_behind {g : Bool} {out : List Us} {u : Us} : ∀ k, ∀ j, toU g out u k ≤ j → j < k → keyU g (out.getD j (0, 0, 0)) < keyU g u
  | 0, j, _, h => by omega
  | k + 1, j, h1, h2 => by
    unfold toU at h1
    by_cases c : keyU g (out.getD k (0, 0, 0)) < keyU g u
    · rw [if_pos c] at h1
      by_cases e : j = k
      · subst e; exact c
      · exact toU_behind k j h1 (by omega)
    · rw [if_neg c] at h1; omega
theorem toU_ahead {g : Bool} {out : List Us} {u : Us} : ∀ k, 0 < toU g out u k → ¬ keyU g (out.getD (toU g out u k - 1) (0, 0, 0)) < keyU g u
  | 0, h => by simp [toU] at h
  | k + 1, h => by
    unfold toU at h ⊢
    by_cases c : keyU g (out.getD k (0, 0, 0)) < keyU g u
    · rw [if_pos c] at h ⊢; exact toU_ahead k h
    · rw [if_neg c] at h ⊢; exact c
theorem usAt (l : List Us) {k : Nat} (h : k < l.length) : l.getD k (0, 0, 0) = l[k] := by simp [List.getD, List.getElem?_eq_getElem h]
theorem insU_mem {g : Bool} {out : List Us} {u x : Us} : x ∈ insU g out u ↔ x ∈ out ∨ x = u := by
  unfold insU
  rw [List.mem_append, List.mem_append, List.mem_singleton]
  have e : x ∈ out ↔ x ∈ out.take (toU g out u out.length) ∨ x ∈ out.drop (toU g out u out.length) := by
    conv => lhs; rw [← List.take_append_drop (toU g out u out.length) out]
    rw [List.mem_append]
  rw [e]
  constructor
  · rintro ((h | h) | h)
    · exact .inl (.inl h)
    · exact .inr h
    · exact .inl (.inr h)
  · rintro ((h | h) | h)
    · exact .inl (.inl h)
    · exact .inr h
    · exact .inl (.inr h)
theorem insU_pw {g : Bool} {out : List Us} {u : Us} (hp : out.Pairwise (RkU g)) (hu : ∀ x ∈ out, x.1 < u.1) : (insU g out u).Pairwise (RkU g) := by
  unfold insU
  have le := toU_le g out u out.length
  generalize hk : toU g out u out.length = k at *
  have beh : ∀ x ∈ out.drop k, RkU g u x := fun x hx => by
    obtain ⟨j, hj, e⟩ := List.getElem_of_mem hx
    rw [List.getElem_drop] at e
    rw [List.length_drop] at hj
    have := toU_behind (g := g) (out := out) (u := u) out.length (k + j) (by omega) (by omega)
    rw [usAt out (by omega), e] at this
    exact .inl this
  have ahd : ∀ x ∈ out.take k, RkU g x u := fun x hx => by
    rcases Nat.eq_zero_or_pos k with z | z
    · rw [z] at hx; simp at hx
    · have q := toU_ahead (g := g) (out := out) (u := u) out.length (by omega)
      rw [hk, usAt out (by omega)] at q
      have hm := List.mem_of_mem_take hx
      have hu' := hu x hm
      obtain ⟨j, hj, e⟩ := List.getElem_of_mem hx
      rw [List.getElem_take] at e
      rw [List.length_take] at hj
      have kx : keyU g out[k - 1] ≤ keyU g x := by
        by_cases ej : j = k - 1
        · subst ej; rw [e]; omega
        · have := (List.pairwise_iff_getElem.1 hp) j (k - 1) (by omega) (by omega) (by omega)
          rw [e] at this
          rcases this with h | ⟨h, _⟩ <;> omega
      by_cases c : keyU g u < keyU g x
      · exact .inl c
      · exact .inr ⟨by omega, hu'⟩
  rw [List.append_assoc, List.pairwise_append]
  refine ⟨hp.sublist (List.take_sublist _ _), ?_, fun a ha b hb => ?_⟩
  · show (u :: out.drop k).Pairwise (RkU g)
    exact List.pairwise_cons.2 ⟨beh, hp.sublist (List.drop_sublist _ _)⟩
  · rcases List.mem_cons.1 (show b ∈ u :: out.drop k from hb) with e | e
    · subst e; exact ahd a ha
    · have s := (List.take_append_drop k out)
      rw [← s, List.pairwise_append] at hp
      exact hp.2.2 a ha b e
/-- features rising -/
def RiseU (l : List Us) : Prop := l.Pairwise (fun a b => a.1 < b.1)
theorem rankK_spec {g : Bool} {l : List Us} (hr : RiseU l) : ∀ k, k ≤ l.length → (rankK g l k).Pairwise (RkU g) ∧ ∀ x, x ∈ rankK g l k ↔ x ∈ l.take k ∧ x.2.1 ≠ 0
  | 0, _ => ⟨List.Pairwise.nil, fun x => by simp [rankK]⟩
  | k + 1, hk => by
    obtain ⟨p, q⟩ := rankK_spec (g := g) hr k (by omega)
    have hk' : k < l.length := by omega
    have tk : l.take (k + 1) = l.take k ++ [l[k]] := List.take_succ_eq_append_getElem hk'
    unfold rankK
    rw [usAt l hk']
    by_cases z : l[k].2.1 = 0
    · rw [if_pos z]
      refine ⟨p, fun x => ?_⟩
      rw [q, tk, List.mem_append, List.mem_singleton]
      constructor
      · rintro ⟨a, b⟩; exact ⟨.inl a, b⟩
      · rintro ⟨a | a, b⟩
        · exact ⟨a, b⟩
        · rw [a] at b; exact absurd z b
    · rw [if_neg z]
      refine ⟨insU_pw p fun x hx => ?_, fun x => ?_⟩
      · have hx' := ((q x).1 hx).1
        obtain ⟨j, hj, e⟩ := List.getElem_of_mem hx'
        rw [List.getElem_take] at e
        rw [List.length_take] at hj
        rw [← e]
        exact (List.pairwise_iff_getElem.1 hr) j k (by omega) hk' (by omega)
      · rw [insU_mem, q, tk, List.mem_append, List.mem_singleton]
        constructor
        · rintro (⟨a, b⟩ | a)
          · exact ⟨.inl a, b⟩
          · exact ⟨.inr a, by rw [a]; exact z⟩
        · rintro ⟨a | a, b⟩
          · exact .inl ⟨a, b⟩
          · exact .inr a
theorem rank_spec {g : Bool} {l : List Us} (hr : RiseU l) : (rankU g l).Pairwise (RkU g) ∧ ∀ x, x ∈ rankU g l ↔ x ∈ l ∧ x.2.1 ≠ 0 := by
  have := rankK_spec (g := g) hr l.length (Nat.le_refl _)
  rw [List.take_length] at this
  exact this
/-- what is ranked is known by its order and by who is there -/
theorem rank_only {g : Bool} {l r : List Us} (hr : RiseU l) (hp : r.Pairwise (RkU g)) (hm : ∀ x, x ∈ r ↔ x ∈ l ∧ x.2.1 ≠ 0) : r = rankU g l :=
  rk_same hp (rank_spec hr).1 fun x => by rw [hm, (rank_spec hr).2]

/-! ### how often -/
/-- nodes with a feature -/
def cntN (f : Int) : List Nd → Nat
  | [] => 0
  | n :: t => (if nf n = f then 1 else 0) + cntN f t
theorem cntN_app (f : Int) : ∀ a b : List Nd, cntN f (a ++ b) = cntN f a + cntN f b
  | [], b => by show cntN f b = 0 + cntN f b; omega
  | n :: a, b => by
    show (if nf n = f then 1 else 0) + cntN f (a ++ b) = (if nf n = f then 1 else 0) + cntN f a + cntN f b
    rw [cntN_app f a b]; omega
def cntG (f : Int) : List (List Nd) → Nat
  | [] => 0
  | t :: l => cntN f t + cntG f l
/-- the uses of eight features, gains 0 -/
def useL (l : List (List Nd)) : List Us := (List.range 8).map fun (i : Nat) => ((i : Int), ((cntG (i : Int) l : Nat) : Int), (0 : Int))
theorem useL_rise (l : List (List Nd)) : RiseU (useL l) := by
  unfold RiseU useL
  rw [List.pairwise_map]
  exact (List.pairwise_lt_range).imp fun {a b} h => (show ((a : Nat) : Int) < ((b : Nat) : Int) by omega)
def usesV (l : List (List Nd)) : List Us := rankU false (useL l)

end Go.Proofs.YtlloiccodjnkcagGreatDoor.M

namespace Go.Proofs.YtlloiccodjnkcagGreatDoor
open Go.ChangeShapes Go.WideShapes Go.ChangeAt Go.RowKit Go.Lib
set_option linter.unusedVariables false

theorem infoU : (Tryz.prog.info? 50).map (fun i => (i.zero, i.size, i.bytes)) = some (some (.agg #[.int .i64 0, .int .i64 0, .int .i64 0]), 3, 24) := by kernel_rfl
def usCells (xs : List M.Us) : List Value := xs.flatMap fun u => [.int .i64 u.1, .int .i64 u.2.1, .int .i64 u.2.2]
theorem usCells_cons (u : M.Us) (t : List M.Us) : usCells (u :: t) = .int .i64 u.1 :: .int .i64 u.2.1 :: .int .i64 u.2.2 :: usCells t := rfl
theorem usCells_app (a b : List M.Us) : usCells (a ++ b) = usCells a ++ usCells b := by unfold usCells; rw [List.flatMap_append]
theorem usCells_len (ts : List M.Us) : (usCells ts).length = ts.length * 3 := by
  induction ts with
  | nil => rfl
  | cons x t ih => rw [usCells_cons]; simp only [List.length_cons, ih]; omega
theorem usCells_one (ts : List M.Us) : ∀ v ∈ usCells ts, v.oneCell' = true := by
  intro v hv
  simp only [usCells, List.mem_flatMap] at hv
  obtain ⟨s, _, hs⟩ := hv
  simp only [List.mem_cons, List.not_mem_nil, or_false] at hs
  rcases hs with rfl | rfl | rfl <;> rfl
def M.uAt (l : List M.Us) (i : Nat) : M.Us := l.getD i (0, 0, 0)
theorem uAt_in (l : List M.Us) {i : Nat} (h : i < l.length) : M.uAt l i = l[i] := M.usAt l h
theorem usCells_at : ∀ (ts : List M.Us) (i : Nat), i < ts.length → (usCells ts)[i * 3]? = some (.int .i64 (M.uAt ts i).1) ∧ (usCells ts)[i * 3 + 1]? = some (.int .i64 (M.uAt ts i).2.1) ∧ (usCells ts)[i * 3 + 2]? = some (.int .i64 (M.uAt ts i).2.2)
  | [], i, h => by simp at h
  | s :: t, 0, h => ⟨rfl, rfl, rfl⟩
  | s :: t, i + 1, h => by
    have := usCells_at t i (by simpa using h)
    have e : M.uAt (s :: t) (i + 1) = M.uAt t i := by simp [M.uAt]
    rw [usCells_cons, e, show (i + 1) * 3 = i * 3 + 1 + 1 + 1 by omega]
    simpa using this
theorem usCells_setN : ∀ (ts : List M.Us) (i : Nat), i < ts.length → ∀ n : Int, (usCells ts).set (i * 3 + 1) (.int .i64 n) = usCells (ts.set i ((M.uAt ts i).1, n, (M.uAt ts i).2.2))
  | [], i, h, n => by simp at h
  | s :: t, 0, h, n => rfl
  | s :: t, i + 1, h, n => by
    have ih := usCells_setN t i (by simpa using h) n
    have e : M.uAt (s :: t) (i + 1) = M.uAt t i := by simp [M.uAt]
    rw [e, List.set_cons_succ, usCells_cons, usCells_cons, ← ih, show (i + 1) * 3 + 1 = (i * 3 + 1) + 1 + 1 + 1 by omega]
    simp only [List.set_cons_succ]
theorem usCells_setG : ∀ (ts : List M.Us) (i : Nat), i < ts.length → ∀ n : Int, (usCells ts).set (i * 3 + 2) (.int .i64 n) = usCells (ts.set i ((M.uAt ts i).1, (M.uAt ts i).2.1, n))
  | [], i, h, n => by simp at h
  | s :: t, 0, h, n => rfl
  | s :: t, i + 1, h, n => by
    have ih := usCells_setG t i (by simpa using h) n
    have e : M.uAt (s :: t) (i + 1) = M.uAt t i := by simp [M.uAt]
    rw [e, List.set_cons_succ, usCells_cons, usCells_cons, ← ih, show (i + 1) * 3 + 2 = (i * 3 + 2) + 1 + 1 + 1 by omega]
    simp only [List.set_cons_succ]
/-- uses, where they lie -/
def ThreeAt (w : World) (b off : Nat) (u : M.Us) : Prop := w.cell? ⟨b, off, none⟩ = some (.int .i64 u.1) ∧ w.cell? ⟨b, off + 1, none⟩ = some (.int .i64 u.2.1) ∧ w.cell? ⟨b, off + 2, none⟩ = some (.int .i64 u.2.2)
def RdU (w : World) (a : Option Addr) (xs : List M.Us) : Prop :=
  xs.length ≤ maxLen ∧ (xs ≠ [] → ∃ b off, a = some ⟨b, off, none⟩ ∧ b < w.heap.size ∧ ∀ i, i < xs.length → ThreeAt w b (off + i * 3) (M.uAt xs i))
theorem RdU.below {w w' : World} {a : Option Addr} {xs : List M.Us} (h : RdU w a xs) (hb : Below w.heap.size w w') : RdU w' a xs :=
  ⟨h.1, fun hn => by
    obtain ⟨b, off, e, hl, hc⟩ := h.2 hn
    exact ⟨b, off, e, Nat.lt_of_lt_of_le hl hb.size, fun i hi => ⟨(hb.cell (p := ⟨b, off + i * 3, none⟩) hl).trans (hc i hi).1, (hb.cell (p := ⟨b, off + i * 3 + 1, none⟩) hl).trans (hc i hi).2.1, (hb.cell (p := ⟨b, off + i * 3 + 2, none⟩) hl).trans (hc i hi).2.2⟩⟩⟩
theorem own_rdU {w : World} {base n : Nat} {v : Value} {xs : List M.Us} (hn : xs.length = n) (hm : n ≤ maxLen) (h : w.ownsRow base 50 3 v n (usCells xs)) : ∃ a cap, v = .slice a n cap ∧ RdU w a xs ∧ (∀ p, a = some p → base ≤ p.block) := by
  subst hn
  rcases h.2 with ⟨hv, h0⟩ | ⟨g, cap, cur, hv, hb, hg, h1, h2, h3, h4⟩
  · have e : xs = [] := List.length_eq_zero_iff.1 h0
    subst e
    exact ⟨none, 0, hv, ⟨Nat.zero_le _, fun h => absurd rfl h⟩, fun p hp => by cases hp⟩
  · subst hv
    refine ⟨_, cap, rfl, ⟨hm, fun _ => ⟨g, 0, rfl, (Array.getElem?_eq_some_iff.1 hg).1, fun i hi => ?_⟩⟩, fun p hp => by cases hp; exact hb⟩
    obtain ⟨q0, q1, q2⟩ := usCells_at xs i hi
    rw [Nat.zero_add]
    exact ⟨(h.cellAt (i * 3) (by omega)).trans q0, (h.cellAt (i * 3 + 1) (by omega)).trans q1, (h.cellAt (i * 3 + 2) (by omega)).trans q2⟩
/-- a part of them, as what is handed to append -/
theorem us_src {w : World} {b off k n : Nat} {xs : List M.Us} (hc : ∀ i, i < xs.length → ThreeAt w b (off + i * 3) (M.uAt xs i)) (hk : k + n ≤ xs.length) : ∀ j u, (usCells ((xs.drop k).take n))[j]? = some u → w.cell? ((⟨b, off + k * 3, none⟩ : Addr).add j) = some u := by
  intro j u hj
  have ln : ((xs.drop k).take n).length = n := by rw [List.length_take, List.length_drop]; omega
  have hl : j < n * 3 := by
    have := (List.getElem?_eq_some_iff.1 hj).1
    rwa [usCells_len, ln] at this
  have hi : j / 3 < n := by omega
  obtain ⟨h0, h1, h2⟩ := hc (k + j / 3) (by omega)
  obtain ⟨q0, q1, q2⟩ := usCells_at ((xs.drop k).take n) (j / 3) (by omega)
  have ea : M.uAt ((xs.drop k).take n) (j / 3) = M.uAt xs (k + j / 3) := by
    unfold M.uAt
    simp [List.getD, List.getElem?_drop, hi]
  rw [ea] at q0 q1 q2
  have add_flat : (⟨b, off + k * 3, none⟩ : Addr).add j = ⟨b, off + k * 3 + j, none⟩ := by unfold Addr.add; simp
  rw [add_flat]
  rcases (show j = j / 3 * 3 ∨ j = j / 3 * 3 + 1 ∨ j = j / 3 * 3 + 2 by omega) with e | e | e
  · rw [e, q0] at hj; rw [← hj, show off + k * 3 + j = off + (k + j / 3) * 3 by omega]; exact h0
  · rw [e, q1] at hj; rw [← hj, show off + k * 3 + j = off + (k + j / 3) * 3 + 1 by omega]; exact h1
  · rw [e, q2] at hj; rw [← hj, show off + k * 3 + j = off + (k + j / 3) * 3 + 2 by omega]; exact h2

end Go.Proofs.YtlloiccodjnkcagGreatDoor

namespace Go.Proofs.YtlloiccodjnkcagGreatDoor.M
set_option linter.unusedVariables false

/-- the sum of squares less the mean, rounded down -/
def sprd (l : List Sa) : Int := if l.length = 0 then 0 else ((l.length : Nat) * sqT l - sumT l * sumT l) / (l.length : Nat)
theorem sprd_some {l : List Sa} (h : 0 < l.length) : sprd l = ((l.length : Nat) * sqT l - sumT l * sumT l) / (l.length : Nat) := by unfold sprd; rw [if_neg (by omega)]
theorem sprd_none {l : List Sa} (h : l.length = 0) : sprd l = 0 := by unfold sprd; rw [if_pos h]
theorem sq_nonneg (x : Int) : 0 ≤ x * x := by
  by_cases h : 0 ≤ x
  · exact Int.mul_nonneg h h
  · have e : x * x = (-x) * (-x) := by grind
    rw [e]; exact Int.mul_nonneg (by omega) (by omega)
theorem sqT_bd : ∀ {l : List Sa}, (∀ s ∈ l, -1000 ≤ s.2 ∧ s.2 ≤ 1000) → 0 ≤ sqT l ∧ sqT l ≤ 1000000 * (l.length : Nat)
  | [], _ => by simp [sqT]
  | s :: l, h => by
    have ih := sqT_bd (l := l) fun x hx => h x (List.mem_cons_of_mem _ hx)
    have h1 := h s (List.mem_cons_self ..)
    have q0 := sq_nonneg s.2
    have q1 : s.2 * s.2 ≤ 1000000 := by
      have a : 0 ≤ (1000 - s.2) * (1000 + s.2) := Int.mul_nonneg (by omega) (by omega)
      have e : (1000 - s.2) * (1000 + s.2) = 1000000 - s.2 * s.2 := by grind
      omega
    show 0 ≤ s.2 * s.2 + sqT l ∧ s.2 * s.2 + sqT l ≤ 1000000 * ((l.length + 1 : Nat) : Int)
    omega
/-- the square of the sum is no more than as many times the sum of squares -/
theorem sum_sq : ∀ l : List Sa, sumT l * sumT l ≤ (l.length : Nat) * sqT l
  | [] => by simp [sumT, sqT]
  | s :: l => by
    have ih := sum_sq l
    show (s.2 + sumT l) * (s.2 + sumT l) ≤ ((l.length + 1 : Nat) : Int) * (s.2 * s.2 + sqT l)
    have e1 : ((l.length + 1 : Nat) : Int) = (l.length : Nat) + 1 := by omega
    rw [e1]
    -- 2 x S ≤ n x² + q where S² ≤ n q
    have k : 2 * s.2 * sumT l ≤ (l.length : Nat) * (s.2 * s.2) + sqT l := by
      rcases Nat.eq_zero_or_pos l.length with z | z
      · have : l = [] := List.length_eq_zero_iff.1 z
        subst this
        simp [sumT, sqT]
      · have hn : (0 : Int) < (l.length : Nat) := by omega
        generalize ((l.length : Nat) : Int) = n at *
        generalize sumT l = S at *
        generalize sqT l = q at *
        generalize s.2 = x at *
        have sq := sq_nonneg (n * x - S)
        have e : (n * x - S) * (n * x - S) = n * (n * (x * x)) - n * (2 * x * S) + S * S := by grind
        have : n * (2 * x * S) ≤ n * (n * (x * x) + q) := by
          have e3 : n * (n * (x * x) + q) = n * (n * (x * x)) + n * q := by grind
          omega
        exact Int.le_of_mul_le_mul_left this hn
    generalize ((l.length : Nat) : Int) = n at *
    have e2 : (s.2 + sumT l) * (s.2 + sumT l) = s.2 * s.2 + 2 * s.2 * sumT l + sumT l * sumT l := by grind
    have e3 : (n + 1) * (s.2 * s.2 + sqT l) = n * (s.2 * s.2) + s.2 * s.2 + n * sqT l + sqT l := by grind
    omega
theorem sprd_nonneg (l : List Sa) : 0 ≤ sprd l := by
  rcases Nat.eq_zero_or_pos l.length with z | z
  · rw [sprd_none z]; omega
  · rw [sprd_some z]
    have := sum_sq l
    exact Int.ediv_nonneg (by omega) (by omega)
/-- no more on both sides than at it -/
theorem sprd_part (l : List Sa) (f : Nat) (c : Int) : sprd (partS l f c true) + sprd (partS l f c false) ≤ sprd l := by
  obtain ⟨s1, s2⟩ := part_sum l f c
  have q := sqT_part l f c
  rcases Nat.eq_zero_or_pos (partS l f c true).length with z | z
  · have e : partS l f c true = [] := List.length_eq_zero_iff.1 z
    rw [e] at s1 s2 q
    rw [e]
    have z0 : sprd ([] : List Sa) = 0 := rfl
    have a1 : sumT (partS l f c false) = sumT l := by have : sumT ([] : List Sa) = 0 := rfl; omega
    have a2 : (partS l f c false).length = l.length := by simpa using s2
    have a3 : sqT (partS l f c false) = sqT l := by have : sqT ([] : List Sa) = 0 := rfl; omega
    have : sprd (partS l f c false) = sprd l := by unfold sprd; rw [a1, a2, a3]
    omega
  · rcases Nat.eq_zero_or_pos (partS l f c false).length with y | y
    · have e : partS l f c false = [] := List.length_eq_zero_iff.1 y
      rw [e] at s1 s2 q
      rw [e]
      have z0 : sprd ([] : List Sa) = 0 := rfl
      have a1 : sumT (partS l f c true) = sumT l := by have : sumT ([] : List Sa) = 0 := rfl; omega
      have a2 : (partS l f c true).length = l.length := by simpa using s2
      have a3 : sqT (partS l f c true) = sqT l := by have : sqT ([] : List Sa) = 0 := rfl; omega
      have : sprd (partS l f c true) = sprd l := by unfold sprd; rw [a1, a2, a3]
      omega
    · rw [sprd_some z, sprd_some y, sprd_some (l := l) (by omega)]
      have en : ((l.length : Nat) : Int) = ((partS l f c true).length : Nat) + ((partS l f c false).length : Nat) := by omega
      rw [← q, ← s1, en]
      have p1 : (0 : Int) < ((partS l f c true).length : Nat) := by omega
      have p2 : (0 : Int) < ((partS l f c false).length : Nat) := by omega
      generalize (((partS l f c true).length : Nat) : Int) = a at *
      generalize (((partS l f c false).length : Nat) : Int) = b at *
      generalize sumT (partS l f c true) = S1 at *
      generalize sumT (partS l f c false) = S2 at *
      generalize sqT (partS l f c true) = Q1 at *
      generalize sqT (partS l f c false) = Q2 at *
      have x1 : (a * Q1 - S1 * S1) / a * a ≤ a * Q1 - S1 * S1 := Int.ediv_mul_le _ (by omega)
      have y1 : (b * Q2 - S2 * S2) / b * b ≤ b * Q2 - S2 * S2 := Int.ediv_mul_le _ (by omega)
      generalize (a * Q1 - S1 * S1) / a = x at *
      generalize (b * Q2 - S2 * S2) / b = w at *
      refine (Int.le_ediv_iff_mul_le (by omega)).2 ?_
      have sq := sq_nonneg (b * S1 - a * S2)
      have ab : 0 < a * b := Int.mul_pos p1 p2
      have k1 : x * a * (b * (a + b)) ≤ (a * Q1 - S1 * S1) * (b * (a + b)) := Int.mul_le_mul_of_nonneg_right x1 (Int.mul_nonneg (by omega) (by omega))
      have k2 : w * b * (a * (a + b)) ≤ (b * Q2 - S2 * S2) * (a * (a + b)) := Int.mul_le_mul_of_nonneg_right y1 (Int.mul_nonneg (by omega) (by omega))
      have id : ((a + b) * (Q1 + Q2) - (S1 + S2) * (S1 + S2)) * (a * b) = (a * Q1 - S1 * S1) * (b * (a + b)) + (b * Q2 - S2 * S2) * (a * (a + b)) + (b * S1 - a * S2) * (b * S1 - a * S2) := by grind
      have fin : (x + w) * (a + b) * (a * b) ≤ ((a + b) * (Q1 + Q2) - (S1 + S2) * (S1 + S2)) * (a * b) := by
        have e : (x + w) * (a + b) * (a * b) = x * a * (b * (a + b)) + w * b * (a * (a + b)) := by grind
        omega
      exact Int.le_of_mul_le_mul_right fin ab

theorem sqT_app (a b : List Sa) : sqT (a ++ b) = sqT a + sqT b := by
  induction a with
  | nil => show sqT b = 0 + sqT b; omega
  | cons s a ih => show s.2 * s.2 + sqT (a ++ b) = s.2 * s.2 + sqT a + sqT b; rw [ih]; omega

end Go.Proofs.YtlloiccodjnkcagGreatDoor.M

namespace Go.Proofs.YtlloiccodjnkcagGreatDoor.M
set_option linter.unusedVariables false

/-! ### together -/
def sumU : List Us → Int
  | [] => 0
  | u :: l => u.2.1 + sumU l
theorem sumU_app : ∀ a b : List Us, sumU (a ++ b) = sumU a + sumU b
  | [], b => by show sumU b = 0 + sumU b; omega
  | u :: a, b => by
    show u.2.1 + sumU (a ++ b) = u.2.1 + sumU a + sumU b
    rw [sumU_app a b]; omega
theorem sumU_ins (g : Bool) (out : List Us) (u : Us) : sumU (insU g out u) = sumU out + u.2.1 := by
  unfold insU
  have e : sumU out = sumU (out.take (toU g out u out.length)) + sumU (out.drop (toU g out u out.length)) := by
    rw [← sumU_app, List.take_append_drop]
  rw [sumU_app, sumU_app, e]
  show _ + (u.2.1 + 0) + _ = _
  omega
theorem sumU_rankK (g : Bool) (l : List Us) : ∀ k, k ≤ l.length → sumU (rankK g l k) = sumU (l.take k)
  | 0, _ => by simp [rankK, sumU]
  | k + 1, hk => by
    have ih := sumU_rankK g l k (by omega)
    have hk' : k < l.length := by omega
    rw [List.take_succ_eq_append_getElem hk', sumU_app]
    unfold rankK
    rw [usAt l hk']
    by_cases z : l[k].2.1 = 0
    · rw [if_pos z, ih]
      show _ = _ + (l[k].2.1 + 0)
      omega
    · rw [if_neg z, sumU_ins, ih]
      show _ = _ + (l[k].2.1 + 0)
      omega
theorem sumU_rank (g : Bool) (l : List Us) : sumU (rankU g l) = sumU l := by
  unfold rankU
  rw [sumU_rankK g l l.length (Nat.le_refl _), List.take_length]
/-! ### how many ask -/
def askN : List Nd → Nat
  | [] => 0
  | n :: t => (if nf n = -1 then 0 else 1) + askN t
def lfN : List Nd → Nat
  | [] => 0
  | n :: t => (if nf n = -1 then 1 else 0) + lfN t
theorem ask_lf : ∀ t : List Nd, askN t + lfN t = t.length
  | [] => rfl
  | n :: t => by
    have := ask_lf t
    show (if nf n = -1 then 0 else 1) + askN t + ((if nf n = -1 then 1 else 0) + lfN t) = t.length + 1
    split <;> omega
theorem ask_lay : ∀ (T : BT) (k : Nat) {m : Int}, okB m T → askN (lay T k) + 1 = T.lvs
  | .lf v, k, m, _ => rfl
  | .nd f c s l r, k, m, h => by
    have h1 := ask_lay l (k + 1) h.2.2.2.1
    have h2 := ask_lay r (k + 1 + l.size) h.2.2.2.2
    have app : ∀ a b : List Nd, askN (a ++ b) = askN a + askN b := by
      intro a b
      induction a with
      | nil => show askN b = 0 + askN b; omega
      | cons n a ih => show (if nf n = -1 then 0 else 1) + askN (a ++ b) = (if nf n = -1 then 0 else 1) + askN a + askN b; rw [ih]; omega
    show (if f = -1 then 0 else 1) + askN (lay l (k + 1) ++ lay r (k + 1 + l.size)) + 1 = l.lvs + r.lvs
    rw [if_neg (by have := h.1; omega), app]
    omega
theorem ask_two (T : BT) (k : Nat) {m : Int} (h : okB m T) : 2 * askN (lay T k) + 1 = T.size := by
  have h1 := ask_lay T k h
  have h2 := BT.two T
  omega
/-- features within eight -/
theorem cnt_sum : ∀ t : List Nd, (∀ n ∈ t, nf n = -1 ∨ (0 ≤ nf n ∧ nf n < 8)) → ((List.range 8).map fun (i : Nat) => cntN (i : Int) t).sum = askN t
  | [], _ => rfl
  | n :: t, h => by
    have ih := cnt_sum t fun x hx => h x (List.mem_cons_of_mem _ hx)
    have hn := h n (List.mem_cons_self ..)
    have e : ∀ (l : List Nat), (l.map fun (i : Nat) => cntN (i : Int) (n :: t)).sum = (l.map fun (i : Nat) => if nf n = (i : Int) then 1 else 0).sum + (l.map fun (i : Nat) => cntN (i : Int) t).sum := by
      intro l
      induction l with
      | nil => rfl
      | cons a l ih =>
        rw [List.map_cons, List.sum_cons, ih, List.map_cons, List.sum_cons, List.map_cons, List.sum_cons]
        show (if nf n = (a : Int) then 1 else 0) + cntN (a : Int) t + _ = _
        omega
    rw [e, ih]
    show _ = (if nf n = -1 then 0 else 1) + askN t
    congr 1
    rcases hn with z | ⟨z1, z2⟩
    · rw [if_pos z, z]; decide
    · rw [if_neg (by omega)]
      obtain ⟨k, hk⟩ : ∃ k : Nat, nf n = (k : Int) := ⟨(nf n).toNat, by omega⟩
      rw [hk]
      have k8 : k < 8 := by omega
      have : k = 0 ∨ k = 1 ∨ k = 2 ∨ k = 3 ∨ k = 4 ∨ k = 5 ∨ k = 6 ∨ k = 7 := by omega
      rcases this with z | z | z | z | z | z | z | z <;> subst z <;> decide
def askG : List (List Nd) → Nat
  | [] => 0
  | t :: l => askN t + askG l
theorem use_sum : ∀ l : List (List Nd), (∀ t ∈ l, ∀ n ∈ t, nf n = -1 ∨ (0 ≤ nf n ∧ nf n < 8)) → ((List.range 8).map fun (i : Nat) => cntG (i : Int) l).sum = askG l
  | [], _ => rfl
  | t :: l, h => by
    have ih := use_sum l fun x hx => h x (List.mem_cons_of_mem _ hx)
    have ht := cnt_sum t (h t (List.mem_cons_self ..))
    have e : ∀ (r : List Nat), (r.map fun (i : Nat) => cntG (i : Int) (t :: l)).sum = (r.map fun (i : Nat) => cntN (i : Int) t).sum + (r.map fun (i : Nat) => cntG (i : Int) l).sum := by
      intro r
      induction r with
      | nil => rfl
      | cons a r ih =>
        rw [List.map_cons, List.sum_cons, ih, List.map_cons, List.sum_cons, List.map_cons, List.sum_cons]
        show cntN (a : Int) t + cntG (a : Int) l + _ = _
        omega
    rw [e, ht, ih]
    rfl
theorem uses_sum {l : List (List Nd)} (h : ∀ t ∈ l, ∀ n ∈ t, nf n = -1 ∨ (0 ≤ nf n ∧ nf n < 8)) : sumU (usesV l) = (askG l : Nat) := by
  unfold usesV
  rw [sumU_rank, ← use_sum l h]
  unfold useL
  generalize List.range 8 = r
  induction r with
  | nil => rfl
  | cons a r ih =>
    rw [List.map_cons, List.map_cons, List.sum_cons]
    show ((cntG (a : Int) l : Nat) : Int) + sumU _ = _
    rw [ih]; omega
/-! ### two lists -/
def sameN : List Int → List Int → Nat
  | x :: a, y :: b => (if x = y then 1 else 0) + sameN a b
  | _, _ => 0
def sameF (a b : List Int) : Int := if a.length ≠ b.length then 3 else if 1000 < a.length then 4 else 0
def sameV (a b : List Int) : Int := if sameF a b = 0 then (sameN a b : Nat) else 0
theorem same_turn : ∀ a b : List Int, sameN a b = sameN b a
  | [], [] => rfl
  | [], _ :: _ => rfl
  | _ :: _, [] => rfl
  | x :: a, y :: b => by
    show (if x = y then 1 else 0) + sameN a b = (if y = x then 1 else 0) + sameN b a
    rw [same_turn a b]
    by_cases e : x = y
    · rw [if_pos e, if_pos e.symm]
    · rw [if_neg e, if_neg (fun z => e z.symm)]
theorem same_self : ∀ a : List Int, sameN a a = a.length
  | [] => rfl
  | x :: a => by
    show (if x = x then 1 else 0) + sameN a a = a.length + 1
    rw [if_pos rfl, same_self a]; omega
theorem same_le : ∀ a b : List Int, sameN a b ≤ a.length
  | [], [] => Nat.le_refl _
  | [], _ :: _ => Nat.le_refl _
  | _ :: _, [] => Nat.zero_le _
  | x :: a, y :: b => by
    have := same_le a b
    show (if x = y then 1 else 0) + sameN a b ≤ a.length + 1
    split <;> omega
theorem same_app : ∀ (a b c d : List Int), a.length = b.length → sameN (a ++ c) (b ++ d) = sameN a b + sameN c d
  | [], [], c, d, _ => by show sameN c d = 0 + sameN c d; omega
  | [], _ :: _, _, _, h => by simp at h
  | _ :: _, [], _, _, h => by simp at h
  | x :: a, y :: b, c, d, h => by
    have ih := same_app a b c d (by simpa using h)
    show (if x = y then 1 else 0) + sameN (a ++ c) (b ++ d) = (if x = y then 1 else 0) + sameN a b + sameN c d
    rw [ih]; omega
theorem same_more {a b : List Int} (h : a.length = b.length) {k : Nat} (hk : k < a.length) : sameN (a.take (k + 1)) (b.take (k + 1)) = sameN (a.take k) (b.take k) + (if a.getD k 0 = b.getD k 0 then 1 else 0) := by
  rw [List.take_succ_eq_append_getElem hk, List.take_succ_eq_append_getElem (by omega), same_app _ _ _ _ (by rw [List.length_take, List.length_take, h]), getD_at hk, getD_at (by omega)]
  rfl

end Go.Proofs.YtlloiccodjnkcagGreatDoor.M

namespace Go.Proofs.YtlloiccodjnkcagGreatDoor.M
set_option linter.unusedVariables false

theorem way_rise {t : List Nd} {m : Int} (h : Right t m) (r : List Int) : ∀ (f i : Nat), i < t.length → t.length ≤ f + i → (way t r i).Pairwise (fun a b => a < b)
  | 0, i, hi, hf => by omega
  | f + 1, i, hi, hf => by
    by_cases hl : nf (nAt t i) = -1
    · rw [way_leaf hi hl]; exact List.pairwise_singleton _ _
    · obtain ⟨k, e, h1, h2⟩ := next_in h r hi hl
      rw [way_next h hi hl e]
      exact List.pairwise_cons.2 ⟨fun j hj => by have := way_mem h r f k h2 (by omega) j hj; omega, way_rise h r f k h2 (by omega)⟩
theorem path_rise {t : List Nd} {r : List Int} : (pathV t r).Pairwise (fun a b => a < b) := by
  unfold pathV
  split
  · rename_i hz
    have hR : ∃ m : Int, Right t m ∧ 0 < t.length := by
      unfold readyF at hz
      by_cases c : rowF r ≠ 0
      · rw [if_pos c] at hz; exact absurd hz c
      · rw [if_neg c] at hz
        exact ⟨(r.length : Int), (tree_ok hz).1.2.2.2.2.1, (tree_ok hz).1.2.1⟩
    obtain ⟨m, h1, h2⟩ := hR
    rw [List.pairwise_map]
    exact (way_rise h1 r t.length 0 h2 (by omega)).imp fun {a b} q => (show ((a : Nat) : Int) < ((b : Nat) : Int) by omega)
  · exact List.Pairwise.nil
/-- who comes over a node -/
def overB (t : List Nd) (i : Nat) (s : Sa) : Bool := decide ((i : Int) ∈ pathV t s.1)
def hereS (t : List Nd) (l : List Sa) (i : Nat) : List Sa := l.filter (overB t i)
/-- what a node gains -/
def gainN (t : List Nd) (l : List Sa) (i : Nat) : Int := sprd (hereS t l i) - sprd (partS (hereS t l i) (nf (nAt t i)).toNat (nc (nAt t i)) true) - sprd (partS (hereS t l i) (nf (nAt t i)).toNat (nc (nAt t i)) false)
def gnK (t : List Nd) (l : List Sa) (f : Int) : Nat → Int
  | 0 => 0
  | i + 1 => if nf (nAt t i) = f then gnK t l f i + gainN t l i else gnK t l f i
theorem gain_pos (t : List Nd) (l : List Sa) (i : Nat) : 0 ≤ gainN t l i := by
  unfold gainN
  have := sprd_part (hereS t l i) (nf (nAt t i)).toNat (nc (nAt t i))
  omega
theorem gnK_pos (t : List Nd) (l : List Sa) (f : Int) : ∀ i, 0 ≤ gnK t l f i
  | 0 => Int.le_refl _
  | i + 1 => by
    have := gnK_pos t l f i
    have := gain_pos t l i
    unfold gnK
    split <;> omega
theorem sprd_le {l : List Sa} (h : ∀ s ∈ l, -1000 ≤ s.2 ∧ s.2 ≤ 1000) (hl : l.length ≤ 60) : sprd l ≤ 60000000 := by
  rcases Nat.eq_zero_or_pos l.length with z | z
  · rw [sprd_none z]; omega
  · rw [sprd_some z]
    have q := sqT_bd h
    have sq := sq_nonneg (sumT l)
    have hp : (0 : Int) < (l.length : Nat) := by omega
    refine Int.le_of_lt_add_one (Int.ediv_lt_of_lt_mul hp ?_)
    have e : (60000000 + 1) * ((l.length : Nat) : Int) = 60000000 * (l.length : Nat) + (l.length : Nat) := by omega
    have m : ((l.length : Nat) : Int) * sqT l ≤ (l.length : Nat) * 60000000 := Int.mul_le_mul_of_nonneg_left (by omega) (by omega)
    omega
theorem gain_le {t : List Nd} {l : List Sa} (h : ∀ s ∈ l, -1000 ≤ s.2 ∧ s.2 ≤ 1000) (hl : l.length ≤ 60) (i : Nat) : gainN t l i ≤ 60000000 := by
  have a := sprd_le (l := hereS t l i) (fun s hs => h s (List.mem_filter.1 hs).1) (Nat.le_trans (List.length_filter_le _ _) hl)
  have b := sprd_nonneg (partS (hereS t l i) (nf (nAt t i)).toNat (nc (nAt t i)) true)
  have c := sprd_nonneg (partS (hereS t l i) (nf (nAt t i)).toNat (nc (nAt t i)) false)
  unfold gainN
  omega
theorem gnK_le {t : List Nd} {l : List Sa} (h : ∀ s ∈ l, -1000 ≤ s.2 ∧ s.2 ≤ 1000) (hl : l.length ≤ 60) (f : Int) : ∀ i, gnK t l f i ≤ 60000000 * (i : Nat)
  | 0 => Int.le_refl _
  | i + 1 => by
    have a := gnK_le (t := t) h hl f i
    have b := gain_le (t := t) h hl i
    unfold gnK
    split <;> omega
/-- the gains of eight features -/
def gainL (t : List Nd) (l : List Sa) : List Us := (List.range 8).map fun (i : Nat) => ((i : Int), ((cntN (i : Int) t : Nat) : Int), gnK t l (i : Int) t.length)
theorem gainL_rise (t : List Nd) (l : List Sa) : RiseU (gainL t l) := by
  unfold RiseU gainL
  rw [List.pairwise_map]
  exact (List.pairwise_lt_range).imp fun {a b} h => (show ((a : Nat) : Int) < ((b : Nat) : Int) by omega)
def gainsV (t : List Nd) (l : List Sa) : List Us := rankU true (gainL t l)
/-- gains are not below 0, and each is in some node -/
theorem gains_pos {t : List Nd} {l : List Sa} {u : Us} (h : u ∈ gainsV t l) : 0 ≤ u.2.2 ∧ 1 ≤ u.2.1 := by
  unfold gainsV at h
  rw [(rank_spec (gainL_rise t l)).2] at h
  obtain ⟨h1, h2⟩ := h
  unfold gainL at h1
  obtain ⟨i, _, rfl⟩ := List.mem_map.1 h1
  refine ⟨gnK_pos t l _ _, ?_⟩
  have : ((cntN (i : Int) t : Nat) : Int) ≠ 0 := h2
  show 1 ≤ ((cntN (i : Int) t : Nat) : Int)
  omega

end Go.Proofs.YtlloiccodjnkcagGreatDoor.M
