/-
  Several texts as one: MathWa, MathWb, UsCells, Nodes, MathG.
-/
import Derived.Test.YtlloiccodjnkcagGreatDoorRunW4
import Derived.Test.YtlloiccodjnkcagGreatDoorRunW1
import Derived.Test.YtlloiccodjnkcagGreatDoorRunW2
import Derived.Deep.Matrix
import Derived.Deep.Strs
import Derived.Test.YtlloiccodjnkcagGreatDoorRunW3
namespace Go.Proofs.YtlloiccodjnkcagGreatDoor.M
set_option linter.unusedVariables false

/-! ### without a feature -/
def wo (f : Int) : BT → BT
  | .lf v => .lf v
  | .nd g c s l r => if g = f then (if s = true then wo f l else wo f r) else .nd g c s (wo f l) (wo f r)
def freeB (f : Int) : BT → Prop
  | .lf _ => True
  | .nd g _ _ l r => g ≠ f ∧ freeB f l ∧ freeB f r
theorem wo_hit {f c : Int} {s : Bool} {l r : BT} : wo f (.nd f c s l r) = if s = true then wo f l else wo f r := by
  show (if f = f then _ else _) = _
  rw [if_pos rfl]
theorem wo_miss {f g c : Int} {s : Bool} {l r : BT} (h : g ≠ f) : wo f (.nd g c s l r) = .nd g c s (wo f l) (wo f r) := by
  show (if g = f then _ else _) = _
  rw [if_neg h]
theorem wo_free (f : Int) : ∀ T : BT, freeB f (wo f T)
  | .lf _ => trivial
  | .nd g c s l r => by
    by_cases h : g = f
    · subst h; rw [wo_hit]; split
      · exact wo_free g l
      · exact wo_free g r
    · rw [wo_miss h]; exact ⟨h, wo_free f l, wo_free f r⟩
theorem wo_same {f : Int} : ∀ T : BT, freeB f T → wo f T = T
  | .lf _, _ => rfl
  | .nd g c s l r, h => by rw [wo_miss h.1, wo_same l h.2.1, wo_same r h.2.2]
theorem wo_ok {f m : Int} : ∀ T : BT, okB m T → okB m (wo f T)
  | .lf _, h => h
  | .nd g c s l r, h => by
    by_cases e : g = f
    · subst e; rw [wo_hit]; split
      · exact wo_ok l h.2.2.2.1
      · exact wo_ok r h.2.2.2.2
    · rw [wo_miss e]; exact ⟨h.1, h.2.1, h.2.2.1, wo_ok l h.2.2.2.1, wo_ok r h.2.2.2.2⟩
theorem wo_le (f : Int) : ∀ T : BT, (wo f T).size ≤ T.size ∧ (wo f T).deep ≤ T.deep
  | .lf _ => ⟨Nat.le_refl _, Nat.le_refl _⟩
  | .nd g c s l r => by
    have h1 := wo_le f l
    have h2 := wo_le f r
    by_cases e : g = f
    · subst e; rw [wo_hit]
      show _ ≤ 1 + l.size + r.size ∧ _ ≤ 1 + max l.deep r.deep
      split <;> omega
    · rw [wo_miss e]
      show 1 + _ + _ ≤ 1 + _ + _ ∧ 1 + max _ _ ≤ 1 + max _ _
      omega
/-- what it tells -/
theorem wo_ev {f : Nat} {x : List Int} (hx : f < x.length) {m : Int} : ∀ T : BT, okB m T → evB (wo (f : Int) T) x = evB T (x.set f nilI)
  | .lf _, _ => rfl
  | .nd g c s l r, h => by
    have h1 := wo_ev hx l h.2.2.2.1
    have h2 := wo_ev hx r h.2.2.2.2
    have gn : ((g.toNat : Nat) : Int) = g := Int.toNat_of_nonneg h.1
    by_cases e : g = (f : Int)
    · subst e
      rw [wo_hit]
      have eg : goes (f : Int) c s (x.set f nilI) = s := by
        unfold goes
        rw [Int.toNat_natCast, if_pos (by simp [List.getD, hx])]
      show _ = if goes (f : Int) c s (x.set f nilI) = true then _ else _
      rw [eg]
      split
      · exact h1
      · exact h2
    · rw [wo_miss e]
      have eg : goes g c s (x.set f nilI) = goes g c s x := by
        unfold goes
        have : (x.set f nilI).getD g.toNat 0 = x.getD g.toNat 0 := by
          have ne : f ≠ g.toNat := fun z => e (by omega)
          simp [List.getD, ne]
        rw [this]
      show (if goes g c s x = true then _ else _) = if goes g c s (x.set f nilI) = true then _ else _
      rw [eg, h1, h2]

/-! ### the features, as they are laid -/
def pre : BT → List Int
  | .lf _ => [-1]
  | .nd f _ _ l r => f :: (pre l ++ pre r)
theorem pre_len : ∀ T : BT, (pre T).length = T.size
  | .lf _ => rfl
  | .nd _ _ _ l r => by
    show (pre l ++ pre r).length + 1 = 1 + l.size + r.size
    rw [List.length_append, pre_len l, pre_len r]; omega
theorem pre_lay : ∀ (T : BT) (k : Nat), (lay T k).map nf = pre T
  | .lf _, k => rfl
  | .nd f c s l r, k => by
    show f :: (lay l (k + 1) ++ lay r (k + 1 + l.size)).map nf = f :: (pre l ++ pre r)
    rw [List.map_append, pre_lay l, pre_lay r]
theorem pre_free {f : Int} (hf : f ≠ -1) : ∀ T : BT, freeB f T ↔ ∀ g ∈ pre T, g ≠ f
  | .lf _ => ⟨fun _ g hg => by
      have : g = -1 := by simpa [pre] using hg
      subst this; exact fun e => hf e.symm, fun _ => trivial⟩
  | .nd g c s l r => by
    have h1 := pre_free hf l
    have h2 := pre_free hf r
    show (g ≠ f ∧ freeB f l ∧ freeB f r) ↔ ∀ x ∈ g :: (pre l ++ pre r), x ≠ f
    rw [h1, h2]
    constructor
    · rintro ⟨a, b, c⟩ x hx
      rcases List.mem_cons.1 hx with e | e
      · rw [e]; exact a
      · rcases List.mem_append.1 e with z | z
        · exact b x z
        · exact c x z
    · intro h
      exact ⟨h g (List.mem_cons_self ..), fun x hx => h x (List.mem_cons_of_mem _ (List.mem_append.2 (.inl hx))), fun x hx => h x (List.mem_cons_of_mem _ (List.mem_append.2 (.inr hx)))⟩

/-! ### the tree at a place, and another one there -/
def sub : BT → Nat → BT
  | T, 0 => T
  | .lf v, _ + 1 => .lf v
  | .nd _ _ _ l r, i + 1 => if i < l.size then sub l i else sub r (i - l.size)
def rep : BT → Nat → BT → BT
  | _, 0, V => V
  | .lf v, _ + 1, _ => .lf v
  | .nd f c s l r, i + 1, V => if i < l.size then .nd f c s (rep l i V) r else .nd f c s l (rep r (i - l.size) V)
theorem rep_zero (T V : BT) : rep T 0 V = V := by cases T <;> rfl
theorem sub_zero (T : BT) : sub T 0 = T := by cases T <;> rfl
theorem rep_pre : ∀ (T : BT) (i : Nat) (V : BT), i < T.size → (pre (rep T i V)).take i = (pre T).take i
  | T, 0, V, _ => by simp
  | .lf v, i + 1, V, h => by have : (BT.lf v).size = 1 := rfl; omega
  | .nd f c s l r, i + 1, V, h => by
    have hs : i + 1 < 1 + l.size + r.size := h
    unfold rep
    by_cases e : i < l.size
    · rw [if_pos e]
      show (f :: (pre (rep l i V) ++ pre r)).take (i + 1) = (f :: (pre l ++ pre r)).take (i + 1)
      rw [List.take_succ_cons, List.take_succ_cons]
      congr 1
      have ih := rep_pre l i V e
      have l1 : i ≤ (pre (rep l i V)).length := by
        have := congrArg List.length ih
        rw [List.length_take, List.length_take, pre_len l] at this
        omega
      rw [List.take_append_of_le_length l1, List.take_append_of_le_length (by rw [pre_len]; omega), ih]
    · rw [if_neg e]
      show (f :: (pre l ++ pre (rep r (i - l.size) V))).take (i + 1) = (f :: (pre l ++ pre r)).take (i + 1)
      rw [List.take_succ_cons, List.take_succ_cons]
      congr 1
      have ih := rep_pre r (i - l.size) V (by omega)
      rw [List.take_append, List.take_append, pre_len l, ih]
theorem rep_wo {f : Int} : ∀ (T : BT) (i : Nat) (V : BT), i < T.size → wo f V = wo f (sub T i) → wo f (rep T i V) = wo f T
  | T, 0, V, _, h => by rw [rep_zero, h, sub_zero]
  | .lf v, i + 1, V, h, _ => by have : (BT.lf v).size = 1 := rfl; omega
  | .nd g c s l r, i + 1, V, h, hv => by
    have hs : i + 1 < 1 + l.size + r.size := h
    unfold rep
    unfold sub at hv
    by_cases e : i < l.size
    · rw [if_pos e] at hv ⊢
      have ih := rep_wo l i V e hv
      by_cases q : g = f
      · subst q; rw [wo_hit, wo_hit, ih]
      · rw [wo_miss q, wo_miss q, ih]
    · rw [if_neg e] at hv ⊢
      have ih := rep_wo r (i - l.size) V (by omega) hv
      by_cases q : g = f
      · subst q; rw [wo_hit, wo_hit, ih]
      · rw [wo_miss q, wo_miss q, ih]
theorem rep_size : ∀ (T : BT) (i : Nat) (V : BT), i < T.size → V.size < (sub T i).size → (rep T i V).size < T.size
  | T, 0, V, _, h => by rw [rep_zero]; rw [sub_zero] at h; exact h
  | .lf v, i + 1, V, h, _ => by have : (BT.lf v).size = 1 := rfl; omega
  | .nd g c s l r, i + 1, V, h, hv => by
    have hs : i + 1 < 1 + l.size + r.size := h
    unfold rep
    unfold sub at hv
    by_cases e : i < l.size
    · rw [if_pos e] at hv ⊢
      have ih := rep_size l i V e hv
      show 1 + (rep l i V).size + r.size < 1 + l.size + r.size
      omega
    · rw [if_neg e] at hv ⊢
      have ih := rep_size r (i - l.size) V (by omega) hv
      show 1 + l.size + (rep r (i - l.size) V).size < 1 + l.size + r.size
      omega
theorem rep_deep : ∀ (T : BT) (i : Nat) (V : BT), i < T.size → V.deep ≤ (sub T i).deep → (rep T i V).deep ≤ T.deep
  | T, 0, V, _, h => by rw [rep_zero]; rw [sub_zero] at h; exact h
  | .lf v, i + 1, V, h, _ => by have : (BT.lf v).size = 1 := rfl; omega
  | .nd g c s l r, i + 1, V, h, hv => by
    have hs : i + 1 < 1 + l.size + r.size := h
    unfold rep
    unfold sub at hv
    by_cases e : i < l.size
    · rw [if_pos e] at hv ⊢
      have ih := rep_deep l i V e hv
      show 1 + max (rep l i V).deep r.deep ≤ 1 + max l.deep r.deep
      omega
    · rw [if_neg e] at hv ⊢
      have ih := rep_deep r (i - l.size) V (by omega) hv
      show 1 + max l.deep (rep r (i - l.size) V).deep ≤ 1 + max l.deep r.deep
      omega
theorem rep_ok {m : Int} : ∀ (T : BT) (i : Nat) (V : BT), i < T.size → okB m T → okB m V → okB m (rep T i V)
  | T, 0, V, _, _, h => by rw [rep_zero]; exact h
  | .lf v, i + 1, V, h, _, _ => by have : (BT.lf v).size = 1 := rfl; omega
  | .nd g c s l r, i + 1, V, h, hk, hv => by
    have hs : i + 1 < 1 + l.size + r.size := h
    unfold rep
    by_cases e : i < l.size
    · rw [if_pos e]; exact ⟨hk.1, hk.2.1, hk.2.2.1, rep_ok l i V e hk.2.2.2.1 hv, hk.2.2.2.2⟩
    · rw [if_neg e]; exact ⟨hk.1, hk.2.1, hk.2.2.1, hk.2.2.2.1, rep_ok r (i - l.size) V (by omega) hk.2.2.2.2 hv⟩
theorem sub_ok {m : Int} : ∀ (T : BT) (i : Nat), i < T.size → okB m T → okB m (sub T i)
  | T, 0, _, h => by rw [sub_zero]; exact h
  | .lf v, i + 1, h, _ => by have : (BT.lf v).size = 1 := rfl; omega
  | .nd g c s l r, i + 1, h, hk => by
    have hs : i + 1 < 1 + l.size + r.size := h
    unfold sub
    by_cases e : i < l.size
    · rw [if_pos e]; exact sub_ok l i e hk.2.2.2.1
    · rw [if_neg e]; exact sub_ok r (i - l.size) (by omega) hk.2.2.2.2

/-! ### a tree that sits at a place of what is laid -/
def Sits (t : List Nd) (k : Nat) (T : BT) : Prop := k + T.size ≤ t.length ∧ ∀ j, j < T.size → nAt t (k + j) = nAt (lay T k) j
theorem sits_lay (T : BT) : Sits (lay T 0) 0 T := ⟨by rw [lay_len]; omega, fun j _ => by rw [Nat.zero_add]⟩
theorem nAt_left (a b : List Nd) {j : Nat} (h : j < a.length) : nAt (a ++ b) j = nAt a j := by
  unfold nAt; simp [List.getD, List.getElem?_append_left h]
theorem nAt_right (a b : List Nd) {j : Nat} (h : a.length ≤ j) : nAt (a ++ b) j = nAt b (j - a.length) := by
  unfold nAt; simp [List.getD, List.getElem?_append_right h]
theorem Sits.sides {t : List Nd} {k : Nat} {f c : Int} {s : Bool} {l r : BT} (h : Sits t k (.nd f c s l r)) : nAt t k = (f, c, ((k + 1 : Nat) : Int), ((k + 1 + l.size : Nat) : Int), s, 0) ∧ Sits t (k + 1) l ∧ Sits t (k + 1 + l.size) r := by
  obtain ⟨h1, h2⟩ := h
  have hs : (BT.nd f c s l r).size = 1 + l.size + r.size := rfl
  rw [hs] at h1 h2
  have cut : ∀ j, nAt (lay (.nd f c s l r) k) (j + 1) = nAt (lay l (k + 1) ++ lay r (k + 1 + l.size)) j := fun j => by
    show nAt ((f, c, ((k + 1 : Nat) : Int), ((k + 1 + l.size : Nat) : Int), s, 0) :: (lay l (k + 1) ++ lay r (k + 1 + l.size))) (j + 1) = _
    unfold nAt; simp [List.getD]
  refine ⟨by have := h2 0 (by omega); rw [Nat.add_zero] at this; rw [this]; rfl, ⟨by omega, fun j hj => ?_⟩, ⟨by omega, fun j hj => ?_⟩⟩
  · have := h2 (j + 1) (by omega)
    rw [cut, nAt_left _ _ (by rw [lay_len]; exact hj)] at this
    rw [show k + 1 + j = k + (j + 1) by omega]; exact this
  · have := h2 (l.size + j + 1) (by omega)
    rw [cut, nAt_right _ _ (by rw [lay_len]; omega), lay_len, show l.size + j - l.size = j by omega] at this
    rw [show k + 1 + l.size + j = k + (l.size + j + 1) by omega]; exact this
theorem Sits.leaf {t : List Nd} {k : Nat} {v : Int} (h : Sits t k (.lf v)) : nAt t k = (-1, 0, 0, 0, false, v) := by
  have := h.2 0 Nat.one_pos
  rw [Nat.add_zero] at this
  rw [this]; rfl
theorem Sits.tree {t : List Nd} {m : Int} (hR : Right t m) : ∀ {T : BT} {k : Nat}, okB m T → Sits t k T → bt t k = T
  | .lf v, k, _, h => by
    have hk : k < t.length := by have := h.1; have : (BT.lf v).size = 1 := rfl; omega
    have e := h.leaf
    rw [bt_leaf hk (by rw [e]; rfl), e]; rfl
  | .nd f c s l r, k, ok, h => by
    have hk : k < t.length := by have := h.1; have : (BT.nd f c s l r).size = 1 + l.size + r.size := rfl; omega
    obtain ⟨e, h1, h2⟩ := h.sides
    have f0 : nf (nAt t k) ≠ -1 := by rw [e]; show f ≠ -1; have := ok.1; omega
    rw [bt_ask hR hk f0 (a := k + 1) (b := k + 1 + l.size) (by rw [e]; rfl) (by rw [e]; rfl), h1.tree hR ok.2.2.2.1, h2.tree hR ok.2.2.2.2, e]
    rfl
theorem Sits.under {t : List Nd} : ∀ {T : BT} {k i : Nat}, Sits t k T → i < T.size → Sits t (k + i) (sub T i)
  | T, k, 0, h, _ => by rw [sub_zero]; exact h
  | .lf v, k, i + 1, _, hi => by have : (BT.lf v).size = 1 := rfl; omega
  | .nd f c s l r, k, i + 1, h, hi => by
    have hs : i + 1 < 1 + l.size + r.size := hi
    obtain ⟨_, h1, h2⟩ := h.sides
    unfold sub
    by_cases e : i < l.size
    · rw [if_pos e, show k + (i + 1) = k + 1 + i by omega]; exact h1.under e
    · rw [if_neg e, show k + (i + 1) = k + 1 + l.size + (i - l.size) by omega]; exact h2.under (by omega)
/-- what sits there where nothing is turned -/
theorem Sits.kept {t u : List Nd} {k : Nat} {T : BT} {up : Nat} (h : Sits t k T) (hl : u.length = t.length) (hq : ∀ q, q ≠ up → nAt u q = nAt t q) (hu : up < k ∨ k + T.size ≤ up) : Sits u k T :=
  ⟨by rw [hl]; exact h.1, fun j hj => by rw [hq (k + j) (by omega)]; exact h.2 j hj⟩
/-- a node gave way: the tree at its place is another one -/
theorem Sits.turned {t u : List Nd} {m : Int} (hu : Right u m) (hl : u.length = t.length) {up at' tw : Nat} (hq : ∀ q, q ≠ up → nAt u q = nAt t q) (hn : nAt u up = turnN (nAt t up) at' tw) (hc : chL (nAt t up) (at' : Nat)) {V : BT} (hV : bt u tw = V) :
    ∀ {T : BT} {k : Nat}, okB m T → Sits t k T → k ≤ up → up < k + T.size → k < at' ∧ at' < k + T.size ∧ bt u k = rep T (at' - k) V
  | .lf v, k, _, h, h1, h2 => by
    have e := h.leaf
    have : up = k := by have : (BT.lf v).size = 1 := rfl; omega
    subst this
    exact absurd (by rw [e]; rfl) hc.1
  | .nd f c s l r, k, ok, h, h1, h2 => by
    have hs : up < k + (1 + l.size + r.size) := h2
    have lp := BT.size_pos l
    have rp := BT.size_pos r
    have hk : k < u.length := by rw [hl]; have := h.1; have : (BT.nd f c s l r).size = 1 + l.size + r.size := rfl; omega
    obtain ⟨e, s1, s2⟩ := h.sides
    have fz : f ≠ -1 := by have := ok.1; omega
    by_cases c0 : up = k
    · subst c0
      rw [e] at hn hc
      have k1 : Sits u (up + 1) l := s1.kept hl hq (.inl (by omega))
      have k2 : Sits u (up + 1 + l.size) r := s2.kept hl hq (.inl (by omega))
      have b1 := k1.tree hu ok.2.2.2.1
      have b2 := k2.tree hu ok.2.2.2.2
      by_cases ca : at' = up + 1
      · subst ca
        have en : nAt u up = (f, c, (tw : Int), ((up + 1 + l.size : Nat) : Int), s, 0) := by rw [hn]; unfold turnN; rw [if_pos (show nl (f, c, ((up + 1 : Nat) : Int), ((up + 1 + l.size : Nat) : Int), s, (0 : Int)) = ((up + 1 : Nat) : Int) from rfl)]; rfl
        refine ⟨by omega, by show up + 1 < up + (1 + l.size + r.size); omega, ?_⟩
        rw [bt_ask hu hk (a := tw) (b := up + 1 + l.size) (by rw [en]; exact fz) (by rw [en]; rfl) (by rw [en]; rfl), en, hV, b2]
        rw [show up + 1 - up = 0 + 1 by omega]
        show BT.nd f c s V r = if 0 < l.size then .nd f c s (rep l 0 V) r else _
        rw [if_pos lp, rep_zero]
      · have cb : at' = up + 1 + l.size := by
          rcases hc.2 with z | z
          · have : ((up + 1 : Nat) : Int) = (at' : Int) := z; omega
          · have : ((up + 1 + l.size : Nat) : Int) = (at' : Int) := z; omega
        subst cb
        have en : nAt u up = (f, c, ((up + 1 : Nat) : Int), (tw : Int), s, 0) := by
          rw [hn]; unfold turnN
          rw [if_neg (by show ¬ ((up + 1 : Nat) : Int) = ((up + 1 + l.size : Nat) : Int); omega)]; rfl
        refine ⟨by omega, by show up + 1 + l.size < up + (1 + l.size + r.size); omega, ?_⟩
        rw [bt_ask hu hk (a := up + 1) (b := tw) (by rw [en]; exact fz) (by rw [en]; rfl) (by rw [en]; rfl), en, hV, b1]
        rw [show up + 1 + l.size - up = l.size + 1 by omega]
        show BT.nd f c s l V = if l.size < l.size then _ else .nd f c s l (rep r (l.size - l.size) V)
        rw [if_neg (Nat.lt_irrefl _), Nat.sub_self, rep_zero]
    · have ek := hq k (fun z => c0 z.symm)
      rw [e] at ek
      by_cases cl : up < k + 1 + l.size
      · obtain ⟨p1, p2, p3⟩ := Sits.turned hu hl hq hn hc hV ok.2.2.2.1 s1 (by omega) cl
        have k2 : Sits u (k + 1 + l.size) r := s2.kept hl hq (.inl (by omega))
        refine ⟨by omega, by show at' < k + (1 + l.size + r.size); omega, ?_⟩
        rw [bt_ask hu hk (a := k + 1) (b := k + 1 + l.size) (by rw [ek]; exact fz) (by rw [ek]; rfl) (by rw [ek]; rfl), ek, p3, k2.tree hu ok.2.2.2.2]
        obtain ⟨d, hd⟩ : ∃ d, at' - k = d + 1 := ⟨at' - k - 1, by omega⟩
        rw [hd, show at' - (k + 1) = d by omega]
        show BT.nd f c s (rep l d V) r = if d < l.size then .nd f c s (rep l d V) r else _
        rw [if_pos (by omega)]
      · obtain ⟨p1, p2, p3⟩ := Sits.turned hu hl hq hn hc hV ok.2.2.2.2 s2 (by omega) (by omega)
        have k1 : Sits u (k + 1) l := s1.kept hl hq (.inr (by omega))
        refine ⟨by omega, by show at' < k + (1 + l.size + r.size); omega, ?_⟩
        rw [bt_ask hu hk (a := k + 1) (b := k + 1 + l.size) (by rw [ek]; exact fz) (by rw [ek]; rfl) (by rw [ek]; rfl), ek, p3, k1.tree hu ok.2.2.2.1]
        obtain ⟨d, hd⟩ : ∃ d, at' - k = d + 1 := ⟨at' - k - 1, by omega⟩
        rw [hd, show at' - (k + 1 + l.size) = d - l.size by omega]
        show BT.nd f c s l (rep r (d - l.size) V) = if d < l.size then _ else .nd f c s l (rep r (d - l.size) V)
        rw [if_neg (by omega)]

end Go.Proofs.YtlloiccodjnkcagGreatDoor.M

namespace Go.Proofs.YtlloiccodjnkcagGreatDoor.M
set_option linter.unusedVariables false

/-- a feature, its nodes, its gain -/
abbrev Us := Int × Int × Int
def keyU (g : Bool) (u : Us) : Int := if g = true then u.2.2 else u.2.1
/-- the greater one first, of equal ones the lesser feature -/
def RkU (g : Bool) (a b : Us) : Prop := keyU g b < keyU g a ∨ (keyU g a = keyU g b ∧ a.1 < b.1)
theorem rk_irr {g : Bool} {a : Us} (h : RkU g a a) : False := by rcases h with h | ⟨_, h⟩ <;> omega
theorem rk_asym {g : Bool} {a b : Us} (h : RkU g a b) (k : RkU g b a) : False := by
  rcases h with h | ⟨h1, h2⟩ <;> rcases k with k | ⟨k1, k2⟩ <;> omega
/-- in that order there is one list alone -/
theorem rk_same {g : Bool} : ∀ {a b : List Us}, a.Pairwise (RkU g) → b.Pairwise (RkU g) → (∀ x, x ∈ a ↔ x ∈ b) → a = b
  | [], [], _, _, _ => rfl
  | [], y :: b, _, _, h => by have := (h y).2 (List.mem_cons_self ..); cases this
  | x :: a, [], _, _, h => by have := (h x).1 (List.mem_cons_self ..); cases this
  | x :: a, y :: b, ha, hb, h => by
    obtain ⟨a1, a2⟩ := List.pairwise_cons.1 ha
    obtain ⟨b1, b2⟩ := List.pairwise_cons.1 hb
    have e : x = y := by
      rcases List.mem_cons.1 ((h x).1 (List.mem_cons_self ..)) with e | e
      · exact e
      · rcases List.mem_cons.1 ((h y).2 (List.mem_cons_self ..)) with z | z
        · exact z.symm
        · exact absurd (a1 y z) (fun q => rk_asym q (b1 x e))
    subst e
    congr 1
    refine rk_same a2 b2 fun z => ⟨fun hz => ?_, fun hz => ?_⟩
    · rcases List.mem_cons.1 ((h z).1 (List.mem_cons_of_mem _ hz)) with e | e
      · subst e; exact absurd (a1 z hz) rk_irr
      · exact e
    · rcases List.mem_cons.1 ((h z).2 (List.mem_cons_of_mem _ hz)) with e | e
      · subst e; exact absurd (b1 z hz) rk_irr
      · exact e

/-! ### one by one, as the document has it -/
/-- how many of those that are there stay ahead, counted from behind -/
def toU (g : Bool) (out : List Us) (u : Us) : Nat → Nat
  | 0 => 0
  | k + 1 => if keyU g (out.getD k (0, 0, 0)) < keyU g u then toU g out u k else k + 1
theorem toU_le (g : Bool) (out : List Us) (u : Us) : ∀ k, toU g out u k ≤ k
  | 0 => Nat.le_refl _
  | k + 1 => by
    unfold toU
    split
    · have := toU_le g out u k; omega
    · exact Nat.le_refl _
def insU (g : Bool) (out : List Us) (u : Us) : List Us := out.take (toU g out u out.length) ++ [u] ++ out.drop (toU g out u out.length)
def rankK (g : Bool) (l : List Us) : Nat → List Us
  | 0 => []
  | k + 1 => if (l.getD k (0, 0, 0)).2.1 = 0 then rankK g l k else insU g (rankK g l k) (l.getD k (0, 0, 0))
def rankU (g : Bool) (l : List Us) : List Us := rankK g l l.length
theorem toU_behind {g : Bool} {out : List Us} {u : Us} : ∀ k, ∀ j, toU g out u k ≤ j → j < k → keyU g (out.getD j (0, 0, 0)) < keyU g u
  | 0, j, _, h => by omega
  | k + 1, j, h1, h2 => by
    unfold toU at h1
    by_cases c : keyU g (out.getD k (0, 0, 0)) < keyU g u
    · rw [if_pos c] at h1
      by_cases e : j = k
      · subst e; exact c
      · exact toU_behind k j h1 (by omega)
    · rw [if_neg c] at h1; omega
theorem toU_ahead {g : Bool} {out : List Us} {u : Us} : ∀ k, 0 < toU g out u k → ¬ keyU g (out.getD (toU g out u k - 1) (0, 0, 0)) < keyU g u
  | 0, h => by simp [toU] at h
  | k + 1, h => by
    unfold toU at h ⊢
    by_cases c : keyU g (out.getD k (0, 0, 0)) < keyU g u
    · rw [if_pos c] at h ⊢; exact toU_ahead k h
    · rw [if_neg c] at h ⊢; exact c
theorem usAt (l : List Us) {k : Nat} (h : k < l.length) : l.getD k (0, 0, 0) = l[k] := by simp [List.getD, List.getElem?_eq_getElem h]
theorem insU_mem {g : Bool} {out : List Us} {u x : Us} : x ∈ insU g out u ↔ x ∈ out ∨ x = u := by
  unfold insU
  rw [List.mem_append, List.mem_append, List.mem_singleton]
  have e : x ∈ out ↔ x ∈ out.take (toU g out u out.length) ∨ x ∈ out.drop (toU g out u out.length) := by
    conv => lhs; rw [← List.take_append_drop (toU g out u out.length) out]
    rw [List.mem_append]
  rw [e]
  constructor
  · rintro ((h | h) | h)
    · exact .inl (.inl h)
    · exact .inr h
    · exact .inl (.inr h)
  · rintro ((h | h) | h)
    · exact .inl (.inl h)
    · exact .inr h
    · exact .inl (.inr h)
theorem insU_pw {g : Bool} {out : List Us} {u : Us} (hp : out.Pairwise (RkU g)) (hu : ∀ x ∈ out, x.1 < u.1) : (insU g out u).Pairwise (RkU g) := by
  unfold insU
  have le := toU_le g out u out.length
  generalize hk : toU g out u out.length = k at *
  have beh : ∀ x ∈ out.drop k, RkU g u x := fun x hx => by
    obtain ⟨j, hj, e⟩ := List.getElem_of_mem hx
    rw [List.getElem_drop] at e
    rw [List.length_drop] at hj
    have := toU_behind (g := g) (out := out) (u := u) out.length (k + j) (by omega) (by omega)
    rw [usAt out (by omega), e] at this
    exact .inl this
  have ahd : ∀ x ∈ out.take k, RkU g x u := fun x hx => by
    rcases Nat.eq_zero_or_pos k with z | z
    · rw [z] at hx; simp at hx
    · have q := toU_ahead (g := g) (out := out) (u := u) out.length (by omega)
      rw [hk, usAt out (by omega)] at q
      have hm := List.mem_of_mem_take hx
      have hu' := hu x hm
      obtain ⟨j, hj, e⟩ := List.getElem_of_mem hx
      rw [List.getElem_take] at e
      rw [List.length_take] at hj
      have kx : keyU g out[k - 1] ≤ keyU g x := by
        by_cases ej : j = k - 1
        · subst ej; rw [e]; omega
        · have := (List.pairwise_iff_getElem.1 hp) j (k - 1) (by omega) (by omega) (by omega)
          rw [e] at this
          rcases this with h | ⟨h, _⟩ <;> omega
      by_cases c : keyU g u < keyU g x
      · exact .inl c
      · exact .inr ⟨by omega, hu'⟩
  rw [List.append_assoc, List.pairwise_append]
  refine ⟨hp.sublist (List.take_sublist _ _), ?_, fun a ha b hb => ?_⟩
  · show (u :: out.drop k).Pairwise (RkU g)
    exact List.pairwise_cons.2 ⟨beh, hp.sublist (List.drop_sublist _ _)⟩
  · rcases List.mem_cons.1 (show b ∈ u :: out.drop k from hb) with e | e
    · subst e; exact ahd a ha
    · have s := (List.take_append_drop k out)
      rw [← s, List.pairwise_append] at hp
      exact hp.2.2 a ha b e
/-- features rising -/
def RiseU (l : List Us) : Prop := l.Pairwise (fun a b => a.1 < b.1)
theorem rankK_spec {g : Bool} {l : List Us} (hr : RiseU l) : ∀ k, k ≤ l.length → (rankK g l k).Pairwise (RkU g) ∧ ∀ x, x ∈ rankK g l k ↔ x ∈ l.take k ∧ x.2.1 ≠ 0
  | 0, _ => ⟨List.Pairwise.nil, fun x => by simp [rankK]⟩
  | k + 1, hk => by
    obtain ⟨p, q⟩ := rankK_spec (g := g) hr k (by omega)
    have hk' : k < l.length := by omega
    have tk : l.take (k + 1) = l.take k ++ [l[k]] := List.take_succ_eq_append_getElem hk'
    unfold rankK
    rw [usAt l hk']
    by_cases z : l[k].2.1 = 0
    · rw [if_pos z]
      refine ⟨p, fun x => ?_⟩
      rw [q, tk, List.mem_append, List.mem_singleton]
      constructor
      · rintro ⟨a, b⟩; exact ⟨.inl a, b⟩
      · rintro ⟨a | a, b⟩
        · exact ⟨a, b⟩
        · rw [a] at b; exact absurd z b
    · rw [if_neg z]
      refine ⟨insU_pw p fun x hx => ?_, fun x => ?_⟩
      · have hx' := ((q x).1 hx).1
        obtain ⟨j, hj, e⟩ := List.getElem_of_mem hx'
        rw [List.getElem_take] at e
        rw [List.length_take] at hj
        rw [← e]
        exact (List.pairwise_iff_getElem.1 hr) j k (by omega) hk' (by omega)
      · rw [insU_mem, q, tk, List.mem_append, List.mem_singleton]
        constructor
        · rintro (⟨a, b⟩ | a)
          · exact ⟨.inl a, b⟩
          · exact ⟨.inr a, by rw [a]; exact z⟩
        · rintro ⟨a | a, b⟩
          · exact .inl ⟨a, b⟩
          · exact .inr a
theorem rank_spec {g : Bool} {l : List Us} (hr : RiseU l) : (rankU g l).Pairwise (RkU g) ∧ ∀ x, x ∈ rankU g l ↔ x ∈ l ∧ x.2.1 ≠ 0 := by
  have := rankK_spec (g := g) hr l.length (Nat.le_refl _)
  rw [List.take_length] at this
  exact this
/-- what is ranked is known by its order and by who is there -/
theorem rank_only {g : Bool} {l r : List Us} (hr : RiseU l) (hp : r.Pairwise (RkU g)) (hm : ∀ x, x ∈ r ↔ x ∈ l ∧ x.2.1 ≠ 0) : r = rankU g l :=
  rk_same hp (rank_spec hr).1 fun x => by rw [hm, (rank_spec hr).2]

/-! ### how often -/
/-- nodes with a feature -/
def cntN (f : Int) : List Nd → Nat
  | [] => 0
  | n :: t => (if nf n = f then 1 else 0) + cntN f t
theorem cntN_app (f : Int) : ∀ a b : List Nd, cntN f (a ++ b) = cntN f a + cntN f b
  | [], b => by show cntN f b = 0 + cntN f b; omega
  | n :: a, b => by
    show (if nf n = f then 1 else 0) + cntN f (a ++ b) = (if nf n = f then 1 else 0) + cntN f a + cntN f b
    rw [cntN_app f a b]; omega
def cntG (f : Int) : List (List Nd) → Nat
  | [] => 0
  | t :: l => cntN f t + cntG f l
/-- the uses of eight features, gains 0 -/
def useL (l : List (List Nd)) : List Us := (List.range 8).map fun (i : Nat) => ((i : Int), ((cntG (i : Int) l : Nat) : Int), (0 : Int))
theorem useL_rise (l : List (List Nd)) : RiseU (useL l) := by
  unfold RiseU useL
  rw [List.pairwise_map]
  exact (List.pairwise_lt_range).imp fun {a b} h => (show ((a : Nat) : Int) < ((b : Nat) : Int) by omega)
def usesV (l : List (List Nd)) : List Us := rankU false (useL l)

end Go.Proofs.YtlloiccodjnkcagGreatDoor.M

namespace Go.Proofs.YtlloiccodjnkcagGreatDoor
open Go.ChangeShapes Go.WideShapes Go.ChangeAt Go.RowKit Go.Lib
set_option linter.unusedVariables false

theorem infoU : (Tryz.prog.info? 50).map (fun i => (i.zero, i.size, i.bytes)) = some (some (.agg #[.int .i64 0, .int .i64 0, .int .i64 0]), 3, 24) := by kernel_rfl
def usCells (xs : List M.Us) : List Value := xs.flatMap fun u => [.int .i64 u.1, .int .i64 u.2.1, .int .i64 u.2.2]
theorem usCells_cons (u : M.Us) (t : List M.Us) : usCells (u :: t) = .int .i64 u.1 :: .int .i64 u.2.1 :: .int .i64 u.2.2 :: usCells t := rfl
theorem usCells_app (a b : List M.Us) : usCells (a ++ b) = usCells a ++ usCells b := by unfold usCells; rw [List.flatMap_append]
theorem usCells_len (ts : List M.Us) : (usCells ts).length = ts.length * 3 := by
  induction ts with
  | nil => rfl
  | cons x t ih => rw [usCells_cons]; simp only [List.length_cons, ih]; omega
theorem usCells_one (ts : List M.Us) : ∀ v ∈ usCells ts, v.oneCell' = true := by
  intro v hv
  simp only [usCells, List.mem_flatMap] at hv
  obtain ⟨s, _, hs⟩ := hv
  simp only [List.mem_cons, List.not_mem_nil, or_false] at hs
  rcases hs with rfl | rfl | rfl <;> rfl
def M.uAt (l : List M.Us) (i : Nat) : M.Us := l.getD i (0, 0, 0)
theorem uAt_in (l : List M.Us) {i : Nat} (h : i < l.length) : M.uAt l i = l[i] := M.usAt l h
theorem usCells_at : ∀ (ts : List M.Us) (i : Nat), i < ts.length → (usCells ts)[i * 3]? = some (.int .i64 (M.uAt ts i).1) ∧ (usCells ts)[i * 3 + 1]? = some (.int .i64 (M.uAt ts i).2.1) ∧ (usCells ts)[i * 3 + 2]? = some (.int .i64 (M.uAt ts i).2.2)
  | [], i, h => by simp at h
  | s :: t, 0, h => ⟨rfl, rfl, rfl⟩
  | s :: t, i + 1, h => by
    have := usCells_at t i (by simpa using h)
    have e : M.uAt (s :: t) (i + 1) = M.uAt t i := by simp [M.uAt]
    rw [usCells_cons, e, show (i + 1) * 3 = i * 3 + 1 + 1 + 1 by omega]
    simpa using this
theorem usCells_setN : ∀ (ts : List M.Us) (i : Nat), i < ts.length → ∀ n : Int, (usCells ts).set (i * 3 + 1) (.int .i64 n) = usCells (ts.set i ((M.uAt ts i).1, n, (M.uAt ts i).2.2))
  | [], i, h, n => by simp at h
  | s :: t, 0, h, n => rfl
  | s :: t, i + 1, h, n => by
    have ih := usCells_setN t i (by simpa using h) n
    have e : M.uAt (s :: t) (i + 1) = M.uAt t i := by simp [M.uAt]
    rw [e, List.set_cons_succ, usCells_cons, usCells_cons, ← ih, show (i + 1) * 3 + 1 = (i * 3 + 1) + 1 + 1 + 1 by omega]
    simp only [List.set_cons_succ]
theorem usCells_setG : ∀ (ts : List M.Us) (i : Nat), i < ts.length → ∀ n : Int, (usCells ts).set (i * 3 + 2) (.int .i64 n) = usCells (ts.set i ((M.uAt ts i).1, (M.uAt ts i).2.1, n))
  | [], i, h, n => by simp at h
  | s :: t, 0, h, n => rfl
  | s :: t, i + 1, h, n => by
    have ih := usCells_setG t i (by simpa using h) n
    have e : M.uAt (s :: t) (i + 1) = M.uAt t i := by simp [M.uAt]
    rw [e, List.set_cons_succ, usCells_cons, usCells_cons, ← ih, show (i + 1) * 3 + 2 = (i * 3 + 2) + 1 + 1 + 1 by omega]
    simp only [List.set_cons_succ]
/-- uses, where they lie -/
def ThreeAt (w : World) (b off : Nat) (u : M.Us) : Prop := w.cell? ⟨b, off, none⟩ = some (.int .i64 u.1) ∧ w.cell? ⟨b, off + 1, none⟩ = some (.int .i64 u.2.1) ∧ w.cell? ⟨b, off + 2, none⟩ = some (.int .i64 u.2.2)
def RdU (w : World) (a : Option Addr) (xs : List M.Us) : Prop :=
  xs.length ≤ maxLen ∧ (xs ≠ [] → ∃ b off, a = some ⟨b, off, none⟩ ∧ b < w.heap.size ∧ ∀ i, i < xs.length → ThreeAt w b (off + i * 3) (M.uAt xs i))
theorem RdU.below {w w' : World} {a : Option Addr} {xs : List M.Us} (h : RdU w a xs) (hb : Below w.heap.size w w') : RdU w' a xs :=
  ⟨h.1, fun hn => by
    obtain ⟨b, off, e, hl, hc⟩ := h.2 hn
    exact ⟨b, off, e, Nat.lt_of_lt_of_le hl hb.size, fun i hi => ⟨(hb.cell (p := ⟨b, off + i * 3, none⟩) hl).trans (hc i hi).1, (hb.cell (p := ⟨b, off + i * 3 + 1, none⟩) hl).trans (hc i hi).2.1, (hb.cell (p := ⟨b, off + i * 3 + 2, none⟩) hl).trans (hc i hi).2.2⟩⟩⟩
theorem own_rdU {w : World} {base n : Nat} {v : Value} {xs : List M.Us} (hn : xs.length = n) (hm : n ≤ maxLen) (h : w.ownsRow base 50 3 v n (usCells xs)) : ∃ a cap, v = .slice a n cap ∧ RdU w a xs ∧ (∀ p, a = some p → base ≤ p.block) := by
  subst hn
  rcases h.2 with ⟨hv, h0⟩ | ⟨g, cap, cur, hv, hb, hg, h1, h2, h3, h4⟩
  · have e : xs = [] := List.length_eq_zero_iff.1 h0
    subst e
    exact ⟨none, 0, hv, ⟨Nat.zero_le _, fun h => absurd rfl h⟩, fun p hp => by cases hp⟩
  · subst hv
    refine ⟨_, cap, rfl, ⟨hm, fun _ => ⟨g, 0, rfl, (Array.getElem?_eq_some_iff.1 hg).1, fun i hi => ?_⟩⟩, fun p hp => by cases hp; exact hb⟩
    obtain ⟨q0, q1, q2⟩ := usCells_at xs i hi
    rw [Nat.zero_add]
    exact ⟨(h.cellAt (i * 3) (by omega)).trans q0, (h.cellAt (i * 3 + 1) (by omega)).trans q1, (h.cellAt (i * 3 + 2) (by omega)).trans q2⟩
/-- a part of them, as what is handed to append -/
theorem us_src {w : World} {b off k n : Nat} {xs : List M.Us} (hc : ∀ i, i < xs.length → ThreeAt w b (off + i * 3) (M.uAt xs i)) (hk : k + n ≤ xs.length) : ∀ j u, (usCells ((xs.drop k).take n))[j]? = some u → w.cell? ((⟨b, off + k * 3, none⟩ : Addr).add j) = some u := by
  intro j u hj
  have ln : ((xs.drop k).take n).length = n := by rw [List.length_take, List.length_drop]; omega
  have hl : j < n * 3 := by
    have := (List.getElem?_eq_some_iff.1 hj).1
    rwa [usCells_len, ln] at this
  have hi : j / 3 < n := by omega
  obtain ⟨h0, h1, h2⟩ := hc (k + j / 3) (by omega)
  obtain ⟨q0, q1, q2⟩ := usCells_at ((xs.drop k).take n) (j / 3) (by omega)
  have ea : M.uAt ((xs.drop k).take n) (j / 3) = M.uAt xs (k + j / 3) := by
    unfold M.uAt
    simp [List.getD, List.getElem?_drop, hi]
  rw [ea] at q0 q1 q2
  have add_flat : (⟨b, off + k * 3, none⟩ : Addr).add j = ⟨b, off + k * 3 + j, none⟩ := by unfold Addr.add; simp
  rw [add_flat]
  rcases (show j = j / 3 * 3 ∨ j = j / 3 * 3 + 1 ∨ j = j / 3 * 3 + 2 by omega) with e | e | e
  · rw [e, q0] at hj; rw [← hj, show off + k * 3 + j = off + (k + j / 3) * 3 by omega]; exact h0
  · rw [e, q1] at hj; rw [← hj, show off + k * 3 + j = off + (k + j / 3) * 3 + 1 by omega]; exact h1
  · rw [e, q2] at hj; rw [← hj, show off + k * 3 + j = off + (k + j / 3) * 3 + 2 by omega]; exact h2

end Go.Proofs.YtlloiccodjnkcagGreatDoor

namespace Go.Proofs.YtlloiccodjnkcagGreatDoor
open Go.ChangeShapes Go.WideShapes Go.ChangeAt Go.RowKit Go.Deep
set_option linter.unusedVariables false

def ndV (n : M.Nd) : Value := .agg #[.int .i64 (M.nf n), .int .i64 (M.nc n), .int .i64 (M.nl n), .int .i64 (M.nr n), .bool (M.ns n), .int .i64 (M.nv n)]
/-- a node's six cells -/
def SixAt (w : World) (b off : Nat) (n : M.Nd) : Prop :=
  w.cell? ⟨b, off, none⟩ = some (.int .i64 (M.nf n)) ∧ w.cell? ⟨b, off + 1, none⟩ = some (.int .i64 (M.nc n)) ∧ w.cell? ⟨b, off + 2, none⟩ = some (.int .i64 (M.nl n)) ∧
  w.cell? ⟨b, off + 3, none⟩ = some (.int .i64 (M.nr n)) ∧ w.cell? ⟨b, off + 4, none⟩ = some (.bool (M.ns n)) ∧ w.cell? ⟨b, off + 5, none⟩ = some (.int .i64 (M.nv n))
theorem SixAt.below {w w' : World} {b off : Nat} {n : M.Nd} {B : Nat} (h : SixAt w b off n) (hb : Below B w w') (hl : b < B) : SixAt w' b off n := by
  obtain ⟨h0, h1, h2, h3, h4, h5⟩ := h
  exact ⟨(hb.cell (p := ⟨b, off, none⟩) hl).trans h0, (hb.cell (p := ⟨b, off + 1, none⟩) hl).trans h1, (hb.cell (p := ⟨b, off + 2, none⟩) hl).trans h2,
    (hb.cell (p := ⟨b, off + 3, none⟩) hl).trans h3, (hb.cell (p := ⟨b, off + 4, none⟩) hl).trans h4, (hb.cell (p := ⟨b, off + 5, none⟩) hl).trans h5⟩
/-- nodes, where they lie -/
def RdN (w : World) (a : Option Addr) (ts : List M.Nd) : Prop :=
  ts.length ≤ maxLen ∧ (ts ≠ [] → ∃ b off, a = some ⟨b, off, none⟩ ∧ b < w.heap.size ∧ ∀ i, i < ts.length → SixAt w b (off + i * 6) (M.nAt ts i))
theorem RdN.below {w w' : World} {a : Option Addr} {ts : List M.Nd} (h : RdN w a ts) (hb : Below w.heap.size w w') : RdN w' a ts :=
  ⟨h.1, fun hn => by
    obtain ⟨b, off, e, hl, hc⟩ := h.2 hn
    exact ⟨b, off, e, Nat.lt_of_lt_of_le hl hb.size, fun i hi => (hc i hi).below hb hl⟩⟩

theorem cellsNode : Tryz.prog.cellsOf 64 = 6 := by kernel_rfl
theorem cellsInt : Tryz.prog.cellsOf 3 = 1 := by kernel_rfl
theorem cellsBool : Tryz.prog.cellsOf 4 = 1 := by kernel_rfl
theorem add_flat (b off i : Nat) : (⟨b, off, none⟩ : Addr).add i = ⟨b, off + i, none⟩ := by unfold Addr.add; simp

theorem struct6 {H : Type} {enc : TypeId × Value → H} {P : Program} {w : World} {base : Nat} {spare : Nat → Bool} {held : Bool} {t : TypeId} {f0 f1 f2 f3 f4 f5 : Field} {fuel : Nat} {cs : List Value} {x : DataW H × List MemPlace} (ht : P.underlying t = some (.struct #[f0, f1, f2, f3, f4, f5]))
    (h : DataW.trod enc P w base spare held fuel t cs = some x) :
    ∃ y0 y1 y2 y3 y4 y5 n, DataW.trod enc P w base spare held n f0.type ((cs.drop f0.offset).take (P.cellsOf f0.type)) = some y0 ∧
      DataW.trod enc P w base spare held n f1.type ((cs.drop f1.offset).take (P.cellsOf f1.type)) = some y1 ∧ DataW.trod enc P w base spare held n f2.type ((cs.drop f2.offset).take (P.cellsOf f2.type)) = some y2 ∧
      DataW.trod enc P w base spare held n f3.type ((cs.drop f3.offset).take (P.cellsOf f3.type)) = some y3 ∧ DataW.trod enc P w base spare held n f4.type ((cs.drop f4.offset).take (P.cellsOf f4.type)) = some y4 ∧
      DataW.trod enc P w base spare held n f5.type ((cs.drop f5.offset).take (P.cellsOf f5.type)) = some y5 := by
  obtain ⟨xs, n, _, rfl, hl, hlen, hf⟩ := DataW.trod_struct ht h
  match xs, hlen with
  | [y0, y1, y2, y3, y4, y5], _ => exact ⟨y0, y1, y2, y3, y4, y5, n, by simpa using hf 0 f0 rfl, by simpa using hf 1 f1 rfl, by simpa using hf 2 f2 rfl, by simpa using hf 3 f3 rfl, by simpa using hf 4 f4 rfl, by simpa using hf 5 f5 rfl⟩

theorem open_nodes {H : Type} {enc : TypeId × Value → H} {W : World} {base : Nat} {spare : Nat → Bool} {held : Bool} {fuel : Nat} {a : Option Addr} {len cap : Nat} {x : DataW H × List MemPlace}
    (h : DataW.trod enc Tryz.prog W base spare held fuel 26 [.slice a len cap] = some x) : ∃ ts : List M.Nd, ts.length = len ∧ RdN W a ts := by
  rcases open_slice Tryz.underlying26 h with ⟨hcs, _⟩ | ⟨a', len', cap', m, n, D, Pl, hcs, _, hl, hm, hmm, _, hx⟩
  · cases hcs
    exact ⟨[], rfl, ⟨Nat.zero_le _, fun h => absurd rfl h⟩⟩
  · cases hcs
    have hlm : len ≤ m := by rw [hmm]; split <;> omega
    have each : ∀ i, i < len → ∃ n : M.Nd, W.cell? (a'.add (i * 6)) = some (.int .i64 (M.nf n)) ∧ W.cell? (a'.add (i * 6 + 1)) = some (.int .i64 (M.nc n)) ∧ W.cell? (a'.add (i * 6 + 2)) = some (.int .i64 (M.nl n)) ∧
        W.cell? (a'.add (i * 6 + 3)) = some (.int .i64 (M.nr n)) ∧ W.cell? (a'.add (i * 6 + 4)) = some (.bool (M.ns n)) ∧ W.cell? (a'.add (i * 6 + 5)) = some (.int .i64 (M.nv n)) := by
      intro i hi
      obtain ⟨cs, h1, h2⟩ := hx i (by omega)
      rw [cellsNode] at h1
      obtain ⟨_, hlen, hcell⟩ := World.cells?_some h1
      obtain ⟨y0, y1, y2, y3, y4, y5, k, g0, g1, g2, g3, g4, g5⟩ := struct6 Tryz.underlying64 h2
      rw [cellsInt] at g0 g1 g2 g3 g5
      rw [cellsBool] at g4
      match cs, hlen with
      | [c0, c1, c2, c3, c4, c5], _ =>
        obtain ⟨n0, e0, _⟩ := DataW.trod_int Tryz.underlying3 g0
        obtain ⟨n1, e1, _⟩ := DataW.trod_int Tryz.underlying3 g1
        obtain ⟨n2, e2, _⟩ := DataW.trod_int Tryz.underlying3 g2
        obtain ⟨n3, e3, _⟩ := DataW.trod_int Tryz.underlying3 g3
        obtain ⟨n4, e4, _⟩ := DataW.trod_bool Tryz.underlying4 g4
        obtain ⟨n5, e5, _⟩ := DataW.trod_int Tryz.underlying3 g5
        simp at e0 e1 e2 e3 e4 e5
        have d0 := hcell 0 (by omega)
        have d1 := hcell 1 (by omega)
        have d2 := hcell 2 (by omega)
        have d3 := hcell 3 (by omega)
        have d4 := hcell 4 (by omega)
        have d5 := hcell 5 (by omega)
        rw [add_add] at d0 d1 d2 d3 d4 d5
        refine ⟨(n0, n1, n2, n3, n4, n5), ?_, ?_, ?_, ?_, ?_, ?_⟩
        · simpa [e0, M.nf] using d0
        · simpa [e1, M.nc] using d1
        · simpa [e2, M.nl] using d2
        · simpa [e3, M.nr] using d3
        · simpa [e4, M.ns] using d4
        · simpa [e5, M.nv] using d5
    obtain ⟨f, hf⟩ := choose_lt each
    refine ⟨(List.range len).map f, by simp, ⟨by simp; omega, fun hne => ?_⟩⟩
    have hp : 0 < len := by
      rcases Nat.eq_zero_or_pos len with h0 | h0
      · subst h0; exact absurd rfl hne
      · exact h0
    obtain ⟨b, off, spot⟩ := a'
    have hspot : spot = none := by
      have := World.cell?_spot (hf 0 hp).1
      simpa [Addr.add] using this
    subst hspot
    refine ⟨b, off, rfl, ?_, fun i hi => ?_⟩
    · have := (hf 0 hp).1
      rw [add_flat] at this
      exact block_lt_of_cell this
    · have hi' : i < len := by simpa using hi
      obtain ⟨q0, q1, q2, q3, q4, q5⟩ := hf i hi'
      rw [add_flat] at q0 q1 q2 q3 q4 q5
      have e : M.nAt ((List.range len).map f) i = f i := by unfold M.nAt; simp [List.getD, hi']
      rw [e]
      refine ⟨q0, ?_, ?_, ?_, ?_, ?_⟩
      · rw [Nat.add_assoc]; exact q1
      · rw [Nat.add_assoc]; exact q2
      · rw [Nat.add_assoc]; exact q3
      · rw [Nat.add_assoc]; exact q4
      · rw [Nat.add_assoc]; exact q5

end Go.Proofs.YtlloiccodjnkcagGreatDoor

namespace Go.Proofs.YtlloiccodjnkcagGreatDoor.M
set_option linter.unusedVariables false

/-- a grove: Features, Way, Weights, Trees -/
abbrev Gv := Int × Int × List Int × List (List Nd)
abbrev gf (g : Gv) : Int := g.1
abbrev gw (g : Gv) : Int := g.2.1
abbrev gs (g : Gv) : List Int := g.2.2.1
abbrev gt (g : Gv) : List (List Nd) := g.2.2.2

def wBad (w : Int) : Bool := decide (w < 1) || decide (1000 < w)
theorem wbad_false {w : Int} (h : wBad w = false) : 1 ≤ w ∧ w ≤ 1000 := by
  unfold wBad at h
  rw [Bool.or_eq_false_iff] at h
  have h1 := of_decide_eq_false h.1
  have h2 := of_decide_eq_false h.2
  omega
theorem wbad_ok {w : Int} (h1 : 1 ≤ w) (h2 : w ≤ 1000) : wBad w = false := by
  unfold wBad
  rw [decide_eq_false (by omega), decide_eq_false (by omega)]; rfl
/-- the fault of the first tree that has one -/
def treesF (f : Int) (ts : List (List Nd)) : Int := match firstN (fun i => !decide ((treeF (ts.getD i []) f).2 = 0)) ts.length with
  | some i => (treeF (ts.getD i []) f).2
  | none => 0
theorem trees_at {f : Int} {ts : List (List Nd)} {k : Nat} (hk : k < ts.length) (h : ∀ j, j < k → (treeF (ts.getD j []) f).2 = 0) (hn : (treeF (ts.getD k []) f).2 ≠ 0) : treesF f ts = (treeF (ts.getD k []) f).2 := by
  unfold treesF
  rw [first_hit (k := k) (by show (!decide ((treeF (ts.getD k []) f).2 = 0)) = true; rw [decide_eq_false hn]; rfl) (fun j hj => by show (!decide ((treeF (ts.getD j []) f).2 = 0)) = false; rw [decide_eq_true (h j hj)]; rfl) hk]
theorem trees_all {f : Int} {ts : List (List Nd)} (h : ∀ j, j < ts.length → (treeF (ts.getD j []) f).2 = 0) : treesF f ts = 0 := by
  unfold treesF
  rw [first_miss (fun j hj => by show (!decide ((treeF (ts.getD j []) f).2 = 0)) = false; rw [decide_eq_true (h j hj)]; rfl)]
theorem trees_zero {f : Int} {ts : List (List Nd)} (h : treesF f ts = 0) : ∀ j, j < ts.length → (treeF (ts.getD j []) f).2 = 0 := by
  unfold treesF at h
  split at h
  · rename_i i e
    have q := (first_some e).2
    rw [decide_eq_true h] at q
    cases q
  · rename_i e
    intro j hj
    have := first_none e j hj
    simpa using this

def groveF (g : Gv) : Int :=
  if gf g < 0 ∨ 8 < gf g ∨ gw g < 1 ∨ 3 < gw g then 1
  else if (gt g).length = 0 then 5
  else if 12 < (gt g).length then 4
  else if (gs g).length ≠ (gt g).length then 3
  else if (gs g).any wBad = true then 1
  else treesF (gf g) (gt g)
/-- all that is right with a grove that is right -/
structure Good (g : Gv) : Prop where
  f0 : 0 ≤ gf g
  f8 : gf g ≤ 8
  w1 : 1 ≤ gw g
  w3 : gw g ≤ 3
  t0 : 0 < (gt g).length
  t12 : (gt g).length ≤ 12
  len : (gs g).length = (gt g).length
  wts : ∀ w ∈ gs g, 1 ≤ w ∧ w ≤ 1000
  trees : ∀ t ∈ gt g, (treeF t (gf g)).2 = 0
theorem good_iff (g : Gv) : groveF g = 0 ↔ Good g := by
  constructor
  · intro h
    unfold groveF at h
    split at h
    · cases h
    · rename_i h1
      split at h
      · cases h
      · rename_i h2
        split at h
        · cases h
        · rename_i h3
          split at h
          · cases h
          · rename_i h4
            split at h
            · cases h
            · rename_i h5
              refine ⟨by omega, by omega, by omega, by omega, by omega, by omega, by omega, ?_, ?_⟩
              · intro w hw
                apply wbad_false
                cases e : wBad w with
                | false => rfl
                | true => exact absurd (List.any_eq_true.2 ⟨w, hw, e⟩) h5
              · intro t ht
                obtain ⟨i, hi, rfl⟩ := List.getElem_of_mem ht
                have := trees_zero h i hi
                rwa [getD_at hi] at this
  · intro h
    unfold groveF
    rw [if_neg (by have := h.f0; have := h.f8; have := h.w1; have := h.w3; omega), if_neg (by have := h.t0; omega), if_neg (by have := h.t12; omega), if_neg (by have := h.len; omega), if_neg, trees_all]
    · intro j hj
      rw [getD_at hj]; exact h.trees _ (List.getElem_mem hj)
    · intro hc
      obtain ⟨w, hw, e⟩ := List.any_eq_true.1 hc
      have := h.wts w hw
      rw [wbad_ok this.1 this.2] at e
      cases e

/-- the fault of a grove and a row -/
def standF (g : Gv) (r : List Int) : Int := if groveF g ≠ 0 then groveF g else if rowF r ≠ 0 then rowF r else if (r.length : Int) ≠ gf g then 3 else 0
theorem stand_ok {g : Gv} {r : List Int} (h : standF g r = 0) : Good g ∧ rowF r = 0 ∧ (r.length : Int) = gf g := by
  unfold standF at h
  split at h
  · rename_i h1; exact absurd h h1
  · rename_i h1
    split at h
    · rename_i h2; exact absurd h h2
    · rename_i h2
      split at h
      · cases h
      · rename_i h3
        exact ⟨(good_iff g).1 (by simpa using h1), by simpa using h2, by simpa using h3⟩
theorem stand_of {g : Gv} {r : List Int} (h1 : Good g) (h2 : rowF r = 0) (h3 : (r.length : Int) = gf g) : standF g r = 0 := by
  unfold standF
  rw [if_neg (by simp [(good_iff g).2 h1]), if_neg (by simp [h2]), if_neg (by simp [h3])]
theorem stand_ready {g : Gv} {r : List Int} (h : standF g r = 0) {t : List Nd} (ht : t ∈ gt g) : readyF t r = 0 := by
  obtain ⟨h1, h2, h3⟩ := stand_ok h
  rw [ready_tree h2, h3]
  exact h1.trees t ht

def eachL (g : Gv) (r : List Int) : List Int := (gt g).map fun t => evalV t r
def eachV (g : Gv) (r : List Int) : List Int := if standF g r = 0 then eachL g r else []
theorem each_len (g : Gv) (r : List Int) : (eachL g r).length = (gt g).length := by unfold eachL; simp
theorem each_at (g : Gv) (r : List Int) {i : Nat} (hi : i < (gt g).length) : (eachL g r).getD i 0 = evalV ((gt g).getD i []) r := by
  rw [getD_at (by rw [each_len]; exact hi), getD_at hi]; simp [eachL]

/-! ### together -/
def sumK (l ws : List Int) : Nat → Int
  | 0 => 0
  | k + 1 => sumK l ws k + l.getD k 0 * ws.getD k 0
def allK (ws : List Int) : Nat → Int
  | 0 => 0
  | k + 1 => allK ws k + ws.getD k 0
def votK (l ws : List Int) (v : Int) : Nat → Int
  | 0 => 0
  | k + 1 => votK l ws v k + if l.getD k 0 = v then ws.getD k 0 else 0
/-- of the first k values: the most votes, and who has them -/
def bestK (l ws : List Int) : Nat → Int × Int
  | 0 => (0, 0)
  | k + 1 => if (bestK l ws k).1 < votK l ws (l.getD k 0) l.length ∨ (votK l ws (l.getD k 0) l.length = (bestK l ws k).1 ∧ l.getD k 0 < (bestK l ws k).2) then (votK l ws (l.getD k 0) l.length, l.getD k 0) else bestK l ws k
def together (w : Int) (ws l : List Int) : Int := if w = 1 then sumK l ws l.length else if w = 2 then sumK l ws l.length / allK ws l.length else (bestK l ws l.length).2
def evalG (g : Gv) (r : List Int) : Int := if standF g r = 0 then together (gw g) (gs g) (eachL g r) else 0

theorem vot_pos {l ws : List Int} (hw : ∀ i, i < l.length → 1 ≤ ws.getD i 0) (v : Int) : ∀ k, k ≤ l.length → 0 ≤ votK l ws v k ∧ ∀ j, j < k → l.getD j 0 = v → 1 ≤ votK l ws v k
  | 0, _ => ⟨Int.le_refl _, fun j h => by omega⟩
  | k + 1, hk => by
    obtain ⟨h1, h2⟩ := vot_pos hw v k (by omega)
    have hwk := hw k (by omega)
    unfold votK
    refine ⟨by split <;> omega, fun j hj e => ?_⟩
    by_cases q : j = k
    · subst q; rw [if_pos e]; omega
    · have := h2 j (by omega) e
      split <;> omega
theorem best_spec {l ws : List Int} (hw : ∀ i, i < l.length → 1 ≤ ws.getD i 0) : ∀ k, 0 < k → k ≤ l.length → (∃ j, j < k ∧ (bestK l ws k).2 = l.getD j 0) ∧ (bestK l ws k).1 = votK l ws (bestK l ws k).2 l.length ∧ ∀ i, i < k → votK l ws (l.getD i 0) l.length < (bestK l ws k).1 ∨ (votK l ws (l.getD i 0) l.length = (bestK l ws k).1 ∧ (bestK l ws k).2 ≤ l.getD i 0)
  | 0, h, _ => by omega
  | k + 1, _, hk => by
    by_cases hc : (bestK l ws k).1 < votK l ws (l.getD k 0) l.length ∨ (votK l ws (l.getD k 0) l.length = (bestK l ws k).1 ∧ l.getD k 0 < (bestK l ws k).2)
    · have e : bestK l ws (k + 1) = (votK l ws (l.getD k 0) l.length, l.getD k 0) := by rw [bestK, if_pos hc]
      rw [e]
      refine ⟨⟨k, by omega, rfl⟩, rfl, fun i hi => ?_⟩
      by_cases q : i = k
      · subst q; exact .inr ⟨rfl, Int.le_refl _⟩
      · by_cases k0 : k = 0
        · omega
        · have := (best_spec hw k (by omega) (by omega)).2.2 i (by omega)
          show votK l ws (l.getD i 0) l.length < votK l ws (l.getD k 0) l.length ∨ (votK l ws (l.getD i 0) l.length = votK l ws (l.getD k 0) l.length ∧ l.getD k 0 ≤ l.getD i 0)
          omega
    · have e : bestK l ws (k + 1) = bestK l ws k := by rw [bestK, if_neg hc]
      rw [e]
      by_cases k0 : k = 0
      · subst k0
        have := (vot_pos hw (l.getD 0 0) l.length (Nat.le_refl _)).2 0 (by omega) rfl
        exact absurd (.inl (show (bestK l ws 0).1 < _ by show (0 : Int) < _; omega)) hc
      · obtain ⟨⟨j, h1, h2⟩, h3, h4⟩ := best_spec hw k (by omega) (by omega)
        refine ⟨⟨j, by omega, h2⟩, h3, fun i hi => ?_⟩
        by_cases q : i = k
        · subst q; omega
        · exact h4 i (by omega)
/-- who has most votes, and of equal ones is the least, is the one that is told -/
theorem best_unique {l ws : List Int} (hw : ∀ i, i < l.length → 1 ≤ ws.getD i 0) (h0 : 0 < l.length) {b : Int} (hb : ∃ j, j < l.length ∧ b = l.getD j 0) (hm : ∀ i, i < l.length → votK l ws (l.getD i 0) l.length < votK l ws b l.length ∨ (votK l ws (l.getD i 0) l.length = votK l ws b l.length ∧ b ≤ l.getD i 0)) : (bestK l ws l.length).2 = b := by
  obtain ⟨⟨j, h1, h2⟩, h3, h4⟩ := best_spec hw l.length h0 (Nat.le_refl _)
  obtain ⟨i, h5, h6⟩ := hb
  have a := hm j h1
  have c := h4 i h5
  rw [← h2] at a
  rw [← h6, h3] at c
  omega

/-! ### what is more stays more -/
theorem sum_mono {l m ws : List Int} : ∀ k, (∀ i, i < k → l.getD i 0 ≤ m.getD i 0 ∧ 0 ≤ ws.getD i 0) → sumK l ws k ≤ sumK m ws k
  | 0, _ => Int.le_refl _
  | k + 1, h => by
    have ih := sum_mono (l := l) (m := m) (ws := ws) k fun i hi => h i (by omega)
    obtain ⟨h1, h2⟩ := h k (by omega)
    have := Int.mul_le_mul_of_nonneg_right h1 h2
    unfold sumK
    omega
theorem all_pos {ws : List Int} : ∀ k, (∀ i, i < k → 1 ≤ ws.getD i 0 ∧ ws.getD i 0 ≤ 1000) → (k : Int) ≤ allK ws k ∧ allK ws k ≤ 1000 * k
  | 0, _ => by simp [allK]
  | k + 1, h => by
    have ih := all_pos k fun i hi => h i (by omega)
    have := h k (by omega)
    unfold allK
    omega
theorem sum_bound {l ws : List Int} : ∀ k, (∀ i, i < k → -1000000 ≤ l.getD i 0 ∧ l.getD i 0 ≤ 1000000 ∧ 1 ≤ ws.getD i 0 ∧ ws.getD i 0 ≤ 1000) → -1000000000 * (k : Int) ≤ sumK l ws k ∧ sumK l ws k ≤ 1000000000 * (k : Int)
  | 0, _ => by simp [sumK]
  | k + 1, h => by
    have ih := sum_bound k fun i hi => h i (by omega)
    obtain ⟨h1, h2, h3, h4⟩ := h k (by omega)
    have a : l.getD k 0 * ws.getD k 0 ≤ 1000000 * 1000 := by
      have q1 : l.getD k 0 * ws.getD k 0 ≤ 1000000 * ws.getD k 0 := Int.mul_le_mul_of_nonneg_right h2 (by omega)
      omega
    have b : -1000000 * 1000 ≤ l.getD k 0 * ws.getD k 0 := by
      have q1 : -1000000 * ws.getD k 0 ≤ l.getD k 0 * ws.getD k 0 := Int.mul_le_mul_of_nonneg_right h1 (by omega)
      omega
    unfold sumK
    omega
theorem vot_bound {l ws : List Int} (v : Int) : ∀ k, (∀ i, i < k → 1 ≤ ws.getD i 0 ∧ ws.getD i 0 ≤ 1000) → 0 ≤ votK l ws v k ∧ votK l ws v k ≤ 1000 * k
  | 0, _ => by simp [votK]
  | k + 1, h => by
    have ih := vot_bound (l := l) v k fun i hi => h i (by omega)
    have := h k (by omega)
    unfold votK
    split <;> omega

end Go.Proofs.YtlloiccodjnkcagGreatDoor.M
