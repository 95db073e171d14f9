/-
  The leaves of a grown tree and the samples that come to them; no question puts more right than the first one; no condition beyond those named.
-/
import Derived.Test.YtiggkjkjfnlfkaaGreatDoorMathSb
namespace Go.Proofs.YtiggkjkjfnlfkaaGreatDoor.M
set_option linter.unusedVariables false

/-! ### to which leaf a row comes -/
def posB : BT → Nat → List Int → Nat
  | .lf _, k, _ => k
  | .nd f c s l r, k, x => if goes f c s x = true then posB l (k + 1) x else posB r (k + 1 + l.size) x
theorem pos_in : ∀ (T : BT) (k : Nat) (x : List Int), k ≤ posB T k x ∧ posB T k x < k + T.size
  | .lf _, k, x => by unfold posB BT.size; omega
  | .nd f c s l r, k, x => by
    have h1 := pos_in l (k + 1) x
    have h2 := pos_in r (k + 1 + l.size) x
    show k ≤ (if goes f c s x = true then posB l (k + 1) x else posB r (k + 1 + l.size) x) ∧ (if goes f c s x = true then posB l (k + 1) x else posB r (k + 1 + l.size) x) < k + (1 + l.size + r.size)
    split <;> omega
theorem getD_front {α : Type} {A B : List α} {i : Nat} {d : α} (h : i < A.length) : (A ++ B).getD i d = A.getD i d := by
  rw [List.getD, List.getD, List.getElem?_append_left h]
theorem getD_behind {α : Type} {A B : List α} {i : Nat} {d : α} : (A ++ B).getD (A.length + i) d = B.getD i d := by
  rw [List.getD, List.getD, List.getElem?_append_right (by omega), Nat.add_sub_cancel_left]
theorem ok_more {m n : Int} (h : m ≤ n) : ∀ {T : BT}, okB m T → okB n T
  | .lf _, q => q
  | .nd _ _ _ _ _, ⟨h1, h2, h3, h4, h5⟩ => ⟨h1, by omega, h3, ok_more h h4, ok_more h h5⟩
theorem less_goes {f c : Int} {s : Bool} {a b : Int} (x : List Int) : lessC ((f, c, a, b, s, 0) : Nd) (x.getD f.toNat 0) = goes f c s x := rfl
/-- what lies at a place of what is laid within others -/
theorem lay_at {A C : List Nd} (L : List Nd) {j : Nat} (hj : j < L.length) : nAt (A ++ L ++ C) (A.length + j) = nAt L j := by
  unfold nAt
  rw [List.append_assoc, getD_behind, getD_front hj]
theorem pos_to {t : List Nd} {m : Int} (hR : Right t m) (x : List Int) : ∀ (T : BT) (A C : List Nd), okB m T → t = A ++ lay T A.length ++ C → toD t x A.length = posB T A.length x
  | .lf v, A, C, _, e => by
    have h0 : nAt t A.length = (-1, 0, 0, 0, false, v) := by
      have := lay_at (A := A) (C := C) (lay (.lf v) A.length) (j := 0) (by rw [lay_len]; exact Nat.one_pos)
      rw [e]
      exact this
    exact to_leaf (by rw [e]; simp [lay]) (by rw [h0]; rfl)
  | .nd f c s l r, A, C, ok, e => by
    obtain ⟨o1, o2, o3, o4, o5⟩ := ok
    have sz : (lay (.nd f c s l r) A.length).length = 1 + l.size + r.size := lay_len _ _
    have tl : t.length = A.length + (1 + l.size + r.size) + C.length := by rw [e, List.length_append, List.length_append, sz]
    have h0 : nAt t A.length = (f, c, ((A.length + 1 : Nat) : Int), ((A.length + 1 + l.size : Nat) : Int), s, 0) := by
      have := lay_at (A := A) (C := C) (lay (.nd f c s l r) A.length) (j := 0) (by rw [sz]; omega)
      rw [e]
      exact this
    have hf : nf (nAt t A.length) ≠ -1 := by rw [h0]; show f ≠ -1; omega
    have eL : t = (A ++ [(f, c, ((A.length + 1 : Nat) : Int), ((A.length + 1 + l.size : Nat) : Int), s, 0)]) ++ lay l (A ++ [(f, c, ((A.length + 1 : Nat) : Int), ((A.length + 1 + l.size : Nat) : Int), s, (0 : Int))]).length ++ (lay r (A.length + 1 + l.size) ++ C) := by
      rw [e, List.length_append]; simp [lay]
    have eR : t = (A ++ (f, c, ((A.length + 1 : Nat) : Int), ((A.length + 1 + l.size : Nat) : Int), s, 0) :: lay l (A.length + 1)) ++ lay r (A ++ (f, c, ((A.length + 1 : Nat) : Int), ((A.length + 1 + l.size : Nat) : Int), s, (0 : Int)) :: lay l (A.length + 1)).length ++ C := by
      rw [e, List.length_append, List.length_cons, lay_len, show A.length + (l.size + 1) = A.length + 1 + l.size by omega]; simp [lay]
    have i1 := pos_to hR x l _ _ o4 eL
    have i2 := pos_to hR x r _ _ o5 eR
    rw [List.length_append, List.length_singleton] at i1
    rw [List.length_append, List.length_cons, lay_len, show A.length + (l.size + 1) = A.length + 1 + l.size by omega] at i2
    unfold posB
    have hA : A.length < t.length := by omega
    cases q : goes f c s x
    · rw [if_neg (by decide), ← i2]
      refine to_next hR hA hf ?_
      unfold nextI
      rw [h0]
      show (if lessC ((f, c, _, _, s, 0) : Nd) (x.getD f.toNat 0) = true then _ else _) = _
      rw [less_goes, q, if_neg (by decide)]
      rfl
    · rw [if_pos rfl, ← i1]
      refine to_next hR hA hf ?_
      unfold nextI
      rw [h0]
      show (if lessC ((f, c, _, _, s, 0) : Nd) (x.getD f.toNat 0) = true then _ else _) = _
      rw [less_goes, q, if_pos rfl]
      rfl
theorem leaf_pos {T : BT} {r : List Int} (ok : okB (r.length : Int) T) (hz : (treeF (lay T 0) (r.length : Int)).2 = 0) (hr : rowF r = 0) : readyF (lay T 0) r = 0 ∧ leafV (lay T 0) r = posB T 0 r := by
  have hy : readyF (lay T 0) r = 0 := by rw [ready_tree hr]; exact hz
  refine ⟨hy, ?_⟩
  have F := (tree_ok hz).1
  have := pos_to F.2.2.2.2.1 r T [] [] ok (by simp)
  unfold leafV
  rw [if_pos hy]
  exact this

/-! ### the samples of a leaf -/
def atP (T : BT) (k : Nat) (l : List Sa) (p : Nat) : List Sa := l.filter fun s => decide (posB T k s.1 = p)
/-- a place of a leaf, and its number -/
def LfAt : BT → Nat → Nat → Int → Prop
  | .lf v, k, p, u => p = k ∧ u = v
  | .nd _ _ _ l r, k, p, u => LfAt l (k + 1) p u ∨ LfAt r (k + 1 + l.size) p u
theorem lf_in : ∀ {T : BT} {k p : Nat} {u : Int}, LfAt T k p u → k ≤ p ∧ p < k + T.size
  | .lf v, k, p, u, h => by obtain ⟨rfl, rfl⟩ := h; unfold BT.size; omega
  | .nd f c s l r, k, p, u, h => by
    unfold BT.size
    rcases h with h | h
    · have := lf_in h; omega
    · have := lf_in h; omega
theorem lf_of : ∀ {m : Int} (T : BT) (k p : Nat), okB m T → k ≤ p → p < k + T.size → nf (nAt (lay T k) (p - k)) = -1 → LfAt T k p (nv (nAt (lay T k) (p - k)))
  | m, .lf v, k, p, _, h1, h2, _ => by
    have : p = k := by unfold BT.size at h2; omega
    subst this
    rw [Nat.sub_self]
    exact ⟨rfl, rfl⟩
  | m, .nd f c s l r, k, p, ok, h1, h2, hf => by
    obtain ⟨o1, o2, o3, o4, o5⟩ := ok
    have h2' : p < k + (1 + l.size + r.size) := h2
    by_cases e0 : p = k
    · subst e0
      rw [Nat.sub_self] at hf
      have : f = -1 := hf
      omega
    · by_cases e1 : p < k + 1 + l.size
      · have e : nAt (lay (.nd f c s l r) k) (p - k) = nAt (lay l (k + 1)) (p - (k + 1)) := by
          rw [show p - k = (p - (k + 1)) + 1 by omega]
          show nAt (_ :: (lay l (k + 1) ++ _)) (p - (k + 1) + 1) = _
          unfold nAt
          rw [List.getD_cons_succ, getD_front (by rw [lay_len]; omega)]
        rw [e] at hf ⊢
        exact .inl (lf_of l (k + 1) p o4 (by omega) (by omega) hf)
      · have e : nAt (lay (.nd f c s l r) k) (p - k) = nAt (lay r (k + 1 + l.size)) (p - (k + 1 + l.size)) := by
          rw [show p - k = (l.size + (p - (k + 1 + l.size))) + 1 by omega]
          show nAt (_ :: (lay l (k + 1) ++ lay r (k + 1 + l.size))) (l.size + (p - (k + 1 + l.size)) + 1) = _
          unfold nAt
          rw [List.getD_cons_succ, ← lay_len l (k + 1), getD_behind]
        rw [e] at hf ⊢
        exact .inr (lf_of r (k + 1 + l.size) p o5 (by omega) (by omega) hf)
theorem at_left {l : List Sa} {m : Nat} (h : GoodS l m) {f : Nat} (hf : f < m) {c : Int} {s : Bool} {L R : BT} {k p : Nat} (hp : p < k + 1 + L.size) (hk : k + 1 ≤ p) : atP (.nd (f : Nat) c s L R) k l p = atP L (k + 1) (partS l f c true) p := by
  unfold atP partS
  rw [List.filter_filter]
  refine List.filter_congr fun x hx => ?_
  have g := goes_side h hf c s hx
  show decide ((if goes (f : Nat) c s x.1 = true then posB L (k + 1) x.1 else posB R (k + 1 + L.size) x.1) = p) = _
  rw [g]
  cases q : sideB f c x
  · have := pos_in R (k + 1 + L.size) x.1
    rw [if_neg (by decide), decide_eq_false (by omega)]
    simp
  · rw [if_pos rfl]
    simp
theorem at_right {l : List Sa} {m : Nat} (h : GoodS l m) {f : Nat} (hf : f < m) {c : Int} {s : Bool} {L R : BT} {k p : Nat} (hp : k + 1 + L.size ≤ p) : atP (.nd (f : Nat) c s L R) k l p = atP R (k + 1 + L.size) (partS l f c false) p := by
  unfold atP partS
  rw [List.filter_filter]
  refine List.filter_congr fun x hx => ?_
  have g := goes_side h hf c s hx
  show decide ((if goes (f : Nat) c s x.1 = true then posB L (k + 1) x.1 else posB R (k + 1 + L.size) x.1) = p) = _
  rw [g]
  cases q : sideB f c x
  · rw [if_neg (by decide)]
    simp
  · have := pos_in L (k + 1) x.1
    rw [if_pos rfl, decide_eq_false (by omega)]
    simp
/-- each leaf of a grown tree has as many samples as it must, and their mean -/
theorem grow_leaf {m : Nat} {least : Int} (h1 : 1 ≤ least) : ∀ (d : Nat) {l : List Sa}, GoodS l m → 0 < l.length → ∀ (k p : Nat) (u : Int), LfAt (growT m least d l) k p u → 0 < (atP (growT m least d l) k l p).length ∧ u = meanS (atP (growT m least d l) k l p) ∧ (1 < (growT m least d l).size ∨ least ≤ (l.length : Nat) → least ≤ ((atP (growT m least d l) k l p).length : Nat))
  | 0, l, h, hl, k, p, u, q => by
    obtain ⟨rfl, rfl⟩ := q
    have e : atP (growT m least 0 l) p l p = l := List.filter_eq_self.2 fun x _ => decide_eq_true rfl
    rw [e]
    refine ⟨hl, rfl, fun z => z.elim (fun z => ?_) id⟩
    have : (1 : Nat) < 1 := z
    omega
  | d + 1, l, h, hl, k, p, u, q => by
    have U : growT m least (d + 1) l = if (spV l m least).2.2.2.2 = true then .nd ((spV l m least).2.2.1 : Nat) (spV l m least).2.2.2.1 (decide (nB l (spV l m least).2.2.1 (spV l m least).2.2.2.1 false < nB l (spV l m least).2.2.1 (spV l m least).2.2.2.1 true)) (growT m least d (partS l (spV l m least).2.2.1 (spV l m least).2.2.2.1 true)) (growT m least d (partS l (spV l m least).2.2.1 (spV l m least).2.2.2.1 false)) else .lf (meanS l) := rfl
    rw [U] at q ⊢
    by_cases c : (spV l m least).2.2.2.2 = true
    · rw [if_pos c] at q ⊢
      obtain ⟨s1, _, s3, s4, s5⟩ := grow_sides h1 hl c
      unfold nB at s3 s4
      rcases q with q | q
      · have b := lf_in q
        rw [at_left h s1 b.2 b.1]
        obtain ⟨i1, i2, i3⟩ := grow_leaf h1 d (h.part _ _ _) (by omega) _ _ _ q
        exact ⟨i1, i2, fun _ => i3 (.inr s3)⟩
      · have b := lf_in q
        rw [at_right h s1 b.1]
        obtain ⟨i1, i2, i3⟩ := grow_leaf h1 d (h.part _ _ _) (by omega) _ _ _ q
        exact ⟨i1, i2, fun _ => i3 (.inr s4)⟩
    · rw [if_neg c] at q ⊢
      obtain ⟨rfl, rfl⟩ := q
      have e : atP (.lf (meanS l)) p l p = l := List.filter_eq_self.2 fun x _ => decide_eq_true rfl
      rw [e]
      refine ⟨hl, rfl, fun z => z.elim (fun z => ?_) id⟩
      have : (1 : Nat) < 1 := z
      omega
theorem mean_between {l : List Sa} (hl : 0 < l.length) : meanS l * (l.length : Nat) ≤ sumT l ∧ sumT l < (meanS l + 1) * (l.length : Nat) := by
  have hp : (0 : Int) < (l.length : Nat) := by omega
  exact ⟨Int.ediv_mul_le _ (by omega), Int.lt_ediv_add_one_mul_self (sumT l) hp⟩

/-! ### any number as a cut -/
theorem part_same {l : List Sa} {f : Nat} {c d : Int} (h : ∀ s ∈ l, sideB f c s = sideB f d s) (b : Bool) : partS l f c b = partS l f d b := by
  unfold partS
  exact List.filter_congr fun x hx => by rw [h x hx]
/-- the least of a list's numbers that are not below one -/
theorem next_up {l : List Sa} {f : Nat} {c : Int} (h : 0 < nB l f c false) : ∃ i, i < l.length ∧ c ≤ colA (sAt l i) f ∧ ∀ s ∈ l, sideB f c s = sideB f (colA (sAt l i) f) s := by
  have : ∃ s ∈ l, sideB f c s = false := by
    unfold nB partS at h
    have h' : 0 < (l.filter fun s => sideB f c s == false).length := by omega
    obtain ⟨s, hs⟩ := List.exists_mem_of_length_pos h'
    obtain ⟨h2, h3⟩ := List.mem_filter.1 hs
    exact ⟨s, h2, by simpa using h3⟩
  clear h
  induction l with
  | nil => obtain ⟨s, hs, _⟩ := this; cases hs
  | cons a l ih =>
    by_cases q : ∃ s ∈ l, sideB f c s = false
    · obtain ⟨i, hi, hc, he⟩ := ih q
      have e : sAt (a :: l) (i + 1) = sAt l i := rfl
      by_cases ca : sideB f c a = false
      · have ca' : c ≤ colA a f := by
          unfold sideB at ca
          have := of_decide_eq_false ca
          omega
        by_cases le : colA a f < colA (sAt l i) f
        · refine ⟨0, by simp, ca', fun s hs => ?_⟩
          show _ = sideB f (colA a f) s
          rcases List.mem_cons.1 hs with rfl | hs
          · rw [ca]; unfold sideB; rw [decide_eq_false (by omega)]
          · have := he s hs
            unfold sideB at this ⊢
            by_cases z : colA s f < c
            · rw [decide_eq_true z, decide_eq_true (by omega)]
            · rw [decide_eq_false z] at this
              have := of_decide_eq_false this.symm
              rw [decide_eq_false z, decide_eq_false (by omega)]
        · refine ⟨i + 1, by simpa using hi, by rw [e]; exact hc, fun s hs => ?_⟩
          rw [e]
          rcases List.mem_cons.1 hs with rfl | hs
          · rw [ca]; unfold sideB; rw [decide_eq_false (by omega)]
          · exact he s hs
      · refine ⟨i + 1, by simpa using hi, by rw [e]; exact hc, fun s hs => ?_⟩
        rw [e]
        rcases List.mem_cons.1 hs with rfl | hs
        · have ca' : sideB f c s = true := by simpa using ca
          rw [ca']
          unfold sideB at ca' ⊢
          have := of_decide_eq_true ca'
          rw [decide_eq_true (by omega)]
        · exact he s hs
    · obtain ⟨s, hs, hq⟩ := this
      have sa : s = a := by
        rcases List.mem_cons.1 hs with rfl | hs
        · rfl
        · exact absurd ⟨s, hs, hq⟩ q
      subst sa
      have hq' : c ≤ colA s f := by
        unfold sideB at hq
        have := of_decide_eq_false hq
        omega
      refine ⟨0, by simp, hq', fun x hx => ?_⟩
      show _ = sideB f (colA s f) x
      rcases List.mem_cons.1 hx with rfl | hx
      · rw [hq]; unfold sideB; rw [decide_eq_false (by omega)]
      · have hx' : sideB f c x = true := by
          cases z : sideB f c x with
          | true => rfl
          | false => exact absurd ⟨x, hx, z⟩ q
        rw [hx']
        unfold sideB at hx' ⊢
        have := of_decide_eq_true hx'
        rw [decide_eq_true (by omega)]
/-- no question puts more right than the first one -/
theorem split_best {l : List Sa} {m : Nat} {least : Int} (h1 : 1 ≤ least) (hl : 0 < l.length) {f : Nat} (hf : f < m) {c : Int} (n1 : least ≤ nB l f c true) (n2 : least ≤ nB l f c false) :
    ((spV l m least).2.2.2.2 = false → spU l f c * (l.length : Nat) ≤ sumT l * sumT l * spD l f c) ∧
    ((spV l m least).2.2.2.2 = true → spU l f c * spD l (spV l m least).2.2.1 (spV l m least).2.2.2.1 ≤ spU l (spV l m least).2.2.1 (spV l m least).2.2.2.1 * spD l f c) := by
  obtain ⟨i, hi, hc, he⟩ := next_up (l := l) (f := f) (c := c) (by omega)
  have eP := fun b => part_same he b
  have eN : ∀ b, nB l f c b = nB l f (colA (sAt l i) f) b := fun b => by unfold nB; rw [eP]
  have eT : ∀ b, tB l f c b = tB l f (colA (sAt l i) f) b := fun b => by unfold tB; rw [eP]
  have eU : spU l f c = spU l f (colA (sAt l i) f) := by unfold spU; rw [eN, eN, eT, eT]
  have eD : spD l f c = spD l f (colA (sAt l i) f) := by unfold spD; rw [eN, eN]
  have ok : okC l least f (colA (sAt l i) f) = true := by
    unfold okC
    rw [← eN, ← eN, decide_eq_false (by omega), decide_eq_false (by omega), decide_eq_false (by omega)]
    rfl
  have cd : Cand l m least f (colA (sAt l i) f) := ⟨hf, ⟨i, hi, rfl⟩, ok⟩
  obtain ⟨s1, s2⟩ := split_spec (m := m) h1 hl
  rw [eU, eD]
  refine ⟨fun q => ?_, fun q => ?_⟩
  · have := (s1 q).2.2 _ _ cd
    unfold More at this
    omega
  · rcases (s2 q).2.2 _ _ cd with ⟨e1, e2⟩ | b
    · rw [← e1, ← e2]
      exact Int.le_refl _
    · unfold Beats at b
      rcases b with b | ⟨b, _⟩ <;> omega

end Go.Proofs.YtiggkjkjfnlfkaaGreatDoor.M
