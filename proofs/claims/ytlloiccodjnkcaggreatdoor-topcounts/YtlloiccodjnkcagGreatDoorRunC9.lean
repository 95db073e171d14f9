/-
  Several texts as one: MathB, MathLv, MathDg, MathWj, GFix, FixAny, MathBd, NdCells, Grown.
-/
import Derived.Test.YtlloiccodjnkcagGreatDoorRunC3
import Derived.Test.YtlloiccodjnkcagGreatDoorRunC8
import Derived.Test.YtlloiccodjnkcagGreatDoorRunC7
import Derived.Test.YtlloiccodjnkcagGreatDoorRunC1
import Derived.Test.YtlloiccodjnkcagGreatDoorRunC6
import Derived.Deep.AppendLies
import Derived.OwnWalk
namespace Go.Proofs.YtlloiccodjnkcagGreatDoor.M
set_option linter.unusedVariables false

/-- L's nodes are t's in another order: at place p is what is at place s p; what is below stands behind -/
structure Relab (t L : List Nd) (s : Nat → Nat) : Prop where
  len : L.length = t.length
  lt : ∀ p, p < t.length → s p < t.length
  inj : ∀ p q, p < t.length → q < t.length → s p = s q → p = q
  zero : s 0 = 0
  f : ∀ p, p < t.length → nf (nAt L p) = nf (nAt t (s p))
  c : ∀ p, p < t.length → nc (nAt L p) = nc (nAt t (s p))
  e : ∀ p, p < t.length → ns (nAt L p) = ns (nAt t (s p))
  v : ∀ p, p < t.length → nv (nAt L p) = nv (nAt t (s p))
  leaf : ∀ p, p < t.length → nf (nAt t (s p)) = -1 → nl (nAt L p) = nl (nAt t (s p)) ∧ nr (nAt L p) = nr (nAt t (s p))
  l : ∀ p, p < t.length → nf (nAt t (s p)) ≠ -1 → ∃ a : Nat, nl (nAt L p) = a ∧ p < a ∧ a < t.length ∧ nl (nAt t (s p)) = (s a : Nat)
  r : ∀ p, p < t.length → nf (nAt t (s p)) ≠ -1 → ∃ a : Nat, nr (nAt L p) = a ∧ p < a ∧ a < t.length ∧ nr (nAt t (s p)) = (s a : Nat)

theorem nodup_len : ∀ (n : Nat) (l : List Nat), l.Nodup → (∀ x ∈ l, x < n) → l.length ≤ n
  | 0, l, _, h => by
    cases l with
    | nil => exact Nat.le_refl _
    | cons x t => exact absurd (h x (by simp)) (by omega)
  | n + 1, l, hd, h => by
    by_cases hm : n ∈ l
    · have := nodup_len n (l.erase n) (hd.erase n) (fun x hx => by
        have := (hd.mem_erase_iff).1 hx
        have := h x this.2
        omega)
      rw [List.length_erase_of_mem hm] at this
      omega
    · have := nodup_len n l hd (fun x hx => by
        have := h x hx
        have : x ≠ n := fun e => hm (e ▸ hx)
        omega)
      omega

theorem Relab.perm {t L : List Nd} {s : Nat → Nat} (h : Relab t L s) : ((List.range t.length).map s).Perm (List.range t.length) := by
  have nd : ((List.range t.length).map s).Nodup := by
    rw [List.Nodup, List.pairwise_map]
    refine List.Pairwise.imp_of_mem ?_ (List.nodup_range (n := t.length))
    intro a b ha hb hab e
    exact hab (h.inj a b (by simpa using ha) (by simpa using hb) e)
  have sub : ∀ x ∈ (List.range t.length).map s, x < t.length := fun x hx => by
    obtain ⟨p, hp, rfl⟩ := List.mem_map.1 hx
    exact h.lt p (by simpa using hp)
  refine (List.perm_ext_iff_of_nodup nd List.nodup_range).2 (fun x => ⟨fun hx => by simpa using sub x hx, fun hx => ?_⟩)
  have hx' : x < t.length := by simpa using hx
  by_cases hm : x ∈ (List.range t.length).map s
  · exact hm
  · have := nodup_len t.length (x :: (List.range t.length).map s) (List.nodup_cons.2 ⟨hm, nd⟩) (fun y hy => by
      rcases List.mem_cons.1 hy with q | q
      · rw [q]; exact hx'
      · exact sub y q)
    simp at this
    omega
theorem Relab.onto {t L : List Nd} {s : Nat → Nat} (h : Relab t L s) {x : Nat} (hx : x < t.length) : ∃ p, p < t.length ∧ s p = x := by
  have := (h.perm.mem_iff (a := x)).2 (by simpa using hx)
  obtain ⟨p, hp, e⟩ := List.mem_map.1 this
  exact ⟨p, by simpa using hp, e⟩
theorem list_range (t : List Nd) : t = (List.range t.length).map (nAt t) := by
  apply List.ext_getElem?
  intro i
  by_cases h : i < t.length
  · rw [List.getElem?_map, List.getElem?_range h, List.getElem?_eq_getElem h]
    simp [nAt_eq h]
  · rw [List.getElem?_eq_none (by omega), List.getElem?_eq_none (by simp; omega)]
theorem Relab.key {t L : List Nd} {s : Nat → Nat} (h : Relab t L s) {a j : Nat} (ha : a < t.length) (hj : j < t.length) : ((a : Int) = (j : Int)) ↔ ((s a : Nat) : Int) = ((s j : Nat) : Int) := by
  constructor
  · intro e
    have : a = j := by omega
    rw [this]
  · intro e
    have := h.inj a j ha hj (by omega)
    omega
theorem Relab.edge {t L : List Nd} {s : Nat → Nat} (h : Relab t L s) {p j : Nat} (hp : p < t.length) (hj : j < t.length) : edge (j : Nat) (nAt L p) = edge (s j : Nat) (nAt t (s p)) := by
  unfold M.edge
  rw [h.f p hp]
  by_cases hf : nf (nAt t (s p)) = -1
  · rw [if_pos hf, if_pos hf]
  · rw [if_neg hf, if_neg hf]
    obtain ⟨a, e1, _, a2, e2⟩ := h.l p hp hf
    obtain ⟨b, e3, _, b2, e4⟩ := h.r p hp hf
    rw [e1, e2, e3, e4]
    have k1 := h.key a2 hj
    have k2 := h.key b2 hj
    by_cases q1 : (a : Int) = j <;> by_cases q2 : (b : Int) = j
    · rw [if_pos q1, if_pos q2, if_pos (k1.1 q1), if_pos (k2.1 q2)]
    · rw [if_pos q1, if_neg q2, if_pos (k1.1 q1), if_neg (fun c => q2 (k2.2 c))]
    · rw [if_neg q1, if_pos q2, if_neg (fun c => q1 (k1.2 c)), if_pos (k2.1 q2)]
    · rw [if_neg q1, if_neg q2, if_neg (fun c => q1 (k1.2 c)), if_neg (fun c => q2 (k2.2 c))]
theorem Relab.ups {t L : List Nd} {s : Nat → Nat} (h : Relab t L s) {j : Nat} (hj : j < t.length) : ups L (j : Nat) = ups t (s j : Nat) := by
  have a : M.ups L (j : Nat) = ((List.range t.length).map fun p => M.edge (s j : Nat) (nAt t (s p))).sum := by
    unfold M.ups
    conv => lhs; rw [list_range L]
    rw [h.len, List.map_map]
    congr 1
    apply List.map_congr_left
    intro p hp
    exact h.edge (by simpa using hp) hj
  have b : M.ups t (s j : Nat) = ((List.range t.length).map fun p => M.edge (s j : Nat) (nAt t p)).sum := by
    unfold M.ups
    conv => lhs; rw [list_range t]
    rw [List.map_map]
    rfl
  rw [a, b]
  have := (h.perm.map (fun p => M.edge (s j : Nat) (nAt t p))).sum_nat
  rw [List.map_map] at this
  exact this

theorem Relab.node {t L : List Nd} {s : Nat → Nat} (h : Relab t L s) {m : Int} (ht : ∀ j, j < t.length → nodeF (nAt t j) j t.length m = 0) {p : Nat} (hp : p < t.length) : nodeF (nAt L p) p L.length m = 0 := by
  have hn := ht (s p) (h.lt p hp)
  unfold nodeF at hn ⊢
  rw [h.f p hp, h.len]
  by_cases hf : nf (nAt t (s p)) = -1
  · rw [if_pos hf] at hn ⊢
    unfold lfF at hn ⊢
    rw [h.v p hp, h.c p hp, h.e p hp, (h.leaf p hp hf).1, (h.leaf p hp hf).2]
    exact hn
  · rw [if_neg hf] at hn ⊢
    obtain ⟨a, e1, a1, a2, e2⟩ := h.l p hp hf
    obtain ⟨b, e3, b1, b2, e4⟩ := h.r p hp hf
    unfold asF at hn ⊢
    rw [h.f p hp, h.v p hp, h.c p hp]
    split at hn
    · cases hn
    · rename_i q1
      split at hn
      · cases hn
      · rename_i q2
        rw [if_neg, if_neg]
        · rw [e1, e3]
          intro c
          rcases c with c | c
          · exact q2 (.inl c)
          · have : a = b := by omega
            exact q2 (.inr (by rw [e2, e4, this]))
        · intro c
          rcases c with c | c | c | c | c
          · exact q1 (.inl c)
          · exact q1 (.inr (.inl c))
          · exact q1 (.inr (.inr (.inl c)))
          · rw [e1] at c; unfold inB at c; rw [decide_eq_true (by omega), decide_eq_true (by omega)] at c; cases c
          · rw [e3] at c; unfold inB at c; rw [decide_eq_true (by omega), decide_eq_true (by omega)] at c; cases c
theorem Relab.fair {t L : List Nd} {s : Nat → Nat} (h : Relab t L s) {m : Int} (F : Fair t m) : Fair L m := by
  obtain ⟨h1, h2, h3, h4, h5, h6⟩ := F
  refine ⟨by rw [h.len]; exact h1, by rw [h.len]; exact h2, h3, h4, fun j hj => h.node h5 (by rw [← h.len]; exact hj), fun j h0 hj => ?_⟩
  have hj' : j < t.length := by rw [← h.len]; exact hj
  rw [h.ups hj']
  refine h6 (s j) ?_ (h.lt j hj')
  rcases Nat.eq_zero_or_pos (s j) with q | q
  · have := h.inj j 0 hj' h2 (by rw [q, h.zero])
    omega
  · exact q
theorem Relab.dep {t L : List Nd} {s : Nat → Nat} (h : Relab t L s) : ∀ (k p : Nat), p < t.length → dep L k p = dep t k (s p)
  | 0, p, hp => rfl
  | k + 1, p, hp => by
    unfold M.dep
    rw [h.f p hp]
    by_cases hf : nf (nAt t (s p)) = -1
    · rw [if_pos hf, if_pos hf]
    · rw [if_neg hf, if_neg hf]
      obtain ⟨a, e1, a1, a2, e2⟩ := h.l p hp hf
      obtain ⟨b, e3, b1, b2, e4⟩ := h.r p hp hf
      rw [e1, e2, e3, e4, Int.toNat_natCast, Int.toNat_natCast, Int.toNat_natCast, Int.toNat_natCast, h.dep k a a2, h.dep k b b2]
theorem Relab.tree {t L : List Nd} {s : Nat → Nat} (h : Relab t L s) {m : Int} (hz : (treeF t m).2 = 0) : (treeF L m).2 = 0 := by
  obtain ⟨F, e⟩ := tree_ok hz
  have d : depth L 0 = depth t 0 := by
    unfold depth
    rw [h.len, h.dep _ 0 F.2.1, h.zero]
  rw [tree_fair (h.fair F), d, ← tree_fair F, e]
theorem Relab.go {t L : List Nd} {s : Nat → Nat} (h : Relab t L s) (r : List Int) : ∀ (k p : Nat), p < t.length → goD L r k p < t.length ∧ s (goD L r k p) = goD t r k (s p)
  | 0, p, hp => ⟨hp, rfl⟩
  | k + 1, p, hp => by
    unfold goD
    rw [h.f p hp]
    by_cases hf : nf (nAt t (s p)) = -1
    · rw [if_pos hf, if_pos hf]; exact ⟨hp, rfl⟩
    · rw [if_neg hf, if_neg hf]
      obtain ⟨a, e1, a1, a2, e2⟩ := h.l p hp hf
      obtain ⟨b, e3, b1, b2, e4⟩ := h.r p hp hf
      have lc : lessC (nAt L p) (r.getD (nf (nAt L p)).toNat 0) = lessC (nAt t (s p)) (r.getD (nf (nAt t (s p))).toNat 0) := by
        unfold lessC
        rw [h.f p hp, h.e p hp, h.c p hp]
      unfold nextI
      rw [lc]
      split
      · rw [e1, e2, Int.toNat_natCast, Int.toNat_natCast]; exact h.go r k a a2
      · rw [e3, e4, Int.toNat_natCast, Int.toNat_natCast]; exact h.go r k b b2
theorem Relab.ready {t L : List Nd} {s : Nat → Nat} (h : Relab t L s) {r : List Int} (hr : readyF t r = 0) : readyF L r = 0 := by
  have h1 := (ready_ok hr).1
  have h2 := (ready_ok hr).2
  unfold readyF
  rw [if_neg (by simp [h1])]
  exact h.tree h2
/-- they tell the same of every row -/
theorem Relab.eval {t L : List Nd} {s : Nat → Nat} (h : Relab t L s) {r : List Int} (hr : readyF t r = 0) : evalV L r = evalV t r := by
  have F := (tree_ok (ready_ok hr).2).1
  unfold evalV
  rw [if_pos hr, if_pos (h.ready hr)]
  unfold toD
  rw [h.len]
  obtain ⟨g1, g2⟩ := h.go r t.length 0 F.2.1
  rw [h.v _ g1, g2, h.zero]

/-! ### level by level -/
def kids (n : Nd) : List Nat := if nf n = -1 then [] else [(nl n).toNat, (nr n).toNat]
/-- the order behind i nodes -/
def ordS (t : List Nd) : Nat → List Nat
  | 0 => [0]
  | i + 1 => ordS t i ++ kids (nAt t ((ordS t i).getD i 0))
theorem ord_pre (t : List Nd) (i : Nat) : ∀ k, ∃ x, ordS t (i + k) = ordS t i ++ x
  | 0 => ⟨[], by simp⟩
  | k + 1 => by
    obtain ⟨x, e⟩ := ord_pre t i k
    exact ⟨x ++ kids (nAt t ((ordS t (i + k)).getD (i + k) 0)), by rw [← List.append_assoc, ← e]; rfl⟩
theorem ord_at {t : List Nd} {i k p : Nat} (h : i ≤ k) (hp : p < (ordS t i).length) : (ordS t k).getD p 0 = (ordS t i).getD p 0 := by
  obtain ⟨x, e⟩ := ord_pre t i (k - i)
  rw [show i + (k - i) = k by omega] at e
  rw [e]
  simp [List.getD, List.getElem?_append_left hp]
theorem ord_len_mono {t : List Nd} {i k : Nat} (h : i ≤ k) : (ordS t i).length ≤ (ordS t k).length := by
  obtain ⟨x, e⟩ := ord_pre t i (k - i)
  rw [show i + (k - i) = k by omega] at e
  rw [e, List.length_append]; omega
theorem getD_mem' {l : List Nat} {i : Nat} (h : i < l.length) : l.getD i 0 ∈ l := by
  simp [List.getD, List.getElem?_eq_getElem h]
theorem mem_getD {l : List Nat} {x : Nat} (h : x ∈ l) : ∃ i, i < l.length ∧ l.getD i 0 = x := by
  obtain ⟨i, hi, e⟩ := List.getElem_of_mem h
  exact ⟨i, hi, by simp [List.getD, List.getElem?_eq_getElem hi, e]⟩
theorem nodup_at {l : List Nat} (h : l.Nodup) {i j : Nat} (hi : i < l.length) (hj : j < l.length) (e : l.getD i 0 = l.getD j 0) : i = j := by
  simp only [List.getD, List.getElem?_eq_getElem hi, List.getElem?_eq_getElem hj, Option.getD_some] at e
  rcases Nat.lt_trichotomy i j with q | q | q
  · exact absurd e (List.pairwise_iff_getElem.1 h i j hi hj q)
  · exact q
  · exact absurd e.symm (List.pairwise_iff_getElem.1 h j i hj hi q)
/-- what is so of the order behind i nodes, while there are more -/
structure Ord (t : List Nd) (i : Nat) : Prop where
  nd : (ordS t i).Nodup
  lt : ∀ x ∈ ordS t i, x < t.length
  up : ∀ x ∈ ordS t i, x ≠ 0 → ∃ p, p < i ∧ chL (nAt t ((ordS t i).getD p 0)) (x : Nat)
  dn : ∀ p, p < i → ∀ x : Nat, chL (nAt t ((ordS t i).getD p 0)) (x : Nat) → x ∈ ordS t i
  le : i ≤ (ordS t i).length
theorem kids_mem {t : List Nd} {m : Int} (F : Fair t m) {i x : Nat} (hi : i < t.length) : x ∈ kids (nAt t i) ↔ chL (nAt t i) (x : Nat) := by
  unfold kids chL
  by_cases hf : nf (nAt t i) = -1
  · simp [hf]
  · obtain ⟨a, b, ea, eb, _⟩ := ask_at F.2.2.2.2.1 hi hf
    rw [if_neg hf, ea, eb]
    simp only [ne_eq, hf, not_false_eq_true, true_and, Int.toNat_natCast, List.mem_cons, List.not_mem_nil, or_false]
    omega
theorem ord_start {t : List Nd} {m : Int} (F : Fair t m) : Ord t 0 :=
  ⟨by simp [ordS], fun x hx => by have : x = 0 := by simpa [ordS] using hx
                                  rw [this]; exact F.2.1, fun x hx h0 => absurd (by simpa [ordS] using hx) h0, fun p hp => by omega, Nat.zero_le _⟩
theorem ord_step {t : List Nd} {m : Int} (F : Fair t m) {i : Nat} (h : Ord t i) (hi : i < (ordS t i).length) : Ord t (i + 1) := by
  have hx : (ordS t i).getD i 0 < t.length := h.lt _ (getD_mem' hi)
  have e : ordS t (i + 1) = ordS t i ++ kids (nAt t ((ordS t i).getD i 0)) := rfl
  have at' : ∀ p, p < i + 1 → (ordS t (i + 1)).getD p 0 = (ordS t i).getD p 0 := fun p hp => ord_at (by omega) (by omega)
  have fresh : ∀ x, x ∈ kids (nAt t ((ordS t i).getD i 0)) → x ∉ ordS t i := fun x hk hm => by
    have c := (kids_mem F hx).1 hk
    have x0 : 0 < x ∧ x < t.length := by
      obtain ⟨a, b, ea, eb, q⟩ := ask_at F.2.2.2.2.1 hx c.1
      rcases c.2 with c | c <;> omega
    obtain ⟨p, hp, cp⟩ := h.up x hm (by omega)
    have hpl : p < (ordS t i).length := by omega
    have := up_one (F.2.2.2.2.2 x x0.1 x0.2) (h.lt _ (getD_mem' hpl)) hx cp c
    have := nodup_at h.nd hpl hi this
    omega
  refine ⟨?_, ?_, ?_, ?_, ?_⟩
  · rw [e, List.nodup_append]
    refine ⟨h.nd, ?_, fun a ha b hb q => fresh b hb (q ▸ ha)⟩
    unfold kids
    by_cases hf : nf (nAt t ((ordS t i).getD i 0)) = -1
    · rw [if_pos hf]; exact List.nodup_nil
    · rw [if_neg hf]
      obtain ⟨a, b, ea, eb, q⟩ := ask_at F.2.2.2.2.1 hx hf
      rw [ea, eb]
      simp only [Int.toNat_natCast, List.nodup_cons, List.mem_singleton, List.not_mem_nil, not_false_eq_true, List.nodup_nil, and_true]
      omega
  · intro x hm
    rw [e] at hm
    rcases List.mem_append.1 hm with q | q
    · exact h.lt x q
    · have c := (kids_mem F hx).1 q
      obtain ⟨a, b, ea, eb, r⟩ := ask_at F.2.2.2.2.1 hx c.1
      rcases c.2 with c | c <;> omega
  · intro x hm h0
    rw [e] at hm
    rcases List.mem_append.1 hm with q | q
    · obtain ⟨p, hp, c⟩ := h.up x q h0
      exact ⟨p, by omega, by rw [at' p (by omega)]; exact c⟩
    · exact ⟨i, by omega, by rw [at' i (by omega)]; exact (kids_mem F hx).1 q⟩
  · intro p hp x c
    rw [at' p hp] at c
    rw [e]
    by_cases q : p = i
    · rw [q] at c
      exact List.mem_append.2 (.inr ((kids_mem F hx).2 c))
    · exact List.mem_append.2 (.inl (h.dn p (by omega) x c))
  · have := ord_len_mono (t := t) (show i ≤ i + 1 by omega)
    omega
/-- where there are no more, all are there -/
theorem ord_full {t : List Nd} {m : Int} (F : Fair t m) {i : Nat} (h : Ord t i) (hi : (ordS t i).length = i) : i = t.length := by
  have all : ∀ n j, j < n → j < t.length → j ∈ ordS t i := by
    intro n
    induction n with
    | zero => intro j hj; omega
    | succ n ih =>
      intro j hj hl
      by_cases h0 : j = 0
      · subst h0
        obtain ⟨x, e⟩ := ord_pre t 0 i
        rw [show 0 + i = i by omega] at e
        rw [e]; simp [ordS]
      · obtain ⟨p, hp, c⟩ := up_some (F.2.2.2.2.2 j (by omega) hl)
        obtain ⟨a, b, ea, eb, q⟩ := ask_at F.2.2.2.2.1 hp c.1
        have hpj : p < j := by rcases c.2 with c | c <;> omega
        obtain ⟨k, hk, ek⟩ := mem_getD (ih p (by omega) (by omega))
        exact h.dn k (by omega) j (by rw [ek]; exact c)
  have p : (ordS t i).Perm (List.range t.length) := (List.perm_ext_iff_of_nodup h.nd List.nodup_range).2 (fun x => ⟨fun hx => by simpa using h.lt x hx, fun hx => all t.length x (by simpa using hx) (by simpa using hx)⟩)
  have := p.length_eq
  simp at this
  omega
theorem ord_all {t : List Nd} {m : Int} (F : Fair t m) : ∀ i, i ≤ t.length → Ord t i ∧ (i < t.length → i < (ordS t i).length)
  | 0, _ => ⟨ord_start F, fun _ => by simp [ordS]⟩
  | i + 1, hi => by
    obtain ⟨h, hl⟩ := ord_all F i (by omega)
    have h1 := ord_step F h (hl (by omega))
    refine ⟨h1, fun hlt => ?_⟩
    have := h1.le
    by_cases q : (ordS t (i + 1)).length = i + 1
    · have := ord_full F h1 q; omega
    · omega
theorem ord_end {t : List Nd} {m : Int} (F : Fair t m) : Ord t t.length ∧ (ordS t t.length).length = t.length := by
  have h := (ord_all F t.length (Nat.le_refl _)).1
  exact ⟨h, Nat.le_antisymm (nodup_len _ _ h.nd h.lt) h.le⟩
/-- a node, those below it at other places -/
def reN (n : Nd) (a : Nat) : Nd := if nf n = -1 then n else (nf n, nc n, (a : Nat), (a : Nat) + 1, ns n, nv n)
def levK (t : List Nd) : Nat → List Nd
  | 0 => []
  | i + 1 => levK t i ++ [reN (nAt t ((ordS t i).getD i 0)) (ordS t i).length]
def levels (t : List Nd) : List Nd := levK t t.length
theorem levK_len (t : List Nd) : ∀ i, (levK t i).length = i
  | 0 => rfl
  | i + 1 => by unfold levK; simp [levK_len t i]
theorem levK_at (t : List Nd) : ∀ (i p : Nat), p < i → nAt (levK t i) p = reN (nAt t ((ordS t p).getD p 0)) (ordS t p).length
  | 0, p, h => by omega
  | i + 1, p, h => by
    unfold levK nAt
    by_cases e : p = i
    · subst e
      simp [List.getD, levK_len]
    · have := levK_at t i p (by omega)
      unfold nAt at this
      rw [← this]
      simp [List.getD, List.getElem?_append_left, levK_len, show p < i by omega]
theorem levels_relab {t : List Nd} {m : Int} (F : Fair t m) : Relab t (levels t) (fun p => (ordS t t.length).getD p 0) := by
  obtain ⟨E, hl⟩ := ord_end F
  have here : ∀ p, p < t.length → (ordS t p).getD p 0 = (ordS t t.length).getD p 0 := fun p hp => (ord_at (by omega) ((ord_all F p (by omega)).2 hp)).symm
  have at' : ∀ p, p < t.length → nAt (levels t) p = reN (nAt t ((ordS t t.length).getD p 0)) (ordS t p).length := fun p hp => by
    unfold levels
    rw [levK_at t t.length p hp, here p hp]
  have kid : ∀ p, p < t.length → nf (nAt t ((ordS t t.length).getD p 0)) ≠ -1 → p < (ordS t p).length ∧ (ordS t p).length + 1 < t.length ∧ nl (nAt t ((ordS t t.length).getD p 0)) = ((ordS t t.length).getD (ordS t p).length 0 : Nat) ∧ nr (nAt t ((ordS t t.length).getD p 0)) = ((ordS t t.length).getD ((ordS t p).length + 1) 0 : Nat) := fun p hp hf => by
    have hx : (ordS t t.length).getD p 0 < t.length := E.lt _ (getD_mem' (by omega))
    have e : ordS t (p + 1) = ordS t p ++ kids (nAt t ((ordS t t.length).getD p 0)) := by rw [← here p hp]; rfl
    have ek : kids (nAt t ((ordS t t.length).getD p 0)) = [(nl (nAt t ((ordS t t.length).getD p 0))).toNat, (nr (nAt t ((ordS t t.length).getD p 0))).toNat] := by unfold kids; rw [if_neg hf]
    rw [ek] at e
    have l1 : (ordS t (p + 1)).length = (ordS t p).length + 2 := by rw [e]; simp
    have l2 := ord_len_mono (t := t) (show p + 1 ≤ t.length by omega)
    have g1 := ord_at (t := t) (show p + 1 ≤ t.length by omega) (show (ordS t p).length < _ by rw [l1]; omega)
    have g2 := ord_at (t := t) (show p + 1 ≤ t.length by omega) (show (ordS t p).length + 1 < _ by rw [l1]; omega)
    obtain ⟨a, b, ea, eb, q⟩ := ask_at F.2.2.2.2.1 hx hf
    refine ⟨(ord_all F p (by omega)).2 hp, by omega, ?_, ?_⟩
    · rw [g1, e, ea]; simp [List.getD]
    · rw [g2, e, eb]; simp [List.getD]
  refine ⟨by unfold levels; exact levK_len t _, fun p hp => E.lt _ (getD_mem' (by omega)), fun p q hp hq e => nodup_at E.nd (by omega) (by omega) e, ?_, ?_, ?_, ?_, ?_, ?_, ?_, ?_⟩
  · have := ord_at (t := t) (i := 0) (k := t.length) (p := 0) (Nat.zero_le _) (by simp [ordS])
    rw [this]; rfl
  · intro p hp; rw [at' p hp]; unfold reN; split <;> rfl
  · intro p hp; rw [at' p hp]; unfold reN; split <;> rfl
  · intro p hp; rw [at' p hp]; unfold reN; split <;> rfl
  · intro p hp; rw [at' p hp]; unfold reN; split <;> rfl
  · intro p hp hf; rw [at' p hp]; unfold reN; rw [if_pos hf]; exact ⟨rfl, rfl⟩
  · intro p hp hf
    obtain ⟨k1, k2, k3, k4⟩ := kid p hp hf
    exact ⟨(ordS t p).length, by rw [at' p hp]; unfold reN; rw [if_neg hf]; rfl, k1, by omega, k3⟩
  · intro p hp hf
    obtain ⟨k1, k2, k3, k4⟩ := kid p hp hf
    exact ⟨(ordS t p).length + 1, by rw [at' p hp]; unfold reN; rw [if_neg hf]; show ((ordS t p).length : Int) + 1 = _; omega, by omega, k2, k4⟩
/-- laid level by level a tree is right, and tells the same -/
theorem levels_tree {t : List Nd} {m : Int} (h : (treeF t m).2 = 0) : (treeF (levels t) m).2 = 0 := (levels_relab (tree_ok h).1).tree h
theorem levels_eval {t : List Nd} {r : List Int} (h : readyF t r = 0) : readyF (levels t) r = 0 ∧ evalV (levels t) r = evalV t r :=
  ⟨(levels_relab (tree_ok (ready_ok h).2).1).ready h, (levels_relab (tree_ok (ready_ok h).2).1).eval h⟩
theorem levels_len (t : List Nd) : (levels t).length = t.length := levK_len t _

end Go.Proofs.YtlloiccodjnkcagGreatDoor.M

namespace Go.Proofs.YtlloiccodjnkcagGreatDoor.M
set_option linter.unusedVariables false

theorem reN_twice (n : Nd) (a : Nat) : reN (reN n a) a = reN n a := by
  unfold reN
  by_cases c : nf n = -1
  · rw [if_pos c, if_pos c]
  · rw [if_neg c]
    exact if_neg (show nf (nf n, nc n, ((a : Nat) : Int), ((a : Nat) : Int) + 1, ns n, nv n) ≠ -1 from c)
theorem range_at {n i : Nat} (h : i < n) : (List.range n).getD i 0 = i := by simp [List.getD, h]
theorem ord_levels {t : List Nd} {m : Int} (F : Fair t m) : ∀ i, i ≤ t.length → ordS (levels t) i = List.range (ordS t i).length
  | 0, _ => by
    show [0] = List.range [0].length
    rfl
  | i + 1, hi => by
    have ih := ord_levels F i (by omega)
    have hlt := (ord_all F i (by omega)).2 (by omega)
    have e1 : nAt (levels t) i = reN (nAt t ((ordS t i).getD i 0)) (ordS t i).length := levK_at t t.length i (by omega)
    have s1 : ordS (levels t) (i + 1) = ordS (levels t) i ++ kids (nAt (levels t) ((ordS (levels t) i).getD i 0)) := rfl
    have s2 : ordS t (i + 1) = ordS t i ++ kids (nAt t ((ordS t i).getD i 0)) := rfl
    rw [s1, ih, range_at hlt, e1, s2, List.length_append]
    generalize nAt t ((ordS t i).getD i 0) = n
    generalize (ordS t i).length = k
    unfold kids reN
    by_cases c : nf n = -1
    · rw [if_pos c, if_pos c]
      simp
    · rw [if_neg c, if_neg c, if_neg (show nf (nf n, nc n, ((k : Nat) : Int), ((k : Nat) : Int) + 1, ns n, nv n) ≠ -1 from c)]
      show List.range k ++ [((k : Nat) : Int).toNat, (((k : Nat) : Int) + 1).toNat] = List.range (k + 2)
      rw [Int.toNat_natCast, show (((k : Nat) : Int) + 1).toNat = k + 1 by omega, List.range_succ, List.range_succ, List.append_assoc]
      rfl
theorem levels_twice {t : List Nd} {m : Int} (F : Fair t m) : levels (levels t) = levels t := by
  have l1 : (levels (levels t)).length = t.length := by rw [levels_len, levels_len]
  have l2 : (levels t).length = t.length := levels_len t
  rw [list_range (levels (levels t)), l1]
  conv => rhs; rw [list_range (levels t), l2]
  apply List.map_congr_left
  intro p hp
  have hp' : p < t.length := by simpa using hp
  have e1 : nAt (levels t) p = reN (nAt t ((ordS t p).getD p 0)) (ordS t p).length := levK_at t t.length p (by omega)
  have e2 : nAt (levels (levels t)) p = reN (nAt (levels t) ((ordS (levels t) p).getD p 0)) (ordS (levels t) p).length := levK_at (levels t) (levels t).length p (by omega)
  have hlt := (ord_all F p (by omega)).2 hp'
  rw [e2, ord_levels F p (by omega), range_at hlt, List.length_range, e1, reN_twice]

end Go.Proofs.YtlloiccodjnkcagGreatDoor.M

namespace Go.Proofs.YtlloiccodjnkcagGreatDoor.M
set_option linter.unusedVariables false

def gdF (g o : Gv) : Int := if groveF g ≠ 0 then groveF g else if groveF o ≠ 0 then groveF o else if gf g ≠ gf o ∨ gw g ≠ gw o ∨ (gt g).length ≠ (gt o).length then 3 else 0
def gdP (g o : Gv) (i : Nat) : Bool := decide (0 < movedV ((gt g).getD i []) ((gt o).getD i []) (gf g)) || !decide ((gs g).getD i 0 = (gs o).getD i 0)
def difGF (g o : Gv) : Int := if gdF g o ≠ 0 then gdF g o else match firstN (gdP g o) (gt g).length with
  | some _ => 0
  | none => 5
def difGV (g o : Gv) : Nat := if gdF g o = 0 then (match firstN (gdP g o) (gt g).length with
  | some i => i
  | none => 0) else 0
theorem gd_ok {g o : Gv} (h : gdF g o = 0) : Good g ∧ Good o ∧ gf g = gf o ∧ gw g = gw o ∧ (gt g).length = (gt o).length := by
  unfold gdF at h
  by_cases c : groveF g = 0
  · rw [if_neg (by simp [c])] at h
    by_cases d : groveF o = 0
    · rw [if_neg (by simp [d])] at h
      by_cases e : gf g ≠ gf o ∨ gw g ≠ gw o ∨ (gt g).length ≠ (gt o).length
      · rw [if_pos e] at h; cases h
      · refine ⟨(good_iff g).1 c, (good_iff o).1 d, Decidable.not_not.1 (fun q => e (.inl q)), Decidable.not_not.1 (fun q => e (.inr (.inl q))), Decidable.not_not.1 (fun q => e (.inr (.inr q)))⟩
    · rw [if_pos d] at h; exact absurd h d
  · rw [if_pos c] at h; exact absurd h c
theorem gd_of {g o : Gv} (h1 : Good g) (h2 : Good o) (h3 : gf g = gf o) (h4 : gw g = gw o) (h5 : (gt g).length = (gt o).length) : gdF g o = 0 := by
  unfold gdF
  rw [if_neg (by rw [(good_iff g).2 h1]; simp), if_neg (by rw [(good_iff o).2 h2]; simp), if_neg]
  rintro (q | q | q)
  · exact q h3
  · exact q h4
  · exact q h5
theorem gd_hit {g o : Gv} {k : Nat} (h : gdF g o = 0) (hk : k < (gt g).length) (hp : gdP g o k = true) (hj : ∀ j, j < k → gdP g o j = false) : difGF g o = 0 ∧ difGV g o = k := by
  unfold difGF difGV
  rw [if_neg (by simp [h]), if_pos h, first_hit hp hj hk]
  exact ⟨rfl, rfl⟩
theorem gd_miss {g o : Gv} (h : gdF g o = 0) (hj : ∀ j, j < (gt g).length → gdP g o j = false) : difGF g o = 5 ∧ difGV g o = 0 := by
  unfold difGF difGV
  rw [if_neg (by simp [h]), if_pos h, first_miss hj]
  exact ⟨rfl, rfl⟩
theorem gd_bad {g o : Gv} (h : gdF g o ≠ 0) : difGF g o = gdF g o ∧ difGV g o = 0 := by
  unfold difGF difGV
  rw [if_pos h, if_neg h]
  exact ⟨rfl, rfl⟩

/-- a grove, each tree level by level -/
def levG (g : Gv) : Gv := (gf g, gw g, gs g, (gt g).map levels)
theorem levG_good {g : Gv} (h : Good g) : Good (levG g) := by
  have hl : (gt (levG g)).length = (gt g).length := by show ((gt g).map levels).length = _; simp
  refine { h with t0 := ?_, t12 := ?_, len := ?_, trees := ?_ }
  · rw [hl]; exact h.t0
  · rw [hl]; exact h.t12
  · rw [hl]; exact h.len
  · intro t ht
    obtain ⟨u, hu, rfl⟩ := List.mem_map.1 (show t ∈ (gt g).map levels from ht)
    exact levels_tree (h.trees u hu)
theorem levG_twice {g : Gv} (h : Good g) : levG (levG g) = levG g := by
  unfold levG
  show (gf g, gw g, gs g, ((gt g).map levels).map levels) = _
  rw [List.map_map]
  congr 3
  refine List.map_congr_left (fun t ht => ?_)
  exact levels_twice (tree_ok (h.trees t ht)).1
theorem lev_none {g : Gv} (h : Good g) : difGF g (levG g) = 5 := by
  have hl : (gt g).length = (gt (levG g)).length := by show _ = ((gt g).map levels).length; simp
  refine (gd_miss (gd_of h (levG_good h) rfl rfl hl) (fun j hj => ?_)).1
  have e : (gt (levG g)).getD j [] = levels (gt g)[j] := by
    show ((gt g).map levels).getD j [] = _
    rw [getD_at (by simpa using hj)]
    simp
  have ht := h.trees _ (List.getElem_mem hj)
  unfold gdP
  rw [e, getD_at hj, moved_zero (dif_of ht (levels_tree ht)) (fun x h1 h2 => (levels_eval (by rw [ready_tree h1, h2]; exact ht)).2.symm)]
  rw [show decide ((gs g).getD j 0 = (gs (levG g)).getD j 0) = true from decide_eq_true rfl]
  rfl

end Go.Proofs.YtlloiccodjnkcagGreatDoor.M

namespace Go.Proofs.YtlloiccodjnkcagGreatDoor.M
set_option linter.unusedVariables false

/-- by whom a grove of rounds asks some sample differs from the first -/
theorem boo_differ {l : List Sa} {m r d s : Int} (h : booF l m r d s = 0) {u : Us} (hu : u ∈ usesV (gt (booG l m r d s))) : ∃ f : Nat, u.1 = (f : Int) ∧ (f : Int) < m ∧ ∃ k, 0 < k ∧ k < l.length ∧ colA (sAt l k) f ≠ colA (sAt l 0) f := by
  obtain ⟨h1, r0, r8, d1, d4, s1, s2⟩ := boo_ok h
  obtain ⟨G, hl, hm, _⟩ := sam_ok h1
  obtain ⟨i, hi, rfl, hc⟩ := uses_mem.1 hu
  obtain ⟨t, ht, hn⟩ := cntG_pos hc
  rw [boo_gt h] at ht
  obtain ⟨T, hT, rfl⟩ := List.mem_map.1 ht
  have mem := cnt_pos hn
  unfold boL at mem
  rw [pre_lay, pre_sc] at mem
  have A := bo_asks (m := m.toNat) (dp := d.toNat) (share := s) G hl s1 s2 r.toNat T hT _ mem
  rcases A with q | ⟨f, q, fm, hd⟩
  · omega
  · have e : i = f := by omega
    subst e
    exact ⟨i, rfl, by omega, differ_first hd⟩
/-- who is not asked for is in no node -/
theorem unasked {l : List (List Nd)} {f : Nat} (h8 : f < 8) (h : ∀ u ∈ usesV l, u.1 ≠ (f : Int)) : cntG (f : Int) l = 0 := by
  by_cases q : cntG (f : Int) l = 0
  · exact q
  · exact absurd rfl (h ((f : Int), ((cntG (f : Int) l : Nat) : Int), (0 : Int)) (uses_mem.2 ⟨f, h8, rfl, q⟩))
/-- without it the grove is the same -/
theorem boo_unasked {l : List Sa} {m r d s : Int} (h : booF l m r d s = 0) {f : Nat} (hf : (f : Int) < m) (hu : ∀ u ∈ usesV (gt (booG l m r d s)), u.1 ≠ (f : Int)) : woF (booG l m r d s) (f : Int) = 0 ∧ woV (booG l m r d s) (f : Int) = booG l m r d s := by
  obtain ⟨I, B⟩ := boo_inv h
  have eg : booG l m r d s = boG m (booS l m r d s).1 := by unfold booG; rw [if_pos h]
  have gd : Good (booG l m r d s) := by rw [eg]; exact boG_good B
  have gfm : gf (booG l m r d s) = m := by rw [eg]; rfl
  have m8 := B.m8
  have z := unasked (l := gt (booG l m r d s)) (f := f) (by omega) hu
  have wz : woF (booG l m r d s) (f : Int) = 0 := by
    unfold woF
    rw [if_neg (by simp [(good_iff _).2 gd]), if_neg (by rw [gfm]; omega)]
  refine ⟨wz, ?_⟩
  obtain ⟨_, _, _, e⟩ := wo_fine wz
  rw [e]
  have each : (gt (booG l m r d s)).map (woT (f : Int)) = gt (booG l m r d s) := by
    have : (gt (booG l m r d s)).map (woT (f : Int)) = (gt (booG l m r d s)).map id := List.map_congr_left fun t ht => by
      have c := cntG_zero z t ht
      rw [boo_gt h] at ht
      obtain ⟨T, hT, rfl⟩ := List.mem_map.1 ht
      have ok := (boL_tree B hT).2
      show woT (f : Int) (boL _ T) = boL _ T
      unfold woT
      unfold boL at c ⊢
      rw [bt_of_lay ok, wo_unasked c]
    rw [this, List.map_id]
  unfold woG
  rw [each]
/-- nobody differs from itself -/
theorem dif_self {g : Gv} (h : Good g) : difGF g g = 5 := by
  have z := (good_iff _).2 h
  refine (gd_miss ?_ fun j hj => ?_).1
  · unfold gdF
    rw [if_neg (by simp [z]), if_neg (by simp [z]), if_neg (by simp)]
  · unfold gdP
    have tz : (treeF ((gt g).getD j []) (gf g)).2 = 0 := h.trees _ (by rw [getD_at hj]; exact List.getElem_mem hj)
    rw [moved_self tz]
    simp

end Go.Proofs.YtlloiccodjnkcagGreatDoor.M

namespace Go.Proofs.YtlloiccodjnkcagGreatDoor
open Go.ChangeShapes Go.WideShapes Go.ChangeAt Go.RowKit Go.Lib
set_option linter.unusedVariables false

theorem fit_in (n : Int) (w : World) (h1 : -1099511627776 ≤ n) (h2 : n ≤ 1099511627776) :
    Calls Tryz.prog 125 #[.int .i64 n] w fun e w' => e = .returned (.int .i64 n) ∧ w' = w := by
  go_enter Tryz.func125, Tryz.ntmps125
  go_wp2
  go_ret
  exact ⟨rfl, rfl⟩

theorem size_pos (n : Int) (w : World) (h1 : 0 ≤ n) (h2 : n ≤ 1099511627776) :
    Calls Tryz.prog 126 #[.int .i64 n] w fun e w' => e = .returned (.int .i64 n) ∧ w' = w := by
  go_enter Tryz.func126, Tryz.ntmps126
  go_wp2
  go_ret
  exact ⟨rfl, rfl⟩

theorem size_neg (n X : Int) (w : World) (E : Hid (-n = X)) (h1 : -1099511627776 ≤ n) (h2 : n < 0) :
    Calls Tryz.prog 126 #[.int .i64 n] w fun e w' => e = .returned (.int .i64 X) ∧ w' = w := by
  go_enter Tryz.func126, Tryz.ntmps126
  go_wp2
  go_ret
  exact ⟨ret_int E.out, rfl⟩

theorem add_in (a b : Int) (w : World) (a1 : -549755813888 ≤ a) (a2 : a ≤ 549755813888) (b1 : -549755813888 ≤ b) (b2 : b ≤ 549755813888) :
    Calls Tryz.prog 127 #[.int .i64 a, .int .i64 b] w fun e w' => e = .returned (.int .i64 (a + b)) ∧ w' = w := by
  go_enter Tryz.func127, Tryz.ntmps127
  go_wp2_with (go_at_call 125; refine (fit_in _ _ (by omega) (by omega)).mono ?_; rintro e w' ⟨rfl, rfl⟩)
  go_ret
  exact ⟨rfl, rfl⟩

theorem M.mul_far {a b : Int} (a1 : -1000000 ≤ a) (a2 : a ≤ 1000000) (b1 : 1 ≤ b) (b2 : b ≤ 1000) : -1000000000 ≤ a * b ∧ a * b ≤ 1000000000 := by
  have h1 : a * b ≤ 1000000 * b := Int.mul_le_mul_of_nonneg_right a2 (by omega)
  have h2 : -1000000 * b ≤ a * b := Int.mul_le_mul_of_nonneg_right a1 (by omega)
  omega
theorem M.quo_far {x b : Int} (x1 : 0 < x) (x2 : x ≤ 1000000) (b1 : 1 ≤ b) (b2 : b ≤ 1000) : b ≤ 1099511627776 / x := by
  rw [Int.le_ediv_iff_mul_le x1]
  have h1 : x * b ≤ 1000000 * b := Int.mul_le_mul_of_nonneg_right x2 (by omega)
  rw [Int.mul_comm]
  omega

set_option maxHeartbeats 1000000 in
theorem mul_small (a b : Int) (w : World) (a1 : -1000000 ≤ a) (a2 : a ≤ 1000000) (b1 : 1 ≤ b) (b2 : b ≤ 1000) :
    Calls Tryz.prog 95 #[.int .i64 a, .int .i64 b] w fun e w' => e = .returned (.int .i64 (a * b)) ∧ w' = w := by
  obtain ⟨m1, m2⟩ := M.mul_far a1 a2 b1 b2
  rcases (show a = 0 ∨ 0 < a ∨ a < 0 from by omega) with h0 | h0 | h0
  · have E : Hid (0 = a * b) := by unfold Hid; rw [h0, Int.zero_mul]
    have hz : (a == 0) = true := by rw [h0]; rfl
    clear h0
    go_enter Tryz.func95, Tryz.ntmps95
    go_wp2_with (go_at_call 125; refine (fit_in _ _ (by omega) (by omega)).mono ?_; rintro e w' ⟨rfl, rfl⟩)
    go_ret
    exact ⟨rfl, rfl⟩
  · have hz : (a == 0) = false := by simp; omega
    have hq := M.quo_far h0 a2 b1 b2
    go_enter Tryz.func95, Tryz.ntmps95
    go_wp2_with (first | (go_at_call 125; refine (fit_in _ _ (by omega) (by omega)).mono ?_; rintro e w' ⟨rfl, rfl⟩) | (go_at_call 126; refine (size_pos _ _ (by omega) (by omega)).mono ?_; rintro e w' ⟨rfl, rfl⟩))
    go_ret
    exact ⟨rfl, rfl⟩
  · have hz : (a == 0) = false := by simp; omega
    obtain ⟨X, hX⟩ : ∃ X, -a = X := ⟨_, rfl⟩
    have x1 : 0 < X := by omega
    have x2 : X ≤ 1000000 := by omega
    have hq := M.quo_far x1 x2 b1 b2
    have HX := hide hX
    clear hX
    go_enter Tryz.func95, Tryz.ntmps95
    go_wp2_with (first | (go_at_call 125; refine (fit_in _ _ (by omega) (by omega)).mono ?_; rintro e w' ⟨rfl, rfl⟩) | (go_at_call 126; refine (size_pos _ _ (by omega) (by omega)).mono ?_; rintro e w' ⟨rfl, rfl⟩) | (go_at_call 126; refine (size_neg _ X _ HX (by omega) (by omega)).mono ?_; rintro e w' ⟨rfl, rfl⟩))
    go_ret
    exact ⟨rfl, rfl⟩

set_option maxHeartbeats 1000000 in
theorem total_in (a : Option Addr) (ws : List Int) (ca : Nat) (w : World) (h : Rd w a ws) (h0 : 0 < ws.length) (n12 : ws.length ≤ 12) (hx : ∀ i, i < ws.length → 1 ≤ ws.getD i 0 ∧ ws.getD i 0 ≤ 1000) :
    Calls Tryz.prog 96 #[.slice a ws.length ca] w fun e w' => e = .returned (.int .i64 (M.allK ws ws.length)) ∧ w' = w := by
  obtain ⟨ba, oa, rfl, hba, hca⟩ := h.2 (by intro e; rw [e] at h0; simp at h0)
  have HC := hide hca
  have HX := hide hx
  have SB := hide (fun k (hk : k ≤ ws.length) => M.all_pos (ws := ws) k (fun i hi => hx i (by omega)))
  clear h hca hx hba h0
  go_enter Tryz.func96, Tryz.ntmps96
  go_wp2
  go_loopw [3, 8] (fun s i wr => ∃ k : Nat, k ≤ ws.length ∧ s = .int .i64 (M.allK ws k) ∧ i = .int .i64 k ∧ wr = w) (fun _ i _ => ws.length - (intOf i).toNat)
  case atStart => exact ⟨0, Nat.zero_le _, rfl, rfl, rfl⟩
  case round =>
    obtain ⟨k, hk, rfl, rfl, ew⟩ := hrel
    subst wr
    by_cases hlt : k < ws.length
    · have c1 := HC.out k hlt
      obtain ⟨x1, x2⟩ := HX.out k hlt
      obtain ⟨s1, s2⟩ := SB.out k hk
      have SS : Hid (M.allK ws k + ws.getD k 0 = M.allK ws (k + 1)) := rfl
      have kz : (k : Int) < (ws.length : Int) := by omega
      clear HC HX SB
      generalize ws.getD k 0 = x at *
      go_wp2_with (go_at_call 127; refine (add_in _ _ _ (by omega) (by omega) (by omega) (by omega)).mono ?_; rintro e w1 ⟨rfl, e1⟩; subst w1)
      go_roundw
      case rel => exact ⟨k + 1, by omega, by rw [SS.out], by go_num, (by first | rfl | trivial)⟩
      case measure => simp [intOf]; omega
    · have ek : k = ws.length := by omega
      have EE := hide ek
      clear ek HC HX SB
      go_wp2
      go_ret
      exact ⟨ret_int (by rw [EE.out]), rfl⟩

end Go.Proofs.YtlloiccodjnkcagGreatDoor

namespace Go.Proofs.YtlloiccodjnkcagGreatDoor
open Go.ChangeShapes Go.WideShapes Go.ChangeAt Go.RowKit Go.Lib
set_option linter.unusedVariables false

theorem xfit_any (n : Int) (w : World) :
    Calls Tryz.prog 125 #[.int .i64 n] w fun e w' => e = .returned (.int .i64 (M.fitI n)) ∧ w' = w := by
  rcases (show 1099511627776 < n ∨ n < -1099511627776 ∨ (-1099511627776 ≤ n ∧ n ≤ 1099511627776) from by omega) with h | h | ⟨h1, h2⟩
  · have E : Hid (1099511627776 = M.fitI n) := by unfold M.fitI; rw [if_pos h]; exact rfl
    go_enter Tryz.func125, Tryz.ntmps125
    go_wp2
    go_ret
    exact ⟨ret_int E.out, rfl⟩
  · have E : Hid (-1099511627776 = M.fitI n) := by unfold M.fitI; rw [if_neg (by omega), if_pos h]; exact rfl
    go_enter Tryz.func125, Tryz.ntmps125
    go_wp2
    go_ret
    exact ⟨ret_int E.out, rfl⟩
  · have E : Hid (n = M.fitI n) := (M.fit_id ⟨h1, h2⟩).symm
    go_enter Tryz.func125, Tryz.ntmps125
    go_wp2
    go_ret
    exact ⟨ret_int E.out, rfl⟩

theorem xadd_any (a b : Int) (w : World) :
    Calls Tryz.prog 127 #[.int .i64 a, .int .i64 b] w fun e w' => e = .returned (.int .i64 (M.addI a b)) ∧ w' = w := by
  obtain ⟨a1, a2⟩ := M.fit_le a
  obtain ⟨b1, b2⟩ := M.fit_le b
  go_enter Tryz.func127, Tryz.ntmps127
  go_wp2_with (go_at_call 125; refine (xfit_any _ _).mono ?_; rintro e w' ⟨rfl, rfl⟩)
  go_ret
  exact ⟨rfl, rfl⟩

set_option maxHeartbeats 1000000 in
theorem xsq_any (a : Int) (w : World) :
    Calls Tryz.prog 95 #[.int .i64 a, .int .i64 a] w fun e w' => e = .returned (.int .i64 (M.mulI a a)) ∧ w' = w := by
  obtain ⟨a1, a2⟩ := M.fit_le a
  rcases (show M.fitI a = 0 ∨ 0 < M.fitI a ∨ M.fitI a < 0 from by omega) with h0 | h0 | h0
  · have Z := hide (M.mul_zl (b := a) h0)
    go_enter Tryz.func95, Tryz.ntmps95
    go_wp2_with (go_at_call 125; refine (xfit_any _ _).mono ?_; rintro e w' ⟨rfl, rfl⟩)
    go_ret
    exact ⟨ret_int (by simpa using Z.out), rfl⟩
  · have hz : (M.fitI a == 0) = false := by simp; omega
    have hsa : decide (M.fitI a < 0) = false := by simp; omega
    have hs := M.sg_pp (x := M.fitI a) (y := M.fitI a) (by omega) (by omega)
    have Q := hide (M.quo_pp (y := M.fitI a) h0)
    by_cases ht : M.fitI a ≤ 1099511627776 / M.fitI a
    · have hm : M.fitI a * M.fitI a ≤ 1099511627776 := Q.out ▸ ht
      go_enter Tryz.func95, Tryz.ntmps95
      go_wp2_with (first | (go_at_call 125; refine (xfit_any _ _).mono ?_; rintro e w' ⟨rfl, rfl⟩) | (go_at_call 126; refine (size_pos _ _ (by omega) (by omega)).mono ?_; rintro e w' ⟨rfl, rfl⟩))
      go_ret
      exact ⟨ret_int (M.mul_in (by omega) (by omega)), rfl⟩
    · have hm : ¬ M.fitI a * M.fitI a ≤ 1099511627776 := Q.out ▸ ht
      have hd : decide (M.fitI a ≤ 1099511627776 / M.fitI a) = false := by simpa using ht
      go_enter Tryz.func95, Tryz.ntmps95
      go_wp2_with (first | (go_at_call 125; refine (xfit_any _ _).mono ?_; rintro e w' ⟨rfl, rfl⟩) | (go_at_call 126; refine (size_pos _ _ (by omega) (by omega)).mono ?_; rintro e w' ⟨rfl, rfl⟩))
      go_ret
      exact ⟨ret_int (M.mul_hi (by omega)), rfl⟩
  · have hz : (M.fitI a == 0) = false := by simp; omega
    have hsa : decide (M.fitI a < 0) = true := by simp; omega
    obtain ⟨X, hX⟩ : ∃ X, -M.fitI a = X := ⟨_, rfl⟩
    have x1 : 0 < X := by omega
    have x2 : X ≤ 1099511627776 := by omega
    have hs := M.sg_nn (x := M.fitI a) (y := M.fitI a) (by omega) (by omega)
    have Q := hide (M.quo_nn (y := M.fitI a) h0)
    rw [hX] at Q
    have HX := hide hX
    clear hX
    by_cases ht : X ≤ 1099511627776 / X
    · have hm : M.fitI a * M.fitI a ≤ 1099511627776 := Q.out ▸ ht
      go_enter Tryz.func95, Tryz.ntmps95
      go_wp2_with (first | (go_at_call 125; refine (xfit_any _ _).mono ?_; rintro e w' ⟨rfl, rfl⟩) | (go_at_call 126; refine (size_neg _ X _ HX (by omega) (by omega)).mono ?_; rintro e w' ⟨rfl, rfl⟩))
      go_ret
      exact ⟨ret_int (M.mul_in (by omega) (by omega)), rfl⟩
    · have hm : ¬ M.fitI a * M.fitI a ≤ 1099511627776 := Q.out ▸ ht
      have hd : decide (X ≤ 1099511627776 / X) = false := by simpa using ht
      go_enter Tryz.func95, Tryz.ntmps95
      go_wp2_with (first | (go_at_call 125; refine (xfit_any _ _).mono ?_; rintro e w' ⟨rfl, rfl⟩) | (go_at_call 126; refine (size_neg _ X _ HX (by omega) (by omega)).mono ?_; rintro e w' ⟨rfl, rfl⟩))
      go_ret
      exact ⟨ret_int (M.mul_hi (by omega)), rfl⟩

theorem M.tot_step {L : List Int} {k : Nat} (hk : k < L.length) : M.totalI (L.take (k + 1)) = M.addI (M.totalI (L.take k)) (L.getD k 0) := by
  unfold M.totalI
  rw [List.take_succ_eq_append_getElem hk, List.foldl_append, M.getD_at hk]
  rfl

set_option maxHeartbeats 2000000 in
theorem xtotal_any (a : Option Addr) (xs : List Int) (ca : Nat) (w : World) (h : Rd w a xs) :
    Calls Tryz.prog 96 #[.slice a xs.length ca] w fun e w' => e = .returned (.int .i64 (M.totalI xs)) ∧ w' = w := by
  have hm : xs.length ≤ 9223372036854775807 := h.1
  have HR := hide h
  have TM : Hid (∀ k, k < xs.length → M.totalI (xs.take (k + 1)) = M.addI (M.totalI (xs.take k)) (xs.getD k 0)) := fun k hk => M.tot_step hk
  clear h
  go_enter Tryz.func96, Tryz.ntmps96
  go_wp2
  go_loopw [3, 8] (fun u i wr => ∃ k : Nat, k ≤ xs.length ∧ i = .int .i64 k ∧ u = .int .i64 (M.totalI (xs.take k)) ∧ Hid (wr = w)) (fun _ i _ => xs.length - (intOf i).toNat)
  case atStart => exact ⟨0, Nat.zero_le _, rfl, rfl, rfl⟩
  case round =>
    obtain ⟨k, hk, rfl, rfl, E⟩ := hrel
    have e := E.out
    subst e
    by_cases hlt : k < xs.length
    · obtain ⟨b, off, rfl, hb, hc⟩ := HR.out.2 (by intro e; rw [e] at hlt; simp at hlt)
      have hx := hc k hlt
      have kz : (k : Int) < (xs.length : Int) := by omega
      have N := hide (TM.out k hlt)
      clear hc TM
      generalize M.totalI (xs.take k) = t at *
      generalize xs.getD k 0 = x at *
      go_wp2_with (go_at_call 127; refine (xadd_any t x _).mono ?_; rintro e w1 ⟨rfl, e1⟩; have e2 := e1.symm; subst e2)
      go_roundw
      case rel => exact ⟨k + 1, by omega, by go_num, by rw [N.out], (by first | rfl | trivial)⟩
      case measure => simp [intOf]; omega
    · have tk : xs.take k = xs := List.take_of_length_le (by omega)
      have kz : ¬ ((k : Int) < (xs.length : Int)) := by omega
      rw [tk]
      clear TM tk
      go_wp2
      go_ret
      exact ⟨rfl, (by first | rfl | trivial)⟩

end Go.Proofs.YtlloiccodjnkcagGreatDoor

namespace Go.Proofs.YtlloiccodjnkcagGreatDoor.M
set_option linter.unusedVariables false

theorem bo_round {m dp k : Nat} {share : Int} {l : List Sa} {L : List BT} {R : List Int} {e : Bool} (h : GoodS l m) (hl : 0 < l.length) (s1 : 1 ≤ share) (s2 : share ≤ 100) (hd : dp ≤ 4) (hk : k ≤ 8) (I : BoI m dp l k (L, R, e)) :
    R.length = l.length ∧ (∀ x ∈ R, -10000 ≤ x ∧ x ≤ 10000) ∧ (boT m dp share l R).size ≤ 31 ∧ Fair (lay (boT m dp share l R) 0) (m : Int) ∧ inV 1000 (growT m 1 dp (lesS l R)) ∧ ∀ s ∈ l, nv (nAt (lay (boT m dp share l R) 0) (toD (lay (boT m dp share l R) 0) s.1 0)) = evB (boT m dp share l R) s.1 ∧ -1000 ≤ evB (boT m dp share l R) s.1 ∧ evB (boT m dp share l R) s.1 ≤ 1000 := by
  have rl : R.length = l.length := I.len
  have G := les_good h rl
  have ll : 0 < (lesS l R).length := by rw [les_len l _ rl]; exact hl
  have gi := grow_in (m := m) (least := 1) (Int.le_refl _) dp G ll
  have go := grow_ok (m := m) (least := 1) (Int.le_refl _) dp G ll
  have gd := grow_deep m 1 dp (lesS l R)
  have bi : inV 1000 (boT m dp share l R) := sc_in (fun v a b => shr_in s1 s2 v a b) _ gi
  have bo : okB (m : Int) (boT m dp share l R) := sc_ok (fun v a b => by have := shr_in s1 s2 v a b; exact out_in (by omega) (by omega)) _ go gi
  have p : 2 ^ (dp + 1) ≤ 2 ^ (4 + 1) := Nat.pow_le_pow_right (by omega) (by omega)
  have bs : (boT m dp share l R).size ≤ 31 := by unfold boT; rw [sc_size]; have := gd.2; omega
  have bd : (boT m dp share l R).deep ≤ 4 := by unfold boT; rw [sc_deep]; have := gd.1; omega
  have m8 := h.m8
  have tr : (treeF (lay (boT m dp share l R) 0) (m : Int)).2 = 0 := lay_tree bo (by omega) (by omega) (by omega) (by omega)
  refine ⟨rl, fun x hx => ?_, bs, (tree_ok tr).1, gi, fun s hs => ?_⟩
  · obtain ⟨i, hi, rfl⟩ := List.getElem_of_mem hx
    have hi' : i < l.length := by omega
    have e := I.rest i hi'
    have e2 : R.getD i 0 = R[i] := getD_at hi
    have hm : sAt l i ∈ l := by unfold sAt; rw [getD_at hi']; exact List.getElem_mem hi'
    have t := (h.each _ hm).2.2.1
    have a := allB_in (x := (sAt l i).1) (L := L) (fun T hT => (I.each T hT).2.1)
    have tk : L.length ≤ k + 1 := I.tk
    have e' : R.getD i 0 = (sAt l i).2 - allB L (sAt l i).1 := e
    omega
  · obtain ⟨z1, z2, z3, z4⟩ := h.each s hs
    have q := lay_eval (T := boT m dp share l R) (r := s.1) (by rw [z2]; exact bo) (by rw [z2]; exact tr) z1
    have ev := q.2
    unfold evalV at ev
    rw [if_pos q.1] at ev
    exact ⟨ev, in_ev s.1 _ bi⟩
/-- what is left then, one by one -/
theorem less_more {T : BT} {l : List Sa} {R : List Int} (h : R.length = l.length) {j : Nat} (hj : j < l.length) : (lessL T l R).take (j + 1) = (lessL T l R).take j ++ [R.getD j 0 - evB T (sAt l j).1] := by
  have ln := less_len T l R h
  rw [List.take_succ_eq_append_getElem (by omega), ← less_at T l R h j hj, getD_at (by omega)]
theorem less_in {T : BT} {l : List Sa} {R : List Int} (h : R.length = l.length) (hR : ∀ x ∈ R, -10000 ≤ x ∧ x ≤ 10000) (hT : ∀ s ∈ l, -1000 ≤ evB T s.1 ∧ evB T s.1 ≤ 1000) : ∀ x ∈ lessL T l R, -100000 ≤ x ∧ x ≤ 100000 := fun x hx => by
  obtain ⟨i, hi, rfl⟩ := List.getElem_of_mem hx
  have ln := less_len T l R h
  have e := less_at T l R h i (by omega)
  rw [getD_at hi, getD_at (by omega)] at e
  have r := hR R[i] (List.getElem_mem _)
  have hm : sAt l i ∈ l := by unfold sAt; rw [getD_at (by omega)]; exact List.getElem_mem _
  have t := hT _ hm
  omega
theorem bo_end {m dp : Nat} {share : Int} {l : List Sa} {k : Nat} {L : List BT} {R : List Int} (h : boR m dp share l k = (L, R, false)) (hq : sqs R ≤ sqs (lessL (boT m dp share l R) l R)) : boR m dp share l (k + 1) = (L, R, true) := by
  show boN m dp share l (boR m dp share l k) = _
  rw [h]
  unfold boN
  rw [if_neg (show ¬ (false = true) by decide), if_pos hq]
theorem bo_on {m dp : Nat} {share : Int} {l : List Sa} {k : Nat} {L : List BT} {R : List Int} (h : boR m dp share l k = (L, R, false)) (hq : ¬ sqs R ≤ sqs (lessL (boT m dp share l R) l R)) : boR m dp share l (k + 1) = (L ++ [boT m dp share l R], lessL (boT m dp share l R) l R, false) := by
  show boN m dp share l (boR m dp share l k) = _
  rw [h]
  unfold boN
  rw [if_neg (show ¬ (false = true) by decide), if_neg hq]
/-- what has ended stays -/
theorem bo_stay {m dp : Nat} {share : Int} {l : List Sa} {k : Nat} (h : (boR m dp share l k).2.2 = true) : ∀ j, boR m dp share l (k + j) = boR m dp share l k
  | 0 => rfl
  | j + 1 => by
    have ih := bo_stay h j
    show boN m dp share l (boR m dp share l (k + j)) = _
    rw [ih]
    unfold boN
    rw [if_pos h]

end Go.Proofs.YtlloiccodjnkcagGreatDoor.M

namespace Go.Proofs.YtlloiccodjnkcagGreatDoor
open Go.ChangeShapes Go.WideShapes Go.ChangeAt Go.RowKit
set_option linter.unusedVariables false

theorem infoN : (Tryz.prog.info? 64).map (fun i => (i.zero, i.size, i.bytes)) = some (some (.agg #[.int .i64 0, .int .i64 0, .int .i64 0, .int .i64 0, .bool false, .int .i64 0]), 6, 48) := by kernel_rfl
def ndCells (ts : List M.Nd) : List Value := ts.flatMap fun n => [.int .i64 (M.nf n), .int .i64 (M.nc n), .int .i64 (M.nl n), .int .i64 (M.nr n), .bool (M.ns n), .int .i64 (M.nv n)]
theorem ndCells_cons (n : M.Nd) (t : List M.Nd) : ndCells (n :: t) = .int .i64 (M.nf n) :: .int .i64 (M.nc n) :: .int .i64 (M.nl n) :: .int .i64 (M.nr n) :: .bool (M.ns n) :: .int .i64 (M.nv n) :: ndCells t := rfl
theorem ndCells_len (ts : List M.Nd) : (ndCells ts).length = ts.length * 6 := by
  induction ts with
  | nil => rfl
  | cons x t ih => rw [ndCells_cons]; simp only [List.length_cons, ih]; omega
theorem ndCells_one (ts : List M.Nd) : ∀ v ∈ ndCells ts, v.oneCell' = true := by
  intro v hv
  simp only [ndCells, List.mem_flatMap] at hv
  obtain ⟨s, _, hs⟩ := hv
  simp only [List.mem_cons, List.not_mem_nil, or_false] at hs
  rcases hs with rfl | rfl | rfl | rfl | rfl | rfl <;> rfl
theorem ndCells_at : ∀ (ts : List M.Nd) (i : Nat), i < ts.length → (ndCells ts)[i * 6]? = some (.int .i64 (M.nf (M.nAt ts i))) ∧ (ndCells ts)[i * 6 + 1]? = some (.int .i64 (M.nc (M.nAt ts i))) ∧ (ndCells ts)[i * 6 + 2]? = some (.int .i64 (M.nl (M.nAt ts i))) ∧ (ndCells ts)[i * 6 + 3]? = some (.int .i64 (M.nr (M.nAt ts i))) ∧ (ndCells ts)[i * 6 + 4]? = some (.bool (M.ns (M.nAt ts i))) ∧ (ndCells ts)[i * 6 + 5]? = some (.int .i64 (M.nv (M.nAt ts i)))
  | [], i, h => by simp at h
  | s :: t, 0, h => ⟨rfl, rfl, rfl, rfl, rfl, rfl⟩
  | s :: t, i + 1, h => by
    have := ndCells_at t i (by simpa using h)
    have e : M.nAt (s :: t) (i + 1) = M.nAt t i := by simp [M.nAt]
    rw [ndCells_cons, e, show (i + 1) * 6 = i * 6 + 1 + 1 + 1 + 1 + 1 + 1 by omega]
    simpa using this
theorem nd_src {w : World} {b off : Nat} {ts : List M.Nd} (hc : ∀ i, i < ts.length → SixAt w b (off + i * 6) (M.nAt ts i)) : ∀ j u, (ndCells ts)[j]? = some u → w.cell? ((⟨b, off, none⟩ : Addr).add j) = some u := by
  intro j u hj
  have hl : j < ts.length * 6 := by
    have := (List.getElem?_eq_some_iff.1 hj).1
    rwa [ndCells_len] at this
  have hi : j / 6 < ts.length := by omega
  obtain ⟨h0, h1, h2, h3, h4, h5⟩ := hc _ hi
  obtain ⟨q0, q1, q2, q3, q4, q5⟩ := ndCells_at ts _ hi
  rw [add_flat]
  rcases (show j = j / 6 * 6 ∨ j = j / 6 * 6 + 1 ∨ j = j / 6 * 6 + 2 ∨ j = j / 6 * 6 + 3 ∨ j = j / 6 * 6 + 4 ∨ j = j / 6 * 6 + 5 by omega) with e | e | e | e | e | e
  · rw [e] at hj ⊢; rw [q0] at hj; rw [← hj]; simpa [Nat.mul_div_cancel] using h0
  · rw [e] at hj ⊢; rw [show (j / 6 * 6 + 1) = j / 6 * 6 + 1 from rfl] at hj; rw [q1] at hj; rw [← hj, ← Nat.add_assoc]; exact h1
  · rw [e] at hj ⊢; rw [q2] at hj; rw [← hj, ← Nat.add_assoc]; exact h2
  · rw [e] at hj ⊢; rw [q3] at hj; rw [← hj, ← Nat.add_assoc]; exact h3
  · rw [e] at hj ⊢; rw [q4] at hj; rw [← hj, ← Nat.add_assoc]; exact h4
  · rw [e] at hj ⊢; rw [q5] at hj; rw [← hj, ← Nat.add_assoc]; exact h5
theorem own_rdN {w : World} {base n : Nat} {v : Value} {ts : List M.Nd} (hn : ts.length = n) (hm : n ≤ maxLen) (h : w.ownsRow base 64 6 v n (ndCells ts)) : ∃ a cap, v = .slice a n cap ∧ RdN w a ts ∧ (∀ p, a = some p → base ≤ p.block) := by
  subst hn
  rcases h.2 with ⟨hv, h0⟩ | ⟨g, cap, cur, hv, hb, hg, h1, h2, h3, h4⟩
  · have e : ts = [] := List.length_eq_zero_iff.1 h0
    subst e
    exact ⟨none, 0, hv, ⟨Nat.zero_le _, fun h => absurd rfl h⟩, fun p hp => by cases hp⟩
  · subst hv
    refine ⟨_, cap, rfl, ⟨hm, fun _ => ⟨g, 0, rfl, (Array.getElem?_eq_some_iff.1 hg).1, fun i hi => ?_⟩⟩, fun p hp => by cases hp; exact hb⟩
    obtain ⟨q0, q1, q2, q3, q4, q5⟩ := ndCells_at ts i hi
    rw [Nat.zero_add]
    exact ⟨(h.cellAt (i * 6) (by omega)).trans q0, (h.cellAt (i * 6 + 1) (by omega)).trans q1, (h.cellAt (i * 6 + 2) (by omega)).trans q2, (h.cellAt (i * 6 + 3) (by omega)).trans q3, (h.cellAt (i * 6 + 4) (by omega)).trans q4, (h.cellAt (i * 6 + 5) (by omega)).trans q5⟩

end Go.Proofs.YtlloiccodjnkcagGreatDoor

namespace Go.Proofs.YtlloiccodjnkcagGreatDoor
open Go.ChangeShapes Go.WideShapes Go.ChangeAt Go.RowKit
set_option linter.unusedVariables false

theorem ndCells_app (a b : List M.Nd) : ndCells (a ++ b) = ndCells a ++ ndCells b := by unfold ndCells; rw [List.flatMap_append]
theorem ndCells_set2 : ∀ (ts : List M.Nd) (i : Nat), i < ts.length → ∀ l r : Int, ((ndCells ts).set (i * 6 + 2) (.int .i64 l)).set (i * 6 + 3) (.int .i64 r) = ndCells (ts.set i (M.nf (M.nAt ts i), M.nc (M.nAt ts i), l, r, M.ns (M.nAt ts i), M.nv (M.nAt ts i)))
  | [], i, h, l, r => by simp at h
  | n :: t, 0, h, l, r => rfl
  | n :: t, i + 1, h, l, r => by
    have ih := ndCells_set2 t i (by simpa using h) l r
    have e : M.nAt (n :: t) (i + 1) = M.nAt t i := by simp [M.nAt]
    rw [e, List.set_cons_succ, ndCells_cons, ndCells_cons, ← ih, show (i + 1) * 6 + 2 = (i * 6 + 2) + 1 + 1 + 1 + 1 + 1 + 1 by omega, show (i + 1) * 6 + 3 = (i * 6 + 3) + 1 + 1 + 1 + 1 + 1 + 1 by omega]
    simp only [List.set_cons_succ]

theorem ndCells_setL : ∀ (ts : List M.Nd) (i : Nat), i < ts.length → ∀ l : Int, (ndCells ts).set (i * 6 + 2) (.int .i64 l) = ndCells (ts.set i (M.nf (M.nAt ts i), M.nc (M.nAt ts i), l, M.nr (M.nAt ts i), M.ns (M.nAt ts i), M.nv (M.nAt ts i)))
  | [], i, h, l => by simp at h
  | n :: t, 0, h, l => rfl
  | n :: t, i + 1, h, l => by
    have ih := ndCells_setL t i (by simpa using h) l
    have e : M.nAt (n :: t) (i + 1) = M.nAt t i := by simp [M.nAt]
    rw [e, List.set_cons_succ, ndCells_cons, ndCells_cons, ← ih, show (i + 1) * 6 + 2 = (i * 6 + 2) + 1 + 1 + 1 + 1 + 1 + 1 by omega]
    simp only [List.set_cons_succ]
theorem ndCells_setR : ∀ (ts : List M.Nd) (i : Nat), i < ts.length → ∀ r : Int, (ndCells ts).set (i * 6 + 3) (.int .i64 r) = ndCells (ts.set i (M.nf (M.nAt ts i), M.nc (M.nAt ts i), M.nl (M.nAt ts i), r, M.ns (M.nAt ts i), M.nv (M.nAt ts i)))
  | [], i, h, r => by simp at h
  | n :: t, 0, h, r => rfl
  | n :: t, i + 1, h, r => by
    have ih := ndCells_setR t i (by simpa using h) r
    have e : M.nAt (n :: t) (i + 1) = M.nAt t i := by simp [M.nAt]
    rw [e, List.set_cons_succ, ndCells_cons, ndCells_cons, ← ih, show (i + 1) * 6 + 3 = (i * 6 + 3) + 1 + 1 + 1 + 1 + 1 + 1 by omega]
    simp only [List.set_cons_succ]
theorem grown_trans {a b c : World} {r s : Option Nat} (h : a.grownBy b r) (k : b.grownBy c s) (hs : s = r ∨ ∀ q, s = some q → a.heap.size ≤ q) : a.grownBy c r :=
  ⟨k.os.trans h.os, k.tape.trans h.tape, k.output.trans h.output, Nat.le_trans h.size k.size, fun q hq hn => (k.block q (Nat.lt_of_lt_of_le hq h.size) (fun e => by
    rcases hs with q1 | q1
    · exact hn (by rw [e, q1])
    · have := q1 q e.symm; omega)).trans (h.block q hq hn)⟩
theorem grown_drew {a b : World} {r : Option Nat} (h : a.grownBy b r) : a.grownBy b.drew r := ⟨h.os, h.tape, h.output, h.size, h.block⟩
theorem grown_set {W : World} {g o : Nat} {u : Value} : W.grownBy (W.setCell ⟨g, o, none⟩ u) (some g) :=
  ⟨rfl, rfl, rfl, by simp, fun q hq hn => Below.heap_setCell _ _ _ _ (fun e => hn (by rw [e]))⟩
theorem grown_undrew {a b : World} {r : Option Nat} (h : a.drew.grownBy b r) : a.grownBy b r := ⟨h.os, h.tape, h.output, h.size, h.block⟩
theorem grown_of {a b : World} (h : Below a.heap.size a b) (r : Option Nat) : a.grownBy b r := ⟨h.os, h.tape, h.output, h.size, fun k hk _ => h.block k hk⟩
theorem nAt_snoc (O : List M.Nd) (n : M.Nd) (C : List M.Nd) : M.nAt (O ++ n :: C) O.length = n := by unfold M.nAt; simp [List.getD]
theorem set_snoc (O : List M.Nd) (n n' : M.Nd) (C : List M.Nd) : (O ++ n :: C).set O.length n' = O ++ n' :: C := by
  rw [List.set_append_right _ _ (Nat.le_refl _), Nat.sub_self, List.set_cons_zero]
theorem own_low {w : World} {base base' e size n : Nat} {v : Value} {l : List Value} (hb : base' ≤ base) (h : w.ownsRow base e size v n l) : w.ownsRow base' e size v n l := by
  refine ⟨h.1, ?_⟩
  rcases h.2 with h0 | ⟨g, cap, cur, hv, hg, rest⟩
  · exact .inl h0
  · exact .inr ⟨g, cap, cur, hv, by omega, rest⟩

end Go.Proofs.YtlloiccodjnkcagGreatDoor
