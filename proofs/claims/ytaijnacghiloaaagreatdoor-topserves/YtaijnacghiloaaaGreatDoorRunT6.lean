/-
  Several texts as one: ForMa, MathB, MathK, Put6, TLeft, GFix, MathD, MathE.
-/
import Derived.Test.YtaijnacghiloaaaGreatDoorRunT4
import Derived.Test.YtaijnacghiloaaaGreatDoorRunT2
import Derived.Test.YtaijnacghiloaaaGreatDoorRunT5
import Derived.Deep.RegionWith
import Derived.RegionTactic
import Derived.Test.YtaijnacghiloaaaGreatDoorRunT1
namespace Go.Proofs.YtaijnacghiloaaaGreatDoor.M
set_option linter.unusedVariables false
structure DI (S : Sh) (c : Ca) (a : An) : Prop where
  f : callF c = 0
  le : c.seq ≤ (was S c.ses).seq
  eq : c.seq = (was S c.ses).seq → (was S c.ses).ans = a ∧ (was S c.ses).bad = 0
  ix : a.idx ≤ S.idx
theorem DI.new {X : Fl} (ok : FlOk X) {c : Ca} (lok : LgOk X.L) (nb : ∀ x ∈ c.name, x < 256) (bb : ∀ x ∈ c.bys, x < 256) (z : (doX X c).2.1 = 0) : DI (doX X c).2.2.S c (doX X c).1 := by
  obtain ⟨_, d2, _⟩ := do_fl ok lok nb bb
  rw [d2]
  cases hl : X.lost with
  | true =>
    have e : doX X c = (an0, 9, X) := by unfold doX; rw [hl, if_pos rfl]
    rw [e] at z; cases z
  | false =>
    cases hc : cntB X.S c with
    | true =>
      by_cases k : kpF X c = 0
      · have e : doX X c = ((shDo X.S c).1, (shDo X.S c).2.1, ⟨kpX X c, X.m + 1, false, X.ks⟩) := by unfold doX; rw [hl, if_neg (by decide), hc, if_pos rfl, if_neg (by simpa using k)]
        rw [e] at z ⊢
        rw [if_pos ⟨rfl, rfl, k⟩]
        have z' : (shDo X.S c).2.1 = 0 := z
        show DI (shDo X.S c).2.2 c (shDo X.S c).1
        rw [cnt_do_is hc] at z' ⊢
        have e := was_cnt X.S c
        have z2 : (act X.S c).2.1 = 0 := z'
        rcases cnt_ways X.S c with ⟨_, cf, _⟩ | ⟨y, _⟩
        · refine ⟨cf, by rw [e]; exact Int.le_refl _, fun _ => by rw [e]; exact ⟨rfl, z2⟩, ?_⟩
          show (if (act X.S c).2.1 = 0 then (⟨(act X.S c).1, X.S.idx + 1⟩ : An) else an0).idx ≤ X.S.idx + 1
          rw [if_pos z2]
          exact Int.le_refl _
        · rw [hc] at y; cases y
      · have e : doX X c = (an0, kpF X c, ⟨kpX X c, X.m, decide (kpF X c = 9), X.ks⟩) := by unfold doX; rw [hl, if_neg (by decide), hc, if_pos rfl, if_pos k]
        rw [e] at z; exact absurd z k
    | false =>
      have e : doX X c = ((shDo X.S c).1, (shDo X.S c).2.1, X) := by unfold doX; rw [hl, if_neg (by decide), hc, if_neg (by decide)]
      rw [e] at z ⊢
      rw [if_neg (fun y => by cases y.2.1)]
      show DI X.S c (shDo X.S c).1
      have z' : (shDo X.S c).2.1 = 0 := z
      by_cases f : callF c = 0
      · rw [do_is f] at z' ⊢
        by_cases q : (was X.S c.ses).seq = c.seq
        · rw [if_pos q] at z' ⊢
          refine ⟨f, by omega, fun _ => ⟨rfl, z'⟩, ?_⟩
          have sq := (call_seq f).2.2.1
          have sok : ShOk X.S := (shAll_idx _ _ ok_zero).2
          show (was X.S c.ses).ans.idx ≤ X.S.idx
          have z3 : (was X.S c.ses).bad = 0 := z'
          unfold was at q z3 ⊢
          cases hl2 : lastN X.S c.ses with
          | none =>
            rw [hl2] at q
            have : (0 : Int) = c.seq := q
            omega
          | some k =>
            rw [hl2] at z3
            have m := find_more _ _ _ _ hl2
            rw [Nat.sub_zero] at m
            have mem : X.S.done.getD k dn0 ∈ X.S.done := by rw [List.getD, List.getElem?_eq_getElem m.2.1]; exact List.getElem_mem m.2.1
            exact (sok.ans _ mem z3).2
        · rw [if_neg q] at z'
          by_cases q2 : c.seq < (was X.S c.ses).seq
          · rw [if_pos q2] at z'; cases z'
          · exfalso
            rcases cnt_ways X.S c with ⟨y, _⟩ | ⟨_, y⟩
            · rw [hc] at y; cases y
            · rcases y with y | y | y
              · exact y f
              · exact q y
              · exact q2 y
      · unfold shDo at z'
        rw [if_pos f] at z'
        exact absurd z' f
structure Sml (c : Ca) : Prop where
  bl : c.bys.length ≤ 1000
  nm : 0 ≤ c.num ∧ c.num ≤ 1000000
  sh : 0 ≤ c.share ∧ c.share ≤ 1000000
structure Relab (t L : List Nd) (s : Nat → Nat) : Prop where
  len : L.length = t.length
  lt : ∀ p, p < t.length → s p < t.length
  inj : ∀ p q, p < t.length → q < t.length → s p = s q → p = q
  zero : s 0 = 0
  f : ∀ p, p < t.length → nf (nAt L p) = nf (nAt t (s p))
  c : ∀ p, p < t.length → nc (nAt L p) = nc (nAt t (s p))
  e : ∀ p, p < t.length → ns (nAt L p) = ns (nAt t (s p))
  v : ∀ p, p < t.length → nv (nAt L p) = nv (nAt t (s p))
  leaf : ∀ p, p < t.length → nf (nAt t (s p)) = -1 → nl (nAt L p) = nl (nAt t (s p)) ∧ nr (nAt L p) = nr (nAt t (s p))
  l : ∀ p, p < t.length → nf (nAt t (s p)) ≠ -1 → ∃ a : Nat, nl (nAt L p) = a ∧ p < a ∧ a < t.length ∧ nl (nAt t (s p)) = (s a : Nat)
  r : ∀ p, p < t.length → nf (nAt t (s p)) ≠ -1 → ∃ a : Nat, nr (nAt L p) = a ∧ p < a ∧ a < t.length ∧ nr (nAt t (s p)) = (s a : Nat)
theorem nodup_len : ∀ (n : Nat) (l : List Nat), l.Nodup → (∀ x ∈ l, x < n) → l.length ≤ n
  | 0, l, _, h => by
    cases l with
    | nil => exact Nat.le_refl _
    | cons x t => exact absurd (h x (by simp)) (by omega)
  | n + 1, l, hd, h => by
    by_cases hm : n ∈ l
    · have := nodup_len n (l.erase n) (hd.erase n) (fun x hx => by
        have := (hd.mem_erase_iff).1 hx
        have := h x this.2
        omega)
      rw [List.length_erase_of_mem hm] at this
      omega
    · have := nodup_len n l hd (fun x hx => by
        have := h x hx
        have : x ≠ n := fun e => hm (e ▸ hx)
        omega)
      omega
theorem Relab.perm {t L : List Nd} {s : Nat → Nat} (h : Relab t L s) : ((List.range t.length).map s).Perm (List.range t.length) := by
  have nd : ((List.range t.length).map s).Nodup := by
    rw [List.Nodup, List.pairwise_map]
    refine List.Pairwise.imp_of_mem ?_ (List.nodup_range (n := t.length))
    intro a b ha hb hab e
    exact hab (h.inj a b (by simpa using ha) (by simpa using hb) e)
  have sub : ∀ x ∈ (List.range t.length).map s, x < t.length := fun x hx => by
    obtain ⟨p, hp, rfl⟩ := List.mem_map.1 hx
    exact h.lt p (by simpa using hp)
  refine (List.perm_ext_iff_of_nodup nd List.nodup_range).2 (fun x => ⟨fun hx => by simpa using sub x hx, fun hx => ?_⟩)
  have hx' : x < t.length := by simpa using hx
  by_cases hm : x ∈ (List.range t.length).map s
  · exact hm
  · have := nodup_len t.length (x :: (List.range t.length).map s) (List.nodup_cons.2 ⟨hm, nd⟩) (fun y hy => by
      rcases List.mem_cons.1 hy with q | q
      · rw [q]; exact hx'
      · exact sub y q)
    simp at this
    omega
theorem list_range (t : List Nd) : t = (List.range t.length).map (nAt t) := by
  apply List.ext_getElem?
  intro i
  by_cases h : i < t.length
  · rw [List.getElem?_map, List.getElem?_range h, List.getElem?_eq_getElem h]
    simp [nAt_eq h]
  · rw [List.getElem?_eq_none (by omega), List.getElem?_eq_none (by simp; omega)]
theorem Relab.key {t L : List Nd} {s : Nat → Nat} (h : Relab t L s) {a j : Nat} (ha : a < t.length) (hj : j < t.length) : ((a : Int) = (j : Int)) ↔ ((s a : Nat) : Int) = ((s j : Nat) : Int) := by
  constructor
  · intro e
    have : a = j := by omega
    rw [this]
  · intro e
    have := h.inj a j ha hj (by omega)
    omega
theorem Relab.edge {t L : List Nd} {s : Nat → Nat} (h : Relab t L s) {p j : Nat} (hp : p < t.length) (hj : j < t.length) : edge (j : Nat) (nAt L p) = edge (s j : Nat) (nAt t (s p)) := by
  unfold M.edge
  rw [h.f p hp]
  by_cases hf : nf (nAt t (s p)) = -1
  · rw [if_pos hf, if_pos hf]
  · rw [if_neg hf, if_neg hf]
    obtain ⟨a, e1, _, a2, e2⟩ := h.l p hp hf
    obtain ⟨b, e3, _, b2, e4⟩ := h.r p hp hf
    rw [e1, e2, e3, e4]
    have k1 := h.key a2 hj
    have k2 := h.key b2 hj
    by_cases q1 : (a : Int) = j <;> by_cases q2 : (b : Int) = j
    · rw [if_pos q1, if_pos q2, if_pos (k1.1 q1), if_pos (k2.1 q2)]
    · rw [if_pos q1, if_neg q2, if_pos (k1.1 q1), if_neg (fun c => q2 (k2.2 c))]
    · rw [if_neg q1, if_pos q2, if_neg (fun c => q1 (k1.2 c)), if_pos (k2.1 q2)]
    · rw [if_neg q1, if_neg q2, if_neg (fun c => q1 (k1.2 c)), if_neg (fun c => q2 (k2.2 c))]
theorem Relab.ups {t L : List Nd} {s : Nat → Nat} (h : Relab t L s) {j : Nat} (hj : j < t.length) : ups L (j : Nat) = ups t (s j : Nat) := by
  have a : M.ups L (j : Nat) = ((List.range t.length).map fun p => M.edge (s j : Nat) (nAt t (s p))).sum := by
    unfold M.ups
    conv => lhs; rw [list_range L]
    rw [h.len, List.map_map]
    congr 1
    apply List.map_congr_left
    intro p hp
    exact h.edge (by simpa using hp) hj
  have b : M.ups t (s j : Nat) = ((List.range t.length).map fun p => M.edge (s j : Nat) (nAt t p)).sum := by
    unfold M.ups
    conv => lhs; rw [list_range t]
    rw [List.map_map]
    rfl
  rw [a, b]
  have := (h.perm.map (fun p => M.edge (s j : Nat) (nAt t p))).sum_nat
  rw [List.map_map] at this
  exact this
theorem Relab.node {t L : List Nd} {s : Nat → Nat} (h : Relab t L s) {m : Int} (ht : ∀ j, j < t.length → nodeF (nAt t j) j t.length m = 0) {p : Nat} (hp : p < t.length) : nodeF (nAt L p) p L.length m = 0 := by
  have hn := ht (s p) (h.lt p hp)
  unfold nodeF at hn ⊢
  rw [h.f p hp, h.len]
  by_cases hf : nf (nAt t (s p)) = -1
  · rw [if_pos hf] at hn ⊢
    unfold lfF at hn ⊢
    rw [h.v p hp, h.c p hp, h.e p hp, (h.leaf p hp hf).1, (h.leaf p hp hf).2]
    exact hn
  · rw [if_neg hf] at hn ⊢
    obtain ⟨a, e1, a1, a2, e2⟩ := h.l p hp hf
    obtain ⟨b, e3, b1, b2, e4⟩ := h.r p hp hf
    unfold asF at hn ⊢
    rw [h.f p hp, h.v p hp, h.c p hp]
    split at hn
    · cases hn
    · rename_i q1
      split at hn
      · cases hn
      · rename_i q2
        rw [if_neg, if_neg]
        · rw [e1, e3]
          intro c
          rcases c with c | c
          · exact q2 (.inl c)
          · have : a = b := by omega
            exact q2 (.inr (by rw [e2, e4, this]))
        · intro c
          rcases c with c | c | c | c | c
          · exact q1 (.inl c)
          · exact q1 (.inr (.inl c))
          · exact q1 (.inr (.inr (.inl c)))
          · rw [e1] at c; unfold inB at c; rw [decide_eq_true (by omega), decide_eq_true (by omega)] at c; cases c
          · rw [e3] at c; unfold inB at c; rw [decide_eq_true (by omega), decide_eq_true (by omega)] at c; cases c
theorem Relab.fair {t L : List Nd} {s : Nat → Nat} (h : Relab t L s) {m : Int} (F : Fair t m) : Fair L m := by
  obtain ⟨h1, h2, h3, h4, h5, h6⟩ := F
  refine ⟨by rw [h.len]; exact h1, by rw [h.len]; exact h2, h3, h4, fun j hj => h.node h5 (by rw [← h.len]; exact hj), fun j h0 hj => ?_⟩
  have hj' : j < t.length := by rw [← h.len]; exact hj
  rw [h.ups hj']
  refine h6 (s j) ?_ (h.lt j hj')
  rcases Nat.eq_zero_or_pos (s j) with q | q
  · have := h.inj j 0 hj' h2 (by rw [q, h.zero])
    omega
  · exact q
theorem Relab.dep {t L : List Nd} {s : Nat → Nat} (h : Relab t L s) : ∀ (k p : Nat), p < t.length → dep L k p = dep t k (s p)
  | 0, p, hp => rfl
  | k + 1, p, hp => by
    unfold M.dep
    rw [h.f p hp]
    by_cases hf : nf (nAt t (s p)) = -1
    · rw [if_pos hf, if_pos hf]
    · rw [if_neg hf, if_neg hf]
      obtain ⟨a, e1, a1, a2, e2⟩ := h.l p hp hf
      obtain ⟨b, e3, b1, b2, e4⟩ := h.r p hp hf
      rw [e1, e2, e3, e4, Int.toNat_natCast, Int.toNat_natCast, Int.toNat_natCast, Int.toNat_natCast, h.dep k a a2, h.dep k b b2]
theorem Relab.tree {t L : List Nd} {s : Nat → Nat} (h : Relab t L s) {m : Int} (hz : (treeF t m).2 = 0) : (treeF L m).2 = 0 := by
  obtain ⟨F, e⟩ := tree_ok hz
  have d : depth L 0 = depth t 0 := by
    unfold depth
    rw [h.len, h.dep _ 0 F.2.1, h.zero]
  rw [tree_fair (h.fair F), d, ← tree_fair F, e]
theorem Relab.go {t L : List Nd} {s : Nat → Nat} (h : Relab t L s) (r : List Int) : ∀ (k p : Nat), p < t.length → goD L r k p < t.length ∧ s (goD L r k p) = goD t r k (s p)
  | 0, p, hp => ⟨hp, rfl⟩
  | k + 1, p, hp => by
    unfold goD
    rw [h.f p hp]
    by_cases hf : nf (nAt t (s p)) = -1
    · rw [if_pos hf, if_pos hf]; exact ⟨hp, rfl⟩
    · rw [if_neg hf, if_neg hf]
      obtain ⟨a, e1, a1, a2, e2⟩ := h.l p hp hf
      obtain ⟨b, e3, b1, b2, e4⟩ := h.r p hp hf
      have lc : lessC (nAt L p) (r.getD (nf (nAt L p)).toNat 0) = lessC (nAt t (s p)) (r.getD (nf (nAt t (s p))).toNat 0) := by
        unfold lessC
        rw [h.f p hp, h.e p hp, h.c p hp]
      unfold nextI
      rw [lc]
      split
      · rw [e1, e2, Int.toNat_natCast, Int.toNat_natCast]; exact h.go r k a a2
      · rw [e3, e4, Int.toNat_natCast, Int.toNat_natCast]; exact h.go r k b b2
theorem Relab.ready {t L : List Nd} {s : Nat → Nat} (h : Relab t L s) {r : List Int} (hr : readyF t r = 0) : readyF L r = 0 := by
  have h1 := (ready_ok hr).1
  have h2 := (ready_ok hr).2
  unfold readyF
  rw [if_neg (by simp [h1])]
  exact h.tree h2
theorem Relab.eval {t L : List Nd} {s : Nat → Nat} (h : Relab t L s) {r : List Int} (hr : readyF t r = 0) : evalV L r = evalV t r := by
  have F := (tree_ok (ready_ok hr).2).1
  unfold evalV
  rw [if_pos hr, if_pos (h.ready hr)]
  unfold toD
  rw [h.len]
  obtain ⟨g1, g2⟩ := h.go r t.length 0 F.2.1
  rw [h.v _ g1, g2, h.zero]
def kids (n : Nd) : List Nat := if nf n = -1 then [] else [(nl n).toNat, (nr n).toNat]
def ordS (t : List Nd) : Nat → List Nat
  | 0 => [0]
  | i + 1 => ordS t i ++ kids (nAt t ((ordS t i).getD i 0))
theorem ord_pre (t : List Nd) (i : Nat) : ∀ k, ∃ x, ordS t (i + k) = ordS t i ++ x
  | 0 => ⟨[], by simp⟩
  | k + 1 => by
    obtain ⟨x, e⟩ := ord_pre t i k
    exact ⟨x ++ kids (nAt t ((ordS t (i + k)).getD (i + k) 0)), by rw [← List.append_assoc, ← e]; rfl⟩
theorem ord_at {t : List Nd} {i k p : Nat} (h : i ≤ k) (hp : p < (ordS t i).length) : (ordS t k).getD p 0 = (ordS t i).getD p 0 := by
  obtain ⟨x, e⟩ := ord_pre t i (k - i)
  rw [show i + (k - i) = k by omega] at e
  rw [e]
  simp [List.getD, List.getElem?_append_left hp]
theorem ord_len_mono {t : List Nd} {i k : Nat} (h : i ≤ k) : (ordS t i).length ≤ (ordS t k).length := by
  obtain ⟨x, e⟩ := ord_pre t i (k - i)
  rw [show i + (k - i) = k by omega] at e
  rw [e, List.length_append]; omega
theorem getD_mem' {l : List Nat} {i : Nat} (h : i < l.length) : l.getD i 0 ∈ l := by
  simp [List.getD, List.getElem?_eq_getElem h]
theorem mem_getB {l : List Nat} {x : Nat} (h : x ∈ l) : ∃ i, i < l.length ∧ l.getD i 0 = x := by
  obtain ⟨i, hi, e⟩ := List.getElem_of_mem h
  exact ⟨i, hi, by simp [List.getD, List.getElem?_eq_getElem hi, e]⟩
theorem nodup_at {l : List Nat} (h : l.Nodup) {i j : Nat} (hi : i < l.length) (hj : j < l.length) (e : l.getD i 0 = l.getD j 0) : i = j := by
  simp only [List.getD, List.getElem?_eq_getElem hi, List.getElem?_eq_getElem hj, Option.getD_some] at e
  rcases Nat.lt_trichotomy i j with q | q | q
  · exact absurd e (List.pairwise_iff_getElem.1 h i j hi hj q)
  · exact q
  · exact absurd e.symm (List.pairwise_iff_getElem.1 h j i hj hi q)
structure Ord (t : List Nd) (i : Nat) : Prop where
  nd : (ordS t i).Nodup
  lt : ∀ x ∈ ordS t i, x < t.length
  up : ∀ x ∈ ordS t i, x ≠ 0 → ∃ p, p < i ∧ chL (nAt t ((ordS t i).getD p 0)) (x : Nat)
  dn : ∀ p, p < i → ∀ x : Nat, chL (nAt t ((ordS t i).getD p 0)) (x : Nat) → x ∈ ordS t i
  le : i ≤ (ordS t i).length
theorem kids_mem {t : List Nd} {m : Int} (F : Fair t m) {i x : Nat} (hi : i < t.length) : x ∈ kids (nAt t i) ↔ chL (nAt t i) (x : Nat) := by
  unfold kids chL
  by_cases hf : nf (nAt t i) = -1
  · simp [hf]
  · obtain ⟨a, b, ea, eb, _⟩ := ask_at F.2.2.2.2.1 hi hf
    rw [if_neg hf, ea, eb]
    simp only [ne_eq, hf, not_false_eq_true, true_and, Int.toNat_natCast, List.mem_cons, List.not_mem_nil, or_false]
    omega
theorem ord_start {t : List Nd} {m : Int} (F : Fair t m) : Ord t 0 :=
  ⟨by simp [ordS], fun x hx => by have : x = 0 := by simpa [ordS] using hx
                                  rw [this]; exact F.2.1, fun x hx h0 => absurd (by simpa [ordS] using hx) h0, fun p hp => by omega, Nat.zero_le _⟩
theorem ord_step {t : List Nd} {m : Int} (F : Fair t m) {i : Nat} (h : Ord t i) (hi : i < (ordS t i).length) : Ord t (i + 1) := by
  have hx : (ordS t i).getD i 0 < t.length := h.lt _ (getD_mem' hi)
  have e : ordS t (i + 1) = ordS t i ++ kids (nAt t ((ordS t i).getD i 0)) := rfl
  have at' : ∀ p, p < i + 1 → (ordS t (i + 1)).getD p 0 = (ordS t i).getD p 0 := fun p hp => ord_at (by omega) (by omega)
  have fresh : ∀ x, x ∈ kids (nAt t ((ordS t i).getD i 0)) → x ∉ ordS t i := fun x hk hm => by
    have c := (kids_mem F hx).1 hk
    have x0 : 0 < x ∧ x < t.length := by
      obtain ⟨a, b, ea, eb, q⟩ := ask_at F.2.2.2.2.1 hx c.1
      rcases c.2 with c | c <;> omega
    obtain ⟨p, hp, cp⟩ := h.up x hm (by omega)
    have hpl : p < (ordS t i).length := by omega
    have := up_one (F.2.2.2.2.2 x x0.1 x0.2) (h.lt _ (getD_mem' hpl)) hx cp c
    have := nodup_at h.nd hpl hi this
    omega
  refine ⟨?_, ?_, ?_, ?_, ?_⟩
  · rw [e, List.nodup_append]
    refine ⟨h.nd, ?_, fun a ha b hb q => fresh b hb (q ▸ ha)⟩
    unfold kids
    by_cases hf : nf (nAt t ((ordS t i).getD i 0)) = -1
    · rw [if_pos hf]; exact List.nodup_nil
    · rw [if_neg hf]
      obtain ⟨a, b, ea, eb, q⟩ := ask_at F.2.2.2.2.1 hx hf
      rw [ea, eb]
      simp only [Int.toNat_natCast, List.nodup_cons, List.mem_singleton, List.not_mem_nil, not_false_eq_true, List.nodup_nil, and_true]
      omega
  · intro x hm
    rw [e] at hm
    rcases List.mem_append.1 hm with q | q
    · exact h.lt x q
    · have c := (kids_mem F hx).1 q
      obtain ⟨a, b, ea, eb, r⟩ := ask_at F.2.2.2.2.1 hx c.1
      rcases c.2 with c | c <;> omega
  · intro x hm h0
    rw [e] at hm
    rcases List.mem_append.1 hm with q | q
    · obtain ⟨p, hp, c⟩ := h.up x q h0
      exact ⟨p, by omega, by rw [at' p (by omega)]; exact c⟩
    · exact ⟨i, by omega, by rw [at' i (by omega)]; exact (kids_mem F hx).1 q⟩
  · intro p hp x c
    rw [at' p hp] at c
    rw [e]
    by_cases q : p = i
    · rw [q] at c
      exact List.mem_append.2 (.inr ((kids_mem F hx).2 c))
    · exact List.mem_append.2 (.inl (h.dn p (by omega) x c))
  · have := ord_len_mono (t := t) (show i ≤ i + 1 by omega)
    omega
theorem ord_full {t : List Nd} {m : Int} (F : Fair t m) {i : Nat} (h : Ord t i) (hi : (ordS t i).length = i) : i = t.length := by
  have all : ∀ n j, j < n → j < t.length → j ∈ ordS t i := by
    intro n
    induction n with
    | zero => intro j hj; omega
    | succ n ih =>
      intro j hj hl
      by_cases h0 : j = 0
      · subst h0
        obtain ⟨x, e⟩ := ord_pre t 0 i
        rw [show 0 + i = i by omega] at e
        rw [e]; simp [ordS]
      · obtain ⟨p, hp, c⟩ := up_some (F.2.2.2.2.2 j (by omega) hl)
        obtain ⟨a, b, ea, eb, q⟩ := ask_at F.2.2.2.2.1 hp c.1
        have hpj : p < j := by rcases c.2 with c | c <;> omega
        obtain ⟨k, hk, ek⟩ := mem_getB (ih p (by omega) (by omega))
        exact h.dn k (by omega) j (by rw [ek]; exact c)
  have p : (ordS t i).Perm (List.range t.length) := (List.perm_ext_iff_of_nodup h.nd List.nodup_range).2 (fun x => ⟨fun hx => by simpa using h.lt x hx, fun hx => all t.length x (by simpa using hx) (by simpa using hx)⟩)
  have := p.length_eq
  simp at this
  omega
theorem ord_all {t : List Nd} {m : Int} (F : Fair t m) : ∀ i, i ≤ t.length → Ord t i ∧ (i < t.length → i < (ordS t i).length)
  | 0, _ => ⟨ord_start F, fun _ => by simp [ordS]⟩
  | i + 1, hi => by
    obtain ⟨h, hl⟩ := ord_all F i (by omega)
    have h1 := ord_step F h (hl (by omega))
    refine ⟨h1, fun hlt => ?_⟩
    have := h1.le
    by_cases q : (ordS t (i + 1)).length = i + 1
    · have := ord_full F h1 q; omega
    · omega
theorem ord_end {t : List Nd} {m : Int} (F : Fair t m) : Ord t t.length ∧ (ordS t t.length).length = t.length := by
  have h := (ord_all F t.length (Nat.le_refl _)).1
  exact ⟨h, Nat.le_antisymm (nodup_len _ _ h.nd h.lt) h.le⟩
def reN (n : Nd) (a : Nat) : Nd := if nf n = -1 then n else (nf n, nc n, (a : Nat), (a : Nat) + 1, ns n, nv n)
def levK (t : List Nd) : Nat → List Nd
  | 0 => []
  | i + 1 => levK t i ++ [reN (nAt t ((ordS t i).getD i 0)) (ordS t i).length]
def levels (t : List Nd) : List Nd := levK t t.length
theorem levK_len (t : List Nd) : ∀ i, (levK t i).length = i
  | 0 => rfl
  | i + 1 => by unfold levK; simp [levK_len t i]
theorem levK_at (t : List Nd) : ∀ (i p : Nat), p < i → nAt (levK t i) p = reN (nAt t ((ordS t p).getD p 0)) (ordS t p).length
  | 0, p, h => by omega
  | i + 1, p, h => by
    unfold levK nAt
    by_cases e : p = i
    · subst e
      simp [List.getD, levK_len]
    · have := levK_at t i p (by omega)
      unfold nAt at this
      rw [← this]
      simp [List.getD, List.getElem?_append_left, levK_len, show p < i by omega]
theorem levels_relab {t : List Nd} {m : Int} (F : Fair t m) : Relab t (levels t) (fun p => (ordS t t.length).getD p 0) := by
  obtain ⟨E, hl⟩ := ord_end F
  have here : ∀ p, p < t.length → (ordS t p).getD p 0 = (ordS t t.length).getD p 0 := fun p hp => (ord_at (by omega) ((ord_all F p (by omega)).2 hp)).symm
  have at' : ∀ p, p < t.length → nAt (levels t) p = reN (nAt t ((ordS t t.length).getD p 0)) (ordS t p).length := fun p hp => by
    unfold levels
    rw [levK_at t t.length p hp, here p hp]
  have kid : ∀ p, p < t.length → nf (nAt t ((ordS t t.length).getD p 0)) ≠ -1 → p < (ordS t p).length ∧ (ordS t p).length + 1 < t.length ∧ nl (nAt t ((ordS t t.length).getD p 0)) = ((ordS t t.length).getD (ordS t p).length 0 : Nat) ∧ nr (nAt t ((ordS t t.length).getD p 0)) = ((ordS t t.length).getD ((ordS t p).length + 1) 0 : Nat) := fun p hp hf => by
    have hx : (ordS t t.length).getD p 0 < t.length := E.lt _ (getD_mem' (by omega))
    have e : ordS t (p + 1) = ordS t p ++ kids (nAt t ((ordS t t.length).getD p 0)) := by rw [← here p hp]; rfl
    have ek : kids (nAt t ((ordS t t.length).getD p 0)) = [(nl (nAt t ((ordS t t.length).getD p 0))).toNat, (nr (nAt t ((ordS t t.length).getD p 0))).toNat] := by unfold kids; rw [if_neg hf]
    rw [ek] at e
    have l1 : (ordS t (p + 1)).length = (ordS t p).length + 2 := by rw [e]; simp
    have l2 := ord_len_mono (t := t) (show p + 1 ≤ t.length by omega)
    have g1 := ord_at (t := t) (show p + 1 ≤ t.length by omega) (show (ordS t p).length < _ by rw [l1]; omega)
    have g2 := ord_at (t := t) (show p + 1 ≤ t.length by omega) (show (ordS t p).length + 1 < _ by rw [l1]; omega)
    obtain ⟨a, b, ea, eb, q⟩ := ask_at F.2.2.2.2.1 hx hf
    refine ⟨(ord_all F p (by omega)).2 hp, by omega, ?_, ?_⟩
    · rw [g1, e, ea]; simp [List.getD]
    · rw [g2, e, eb]; simp [List.getD]
  refine ⟨by unfold levels; exact levK_len t _, fun p hp => E.lt _ (getD_mem' (by omega)), fun p q hp hq e => nodup_at E.nd (by omega) (by omega) e, ?_, ?_, ?_, ?_, ?_, ?_, ?_, ?_⟩
  · have := ord_at (t := t) (i := 0) (k := t.length) (p := 0) (Nat.zero_le _) (by simp [ordS])
    rw [this]; rfl
  · intro p hp; rw [at' p hp]; unfold reN; split <;> rfl
  · intro p hp; rw [at' p hp]; unfold reN; split <;> rfl
  · intro p hp; rw [at' p hp]; unfold reN; split <;> rfl
  · intro p hp; rw [at' p hp]; unfold reN; split <;> rfl
  · intro p hp hf; rw [at' p hp]; unfold reN; rw [if_pos hf]; exact ⟨rfl, rfl⟩
  · intro p hp hf
    obtain ⟨k1, k2, k3, k4⟩ := kid p hp hf
    exact ⟨(ordS t p).length, by rw [at' p hp]; unfold reN; rw [if_neg hf]; rfl, k1, by omega, k3⟩
  · intro p hp hf
    obtain ⟨k1, k2, k3, k4⟩ := kid p hp hf
    exact ⟨(ordS t p).length + 1, by rw [at' p hp]; unfold reN; rw [if_neg hf]; show ((ordS t p).length : Int) + 1 = _; omega, by omega, k2, k4⟩
theorem levels_eval {t : List Nd} {r : List Int} (h : readyF t r = 0) : readyF (levels t) r = 0 ∧ evalV (levels t) r = evalV t r :=
  ⟨(levels_relab (tree_ok (ready_ok h).2).1).ready h, (levels_relab (tree_ok (ready_ok h).2).1).eval h⟩
theorem levels_len (t : List Nd) : (levels t).length = t.length := levK_len t _
def sh (o : Nat) (n : Nd) : Nd := if nf n = -1 then n else (nf n, nc n, nl n + (o : Nat), nr n + (o : Nat), ns n, nv n)
theorem sh_nf (o : Nat) (n : Nd) : nf (sh o n) = nf n := by unfold sh; split <;> rfl
theorem sh_nv (o : Nat) (n : Nd) : nv (sh o n) = nv n := by unfold sh; split <;> rfl
theorem sh_nc (o : Nat) (n : Nd) : nc (sh o n) = nc n := by unfold sh; split <;> rfl
theorem sh_ns (o : Nat) (n : Nd) : ns (sh o n) = ns n := by unfold sh; split <;> rfl
theorem sh_leaf {n : Nd} (o : Nat) (h : nf n = -1) : sh o n = n := by unfold sh; rw [if_pos h]
theorem sh_ask {n : Nd} (o : Nat) (h : nf n ≠ -1) : sh o n = (nf n, nc n, nl n + (o : Nat), nr n + (o : Nat), ns n, nv n) := by unfold sh; rw [if_neg h]
def mid (L t : List Nd) (i : Nat) : List Nd := L ++ (levK t i).map (sh L.length) ++ ((ordS t i).drop i).map (nAt t)
theorem mid_len {L t : List Nd} {i : Nat} (h : i ≤ (ordS t i).length) : (mid L t i).length = L.length + (ordS t i).length := by
  unfold mid; simp [levK_len]; omega
theorem mid_zero (L t : List Nd) : mid L t 0 = L ++ [nAt t 0] := by unfold mid; simp [levK, ordS]
def laid (L t : List Nd) : List Nd := L ++ (levels t).map (sh L.length)
theorem laid_len (L t : List Nd) : (laid L t).length = L.length + t.length := by unfold laid; simp [levels_len]
theorem mid_end {L t : List Nd} {m : Int} (F : Fair t m) : mid L t t.length = laid L t := by
  unfold mid laid levels
  rw [List.drop_of_length_le (by rw [(ord_end F).2]; exact Nat.le_refl _)]
  simp
theorem drop_cons {l : List Nat} {i : Nat} (h : i < l.length) : l.drop i = l.getD i 0 :: l.drop (i + 1) := by
  rw [List.drop_eq_getElem_cons h]
  simp [List.getD, List.getElem?_eq_getElem h]
theorem mid_split {L t : List Nd} {i : Nat} (h : i < (ordS t i).length) : mid L t i = (L ++ (levK t i).map (sh L.length)) ++ nAt t ((ordS t i).getD i 0) :: ((ordS t i).drop (i + 1)).map (nAt t) := by
  unfold mid; rw [drop_cons h]; simp
theorem pre_len (L t : List Nd) (i : Nat) : (L ++ (levK t i).map (sh L.length)).length = L.length + i := by simp [levK_len]
theorem mid_at {L t : List Nd} {i : Nat} (h : i < (ordS t i).length) : nAt (mid L t i) (L.length + i) = nAt t ((ordS t i).getD i 0) := by
  rw [mid_split h]
  unfold nAt
  rw [← pre_len L t i]
  simp [List.getD]
theorem mid_leaf {L t : List Nd} {i : Nat} (h : i < (ordS t i).length) (hf : nf (nAt t ((ordS t i).getD i 0)) = -1) : mid L t (i + 1) = mid L t i := by
  have e : ordS t (i + 1) = ordS t i := by
    show ordS t i ++ kids _ = _
    unfold kids; rw [if_pos hf]; simp
  rw [mid_split h]
  unfold mid
  rw [e]
  have : levK t (i + 1) = levK t i ++ [nAt t ((ordS t i).getD i 0)] := by
    show levK t i ++ [reN _ _] = _
    unfold reN; rw [if_pos hf]
  rw [this, List.map_append, List.map_cons, List.map_nil, sh_leaf _ hf]
  simp only [List.append_assoc, List.cons_append, List.nil_append]
theorem mid_ask {L t : List Nd} {i : Nat} (h : i < (ordS t i).length) (hf : nf (nAt t ((ordS t i).getD i 0)) ≠ -1) (hn : Nd) (hl : Nd) (hr : Nd)
    (e1 : hl = nAt t (nl (nAt t ((ordS t i).getD i 0))).toNat) (e2 : hr = nAt t (nr (nAt t ((ordS t i).getD i 0))).toNat)
    (e3 : hn = (nf (nAt t ((ordS t i).getD i 0)), nc (nAt t ((ordS t i).getD i 0)), ((mid L t i).length : Int), ((mid L t i).length : Int) + 1, ns (nAt t ((ordS t i).getD i 0)), nv (nAt t ((ordS t i).getD i 0)))) :
    mid L t (i + 1) = (mid L t i).set (L.length + i) hn ++ [hl, hr] := by
  have e : ordS t (i + 1) = ordS t i ++ [(nl (nAt t ((ordS t i).getD i 0))).toNat, (nr (nAt t ((ordS t i).getD i 0))).toNat] := by
    show ordS t i ++ kids _ = _
    unfold kids; rw [if_neg hf]
  have e4 : sh L.length (reN (nAt t ((ordS t i).getD i 0)) (ordS t i).length) = hn := by
    have e5 : reN (nAt t ((ordS t i).getD i 0)) (ordS t i).length = (nf (nAt t ((ordS t i).getD i 0)), nc (nAt t ((ordS t i).getD i 0)), ((ordS t i).length : Int), ((ordS t i).length : Int) + 1, ns (nAt t ((ordS t i).getD i 0)), nv (nAt t ((ordS t i).getD i 0))) := by unfold reN; rw [if_neg hf]
    rw [e5, e3, mid_len (by omega)]
    generalize nAt t ((ordS t i).getD i 0) = n at hf
    rw [sh_ask (n := (nf n, nc n, ((ordS t i).length : Int), ((ordS t i).length : Int) + 1, ns n, nv n)) _ hf]
    show (nf n, nc n, ((ordS t i).length : Int) + (L.length : Int), ((ordS t i).length : Int) + 1 + (L.length : Int), ns n, nv n) = _
    have q1 : ((ordS t i).length : Int) + (L.length : Int) = ((L.length + (ordS t i).length : Nat) : Int) := by omega
    have q2 : ((ordS t i).length : Int) + 1 + (L.length : Int) = ((L.length + (ordS t i).length : Nat) : Int) + 1 := by omega
    rw [q1, q2]
  rw [mid_split h, ← pre_len L t i, List.set_append_right _ _ (Nat.le_refl _), Nat.sub_self, List.set_cons_zero]
  unfold mid
  rw [e, List.drop_append_of_le_length (by omega)]
  have : levK t (i + 1) = levK t i ++ [reN (nAt t ((ordS t i).getD i 0)) (ordS t i).length] := rfl
  rw [this, List.map_append, List.map_append, List.map_cons, List.map_nil, e4, e1, e2]
  simp
def laidK (T : List (List Nd)) : Nat → List Nd
  | 0 => []
  | k + 1 => laid (laidK T k) (T.getD k [])
def rootsK (T : List (List Nd)) : Nat → List Int
  | 0 => []
  | k + 1 => rootsK T k ++ [((laidK T k).length : Int)]
theorem rootsK_len (T : List (List Nd)) : ∀ k, (rootsK T k).length = k
  | 0 => rfl
  | k + 1 => by unfold rootsK; simp [rootsK_len T k]
theorem rootsK_at (T : List (List Nd)) : ∀ (k i : Nat), i < k → (rootsK T k).getD i 0 = ((laidK T i).length : Int)
  | 0, i, h => by omega
  | k + 1, i, h => by
    unfold rootsK
    by_cases e : i = k
    · subst e; simp [List.getD, rootsK_len]
    · have := rootsK_at T k i (by omega)
      rw [← this]
      simp [List.getD, List.getElem?_append_left, rootsK_len, show i < k by omega]
theorem laidK_pre (T : List (List Nd)) (k : Nat) : ∀ j, ∃ x, laidK T (k + j) = laidK T k ++ x
  | 0 => ⟨[], by simp⟩
  | j + 1 => by
    obtain ⟨x, e⟩ := laidK_pre T k j
    refine ⟨x ++ (levels (T.getD (k + j) [])).map (sh (laidK T (k + j)).length), ?_⟩
    rw [← List.append_assoc, ← e]; rfl
theorem laidK_at {T : List (List Nd)} {k n p : Nat} (h : k < n) (hp : p < (T.getD k []).length) : nAt (laidK T n) ((laidK T k).length + p) = sh (laidK T k).length (nAt (levels (T.getD k [])) p) ∧ (laidK T k).length + p < (laidK T n).length := by
  obtain ⟨x, e⟩ := laidK_pre T (k + 1) (n - (k + 1))
  rw [show k + 1 + (n - (k + 1)) = n by omega] at e
  have e2 : laidK T (k + 1) = laidK T k ++ (levels (T.getD k [])).map (sh (laidK T k).length) := rfl
  rw [e, e2]
  have hp' : p < (levels (T.getD k [])).length := by rw [levels_len]; exact hp
  generalize T.getD k [] = tk at *
  generalize laidK T k = A at *
  have hm : p < ((levels tk).map (sh A.length)).length := by rw [List.length_map]; exact hp'
  refine ⟨?_, by simp only [List.length_append, List.length_map]; omega⟩
  unfold nAt
  rw [List.append_assoc]
  simp only [List.getD]
  rw [List.getElem?_append_right (by omega), Nat.add_sub_cancel_left, List.getElem?_append_left hm, List.getElem?_map, List.getElem?_eq_getElem hp']
  rfl
theorem laidK_len_step (T : List (List Nd)) (k : Nat) : (laidK T (k + 1)).length = (laidK T k).length + (T.getD k []).length := laid_len _ _
theorem laidK_le (T : List (List Nd)) {k n : Nat} (h : k ≤ n) : (laidK T k).length ≤ (laidK T n).length := by
  obtain ⟨x, e⟩ := laidK_pre T k (n - k)
  rw [show k + (n - k) = n by omega] at e
  rw [e]; simp
theorem laidK_bound {T : List (List Nd)} (h : ∀ i, i < T.length → (T.getD i []).length ≤ 63) : ∀ k, k ≤ T.length → (laidK T k).length ≤ 63 * k
  | 0, _ => by simp [laidK]
  | k + 1, hk => by
    have := laidK_bound h k (by omega)
    have := h k (by omega)
    rw [laidK_len_step]; omega
end Go.Proofs.YtaijnacghiloaaaGreatDoor.M

namespace Go.Proofs.YtaijnacghiloaaaGreatDoor
open Go.ChangeShapes Go.WideShapes Go.ChangeAt Go.RowKit Go.Lib
set_option linter.unusedVariables false
abbrev put6 (W : World) (p : Nat) (x0 x1 x2 x3 x4 x5 : Value) : World := (((((W.setCell ⟨p, 0, none⟩ x0).setCell ⟨p, 1, none⟩ x1).setCell ⟨p, 2, none⟩ x2).setCell ⟨p, 3, none⟩ x3).setCell ⟨p, 4, none⟩ x4).setCell ⟨p, 5, none⟩ x5
theorem put6_cells {W : World} {p : Nat} {x0 x1 x2 x3 x4 x5 y0 y1 y2 y3 y4 y5 : Value} (h : W.cell? ⟨p, 0, none⟩ = some y0 ∧ W.cell? ⟨p, 1, none⟩ = some y1 ∧ W.cell? ⟨p, 2, none⟩ = some y2 ∧ W.cell? ⟨p, 3, none⟩ = some y3 ∧ W.cell? ⟨p, 4, none⟩ = some y4 ∧ W.cell? ⟨p, 5, none⟩ = some y5) :
    (put6 W p x0 x1 x2 x3 x4 x5).cell? ⟨p, 0, none⟩ = some x0 ∧ (put6 W p x0 x1 x2 x3 x4 x5).cell? ⟨p, 1, none⟩ = some x1 ∧ (put6 W p x0 x1 x2 x3 x4 x5).cell? ⟨p, 2, none⟩ = some x2 ∧ (put6 W p x0 x1 x2 x3 x4 x5).cell? ⟨p, 3, none⟩ = some x3 ∧ (put6 W p x0 x1 x2 x3 x4 x5).cell? ⟨p, 4, none⟩ = some x4 ∧ (put6 W p x0 x1 x2 x3 x4 x5).cell? ⟨p, 5, none⟩ = some x5 := by
  obtain ⟨h0, h1, h2, h3, h4, h5⟩ := h
  have o : ∀ (V : World) (i j : Nat) (v : Value), i ≠ j → (V.setCell ⟨p, i, none⟩ v).cell? ⟨p, j, none⟩ = V.cell? ⟨p, j, none⟩ := fun V i j v hij => World.cell?_setCell_other _ _ _ _ (by intro e; cases e; exact hij rfl)
  have s : ∀ (V : World) (j : Nat) (v u : Value), V.cell? ⟨p, j, none⟩ = some u → (V.setCell ⟨p, j, none⟩ v).cell? ⟨p, j, none⟩ = some v := fun V j v u hu => World.cell?_setCell_same (u := u) _ _ _ hu
  refine ⟨?_, ?_, ?_, ?_, ?_, ?_⟩
  · rw [o _ _ _ _ (by decide), o _ _ _ _ (by decide), o _ _ _ _ (by decide), o _ _ _ _ (by decide), o _ _ _ _ (by decide), s _ _ _ y0 h0]
  · rw [o _ _ _ _ (by decide), o _ _ _ _ (by decide), o _ _ _ _ (by decide), o _ _ _ _ (by decide), s _ _ _ y1 (by rw [o _ _ _ _ (by decide)]; exact h1)]
  · rw [o _ _ _ _ (by decide), o _ _ _ _ (by decide), o _ _ _ _ (by decide), s _ _ _ y2 (by rw [o _ _ _ _ (by decide), o _ _ _ _ (by decide)]; exact h2)]
  · rw [o _ _ _ _ (by decide), o _ _ _ _ (by decide), s _ _ _ y3 (by rw [o _ _ _ _ (by decide), o _ _ _ _ (by decide), o _ _ _ _ (by decide)]; exact h3)]
  · rw [o _ _ _ _ (by decide), s _ _ _ y4 (by rw [o _ _ _ _ (by decide), o _ _ _ _ (by decide), o _ _ _ _ (by decide), o _ _ _ _ (by decide)]; exact h4)]
  · rw [s _ _ _ y5 (by rw [o _ _ _ _ (by decide), o _ _ _ _ (by decide), o _ _ _ _ (by decide), o _ _ _ _ (by decide), o _ _ _ _ (by decide)]; exact h5)]
theorem put6_below {B : Nat} {w W : World} {p : Nat} {x0 x1 x2 x3 x4 x5 : Value} (h : Below B w W) (hp : B ≤ p) : Below B w (put6 W p x0 x1 x2 x3 x4 x5) :=
  (((((h.setCell (p := ⟨p, 0, none⟩) hp _).setCell (p := ⟨p, 1, none⟩) hp _).setCell (p := ⟨p, 2, none⟩) hp _).setCell (p := ⟨p, 3, none⟩) hp _).setCell (p := ⟨p, 4, none⟩) hp _).setCell (p := ⟨p, 5, none⟩) hp _
theorem put6_frozen {W : World} {p j : Nat} {x0 x1 x2 x3 x4 x5 : Value} (h : W.frozen? ⟨p, j, none⟩ = false) : (put6 W p x0 x1 x2 x3 x4 x5).frozen? ⟨p, j, none⟩ = false := by simpa using h
theorem put6_size {W : World} {p : Nat} {x0 x1 x2 x3 x4 x5 : Value} : (put6 W p x0 x1 x2 x3 x4 x5).heap.size = W.heap.size := by simp
def Six (W : World) (p : Nat) (n : M.Nd) : Prop := W.cell? ⟨p, 0, none⟩ = some (.int .i64 (M.nf n)) ∧ W.cell? ⟨p, 1, none⟩ = some (.int .i64 (M.nc n)) ∧ W.cell? ⟨p, 2, none⟩ = some (.int .i64 (M.nl n)) ∧ W.cell? ⟨p, 3, none⟩ = some (.int .i64 (M.nr n)) ∧ W.cell? ⟨p, 4, none⟩ = some (.bool (M.ns n)) ∧ W.cell? ⟨p, 5, none⟩ = some (.int .i64 (M.nv n))
theorem Six.below {W W' : World} {p : Nat} {n : M.Nd} (h : Six W p n) (hb : Below W.heap.size W W') (hp : p < W.heap.size) : Six W' p n :=
  ⟨(hb.cell (p := ⟨p, 0, none⟩) hp).trans h.1, (hb.cell (p := ⟨p, 1, none⟩) hp).trans h.2.1, (hb.cell (p := ⟨p, 2, none⟩) hp).trans h.2.2.1, (hb.cell (p := ⟨p, 3, none⟩) hp).trans h.2.2.2.1, (hb.cell (p := ⟨p, 4, none⟩) hp).trans h.2.2.2.2.1, (hb.cell (p := ⟨p, 5, none⟩) hp).trans h.2.2.2.2.2⟩
theorem Six.drew {W : World} {p : Nat} {n : M.Nd} (h : Six W p n) : Six W.drew p n := h
theorem froz_drew {W : World} {p j : Nat} (h : W.frozen? ⟨p, j, none⟩ = false) : W.drew.frozen? ⟨p, j, none⟩ = false := h
theorem size_drew {W : World} {n : Nat} (h : n < W.heap.size) : n < W.drew.heap.size := h
def vFar (p : Nat) (W : World) : Nat :=
  if intOf ((W.cell? ⟨p, 0, none⟩).getD (.int .i64 0)) = -1 then 0 else 2000 - min (intOf ((W.cell? ⟨p, 2, none⟩).getD (.int .i64 0))).toNat (intOf ((W.cell? ⟨p, 3, none⟩).getD (.int .i64 0))).toNat
theorem vFar_six {W : World} {p : Nat} {n : M.Nd} (h : Six W p n) : vFar p W = if M.nf n = -1 then 0 else 2000 - min (M.nl n).toNat (M.nr n).toNat := by
  unfold vFar; rw [h.1, h.2.2.1, h.2.2.2.1]; rfl
theorem toleft_any (n : M.Nd) (x : Int) (w : World) :
    Calls Tryz.prog 132 #[ndV n, .int .i64 x] w fun e w' => e = .returned (.bool (M.lessC n x)) ∧ Below w.heap.size w w' := by
  have NX : Hid (M.lessC n x = if x = M.nilI then M.ns n else decide (x < M.nc n)) := rfl
  unfold ndV
  generalize M.lessC n x = o at *
  generalize M.nc n = c at *
  generalize M.ns n = s at *
  by_cases hn : x = M.nilI
  · have q : (x == -1125899906842624) = true := by rw [beq_iff_eq]; exact hn
    have E : Hid (s = o) := by have := NX.out; rw [if_pos hn] at this; exact this.symm
    clear NX hn
    go_enter Tryz.func132, Tryz.ntmps132
    go_wp2
    go_ret
    exact ⟨ret_bool E.out, (Below.refl _ _).alloc (Nat.le_refl _) _⟩
  · have q : (x == -1125899906842624) = false := by rw [beq_eq_false_iff_ne]; exact hn
    have E : Hid (decide (x < c) = o) := by have := NX.out; rw [if_neg hn] at this; exact this.symm
    clear NX hn
    go_enter Tryz.func132, Tryz.ntmps132
    go_wp2
    go_ret
    exact ⟨ret_bool E.out, (Below.refl _ _).alloc (Nat.le_refl _) _⟩
theorem fit_in (n : Int) (w : World) (h1 : -1099511627776 ≤ n) (h2 : n ≤ 1099511627776) :
    Calls Tryz.prog 146 #[.int .i64 n] w fun e w' => e = .returned (.int .i64 n) ∧ w' = w := by
  go_enter Tryz.func146, Tryz.ntmps146
  go_wp2
  go_ret
  exact ⟨rfl, rfl⟩
theorem size_pos (n : Int) (w : World) (h1 : 0 ≤ n) (h2 : n ≤ 1099511627776) :
    Calls Tryz.prog 147 #[.int .i64 n] w fun e w' => e = .returned (.int .i64 n) ∧ w' = w := by
  go_enter Tryz.func147, Tryz.ntmps147
  go_wp2
  go_ret
  exact ⟨rfl, rfl⟩
theorem size_neg (n X : Int) (w : World) (E : Hid (-n = X)) (h1 : -1099511627776 ≤ n) (h2 : n < 0) :
    Calls Tryz.prog 147 #[.int .i64 n] w fun e w' => e = .returned (.int .i64 X) ∧ w' = w := by
  go_enter Tryz.func147, Tryz.ntmps147
  go_wp2
  go_ret
  exact ⟨ret_int E.out, rfl⟩
theorem add_in (a b : Int) (w : World) (a1 : -549755813888 ≤ a) (a2 : a ≤ 549755813888) (b1 : -549755813888 ≤ b) (b2 : b ≤ 549755813888) :
    Calls Tryz.prog 121 #[.int .i64 a, .int .i64 b] w fun e w' => e = .returned (.int .i64 (a + b)) ∧ w' = w := by
  go_enter Tryz.func121, Tryz.ntmps121
  go_wp2_with (go_at_call 146; refine (fit_in _ _ (by omega) (by omega)).mono ?_; rintro e w' ⟨rfl, rfl⟩)
  go_ret
  exact ⟨rfl, rfl⟩
theorem M.mul_far {a b : Int} (a1 : -1000000 ≤ a) (a2 : a ≤ 1000000) (b1 : 1 ≤ b) (b2 : b ≤ 1000) : -1000000000 ≤ a * b ∧ a * b ≤ 1000000000 := by
  have h1 : a * b ≤ 1000000 * b := Int.mul_le_mul_of_nonneg_right a2 (by omega)
  have h2 : -1000000 * b ≤ a * b := Int.mul_le_mul_of_nonneg_right a1 (by omega)
  omega
theorem M.quo_far {x b : Int} (x1 : 0 < x) (x2 : x ≤ 1000000) (b1 : 1 ≤ b) (b2 : b ≤ 1000) : b ≤ 1099511627776 / x := by
  rw [Int.le_ediv_iff_mul_le x1]
  have h1 : x * b ≤ 1000000 * b := Int.mul_le_mul_of_nonneg_right x2 (by omega)
  rw [Int.mul_comm]
  omega
set_option maxHeartbeats 1000000 in
theorem mul_small (a b : Int) (w : World) (a1 : -1000000 ≤ a) (a2 : a ≤ 1000000) (b1 : 1 ≤ b) (b2 : b ≤ 1000) :
    Calls Tryz.prog 120 #[.int .i64 a, .int .i64 b] w fun e w' => e = .returned (.int .i64 (a * b)) ∧ w' = w := by
  obtain ⟨m1, m2⟩ := M.mul_far a1 a2 b1 b2
  rcases (show a = 0 ∨ 0 < a ∨ a < 0 from by omega) with h0 | h0 | h0
  · have E : Hid (0 = a * b) := by unfold Hid; rw [h0, Int.zero_mul]
    have hz : (a == 0) = true := by rw [h0]; rfl
    clear h0
    go_enter Tryz.func120, Tryz.ntmps120
    go_wp2_with (go_at_call 146; refine (fit_in _ _ (by omega) (by omega)).mono ?_; rintro e w' ⟨rfl, rfl⟩)
    go_ret
    exact ⟨rfl, rfl⟩
  · have hz : (a == 0) = false := by simp; omega
    have hq := M.quo_far h0 a2 b1 b2
    go_enter Tryz.func120, Tryz.ntmps120
    go_wp2_with (first | (go_at_call 146; refine (fit_in _ _ (by omega) (by omega)).mono ?_; rintro e w' ⟨rfl, rfl⟩) | (go_at_call 147; refine (size_pos _ _ (by omega) (by omega)).mono ?_; rintro e w' ⟨rfl, rfl⟩))
    go_ret
    exact ⟨rfl, rfl⟩
  · have hz : (a == 0) = false := by simp; omega
    obtain ⟨X, hX⟩ : ∃ X, -a = X := ⟨_, rfl⟩
    have x1 : 0 < X := by omega
    have x2 : X ≤ 1000000 := by omega
    have hq := M.quo_far x1 x2 b1 b2
    have HX := hide hX
    clear hX
    go_enter Tryz.func120, Tryz.ntmps120
    go_wp2_with (first | (go_at_call 146; refine (fit_in _ _ (by omega) (by omega)).mono ?_; rintro e w' ⟨rfl, rfl⟩) | (go_at_call 147; refine (size_pos _ _ (by omega) (by omega)).mono ?_; rintro e w' ⟨rfl, rfl⟩) | (go_at_call 147; refine (size_neg _ X _ HX (by omega) (by omega)).mono ?_; rintro e w' ⟨rfl, rfl⟩))
    go_ret
    exact ⟨rfl, rfl⟩
set_option maxHeartbeats 1000000 in
theorem total_in (a : Option Addr) (ws : List Int) (ca : Nat) (w : World) (h : Rd w a ws) (h0 : 0 < ws.length) (n12 : ws.length ≤ 12) (hx : ∀ i, i < ws.length → 1 ≤ ws.getD i 0 ∧ ws.getD i 0 ≤ 1000) :
    Calls Tryz.prog 80 #[.slice a ws.length ca] w fun e w' => e = .returned (.int .i64 (M.allK ws ws.length)) ∧ w' = w := by
  obtain ⟨ba, oa, rfl, hba, hca⟩ := h.2 (by intro e; rw [e] at h0; simp at h0)
  have HC := hide hca
  have HX := hide hx
  have SB := hide (fun k (hk : k ≤ ws.length) => M.all_pos (ws := ws) k (fun i hi => hx i (by omega)))
  clear h hca hx hba h0
  go_enter Tryz.func80, Tryz.ntmps80
  go_wp2
  go_loopw [3, 8] (fun s i wr => ∃ k : Nat, k ≤ ws.length ∧ s = .int .i64 (M.allK ws k) ∧ i = .int .i64 k ∧ wr = w) (fun _ i _ => ws.length - (intOf i).toNat)
  case atStart => exact ⟨0, Nat.zero_le _, rfl, rfl, rfl⟩
  case round =>
    obtain ⟨k, hk, rfl, rfl, ew⟩ := hrel
    subst wr
    by_cases hlt : k < ws.length
    · have c1 := HC.out k hlt
      obtain ⟨x1, x2⟩ := HX.out k hlt
      obtain ⟨s1, s2⟩ := SB.out k hk
      have SS : Hid (M.allK ws k + ws.getD k 0 = M.allK ws (k + 1)) := rfl
      have kz : (k : Int) < (ws.length : Int) := by omega
      clear HC HX SB
      generalize ws.getD k 0 = x at *
      go_wp2_with (go_at_call 121; refine (add_in _ _ _ (by omega) (by omega) (by omega) (by omega)).mono ?_; rintro e w1 ⟨rfl, e1⟩; subst w1)
      go_roundw
      case rel => exact ⟨k + 1, by omega, by rw [SS.out], by go_num, (by first | rfl | trivial)⟩
      case measure => simp [intOf]; omega
    · have ek : k = ws.length := by omega
      have EE := hide ek
      clear ek HC HX SB
      go_wp2
      go_ret
      exact ⟨ret_int (by rw [EE.out]), rfl⟩
end Go.Proofs.YtaijnacghiloaaaGreatDoor

namespace Go.Proofs.YtaijnacghiloaaaGreatDoor.M
set_option linter.unusedVariables false
inductive BT where
  | lf (v : Int)
  | nd (f c : Int) (s : Bool) (l r : BT)
  deriving DecidableEq
def BT.size : BT → Nat
  | .lf _ => 1
  | .nd _ _ _ l r => 1 + l.size + r.size
def BT.deep : BT → Nat
  | .lf _ => 0
  | .nd _ _ _ l r => 1 + max l.deep r.deep
theorem BT.size_pos : ∀ T : BT, 0 < T.size
  | .lf _ => Nat.one_pos
  | .nd _ _ _ _ _ => by unfold BT.size; omega
def goes (f c : Int) (s : Bool) (x : List Int) : Bool := if x.getD f.toNat 0 = nilI then s else decide (x.getD f.toNat 0 < c)
def evB : BT → List Int → Int
  | .lf v, _ => v
  | .nd f c s l r, x => if goes f c s x = true then evB l x else evB r x
def okB (m : Int) : BT → Prop
  | .lf v => outI v = false
  | .nd f c _ l r => 0 ≤ f ∧ f < m ∧ outI c = false ∧ okB m l ∧ okB m r
def ofT (t : List Nd) : Nat → Nat → BT
  | 0, _ => .lf 0
  | k + 1, i => if nf (nAt t i) = -1 then .lf (nv (nAt t i)) else .nd (nf (nAt t i)) (nc (nAt t i)) (ns (nAt t i)) (ofT t k (nl (nAt t i)).toNat) (ofT t k (nr (nAt t i)).toNat)
def bt (t : List Nd) (i : Nat) : BT := ofT t t.length i
theorem of_enough {t : List Nd} {m : Int} (h : Right t m) : ∀ (f g i : Nat), i < t.length → t.length ≤ f + i → t.length ≤ g + i → ofT t f i = ofT t g i
  | 0, g, i, hi, hf, hg => by omega
  | f + 1, 0, i, hi, hf, hg => by omega
  | f + 1, g + 1, i, hi, hf, hg => by
    unfold ofT
    by_cases hl : nf (nAt t i) = -1
    · rw [if_pos hl, if_pos hl]
    · rw [if_neg hl, if_neg hl]
      obtain ⟨a, b, ea, eb, h1, h2, h3, h4, _⟩ := ask_at h hi hl
      rw [ea, eb, Int.toNat_natCast, Int.toNat_natCast, of_enough h f g a h2 (by omega) (by omega), of_enough h f g b h4 (by omega) (by omega)]
theorem bt_leaf {t : List Nd} {i : Nat} (hi : i < t.length) (hl : nf (nAt t i) = -1) : bt t i = .lf (nv (nAt t i)) := by
  unfold bt
  obtain ⟨f, e⟩ : ∃ f, t.length = f + 1 := ⟨t.length - 1, by omega⟩
  rw [e]; unfold ofT; rw [if_pos hl]
theorem bt_ask {t : List Nd} {m : Int} (h : Right t m) {i a b : Nat} (hi : i < t.length) (hl : nf (nAt t i) ≠ -1) (ea : nl (nAt t i) = a) (eb : nr (nAt t i) = b) : bt t i = .nd (nf (nAt t i)) (nc (nAt t i)) (ns (nAt t i)) (bt t a) (bt t b) := by
  obtain ⟨a', b', ea', eb', h1, h2, h3, h4, _⟩ := ask_at h hi hl
  have e1 : a' = a := by omega
  have e2 : b' = b := by omega
  subst e1
  subst e2
  unfold bt
  obtain ⟨f, e⟩ : ∃ f, t.length = f + 1 := ⟨t.length - 1, by omega⟩
  conv => lhs; rw [e]
  conv => lhs; unfold ofT
  rw [if_neg hl, ea, eb, Int.toNat_natCast, Int.toNat_natCast, of_enough h f t.length a' h2 (by omega) (by omega), of_enough h f t.length b' h4 (by omega) (by omega)]
theorem bt_ok {t : List Nd} {m : Int} (h : Right t m) : ∀ (k i : Nat), i < t.length → t.length ≤ k + i → okB m (bt t i)
  | 0, i, hi, hk => by omega
  | k + 1, i, hi, hk => by
    by_cases hl : nf (nAt t i) = -1
    · rw [bt_leaf hi hl]
      have := h i hi
      unfold nodeF at this
      rw [if_pos hl] at this
      unfold lfF at this
      show outI _ = false
      cases e : outI (nv (nAt t i)) with
      | false => rfl
      | true => rw [e, if_pos rfl] at this; cases this
    · obtain ⟨a, b, ea, eb, h1, h2, h3, h4, _⟩ := ask_at h hi hl
      obtain ⟨g0, g1, g2, _⟩ := node_ask (h i hi) hl
      rw [bt_ask h hi hl ea eb]
      exact ⟨g0, g1, g2, bt_ok h k a h2 (by omega), bt_ok h k b h4 (by omega)⟩
theorem bt_ev {t : List Nd} {m : Int} (h : Right t m) (x : List Int) : ∀ (k i : Nat), i < t.length → t.length ≤ k + i → evB (bt t i) x = nv (nAt t (toD t x i))
  | 0, i, hi, hk => by omega
  | k + 1, i, hi, hk => by
    by_cases hl : nf (nAt t i) = -1
    · rw [bt_leaf hi hl, to_leaf hi hl]; rfl
    · obtain ⟨a, b, ea, eb, h1, h2, h3, h4, _⟩ := ask_at h hi hl
      rw [bt_ask h hi hl ea eb]
      show (if goes _ _ _ x = true then _ else _) = _
      have gl : goes (nf (nAt t i)) (nc (nAt t i)) (ns (nAt t i)) x = lessC (nAt t i) (x.getD (nf (nAt t i)).toNat 0) := rfl
      rw [gl]
      by_cases q : lessC (nAt t i) (x.getD (nf (nAt t i)).toNat 0) = true
      · rw [if_pos q, bt_ev h x k a h2 (by omega), to_next h hi hl (show nextI (nAt t i) x = a by unfold nextI; rw [if_pos q, ea])]
      · rw [if_neg q, bt_ev h x k b h4 (by omega), to_next h hi hl (show nextI (nAt t i) x = b by unfold nextI; rw [if_neg q, eb])]
theorem bt_deep {t : List Nd} {m : Int} (h : Right t m) : ∀ (k i : Nat), i < t.length → t.length ≤ k + i → (bt t i).deep = depth t i
  | 0, i, hi, hk => by omega
  | k + 1, i, hi, hk => by
    by_cases hl : nf (nAt t i) = -1
    · rw [bt_leaf hi hl, depth_leaf hi hl]; rfl
    · obtain ⟨a, b, ea, eb, h1, h2, h3, h4, _⟩ := ask_at h hi hl
      rw [bt_ask h hi hl ea eb, depth_ask h hi hl ea eb]
      show 1 + max (bt t a).deep (bt t b).deep = _
      rw [bt_deep h k a h2 (by omega), bt_deep h k b h4 (by omega)]
      omega
def lay : BT → Nat → List Nd
  | .lf v, _ => [(-1, 0, 0, 0, false, v)]
  | .nd f c s l r, k => (f, c, ((k + 1 : Nat) : Int), ((k + 1 + l.size : Nat) : Int), s, 0) :: (lay l (k + 1) ++ lay r (k + 1 + l.size))
theorem lay_len : ∀ (T : BT) (k : Nat), (lay T k).length = T.size
  | .lf _, _ => rfl
  | .nd f c s l r, k => by
    unfold lay BT.size
    rw [List.length_cons, List.length_append, lay_len l, lay_len r]; omega
theorem at_mid {A B : List Nd} {n : Nd} {C : List Nd} : nAt (A ++ (n :: B) ++ C) A.length = n := by
  unfold nAt; simp [List.getD]
theorem bt_lay : ∀ (T : BT) (A C : List Nd) (f : Nat), (∀ m, okB m T → True) → T.size ≤ f → (∃ m, okB m T) → ofT (A ++ lay T A.length ++ C) f A.length = T
  | .lf v, A, C, 0, _, hf, _ => by unfold BT.size at hf; omega
  | .lf v, A, C, f + 1, _, hf, _ => by
    unfold ofT
    rw [show lay (.lf v) A.length = (-1, 0, 0, 0, false, v) :: [] from rfl, at_mid]
    rfl
  | .nd q c s l r, A, C, 0, _, hf, _ => by unfold BT.size at hf; omega
  | .nd q c s l r, A, C, f + 1, _, hf, ⟨m, hm⟩ => by
    unfold BT.size at hf
    obtain ⟨g0, g1, g2, g3, g4⟩ := hm
    unfold ofT
    rw [show lay (.nd q c s l r) A.length = (q, c, ((A.length + 1 : Nat) : Int), ((A.length + 1 + l.size : Nat) : Int), s, 0) :: (lay l (A.length + 1) ++ lay r (A.length + 1 + l.size)) from rfl, at_mid]
    have hq : nf (q, c, ((A.length + 1 : Nat) : Int), ((A.length + 1 + l.size : Nat) : Int), s, (0 : Int)) ≠ -1 := by show q ≠ -1; omega
    rw [if_neg hq]
    have e1 : A ++ (q, c, ((A.length + 1 : Nat) : Int), ((A.length + 1 + l.size : Nat) : Int), s, 0) :: (lay l (A.length + 1) ++ lay r (A.length + 1 + l.size)) ++ C = (A ++ [(q, c, ((A.length + 1 : Nat) : Int), ((A.length + 1 + l.size : Nat) : Int), s, 0)]) ++ lay l (A ++ [(q, c, ((A.length + 1 : Nat) : Int), ((A.length + 1 + l.size : Nat) : Int), s, (0 : Int))]).length ++ (lay r (A.length + 1 + l.size) ++ C) := by simp
    have e2 : A ++ (q, c, ((A.length + 1 : Nat) : Int), ((A.length + 1 + l.size : Nat) : Int), s, 0) :: (lay l (A.length + 1) ++ lay r (A.length + 1 + l.size)) ++ C = (A ++ (q, c, ((A.length + 1 : Nat) : Int), ((A.length + 1 + l.size : Nat) : Int), s, 0) :: lay l (A.length + 1)) ++ lay r (A ++ (q, c, ((A.length + 1 : Nat) : Int), ((A.length + 1 + l.size : Nat) : Int), s, (0 : Int)) :: lay l (A.length + 1)).length ++ C := by
      have : (A ++ (q, c, ((A.length + 1 : Nat) : Int), ((A.length + 1 + l.size : Nat) : Int), s, (0 : Int)) :: lay l (A.length + 1)).length = A.length + 1 + l.size := by rw [List.length_append, List.length_cons, lay_len]; omega
      rw [this]; simp
    have n1 : (nl (q, c, ((A.length + 1 : Nat) : Int), ((A.length + 1 + l.size : Nat) : Int), s, (0 : Int))).toNat = (A ++ [(q, c, ((A.length + 1 : Nat) : Int), ((A.length + 1 + l.size : Nat) : Int), s, (0 : Int))]).length := by
      show (((A.length + 1 : Nat) : Int)).toNat = _
      rw [Int.toNat_natCast, List.length_append]; rfl
    have n2 : (nr (q, c, ((A.length + 1 : Nat) : Int), ((A.length + 1 + l.size : Nat) : Int), s, (0 : Int))).toNat = (A ++ (q, c, ((A.length + 1 : Nat) : Int), ((A.length + 1 + l.size : Nat) : Int), s, (0 : Int)) :: lay l (A.length + 1)).length := by
      show (((A.length + 1 + l.size : Nat) : Int)).toNat = _
      rw [Int.toNat_natCast, List.length_append, List.length_cons, lay_len]; omega
    rw [n1, n2]
    have i1 := bt_lay l (A ++ [(q, c, ((A.length + 1 : Nat) : Int), ((A.length + 1 + l.size : Nat) : Int), s, (0 : Int))]) (lay r (A.length + 1 + l.size) ++ C) f (fun _ _ => trivial) (by omega) ⟨m, g3⟩
    have i2 := bt_lay r (A ++ (q, c, ((A.length + 1 : Nat) : Int), ((A.length + 1 + l.size : Nat) : Int), s, (0 : Int)) :: lay l (A.length + 1)) C f (fun _ _ => trivial) (by omega) ⟨m, g4⟩
    rw [← e1] at i1
    rw [← e2] at i2
    rw [i1, i2]
    rfl
theorem bt_of_lay {T : BT} {m : Int} (h : okB m T) : bt (lay T 0) 0 = T := by
  have := bt_lay T [] [] (lay T 0).length (fun _ _ => trivial) (by rw [lay_len]; exact Nat.le_refl _) ⟨m, h⟩
  simpa [bt] using this
theorem ups_cons (n : Nd) (t : List Nd) (i : Int) : ups (n :: t) i = edge i n + ups t i := by unfold ups; simp
theorem ups_append (a b : List Nd) (i : Int) : ups (a ++ b) i = ups a i + ups b i := by unfold ups; simp
theorem edge_at (f c : Int) (s : Bool) (a b p : Nat) (hf : f ≠ -1) : edge (p : Int) (f, c, (a : Int), (b : Int), s, 0) = (if a = p then 1 else 0) + (if b = p then 1 else 0) := by
  unfold edge
  rw [if_neg (show nf (f, c, (a : Int), (b : Int), s, (0 : Int)) ≠ -1 from hf)]
  show (if (a : Int) = (p : Int) then 1 else 0) + (if (b : Int) = (p : Int) then 1 else 0) = _
  have h1 : ((a : Int) = (p : Int)) ↔ a = p := by omega
  have h2 : ((b : Int) = (p : Int)) ↔ b = p := by omega
  simp only [h1, h2]
theorem ups_lay {m : Int} : ∀ (T : BT) (k p : Nat), okB m T → ups (lay T k) (p : Int) = if k < p ∧ p < k + T.size then 1 else 0
  | .lf v, k, p, h => by
    have e : ups (lay (.lf v) k) (p : Int) = 0 := rfl
    rw [e, if_neg (by show ¬ (k < p ∧ p < k + 1); omega)]
  | .nd f c s l r, k, p, ⟨g0, g1, g2, g3, g4⟩ => by
    have e : lay (.nd f c s l r) k = (f, c, ((k + 1 : Nat) : Int), ((k + 1 + l.size : Nat) : Int), s, 0) :: (lay l (k + 1) ++ lay r (k + 1 + l.size)) := rfl
    have z1 := l.size_pos
    have z2 := r.size_pos
    rw [e, ups_cons, ups_append, edge_at f c s (k + 1) (k + 1 + l.size) p (by omega), ups_lay l (k + 1) p g3, ups_lay r (k + 1 + l.size) p g4]
    show _ = if k < p ∧ p < k + (1 + l.size + r.size) then 1 else 0
    repeat' split
    all_goals omega
theorem node_lay {m : Int} : ∀ (T : BT) (k N : Nat), okB m T → k + T.size ≤ N → ∀ j, j < T.size → nodeF (nAt (lay T k) j) (k + j) N m = 0
  | .lf v, k, N, h, hN, j, hj => by
    have hj' : j < 1 := hj
    obtain rfl : j = 0 := by omega
    have h' : outI v = false := h
    show nodeF (-1, 0, 0, 0, false, v) _ _ _ = 0
    unfold nodeF
    rw [if_pos (show nf (-1, 0, 0, 0, false, v) = -1 from rfl)]
    unfold lfF
    rw [if_neg (by show ¬ outI v = true; rw [h']; decide), if_neg (by simp [nc, nl, nr, ns])]
  | .nd f c s l r, k, N, ⟨g0, g1, g2, g3, g4⟩, hN, j, hj => by
    have z1 := l.size_pos
    have z2 := r.size_pos
    have es : (BT.nd f c s l r).size = 1 + l.size + r.size := rfl
    rw [es] at hN hj
    have e : lay (.nd f c s l r) k = (f, c, ((k + 1 : Nat) : Int), ((k + 1 + l.size : Nat) : Int), s, 0) :: (lay l (k + 1) ++ lay r (k + 1 + l.size)) := rfl
    rw [e]
    rcases j with _ | j
    · show nodeF (f, c, ((k + 1 : Nat) : Int), ((k + 1 + l.size : Nat) : Int), s, 0) _ _ _ = 0
      unfold nodeF
      rw [if_neg (show nf (f, c, ((k + 1 : Nat) : Int), ((k + 1 + l.size : Nat) : Int), s, (0 : Int)) ≠ -1 by show f ≠ -1; omega)]
      unfold asF
      rw [if_neg, if_neg]
      · show ¬ ((0 : Int) ≠ 0 ∨ ((k + 1 : Nat) : Int) = ((k + 1 + l.size : Nat) : Int))
        omega
      · show ¬ (f < 0 ∨ m ≤ f ∨ outI c = true ∨ inB ((k + 1 : Nat) : Int) (k + 0) N = false ∨ inB ((k + 1 + l.size : Nat) : Int) (k + 0) N = false)
        intro q
        have b1 : inB ((k + 1 : Nat) : Int) (k + 0) N = true := by unfold inB; rw [decide_eq_true (by omega), decide_eq_true (by omega)]; rfl
        have b2 : inB ((k + 1 + l.size : Nat) : Int) (k + 0) N = true := by unfold inB; rw [decide_eq_true (by omega), decide_eq_true (by omega)]; rfl
        rw [g2, b1, b2] at q
        rcases q with q | q | q | q | q
        · omega
        · omega
        · cases q
        · cases q
        · cases q
    · have e2 : nAt ((f, c, ((k + 1 : Nat) : Int), ((k + 1 + l.size : Nat) : Int), s, (0 : Int)) :: (lay l (k + 1) ++ lay r (k + 1 + l.size))) (j + 1) = nAt (lay l (k + 1) ++ lay r (k + 1 + l.size)) j := by simp [nAt]
      rw [e2]
      by_cases hl : j < l.size
      · have e3 : nAt (lay l (k + 1) ++ lay r (k + 1 + l.size)) j = nAt (lay l (k + 1)) j := by
          unfold nAt; simp [List.getD, List.getElem?_append_left (show j < (lay l (k + 1)).length by rw [lay_len]; exact hl)]
        rw [e3, show k + (j + 1) = k + 1 + j by omega]
        exact node_lay l (k + 1) N g3 (by omega) j hl
      · have e3 : nAt (lay l (k + 1) ++ lay r (k + 1 + l.size)) j = nAt (lay r (k + 1 + l.size)) (j - l.size) := by
          unfold nAt
          simp only [List.getD]
          rw [List.getElem?_append_right (by rw [lay_len]; omega), lay_len]
        rw [e3, show k + (j + 1) = k + 1 + l.size + (j - l.size) by omega]
        exact node_lay r (k + 1 + l.size) N g4 (by omega) (j - l.size) (by omega)
theorem lay_fair {T : BT} {m : Int} (h : okB m T) (h0 : 0 ≤ m) (h8 : m ≤ 8) (hs : T.size ≤ 63) : Fair (lay T 0) m := by
  refine ⟨by rw [lay_len]; exact hs, by rw [lay_len]; exact T.size_pos, h0, h8, fun j hj => ?_, fun j h1 h2 => ?_⟩
  · rw [lay_len] at hj
    have := node_lay T 0 T.size h (by omega) j hj
    rw [lay_len]
    simpa using this
  · rw [lay_len] at h2
    rw [ups_lay T 0 j h, if_pos (by omega)]
theorem lay_deep {T : BT} {m : Int} (h : okB m T) (h0 : 0 ≤ m) (h8 : m ≤ 8) (hs : T.size ≤ 63) : depth (lay T 0) 0 = T.deep := by
  have F := lay_fair h h0 h8 hs
  have := bt_deep F.2.2.2.2.1 (lay T 0).length 0 F.2.1 (by omega)
  rw [← this, bt_of_lay h]
theorem lay_tree {T : BT} {m : Int} (h : okB m T) (h0 : 0 ≤ m) (h8 : m ≤ 8) (hs : T.size ≤ 63) (hd : T.deep ≤ 10) : (treeF (lay T 0) m).2 = 0 := by
  rw [tree_fair (lay_fair h h0 h8 hs), lay_deep h h0 h8 hs, if_neg (by omega)]
theorem bt_agree {t u : List Nd} {m : Int} (h : Right t m) (hu : Right u m) (hl : u.length = t.length) {j : Nat} (hq : ∀ q, j ≤ q → q < t.length → nAt u q = nAt t q) : ∀ (k i : Nat), j ≤ i → i < t.length → t.length ≤ k + i → bt u i = bt t i
  | 0, i, hj, hi, hk => by omega
  | k + 1, i, hj, hi, hk => by
    have hi' : i < u.length := by omega
    have e := hq i hj hi
    by_cases hf : nf (nAt t i) = -1
    · rw [bt_leaf hi hf, bt_leaf hi' (by rw [e]; exact hf), e]
    · obtain ⟨a, b, ea, eb, h1, h2, h3, h4, _⟩ := ask_at h hi hf
      rw [bt_ask h hi hf ea eb, bt_ask hu hi' (by rw [e]; exact hf) (by rw [e]; exact ea) (by rw [e]; exact eb), e, bt_agree h hu hl hq k a (by omega) h2 (by omega), bt_agree h hu hl hq k b (by omega) h4 (by omega)]
end Go.Proofs.YtaijnacghiloaaaGreatDoor.M
