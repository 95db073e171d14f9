/-
  Several texts as one: TCheck, MathB, MathK.
-/
import Derived.Test.YtodidokeblblgaaGreatRunF12
import Derived.Test.YtodidokeblblgaaGreatRunF5
import Derived.Test.YtodidokeblblgaaGreatRunF6
namespace Go.Proofs.YtodidokeblblgaaGreat
open Go.ChangeShapes Go.WideShapes Go.ChangeAt Go.RowKit Go.Lib
set_option linter.unusedVariables false
theorem two_val {n : Nat} {c : Int} {tf : Nat × Int} (h : tf = (n, c)) : Ending.returned (.tuple #[.int .i64 (n : Nat), errV c]) = .returned (.tuple #[.int .i64 (tf.1 : Nat), errV tf.2]) := by rw [h]

set_option maxHeartbeats 4000000 in
set_option maxRecDepth 10000 in
theorem tcheck_any (a0 : Option Addr) (ts : List M.Nd) (cap : Nat) (m : Int) (w : World) (h : RdN w a0 ts) :
    Calls Tryz.prog 84 #[.slice a0 ts.length cap, .int .i64 m] w fun e w' => e = .returned (.tuple #[.int .i64 ((M.treeF ts m).1 : Nat), errV (M.treeF ts m).2]) ∧ Below w.heap.size w w' := by
  have hm : ts.length ≤ 9223372036854775807 := h.1
  by_cases h63 : 63 < ts.length
  · have E := hide (M.tree_full (m := m) h63)
    have hd : decide ((63 : Int) < (ts.length : Int)) = true := decide_eq_true (by omega)
    clear h h63
    generalize M.treeF ts m = tf at *
    go_enter Tryz.func84, Tryz.ntmps84
    go_wp2
    go_ret2
    exact ⟨two_val E.out, Below.refl _ _⟩
  · have hd : decide ((63 : Int) < (ts.length : Int)) = false := decide_eq_false (by omega)
    by_cases h0 : ts.length = 0
    · have E := hide (M.tree_none (m := m) h0)
      have q0 : ((ts.length : Int) == 0) = true := by rw [beq_iff_eq]; omega
      clear h h63 h0
      generalize M.treeF ts m = tf at *
      generalize ts.length = len at *
      go_enter Tryz.func84, Tryz.ntmps84
      go_wp2
      go_ret2
      exact ⟨two_val E.out, Below.refl _ _⟩
    · have q0 : ((ts.length : Int) == 0) = false := by rw [beq_eq_false_iff_ne]; omega
      by_cases h1 : m < 0
      · have E := hide (M.tree_range h63 h0 (.inl h1))
        have q1 : decide (m < 0) = true := decide_eq_true h1
        clear h h63 h0 h1
        generalize M.treeF ts m = tf at *
        generalize ts.length = len at *
        go_enter Tryz.func84, Tryz.ntmps84
        go_wp2
        go_ret2
        exact ⟨two_val E.out, Below.refl _ _⟩
      · have q1 : decide (m < 0) = false := decide_eq_false h1
        by_cases h2 : 8 < m
        · have E := hide (M.tree_range h63 h0 (.inr h2))
          have q2 : decide (8 < m) = true := decide_eq_true h2
          clear h h63 h0 h1 h2
          generalize M.treeF ts m = tf at *
          generalize ts.length = len at *
          go_enter Tryz.func84, Tryz.ntmps84
          go_wp2
          go_ret2
          exact ⟨two_val E.out, Below.refl _ _⟩
        · have q2 : decide (8 < m) = false := decide_eq_false h2
          have l63 : ts.length ≤ 63 := by omega
          have TN : Hid (∀ i, i < ts.length → M.nodeF (M.nAt ts i) i ts.length m ≠ 0 → (∀ j, j < i → M.nodeF (M.nAt ts j) j ts.length m = 0) → M.treeF ts m = (i, M.nodeF (M.nAt ts i) i ts.length m)) := fun i hi hb hj => M.tree_node h63 h0 (by omega) hi hb hj
          have TS : Hid ((∀ j, j < ts.length → M.nodeF (M.nAt ts j) j ts.length m = 0) → 0 < M.strayV ts → M.treeF ts m = (M.strayV ts, 7)) := fun hb hs => M.stray_tree h63 h0 (by omega) hb hs
          have TF : Hid ((∀ j, j < ts.length → M.nodeF (M.nAt ts j) j ts.length m = 0) → M.strayV ts = 0 → M.treeF ts m = if 10 < M.deepest ts ts.length then (0, 4) else (0, 0)) := fun hb hs => by
            have F : M.Fair ts m := ⟨by omega, by omega, by omega, by omega, hb, M.stray_zero hs⟩
            rw [M.deepest_eq F]; exact M.tree_fair F
          have CS : Hid (∀ W, Below w.heap.size w W → (∀ j, j < ts.length → M.nodeF (M.nAt ts j) j ts.length m = 0) → Calls Tryz.prog 95 #[.slice a0 ts.length cap] W fun e w' => e = .returned (.int .i64 (M.strayV ts : Nat)) ∧ Below W.heap.size W w') := fun W hW hb => stray_any a0 ts cap m W (h.below hW) l63 hb
          have CD : Hid (∀ W, Below w.heap.size w W → (∀ j, j < ts.length → M.nodeF (M.nAt ts j) j ts.length m = 0) → Calls Tryz.prog 96 #[.slice a0 ts.length cap] W fun e w' => e = .returned (.int .i64 (M.deepest ts ts.length : Nat)) ∧ Below W.heap.size W w') := fun W hW hb => depth_any a0 ts cap m W (h.below hW) l63 hb
          have DB := M.deep_le ts ts.length
          have SB : M.strayV ts ≤ 63 := by
            rcases Nat.eq_zero_or_pos (M.strayV ts) with e | e
            · omega
            · unfold M.strayV
              cases q : M.firstN (M.strayP ts) ts.length with
              | none => simp
              | some k => have := (M.first_some q).1; simp; omega
          have HR := hide h.2
          clear h h63 h0 h1 h2
          generalize M.treeF ts m = tf at *
          generalize M.strayV ts = sv at *
          generalize M.deepest ts ts.length = dv at *
          go_enter Tryz.func84, Tryz.ntmps84
          go_wp2
          go_loopw [27] (fun i wr => ∃ k : Nat, k ≤ ts.length ∧ i = .int .i64 k ∧ Below w.heap.size w wr ∧ Hid (∀ j, j < k → M.nodeF (M.nAt ts j) j ts.length m = 0)) (fun i _ => ts.length - (intOf i).toNat)
          case atStart => exact ⟨0, Nat.zero_le _, rfl, Below.refl _ _, fun j hj => by omega⟩
          case round =>
            obtain ⟨k, hk, rfl, hbl, I⟩ := hrel
            by_cases hlt : k < ts.length
            · obtain ⟨b0, off, rfl, hb0, hc⟩ := HR.out (by intro e; subst e; simp at hlt)
              obtain ⟨s0, s1, s2, s3, s4, s5⟩ := (hc k hlt).below hbl hb0
              have C1 := hide (fun W => checknode_any (M.nAt ts k) k ts.length (k : Int) ((ts.length : Int) - 1) m W rfl rfl)
              unfold ndV at C1
              have NB : Hid (∀ o W, Below (wr.alloc o).heap.size (wr.alloc o) W → Below w.heap.size w W) := fun o W hW => below_on (below_on hbl ((Below.refl _ wr).alloc (Nat.le_refl _) o)) hW
              by_cases hf : M.nodeF (M.nAt ts k) k ts.length m = 0
              · have N : Hid (∀ j, j < k + 1 → M.nodeF (M.nAt ts j) j ts.length m = 0) := fun j hj => by
                  by_cases e : j = k
                  · subst e; exact hf
                  · exact I.out j (by omega)
                rw [err_nil hf] at C1
                clear hc hf hbl
                generalize M.nf (M.nAt ts k) = f at *
                generalize M.nc (M.nAt ts k) = c at *
                generalize M.nl (M.nAt ts k) = l at *
                generalize M.nr (M.nAt ts k) = r at *
                generalize M.ns (M.nAt ts k) = sl at *
                generalize M.nv (M.nAt ts k) = v at *
                go_wp2_with (go_at_call 94; refine (C1.out _).mono ?_; rintro e w1 ⟨rfl, hb1⟩)
                go_roundw
                case rel => exact ⟨k + 1, by omega, by go_num, NB.out _ w1 hb1, N⟩
                case measure => simp [intOf]; omega
              · have E := hide (TN.out k hlt hf I.out)
                have EE : Hid (errV (M.nodeF (M.nAt ts k) k ts.length m) = .iface 44 (.int .i64 (M.nodeF (M.nAt ts k) k ts.length m))) := err_some hf
                rw [err_some hf] at C1
                clear hc hf hbl TN
                generalize M.nodeF (M.nAt ts k) k ts.length m = cc at *
                generalize M.nf (M.nAt ts k) = f at *
                generalize M.nc (M.nAt ts k) = c at *
                generalize M.nl (M.nAt ts k) = l at *
                generalize M.nr (M.nAt ts k) = r at *
                generalize M.ns (M.nAt ts k) = sl at *
                generalize M.nv (M.nAt ts k) = v at *
                go_wp2_with (go_at_call 94; refine (C1.out _).mono ?_; rintro e w1 ⟨rfl, hb1⟩)
                go_ret2
                exact ⟨by rw [← EE.out]; exact two_val E.out, NB.out _ w1 hb1⟩
            · have A : Hid (∀ j, j < ts.length → M.nodeF (M.nAt ts j) j ts.length m = 0) := fun j hj => I.out j (by omega)
              have S1 := hide (CS.out wr hbl A.out)
              have D1 := hide (fun W (hW : Below w.heap.size w W) => CD.out W hW A.out)
              by_cases hs : sv = 0
              · have qs : decide (0 < sv) = false := decide_eq_false (by omega)
                have E1 := hide (TF.out A.out hs)
                by_cases h10 : 10 < dv
                · have qd : decide ((10 : Int) < (dv : Int)) = true := decide_eq_true (by omega)
                  have E : Hid (tf = (0, 4)) := by have := E1.out; rw [if_pos h10] at this; exact this
                  clear E1 TN TS TF A CS CD HR hs h10
                  go_wp2_with (first
                    | (go_at_call 95; refine S1.out.mono ?_; rintro e w1 ⟨rfl, hb1⟩)
                    | (go_at_call 96; refine (D1.out _ (below_on hbl hb1)).mono ?_; rintro e w2 ⟨rfl, hb2⟩))
                  go_ret2
                  exact ⟨two_val E.out, below_on (below_on hbl hb1) hb2⟩
                · have qd : decide ((10 : Int) < (dv : Int)) = false := decide_eq_false (by omega)
                  have E : Hid (tf = (0, 0)) := by have := E1.out; rw [if_neg h10] at this; exact this
                  clear E1 TN TS TF A CS CD HR hs h10
                  go_wp2_with (first
                    | (go_at_call 95; refine S1.out.mono ?_; rintro e w1 ⟨rfl, hb1⟩)
                    | (go_at_call 96; refine (D1.out _ (below_on hbl hb1)).mono ?_; rintro e w2 ⟨rfl, hb2⟩))
                  go_ret2
                  exact ⟨two_val E.out, below_on (below_on hbl hb1) hb2⟩
              · have qs : decide (0 < sv) = true := decide_eq_true (by omega)
                have E := hide (TS.out A.out (by omega))
                clear TN TS TF A CS CD HR hs D1
                go_wp2_with (go_at_call 95; refine S1.out.mono ?_; rintro e w1 ⟨rfl, hb1⟩)
                go_ret2
                exact ⟨two_val E.out, below_on hbl hb1⟩
end Go.Proofs.YtodidokeblblgaaGreat

namespace Go.Proofs.YtodidokeblblgaaGreat.M
set_option linter.unusedVariables false
/-- L's nodes are t's in another order: at place p is what is at place s p; what is below stands behind -/
structure Relab (t L : List Nd) (s : Nat → Nat) : Prop where
  len : L.length = t.length
  lt : ∀ p, p < t.length → s p < t.length
  inj : ∀ p q, p < t.length → q < t.length → s p = s q → p = q
  zero : s 0 = 0
  f : ∀ p, p < t.length → nf (nAt L p) = nf (nAt t (s p))
  c : ∀ p, p < t.length → nc (nAt L p) = nc (nAt t (s p))
  e : ∀ p, p < t.length → ns (nAt L p) = ns (nAt t (s p))
  v : ∀ p, p < t.length → nv (nAt L p) = nv (nAt t (s p))
  leaf : ∀ p, p < t.length → nf (nAt t (s p)) = -1 → nl (nAt L p) = nl (nAt t (s p)) ∧ nr (nAt L p) = nr (nAt t (s p))
  l : ∀ p, p < t.length → nf (nAt t (s p)) ≠ -1 → ∃ a : Nat, nl (nAt L p) = a ∧ p < a ∧ a < t.length ∧ nl (nAt t (s p)) = (s a : Nat)
  r : ∀ p, p < t.length → nf (nAt t (s p)) ≠ -1 → ∃ a : Nat, nr (nAt L p) = a ∧ p < a ∧ a < t.length ∧ nr (nAt t (s p)) = (s a : Nat)

theorem nodup_len : ∀ (n : Nat) (l : List Nat), l.Nodup → (∀ x ∈ l, x < n) → l.length ≤ n
  | 0, l, _, h => by
    cases l with
    | nil => exact Nat.le_refl _
    | cons x t => exact absurd (h x (by simp)) (by omega)
  | n + 1, l, hd, h => by
    by_cases hm : n ∈ l
    · have := nodup_len n (l.erase n) (hd.erase n) (fun x hx => by
        have := (hd.mem_erase_iff).1 hx
        have := h x this.2
        omega)
      rw [List.length_erase_of_mem hm] at this
      omega
    · have := nodup_len n l hd (fun x hx => by
        have := h x hx
        have : x ≠ n := fun e => hm (e ▸ hx)
        omega)
      omega

theorem Relab.perm {t L : List Nd} {s : Nat → Nat} (h : Relab t L s) : ((List.range t.length).map s).Perm (List.range t.length) := by
  have nd : ((List.range t.length).map s).Nodup := by
    rw [List.Nodup, List.pairwise_map]
    refine List.Pairwise.imp_of_mem ?_ (List.nodup_range (n := t.length))
    intro a b ha hb hab e
    exact hab (h.inj a b (by simpa using ha) (by simpa using hb) e)
  have sub : ∀ x ∈ (List.range t.length).map s, x < t.length := fun x hx => by
    obtain ⟨p, hp, rfl⟩ := List.mem_map.1 hx
    exact h.lt p (by simpa using hp)
  refine (List.perm_ext_iff_of_nodup nd List.nodup_range).2 (fun x => ⟨fun hx => by simpa using sub x hx, fun hx => ?_⟩)
  have hx' : x < t.length := by simpa using hx
  by_cases hm : x ∈ (List.range t.length).map s
  · exact hm
  · have := nodup_len t.length (x :: (List.range t.length).map s) (List.nodup_cons.2 ⟨hm, nd⟩) (fun y hy => by
      rcases List.mem_cons.1 hy with q | q
      · rw [q]; exact hx'
      · exact sub y q)
    simp at this
    omega
theorem Relab.onto {t L : List Nd} {s : Nat → Nat} (h : Relab t L s) {x : Nat} (hx : x < t.length) : ∃ p, p < t.length ∧ s p = x := by
  have := (h.perm.mem_iff (a := x)).2 (by simpa using hx)
  obtain ⟨p, hp, e⟩ := List.mem_map.1 this
  exact ⟨p, by simpa using hp, e⟩
theorem list_range (t : List Nd) : t = (List.range t.length).map (nAt t) := by
  apply List.ext_getElem?
  intro i
  by_cases h : i < t.length
  · rw [List.getElem?_map, List.getElem?_range h, List.getElem?_eq_getElem h]
    simp [nAt_eq h]
  · rw [List.getElem?_eq_none (by omega), List.getElem?_eq_none (by simp; omega)]
theorem Relab.key {t L : List Nd} {s : Nat → Nat} (h : Relab t L s) {a j : Nat} (ha : a < t.length) (hj : j < t.length) : ((a : Int) = (j : Int)) ↔ ((s a : Nat) : Int) = ((s j : Nat) : Int) := by
  constructor
  · intro e
    have : a = j := by omega
    rw [this]
  · intro e
    have := h.inj a j ha hj (by omega)
    omega
theorem Relab.edge {t L : List Nd} {s : Nat → Nat} (h : Relab t L s) {p j : Nat} (hp : p < t.length) (hj : j < t.length) : edge (j : Nat) (nAt L p) = edge (s j : Nat) (nAt t (s p)) := by
  unfold M.edge
  rw [h.f p hp]
  by_cases hf : nf (nAt t (s p)) = -1
  · rw [if_pos hf, if_pos hf]
  · rw [if_neg hf, if_neg hf]
    obtain ⟨a, e1, _, a2, e2⟩ := h.l p hp hf
    obtain ⟨b, e3, _, b2, e4⟩ := h.r p hp hf
    rw [e1, e2, e3, e4]
    have k1 := h.key a2 hj
    have k2 := h.key b2 hj
    by_cases q1 : (a : Int) = j <;> by_cases q2 : (b : Int) = j
    · rw [if_pos q1, if_pos q2, if_pos (k1.1 q1), if_pos (k2.1 q2)]
    · rw [if_pos q1, if_neg q2, if_pos (k1.1 q1), if_neg (fun c => q2 (k2.2 c))]
    · rw [if_neg q1, if_pos q2, if_neg (fun c => q1 (k1.2 c)), if_pos (k2.1 q2)]
    · rw [if_neg q1, if_neg q2, if_neg (fun c => q1 (k1.2 c)), if_neg (fun c => q2 (k2.2 c))]
theorem Relab.ups {t L : List Nd} {s : Nat → Nat} (h : Relab t L s) {j : Nat} (hj : j < t.length) : ups L (j : Nat) = ups t (s j : Nat) := by
  have a : M.ups L (j : Nat) = ((List.range t.length).map fun p => M.edge (s j : Nat) (nAt t (s p))).sum := by
    unfold M.ups
    conv => lhs; rw [list_range L]
    rw [h.len, List.map_map]
    congr 1
    apply List.map_congr_left
    intro p hp
    exact h.edge (by simpa using hp) hj
  have b : M.ups t (s j : Nat) = ((List.range t.length).map fun p => M.edge (s j : Nat) (nAt t p)).sum := by
    unfold M.ups
    conv => lhs; rw [list_range t]
    rw [List.map_map]
    rfl
  rw [a, b]
  have := (h.perm.map (fun p => M.edge (s j : Nat) (nAt t p))).sum_nat
  rw [List.map_map] at this
  exact this

theorem Relab.node {t L : List Nd} {s : Nat → Nat} (h : Relab t L s) {m : Int} (ht : ∀ j, j < t.length → nodeF (nAt t j) j t.length m = 0) {p : Nat} (hp : p < t.length) : nodeF (nAt L p) p L.length m = 0 := by
  have hn := ht (s p) (h.lt p hp)
  unfold nodeF at hn ⊢
  rw [h.f p hp, h.len]
  by_cases hf : nf (nAt t (s p)) = -1
  · rw [if_pos hf] at hn ⊢
    unfold lfF at hn ⊢
    rw [h.v p hp, h.c p hp, h.e p hp, (h.leaf p hp hf).1, (h.leaf p hp hf).2]
    exact hn
  · rw [if_neg hf] at hn ⊢
    obtain ⟨a, e1, a1, a2, e2⟩ := h.l p hp hf
    obtain ⟨b, e3, b1, b2, e4⟩ := h.r p hp hf
    unfold asF at hn ⊢
    rw [h.f p hp, h.v p hp, h.c p hp]
    split at hn
    · cases hn
    · rename_i q1
      split at hn
      · cases hn
      · rename_i q2
        rw [if_neg, if_neg]
        · rw [e1, e3]
          intro c
          rcases c with c | c
          · exact q2 (.inl c)
          · have : a = b := by omega
            exact q2 (.inr (by rw [e2, e4, this]))
        · intro c
          rcases c with c | c | c | c | c
          · exact q1 (.inl c)
          · exact q1 (.inr (.inl c))
          · exact q1 (.inr (.inr (.inl c)))
          · rw [e1] at c; unfold inB at c; rw [decide_eq_true (by omega), decide_eq_true (by omega)] at c; cases c
          · rw [e3] at c; unfold inB at c; rw [decide_eq_true (by omega), decide_eq_true (by omega)] at c; cases c
theorem Relab.fair {t L : List Nd} {s : Nat → Nat} (h : Relab t L s) {m : Int} (F : Fair t m) : Fair L m := by
  obtain ⟨h1, h2, h3, h4, h5, h6⟩ := F
  refine ⟨by rw [h.len]; exact h1, by rw [h.len]; exact h2, h3, h4, fun j hj => h.node h5 (by rw [← h.len]; exact hj), fun j h0 hj => ?_⟩
  have hj' : j < t.length := by rw [← h.len]; exact hj
  rw [h.ups hj']
  refine h6 (s j) ?_ (h.lt j hj')
  rcases Nat.eq_zero_or_pos (s j) with q | q
  · have := h.inj j 0 hj' h2 (by rw [q, h.zero])
    omega
  · exact q
theorem Relab.dep {t L : List Nd} {s : Nat → Nat} (h : Relab t L s) : ∀ (k p : Nat), p < t.length → dep L k p = dep t k (s p)
  | 0, p, hp => rfl
  | k + 1, p, hp => by
    unfold M.dep
    rw [h.f p hp]
    by_cases hf : nf (nAt t (s p)) = -1
    · rw [if_pos hf, if_pos hf]
    · rw [if_neg hf, if_neg hf]
      obtain ⟨a, e1, a1, a2, e2⟩ := h.l p hp hf
      obtain ⟨b, e3, b1, b2, e4⟩ := h.r p hp hf
      rw [e1, e2, e3, e4, Int.toNat_natCast, Int.toNat_natCast, Int.toNat_natCast, Int.toNat_natCast, h.dep k a a2, h.dep k b b2]
theorem Relab.tree {t L : List Nd} {s : Nat → Nat} (h : Relab t L s) {m : Int} (hz : (treeF t m).2 = 0) : (treeF L m).2 = 0 := by
  obtain ⟨F, e⟩ := tree_ok hz
  have d : depth L 0 = depth t 0 := by
    unfold depth
    rw [h.len, h.dep _ 0 F.2.1, h.zero]
  rw [tree_fair (h.fair F), d, ← tree_fair F, e]
theorem Relab.go {t L : List Nd} {s : Nat → Nat} (h : Relab t L s) (r : List Int) : ∀ (k p : Nat), p < t.length → goD L r k p < t.length ∧ s (goD L r k p) = goD t r k (s p)
  | 0, p, hp => ⟨hp, rfl⟩
  | k + 1, p, hp => by
    unfold goD
    rw [h.f p hp]
    by_cases hf : nf (nAt t (s p)) = -1
    · rw [if_pos hf, if_pos hf]; exact ⟨hp, rfl⟩
    · rw [if_neg hf, if_neg hf]
      obtain ⟨a, e1, a1, a2, e2⟩ := h.l p hp hf
      obtain ⟨b, e3, b1, b2, e4⟩ := h.r p hp hf
      have lc : lessC (nAt L p) (r.getD (nf (nAt L p)).toNat 0) = lessC (nAt t (s p)) (r.getD (nf (nAt t (s p))).toNat 0) := by
        unfold lessC
        rw [h.f p hp, h.e p hp, h.c p hp]
      unfold nextI
      rw [lc]
      split
      · rw [e1, e2, Int.toNat_natCast, Int.toNat_natCast]; exact h.go r k a a2
      · rw [e3, e4, Int.toNat_natCast, Int.toNat_natCast]; exact h.go r k b b2
theorem Relab.ready {t L : List Nd} {s : Nat → Nat} (h : Relab t L s) {r : List Int} (hr : readyF t r = 0) : readyF L r = 0 := by
  have h1 := (ready_ok hr).1
  have h2 := (ready_ok hr).2
  unfold readyF
  rw [if_neg (by simp [h1])]
  exact h.tree h2
/-- they tell the same of every row -/
theorem Relab.eval {t L : List Nd} {s : Nat → Nat} (h : Relab t L s) {r : List Int} (hr : readyF t r = 0) : evalV L r = evalV t r := by
  have F := (tree_ok (ready_ok hr).2).1
  unfold evalV
  rw [if_pos hr, if_pos (h.ready hr)]
  unfold toD
  rw [h.len]
  obtain ⟨g1, g2⟩ := h.go r t.length 0 F.2.1
  rw [h.v _ g1, g2, h.zero]

/-! ### level by level -/
def kids (n : Nd) : List Nat := if nf n = -1 then [] else [(nl n).toNat, (nr n).toNat]
/-- the order behind i nodes -/
def ordS (t : List Nd) : Nat → List Nat
  | 0 => [0]
  | i + 1 => ordS t i ++ kids (nAt t ((ordS t i).getD i 0))
theorem ord_pre (t : List Nd) (i : Nat) : ∀ k, ∃ x, ordS t (i + k) = ordS t i ++ x
  | 0 => ⟨[], by simp⟩
  | k + 1 => by
    obtain ⟨x, e⟩ := ord_pre t i k
    exact ⟨x ++ kids (nAt t ((ordS t (i + k)).getD (i + k) 0)), by rw [← List.append_assoc, ← e]; rfl⟩
theorem ord_at {t : List Nd} {i k p : Nat} (h : i ≤ k) (hp : p < (ordS t i).length) : (ordS t k).getD p 0 = (ordS t i).getD p 0 := by
  obtain ⟨x, e⟩ := ord_pre t i (k - i)
  rw [show i + (k - i) = k by omega] at e
  rw [e]
  simp [List.getD, List.getElem?_append_left hp]
theorem ord_len_mono {t : List Nd} {i k : Nat} (h : i ≤ k) : (ordS t i).length ≤ (ordS t k).length := by
  obtain ⟨x, e⟩ := ord_pre t i (k - i)
  rw [show i + (k - i) = k by omega] at e
  rw [e, List.length_append]; omega
theorem getD_mem' {l : List Nat} {i : Nat} (h : i < l.length) : l.getD i 0 ∈ l := by
  simp [List.getD, List.getElem?_eq_getElem h]
theorem mem_getB {l : List Nat} {x : Nat} (h : x ∈ l) : ∃ i, i < l.length ∧ l.getD i 0 = x := by
  obtain ⟨i, hi, e⟩ := List.getElem_of_mem h
  exact ⟨i, hi, by simp [List.getD, List.getElem?_eq_getElem hi, e]⟩
theorem nodup_at {l : List Nat} (h : l.Nodup) {i j : Nat} (hi : i < l.length) (hj : j < l.length) (e : l.getD i 0 = l.getD j 0) : i = j := by
  simp only [List.getD, List.getElem?_eq_getElem hi, List.getElem?_eq_getElem hj, Option.getD_some] at e
  rcases Nat.lt_trichotomy i j with q | q | q
  · exact absurd e (List.pairwise_iff_getElem.1 h i j hi hj q)
  · exact q
  · exact absurd e.symm (List.pairwise_iff_getElem.1 h j i hj hi q)
/-- what is so of the order behind i nodes, while there are more -/
structure Ord (t : List Nd) (i : Nat) : Prop where
  nd : (ordS t i).Nodup
  lt : ∀ x ∈ ordS t i, x < t.length
  up : ∀ x ∈ ordS t i, x ≠ 0 → ∃ p, p < i ∧ chL (nAt t ((ordS t i).getD p 0)) (x : Nat)
  dn : ∀ p, p < i → ∀ x : Nat, chL (nAt t ((ordS t i).getD p 0)) (x : Nat) → x ∈ ordS t i
  le : i ≤ (ordS t i).length
theorem kids_mem {t : List Nd} {m : Int} (F : Fair t m) {i x : Nat} (hi : i < t.length) : x ∈ kids (nAt t i) ↔ chL (nAt t i) (x : Nat) := by
  unfold kids chL
  by_cases hf : nf (nAt t i) = -1
  · simp [hf]
  · obtain ⟨a, b, ea, eb, _⟩ := ask_at F.2.2.2.2.1 hi hf
    rw [if_neg hf, ea, eb]
    simp only [ne_eq, hf, not_false_eq_true, true_and, Int.toNat_natCast, List.mem_cons, List.not_mem_nil, or_false]
    omega
theorem ord_start {t : List Nd} {m : Int} (F : Fair t m) : Ord t 0 :=
  ⟨by simp [ordS], fun x hx => by have : x = 0 := by simpa [ordS] using hx
                                  rw [this]; exact F.2.1, fun x hx h0 => absurd (by simpa [ordS] using hx) h0, fun p hp => by omega, Nat.zero_le _⟩
theorem ord_step {t : List Nd} {m : Int} (F : Fair t m) {i : Nat} (h : Ord t i) (hi : i < (ordS t i).length) : Ord t (i + 1) := by
  have hx : (ordS t i).getD i 0 < t.length := h.lt _ (getD_mem' hi)
  have e : ordS t (i + 1) = ordS t i ++ kids (nAt t ((ordS t i).getD i 0)) := rfl
  have at' : ∀ p, p < i + 1 → (ordS t (i + 1)).getD p 0 = (ordS t i).getD p 0 := fun p hp => ord_at (by omega) (by omega)
  have fresh : ∀ x, x ∈ kids (nAt t ((ordS t i).getD i 0)) → x ∉ ordS t i := fun x hk hm => by
    have c := (kids_mem F hx).1 hk
    have x0 : 0 < x ∧ x < t.length := by
      obtain ⟨a, b, ea, eb, q⟩ := ask_at F.2.2.2.2.1 hx c.1
      rcases c.2 with c | c <;> omega
    obtain ⟨p, hp, cp⟩ := h.up x hm (by omega)
    have hpl : p < (ordS t i).length := by omega
    have := up_one (F.2.2.2.2.2 x x0.1 x0.2) (h.lt _ (getD_mem' hpl)) hx cp c
    have := nodup_at h.nd hpl hi this
    omega
  refine ⟨?_, ?_, ?_, ?_, ?_⟩
  · rw [e, List.nodup_append]
    refine ⟨h.nd, ?_, fun a ha b hb q => fresh b hb (q ▸ ha)⟩
    unfold kids
    by_cases hf : nf (nAt t ((ordS t i).getD i 0)) = -1
    · rw [if_pos hf]; exact List.nodup_nil
    · rw [if_neg hf]
      obtain ⟨a, b, ea, eb, q⟩ := ask_at F.2.2.2.2.1 hx hf
      rw [ea, eb]
      simp only [Int.toNat_natCast, List.nodup_cons, List.mem_singleton, List.not_mem_nil, not_false_eq_true, List.nodup_nil, and_true]
      omega
  · intro x hm
    rw [e] at hm
    rcases List.mem_append.1 hm with q | q
    · exact h.lt x q
    · have c := (kids_mem F hx).1 q
      obtain ⟨a, b, ea, eb, r⟩ := ask_at F.2.2.2.2.1 hx c.1
      rcases c.2 with c | c <;> omega
  · intro x hm h0
    rw [e] at hm
    rcases List.mem_append.1 hm with q | q
    · obtain ⟨p, hp, c⟩ := h.up x q h0
      exact ⟨p, by omega, by rw [at' p (by omega)]; exact c⟩
    · exact ⟨i, by omega, by rw [at' i (by omega)]; exact (kids_mem F hx).1 q⟩
  · intro p hp x c
    rw [at' p hp] at c
    rw [e]
    by_cases q : p = i
    · rw [q] at c
      exact List.mem_append.2 (.inr ((kids_mem F hx).2 c))
    · exact List.mem_append.2 (.inl (h.dn p (by omega) x c))
  · have := ord_len_mono (t := t) (show i ≤ i + 1 by omega)
    omega
/-- where there are no more, all are there -/
theorem ord_full {t : List Nd} {m : Int} (F : Fair t m) {i : Nat} (h : Ord t i) (hi : (ordS t i).length = i) : i = t.length := by
  have all : ∀ n j, j < n → j < t.length → j ∈ ordS t i := by
    intro n
    induction n with
    | zero => intro j hj; omega
    | succ n ih =>
      intro j hj hl
      by_cases h0 : j = 0
      · subst h0
        obtain ⟨x, e⟩ := ord_pre t 0 i
        rw [show 0 + i = i by omega] at e
        rw [e]; simp [ordS]
      · obtain ⟨p, hp, c⟩ := up_some (F.2.2.2.2.2 j (by omega) hl)
        obtain ⟨a, b, ea, eb, q⟩ := ask_at F.2.2.2.2.1 hp c.1
        have hpj : p < j := by rcases c.2 with c | c <;> omega
        obtain ⟨k, hk, ek⟩ := mem_getB (ih p (by omega) (by omega))
        exact h.dn k (by omega) j (by rw [ek]; exact c)
  have p : (ordS t i).Perm (List.range t.length) := (List.perm_ext_iff_of_nodup h.nd List.nodup_range).2 (fun x => ⟨fun hx => by simpa using h.lt x hx, fun hx => all t.length x (by simpa using hx) (by simpa using hx)⟩)
  have := p.length_eq
  simp at this
  omega
theorem ord_all {t : List Nd} {m : Int} (F : Fair t m) : ∀ i, i ≤ t.length → Ord t i ∧ (i < t.length → i < (ordS t i).length)
  | 0, _ => ⟨ord_start F, fun _ => by simp [ordS]⟩
  | i + 1, hi => by
    obtain ⟨h, hl⟩ := ord_all F i (by omega)
    have h1 := ord_step F h (hl (by omega))
    refine ⟨h1, fun hlt => ?_⟩
    have := h1.le
    by_cases q : (ordS t (i + 1)).length = i + 1
    · have := ord_full F h1 q; omega
    · omega
theorem ord_end {t : List Nd} {m : Int} (F : Fair t m) : Ord t t.length ∧ (ordS t t.length).length = t.length := by
  have h := (ord_all F t.length (Nat.le_refl _)).1
  exact ⟨h, Nat.le_antisymm (nodup_len _ _ h.nd h.lt) h.le⟩
/-- a node, those below it at other places -/
def reN (n : Nd) (a : Nat) : Nd := if nf n = -1 then n else (nf n, nc n, (a : Nat), (a : Nat) + 1, ns n, nv n)
def levK (t : List Nd) : Nat → List Nd
  | 0 => []
  | i + 1 => levK t i ++ [reN (nAt t ((ordS t i).getD i 0)) (ordS t i).length]
def levels (t : List Nd) : List Nd := levK t t.length
theorem levK_len (t : List Nd) : ∀ i, (levK t i).length = i
  | 0 => rfl
  | i + 1 => by unfold levK; simp [levK_len t i]
theorem levK_at (t : List Nd) : ∀ (i p : Nat), p < i → nAt (levK t i) p = reN (nAt t ((ordS t p).getD p 0)) (ordS t p).length
  | 0, p, h => by omega
  | i + 1, p, h => by
    unfold levK nAt
    by_cases e : p = i
    · subst e
      simp [List.getD, levK_len]
    · have := levK_at t i p (by omega)
      unfold nAt at this
      rw [← this]
      simp [List.getD, List.getElem?_append_left, levK_len, show p < i by omega]
theorem levels_relab {t : List Nd} {m : Int} (F : Fair t m) : Relab t (levels t) (fun p => (ordS t t.length).getD p 0) := by
  obtain ⟨E, hl⟩ := ord_end F
  have here : ∀ p, p < t.length → (ordS t p).getD p 0 = (ordS t t.length).getD p 0 := fun p hp => (ord_at (by omega) ((ord_all F p (by omega)).2 hp)).symm
  have at' : ∀ p, p < t.length → nAt (levels t) p = reN (nAt t ((ordS t t.length).getD p 0)) (ordS t p).length := fun p hp => by
    unfold levels
    rw [levK_at t t.length p hp, here p hp]
  have kid : ∀ p, p < t.length → nf (nAt t ((ordS t t.length).getD p 0)) ≠ -1 → p < (ordS t p).length ∧ (ordS t p).length + 1 < t.length ∧ nl (nAt t ((ordS t t.length).getD p 0)) = ((ordS t t.length).getD (ordS t p).length 0 : Nat) ∧ nr (nAt t ((ordS t t.length).getD p 0)) = ((ordS t t.length).getD ((ordS t p).length + 1) 0 : Nat) := fun p hp hf => by
    have hx : (ordS t t.length).getD p 0 < t.length := E.lt _ (getD_mem' (by omega))
    have e : ordS t (p + 1) = ordS t p ++ kids (nAt t ((ordS t t.length).getD p 0)) := by rw [← here p hp]; rfl
    have ek : kids (nAt t ((ordS t t.length).getD p 0)) = [(nl (nAt t ((ordS t t.length).getD p 0))).toNat, (nr (nAt t ((ordS t t.length).getD p 0))).toNat] := by unfold kids; rw [if_neg hf]
    rw [ek] at e
    have l1 : (ordS t (p + 1)).length = (ordS t p).length + 2 := by rw [e]; simp
    have l2 := ord_len_mono (t := t) (show p + 1 ≤ t.length by omega)
    have g1 := ord_at (t := t) (show p + 1 ≤ t.length by omega) (show (ordS t p).length < _ by rw [l1]; omega)
    have g2 := ord_at (t := t) (show p + 1 ≤ t.length by omega) (show (ordS t p).length + 1 < _ by rw [l1]; omega)
    obtain ⟨a, b, ea, eb, q⟩ := ask_at F.2.2.2.2.1 hx hf
    refine ⟨(ord_all F p (by omega)).2 hp, by omega, ?_, ?_⟩
    · rw [g1, e, ea]; simp [List.getD]
    · rw [g2, e, eb]; simp [List.getD]
  refine ⟨by unfold levels; exact levK_len t _, fun p hp => E.lt _ (getD_mem' (by omega)), fun p q hp hq e => nodup_at E.nd (by omega) (by omega) e, ?_, ?_, ?_, ?_, ?_, ?_, ?_, ?_⟩
  · have := ord_at (t := t) (i := 0) (k := t.length) (p := 0) (Nat.zero_le _) (by simp [ordS])
    rw [this]; rfl
  · intro p hp; rw [at' p hp]; unfold reN; split <;> rfl
  · intro p hp; rw [at' p hp]; unfold reN; split <;> rfl
  · intro p hp; rw [at' p hp]; unfold reN; split <;> rfl
  · intro p hp; rw [at' p hp]; unfold reN; split <;> rfl
  · intro p hp hf; rw [at' p hp]; unfold reN; rw [if_pos hf]; exact ⟨rfl, rfl⟩
  · intro p hp hf
    obtain ⟨k1, k2, k3, k4⟩ := kid p hp hf
    exact ⟨(ordS t p).length, by rw [at' p hp]; unfold reN; rw [if_neg hf]; rfl, k1, by omega, k3⟩
  · intro p hp hf
    obtain ⟨k1, k2, k3, k4⟩ := kid p hp hf
    exact ⟨(ordS t p).length + 1, by rw [at' p hp]; unfold reN; rw [if_neg hf]; show ((ordS t p).length : Int) + 1 = _; omega, by omega, k2, k4⟩
/-- laid level by level a tree is right, and tells the same -/
theorem levels_tree {t : List Nd} {m : Int} (h : (treeF t m).2 = 0) : (treeF (levels t) m).2 = 0 := (levels_relab (tree_ok h).1).tree h
theorem levels_eval {t : List Nd} {r : List Int} (h : readyF t r = 0) : readyF (levels t) r = 0 ∧ evalV (levels t) r = evalV t r :=
  ⟨(levels_relab (tree_ok (ready_ok h).2).1).ready h, (levels_relab (tree_ok (ready_ok h).2).1).eval h⟩
theorem levels_len (t : List Nd) : (levels t).length = t.length := levK_len t _
/-- a node, those below it so many places further on -/
def sh (o : Nat) (n : Nd) : Nd := if nf n = -1 then n else (nf n, nc n, nl n + (o : Nat), nr n + (o : Nat), ns n, nv n)
theorem sh_nf (o : Nat) (n : Nd) : nf (sh o n) = nf n := by unfold sh; split <;> rfl
theorem sh_nv (o : Nat) (n : Nd) : nv (sh o n) = nv n := by unfold sh; split <;> rfl
theorem sh_nc (o : Nat) (n : Nd) : nc (sh o n) = nc n := by unfold sh; split <;> rfl
theorem sh_ns (o : Nat) (n : Nd) : ns (sh o n) = ns n := by unfold sh; split <;> rfl
theorem sh_leaf {n : Nd} (o : Nat) (h : nf n = -1) : sh o n = n := by unfold sh; rw [if_pos h]
theorem sh_ask {n : Nd} (o : Nat) (h : nf n ≠ -1) : sh o n = (nf n, nc n, nl n + (o : Nat), nr n + (o : Nat), ns n, nv n) := by unfold sh; rw [if_neg h]
/-- .. and back -/
def un (o : Nat) (n : Nd) : Nd := if nf n = -1 then n else (nf n, nc n, nl n - (o : Nat), nr n - (o : Nat), ns n, nv n)
theorem un_sh (o : Nat) (n : Nd) : un o (sh o n) = n := by
  unfold un
  rw [sh_nf]
  by_cases h : nf n = -1
  · rw [if_pos h, sh_leaf o h]
  · rw [if_neg h, sh_ask o h]
    obtain ⟨a, b, c, d, e, f⟩ := n
    simp [nf, nc, nl, nr, ns, nv] <;> omega

/-- while a tree is laid behind others -/
def mid (L t : List Nd) (i : Nat) : List Nd := L ++ (levK t i).map (sh L.length) ++ ((ordS t i).drop i).map (nAt t)
theorem mid_len {L t : List Nd} {i : Nat} (h : i ≤ (ordS t i).length) : (mid L t i).length = L.length + (ordS t i).length := by
  unfold mid; simp [levK_len]; omega
theorem mid_zero (L t : List Nd) : mid L t 0 = L ++ [nAt t 0] := by unfold mid; simp [levK, ordS]
def laid (L t : List Nd) : List Nd := L ++ (levels t).map (sh L.length)
theorem laid_len (L t : List Nd) : (laid L t).length = L.length + t.length := by unfold laid; simp [levels_len]
theorem mid_end {L t : List Nd} {m : Int} (F : Fair t m) : mid L t t.length = laid L t := by
  unfold mid laid levels
  rw [List.drop_of_length_le (by rw [(ord_end F).2]; exact Nat.le_refl _)]
  simp
theorem drop_cons {l : List Nat} {i : Nat} (h : i < l.length) : l.drop i = l.getD i 0 :: l.drop (i + 1) := by
  rw [List.drop_eq_getElem_cons h]
  simp [List.getD, List.getElem?_eq_getElem h]
theorem mid_split {L t : List Nd} {i : Nat} (h : i < (ordS t i).length) : mid L t i = (L ++ (levK t i).map (sh L.length)) ++ nAt t ((ordS t i).getD i 0) :: ((ordS t i).drop (i + 1)).map (nAt t) := by
  unfold mid; rw [drop_cons h]; simp
theorem pre_len (L t : List Nd) (i : Nat) : (L ++ (levK t i).map (sh L.length)).length = L.length + i := by simp [levK_len]
theorem mid_at {L t : List Nd} {i : Nat} (h : i < (ordS t i).length) : nAt (mid L t i) (L.length + i) = nAt t ((ordS t i).getD i 0) := by
  rw [mid_split h]
  unfold nAt
  rw [← pre_len L t i]
  simp [List.getD]
theorem mid_leaf {L t : List Nd} {i : Nat} (h : i < (ordS t i).length) (hf : nf (nAt t ((ordS t i).getD i 0)) = -1) : mid L t (i + 1) = mid L t i := by
  have e : ordS t (i + 1) = ordS t i := by
    show ordS t i ++ kids _ = _
    unfold kids; rw [if_pos hf]; simp
  rw [mid_split h]
  unfold mid
  rw [e]
  have : levK t (i + 1) = levK t i ++ [nAt t ((ordS t i).getD i 0)] := by
    show levK t i ++ [reN _ _] = _
    unfold reN; rw [if_pos hf]
  rw [this, List.map_append, List.map_cons, List.map_nil, sh_leaf _ hf]
  simp only [List.append_assoc, List.cons_append, List.nil_append]
theorem mid_ask {L t : List Nd} {i : Nat} (h : i < (ordS t i).length) (hf : nf (nAt t ((ordS t i).getD i 0)) ≠ -1) (hn : Nd) (hl : Nd) (hr : Nd)
    (e1 : hl = nAt t (nl (nAt t ((ordS t i).getD i 0))).toNat) (e2 : hr = nAt t (nr (nAt t ((ordS t i).getD i 0))).toNat)
    (e3 : hn = (nf (nAt t ((ordS t i).getD i 0)), nc (nAt t ((ordS t i).getD i 0)), ((mid L t i).length : Int), ((mid L t i).length : Int) + 1, ns (nAt t ((ordS t i).getD i 0)), nv (nAt t ((ordS t i).getD i 0)))) :
    mid L t (i + 1) = (mid L t i).set (L.length + i) hn ++ [hl, hr] := by
  have e : ordS t (i + 1) = ordS t i ++ [(nl (nAt t ((ordS t i).getD i 0))).toNat, (nr (nAt t ((ordS t i).getD i 0))).toNat] := by
    show ordS t i ++ kids _ = _
    unfold kids; rw [if_neg hf]
  have e4 : sh L.length (reN (nAt t ((ordS t i).getD i 0)) (ordS t i).length) = hn := by
    have e5 : reN (nAt t ((ordS t i).getD i 0)) (ordS t i).length = (nf (nAt t ((ordS t i).getD i 0)), nc (nAt t ((ordS t i).getD i 0)), ((ordS t i).length : Int), ((ordS t i).length : Int) + 1, ns (nAt t ((ordS t i).getD i 0)), nv (nAt t ((ordS t i).getD i 0))) := by unfold reN; rw [if_neg hf]
    rw [e5, e3, mid_len (by omega)]
    generalize nAt t ((ordS t i).getD i 0) = n at hf
    rw [sh_ask (n := (nf n, nc n, ((ordS t i).length : Int), ((ordS t i).length : Int) + 1, ns n, nv n)) _ hf]
    show (nf n, nc n, ((ordS t i).length : Int) + (L.length : Int), ((ordS t i).length : Int) + 1 + (L.length : Int), ns n, nv n) = _
    have q1 : ((ordS t i).length : Int) + (L.length : Int) = ((L.length + (ordS t i).length : Nat) : Int) := by omega
    have q2 : ((ordS t i).length : Int) + 1 + (L.length : Int) = ((L.length + (ordS t i).length : Nat) : Int) + 1 := by omega
    rw [q1, q2]
  rw [mid_split h, ← pre_len L t i, List.set_append_right _ _ (Nat.le_refl _), Nat.sub_self, List.set_cons_zero]
  unfold mid
  rw [e, List.drop_append_of_le_length (by omega)]
  have : levK t (i + 1) = levK t i ++ [reN (nAt t ((ordS t i).getD i 0)) (ordS t i).length] := rfl
  rw [this, List.map_append, List.map_append, List.map_cons, List.map_nil, e4, e1, e2]
  simp

/-! ### the order, as numbers -/
def ordI (t : List Nd) (k : Nat) : List Int := (ordS t k).map (fun x : Nat => (x : Int))
theorem ordI_len (t : List Nd) (k : Nat) : (ordI t k).length = (ordS t k).length := by unfold ordI; simp
theorem ordI_at (t : List Nd) (k : Nat) {p : Nat} (h : p < (ordS t k).length) : (ordI t k).getD p 0 = ((ordS t k).getD p 0 : Nat) := by
  unfold ordI
  simp [List.getD, List.getElem?_eq_getElem h]
theorem ordI_leaf {t : List Nd} {k : Nat} (hf : nf (nAt t ((ordS t k).getD k 0)) = -1) : ordI t (k + 1) = ordI t k ∧ levK t (k + 1) = levK t k ++ [nAt t ((ordS t k).getD k 0)] := by
  constructor
  · unfold ordI
    have e : ordS t (k + 1) = ordS t k := by
      show ordS t k ++ kids _ = _
      unfold kids; rw [if_pos hf]; simp
    rw [e]
  · show levK t k ++ [reN _ _] = _
    unfold reN; rw [if_pos hf]
theorem ordI_ask {t : List Nd} {m : Int} (F : Fair t m) {k : Nat} (hk : k < t.length) (hf : nf (nAt t ((ordS t k).getD k 0)) ≠ -1) :
    ordI t (k + 1) = ordI t k ++ [nl (nAt t ((ordS t k).getD k 0))] ++ [nr (nAt t ((ordS t k).getD k 0))] ∧ levK t (k + 1) = levK t k ++ [(nf (nAt t ((ordS t k).getD k 0)), nc (nAt t ((ordS t k).getD k 0)), ((ordI t k).length : Int), ((ordI t k).length : Int) + 1, ns (nAt t ((ordS t k).getD k 0)), nv (nAt t ((ordS t k).getD k 0)))] := by
  obtain ⟨h, hl⟩ := ord_all F k (by omega)
  have hx : (ordS t k).getD k 0 < t.length := h.lt _ (getD_mem' (hl hk))
  obtain ⟨a, b, ea, eb, q⟩ := ask_at F.2.2.2.2.1 hx hf
  constructor
  · unfold ordI
    have e : ordS t (k + 1) = ordS t k ++ [(nl (nAt t ((ordS t k).getD k 0))).toNat, (nr (nAt t ((ordS t k).getD k 0))).toNat] := by
      show ordS t k ++ kids _ = _
      unfold kids; rw [if_neg hf]
    rw [e, ea, eb]; simp
  · rw [ordI_len]
    show levK t k ++ [reN _ _] = _
    unfold reN; rw [if_neg hf]

/-! ### all trees -/
def laidK (T : List (List Nd)) : Nat → List Nd
  | 0 => []
  | k + 1 => laid (laidK T k) (T.getD k [])
def rootsK (T : List (List Nd)) : Nat → List Int
  | 0 => []
  | k + 1 => rootsK T k ++ [((laidK T k).length : Int)]
theorem rootsK_len (T : List (List Nd)) : ∀ k, (rootsK T k).length = k
  | 0 => rfl
  | k + 1 => by unfold rootsK; simp [rootsK_len T k]
theorem rootsK_at (T : List (List Nd)) : ∀ (k i : Nat), i < k → (rootsK T k).getD i 0 = ((laidK T i).length : Int)
  | 0, i, h => by omega
  | k + 1, i, h => by
    unfold rootsK
    by_cases e : i = k
    · subst e; simp [List.getD, rootsK_len]
    · have := rootsK_at T k i (by omega)
      rw [← this]
      simp [List.getD, List.getElem?_append_left, rootsK_len, show i < k by omega]
theorem laidK_pre (T : List (List Nd)) (k : Nat) : ∀ j, ∃ x, laidK T (k + j) = laidK T k ++ x
  | 0 => ⟨[], by simp⟩
  | j + 1 => by
    obtain ⟨x, e⟩ := laidK_pre T k j
    refine ⟨x ++ (levels (T.getD (k + j) [])).map (sh (laidK T (k + j)).length), ?_⟩
    rw [← List.append_assoc, ← e]; rfl
theorem laidK_at {T : List (List Nd)} {k n p : Nat} (h : k < n) (hp : p < (T.getD k []).length) : nAt (laidK T n) ((laidK T k).length + p) = sh (laidK T k).length (nAt (levels (T.getD k [])) p) ∧ (laidK T k).length + p < (laidK T n).length := by
  obtain ⟨x, e⟩ := laidK_pre T (k + 1) (n - (k + 1))
  rw [show k + 1 + (n - (k + 1)) = n by omega] at e
  have e2 : laidK T (k + 1) = laidK T k ++ (levels (T.getD k [])).map (sh (laidK T k).length) := rfl
  rw [e, e2]
  have hp' : p < (levels (T.getD k [])).length := by rw [levels_len]; exact hp
  generalize T.getD k [] = tk at *
  generalize laidK T k = A at *
  have hm : p < ((levels tk).map (sh A.length)).length := by rw [List.length_map]; exact hp'
  refine ⟨?_, by simp only [List.length_append, List.length_map]; omega⟩
  unfold nAt
  rw [List.append_assoc]
  simp only [List.getD]
  rw [List.getElem?_append_right (by omega), Nat.add_sub_cancel_left, List.getElem?_append_left hm, List.getElem?_map, List.getElem?_eq_getElem hp']
  rfl
theorem laidK_len_step (T : List (List Nd)) (k : Nat) : (laidK T (k + 1)).length = (laidK T k).length + (T.getD k []).length := laid_len _ _
theorem laidK_le (T : List (List Nd)) {k n : Nat} (h : k ≤ n) : (laidK T k).length ≤ (laidK T n).length := by
  obtain ⟨x, e⟩ := laidK_pre T k (n - k)
  rw [show k + (n - k) = n by omega] at e
  rw [e]; simp
theorem laidK_bound {T : List (List Nd)} (h : ∀ i, i < T.length → (T.getD i []).length ≤ 63) : ∀ k, k ≤ T.length → (laidK T k).length ≤ 63 * k
  | 0, _ => by simp [laidK]
  | k + 1, hk => by
    have := laidK_bound h k (by omega)
    have := h k (by omega)
    rw [laidK_len_step]; omega
/-- one tree's nodes, taken out -/
theorem laidK_take {T : List (List Nd)} {k n : Nat} (h : k < n) : ((laidK T n).drop (laidK T k).length).take (T.getD k []).length = (levels (T.getD k [])).map (sh (laidK T k).length) := by
  obtain ⟨x, e⟩ := laidK_pre T (k + 1) (n - (k + 1))
  rw [show k + 1 + (n - (k + 1)) = n by omega] at e
  have e2 : laidK T (k + 1) = laidK T k ++ (levels (T.getD k [])).map (sh (laidK T k).length) := rfl
  rw [e, e2, List.append_assoc, List.drop_left]
  have : (T.getD k []).length = ((levels (T.getD k [])).map (sh (laidK T k).length)).length := by simp [levels_len]
  rw [this, List.take_left]

/-! ### what Many says -/
def manyF (g : Gv) : List (List Int) → Int
  | [] => 0
  | r :: t => if standF g r ≠ 0 then standF g r else manyF g t
def manyV (g : Gv) (rs : List (List Int)) : List Int := if manyF g rs = 0 then rs.map (evalG g) else []
theorem many_none {g : Gv} : ∀ {rs : List (List Int)}, (∀ k, k < rs.length → standF g (rs.getD k []) = 0) → manyF g rs = 0
  | [], _ => rfl
  | r :: t, h => by
    unfold manyF
    have h0 := h 0 (by simp)
    rw [show (r :: t).getD 0 [] = r from rfl] at h0
    rw [if_neg (by simp [h0])]
    exact many_none (fun k hk => by have := h (k + 1) (by simp; omega); simpa using this)
theorem many_some {g : Gv} : ∀ {rs : List (List Int)} {k : Nat}, k < rs.length → (∀ j, j < k → standF g (rs.getD j []) = 0) → standF g (rs.getD k []) ≠ 0 → manyF g rs = standF g (rs.getD k [])
  | [], k, h, _, _ => by simp at h
  | r :: t, 0, h, _, hn => by
    unfold manyF
    rw [show (r :: t).getD 0 [] = r from rfl] at hn ⊢
    rw [if_pos hn]
  | r :: t, k + 1, h, ha, hn => by
    unfold manyF
    have h0 := ha 0 (by omega)
    rw [show (r :: t).getD 0 [] = r from rfl] at h0
    rw [if_neg (by simp [h0])]
    have e : (r :: t).getD (k + 1) [] = t.getD k [] := by simp
    rw [e] at hn ⊢
    exact many_some (by simpa using h) (fun j hj => by have := ha (j + 1) (by omega); simpa using this) hn
end Go.Proofs.YtodidokeblblgaaGreat.M
