/-
  What package tree's Check answers, for every list of nodes and every number of features.
-/
import Derived.Test.YthbeoaninipadafTDepth
namespace Go.Proofs.Ythbeoaninipadaf
open Go.ChangeShapes Go.WideShapes Go.ChangeAt Go.RowKit Go.Lib
set_option linter.unusedVariables false

theorem two_val {n : Nat} {c : Int} {tf : Nat × Int} (h : tf = (n, c)) : Ending.returned (.tuple #[.int .i64 (n : Nat), errV c]) = .returned (.tuple #[.int .i64 (tf.1 : Nat), errV tf.2]) := by rw [h]

set_option maxHeartbeats 4000000 in
set_option maxRecDepth 10000 in
theorem tcheck_any (a0 : Option Addr) (ts : List M.Nd) (cap : Nat) (m : Int) (w : World) (h : RdN w a0 ts) :
    Calls Try.prog 7 #[.slice a0 ts.length cap, .int .i64 m] w fun e w' => e = .returned (.tuple #[.int .i64 ((M.treeF ts m).1 : Nat), errV (M.treeF ts m).2]) ∧ Below w.heap.size w w' := by
  have hm : ts.length ≤ 9223372036854775807 := h.1
  by_cases h63 : 63 < ts.length
  · have E := hide (M.tree_full (m := m) h63)
    have hd : decide ((63 : Int) < (ts.length : Int)) = true := decide_eq_true (by omega)
    clear h h63
    generalize M.treeF ts m = tf at *
    go_enter Try.func7, Try.ntmps7
    go_wp2
    go_ret2
    exact ⟨two_val E.out, Below.refl _ _⟩
  · have hd : decide ((63 : Int) < (ts.length : Int)) = false := decide_eq_false (by omega)
    by_cases h0 : ts.length = 0
    · have E := hide (M.tree_none (m := m) h0)
      have q0 : ((ts.length : Int) == 0) = true := by rw [beq_iff_eq]; omega
      clear h h63 h0
      generalize M.treeF ts m = tf at *
      generalize ts.length = len at *
      go_enter Try.func7, Try.ntmps7
      go_wp2
      go_ret2
      exact ⟨two_val E.out, Below.refl _ _⟩
    · have q0 : ((ts.length : Int) == 0) = false := by rw [beq_eq_false_iff_ne]; omega
      by_cases h1 : m < 0
      · have E := hide (M.tree_range h63 h0 (.inl h1))
        have q1 : decide (m < 0) = true := decide_eq_true h1
        clear h h63 h0 h1
        generalize M.treeF ts m = tf at *
        generalize ts.length = len at *
        go_enter Try.func7, Try.ntmps7
        go_wp2
        go_ret2
        exact ⟨two_val E.out, Below.refl _ _⟩
      · have q1 : decide (m < 0) = false := decide_eq_false h1
        by_cases h2 : 8 < m
        · have E := hide (M.tree_range h63 h0 (.inr h2))
          have q2 : decide (8 < m) = true := decide_eq_true h2
          clear h h63 h0 h1 h2
          generalize M.treeF ts m = tf at *
          generalize ts.length = len at *
          go_enter Try.func7, Try.ntmps7
          go_wp2
          go_ret2
          exact ⟨two_val E.out, Below.refl _ _⟩
        · have q2 : decide (8 < m) = false := decide_eq_false h2
          have l63 : ts.length ≤ 63 := by omega
          have TN : Hid (∀ i, i < ts.length → M.nodeF (M.nAt ts i) i ts.length m ≠ 0 → (∀ j, j < i → M.nodeF (M.nAt ts j) j ts.length m = 0) → M.treeF ts m = (i, M.nodeF (M.nAt ts i) i ts.length m)) := fun i hi hb hj => M.tree_node h63 h0 (by omega) hi hb hj
          have TS : Hid ((∀ j, j < ts.length → M.nodeF (M.nAt ts j) j ts.length m = 0) → 0 < M.strayV ts → M.treeF ts m = (M.strayV ts, 7)) := fun hb hs => M.stray_tree h63 h0 (by omega) hb hs
          have TF : Hid ((∀ j, j < ts.length → M.nodeF (M.nAt ts j) j ts.length m = 0) → M.strayV ts = 0 → M.treeF ts m = if 10 < M.deepest ts ts.length then (0, 4) else (0, 0)) := fun hb hs => by
            have F : M.Fair ts m := ⟨by omega, by omega, by omega, by omega, hb, M.stray_zero hs⟩
            rw [M.deepest_eq F]; exact M.tree_fair F
          have CS : Hid (∀ W, Below w.heap.size w W → (∀ j, j < ts.length → M.nodeF (M.nAt ts j) j ts.length m = 0) → Calls Try.prog 24 #[.slice a0 ts.length cap] W fun e w' => e = .returned (.int .i64 (M.strayV ts : Nat)) ∧ Below W.heap.size W w') := fun W hW hb => stray_any a0 ts cap m W (h.below hW) l63 hb
          have CD : Hid (∀ W, Below w.heap.size w W → (∀ j, j < ts.length → M.nodeF (M.nAt ts j) j ts.length m = 0) → Calls Try.prog 25 #[.slice a0 ts.length cap] W fun e w' => e = .returned (.int .i64 (M.deepest ts ts.length : Nat)) ∧ Below W.heap.size W w') := fun W hW hb => depth_any a0 ts cap m W (h.below hW) l63 hb
          have DB := M.deep_le ts ts.length
          have SB : M.strayV ts ≤ 63 := by
            rcases Nat.eq_zero_or_pos (M.strayV ts) with e | e
            · omega
            · unfold M.strayV
              cases q : M.firstN (M.strayP ts) ts.length with
              | none => simp
              | some k => have := (M.first_some q).1; simp; omega
          have HR := hide h.2
          clear h h63 h0 h1 h2
          generalize M.treeF ts m = tf at *
          generalize M.strayV ts = sv at *
          generalize M.deepest ts ts.length = dv at *
          go_enter Try.func7, Try.ntmps7
          go_wp2
          go_loopw [27] (fun i wr => ∃ k : Nat, k ≤ ts.length ∧ i = .int .i64 k ∧ Below w.heap.size w wr ∧ Hid (∀ j, j < k → M.nodeF (M.nAt ts j) j ts.length m = 0)) (fun i _ => ts.length - (intOf i).toNat)
          case atStart => exact ⟨0, Nat.zero_le _, rfl, Below.refl _ _, fun j hj => by omega⟩
          case round =>
            obtain ⟨k, hk, rfl, hbl, I⟩ := hrel
            by_cases hlt : k < ts.length
            · obtain ⟨b0, off, rfl, hb0, hc⟩ := HR.out (by intro e; subst e; simp at hlt)
              obtain ⟨s0, s1, s2, s3, s4, s5⟩ := (hc k hlt).below hbl hb0
              have C1 := hide (fun W => checknode_any (M.nAt ts k) k ts.length (k : Int) ((ts.length : Int) - 1) m W rfl rfl)
              unfold ndV at C1
              have NB : Hid (∀ o W, Below (wr.alloc o).heap.size (wr.alloc o) W → Below w.heap.size w W) := fun o W hW => below_on (below_on hbl ((Below.refl _ wr).alloc (Nat.le_refl _) o)) hW
              by_cases hf : M.nodeF (M.nAt ts k) k ts.length m = 0
              · have N : Hid (∀ j, j < k + 1 → M.nodeF (M.nAt ts j) j ts.length m = 0) := fun j hj => by
                  by_cases e : j = k
                  · subst e; exact hf
                  · exact I.out j (by omega)
                rw [err_nil hf] at C1
                clear hc hf hbl
                generalize M.nf (M.nAt ts k) = f at *
                generalize M.nc (M.nAt ts k) = c at *
                generalize M.nl (M.nAt ts k) = l at *
                generalize M.nr (M.nAt ts k) = r at *
                generalize M.ns (M.nAt ts k) = sl at *
                generalize M.nv (M.nAt ts k) = v at *
                go_wp2_with (go_at_call 23; refine (C1.out _).mono ?_; rintro e w1 ⟨rfl, hb1⟩)
                go_roundw
                case rel => exact ⟨k + 1, by omega, by go_num, NB.out _ w1 hb1, N⟩
                case measure => simp [intOf]; omega
              · have E := hide (TN.out k hlt hf I.out)
                have EE : Hid (errV (M.nodeF (M.nAt ts k) k ts.length m) = .iface 58 (.int .i64 (M.nodeF (M.nAt ts k) k ts.length m))) := err_some hf
                rw [err_some hf] at C1
                clear hc hf hbl TN
                generalize M.nodeF (M.nAt ts k) k ts.length m = cc at *
                generalize M.nf (M.nAt ts k) = f at *
                generalize M.nc (M.nAt ts k) = c at *
                generalize M.nl (M.nAt ts k) = l at *
                generalize M.nr (M.nAt ts k) = r at *
                generalize M.ns (M.nAt ts k) = sl at *
                generalize M.nv (M.nAt ts k) = v at *
                go_wp2_with (go_at_call 23; refine (C1.out _).mono ?_; rintro e w1 ⟨rfl, hb1⟩)
                go_ret2
                exact ⟨by rw [← EE.out]; exact two_val E.out, NB.out _ w1 hb1⟩
            · have A : Hid (∀ j, j < ts.length → M.nodeF (M.nAt ts j) j ts.length m = 0) := fun j hj => I.out j (by omega)
              have S1 := hide (CS.out wr hbl A.out)
              have D1 := hide (fun W (hW : Below w.heap.size w W) => CD.out W hW A.out)
              by_cases hs : sv = 0
              · have qs : decide (0 < sv) = false := decide_eq_false (by omega)
                have E1 := hide (TF.out A.out hs)
                by_cases h10 : 10 < dv
                · have qd : decide ((10 : Int) < (dv : Int)) = true := decide_eq_true (by omega)
                  have E : Hid (tf = (0, 4)) := by have := E1.out; rw [if_pos h10] at this; exact this
                  clear E1 TN TS TF A CS CD HR hs h10
                  go_wp2_with (first
                    | (go_at_call 24; refine S1.out.mono ?_; rintro e w1 ⟨rfl, hb1⟩)
                    | (go_at_call 25; refine (D1.out _ (below_on hbl hb1)).mono ?_; rintro e w2 ⟨rfl, hb2⟩))
                  go_ret2
                  exact ⟨two_val E.out, below_on (below_on hbl hb1) hb2⟩
                · have qd : decide ((10 : Int) < (dv : Int)) = false := decide_eq_false (by omega)
                  have E : Hid (tf = (0, 0)) := by have := E1.out; rw [if_neg h10] at this; exact this
                  clear E1 TN TS TF A CS CD HR hs h10
                  go_wp2_with (first
                    | (go_at_call 24; refine S1.out.mono ?_; rintro e w1 ⟨rfl, hb1⟩)
                    | (go_at_call 25; refine (D1.out _ (below_on hbl hb1)).mono ?_; rintro e w2 ⟨rfl, hb2⟩))
                  go_ret2
                  exact ⟨two_val E.out, below_on (below_on hbl hb1) hb2⟩
              · have qs : decide (0 < sv) = true := decide_eq_true (by omega)
                have E := hide (TS.out A.out (by omega))
                clear TN TS TF A CS CD HR hs D1
                go_wp2_with (go_at_call 24; refine S1.out.mono ?_; rintro e w1 ⟨rfl, hb1⟩)
                go_ret2
                exact ⟨two_val E.out, below_on hbl hb1⟩

end Go.Proofs.Ythbeoaninipadaf
