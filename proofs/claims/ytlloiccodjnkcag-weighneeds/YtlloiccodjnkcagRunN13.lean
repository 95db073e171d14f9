/-
  Several texts as one: RefTree, RefNone.
-/
import Derived.Test.YtlloiccodjnkcagRunN12
import Derived.BigQuiet
import Derived.Deep.QuietTactic
namespace Go.Proofs.Ytlloiccodjnkcag
open Go.ChangeShapes Go.WideShapes Go.ChangeAt Go.RowKit
set_option linter.unusedVariables false

theorem two_int {n : Nat} {c : Int} {tf : Nat × Int} (h : tf = (n, c)) : Ending.returned (.tuple #[.int .i64 (n : Nat), .int .i64 c]) = .returned (.tuple #[.int .i64 (tf.1 : Nat), .int .i64 tf.2]) := by rw [h]
theorem node_alt (n : M.Nd) (i len : Nat) (m : Int) : M.nodeF n i len m = if M.nf n = -1 then (if M.outI (M.nv n) = true then 1 else if M.nc n ≠ 0 ∨ M.nl n ≠ 0 ∨ M.nr n ≠ 0 ∨ M.ns n = true then 3 else 0) else
    if M.nf n < 0 ∨ m ≤ M.nf n ∨ M.outI (M.nc n) = true ∨ M.nl n ≤ i ∨ (len : Int) ≤ M.nl n ∨ M.nr n ≤ i ∨ (len : Int) ≤ M.nr n then 1 else if M.nv n ≠ 0 ∨ M.nl n = M.nr n then 3 else 0 := by
  have hb : ∀ x : Int, M.inB x i len = false ↔ (x ≤ i ∨ (len : Int) ≤ x) := fun x => by
    unfold M.inB
    rw [Bool.and_eq_false_iff, decide_eq_false_iff_not, decide_eq_false_iff_not]
    omega
  unfold M.nodeF M.lfF M.asF
  by_cases h : M.nf n = -1
  · rw [if_pos h, if_pos h]
  · rw [if_neg h, if_neg h]
    simp only [hb, or_assoc]

set_option maxHeartbeats 16000000 in
set_option maxRecDepth 10000 in
theorem rtree_any (a0 : Option Addr) (ts : List M.Nd) (cap : Nat) (m : Int) (w : World) (h : RdN w a0 ts) :
    Calls Try.prog 31 #[.slice a0 ts.length cap, .int .i64 m] w fun e w' => e = .returned (.tuple #[.int .i64 ((M.treeF ts m).1 : Nat), .int .i64 (M.treeF ts m).2]) ∧ Below w.heap.size w w' := by
  have hm : ts.length ≤ 9223372036854775807 := h.1
  by_cases h63 : 63 < ts.length
  · have hd : decide ((63 : Int) < (ts.length : Int)) = true := decide_eq_true (by omega)
    have E := hide (M.tree_full (m := m) h63)
    clear h h63
    generalize M.treeF ts m = tf at *
    generalize ts.length = len at *
    go_enter Try.func31, Try.ntmps31
    go_wp2
    go_ret2
    exact ⟨two_int E.out, Below.refl _ _⟩
  · have hd : decide ((63 : Int) < (ts.length : Int)) = false := decide_eq_false (by omega)
    by_cases h0 : ts.length = 0
    · have q0 : ((ts.length : Int) == 0) = true := by rw [beq_iff_eq]; omega
      have E := hide (M.tree_none (m := m) h0)
      clear h h63 h0
      generalize M.treeF ts m = tf at *
      generalize ts.length = len at *
      go_enter Try.func31, Try.ntmps31
      go_wp2
      go_ret2
      exact ⟨two_int E.out, Below.refl _ _⟩
    · have q0 : ((ts.length : Int) == 0) = false := by rw [beq_eq_false_iff_ne]; omega
      by_cases h1 : m < 0
      · have q1 : decide (m < 0) = true := decide_eq_true h1
        have E := hide (M.tree_range h63 h0 (.inl h1))
        clear h h63 h0 h1
        generalize M.treeF ts m = tf at *
        generalize ts.length = len at *
        go_enter Try.func31, Try.ntmps31
        go_wp2
        go_ret2
        exact ⟨two_int E.out, Below.refl _ _⟩
      · have q1 : decide (m < 0) = false := decide_eq_false h1
        by_cases h2 : 8 < m
        · have q2 : decide (8 < m) = true := decide_eq_true h2
          have E := hide (M.tree_range h63 h0 (.inr h2))
          clear h h63 h0 h1 h2
          generalize M.treeF ts m = tf at *
          generalize ts.length = len at *
          go_enter Try.func31, Try.ntmps31
          go_wp2
          go_ret2
          exact ⟨two_int E.out, Below.refl _ _⟩
        · have q2 : decide (8 < m) = false := decide_eq_false h2
          have l63 : ts.length ≤ 63 := by omega
          have TN : Hid (∀ i c, i < ts.length → M.nodeF (M.nAt ts i) i ts.length m = c → c ≠ 0 → (∀ j, j < i → M.nodeF (M.nAt ts j) j ts.length m = 0) → M.treeF ts m = (i, c)) := fun i c hi hb hc hj => by
            have := M.tree_node h63 h0 (by omega) hi (by rw [hb]; exact hc) hj
            rw [hb] at this; exact this
          have TS : Hid (∀ i, (∀ j, j < ts.length → M.nodeF (M.nAt ts j) j ts.length m = 0) → i < ts.length → 0 < i → M.ups ts i ≠ 1 → (∀ j, 0 < j → j < i → M.ups ts j = 1) → M.treeF ts m = (i, 7)) := fun i hb hi hp hu hj => M.tree_stray h63 h0 (by omega) hb hi hp hu hj
          have TF : Hid ((∀ j, j < ts.length → M.nodeF (M.nAt ts j) j ts.length m = 0) → (∀ j, 0 < j → j < ts.length → M.ups ts j = 1) → M.treeF ts m = if 10 < M.depth ts 0 then (0, 4) else (0, 0)) := fun hb hs => M.tree_fair ⟨by omega, by omega, by omega, by omega, hb, hs⟩
          have CD : Hid (∀ W, Below w.heap.size w W → (∀ j, j < ts.length → M.nodeF (M.nAt ts j) j ts.length m = 0) → Calls Try.prog 55 #[.slice a0 ts.length cap, .int .i64 0] W fun e w' => e = .returned (.int .i64 (M.depth ts 0 : Nat)) ∧ w' = W) := fun W hW hb => rdepth_any a0 ts cap m W (h.below hW) l63 hb ts.length 0 (by omega) (by omega)
          have DB : Hid ((∀ j, j < ts.length → M.nodeF (M.nAt ts j) j ts.length m = 0) → M.depth ts 0 ≤ 63) := fun hb => by have := M.depth_le hb ts.length 0 (by omega) (by omega); omega
          have CC := hide rcell_any
          have HR := hide h.2
          clear h h63 h0 h1 h2
          generalize M.treeF ts m = tf at *
          generalize M.depth ts 0 = dv at *
          go_enter Try.func31, Try.ntmps31
          go_wp2
          go_loopw [6] (fun i wr => ∃ k : Nat, k ≤ ts.length ∧ i = .int .i64 k ∧ Below w.heap.size w wr ∧ Hid (∀ j, j < k → M.nodeF (M.nAt ts j) j ts.length m = 0)) (fun i _ => ts.length - (intOf i).toNat)
          case atStart => exact ⟨0, Nat.zero_le _, rfl, Below.refl _ _, fun j hj => by omega⟩
          case round =>
            obtain ⟨k, hk, rfl, hbl, I⟩ := hrel
            by_cases hlt : k < ts.length
            · obtain ⟨b0, off, rfl, hb0, hc⟩ := HR.out (by intro e; subst e; simp at hlt)
              obtain ⟨s0, s1, s2, s3, s4, s5⟩ := (hc k hlt).below hbl hb0
              have NB : Hid (∀ o, Below w.heap.size w (wr.alloc o)) := fun o => hbl.alloc hbl.size _
              have N : Hid (M.nodeF (M.nAt ts k) k ts.length m = 0 → ∀ j, j < k + 1 → M.nodeF (M.nAt ts j) j ts.length m = 0) := fun hf j hj => by
                by_cases e : j = k
                · subst e; exact hf
                · exact I.out j (by omega)
              have EN : Hid (∀ c, M.nodeF (M.nAt ts k) k ts.length m = c → c ≠ 0 → tf = (k, c)) := fun c h1 h2 => TN.out k c hlt h1 h2 I.out
              have D := hide (node_alt (M.nAt ts k) k ts.length m)
              clear hc hbl TN TS TF CD DB I
              generalize M.nodeF (M.nAt ts k) k ts.length m = nfv at *
              generalize M.nf (M.nAt ts k) = f at *
              generalize M.nc (M.nAt ts k) = c at *
              generalize M.nl (M.nAt ts k) = l at *
              generalize M.nr (M.nAt ts k) = r at *
              generalize M.ns (M.nAt ts k) = sl at *
              generalize M.nv (M.nAt ts k) = v at *
              by_cases hf : f = -1
              · have qf : (f == -1) = true := by rw [beq_iff_eq]; exact hf
                cases zv : M.outI v with
                | true =>
                  have E := hide (EN.out 1 (D.out.trans (by simp [hf, zv])) (by decide))
                  clear D EN N hf
                  go_wp2_with (go_at_call 54; refine (CC.out _ _).mono ?_; rintro e w1 ⟨rfl, rfl⟩)
                  go_ret2
                  exact ⟨two_int E.out, NB.out _⟩
                | false =>
                  by_cases hc : c = 0
                  · have qc : (c != 0) = false := by rw [bne_eq_false_iff_eq]; exact hc
                    by_cases hl : l = 0
                    · have ql : (l != 0) = false := by rw [bne_eq_false_iff_eq]; exact hl
                      by_cases hr : r = 0
                      · have qr : (r != 0) = false := by rw [bne_eq_false_iff_eq]; exact hr
                        cases sl with
                        | true =>
                          have E := hide (EN.out 3 (D.out.trans (by simp [hf, zv, hc, hl, hr])) (by decide))
                          clear D EN N hf hc hl hr
                          go_wp2_with (go_at_call 54; refine (CC.out _ _).mono ?_; rintro e w1 ⟨rfl, rfl⟩)
                          go_ret2
                          exact ⟨two_int E.out, NB.out _⟩
                        | false =>
                          have E := hide (N.out (D.out.trans (by simp [hf, zv, hc, hl, hr])))
                          clear D EN N hf hc hl hr
                          go_wp2_with (go_at_call 54; refine (CC.out _ _).mono ?_; rintro e w1 ⟨rfl, rfl⟩)
                          go_roundw
                          case rel => exact ⟨k + 1, by omega, by go_num, NB.out _, E⟩
                          case measure => simp [intOf]; omega
                      · have qr : (r != 0) = true := by rw [bne_iff_ne]; exact hr
                        have E := hide (EN.out 3 (D.out.trans (by simp [hf, zv, hr])) (by decide))
                        clear D EN N hf hr
                        go_wp2_with (go_at_call 54; refine (CC.out _ _).mono ?_; rintro e w1 ⟨rfl, rfl⟩)
                        go_ret2
                        exact ⟨two_int E.out, NB.out _⟩
                    · have ql : (l != 0) = true := by rw [bne_iff_ne]; exact hl
                      have E := hide (EN.out 3 (D.out.trans (by simp [hf, zv, hl])) (by decide))
                      clear D EN N hf hl
                      go_wp2_with (go_at_call 54; refine (CC.out _ _).mono ?_; rintro e w1 ⟨rfl, rfl⟩)
                      go_ret2
                      exact ⟨two_int E.out, NB.out _⟩
                  · have qc : (c != 0) = true := by rw [bne_iff_ne]; exact hc
                    have E := hide (EN.out 3 (D.out.trans (by simp [hf, zv, hc])) (by decide))
                    clear D EN N hf hc
                    go_wp2_with (go_at_call 54; refine (CC.out _ _).mono ?_; rintro e w1 ⟨rfl, rfl⟩)
                    go_ret2
                    exact ⟨two_int E.out, NB.out _⟩
              · have qf : (f == -1) = false := by rw [beq_eq_false_iff_ne]; exact hf
                by_cases h1 : f < 0
                · have q1 : decide (f < 0) = true := decide_eq_true h1
                  have E := hide (EN.out 1 (D.out.trans (by simp [hf, h1])) (by decide))
                  clear D EN N hf h1
                  go_wp2_with (go_at_call 54; refine (CC.out _ _).mono ?_; rintro e w1 ⟨rfl, rfl⟩)
                  go_ret2
                  exact ⟨two_int E.out, NB.out _⟩
                · have q1 : decide (f < 0) = false := decide_eq_false h1
                  by_cases h2 : m ≤ f
                  · have q2 : decide (m ≤ f) = true := decide_eq_true h2
                    have E := hide (EN.out 1 (D.out.trans (by simp [hf, h2])) (by decide))
                    clear D EN N hf h2
                    go_wp2_with (go_at_call 54; refine (CC.out _ _).mono ?_; rintro e w1 ⟨rfl, rfl⟩)
                    go_ret2
                    exact ⟨two_int E.out, NB.out _⟩
                  · have q2 : decide (m ≤ f) = false := decide_eq_false h2
                    cases zc : M.outI c with
                    | true =>
                      have E := hide (EN.out 1 (D.out.trans (by simp [hf, zc])) (by decide))
                      clear D EN N hf
                      go_wp2_with (go_at_call 54; refine (CC.out _ _).mono ?_; rintro e w1 ⟨rfl, rfl⟩)
                      go_ret2
                      exact ⟨two_int E.out, NB.out _⟩
                    | false =>
                      by_cases h3 : l ≤ (k : Int)
                      · have q3 : decide (l ≤ (k : Int)) = true := decide_eq_true h3
                        have E := hide (EN.out 1 (D.out.trans (by simp [hf, h3])) (by decide))
                        clear D EN N hf h3
                        go_wp2_with (go_at_call 54; refine (CC.out _ _).mono ?_; rintro e w1 ⟨rfl, rfl⟩)
                        go_ret2
                        exact ⟨two_int E.out, NB.out _⟩
                      · have q3 : decide (l ≤ (k : Int)) = false := decide_eq_false h3
                        by_cases h4 : (ts.length : Int) ≤ l
                        · have q4 : decide ((ts.length : Int) ≤ l) = true := decide_eq_true h4
                          have E := hide (EN.out 1 (D.out.trans (by simp [hf, h4])) (by decide))
                          clear D EN N hf h4
                          go_wp2_with (go_at_call 54; refine (CC.out _ _).mono ?_; rintro e w1 ⟨rfl, rfl⟩)
                          go_ret2
                          exact ⟨two_int E.out, NB.out _⟩
                        · have q4 : decide ((ts.length : Int) ≤ l) = false := decide_eq_false h4
                          by_cases h5 : r ≤ (k : Int)
                          · have q5 : decide (r ≤ (k : Int)) = true := decide_eq_true h5
                            have E := hide (EN.out 1 (D.out.trans (by simp [hf, h5])) (by decide))
                            clear D EN N hf h5
                            go_wp2_with (go_at_call 54; refine (CC.out _ _).mono ?_; rintro e w1 ⟨rfl, rfl⟩)
                            go_ret2
                            exact ⟨two_int E.out, NB.out _⟩
                          · have q5 : decide (r ≤ (k : Int)) = false := decide_eq_false h5
                            by_cases h6 : (ts.length : Int) ≤ r
                            · have q6 : decide ((ts.length : Int) ≤ r) = true := decide_eq_true h6
                              have E := hide (EN.out 1 (D.out.trans (by simp [hf, h6])) (by decide))
                              clear D EN N hf h6
                              go_wp2_with (go_at_call 54; refine (CC.out _ _).mono ?_; rintro e w1 ⟨rfl, rfl⟩)
                              go_ret2
                              exact ⟨two_int E.out, NB.out _⟩
                            · have q6 : decide ((ts.length : Int) ≤ r) = false := decide_eq_false h6
                              by_cases hv : v = 0
                              · have qv : (v != 0) = false := by rw [bne_eq_false_iff_eq]; exact hv
                                by_cases hlr : l = r
                                · have qlr : (l == r) = true := by rw [beq_iff_eq]; exact hlr
                                  have E := hide (EN.out 3 (D.out.trans (by simp [hf, h1, h2, zc, h5, h6, hv, hlr])) (by decide))
                                  clear D EN N hf h1 h2 h5 h6 hv hlr
                                  go_wp2_with (go_at_call 54; refine (CC.out _ _).mono ?_; rintro e w1 ⟨rfl, rfl⟩)
                                  go_ret2
                                  exact ⟨two_int E.out, NB.out _⟩
                                · have qlr : (l == r) = false := by rw [beq_eq_false_iff_ne]; exact hlr
                                  have E := hide (N.out (D.out.trans (by simp [hf, h1, h2, zc, h3, h4, h5, h6, hv, hlr])))
                                  clear D EN N hf h1 h2 h3 h4 h5 h6 hv hlr
                                  go_wp2_with (go_at_call 54; refine (CC.out _ _).mono ?_; rintro e w1 ⟨rfl, rfl⟩)
                                  go_roundw
                                  case rel => exact ⟨k + 1, by omega, by go_num, NB.out _, E⟩
                                  case measure => simp [intOf]; omega
                              · have qv : (v != 0) = true := by rw [bne_iff_ne]; exact hv
                                have E := hide (EN.out 3 (D.out.trans (by simp [hf, h1, h2, zc, h3, h4, h5, h6, hv])) (by decide))
                                clear D EN N hf h1 h2 h3 h4 h5 h6 hv
                                go_wp2_with (go_at_call 54; refine (CC.out _ _).mono ?_; rintro e w1 ⟨rfl, rfl⟩)
                                go_ret2
                                exact ⟨two_int E.out, NB.out _⟩
            · have A : Hid (∀ j, j < ts.length → M.nodeF (M.nAt ts j) j ts.length m = 0) := fun j hj => I.out j (by omega)
              have D1 := hide (CD.out wr hbl A.out)
              have S1 := hide (fun i => TS.out i A.out)
              have F1 := hide (TF.out A.out)
              have db := DB.out A.out
              have HS : Hid (∀ j, j < ts.length → ∃ b off, a0 = some ⟨b, off, none⟩ ∧ SixAt wr b (off + j * 6) (M.nAt ts j)) := fun j hj => by
                obtain ⟨b0, off, e, hb0, hc⟩ := HR.out (by intro e; subst e; simp at hj)
                exact ⟨b0, off, e, (hc j hj).below hbl hb0⟩
              clear TN TS TF CD DB A I HR CC
              go_wp2
              go_loop [10] (fun i => ∃ p : Nat, 0 < p ∧ p ≤ ts.length + 1 ∧ i = .int .i64 p ∧ Hid (∀ j, 0 < j → j < p → M.ups ts j = 1)) (fun i => ts.length + 1 - (intOf i).toNat)
              case atStart => exact ⟨1, by omega, by omega, rfl, fun j h1 h2 => by omega⟩
              case round =>
                obtain ⟨p, hp0, hp, rfl, J⟩ := hrel
                by_cases hpl : p < ts.length
                · go_wp2
                  go_loop [11, 12] (fun mm kk => ∃ j : Nat, j ≤ ts.length ∧ kk = .int .i64 j ∧ mm = .int .i64 ((M.ups (ts.take j) (p : Int) : Nat) : Int)) (fun _ kk => ts.length - (intOf kk).toNat)
                  case atStart => exact ⟨0, Nat.zero_le _, rfl, rfl⟩
                  case round =>
                    obtain ⟨j, hj, rfl, rfl⟩ := hrel
                    have ub : M.ups (ts.take j) (p : Int) ≤ 126 := by
                      have := M.ups_le (ts.take j) (p : Int)
                      rw [List.length_take] at this
                      omega
                    by_cases hjl : j < ts.length
                    · obtain ⟨b0, off, rfl, s0, s1, s2, s3, s4, s5⟩ := HS.out j hjl
                      have U := hide (M.ups_take hjl (p : Int))
                      have EDG : Hid (M.edge (p : Int) ts[j] = if M.nf (M.nAt ts j) = -1 then 0 else (if M.nl (M.nAt ts j) = (p : Int) then 1 else 0) + (if M.nr (M.nAt ts j) = (p : Int) then 1 else 0)) := by unfold Hid; rw [← M.nAt_eq hjl]; rfl
                      generalize M.ups (ts.take j) (p : Int) = u at *
                      generalize M.edge (p : Int) ts[j] = ed at *
                      generalize M.nf (M.nAt ts j) = f at *
                      generalize M.nl (M.nAt ts j) = l at *
                      generalize M.nr (M.nAt ts j) = r at *
                      by_cases hf : f = -1
                      · have qf : (f == -1) = true := by rw [beq_iff_eq]; exact hf
                        have N : Hid (M.ups (ts.take (j + 1)) (p : Int) = u) := by unfold Hid; rw [U.out, EDG.out, if_pos hf]; rfl
                        clear hf U EDG
                        go_wp2
                        go_round
                        case rel => exact ⟨j + 1, by omega, by go_num, by rw [N.out]⟩
                        case measure => simp [intOf]; omega
                      · have qf : (f == -1) = false := by rw [beq_eq_false_iff_ne]; exact hf
                        by_cases h1 : l = (p : Int)
                        · have q1 : (l == (p : Int)) = true := by rw [beq_iff_eq]; exact h1
                          by_cases h2 : r = (p : Int)
                          · have q2 : (r == (p : Int)) = true := by rw [beq_iff_eq]; exact h2
                            have N : Hid (M.ups (ts.take (j + 1)) (p : Int) = u + 1 + 1) := by unfold Hid; rw [U.out, EDG.out, if_neg hf, if_pos h1, if_pos h2]
                            clear hf U EDG h1 h2
                            go_wp2
                            go_round
                            case rel => exact ⟨j + 1, by omega, by go_num, by rw [N.out]; go_num⟩
                            case measure => simp [intOf]; omega
                          · have q2 : (r == (p : Int)) = false := by rw [beq_eq_false_iff_ne]; exact h2
                            have N : Hid (M.ups (ts.take (j + 1)) (p : Int) = u + 1) := by unfold Hid; rw [U.out, EDG.out, if_neg hf, if_pos h1, if_neg h2]
                            clear hf U EDG h1 h2
                            go_wp2
                            go_round
                            case rel => exact ⟨j + 1, by omega, by go_num, by rw [N.out]; go_num⟩
                            case measure => simp [intOf]; omega
                        · have q1 : (l == (p : Int)) = false := by rw [beq_eq_false_iff_ne]; exact h1
                          by_cases h2 : r = (p : Int)
                          · have q2 : (r == (p : Int)) = true := by rw [beq_iff_eq]; exact h2
                            have N : Hid (M.ups (ts.take (j + 1)) (p : Int) = u + 1) := by unfold Hid; rw [U.out, EDG.out, if_neg hf, if_neg h1, if_pos h2]
                            clear hf U EDG h1 h2
                            go_wp2
                            go_round
                            case rel => exact ⟨j + 1, by omega, by go_num, by rw [N.out]; go_num⟩
                            case measure => simp [intOf]; omega
                          · have q2 : (r == (p : Int)) = false := by rw [beq_eq_false_iff_ne]; exact h2
                            have N : Hid (M.ups (ts.take (j + 1)) (p : Int) = u) := by unfold Hid; rw [U.out, EDG.out, if_neg hf, if_neg h1, if_neg h2]; rfl
                            clear hf U EDG h1 h2
                            go_wp2
                            go_round
                            case rel => exact ⟨j + 1, by omega, by go_num, by rw [N.out]⟩
                            case measure => simp [intOf]; omega
                    · have e : ts.take j = ts := List.take_of_length_le (by omega)
                      rw [e] at ub ⊢
                      clear e
                      by_cases hu : M.ups ts (p : Int) = 1
                      · have N : Hid (∀ j, 0 < j → j < p + 1 → M.ups ts j = 1) := fun j h1 h2 => by
                          by_cases e : j = p
                          · subst e; exact hu
                          · exact J.out j h1 (by omega)
                        have q : (((M.ups ts (p : Int) : Nat) : Int) != 1) = false := by rw [bne_eq_false_iff_eq]; omega
                        clear hu
                        generalize ((M.ups ts (p : Int) : Nat) : Int) = u at *
                        go_wp2
                        go_round
                        case rel => exact ⟨p + 1, by omega, by omega, by go_num, N⟩
                        case measure => simp [intOf]; omega
                      · have E := hide (S1.out p hpl hp0 hu J.out)
                        have q : (((M.ups ts (p : Int) : Nat) : Int) != 1) = true := by rw [bne_iff_ne]; omega
                        clear hu
                        generalize ((M.ups ts (p : Int) : Nat) : Int) = u at *
                        go_wp2
                        go_ret2
                        exact ⟨two_int E.out, hbl⟩
                · have E1 := hide (F1.out fun j h1 h2 => J.out j h1 (by omega))
                  by_cases h10 : 10 < dv
                  · have qd : decide ((10 : Int) < (dv : Int)) = true := decide_eq_true (by omega)
                    have E : Hid (tf = (0, 4)) := by have := E1.out; rw [if_pos h10] at this; exact this
                    clear E1 h10
                    go_wp2_with (go_at_call 55; refine D1.out.mono ?_; rintro e w1 ⟨rfl, rfl⟩)
                    go_ret2
                    exact ⟨two_int E.out, hbl⟩
                  · have qd : decide ((10 : Int) < (dv : Int)) = false := decide_eq_false (by omega)
                    have E : Hid (tf = (0, 0)) := by have := E1.out; rw [if_neg h10] at this; exact this
                    clear E1 h10
                    go_wp2_with (go_at_call 55; refine D1.out.mono ?_; rintro e w1 ⟨rfl, rfl⟩)
                    go_ret2
                    exact ⟨two_int E.out, hbl⟩

end Go.Proofs.Ytlloiccodjnkcag

namespace Go.Proofs.Ytlloiccodjnkcag
open Go.ChangeShapes Go.WideShapes Go.ChangeAt Go.RowKit
set_option linter.unusedVariables false

theorem none_any (x : Int) (w : World) : Calls Try.prog 61 #[.int .i64 x] w fun e w' => e = .returned (.bool (decide (x = M.nilI))) ∧ w' = w := by
  have E : Hid ((x == -1125899906842624) = decide (x = M.nilI)) := by
    unfold Hid
    by_cases h : x = M.nilI
    · rw [decide_eq_true h, beq_iff_eq]; exact h
    · rw [decide_eq_false h, beq_eq_false_iff_ne]; exact h
  go_enter Try.func61, Try.ntmps61
  go_wp2
  go_ret
  exact ⟨ret_bool E.out, rfl⟩

theorem row_hit {xs : List Int} {k : Nat} (h : k < xs.length) (hl : xs.length ≤ 8) (hb : M.badCell xs[k] = true) : M.rowF xs = 1 := by
  unfold M.rowF
  rw [if_neg (by omega), if_pos]
  rw [List.any_eq_true]; exact ⟨_, List.getElem_mem h, hb⟩
theorem row_miss {xs : List Int} {k : Nat} (hk : xs.length ≤ k) (hl : xs.length ≤ 8) (h : (xs.take k).any M.badCell = false) : M.rowF xs = 0 := by
  unfold M.rowF
  rw [List.take_of_length_le hk] at h
  rw [if_neg (by omega), h]; rfl
theorem row_next {xs : List Int} {k : Nat} (hk : k < xs.length) (h : (xs.take k).any M.badCell = false) (hb : M.badCell xs[k] = false) : (xs.take (k + 1)).any M.badCell = false := by
  rw [List.take_succ_eq_append_getElem hk, List.any_append, h]; simp [hb]

set_option maxHeartbeats 1000000 in
theorem rrow_any (a : Option Addr) (xs : List Int) (cap : Nat) (w : World) (h : Rd w a xs) :
    Calls Try.prog 34 #[.slice a xs.length cap] w fun e w' => e = .returned (.int .i64 (M.rowF xs)) ∧ w' = w := by
  obtain ⟨hm, hr⟩ := h
  unfold maxLen at hm
  by_cases h8 : 8 < xs.length
  · have E : Hid (4 = M.rowF xs) := by unfold Hid M.rowF; rw [if_pos h8]
    have hd : decide ((8 : Int) < (xs.length : Int)) = true := decide_eq_true (by omega)
    clear hr
    go_enter Try.func34, Try.ntmps34
    go_wp2
    go_ret
    exact ⟨ret_int E.out, rfl⟩
  · have hd : decide ((8 : Int) < (xs.length : Int)) = false := decide_eq_false (by omega)
    have RH : Hid (∀ k (h : k < xs.length), M.badCell xs[k] = true → M.rowF xs = 1) := fun k h hb => row_hit h (by omega) hb
    have RM : Hid (∀ k, xs.length ≤ k → (xs.take k).any M.badCell = false → M.rowF xs = 0) := fun k hk h => row_miss hk (by omega) h
    have HR := hide hr
    clear hr
    generalize M.rowF xs = f at *
    go_enter Try.func34, Try.ntmps34
    go_wp2
    go_loop [3] (fun i => ∃ k : Nat, k ≤ xs.length ∧ i = .int .i64 k ∧ Hid ((xs.take k).any M.badCell = false)) (fun i => xs.length - (intOf i).toNat)
    case atStart => exact ⟨0, Nat.zero_le _, rfl, by unfold Hid; simp⟩
    case round =>
      obtain ⟨k, hk, rfl, I⟩ := hrel
      by_cases hlt : k < xs.length
      · obtain ⟨b, off, rfl, hb, hc⟩ := HR.out (by intro e; subst e; simp at hlt)
        have hck := Rd.at hc k hlt
        have C1 := hide (rcell_any xs[k])
        have C2 := hide (none_any xs[k])
        have NX : Hid (M.badCell xs[k] = false → (xs.take (k + 1)).any M.badCell = false) := fun h => row_next hlt I.out h
        have HT : Hid (M.badCell xs[k] = true → f = 1) := RH.out k hlt
        have BE : Hid (M.badCell xs[k] = (!decide (xs[k] = M.nilI) && M.outI xs[k])) := rfl
        clear hc I
        generalize M.badCell xs[k] = bc at *
        generalize M.outI xs[k] = o at *
        generalize decide (xs[k] = M.nilI) = z at *
        generalize xs[k] = y at *
        cases o with
        | true =>
          cases z with
          | true =>
            have N2 := hide (NX.out BE.out)
            clear NX HT BE
            go_wp2_with (first
              | (go_at_call 54; refine (C1.out _).mono ?_; rintro e w' ⟨rfl, rfl⟩)
              | (go_at_call 61; refine (C2.out _).mono ?_; rintro e w' ⟨rfl, rfl⟩))
            go_round
            case rel => exact ⟨k + 1, by omega, by go_num, N2⟩
            case measure => simp [intOf]; omega
          | false =>
            have E := hide (HT.out BE.out)
            clear NX HT BE
            go_wp2_with (first
              | (go_at_call 54; refine (C1.out _).mono ?_; rintro e w' ⟨rfl, rfl⟩)
              | (go_at_call 61; refine (C2.out _).mono ?_; rintro e w' ⟨rfl, rfl⟩))
            go_ret
            exact ⟨ret_int E.out.symm, rfl⟩
        | false =>
          have N2 := hide (NX.out (by rw [BE.out]; simp))
          clear NX HT BE
          go_wp2_with (first
            | (go_at_call 54; refine (C1.out _).mono ?_; rintro e w' ⟨rfl, rfl⟩)
            | (go_at_call 61; refine (C2.out _).mono ?_; rintro e w' ⟨rfl, rfl⟩))
          go_round
          case rel => exact ⟨k + 1, by omega, by go_num, N2⟩
          case measure => simp [intOf]; omega
      · have E := hide (RM.out k (by omega) I.out)
        go_wp2
        go_ret
        exact ⟨ret_int E.out.symm, rfl⟩

end Go.Proofs.Ytlloiccodjnkcag
