/-
  Several texts as one: RefCell, RefDepth, RefTree, RefGrove.
-/
import Derived.Test.YtiggkjkjfnlfkaaGreatDoorRunS1
import Derived.Test.YtiggkjkjfnlfkaaGreatDoorRunS4
import Derived.BigQuiet
import Derived.Deep.QuietTactic
import Derived.Test.YtiggkjkjfnlfkaaGreatDoorRunS10
import Derived.Test.YtiggkjkjfnlfkaaGreatDoorRunS15
import Derived.Deep.Cut
import Derived.Deep.CutRange
import Derived.Deep.RegionWith
import Derived.RegionTactic
namespace Go.Proofs.YtiggkjkjfnlfkaaGreatDoor
open Go.ChangeShapes Go.WideShapes Go.ChangeAt Go.RowKit
set_option linter.unusedVariables false
theorem rcell_any (x : Int) (w : World) : Calls Tryz.prog 99 #[.int .i64 x] w fun e w' => e = .returned (.bool (!M.outI x)) ∧ w' = w := by
  by_cases h1 : -1000000 ≤ x
  · have E : Hid (decide (x ≤ 1000000) = !M.outI x) := by
      unfold Hid M.outI
      rw [decide_eq_false (show ¬ x < -1000000 by omega), Bool.false_or]
      by_cases h : x ≤ 1000000
      · rw [decide_eq_true h, decide_eq_false (by omega)]; rfl
      · rw [decide_eq_false h, decide_eq_true (by omega)]; rfl
    have h1' : decide (-1000000 ≤ x) = true := decide_eq_true h1
    clear h1
    go_enter Tryz.func99, Tryz.ntmps99
    go_wp2
    go_ret
    exact ⟨ret_bool E.out, rfl⟩
  · have E : Hid (false = !M.outI x) := by
      unfold Hid M.outI
      rw [decide_eq_true (show x < -1000000 by omega)]; rfl
    have h1' : decide (-1000000 ≤ x) = false := decide_eq_false h1
    clear h1
    go_enter Tryz.func99, Tryz.ntmps99
    go_wp2
    go_ret
    exact ⟨ret_bool E.out, rfl⟩
set_option maxHeartbeats 1000000 in
theorem rdepth_any (a0 : Option Addr) (ts : List M.Nd) (cap : Nat) (m : Int) (w : World) (h : RdN w a0 ts) (hl : ts.length ≤ 63) (hf : ∀ j, j < ts.length → M.nodeF (M.nAt ts j) j ts.length m = 0) :
    ∀ (f i : Nat), i < ts.length → ts.length ≤ f + i → Calls Tryz.prog 149 #[.slice a0 ts.length cap, .int .i64 (i : Nat)] w fun e w' => e = .returned (.int .i64 (M.depth ts i : Nat)) ∧ w' = w
  | 0, i, hi, hk => by omega
  | f + 1, i, hi, hk => by
    obtain ⟨b, off, rfl, hb, hc⟩ := h.2 (by intro e; subst e; simp at hi)
    obtain ⟨s0, s1, s2, s3, s4, s5⟩ := hc i hi
    have C : Hid (∀ j : Nat, i < j → j < ts.length → Calls Tryz.prog 149 #[.slice (some ⟨b, off, none⟩) ts.length cap, .int .i64 (j : Nat)] w fun e w' => e = .returned (.int .i64 (M.depth ts j : Nat)) ∧ w' = w) :=
      fun j h1 h2 => rdepth_any _ ts cap m w h hl hf f j h2 (by omega)
    have hm : ts.length ≤ 9223372036854775807 := h.1
    by_cases hn : M.nf (M.nAt ts i) = -1
    · have E : Hid (M.depth ts i = 0) := M.depth_leaf hi hn
      have q : (M.nf (M.nAt ts i) == -1) = true := by rw [beq_iff_eq]; exact hn
      clear hn hc h hf C
      generalize M.depth ts i = o at *
      generalize M.nf (M.nAt ts i) = f at *
      go_enter Tryz.func149, Tryz.ntmps149
      go_wp2
      go_ret
      exact ⟨ret_int (by rw [E.out]; rfl), rfl⟩
    · obtain ⟨a, c, ea, ec, h1, h2, h3, h4, hac⟩ := M.ask_at hf hi hn
      have q : (M.nf (M.nAt ts i) == -1) = false := by rw [beq_eq_false_iff_ne]; exact hn
      have E : Hid (M.depth ts i = max (M.depth ts a) (M.depth ts c) + 1) := M.depth_ask hf hi hn ea ec
      have da : M.depth ts a ≤ 63 := by have := M.depth_le hf ts.length a h2 (by omega); omega
      have dc : M.depth ts c ≤ 63 := by have := M.depth_le hf ts.length c h4 (by omega); omega
      rw [ea] at s2
      rw [ec] at s3
      by_cases hlt : M.depth ts a < M.depth ts c
      · have EE : Hid (M.depth ts i = M.depth ts c + 1) := by unfold Hid; rw [E.out]; omega
        clear hn hc h hf ea ec E hac
        generalize M.depth ts i = o at *
        generalize M.nf (M.nAt ts i) = f at *
        go_enter Tryz.func149, Tryz.ntmps149
        go_wp2_with (go_at_call 149; refine (C.out _ (by assumption) (by assumption)).mono ?_; rintro e w1 ⟨rfl, rfl⟩)
        go_ret
        exact ⟨ret_int (by rw [EE.out]; omega), rfl⟩
      · have EE : Hid (M.depth ts i = M.depth ts a + 1) := by unfold Hid; rw [E.out]; omega
        have hle : M.depth ts c ≤ M.depth ts a := by omega
        clear hn hc h hf ea ec E hac
        generalize M.depth ts i = o at *
        generalize M.nf (M.nAt ts i) = f at *
        go_enter Tryz.func149, Tryz.ntmps149
        go_wp2_with (go_at_call 149; refine (C.out _ (by assumption) (by assumption)).mono ?_; rintro e w1 ⟨rfl, rfl⟩)
        go_ret
        exact ⟨ret_int (by rw [EE.out]; omega), rfl⟩
theorem two_int {n : Nat} {c : Int} {tf : Nat × Int} (h : tf = (n, c)) : Ending.returned (.tuple #[.int .i64 (n : Nat), .int .i64 c]) = .returned (.tuple #[.int .i64 (tf.1 : Nat), .int .i64 tf.2]) := by rw [h]
theorem node_alt (n : M.Nd) (i len : Nat) (m : Int) : M.nodeF n i len m = if M.nf n = -1 then (if M.outI (M.nv n) = true then 1 else if M.nc n ≠ 0 ∨ M.nl n ≠ 0 ∨ M.nr n ≠ 0 ∨ M.ns n = true then 3 else 0) else
    if M.nf n < 0 ∨ m ≤ M.nf n ∨ M.outI (M.nc n) = true ∨ M.nl n ≤ i ∨ (len : Int) ≤ M.nl n ∨ M.nr n ≤ i ∨ (len : Int) ≤ M.nr n then 1 else if M.nv n ≠ 0 ∨ M.nl n = M.nr n then 3 else 0 := by
  have hb : ∀ x : Int, M.inB x i len = false ↔ (x ≤ i ∨ (len : Int) ≤ x) := fun x => by
    unfold M.inB
    rw [Bool.and_eq_false_iff, decide_eq_false_iff_not, decide_eq_false_iff_not]
    omega
  unfold M.nodeF M.lfF M.asF
  by_cases h : M.nf n = -1
  · rw [if_pos h, if_pos h]
  · rw [if_neg h, if_neg h]
    simp only [hb, or_assoc]

set_option maxHeartbeats 16000000 in
set_option maxRecDepth 10000 in
theorem rtree_any (a0 : Option Addr) (ts : List M.Nd) (cap : Nat) (m : Int) (w : World) (h : RdN w a0 ts) :
    Calls Tryz.prog 105 #[.slice a0 ts.length cap, .int .i64 m] w fun e w' => e = .returned (.tuple #[.int .i64 ((M.treeF ts m).1 : Nat), .int .i64 (M.treeF ts m).2]) ∧ Below w.heap.size w w' := by
  have hm : ts.length ≤ 9223372036854775807 := h.1
  by_cases h63 : 63 < ts.length
  · have hd : decide ((63 : Int) < (ts.length : Int)) = true := decide_eq_true (by omega)
    have E := hide (M.tree_full (m := m) h63)
    clear h h63
    generalize M.treeF ts m = tf at *
    generalize ts.length = len at *
    go_enter Tryz.func105, Tryz.ntmps105
    go_wp2
    go_ret2
    exact ⟨two_int E.out, Below.refl _ _⟩
  · have hd : decide ((63 : Int) < (ts.length : Int)) = false := decide_eq_false (by omega)
    by_cases h0 : ts.length = 0
    · have q0 : ((ts.length : Int) == 0) = true := by rw [beq_iff_eq]; omega
      have E := hide (M.tree_none (m := m) h0)
      clear h h63 h0
      generalize M.treeF ts m = tf at *
      generalize ts.length = len at *
      go_enter Tryz.func105, Tryz.ntmps105
      go_wp2
      go_ret2
      exact ⟨two_int E.out, Below.refl _ _⟩
    · have q0 : ((ts.length : Int) == 0) = false := by rw [beq_eq_false_iff_ne]; omega
      by_cases h1 : m < 0
      · have q1 : decide (m < 0) = true := decide_eq_true h1
        have E := hide (M.tree_range h63 h0 (.inl h1))
        clear h h63 h0 h1
        generalize M.treeF ts m = tf at *
        generalize ts.length = len at *
        go_enter Tryz.func105, Tryz.ntmps105
        go_wp2
        go_ret2
        exact ⟨two_int E.out, Below.refl _ _⟩
      · have q1 : decide (m < 0) = false := decide_eq_false h1
        by_cases h2 : 8 < m
        · have q2 : decide (8 < m) = true := decide_eq_true h2
          have E := hide (M.tree_range h63 h0 (.inr h2))
          clear h h63 h0 h1 h2
          generalize M.treeF ts m = tf at *
          generalize ts.length = len at *
          go_enter Tryz.func105, Tryz.ntmps105
          go_wp2
          go_ret2
          exact ⟨two_int E.out, Below.refl _ _⟩
        · have q2 : decide (8 < m) = false := decide_eq_false h2
          have l63 : ts.length ≤ 63 := by omega
          have TN : Hid (∀ i c, i < ts.length → M.nodeF (M.nAt ts i) i ts.length m = c → c ≠ 0 → (∀ j, j < i → M.nodeF (M.nAt ts j) j ts.length m = 0) → M.treeF ts m = (i, c)) := fun i c hi hb hc hj => by
            have := M.tree_node h63 h0 (by omega) hi (by rw [hb]; exact hc) hj
            rw [hb] at this; exact this
          have TS : Hid (∀ i, (∀ j, j < ts.length → M.nodeF (M.nAt ts j) j ts.length m = 0) → i < ts.length → 0 < i → M.ups ts i ≠ 1 → (∀ j, 0 < j → j < i → M.ups ts j = 1) → M.treeF ts m = (i, 7)) := fun i hb hi hp hu hj => M.tree_stray h63 h0 (by omega) hb hi hp hu hj
          have TF : Hid ((∀ j, j < ts.length → M.nodeF (M.nAt ts j) j ts.length m = 0) → (∀ j, 0 < j → j < ts.length → M.ups ts j = 1) → M.treeF ts m = if 10 < M.depth ts 0 then (0, 4) else (0, 0)) := fun hb hs => M.tree_fair ⟨by omega, by omega, by omega, by omega, hb, hs⟩
          have CD : Hid (∀ W, Below w.heap.size w W → (∀ j, j < ts.length → M.nodeF (M.nAt ts j) j ts.length m = 0) → Calls Tryz.prog 149 #[.slice a0 ts.length cap, .int .i64 0] W fun e w' => e = .returned (.int .i64 (M.depth ts 0 : Nat)) ∧ w' = W) := fun W hW hb => rdepth_any a0 ts cap m W (h.below hW) l63 hb ts.length 0 (by omega) (by omega)
          have DB : Hid ((∀ j, j < ts.length → M.nodeF (M.nAt ts j) j ts.length m = 0) → M.depth ts 0 ≤ 63) := fun hb => by have := M.depth_le hb ts.length 0 (by omega) (by omega); omega
          have CC := hide rcell_any
          have HR := hide h.2
          clear h h63 h0 h1 h2
          generalize M.treeF ts m = tf at *
          generalize M.depth ts 0 = dv at *
          go_enter Tryz.func105, Tryz.ntmps105
          go_wp2
          go_loopw [6] (fun i wr => ∃ k : Nat, k ≤ ts.length ∧ i = .int .i64 k ∧ Below w.heap.size w wr ∧ Hid (∀ j, j < k → M.nodeF (M.nAt ts j) j ts.length m = 0)) (fun i _ => ts.length - (intOf i).toNat)
          case atStart => exact ⟨0, Nat.zero_le _, rfl, Below.refl _ _, fun j hj => by omega⟩
          case round =>
            obtain ⟨k, hk, rfl, hbl, I⟩ := hrel
            by_cases hlt : k < ts.length
            · obtain ⟨b0, off, rfl, hb0, hc⟩ := HR.out (by intro e; subst e; simp at hlt)
              obtain ⟨s0, s1, s2, s3, s4, s5⟩ := (hc k hlt).below hbl hb0
              have NB : Hid (∀ o, Below w.heap.size w (wr.alloc o)) := fun o => hbl.alloc hbl.size _
              have N : Hid (M.nodeF (M.nAt ts k) k ts.length m = 0 → ∀ j, j < k + 1 → M.nodeF (M.nAt ts j) j ts.length m = 0) := fun hf j hj => by
                by_cases e : j = k
                · subst e; exact hf
                · exact I.out j (by omega)
              have EN : Hid (∀ c, M.nodeF (M.nAt ts k) k ts.length m = c → c ≠ 0 → tf = (k, c)) := fun c h1 h2 => TN.out k c hlt h1 h2 I.out
              have D := hide (node_alt (M.nAt ts k) k ts.length m)
              clear hc hbl TN TS TF CD DB I
              generalize M.nodeF (M.nAt ts k) k ts.length m = nfv at *
              generalize M.nf (M.nAt ts k) = f at *
              generalize M.nc (M.nAt ts k) = c at *
              generalize M.nl (M.nAt ts k) = l at *
              generalize M.nr (M.nAt ts k) = r at *
              generalize M.ns (M.nAt ts k) = sl at *
              generalize M.nv (M.nAt ts k) = v at *
              by_cases hf : f = -1
              · have qf : (f == -1) = true := by rw [beq_iff_eq]; exact hf
                cases zv : M.outI v with
                | true =>
                  have E := hide (EN.out 1 (D.out.trans (by simp [hf, zv])) (by decide))
                  clear D EN N hf
                  go_wp2_with (go_at_call 99; refine (CC.out _ _).mono ?_; rintro e w1 ⟨rfl, rfl⟩)
                  go_ret2
                  exact ⟨two_int E.out, NB.out _⟩
                | false =>
                  by_cases hc : c = 0
                  · have qc : (c != 0) = false := by rw [bne_eq_false_iff_eq]; exact hc
                    by_cases hl : l = 0
                    · have ql : (l != 0) = false := by rw [bne_eq_false_iff_eq]; exact hl
                      by_cases hr : r = 0
                      · have qr : (r != 0) = false := by rw [bne_eq_false_iff_eq]; exact hr
                        cases sl with
                        | true =>
                          have E := hide (EN.out 3 (D.out.trans (by simp [hf, zv, hc, hl, hr])) (by decide))
                          clear D EN N hf hc hl hr
                          go_wp2_with (go_at_call 99; refine (CC.out _ _).mono ?_; rintro e w1 ⟨rfl, rfl⟩)
                          go_ret2
                          exact ⟨two_int E.out, NB.out _⟩
                        | false =>
                          have E := hide (N.out (D.out.trans (by simp [hf, zv, hc, hl, hr])))
                          clear D EN N hf hc hl hr
                          go_wp2_with (go_at_call 99; refine (CC.out _ _).mono ?_; rintro e w1 ⟨rfl, rfl⟩)
                          go_roundw
                          case rel => exact ⟨k + 1, by omega, by go_num, NB.out _, E⟩
                          case measure => simp [intOf]; omega
                      · have qr : (r != 0) = true := by rw [bne_iff_ne]; exact hr
                        have E := hide (EN.out 3 (D.out.trans (by simp [hf, zv, hr])) (by decide))
                        clear D EN N hf hr
                        go_wp2_with (go_at_call 99; refine (CC.out _ _).mono ?_; rintro e w1 ⟨rfl, rfl⟩)
                        go_ret2
                        exact ⟨two_int E.out, NB.out _⟩
                    · have ql : (l != 0) = true := by rw [bne_iff_ne]; exact hl
                      have E := hide (EN.out 3 (D.out.trans (by simp [hf, zv, hl])) (by decide))
                      clear D EN N hf hl
                      go_wp2_with (go_at_call 99; refine (CC.out _ _).mono ?_; rintro e w1 ⟨rfl, rfl⟩)
                      go_ret2
                      exact ⟨two_int E.out, NB.out _⟩
                  · have qc : (c != 0) = true := by rw [bne_iff_ne]; exact hc
                    have E := hide (EN.out 3 (D.out.trans (by simp [hf, zv, hc])) (by decide))
                    clear D EN N hf hc
                    go_wp2_with (go_at_call 99; refine (CC.out _ _).mono ?_; rintro e w1 ⟨rfl, rfl⟩)
                    go_ret2
                    exact ⟨two_int E.out, NB.out _⟩
              · have qf : (f == -1) = false := by rw [beq_eq_false_iff_ne]; exact hf
                by_cases h1 : f < 0
                · have q1 : decide (f < 0) = true := decide_eq_true h1
                  have E := hide (EN.out 1 (D.out.trans (by simp [hf, h1])) (by decide))
                  clear D EN N hf h1
                  go_wp2_with (go_at_call 99; refine (CC.out _ _).mono ?_; rintro e w1 ⟨rfl, rfl⟩)
                  go_ret2
                  exact ⟨two_int E.out, NB.out _⟩
                · have q1 : decide (f < 0) = false := decide_eq_false h1
                  by_cases h2 : m ≤ f
                  · have q2 : decide (m ≤ f) = true := decide_eq_true h2
                    have E := hide (EN.out 1 (D.out.trans (by simp [hf, h2])) (by decide))
                    clear D EN N hf h2
                    go_wp2_with (go_at_call 99; refine (CC.out _ _).mono ?_; rintro e w1 ⟨rfl, rfl⟩)
                    go_ret2
                    exact ⟨two_int E.out, NB.out _⟩
                  · have q2 : decide (m ≤ f) = false := decide_eq_false h2
                    cases zc : M.outI c with
                    | true =>
                      have E := hide (EN.out 1 (D.out.trans (by simp [hf, zc])) (by decide))
                      clear D EN N hf
                      go_wp2_with (go_at_call 99; refine (CC.out _ _).mono ?_; rintro e w1 ⟨rfl, rfl⟩)
                      go_ret2
                      exact ⟨two_int E.out, NB.out _⟩
                    | false =>
                      by_cases h3 : l ≤ (k : Int)
                      · have q3 : decide (l ≤ (k : Int)) = true := decide_eq_true h3
                        have E := hide (EN.out 1 (D.out.trans (by simp [hf, h3])) (by decide))
                        clear D EN N hf h3
                        go_wp2_with (go_at_call 99; refine (CC.out _ _).mono ?_; rintro e w1 ⟨rfl, rfl⟩)
                        go_ret2
                        exact ⟨two_int E.out, NB.out _⟩
                      · have q3 : decide (l ≤ (k : Int)) = false := decide_eq_false h3
                        by_cases h4 : (ts.length : Int) ≤ l
                        · have q4 : decide ((ts.length : Int) ≤ l) = true := decide_eq_true h4
                          have E := hide (EN.out 1 (D.out.trans (by simp [hf, h4])) (by decide))
                          clear D EN N hf h4
                          go_wp2_with (go_at_call 99; refine (CC.out _ _).mono ?_; rintro e w1 ⟨rfl, rfl⟩)
                          go_ret2
                          exact ⟨two_int E.out, NB.out _⟩
                        · have q4 : decide ((ts.length : Int) ≤ l) = false := decide_eq_false h4
                          by_cases h5 : r ≤ (k : Int)
                          · have q5 : decide (r ≤ (k : Int)) = true := decide_eq_true h5
                            have E := hide (EN.out 1 (D.out.trans (by simp [hf, h5])) (by decide))
                            clear D EN N hf h5
                            go_wp2_with (go_at_call 99; refine (CC.out _ _).mono ?_; rintro e w1 ⟨rfl, rfl⟩)
                            go_ret2
                            exact ⟨two_int E.out, NB.out _⟩
                          · have q5 : decide (r ≤ (k : Int)) = false := decide_eq_false h5
                            by_cases h6 : (ts.length : Int) ≤ r
                            · have q6 : decide ((ts.length : Int) ≤ r) = true := decide_eq_true h6
                              have E := hide (EN.out 1 (D.out.trans (by simp [hf, h6])) (by decide))
                              clear D EN N hf h6
                              go_wp2_with (go_at_call 99; refine (CC.out _ _).mono ?_; rintro e w1 ⟨rfl, rfl⟩)
                              go_ret2
                              exact ⟨two_int E.out, NB.out _⟩
                            · have q6 : decide ((ts.length : Int) ≤ r) = false := decide_eq_false h6
                              by_cases hv : v = 0
                              · have qv : (v != 0) = false := by rw [bne_eq_false_iff_eq]; exact hv
                                by_cases hlr : l = r
                                · have qlr : (l == r) = true := by rw [beq_iff_eq]; exact hlr
                                  have E := hide (EN.out 3 (D.out.trans (by simp [hf, h1, h2, zc, h5, h6, hv, hlr])) (by decide))
                                  clear D EN N hf h1 h2 h5 h6 hv hlr
                                  go_wp2_with (go_at_call 99; refine (CC.out _ _).mono ?_; rintro e w1 ⟨rfl, rfl⟩)
                                  go_ret2
                                  exact ⟨two_int E.out, NB.out _⟩
                                · have qlr : (l == r) = false := by rw [beq_eq_false_iff_ne]; exact hlr
                                  have E := hide (N.out (D.out.trans (by simp [hf, h1, h2, zc, h3, h4, h5, h6, hv, hlr])))
                                  clear D EN N hf h1 h2 h3 h4 h5 h6 hv hlr
                                  go_wp2_with (go_at_call 99; refine (CC.out _ _).mono ?_; rintro e w1 ⟨rfl, rfl⟩)
                                  go_roundw
                                  case rel => exact ⟨k + 1, by omega, by go_num, NB.out _, E⟩
                                  case measure => simp [intOf]; omega
                              · have qv : (v != 0) = true := by rw [bne_iff_ne]; exact hv
                                have E := hide (EN.out 3 (D.out.trans (by simp [hf, h1, h2, zc, h3, h4, h5, h6, hv])) (by decide))
                                clear D EN N hf h1 h2 h3 h4 h5 h6 hv
                                go_wp2_with (go_at_call 99; refine (CC.out _ _).mono ?_; rintro e w1 ⟨rfl, rfl⟩)
                                go_ret2
                                exact ⟨two_int E.out, NB.out _⟩
            · have A : Hid (∀ j, j < ts.length → M.nodeF (M.nAt ts j) j ts.length m = 0) := fun j hj => I.out j (by omega)
              have D1 := hide (CD.out wr hbl A.out)
              have S1 := hide (fun i => TS.out i A.out)
              have F1 := hide (TF.out A.out)
              have db := DB.out A.out
              have HS : Hid (∀ j, j < ts.length → ∃ b off, a0 = some ⟨b, off, none⟩ ∧ SixAt wr b (off + j * 6) (M.nAt ts j)) := fun j hj => by
                obtain ⟨b0, off, e, hb0, hc⟩ := HR.out (by intro e; subst e; simp at hj)
                exact ⟨b0, off, e, (hc j hj).below hbl hb0⟩
              clear TN TS TF CD DB A I HR CC
              go_wp2
              go_loop [10] (fun i => ∃ p : Nat, 0 < p ∧ p ≤ ts.length + 1 ∧ i = .int .i64 p ∧ Hid (∀ j, 0 < j → j < p → M.ups ts j = 1)) (fun i => ts.length + 1 - (intOf i).toNat)
              case atStart => exact ⟨1, by omega, by omega, rfl, fun j h1 h2 => by omega⟩
              case round =>
                obtain ⟨p, hp0, hp, rfl, J⟩ := hrel
                by_cases hpl : p < ts.length
                · go_wp2
                  go_loop [11, 12] (fun mm kk => ∃ j : Nat, j ≤ ts.length ∧ kk = .int .i64 j ∧ mm = .int .i64 ((M.ups (ts.take j) (p : Int) : Nat) : Int)) (fun _ kk => ts.length - (intOf kk).toNat)
                  case atStart => exact ⟨0, Nat.zero_le _, rfl, rfl⟩
                  case round =>
                    obtain ⟨j, hj, rfl, rfl⟩ := hrel
                    have ub : M.ups (ts.take j) (p : Int) ≤ 126 := by
                      have := M.ups_le (ts.take j) (p : Int)
                      rw [List.length_take] at this
                      omega
                    by_cases hjl : j < ts.length
                    · obtain ⟨b0, off, rfl, s0, s1, s2, s3, s4, s5⟩ := HS.out j hjl
                      have U := hide (M.ups_take hjl (p : Int))
                      have EDG : Hid (M.edge (p : Int) ts[j] = if M.nf (M.nAt ts j) = -1 then 0 else (if M.nl (M.nAt ts j) = (p : Int) then 1 else 0) + (if M.nr (M.nAt ts j) = (p : Int) then 1 else 0)) := by unfold Hid; rw [← M.nAt_eq hjl]; rfl
                      generalize M.ups (ts.take j) (p : Int) = u at *
                      generalize M.edge (p : Int) ts[j] = ed at *
                      generalize M.nf (M.nAt ts j) = f at *
                      generalize M.nl (M.nAt ts j) = l at *
                      generalize M.nr (M.nAt ts j) = r at *
                      by_cases hf : f = -1
                      · have qf : (f == -1) = true := by rw [beq_iff_eq]; exact hf
                        have N : Hid (M.ups (ts.take (j + 1)) (p : Int) = u) := by unfold Hid; rw [U.out, EDG.out, if_pos hf]; rfl
                        clear hf U EDG
                        go_wp2
                        go_round
                        case rel => exact ⟨j + 1, by omega, by go_num, by rw [N.out]⟩
                        case measure => simp [intOf]; omega
                      · have qf : (f == -1) = false := by rw [beq_eq_false_iff_ne]; exact hf
                        by_cases h1 : l = (p : Int)
                        · have q1 : (l == (p : Int)) = true := by rw [beq_iff_eq]; exact h1
                          by_cases h2 : r = (p : Int)
                          · have q2 : (r == (p : Int)) = true := by rw [beq_iff_eq]; exact h2
                            have N : Hid (M.ups (ts.take (j + 1)) (p : Int) = u + 1 + 1) := by unfold Hid; rw [U.out, EDG.out, if_neg hf, if_pos h1, if_pos h2]
                            clear hf U EDG h1 h2
                            go_wp2
                            go_round
                            case rel => exact ⟨j + 1, by omega, by go_num, by rw [N.out]; go_num⟩
                            case measure => simp [intOf]; omega
                          · have q2 : (r == (p : Int)) = false := by rw [beq_eq_false_iff_ne]; exact h2
                            have N : Hid (M.ups (ts.take (j + 1)) (p : Int) = u + 1) := by unfold Hid; rw [U.out, EDG.out, if_neg hf, if_pos h1, if_neg h2]
                            clear hf U EDG h1 h2
                            go_wp2
                            go_round
                            case rel => exact ⟨j + 1, by omega, by go_num, by rw [N.out]; go_num⟩
                            case measure => simp [intOf]; omega
                        · have q1 : (l == (p : Int)) = false := by rw [beq_eq_false_iff_ne]; exact h1
                          by_cases h2 : r = (p : Int)
                          · have q2 : (r == (p : Int)) = true := by rw [beq_iff_eq]; exact h2
                            have N : Hid (M.ups (ts.take (j + 1)) (p : Int) = u + 1) := by unfold Hid; rw [U.out, EDG.out, if_neg hf, if_neg h1, if_pos h2]
                            clear hf U EDG h1 h2
                            go_wp2
                            go_round
                            case rel => exact ⟨j + 1, by omega, by go_num, by rw [N.out]; go_num⟩
                            case measure => simp [intOf]; omega
                          · have q2 : (r == (p : Int)) = false := by rw [beq_eq_false_iff_ne]; exact h2
                            have N : Hid (M.ups (ts.take (j + 1)) (p : Int) = u) := by unfold Hid; rw [U.out, EDG.out, if_neg hf, if_neg h1, if_neg h2]; rfl
                            clear hf U EDG h1 h2
                            go_wp2
                            go_round
                            case rel => exact ⟨j + 1, by omega, by go_num, by rw [N.out]⟩
                            case measure => simp [intOf]; omega
                    · have e : ts.take j = ts := List.take_of_length_le (by omega)
                      rw [e] at ub ⊢
                      clear e
                      by_cases hu : M.ups ts (p : Int) = 1
                      · have N : Hid (∀ j, 0 < j → j < p + 1 → M.ups ts j = 1) := fun j h1 h2 => by
                          by_cases e : j = p
                          · subst e; exact hu
                          · exact J.out j h1 (by omega)
                        have q : (((M.ups ts (p : Int) : Nat) : Int) != 1) = false := by rw [bne_eq_false_iff_eq]; omega
                        clear hu
                        generalize ((M.ups ts (p : Int) : Nat) : Int) = u at *
                        go_wp2
                        go_round
                        case rel => exact ⟨p + 1, by omega, by omega, by go_num, N⟩
                        case measure => simp [intOf]; omega
                      · have E := hide (S1.out p hpl hp0 hu J.out)
                        have q : (((M.ups ts (p : Int) : Nat) : Int) != 1) = true := by rw [bne_iff_ne]; omega
                        clear hu
                        generalize ((M.ups ts (p : Int) : Nat) : Int) = u at *
                        go_wp2
                        go_ret2
                        exact ⟨two_int E.out, hbl⟩
                · have E1 := hide (F1.out fun j h1 h2 => J.out j h1 (by omega))
                  by_cases h10 : 10 < dv
                  · have qd : decide ((10 : Int) < (dv : Int)) = true := decide_eq_true (by omega)
                    have E : Hid (tf = (0, 4)) := by have := E1.out; rw [if_pos h10] at this; exact this
                    clear E1 h10
                    go_wp2_with (go_at_call 149; refine D1.out.mono ?_; rintro e w1 ⟨rfl, rfl⟩)
                    go_ret2
                    exact ⟨two_int E.out, hbl⟩
                  · have qd : decide ((10 : Int) < (dv : Int)) = false := decide_eq_false (by omega)
                    have E : Hid (tf = (0, 0)) := by have := E1.out; rw [if_neg h10] at this; exact this
                    clear E1 h10
                    go_wp2_with (go_at_call 149; refine D1.out.mono ?_; rintro e w1 ⟨rfl, rfl⟩)
                    go_ret2
                    exact ⟨two_int E.out, hbl⟩
end Go.Proofs.YtiggkjkjfnlfkaaGreatDoor

namespace Go.Proofs.YtiggkjkjfnlfkaaGreatDoor
open Go.ChangeShapes Go.WideShapes Go.ChangeAt Go.RowKit Go.Lib
set_option linter.unusedVariables false
theorem kept_grove {w W : World} {a0 a1 a2 a3 : Value} {t : TypeId} (h : Below (w.alloc (.cells #[a0, a1, a2, a3] t)).heap.size (w.alloc (.cells #[a0, a1, a2, a3] t)) W) :
    W.cell? ⟨w.heap.size, 0, none⟩ = some a0 ∧ W.cell? ⟨w.heap.size, 1, none⟩ = some a1 ∧ W.cell? ⟨w.heap.size, 2, none⟩ = some a2 ∧ W.cell? ⟨w.heap.size, 3, none⟩ = some a3 := by
  have hs : w.heap.size < (w.alloc (.cells #[a0, a1, a2, a3] t)).heap.size := by simp
  exact ⟨(h.cell (p := ⟨w.heap.size, 0, none⟩) hs).trans (World.cell?_alloc_at _ _ _ 0 rfl), (h.cell (p := ⟨w.heap.size, 1, none⟩) hs).trans (World.cell?_alloc_at _ _ _ 1 rfl), (h.cell (p := ⟨w.heap.size, 2, none⟩) hs).trans (World.cell?_alloc_at _ _ _ 2 rfl), (h.cell (p := ⟨w.heap.size, 3, none⟩) hs).trans (World.cell?_alloc_at _ _ _ 3 rfl)⟩

theorem M.grove_range {g : M.Gv} (h : M.gf g < 0 ∨ 8 < M.gf g ∨ M.gw g < 1 ∨ 3 < M.gw g) : M.groveF g = 1 := by unfold M.groveF; rw [if_pos h]

set_option maxHeartbeats 16000000 in
set_option maxRecDepth 10000 in
theorem rgrove_any (G : Gr) (w : World) (h : RdG w G) :
    Calls Tryz.prog 107 #[G.v] w fun e w' => e = .returned (.int .i64 (M.groveF G.m)) ∧ Below w.heap.size w w' := by
  have hm1 : G.ks.length ≤ 9223372036854775807 := h.2.1
  have hm2 : G.ws.length ≤ 9223372036854775807 := h.1.1
  have HG := hide h
  have tlen : (M.gt G.m).length = G.ks.length := tl_len G.ks
  have B0 : Hid (∀ o, Below w.heap.size w (w.alloc o)) := fun o => (Below.refl _ w).alloc (Nat.le_refl _) o
  clear h
  obtain ⟨gO, hgO⟩ : ∃ o : Obj, o = .cells #[.int .i64 G.f, .int .i64 G.w, .slice G.wa G.ws.length G.wc, .slice G.ta G.ks.length G.tc] 53 := ⟨_, rfl⟩
  have HGO := hide hgO
  clear hgO
  unfold Gr.v
  by_cases hR : M.gf G.m < 0 ∨ 8 < M.gf G.m ∨ M.gw G.m < 1 ∨ 3 < M.gw G.m
  · rw [M.grove_range hR]
    have hR' : G.f < 0 ∨ 8 < G.f ∨ G.w < 1 ∨ 3 < G.w := hR
    clear hR tlen HG

    by_cases c0 : G.f < 0
    · have q0 : decide (G.f < 0) = true := decide_eq_true (by omega)
      clear hR' c0
      go_enter Tryz.func107, Tryz.ntmps107
      go_wp2
      go_ret
      exact ⟨rfl, B0.out _⟩
    · by_cases c1 : 8 < G.f
      · have q0 : decide (G.f < 0) = false := decide_eq_false (by omega)
        have q1 : decide (8 < G.f) = true := decide_eq_true (by omega)
        clear hR' c0 c1
        go_enter Tryz.func107, Tryz.ntmps107
        go_wp2
        go_ret
        exact ⟨rfl, B0.out _⟩
      · by_cases c2 : G.w < 1
        · have q0 : decide (G.f < 0) = false := decide_eq_false (by omega)
          have q1 : decide (8 < G.f) = false := decide_eq_false (by omega)
          have q2 : decide (G.w < 1) = true := decide_eq_true (by omega)
          clear hR' c0 c1 c2
          go_enter Tryz.func107, Tryz.ntmps107
          go_wp2
          go_ret
          exact ⟨rfl, B0.out _⟩
        · have q0 : decide (G.f < 0) = false := decide_eq_false (by omega)
          have q1 : decide (8 < G.f) = false := decide_eq_false (by omega)
          have q2 : decide (G.w < 1) = false := decide_eq_false (by omega)
          have q3 : decide (3 < G.w) = true := decide_eq_true (by omega)
          clear hR' c0 c1 c2
          go_enter Tryz.func107, Tryz.ntmps107
          go_wp2
          go_ret
          exact ⟨rfl, B0.out _⟩
  · have q0 : decide (G.f < 0) = false := decide_eq_false (fun c => hR (.inl c))
    have q1 : decide (8 < G.f) = false := decide_eq_false (fun c => hR (.inr (.inl c)))
    have q2 : decide (G.w < 1) = false := decide_eq_false (fun c => hR (.inr (.inr (.inl c))))
    have q3 : decide (3 < G.w) = false := decide_eq_false (fun c => hR (.inr (.inr (.inr c))))
    have E0 : M.groveF G.m = if G.ks.length = 0 then 5 else if 12 < G.ks.length then 4 else if G.ws.length ≠ G.ks.length then 3 else if G.ws.any M.wBad = true then 1 else M.treesF G.f (tl G.ks) := by
      rw [← tlen]; unfold M.groveF; rw [if_neg hR]; rfl
    rw [E0]
    clear hR E0
    by_cases t0 : G.ks.length = 0
    · rw [if_pos t0]
      rw [t0]
      clear tlen HG t0 hm1
      go_enter Tryz.func107, Tryz.ntmps107
      go_wp2
      go_ret
      exact ⟨rfl, B0.out _⟩
    · rw [if_neg t0]
      have q4 : ((G.ks.length : Int) == 0) = false := by rw [beq_eq_false_iff_ne]; omega
      have t0' : 0 < G.ks.length := by omega
      by_cases t12 : 12 < G.ks.length
      · rw [if_pos t12]
        have q5 : decide (12 < (G.ks.length : Int)) = true := decide_eq_true (by omega)
        clear tlen HG t0 t12
        go_enter Tryz.func107, Tryz.ntmps107
        go_wp2
        go_ret
        exact ⟨rfl, B0.out _⟩
      · rw [if_neg t12]
        have q5 : decide (12 < (G.ks.length : Int)) = false := decide_eq_false (by omega)
        by_cases tw : G.ws.length ≠ G.ks.length
        · rw [if_pos tw]
          have q6 : ((G.ws.length : Int) != (G.ks.length : Int)) = true := by rw [bne_iff_ne]; omega
          clear tlen HG t0 t12 tw
          go_enter Tryz.func107, Tryz.ntmps107
          go_wp2
          go_ret
          exact ⟨rfl, B0.out _⟩
        · rw [if_neg tw]
          have tw' : G.ws.length = G.ks.length := by omega
          have n12 : G.ks.length ≤ 12 := by omega
          have WB : Hid (∀ k (h : k < G.ws.length), M.wBad (G.ws.getD k 0) = true → G.ws.any M.wBad = true) := fun k h e => List.any_eq_true.2 ⟨_, by rw [M.getD_at h]; exact List.getElem_mem h, e⟩
          have WN : Hid ((∀ k, k < G.ws.length → M.wBad (G.ws.getD k 0) = false) → G.ws.any M.wBad = false) := fun h => by
            cases e : G.ws.any M.wBad with
            | false => rfl
            | true =>
              obtain ⟨x, hx, e2⟩ := List.any_eq_true.1 e
              obtain ⟨i, hi, rfl⟩ := List.getElem_of_mem hx
              have := h i hi
              rw [M.getD_at hi, e2] at this
              cases this
          have TA : Hid (∀ k, k < G.ks.length → (∀ j, j < k → (M.treeF ((tl G.ks).getD j []) G.f).2 = 0) → (M.treeF ((tl G.ks).getD k []) G.f).2 ≠ 0 → M.treesF G.f (tl G.ks) = (M.treeF ((tl G.ks).getD k []) G.f).2) := fun k hk h hn => M.trees_at (by rw [tl_len]; exact hk) h hn
          have TN : Hid ((∀ j, j < G.ks.length → (M.treeF ((tl G.ks).getD j []) G.f).2 = 0) → M.treesF G.f (tl G.ks) = 0) := fun h => M.trees_all (fun j hj => h j (by rw [tl_len] at hj; exact hj))
          have TL : Hid (∀ k (h : k < G.ks.length), (tl G.ks).getD k [] = G.ks[k].2.1) := fun k h => tl_at G.ks h
          have RW : Hid (∀ W, Below w.heap.size w W → Rd W G.wa G.ws) := fun W hW => (HG.out.below hW).1
          have RT : Hid (∀ W, Below w.heap.size w W → RdT W G.ta G.ks) := fun W hW => (HG.out.below hW).2
          have LW := hide tw'
          have q6 : ((G.ws.length : Int) != (G.ks.length : Int)) = false := by rw [bne_eq_false_iff_eq]; omega
          clear tlen HG t0 t12 tw tw'
          generalize hAB : G.ws.any M.wBad = AB at *
          have HAB := hide hAB
          clear hAB
          generalize M.treesF G.f (tl G.ks) = TF at *
          generalize hRV : (if AB = true then (1 : Int) else TF) = RV
          have HRV := hide hRV
          clear hRV
          have KG : Hid (∀ W, Below (w.alloc gO).heap.size (w.alloc gO) W → Below w.heap.size w W ∧ W.cell? ⟨w.heap.size, 0, none⟩ = some (.int .i64 G.f) ∧ W.cell? ⟨w.heap.size, 2, none⟩ = some (.slice G.wa G.ws.length G.wc) ∧ W.cell? ⟨w.heap.size, 3, none⟩ = some (.slice G.ta G.ks.length G.tc)) := fun W hW => by
            refine ⟨below_on ((Below.refl _ w).alloc (Nat.le_refl _) gO) hW, ?_⟩
            rw [HGO.out] at hW
            exact ⟨(kept_grove hW).1, (kept_grove hW).2.2.1, (kept_grove hW).2.2.2⟩
          rw [HGO.out] at KG
          go_enter Tryz.func107, Tryz.ntmps107
          go_wp2
          go_loopw [3] (fun i wr => ∃ k : Nat, k ≤ G.ws.length ∧ i = .int .i64 k ∧ Hid (∀ j, j < k → M.wBad (G.ws.getD j 0) = false) ∧ Hid (Below (w.alloc (.cells #[.int .i64 G.f, .int .i64 G.w, .slice G.wa G.ws.length G.wc, .slice G.ta G.ks.length G.tc] 53)).heap.size (w.alloc (.cells #[.int .i64 G.f, .int .i64 G.w, .slice G.wa G.ws.length G.wc, .slice G.ta G.ks.length G.tc] 53)) wr)) (fun i _ => G.ws.length - (intOf i).toNat)
          case atStart => exact ⟨0, Nat.zero_le _, rfl, fun j hj => by omega, Below.refl _ _⟩
          case round =>
            obtain ⟨k, hk, rfl, I, KK⟩ := hrel
            obtain ⟨kw1, c0, c2, c3⟩ := KG.out wr KK.out
            by_cases hlt : k < G.ws.length
            · obtain ⟨bw, ow, ewa, hbw, hcw⟩ := (RW.out wr kw1).2 (by intro e; rw [e] at hlt; simp at hlt)
              have HWA := hide ewa
              have cw := hcw k hlt
              have kz : (k : Int) < (G.ws.length : Int) := by omega
              rw [HWA.out] at c2
              have wb : M.wBad (G.ws.getD k 0) = (decide (G.ws.getD k 0 < 1) || decide (1000 < G.ws.getD k 0)) := rfl
              by_cases b1 : G.ws.getD k 0 < 1
              · have E : Hid (AB = true) := WB.out k hlt (by rw [wb, decide_eq_true b1]; rfl)
                have p1 : decide (G.ws.getD k 0 < 1) = true := decide_eq_true b1
                have RE : Hid ((1 : Int) = RV) := by unfold Hid; rw [← HRV.out, if_pos E.out]
                clear WB WN TA TN TL RT wb b1 E hcw I ewa
                generalize G.ws.getD k 0 = z at *
                go_wp2
                go_ret
                exact ⟨ret_int RE.out, kw1⟩
              · by_cases b2 : 1000 < G.ws.getD k 0
                · have E : Hid (AB = true) := WB.out k hlt (by rw [wb, decide_eq_true b2]; simp)
                  have p1 : decide (G.ws.getD k 0 < 1) = false := decide_eq_false b1
                  have p2 : decide (1000 < G.ws.getD k 0) = true := decide_eq_true b2
                  have RE : Hid ((1 : Int) = RV) := by unfold Hid; rw [← HRV.out, if_pos E.out]
                  clear WB WN TA TN TL RT wb b1 b2 E hcw I ewa
                  generalize G.ws.getD k 0 = z at *
                  go_wp2
                  go_ret
                  exact ⟨ret_int RE.out, kw1⟩
                · have p1 : decide (G.ws.getD k 0 < 1) = false := decide_eq_false b1
                  have p2 : decide (1000 < G.ws.getD k 0) = false := decide_eq_false b2
                  have N : Hid (∀ j, j < k + 1 → M.wBad (G.ws.getD j 0) = false) := fun j hj => by
                    by_cases e : j = k
                    · rw [e, wb, p1, p2]; rfl
                    · exact I.out j (by omega)
                  clear WB WN TA TN TL RT wb b1 b2 hcw I ewa
                  generalize G.ws.getD k 0 = z at *
                  go_wp2
                  go_roundw
                  case rel => exact ⟨k + 1, by omega, by go_num, N, KK⟩
                  case measure => simp [intOf]; omega
            · have E : Hid (AB = false) := WN.out (fun j hj => I.out j (by omega))
              have RE : Hid (TF = RV) := by unfold Hid; rw [← HRV.out, E.out]; rfl
              clear WB WN I E RW LW HAB
              go_wp2
              go_loopw [4] (fun i wr => ∃ k : Nat, k ≤ G.ks.length ∧ i = .int .i64 k ∧ Hid (∀ j, j < k → (M.treeF ((tl G.ks).getD j []) G.f).2 = 0) ∧ Hid (Below (w.alloc (.cells #[.int .i64 G.f, .int .i64 G.w, .slice G.wa G.ws.length G.wc, .slice G.ta G.ks.length G.tc] 53)).heap.size (w.alloc (.cells #[.int .i64 G.f, .int .i64 G.w, .slice G.wa G.ws.length G.wc, .slice G.ta G.ks.length G.tc] 53)) wr)) (fun i _ => G.ks.length - (intOf i).toNat)
              case atStart => exact ⟨0, Nat.zero_le _, rfl, fun j hj => by omega, KK⟩
              case round =>
                clear KK kw1 c0 c2 c3
                obtain ⟨k, hk, rfl, I, K⟩ := hrel
                obtain ⟨kw, c0, c2, c3⟩ := KG.out _ K.out
                by_cases hlt : k < G.ks.length
                · obtain ⟨hk1, hk2, hk3⟩ := RT.out wr kw
                  obtain ⟨bt, ot, eta, hbt, hct⟩ := hk3 (by intro e; rw [e] at hlt; simp at hlt)
                  have ct := hct k hlt
                  have rk := hk2 _ (List.getElem_mem hlt)
                  have HTA := hide eta
                  have TE := TL.out k hlt
                  have TR := hide (rtree_any G.ks[k].1 G.ks[k].2.1 G.ks[k].2.2 G.f wr.drew (rk.below (Below.refl _ wr).drew))
                  have TAK := hide (TA.out k hlt I.out)
                  rw [TE] at TAK
                  have kz : (k : Int) < (G.ks.length : Int) := by omega
                  have c0d : wr.drew.cell? ⟨w.heap.size, 0, none⟩ = some (.int .i64 G.f) := c0
                  have c3d : wr.drew.cell? ⟨w.heap.size, 3, none⟩ = some (.slice (some ⟨bt, ot, none⟩) G.ks.length G.tc) := by rw [← HTA.out]; exact c3
                  unfold tV at ct
                  have ctd : wr.drew.cell? ⟨bt, ot + k, none⟩ = some (.slice G.ks[k].1 G.ks[k].2.1.length G.ks[k].2.2) := ct
                  have N : Hid ((M.treeF G.ks[k].2.1 G.f).2 = 0 → ∀ j, j < k + 1 → (M.treeF ((tl G.ks).getD j []) G.f).2 = 0) := fun hz j hj => by
                    by_cases e : j = k
                    · rw [e, TE]; exact hz
                    · exact I.out j (by omega)
                  clear hk1 hk2 hk3 hct rk eta TE TA TN TL RT I
                  generalize (M.treeF G.ks[k].2.1 G.f).2 = te at *
                  generalize (M.treeF G.ks[k].2.1 G.f).1 = tp at *
                  generalize G.ks[k].2.1.length = tn at *
                  generalize G.ks[k].2.2 = tcc at *
                  generalize G.ks[k].1 = ta at *
                  go_upto_region 17 with fail
                  go_cut [5, 6] from 68 to 78 (fun p e wx => p = .int .i64 (tp : Nat) ∧ e = .int .i64 te ∧ Hid (Below wr.heap.size wr wx))
                  case first =>
                    go_region_with (go_at_call 105; refine TR.out.mono ?_; rintro e w5 ⟨rfl, hb5⟩)
                    all_goals go_wp2
                    all_goals go_meet
                    all_goals (case rel => exact ⟨rfl, rfl, (Below.refl wr.heap.size wr).drew.trans hb5⟩)
                  case rest =>
                    obtain ⟨rfl, rfl, K5⟩ := hcut
                    have K6 := hide (below_on K.out K5.out)
                    have kw6 := below_on kw K5.out
                    by_cases hz : te = 0
                    · have qz : (te != 0) = false := by rw [bne_eq_false_iff_eq]; exact hz
                      have NN := hide (N.out hz)
                      clear hz N TAK
                      go_wp2
                      go_roundw
                      case rel => exact ⟨k + 1, by omega, by go_num, NN, K6⟩
                      case measure => simp [intOf]; omega
                    · have qz : (te != 0) = true := by rw [bne_iff_ne]; exact hz
                      have TE2 := hide (TAK.out hz)
                      clear hz N TAK
                      go_wp2
                      go_ret
                      exact ⟨ret_int (by rw [← RE.out, TE2.out]), kw6⟩
                · have TZ : Hid (TF = 0) := TN.out (fun j hj => I.out j (by omega))
                  clear TA TN TL RT I
                  go_wp2
                  go_ret
                  exact ⟨ret_int (by rw [← RE.out, TZ.out]), kw⟩
end Go.Proofs.YtiggkjkjfnlfkaaGreatDoor
