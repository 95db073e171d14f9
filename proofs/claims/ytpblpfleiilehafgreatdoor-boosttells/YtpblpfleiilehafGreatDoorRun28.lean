/-
  Several texts as one: TCheck, TLeaf, TEval.
-/
import Derived.Test.YtpblpfleiilehafGreatDoorRun27
import Derived.Test.YtpblpfleiilehafGreatDoorRun25
import Derived.Deep.RegionWith
import Derived.RegionTactic
namespace Go.Proofs.YtpblpfleiilehafGreatDoor
open Go.ChangeShapes Go.WideShapes Go.ChangeAt Go.RowKit Go.Lib
set_option linter.unusedVariables false

theorem two_val {n : Nat} {c : Int} {tf : Nat × Int} (h : tf = (n, c)) : Ending.returned (.tuple #[.int .i64 (n : Nat), errV c]) = .returned (.tuple #[.int .i64 (tf.1 : Nat), errV tf.2]) := by rw [h]

set_option maxHeartbeats 4000000 in
set_option maxRecDepth 10000 in
theorem tcheck_any (a0 : Option Addr) (ts : List M.Nd) (cap : Nat) (m : Int) (w : World) (h : RdN w a0 ts) :
    Calls Tryz.prog 37 #[.slice a0 ts.length cap, .int .i64 m] w fun e w' => e = .returned (.tuple #[.int .i64 ((M.treeF ts m).1 : Nat), errV (M.treeF ts m).2]) ∧ Below w.heap.size w w' := by
  have hm : ts.length ≤ 9223372036854775807 := h.1
  by_cases h63 : 63 < ts.length
  · have E := hide (M.tree_full (m := m) h63)
    have hd : decide ((63 : Int) < (ts.length : Int)) = true := decide_eq_true (by omega)
    clear h h63
    generalize M.treeF ts m = tf at *
    go_enter Tryz.func37, Tryz.ntmps37
    go_wp2
    go_ret2
    exact ⟨two_val E.out, Below.refl _ _⟩
  · have hd : decide ((63 : Int) < (ts.length : Int)) = false := decide_eq_false (by omega)
    by_cases h0 : ts.length = 0
    · have E := hide (M.tree_none (m := m) h0)
      have q0 : ((ts.length : Int) == 0) = true := by rw [beq_iff_eq]; omega
      clear h h63 h0
      generalize M.treeF ts m = tf at *
      generalize ts.length = len at *
      go_enter Tryz.func37, Tryz.ntmps37
      go_wp2
      go_ret2
      exact ⟨two_val E.out, Below.refl _ _⟩
    · have q0 : ((ts.length : Int) == 0) = false := by rw [beq_eq_false_iff_ne]; omega
      by_cases h1 : m < 0
      · have E := hide (M.tree_range h63 h0 (.inl h1))
        have q1 : decide (m < 0) = true := decide_eq_true h1
        clear h h63 h0 h1
        generalize M.treeF ts m = tf at *
        generalize ts.length = len at *
        go_enter Tryz.func37, Tryz.ntmps37
        go_wp2
        go_ret2
        exact ⟨two_val E.out, Below.refl _ _⟩
      · have q1 : decide (m < 0) = false := decide_eq_false h1
        by_cases h2 : 8 < m
        · have E := hide (M.tree_range h63 h0 (.inr h2))
          have q2 : decide (8 < m) = true := decide_eq_true h2
          clear h h63 h0 h1 h2
          generalize M.treeF ts m = tf at *
          generalize ts.length = len at *
          go_enter Tryz.func37, Tryz.ntmps37
          go_wp2
          go_ret2
          exact ⟨two_val E.out, Below.refl _ _⟩
        · have q2 : decide (8 < m) = false := decide_eq_false h2
          have l63 : ts.length ≤ 63 := by omega
          have TN : Hid (∀ i, i < ts.length → M.nodeF (M.nAt ts i) i ts.length m ≠ 0 → (∀ j, j < i → M.nodeF (M.nAt ts j) j ts.length m = 0) → M.treeF ts m = (i, M.nodeF (M.nAt ts i) i ts.length m)) := fun i hi hb hj => M.tree_node h63 h0 (by omega) hi hb hj
          have TS : Hid ((∀ j, j < ts.length → M.nodeF (M.nAt ts j) j ts.length m = 0) → 0 < M.strayV ts → M.treeF ts m = (M.strayV ts, 7)) := fun hb hs => M.stray_tree h63 h0 (by omega) hb hs
          have TF : Hid ((∀ j, j < ts.length → M.nodeF (M.nAt ts j) j ts.length m = 0) → M.strayV ts = 0 → M.treeF ts m = if 10 < M.deepest ts ts.length then (0, 4) else (0, 0)) := fun hb hs => by
            have F : M.Fair ts m := ⟨by omega, by omega, by omega, by omega, hb, M.stray_zero hs⟩
            rw [M.deepest_eq F]; exact M.tree_fair F
          have CS : Hid (∀ W, Below w.heap.size w W → (∀ j, j < ts.length → M.nodeF (M.nAt ts j) j ts.length m = 0) → Calls Tryz.prog 61 #[.slice a0 ts.length cap] W fun e w' => e = .returned (.int .i64 (M.strayV ts : Nat)) ∧ Below W.heap.size W w') := fun W hW hb => stray_any a0 ts cap m W (h.below hW) l63 hb
          have CD : Hid (∀ W, Below w.heap.size w W → (∀ j, j < ts.length → M.nodeF (M.nAt ts j) j ts.length m = 0) → Calls Tryz.prog 62 #[.slice a0 ts.length cap] W fun e w' => e = .returned (.int .i64 (M.deepest ts ts.length : Nat)) ∧ Below W.heap.size W w') := fun W hW hb => depth_any a0 ts cap m W (h.below hW) l63 hb
          have DB := M.deep_le ts ts.length
          have SB : M.strayV ts ≤ 63 := by
            rcases Nat.eq_zero_or_pos (M.strayV ts) with e | e
            · omega
            · unfold M.strayV
              cases q : M.firstN (M.strayP ts) ts.length with
              | none => simp
              | some k => have := (M.first_some q).1; simp; omega
          have HR := hide h.2
          clear h h63 h0 h1 h2
          generalize M.treeF ts m = tf at *
          generalize M.strayV ts = sv at *
          generalize M.deepest ts ts.length = dv at *
          go_enter Tryz.func37, Tryz.ntmps37
          go_wp2
          go_loopw [27] (fun i wr => ∃ k : Nat, k ≤ ts.length ∧ i = .int .i64 k ∧ Below w.heap.size w wr ∧ Hid (∀ j, j < k → M.nodeF (M.nAt ts j) j ts.length m = 0)) (fun i _ => ts.length - (intOf i).toNat)
          case atStart => exact ⟨0, Nat.zero_le _, rfl, Below.refl _ _, fun j hj => by omega⟩
          case round =>
            obtain ⟨k, hk, rfl, hbl, I⟩ := hrel
            by_cases hlt : k < ts.length
            · obtain ⟨b0, off, rfl, hb0, hc⟩ := HR.out (by intro e; subst e; simp at hlt)
              obtain ⟨s0, s1, s2, s3, s4, s5⟩ := (hc k hlt).below hbl hb0
              have C1 := hide (fun W => checknode_any (M.nAt ts k) k ts.length (k : Int) ((ts.length : Int) - 1) m W rfl rfl)
              unfold ndV at C1
              have NB : Hid (∀ o W, Below (wr.alloc o).heap.size (wr.alloc o) W → Below w.heap.size w W) := fun o W hW => below_on (below_on hbl ((Below.refl _ wr).alloc (Nat.le_refl _) o)) hW
              by_cases hf : M.nodeF (M.nAt ts k) k ts.length m = 0
              · have N : Hid (∀ j, j < k + 1 → M.nodeF (M.nAt ts j) j ts.length m = 0) := fun j hj => by
                  by_cases e : j = k
                  · subst e; exact hf
                  · exact I.out j (by omega)
                rw [err_nil hf] at C1
                clear hc hf hbl
                generalize M.nf (M.nAt ts k) = f at *
                generalize M.nc (M.nAt ts k) = c at *
                generalize M.nl (M.nAt ts k) = l at *
                generalize M.nr (M.nAt ts k) = r at *
                generalize M.ns (M.nAt ts k) = sl at *
                generalize M.nv (M.nAt ts k) = v at *
                go_wp2_with (go_at_call 60; refine (C1.out _).mono ?_; rintro e w1 ⟨rfl, hb1⟩)
                go_roundw
                case rel => exact ⟨k + 1, by omega, by go_num, NB.out _ w1 hb1, N⟩
                case measure => simp [intOf]; omega
              · have E := hide (TN.out k hlt hf I.out)
                have EE : Hid (errV (M.nodeF (M.nAt ts k) k ts.length m) = .iface 61 (.int .i64 (M.nodeF (M.nAt ts k) k ts.length m))) := err_some hf
                rw [err_some hf] at C1
                clear hc hf hbl TN
                generalize M.nodeF (M.nAt ts k) k ts.length m = cc at *
                generalize M.nf (M.nAt ts k) = f at *
                generalize M.nc (M.nAt ts k) = c at *
                generalize M.nl (M.nAt ts k) = l at *
                generalize M.nr (M.nAt ts k) = r at *
                generalize M.ns (M.nAt ts k) = sl at *
                generalize M.nv (M.nAt ts k) = v at *
                go_wp2_with (go_at_call 60; refine (C1.out _).mono ?_; rintro e w1 ⟨rfl, hb1⟩)
                go_ret2
                exact ⟨by rw [← EE.out]; exact two_val E.out, NB.out _ w1 hb1⟩
            · have A : Hid (∀ j, j < ts.length → M.nodeF (M.nAt ts j) j ts.length m = 0) := fun j hj => I.out j (by omega)
              have S1 := hide (CS.out wr hbl A.out)
              have D1 := hide (fun W (hW : Below w.heap.size w W) => CD.out W hW A.out)
              by_cases hs : sv = 0
              · have qs : decide (0 < sv) = false := decide_eq_false (by omega)
                have E1 := hide (TF.out A.out hs)
                by_cases h10 : 10 < dv
                · have qd : decide ((10 : Int) < (dv : Int)) = true := decide_eq_true (by omega)
                  have E : Hid (tf = (0, 4)) := by have := E1.out; rw [if_pos h10] at this; exact this
                  clear E1 TN TS TF A CS CD HR hs h10
                  go_wp2_with (first
                    | (go_at_call 61; refine S1.out.mono ?_; rintro e w1 ⟨rfl, hb1⟩)
                    | (go_at_call 62; refine (D1.out _ (below_on hbl hb1)).mono ?_; rintro e w2 ⟨rfl, hb2⟩))
                  go_ret2
                  exact ⟨two_val E.out, below_on (below_on hbl hb1) hb2⟩
                · have qd : decide ((10 : Int) < (dv : Int)) = false := decide_eq_false (by omega)
                  have E : Hid (tf = (0, 0)) := by have := E1.out; rw [if_neg h10] at this; exact this
                  clear E1 TN TS TF A CS CD HR hs h10
                  go_wp2_with (first
                    | (go_at_call 61; refine S1.out.mono ?_; rintro e w1 ⟨rfl, hb1⟩)
                    | (go_at_call 62; refine (D1.out _ (below_on hbl hb1)).mono ?_; rintro e w2 ⟨rfl, hb2⟩))
                  go_ret2
                  exact ⟨two_val E.out, below_on (below_on hbl hb1) hb2⟩
              · have qs : decide (0 < sv) = true := decide_eq_true (by omega)
                have E := hide (TS.out A.out (by omega))
                clear TN TS TF A CS CD HR hs D1
                go_wp2_with (go_at_call 61; refine S1.out.mono ?_; rintro e w1 ⟨rfl, hb1⟩)
                go_ret2
                exact ⟨two_val E.out, below_on hbl hb1⟩

end Go.Proofs.YtpblpfleiilehafGreatDoor

namespace Go.Proofs.YtpblpfleiilehafGreatDoor
open Go.ChangeShapes Go.WideShapes Go.ChangeAt Go.RowKit Go.Lib
set_option linter.unusedVariables false

theorem toleft_any (n : M.Nd) (x : Int) (w : World) :
    Calls Tryz.prog 109 #[ndV n, .int .i64 x] w fun e w' => e = .returned (.bool (M.lessC n x)) ∧ Below w.heap.size w w' := by
  have NX : Hid (M.lessC n x = if x = M.nilI then M.ns n else decide (x < M.nc n)) := rfl
  unfold ndV
  generalize M.lessC n x = o at *
  generalize M.nc n = c at *
  generalize M.ns n = s at *
  by_cases hn : x = M.nilI
  · have q : (x == -1125899906842624) = true := by rw [beq_iff_eq]; exact hn
    have E : Hid (s = o) := by have := NX.out; rw [if_pos hn] at this; exact this.symm
    clear NX hn
    go_enter Tryz.func109, Tryz.ntmps109
    go_wp2
    go_ret
    exact ⟨ret_bool E.out, (Below.refl _ _).alloc (Nat.le_refl _) _⟩
  · have q : (x == -1125899906842624) = false := by rw [beq_eq_false_iff_ne]; exact hn
    have E : Hid (decide (x < c) = o) := by have := NX.out; rw [if_neg hn] at this; exact this.symm
    clear NX hn
    go_enter Tryz.func109, Tryz.ntmps109
    go_wp2
    go_ret
    exact ⟨ret_bool E.out, (Below.refl _ _).alloc (Nat.le_refl _) _⟩

theorem kept_node {w W : World} {a0 a1 a2 a3 a4 a5 : Value} {t : TypeId} (h : Below (w.alloc (.cells #[a0, a1, a2, a3, a4, a5] t)).heap.size (w.alloc (.cells #[a0, a1, a2, a3, a4, a5] t)) W) :
    W.cell? ⟨w.heap.size, 0, none⟩ = some a0 ∧ W.cell? ⟨w.heap.size, 1, none⟩ = some a1 ∧ W.cell? ⟨w.heap.size, 2, none⟩ = some a2 ∧ W.cell? ⟨w.heap.size, 3, none⟩ = some a3 ∧ W.cell? ⟨w.heap.size, 4, none⟩ = some a4 ∧ W.cell? ⟨w.heap.size, 5, none⟩ = some a5 := by
  have hs : w.heap.size < (w.alloc (.cells #[a0, a1, a2, a3, a4, a5] t)).heap.size := by simp
  exact ⟨(h.cell (p := ⟨w.heap.size, 0, none⟩) hs).trans (World.cell?_alloc_at _ _ _ 0 rfl), (h.cell (p := ⟨w.heap.size, 1, none⟩) hs).trans (World.cell?_alloc_at _ _ _ 1 rfl), (h.cell (p := ⟨w.heap.size, 2, none⟩) hs).trans (World.cell?_alloc_at _ _ _ 2 rfl), (h.cell (p := ⟨w.heap.size, 3, none⟩) hs).trans (World.cell?_alloc_at _ _ _ 3 rfl), (h.cell (p := ⟨w.heap.size, 4, none⟩) hs).trans (World.cell?_alloc_at _ _ _ 4 rfl), (h.cell (p := ⟨w.heap.size, 5, none⟩) hs).trans (World.cell?_alloc_at _ _ _ 5 rfl)⟩

set_option maxHeartbeats 2000000 in
theorem next_any (n : M.Nd) (a : Option Addr) (xs : List Int) (cap : Nat) (w : World) (h : Rd w a xs) (h0 : 0 ≤ M.nf n) (h1 : M.nf n < (xs.length : Int)) :
    Calls Tryz.prog 91 #[ndV n, .slice a xs.length cap] w fun e w' => e = .returned (.int .i64 (M.nextI n xs)) ∧ Below w.heap.size w w' := by
  obtain ⟨k, hk⟩ : ∃ k : Nat, M.nf n = k := ⟨(M.nf n).toNat, by omega⟩
  have hlt : k < xs.length := by omega
  obtain ⟨b, off, rfl, hb, hc⟩ := h.2 (by intro e; subst e; simp at hlt)
  have hx := hc k hlt
  have B0 : Hid (∀ o, Below w.heap.size w (w.alloc o)) := fun o => (Below.refl _ w).alloc (Nat.le_refl _) o
  have HX : Hid (∀ W, Below w.heap.size w W → W.cell? ⟨b, off + k, none⟩ = some (.int .i64 (xs.getD k 0))) := fun W hW => (hW.cell (p := ⟨b, off + k, none⟩) hb).trans hx
  have hx1 := fun o => HX.out _ (B0.out o)
  have NX : Hid (M.nextI n xs = if M.lessC n (xs.getD k 0) = true then M.nl n else M.nr n) := by
    unfold Hid M.nextI; rw [hk, Int.toNat_natCast]
  have TL := hide (toleft_any n (xs.getD k 0))
  unfold ndV at TL ⊢
  rw [hk] at TL ⊢
  have hlz : (k : Int) < (xs.length : Int) := by omega
  clear h hc h0 h1 hk hx HX
  generalize M.nextI n xs = o at *
  generalize M.lessC n (xs.getD k 0) = q at *
  generalize xs.getD k 0 = x at *
  generalize M.nc n = c at *
  generalize M.nl n = l at *
  generalize M.nr n = r at *
  generalize M.ns n = s at *
  generalize M.nv n = v at *
  cases q with
  | true =>
    have E : Hid (l = o) := by have := NX.out; rw [if_pos rfl] at this; exact this.symm
    clear NX
    go_enter Tryz.func91, Tryz.ntmps91
    go_wp2_with fail
    go_region_with (go_at_call 109; refine (TL.out _).mono ?_; rintro e w1 ⟨rfl, hb1⟩; have hb2 := ((Below.refl _ _).drew).trans hb1; obtain ⟨z0, z1, z2, z3, z4, z5⟩ := kept_node hb2)
    all_goals (go_wp2; go_ret; exact ⟨ret_int E.out, below_on (B0.out _) hb2⟩)
  | false =>
    have E : Hid (r = o) := by have := NX.out; rw [if_neg (by decide)] at this; exact this.symm
    clear NX
    go_enter Tryz.func91, Tryz.ntmps91
    go_wp2_with fail
    go_region_with (go_at_call 109; refine (TL.out _).mono ?_; rintro e w1 ⟨rfl, hb1⟩; have hb2 := ((Below.refl _ _).drew).trans hb1; obtain ⟨z0, z1, z2, z3, z4, z5⟩ := kept_node hb2)
    all_goals (go_wp2; go_ret; exact ⟨ret_int E.out, below_on (B0.out _) hb2⟩)

set_option maxHeartbeats 4000000 in
set_option maxRecDepth 10000 in
theorem leaf_any (a0 b0 : Option Addr) (ts : List M.Nd) (xs : List Int) (ca cb : Nat) (w : World) (ht : RdN w a0 ts) (hr : Rd w b0 xs) :
    Calls Tryz.prog 63 #[.slice a0 ts.length ca, .slice b0 xs.length cb] w fun e w' => e = .returned (.tuple #[.int .i64 (M.leafV ts xs : Nat), errV (M.readyF ts xs)]) ∧ Below w.heap.size w w' := by
  have hm : ts.length ≤ 9223372036854775807 := ht.1
  have hm2 : xs.length ≤ 9223372036854775807 := hr.1
  have R := hide (rcheck_any b0 xs cb w hr)
  have T := hide (fun W (hW : Below w.heap.size w W) => tcheck_any a0 ts ca (xs.length : Int) W (ht.below hW))
  by_cases h1 : M.rowF xs = 0
  · rw [err_nil h1] at R
    have RT := hide (M.ready_tree (t := ts) h1)
    by_cases h2 : (M.treeF ts (xs.length : Int)).2 = 0
    · obtain ⟨F, e2⟩ := M.tree_ok h2
      have E0 : M.readyF ts xs = 0 := by rw [RT.out]; exact h2
      have EV : Hid (M.leafV ts xs = M.toD ts xs 0) := by unfold Hid M.leafV; rw [if_pos E0]
      rw [err_nil E0]
      rw [e2, err_nil rfl] at T
      have FN := hide F.2.2.2.2.1
      have l0 := F.2.1
      have l63 := F.1
      have HT := hide ht
      have HX := hide hr
      clear h1 h2 F e2 E0 RT ht hr
      generalize M.leafV ts xs = o at *
      go_enter Tryz.func63, Tryz.ntmps63
      go_wp2_with (first
        | (go_at_call 50; refine R.out.mono ?_; rintro e w1 ⟨rfl, hb1⟩)
        | (go_at_call 37; refine (T.out _ hb1).mono ?_; rintro e w2 ⟨rfl, hb2⟩))
      go_loopw [9] (fun i wr => ∃ k : Nat, k < ts.length ∧ i = .int .i64 k ∧ Below w.heap.size w wr ∧ Hid (M.toD ts xs k = M.toD ts xs 0)) (fun i _ => ts.length - (intOf i).toNat)
      case atStart => exact ⟨0, l0, rfl, below_on hb1 hb2, rfl⟩
      case round =>
        clear hb1 hb2
        obtain ⟨k, hlt, rfl, hbl, I⟩ := hrel
        obtain ⟨b1, off, rfl, hb1, hc⟩ := HT.out.2 (by intro e; subst e; simp at hlt)
        obtain ⟨s0, s1, s2, s3, s4, s5⟩ := (hc k hlt).below hbl hb1
        have NS : Hid (∀ W, Below wr.heap.size wr W → SixAt W b1 (off + k * 6) (M.nAt ts k)) := fun W hW => (hc k hlt).below (below_on hbl hW) hb1
        have C1 := hide (isleaf_any (M.nAt ts k))
        unfold ndV at C1
        by_cases hf : M.nf (M.nAt ts k) = -1
        · have e1 : M.leafB (M.nAt ts k) = true := decide_eq_true hf
          rw [e1] at C1
          have E : Hid (k = o) := by unfold Hid; rw [EV.out, ← I.out, M.to_leaf hlt hf]
          clear hc e1 hf NS
          generalize M.nf (M.nAt ts k) = f at *
          generalize M.nc (M.nAt ts k) = c at *
          generalize M.nl (M.nAt ts k) = l at *
          generalize M.nr (M.nAt ts k) = r at *
          generalize M.ns (M.nAt ts k) = sl at *
          generalize M.nv (M.nAt ts k) = v at *
          go_wp2_with (go_at_call 88; refine (C1.out _).mono ?_; rintro e w1 ⟨rfl, hb1⟩)
          go_ret2
          exact ⟨by rw [E.out]; rfl, below_on hbl hb1⟩
        · have e1 : M.leafB (M.nAt ts k) = false := decide_eq_false hf
          rw [e1] at C1
          have g0 := (M.node_ask (FN.out k hlt) hf).1
          have g1 := (M.node_ask (FN.out k hlt) hf).2.1
          have C2 := hide (fun W (hW : Below w.heap.size w W) => next_any (M.nAt ts k) b0 xs cb W (HX.out.below hW) g0 g1)
          unfold ndV at C2
          obtain ⟨j, ej, j1, j2⟩ := M.next_in FN.out xs hlt hf
          have N : Hid (M.toD ts xs j = M.toD ts xs 0) := by unfold Hid; rw [← M.to_next FN.out hlt hf ej]; exact I.out
          rw [ej] at C2
          unfold SixAt at NS
          clear hc e1 hf g0 g1 ej
          generalize M.nf (M.nAt ts k) = f at *
          generalize M.nc (M.nAt ts k) = c at *
          generalize M.nl (M.nAt ts k) = l at *
          generalize M.nr (M.nAt ts k) = r at *
          generalize M.ns (M.nAt ts k) = sl at *
          generalize M.nv (M.nAt ts k) = v at *
          go_wp2_with (first
            | (go_at_call 88; refine (C1.out _).mono ?_; rintro e w1 ⟨rfl, hb1⟩; obtain ⟨z0, z1, z2, z3, z4, z5⟩ := NS.out w1 hb1)
            | (go_at_call 91; refine (C2.out _ (below_on hbl hb1)).mono ?_; rintro e w2 ⟨rfl, hb2⟩))
          go_roundw
          case rel => exact ⟨j, j2, rfl, below_on (below_on hbl hb1) hb2, N⟩
          case measure => simp [intOf]; omega
    · have E := hide RT.out.symm
      have EV : Hid (M.leafV ts xs = 0) := by unfold Hid M.leafV; rw [if_neg (by rw [RT.out]; exact h2)]
      rw [err_some h2] at T
      have ES : Hid (errV (M.treeF ts (xs.length : Int)).2 = .iface 61 (.int .i64 (M.treeF ts (xs.length : Int)).2)) := err_some h2
      clear h1 h2 ht hr RT
      generalize M.leafV ts xs = o at *
      generalize M.readyF ts xs = rf at *
      generalize (M.treeF ts (xs.length : Int)).2 = tf at *
      generalize (M.treeF ts (xs.length : Int)).1 = tp at *
      go_enter Tryz.func63, Tryz.ntmps63
      go_wp2_with (first
        | (go_at_call 50; refine R.out.mono ?_; rintro e w1 ⟨rfl, hb1⟩)
        | (go_at_call 37; refine (T.out _ hb1).mono ?_; rintro e w2 ⟨rfl, hb2⟩))
      go_ret2
      exact ⟨by rw [EV.out, ← E.out, ES.out]; rfl, below_on hb1 hb2⟩
  · have E := hide (M.ready_row (t := ts) h1)
    have EV : Hid (M.leafV ts xs = 0) := by unfold Hid M.leafV; rw [if_neg (by rw [E.out]; exact h1)]
    rw [err_some h1] at R
    have ES := hide (err_some h1)
    clear h1 ht hr T
    generalize M.leafV ts xs = o at *
    generalize M.readyF ts xs = rf at *
    generalize M.rowF xs = tf at *
    go_enter Tryz.func63, Tryz.ntmps63
    go_wp2_with (go_at_call 50; refine R.out.mono ?_; rintro e w1 ⟨rfl, hb1⟩)
    go_ret2
    exact ⟨by rw [EV.out, E.out, ES.out]; rfl, hb1⟩

theorem leaf_lt {ts : List M.Nd} {xs : List Int} (h : M.readyF ts xs = 0) : M.leafV ts xs < ts.length ∧ M.evalV ts xs = M.nv (M.nAt ts (M.leafV ts xs)) := by
  obtain ⟨F, _⟩ := M.tree_ok (M.ready_ok h).2
  have e : M.leafV ts xs = M.toD ts xs 0 := by unfold M.leafV; rw [if_pos h]
  refine ⟨by rw [e]; exact (M.to_end F.2.2.2.2.1 xs ts.length 0 F.2.1 (by omega)).1, ?_⟩
  rw [e]; unfold M.evalV; rw [if_pos h]

end Go.Proofs.YtpblpfleiilehafGreatDoor

namespace Go.Proofs.YtpblpfleiilehafGreatDoor
open Go.ChangeShapes Go.WideShapes Go.ChangeAt Go.RowKit Go.Lib
set_option linter.unusedVariables false

theorem eval_any (a0 b0 : Option Addr) (ts : List M.Nd) (xs : List Int) (ca cb : Nat) (w : World) (ht : RdN w a0 ts) (hr : Rd w b0 xs) :
    Calls Tryz.prog 38 #[.slice a0 ts.length ca, .slice b0 xs.length cb] w fun e w' => e = .returned (.tuple #[.int .i64 (M.evalV ts xs), errV (M.readyF ts xs)]) ∧ Below w.heap.size w w' := by
  have hm : ts.length ≤ 9223372036854775807 := ht.1
  have L := hide (leaf_any a0 b0 ts xs ca cb w ht hr)
  by_cases h : M.readyF ts xs = 0
  · obtain ⟨hlt, hv⟩ := leaf_lt h
    have EV := hide hv
    obtain ⟨b1, off, rfl, hb, hc⟩ := ht.2 (by intro e; subst e; simp at hlt)
    have NS : Hid (∀ W, Below w.heap.size w W → W.cell? ⟨b1, off + M.leafV ts xs * 6 + 5, none⟩ = some (.int .i64 (M.nv (M.nAt ts (M.leafV ts xs))))) := fun W hW => ((hc _ hlt).below hW hb).2.2.2.2.2
    have ES : Hid (errV (M.readyF ts xs) = .nilIface) := err_nil h
    rw [err_nil h] at L
    clear h hv hc hr ht
    generalize M.nv (M.nAt ts (M.leafV ts xs)) = v at *
    generalize M.leafV ts xs = k at *
    generalize M.evalV ts xs = o at *
    generalize errV (M.readyF ts xs) = er at *
    go_enter Tryz.func38, Tryz.ntmps38
    go_wp2_with (go_at_call 63; refine L.out.mono ?_; rintro e w1 ⟨rfl, hb1⟩; have hcell := NS.out w1 hb1)
    go_ret2
    exact ⟨by rw [EV.out, ES.out]; rfl, hb1⟩
  · have EV : Hid (M.evalV ts xs = 0) := by unfold Hid M.evalV; rw [if_neg h]
    have ES := hide (err_some h)
    rw [err_some h] at L
    clear h hr ht
    generalize M.evalV ts xs = o at *
    generalize errV (M.readyF ts xs) = er at *
    generalize M.readyF ts xs = rf at *
    go_enter Tryz.func38, Tryz.ntmps38
    go_wp2_with (go_at_call 63; refine L.out.mono ?_; rintro e w1 ⟨rfl, hb1⟩)
    go_ret2
    exact ⟨by rw [EV.out, ES.out]; rfl, hb1⟩

end Go.Proofs.YtpblpfleiilehafGreatDoor
