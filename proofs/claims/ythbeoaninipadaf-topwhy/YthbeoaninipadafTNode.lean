/-
  What package tree's isLeaf, isCell, checkLeaf, checkAsking and checkNode answer, for every node.
-/
import Derived.Test.YthbeoaninipadafNodes
import Derived.RegionTactic
import Derived.Deep.RegionWith
import Derived.Deep.Cut
import Derived.Deep.CutRange
import Derived.Deep.QuietTactic
namespace Go.Proofs.Ythbeoaninipadaf
open Go.ChangeShapes Go.WideShapes Go.ChangeAt Go.RowKit Go.Lib
set_option linter.unusedVariables false

theorem isleaf_any (n : M.Nd) (w : World) : Calls Try.prog 26 #[ndV n] w fun e w' => e = .returned (.bool (M.leafB n)) ∧ Below w.heap.size w w' := by
  have E : Hid ((M.nf n == -1) = M.leafB n) := by
    unfold Hid M.leafB
    by_cases h : M.nf n = -1
    · rw [decide_eq_true h, beq_iff_eq]; exact h
    · rw [decide_eq_false h, beq_eq_false_iff_ne]; exact h
  unfold ndV
  generalize M.leafB n = o at *
  generalize M.nf n = f at *
  generalize M.nc n = c at *
  generalize M.nl n = l at *
  generalize M.nr n = r at *
  generalize M.ns n = s at *
  generalize M.nv n = v at *
  go_enter Try.func26, Try.ntmps26
  go_wp2
  go_ret
  exact ⟨ret_bool E.out, (Below.refl _ _).alloc (Nat.le_refl _) _⟩

theorem iscell_any (x : Int) (w : World) : Calls Try.prog 61 #[.int .i64 x] w fun e w' => e = .returned (.bool (!M.outI x)) ∧ w' = w := by
  by_cases h1 : -1000000 ≤ x
  · have E : Hid (decide (x ≤ 1000000) = !M.outI x) := by
      unfold Hid M.outI
      rw [show decide (x < -1000000) = false from decide_eq_false (by omega), Bool.false_or]
      by_cases h2 : x ≤ 1000000
      · simp [h2]
      · simp [h2]; omega
    have h1' : decide (-1000000 ≤ x) = true := decide_eq_true h1
    clear h1
    go_enter Try.func61, Try.ntmps61
    go_wp2
    go_ret
    exact ⟨ret_bool E.out, rfl⟩
  · have E : Hid (false = !M.outI x) := by
      unfold Hid M.outI
      rw [show decide (x < -1000000) = true from decide_eq_true (by omega)]; rfl
    have h1' : decide (-1000000 ≤ x) = false := decide_eq_false h1
    clear h1
    go_enter Try.func61, Try.ntmps61
    go_wp2
    go_ret
    exact ⟨ret_bool E.out, rfl⟩

theorem ret_err {c d : Int} (h : c = d) : Ending.returned (errV c) = .returned (errV d) := by rw [h]

theorem checkleaf_any (n : M.Nd) (w : World) : Calls Try.prog 43 #[ndV n] w fun e w' => e = .returned (errV (M.lfF n)) ∧ Below w.heap.size w w' := by
  have C := hide (iscell_any (M.nv n))
  have D : Hid (M.lfF n = if M.outI (M.nv n) = true then 1 else if M.nc n ≠ 0 ∨ M.nl n ≠ 0 ∨ M.nr n ≠ 0 ∨ M.ns n = true then 3 else 0) := rfl
  unfold ndV
  generalize M.lfF n = o at *
  generalize M.outI (M.nv n) = z at *
  generalize M.nf n = f at *
  generalize M.nc n = c at *
  generalize M.nl n = l at *
  generalize M.nr n = r at *
  generalize M.ns n = s at *
  generalize M.nv n = v at *
  cases z with
  | true =>
    have E : Hid (o = 1) := D.out.trans (by simp)
    clear D
    go_enter Try.func43, Try.ntmps43
    go_wp2_with (go_at_call 61; refine (C.out _).mono ?_; rintro e w1 ⟨rfl, rfl⟩)
    go_ret
    exact ⟨by rw [E.out]; rfl, (Below.refl _ _).alloc (Nat.le_refl _) _⟩
  | false =>
    by_cases hc : c = 0
    · have qc : (c != 0) = false := by rw [bne_eq_false_iff_eq]; exact hc
      by_cases hl : l = 0
      · have ql : (l != 0) = false := by rw [bne_eq_false_iff_eq]; exact hl
        by_cases hr : r = 0
        · have qr : (r != 0) = false := by rw [bne_eq_false_iff_eq]; exact hr
          cases s with
          | true =>
            have E : Hid (o = 3) := D.out.trans (by simp [hc, hl, hr])
            clear D hc hl hr
            go_enter Try.func43, Try.ntmps43
            go_wp2_with (go_at_call 61; refine (C.out _).mono ?_; rintro e w1 ⟨rfl, rfl⟩)
            go_ret
            exact ⟨by rw [E.out]; rfl, (Below.refl _ _).alloc (Nat.le_refl _) _⟩
          | false =>
            have E : Hid (o = 0) := D.out.trans (by simp [hc, hl, hr])
            clear D hc hl hr
            go_enter Try.func43, Try.ntmps43
            go_wp2_with (go_at_call 61; refine (C.out _).mono ?_; rintro e w1 ⟨rfl, rfl⟩)
            go_ret
            exact ⟨by rw [E.out]; rfl, (Below.refl _ _).alloc (Nat.le_refl _) _⟩
        · have qr : (r != 0) = true := by rw [bne_iff_ne]; exact hr
          have E : Hid (o = 3) := D.out.trans (by simp [hc, hl, hr])
          clear D hc hl hr
          go_enter Try.func43, Try.ntmps43
          go_wp2_with (go_at_call 61; refine (C.out _).mono ?_; rintro e w1 ⟨rfl, rfl⟩)
          go_ret
          exact ⟨by rw [E.out]; rfl, (Below.refl _ _).alloc (Nat.le_refl _) _⟩
      · have ql : (l != 0) = true := by rw [bne_iff_ne]; exact hl
        have E : Hid (o = 3) := D.out.trans (by simp [hc, hl])
        clear D hc hl
        go_enter Try.func43, Try.ntmps43
        go_wp2_with (go_at_call 61; refine (C.out _).mono ?_; rintro e w1 ⟨rfl, rfl⟩)
        go_ret
        exact ⟨by rw [E.out]; rfl, (Below.refl _ _).alloc (Nat.le_refl _) _⟩
    · have qc : (c != 0) = true := by rw [bne_iff_ne]; exact hc
      have E : Hid (o = 3) := D.out.trans (by simp [hc])
      clear D hc
      go_enter Try.func43, Try.ntmps43
      go_wp2_with (go_at_call 61; refine (C.out _).mono ?_; rintro e w1 ⟨rfl, rfl⟩)
      go_ret
      exact ⟨by rw [E.out]; rfl, (Below.refl _ _).alloc (Nat.le_refl _) _⟩

theorem behind_any (bp bl : Nat) (p q x : Int) (w : World) (hp : w.cell? ⟨bp, 0, none⟩ = some (.int .i64 p)) (hq : w.cell? ⟨bl, 0, none⟩ = some (.int .i64 q)) :
    Calls Try.prog 62 (#[.int .i64 x] ++ #[.pointer (some ⟨bp, 0, none⟩), .pointer (some ⟨bl, 0, none⟩)]) w fun e w' => e = .returned (.bool (decide (p < x) && decide (x ≤ q))) ∧ w' = w := by
  by_cases h : p < x
  · have E : Hid (decide (x ≤ q) = (decide (p < x) && decide (x ≤ q))) := by unfold Hid; simp [h]
    have h1 : decide (p < x) = true := decide_eq_true h
    clear h
    generalize (decide (p < x) && decide (x ≤ q)) = o at *
    go_enter Try.func62, Try.ntmps62
    go_wp2
    go_ret
    exact ⟨ret_bool E.out, rfl⟩
  · have E : Hid (false = (decide (p < x) && decide (x ≤ q))) := by unfold Hid; simp [h]
    have h1 : decide (p < x) = false := decide_eq_false h
    clear h
    generalize (decide (p < x) && decide (x ≤ q)) = o at *
    go_enter Try.func62, Try.ntmps62
    go_wp2
    go_ret
    exact ⟨ret_bool E.out, rfl⟩

theorem behind_is {p q x : Int} {i len : Nat} (hp : p = i) (hq : q = (len : Int) - 1) : (decide (p < x) && decide (x ≤ q)) = M.inB x i len := by
  subst hp; subst hq
  unfold M.inB
  congr 1
  exact decide_eq_decide.2 ⟨fun h => by omega, fun h => by omega⟩

set_option maxHeartbeats 8000000 in
theorem checkask_any (n : M.Nd) (i len : Nat) (p q m : Int) (w : World) (hp : p = i) (hq : q = (len : Int) - 1) :
    Calls Try.prog 44 #[ndV n, .int .i64 p, .int .i64 q, .int .i64 m] w fun e w' => e = .returned (errV (M.asF n i len m)) ∧ Below w.heap.size w w' := by
  have C := hide (iscell_any (M.nc n))
  have CB : Hid (∀ x bp bl W, W.cell? ⟨bp, 0, none⟩ = some (.int .i64 p) → W.cell? ⟨bl, 0, none⟩ = some (.int .i64 q) → Calls Try.prog 62 (#[.int .i64 x] ++ #[.pointer (some ⟨bp, 0, none⟩), .pointer (some ⟨bl, 0, none⟩)]) W fun e w' => e = .returned (.bool (M.inB x i len)) ∧ w' = W) :=
    fun x bp bl W h1 h2 => by rw [← behind_is hp hq]; exact behind_any bp bl p q _ W h1 h2
  have QP : Hid (∀ o : Obj, (((w.alloc o).alloc (.cells #[.int .i64 p] 3)).alloc (.cells #[.int .i64 q] 3)).cell? ⟨w.heap.size + 1, 0, none⟩ = some (.int .i64 p)) := fun o => by
    rw [World.cell?_alloc_past _ _ _ (by simp), World.cell?_alloc_at _ _ _ _ (by simp)]; rfl
  have QQ : Hid (∀ o : Obj, (((w.alloc o).alloc (.cells #[.int .i64 p] 3)).alloc (.cells #[.int .i64 q] 3)).cell? ⟨w.heap.size + 1 + 1, 0, none⟩ = some (.int .i64 q)) := fun o => by
    rw [World.cell?_alloc_at _ _ _ _ (by simp)]; rfl
  have D : Hid (M.asF n i len m = if M.nf n < 0 ∨ m ≤ M.nf n ∨ M.outI (M.nc n) = true ∨ M.inB (M.nl n) i len = false ∨ M.inB (M.nr n) i len = false then 1 else if M.nv n ≠ 0 ∨ M.nl n = M.nr n then 3 else 0) := rfl
  clear hp hq
  unfold ndV
  generalize M.asF n i len m = o at *
  generalize M.outI (M.nc n) = zc at *
  generalize M.nf n = f at *
  generalize M.nc n = c at *
  generalize M.nl n = l at *
  generalize M.nr n = r at *
  generalize M.ns n = s at *
  generalize M.nv n = v at *
  by_cases h1 : f < 0
  · have q1 : decide (f < 0) = true := decide_eq_true h1
    have E : Hid (o = 1) := D.out.trans (by simp [h1])
    clear D h1
    go_enter Try.func44, Try.ntmps44
    go_wp2_with (first
      | (go_at_call 61; refine (C.out _).mono ?_; rintro e w1 ⟨rfl, rfl⟩)
      | (go_at_call 62; refine (CB.out _ _ _ _ (QP.out _) (QQ.out _)).mono ?_; rintro e w1 ⟨rfl, rfl⟩))
    go_ret
    exact ⟨by rw [E.out]; rfl, (((Below.refl _ w).alloc (Nat.le_refl _) _).alloc (by simp) _).alloc (by simp; omega) _⟩
  · have q1 : decide (f < 0) = false := decide_eq_false h1
    by_cases h2 : m ≤ f
    · have q2 : decide (m ≤ f) = true := decide_eq_true h2
      have E : Hid (o = 1) := D.out.trans (by simp [h1, h2])
      clear D h1 h2
      go_enter Try.func44, Try.ntmps44
      go_wp2_with (first
        | (go_at_call 61; refine (C.out _).mono ?_; rintro e w1 ⟨rfl, rfl⟩)
        | (go_at_call 62; refine (CB.out _ _ _ _ (QP.out _) (QQ.out _)).mono ?_; rintro e w1 ⟨rfl, rfl⟩))
      go_ret
      exact ⟨by rw [E.out]; rfl, (((Below.refl _ w).alloc (Nat.le_refl _) _).alloc (by simp) _).alloc (by simp; omega) _⟩
    · have q2 : decide (m ≤ f) = false := decide_eq_false h2
      cases zc with
      | true =>
        have E : Hid (o = 1) := D.out.trans (by simp [h1, h2])
        clear D h1 h2
        go_enter Try.func44, Try.ntmps44
        go_wp2_with (first
          | (go_at_call 61; refine (C.out _).mono ?_; rintro e w1 ⟨rfl, rfl⟩)
          | (go_at_call 62; refine (CB.out _ _ _ _ (QP.out _) (QQ.out _)).mono ?_; rintro e w1 ⟨rfl, rfl⟩))
        go_ret
        exact ⟨by rw [E.out]; rfl, (((Below.refl _ w).alloc (Nat.le_refl _) _).alloc (by simp) _).alloc (by simp; omega) _⟩
      | false =>
        cases zl : M.inB l i len with
        | false =>
          have E : Hid (o = 1) := D.out.trans (by simp [h1, h2, zl])
          clear D h1 h2
          go_enter Try.func44, Try.ntmps44
          go_wp2_with (first
            | (go_at_call 61; refine (C.out _).mono ?_; rintro e w1 ⟨rfl, rfl⟩)
            | (go_at_call 62; refine (CB.out _ _ _ _ (QP.out _) (QQ.out _)).mono ?_; rintro e w1 ⟨rfl, rfl⟩))
          go_ret
          exact ⟨by rw [E.out]; rfl, (((Below.refl _ w).alloc (Nat.le_refl _) _).alloc (by simp) _).alloc (by simp; omega) _⟩
        | true =>
          cases zr : M.inB r i len with
          | false =>
            have E : Hid (o = 1) := D.out.trans (by simp [h1, h2, zl, zr])
            clear D h1 h2
            go_enter Try.func44, Try.ntmps44
            go_wp2_with (first
              | (go_at_call 61; refine (C.out _).mono ?_; rintro e w1 ⟨rfl, rfl⟩)
              | (go_at_call 62; refine (CB.out _ _ _ _ (QP.out _) (QQ.out _)).mono ?_; rintro e w1 ⟨rfl, rfl⟩))
            go_ret
            exact ⟨by rw [E.out]; rfl, (((Below.refl _ w).alloc (Nat.le_refl _) _).alloc (by simp) _).alloc (by simp; omega) _⟩
          | true =>
            by_cases h3 : v = 0
            · have q3 : (v != 0) = false := by rw [bne_eq_false_iff_eq]; exact h3
              by_cases h4 : l = r
              · have q4 : (l == r) = true := by rw [beq_iff_eq]; exact h4
                have E : Hid (o = 3) := D.out.trans (by simp [h1, h2, h3, h4, zr])
                clear D h1 h2 h3 h4
                go_enter Try.func44, Try.ntmps44
                go_wp2_with (first
                  | (go_at_call 61; refine (C.out _).mono ?_; rintro e w1 ⟨rfl, rfl⟩)
                  | (go_at_call 62; refine (CB.out _ _ _ _ (QP.out _) (QQ.out _)).mono ?_; rintro e w1 ⟨rfl, rfl⟩))
                go_ret
                exact ⟨by rw [E.out]; rfl, (((Below.refl _ w).alloc (Nat.le_refl _) _).alloc (by simp) _).alloc (by simp; omega) _⟩
              · have q4 : (l == r) = false := by rw [beq_eq_false_iff_ne]; exact h4
                have E : Hid (o = 0) := D.out.trans (by simp [h1, h2, h3, h4, zl, zr])
                clear D h1 h2 h3 h4
                go_enter Try.func44, Try.ntmps44
                go_wp2_with (first
                  | (go_at_call 61; refine (C.out _).mono ?_; rintro e w1 ⟨rfl, rfl⟩)
                  | (go_at_call 62; refine (CB.out _ _ _ _ (QP.out _) (QQ.out _)).mono ?_; rintro e w1 ⟨rfl, rfl⟩))
                go_ret
                exact ⟨by rw [E.out]; rfl, (((Below.refl _ w).alloc (Nat.le_refl _) _).alloc (by simp) _).alloc (by simp; omega) _⟩
            · have q3 : (v != 0) = true := by rw [bne_iff_ne]; exact h3
              have E : Hid (o = 3) := D.out.trans (by simp [h1, h2, h3, zl, zr])
              clear D h1 h2 h3
              go_enter Try.func44, Try.ntmps44
              go_wp2_with (first
                | (go_at_call 61; refine (C.out _).mono ?_; rintro e w1 ⟨rfl, rfl⟩)
                | (go_at_call 62; refine (CB.out _ _ _ _ (QP.out _) (QQ.out _)).mono ?_; rintro e w1 ⟨rfl, rfl⟩))
              go_ret
              exact ⟨by rw [E.out]; rfl, (((Below.refl _ w).alloc (Nat.le_refl _) _).alloc (by simp) _).alloc (by simp; omega) _⟩

theorem checknode_any (n : M.Nd) (i len : Nat) (p q m : Int) (w : World) (hp : p = i) (hq : q = (len : Int) - 1) :
    Calls Try.prog 23 #[ndV n, .int .i64 p, .int .i64 q, .int .i64 m] w fun e w' => e = .returned (errV (M.nodeF n i len m)) ∧ Below w.heap.size w w' := by
  have C1 := hide (isleaf_any n)
  have C2 := hide (checkleaf_any n)
  have C3 := hide (fun W => checkask_any n i len p q m W hp hq)
  clear hp hq
  by_cases h : M.nf n = -1
  · have E : Hid (M.lfF n = M.nodeF n i len m) := by unfold Hid M.nodeF; rw [if_pos h]
    have hl : M.leafB n = true := by unfold M.leafB; exact decide_eq_true h
    rw [hl] at C1
    clear h hl C3
    unfold ndV at *
    generalize M.nodeF n i len m = o at *
    generalize M.lfF n = u at *
    generalize M.nf n = f at *
    generalize M.nc n = c at *
    generalize M.nl n = l at *
    generalize M.nr n = r at *
    generalize M.ns n = s at *
    generalize M.nv n = v at *
    go_enter Try.func23, Try.ntmps23
    go_wp2_with (first
      | (go_at_call 26; refine (C1.out _).mono ?_; rintro e w1 ⟨rfl, hb1⟩; have hcell : ∀ k, w1.cell? ⟨w.heap.size, k, none⟩ = _ := fun k => hb1.cell (p := ⟨w.heap.size, k, none⟩) (by simp))
      | (go_at_call 43; refine (C2.out _).mono ?_; rintro e w2 ⟨rfl, hb2⟩))
    go_ret
    exact ⟨ret_err E.out, below_on (below_on ((Below.refl _ w).alloc (Nat.le_refl _) _) hb1) hb2⟩
  · have E : Hid (M.asF n i len m = M.nodeF n i len m) := by unfold Hid M.nodeF; rw [if_neg h]
    have hl : M.leafB n = false := by unfold M.leafB; exact decide_eq_false h
    rw [hl] at C1
    clear h hl C2
    unfold ndV at *
    generalize M.nodeF n i len m = o at *
    generalize M.asF n i len m = u at *
    generalize M.nf n = f at *
    generalize M.nc n = c at *
    generalize M.nl n = l at *
    generalize M.nr n = r at *
    generalize M.ns n = s at *
    generalize M.nv n = v at *
    go_enter Try.func23, Try.ntmps23
    go_wp2_with (first
      | (go_at_call 26; refine (C1.out _).mono ?_; rintro e w1 ⟨rfl, hb1⟩; have hcell : ∀ k, w1.cell? ⟨w.heap.size, k, none⟩ = _ := fun k => hb1.cell (p := ⟨w.heap.size, k, none⟩) (by simp))
      | (go_at_call 44; refine (C3.out _).mono ?_; rintro e w2 ⟨rfl, hb2⟩))
    go_ret
    exact ⟨ret_err E.out, below_on (below_on ((Below.refl _ w).alloc (Nat.le_refl _) _) hb1) hb2⟩

end Go.Proofs.Ythbeoaninipadaf
