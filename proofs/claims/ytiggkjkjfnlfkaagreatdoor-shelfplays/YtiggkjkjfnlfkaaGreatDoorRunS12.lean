/-
  Several texts as one: TNode, TStray, TDepth.
-/
import Derived.Test.YtiggkjkjfnlfkaaGreatDoorRunS10
import Derived.RegionTactic
import Derived.Deep.RegionWith
import Derived.Deep.Cut
import Derived.Deep.CutRange
import Derived.Deep.QuietTactic
import Derived.ChangeAlike
namespace Go.Proofs.YtiggkjkjfnlfkaaGreatDoor
open Go.ChangeShapes Go.WideShapes Go.ChangeAt Go.RowKit Go.Lib
set_option linter.unusedVariables false
theorem isleaf_any (n : M.Nd) (w : World) : Calls Tryz.prog 233 #[ndV n] w fun e w' => e = .returned (.bool (M.leafB n)) ∧ Below w.heap.size w w' := by
  have E : Hid ((M.nf n == -1) = M.leafB n) := by
    unfold Hid M.leafB
    by_cases h : M.nf n = -1
    · rw [decide_eq_true h, beq_iff_eq]; exact h
    · rw [decide_eq_false h, beq_eq_false_iff_ne]; exact h
  unfold ndV
  generalize M.leafB n = o at *
  generalize M.nf n = f at *
  generalize M.nc n = c at *
  generalize M.nl n = l at *
  generalize M.nr n = r at *
  generalize M.ns n = s at *
  generalize M.nv n = v at *
  go_enter Tryz.func233, Tryz.ntmps233
  go_wp2
  go_ret
  exact ⟨ret_bool E.out, (Below.refl _ _).alloc (Nat.le_refl _) _⟩

theorem iscell_any (x : Int) (w : World) : Calls Tryz.prog 276 #[.int .i64 x] w fun e w' => e = .returned (.bool (!M.outI x)) ∧ w' = w := by
  by_cases h1 : -1000000 ≤ x
  · have E : Hid (decide (x ≤ 1000000) = !M.outI x) := by
      unfold Hid M.outI
      rw [show decide (x < -1000000) = false from decide_eq_false (by omega), Bool.false_or]
      by_cases h2 : x ≤ 1000000
      · simp [h2]
      · simp [h2]; omega
    have h1' : decide (-1000000 ≤ x) = true := decide_eq_true h1
    clear h1
    go_enter Tryz.func276, Tryz.ntmps276
    go_wp2
    go_ret
    exact ⟨ret_bool E.out, rfl⟩
  · have E : Hid (false = !M.outI x) := by
      unfold Hid M.outI
      rw [show decide (x < -1000000) = true from decide_eq_true (by omega)]; rfl
    have h1' : decide (-1000000 ≤ x) = false := decide_eq_false h1
    clear h1
    go_enter Tryz.func276, Tryz.ntmps276
    go_wp2
    go_ret
    exact ⟨ret_bool E.out, rfl⟩

theorem ret_err {c d : Int} (h : c = d) : Ending.returned (errV c) = .returned (errV d) := by rw [h]

theorem checkleaf_any (n : M.Nd) (w : World) : Calls Tryz.prog 236 #[ndV n] w fun e w' => e = .returned (errV (M.lfF n)) ∧ Below w.heap.size w w' := by
  have C := hide (iscell_any (M.nv n))
  have D : Hid (M.lfF n = if M.outI (M.nv n) = true then 1 else if M.nc n ≠ 0 ∨ M.nl n ≠ 0 ∨ M.nr n ≠ 0 ∨ M.ns n = true then 3 else 0) := rfl
  unfold ndV
  generalize M.lfF n = o at *
  generalize M.outI (M.nv n) = z at *
  generalize M.nf n = f at *
  generalize M.nc n = c at *
  generalize M.nl n = l at *
  generalize M.nr n = r at *
  generalize M.ns n = s at *
  generalize M.nv n = v at *
  cases z with
  | true =>
    have E : Hid (o = 1) := D.out.trans (by simp)
    clear D
    go_enter Tryz.func236, Tryz.ntmps236
    go_wp2_with (go_at_call 276; refine (C.out _).mono ?_; rintro e w1 ⟨rfl, rfl⟩)
    go_ret
    exact ⟨by rw [E.out]; rfl, (Below.refl _ _).alloc (Nat.le_refl _) _⟩
  | false =>
    by_cases hc : c = 0
    · have qc : (c != 0) = false := by rw [bne_eq_false_iff_eq]; exact hc
      by_cases hl : l = 0
      · have ql : (l != 0) = false := by rw [bne_eq_false_iff_eq]; exact hl
        by_cases hr : r = 0
        · have qr : (r != 0) = false := by rw [bne_eq_false_iff_eq]; exact hr
          cases s with
          | true =>
            have E : Hid (o = 3) := D.out.trans (by simp [hc, hl, hr])
            clear D hc hl hr
            go_enter Tryz.func236, Tryz.ntmps236
            go_wp2_with (go_at_call 276; refine (C.out _).mono ?_; rintro e w1 ⟨rfl, rfl⟩)
            go_ret
            exact ⟨by rw [E.out]; rfl, (Below.refl _ _).alloc (Nat.le_refl _) _⟩
          | false =>
            have E : Hid (o = 0) := D.out.trans (by simp [hc, hl, hr])
            clear D hc hl hr
            go_enter Tryz.func236, Tryz.ntmps236
            go_wp2_with (go_at_call 276; refine (C.out _).mono ?_; rintro e w1 ⟨rfl, rfl⟩)
            go_ret
            exact ⟨by rw [E.out]; rfl, (Below.refl _ _).alloc (Nat.le_refl _) _⟩
        · have qr : (r != 0) = true := by rw [bne_iff_ne]; exact hr
          have E : Hid (o = 3) := D.out.trans (by simp [hc, hl, hr])
          clear D hc hl hr
          go_enter Tryz.func236, Tryz.ntmps236
          go_wp2_with (go_at_call 276; refine (C.out _).mono ?_; rintro e w1 ⟨rfl, rfl⟩)
          go_ret
          exact ⟨by rw [E.out]; rfl, (Below.refl _ _).alloc (Nat.le_refl _) _⟩
      · have ql : (l != 0) = true := by rw [bne_iff_ne]; exact hl
        have E : Hid (o = 3) := D.out.trans (by simp [hc, hl])
        clear D hc hl
        go_enter Tryz.func236, Tryz.ntmps236
        go_wp2_with (go_at_call 276; refine (C.out _).mono ?_; rintro e w1 ⟨rfl, rfl⟩)
        go_ret
        exact ⟨by rw [E.out]; rfl, (Below.refl _ _).alloc (Nat.le_refl _) _⟩
    · have qc : (c != 0) = true := by rw [bne_iff_ne]; exact hc
      have E : Hid (o = 3) := D.out.trans (by simp [hc])
      clear D hc
      go_enter Tryz.func236, Tryz.ntmps236
      go_wp2_with (go_at_call 276; refine (C.out _).mono ?_; rintro e w1 ⟨rfl, rfl⟩)
      go_ret
      exact ⟨by rw [E.out]; rfl, (Below.refl _ _).alloc (Nat.le_refl _) _⟩

theorem behind_any (bp bl : Nat) (p q x : Int) (w : World) (hp : w.cell? ⟨bp, 0, none⟩ = some (.int .i64 p)) (hq : w.cell? ⟨bl, 0, none⟩ = some (.int .i64 q)) :
    Calls Tryz.prog 277 (#[.int .i64 x] ++ #[.pointer (some ⟨bp, 0, none⟩), .pointer (some ⟨bl, 0, none⟩)]) w fun e w' => e = .returned (.bool (decide (p < x) && decide (x ≤ q))) ∧ w' = w := by
  by_cases h : p < x
  · have E : Hid (decide (x ≤ q) = (decide (p < x) && decide (x ≤ q))) := by unfold Hid; simp [h]
    have h1 : decide (p < x) = true := decide_eq_true h
    clear h
    generalize (decide (p < x) && decide (x ≤ q)) = o at *
    go_enter Tryz.func277, Tryz.ntmps277
    go_wp2
    go_ret
    exact ⟨ret_bool E.out, rfl⟩
  · have E : Hid (false = (decide (p < x) && decide (x ≤ q))) := by unfold Hid; simp [h]
    have h1 : decide (p < x) = false := decide_eq_false h
    clear h
    generalize (decide (p < x) && decide (x ≤ q)) = o at *
    go_enter Tryz.func277, Tryz.ntmps277
    go_wp2
    go_ret
    exact ⟨ret_bool E.out, rfl⟩

theorem behind_is {p q x : Int} {i len : Nat} (hp : p = i) (hq : q = (len : Int) - 1) : (decide (p < x) && decide (x ≤ q)) = M.inB x i len := by
  subst hp; subst hq
  unfold M.inB
  congr 1
  exact decide_eq_decide.2 ⟨fun h => by omega, fun h => by omega⟩

set_option maxHeartbeats 8000000 in
theorem checkask_any (n : M.Nd) (i len : Nat) (p q m : Int) (w : World) (hp : p = i) (hq : q = (len : Int) - 1) :
    Calls Tryz.prog 237 #[ndV n, .int .i64 p, .int .i64 q, .int .i64 m] w fun e w' => e = .returned (errV (M.asF n i len m)) ∧ Below w.heap.size w w' := by
  have C := hide (iscell_any (M.nc n))
  have CB : Hid (∀ x bp bl W, W.cell? ⟨bp, 0, none⟩ = some (.int .i64 p) → W.cell? ⟨bl, 0, none⟩ = some (.int .i64 q) → Calls Tryz.prog 277 (#[.int .i64 x] ++ #[.pointer (some ⟨bp, 0, none⟩), .pointer (some ⟨bl, 0, none⟩)]) W fun e w' => e = .returned (.bool (M.inB x i len)) ∧ w' = W) :=
    fun x bp bl W h1 h2 => by rw [← behind_is hp hq]; exact behind_any bp bl p q _ W h1 h2
  have QP : Hid (∀ o : Obj, (((w.alloc o).alloc (.cells #[.int .i64 p] 3)).alloc (.cells #[.int .i64 q] 3)).cell? ⟨w.heap.size + 1, 0, none⟩ = some (.int .i64 p)) := fun o => by
    rw [World.cell?_alloc_past _ _ _ (by simp), World.cell?_alloc_at _ _ _ _ (by simp)]; rfl
  have QQ : Hid (∀ o : Obj, (((w.alloc o).alloc (.cells #[.int .i64 p] 3)).alloc (.cells #[.int .i64 q] 3)).cell? ⟨w.heap.size + 1 + 1, 0, none⟩ = some (.int .i64 q)) := fun o => by
    rw [World.cell?_alloc_at _ _ _ _ (by simp)]; rfl
  have D : Hid (M.asF n i len m = if M.nf n < 0 ∨ m ≤ M.nf n ∨ M.outI (M.nc n) = true ∨ M.inB (M.nl n) i len = false ∨ M.inB (M.nr n) i len = false then 1 else if M.nv n ≠ 0 ∨ M.nl n = M.nr n then 3 else 0) := rfl
  clear hp hq
  unfold ndV
  generalize M.asF n i len m = o at *
  generalize M.outI (M.nc n) = zc at *
  generalize M.nf n = f at *
  generalize M.nc n = c at *
  generalize M.nl n = l at *
  generalize M.nr n = r at *
  generalize M.ns n = s at *
  generalize M.nv n = v at *
  by_cases h1 : f < 0
  · have q1 : decide (f < 0) = true := decide_eq_true h1
    have E : Hid (o = 1) := D.out.trans (by simp [h1])
    clear D h1
    go_enter Tryz.func237, Tryz.ntmps237
    go_wp2_with (first
      | (go_at_call 276; refine (C.out _).mono ?_; rintro e w1 ⟨rfl, rfl⟩)
      | (go_at_call 277; refine (CB.out _ _ _ _ (QP.out _) (QQ.out _)).mono ?_; rintro e w1 ⟨rfl, rfl⟩))
    go_ret
    exact ⟨by rw [E.out]; rfl, (((Below.refl _ w).alloc (Nat.le_refl _) _).alloc (by simp) _).alloc (by simp; omega) _⟩
  · have q1 : decide (f < 0) = false := decide_eq_false h1
    by_cases h2 : m ≤ f
    · have q2 : decide (m ≤ f) = true := decide_eq_true h2
      have E : Hid (o = 1) := D.out.trans (by simp [h1, h2])
      clear D h1 h2
      go_enter Tryz.func237, Tryz.ntmps237
      go_wp2_with (first
        | (go_at_call 276; refine (C.out _).mono ?_; rintro e w1 ⟨rfl, rfl⟩)
        | (go_at_call 277; refine (CB.out _ _ _ _ (QP.out _) (QQ.out _)).mono ?_; rintro e w1 ⟨rfl, rfl⟩))
      go_ret
      exact ⟨by rw [E.out]; rfl, (((Below.refl _ w).alloc (Nat.le_refl _) _).alloc (by simp) _).alloc (by simp; omega) _⟩
    · have q2 : decide (m ≤ f) = false := decide_eq_false h2
      cases zc with
      | true =>
        have E : Hid (o = 1) := D.out.trans (by simp [h1, h2])
        clear D h1 h2
        go_enter Tryz.func237, Tryz.ntmps237
        go_wp2_with (first
          | (go_at_call 276; refine (C.out _).mono ?_; rintro e w1 ⟨rfl, rfl⟩)
          | (go_at_call 277; refine (CB.out _ _ _ _ (QP.out _) (QQ.out _)).mono ?_; rintro e w1 ⟨rfl, rfl⟩))
        go_ret
        exact ⟨by rw [E.out]; rfl, (((Below.refl _ w).alloc (Nat.le_refl _) _).alloc (by simp) _).alloc (by simp; omega) _⟩
      | false =>
        cases zl : M.inB l i len with
        | false =>
          have E : Hid (o = 1) := D.out.trans (by simp [h1, h2, zl])
          clear D h1 h2
          go_enter Tryz.func237, Tryz.ntmps237
          go_wp2_with (first
            | (go_at_call 276; refine (C.out _).mono ?_; rintro e w1 ⟨rfl, rfl⟩)
            | (go_at_call 277; refine (CB.out _ _ _ _ (QP.out _) (QQ.out _)).mono ?_; rintro e w1 ⟨rfl, rfl⟩))
          go_ret
          exact ⟨by rw [E.out]; rfl, (((Below.refl _ w).alloc (Nat.le_refl _) _).alloc (by simp) _).alloc (by simp; omega) _⟩
        | true =>
          cases zr : M.inB r i len with
          | false =>
            have E : Hid (o = 1) := D.out.trans (by simp [h1, h2, zl, zr])
            clear D h1 h2
            go_enter Tryz.func237, Tryz.ntmps237
            go_wp2_with (first
              | (go_at_call 276; refine (C.out _).mono ?_; rintro e w1 ⟨rfl, rfl⟩)
              | (go_at_call 277; refine (CB.out _ _ _ _ (QP.out _) (QQ.out _)).mono ?_; rintro e w1 ⟨rfl, rfl⟩))
            go_ret
            exact ⟨by rw [E.out]; rfl, (((Below.refl _ w).alloc (Nat.le_refl _) _).alloc (by simp) _).alloc (by simp; omega) _⟩
          | true =>
            by_cases h3 : v = 0
            · have q3 : (v != 0) = false := by rw [bne_eq_false_iff_eq]; exact h3
              by_cases h4 : l = r
              · have q4 : (l == r) = true := by rw [beq_iff_eq]; exact h4
                have E : Hid (o = 3) := D.out.trans (by simp [h1, h2, h3, h4, zr])
                clear D h1 h2 h3 h4
                go_enter Tryz.func237, Tryz.ntmps237
                go_wp2_with (first
                  | (go_at_call 276; refine (C.out _).mono ?_; rintro e w1 ⟨rfl, rfl⟩)
                  | (go_at_call 277; refine (CB.out _ _ _ _ (QP.out _) (QQ.out _)).mono ?_; rintro e w1 ⟨rfl, rfl⟩))
                go_ret
                exact ⟨by rw [E.out]; rfl, (((Below.refl _ w).alloc (Nat.le_refl _) _).alloc (by simp) _).alloc (by simp; omega) _⟩
              · have q4 : (l == r) = false := by rw [beq_eq_false_iff_ne]; exact h4
                have E : Hid (o = 0) := D.out.trans (by simp [h1, h2, h3, h4, zl, zr])
                clear D h1 h2 h3 h4
                go_enter Tryz.func237, Tryz.ntmps237
                go_wp2_with (first
                  | (go_at_call 276; refine (C.out _).mono ?_; rintro e w1 ⟨rfl, rfl⟩)
                  | (go_at_call 277; refine (CB.out _ _ _ _ (QP.out _) (QQ.out _)).mono ?_; rintro e w1 ⟨rfl, rfl⟩))
                go_ret
                exact ⟨by rw [E.out]; rfl, (((Below.refl _ w).alloc (Nat.le_refl _) _).alloc (by simp) _).alloc (by simp; omega) _⟩
            · have q3 : (v != 0) = true := by rw [bne_iff_ne]; exact h3
              have E : Hid (o = 3) := D.out.trans (by simp [h1, h2, h3, zl, zr])
              clear D h1 h2 h3
              go_enter Tryz.func237, Tryz.ntmps237
              go_wp2_with (first
                | (go_at_call 276; refine (C.out _).mono ?_; rintro e w1 ⟨rfl, rfl⟩)
                | (go_at_call 277; refine (CB.out _ _ _ _ (QP.out _) (QQ.out _)).mono ?_; rintro e w1 ⟨rfl, rfl⟩))
              go_ret
              exact ⟨by rw [E.out]; rfl, (((Below.refl _ w).alloc (Nat.le_refl _) _).alloc (by simp) _).alloc (by simp; omega) _⟩

theorem checknode_any (n : M.Nd) (i len : Nat) (p q m : Int) (w : World) (hp : p = i) (hq : q = (len : Int) - 1) :
    Calls Tryz.prog 205 #[ndV n, .int .i64 p, .int .i64 q, .int .i64 m] w fun e w' => e = .returned (errV (M.nodeF n i len m)) ∧ Below w.heap.size w w' := by
  have C1 := hide (isleaf_any n)
  have C2 := hide (checkleaf_any n)
  have C3 := hide (fun W => checkask_any n i len p q m W hp hq)
  clear hp hq
  by_cases h : M.nf n = -1
  · have E : Hid (M.lfF n = M.nodeF n i len m) := by unfold Hid M.nodeF; rw [if_pos h]
    have hl : M.leafB n = true := by unfold M.leafB; exact decide_eq_true h
    rw [hl] at C1
    clear h hl C3
    unfold ndV at *
    generalize M.nodeF n i len m = o at *
    generalize M.lfF n = u at *
    generalize M.nf n = f at *
    generalize M.nc n = c at *
    generalize M.nl n = l at *
    generalize M.nr n = r at *
    generalize M.ns n = s at *
    generalize M.nv n = v at *
    go_enter Tryz.func205, Tryz.ntmps205
    go_wp2_with (first
      | (go_at_call 233; refine (C1.out _).mono ?_; rintro e w1 ⟨rfl, hb1⟩; have hcell : ∀ k, w1.cell? ⟨w.heap.size, k, none⟩ = _ := fun k => hb1.cell (p := ⟨w.heap.size, k, none⟩) (by simp))
      | (go_at_call 236; refine (C2.out _).mono ?_; rintro e w2 ⟨rfl, hb2⟩))
    go_ret
    exact ⟨ret_err E.out, below_on (below_on ((Below.refl _ w).alloc (Nat.le_refl _) _) hb1) hb2⟩
  · have E : Hid (M.asF n i len m = M.nodeF n i len m) := by unfold Hid M.nodeF; rw [if_neg h]
    have hl : M.leafB n = false := by unfold M.leafB; exact decide_eq_false h
    rw [hl] at C1
    clear h hl C2
    unfold ndV at *
    generalize M.nodeF n i len m = o at *
    generalize M.asF n i len m = u at *
    generalize M.nf n = f at *
    generalize M.nc n = c at *
    generalize M.nl n = l at *
    generalize M.nr n = r at *
    generalize M.ns n = s at *
    generalize M.nv n = v at *
    go_enter Tryz.func205, Tryz.ntmps205
    go_wp2_with (first
      | (go_at_call 233; refine (C1.out _).mono ?_; rintro e w1 ⟨rfl, hb1⟩; have hcell : ∀ k, w1.cell? ⟨w.heap.size, k, none⟩ = _ := fun k => hb1.cell (p := ⟨w.heap.size, k, none⟩) (by simp))
      | (go_at_call 237; refine (C3.out _).mono ?_; rintro e w2 ⟨rfl, hb2⟩))
    go_ret
    exact ⟨ret_err E.out, below_on (below_on ((Below.refl _ w).alloc (Nat.le_refl _) _) hb1) hb2⟩
/-- an array of 63 numbers of our own -/
def Arr (w : World) (B g : Nat) (F : List Int) : Prop := F.length = 63 ∧ w.ownsRow B 306 1 (.slice (some ⟨g, 0, none⟩) 63 63) 63 (F.map (Value.int .i64))
theorem Arr.cell {w : World} {B g : Nat} {F : List Int} (h : Arr w B g F) {i : Nat} (hi : i < 63) : w.cell? ⟨g, i, none⟩ = some (.int .i64 (F.getD i 0)) := by
  rw [h.2.cellAt i (by omega)]
  have := h.1
  simp [List.getD, show i < F.length by omega]
theorem Arr.frozen {w : World} {B g : Nat} {F : List Int} (h : Arr w B g F) (i : Nat) : w.frozen? ⟨g, i, none⟩ = false := h.2.frozenAt i
theorem Arr.set {w : World} {B g : Nat} {F : List Int} (h : Arr w B g F) (i : Nat) (x : Int) : Arr (w.setCell ⟨g, i, none⟩ (.int .i64 x)) B g (F.set i x) := by
  refine ⟨by rw [List.length_set]; exact h.1, ?_⟩
  rw [List.map_set]
  exact (h.2.stored i (.int .i64 x)).1
theorem Arr.up {w w' : World} {B g : Nat} {F : List Int} (h : Arr w B g F) (hb : Below w.heap.size w w') : Arr w' B g F := ⟨h.1, own_up h.2 hb⟩
theorem Arr.lt {w : World} {B g : Nat} {F : List Int} (h : Arr w B g F) : B ≤ g ∧ g < w.heap.size := h.2.lt g rfl
theorem Arr.new (w : World) (B : Nat) (hB : B ≤ w.heap.size) : Arr (w.alloc (.cells ((List.replicate 63 (Value.int .i64 0)).toArray) 306)) B w.heap.size (List.replicate 63 0) := by
  refine ⟨by simp, ?_⟩
  have := World.ownsRow_lit (base := B) (e := 306) (size := 1) w ((List.replicate 63 (Value.int .i64 0)).toArray) 63 hB (by unfold maxLen; omega) (by simp)
  rw [List.map_replicate]
  exact this
theorem cell_other {w : World} {g h a k : Nat} {v : Value} (hn : h ≠ g) : (w.setCell ⟨g, a, none⟩ v).cell? ⟨h, k, none⟩ = w.cell? ⟨h, k, none⟩ := by
  unfold World.cell? World.setCell
  simp [Array.getElem?_modify, hn.symm]

/-- a round's facts -/
theorem two_cells {wr W : World} {B g : Nat} {F : List Int} {o : Obj} {a b : Nat} (hA : Arr wr B g F) (hW : Below (wr.alloc o).heap.size (wr.alloc o) W) (ha : a < 63) (hb : b < 63) (hab : a ≠ b) (x y : Int) :
    W.cell? ⟨g, a, none⟩ = some (.int .i64 (F.getD a 0)) ∧ W.frozen? ⟨g, a, none⟩ = false ∧
    (∀ k, (W.setCell ⟨g, a, none⟩ (.int .i64 x)).cell? ⟨wr.heap.size, k, none⟩ = W.cell? ⟨wr.heap.size, k, none⟩) ∧
    (W.setCell ⟨g, a, none⟩ (.int .i64 x)).cell? ⟨g, b, none⟩ = some (.int .i64 (F.getD b 0)) ∧ (W.setCell ⟨g, a, none⟩ (.int .i64 x)).frozen? ⟨g, b, none⟩ = false ∧
    Arr ((W.setCell ⟨g, a, none⟩ (.int .i64 x)).setCell ⟨g, b, none⟩ (.int .i64 y)) B g ((F.set a x).set b y) := by
  have h1 : Arr (wr.alloc o) B g F := hA.up ((Below.refl _ _).alloc (Nat.le_refl _) _)
  have h2 : Arr W B g F := h1.up hW
  have h3 := h2.set a x
  refine ⟨h2.cell ha, h2.frozen a, fun k => cell_other (by have := hA.lt; omega), ?_, h3.frozen b, h3.set b y⟩
  rw [h3.cell hb]
  simp [List.getD, List.getElem?_set_ne hab]

set_option maxHeartbeats 4000000 in
set_option maxRecDepth 10000 in
theorem stray_any (a0 : Option Addr) (ts : List M.Nd) (cap : Nat) (m : Int) (w : World) (h : RdN w a0 ts) (hl : ts.length ≤ 63) (hf : ∀ j, j < ts.length → M.nodeF (M.nAt ts j) j ts.length m = 0) :
    Calls Tryz.prog 206 #[.slice a0 ts.length cap] w fun e w' => e = .returned (.int .i64 (M.strayV ts : Nat)) ∧ Below w.heap.size w w' := by
  have hm : ts.length ≤ 9223372036854775807 := h.1
  have HR := hide h.2
  have HF := hide hf
  clear h hf
  have SH : Hid (∀ i, i < ts.length → 0 < i → M.ups ts i ≠ 1 → (∀ j, 0 < j → j < i → M.ups ts j = 1) → M.strayV ts = i) := fun i h1 h2 h3 h4 => M.stray_hit h1 h2 h3 h4
  have SM : Hid ((∀ j, 0 < j → j < ts.length → M.ups ts j = 1) → M.strayV ts = 0) := fun h => M.stray_miss h
  generalize M.strayV ts = sv at *
  go_enter Tryz.func206, Tryz.ntmps206
  go_wp2
  go_loopw [9] (fun i wr => ∃ k : Nat, k ≤ ts.length ∧ i = .int .i64 k ∧ Arr wr w.heap.size w.heap.size (M.upsL ts k) ∧ Below w.heap.size w wr) (fun i _ => ts.length - (intOf i).toNat)
  case atStart =>
    refine ⟨0, Nat.zero_le _, rfl, ?_, (Below.refl _ w).alloc (Nat.le_refl _) _⟩
    rw [M.upsL_zero]
    exact Arr.new w w.heap.size (Nat.le_refl _)
  case round =>
    obtain ⟨k, hk, rfl, hown, hbl⟩ := hrel
    by_cases hlt : k < ts.length
    · obtain ⟨b0, off, rfl, hb0, hc⟩ := HR.out (by intro e; subst e; simp at hlt)
      obtain ⟨s0, s1, s2, s3, s4, s5⟩ := (hc k hlt).below hbl hb0
      have C1 := hide (isleaf_any (M.nAt ts k))
      unfold ndV at C1
      have NB : Hid (∀ o W, Below (wr.alloc o).heap.size (wr.alloc o) W → Below w.heap.size w W) := fun o W hW => below_on (below_on hbl ((Below.refl _ wr).alloc (Nat.le_refl _) o)) hW
      by_cases hf : M.nf (M.nAt ts k) = -1
      · have e1 : M.leafB (M.nAt ts k) = true := decide_eq_true hf
        rw [e1] at C1
        have NA : Hid (∀ o W, Below (wr.alloc o).heap.size (wr.alloc o) W → Arr W w.heap.size w.heap.size (M.upsL ts (k + 1))) := fun o W hW => by
          rw [M.upsL_leaf hlt hf]; exact (hown.up ((Below.refl _ wr).alloc (Nat.le_refl _) o)).up hW
        clear hc e1 hf hown hbl
        generalize M.nf (M.nAt ts k) = f at *
        generalize M.nc (M.nAt ts k) = c at *
        generalize M.nl (M.nAt ts k) = l at *
        generalize M.nr (M.nAt ts k) = r at *
        generalize M.ns (M.nAt ts k) = sl at *
        generalize M.nv (M.nAt ts k) = v at *
        go_wp2_with (go_at_call 233; refine (C1.out _).mono ?_; rintro e w1 ⟨rfl, hb1⟩)
        go_roundw
        case rel => exact ⟨k + 1, by omega, by go_num, NA.out _ w1 hb1, NB.out _ w1 hb1⟩
        case measure => simp [intOf]; omega
      · have e1 : M.leafB (M.nAt ts k) = false := decide_eq_false hf
        rw [e1] at C1
        obtain ⟨a, b, ea, eb, h1, h2, h3, h4, hab⟩ := M.ask_at HF.out hlt hf
        rw [ea] at s2 C1
        rw [eb] at s3 C1
        have ha : a < 63 := by omega
        have hb : b < 63 := by omega
        have TW := hide (fun o W (hW : Below (wr.alloc o).heap.size (wr.alloc o) W) => two_cells (x := (M.upsL ts k).getD a 0 + 1) (y := (M.upsL ts k).getD b 0 + 1) hown hW ha hb hab)
        have NE := hide (M.upsL_ask hlt hf ea eb ha hb hab)
        have za : 0 ≤ (M.upsL ts k).getD a 0 ∧ (M.upsL ts k).getD a 0 ≤ 126 := by
          rw [M.upsL_at ts k ha]
          have := M.ups_le (ts.take k) (a : Int)
          rw [List.length_take] at this
          omega
        have zb : 0 ≤ (M.upsL ts k).getD b 0 ∧ (M.upsL ts k).getD b 0 ≤ 126 := by
          rw [M.upsL_at ts k hb]
          have := M.ups_le (ts.take k) (b : Int)
          rw [List.length_take] at this
          omega
        obtain ⟨za0, za1⟩ := za
        obtain ⟨zb0, zb1⟩ := zb
        clear hc e1 hf hown hbl ea eb
        generalize (M.upsL ts k).getD a 0 = xa at *
        generalize (M.upsL ts k).getD b 0 = xb at *
        generalize M.nf (M.nAt ts k) = f at *
        generalize M.nc (M.nAt ts k) = c at *
        generalize M.ns (M.nAt ts k) = sl at *
        generalize M.nv (M.nAt ts k) = v at *
        go_wp2_with (go_at_call 233; refine (C1.out _).mono ?_; rintro e w1 ⟨rfl, hb1⟩; obtain ⟨t1, t2, t3, t4, t5, t6⟩ := TW.out _ w1 hb1; have hcell : ∀ k, w1.cell? ⟨wr.heap.size, k, none⟩ = _ := fun k => hb1.cell (p := ⟨wr.heap.size, k, none⟩) (by simp))
        go_roundw
        case rel =>
          refine ⟨k + 1, by omega, by go_num, ?_, ((NB.out _ w1 hb1).setCell (Nat.le_refl _) _).setCell (Nat.le_refl _) _⟩
          rw [← NE.out]; exact t6
        case measure => simp [intOf]; omega
    · have hke : k = ts.length := by omega
      rw [hke] at hown
      have CE : Hid (∀ i, i < 63 → wr.cell? ⟨w.heap.size, i, none⟩ = some (.int .i64 ((M.ups ts (i : Int) : Nat) : Int))) := fun i hi => by
        rw [hown.cell hi, M.upsL_at ts _ hi, List.take_length]
      have UL : Hid (∀ i : Nat, M.ups ts i ≤ 126) := fun i => by have := M.ups_le ts (i : Int); omega
      clear hown hke
      go_wp2
      go_loop [6] (fun i => ∃ j : Nat, 0 < j ∧ j ≤ ts.length + 1 ∧ i = .int .i64 j ∧ Hid (∀ p, 0 < p → p < j → M.ups ts p = 1)) (fun i => ts.length + 1 - (intOf i).toNat)
      case atStart => exact ⟨1, by omega, by omega, rfl, fun p h1 h2 => by omega⟩
      case round =>
        obtain ⟨j, hj0, hj, rfl, I⟩ := hrel
        by_cases hlt2 : j < ts.length
        · have hc := CE.out j (by omega)
          by_cases hu : M.ups ts (j : Int) = 1
          · have N : Hid (∀ p, 0 < p → p < j + 1 → M.ups ts p = 1) := fun p h1 h2 => by
              by_cases e : p = j
              · subst e; exact hu
              · exact I.out p h1 (by omega)
            have q : (((M.ups ts (j : Int) : Nat) : Int) != 1) = false := by rw [bne_eq_false_iff_eq]; omega
            clear hu
            generalize ((M.ups ts (j : Int) : Nat) : Int) = u at *
            go_wp2
            go_round
            case rel => exact ⟨j + 1, by omega, by omega, by go_num, N⟩
            case measure => simp [intOf]; omega
          · have E := hide (SH.out j hlt2 hj0 hu I.out)
            have q : (((M.ups ts (j : Int) : Nat) : Int) != 1) = true := by rw [bne_iff_ne]; omega
            clear hu
            generalize ((M.ups ts (j : Int) : Nat) : Int) = u at *
            go_wp2
            go_ret
            exact ⟨ret_int (by rw [E.out]), hbl⟩
        · have E := hide (SM.out fun p h1 h2 => I.out p h1 (by omega))
          go_wp2
          go_ret
          exact ⟨ret_int (by rw [E.out]; rfl), hbl⟩
/-- a round's facts -/
theorem lev_cells {wr W : World} {B g : Nat} {F : List Int} {o : Obj} {a b k : Nat} (hA : Arr wr B g F) (hW : Below (wr.alloc o).heap.size (wr.alloc o) W) (hk : k < 63) (hak : a ≠ k) (ha : a < 63) (hb : b < 63) (x y : Int) :
    (∃ z, W.cell? ⟨g, a, none⟩ = some (.int .i64 z)) ∧ (∃ z, (W.setCell ⟨g, a, none⟩ (.int .i64 x)).cell? ⟨g, b, none⟩ = some (.int .i64 z)) ∧
    W.cell? ⟨g, k, none⟩ = some (.int .i64 (F.getD k 0)) ∧ W.frozen? ⟨g, a, none⟩ = false ∧
    (∀ j, (W.setCell ⟨g, a, none⟩ (.int .i64 x)).cell? ⟨wr.heap.size, j, none⟩ = W.cell? ⟨wr.heap.size, j, none⟩) ∧
    (W.setCell ⟨g, a, none⟩ (.int .i64 x)).cell? ⟨g, k, none⟩ = some (.int .i64 (F.getD k 0)) ∧ (W.setCell ⟨g, a, none⟩ (.int .i64 x)).frozen? ⟨g, b, none⟩ = false ∧
    Arr ((W.setCell ⟨g, a, none⟩ (.int .i64 x)).setCell ⟨g, b, none⟩ (.int .i64 y)) B g ((F.set a x).set b y) := by
  have h1 : Arr (wr.alloc o) B g F := hA.up ((Below.refl _ _).alloc (Nat.le_refl _) _)
  have h2 : Arr W B g F := h1.up hW
  have h3 := h2.set a x
  refine ⟨⟨_, h2.cell ha⟩, ⟨_, h3.cell hb⟩, h2.cell hk, h2.frozen a, fun k => cell_other (by have := hA.lt; omega), ?_, h3.frozen b, h3.set b y⟩
  rw [h3.cell hk]
  simp [List.getD, List.getElem?_set_ne hak]
theorem max_val {dk lv n : Nat} (h : n = max dk lv) : Value.int .i64 (if dk < lv then (lv : Int) else (dk : Int)) = .int .i64 (n : Nat) := by
  rw [h]; congr 1; split <;> omega

set_option maxHeartbeats 4000000 in
set_option maxRecDepth 10000 in
theorem depth_any (a0 : Option Addr) (ts : List M.Nd) (cap : Nat) (m : Int) (w : World) (h : RdN w a0 ts) (hl : ts.length ≤ 63) (hf : ∀ j, j < ts.length → M.nodeF (M.nAt ts j) j ts.length m = 0) :
    Calls Tryz.prog 207 #[.slice a0 ts.length cap] w fun e w' => e = .returned (.int .i64 (M.deepest ts ts.length : Nat)) ∧ Below w.heap.size w w' := by
  have hm : ts.length ≤ 9223372036854775807 := h.1
  have HR := hide h.2
  have HF := hide hf
  clear h hf
  have DE : Hid (∀ k, k = ts.length → M.deepest ts k = M.deepest ts ts.length) := fun k e => by rw [e]
  generalize M.deepest ts ts.length = dv at *
  go_enter Tryz.func207, Tryz.ntmps207
  go_wp2
  go_loopw [4, 9] (fun d i wr => ∃ k : Nat, k ≤ ts.length ∧ i = .int .i64 k ∧ d = .int .i64 (M.deepest ts k : Nat) ∧ Arr wr w.heap.size w.heap.size (M.levL ts k) ∧ Below w.heap.size w wr) (fun _ i _ => ts.length - (intOf i).toNat)
  case atStart =>
    refine ⟨0, Nat.zero_le _, rfl, rfl, ?_, (Below.refl _ w).alloc (Nat.le_refl _) _⟩
    rw [M.levL_zero]
    exact Arr.new w w.heap.size (Nat.le_refl _)
  case round =>
    obtain ⟨k, hk, rfl, rfl, hown, hbl⟩ := hrel
    by_cases hlt : k < ts.length
    · obtain ⟨b0, off, rfl, hb0, hc⟩ := HR.out (by intro e; subst e; simp at hlt)
      obtain ⟨s0, s1, s2, s3, s4, s5⟩ := (hc k hlt).below hbl hb0
      have C1 := hide (isleaf_any (M.nAt ts k))
      unfold ndV at C1
      have k63 : k < 63 := by omega
      have NB : Hid (∀ o W, Below (wr.alloc o).heap.size (wr.alloc o) W → Below w.heap.size w W) := fun o W hW => below_on (below_on hbl ((Below.refl _ wr).alloc (Nat.le_refl _) o)) hW
      have ck : wr.cell? ⟨w.heap.size, k, none⟩ = some (.int .i64 ((M.levL ts k).getD k 0)) := hown.cell k63
      have glt : w.heap.size < wr.heap.size := hown.lt.2
      have DN : Hid (M.deepest ts (k + 1) = max (M.deepest ts k) (M.lev ts k k)) := rfl
      have LV : Hid ((M.levL ts k).getD k 0 = ((M.lev ts k k : Nat) : Int)) := M.levL_at ts k k63
      have DB := M.deep_le ts k
      have LB := M.lev_le ts k k
      by_cases hf : M.nf (M.nAt ts k) = -1
      · have e1 : M.leafB (M.nAt ts k) = true := decide_eq_true hf
        rw [e1] at C1
        have NA : Hid (∀ o W, Below (wr.alloc o).heap.size (wr.alloc o) W → Arr W w.heap.size w.heap.size (M.levL ts (k + 1))) := fun o W hW => by
          rw [M.levL_leaf hf]; exact (hown.up ((Below.refl _ wr).alloc (Nat.le_refl _) o)).up hW
        rw [LV.out] at ck
        clear hc e1 hf hown hbl LV
        generalize M.lev ts k k = lv at *
        generalize M.deepest ts k = dk at *
        generalize M.nf (M.nAt ts k) = f at *
        generalize M.nc (M.nAt ts k) = c at *
        generalize M.nl (M.nAt ts k) = l at *
        generalize M.nr (M.nAt ts k) = r at *
        generalize M.ns (M.nAt ts k) = sl at *
        generalize M.nv (M.nAt ts k) = v at *
        go_wp2_with (go_at_call 233; refine (C1.out _).mono ?_; rintro e w1 ⟨rfl, hb1⟩)
        go_roundw
        case rel => exact ⟨k + 1, by omega, by go_num, max_val DN.out, NA.out _ w1 hb1, NB.out _ w1 hb1⟩
        case measure => simp [intOf]; omega
      · have e1 : M.leafB (M.nAt ts k) = false := decide_eq_false hf
        rw [e1] at C1
        obtain ⟨a, b, ea, eb, h1, h2, h3, h4, hab⟩ := M.ask_at HF.out hlt hf
        rw [ea] at s2 C1
        rw [eb] at s3 C1
        have ha : a < 63 := by omega
        have hb : b < 63 := by omega
        have TW := hide (fun o W (hW : Below (wr.alloc o).heap.size (wr.alloc o) W) => lev_cells (a := a) (b := b) (x := (M.levL ts k).getD k 0 + 1) (y := (M.levL ts k).getD k 0 + 1) hown hW k63 (by omega) ha hb)
        have NE := hide (M.levL_ask hf ea eb k63)
        rw [LV.out] at ck TW NE
        clear hc e1 hf hown hbl LV ea eb
        generalize M.lev ts k k = lv at *
        generalize M.deepest ts k = dk at *
        generalize M.nf (M.nAt ts k) = f at *
        generalize M.nc (M.nAt ts k) = c at *
        generalize M.ns (M.nAt ts k) = sl at *
        generalize M.nv (M.nAt ts k) = v at *
        go_wp2_with (go_at_call 233; refine (C1.out _).mono ?_; rintro e w1 ⟨rfl, hb1⟩; have hcell : ∀ k, w1.cell? ⟨wr.heap.size, k, none⟩ = _ := fun k => hb1.cell (p := ⟨wr.heap.size, k, none⟩) (by simp); have TT := TW.out _ w1 hb1; obtain ⟨q1, q2, t1, t2, t3, t4, t5, t6⟩ := TT; obtain ⟨za, c1⟩ := q1; obtain ⟨zb, c2⟩ := q2; generalize hmx : (if dk < lv then (lv : Int) else (dk : Int)) = mx; have HM := hide hmx; clear hmx)
        go_region
        all_goals go_wp2_with fail
        all_goals go_region
        all_goals go_wp2_with fail
        go_roundw
        case rel =>
          refine ⟨k + 1, by omega, by go_num, by rw [← HM.out]; exact max_val DN.out, ?_, (((NB.out _ w1 hb1).setCell (Nat.le_refl _) _).setCell (Nat.le_refl _) _).drew.drew⟩
          rw [← NE.out]; exact (t6.up (Below.refl _ _).drew).up (Below.refl _ _).drew
        case measure => simp [intOf]; omega
    · have E := hide (DE.out k (by omega))
      go_wp2
      go_ret
      exact ⟨ret_int (by rw [E.out]), hbl⟩
end Go.Proofs.YtiggkjkjfnlfkaaGreatDoor
