/-
  What package path's hasNoNumber, hasNothing, isEnd, firstOf and narrow answer, for every span.
-/
import Derived.Test.YthbeoaninipadafNodes
import Derived.Test.YthbeoaninipadafSpans
import Derived.Test.YthbeoaninipadafLMathB
import Derived.RegionTactic
import Derived.Deep.RegionWith
import Derived.Deep.Cut
import Derived.Deep.CutRange
import Derived.Deep.QuietTactic
namespace Go.Proofs.Ythbeoaninipadaf
open Go.ChangeShapes Go.WideShapes Go.ChangeAt Go.RowKit Go.Lib
set_option linter.unusedVariables false

theorem nonum_any (s : M.Sp) (w : World) : Calls Try.prog 67 #[spV s] w fun e w' => e = .returned (.bool (decide (s.2.1 < s.1))) ∧ Below w.heap.size w w' := by
  obtain ⟨lo, hi, n⟩ := s
  show Calls Try.prog 67 #[.agg #[.int .i64 lo, .int .i64 hi, .bool n]] w fun e w' => e = .returned (.bool (decide (hi < lo))) ∧ Below w.heap.size w w'
  go_enter Try.func67, Try.ntmps67
  go_wp2
  go_ret
  exact ⟨rfl, (Below.refl _ _).alloc (Nat.le_refl _) _⟩

theorem M.has_no (s : M.Sp) : (!M.hasS s) = (decide (s.2.1 < s.1) && !s.2.2) := by
  unfold M.hasS
  by_cases h : s.2.1 < s.1
  · rw [decide_eq_true h, decide_eq_false (show ¬ s.1 ≤ s.2.1 by omega)]; simp
  · rw [decide_eq_false h, decide_eq_true (show s.1 ≤ s.2.1 by omega)]; simp

theorem nothing_any (s : M.Sp) (w : World) : Calls Try.prog 55 #[spV s] w fun e w' => e = .returned (.bool (!M.hasS s)) ∧ Below w.heap.size w w' := by
  rw [M.has_no]
  obtain ⟨lo, hi, n⟩ := s
  have C := hide (nonum_any (lo, hi, n))
  unfold spV at C
  show Calls Try.prog 55 #[.agg #[.int .i64 lo, .int .i64 hi, .bool n]] w fun e w' => e = .returned (.bool (decide (hi < lo) && !n)) ∧ Below w.heap.size w w'
  have B0 : Hid (∀ o W, Below (w.alloc o).heap.size (w.alloc o) W → Below w.heap.size w W) := fun o W hW => below_on ((Below.refl _ w).alloc (Nat.le_refl _) o) hW
  cases hd : decide (hi < lo) with
  | true =>
    simp only [hd] at C
    clear hd
    have CL : Hid (∀ O W, Below (w.alloc O).heap.size (w.alloc O) W → W.cell? ⟨w.heap.size, 2, none⟩ = (w.alloc O).cell? ⟨w.heap.size, 2, none⟩) := fun O W hW => hW.cell (p := ⟨w.heap.size, 2, none⟩) (by simp)
    cases n <;>
      (go_enter Try.func55, Try.ntmps55
       go_wp2_with (go_at_call 67; refine (C.out _).mono ?_; rintro e w1 ⟨rfl, hb1⟩; have c1 := CL.out _ _ hb1; rw [World.cell?_alloc_at _ _ _ 2 rfl] at c1; simp at c1)
       go_ret
       exact ⟨rfl, B0.out _ _ hb1⟩)
  | false =>
    simp only [hd] at C
    clear hd
    go_enter Try.func55, Try.ntmps55
    go_wp2_with (go_at_call 67; refine (C.out _).mono ?_; rintro e w1 ⟨rfl, hb1⟩)
    go_ret
    exact ⟨rfl, B0.out _ _ hb1⟩

theorem M.norm_no {s : M.Sp} (h : s.2.1 < s.1) : M.norm s = (1, 0, s.2.2) := by unfold M.norm; rw [if_pos h]
theorem M.norm_yes {s : M.Sp} (h : ¬ s.2.1 < s.1) : M.norm s = s := by unfold M.norm; rw [if_neg h]

theorem kept_three {w W : World} {a0 a1 a2 z0 z1 z2 : Value} {t u : TypeId} {o2 : Obj} (h : Below (((w.alloc (.cells #[a0, a1, a2] t)).alloc o2).alloc (.cells #[z0, z1, z2] u)).heap.size (((w.alloc (.cells #[a0, a1, a2] t)).alloc o2).alloc (.cells #[z0, z1, z2] u)) W) :
    (W.cell? ⟨w.heap.size, 0, none⟩ = some a0 ∧ W.cell? ⟨w.heap.size, 1, none⟩ = some a1 ∧ W.cell? ⟨w.heap.size, 2, none⟩ = some a2) ∧ (W.cell? ⟨w.heap.size + 1 + 1, 0, none⟩ = some z0 ∧ W.cell? ⟨w.heap.size + 1 + 1, 1, none⟩ = some z1 ∧ W.cell? ⟨w.heap.size + 1 + 1, 2, none⟩ = some z2) ∧
    (∀ j, W.frozen? ⟨w.heap.size, j, none⟩ = false) ∧ ∀ j, W.frozen? ⟨w.heap.size + 1 + 1, j, none⟩ = false := by
  have h1 : W.heap[w.heap.size]? = some (.cells #[a0, a1, a2] t) := by
    rw [h.block w.heap.size (by simp; omega), (((Below.refl _ (w.alloc (.cells #[a0, a1, a2] t))).alloc (Nat.le_refl _) o2).alloc (by simp) (.cells #[z0, z1, z2] u)).block w.heap.size (by simp)]
    exact heap_alloc_new _ _
  have h2 : W.heap[w.heap.size + 1 + 1]? = some (.cells #[z0, z1, z2] u) := by
    rw [h.block (w.heap.size + 1 + 1) (by simp)]
    have e := heap_alloc_new ((w.alloc (.cells #[a0, a1, a2] t)).alloc o2) (.cells #[z0, z1, z2] u)
    have q : ((w.alloc (.cells #[a0, a1, a2] t)).alloc o2).heap.size = w.heap.size + 1 + 1 := by simp
    rw [q] at e
    exact e
  refine ⟨⟨?_, ?_, ?_⟩, ⟨?_, ?_, ?_⟩, ?_, ?_⟩ <;> simp [World.cell?, World.frozen?, h1, h2]

set_option maxHeartbeats 8000000 in
set_option maxRecDepth 10000 in
theorem narrow_any (s : M.Sp) (n : M.Nd) (tt : Int) (w : World) (hc : M.outI (M.nc n) = false) :
    Calls Try.prog 53 #[spV s, ndV n, .int .i64 tt] w fun e w' => e = .returned (spV (M.norm (M.narrow n (decide (M.nl n = tt)) s))) ∧ Below w.heap.size w w' := by
  have hq := M.out_false hc
  have C := hide nonum_any
  unfold M.narrow
  unfold spV at C ⊢
  unfold ndV
  obtain ⟨lo, hi, nl⟩ := s
  clear hc
  generalize M.nf n = f at *
  generalize M.nc n = c at *
  generalize M.nl n = l at *
  generalize M.nr n = r at *
  generalize M.ns n = sl at *
  generalize M.nv n = v at *
  obtain ⟨hc1, hc2⟩ := hq
  have B0 : Hid (∀ o1 o2 o3 W, Below (((w.alloc o1).alloc o2).alloc o3).heap.size (((w.alloc o1).alloc o2).alloc o3) W → Below w.heap.size w W) := fun o1 o2 o3 W hW => below_on ((((Below.refl _ w).alloc (Nat.le_refl _) o1).alloc (by simp) o2).alloc (by simp; omega) o3) hW
  by_cases hl : l = tt
  · have ql : (tt == l) = true := by rw [beq_iff_eq]; exact hl.symm
    rw [decide_eq_true hl]
    simp only [if_true]
    clear hl
    cases nl with
    | false =>
      rw [Bool.false_and]
      by_cases hm : c - 1 < hi
      · rw [if_pos hm]
        by_cases he : c - 1 < lo
        · rw [M.norm_no he]
          have C1 := hide (C.out (lo, c - 1, false))
          simp only [decide_eq_true he] at C1
          have q9 : decide (c - 1 < lo) = true := decide_eq_true he
          clear C he
          go_enter Try.func53, Try.ntmps53
          go_wp2_with (go_at_call 67; refine (C1.out _).mono ?_; rintro e w1 ⟨rfl, hb1⟩; have kt := kept_three hb1; have c0 := kt.1.1; have c1 := kt.1.2.1; have c2 := kt.1.2.2; have d0 := kt.2.1.1; have d1 := kt.2.1.2.1; have d2 := kt.2.1.2.2; have f0 := kt.2.2.1 0; have f1 := kt.2.2.1 1; have f2 := kt.2.2.1 2; have g0 := kt.2.2.2 0; have g1 := kt.2.2.2 1; have g2 := kt.2.2.2 2; clear kt; have HB := hide (B0.out _ _ _ _ hb1); clear hb1)
          refine bodyPost_ret (v := .agg #[.int .i64 (1), .int .i64 (0), .bool (false)]) (by simp [results, Try.results53, go_sem, d0, d1, d2]) rfl ⟨rfl, ?_⟩
          exact (((((HB.out.setCell (p := ⟨w.heap.size, 0, none⟩) (by simp; try omega) (.int .i64 1)).setCell (p := ⟨w.heap.size, 1, none⟩) (by simp; try omega) (.int .i64 0)).setCell (p := ⟨w.heap.size + 1 + 1, 0, none⟩) (by simp; try omega) (.int .i64 (1))).setCell (p := ⟨w.heap.size + 1 + 1, 1, none⟩) (by simp; try omega) (.int .i64 (0))).setCell (p := ⟨w.heap.size + 1 + 1, 2, none⟩) (by simp; try omega) (.bool (false)))
        · rw [M.norm_yes he]
          have C1 := hide (C.out (lo, c - 1, false))
          simp only [decide_eq_false he] at C1
          have q9 : decide (c - 1 < lo) = false := decide_eq_false he
          clear C he
          go_enter Try.func53, Try.ntmps53
          go_wp2_with (go_at_call 67; refine (C1.out _).mono ?_; rintro e w1 ⟨rfl, hb1⟩; have kt := kept_three hb1; have c0 := kt.1.1; have c1 := kt.1.2.1; have c2 := kt.1.2.2; have d0 := kt.2.1.1; have d1 := kt.2.1.2.1; have d2 := kt.2.1.2.2; have f0 := kt.2.2.1 0; have f1 := kt.2.2.1 1; have f2 := kt.2.2.1 2; have g0 := kt.2.2.2 0; have g1 := kt.2.2.2 1; have g2 := kt.2.2.2 2; clear kt; have HB := hide (B0.out _ _ _ _ hb1); clear hb1)
          refine bodyPost_ret (v := .agg #[.int .i64 (lo), .int .i64 (c - 1), .bool (false)]) (by simp [results, Try.results53, go_sem, d0, d1, d2]) rfl ⟨rfl, ?_⟩
          exact (((HB.out.setCell (p := ⟨w.heap.size + 1 + 1, 0, none⟩) (by simp; try omega) (.int .i64 (lo))).setCell (p := ⟨w.heap.size + 1 + 1, 1, none⟩) (by simp; try omega) (.int .i64 (c - 1))).setCell (p := ⟨w.heap.size + 1 + 1, 2, none⟩) (by simp; try omega) (.bool (false)))
      · rw [if_neg hm]
        by_cases he : hi < lo
        · rw [M.norm_no he]
          have C1 := hide (C.out (lo, hi, false))
          simp only [decide_eq_true he] at C1
          have q9 : decide (hi < lo) = true := decide_eq_true he
          clear C he
          go_enter Try.func53, Try.ntmps53
          go_wp2_with (go_at_call 67; refine (C1.out _).mono ?_; rintro e w1 ⟨rfl, hb1⟩; have kt := kept_three hb1; have c0 := kt.1.1; have c1 := kt.1.2.1; have c2 := kt.1.2.2; have d0 := kt.2.1.1; have d1 := kt.2.1.2.1; have d2 := kt.2.1.2.2; have f0 := kt.2.2.1 0; have f1 := kt.2.2.1 1; have f2 := kt.2.2.1 2; have g0 := kt.2.2.2 0; have g1 := kt.2.2.2 1; have g2 := kt.2.2.2 2; clear kt; have HB := hide (B0.out _ _ _ _ hb1); clear hb1)
          refine bodyPost_ret (v := .agg #[.int .i64 (1), .int .i64 (0), .bool (false)]) (by simp [results, Try.results53, go_sem, d0, d1, d2]) rfl ⟨rfl, ?_⟩
          exact (((((HB.out.setCell (p := ⟨w.heap.size, 0, none⟩) (by simp; try omega) (.int .i64 1)).setCell (p := ⟨w.heap.size, 1, none⟩) (by simp; try omega) (.int .i64 0)).setCell (p := ⟨w.heap.size + 1 + 1, 0, none⟩) (by simp; try omega) (.int .i64 (1))).setCell (p := ⟨w.heap.size + 1 + 1, 1, none⟩) (by simp; try omega) (.int .i64 (0))).setCell (p := ⟨w.heap.size + 1 + 1, 2, none⟩) (by simp; try omega) (.bool (false)))
        · rw [M.norm_yes he]
          have C1 := hide (C.out (lo, hi, false))
          simp only [decide_eq_false he] at C1
          have q9 : decide (hi < lo) = false := decide_eq_false he
          clear C he
          go_enter Try.func53, Try.ntmps53
          go_wp2_with (go_at_call 67; refine (C1.out _).mono ?_; rintro e w1 ⟨rfl, hb1⟩; have kt := kept_three hb1; have c0 := kt.1.1; have c1 := kt.1.2.1; have c2 := kt.1.2.2; have d0 := kt.2.1.1; have d1 := kt.2.1.2.1; have d2 := kt.2.1.2.2; have f0 := kt.2.2.1 0; have f1 := kt.2.2.1 1; have f2 := kt.2.2.1 2; have g0 := kt.2.2.2 0; have g1 := kt.2.2.2 1; have g2 := kt.2.2.2 2; clear kt; have HB := hide (B0.out _ _ _ _ hb1); clear hb1)
          refine bodyPost_ret (v := .agg #[.int .i64 (lo), .int .i64 (hi), .bool (false)]) (by simp [results, Try.results53, go_sem, d0, d1, d2]) rfl ⟨rfl, ?_⟩
          exact (((HB.out.setCell (p := ⟨w.heap.size + 1 + 1, 0, none⟩) (by simp; try omega) (.int .i64 (lo))).setCell (p := ⟨w.heap.size + 1 + 1, 1, none⟩) (by simp; try omega) (.int .i64 (hi))).setCell (p := ⟨w.heap.size + 1 + 1, 2, none⟩) (by simp; try omega) (.bool (false)))
    | true =>
      rw [Bool.true_and]
      by_cases hm : c - 1 < hi
      · rw [if_pos hm]
        by_cases he : c - 1 < lo
        · rw [M.norm_no he]
          have C1 := hide (C.out (lo, c - 1, sl))
          simp only [decide_eq_true he] at C1
          have q9 : decide (c - 1 < lo) = true := decide_eq_true he
          clear C he
          go_enter Try.func53, Try.ntmps53
          go_wp2_with (go_at_call 67; refine (C1.out _).mono ?_; rintro e w1 ⟨rfl, hb1⟩; have kt := kept_three hb1; have c0 := kt.1.1; have c1 := kt.1.2.1; have c2 := kt.1.2.2; have d0 := kt.2.1.1; have d1 := kt.2.1.2.1; have d2 := kt.2.1.2.2; have f0 := kt.2.2.1 0; have f1 := kt.2.2.1 1; have f2 := kt.2.2.1 2; have g0 := kt.2.2.2 0; have g1 := kt.2.2.2 1; have g2 := kt.2.2.2 2; clear kt; have HB := hide (B0.out _ _ _ _ hb1); clear hb1)
          refine bodyPost_ret (v := .agg #[.int .i64 (1), .int .i64 (0), .bool (sl)]) (by simp [results, Try.results53, go_sem, d0, d1, d2]) rfl ⟨rfl, ?_⟩
          exact (((((HB.out.setCell (p := ⟨w.heap.size, 0, none⟩) (by simp; try omega) (.int .i64 1)).setCell (p := ⟨w.heap.size, 1, none⟩) (by simp; try omega) (.int .i64 0)).setCell (p := ⟨w.heap.size + 1 + 1, 0, none⟩) (by simp; try omega) (.int .i64 (1))).setCell (p := ⟨w.heap.size + 1 + 1, 1, none⟩) (by simp; try omega) (.int .i64 (0))).setCell (p := ⟨w.heap.size + 1 + 1, 2, none⟩) (by simp; try omega) (.bool (sl)))
        · rw [M.norm_yes he]
          have C1 := hide (C.out (lo, c - 1, sl))
          simp only [decide_eq_false he] at C1
          have q9 : decide (c - 1 < lo) = false := decide_eq_false he
          clear C he
          go_enter Try.func53, Try.ntmps53
          go_wp2_with (go_at_call 67; refine (C1.out _).mono ?_; rintro e w1 ⟨rfl, hb1⟩; have kt := kept_three hb1; have c0 := kt.1.1; have c1 := kt.1.2.1; have c2 := kt.1.2.2; have d0 := kt.2.1.1; have d1 := kt.2.1.2.1; have d2 := kt.2.1.2.2; have f0 := kt.2.2.1 0; have f1 := kt.2.2.1 1; have f2 := kt.2.2.1 2; have g0 := kt.2.2.2 0; have g1 := kt.2.2.2 1; have g2 := kt.2.2.2 2; clear kt; have HB := hide (B0.out _ _ _ _ hb1); clear hb1)
          refine bodyPost_ret (v := .agg #[.int .i64 (lo), .int .i64 (c - 1), .bool (sl)]) (by simp [results, Try.results53, go_sem, d0, d1, d2]) rfl ⟨rfl, ?_⟩
          exact (((HB.out.setCell (p := ⟨w.heap.size + 1 + 1, 0, none⟩) (by simp; try omega) (.int .i64 (lo))).setCell (p := ⟨w.heap.size + 1 + 1, 1, none⟩) (by simp; try omega) (.int .i64 (c - 1))).setCell (p := ⟨w.heap.size + 1 + 1, 2, none⟩) (by simp; try omega) (.bool (sl)))
      · rw [if_neg hm]
        by_cases he : hi < lo
        · rw [M.norm_no he]
          have C1 := hide (C.out (lo, hi, sl))
          simp only [decide_eq_true he] at C1
          have q9 : decide (hi < lo) = true := decide_eq_true he
          clear C he
          go_enter Try.func53, Try.ntmps53
          go_wp2_with (go_at_call 67; refine (C1.out _).mono ?_; rintro e w1 ⟨rfl, hb1⟩; have kt := kept_three hb1; have c0 := kt.1.1; have c1 := kt.1.2.1; have c2 := kt.1.2.2; have d0 := kt.2.1.1; have d1 := kt.2.1.2.1; have d2 := kt.2.1.2.2; have f0 := kt.2.2.1 0; have f1 := kt.2.2.1 1; have f2 := kt.2.2.1 2; have g0 := kt.2.2.2 0; have g1 := kt.2.2.2 1; have g2 := kt.2.2.2 2; clear kt; have HB := hide (B0.out _ _ _ _ hb1); clear hb1)
          refine bodyPost_ret (v := .agg #[.int .i64 (1), .int .i64 (0), .bool (sl)]) (by simp [results, Try.results53, go_sem, d0, d1, d2]) rfl ⟨rfl, ?_⟩
          exact (((((HB.out.setCell (p := ⟨w.heap.size, 0, none⟩) (by simp; try omega) (.int .i64 1)).setCell (p := ⟨w.heap.size, 1, none⟩) (by simp; try omega) (.int .i64 0)).setCell (p := ⟨w.heap.size + 1 + 1, 0, none⟩) (by simp; try omega) (.int .i64 (1))).setCell (p := ⟨w.heap.size + 1 + 1, 1, none⟩) (by simp; try omega) (.int .i64 (0))).setCell (p := ⟨w.heap.size + 1 + 1, 2, none⟩) (by simp; try omega) (.bool (sl)))
        · rw [M.norm_yes he]
          have C1 := hide (C.out (lo, hi, sl))
          simp only [decide_eq_false he] at C1
          have q9 : decide (hi < lo) = false := decide_eq_false he
          clear C he
          go_enter Try.func53, Try.ntmps53
          go_wp2_with (go_at_call 67; refine (C1.out _).mono ?_; rintro e w1 ⟨rfl, hb1⟩; have kt := kept_three hb1; have c0 := kt.1.1; have c1 := kt.1.2.1; have c2 := kt.1.2.2; have d0 := kt.2.1.1; have d1 := kt.2.1.2.1; have d2 := kt.2.1.2.2; have f0 := kt.2.2.1 0; have f1 := kt.2.2.1 1; have f2 := kt.2.2.1 2; have g0 := kt.2.2.2 0; have g1 := kt.2.2.2 1; have g2 := kt.2.2.2 2; clear kt; have HB := hide (B0.out _ _ _ _ hb1); clear hb1)
          refine bodyPost_ret (v := .agg #[.int .i64 (lo), .int .i64 (hi), .bool (sl)]) (by simp [results, Try.results53, go_sem, d0, d1, d2]) rfl ⟨rfl, ?_⟩
          exact (((HB.out.setCell (p := ⟨w.heap.size + 1 + 1, 0, none⟩) (by simp; try omega) (.int .i64 (lo))).setCell (p := ⟨w.heap.size + 1 + 1, 1, none⟩) (by simp; try omega) (.int .i64 (hi))).setCell (p := ⟨w.heap.size + 1 + 1, 2, none⟩) (by simp; try omega) (.bool (sl)))
  · have ql : (tt == l) = false := by rw [beq_eq_false_iff_ne]; exact fun h => hl h.symm
    rw [decide_eq_false hl]
    simp only [Bool.false_eq_true, if_false]
    clear hl
    cases nl with
    | false =>
      rw [Bool.false_and]
      by_cases hm : lo < c
      · rw [if_pos hm]
        by_cases he : hi < c
        · rw [M.norm_no he]
          have C1 := hide (C.out (c, hi, false))
          simp only [decide_eq_true he] at C1
          have q9 : decide (hi < c) = true := decide_eq_true he
          clear C he
          go_enter Try.func53, Try.ntmps53
          go_wp2_with (go_at_call 67; refine (C1.out _).mono ?_; rintro e w1 ⟨rfl, hb1⟩; have kt := kept_three hb1; have c0 := kt.1.1; have c1 := kt.1.2.1; have c2 := kt.1.2.2; have d0 := kt.2.1.1; have d1 := kt.2.1.2.1; have d2 := kt.2.1.2.2; have f0 := kt.2.2.1 0; have f1 := kt.2.2.1 1; have f2 := kt.2.2.1 2; have g0 := kt.2.2.2 0; have g1 := kt.2.2.2 1; have g2 := kt.2.2.2 2; clear kt; have HB := hide (B0.out _ _ _ _ hb1); clear hb1)
          refine bodyPost_ret (v := .agg #[.int .i64 (1), .int .i64 (0), .bool (false)]) (by simp [results, Try.results53, go_sem, d0, d1, d2]) rfl ⟨rfl, ?_⟩
          exact (((((HB.out.setCell (p := ⟨w.heap.size, 0, none⟩) (by simp; try omega) (.int .i64 1)).setCell (p := ⟨w.heap.size, 1, none⟩) (by simp; try omega) (.int .i64 0)).setCell (p := ⟨w.heap.size + 1 + 1, 0, none⟩) (by simp; try omega) (.int .i64 (1))).setCell (p := ⟨w.heap.size + 1 + 1, 1, none⟩) (by simp; try omega) (.int .i64 (0))).setCell (p := ⟨w.heap.size + 1 + 1, 2, none⟩) (by simp; try omega) (.bool (false)))
        · rw [M.norm_yes he]
          have C1 := hide (C.out (c, hi, false))
          simp only [decide_eq_false he] at C1
          have q9 : decide (hi < c) = false := decide_eq_false he
          clear C he
          go_enter Try.func53, Try.ntmps53
          go_wp2_with (go_at_call 67; refine (C1.out _).mono ?_; rintro e w1 ⟨rfl, hb1⟩; have kt := kept_three hb1; have c0 := kt.1.1; have c1 := kt.1.2.1; have c2 := kt.1.2.2; have d0 := kt.2.1.1; have d1 := kt.2.1.2.1; have d2 := kt.2.1.2.2; have f0 := kt.2.2.1 0; have f1 := kt.2.2.1 1; have f2 := kt.2.2.1 2; have g0 := kt.2.2.2 0; have g1 := kt.2.2.2 1; have g2 := kt.2.2.2 2; clear kt; have HB := hide (B0.out _ _ _ _ hb1); clear hb1)
          refine bodyPost_ret (v := .agg #[.int .i64 (c), .int .i64 (hi), .bool (false)]) (by simp [results, Try.results53, go_sem, d0, d1, d2]) rfl ⟨rfl, ?_⟩
          exact (((HB.out.setCell (p := ⟨w.heap.size + 1 + 1, 0, none⟩) (by simp; try omega) (.int .i64 (c))).setCell (p := ⟨w.heap.size + 1 + 1, 1, none⟩) (by simp; try omega) (.int .i64 (hi))).setCell (p := ⟨w.heap.size + 1 + 1, 2, none⟩) (by simp; try omega) (.bool (false)))
      · rw [if_neg hm]
        by_cases he : hi < lo
        · rw [M.norm_no he]
          have C1 := hide (C.out (lo, hi, false))
          simp only [decide_eq_true he] at C1
          have q9 : decide (hi < lo) = true := decide_eq_true he
          clear C he
          go_enter Try.func53, Try.ntmps53
          go_wp2_with (go_at_call 67; refine (C1.out _).mono ?_; rintro e w1 ⟨rfl, hb1⟩; have kt := kept_three hb1; have c0 := kt.1.1; have c1 := kt.1.2.1; have c2 := kt.1.2.2; have d0 := kt.2.1.1; have d1 := kt.2.1.2.1; have d2 := kt.2.1.2.2; have f0 := kt.2.2.1 0; have f1 := kt.2.2.1 1; have f2 := kt.2.2.1 2; have g0 := kt.2.2.2 0; have g1 := kt.2.2.2 1; have g2 := kt.2.2.2 2; clear kt; have HB := hide (B0.out _ _ _ _ hb1); clear hb1)
          refine bodyPost_ret (v := .agg #[.int .i64 (1), .int .i64 (0), .bool (false)]) (by simp [results, Try.results53, go_sem, d0, d1, d2]) rfl ⟨rfl, ?_⟩
          exact (((((HB.out.setCell (p := ⟨w.heap.size, 0, none⟩) (by simp; try omega) (.int .i64 1)).setCell (p := ⟨w.heap.size, 1, none⟩) (by simp; try omega) (.int .i64 0)).setCell (p := ⟨w.heap.size + 1 + 1, 0, none⟩) (by simp; try omega) (.int .i64 (1))).setCell (p := ⟨w.heap.size + 1 + 1, 1, none⟩) (by simp; try omega) (.int .i64 (0))).setCell (p := ⟨w.heap.size + 1 + 1, 2, none⟩) (by simp; try omega) (.bool (false)))
        · rw [M.norm_yes he]
          have C1 := hide (C.out (lo, hi, false))
          simp only [decide_eq_false he] at C1
          have q9 : decide (hi < lo) = false := decide_eq_false he
          clear C he
          go_enter Try.func53, Try.ntmps53
          go_wp2_with (go_at_call 67; refine (C1.out _).mono ?_; rintro e w1 ⟨rfl, hb1⟩; have kt := kept_three hb1; have c0 := kt.1.1; have c1 := kt.1.2.1; have c2 := kt.1.2.2; have d0 := kt.2.1.1; have d1 := kt.2.1.2.1; have d2 := kt.2.1.2.2; have f0 := kt.2.2.1 0; have f1 := kt.2.2.1 1; have f2 := kt.2.2.1 2; have g0 := kt.2.2.2 0; have g1 := kt.2.2.2 1; have g2 := kt.2.2.2 2; clear kt; have HB := hide (B0.out _ _ _ _ hb1); clear hb1)
          refine bodyPost_ret (v := .agg #[.int .i64 (lo), .int .i64 (hi), .bool (false)]) (by simp [results, Try.results53, go_sem, d0, d1, d2]) rfl ⟨rfl, ?_⟩
          exact (((HB.out.setCell (p := ⟨w.heap.size + 1 + 1, 0, none⟩) (by simp; try omega) (.int .i64 (lo))).setCell (p := ⟨w.heap.size + 1 + 1, 1, none⟩) (by simp; try omega) (.int .i64 (hi))).setCell (p := ⟨w.heap.size + 1 + 1, 2, none⟩) (by simp; try omega) (.bool (false)))
    | true =>
      rw [Bool.true_and]
      by_cases hm : lo < c
      · rw [if_pos hm]
        by_cases he : hi < c
        · rw [M.norm_no he]
          have C1 := hide (C.out (c, hi, !sl))
          simp only [decide_eq_true he] at C1
          have q9 : decide (hi < c) = true := decide_eq_true he
          clear C he
          go_enter Try.func53, Try.ntmps53
          go_wp2_with (go_at_call 67; refine (C1.out _).mono ?_; rintro e w1 ⟨rfl, hb1⟩; have kt := kept_three hb1; have c0 := kt.1.1; have c1 := kt.1.2.1; have c2 := kt.1.2.2; have d0 := kt.2.1.1; have d1 := kt.2.1.2.1; have d2 := kt.2.1.2.2; have f0 := kt.2.2.1 0; have f1 := kt.2.2.1 1; have f2 := kt.2.2.1 2; have g0 := kt.2.2.2 0; have g1 := kt.2.2.2 1; have g2 := kt.2.2.2 2; clear kt; have HB := hide (B0.out _ _ _ _ hb1); clear hb1)
          refine bodyPost_ret (v := .agg #[.int .i64 (1), .int .i64 (0), .bool (!sl)]) (by simp [results, Try.results53, go_sem, d0, d1, d2]) rfl ⟨rfl, ?_⟩
          exact (((((HB.out.setCell (p := ⟨w.heap.size, 0, none⟩) (by simp; try omega) (.int .i64 1)).setCell (p := ⟨w.heap.size, 1, none⟩) (by simp; try omega) (.int .i64 0)).setCell (p := ⟨w.heap.size + 1 + 1, 0, none⟩) (by simp; try omega) (.int .i64 (1))).setCell (p := ⟨w.heap.size + 1 + 1, 1, none⟩) (by simp; try omega) (.int .i64 (0))).setCell (p := ⟨w.heap.size + 1 + 1, 2, none⟩) (by simp; try omega) (.bool (!sl)))
        · rw [M.norm_yes he]
          have C1 := hide (C.out (c, hi, !sl))
          simp only [decide_eq_false he] at C1
          have q9 : decide (hi < c) = false := decide_eq_false he
          clear C he
          go_enter Try.func53, Try.ntmps53
          go_wp2_with (go_at_call 67; refine (C1.out _).mono ?_; rintro e w1 ⟨rfl, hb1⟩; have kt := kept_three hb1; have c0 := kt.1.1; have c1 := kt.1.2.1; have c2 := kt.1.2.2; have d0 := kt.2.1.1; have d1 := kt.2.1.2.1; have d2 := kt.2.1.2.2; have f0 := kt.2.2.1 0; have f1 := kt.2.2.1 1; have f2 := kt.2.2.1 2; have g0 := kt.2.2.2 0; have g1 := kt.2.2.2 1; have g2 := kt.2.2.2 2; clear kt; have HB := hide (B0.out _ _ _ _ hb1); clear hb1)
          refine bodyPost_ret (v := .agg #[.int .i64 (c), .int .i64 (hi), .bool (!sl)]) (by simp [results, Try.results53, go_sem, d0, d1, d2]) rfl ⟨rfl, ?_⟩
          exact (((HB.out.setCell (p := ⟨w.heap.size + 1 + 1, 0, none⟩) (by simp; try omega) (.int .i64 (c))).setCell (p := ⟨w.heap.size + 1 + 1, 1, none⟩) (by simp; try omega) (.int .i64 (hi))).setCell (p := ⟨w.heap.size + 1 + 1, 2, none⟩) (by simp; try omega) (.bool (!sl)))
      · rw [if_neg hm]
        by_cases he : hi < lo
        · rw [M.norm_no he]
          have C1 := hide (C.out (lo, hi, !sl))
          simp only [decide_eq_true he] at C1
          have q9 : decide (hi < lo) = true := decide_eq_true he
          clear C he
          go_enter Try.func53, Try.ntmps53
          go_wp2_with (go_at_call 67; refine (C1.out _).mono ?_; rintro e w1 ⟨rfl, hb1⟩; have kt := kept_three hb1; have c0 := kt.1.1; have c1 := kt.1.2.1; have c2 := kt.1.2.2; have d0 := kt.2.1.1; have d1 := kt.2.1.2.1; have d2 := kt.2.1.2.2; have f0 := kt.2.2.1 0; have f1 := kt.2.2.1 1; have f2 := kt.2.2.1 2; have g0 := kt.2.2.2 0; have g1 := kt.2.2.2 1; have g2 := kt.2.2.2 2; clear kt; have HB := hide (B0.out _ _ _ _ hb1); clear hb1)
          refine bodyPost_ret (v := .agg #[.int .i64 (1), .int .i64 (0), .bool (!sl)]) (by simp [results, Try.results53, go_sem, d0, d1, d2]) rfl ⟨rfl, ?_⟩
          exact (((((HB.out.setCell (p := ⟨w.heap.size, 0, none⟩) (by simp; try omega) (.int .i64 1)).setCell (p := ⟨w.heap.size, 1, none⟩) (by simp; try omega) (.int .i64 0)).setCell (p := ⟨w.heap.size + 1 + 1, 0, none⟩) (by simp; try omega) (.int .i64 (1))).setCell (p := ⟨w.heap.size + 1 + 1, 1, none⟩) (by simp; try omega) (.int .i64 (0))).setCell (p := ⟨w.heap.size + 1 + 1, 2, none⟩) (by simp; try omega) (.bool (!sl)))
        · rw [M.norm_yes he]
          have C1 := hide (C.out (lo, hi, !sl))
          simp only [decide_eq_false he] at C1
          have q9 : decide (hi < lo) = false := decide_eq_false he
          clear C he
          go_enter Try.func53, Try.ntmps53
          go_wp2_with (go_at_call 67; refine (C1.out _).mono ?_; rintro e w1 ⟨rfl, hb1⟩; have kt := kept_three hb1; have c0 := kt.1.1; have c1 := kt.1.2.1; have c2 := kt.1.2.2; have d0 := kt.2.1.1; have d1 := kt.2.1.2.1; have d2 := kt.2.1.2.2; have f0 := kt.2.2.1 0; have f1 := kt.2.2.1 1; have f2 := kt.2.2.1 2; have g0 := kt.2.2.2 0; have g1 := kt.2.2.2 1; have g2 := kt.2.2.2 2; clear kt; have HB := hide (B0.out _ _ _ _ hb1); clear hb1)
          refine bodyPost_ret (v := .agg #[.int .i64 (lo), .int .i64 (hi), .bool (!sl)]) (by simp [results, Try.results53, go_sem, d0, d1, d2]) rfl ⟨rfl, ?_⟩
          exact (((HB.out.setCell (p := ⟨w.heap.size + 1 + 1, 0, none⟩) (by simp; try omega) (.int .i64 (lo))).setCell (p := ⟨w.heap.size + 1 + 1, 1, none⟩) (by simp; try omega) (.int .i64 (hi))).setCell (p := ⟨w.heap.size + 1 + 1, 2, none⟩) (by simp; try omega) (.bool (!sl)))

end Go.Proofs.Ythbeoaninipadaf
