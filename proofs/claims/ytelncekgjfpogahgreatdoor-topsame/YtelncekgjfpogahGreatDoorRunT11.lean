/-
  Several texts as one: Spans, PSmall, PHas, PruneP, MathCb.
-/
import Derived.Test.YtelncekgjfpogahGreatDoorRunT1
import Derived.Test.YtelncekgjfpogahGreatDoorRunT3
import Derived.Test.YtelncekgjfpogahGreatDoorRunT4
import Derived.Test.YtelncekgjfpogahGreatDoorRunT10
import Derived.RegionTactic
import Derived.Deep.RegionWith
import Derived.Deep.Cut
import Derived.Deep.CutRange
import Derived.Deep.QuietTactic
import Derived.Test.YtelncekgjfpogahGreatDoorRunT9
import Derived.Test.YtelncekgjfpogahGreatDoorRunT0
namespace Go.Proofs.YtelncekgjfpogahGreatDoor
open Go.ChangeShapes Go.WideShapes Go.ChangeAt Go.RowKit
set_option linter.unusedVariables false
def spV (s : M.Sp) : Value := .agg #[.int .i64 s.1, .int .i64 s.2.1, .bool s.2.2]
def RdS (w : World) (a : Option Addr) (ss : List M.Sp) : Prop :=
  ss.length ≤ maxLen ∧ (ss ≠ [] → ∃ b off, a = some ⟨b, off, none⟩ ∧ b < w.heap.size ∧ ∀ i, i < ss.length →
    w.cell? ⟨b, off + i * 3, none⟩ = some (.int .i64 (ss.getD i (0, 0, false)).1) ∧ w.cell? ⟨b, off + i * 3 + 1, none⟩ = some (.int .i64 (ss.getD i (0, 0, false)).2.1) ∧ w.cell? ⟨b, off + i * 3 + 2, none⟩ = some (.bool (ss.getD i (0, 0, false)).2.2))
theorem RdS.below {w w' : World} {a : Option Addr} {ss : List M.Sp} (h : RdS w a ss) (hb : Below w.heap.size w w') : RdS w' a ss :=
  ⟨h.1, fun hn => by
    obtain ⟨b, off, e, hl, hc⟩ := h.2 hn
    refine ⟨b, off, e, Nat.lt_of_lt_of_le hl hb.size, fun i hi => ?_⟩
    obtain ⟨h1, h2, h3⟩ := hc i hi
    exact ⟨(hb.cell (p := ⟨b, off + i * 3, none⟩) hl).trans h1, (hb.cell (p := ⟨b, off + i * 3 + 1, none⟩) hl).trans h2, (hb.cell (p := ⟨b, off + i * 3 + 2, none⟩) hl).trans h3⟩⟩
def spCells (ss : List M.Sp) : List Value := ss.flatMap fun s => [.int .i64 s.1, .int .i64 s.2.1, .bool s.2.2]
theorem spCells_snoc (ss : List M.Sp) (s : M.Sp) : spCells (ss ++ [s]) = spCells ss ++ [.int .i64 s.1, .int .i64 s.2.1, .bool s.2.2] := by simp [spCells]
theorem spCells_at : ∀ (ss : List M.Sp) (i : Nat), i < ss.length → (spCells ss)[i * 3]? = some (.int .i64 (ss.getD i (0, 0, false)).1) ∧ (spCells ss)[i * 3 + 1]? = some (.int .i64 (ss.getD i (0, 0, false)).2.1) ∧ (spCells ss)[i * 3 + 2]? = some (.bool (ss.getD i (0, 0, false)).2.2)
  | [], i, h => by simp at h
  | s :: t, 0, h => ⟨rfl, rfl, rfl⟩
  | s :: t, i + 1, h => by
    have := spCells_at t i (by simpa using h)
    have e : spCells (s :: t) = .int .i64 s.1 :: .int .i64 s.2.1 :: .bool s.2.2 :: spCells t := rfl
    rw [e, show (i + 1) * 3 = i * 3 + 1 + 1 + 1 by omega]
    simpa using this
theorem own_rdS {w : World} {base n : Nat} {v : Value} {ss : List M.Sp} (hn : ss.length = n) (hm : n ≤ maxLen) (h : w.ownsRow base 63 3 v n (spCells ss)) : ∃ a cap, v = .slice a n cap ∧ RdS w a ss := by
  subst hn
  rcases h.2 with ⟨hv, h0⟩ | ⟨g, cap, cur, hv, hb, hg, h1, h2, h3, h4⟩
  · have e : ss = [] := List.length_eq_zero_iff.1 h0
    subst e
    exact ⟨none, 0, hv, ⟨Nat.zero_le _, fun h => absurd rfl h⟩⟩
  · subst hv
    refine ⟨_, cap, rfl, ⟨hm, fun _ => ⟨g, 0, rfl, (Array.getElem?_eq_some_iff.1 hg).1, fun i hi => ?_⟩⟩⟩
    obtain ⟨q0, q1, q2⟩ := spCells_at ss i hi
    rw [Nat.zero_add]
    exact ⟨(h.cellAt (i * 3) (by omega)).trans q0, (h.cellAt (i * 3 + 1) (by omega)).trans q1, (h.cellAt (i * 3 + 2) (by omega)).trans q2⟩
theorem info33 : (Tryz.prog.info? 63).map (fun i => (i.zero, i.size, i.bytes)) = some (some (.agg #[.int .i64 0, .int .i64 0, .bool false]), 3, 24) := by kernel_rfl
theorem spCells_set : ∀ (ss : List M.Sp) (i : Nat) (s : M.Sp), (((spCells ss).set (i * 3) (.int .i64 s.1)).set (i * 3 + 1) (.int .i64 s.2.1)).set (i * 3 + 2) (.bool s.2.2) = spCells (ss.set i s)
  | [], i, s => by simp [spCells]
  | x :: t, 0, s => rfl
  | x :: t, i + 1, s => by
    have e : spCells (x :: t) = .int .i64 x.1 :: .int .i64 x.2.1 :: .bool x.2.2 :: spCells t := rfl
    have e2 : spCells ((x :: t).set (i + 1) s) = .int .i64 x.1 :: .int .i64 x.2.1 :: .bool x.2.2 :: spCells (t.set i s) := rfl
    rw [e, e2, ← spCells_set t i s, show (i + 1) * 3 = i * 3 + 1 + 1 + 1 by omega]
    rfl
theorem own_setS {w : World} {base n g cap : Nat} {ss : List M.Sp} (h : w.ownsRow base 63 3 (.slice (some ⟨g, 0, none⟩) n cap) n (spCells ss)) (i : Nat) (s : M.Sp) :
    (((w.setCell ⟨g, i * 3, none⟩ (.int .i64 s.1)).setCell ⟨g, i * 3 + 1, none⟩ (.int .i64 s.2.1)).setCell ⟨g, i * 3 + 2, none⟩ (.bool s.2.2)).ownsRow base 63 3 (.slice (some ⟨g, 0, none⟩) n cap) n (spCells (ss.set i s)) := by
  have h1 := (h.stored (i * 3) (.int .i64 s.1)).1
  have h2 := (h1.stored (i * 3 + 1) (.int .i64 s.2.1)).1
  have h3 := (h2.stored (i * 3 + 2) (.bool s.2.2)).1
  rw [spCells_set] at h3
  exact h3
end Go.Proofs.YtelncekgjfpogahGreatDoor

namespace Go.Proofs.YtelncekgjfpogahGreatDoor
open Go.ChangeShapes Go.WideShapes Go.ChangeAt Go.RowKit Go.Lib
set_option linter.unusedVariables false
theorem nonum_any (s : M.Sp) (w : World) : Calls Tryz.prog 148 #[spV s] w fun e w' => e = .returned (.bool (decide (s.2.1 < s.1))) ∧ Below w.heap.size w w' := by
  obtain ⟨lo, hi, n⟩ := s
  show Calls Tryz.prog 148 #[.agg #[.int .i64 lo, .int .i64 hi, .bool n]] w fun e w' => e = .returned (.bool (decide (hi < lo))) ∧ Below w.heap.size w w'
  go_enter Tryz.func148, Tryz.ntmps148
  go_wp2
  go_ret
  exact ⟨rfl, (Below.refl _ _).alloc (Nat.le_refl _) _⟩
theorem M.has_no (s : M.Sp) : (!M.hasS s) = (decide (s.2.1 < s.1) && !s.2.2) := by
  unfold M.hasS
  by_cases h : s.2.1 < s.1
  · rw [decide_eq_true h, decide_eq_false (show ¬ s.1 ≤ s.2.1 by omega)]; simp
  · rw [decide_eq_false h, decide_eq_true (show s.1 ≤ s.2.1 by omega)]; simp
theorem nothing_any (s : M.Sp) (w : World) : Calls Tryz.prog 130 #[spV s] w fun e w' => e = .returned (.bool (!M.hasS s)) ∧ Below w.heap.size w w' := by
  rw [M.has_no]
  obtain ⟨lo, hi, n⟩ := s
  have C := hide (nonum_any (lo, hi, n))
  unfold spV at C
  show Calls Tryz.prog 130 #[.agg #[.int .i64 lo, .int .i64 hi, .bool n]] w fun e w' => e = .returned (.bool (decide (hi < lo) && !n)) ∧ Below w.heap.size w w'
  have B0 : Hid (∀ o W, Below (w.alloc o).heap.size (w.alloc o) W → Below w.heap.size w W) := fun o W hW => below_on ((Below.refl _ w).alloc (Nat.le_refl _) o) hW
  cases hd : decide (hi < lo) with
  | true =>
    simp only [hd] at C
    clear hd
    have CL : Hid (∀ O W, Below (w.alloc O).heap.size (w.alloc O) W → W.cell? ⟨w.heap.size, 2, none⟩ = (w.alloc O).cell? ⟨w.heap.size, 2, none⟩) := fun O W hW => hW.cell (p := ⟨w.heap.size, 2, none⟩) (by simp)
    cases n <;>
      (go_enter Tryz.func130, Tryz.ntmps130
       go_wp2_with (go_at_call 148; refine (C.out _).mono ?_; rintro e w1 ⟨rfl, hb1⟩; have c1 := CL.out _ _ hb1; rw [World.cell?_alloc_at _ _ _ 2 rfl] at c1; simp at c1)
       go_ret
       exact ⟨rfl, B0.out _ _ hb1⟩)
  | false =>
    simp only [hd] at C
    clear hd
    go_enter Tryz.func130, Tryz.ntmps130
    go_wp2_with (go_at_call 148; refine (C.out _).mono ?_; rintro e w1 ⟨rfl, hb1⟩)
    go_ret
    exact ⟨rfl, B0.out _ _ hb1⟩
theorem M.norm_no {s : M.Sp} (h : s.2.1 < s.1) : M.norm s = (1, 0, s.2.2) := by unfold M.norm; rw [if_pos h]
theorem M.norm_yes {s : M.Sp} (h : ¬ s.2.1 < s.1) : M.norm s = s := by unfold M.norm; rw [if_neg h]
theorem kept_three {w W : World} {a0 a1 a2 z0 z1 z2 : Value} {t u : TypeId} {o2 : Obj} (h : Below (((w.alloc (.cells #[a0, a1, a2] t)).alloc o2).alloc (.cells #[z0, z1, z2] u)).heap.size (((w.alloc (.cells #[a0, a1, a2] t)).alloc o2).alloc (.cells #[z0, z1, z2] u)) W) :
    (W.cell? ⟨w.heap.size, 0, none⟩ = some a0 ∧ W.cell? ⟨w.heap.size, 1, none⟩ = some a1 ∧ W.cell? ⟨w.heap.size, 2, none⟩ = some a2) ∧ (W.cell? ⟨w.heap.size + 1 + 1, 0, none⟩ = some z0 ∧ W.cell? ⟨w.heap.size + 1 + 1, 1, none⟩ = some z1 ∧ W.cell? ⟨w.heap.size + 1 + 1, 2, none⟩ = some z2) ∧
    (∀ j, W.frozen? ⟨w.heap.size, j, none⟩ = false) ∧ ∀ j, W.frozen? ⟨w.heap.size + 1 + 1, j, none⟩ = false := by
  have h1 : W.heap[w.heap.size]? = some (.cells #[a0, a1, a2] t) := by
    rw [h.block w.heap.size (by simp; omega), (((Below.refl _ (w.alloc (.cells #[a0, a1, a2] t))).alloc (Nat.le_refl _) o2).alloc (by simp) (.cells #[z0, z1, z2] u)).block w.heap.size (by simp)]
    exact heap_alloc_new _ _
  have h2 : W.heap[w.heap.size + 1 + 1]? = some (.cells #[z0, z1, z2] u) := by
    rw [h.block (w.heap.size + 1 + 1) (by simp)]
    have e := heap_alloc_new ((w.alloc (.cells #[a0, a1, a2] t)).alloc o2) (.cells #[z0, z1, z2] u)
    have q : ((w.alloc (.cells #[a0, a1, a2] t)).alloc o2).heap.size = w.heap.size + 1 + 1 := by simp
    rw [q] at e
    exact e
  refine ⟨⟨?_, ?_, ?_⟩, ⟨?_, ?_, ?_⟩, ?_, ?_⟩ <;> simp [World.cell?, World.frozen?, h1, h2]
set_option maxHeartbeats 8000000 in
set_option maxRecDepth 10000 in
theorem narrow_any (s : M.Sp) (n : M.Nd) (tt : Int) (w : World) (hc : M.outI (M.nc n) = false) :
    Calls Tryz.prog 133 #[spV s, ndV n, .int .i64 tt] w fun e w' => e = .returned (spV (M.norm (M.narrow n (decide (M.nl n = tt)) s))) ∧ Below w.heap.size w w' := by
  have hq := M.out_false hc
  have C := hide nonum_any
  unfold M.narrow
  unfold spV at C ⊢
  unfold ndV
  obtain ⟨lo, hi, nl⟩ := s
  clear hc
  generalize M.nf n = f at *
  generalize M.nc n = c at *
  generalize M.nl n = l at *
  generalize M.nr n = r at *
  generalize M.ns n = sl at *
  generalize M.nv n = v at *
  obtain ⟨hc1, hc2⟩ := hq
  have B0 : Hid (∀ o1 o2 o3 W, Below (((w.alloc o1).alloc o2).alloc o3).heap.size (((w.alloc o1).alloc o2).alloc o3) W → Below w.heap.size w W) := fun o1 o2 o3 W hW => below_on ((((Below.refl _ w).alloc (Nat.le_refl _) o1).alloc (by simp) o2).alloc (by simp; omega) o3) hW
  by_cases hl : l = tt
  · have ql : (tt == l) = true := by rw [beq_iff_eq]; exact hl.symm
    rw [decide_eq_true hl]
    simp only [if_true]
    clear hl
    cases nl with
    | false =>
      rw [Bool.false_and]
      by_cases hm : c - 1 < hi
      · rw [if_pos hm]
        by_cases he : c - 1 < lo
        · rw [M.norm_no he]
          have C1 := hide (C.out (lo, c - 1, false))
          simp only [decide_eq_true he] at C1
          have q9 : decide (c - 1 < lo) = true := decide_eq_true he
          clear C he
          go_enter Tryz.func133, Tryz.ntmps133
          go_wp2_with (go_at_call 148; refine (C1.out _).mono ?_; rintro e w1 ⟨rfl, hb1⟩; have kt := kept_three hb1; have c0 := kt.1.1; have c1 := kt.1.2.1; have c2 := kt.1.2.2; have d0 := kt.2.1.1; have d1 := kt.2.1.2.1; have d2 := kt.2.1.2.2; have f0 := kt.2.2.1 0; have f1 := kt.2.2.1 1; have f2 := kt.2.2.1 2; have g0 := kt.2.2.2 0; have g1 := kt.2.2.2 1; have g2 := kt.2.2.2 2; clear kt; have HB := hide (B0.out _ _ _ _ hb1); clear hb1)
          refine bodyPost_ret (v := .agg #[.int .i64 (1), .int .i64 (0), .bool (false)]) (by simp [results, Tryz.results133, go_sem, d0, d1, d2]) rfl ⟨rfl, ?_⟩
          exact (((((HB.out.setCell (p := ⟨w.heap.size, 0, none⟩) (by simp; try omega) (.int .i64 1)).setCell (p := ⟨w.heap.size, 1, none⟩) (by simp; try omega) (.int .i64 0)).setCell (p := ⟨w.heap.size + 1 + 1, 0, none⟩) (by simp; try omega) (.int .i64 (1))).setCell (p := ⟨w.heap.size + 1 + 1, 1, none⟩) (by simp; try omega) (.int .i64 (0))).setCell (p := ⟨w.heap.size + 1 + 1, 2, none⟩) (by simp; try omega) (.bool (false)))
        · rw [M.norm_yes he]
          have C1 := hide (C.out (lo, c - 1, false))
          simp only [decide_eq_false he] at C1
          have q9 : decide (c - 1 < lo) = false := decide_eq_false he
          clear C he
          go_enter Tryz.func133, Tryz.ntmps133
          go_wp2_with (go_at_call 148; refine (C1.out _).mono ?_; rintro e w1 ⟨rfl, hb1⟩; have kt := kept_three hb1; have c0 := kt.1.1; have c1 := kt.1.2.1; have c2 := kt.1.2.2; have d0 := kt.2.1.1; have d1 := kt.2.1.2.1; have d2 := kt.2.1.2.2; have f0 := kt.2.2.1 0; have f1 := kt.2.2.1 1; have f2 := kt.2.2.1 2; have g0 := kt.2.2.2 0; have g1 := kt.2.2.2 1; have g2 := kt.2.2.2 2; clear kt; have HB := hide (B0.out _ _ _ _ hb1); clear hb1)
          refine bodyPost_ret (v := .agg #[.int .i64 (lo), .int .i64 (c - 1), .bool (false)]) (by simp [results, Tryz.results133, go_sem, d0, d1, d2]) rfl ⟨rfl, ?_⟩
          exact (((HB.out.setCell (p := ⟨w.heap.size + 1 + 1, 0, none⟩) (by simp; try omega) (.int .i64 (lo))).setCell (p := ⟨w.heap.size + 1 + 1, 1, none⟩) (by simp; try omega) (.int .i64 (c - 1))).setCell (p := ⟨w.heap.size + 1 + 1, 2, none⟩) (by simp; try omega) (.bool (false)))
      · rw [if_neg hm]
        by_cases he : hi < lo
        · rw [M.norm_no he]
          have C1 := hide (C.out (lo, hi, false))
          simp only [decide_eq_true he] at C1
          have q9 : decide (hi < lo) = true := decide_eq_true he
          clear C he
          go_enter Tryz.func133, Tryz.ntmps133
          go_wp2_with (go_at_call 148; refine (C1.out _).mono ?_; rintro e w1 ⟨rfl, hb1⟩; have kt := kept_three hb1; have c0 := kt.1.1; have c1 := kt.1.2.1; have c2 := kt.1.2.2; have d0 := kt.2.1.1; have d1 := kt.2.1.2.1; have d2 := kt.2.1.2.2; have f0 := kt.2.2.1 0; have f1 := kt.2.2.1 1; have f2 := kt.2.2.1 2; have g0 := kt.2.2.2 0; have g1 := kt.2.2.2 1; have g2 := kt.2.2.2 2; clear kt; have HB := hide (B0.out _ _ _ _ hb1); clear hb1)
          refine bodyPost_ret (v := .agg #[.int .i64 (1), .int .i64 (0), .bool (false)]) (by simp [results, Tryz.results133, go_sem, d0, d1, d2]) rfl ⟨rfl, ?_⟩
          exact (((((HB.out.setCell (p := ⟨w.heap.size, 0, none⟩) (by simp; try omega) (.int .i64 1)).setCell (p := ⟨w.heap.size, 1, none⟩) (by simp; try omega) (.int .i64 0)).setCell (p := ⟨w.heap.size + 1 + 1, 0, none⟩) (by simp; try omega) (.int .i64 (1))).setCell (p := ⟨w.heap.size + 1 + 1, 1, none⟩) (by simp; try omega) (.int .i64 (0))).setCell (p := ⟨w.heap.size + 1 + 1, 2, none⟩) (by simp; try omega) (.bool (false)))
        · rw [M.norm_yes he]
          have C1 := hide (C.out (lo, hi, false))
          simp only [decide_eq_false he] at C1
          have q9 : decide (hi < lo) = false := decide_eq_false he
          clear C he
          go_enter Tryz.func133, Tryz.ntmps133
          go_wp2_with (go_at_call 148; refine (C1.out _).mono ?_; rintro e w1 ⟨rfl, hb1⟩; have kt := kept_three hb1; have c0 := kt.1.1; have c1 := kt.1.2.1; have c2 := kt.1.2.2; have d0 := kt.2.1.1; have d1 := kt.2.1.2.1; have d2 := kt.2.1.2.2; have f0 := kt.2.2.1 0; have f1 := kt.2.2.1 1; have f2 := kt.2.2.1 2; have g0 := kt.2.2.2 0; have g1 := kt.2.2.2 1; have g2 := kt.2.2.2 2; clear kt; have HB := hide (B0.out _ _ _ _ hb1); clear hb1)
          refine bodyPost_ret (v := .agg #[.int .i64 (lo), .int .i64 (hi), .bool (false)]) (by simp [results, Tryz.results133, go_sem, d0, d1, d2]) rfl ⟨rfl, ?_⟩
          exact (((HB.out.setCell (p := ⟨w.heap.size + 1 + 1, 0, none⟩) (by simp; try omega) (.int .i64 (lo))).setCell (p := ⟨w.heap.size + 1 + 1, 1, none⟩) (by simp; try omega) (.int .i64 (hi))).setCell (p := ⟨w.heap.size + 1 + 1, 2, none⟩) (by simp; try omega) (.bool (false)))
    | true =>
      rw [Bool.true_and]
      by_cases hm : c - 1 < hi
      · rw [if_pos hm]
        by_cases he : c - 1 < lo
        · rw [M.norm_no he]
          have C1 := hide (C.out (lo, c - 1, sl))
          simp only [decide_eq_true he] at C1
          have q9 : decide (c - 1 < lo) = true := decide_eq_true he
          clear C he
          go_enter Tryz.func133, Tryz.ntmps133
          go_wp2_with (go_at_call 148; refine (C1.out _).mono ?_; rintro e w1 ⟨rfl, hb1⟩; have kt := kept_three hb1; have c0 := kt.1.1; have c1 := kt.1.2.1; have c2 := kt.1.2.2; have d0 := kt.2.1.1; have d1 := kt.2.1.2.1; have d2 := kt.2.1.2.2; have f0 := kt.2.2.1 0; have f1 := kt.2.2.1 1; have f2 := kt.2.2.1 2; have g0 := kt.2.2.2 0; have g1 := kt.2.2.2 1; have g2 := kt.2.2.2 2; clear kt; have HB := hide (B0.out _ _ _ _ hb1); clear hb1)
          refine bodyPost_ret (v := .agg #[.int .i64 (1), .int .i64 (0), .bool (sl)]) (by simp [results, Tryz.results133, go_sem, d0, d1, d2]) rfl ⟨rfl, ?_⟩
          exact (((((HB.out.setCell (p := ⟨w.heap.size, 0, none⟩) (by simp; try omega) (.int .i64 1)).setCell (p := ⟨w.heap.size, 1, none⟩) (by simp; try omega) (.int .i64 0)).setCell (p := ⟨w.heap.size + 1 + 1, 0, none⟩) (by simp; try omega) (.int .i64 (1))).setCell (p := ⟨w.heap.size + 1 + 1, 1, none⟩) (by simp; try omega) (.int .i64 (0))).setCell (p := ⟨w.heap.size + 1 + 1, 2, none⟩) (by simp; try omega) (.bool (sl)))
        · rw [M.norm_yes he]
          have C1 := hide (C.out (lo, c - 1, sl))
          simp only [decide_eq_false he] at C1
          have q9 : decide (c - 1 < lo) = false := decide_eq_false he
          clear C he
          go_enter Tryz.func133, Tryz.ntmps133
          go_wp2_with (go_at_call 148; refine (C1.out _).mono ?_; rintro e w1 ⟨rfl, hb1⟩; have kt := kept_three hb1; have c0 := kt.1.1; have c1 := kt.1.2.1; have c2 := kt.1.2.2; have d0 := kt.2.1.1; have d1 := kt.2.1.2.1; have d2 := kt.2.1.2.2; have f0 := kt.2.2.1 0; have f1 := kt.2.2.1 1; have f2 := kt.2.2.1 2; have g0 := kt.2.2.2 0; have g1 := kt.2.2.2 1; have g2 := kt.2.2.2 2; clear kt; have HB := hide (B0.out _ _ _ _ hb1); clear hb1)
          refine bodyPost_ret (v := .agg #[.int .i64 (lo), .int .i64 (c - 1), .bool (sl)]) (by simp [results, Tryz.results133, go_sem, d0, d1, d2]) rfl ⟨rfl, ?_⟩
          exact (((HB.out.setCell (p := ⟨w.heap.size + 1 + 1, 0, none⟩) (by simp; try omega) (.int .i64 (lo))).setCell (p := ⟨w.heap.size + 1 + 1, 1, none⟩) (by simp; try omega) (.int .i64 (c - 1))).setCell (p := ⟨w.heap.size + 1 + 1, 2, none⟩) (by simp; try omega) (.bool (sl)))
      · rw [if_neg hm]
        by_cases he : hi < lo
        · rw [M.norm_no he]
          have C1 := hide (C.out (lo, hi, sl))
          simp only [decide_eq_true he] at C1
          have q9 : decide (hi < lo) = true := decide_eq_true he
          clear C he
          go_enter Tryz.func133, Tryz.ntmps133
          go_wp2_with (go_at_call 148; refine (C1.out _).mono ?_; rintro e w1 ⟨rfl, hb1⟩; have kt := kept_three hb1; have c0 := kt.1.1; have c1 := kt.1.2.1; have c2 := kt.1.2.2; have d0 := kt.2.1.1; have d1 := kt.2.1.2.1; have d2 := kt.2.1.2.2; have f0 := kt.2.2.1 0; have f1 := kt.2.2.1 1; have f2 := kt.2.2.1 2; have g0 := kt.2.2.2 0; have g1 := kt.2.2.2 1; have g2 := kt.2.2.2 2; clear kt; have HB := hide (B0.out _ _ _ _ hb1); clear hb1)
          refine bodyPost_ret (v := .agg #[.int .i64 (1), .int .i64 (0), .bool (sl)]) (by simp [results, Tryz.results133, go_sem, d0, d1, d2]) rfl ⟨rfl, ?_⟩
          exact (((((HB.out.setCell (p := ⟨w.heap.size, 0, none⟩) (by simp; try omega) (.int .i64 1)).setCell (p := ⟨w.heap.size, 1, none⟩) (by simp; try omega) (.int .i64 0)).setCell (p := ⟨w.heap.size + 1 + 1, 0, none⟩) (by simp; try omega) (.int .i64 (1))).setCell (p := ⟨w.heap.size + 1 + 1, 1, none⟩) (by simp; try omega) (.int .i64 (0))).setCell (p := ⟨w.heap.size + 1 + 1, 2, none⟩) (by simp; try omega) (.bool (sl)))
        · rw [M.norm_yes he]
          have C1 := hide (C.out (lo, hi, sl))
          simp only [decide_eq_false he] at C1
          have q9 : decide (hi < lo) = false := decide_eq_false he
          clear C he
          go_enter Tryz.func133, Tryz.ntmps133
          go_wp2_with (go_at_call 148; refine (C1.out _).mono ?_; rintro e w1 ⟨rfl, hb1⟩; have kt := kept_three hb1; have c0 := kt.1.1; have c1 := kt.1.2.1; have c2 := kt.1.2.2; have d0 := kt.2.1.1; have d1 := kt.2.1.2.1; have d2 := kt.2.1.2.2; have f0 := kt.2.2.1 0; have f1 := kt.2.2.1 1; have f2 := kt.2.2.1 2; have g0 := kt.2.2.2 0; have g1 := kt.2.2.2 1; have g2 := kt.2.2.2 2; clear kt; have HB := hide (B0.out _ _ _ _ hb1); clear hb1)
          refine bodyPost_ret (v := .agg #[.int .i64 (lo), .int .i64 (hi), .bool (sl)]) (by simp [results, Tryz.results133, go_sem, d0, d1, d2]) rfl ⟨rfl, ?_⟩
          exact (((HB.out.setCell (p := ⟨w.heap.size + 1 + 1, 0, none⟩) (by simp; try omega) (.int .i64 (lo))).setCell (p := ⟨w.heap.size + 1 + 1, 1, none⟩) (by simp; try omega) (.int .i64 (hi))).setCell (p := ⟨w.heap.size + 1 + 1, 2, none⟩) (by simp; try omega) (.bool (sl)))
  · have ql : (tt == l) = false := by rw [beq_eq_false_iff_ne]; exact fun h => hl h.symm
    rw [decide_eq_false hl]
    simp only [Bool.false_eq_true, if_false]
    clear hl
    cases nl with
    | false =>
      rw [Bool.false_and]
      by_cases hm : lo < c
      · rw [if_pos hm]
        by_cases he : hi < c
        · rw [M.norm_no he]
          have C1 := hide (C.out (c, hi, false))
          simp only [decide_eq_true he] at C1
          have q9 : decide (hi < c) = true := decide_eq_true he
          clear C he
          go_enter Tryz.func133, Tryz.ntmps133
          go_wp2_with (go_at_call 148; refine (C1.out _).mono ?_; rintro e w1 ⟨rfl, hb1⟩; have kt := kept_three hb1; have c0 := kt.1.1; have c1 := kt.1.2.1; have c2 := kt.1.2.2; have d0 := kt.2.1.1; have d1 := kt.2.1.2.1; have d2 := kt.2.1.2.2; have f0 := kt.2.2.1 0; have f1 := kt.2.2.1 1; have f2 := kt.2.2.1 2; have g0 := kt.2.2.2 0; have g1 := kt.2.2.2 1; have g2 := kt.2.2.2 2; clear kt; have HB := hide (B0.out _ _ _ _ hb1); clear hb1)
          refine bodyPost_ret (v := .agg #[.int .i64 (1), .int .i64 (0), .bool (false)]) (by simp [results, Tryz.results133, go_sem, d0, d1, d2]) rfl ⟨rfl, ?_⟩
          exact (((((HB.out.setCell (p := ⟨w.heap.size, 0, none⟩) (by simp; try omega) (.int .i64 1)).setCell (p := ⟨w.heap.size, 1, none⟩) (by simp; try omega) (.int .i64 0)).setCell (p := ⟨w.heap.size + 1 + 1, 0, none⟩) (by simp; try omega) (.int .i64 (1))).setCell (p := ⟨w.heap.size + 1 + 1, 1, none⟩) (by simp; try omega) (.int .i64 (0))).setCell (p := ⟨w.heap.size + 1 + 1, 2, none⟩) (by simp; try omega) (.bool (false)))
        · rw [M.norm_yes he]
          have C1 := hide (C.out (c, hi, false))
          simp only [decide_eq_false he] at C1
          have q9 : decide (hi < c) = false := decide_eq_false he
          clear C he
          go_enter Tryz.func133, Tryz.ntmps133
          go_wp2_with (go_at_call 148; refine (C1.out _).mono ?_; rintro e w1 ⟨rfl, hb1⟩; have kt := kept_three hb1; have c0 := kt.1.1; have c1 := kt.1.2.1; have c2 := kt.1.2.2; have d0 := kt.2.1.1; have d1 := kt.2.1.2.1; have d2 := kt.2.1.2.2; have f0 := kt.2.2.1 0; have f1 := kt.2.2.1 1; have f2 := kt.2.2.1 2; have g0 := kt.2.2.2 0; have g1 := kt.2.2.2 1; have g2 := kt.2.2.2 2; clear kt; have HB := hide (B0.out _ _ _ _ hb1); clear hb1)
          refine bodyPost_ret (v := .agg #[.int .i64 (c), .int .i64 (hi), .bool (false)]) (by simp [results, Tryz.results133, go_sem, d0, d1, d2]) rfl ⟨rfl, ?_⟩
          exact (((HB.out.setCell (p := ⟨w.heap.size + 1 + 1, 0, none⟩) (by simp; try omega) (.int .i64 (c))).setCell (p := ⟨w.heap.size + 1 + 1, 1, none⟩) (by simp; try omega) (.int .i64 (hi))).setCell (p := ⟨w.heap.size + 1 + 1, 2, none⟩) (by simp; try omega) (.bool (false)))
      · rw [if_neg hm]
        by_cases he : hi < lo
        · rw [M.norm_no he]
          have C1 := hide (C.out (lo, hi, false))
          simp only [decide_eq_true he] at C1
          have q9 : decide (hi < lo) = true := decide_eq_true he
          clear C he
          go_enter Tryz.func133, Tryz.ntmps133
          go_wp2_with (go_at_call 148; refine (C1.out _).mono ?_; rintro e w1 ⟨rfl, hb1⟩; have kt := kept_three hb1; have c0 := kt.1.1; have c1 := kt.1.2.1; have c2 := kt.1.2.2; have d0 := kt.2.1.1; have d1 := kt.2.1.2.1; have d2 := kt.2.1.2.2; have f0 := kt.2.2.1 0; have f1 := kt.2.2.1 1; have f2 := kt.2.2.1 2; have g0 := kt.2.2.2 0; have g1 := kt.2.2.2 1; have g2 := kt.2.2.2 2; clear kt; have HB := hide (B0.out _ _ _ _ hb1); clear hb1)
          refine bodyPost_ret (v := .agg #[.int .i64 (1), .int .i64 (0), .bool (false)]) (by simp [results, Tryz.results133, go_sem, d0, d1, d2]) rfl ⟨rfl, ?_⟩
          exact (((((HB.out.setCell (p := ⟨w.heap.size, 0, none⟩) (by simp; try omega) (.int .i64 1)).setCell (p := ⟨w.heap.size, 1, none⟩) (by simp; try omega) (.int .i64 0)).setCell (p := ⟨w.heap.size + 1 + 1, 0, none⟩) (by simp; try omega) (.int .i64 (1))).setCell (p := ⟨w.heap.size + 1 + 1, 1, none⟩) (by simp; try omega) (.int .i64 (0))).setCell (p := ⟨w.heap.size + 1 + 1, 2, none⟩) (by simp; try omega) (.bool (false)))
        · rw [M.norm_yes he]
          have C1 := hide (C.out (lo, hi, false))
          simp only [decide_eq_false he] at C1
          have q9 : decide (hi < lo) = false := decide_eq_false he
          clear C he
          go_enter Tryz.func133, Tryz.ntmps133
          go_wp2_with (go_at_call 148; refine (C1.out _).mono ?_; rintro e w1 ⟨rfl, hb1⟩; have kt := kept_three hb1; have c0 := kt.1.1; have c1 := kt.1.2.1; have c2 := kt.1.2.2; have d0 := kt.2.1.1; have d1 := kt.2.1.2.1; have d2 := kt.2.1.2.2; have f0 := kt.2.2.1 0; have f1 := kt.2.2.1 1; have f2 := kt.2.2.1 2; have g0 := kt.2.2.2 0; have g1 := kt.2.2.2 1; have g2 := kt.2.2.2 2; clear kt; have HB := hide (B0.out _ _ _ _ hb1); clear hb1)
          refine bodyPost_ret (v := .agg #[.int .i64 (lo), .int .i64 (hi), .bool (false)]) (by simp [results, Tryz.results133, go_sem, d0, d1, d2]) rfl ⟨rfl, ?_⟩
          exact (((HB.out.setCell (p := ⟨w.heap.size + 1 + 1, 0, none⟩) (by simp; try omega) (.int .i64 (lo))).setCell (p := ⟨w.heap.size + 1 + 1, 1, none⟩) (by simp; try omega) (.int .i64 (hi))).setCell (p := ⟨w.heap.size + 1 + 1, 2, none⟩) (by simp; try omega) (.bool (false)))
    | true =>
      rw [Bool.true_and]
      by_cases hm : lo < c
      · rw [if_pos hm]
        by_cases he : hi < c
        · rw [M.norm_no he]
          have C1 := hide (C.out (c, hi, !sl))
          simp only [decide_eq_true he] at C1
          have q9 : decide (hi < c) = true := decide_eq_true he
          clear C he
          go_enter Tryz.func133, Tryz.ntmps133
          go_wp2_with (go_at_call 148; refine (C1.out _).mono ?_; rintro e w1 ⟨rfl, hb1⟩; have kt := kept_three hb1; have c0 := kt.1.1; have c1 := kt.1.2.1; have c2 := kt.1.2.2; have d0 := kt.2.1.1; have d1 := kt.2.1.2.1; have d2 := kt.2.1.2.2; have f0 := kt.2.2.1 0; have f1 := kt.2.2.1 1; have f2 := kt.2.2.1 2; have g0 := kt.2.2.2 0; have g1 := kt.2.2.2 1; have g2 := kt.2.2.2 2; clear kt; have HB := hide (B0.out _ _ _ _ hb1); clear hb1)
          refine bodyPost_ret (v := .agg #[.int .i64 (1), .int .i64 (0), .bool (!sl)]) (by simp [results, Tryz.results133, go_sem, d0, d1, d2]) rfl ⟨rfl, ?_⟩
          exact (((((HB.out.setCell (p := ⟨w.heap.size, 0, none⟩) (by simp; try omega) (.int .i64 1)).setCell (p := ⟨w.heap.size, 1, none⟩) (by simp; try omega) (.int .i64 0)).setCell (p := ⟨w.heap.size + 1 + 1, 0, none⟩) (by simp; try omega) (.int .i64 (1))).setCell (p := ⟨w.heap.size + 1 + 1, 1, none⟩) (by simp; try omega) (.int .i64 (0))).setCell (p := ⟨w.heap.size + 1 + 1, 2, none⟩) (by simp; try omega) (.bool (!sl)))
        · rw [M.norm_yes he]
          have C1 := hide (C.out (c, hi, !sl))
          simp only [decide_eq_false he] at C1
          have q9 : decide (hi < c) = false := decide_eq_false he
          clear C he
          go_enter Tryz.func133, Tryz.ntmps133
          go_wp2_with (go_at_call 148; refine (C1.out _).mono ?_; rintro e w1 ⟨rfl, hb1⟩; have kt := kept_three hb1; have c0 := kt.1.1; have c1 := kt.1.2.1; have c2 := kt.1.2.2; have d0 := kt.2.1.1; have d1 := kt.2.1.2.1; have d2 := kt.2.1.2.2; have f0 := kt.2.2.1 0; have f1 := kt.2.2.1 1; have f2 := kt.2.2.1 2; have g0 := kt.2.2.2 0; have g1 := kt.2.2.2 1; have g2 := kt.2.2.2 2; clear kt; have HB := hide (B0.out _ _ _ _ hb1); clear hb1)
          refine bodyPost_ret (v := .agg #[.int .i64 (c), .int .i64 (hi), .bool (!sl)]) (by simp [results, Tryz.results133, go_sem, d0, d1, d2]) rfl ⟨rfl, ?_⟩
          exact (((HB.out.setCell (p := ⟨w.heap.size + 1 + 1, 0, none⟩) (by simp; try omega) (.int .i64 (c))).setCell (p := ⟨w.heap.size + 1 + 1, 1, none⟩) (by simp; try omega) (.int .i64 (hi))).setCell (p := ⟨w.heap.size + 1 + 1, 2, none⟩) (by simp; try omega) (.bool (!sl)))
      · rw [if_neg hm]
        by_cases he : hi < lo
        · rw [M.norm_no he]
          have C1 := hide (C.out (lo, hi, !sl))
          simp only [decide_eq_true he] at C1
          have q9 : decide (hi < lo) = true := decide_eq_true he
          clear C he
          go_enter Tryz.func133, Tryz.ntmps133
          go_wp2_with (go_at_call 148; refine (C1.out _).mono ?_; rintro e w1 ⟨rfl, hb1⟩; have kt := kept_three hb1; have c0 := kt.1.1; have c1 := kt.1.2.1; have c2 := kt.1.2.2; have d0 := kt.2.1.1; have d1 := kt.2.1.2.1; have d2 := kt.2.1.2.2; have f0 := kt.2.2.1 0; have f1 := kt.2.2.1 1; have f2 := kt.2.2.1 2; have g0 := kt.2.2.2 0; have g1 := kt.2.2.2 1; have g2 := kt.2.2.2 2; clear kt; have HB := hide (B0.out _ _ _ _ hb1); clear hb1)
          refine bodyPost_ret (v := .agg #[.int .i64 (1), .int .i64 (0), .bool (!sl)]) (by simp [results, Tryz.results133, go_sem, d0, d1, d2]) rfl ⟨rfl, ?_⟩
          exact (((((HB.out.setCell (p := ⟨w.heap.size, 0, none⟩) (by simp; try omega) (.int .i64 1)).setCell (p := ⟨w.heap.size, 1, none⟩) (by simp; try omega) (.int .i64 0)).setCell (p := ⟨w.heap.size + 1 + 1, 0, none⟩) (by simp; try omega) (.int .i64 (1))).setCell (p := ⟨w.heap.size + 1 + 1, 1, none⟩) (by simp; try omega) (.int .i64 (0))).setCell (p := ⟨w.heap.size + 1 + 1, 2, none⟩) (by simp; try omega) (.bool (!sl)))
        · rw [M.norm_yes he]
          have C1 := hide (C.out (lo, hi, !sl))
          simp only [decide_eq_false he] at C1
          have q9 : decide (hi < lo) = false := decide_eq_false he
          clear C he
          go_enter Tryz.func133, Tryz.ntmps133
          go_wp2_with (go_at_call 148; refine (C1.out _).mono ?_; rintro e w1 ⟨rfl, hb1⟩; have kt := kept_three hb1; have c0 := kt.1.1; have c1 := kt.1.2.1; have c2 := kt.1.2.2; have d0 := kt.2.1.1; have d1 := kt.2.1.2.1; have d2 := kt.2.1.2.2; have f0 := kt.2.2.1 0; have f1 := kt.2.2.1 1; have f2 := kt.2.2.1 2; have g0 := kt.2.2.2 0; have g1 := kt.2.2.2 1; have g2 := kt.2.2.2 2; clear kt; have HB := hide (B0.out _ _ _ _ hb1); clear hb1)
          refine bodyPost_ret (v := .agg #[.int .i64 (lo), .int .i64 (hi), .bool (!sl)]) (by simp [results, Tryz.results133, go_sem, d0, d1, d2]) rfl ⟨rfl, ?_⟩
          exact (((HB.out.setCell (p := ⟨w.heap.size + 1 + 1, 0, none⟩) (by simp; try omega) (.int .i64 (lo))).setCell (p := ⟨w.heap.size + 1 + 1, 1, none⟩) (by simp; try omega) (.int .i64 (hi))).setCell (p := ⟨w.heap.size + 1 + 1, 2, none⟩) (by simp; try omega) (.bool (!sl)))
def M.noneK (ss : List M.Sp) : Nat → Bool
  | 0 => false
  | k + 1 => M.noneK ss k || !M.hasS (ss.getD k (0, 0, false))
theorem M.noneK_all (ss : List M.Sp) : ∀ k, k ≤ ss.length → M.noneK ss k = !(ss.take k).all M.hasS
  | 0, _ => by simp [M.noneK]
  | k + 1, h => by
    have ih := M.noneK_all ss k (by omega)
    have e : ss.take (k + 1) = ss.take k ++ [ss.getD k (0, 0, false)] := by
      rw [M.getD_at (by omega), List.take_add_one, List.getElem?_eq_getElem (by omega)]; rfl
    rw [M.noneK, ih, e, List.all_append]
    simp
theorem M.noneK_end (ss : List M.Sp) : M.noneK ss ss.length = !M.anyS ss := by
  rw [M.noneK_all ss ss.length (Nat.le_refl _)]; simp [M.anyS]
theorem M.noneK_stop {ss : List M.Sp} : ∀ {k n : Nat}, k ≤ n → n ≤ ss.length → M.noneK ss k = true → M.noneK ss n = true
  | k, 0, h, _, e => by have : k = 0 := by omega
                        subst this; exact e
  | k, n + 1, h, hn, e => by
    by_cases q : k = n + 1
    · subst q; exact e
    · rw [M.noneK, M.noneK_stop (k := k) (n := n) (by omega) (by omega) e]; rfl
set_option maxHeartbeats 4000000 in
set_option maxRecDepth 10000 in
theorem index_any (a0 : Option Addr) (ss : List M.Sp) (ca : Nat) (w : World) (h : RdS w a0 ss) :
    Calls Tryz.prog 147 #[.slice a0 ss.length ca, .func (.func 130) #[] #[]] w fun e w' => ∃ x : Int, e = .returned (.int .i64 x) ∧ decide (0 ≤ x) = (!M.anyS ss) ∧ Below w.heap.size w w' := by
  have hm : ss.length ≤ 9223372036854775807 := h.1
  have HT := hide h
  have C := hide nothing_any
  unfold spV at C
  have EV := hide (M.noneK_end ss)
  clear h
  generalize (!M.anyS ss) = V at *
  go_enter Tryz.func147, Tryz.ntmps147
  go_wp2
  go_loopw [8] (fun i wr => ∃ k : Nat, k ≤ ss.length ∧ i = .int .i64 k ∧ Hid (M.noneK ss k = false) ∧ Below w.heap.size w wr) (fun i _ => ss.length - (intOf i).toNat)
  case atStart => exact ⟨0, Nat.zero_le _, rfl, rfl, Below.refl _ _⟩
  case round =>
    obtain ⟨k, hk, rfl, I, hbl⟩ := hrel
    by_cases hlt : k < ss.length
    · obtain ⟨b1, off, rfl, hb1, hc⟩ := (HT.out.below hbl).2 (by intro e; subst e; simp at hlt)
      obtain ⟨s0, s1, s2⟩ := hc k hlt
      have C1 := hide (C.out (ss.getD k (0, 0, false)))
      cases hh : M.hasS (ss.getD k (0, 0, false)) with
      | true =>
        have N : Hid (M.noneK ss (k + 1) = false) := by unfold Hid; rw [M.noneK, I.out, hh]; rfl
        simp only [hh] at C1
        clear hc hh C
        generalize (ss.getD k (0, 0, false)).1 = lo at *
        generalize (ss.getD k (0, 0, false)).2.1 = hi at *
        generalize (ss.getD k (0, 0, false)).2.2 = nl at *
        go_wp2_with (go_at_call 130; refine (C1.out _).mono ?_; rintro e w2 ⟨rfl, hb2⟩)
        go_roundw
        case rel => exact ⟨k + 1, by omega, by go_num, N, below_on hbl hb2⟩
        case measure => simp [intOf]; omega
      | false =>
        have N : Hid (true = V) := by
          unfold Hid
          rw [← EV.out]
          exact (M.noneK_stop (k := k + 1) (by omega) (Nat.le_refl _) (by rw [M.noneK, hh]; simp)).symm
        simp only [hh] at C1
        clear hc hh C
        generalize (ss.getD k (0, 0, false)).1 = lo at *
        generalize (ss.getD k (0, 0, false)).2.1 = hi at *
        generalize (ss.getD k (0, 0, false)).2.2 = nl at *
        go_wp2_with (go_at_call 130; refine (C1.out _).mono ?_; rintro e w2 ⟨rfl, hb2⟩)
        go_ret
        exact ⟨_, rfl, by rw [← N.out]; simp, below_on hbl hb2⟩
    · have N : Hid (false = V) := by unfold Hid; rw [← EV.out, show ss.length = k by omega, I.out]
      go_wp2
      go_ret
      exact ⟨_, rfl, by rw [← N.out]; simp, hbl⟩
theorem contains_any (a0 : Option Addr) (ss : List M.Sp) (ca : Nat) (w : World) (h : RdS w a0 ss) :
    Calls Tryz.prog 129 #[.slice a0 ss.length ca, .func (.func 130) #[] #[]] w fun e w' => e = .returned (.bool (!M.anyS ss)) ∧ Below w.heap.size w w' := by
  have C := hide (index_any a0 ss ca w h)
  clear h
  generalize (!M.anyS ss) = V at *
  go_enter Tryz.func129, Tryz.ntmps129
  go_wp2_with (go_at_call 147; refine C.out.mono ?_; rintro e w2 ⟨x, rfl, hx, hb2⟩; have HX := hide hx; clear hx)
  go_ret
  exact ⟨ret_bool HX.out, hb2⟩
theorem hasrow_any (a0 : Option Addr) (ss : List M.Sp) (ca : Nat) (w : World) (h : RdS w a0 ss) :
    Calls Tryz.prog 103 #[.slice a0 ss.length ca] w fun e w' => e = .returned (.bool (M.anyS ss)) ∧ Below w.heap.size w w' := by
  have C := hide (contains_any a0 ss ca w h)
  clear h
  cases hb : M.anyS ss <;> rw [hb] at C <;> clear hb <;>
    (go_enter Tryz.func103, Tryz.ntmps103
     go_wp2_with (go_at_call 129; refine C.out.mono ?_; rintro e w2 ⟨rfl, hb2⟩)
     go_ret
     exact ⟨rfl, hb2⟩)

end Go.Proofs.YtelncekgjfpogahGreatDoor

namespace Go.Proofs.YtelncekgjfpogahGreatDoor.M
set_option linter.unusedVariables false
def ndL (n : Nd) : List Int := if nf n = -1 then [nf n, nv n] else [nf n, nc n, nl n, nr n, if ns n = true then 1 else 0]
def trL (x : Int × List Nd) : List Int := x.1 :: (x.2.length : Int) :: x.2.flatMap ndL
def grL (g : Gv) : List Int := gf g :: gw g :: ((gt g).length : Int) :: ((gs g).zip (gt g)).flatMap trL
def encB (g : Gv) : List Nat := bysL (grL g)
def encF (g : Gv) : Int := if groveF g ≠ 0 then groveF g else if 6000 < (encB g).length then 4 else 0
def encV (g : Gv) : List Nat := if encF g = 0 then encB g else []
structure In where
  at' : Nat
  fin : Nat
  bad : Int
def rNum (b : List Nat) (s : In) : Int × In := if s.bad ≠ 0 then (0, s) else ((getL (b.drop s.fin)).1, ⟨s.fin, s.fin + (getL (b.drop s.fin)).2.1, (getL (b.drop s.fin)).2.2⟩)
def rMany (b : List Nat) (most : Int) (s : In) : Int × In :=
  if (rNum b s).2.bad = 0 ∧ ((rNum b s).1 < 1 ∨ most < (rNum b s).1) then (0, { (rNum b s).2 with bad := 1 })
  else if (rNum b s).2.bad ≠ 0 then (0, (rNum b s).2) else rNum b s
def rAsk (b : List Nat) (f : Int) (s : In) : Nd × In :=
  let c := rNum b s
  let l := rNum b c.2
  let r := rNum b l.2
  let x := rNum b r.2
  ((f, c.1, l.1, r.1, decide (x.1 = 1), 0), if x.2.bad = 0 ∧ x.1 ≠ 0 ∧ x.1 ≠ 1 then { x.2 with bad := 2 } else x.2)
def rNode (b : List Nat) (s : In) : Nd × In :=
  if (rNum b s).2.bad = 0 ∧ (rNum b s).1 = -1 then (((rNum b s).1, 0, 0, 0, false, (rNum b (rNum b s).2).1), (rNum b (rNum b s).2).2)
  else rAsk b (rNum b s).1 (rNum b s).2
def rNodes (b : List Nat) : Nat → In → List Nd × In
  | 0, s => ([], s)
  | k + 1, s => if s.bad ≠ 0 then ([], s) else ((rNode b s).1 :: (rNodes b k (rNode b s).2).1, (rNodes b k (rNode b s).2).2)
def rTree (b : List Nat) (s : In) : (Int × List Nd) × In :=
  (((rNum b s).1, (rNodes b (rMany b 63 (rNum b s).2).1.toNat (rMany b 63 (rNum b s).2).2).1), (rNodes b (rMany b 63 (rNum b s).2).1.toNat (rMany b 63 (rNum b s).2).2).2)
def rTrees (b : List Nat) : Nat → In → List (Int × List Nd) × In
  | 0, s => ([], s)
  | k + 1, s => if s.bad ≠ 0 then ([], s) else ((rTree b s).1 :: (rTrees b k (rTree b s).2).1, (rTrees b k (rTree b s).2).2)
def in0 : In := ⟨0, 0, 0⟩
def rHead (b : List Nat) : (Int × Int × Int) × In := (((rNum b in0).1, (rNum b (rNum b in0).2).1, (rMany b 12 (rNum b (rNum b in0).2).2).1), (rMany b 12 (rNum b (rNum b in0).2).2).2)
def rAll (b : List Nat) : List (Int × List Nd) × In := rTrees b (rHead b).1.2.2.toNat (rHead b).2
def rGrove (b : List Nat) : Gv := ((rHead b).1.1, (rHead b).1.2.1, (rAll b).1.map (·.1), (rAll b).1.map (·.2))
def decF (b : List Nat) : Nat × Int :=
  if 6000 < b.length then (0, 4)
  else if (rAll b).2.bad ≠ 0 then ((rAll b).2.at', (rAll b).2.bad)
  else if (rAll b).2.fin ≠ b.length then ((rAll b).2.fin, 2)
  else if groveF (rGrove b) ≠ 0 then ((rAll b).2.fin, groveF (rGrove b))
  else (0, 0)
def decV (b : List Nat) : Gv := if (decF b).2 = 0 then rGrove b else (0, 0, [], [])
def Aln (b : List Nat) (s : In) (l : List Int) (m : Nat) : Prop := s.bad = 0 ∧ s.fin ≤ b.length ∧ b.drop s.fin = (bysL l).take m
def Cut8 (b : List Nat) (s : In) : Prop := s.bad = 8 ∧ s.at' ≤ b.length
theorem rNum_bad {b : List Nat} {s : In} (h : s.bad ≠ 0) : rNum b s = (0, s) := by unfold rNum; rw [if_pos h]
theorem rNum_go {b : List Nat} {s : In} (h : s.bad = 0) : rNum b s = ((getL (b.drop s.fin)).1, ⟨s.fin, s.fin + (getL (b.drop s.fin)).2.1, (getL (b.drop s.fin)).2.2⟩) := by unfold rNum; rw [if_neg (by simp [h])]
theorem rNum_aln {b : List Nat} {s : In} {n : Int} {l : List Int} {m : Nat} (hn : I64 n) (h : Aln b s (n :: l) m) :
    ((numL n).length ≤ m ∧ (rNum b s).1 = n ∧ Aln b (rNum b s).2 l (m - (numL n).length) ∧ (rNum b s).2.fin = s.fin + (numL n).length) ∨ (m < (numL n).length ∧ Cut8 b (rNum b s).2) := by
  obtain ⟨h1, h2, h3⟩ := h
  rw [bys_cons] at h3
  rw [rNum_go h1]
  by_cases q : (numL n).length ≤ m
  · left
    rw [List.take_append, List.take_of_length_le q] at h3
    have e := get_num hn.1 hn.2 ((bysL l).take (m - (numL n).length))
    rw [h3, e]
    have hlen : b.length - s.fin = (numL n).length + ((bysL l).take (m - (numL n).length)).length := by
      have := congrArg List.length h3
      rw [List.length_drop, List.length_append] at this
      exact this
    refine ⟨q, rfl, ⟨rfl, ?_, ?_⟩, rfl⟩
    · show s.fin + (numL n).length ≤ b.length
      omega
    · show b.drop (s.fin + (numL n).length) = _
      rw [← List.drop_drop, h3, List.drop_left]
  · right
    have q' : m < (numL n).length := by omega
    rw [List.take_append_of_le_length (by omega)] at h3
    rw [h3, get_cut hn.1 hn.2 q']
    exact ⟨q', rfl, h2⟩
theorem rMany_aln {b : List Nat} {s : In} {n most : Int} {l : List Int} {m : Nat} (hn : I64 n) (h1 : 1 ≤ n) (h2 : n ≤ most) (h : Aln b s (n :: l) m) :
    ((numL n).length ≤ m ∧ (rMany b most s).1 = n ∧ Aln b (rMany b most s).2 l (m - (numL n).length) ∧ (rMany b most s).2.fin = s.fin + (numL n).length) ∨ (m < (numL n).length ∧ Cut8 b (rMany b most s).2) := by
  rcases rNum_aln hn h with ⟨a1, a2, a3, a4⟩ | ⟨a1, a2⟩
  · left
    unfold rMany
    rw [if_neg (by rw [a2]; omega), if_neg (by simp [a3.1])]
    exact ⟨a1, a2, a3, a4⟩
  · right
    unfold rMany
    rw [if_neg (by rw [a2.1]; omega), if_pos (by rw [a2.1]; decide)]
    exact ⟨a1, a2⟩
theorem cut_num {b : List Nat} {s : In} (h : Cut8 b s) : Cut8 b (rNum b s).2 := by rw [rNum_bad (by rw [h.1]; decide)]; exact h
theorem cut_many {b : List Nat} {s : In} {most : Int} (h : Cut8 b s) : Cut8 b (rMany b most s).2 := by
  have h' := cut_num h
  unfold rMany
  rw [if_neg (by rw [h'.1]; omega), if_pos (by rw [h'.1]; decide)]
  exact h'
theorem cut_ask {b : List Nat} {s : In} {f : Int} (h : Cut8 b s) : Cut8 b (rAsk b f s).2 := by
  have h' := cut_num (cut_num (cut_num (cut_num h)))
  unfold rAsk
  simp only
  rw [if_neg (by rw [h'.1]; omega)]
  exact h'
theorem cut_nodes {b : List Nat} {s : In} (h : Cut8 b s) (k : Nat) : rNodes b k s = ([], s) := by
  cases k with
  | zero => rfl
  | succ k => show (if _ then _ else _) = _; rw [if_pos (by rw [h.1]; decide)]
theorem cut_trees {b : List Nat} {s : In} (h : Cut8 b s) (k : Nat) : rTrees b k s = ([], s) := by
  cases k with
  | zero => rfl
  | succ k => show (if _ then _ else _) = _; rw [if_pos (by rw [h.1]; decide)]
def NdOk (n : Nd) : Prop := I64 (nf n) ∧ I64 (nc n) ∧ I64 (nl n) ∧ I64 (nr n) ∧ I64 (nv n) ∧ (nf n = -1 → n = (-1, 0, 0, 0, false, nv n)) ∧ (nf n ≠ -1 → nv n = 0)
theorem i64_01 (b : Bool) : I64 (if b = true then 1 else 0) := by unfold I64; split <;> omega
theorem rNode_aln {b : List Nat} {s : In} {n : Nd} {l : List Int} {m : Nat} (hn : NdOk n) (h : Aln b s (ndL n ++ l) m) :
    ((bysL (ndL n)).length ≤ m ∧ (rNode b s).1 = n ∧ Aln b (rNode b s).2 l (m - (bysL (ndL n)).length)) ∨ (m < (bysL (ndL n)).length ∧ Cut8 b (rNode b s).2) := by
  obtain ⟨i0, i1, i2, i3, i4, hl, ha⟩ := hn
  by_cases q : nf n = -1
  · have e : ndL n = [nf n, nv n] := by unfold ndL; rw [if_pos q]
    have el : (bysL (ndL n)).length = (numL (nf n)).length + (numL (nv n)).length := by rw [e, bys_cons, bys_cons, List.length_append, List.length_append]; rfl
    rw [e] at h
    rw [el]
    have h' : Aln b s (nf n :: (nv n :: l)) m := h
    rcases rNum_aln i0 h' with ⟨a1, a2, a3, a4⟩ | ⟨a1, a2⟩
    · have en : rNode b s = (((rNum b s).1, 0, 0, 0, false, (rNum b (rNum b s).2).1), (rNum b (rNum b s).2).2) := by unfold rNode; rw [if_pos ⟨a3.1, by rw [a2]; exact q⟩]
      rw [en]
      rcases rNum_aln i4 a3 with ⟨b1, b2, b3, b4⟩ | ⟨b1, b2⟩
      · left
        refine ⟨by omega, ?_, ?_⟩
        · show ((rNum b s).1, 0, 0, 0, false, (rNum b (rNum b s).2).1) = n
          rw [a2, b2, hl q]
          rfl
        · rw [show m - ((numL (nf n)).length + (numL (nv n)).length) = m - (numL (nf n)).length - (numL (nv n)).length by omega]
          exact b3
      · right
        exact ⟨by omega, b2⟩
    · right
      have en : rNode b s = rAsk b (rNum b s).1 (rNum b s).2 := by unfold rNode; rw [if_neg (by rw [a2.1]; omega)]
      rw [en]
      exact ⟨by omega, cut_ask a2⟩
  · have e : ndL n = [nf n, nc n, nl n, nr n, if ns n = true then 1 else 0] := by unfold ndL; rw [if_neg q]
    obtain ⟨x, hx⟩ : ∃ x : Int, x = if ns n = true then 1 else 0 := ⟨_, rfl⟩
    rw [← hx] at e
    have ix : I64 x := by rw [hx]; exact i64_01 _
    have el : (bysL (ndL n)).length = (numL (nf n)).length + (numL (nc n)).length + (numL (nl n)).length + (numL (nr n)).length + (numL x).length := by
      rw [e]
      simp only [bys_cons, List.length_append]
      show _ + (_ + (_ + (_ + (_ + 0)))) = _
      omega
    rw [e] at h
    rw [el]
    have h' : Aln b s (nf n :: (nc n :: (nl n :: (nr n :: (x :: l))))) m := h
    rcases rNum_aln i0 h' with ⟨a1, a2, a3, a4⟩ | ⟨a1, a2⟩
    · have en : rNode b s = rAsk b (rNum b s).1 (rNum b s).2 := by unfold rNode; rw [if_neg (by rw [a2]; exact fun z => q z.2)]
      rw [en]
      rcases rNum_aln i1 a3 with ⟨b1, b2, b3, b4⟩ | ⟨b1, b2⟩
      · rcases rNum_aln i2 b3 with ⟨c1, c2, c3, c4⟩ | ⟨c1, c2⟩
        · rcases rNum_aln i3 c3 with ⟨d1, d2, d3, d4⟩ | ⟨d1, d2⟩
          · rcases rNum_aln ix d3 with ⟨e1, e2, e3, e4⟩ | ⟨e1, e2⟩
            · left
              have x01 : ¬ (x ≠ 0 ∧ x ≠ 1) := by rw [hx]; split <;> omega
              refine ⟨by omega, ?_, ?_⟩
              · unfold rAsk
                simp only
                rw [a2, b2, c2, d2, e2]
                have es : decide (x = 1) = ns n := by rw [hx]; cases ns n <;> rfl
                rw [es]
                have ev := ha q
                show (nf n, nc n, nl n, nr n, ns n, (0 : Int)) = n
                rw [← ev]
                rfl
              · unfold rAsk
                simp only
                rw [if_neg (by rw [e2]; exact fun z => x01 z.2)]
                rw [show m - ((numL (nf n)).length + (numL (nc n)).length + (numL (nl n)).length + (numL (nr n)).length + (numL x).length) = m - (numL (nf n)).length - (numL (nc n)).length - (numL (nl n)).length - (numL (nr n)).length - (numL x).length by omega]
                exact e3
            · right
              refine ⟨by omega, ?_⟩
              unfold rAsk
              simp only
              rw [if_neg (by rw [e2.1]; omega)]
              exact e2
          · right
            refine ⟨by omega, ?_⟩
            have z := cut_num d2
            unfold rAsk
            simp only
            rw [if_neg (by rw [z.1]; omega)]
            exact z
        · right
          refine ⟨by omega, ?_⟩
          have z := cut_num (cut_num c2)
          unfold rAsk
          simp only
          rw [if_neg (by rw [z.1]; omega)]
          exact z
      · right
        refine ⟨by omega, ?_⟩
        have z := cut_num (cut_num (cut_num b2))
        unfold rAsk
        simp only
        rw [if_neg (by rw [z.1]; omega)]
        exact z
    · right
      have en : rNode b s = rAsk b (rNum b s).1 (rNum b s).2 := by unfold rNode; rw [if_neg (by rw [a2.1]; omega)]
      rw [en]
      exact ⟨by omega, cut_ask a2⟩
theorem rNodes_aln {b : List Nat} {l : List Int} : ∀ (t : List Nd) (s : In) (m : Nat), (∀ n ∈ t, NdOk n) → Aln b s (t.flatMap ndL ++ l) m →
    ((bysL (t.flatMap ndL)).length ≤ m ∧ (rNodes b t.length s).1 = t ∧ Aln b (rNodes b t.length s).2 l (m - (bysL (t.flatMap ndL)).length)) ∨ (m < (bysL (t.flatMap ndL)).length ∧ Cut8 b (rNodes b t.length s).2)
  | [], s, m, _, h => .inl ⟨Nat.zero_le _, rfl, h⟩
  | n :: t, s, m, ht, h => by
    have hb : s.bad = 0 := h.1
    have e : rNodes b (n :: t).length s = ((rNode b s).1 :: (rNodes b t.length (rNode b s).2).1, (rNodes b t.length (rNode b s).2).2) := by
      show (if _ then _ else _) = _
      rw [if_neg (by simp [hb])]
    have h' : Aln b s (ndL n ++ (t.flatMap ndL ++ l)) m := by rw [← List.append_assoc]; exact h
    have el : (bysL ((n :: t).flatMap ndL)).length = (bysL (ndL n)).length + (bysL (t.flatMap ndL)).length := by rw [List.flatMap_cons, bys_app, List.length_append]
    rw [e, el]
    rcases rNode_aln (ht n (List.mem_cons_self ..)) h' with ⟨a1, a2, a3⟩ | ⟨a1, a2⟩
    · rcases rNodes_aln t (rNode b s).2 _ (fun x hx => ht x (List.mem_cons_of_mem _ hx)) a3 with ⟨b1, b2, b3⟩ | ⟨b1, b2⟩
      · left
        refine ⟨by omega, by rw [a2, b2], ?_⟩
        rw [show m - ((bysL (ndL n)).length + (bysL (t.flatMap ndL)).length) = m - (bysL (ndL n)).length - (bysL (t.flatMap ndL)).length by omega]
        exact b3
      · right
        exact ⟨by omega, b2⟩
    · right
      rw [cut_nodes a2]
      exact ⟨by omega, a2⟩
def TrOk (x : Int × List Nd) : Prop := I64 x.1 ∧ 1 ≤ x.2.length ∧ x.2.length ≤ 63 ∧ ∀ n ∈ x.2, NdOk n
theorem rTree_aln {b : List Nat} {s : In} {x : Int × List Nd} {l : List Int} {m : Nat} (hx : TrOk x) (h : Aln b s (trL x ++ l) m) :
    ((bysL (trL x)).length ≤ m ∧ (rTree b s).1 = x ∧ Aln b (rTree b s).2 l (m - (bysL (trL x)).length)) ∨ (m < (bysL (trL x)).length ∧ Cut8 b (rTree b s).2) := by
  obtain ⟨i0, h1, h2, hn⟩ := hx
  have el : (bysL (trL x)).length = (numL x.1).length + (numL (x.2.length : Int)).length + (bysL (x.2.flatMap ndL)).length := by
    unfold trL
    rw [bys_cons, bys_cons, List.length_append, List.length_append]
    omega
  have h' : Aln b s (x.1 :: ((x.2.length : Int) :: (x.2.flatMap ndL ++ l))) m := h
  rw [el]
  unfold rTree
  rcases rNum_aln i0 h' with ⟨a1, a2, a3, a4⟩ | ⟨a1, a2⟩
  · rcases rMany_aln (most := 63) (show I64 (x.2.length : Int) by unfold I64; omega) (by omega) (by omega) a3 with ⟨b1, b2, b3, b4⟩ | ⟨b1, b2⟩
    · rw [b2, Int.toNat_natCast]
      rcases rNodes_aln x.2 _ _ hn b3 with ⟨c1, c2, c3⟩ | ⟨c1, c2⟩
      · left
        refine ⟨by omega, by rw [a2, c2], ?_⟩
        rw [show m - ((numL x.1).length + (numL (x.2.length : Int)).length + (bysL (x.2.flatMap ndL)).length) = m - (numL x.1).length - (numL (x.2.length : Int)).length - (bysL (x.2.flatMap ndL)).length by omega]
        exact c3
      · right
        exact ⟨by omega, c2⟩
    · right
      rw [cut_nodes b2]
      exact ⟨by omega, b2⟩
  · right
    have z := cut_many (most := 63) a2
    rw [cut_nodes z]
    exact ⟨by omega, z⟩
theorem rTrees_aln {b : List Nat} {l : List Int} : ∀ (t : List (Int × List Nd)) (s : In) (m : Nat), (∀ x ∈ t, TrOk x) → Aln b s (t.flatMap trL ++ l) m →
    ((bysL (t.flatMap trL)).length ≤ m ∧ (rTrees b t.length s).1 = t ∧ Aln b (rTrees b t.length s).2 l (m - (bysL (t.flatMap trL)).length)) ∨ (m < (bysL (t.flatMap trL)).length ∧ Cut8 b (rTrees b t.length s).2)
  | [], s, m, _, h => .inl ⟨Nat.zero_le _, rfl, h⟩
  | n :: t, s, m, ht, h => by
    have hb : s.bad = 0 := h.1
    have e : rTrees b (n :: t).length s = ((rTree b s).1 :: (rTrees b t.length (rTree b s).2).1, (rTrees b t.length (rTree b s).2).2) := by
      show (if _ then _ else _) = _
      rw [if_neg (by simp [hb])]
    have h' : Aln b s (trL n ++ (t.flatMap trL ++ l)) m := by rw [← List.append_assoc]; exact h
    have el : (bysL ((n :: t).flatMap trL)).length = (bysL (trL n)).length + (bysL (t.flatMap trL)).length := by rw [List.flatMap_cons, bys_app, List.length_append]
    rw [e, el]
    rcases rTree_aln (ht n (List.mem_cons_self ..)) h' with ⟨a1, a2, a3⟩ | ⟨a1, a2⟩
    · rcases rTrees_aln t (rTree b s).2 _ (fun x hx => ht x (List.mem_cons_of_mem _ hx)) a3 with ⟨b1, b2, b3⟩ | ⟨b1, b2⟩
      · left
        refine ⟨by omega, by rw [a2, b2], ?_⟩
        rw [show m - ((bysL (trL n)).length + (bysL (t.flatMap trL)).length) = m - (bysL (trL n)).length - (bysL (t.flatMap trL)).length by omega]
        exact b3
      · right
        exact ⟨by omega, b2⟩
    · right
      rw [cut_trees a2]
      exact ⟨by omega, a2⟩
end Go.Proofs.YtelncekgjfpogahGreatDoor.M
