/-
  What package row's within and Fits answer, for every row and all spans.
-/
import Derived.Test.YthbeoaninipadafRowCheck
import Derived.Shelf.SlSorted.Search
import Derived.Test.YthbeoaninipadafSpans
import Derived.RegionTactic
import Derived.Deep.RegionWith
import Derived.Deep.Cut
import Derived.Deep.CutRange
namespace Go.Proofs.Ythbeoaninipadaf
open Go.ChangeShapes Go.WideShapes Go.ChangeAt Go.RowKit Go.Shelf Go.Lib Go.Sort
set_option linter.unusedVariables false

theorem within_any (c lo hi : Int) (nl : Bool) (w : World) :
    Calls Try.prog 37 #[.int .i64 c, .agg #[.int .i64 lo, .int .i64 hi, .bool nl]] w fun e w' => e = .returned (.bool (M.inS c (lo, hi, nl))) ∧ Below w.heap.size w w' := by
  by_cases h1 : c = M.nilI
  · have E : Hid (nl = M.inS c (lo, hi, nl)) := by unfold Hid; rw [M.in_nil h1]
    have q : (c == -1125899906842624) = true := by rw [beq_iff_eq]; exact h1
    clear h1
    go_enter Try.func37, Try.ntmps37
    go_wp2
    go_ret
    exact ⟨ret_bool E.out, (Below.refl _ _).alloc (Nat.le_refl _) _⟩
  · have q : (c == -1125899906842624) = false := by rw [beq_eq_false_iff_ne]; exact h1
    by_cases h2 : lo ≤ c
    · have E : Hid (decide (c ≤ hi) = M.inS c (lo, hi, nl)) := by unfold Hid; rw [M.in_num h1]; simp [h2]
      have q2 : decide (lo ≤ c) = true := decide_eq_true h2
      clear h1 h2
      go_enter Try.func37, Try.ntmps37
      go_wp2
      go_ret
      exact ⟨ret_bool E.out, (Below.refl _ _).alloc (Nat.le_refl _) _⟩
    · have E : Hid (false = M.inS c (lo, hi, nl)) := by unfold Hid; rw [M.in_num h1]; simp [h2]
      have q2 : decide (lo ≤ c) = false := decide_eq_false h2
      clear h1 h2
      go_enter Try.func37, Try.ntmps37
      go_wp2
      go_ret
      exact ⟨ret_bool E.out, (Below.refl _ _).alloc (Nat.le_refl _) _⟩

set_option maxHeartbeats 2000000 in
theorem fits_closure (ba bl rb ro rc sb so sc n m : Nat) (y lo hi : Int) (nl : Bool) (i : Nat) (W : World) (hn : i < n) (hm : i < m)
    (ha : W.cell? ⟨ba, 0, none⟩ = some (.slice (some ⟨rb, ro, none⟩) n rc)) (hl : W.cell? ⟨bl, 0, none⟩ = some (.slice (some ⟨sb, so, none⟩) m sc))
    (hy : W.cell? ⟨rb, ro + i, none⟩ = some (.int .i64 y)) (h0 : W.cell? ⟨sb, so + i * 3, none⟩ = some (.int .i64 lo)) (h1 : W.cell? ⟨sb, so + i * 3 + 1, none⟩ = some (.int .i64 hi)) (h2 : W.cell? ⟨sb, so + i * 3 + 2, none⟩ = some (.bool nl)) :
    Calls Try.prog 36 (#[.int .i64 i] ++ #[.pointer (some ⟨ba, 0, none⟩), .pointer (some ⟨bl, 0, none⟩)]) W fun e w' => e = .returned (.bool (!M.inS y (lo, hi, nl))) ∧ Below W.heap.size W w' := by
  have hiz : (i : Int) < (n : Int) := by omega
  have hiz2 : (i : Int) < (m : Int) := by omega
  have C := hide (within_any y lo hi nl)
  generalize M.inS y (lo, hi, nl) = r at *
  go_enter Try.func36, Try.ntmps36
  go_wp2
  go_region_with (go_at_call 37; refine (C.out _).mono ?_; rintro e w1 ⟨rfl, hb1⟩)
  all_goals go_wp2
  all_goals go_ret
  all_goals exact ⟨rfl, (Below.refl W.heap.size W).drew.trans hb1⟩

set_option maxHeartbeats 2000000 in
theorem anyplace_any (a : Option Addr) (n cap ba bl : Nat) (p : Nat → Bool) (w : World) (hn : n ≤ 8)
    (H : ∀ i W, i < n → Below w.heap.size w W → Calls Try.prog 36 (#[.int .i64 i] ++ #[.pointer (some ⟨ba, 0, none⟩), .pointer (some ⟨bl, 0, none⟩)]) W fun e w' => e = .returned (.bool (p i)) ∧ Below W.heap.size W w') :
    Calls Try.prog 35 #[.slice a n cap, .func (.func 36) #[] #[.pointer (some ⟨ba, 0, none⟩), .pointer (some ⟨bl, 0, none⟩)]] w fun e w' => e = .returned (.bool ((List.range n).any p)) ∧ Below w.heap.size w w' := by
  have HH := hide H
  have AH : Hid (∀ k, k < n → p k = true → (List.range n).any p = true) := fun k => M.any_hit
  have AM : Hid ((∀ i, i < n → p i = false) → (List.range n).any p = false) := M.any_miss
  clear H
  generalize (List.range n).any p = r at *
  go_enter Try.func35, Try.ntmps35
  go_wp2
  go_loopw [8] (fun i wr => ∃ k : Nat, k ≤ n ∧ i = .int .i64 k ∧ Below w.heap.size w wr ∧ Hid (∀ j, j < k → p j = false)) (fun i _ => n - (intOf i).toNat)
  case atStart => exact ⟨0, Nat.zero_le _, rfl, Below.refl _ _, fun j hj => by omega⟩
  case round =>
    obtain ⟨k, hk, rfl, hbl, I⟩ := hrel
    by_cases hlt : k < n
    · have C := hide (HH.out k wr hlt hbl)
      cases hp : p k with
      | true =>
        have E : Hid (true = r) := (AH.out k hlt hp).symm
        rw [hp] at C
        clear hp
        go_wp2_with (go_at_call 36; refine C.out.mono ?_; rintro e w1 ⟨rfl, hb1⟩)
        go_ret
        exact ⟨ret_bool E.out, below_on hbl hb1⟩
      | false =>
        have N : Hid (∀ j, j < k + 1 → p j = false) := fun j hj => by
          by_cases e : j = k
          · rw [e]; exact hp
          · exact I.out j (by omega)
        rw [hp] at C
        clear hp
        go_wp2_with (go_at_call 36; refine C.out.mono ?_; rintro e w1 ⟨rfl, hb1⟩)
        go_roundw
        case rel => exact ⟨k + 1, by omega, by go_num, below_on hbl hb1, N⟩
        case measure => simp [intOf]; omega
    · have E : Hid (false = r) := (AM.out fun i hi => I.out i (by omega)).symm
      go_wp2
      go_ret
      exact ⟨ret_bool E.out, hbl⟩

theorem fits_places (a b : Option Addr) (xs : List Int) (ss : List M.Sp) (ca cb ba bl : Nat) (w : World) (ha : Rd w a xs) (hb : RdS w b ss) (hl : ss.length = xs.length)
    (qa : w.cell? ⟨ba, 0, none⟩ = some (.slice a xs.length ca)) (ql : w.cell? ⟨bl, 0, none⟩ = some (.slice b ss.length cb)) (la : ba < w.heap.size) (ll : bl < w.heap.size) :
    ∀ i W, i < xs.length → Below w.heap.size w W → Calls Try.prog 36 (#[.int .i64 i] ++ #[.pointer (some ⟨ba, 0, none⟩), .pointer (some ⟨bl, 0, none⟩)]) W fun e w' => e = .returned (.bool (M.outAt xs ss i)) ∧ Below W.heap.size W w' := by
  intro i W hi hW
  have hx : xs ≠ [] := by intro e; subst e; simp at hi
  have hs : ss ≠ [] := by intro e; subst e; simp at hl; omega
  obtain ⟨rb, ro, rfl, hrb, hrc⟩ := ha.2 hx
  obtain ⟨sb, so, rfl, hsb, hsc⟩ := hb.2 hs
  obtain ⟨h0, h1, h2⟩ := hsc i (by omega)
  exact fits_closure ba bl rb ro ca sb so cb xs.length ss.length _ _ _ _ i W hi (by omega) ((hW.cell (p := ⟨ba, 0, none⟩) la).trans qa) ((hW.cell (p := ⟨bl, 0, none⟩) ll).trans ql)
    ((hW.cell (p := ⟨rb, ro + i, none⟩) hrb).trans (hrc i hi)) ((hW.cell (p := ⟨sb, so + i * 3, none⟩) hsb).trans h0) ((hW.cell (p := ⟨sb, so + i * 3 + 1, none⟩) hsb).trans h1) ((hW.cell (p := ⟨sb, so + i * 3 + 2, none⟩) hsb).trans h2)

set_option maxHeartbeats 2000000 in
theorem fits_any (a b : Option Addr) (xs : List Int) (ss : List M.Sp) (ca cb : Nat) (w : World) (ha : Rd w a xs) (hb : RdS w b ss) :
    Calls Try.prog 19 #[.slice a xs.length ca, .slice b ss.length cb] w fun e w' => e = .returned (.tuple #[.bool (M.fitV xs ss), errV (M.fitF xs ss)]) ∧ Below w.heap.size w w' := by
  have hm : xs.length ≤ 9223372036854775807 := ha.1
  have hm2 : ss.length ≤ 9223372036854775807 := hb.1
  obtain ⟨W0, hW0⟩ : ∃ W0, W0 = (w.alloc (.cells #[.slice a xs.length ca] 23)).alloc (.cells #[.slice b ss.length cb] 49) := ⟨_, rfl⟩
  have hsize : W0.heap.size = w.heap.size + 1 + 1 := by rw [hW0]; simp
  have qa : W0.cell? ⟨w.heap.size, 0, none⟩ = some (.slice a xs.length ca) := by rw [hW0]; exact cell_alloc_sl _ (cell_new_sl w _ _)
  have ql : W0.cell? ⟨w.heap.size + 1, 0, none⟩ = some (.slice b ss.length cb) := by rw [hW0]; have := cell_new_sl (w.alloc (.cells #[.slice a xs.length ca] 23)) (.slice b ss.length cb) 49; rwa [World.size_alloc] at this
  have hB0 : Below w.heap.size w W0 := by rw [hW0]; exact ((Below.refl _ w).alloc (Nat.le_refl _) _).alloc (by simp) _
  have RA : Hid (∀ W, Below W0.heap.size W0 W → Rd W a xs) := fun W hW => (ha.below hB0).below hW
  have RS : Hid (∀ W, Below W0.heap.size W0 W → RdS W b ss) := fun W hW => (hb.below hB0).below hW
  have C := hide (rcheck_any a xs ca W0 (ha.below hB0))
  have QA : Hid (∀ W, Below W0.heap.size W0 W → W.cell? ⟨w.heap.size, 0, none⟩ = some (.slice a xs.length ca)) := fun W hW => (hW.cell (p := ⟨w.heap.size, 0, none⟩) (by simp [hsize]; omega)).trans qa
  have QL : Hid (∀ W, Below W0.heap.size W0 W → W.cell? ⟨w.heap.size + 1, 0, none⟩ = some (.slice b ss.length cb)) := fun W hW => (hW.cell (p := ⟨w.heap.size + 1, 0, none⟩) (by simp [hsize])).trans ql
  have HS := hide hsize
  have HW := hide hW0
  have HB := hide hB0
  clear hW0 hB0 hsize qa ql ha hb
  by_cases h : M.rowF xs = 0
  · rw [err_nil h] at C
    by_cases hl : ss.length = xs.length
    · obtain ⟨e1, e2⟩ := M.fit_ok h hl
      have l8 : xs.length ≤ 8 := ((M.row_ok xs).1 h).1
      have q : ((ss.length : Int) != (xs.length : Int)) = false := by rw [bne_eq_false_iff_eq]; omega
      have AP : Hid (∀ W, Below W0.heap.size W0 W → Calls Try.prog 35 #[.slice a xs.length ca, .func (.func 36) #[] #[.pointer (some ⟨w.heap.size, 0, none⟩), .pointer (some ⟨w.heap.size + 1, 0, none⟩)]] W fun e w' => e = .returned (.bool ((List.range xs.length).any (M.outAt xs ss))) ∧ Below W.heap.size W w') := fun W hW =>
        anyplace_any a xs.length ca _ _ (M.outAt xs ss) W l8 (fits_places a b xs ss ca cb _ _ W (RA.out W hW) (RS.out W hW) hl (QA.out W hW) (QL.out W hW) (by have := hW.size; have := HS.out; omega) (by have := hW.size; have := HS.out; omega))
      rw [e1, e2, err_nil rfl]
      clear h hl e1 e2 RA RS
      generalize (List.range xs.length).any (M.outAt xs ss) = r at *
      go_enter Try.func19, Try.ntmps19
      go_wp2_with (first
        | (go_at_call 20; rw [← HW.out]; refine C.out.mono ?_; rintro e w1 ⟨rfl, hb1⟩; have qa := QA.out w1 hb1; have ql := QL.out w1 hb1)
        | (go_at_call 35; refine (AP.out _ hb1).mono ?_; rintro e w2 ⟨rfl, hb2⟩))
      go_ret2
      exact ⟨rfl, HB.out.trans ((below_on hb1 hb2).mono HB.out.size)⟩
    · obtain ⟨e1, e2⟩ := M.fit_len h hl
      have q : ((ss.length : Int) != (xs.length : Int)) = true := by rw [bne_iff_ne]; omega
      rw [e1, e2, err_some (by decide)]
      clear h hl e1 e2 RA RS
      go_enter Try.func19, Try.ntmps19
      go_wp2_with (go_at_call 20; rw [← HW.out]; refine C.out.mono ?_; rintro e w1 ⟨rfl, hb1⟩; have qa := QA.out w1 hb1; have ql := QL.out w1 hb1)
      go_ret2
      exact ⟨rfl, HB.out.trans (hb1.mono HB.out.size)⟩
  · obtain ⟨e1, e2⟩ := M.fit_row (ss := ss) h
    rw [err_some h] at C
    rw [e1, e2, err_some h]
    clear h e1 e2 RA RS
    generalize M.rowF xs = c at *
    go_enter Try.func19, Try.ntmps19
    go_wp2_with (go_at_call 20; rw [← HW.out]; refine C.out.mono ?_; rintro e w1 ⟨rfl, hb1⟩; have qa := QA.out w1 hb1; have ql := QL.out w1 hb1)
    go_ret2
    exact ⟨rfl, HB.out.trans (hb1.mono HB.out.size)⟩

end Go.Proofs.Ythbeoaninipadaf
