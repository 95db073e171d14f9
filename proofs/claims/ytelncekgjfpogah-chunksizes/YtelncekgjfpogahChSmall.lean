/-
  What package chunk's Sum, isSize, partOf and isPiece answer, for all that they may be given.
-/
import Derived.Test.YtelncekgjfpogahByCells
import Derived.Test.YtelncekgjfpogahMathKa
namespace Go.Proofs.Ytelncekgjfpogah
open Go.ChangeShapes Go.WideShapes Go.ChangeAt Go.RowKit Go.Lib
set_option linter.unusedVariables false

theorem M.sumT_take {b : List Nat} {k : Nat} (h : k < b.length) : M.bsmK 7 (b.take (k + 1)) = (M.bsmK 7 (b.take k) * 31 + b.getD k 0 + 1) % 1000003 := by
  have e : b.getD k 0 = b[k] := by simp [List.getD, h]
  rw [List.take_succ_eq_append_getElem h, M.bsmK_more, e]

set_option maxHeartbeats 4000000 in
set_option maxRecDepth 10000 in
theorem chsum_same (a : Option Addr) (bs : List Nat) (ca : Nat) (w : World) (h : RdB w a bs) :
    Calls Try.prog 9 #[.slice a bs.length ca] w fun e w' => e = .returned (.int .i64 (M.sumF bs : Nat)) ∧ w' = w := by
  have hm : bs.length ≤ 9223372036854775807 := h.1
  have HB := hide h
  have E0 : Hid (M.sumF bs = M.bsmK 7 bs) := rfl
  have ST := hide (fun k (hk : k < bs.length) => M.sumT_take (b := bs) hk)
  have LT := hide (fun k => M.bsmK_lt (bs.take k) 7 (by decide))
  have B8 : Hid (∀ i, i < bs.length → bs.getD i 0 < 256) := fun i hi => h.2.1 _ (by rw [show bs.getD i 0 = bs[i] by simp [List.getD, hi]]; exact List.getElem_mem hi)
  clear h
  go_enter Try.func9, Try.ntmps9
  go_wp2
  go_loopw [3, 8] (fun v i wr => ∃ k : Nat, k ≤ bs.length ∧ i = .int .i64 k ∧ v = .int .i64 (M.bsmK 7 (bs.take k) : Nat) ∧ Hid (wr = w)) (fun _ i _ => bs.length - (intOf i).toNat)
  case atStart => exact ⟨0, Nat.zero_le _, rfl, rfl, rfl⟩
  case round =>
    obtain ⟨k, hk, rfl, rfl, EW⟩ := hrel
    have ew := EW.out
    subst ew
    by_cases hlt : k < bs.length
    · have kz : (k : Int) < (bs.length : Int) := by omega
      obtain ⟨b, off, rfl, hb, hc⟩ := HB.out.2.2 (by intro e; rw [e] at hlt; simp at hlt)
      have c0 := hc k hlt
      unfold byV at c0
      have c8 := B8.out k hlt
      have nl := LT.out k
      have st := hide (ST.out k hlt)
      generalize bs.getD k 0 = c at *
      generalize M.bsmK 7 (bs.take k) = n at *
      have rm : Int.tmod (31 * (n : Int) + (c : Int) + 1) 1000003 = (((n * 31 + c + 1) % 1000003 : Nat) : Int) := by rw [Int.tmod_eq_emod_of_nonneg (by omega)]; omega
      clear hc HB E0 ST LT B8
      go_wp2
      go_roundw
      case rel => exact ⟨k + 1, by omega, by go_num, by rw [st.out]; exact congrArg _ (by omega), (by first | rfl | trivial)⟩
      case measure => simp [intOf]; omega
    · have ek : k = bs.length := by omega
      have kz : ¬ ((k : Int) < (bs.length : Int)) := by omega
      have es : M.bsmK 7 (bs.take k) = M.sumF bs := by rw [ek, List.take_length]; rfl
      rw [es]
      clear ek es ST LT B8 HB E0
      go_wp2
      go_ret
      exact ⟨rfl, rfl⟩

theorem chsize_any (n : Int) (w : World) : Calls Try.prog 13 #[.int .i64 n] w fun e w' => e = .returned (.bool (decide (1 ≤ n ∧ n ≤ 6000))) ∧ w' = w := by
  by_cases q1 : 1 ≤ n
  · by_cases q2 : n ≤ 6000
    · have E : Hid (decide (1 ≤ n ∧ n ≤ 6000) = true) := decide_eq_true ⟨q1, q2⟩
      have t1 : decide (1 ≤ n) = true := decide_eq_true q1
      have t2 : decide (n ≤ 6000) = true := decide_eq_true q2
      go_enter Try.func13, Try.ntmps13
      go_wp2
      go_ret
      exact ⟨by first | rfl | (rw [E.out]; rfl), rfl⟩
    · have E : Hid (decide (1 ≤ n ∧ n ≤ 6000) = false) := decide_eq_false (fun h => q2 h.2)
      have t1 : decide (1 ≤ n) = true := decide_eq_true q1
      have t2 : decide (n ≤ 6000) = false := decide_eq_false q2
      go_enter Try.func13, Try.ntmps13
      go_wp2
      go_ret
      exact ⟨by first | rfl | (rw [E.out]; rfl), rfl⟩
  · have E : Hid (decide (1 ≤ n ∧ n ≤ 6000) = false) := decide_eq_false (fun h => q1 h.1)
    have t1 : decide (1 ≤ n) = false := decide_eq_false q1
    go_enter Try.func13, Try.ntmps13
    go_wp2
    go_ret
    exact ⟨by first | rfl | (rw [E.out]; rfl), rfl⟩

set_option maxHeartbeats 4000000 in
theorem chpart_any (a : Option Addr) (bs : List Nat) (ca : Nat) (w : World) (h : RdB w a bs) :
    Calls Try.prog 14 #[.slice a bs.length ca] w fun e w' => e = .returned (.agg #[.int .i64 (bs.length : Nat), .int .i64 (M.sumF bs : Nat)]) ∧ Below w.heap.size w w' := by
  have hm : bs.length ≤ 9223372036854775807 := h.1
  have SS : Hid (∀ W, Below w.heap.size w W → Calls Try.prog 9 #[.slice a bs.length ca] W fun e w' => e = .returned (.int .i64 (M.sumF bs : Nat)) ∧ w' = W) := fun W hW => chsum_same a bs ca W (h.below hW)
  have B0 : Hid (∀ o, Below w.heap.size w (w.alloc o)) := fun o => (Below.refl _ _).alloc (Nat.le_refl _) _
  have B1 : Hid (∀ o j v, Below w.heap.size w ((w.alloc o).setCell ⟨w.heap.size, j, none⟩ v)) := fun o j v => (B0.out o).setCell (by simp) _
  have sl := M.sum_lt bs
  clear h
  generalize M.sumF bs = sm at *
  go_enter Try.func14, Try.ntmps14
  go_wp2_with (go_at_call 9; refine (SS.out _ (B0.out _)).mono ?_; rintro e w1 ⟨rfl, e1⟩; subst w1)
  have e0 : (w.alloc (.cells #[.int .i64 (bs.length : Nat), .int .i64 (sm : Nat)] 34)).cell? ⟨w.heap.size, 0, none⟩ = some (.int .i64 (bs.length : Nat)) := World.cell?_alloc_at _ _ _ 0 rfl
  have e1 : (w.alloc (.cells #[.int .i64 (bs.length : Nat), .int .i64 (sm : Nat)] 34)).cell? ⟨w.heap.size, 1, none⟩ = some (.int .i64 (sm : Nat)) := World.cell?_alloc_at _ _ _ 1 rfl
  refine bodyPost_ret (v := .agg #[.int .i64 (bs.length : Nat), .int .i64 (sm : Nat)]) (by simp [results, Try.results14, go_sem, e0, e1]) rfl ?_
  exact ⟨rfl, B0.out _⟩

end Go.Proofs.Ytelncekgjfpogah
