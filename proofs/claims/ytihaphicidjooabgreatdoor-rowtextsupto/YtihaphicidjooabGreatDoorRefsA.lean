/-
  What the reference's Cell and Bin answer, for every number and every list.
-/
import Derived.Test.YtihaphicidjooabGreatDoorBase
import Derived.Test.YtihaphicidjooabGreatDoorCheck
import Derived.BigQuiet
import Derived.Deep.QuietTactic
namespace Go.Proofs.YtihaphicidjooabGreatDoor
open Go.ChangeShapes Go.WideShapes Go.ChangeAt Go.RowKit
set_option linter.unusedVariables false

theorem rcell_any (x : Int) (w : World) : Calls Tryz.prog 17 #[.int .i64 x] w fun e w' => e = .returned (.bool (!M.outI x)) ∧ w' = w := by
  by_cases h1 : -1000000 ≤ x
  · have E : Hid (decide (x ≤ 1000000) = !M.outI x) := by
      unfold Hid M.outI
      rw [decide_eq_false (show ¬ x < -1000000 by omega), Bool.false_or]
      by_cases h : x ≤ 1000000
      · rw [decide_eq_true h, decide_eq_false (by omega)]; rfl
      · rw [decide_eq_false h, decide_eq_true (by omega)]; rfl
    have h1' : decide (-1000000 ≤ x) = true := decide_eq_true h1
    clear h1
    go_enter Tryz.func17, Tryz.ntmps17
    go_wp2
    go_ret
    exact ⟨ret_bool E.out, rfl⟩
  · have E : Hid (false = !M.outI x) := by
      unfold Hid M.outI
      rw [decide_eq_true (show x < -1000000 by omega)]; rfl
    have h1' : decide (-1000000 ≤ x) = false := decide_eq_false h1
    clear h1
    go_enter Tryz.func17, Tryz.ntmps17
    go_wp2
    go_ret
    exact ⟨ret_bool E.out, rfl⟩

theorem cnt_take {xs : List Int} {x : Int} {k : Nat} (h : k < xs.length) : M.binI (xs.take (k + 1)) x = M.binI (xs.take k) x + (if xs[k] ≤ x then 1 else 0) := by
  unfold M.binI
  rw [List.take_succ_eq_append_getElem h, List.countP_append]
  simp [List.countP_cons]

set_option maxHeartbeats 1000000 in
theorem rbin_any (a : Option Addr) (xs : List Int) (cap : Nat) (x : Int) (w : World) (h : Rd w a xs) :
    Calls Tryz.prog 15 #[.slice a xs.length cap, .int .i64 x] w fun e w' => e = .returned (.int .i64 (M.binI xs x : Nat)) ∧ w' = w := by
  obtain ⟨hm, hr⟩ := h
  unfold maxLen at hm
  by_cases hx : xs = []
  · subst hx
    go_enter Tryz.func15, Tryz.ntmps15
    go_wp2
    refine wp_loop_rounds 1 ?_
    rw [rounds_succ]
    go_wp2
    go_ret
    exact ⟨rfl, rfl⟩
  · obtain ⟨b, off, rfl, hb, hc⟩ := hr hx
    have HC := hide hc
    clear hr hx hc
    go_enter Tryz.func15, Tryz.ntmps15
    go_wp2
    go_loop [5, 6] (fun s i => ∃ k : Nat, k ≤ xs.length ∧ i = .int .i64 k ∧ s = .int .i64 (M.binI (xs.take k) x : Nat)) (fun _ i => xs.length - (intOf i).toNat)
    case atStart => exact ⟨0, Nat.zero_le _, rfl, rfl⟩
    case round =>
      obtain ⟨k, hk, rfl, rfl⟩ := hrel
      by_cases hlt : k < xs.length
      · have hck := Rd.at HC.out k hlt
        have N := cnt_take (x := x) hlt
        have hle : M.binI (xs.take k) x ≤ k := Nat.le_trans (M.bin_le _ _) (by rw [List.length_take]; omega)
        by_cases hy : xs[k] ≤ x
        · rw [if_pos hy] at N
          have NN := hide N
          have hd : decide (xs[k] ≤ x) = true := decide_eq_true hy
          clear N hy
          generalize M.binI (xs.take k) x = r at *
          generalize xs[k] = y at *
          go_wp2
          go_round
          case rel => exact ⟨k + 1, by omega, by go_num, by rw [NN.out]; simp⟩
          case measure => simp [intOf]; omega
        · rw [if_neg hy] at N
          have NN := hide N
          have hd : decide (xs[k] ≤ x) = false := decide_eq_false hy
          clear N hy
          generalize M.binI (xs.take k) x = r at *
          generalize xs[k] = y at *
          go_wp2
          go_round
          case rel => exact ⟨k + 1, by omega, by go_num, by rw [NN.out]; simp⟩
          case measure => simp [intOf]; omega
      · have e : xs.take k = xs := List.take_of_length_le (by omega)
        rw [e]
        clear e
        go_wp2
        go_ret
        exact ⟨rfl, rfl⟩

end Go.Proofs.YtihaphicidjooabGreatDoor
