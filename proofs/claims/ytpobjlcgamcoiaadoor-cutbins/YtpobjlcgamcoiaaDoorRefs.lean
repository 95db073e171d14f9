/-
  What package orchref1's Cell, Cuts, Values and Bin answer, for every list.
-/
import Derived.Test.YtpobjlcgamcoiaaDoorBase
import Derived.Test.YtpobjlcgamcoiaaDoorMathV
import Derived.Test.YtpobjlcgamcoiaaDoorCheck
import Derived.BigQuiet
import Derived.Deep.QuietTactic
namespace Go.Proofs.YtpobjlcgamcoiaaDoor
open Go.ChangeShapes Go.WideShapes Go.ChangeAt Go.RowKit
set_option linter.unusedVariables false

theorem rcell_any (x : Int) (w : World) : Calls Tryd.prog 11 #[.int .i64 x] w fun e w' => e = .returned (.bool (!M.outI x)) ∧ w' = w := by
  by_cases h1 : -1000000 ≤ x
  · have E : Hid (decide (x ≤ 1000000) = !M.outI x) := by
      unfold Hid M.outI
      rw [decide_eq_false (show ¬ x < -1000000 by omega), Bool.false_or]
      by_cases h : x ≤ 1000000
      · rw [decide_eq_true h, decide_eq_false (by omega)]; rfl
      · rw [decide_eq_false h, decide_eq_true (by omega)]; rfl
    have h1' : decide (-1000000 ≤ x) = true := decide_eq_true h1
    clear h1
    go_enter Tryd.func11, Tryd.ntmps11
    go_wp2
    go_ret
    exact ⟨ret_bool E.out, rfl⟩
  · have E : Hid (false = !M.outI x) := by
      unfold Hid M.outI
      rw [decide_eq_true (show x < -1000000 by omega)]; rfl
    have h1' : decide (-1000000 ≤ x) = false := decide_eq_false h1
    clear h1
    go_enter Tryd.func11, Tryd.ntmps11
    go_wp2
    go_ret
    exact ⟨ret_bool E.out, rfl⟩

theorem vals_hit {xs : List Int} {k : Nat} (h : k < xs.length) (hl : xs.length ≤ 1000) (ho : M.outI xs[k] = true) : M.valsI xs = 1 := by
  unfold M.valsI
  rw [if_neg (by omega), List.any_eq_true.2 ⟨_, List.getElem_mem h, ho⟩]; rfl
theorem vals_miss {xs : List Int} {k : Nat} (hk : xs.length ≤ k) (hl : xs.length ≤ 1000) (h : (xs.take k).any M.outI = false) : M.valsI xs = 0 := by
  rw [List.take_of_length_le hk] at h
  unfold M.valsI
  rw [if_neg (by omega), h]; rfl
theorem any_next {xs : List Int} {k : Nat} (hk : k < xs.length) (h : (xs.take k).any M.outI = false) (ho : M.outI xs[k] = false) : (xs.take (k + 1)).any M.outI = false := by
  rw [List.take_succ_eq_append_getElem hk, List.any_append, h]; simp [ho]

set_option maxHeartbeats 1000000 in
theorem rvals_any (a : Option Addr) (xs : List Int) (cap : Nat) (w : World) (h : Rd w a xs) :
    Calls Tryd.prog 7 #[.slice a xs.length cap] w fun e w' => e = .returned (.int .i64 (M.valsI xs)) ∧ w' = w := by
  obtain ⟨hm, hr⟩ := h
  unfold maxLen at hm
  by_cases h1 : 1000 < xs.length
  · have E : Hid (4 = M.valsI xs) := by unfold Hid M.valsI; rw [if_pos h1]
    have hd : decide ((1000 : Int) < (xs.length : Int)) = true := by simp; omega
    clear hr
    go_enter Tryd.func7, Tryd.ntmps7
    go_wp2
    go_ret
    exact ⟨ret_int E.out, rfl⟩
  · have hd : decide ((1000 : Int) < (xs.length : Int)) = false := by simp; omega
    by_cases hx : xs = []
    · subst hx
      go_enter Tryd.func7, Tryd.ntmps7
      go_wp2
      refine wp_loop_rounds 1 ?_
      rw [rounds_succ]
      go_wp2
      go_ret
      exact ⟨rfl, rfl⟩
    · obtain ⟨b, off, rfl, hb, hc⟩ := hr hx
      have HC := hide hc
      have hl : xs.length ≤ 1000 := by omega
      clear hr hx hc h1
      go_enter Tryd.func7, Tryd.ntmps7
      go_wp2
      go_loop [3] (fun i => ∃ k : Nat, k ≤ xs.length ∧ i = .int .i64 k ∧ Hid ((xs.take k).any M.outI = false)) (fun i => xs.length - (intOf i).toNat)
      case atStart => exact ⟨0, Nat.zero_le _, rfl, by unfold Hid; simp⟩
      case round =>
        obtain ⟨k, hk, rfl, I⟩ := hrel
        by_cases hlt : k < xs.length
        · have hck := Rd.at HC.out k hlt
          have O := hide (rcell_any xs[k])
          cases ho : M.outI xs[k] with
          | true =>
            have E := hide (vals_hit hlt hl ho).symm
            rw [ho] at O
            clear ho
            generalize xs[k] = y at *
            go_wp2_with (go_at_call 11; refine (O.out _).mono ?_; rintro e w' ⟨rfl, rfl⟩)
            go_ret
            exact ⟨ret_int E.out, rfl⟩
          | false =>
            have E := hide (any_next hlt I.out ho)
            rw [ho] at O
            clear ho
            generalize xs[k] = y at *
            go_wp2_with (go_at_call 11; refine (O.out _).mono ?_; rintro e w' ⟨rfl, rfl⟩)
            go_round
            case rel => exact ⟨k + 1, by omega, by go_num, E⟩
            case measure => simp [intOf]; omega
        · have E := hide (vals_miss (by omega) hl I.out).symm
          go_wp2
          go_ret
          exact ⟨ret_int E.out, rfl⟩

theorem cnt_take {xs : List Int} {x : Int} {k : Nat} (h : k < xs.length) : M.binI (xs.take (k + 1)) x = M.binI (xs.take k) x + (if xs[k] ≤ x then 1 else 0) := by
  unfold M.binI
  rw [List.take_succ_eq_append_getElem h, List.countP_append]
  simp [List.countP_cons]

set_option maxHeartbeats 1000000 in
theorem rbin_any (a : Option Addr) (xs : List Int) (cap : Nat) (x : Int) (w : World) (h : Rd w a xs) :
    Calls Tryd.prog 12 #[.slice a xs.length cap, .int .i64 x] w fun e w' => e = .returned (.int .i64 (M.binI xs x : Nat)) ∧ w' = w := by
  obtain ⟨hm, hr⟩ := h
  unfold maxLen at hm
  by_cases hx : xs = []
  · subst hx
    go_enter Tryd.func12, Tryd.ntmps12
    go_wp2
    refine wp_loop_rounds 1 ?_
    rw [rounds_succ]
    go_wp2
    go_ret
    exact ⟨rfl, rfl⟩
  · obtain ⟨b, off, rfl, hb, hc⟩ := hr hx
    have HC := hide hc
    clear hr hx hc
    go_enter Tryd.func12, Tryd.ntmps12
    go_wp2
    go_loop [5, 6] (fun s i => ∃ k : Nat, k ≤ xs.length ∧ i = .int .i64 k ∧ s = .int .i64 (M.binI (xs.take k) x : Nat)) (fun _ i => xs.length - (intOf i).toNat)
    case atStart => exact ⟨0, Nat.zero_le _, rfl, rfl⟩
    case round =>
      obtain ⟨k, hk, rfl, rfl⟩ := hrel
      by_cases hlt : k < xs.length
      · have hck := Rd.at HC.out k hlt
        have N := cnt_take (x := x) hlt
        have hle : M.binI (xs.take k) x ≤ k := Nat.le_trans (M.bin_le _ _) (by rw [List.length_take]; omega)
        by_cases hy : xs[k] ≤ x
        · rw [if_pos hy] at N
          have NN := hide N
          have hd : decide (xs[k] ≤ x) = true := decide_eq_true hy
          clear N hy
          generalize M.binI (xs.take k) x = r at *
          generalize xs[k] = y at *
          go_wp2
          go_round
          case rel => exact ⟨k + 1, by omega, by go_num, by rw [NN.out]; simp⟩
          case measure => simp [intOf]; omega
        · rw [if_neg hy] at N
          have NN := hide N
          have hd : decide (xs[k] ≤ x) = false := decide_eq_false hy
          clear N hy
          generalize M.binI (xs.take k) x = r at *
          generalize xs[k] = y at *
          go_wp2
          go_round
          case rel => exact ⟨k + 1, by omega, by go_num, by rw [NN.out]; simp⟩
          case measure => simp [intOf]; omega
      · have e : xs.take k = xs := List.take_of_length_le (by omega)
        rw [e]
        clear e
        go_wp2
        go_ret
        exact ⟨rfl, rfl⟩

end Go.Proofs.YtpobjlcgamcoiaaDoor
