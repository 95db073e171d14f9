/-
  What the library's slices.Index and slices.Contains answer of numbers, for every list.
-/
import Derived.Test.YthbeoaninipadafBase
namespace Go.Proofs.Ythbeoaninipadaf
open Go.ChangeShapes Go.WideShapes Go.ChangeAt Go.RowKit Go.Lib
set_option linter.unusedVariables false

theorem getD_in (xs : List Int) {k : Nat} (h : k < xs.length) : xs.getD k 0 = xs[k] := by simp [List.getD, List.getElem?_eq_getElem h]

set_option maxHeartbeats 1000000 in
theorem gindex_any (a : Option Addr) (xs : List Int) (ca : Nat) (x : Int) (w : World) (h : Rd w a xs) :
    Calls Try.prog 65 #[.slice a xs.length ca, .int .i64 x] w fun e w' => ∃ n : Int, e = .returned (.int .i64 n) ∧ (0 ≤ n ↔ x ∈ xs) ∧ w' = w := by
  have hm : xs.length ≤ 9223372036854775807 := h.1
  have H := hide h
  clear h
  go_enter Try.func65, Try.ntmps65
  go_wp2
  go_loopw [5, 8] (fun _ i wr => ∃ k : Nat, k ≤ xs.length ∧ i = .int .i64 k ∧ Hid (∀ j, j < k → xs.getD j 0 ≠ x) ∧ Hid (wr = w)) (fun _ i _ => xs.length - (intOf i).toNat)
  case atStart => exact ⟨0, Nat.zero_le _, rfl, fun j hj => absurd hj (Nat.not_lt_zero _), rfl⟩
  case round =>
    obtain ⟨k, hk, rfl, HJ, W⟩ := hrel
    have we := W.out.symm
    subst we
    by_cases hlt : k < xs.length
    · obtain ⟨b, off, rfl, hb, hc⟩ := H.out.2 (by intro e; rw [e] at hlt; simp at hlt)
      have hck := hc k hlt
      have kz : (k : Int) < (xs.length : Int) := by omega
      by_cases he : x = xs.getD k 0
      · have q : (x == xs.getD k 0) = true := by rw [beq_iff_eq]; exact he
        have IN : Hid (x ∈ xs) := by unfold Hid; rw [he, getD_in xs hlt]; exact List.getElem_mem _
        clear hc he HJ H
        generalize xs.getD k 0 = v at *
        go_wp2
        go_ret
        exact ⟨_, rfl, ⟨fun _ => IN.out, fun _ => by omega⟩, rfl⟩
      · have q : (x == xs.getD k 0) = false := by rw [beq_eq_false_iff_ne]; exact he
        have HK : Hid (∀ j, j < k + 1 → xs.getD j 0 ≠ x) := fun j hj => by
          by_cases e : j = k
          · subst e; exact fun z => he z.symm
          · exact HJ.out j (by omega)
        clear hc he HJ H
        generalize xs.getD k 0 = v at *
        go_wp2
        go_roundw
        case rel => exact ⟨k + 1, by omega, by go_num, HK, (by first | rfl | trivial)⟩
        case measure => simp [intOf]; omega
    · have NI : Hid (x ∉ xs) := fun hx => by
        obtain ⟨j, hj, e⟩ := List.getElem_of_mem hx
        exact HJ.out j (by omega) (by rw [getD_in xs hj]; exact e)
      clear HJ H
      go_wp2
      go_ret
      exact ⟨_, rfl, ⟨fun q => absurd q (by decide), fun q => absurd q NI.out⟩, rfl⟩

theorem gcontains_any (a : Option Addr) (xs : List Int) (ca : Nat) (x : Int) (w : World) (h : Rd w a xs) :
    Calls Try.prog 50 #[.slice a xs.length ca, .int .i64 x] w fun e w' => e = .returned (.bool (decide (x ∈ xs))) ∧ w' = w := by
  have C := hide (gindex_any a xs ca x w h)
  clear h
  go_enter Try.func50, Try.ntmps50
  go_wp2_with (go_at_call 65; refine C.out.mono ?_; rintro e w1 ⟨n, rfl, hn, e1⟩; have HN := hide hn; clear hn; have e1' := e1.symm; subst e1')
  go_ret
  exact ⟨ret_bool (by rw [Bool.eq_iff_iff, decide_eq_true_eq, decide_eq_true_eq]; exact HN.out), rfl⟩

end Go.Proofs.Ythbeoaninipadaf
