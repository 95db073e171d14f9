/-
  What package orchref1's Cuts answers, for every list.
-/
import Derived.Test.YtihaphicidjooabGreatDoorRefsA
namespace Go.Proofs.YtihaphicidjooabGreatDoor
open Go.ChangeShapes Go.WideShapes Go.ChangeAt Go.RowKit
set_option linter.unusedVariables false

set_option maxHeartbeats 2000000 in
theorem rcuts_any (a : Option Addr) (xs : List Int) (cap : Nat) (w : World) (h : Rd w a xs) :
    Calls Tryz.prog 14 #[.slice a xs.length cap] w fun e w' => e = .returned (.int .i64 (M.cutsI xs)) ∧ Below w.heap.size w w' := by
  obtain ⟨hm, hr⟩ := h
  unfold maxLen at hm
  by_cases h60 : 60 < xs.length
  · have E := hide (M.cuts_many xs h60).symm
    have hd : decide ((60 : Int) < (xs.length : Int)) = true := by simp; omega
    clear hr
    go_enter Tryz.func14, Tryz.ntmps14
    go_wp2
    go_ret
    exact ⟨ret_int E.out, Below.refl _ _⟩
  · have hd : decide ((60 : Int) < (xs.length : Int)) = false := by simp; omega
    have Z := hide (M.badFrom_zero xs (by omega))
    by_cases hx : xs = []
    · subst hx
      go_enter Tryz.func14, Tryz.ntmps14
      go_wp2
      refine wp_loop_rounds 1 ?_
      rw [rounds_succ]
      go_wp2
      go_ret
      exact ⟨rfl, Below.refl _ _⟩
    · obtain ⟨b, off, rfl, hb, hc⟩ := hr hx
      clear hr hx
      have HC := hide hc
      clear hc
      go_enter Tryz.func14, Tryz.ntmps14
      go_wp2
      go_loopw [3] (fun i wr => ∃ k : Nat, k ≤ xs.length ∧ i = .int .i64 k ∧ Below w.heap.size w wr ∧ Hid (M.badFrom xs k = M.cutsI xs)) (fun i _ => xs.length - (intOf i).toNat)
      case atStart => exact ⟨0, Nat.zero_le _, rfl, Below.refl _ _, Z⟩
      case round =>
        obtain ⟨k, hk, rfl, hbl, I⟩ := hrel
        by_cases hlt : k < xs.length
        · have hck := (hbl.cell (p := ⟨b, off + k, none⟩) hb).trans (Rd.at HC.out k hlt)
          have O := hide (rcell_any xs[k])
          cases ho : M.outI xs[k] with
          | true =>
            have E := hide (M.badFrom_out xs k hlt ho)
            rw [ho] at O
            clear ho
            generalize xs[k] = y at *
            go_wp2_with (go_at_call 17; refine (O.out _).mono ?_; rintro e w' ⟨rfl, rfl⟩)
            go_ret
            exact ⟨ret_int (by rw [← I.out, E.out]), hbl⟩
          | false =>
            rw [ho] at O
            rcases k with _ | j
            · have E := hide (M.badFrom_first xs hlt ho)
              clear ho
              generalize xs[0] = y at *
              rw [Nat.add_zero] at hck
              have hk0 : decide ((0 : Int) < ((0 : Nat) : Int)) = false := by simp
              go_wp2_with (go_at_call 17; refine (O.out _).mono ?_; rintro e w' ⟨rfl, rfl⟩)
              go_quiet (fail)
              go_wp2
              go_roundw
              case rel => exact ⟨1, by omega, by go_num, below_drew hbl _ hbl.size, E.out.symm.trans I.out⟩
              case measure => simp [intOf]; omega
            · have hcj := (hbl.cell (p := ⟨b, off + j, none⟩) hb).trans (Rd.at HC.out j (by omega))
              have hjlt : j < xs.length := by omega
              have hk0 : decide ((0 : Int) < ((j + 1 : Nat) : Int)) = true := decide_eq_true (by omega)
              by_cases hf : xs[j + 1] ≤ xs[j]
              · have E := hide (M.badFrom_fall xs j hlt ho hf)
                have hf' : decide (xs[j + 1] ≤ xs[j]) = true := decide_eq_true hf
                clear ho hf
                generalize xs[j + 1] = y at *
                generalize xs[j] = z at *
                go_wp2_with (go_at_call 17; refine (O.out _).mono ?_; rintro e w' ⟨rfl, rfl⟩)
                go_quiet (fail)
                go_wp2
                go_ret
                exact ⟨ret_int (by rw [← I.out, E.out]), below_drew hbl _ hbl.size⟩
              · have E := hide (M.badFrom_next xs j hlt ho (by omega))
                have hf' : decide (xs[j + 1] ≤ xs[j]) = false := decide_eq_false hf
                clear ho hf
                generalize xs[j + 1] = y at *
                generalize xs[j] = z at *
                go_wp2_with (go_at_call 17; refine (O.out _).mono ?_; rintro e w' ⟨rfl, rfl⟩)
                go_quiet (fail)
                go_wp2
                go_roundw
                case rel => exact ⟨j + 1 + 1, by omega, by go_num, below_drew hbl _ hbl.size, E.out.symm.trans I.out⟩
                case measure => simp [intOf]; omega
        · have E := hide (M.badFrom_end xs k (by omega))
          go_wp2
          go_ret
          exact ⟨ret_int (by rw [← I.out, E.out]), hbl⟩

end Go.Proofs.YtihaphicidjooabGreatDoor
