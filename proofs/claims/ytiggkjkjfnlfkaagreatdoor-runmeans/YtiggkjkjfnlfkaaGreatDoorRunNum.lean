/-
  What package run's readNumber answers, for every word; package strconv's variables and run's own error lie as they are laid.
-/
import Derived.Test.YtiggkjkjfnlfkaaGreatDoorRunMa
import Derived.Test.YtiggkjkjfnlfkaaGreatDoorAtoi
import Derived.Deep.QuietTactic
import Derived.BigQuiet
namespace Go.Proofs.YtiggkjkjfnlfkaaGreatDoor
open Go.ChangeShapes Go.WideShapes Go.ChangeAt Go.RowKit Go.Shelf Go.Lib Go.Sort
set_option linter.unusedVariables false

/-- package run's own error: a pointer to its text -/
def badV (t : TypeId) (a : Addr) : Value := .iface t (.pointer (some a))
/-- what the variables hold: those of package strconv, package run's error, what package bytealg knows of the machine -/
structure LiesR (w : World) (eb : Value) : Prop where
  l : Lies w
  bad : w.cell? ⟨1, 0, none⟩ = some eb
  ml : ∃ m, w.cell? ⟨2, 0, none⟩ = some (.int .i64 m)
theorem LiesR.below {w w' : World} {eb : Value} (h : LiesR w eb) (hb : Below w.heap.size w w') : LiesR w' eb := by
  obtain ⟨m, hm⟩ := h.ml
  exact ⟨h.l.below hb, (hb.cell (p := ⟨1, 0, none⟩) (block_lt_of_cell h.bad)).trans h.bad, m, (hb.cell (p := ⟨2, 0, none⟩) (block_lt_of_cell hm)).trans hm⟩
/-- an answer's error -/
def errR (q : Bool) (eb : Value) : Value := if q then .nilIface else eb
theorem itoa_nine (n : Int) (w : World) (h : -999999999 ≤ n ∧ n ≤ 999999999) (hL : Lies w) :
    Calls Tryz.prog 166 #[.int .i64 n] w fun e w' => e = .returned (.string (bs (Lib.itoa n))) ∧ Below w.heap.size w w' := by
  refine (Tryz.strconv_Itoa n (by omega) (by omega) w hL.2.2).mono ?_
  rintro e w' ⟨rfl, k, os, rfl⟩
  exact ⟨rfl, below_grow w k os⟩

set_option maxHeartbeats 4000000 in
theorem rdnum_any (s : ByteArray) (w : World) (eb : Value) (hs : s.size ≤ 281474976710656) (hL : LiesR w eb) :
    Calls Tryz.prog 168 #[.string s] w fun e w' => e = .returned (.tuple #[.int .i64 ((M.numR s.data.toList).getD 0), errR (M.numR s.data.toList).isSome eb]) ∧ Below w.heap.size w w' := by
  have EB : Hid (∀ V, Below w.heap.size w V → V.cell? ⟨1, 0, none⟩ = some eb) := fun V hV => (hL.below hV).bad
  by_cases hA : ∃ n, Lib.atoiAll s.data.toList = .ok n
  · obtain ⟨n, hn⟩ := hA
    have A := hide (atoi_good s n w hs hn)
    have E2 := hide (M.numR_ok hn)
    clear hn
    by_cases ho : -999999999 ≤ n ∧ n ≤ 999999999
    · have IT : Hid (∀ W, Below w.heap.size w W → Calls Tryz.prog 166 #[.int .i64 n] W fun e w' => e = .returned (.string (bs (Lib.itoa n))) ∧ Below W.heap.size W w') := fun W hW => itoa_nine n W ho (hL.l.below hW)
      have d1 : decide (n < -999999999) = false := decide_eq_false (by omega)
      have d2 : decide (999999999 < n) = false := decide_eq_false (by omega)
      by_cases he : Lib.itoa n = s.data.toList
      · rw [E2.out, if_pos ⟨ho, he⟩]
        rw [he, bs_self] at IT
        have sq : (s.toList == s.toList) = true := by rw [beq_iff_eq]
        have sq' : (s.toList != s.toList) = false := by rw [bne, sq]; rfl
        clear E2 ho hL he
        unfold errR
        go_enter Tryz.func168, Tryz.ntmps168
        go_wp2_with (first
          | (go_at_call 194; refine A.out.mono ?_; rintro e w1 ⟨rfl, hb1⟩)
          | (go_at_call 166; refine (IT.out _ hb1).mono ?_; rintro e w3 ⟨rfl, hb3⟩))
        go_ret2
        exact ⟨rfl, below_on hb1 hb3⟩
      · rw [E2.out, if_neg (by rintro ⟨_, h2⟩; exact he h2)]
        have q1 : ((bs (Lib.itoa n)).toList == s.toList) = false := by rw [beq_eq_false_iff_ne, toList_data, toList_data, bs_list]; exact he
        have q2 : ((bs (Lib.itoa n)).toList != s.toList) = true := by rw [bne_iff_ne, toList_data, toList_data, bs_list]; exact he
        clear E2 ho hL he
        unfold errR
        generalize bs (Lib.itoa n) = t at *
        go_enter Tryz.func168, Tryz.ntmps168
        go_upto_region 3 with (first
          | (go_at_call 194; refine A.out.mono ?_; rintro e w1 ⟨rfl, hb1⟩)
          | (go_at_call 166; refine (IT.out _ hb1).mono ?_; rintro e w3 ⟨rfl, hb3⟩))
        have B3 := hide (below_on hb1 hb3)
        have cb := EB.out _ B3.out
        clear A IT EB hb1 hb3
        go_quiet (fail)
        go_wp2
        go_ret2
        exact ⟨rfl, below_drew B3.out _ B3.out.size⟩
    · rw [E2.out, if_neg (by rintro ⟨h2, _⟩; exact ho h2)]
      have ways : decide (n < -999999999) = true ∨ (decide (n < -999999999) = false ∧ decide (999999999 < n) = true) := by
        simp only [decide_eq_true_iff, decide_eq_false_iff_not]; omega
      clear E2 ho hL
      unfold errR
      rcases ways with d1 | ⟨d1, d2⟩
      all_goals (
        go_enter Tryz.func168, Tryz.ntmps168
        go_upto_region 3 with (go_at_call 194; refine A.out.mono ?_; rintro e w1 ⟨rfl, hb1⟩)
        have B3 := hide hb1
        have cb := EB.out _ B3.out
        clear A EB hb1
        go_quiet (fail)
        go_wp2
        go_ret2
        exact ⟨rfl, below_drew B3.out _ B3.out.size⟩)
  · have A := hide (atoi_bad s w hs hL.l fun n hn => hA ⟨n, hn⟩)
    rw [M.numR_no fun n hn => hA ⟨n, hn⟩]
    clear hA hL
    unfold errR
    go_enter Tryz.func168, Tryz.ntmps168
    go_upto_region 3 with (go_at_call 194; refine A.out.mono ?_; rintro e w1 ⟨n, N, rfl, hb1⟩)
    have B3 := hide hb1
    have cb := EB.out _ B3.out
    clear A EB hb1
    go_quiet (fail)
    go_wp2
    go_ret2
    exact ⟨rfl, below_drew B3.out _ B3.out.size⟩

end Go.Proofs.YtiggkjkjfnlfkaaGreatDoor
