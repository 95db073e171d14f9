/-
  What package cut's Bin answers, for every list and every number.
-/
import Derived.Test.YtcaljnhdfbjpnaeCheck
namespace Go.Proofs.Ytcaljnhdfbjpnae
open Go.ChangeShapes Go.WideShapes Go.ChangeAt Go.RowKit Go.Shelf Go.Lib Go.Sort
set_option linter.unusedVariables false

theorem ret_two {a b c d : Value} (h1 : a = c) (h2 : b = d) : Ending.returned (.tuple #[a, b]) = .returned (.tuple #[c, d]) := by rw [h1, h2]

/-- where the cuts are wrong -/
theorem Bin_bad (a : Option Addr) (xs : List Int) (cap : Nat) (x : Int) (w : World) (h : Rd w a xs) (hc : M.cutsI xs ≠ 0) :
    Calls Try.prog 13 #[.slice a xs.length cap, .int .i64 x] w fun e w' => e = .returned (.tuple #[.int .i64 0, .iface 56 (.int .i64 (M.cutsI xs))]) ∧ Below w.heap.size w w' := by
  have C := hide (check_any a xs cap w h)
  rw [err_some hc] at C
  clear h hc
  generalize M.cutsI xs = c at *
  go_enter Try.func13, Try.ntmps13
  go_wp2_with (go_at_call 34; refine C.out.mono ?_; rintro e w1 ⟨rfl, hb1⟩)
  go_ret2
  exact ⟨rfl, hb1⟩

/-- where the number is none of a cell -/
theorem Bin_out (a : Option Addr) (xs : List Int) (cap : Nat) (x : Int) (w : World) (h : Rd w a xs) (hc : M.cutsI xs = 0) (ho : M.outI x = true) :
    Calls Try.prog 13 #[.slice a xs.length cap, .int .i64 x] w fun e w' => e = .returned (.tuple #[.int .i64 0, .iface 56 (.int .i64 1)]) ∧ Below w.heap.size w w' := by
  have C := hide (check_any a xs cap w h)
  rw [err_nil hc] at C
  have O := hide (outside_one x 3)
  rw [ho] at O
  clear h hc ho
  go_enter Try.func13, Try.ntmps13
  go_wp2_with (first | (go_at_call 34; refine C.out.mono ?_; rintro e w1 ⟨rfl, hb1⟩) | (go_at_call 35; refine (O.out _).mono ?_; rintro e w2 ⟨rfl, hb2⟩))
  go_ret2
  exact ⟨rfl, below_on hb1 hb2⟩

/-- else: the bin -/
theorem Bin_ok (a : Option Addr) (xs : List Int) (cap : Nat) (x : Int) (w : World) (h : Rd w a xs) (hc : M.cutsI xs = 0) (ho : M.outI x = false) :
    Calls Try.prog 13 #[.slice a xs.length cap, .int .i64 x] w fun e w' => e = .returned (.tuple #[.int .i64 (M.binI xs x : Nat), .nilIface]) ∧ Below w.heap.size w w' := by
  have C := hide (check_any a xs cap w h)
  rw [err_nil hc] at C
  have O := hide (outside_one x 3)
  rw [ho] at O
  have B := hide (fun W (hW : Below w.heap.size w W) => bin_any a xs cap x W (h.below hW) ((M.cuts_ok xs).1 hc).2.2 ((M.cuts_ok xs).1 hc).1)
  clear h hc ho
  generalize M.binI xs x = r at *
  go_enter Try.func13, Try.ntmps13
  go_wp2_with (first | (go_at_call 34; refine C.out.mono ?_; rintro e w1 ⟨rfl, hb1⟩) | (go_at_call 35; refine (O.out _).mono ?_; rintro e w2 ⟨rfl, hb2⟩) | (go_at_call 36; refine (B.out _ (below_on hb1 hb2)).mono ?_; rintro e w3 ⟨rfl, hb3⟩))
  go_ret2
  exact ⟨rfl, below_on (below_on hb1 hb2) hb3⟩

end Go.Proofs.Ytcaljnhdfbjpnae
