/-
  FixedAdds: the law's own text, by the contracts of what it calls: it returns true at any two numbers and any list.
-/
import Derived.Test.YtpjodggmbpinbaaRMedian
import Derived.Test.YtpjodggmbpinbaaMedian
namespace Go.Proofs.Ytpjodggmbpinbaa
open Go.ChangeShapes Go.WideShapes Go.ChangeAt Go.RowKit
set_option linter.unusedVariables false

theorem Below.then {w w1 w2 : World} (h : Below w.heap.size w w1) (k : Below w1.heap.size w1 w2) : Below w.heap.size w w2 := h.trans (k.mono h.size)

set_option maxHeartbeats 2000000 in
theorem adds_walk (x y : Int) (a : Option Addr) (xs : List Int) (cap : Nat) (w : World) (h : Rd w a xs) :
    Calls Try.prog 4 #[.int .i64 x, .int .i64 y, .slice a xs.length cap] w fun e w' => e = .returned (.bool true) ∧ Below w.heap.size w w' := by
  have H := hide h
  clear h
  go_enter Try.func4, Try.ntmps4
  go_wp2_with (first
    | (go_at_call 8; refine (add_any _ _ _).mono ?_; rintro e w' ⟨rfl, rfl⟩)
    | (go_at_call 9; refine (radd_any _ _ _).mono ?_; rintro e w' ⟨rfl, rfl⟩)
    | (go_at_call 10; refine (mul_any _ _ _).mono ?_; rintro e w' ⟨rfl, rfl⟩)
    | (go_at_call 11; refine (rmul_any _ _ _).mono ?_; rintro e w' ⟨rfl, rfl⟩)
    | (go_at_call 12; refine (round_any _ _ _).mono ?_; rintro e w' ⟨rfl, rfl⟩)
    | (go_at_call 13; refine (rround_any _ _ _).mono ?_; rintro e w' ⟨rfl, rfl⟩)
    | (go_at_call 14; refine (total_any a xs cap _ H.out).mono ?_; rintro e w' ⟨rfl, rfl⟩)
    | (go_at_call 15; refine (rtotal_any a xs cap _ H.out).mono ?_; rintro e w' ⟨rfl, rfl⟩)
    | (go_at_call 16; refine (mean_any a xs cap _ H.out).mono ?_; rintro e w1 ⟨rfl, hb1⟩; have H1 := hide (H.out.below hb1))
    | (go_at_call 17; refine (rmean_any a xs cap _ H1.out).mono ?_; rintro e w2 ⟨rfl, hb2⟩; have H2 := hide (H1.out.below hb2))
    | (go_at_call 18; refine (median_any a xs cap _ H2.out).mono ?_; rintro e w3 ⟨rfl, hb3⟩; have H3 := hide (H2.out.below hb3))
    | (go_at_call 19; refine (rmedian_any a xs cap _ H3.out).mono ?_; rintro e w4 ⟨rfl, hb4⟩))
  go_ret
  exact ⟨rfl, Below.then (Below.then (Below.then hb1 hb2) hb3) hb4⟩
end Go.Proofs.Ytpjodggmbpinbaa
