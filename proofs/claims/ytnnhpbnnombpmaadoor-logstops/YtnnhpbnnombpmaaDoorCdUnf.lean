/-
  What package code's unfold answers.
-/
import Derived.Test.YtnnhpbnnombpmaaDoorBase
import Derived.Test.YtnnhpbnnombpmaaDoorMathCa
import Derived.Laws.BitsAllLaws
import Derived.Laws.DeepNot64
namespace Go.Proofs.YtnnhpbnnombpmaaDoor
open Go.ChangeShapes Go.WideShapes Go.ChangeAt Go.RowKit Go.Lib
set_option linter.unusedVariables false

theorem unfold_any (x : Nat) (w : World) (h : x < 18446744073709551616) :
    Calls Tryd.prog 41 #[.int .u64 (x : Nat)] w fun e w' => e = .returned (.int .i64 (M.unz x)) ∧ w' = w := by
  by_cases hn : x % 2 = 1
  · have EZ : Hid (bits .xor .i64 (-1) ((x : Int) / 2) = M.unz x) := by
      unfold Hid
      have e1 : ((x : Int) / 2) = ((x / 2 : Nat) : Int) := by omega
      rw [e1, i64_not _ (by omega)]
      unfold M.unz; rw [if_pos hn]; omega
    go_enter Tryd.func41, Tryd.ntmps41
    go_wp2
    go_ret
    exact ⟨by rw [← EZ.out]; rfl, rfl⟩
  · have EZ : Hid (((x : Int) / 2) = M.unz x) := by unfold Hid M.unz; rw [if_neg hn]; omega
    go_enter Tryd.func41, Tryd.ntmps41
    go_wp2
    go_ret
    exact ⟨by rw [← EZ.out]; rfl, rfl⟩

end Go.Proofs.YtnnhpbnnombpmaaDoor
