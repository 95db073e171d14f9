/-
  What package code's fold answers.
-/
import Derived.Test.YtnnhpbnnombpmaaDoorBase
import Derived.Test.YtnnhpbnnombpmaaDoorMathCa
import Derived.Test.YtnnhpbnnombpmaaDoorCdUnf
import Derived.Laws.BitsAllLaws
import Derived.Laws.DeepNot64
namespace Go.Proofs.YtnnhpbnnombpmaaDoor
open Go.ChangeShapes Go.WideShapes Go.ChangeAt Go.RowKit Go.Lib
set_option linter.unusedVariables false

theorem M.not_nat (x : Nat) (h : x < 18446744073709551616) : 18446744073709551615 ^^^ x = 18446744073709551615 - x := by
  have e := congrArg BitVec.toNat (BitVec.allOnes_xor (x := BitVec.ofNat 64 x))
  rw [BitVec.toNat_xor, BitVec.toNat_not, BitVec.toNat_allOnes, BitVec.toNat_ofNat, Nat.mod_eq_of_lt h] at e
  exact e
theorem u64_not (x : Nat) (h : x < 18446744073709551616) : bits .xor .u64 IntKind.u64.max (x : Int) = ((18446744073709551615 - x : Nat) : Int) := by
  have e : IntKind.u64.max = ((18446744073709551615 : Nat) : Int) := by decide
  rw [e, u64_xor_nat _ _ (by omega) h, M.not_nat x h]

theorem fold_any (n : Int) (w : World) (h1 : -9223372036854775808 ≤ n) (h2 : n ≤ 9223372036854775807) :
    Calls Tryd.prog 42 #[.int .i64 n] w fun e w' => e = .returned (.int .u64 (M.zz n : Nat)) ∧ w' = w := by
  by_cases hn : n < 0
  · have EZ : Hid (bits .xor .u64 IntKind.u64.max (IntKind.u64.wrap (IntKind.u64.wrap n * 2)) = (M.zz n : Int)) := by
      unfold Hid
      have e1 : IntKind.u64.wrap (IntKind.u64.wrap n * 2) = ((2 * n + 18446744073709551616).toNat : Int) := by
        simp [IntKind.wrap, IntKind.bits, IntKind.signed]; omega
      rw [e1, u64_not _ (by omega)]
      unfold M.zz; rw [if_pos hn]; omega
    go_enter Tryd.func42, Tryd.ntmps42
    go_wp2
    go_ret
    exact ⟨by rw [← EZ.out]; rfl, rfl⟩
  · have EZ : Hid (n * 2 = (M.zz n : Int)) := by unfold Hid M.zz; rw [if_neg hn]; omega
    go_enter Tryd.func42, Tryd.ntmps42
    go_wp2
    go_ret
    exact ⟨by rw [← EZ.out]; rfl, rfl⟩

end Go.Proofs.YtnnhpbnnombpmaaDoor
