/-
  What the reference's Floor answers, far from the ends.
-/
import Derived.Test.YthbeoaninipadafGreatDoorNodes
import Derived.Test.YthbeoaninipadafGreatDoorLMathA
namespace Go.Proofs.YthbeoaninipadafGreatDoor
open Go.ChangeShapes Go.WideShapes Go.ChangeAt Go.RowKit Go.Lib
set_option linter.unusedVariables false

theorem rfloor_any (a b : Int) (w : World) (hb : 0 < b) (hb2 : b ≤ 9007199254740992) (ha : -9007199254740992 ≤ a) (ha2 : a ≤ 9007199254740992) :
    Calls Tryz.prog 21 #[.int .i64 a, .int .i64 b] w fun e w' => e = .returned (.int .i64 (a / b)) ∧ w' = w := by
  have D := hide (M.floor_eq a b hb)
  by_cases h : a < 0
  · obtain ⟨q1, q2⟩ := M.ediv_bd (b - 1 - a) b 18014398509481984 hb (by omega) (by omega) (by omega)
    go_enter Tryz.func21, Tryz.ntmps21
    go_wp2
    go_ret
    exact ⟨ret_int (by rw [← D.out, if_pos h]), rfl⟩
  · go_enter Tryz.func21, Tryz.ntmps21
    go_wp2
    go_ret
    exact ⟨ret_int rfl, rfl⟩

end Go.Proofs.YthbeoaninipadafGreatDoor
