/-
  Several texts as one: IsErr.
-/
import Derived.Test.YtodidokeblblgaaGreatRunF1
import Derived.LaidEql
import Derived.Stop.Asserts
import Derived.RowKitTokens
namespace Go.Proofs.YtodidokeblblgaaGreat
open Go.RowKit Go.Extern.Stop Go.Stop Go.Extern
set_option linter.unusedVariables false
theorem Tryz.isTypeOf (v : Value) (w : World) : (Extern.ReflectliteType.typeOf #[.iface 44 v]).run Tryz.prog w = .ok (.iface 133 (.agg #[.pointer (some ⟨0, 44, none⟩)])) w := by kernel_rfl
theorem Tryz.isComparable (w : World) : ((Extern.ReflectliteType.method fun t => do Extern.Rtype.noPackHeld "Comparable" t; pure (.bool (← typeInfo t).comparable)) #[.agg #[.pointer (some ⟨0, 44, none⟩)]]).run Tryz.prog w = .ok (.bool true) w := by kernel_rfl
theorem Tryz.isMethodComparable (v : Value) (w : World) : (Go.method 319 133 v "Comparable").run Tryz.prog w = .ok (132, v) w := by kernel_rfl
theorem Tryz.noIsE (v : Value) (xT : TypeId) (w : World) : (Instr.typeAssert (.iface 44 v) xT 135 true).run Tryz.prog w = .ok (.tuple #[.nilIface, .bool false]) w := run_typeAssert_lacksB Tryz.underlying135 (by kernel_rfl) (by kernel_rfl) v xT w
theorem Tryz.noUnwrapE (v : Value) (xT : TypeId) (w : World) : (Instr.typeAssert (.iface 44 v) xT 138 true).run Tryz.prog w = .ok (.tuple #[.nilIface, .bool false]) w := run_typeAssert_lacksB Tryz.underlying138 (by kernel_rfl) (by kernel_rfl) v xT w
theorem Tryz.noUnwrapsE (v : Value) (xT : TypeId) (w : World) : (Instr.typeAssert (.iface 44 v) xT 139 true).run Tryz.prog w = .ok (.tuple #[.nilIface, .bool false]) w := run_typeAssert_lacksB Tryz.underlying139 (by kernel_rfl) (by kernel_rfl) v xT w
theorem Tryz.eqlE (c d : Int) (w : World) : (binOp .eql 26 (.iface 44 (.int .i64 c)) (.iface 44 (.int .i64 d))).run Tryz.prog w = .ok (.bool (c == d)) w := by kernel_rfl

set_option maxHeartbeats 4000000 in
theorem is_some (c d : Int) (w : World) :
    Calls Tryz.prog 25 #[.iface 44 (.int .i64 c), .iface 44 (.int .i64 d)] w fun e w' => e = .returned (.bool (c == d)) ∧ w' = w := by
  have h8 := @run_callFunc_extern Tryz.prog 39 _ Extern.ReflectliteType.typeOf Tryz.func39 (by kernel_rfl) (by kernel_rfl) (by kernel_rfl) (by kernel_rfl)
  have h32 : ∀ W : World, (callFunc 132 #[.agg #[.pointer (some ⟨0, 44, none⟩)]]).run Tryz.prog W = .ok (.value (.bool true)) W := fun W => by
    rw [@run_callFunc_extern Tryz.prog 132 _ (Extern.ReflectliteType.method fun t => do Extern.Rtype.noPackHeld "Comparable" t; pure (.bool (← typeInfo t).comparable)) Tryz.func132 (by kernel_rfl) (by kernel_rfl) (by kernel_rfl) (by kernel_rfl), Tryz.isComparable]
    rfl
  have tT := Tryz.isTypeOf
  have mR := Tryz.isMethodComparable
  have nE := Tryz.noIsE
  have uE := Tryz.noUnwrapE
  have vE := Tryz.noUnwrapsE
  have heq := Tryz.eqlE c d
  cases hb : (c == d)
  all_goals (
    rw [hb] at heq
    go_enter Tryz.func25, Tryz.ntmps25
    go_wp2
    refine wp_loop_rounds 1 ?_
    rw [rounds_succ]
    go_wp2
    go_ret
    exact ⟨rfl, rfl⟩)
theorem is_nil (d : Int) (w : World) :
    Calls Tryz.prog 25 #[.nilIface, .iface 44 (.int .i64 d)] w fun e w' => e = .returned (.bool false) ∧ w' = w := by
  have hn := run_eql_iface_nil_left (P := Tryz.prog) w 44 (.int .i64 d) Tryz.underlying26
  go_enter Tryz.func25, Tryz.ntmps25
  go_wp2
  go_ret
  exact ⟨rfl, rfl⟩
theorem is_any (c d : Int) (hd : d ≠ 0) (w : World) :
    Calls Tryz.prog 25 #[errV c, .iface 44 (.int .i64 d)] w fun e w' => e = .returned (.bool (decide (c = d))) ∧ w' = w := by
  by_cases h : c = 0
  · subst h
    rw [err_nil rfl]
    have : decide ((0 : Int) = d) = false := decide_eq_false (fun e => hd e.symm)
    rw [this]
    exact is_nil d w
  · rw [err_some h]
    have := is_some c d w
    rwa [show (c == d) = decide (c = d) from by by_cases q : c = d <;> simp [q]] at this
end Go.Proofs.YtodidokeblblgaaGreat
