/-
  What a Fetch's has answers.
-/
import Derived.Test.YtelncekgjfpogahDoorFetA
namespace Go.Proofs.YtelncekgjfpogahDoor
open Go.ChangeShapes Go.WideShapes Go.ChangeAt Go.RowKit Go.Lib Go.Maps
set_option linter.unusedVariables false

theorem FB.look {W : World} {f : Nat} {K : Nat → Prop} {l : List M.Pt} {h : M.Has} {a : Option Addr} {c m : Nat} {D : DataW Value} (F : FB W f K l h a c m D) {i : Nat} (hi : i ≤ 100) : ∃ v, (Instr.lookup 80 (.map (some m)) (.int .i64 (i : Int)) true).run Tryd.prog W = .ok (.tuple #[v, .bool (h.getD i none).isSome]) W := by
  obtain ⟨v, ps, hrun, _⟩ := F.own.look_ok keyF Tryd.underlying80 (zeroF W) (zd := .held (.slice none 0 0)) rfl (keyOfF hi)
  refine ⟨v, ?_⟩
  rw [hrun]
  cases q : h.getD i none with
  | none => rw [F.away i q]; rfl
  | some bs =>
    obtain ⟨_, pa, pc, hat, _⟩ := F.here i bs q
    rw [has_true_of_atKey hat]
    rfl

set_option maxHeartbeats 2000000 in
theorem fet_has {W : World} {f : Nat} {K : Nat → Prop} {l : List M.Pt} {h : M.Has} {a : Option Addr} {c m : Nat} {D : DataW Value} (F : FB W f K l h a c m D) {i : Nat} (hi : i ≤ 100) : Calls Tryd.prog 37 #[.pointer (some ⟨f, 0, none⟩), .int .i64 (i : Int)] W fun e w' => e = .returned (.bool (h.getD i none).isSome) ∧ w' = W := by
  obtain ⟨v, hrun⟩ := F.look hi
  have c1 := F.c1
  clear F
  generalize (h.getD i none).isSome = b at *
  go_enter Tryd.func37, Tryd.ntmps37
  go_wp2
  go_ret
  exact ⟨rfl, rfl⟩

end Go.Proofs.YtelncekgjfpogahDoor
