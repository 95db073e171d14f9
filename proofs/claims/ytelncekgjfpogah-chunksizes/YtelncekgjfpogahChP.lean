/-
  What the walks of the laws on pieces take of package chunk's Sum, Plan and Check.
-/
import Derived.Test.YtelncekgjfpogahByCells
import Derived.Test.YtelncekgjfpogahPtCells
namespace Go.Proofs.Ytelncekgjfpogah
open Go.ChangeShapes Go.WideShapes Go.ChangeAt Go.RowKit Go.Lib
set_option linter.unusedVariables false

def ChSumGives : Prop := ∀ (a : Option Addr) (bs : List Nat) (c : Nat) (W : World), RdB W a bs → Calls Try.prog 9 #[.slice a bs.length c] W fun e w' => e = .returned (.int .i64 (M.sumF bs : Nat)) ∧ Below W.heap.size W w'
def ChPlanGives : Prop := ∀ (a : Option Addr) (bs : List Nat) (c : Nat) (size : Int) (W : World), RdB W a bs → bs.length ≤ c → c ≤ 9223372036854775807 → -9223372036854775808 ≤ size → size ≤ 9223372036854775807 → Calls Try.prog 7 #[.slice a bs.length c, .int .i64 size] W fun e w' => ∃ v, e = .returned (.tuple #[v, errV (M.planF bs size)]) ∧ w'.ownsRow W.heap.size 34 2 v (M.planV bs size).length (ptCells (M.planV bs size)) ∧ Below W.heap.size W w'
def ChCheckGives : Prop := ∀ (a : Option Addr) (l : List M.Pt) (c : Nat) (W : World), RdP W a l → Calls Try.prog 8 #[.slice a l.length c] W fun e w' => e = .returned (errV (M.partsF l)) ∧ Below W.heap.size W w'

end Go.Proofs.Ytelncekgjfpogah
