/-
  What the walks of the laws on what is grown take besides, of packages grow and tree.
-/
import Derived.Test.YthbeoaninipadafGroR
namespace Go.Proofs.Ythbeoaninipadaf
open Go.ChangeShapes Go.WideShapes Go.ChangeAt Go.RowKit Go.Lib
set_option linter.unusedVariables false

def LTreeGives : Prop := ∀ (a : Option Addr) (ts : List M.Nd) (ca : Nat) (m : Int) (W : World), RdN W a ts → Calls Try.prog 7 #[.slice a ts.length ca, .int .i64 m] W fun e w' => e = .returned (.tuple #[.int .i64 ((M.treeF ts m).1 : Nat), errV (M.treeF ts m).2]) ∧ Below W.heap.size W w'
def LDepthGives : Prop := ∀ (a : Option Addr) (ts : List M.Nd) (ca : Nat) (W : World), RdN W a ts → Calls Try.prog 8 #[.slice a ts.length ca] W fun e w' => e = .returned (.tuple #[.int .i64 (M.depthV ts : Nat), errV (M.treeF ts 8).2]) ∧ Below W.heap.size W w'
def LLeafGives : Prop := ∀ (a b : Option Addr) (ts : List M.Nd) (xs : List Int) (ca cb : Nat) (W : World), RdN W a ts → Rd W b xs → Calls Try.prog 9 #[.slice a ts.length ca, .slice b xs.length cb] W fun e w' => e = .returned (.tuple #[.int .i64 (M.leafV ts xs : Nat), errV (M.readyF ts xs)]) ∧ Below W.heap.size W w'

end Go.Proofs.Ythbeoaninipadaf
