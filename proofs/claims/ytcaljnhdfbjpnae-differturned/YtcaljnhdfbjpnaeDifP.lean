/-
  What the walks of the laws on what differs take of package differ.
-/
import Derived.Test.YtcaljnhdfbjpnaeNodes
import Derived.Test.YtcaljnhdfbjpnaeLMathB
namespace Go.Proofs.Ytcaljnhdfbjpnae
open Go.ChangeShapes Go.WideShapes Go.ChangeAt Go.RowKit Go.Lib
set_option linter.unusedVariables false

/-- the fault of two trees, or that they do not differ -/
def M.difTF (a b : List M.Nd) (m : Int) : Int := if M.difF a b m ≠ 0 then M.difF a b m else if M.movedV a b m = 0 then 5 else 0
theorem M.dift_bad {a b : List M.Nd} {m : Int} (h : M.difF a b m ≠ 0) : M.difTF a b m = M.difF a b m := by unfold M.difTF; rw [if_pos h]
theorem M.dift_same {a b : List M.Nd} {m : Int} (h : M.difF a b m = 0) (hm : M.movedV a b m = 0) : M.difTF a b m = 5 := by unfold M.difTF; rw [if_neg (by simp [h]), if_pos hm]
theorem M.dift_not {a b : List M.Nd} {m : Int} (h : M.difF a b m = 0) (hm : M.movedV a b m ≠ 0) : M.difTF a b m = 0 := by unfold M.difTF; rw [if_neg (by simp [h]), if_neg hm]
def DifTreesGives : Prop := ∀ (a b : Option Addr) (ts us : List M.Nd) (ca cb : Nat) (m : Int) (W : World), RdN W a ts → RdN W b us → Calls Try.prog 15 #[.slice a ts.length ca, .slice b us.length cb, .int .i64 m] W fun e w' => ∃ (L : List Int) (wa : Option Addr) (wc : Nat), e = .returned (.tuple #[.slice wa L.length wc, errV (M.difTF ts us m)]) ∧ Rd w' wa L ∧ (M.difTF ts us m = 0 → M.rowF L = 0 ∧ (L.length : Int) = m ∧ M.evalV ts L ≠ M.evalV us L) ∧ Below W.heap.size W w'
def DifMovedGives : Prop := ∀ (a b : Option Addr) (ts us : List M.Nd) (ca cb : Nat) (m : Int) (W : World), RdN W a ts → RdN W b us → Calls Try.prog 14 #[.slice a ts.length ca, .slice b us.length cb, .int .i64 m] W fun e w' => e = .returned (.tuple #[.int .i64 (M.movedV ts us m : Nat), errV (M.difF ts us m)]) ∧ Below W.heap.size W w'

end Go.Proofs.Ytcaljnhdfbjpnae
