/-
  Several texts as one: LimP, LimPG.
-/
import Derived.Test.YtcaljnhdfbjpnaeLimPT
import Derived.Test.YtcaljnhdfbjpnaeLMathB
import Derived.Test.YtcaljnhdfbjpnaeGroves
namespace Go.Proofs.Ytcaljnhdfbjpnae
open Go.ChangeShapes Go.WideShapes Go.ChangeAt Go.RowKit Go.Lib
set_option linter.unusedVariables false

def LimRowsGives : Prop := ∀ (a bl : Option Addr) (ts : List M.Nd) (ss : List M.Sp) (ca cl : Nat) (W : World), RdN W a ts → RdS W bl ss → Calls Try.prog 7 #[.slice a ts.length ca, .slice bl ss.length cl] W fun e w' => ∃ pa pc qa qc, e = .returned (.tuple #[.slice pa (M.limA ts ss).length pc, .slice qa (M.limB ts ss).length qc, errV (M.limF ts ss)]) ∧ Rd w' pa (M.limA ts ss) ∧ Rd w' qa (M.limB ts ss) ∧ Below W.heap.size W w'
def StepsGives : Prop := ∀ (a b : Option Addr) (ts : List M.Nd) (xs : List Int) (ca cb : Nat) (f : Int) (W : World), RdN W a ts → Rd W b xs → Calls Try.prog 12 #[.slice a ts.length ca, .slice b xs.length cb, .int .i64 f] W fun e w' => ∃ pa pc qa qc, e = .returned (.tuple #[.slice pa (M.stepsC ts xs f).length pc, .slice qa (M.stepsV ts xs f).length qc, errV (M.stepsF ts xs f)]) ∧ Rd w' pa (M.stepsC ts xs f) ∧ Rd w' qa (M.stepsV ts xs f) ∧ Below W.heap.size W w'

end Go.Proofs.Ytcaljnhdfbjpnae

namespace Go.Proofs.Ytcaljnhdfbjpnae
open Go.ChangeShapes Go.WideShapes Go.ChangeAt Go.RowKit Go.Lib
set_option linter.unusedVariables false

def LimGroveGives : Prop := ∀ (G : Gr) (bl : Option Addr) (ss : List M.Sp) (cl : Nat) (W : World), RdG W G → RdS W bl ss → Calls Try.prog 10 #[G.v, .slice bl ss.length cl] W fun e w' => e = .returned (.tuple #[.int .i64 (M.limGV G.m ss).1, .int .i64 (M.limGV G.m ss).2, errV (M.limGF G.m ss)]) ∧ Below W.heap.size W w'

end Go.Proofs.Ytcaljnhdfbjpnae
