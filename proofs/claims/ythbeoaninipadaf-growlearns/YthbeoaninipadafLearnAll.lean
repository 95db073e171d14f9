/-
  GrowLearns, walked whole.
-/
import Derived.Test.YthbeoaninipadafLearnWalk
import Derived.Test.YthbeoaninipadafGroSplit
import Derived.Test.YthbeoaninipadafTDeep
namespace Go.Proofs.Ythbeoaninipadaf
open Go.RowKit

theorem learn_all (a : Option Addr) (xs : List Sx) (ca : Nat) (m d l f c : Int) (w : World) (h : RdL w a xs) :
    Calls Try.prog 3 #[.slice a xs.length ca, .int .i64 m, .int .i64 d, .int .i64 l, .int .i64 f, .int .i64 c] w fun e w' => e = .returned (.bool true) ∧ RowKit.Below w.heap.size w w' := learns_walk grofit_any grosplit_any growrong_any tcheck_any tdepth_any leaf_any a xs ca m d l f c w h

end Go.Proofs.Ythbeoaninipadaf
