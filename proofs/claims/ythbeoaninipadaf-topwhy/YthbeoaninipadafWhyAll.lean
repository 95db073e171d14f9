/-
  TopWhy, walked whole.
-/
import Derived.Test.YthbeoaninipadafWhyWalk
import Derived.Test.YthbeoaninipadafGroFit
import Derived.Test.YthbeoaninipadafPPath
import Derived.Test.YthbeoaninipadafPRegions
import Derived.Test.YthbeoaninipadafLimTree
import Derived.Test.YthbeoaninipadafFits
import Derived.Test.YthbeoaninipadafTEval
namespace Go.Proofs.Ythbeoaninipadaf
open Go.RowKit

theorem why_all (a b : Option Addr) (ts : List M.Nd) (xs : List Int) (ca cb : Nat) (f c : Int) (w : World) (ht : RdN w a ts) (hr : Rd w b xs) :
    Calls Try.prog 5 #[.slice a ts.length ca, .slice b xs.length cb, .int .i64 f, .int .i64 c] w fun e w' => e = .returned (.bool true) ∧ RowKit.Below w.heap.size w w' :=
  why_walk grofit_any eval_any leaf_any path_any pregion_any limtree_any fits_any rcheck_any a b ts xs ca cb f c w ht hr

end Go.Proofs.Ythbeoaninipadaf
