/-
  PathRegions' walk, with what package path answers: at any tree and any row it answers true.
-/
import Derived.Test.YtandimbpealclacRegionsWalk
import Derived.Test.YtandimbpealclacPReach
import Derived.Test.YtandimbpealclacPWit
namespace Go.Proofs.Ytandimbpealclac
open Go.ChangeShapes Go.WideShapes Go.ChangeAt Go.RowKit Go.Lib

theorem regions_all (a b : Option Addr) (ts : List M.Nd) (xs : List Int) (ca cb : Nat) (w : World) (ht : RdN w a ts) (hr : Rd w b xs) :
    Calls Try.prog 3 #[.slice a ts.length ca, .slice b xs.length cb] w fun e w' => e = .returned (.bool true) ∧ Below w.heap.size w w' :=
  regions_walk (fun a ts ca m k W h => pregion_any a ts ca m k W h) (fun a ts ca m W h => reach_any a ts ca m W h) (fun a ss ca W h => witness_any a ss ca W h) a b ts xs ca cb w ht hr

end Go.Proofs.Ytandimbpealclac
