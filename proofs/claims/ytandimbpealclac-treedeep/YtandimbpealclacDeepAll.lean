/-
  TreeDeep's walk, with what path.Path answers: at any tree and any row it answers true.
-/
import Derived.Test.YtandimbpealclacDeepWalk
import Derived.Test.YtandimbpealclacPPath
namespace Go.Proofs.Ytandimbpealclac
open Go.ChangeShapes Go.WideShapes Go.ChangeAt Go.RowKit Go.Lib

theorem deep_all (a b : Option Addr) (ts : List M.Nd) (xs : List Int) (ca cb : Nat) (w : World) (ht : RdN w a ts) (hr : Rd w b xs) :
    Calls Try.prog 4 #[.slice a ts.length ca, .slice b xs.length cb] w fun e w' => e = .returned (.bool true) ∧ Below w.heap.size w w' :=
  deep_walk a b ts xs ca cb w ht hr (fun W hW => path_any a b ts xs ca cb W (ht.below hW) (hr.below hW))

end Go.Proofs.Ytandimbpealclac
