/-
  PruneOne, walked whole.
-/
import Derived.Test.YtjnkkniefpmgdadPTree
import Derived.Test.YtjnkkniefpmgdadOneWalk
namespace Go.Proofs.Ytjnkkniefpmgdad

theorem one_all (a0 : Option Addr) (ts : List M.Nd) (cap : Nat) (m v : Int) (w : World) (h : RdN w a0 ts) :
    Calls Try.prog 5 #[.slice a0 ts.length cap, .int .i64 m, .int .i64 v] w fun r w' => r = .returned (.bool true) ∧ RowKit.Below w.heap.size w w' := one_walk tree_gives (fun a0 ts cap m W h => tcheck_any a0 ts cap m W h) a0 ts cap m v w h

end Go.Proofs.Ytjnkkniefpmgdad
