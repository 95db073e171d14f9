/-
  DifferTurned, walked whole.
-/
import Derived.Test.YtcaljnhdfbjpnaeTurnedWalk
import Derived.Test.YtcaljnhdfbjpnaeDifTrees
namespace Go.Proofs.Ytcaljnhdfbjpnae
open Go.RowKit

theorem turned_all (a b : Option Addr) (ts us : List M.Nd) (ca cb : Nat) (m : Int) (w : World) (ha : RdN w a ts) (hb : RdN w b us) :
    Calls Try.prog 5 #[.slice a ts.length ca, .slice b us.length cb, .int .i64 m] w fun e w' => e = .returned (.bool true) ∧ RowKit.Below w.heap.size w w' := turned_walk diftrees_any difmoved_any a b ts us ca cb m w ha hb

end Go.Proofs.Ytcaljnhdfbjpnae
