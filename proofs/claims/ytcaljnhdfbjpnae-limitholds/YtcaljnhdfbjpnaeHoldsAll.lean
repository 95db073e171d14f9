/-
  LimitHolds, walked whole.
-/
import Derived.Test.YtcaljnhdfbjpnaeHoldsL
import Derived.Test.YtcaljnhdfbjpnaeLimRows
import Derived.Test.YtcaljnhdfbjpnaeLimGrove
import Derived.Test.YtcaljnhdfbjpnaeFits
import Derived.Test.YtcaljnhdfbjpnaeTEval
import Derived.Test.YtcaljnhdfbjpnaeGEach
namespace Go.Proofs.Ytcaljnhdfbjpnae
open Go.RowKit

theorem holds_all (G : Gr) (a bl b : Option Addr) (ts : List M.Nd) (ss : List M.Sp) (xs : List Int) (ca cl cb : Nat) (w : World) (hg : RdG w G) (ht : RdN w a ts) (hs : RdS w bl ss) (hr : Rd w b xs) :
    Calls Try.prog 3 #[.slice a ts.length ca, G.v, .slice bl ss.length cl, .slice b xs.length cb] w fun r w' => r = .returned (.bool true) ∧ RowKit.Below w.heap.size w w' :=
  holds_walk limtree_any limrows_any (limgrove_any limtree_any) eval_any fits_any geval_any G a bl b ts ss xs ca cl cb w hg ht hs hr

end Go.Proofs.Ytcaljnhdfbjpnae
