/-
  Several texts as one: WNeedAll.
-/
import Derived.Test.YtlloiccodjnkcagRunN14
import Derived.Test.YtlloiccodjnkcagRunN18
import Derived.Test.YtlloiccodjnkcagRunN20
import Derived.Test.YtlloiccodjnkcagRunN22
import Derived.Test.YtlloiccodjnkcagRunN24
import Derived.Test.YtlloiccodjnkcagRunN15
namespace Go.Proofs.Ytlloiccodjnkcag
open Go.RowKit

theorem wneed_all (G : Gr) (a c b : Option Addr) (rs : List Int) (ts : List M.Nd) (xs : List Sx) (cr ct cx : Nat) (f : Int) (w : World) (hg : RdG w G) (hr : Rd w a rs) (ht : RdN w c ts) (hx : RdL w b xs) :
    Calls Try.prog 4 #[G.v, .slice a rs.length cr, .int .i64 f, .slice c ts.length ct, .slice b xs.length cx] w fun e w' => e = .returned (.bool true) ∧ RowKit.Below w.heap.size w w' := wneeds_walk weiuses_any weigains_any weiwo_any geval_any rgrove_any rstand_any a b c rs ts xs f cr ct cx G w hg hr ht hx

end Go.Proofs.Ytlloiccodjnkcag
