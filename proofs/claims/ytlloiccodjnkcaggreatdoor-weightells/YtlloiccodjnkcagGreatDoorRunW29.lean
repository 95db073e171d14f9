/-
  Several texts as one: WTellAll.
-/
import Derived.Test.YtlloiccodjnkcagGreatDoorRunW21
import Derived.Test.YtlloiccodjnkcagGreatDoorRunW18
import Derived.Test.YtlloiccodjnkcagGreatDoorRunW24
import Derived.Test.YtlloiccodjnkcagGreatDoorRunW26
import Derived.Test.YtlloiccodjnkcagGreatDoorRunW28
import Derived.Test.YtlloiccodjnkcagGreatDoorRunW19
namespace Go.Proofs.YtlloiccodjnkcagGreatDoor
open Go.RowKit

theorem wtell_all (G : Gr) (a b ia ib : Option Addr) (ts : List M.Nd) (xs : List Sx) (la lb : List Int) (ct cx ca cb : Nat) (f : Int) (w : World) (hg : RdG w G) (ht : RdN w a ts) (hx : RdL w b xs) (ha : Rd w ia la) (hb : Rd w ib lb) (hl : Lays w) :
    Calls Tryz.prog 3 #[G.v, .slice a ts.length ct, .slice b xs.length cx, .int .i64 f, .slice ia la.length ca, .slice ib lb.length cb] w fun r w' => r = .returned (.bool true) ∧ RowKit.Below w.heap.size w w' := wtells_walk weiuses_any weigains_any weiwo_any weisame_any rgains_any G a b ia ib ts xs la lb ct cx ca cb f w hg ht hx ha hb hl

end Go.Proofs.YtlloiccodjnkcagGreatDoor
