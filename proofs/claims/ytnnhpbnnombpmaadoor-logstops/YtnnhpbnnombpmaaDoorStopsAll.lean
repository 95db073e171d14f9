/-
  LogStops, whole: calls that came in, and the law's own walk.
-/
import Derived.Test.YtnnhpbnnombpmaaDoorStopW
import Derived.Test.YtnnhpbnnombpmaaDoorCaOpen
namespace Go.Proofs.YtnnhpbnnombpmaaDoor
open Go.ChangeShapes Go.WideShapes Go.ChangeAt Go.RowKit Go.Lib
set_option linter.unusedVariables false

theorem stops_all (a : Option Addr) (l : List CaC) (ca : Nat) (after keep : Int) (w : World) (h : RdC w a l) (ha : -9223372036854775808 ≤ after ∧ after ≤ 9223372036854775807) (hk : -9223372036854775808 ≤ keep ∧ keep ≤ 9223372036854775807) (hL : Lays w) :
    Calls Tryd.prog 3 #[.slice a l.length ca, .int .i64 after, .int .i64 keep] w fun e w' => e = .returned (.bool true) ∧ Below w.heap.size w w' := stops_walk a l ca after keep w h ha hk hL

end Go.Proofs.YtnnhpbnnombpmaaDoor
