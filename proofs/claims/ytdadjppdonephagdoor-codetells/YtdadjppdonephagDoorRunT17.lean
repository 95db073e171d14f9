/-
  Several texts as one: CTellAll.
-/
import Derived.Test.YtdadjppdonephagDoorRunT10
import Derived.Test.YtdadjppdonephagDoorRunT15
import Derived.Test.YtdadjppdonephagDoorRunT11
import Derived.Test.YtdadjppdonephagDoorRunT12
import Derived.Test.YtdadjppdonephagDoorRunT13
import Derived.Test.YtdadjppdonephagDoorRunT14
import Derived.Test.YtdadjppdonephagDoorRunT16
import Derived.Test.YtdadjppdonephagDoorRunT2
namespace Go.Proofs.YtdadjppdonephagDoor
open Go.ChangeShapes Go.WideShapes Go.ChangeAt Go.RowKit Go.Lib
set_option linter.unusedVariables false

theorem codetells_all (G : Gr) (a : Option Addr) (bs : List Nat) (ca : Nat) (n : Int) (w : World) (hg : RdG w G) (hb : RdB w a bs) (hl : bs.length ≤ ca) (hca : ca ≤ 9223372036854775807) (hnil : a = none → ca = 0) (hz : bs.length ≤ 140737488351232) (hn : -9223372036854775808 ≤ n ∧ n ≤ 9223372036854775807) (hL : Lays w) :
    Calls Tryd.prog 3 #[G.v, .slice a bs.length ca, .int .i64 n] w fun e w' => e = .returned (.bool true) ∧ Below w.heap.size w w' :=
  codetells_walk cdnum_any cdget_any cdenc_any cddec_any (fun G W h => renc_any (fun G W h => rgrove_any G W h) G W h) (rdec_any (fun G W h => rgrove_any G W h)) G a bs ca n w (fun G O W h1 h2 hm => grovesame_any G O W h1 h2 hm) (fun e W hW => error_self e W (hL.below hW)) hg hb hl hca hnil hz hn.1 hn.2

end Go.Proofs.YtdadjppdonephagDoor
