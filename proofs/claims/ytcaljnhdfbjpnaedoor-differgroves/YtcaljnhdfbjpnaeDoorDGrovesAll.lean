/-
  DifferGroves, walked whole.
-/
import Derived.Test.YtcaljnhdfbjpnaeDoorDGrovesB
import Derived.Test.YtcaljnhdfbjpnaeDoorDifJ
import Derived.Test.YtcaljnhdfbjpnaeDoorDifGroves
namespace Go.Proofs.YtcaljnhdfbjpnaeDoor
open Go.RowKit

theorem dgroves_all (G O : Gr) (a b : Option Addr) (ts us : List M.Nd) (ca cb : Nat) (m : Int) (w : World) (hg : RdG w G) (ho : RdG w O) (ha : RdN w a ts) (hb : RdN w b us) (hl : Lays w) :
    Calls Tryd.prog 4 #[G.v, O.v, .slice a ts.length ca, .slice b us.length cb, .int .i64 m] w fun e w' => e = .returned (.bool true) ∧ RowKit.Below w.heap.size w w' := dgroves_walk (difgroves_any diftrees_any) difmoved_any G O a b ts us ca cb m w hg ho ha hb hl

end Go.Proofs.YtcaljnhdfbjpnaeDoor
