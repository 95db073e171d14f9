/-
  LimitTells, walked whole.
-/
import Derived.Test.YtcaljnhdfbjpnadGreatDoorLTells
import Derived.Test.YtcaljnhdfbjpnadGreatDoorLimRows
import Derived.Test.YtcaljnhdfbjpnadGreatDoorLimGrove
import Derived.Test.YtcaljnhdfbjpnadGreatDoorLimSteps
namespace Go.Proofs.YtcaljnhdfbjpnadGreatDoor
open Go.RowKit

theorem ltells_all (G : Gr) (a bl bo b : Option Addr) (ts : List M.Nd) (ss us : List M.Sp) (xs : List Int) (ca cl co cb : Nat) (f : Int) (w : World) (hg : RdG w G) (ht : RdN w a ts) (hs : RdS w bl ss) (ho : RdS w bo us) (hr : Rd w b xs) (hl : Lays w) :
    Calls Tryz.prog 3 #[.slice a ts.length ca, .slice bl ss.length cl, G.v, .slice bo us.length co, .slice b xs.length cb, .int .i64 f] w fun r w' => r = .returned (.bool true) ∧ RowKit.Below w.heap.size w w' :=
  ltells_walk limtree_any limrows_any (limgrove_any limtree_any) limsteps_any G a bl bo b ts ss us xs ca cl co cb f w hg ht hs ho hr hl

end Go.Proofs.YtcaljnhdfbjpnadGreatDoor
