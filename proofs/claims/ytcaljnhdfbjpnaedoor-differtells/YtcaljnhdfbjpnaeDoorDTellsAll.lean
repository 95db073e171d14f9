/-
  DifferTells, walked whole.
-/
import Derived.Test.YtcaljnhdfbjpnaeDoorDTells
import Derived.Test.YtcaljnhdfbjpnaeDoorDifJ
import Derived.Test.YtcaljnhdfbjpnaeDoorPTree
namespace Go.Proofs.YtcaljnhdfbjpnaeDoor
open Go.RowKit

theorem ptree_gives : PTreeGives := fun a0 ts cap m W h => tree_gives a0 ts cap m W h
theorem dtells_all (a b c0 : Option Addr) (ts us : List M.Nd) (xs : List Int) (ca cb cc : Nat) (m : Int) (w : World) (ha : RdN w a ts) (hb : RdN w b us) (hr : Rd w c0 xs) (hl : Lays w) :
    Calls Tryd.prog 3 #[.slice a ts.length ca, .slice b us.length cb, .int .i64 m, .slice c0 xs.length cc] w fun e w' => e = .returned (.bool true) ∧ RowKit.Below w.heap.size w w' := dtells_walk diftrees_any ptree_gives a b c0 ts us xs ca cb cc m w ha hb hr hl

end Go.Proofs.YtcaljnhdfbjpnaeDoor
