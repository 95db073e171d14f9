/-
  FlatAgain, walked whole.
-/
import Derived.Test.YtcaljnhdfbjpnaeDoorAgainWalk
import Derived.Test.YtcaljnhdfbjpnaeDoorFlatH
import Derived.Test.YtcaljnhdfbjpnaeDoorFlatN
import Derived.Test.YtcaljnhdfbjpnaeDoorDifJ
import Derived.Test.YtcaljnhdfbjpnaeDoorDifGroves
namespace Go.Proofs.YtcaljnhdfbjpnaeDoor
open Go.RowKit

theorem again_all (G : Gr) (w : World) (h : RdG w G) (hl : Lays w) :
    Calls Tryd.prog 5 #[G.v] w fun r w' => r = .returned (.bool true) ∧ RowKit.Below w.heap.size w w' := again_walk (fun G w h hg => fnew_any G w h hg) (fun G w h hg => fnew_bad G w h hg) (fun p g w h hg => fgrove_any p g w h hg) (difgroves_any diftrees_any) G w h hl

end Go.Proofs.YtcaljnhdfbjpnaeDoor
