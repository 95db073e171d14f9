/-
  GroveTwice's walk, with what package grove answers: at any grove and any row it answers true.
-/
import Derived.Test.YtandimbpealcladTwiceWalk
import Derived.Test.YtandimbpealcladGEach
import Derived.Test.YtandimbpealcladGJoinC
namespace Go.Proofs.Ytandimbpealclad
open Go.ChangeShapes Go.WideShapes Go.ChangeAt Go.RowKit Go.Lib

theorem twice_all (G : Gr) (b : Option Addr) (xs : List Int) (cb : Nat) (w : World) (hg : RdG w G) (hr : Rd w b xs) :
    Calls Try.prog 3 #[G.v, .slice b xs.length cb] w fun e w' => e = .returned (.bool true) ∧ Below w.heap.size w w' :=
  twice_walk geval_any geach_any gjoin_any G b xs cb w hg hr

end Go.Proofs.Ytandimbpealclad
