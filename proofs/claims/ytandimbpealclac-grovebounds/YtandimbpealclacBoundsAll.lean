/-
  GroveBounds' walk, with what package grove answers: at any two groves and any row it answers true.
-/
import Derived.Test.YtandimbpealclacBoundsWalk
import Derived.Test.YtandimbpealclacGEach
import Derived.Test.YtandimbpealclacGJoinC
import Derived.Test.YtandimbpealclacGBoundsB
namespace Go.Proofs.Ytandimbpealclac
open Go.ChangeShapes Go.WideShapes Go.ChangeAt Go.RowKit Go.Lib

theorem bounds_all (G O : Gr) (b : Option Addr) (xs : List Int) (cb : Nat) (w : World) (hg : RdG w G) (ho : RdG w O) (hr : Rd w b xs) :
    Calls Try.prog 5 #[G.v, O.v, .slice b xs.length cb] w fun e w' => e = .returned (.bool true) ∧ Below w.heap.size w w' :=
  bounds_walk geval_any geach_any gbounds_any gjoin_any G O b xs cb w hg ho hr

end Go.Proofs.Ytandimbpealclac
