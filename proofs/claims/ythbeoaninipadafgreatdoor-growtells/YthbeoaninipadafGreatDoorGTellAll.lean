/-
  GrowTells, walked whole.
-/
import Derived.Test.YthbeoaninipadafGreatDoorGrowTell
import Derived.Test.YthbeoaninipadafGreatDoorGroSplit
namespace Go.Proofs.YthbeoaninipadafGreatDoor
open Go.RowKit

theorem gtell_all (a c0 : Option Addr) (xs : List Sx) (ts : List M.Nd) (ca cc : Nat) (m d l : Int) (w : World) (h : RdL w a xs) (ht : RdN w c0 ts) (hl : Lays w) :
    Calls Tryz.prog 3 #[.slice a xs.length ca, .int .i64 m, .int .i64 d, .int .i64 l, .slice c0 ts.length cc] w fun r w' => r = .returned (.bool true) ∧ RowKit.Below w.heap.size w w' := gtells_walk grofit_any grochk_any grosplit_any growrong_any a c0 xs ts ca cc m d l w h ht hl

end Go.Proofs.YthbeoaninipadafGreatDoor
