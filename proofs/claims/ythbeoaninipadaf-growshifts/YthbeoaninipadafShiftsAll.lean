/-
  GrowShifts, walked whole.
-/
import Derived.Test.YthbeoaninipadafShiftsWalk
import Derived.Test.YthbeoaninipadafGroFit
namespace Go.Proofs.Ythbeoaninipadaf
open Go.RowKit

theorem shifts_all (a : Option Addr) (xs : List Sx) (ca : Nat) (m d l b : Int) (w : World) (h : RdL w a xs) :
    Calls Try.prog 4 #[.slice a xs.length ca, .int .i64 m, .int .i64 d, .int .i64 l, .int .i64 b] w fun e w' => e = .returned (.bool true) ∧ RowKit.Below w.heap.size w w' := shifts_walk grofit_any grochk_any a xs ca m d l b w h

end Go.Proofs.Ythbeoaninipadaf
