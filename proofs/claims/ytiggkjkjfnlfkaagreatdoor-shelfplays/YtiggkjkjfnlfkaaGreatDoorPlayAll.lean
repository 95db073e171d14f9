/-
  ShelfPlays, whole: calls, a name and numbers that came in, and the law's own walk.
-/
import Derived.Test.YtiggkjkjfnlfkaaGreatDoorPlayW
import Derived.Test.YtiggkjkjfnlfkaaGreatDoorRunS17
namespace Go.Proofs.YtiggkjkjfnlfkaaGreatDoor
open Go.ChangeShapes Go.WideShapes Go.ChangeAt Go.RowKit Go.Lib
set_option linter.unusedVariables false

theorem shelfplays_all (a : Option Addr) (l : List CaC) (ca : Nat) (name : ByteArray) (key num : Int) (w : World) (h : RdC w a l) (hn : name.size ≤ 9223372036854775807) (h1 : -9223372036854775808 ≤ key ∧ key ≤ 9223372036854775807) (h2 : -9223372036854775808 ≤ num ∧ num ≤ 9223372036854775807) (hL : Lays w) :
    Calls Tryz.prog 3 #[.slice a l.length ca, .string name, .int .i64 key, .int .i64 num] w fun e w' => e = .returned (.bool true) ∧ Below w.heap.size w w' := by
  have z := plays_walk a l ca (name.data.toList.map UInt8.toNat) key num w h (str_isB name) (by simpa using hn) h2 hL
  rwa [str_is] at z

end Go.Proofs.YtiggkjkjfnlfkaaGreatDoor
