/-
  ChunkSizes, whole: what package chunk's Sum, Plan and Check answer put into the law's own walk.
-/
import Derived.Test.YtelncekgjfpogahSzWalk
import Derived.Test.YtelncekgjfpogahChPlan
import Derived.Test.YtelncekgjfpogahChCheck
import Derived.Test.YtelncekgjfpogahOpenB
namespace Go.Proofs.Ytelncekgjfpogah
open Go.ChangeShapes Go.WideShapes Go.ChangeAt Go.RowKit Go.Lib
set_option linter.unusedVariables false

theorem sizes_all (a : Option Addr) (bs : List Nat) (ca : Nat) (size : Int) (w : World) (h : RdB w a bs) (hl : bs.length ≤ ca) (hca : ca ≤ 9223372036854775807) (hn : a = none → ca = 0) (hi : -9223372036854775808 ≤ size ∧ size ≤ 9223372036854775807) :
    Calls Try.prog 4 #[.slice a bs.length ca, .int .i64 size] w fun e w' => e = .returned (.bool true) ∧ Below w.heap.size w w' := sizes_walk chsum_any chplan_any chcheck_any a bs ca size w h hl hca hi.1 hi.2

end Go.Proofs.Ytelncekgjfpogah
