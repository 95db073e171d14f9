/-
  ChunkBack, whole: what package chunk answers put into the law's own walk.
-/
import Derived.Test.YtelncekgjfpogahDoorKBack
import Derived.Test.YtelncekgjfpogahDoorFetAll
import Derived.Test.YtelncekgjfpogahDoorChPlan
import Derived.Test.YtelncekgjfpogahDoorErrSelf
import Derived.Test.YtelncekgjfpogahDoorOpenB
import Derived.Test.YtelncekgjfpogahDoorIntsIn
namespace Go.Proofs.YtelncekgjfpogahDoor
open Go.ChangeShapes Go.WideShapes Go.ChangeAt Go.RowKit Go.Lib
set_option linter.unusedVariables false

theorem kback_all (a oa : Option Addr) (bs : List Nat) (ol : List Int) (ca oc : Nat) (size at' : Int) (y : Nat) (w : World) (hb : RdB w a bs) (ho : Rd w oa ol) (hl : bs.length ≤ ca) (hca : ca ≤ 9223372036854775807) (hnil : a = none → ca = 0) (hz : bs.length ≤ 140737488351232) (hol : ol.length ≤ 140737488351232) (hoi : ∀ x ∈ ol, -9223372036854775808 ≤ x ∧ x ≤ 9223372036854775807) (hs : -9223372036854775808 ≤ size ∧ size ≤ 9223372036854775807) (ha : -9223372036854775808 ≤ at' ∧ at' ≤ 9223372036854775807) (hy : y < 256) (hL : Lays w) :
    Calls Tryd.prog 4 #[.slice a bs.length ca, .int .i64 size, .slice oa ol.length oc, .int .i64 at', .int .u8 (y : Int)] w fun e w' => e = .returned (.bool true) ∧ Below w.heap.size w w' :=
  kback_walk fch_gives chplan_any a bs ca size oa ol oc at' y w (fun e W hW => error_self e W (hL.below hW)) hb hl hca hnil hz ho hol hoi hs.1 hs.2 ha.1 ha.2 hy

end Go.Proofs.YtelncekgjfpogahDoor
