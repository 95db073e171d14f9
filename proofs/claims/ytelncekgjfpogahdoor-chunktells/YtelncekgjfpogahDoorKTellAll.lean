/-
  ChunkTells, whole.
-/
import Derived.Test.YtelncekgjfpogahDoorKTell
import Derived.Test.YtelncekgjfpogahDoorErrSelf
import Derived.Test.YtelncekgjfpogahDoorOpenB
import Derived.Test.YtelncekgjfpogahDoorIntsIn
namespace Go.Proofs.YtelncekgjfpogahDoor
open Go.ChangeShapes Go.WideShapes Go.ChangeAt Go.RowKit Go.Lib
set_option linter.unusedVariables false

theorem ktell_all (a la oa pa : Option Addr) (bs : List Nat) (l : List M.Pt) (ol : List Int) (ps : List Bc) (ca lc oc pc : Nat) (size : Int) (w : World) (hb : RdB w a bs) (hp : RdP w la l) (ho : Rd w oa ol) (hy : RdY w pa ps) (hl : bs.length ≤ ca) (hca : ca ≤ 9223372036854775807) (hnil : a = none → ca = 0) (hz : bs.length ≤ 140737488351232) (hol : ol.length ≤ 140737488351232) (hoi : ∀ x ∈ ol, -9223372036854775808 ≤ x ∧ x ≤ 9223372036854775807) (hs : -9223372036854775808 ≤ size ∧ size ≤ 9223372036854775807) (hL : Lays w) :
    Calls Tryd.prog 5 #[.slice a bs.length ca, .int .i64 size, .slice la l.length lc, .slice oa ol.length oc, .slice pa ps.length pc] w fun e w' => e = .returned (.bool true) ∧ Below w.heap.size w w' :=
  ktell_walk a bs ca size la l lc oa ol oc pa ps pc w (fun e W hW => error_self e W (hL.below hW)) hb hl hca hp ho hoi hy hs.1 hs.2

end Go.Proofs.YtelncekgjfpogahDoor
