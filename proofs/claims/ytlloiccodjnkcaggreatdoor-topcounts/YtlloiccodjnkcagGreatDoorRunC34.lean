/-
  Several texts as one: CountsAll.
-/
import Derived.Test.YtlloiccodjnkcagGreatDoorRunC17
import Derived.Test.YtlloiccodjnkcagGreatDoorRunC25
import Derived.Test.YtlloiccodjnkcagGreatDoorRunC28
import Derived.Test.YtlloiccodjnkcagGreatDoorRunC30
import Derived.Test.YtlloiccodjnkcagGreatDoorRunC20
import Derived.Test.YtlloiccodjnkcagGreatDoorRunC32
import Derived.Test.YtlloiccodjnkcagGreatDoorRunC16
import Derived.Test.YtlloiccodjnkcagGreatDoorRunC24
import Derived.Test.YtlloiccodjnkcagGreatDoorRunC22
import Derived.Test.YtlloiccodjnkcagGreatDoorRunC33
namespace Go.Proofs.YtlloiccodjnkcagGreatDoor
open Go.RowKit

theorem counts_all (a : Option Addr) (xs : List Sx) (ca : Nat) (m r f : Int) (w : World) (h : RdL w a xs) (hl : Lays w) :
    Calls Tryz.prog 4 #[.slice a xs.length ca, .int .i64 m, .int .i64 r, .int .i64 f] w fun e w' => e = .returned (.bool true) ∧ RowKit.Below w.heap.size w w' := tcounts_walk boofit_any weiuses_any weiwo_any (difgroves_any diftrees_any) (fun W => one_any grofit_any eval_any W) a xs ca m r f w h (fun W hW => (error_any 5 5 W (hl.below hW)).mono (R' := fun e w' => e = .returned (.bool true) ∧ RowKit.Below W.heap.size W w') fun e w' h => ⟨by rw [h.1, beq_self_eq_true], h.2⟩)

end Go.Proofs.YtlloiccodjnkcagGreatDoor
