/-
  PathWords' walk, with what package path answers: at any tree and any row it answers true, where the table of powers lies as package strconv lays it.
-/
import Derived.Test.YtandimbpealclacDoorPWords
import Derived.Test.YtandimbpealclacDoorPWhy
namespace Go.Proofs.YtandimbpealclacDoor
open Go.ChangeShapes Go.WideShapes Go.ChangeAt Go.RowKit Go.Lib

theorem words_all (a b : Option Addr) (ts : List M.Nd) (xs : List Int) (ca cb : Nat) (w : World) (ht : RdN w a ts) (hr : Rd w b xs) (hT : Tabs w) :
    Calls Tryd.prog 3 #[.slice a ts.length ca, .slice b xs.length cb] w fun e w' => e = .returned (.bool true) ∧ Below w.heap.size w w' :=
  words_walk a b ts xs ca cb w ht hr (fun W hW => path_any a b ts xs ca cb W (ht.below hW) (hr.below hW))
    (fun a b ts xs ca cb W hW h1 h2 => by
      have := why_any a b ts xs ca cb W h1 h2 (hT.below hW)
      unfold M.whyV
      exact this)

end Go.Proofs.YtandimbpealclacDoor
