/-
  Several texts as one: WSameAll.
-/
import Derived.Test.YtlloiccodjnkcagRunS12
import Derived.Test.YtlloiccodjnkcagRunS16
import Derived.Test.YtlloiccodjnkcagRunS21
namespace Go.Proofs.Ytlloiccodjnkcag
open Go.RowKit

theorem wsame_all (G : Gr) (a b : Option Addr) (xs ys : List Int) (ca cb : Nat) (w : World) (hg : RdG w G) (ha : Rd w a xs) (hb : Rd w b ys) :
    Calls Try.prog 5 #[.slice a xs.length ca, .slice b ys.length cb, G.v] w fun e w' => e = .returned (.bool true) ∧ RowKit.Below w.heap.size w w' := wsame_walk weisame_any weiuses_any prune_gives gcheck_any a b xs ys ca cb G w ha hb hg

end Go.Proofs.Ytlloiccodjnkcag
