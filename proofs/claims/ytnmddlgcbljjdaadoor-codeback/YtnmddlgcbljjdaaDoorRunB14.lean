/-
  Several texts as one: CBackAll.
-/
import Derived.Test.YtnmddlgcbljjdaaDoorRunB9
import Derived.Test.YtnmddlgcbljjdaaDoorRunB12
import Derived.Test.YtnmddlgcbljjdaaDoorRunB10
import Derived.Test.YtnmddlgcbljjdaaDoorRunB11
import Derived.Test.YtnmddlgcbljjdaaDoorRunB13
import Derived.Test.YtnmddlgcbljjdaaDoorRunB2
namespace Go.Proofs.YtnmddlgcbljjdaaDoor
open Go.ChangeShapes Go.WideShapes Go.ChangeAt Go.RowKit Go.Lib
set_option linter.unusedVariables false

theorem codeback_all (G : Gr) (a : Option Addr) (bs : List Nat) (ca : Nat) (c n : Int) (w : World) (hg : RdG w G) (hb : RdB w a bs) (hl : bs.length ≤ ca) (hca : ca ≤ 9223372036854775807) (hnil : a = none → ca = 0) (hz : bs.length ≤ 140737488351232) (hc : -9223372036854775808 ≤ c ∧ c ≤ 9223372036854775807) (hn : -9223372036854775808 ≤ n ∧ n ≤ 9223372036854775807) (hL : Lays w) :
    Calls Tryd.prog 4 #[G.v, .slice a bs.length ca, .int .i64 c, .int .i64 n] w fun e w' => e = .returned (.bool true) ∧ Below w.heap.size w w' :=
  codeback_walk cdnum_any cdget_any cdenc_any cddec_any G a bs ca c n w (fun G O W h1 h2 hm => grovesame_any G O W h1 h2 hm) (fun e W hW => error_self e W (hL.below hW)) hg hb hl hca hnil hz hn.1 hn.2

end Go.Proofs.YtnmddlgcbljjdaaDoor
