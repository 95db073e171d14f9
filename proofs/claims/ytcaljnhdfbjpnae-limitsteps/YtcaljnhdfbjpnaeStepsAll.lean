/-
  LimitSteps, walked whole.
-/
import Derived.Test.YtcaljnhdfbjpnaeStepsWalk
import Derived.Test.YtcaljnhdfbjpnaeLimSteps
import Derived.Test.YtcaljnhdfbjpnaeBin
namespace Go.Proofs.Ytcaljnhdfbjpnae
open Go.RowKit

theorem bin_gives : BinGives := by
  intro a xs cap x W h hc
  cases ho : M.outI x with
  | true =>
    have := Bin_out a xs cap x W h hc ho
    rw [if_pos rfl, if_pos rfl, err_some (show (1 : Int) ≠ 0 by decide)]
    exact this
  | false =>
    have := Bin_ok a xs cap x W h hc ho
    rw [if_neg (by decide), if_neg (by decide), err_nil rfl]
    exact this
theorem steps_all (a b : Option Addr) (ts : List M.Nd) (xs : List Int) (ca cb : Nat) (f c : Int) (w : World) (ht : RdN w a ts) (hr : Rd w b xs) :
    Calls Try.prog 4 #[.slice a ts.length ca, .slice b xs.length cb, .int .i64 f, .int .i64 c] w fun r w' => r = .returned (.bool true) ∧ RowKit.Below w.heap.size w w' := steps_walk limsteps_any bin_gives eval_any a b ts xs ca cb f c w ht hr

end Go.Proofs.Ytcaljnhdfbjpnae
