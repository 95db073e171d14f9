/-
  What grove's Together answers of values and weights that are right.
-/
import Derived.Test.YtcaljnhdfbjpnaeGCheck
import Derived.Test.YtcaljnhdfbjpnaeGVote
namespace Go.Proofs.Ytcaljnhdfbjpnae
open Go.ChangeShapes Go.WideShapes Go.ChangeAt Go.RowKit Go.Lib
set_option linter.unusedVariables false

theorem M.wts_vw {ws vs : List Int} (V : Vw ws vs) : M.wtsF ws vs.length = 0 := by
  have h0 := V.pos
  have h12 := V.top
  have hl := V.len
  unfold M.wtsF
  rw [if_neg (by omega), if_neg (by omega), if_neg (by simp [hl])]
  have : ws.any M.wBad = false := by
    cases e : ws.any M.wBad with
    | false => rfl
    | true =>
      obtain ⟨x, hx, e2⟩ := List.any_eq_true.1 e
      obtain ⟨i, hi, rfl⟩ := List.getElem_of_mem hx
      have := V.wts i (by omega)
      rw [M.getD_at hi] at this
      unfold M.wBad at e2
      rw [decide_eq_false (by omega), decide_eq_false (by omega)] at e2
      cases e2
  rw [this]; rfl

set_option maxHeartbeats 2000000 in
theorem gTog_in (wy : Int) (a b : Option Addr) (ws vs : List Int) (ca cb : Nat) (w : World) (ha : Rd w a ws) (hb : Rd w b vs) (V : Vw ws vs) (h1 : 1 ≤ wy) (h3 : wy ≤ 3) :
    Calls Try.prog 52 #[.int .i64 wy, .slice a ws.length ca, .slice b vs.length cb] w fun e w' => e = .returned (.tuple #[.int .i64 (M.together wy ws vs), .nilIface]) ∧ Below w.heap.size w w' := by
  have IW := hide (fun W => isway_any wy W true (decide_eq_true ⟨h1, h3⟩).symm)
  have CW := hide (gwts_any a ws ca vs.length w ha)
  rw [M.wts_vw V, err_nil rfl] at CW
  have CT := hide (gtog_in wy a b ws vs ca cb w ha hb V h1 h3)
  have hm : vs.length ≤ 9223372036854775807 := hb.1
  clear ha hb V h1 h3
  generalize M.together wy ws vs = T at *
  go_enter Try.func52, Try.ntmps52
  go_wp2_with (first
    | (go_at_call 50; refine (IW.out _).mono ?_; rintro e w1 ⟨rfl, e1⟩; subst w1)
    | (go_at_call 51; refine CW.out.mono ?_; rintro e w2 ⟨rfl, e2⟩; subst w2)
    | (go_at_call 30; refine CT.out.mono ?_; rintro e w3 ⟨rfl, hb3⟩))
  go_ret2
  exact ⟨rfl, hb3⟩

end Go.Proofs.Ytcaljnhdfbjpnae
