/-
  What package grove's down, sum and vote answer of values and weights that are right, and what they come to together.
-/
import Derived.Test.YtcaljnhdfbjpnaeGFix
import Derived.Test.YtcaljnhdfbjpnaeGroves
import Derived.Maps.OwnOps
import Derived.Maps.Views
import Derived.RegionTactic
import Derived.BigQuiet
import Derived.Deep.QuietTactic
namespace Go.Proofs.Ytcaljnhdfbjpnae
open Go.ChangeShapes Go.WideShapes Go.ChangeAt Go.RowKit Go.Lib Go.Maps
set_option linter.unusedVariables false

theorem gdown_any (a b : Int) (w : World) (hb : 0 < b) (hb2 : b ≤ 9007199254740992) (ha : -9007199254740992 ≤ a) (ha2 : a ≤ 9007199254740992) :
    Calls Try.prog 54 #[.int .i64 a, .int .i64 b] w fun e w' => e = .returned (.int .i64 (a / b)) ∧ w' = w := by
  obtain ⟨q1, q2⟩ := M.tdiv_bd a b 9007199254740992 hb ha ha2
  have D := hide (M.down_eq a b hb)
  by_cases h : a.tmod b < 0
  · go_enter Try.func54, Try.ntmps54
    go_wp2
    go_ret
    exact ⟨ret_int (by rw [← D.out, if_pos h]), rfl⟩
  · go_enter Try.func54, Try.ntmps54
    go_wp2
    go_ret
    exact ⟨ret_int (by rw [← D.out, if_neg (by omega)]), rfl⟩

/-- values and weights that are right -/
structure Vw (ws vs : List Int) : Prop where
  len : ws.length = vs.length
  pos : 0 < vs.length
  top : vs.length ≤ 12
  vals : ∀ i, i < vs.length → -1000000 ≤ vs.getD i 0 ∧ vs.getD i 0 ≤ 1000000
  wts : ∀ i, i < vs.length → 1 ≤ ws.getD i 0 ∧ ws.getD i 0 ≤ 1000

set_option maxHeartbeats 2000000 in
theorem gsum_in (a b : Option Addr) (ws vs : List Int) (ca cb : Nat) (w : World) (ha : Rd w a ws) (hb : Rd w b vs) (V : Vw ws vs) :
    Calls Try.prog 55 #[.slice a ws.length ca, .slice b vs.length cb] w fun e w' => e = .returned (.int .i64 (M.sumK vs ws vs.length)) ∧ w' = w := by
  have n12 := V.top
  have hl := hide V.len
  obtain ⟨ba, oa, rfl, hba, hca⟩ := ha.2 (by intro e; have := V.len; have := V.pos; rw [e] at *; simp at *; omega)
  obtain ⟨bb, ob, rfl, hbb, hcb⟩ := hb.2 (by intro e; have := V.pos; rw [e] at *; simp at *)
  have HA : Hid (∀ i, i < vs.length → w.cell? ⟨ba, oa + i, none⟩ = some (.int .i64 (ws.getD i 0))) := fun i hi => hca i (by rw [hl.out]; exact hi)
  have HB := hide hcb
  have HX := hide (fun i (hi : i < vs.length) => (⟨(V.vals i hi).1, (V.vals i hi).2, (V.wts i hi).1, (V.wts i hi).2⟩ : -1000000 ≤ vs.getD i 0 ∧ vs.getD i 0 ≤ 1000000 ∧ 1 ≤ ws.getD i 0 ∧ ws.getD i 0 ≤ 1000))
  have SB := hide (fun k (hk : k ≤ vs.length) => M.sum_bound (l := vs) (ws := ws) k (fun i hi => HX.out i (by omega)))
  have W12 : ws.length ≤ 12 := by rw [hl.out]; exact n12
  clear ha hb hca hcb hba hbb V
  go_enter Try.func55, Try.ntmps55
  go_wp2
  go_loopw [5, 10] (fun s i wr => ∃ k : Nat, k ≤ vs.length ∧ s = .int .i64 (M.sumK vs ws k) ∧ i = .int .i64 k ∧ wr = w) (fun _ i _ => vs.length - (intOf i).toNat)
  case atStart => exact ⟨0, Nat.zero_le _, rfl, rfl, rfl⟩
  case round =>
    obtain ⟨k, hk, rfl, rfl, ew⟩ := hrel
    subst wr
    by_cases hlt : k < vs.length
    · have c1 := HA.out k hlt
      have c2 := HB.out k hlt
      obtain ⟨x1, x2, y1, y2⟩ := HX.out k hlt
      obtain ⟨s1, s2⟩ := SB.out k hk
      have SS : Hid (M.sumK vs ws k + vs.getD k 0 * ws.getD k 0 = M.sumK vs ws (k + 1)) := rfl
      have kz : (k : Int) < (vs.length : Int) := by omega
      have kw : (k : Int) < (ws.length : Int) := by rw [hl.out]; exact kz
      obtain ⟨m1, m2⟩ := M.mul_far x1 x2 y1 y2
      clear HA HB HX SB
      generalize vs.getD k 0 = x at *
      generalize ws.getD k 0 = y at *
      go_wp2_with (first
        | (go_at_call 78; refine (mul_small _ _ _ (by omega) (by omega) (by omega) (by omega)).mono ?_; rintro e w1 ⟨rfl, e1⟩; subst w1)
        | (go_at_call 77; refine (add_in _ _ _ (by omega) (by omega) (by omega) (by omega)).mono ?_; rintro e w1 ⟨rfl, e1⟩; subst w1))
      go_roundw
      case rel => exact ⟨k + 1, by omega, by rw [SS.out], by go_num, (by first | rfl | trivial)⟩
      case measure => simp [intOf]; omega
    · have ek : k = vs.length := by omega
      have EE := hide ek
      clear ek HA HB HX SB
      go_wp2
      go_ret
      exact ⟨ret_int (by rw [EE.out]), rfl⟩

theorem keyI : Keyed Try.prog 3 := int_keyed Try.underlying3
theorem zeroI (w : World) : (zeroValue 3).run Try.prog w = .ok (.int .i64 0) w := by kernel_rfl
/-- a map that has of each number the votes of the first k -/
def Vm (w : World) (B k : Nat) (vs ws : List Int) (D : DataW Unit) : Prop :=
  w.ownsMap Try.prog 3 (plainElem Try.prog 3) B k D ∧ IsMap D ∧ ∀ v : Int, D.atKey (.int .i64 v) (.lit (.int .i64 0)) = .lit (.int .i64 (M.votK vs ws v k))
theorem vm_none (w : World) (vs ws : List Int) : Vm (w.alloc (.map #[] 0)) w.heap.size 0 vs ws (.map []) := ⟨World.ownsMap_made _ _ _ _, isMap_empty, fun v => rfl⟩
theorem wfI {x : Int} (h1 : -1000000 ≤ x) (h2 : x ≤ 1000000) : (Lit.int .i64 x).wf = true := WalkArith.wf_i64 (by omega)
theorem Vm.look {w : World} {B k : Nat} {vs ws : List Int} {D : DataW Unit} (h : Vm w B k vs ws D) {x : Int} (h1 : -1000000 ≤ x) (h2 : x ≤ 1000000) :
    (Instr.lookup 98 (.map (some B)) (.int .i64 x) false).run Try.prog w = .ok (.int .i64 (M.votK vs ws x k)) w := by
  obtain ⟨c, hrun, hat, _⟩ := h.1.lookup_int keyI Try.underlying98 Try.underlying3 (zeroI w) (keyOf_int_mk Try.underlying3 (wfI h1 h2))
  have e := hat.symm.trans (h.2.2 x)
  cases e
  exact hrun
theorem Vm.put {w : World} {B k : Nat} {vs ws : List Int} {D : DataW Unit} (h : Vm w B k vs ws D) (hk : k < 12) {x y z : Int} (h1 : -1000000 ≤ x) (h2 : x ≤ 1000000) (hx : vs.getD k 0 = x) (hy : ws.getD k 0 = y) (hz : z = M.votK vs ws x k + y) (z1 : -1000000 ≤ z) (z2 : z ≤ 1000000) :
    ∃ w', (Instr.mapUpdate 98 (.map (some B)) (.int .i64 x) (.int .i64 z)).run Try.prog w = .ok () w' ∧ (∃ D', Vm w' B (k + 1) vs ws D') ∧ w.grownBy w' (some B) := by
  obtain ⟨w', hrun, hown, hg⟩ := h.1.update keyI Try.underlying98 (by unfold maxLen; omega) (keyOf_int_mk Try.underlying3 (wfI h1 h2)) (plainElem_int Try.underlying3 (wfI z1 z2))
  refine ⟨w', hrun, ⟨_, hown, h.2.1.put _ _, fun v => ?_⟩, hg⟩
  show _ = DataW.lit (.int .i64 (M.votK vs ws v k + if vs.getD k 0 = v then ws.getD k 0 else 0))
  by_cases e : x = v
  · subst e
    rw [atKey_put_same h.2.1 (by first | trivial | exact ⟨_, _, rfl⟩ | simp [WideAt.IsKeyLit]), hz, if_pos hx, hy]
  · rw [atKey_put_other (by intro q; cases q; exact e rfl), h.2.2 v, if_neg (by rw [hx]; exact e)]
    rw [Int.add_zero]

end Go.Proofs.Ytcaljnhdfbjpnae
