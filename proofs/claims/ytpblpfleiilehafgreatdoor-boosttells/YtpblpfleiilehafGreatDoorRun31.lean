/-
  Several texts as one: GSum, GVote, GroveP, GEach.
-/
import Derived.Test.YtpblpfleiilehafGreatDoorRun21
import Derived.Test.YtpblpfleiilehafGreatDoorRun8
import Derived.Maps.OwnOps
import Derived.Maps.Views
import Derived.RegionTactic
import Derived.BigQuiet
import Derived.Deep.QuietTactic
import Derived.Deep.Cut
import Derived.Deep.CutRange
import Derived.Test.YtpblpfleiilehafGreatDoorRun30
import Derived.Test.YtpblpfleiilehafGreatDoorRun28
import Derived.OwnWalk
namespace Go.Proofs.YtpblpfleiilehafGreatDoor
open Go.ChangeShapes Go.WideShapes Go.ChangeAt Go.RowKit Go.Lib Go.Maps
set_option linter.unusedVariables false

theorem gdown_any (a b : Int) (w : World) (hb : 0 < b) (hb2 : b ≤ 9007199254740992) (ha : -9007199254740992 ≤ a) (ha2 : a ≤ 9007199254740992) :
    Calls Tryz.prog 93 #[.int .i64 a, .int .i64 b] w fun e w' => e = .returned (.int .i64 (a / b)) ∧ w' = w := by
  obtain ⟨q1, q2⟩ := M.tdiv_bd a b 9007199254740992 hb ha ha2
  have D := hide (M.down_eq a b hb)
  by_cases h : a.tmod b < 0
  · go_enter Tryz.func93, Tryz.ntmps93
    go_wp2
    go_ret
    exact ⟨ret_int (by rw [← D.out, if_pos h]), rfl⟩
  · go_enter Tryz.func93, Tryz.ntmps93
    go_wp2
    go_ret
    exact ⟨ret_int (by rw [← D.out, if_neg (by omega)]), rfl⟩

/-- values and weights that are right -/
structure Vw (ws vs : List Int) : Prop where
  len : ws.length = vs.length
  pos : 0 < vs.length
  top : vs.length ≤ 12
  vals : ∀ i, i < vs.length → -1000000 ≤ vs.getD i 0 ∧ vs.getD i 0 ≤ 1000000
  wts : ∀ i, i < vs.length → 1 ≤ ws.getD i 0 ∧ ws.getD i 0 ≤ 1000

set_option maxHeartbeats 2000000 in
theorem gsum_in (a b : Option Addr) (ws vs : List Int) (ca cb : Nat) (w : World) (ha : Rd w a ws) (hb : Rd w b vs) (V : Vw ws vs) :
    Calls Tryz.prog 94 #[.slice a ws.length ca, .slice b vs.length cb] w fun e w' => e = .returned (.int .i64 (M.sumK vs ws vs.length)) ∧ w' = w := by
  have n12 := V.top
  have hl := hide V.len
  obtain ⟨ba, oa, rfl, hba, hca⟩ := ha.2 (by intro e; have := V.len; have := V.pos; rw [e] at *; simp at *; omega)
  obtain ⟨bb, ob, rfl, hbb, hcb⟩ := hb.2 (by intro e; have := V.pos; rw [e] at *; simp at *)
  have HA : Hid (∀ i, i < vs.length → w.cell? ⟨ba, oa + i, none⟩ = some (.int .i64 (ws.getD i 0))) := fun i hi => hca i (by rw [hl.out]; exact hi)
  have HB := hide hcb
  have HX := hide (fun i (hi : i < vs.length) => (⟨(V.vals i hi).1, (V.vals i hi).2, (V.wts i hi).1, (V.wts i hi).2⟩ : -1000000 ≤ vs.getD i 0 ∧ vs.getD i 0 ≤ 1000000 ∧ 1 ≤ ws.getD i 0 ∧ ws.getD i 0 ≤ 1000))
  have SB := hide (fun k (hk : k ≤ vs.length) => M.sum_bound (l := vs) (ws := ws) k (fun i hi => HX.out i (by omega)))
  have W12 : ws.length ≤ 12 := by rw [hl.out]; exact n12
  clear ha hb hca hcb hba hbb V
  go_enter Tryz.func94, Tryz.ntmps94
  go_wp2
  go_loopw [5, 10] (fun s i wr => ∃ k : Nat, k ≤ vs.length ∧ s = .int .i64 (M.sumK vs ws k) ∧ i = .int .i64 k ∧ wr = w) (fun _ i _ => vs.length - (intOf i).toNat)
  case atStart => exact ⟨0, Nat.zero_le _, rfl, rfl, rfl⟩
  case round =>
    obtain ⟨k, hk, rfl, rfl, ew⟩ := hrel
    subst wr
    by_cases hlt : k < vs.length
    · have c1 := HA.out k hlt
      have c2 := HB.out k hlt
      obtain ⟨x1, x2, y1, y2⟩ := HX.out k hlt
      obtain ⟨s1, s2⟩ := SB.out k hk
      have SS : Hid (M.sumK vs ws k + vs.getD k 0 * ws.getD k 0 = M.sumK vs ws (k + 1)) := rfl
      have kz : (k : Int) < (vs.length : Int) := by omega
      have kw : (k : Int) < (ws.length : Int) := by rw [hl.out]; exact kz
      obtain ⟨m1, m2⟩ := M.mul_far x1 x2 y1 y2
      clear HA HB HX SB
      generalize vs.getD k 0 = x at *
      generalize ws.getD k 0 = y at *
      go_wp2_with (first
        | (go_at_call 75; refine (mul_small _ _ _ (by omega) (by omega) (by omega) (by omega)).mono ?_; rintro e w1 ⟨rfl, e1⟩; subst w1)
        | (go_at_call 98; refine (add_in _ _ _ (by omega) (by omega) (by omega) (by omega)).mono ?_; rintro e w1 ⟨rfl, e1⟩; subst w1))
      go_roundw
      case rel => exact ⟨k + 1, by omega, by rw [SS.out], by go_num, (by first | rfl | trivial)⟩
      case measure => simp [intOf]; omega
    · have ek : k = vs.length := by omega
      have EE := hide ek
      clear ek HA HB HX SB
      go_wp2
      go_ret
      exact ⟨ret_int (by rw [EE.out]), rfl⟩

theorem keyI : Keyed Tryz.prog 3 := int_keyed Tryz.underlying3
theorem zeroI (w : World) : (zeroValue 3).run Tryz.prog w = .ok (.int .i64 0) w := by kernel_rfl
/-- a map that has of each number the votes of the first k -/
def Vm (w : World) (B k : Nat) (vs ws : List Int) (D : DataW Unit) : Prop :=
  w.ownsMap Tryz.prog 3 (plainElem Tryz.prog 3) B k D ∧ IsMap D ∧ ∀ v : Int, D.atKey (.int .i64 v) (.lit (.int .i64 0)) = .lit (.int .i64 (M.votK vs ws v k))
theorem vm_none (w : World) (vs ws : List Int) : Vm (w.alloc (.map #[] 0)) w.heap.size 0 vs ws (.map []) := ⟨World.ownsMap_made _ _ _ _, isMap_empty, fun v => rfl⟩
theorem wfI {x : Int} (h1 : -1000000 ≤ x) (h2 : x ≤ 1000000) : (Lit.int .i64 x).wf = true := WalkArith.wf_i64 (by omega)
theorem Vm.look {w : World} {B k : Nat} {vs ws : List Int} {D : DataW Unit} (h : Vm w B k vs ws D) {x : Int} (h1 : -1000000 ≤ x) (h2 : x ≤ 1000000) :
    (Instr.lookup 151 (.map (some B)) (.int .i64 x) false).run Tryz.prog w = .ok (.int .i64 (M.votK vs ws x k)) w := by
  obtain ⟨c, hrun, hat, _⟩ := h.1.lookup_int keyI Tryz.underlying151 Tryz.underlying3 (zeroI w) (keyOf_int_mk Tryz.underlying3 (wfI h1 h2))
  have e := hat.symm.trans (h.2.2 x)
  cases e
  exact hrun
theorem Vm.put {w : World} {B k : Nat} {vs ws : List Int} {D : DataW Unit} (h : Vm w B k vs ws D) (hk : k < 12) {x y z : Int} (h1 : -1000000 ≤ x) (h2 : x ≤ 1000000) (hx : vs.getD k 0 = x) (hy : ws.getD k 0 = y) (hz : z = M.votK vs ws x k + y) (z1 : -1000000 ≤ z) (z2 : z ≤ 1000000) :
    ∃ w', (Instr.mapUpdate 151 (.map (some B)) (.int .i64 x) (.int .i64 z)).run Tryz.prog w = .ok () w' ∧ (∃ D', Vm w' B (k + 1) vs ws D') ∧ w.grownBy w' (some B) := by
  obtain ⟨w', hrun, hown, hg⟩ := h.1.update keyI Tryz.underlying151 (by unfold maxLen; omega) (keyOf_int_mk Tryz.underlying3 (wfI h1 h2)) (plainElem_int Tryz.underlying3 (wfI z1 z2))
  refine ⟨w', hrun, ⟨_, hown, h.2.1.put _ _, fun v => ?_⟩, hg⟩
  show _ = DataW.lit (.int .i64 (M.votK vs ws v k + if vs.getD k 0 = v then ws.getD k 0 else 0))
  by_cases e : x = v
  · subst e
    rw [atKey_put_same h.2.1 (by first | trivial | exact ⟨_, _, rfl⟩ | simp [WideAt.IsKeyLit]), hz, if_pos hx, hy]
  · rw [atKey_put_other (by intro q; cases q; exact e rfl), h.2.2 v, if_neg (by rw [hx]; exact e)]
    rw [Int.add_zero]

end Go.Proofs.YtpblpfleiilehafGreatDoor

namespace Go.Proofs.YtpblpfleiilehafGreatDoor
open Go.ChangeShapes Go.WideShapes Go.ChangeAt Go.RowKit Go.Lib Go.Maps
set_option linter.unusedVariables false

set_option maxHeartbeats 4000000 in
theorem gvote_in (a b : Option Addr) (ws vs : List Int) (ca cb : Nat) (w : World) (ha : Rd w a ws) (hb : Rd w b vs) (V : Vw ws vs) :
    Calls Tryz.prog 95 #[.slice a ws.length ca, .slice b vs.length cb] w fun e w' => e = .returned (.int .i64 (M.bestK vs ws vs.length).2) ∧ Below w.heap.size w w' := by
  have hmm := @run_makeMap Tryz.prog
  have n12 := V.top
  have n0 := V.pos
  have hl := hide V.len
  obtain ⟨ba, oa, rfl, hba, hca⟩ := ha.2 (by intro e; have := V.len; have := V.pos; rw [e] at *; simp at *; omega)
  obtain ⟨bb, ob, rfl, hbb, hcb⟩ := hb.2 (by intro e; have := V.pos; rw [e] at *; simp at *)
  have HA : Hid (∀ W, Below w.heap.size w W → ∀ i, i < vs.length → W.cell? ⟨ba, oa + i, none⟩ = some (.int .i64 (ws.getD i 0))) := fun W hW i hi => (hW.cell (p := ⟨ba, oa + i, none⟩) hba).trans (hca i (by rw [hl.out]; exact hi))
  have HB : Hid (∀ W, Below w.heap.size w W → ∀ i, i < vs.length → W.cell? ⟨bb, ob + i, none⟩ = some (.int .i64 (vs.getD i 0))) := fun W hW i hi => (hW.cell (p := ⟨bb, ob + i, none⟩) hbb).trans (hcb i hi)
  have HX := hide (fun i (hi : i < vs.length) => (⟨(V.vals i hi).1, (V.vals i hi).2, (V.wts i hi).1, (V.wts i hi).2⟩ : -1000000 ≤ vs.getD i 0 ∧ vs.getD i 0 ≤ 1000000 ∧ 1 ≤ ws.getD i 0 ∧ ws.getD i 0 ≤ 1000))
  have VB := hide (fun x k (hk : k ≤ vs.length) => M.vot_bound (l := vs) (ws := ws) x k (fun i hi => (HX.out i (by omega)).2.2))
  have BU := hide (fun b hb hm => M.best_unique (l := vs) (ws := ws) (b := b) (fun i hi => (HX.out i hi).2.2.1) n0 hb hm)
  have W12 : ws.length ≤ 12 := by rw [hl.out]; exact n12
  have M0 := hide (vm_none w vs ws)
  have B0 : Hid (Below w.heap.size w (w.alloc (.map #[] 0))) := (Below.refl _ _).alloc (Nat.le_refl _) _
  clear ha hb hca hcb hba hbb V
  generalize (M.bestK vs ws vs.length).2 = res at *
  go_enter Tryz.func95, Tryz.ntmps95
  go_wp2
  go_loopw [14] (fun i wr => ∃ k : Nat, k ≤ vs.length ∧ i = .int .i64 k ∧ Hid (∃ D, Vm wr w.heap.size k vs ws D) ∧ Below w.heap.size w wr) (fun i _ => vs.length - (intOf i).toNat)
  case atStart => exact ⟨0, Nat.zero_le _, rfl, ⟨_, M0.out⟩, B0.out⟩
  case round =>
    obtain ⟨k, hk, rfl, VM, hbl⟩ := hrel
    clear M0 B0
    by_cases hlt : k < vs.length
    · have c1 := HA.out wr hbl k hlt
      have c2 := HB.out wr hbl k hlt
      obtain ⟨x1, x2, y1, y2⟩ := HX.out k hlt
      obtain ⟨D, hD⟩ := VM.out
      obtain ⟨x, hx⟩ : ∃ x, vs.getD k 0 = x := ⟨_, rfl⟩
      obtain ⟨y, hy⟩ : ∃ y, ws.getD k 0 = y := ⟨_, rfl⟩
      rw [hx] at x1 x2 c2
      rw [hy] at y1 y2 c1
      obtain ⟨s1, s2⟩ := VB.out x k hk
      obtain ⟨c, hc⟩ : ∃ c, M.votK vs ws x k = c := ⟨_, rfl⟩
      have lk := hD.look x1 x2
      obtain ⟨w2, up, VM2, gr⟩ := hD.put (z := c + y) (by omega) x1 x2 hx hy (by rw [hc]) (by omega) (by omega)
      rw [hc] at lk s1 s2
      have lkd : (Instr.lookup 151 (.map (some w.heap.size)) (.int .i64 x) false).run Tryz.prog wr.drew = .ok (.int .i64 c) wr.drew := by
        obtain ⟨D, hD⟩ := VM.out
        have := Vm.look (w := wr.drew) ⟨hD.1.drew, hD.2⟩ x1 x2
        rw [hc] at this
        exact this
      obtain ⟨w2, up, VM2, gr⟩ := Vm.put (w := wr.drew) (z := c + y) ⟨hD.1.drew, hD.2⟩ (by omega) x1 x2 hx hy (by rw [hc]) (by omega) (by omega)
      have HV2 := hide VM2
      have HG : Hid (Below w.heap.size w w2) := hbl.drew.grown gr hbl.size (fun j hj => by cases hj; exact Nat.le_refl _)
      have kz : (k : Int) < (vs.length : Int) := by omega
      have kw : (k : Int) < (ws.length : Int) := by rw [hl.out]; exact kz
      clear HA HB HX VB BU VM2 hD hx hy hc gr VM lk
      go_upto_region 5 with fail
      go_region
      all_goals (
        go_wp2
        go_roundw
        case rel => exact ⟨k + 1, by omega, by go_num, HV2, HG.out⟩
        case measure => simp [intOf]; omega)
    · have ek : k = vs.length := by omega
      have EE := hide ek
      have VMn : Hid (∃ D, Vm wr w.heap.size vs.length vs ws D) := by rw [← EE.out]; exact VM
      have c0 := HB.out wr hbl 0 n0
      obtain ⟨x0, hx0⟩ : ∃ x, vs.getD 0 0 = x := ⟨_, rfl⟩
      have HX0 := hide hx0
      rw [hx0] at c0
      rw [Nat.add_zero] at c0
      have nz : (0 : Int) < (vs.length : Int) := by omega
      obtain ⟨r1, r2, _⟩ := HX.out 0 n0
      rw [hx0] at r1 r2
      have R0 : Hid (-1000000 ≤ x0 ∧ x0 ≤ 1000000) := ⟨r1, r2⟩
      clear ek VM r1 r2 hx0
      go_wp2
      go_loopw [8, 33] (fun s i wx => ∃ (k : Nat) (b : Int), k ≤ vs.length ∧ s = .int .i64 b ∧ i = .int .i64 k ∧ wx = wr ∧ Hid (∃ j, j < vs.length ∧ b = vs.getD j 0) ∧ Hid (∀ i, i < k → M.votK vs ws (vs.getD i 0) vs.length < M.votK vs ws b vs.length ∨ (M.votK vs ws (vs.getD i 0) vs.length = M.votK vs ws b vs.length ∧ b ≤ vs.getD i 0))) (fun _ i _ => vs.length - (intOf i).toNat)
      case atStart => exact ⟨0, x0, Nat.zero_le _, rfl, rfl, rfl, ⟨0, n0, HX0.out.symm⟩, fun i hi => by omega⟩
      case round =>
        obtain ⟨k, b, hk, rfl, rfl, ew, HJ, HM⟩ := hrel
        subst ew
        clear c0 HX0 R0
        by_cases hlt : k < vs.length
        · have c2 := HB.out _ hbl k hlt
          obtain ⟨x1, x2, _⟩ := HX.out k hlt
          obtain ⟨D, hD⟩ := VMn.out
          obtain ⟨x, hx⟩ : ∃ x, vs.getD k 0 = x := ⟨_, rfl⟩
          obtain ⟨jb, hj, hbj⟩ := HJ.out
          obtain ⟨b1, b2, _⟩ := HX.out jb hj
          rw [← hbj] at b1 b2
          rw [hx] at x1 x2 c2
          have lx := hD.look x1 x2
          have lb := hD.look b1 b2
          have NX : Hid (∃ j, j < vs.length ∧ x = vs.getD j 0) := ⟨k, hlt, hx.symm⟩
          have NM : Hid (∀ b', (M.votK vs ws x vs.length < M.votK vs ws b' vs.length ∨ (M.votK vs ws x vs.length = M.votK vs ws b' vs.length ∧ b' ≤ x)) → (∀ i, i < k → M.votK vs ws (vs.getD i 0) vs.length < M.votK vs ws b' vs.length ∨ (M.votK vs ws (vs.getD i 0) vs.length = M.votK vs ws b' vs.length ∧ b' ≤ vs.getD i 0)) → ∀ i, i < k + 1 → M.votK vs ws (vs.getD i 0) vs.length < M.votK vs ws b' vs.length ∨ (M.votK vs ws (vs.getD i 0) vs.length = M.votK vs ws b' vs.length ∧ b' ≤ vs.getD i 0)) := fun b' h1 h2 i hi => by
            by_cases e : i = k
            · rw [e, hx]; exact h1
            · exact h2 i (by omega)
          obtain ⟨cx, hcx⟩ : ∃ c, M.votK vs ws x vs.length = c := ⟨_, rfl⟩
          obtain ⟨cB, hcB⟩ : ∃ c, M.votK vs ws b vs.length = c := ⟨_, rfl⟩
          have kz : (k : Int) < (vs.length : Int) := by omega
          have HCX := hide hcx
          have HCB := hide hcB
          rw [hcx] at lx
          rw [hcB] at lb
          clear HA HB HX VB BU VMn hD hx hbj hcx hcB b1 b2 x1 x2
          rcases (show cB < cx ∨ (cx = cB ∧ x < b) ∨ (cx = cB ∧ ¬ x < b) ∨ cx < cB from by omega) with g | ⟨g, g2⟩ | ⟨g, g2⟩ | g
          · have q1 : decide (cB < cx) = true := decide_eq_true g
            have N2 : Hid (∀ i, i < k + 1 → M.votK vs ws (vs.getD i 0) vs.length < M.votK vs ws x vs.length ∨ (M.votK vs ws (vs.getD i 0) vs.length = M.votK vs ws x vs.length ∧ x ≤ vs.getD i 0)) := NM.out x (.inr ⟨rfl, Int.le_refl _⟩) (fun i hi => by have h := HM.out i hi; rw [HCB.out] at h; rw [HCX.out]; omega)
            clear HM NM HCX HCB g HJ
            go_wp2
            go_roundw
            case rel => exact ⟨k + 1, x, by omega, rfl, by go_num, (by first | rfl | trivial), NX, N2⟩
            case measure => simp [intOf]; omega
          · have q1 : decide (cB < cx) = false := decide_eq_false (by omega)
            have q2 : (cx == cB) = true := by rw [beq_iff_eq]; exact g
            have q3 : decide (x < b) = true := decide_eq_true g2
            have N2 : Hid (∀ i, i < k + 1 → M.votK vs ws (vs.getD i 0) vs.length < M.votK vs ws x vs.length ∨ (M.votK vs ws (vs.getD i 0) vs.length = M.votK vs ws x vs.length ∧ x ≤ vs.getD i 0)) := NM.out x (.inr ⟨rfl, Int.le_refl _⟩) (fun i hi => by have h := HM.out i hi; rw [HCB.out] at h; rw [HCX.out]; omega)
            clear HM NM HCX HCB g g2 HJ
            go_wp2
            go_roundw
            case rel => exact ⟨k + 1, x, by omega, rfl, by go_num, (by first | rfl | trivial), NX, N2⟩
            case measure => simp [intOf]; omega
          · have q1 : decide (cB < cx) = false := decide_eq_false (by omega)
            have q2 : (cx == cB) = true := by rw [beq_iff_eq]; exact g
            have q3 : decide (x < b) = false := decide_eq_false g2
            have N2 := hide (NM.out b (by rw [HCX.out, HCB.out]; omega) HM.out)
            clear HM NM HCX HCB g g2 NX
            go_wp2
            go_roundw
            case rel => exact ⟨k + 1, b, by omega, rfl, by go_num, (by first | rfl | trivial), HJ, N2⟩
            case measure => simp [intOf]; omega
          · have q1 : decide (cB < cx) = false := decide_eq_false (by omega)
            have q2 : (cx == cB) = false := by rw [beq_eq_false_iff_ne]; omega
            have N2 := hide (NM.out b (by rw [HCX.out, HCB.out]; omega) HM.out)
            clear HM NM HCX HCB g NX
            go_wp2
            go_roundw
            case rel => exact ⟨k + 1, b, by omega, rfl, by go_num, (by first | rfl | trivial), HJ, N2⟩
            case measure => simp [intOf]; omega
        · have R : Hid (res = b) := BU.out b HJ.out (fun i hi => HM.out i (by omega))
          clear HA HB HX VB BU VMn HM HJ
          go_wp2
          go_ret
          exact ⟨ret_int R.out.symm, hbl⟩

set_option maxHeartbeats 4000000 in
theorem gtog_in (wy : Int) (a b : Option Addr) (ws vs : List Int) (ca cb : Nat) (w : World) (ha : Rd w a ws) (hb : Rd w b vs) (V : Vw ws vs) (h1 : 1 ≤ wy) (h3 : wy ≤ 3) :
    Calls Tryz.prog 74 #[.int .i64 wy, .slice a ws.length ca, .slice b vs.length cb] w fun e w' => e = .returned (.int .i64 (M.together wy ws vs)) ∧ Below w.heap.size w w' := by
  have CS := hide (fun W (hW : Below w.heap.size w W) => gsum_in a b ws vs ca cb W (ha.below hW) (hb.below hW) V)
  have CV := hide (fun W (hW : Below w.heap.size w W) => gvote_in a b ws vs ca cb W (ha.below hW) (hb.below hW) V)
  have l0 : ws.length = vs.length := V.len
  have lp := V.pos
  have wt : ∀ i, i < ws.length → 1 ≤ ws.getD i 0 ∧ ws.getD i 0 ≤ 1000 := fun i hi => V.wts i (by omega)
  have CT := hide (fun W (hW : Below w.heap.size w W) => total_in a ws ca W (ha.below hW) (by omega) (by rw [l0]; exact V.top) wt)
  obtain ⟨s1, s2⟩ := M.sum_bound (l := vs) (ws := ws) vs.length (fun i hi => ⟨(V.vals i hi).1, (V.vals i hi).2, (V.wts i hi).1, (V.wts i hi).2⟩)
  obtain ⟨t1, t2⟩ := M.all_pos (ws := ws) ws.length wt
  have n12 := V.top
  have s3 : -12000000000 ≤ M.sumK vs ws vs.length := by omega
  have s4 : M.sumK vs ws vs.length ≤ 12000000000 := by omega
  have t3 : 0 < M.allK ws ws.length := by omega
  have t4 : M.allK ws ws.length ≤ 12000 := by omega
  by_cases c1 : wy = 1
  · have E : Hid (M.sumK vs ws vs.length = M.together wy ws vs) := by unfold Hid M.together; rw [if_pos c1]
    have q2 : (wy == 2) = false := by rw [beq_eq_false_iff_ne]; omega
    have q3 : (wy == 3) = false := by rw [beq_eq_false_iff_ne]; omega
    clear ha hb V l0 wt s1 s2 t1 t2 c1 CV CT
    generalize M.together wy ws vs = R at *
    generalize M.sumK vs ws vs.length = S at *
    go_enter Tryz.func74, Tryz.ntmps74
    go_wp2_with (go_at_call 94; refine (CS.out _ (Below.refl _ _)).mono ?_; rintro e w1 ⟨rfl, e1⟩; subst w1)
    go_ret
    exact ⟨ret_int E.out, Below.refl _ _⟩
  · by_cases c2 : wy = 2
    · have E : Hid (M.sumK vs ws vs.length / M.allK ws ws.length = M.together wy ws vs) := by unfold Hid M.together; rw [if_neg c1, if_pos c2, l0]
      have q2 : (wy == 2) = true := by rw [beq_iff_eq]; exact c2
      clear ha hb V l0 wt s1 s2 t1 t2 c1 c2 CV
      generalize M.together wy ws vs = R at *
      generalize M.sumK vs ws vs.length = S at *
      generalize M.allK ws ws.length = T at *
      go_enter Tryz.func74, Tryz.ntmps74
      go_wp2_with (first
        | (go_at_call 94; refine (CS.out _ (Below.refl _ _)).mono ?_; rintro e w1 ⟨rfl, e1⟩; subst w1)
        | (go_at_call 76; refine (CT.out _ (Below.refl _ _)).mono ?_; rintro e w2 ⟨rfl, e2⟩; subst w2)
        | (go_at_call 93; refine (gdown_any S T _ (by omega) (by omega) (by omega) (by omega)).mono ?_; rintro e w3 ⟨rfl, e3⟩; subst w3))
      go_ret
      exact ⟨ret_int E.out, Below.refl _ _⟩
    · have E : Hid ((M.bestK vs ws vs.length).2 = M.together wy ws vs) := by unfold Hid M.together; rw [if_neg c1, if_neg c2]
      have q2 : (wy == 2) = false := by rw [beq_eq_false_iff_ne]; omega
      have q3 : (wy == 3) = true := by rw [beq_iff_eq]; omega
      clear ha hb V l0 wt s1 s2 t1 t2 c1 c2 CS CT
      generalize M.together wy ws vs = R at *
      generalize (M.bestK vs ws vs.length).2 = S at *
      go_enter Tryz.func74, Tryz.ntmps74
      go_wp2_with (go_at_call 95; refine (CV.out _ (Below.refl _ _)).mono ?_; rintro e w1 ⟨rfl, hb1⟩)
      go_ret
      exact ⟨ret_int E.out, hb1⟩

end Go.Proofs.YtpblpfleiilehafGreatDoor

namespace Go.Proofs.YtpblpfleiilehafGreatDoor
open Go.ChangeShapes Go.WideShapes Go.ChangeAt Go.RowKit Go.Lib
set_option linter.unusedVariables false

/-- what grove.Eval, Each answer -/
def EvalGives : Prop := ∀ (G : Gr) (b : Option Addr) (xs : List Int) (cb : Nat) (W : World), RdG W G → Rd W b xs → Calls Tryz.prog 46 #[G.v, .slice b xs.length cb] W fun e w' => e = .returned (.tuple #[.int .i64 (M.evalG G.m xs), errV (M.standF G.m xs)]) ∧ Below W.heap.size W w'
def EachGives : Prop := ∀ (G : Gr) (b : Option Addr) (xs : List Int) (cb : Nat) (W : World), RdG W G → Rd W b xs → Calls Tryz.prog 73 #[G.v, .slice b xs.length cb] W fun e w' => ∃ ag cg, e = .returned (.tuple #[.slice ag (M.eachV G.m xs).length cg, errV (M.standF G.m xs)]) ∧ Rd w' ag (M.eachV G.m xs) ∧ Below W.heap.size W w'

theorem kept_four {w W : World} {a0 a1 a2 a3 : Value} {t : TypeId} (h : Below (w.alloc (.cells #[a0, a1, a2, a3] t)).heap.size (w.alloc (.cells #[a0, a1, a2, a3] t)) W) :
    W.cell? ⟨w.heap.size, 0, none⟩ = some a0 ∧ W.cell? ⟨w.heap.size, 1, none⟩ = some a1 ∧ W.cell? ⟨w.heap.size, 2, none⟩ = some a2 ∧ W.cell? ⟨w.heap.size, 3, none⟩ = some a3 := by
  have hs : w.heap.size < (w.alloc (.cells #[a0, a1, a2, a3] t)).heap.size := by simp
  exact ⟨(h.cell (p := ⟨w.heap.size, 0, none⟩) hs).trans (World.cell?_alloc_at _ _ _ 0 rfl), (h.cell (p := ⟨w.heap.size, 1, none⟩) hs).trans (World.cell?_alloc_at _ _ _ 1 rfl), (h.cell (p := ⟨w.heap.size, 2, none⟩) hs).trans (World.cell?_alloc_at _ _ _ 2 rfl), (h.cell (p := ⟨w.heap.size, 3, none⟩) hs).trans (World.cell?_alloc_at _ _ _ 3 rfl)⟩

abbrev leaf7Obj : Obj := .cells #[.int .i64 (-1), .int .i64 0, .int .i64 0, .int .i64 0, .bool false, .int .i64 7] 72
/-- one leaf that says 7, where it is laid behind a block -/
theorem leaf7_rdn (w : World) : RdN (w.alloc leaf7Obj) (some ⟨w.heap.size, 0, none⟩) [(-1, 0, 0, 0, false, 7)] := by
  refine ⟨by show 1 ≤ maxLen; unfold maxLen; decide, fun _ => ⟨w.heap.size, 0, rfl, by simp, fun i hi => ?_⟩⟩
  have c : ∀ j, (w.alloc leaf7Obj).cell? ⟨w.heap.size, j, none⟩ = _ := fun j => World.cell?_alloc_at _ _ _ j rfl
  have hi' : i < 1 := hi
  rcases i with _ | i
  · exact ⟨c _, c _, c _, c _, c _, c _⟩
  · omega
/-- the grove of one such leaf -/
abbrev one7W (w : World) (n : Nat) : World := ((w.alloc leaf7Obj).alloc (.cells #[.int .i64 1] 3)).alloc (.cells #[.slice (some ⟨n, 0, none⟩) 1 1] 23)
def one7G (n : Nat) : Gr := ⟨0, 3, some ⟨n + 1, 0, none⟩, [1], 1, some ⟨n + 1 + 1, 0, none⟩, [(some ⟨n, 0, none⟩, [(-1, 0, 0, 0, false, 7)], 1)], 1⟩
theorem one7_rdg (w : World) (n : Nat) (hn : n = w.heap.size) : RdG (one7W w n) (one7G n) := by
  subst hn
  have b1 : Below (w.alloc leaf7Obj).heap.size (w.alloc leaf7Obj) (one7W w w.heap.size) := (((Below.refl _ (w.alloc leaf7Obj)).alloc (Nat.le_refl _) _).alloc (by simp) _)
  have b2 : Below ((w.alloc leaf7Obj).alloc (.cells #[.int .i64 1] 3)).heap.size ((w.alloc leaf7Obj).alloc (.cells #[.int .i64 1] 3)) (one7W w w.heap.size) := (Below.refl _ _).alloc (Nat.le_refl _) _
  refine ⟨?_, by show 1 ≤ maxLen; unfold maxLen; decide, ?_, fun _ => ⟨w.heap.size + 1 + 1, 0, rfl, by simp, fun i hi => ?_⟩⟩
  · have := (one_rd (w.alloc leaf7Obj) 1 3).below b2
    simpa [one7G] using this
  · intro k hk
    have e : k = (some ⟨w.heap.size, 0, none⟩, [(-1, 0, 0, 0, false, 7)], 1) := by simpa [one7G] using hk
    subst e
    exact (leaf7_rdn w).below b1
  · have hi' : i < 1 := hi
    rcases i with _ | i
    · exact World.cell?_alloc_at _ _ _ 0 (by simp)
    · omega

end Go.Proofs.YtpblpfleiilehafGreatDoor

namespace Go.Proofs.YtpblpfleiilehafGreatDoor
open Go.ChangeShapes Go.WideShapes Go.ChangeAt Go.RowKit Go.Lib
set_option linter.unusedVariables false

set_option maxHeartbeats 4000000 in
theorem gstand_any (G : Gr) (b : Option Addr) (xs : List Int) (cb : Nat) (w : World) (h : RdG w G) (hr : Rd w b xs) :
    Calls Tryz.prog 92 #[G.v, .slice b xs.length cb] w fun e w' => e = .returned (errV (M.standF G.m xs)) ∧ Below w.heap.size w w' := by
  have C1 := hide (fun W (hW : Below w.heap.size w W) => gcheck_any G W (h.below hW))
  have C2 := hide (fun W (hW : Below w.heap.size w W) => rcheck_any b xs cb W (hr.below hW))
  have hm2 : xs.length ≤ 9223372036854775807 := hr.1
  have B0 : Hid (∀ o, Below w.heap.size w (w.alloc o)) := fun o => (Below.refl _ w).alloc (Nat.le_refl _) o
  have gfe : M.gf G.m = G.f := rfl
  unfold Gr.v at C1 ⊢
  clear h hr
  by_cases h1 : M.groveF G.m = 0
  · by_cases h2 : M.rowF xs = 0
    · by_cases h3 : (xs.length : Int) = G.f
      · have E : Hid (M.standF G.m xs = 0) := by unfold Hid M.standF; rw [if_neg (by simp [h1]), if_neg (by simp [h2]), if_neg (by rw [gfe]; simp [h3])]
        have q : ((xs.length : Int) != G.f) = false := by rw [bne_eq_false_iff_eq]; exact h3
        rw [E.out]
        rw [h1, err_nil rfl] at C1
        rw [h2, err_nil rfl] at C2
        clear h1 h2 h3 E gfe
        go_enter Tryz.func92, Tryz.ntmps92
        go_wp2_with (first
          | (go_at_call 45; refine (C1.out _ (B0.out _)).mono ?_; rintro e w1 ⟨rfl, hb1⟩; have k1 := below_on (B0.out _) hb1; have z0 := (kept_box hb1).1; have z2 : Hid (Below w.heap.size w w1 ∧ w1.cell? ⟨w.heap.size, 0, none⟩ = some (.int .i64 G.f) ∧ w.heap.size < w1.heap.size) := ⟨k1, z0, block_lt_of_cell z0⟩)
          | (go_at_call 50; refine (C2.out _ k1).mono ?_; rintro e w2 ⟨rfl, hb2⟩; have k2 := below_on k1 hb2; have z1 := (hb2.cell (p := ⟨w.heap.size, 0, none⟩) z2.out.2.2).trans z0))
        go_ret
        exact ⟨err_none rfl, k2⟩
      · have E : Hid (M.standF G.m xs = 3) := by unfold Hid M.standF; rw [if_neg (by simp [h1]), if_neg (by simp [h2]), if_pos (by rw [gfe]; exact h3)]
        have q : ((xs.length : Int) != G.f) = true := by rw [bne_iff_ne]; exact h3
        rw [E.out]
        rw [h1, err_nil rfl] at C1
        rw [h2, err_nil rfl] at C2
        clear h1 h2 h3 E gfe
        go_enter Tryz.func92, Tryz.ntmps92
        go_wp2_with (first
          | (go_at_call 45; refine (C1.out _ (B0.out _)).mono ?_; rintro e w1 ⟨rfl, hb1⟩; have k1 := below_on (B0.out _) hb1; have z0 := (kept_box hb1).1; have z2 : Hid (Below w.heap.size w w1 ∧ w1.cell? ⟨w.heap.size, 0, none⟩ = some (.int .i64 G.f) ∧ w.heap.size < w1.heap.size) := ⟨k1, z0, block_lt_of_cell z0⟩)
          | (go_at_call 50; refine (C2.out _ k1).mono ?_; rintro e w2 ⟨rfl, hb2⟩; have k2 := below_on k1 hb2; have z1 := (hb2.cell (p := ⟨w.heap.size, 0, none⟩) z2.out.2.2).trans z0))
        go_ret
        exact ⟨err_num 3 (by decide), k2⟩
    · have E : Hid (M.rowF xs = M.standF G.m xs) := by unfold Hid M.standF; rw [if_neg (by simp [h1]), if_pos h2]
      have HZ := hide h2
      rw [h1, err_nil rfl] at C1
      rw [err_some h2] at C2
      clear h1 h2 gfe
      generalize M.standF G.m xs = sf at *
      generalize M.rowF xs = rf at *
      go_enter Tryz.func92, Tryz.ntmps92
      go_wp2_with (first
        | (go_at_call 45; refine (C1.out _ (B0.out _)).mono ?_; rintro e w1 ⟨rfl, hb1⟩; have k1 := below_on (B0.out _) hb1)
        | (go_at_call 50; refine (C2.out _ k1).mono ?_; rintro e w2 ⟨rfl, hb2⟩; have k2 := below_on k1 hb2))
      go_ret
      exact ⟨err_is E.out HZ.out, k2⟩
  · have E : Hid (M.groveF G.m = M.standF G.m xs) := by unfold Hid M.standF; rw [if_pos h1]
    have HZ := hide h1
    rw [err_some h1] at C1
    clear h1 gfe
    generalize M.standF G.m xs = sf at *
    generalize M.groveF G.m = gF at *
    go_enter Tryz.func92, Tryz.ntmps92
    go_wp2_with (go_at_call 45; refine (C1.out _ (B0.out _)).mono ?_; rintro e w1 ⟨rfl, hb1⟩; have k1 := below_on (B0.out _) hb1)
    go_ret
    exact ⟨err_is E.out HZ.out, k1⟩

set_option maxHeartbeats 8000000 in
set_option maxRecDepth 10000 in
theorem geach_any : EachGives := by
  intro G b xs cb w h hr
  have C1 := hide (fun W (hW : Below w.heap.size w W) => gstand_any G b xs cb W (h.below hW) (hr.below hW))
  have B0 : Hid (∀ o, Below w.heap.size w (w.alloc o)) := fun o => (Below.refl _ w).alloc (Nat.le_refl _) o
  have RN : ∀ W, Rd W none [] := fun W => ⟨Nat.zero_le _, fun h => absurd rfl h⟩
  by_cases hs : M.standF G.m xs = 0
  · obtain ⟨K, _, _⟩ := M.stand_ok hs
    have tlen : (M.gt G.m).length = G.ks.length := tl_len G.ks
    have n0 : 0 < G.ks.length := by rw [← tlen]; exact K.t0
    have n12 : G.ks.length ≤ 12 := by rw [← tlen]; exact K.t12
    have EV : Hid (M.eachV G.m xs = M.eachL G.m xs) := by unfold Hid M.eachV; rw [if_pos hs]
    have LL : Hid ((M.eachL G.m xs).length = G.ks.length) := (M.each_len G.m xs).trans tlen
    have LA : Hid (∀ k (hk : k < G.ks.length), (M.eachL G.m xs).getD k 0 = M.evalV G.ks[k].2.1 xs) := fun k hk => by
      rw [M.each_at G.m xs (by rw [tlen]; exact hk)]
      show M.evalV ((tl G.ks).getD k []) xs = _
      rw [tl_at G.ks hk]
    have RD : Hid (∀ k (hk : k < G.ks.length), M.readyF G.ks[k].2.1 xs = 0) := fun k hk => by
      refine M.stand_ready hs ?_
      show _ ∈ tl G.ks
      unfold tl
      exact List.mem_map.2 ⟨_, List.getElem_mem hk, rfl⟩
    have RT : Hid (∀ W, Below w.heap.size w W → ∀ k (hk : k < G.ks.length), RdN W G.ks[k].1 G.ks[k].2.1) := fun W hW k hk => (h.below hW).2.2.1 _ (List.getElem_mem hk)
    obtain ⟨bt, ot, eta, hbt, hct0⟩ := h.2.2.2 (by intro e; rw [e] at n0; simp at n0)
    have HCT : Hid (∀ W, Below w.heap.size w W → ∀ i (hi : i < G.ks.length), W.cell? ⟨bt, ot + i, none⟩ = some (tV G.ks[i])) := fun W hW i hi => (hW.cell (p := ⟨bt, ot + i, none⟩) hbt).trans (hct0 i hi)
    have HR := hide (fun W (hW : Below w.heap.size w W) => hr.below hW)
    obtain ⟨i0, hi, hz0, hz1, hz2⟩ := info_parts info3
    have ES : Hid (errV (M.standF G.m xs) = .nilIface) := err_nil hs
    rw [err_nil hs] at C1
    unfold Gr.v at C1 ⊢
    rw [eta] at C1 ⊢
    clear hs K tlen hct0 hbt eta h hr
    generalize errV (M.standF G.m xs) = er at *
    generalize M.eachV G.m xs = EVV at *
    generalize M.eachL G.m xs = L at *
    go_enter Tryz.func73, Tryz.ntmps73
    go_wp2_with (first
      | (go_at_call 92; refine (C1.out _ (B0.out _)).mono ?_; rintro e w1 ⟨rfl, hb1⟩; have hb1' := below_on (B0.out _) hb1; have c3 := (kept_box hb1).2.2.2)
      | (at_make; refine wpList_make_full _ rfl (.tmp 20) (.tmp 20) 42 rfl w.heap.size 3 i0 (.int .i64 0) 1 Tryz.underlying42 hi hz0 hz1 .i64 .i64 _ _ G.ks.length rfl rfl (by omega) (by omega) (by rw [hz2]; omega) (by unfold maxLen; omega) hb1'.size ?_; intro w3 hown hgrow; have c33 := (((Below.refl _ w1).grown hgrow (Nat.le_refl _) (fun k hk => by cases hk)).cell (p := ⟨w.heap.size, 3, none⟩) (block_lt_of_cell c3)).trans c3))
    rw [made] at hown
    have hb3 : Below w.heap.size w w3 := hb1'.grown hgrow hb1'.size (fun k hk => by cases hk)
    have hg1 : w.heap.size ≤ w1.heap.size := hb1'.size
    clear hgrow hi hz0 hz1 hz2 C1 c3
    generalize w1.heap.size = g at *
    have ho : w3.ownsRow w.heap.size 3 1 (.slice (some ⟨g, 0, none⟩) G.ks.length G.ks.length) G.ks.length ((M.fillK L 0).map (Value.int .i64)) := by
      rw [M.fillK_zero, LL.out]; exact hown
    clear hown c33
    go_loopw [25] (fun i wr => ∃ k : Nat, k ≤ G.ks.length ∧ i = .int .i64 k ∧ wr.ownsRow w.heap.size 3 1 (.slice (some ⟨g, 0, none⟩) G.ks.length G.ks.length) G.ks.length ((M.fillK L k).map (Value.int .i64)) ∧ Below w.heap.size w wr) (fun i _ => G.ks.length - (intOf i).toNat)
    case atStart => exact ⟨0, Nat.zero_le _, rfl, ho, hb3⟩
    case round =>
      clear ho hb3 hb1 hb1'
      obtain ⟨k, hk, rfl, hown, hbl⟩ := hrel
      by_cases hlt : k < G.ks.length
      · have ct := HCT.out wr hbl k hlt
        have kz : (k : Int) < (G.ks.length : Int) := by omega
        have hkL : k < L.length := by rw [LL.out]; exact hlt
        have EC := hide (eval_any G.ks[k].1 b G.ks[k].2.1 xs G.ks[k].2.2 cb wr (RT.out wr hbl k hlt) (HR.out wr hbl))
        rw [RD.out k hlt, err_nil rfl] at EC
        have R := hide (fun W (hW : Below wr.heap.size wr W) => fillK_own hkL (own_keep hown hW))
        have CC := hide (fun W (hW : Below wr.heap.size wr W) => fillK_cell hkL LL.out (own_keep hown hW))
        have FZ := hide (fun W (hW : Below wr.heap.size wr W) => (own_keep hown hW).frozenAt k)
        rw [LA.out k hlt] at R
        unfold tV at ct
        clear hown HCT RT RD LA HR
        generalize M.evalV G.ks[k].2.1 xs = z at *
        generalize G.ks[k].2.1.length = tn at *
        generalize G.ks[k].2.2 = tcc at *
        generalize G.ks[k].1 = ta at *
        go_wp2_with (go_at_call 38; refine EC.out.mono ?_; rintro e w4 ⟨rfl, hb4⟩; obtain ⟨zz, hcell⟩ := CC.out w4 hb4; have hfz := FZ.out w4 hb4)
        go_roundw
        case rel => exact ⟨k + 1, by omega, by go_num, R.out w4 hb4, (below_on hbl hb4).setCell hg1 _⟩
        case measure => simp [intOf]; omega
      · have hke : k = G.ks.length := by omega
        have EK := hide hke
        rw [show M.fillK L k = L by rw [hke, ← LL.out]; exact M.fillK_all L] at hown
        have HO := hide hown
        clear hke hown HCT RT RD LA HR
        go_wp2
        go_ret2
        refine ⟨some ⟨g, 0, none⟩, G.ks.length, by rw [EV.out, ES.out, LL.out]; rfl, ?_, hbl⟩
        rw [EV.out]
        have ho : wr.ownsRow w.heap.size 3 1 (.slice (some ⟨g, 0, none⟩) L.length L.length) L.length (L.map (Value.int .i64)) := by rw [LL.out]; exact HO.out
        obtain ⟨a, c, e, hrd⟩ := own_rd ho
        cases e
        exact hrd.1
  · have EV : Hid (M.eachV G.m xs = []) := by unfold Hid M.eachV; rw [if_neg hs]
    have ES := hide (err_some hs)
    rw [err_some hs] at C1
    unfold Gr.v at C1 ⊢
    clear hs h hr
    generalize errV (M.standF G.m xs) = er at *
    generalize M.eachV G.m xs = EVV at *
    generalize M.standF G.m xs = sf at *
    go_enter Tryz.func73, Tryz.ntmps73
    go_wp2_with (go_at_call 92; refine (C1.out _ (B0.out _)).mono ?_; rintro e w1 ⟨rfl, hb1⟩; have hb1' := below_on (B0.out _) hb1)
    go_ret2
    exact ⟨none, 0, by rw [EV.out, ES.out]; rfl, by rw [EV.out]; exact RN _, hb1'⟩

theorem M.each_vw {g : M.Gv} {r : List Int} (h : M.standF g r = 0) : Vw (M.gs g) (M.eachL g r) := by
  obtain ⟨K, _, _⟩ := M.stand_ok h
  have hE := M.each_len g r
  exact ⟨by rw [hE]; exact K.len, by rw [hE]; exact K.t0, by rw [hE]; exact K.t12, fun i hi => M.each_in h (by rw [← hE]; exact hi), fun i hi => M.wt_at K (by rw [← hE]; exact hi)⟩

set_option maxHeartbeats 4000000 in
theorem geval_any : EvalGives := by
  intro G b xs cb w h hr
  have C1 := hide (fun W (hW : Below w.heap.size w W) => geach_any G b xs cb W (h.below hW) (hr.below hW))
  have B0 : Hid (∀ o, Below w.heap.size w (w.alloc o)) := fun o => (Below.refl _ w).alloc (Nat.le_refl _) o
  by_cases hs : M.standF G.m xs = 0
  · obtain ⟨K, _, _⟩ := M.stand_ok hs
    have EV : Hid (M.eachV G.m xs = M.eachL G.m xs) := by unfold Hid M.eachV; rw [if_pos hs]
    have EG : Hid (M.together G.w G.ws (M.eachL G.m xs) = M.evalG G.m xs) := by unfold Hid M.evalG; rw [if_pos hs]; rfl
    have CT := hide (fun W (hW : Below w.heap.size w W) ag cg (hv : Rd W ag (M.eachL G.m xs)) => gtog_in G.w G.wa ag G.ws (M.eachL G.m xs) G.wc cg W (h.below hW).1 hv (M.each_vw hs) K.w1 K.w3)
    have ES : Hid (errV (M.standF G.m xs) = .nilIface) := err_nil hs
    rw [err_nil hs] at C1
    rw [EV.out] at C1
    unfold Gr.v at C1 ⊢
    clear hs h hr K EV
    generalize M.together G.w G.ws (M.eachL G.m xs) = T at *
    generalize errV (M.standF G.m xs) = er at *
    generalize M.evalG G.m xs = ev at *
    generalize M.eachL G.m xs = L at *
    go_enter Tryz.func46, Tryz.ntmps46
    go_wp2_with (first
      | (go_at_call 73; refine (C1.out _ (B0.out _)).mono ?_; rintro e w1 ⟨ag, cg, rfl, hrd, hb1⟩; have hb1' := below_on (B0.out _) hb1; have c0 := (kept_box hb1).1; have c1 := (kept_box hb1).2.1; have c2 := (kept_box hb1).2.2.1; have c3 := (kept_box hb1).2.2.2; have HRD := hide hrd; clear hrd)
      | (go_at_call 74; refine (CT.out _ hb1' ag cg HRD.out).mono ?_; rintro e w2 ⟨rfl, hb2⟩; have hb2' := below_on hb1' hb2))
    go_ret2
    exact ⟨by rw [EG.out, ES.out]; rfl, hb2'⟩
  · have EV : Hid (M.eachV G.m xs = []) := by unfold Hid M.eachV; rw [if_neg hs]
    have EG : Hid (M.evalG G.m xs = 0) := by unfold Hid M.evalG; rw [if_neg hs]
    have ES := hide (err_some hs)
    rw [err_some hs] at C1
    unfold Gr.v at C1 ⊢
    clear hs h hr EV
    generalize errV (M.standF G.m xs) = er at *
    generalize M.eachV G.m xs = EVV at *
    generalize M.evalG G.m xs = ev at *
    generalize M.standF G.m xs = sf at *
    go_enter Tryz.func46, Tryz.ntmps46
    go_wp2_with (go_at_call 73; refine (C1.out _ (B0.out _)).mono ?_; rintro e w1 ⟨ag, cg, rfl, hrd, hb1⟩; have hb1' := below_on (B0.out _) hb1; have HRD := hide hrd; clear hrd)
    go_ret2
    exact ⟨by rw [EG.out, ES.out]; rfl, hb1'⟩

end Go.Proofs.YtpblpfleiilehafGreatDoor
