/-
  Several texts as one: GSum, GVote, GTog, GBd, GBounds, GBoundsB.
-/
import Derived.Test.YtelncekgjfpogahGreatDoorRunT4
import Derived.Test.YtelncekgjfpogahGreatDoorRunT23
import Derived.Maps.OwnOps
import Derived.Maps.Views
import Derived.RegionTactic
import Derived.BigQuiet
import Derived.Deep.QuietTactic
import Derived.Deep.Cut
import Derived.Deep.CutRange
import Derived.Test.YtelncekgjfpogahGreatDoorRunT24
import Derived.Deep.RegionHeld3
import Derived.Deep.OwnRows
import Derived.OwnWalk
import Derived.Test.YtelncekgjfpogahGreatDoorRunT27
namespace Go.Proofs.YtelncekgjfpogahGreatDoor
open Go.ChangeShapes Go.WideShapes Go.ChangeAt Go.RowKit Go.Lib Go.Maps
set_option linter.unusedVariables false
theorem gdown_any (a b : Int) (w : World) (hb : 0 < b) (hb2 : b ≤ 9007199254740992) (ha : -9007199254740992 ≤ a) (ha2 : a ≤ 9007199254740992) :
 Calls Tryz.prog 83 #[.int .i64 a, .int .i64 b] w fun e w' => e = .returned (.int .i64 (a / b)) ∧ w' = w := by
 obtain ⟨q1, q2⟩ := M.tdiv_bd a b 9007199254740992 hb ha ha2
 have D := hide (M.down_eq a b hb)
 by_cases h : a.tmod b < 0
 · go_enter Tryz.func83, Tryz.ntmps83
   go_wp2
   go_ret
   exact ⟨ret_int (by rw [← D.out, if_pos h]), rfl⟩
 · go_enter Tryz.func83, Tryz.ntmps83
   go_wp2
   go_ret
   exact ⟨ret_int (by rw [← D.out, if_neg (by omega)]), rfl⟩
structure Vw (ws vs : List Int) : Prop where
 len : ws.length = vs.length
 pos : 0 < vs.length
 top : vs.length ≤ 12
 vals : ∀ i, i < vs.length → -1000000 ≤ vs.getD i 0 ∧ vs.getD i 0 ≤ 1000000
 wts : ∀ i, i < vs.length → 1 ≤ ws.getD i 0 ∧ ws.getD i 0 ≤ 1000
set_option maxHeartbeats 2000000 in
theorem gsum_in (a b : Option Addr) (ws vs : List Int) (ca cb : Nat) (w : World) (ha : Rd w a ws) (hb : Rd w b vs) (V : Vw ws vs) :
 Calls Tryz.prog 84 #[.slice a ws.length ca, .slice b vs.length cb] w fun e w' => e = .returned (.int .i64 (M.sumK vs ws vs.length)) ∧ w' = w := by
 have n12 := V.top
 have hl := hide V.len
 obtain ⟨ba, oa, rfl, hba, hca⟩ := ha.2 (by intro e; have := V.len; have := V.pos; rw [e] at *; simp at *; omega)
 obtain ⟨bb, ob, rfl, hbb, hcb⟩ := hb.2 (by intro e; have := V.pos; rw [e] at *; simp at *)
 have HA : Hid (∀ i, i < vs.length → w.cell? ⟨ba, oa + i, none⟩ = some (.int .i64 (ws.getD i 0))) := fun i hi => hca i (by rw [hl.out]; exact hi)
 have HB := hide hcb
 have HX := hide (fun i (hi : i < vs.length) => (⟨(V.vals i hi).1, (V.vals i hi).2, (V.wts i hi).1, (V.wts i hi).2⟩ : -1000000 ≤ vs.getD i 0 ∧ vs.getD i 0 ≤ 1000000 ∧ 1 ≤ ws.getD i 0 ∧ ws.getD i 0 ≤ 1000))
 have SB := hide (fun k (hk : k ≤ vs.length) => M.sum_bound (l := vs) (ws := ws) k (fun i hi => HX.out i (by omega)))
 have W12 : ws.length ≤ 12 := by rw [hl.out]; exact n12
 clear ha hb hca hcb hba hbb V
 go_enter Tryz.func84, Tryz.ntmps84
 go_wp2
 go_loopw [5, 10] (fun s i wr => ∃ k : Nat, k ≤ vs.length ∧ s = .int .i64 (M.sumK vs ws k) ∧ i = .int .i64 k ∧ wr = w) (fun _ i _ => vs.length - (intOf i).toNat)
 case atStart => exact ⟨0, Nat.zero_le _, rfl, rfl, rfl⟩
 case round =>
  obtain ⟨k, hk, rfl, rfl, ew⟩ := hrel
  subst wr
  by_cases hlt : k < vs.length
  · have c1 := HA.out k hlt
    have c2 := HB.out k hlt
    obtain ⟨x1, x2, y1, y2⟩ := HX.out k hlt
    obtain ⟨s1, s2⟩ := SB.out k hk
    have SS : Hid (M.sumK vs ws k + vs.getD k 0 * ws.getD k 0 = M.sumK vs ws (k + 1)) := rfl
    have kz : (k : Int) < (vs.length : Int) := by omega
    have kw : (k : Int) < (ws.length : Int) := by rw [hl.out]; exact kz
    obtain ⟨m1, m2⟩ := M.mul_far x1 x2 y1 y2
    clear HA HB HX SB
    generalize vs.getD k 0 = x at *
    generalize ws.getD k 0 = y at *
    go_wp2_with (first
     | (go_at_call 97; refine (mul_small _ _ _ (by omega) (by omega) (by omega) (by omega)).mono ?_; rintro e w1 ⟨rfl, e1⟩; subst w1)
     | (go_at_call 116; refine (add_in _ _ _ (by omega) (by omega) (by omega) (by omega)).mono ?_; rintro e w1 ⟨rfl, e1⟩; subst w1))
    go_roundw
    case rel => exact ⟨k + 1, by omega, by rw [SS.out], by go_num, (by first | rfl | trivial)⟩
    case measure => simp [intOf]; omega
  · have ek : k = vs.length := by omega
    have EE := hide ek
    clear ek HA HB HX SB
    go_wp2
    go_ret
    exact ⟨ret_int (by rw [EE.out]), rfl⟩
theorem keyI : Keyed Tryz.prog 3 := int_keyed Tryz.underlying3
theorem zeroI (w : World) : (zeroValue 3).run Tryz.prog w = .ok (.int .i64 0) w := by kernel_rfl
def Vm (w : World) (B k : Nat) (vs ws : List Int) (D : DataW Unit) : Prop :=
 w.ownsMap Tryz.prog 3 (plainElem Tryz.prog 3) B k D ∧ IsMap D ∧ ∀ v : Int, D.atKey (.int .i64 v) (.lit (.int .i64 0)) = .lit (.int .i64 (M.votK vs ws v k))
theorem vm_none (w : World) (vs ws : List Int) : Vm (w.alloc (.map #[] 0)) w.heap.size 0 vs ws (.map []) := ⟨World.ownsMap_made _ _ _ _, isMap_empty, fun v => rfl⟩
theorem wfI {x : Int} (h1 : -1000000 ≤ x) (h2 : x ≤ 1000000) : (Lit.int .i64 x).wf = true := WalkArith.wf_i64 (by omega)
theorem Vm.look {w : World} {B k : Nat} {vs ws : List Int} {D : DataW Unit} (h : Vm w B k vs ws D) {x : Int} (h1 : -1000000 ≤ x) (h2 : x ≤ 1000000) :
 (Instr.lookup 185 (.map (some B)) (.int .i64 x) false).run Tryz.prog w = .ok (.int .i64 (M.votK vs ws x k)) w := by
 obtain ⟨c, hrun, hat, _⟩ := h.1.lookup_int keyI Tryz.underlying185 Tryz.underlying3 (zeroI w) (keyOf_int_mk Tryz.underlying3 (wfI h1 h2))
 have e := hat.symm.trans (h.2.2 x)
 cases e
 exact hrun
theorem Vm.put {w : World} {B k : Nat} {vs ws : List Int} {D : DataW Unit} (h : Vm w B k vs ws D) (hk : k < 12) {x y z : Int} (h1 : -1000000 ≤ x) (h2 : x ≤ 1000000) (hx : vs.getD k 0 = x) (hy : ws.getD k 0 = y) (hz : z = M.votK vs ws x k + y) (z1 : -1000000 ≤ z) (z2 : z ≤ 1000000) :
 ∃ w', (Instr.mapUpdate 185 (.map (some B)) (.int .i64 x) (.int .i64 z)).run Tryz.prog w = .ok () w' ∧ (∃ D', Vm w' B (k + 1) vs ws D') ∧ w.grownBy w' (some B) := by
 obtain ⟨w', hrun, hown, hg⟩ := h.1.update keyI Tryz.underlying185 (by unfold maxLen; omega) (keyOf_int_mk Tryz.underlying3 (wfI h1 h2)) (plainElem_int Tryz.underlying3 (wfI z1 z2))
 refine ⟨w', hrun, ⟨_, hown, h.2.1.put _ _, fun v => ?_⟩, hg⟩
 show _ = DataW.lit (.int .i64 (M.votK vs ws v k + if vs.getD k 0 = v then ws.getD k 0 else 0))
 by_cases e : x = v
 · subst e
   rw [atKey_put_same h.2.1 (by first | trivial | exact ⟨_, _, rfl⟩ | simp [WideAt.IsKeyLit]), hz, if_pos hx, hy]
 · rw [atKey_put_other (by intro q; cases q; exact e rfl), h.2.2 v, if_neg (by rw [hx]; exact e)]
   rw [Int.add_zero]
set_option maxHeartbeats 4000000 in
theorem gvote_in (a b : Option Addr) (ws vs : List Int) (ca cb : Nat) (w : World) (ha : Rd w a ws) (hb : Rd w b vs) (V : Vw ws vs) :
 Calls Tryz.prog 86 #[.slice a ws.length ca, .slice b vs.length cb] w fun e w' => e = .returned (.int .i64 (M.bestK vs ws vs.length).2) ∧ Below w.heap.size w w' := by
 have hmm := @run_makeMap Tryz.prog
 have n12 := V.top
 have n0 := V.pos
 have hl := hide V.len
 obtain ⟨ba, oa, rfl, hba, hca⟩ := ha.2 (by intro e; have := V.len; have := V.pos; rw [e] at *; simp at *; omega)
 obtain ⟨bb, ob, rfl, hbb, hcb⟩ := hb.2 (by intro e; have := V.pos; rw [e] at *; simp at *)
 have HA : Hid (∀ W, Below w.heap.size w W → ∀ i, i < vs.length → W.cell? ⟨ba, oa + i, none⟩ = some (.int .i64 (ws.getD i 0))) := fun W hW i hi => (hW.cell (p := ⟨ba, oa + i, none⟩) hba).trans (hca i (by rw [hl.out]; exact hi))
 have HB : Hid (∀ W, Below w.heap.size w W → ∀ i, i < vs.length → W.cell? ⟨bb, ob + i, none⟩ = some (.int .i64 (vs.getD i 0))) := fun W hW i hi => (hW.cell (p := ⟨bb, ob + i, none⟩) hbb).trans (hcb i hi)
 have HX := hide (fun i (hi : i < vs.length) => (⟨(V.vals i hi).1, (V.vals i hi).2, (V.wts i hi).1, (V.wts i hi).2⟩ : -1000000 ≤ vs.getD i 0 ∧ vs.getD i 0 ≤ 1000000 ∧ 1 ≤ ws.getD i 0 ∧ ws.getD i 0 ≤ 1000))
 have VB := hide (fun x k (hk : k ≤ vs.length) => M.vot_bound (l := vs) (ws := ws) x k (fun i hi => (HX.out i (by omega)).2.2))
 have BU := hide (fun b hb hm => M.best_unique (l := vs) (ws := ws) (b := b) (fun i hi => (HX.out i hi).2.2.1) n0 hb hm)
 have W12 : ws.length ≤ 12 := by rw [hl.out]; exact n12
 have M0 := hide (vm_none w vs ws)
 have B0 : Hid (Below w.heap.size w (w.alloc (.map #[] 0))) := (Below.refl _ _).alloc (Nat.le_refl _) _
 clear ha hb hca hcb hba hbb V
 generalize (M.bestK vs ws vs.length).2 = res at *
 go_enter Tryz.func86, Tryz.ntmps86
 go_wp2
 go_loopw [14] (fun i wr => ∃ k : Nat, k ≤ vs.length ∧ i = .int .i64 k ∧ Hid (∃ D, Vm wr w.heap.size k vs ws D) ∧ Below w.heap.size w wr) (fun i _ => vs.length - (intOf i).toNat)
 case atStart => exact ⟨0, Nat.zero_le _, rfl, ⟨_, M0.out⟩, B0.out⟩
 case round =>
  obtain ⟨k, hk, rfl, VM, hbl⟩ := hrel
  clear M0 B0
  by_cases hlt : k < vs.length
  · have c1 := HA.out wr hbl k hlt
    have c2 := HB.out wr hbl k hlt
    obtain ⟨x1, x2, y1, y2⟩ := HX.out k hlt
    obtain ⟨D, hD⟩ := VM.out
    obtain ⟨x, hx⟩ : ∃ x, vs.getD k 0 = x := ⟨_, rfl⟩
    obtain ⟨y, hy⟩ : ∃ y, ws.getD k 0 = y := ⟨_, rfl⟩
    rw [hx] at x1 x2 c2
    rw [hy] at y1 y2 c1
    obtain ⟨s1, s2⟩ := VB.out x k hk
    obtain ⟨c, hc⟩ : ∃ c, M.votK vs ws x k = c := ⟨_, rfl⟩
    have lk := hD.look x1 x2
    obtain ⟨w2, up, VM2, gr⟩ := hD.put (z := c + y) (by omega) x1 x2 hx hy (by rw [hc]) (by omega) (by omega)
    rw [hc] at lk s1 s2
    have lkd : (Instr.lookup 185 (.map (some w.heap.size)) (.int .i64 x) false).run Tryz.prog wr.drew = .ok (.int .i64 c) wr.drew := by
     obtain ⟨D, hD⟩ := VM.out
     have := Vm.look (w := wr.drew) ⟨hD.1.drew, hD.2⟩ x1 x2
     rw [hc] at this
     exact this
    obtain ⟨w2, up, VM2, gr⟩ := Vm.put (w := wr.drew) (z := c + y) ⟨hD.1.drew, hD.2⟩ (by omega) x1 x2 hx hy (by rw [hc]) (by omega) (by omega)
    have HV2 := hide VM2
    have HG : Hid (Below w.heap.size w w2) := hbl.drew.grown gr hbl.size (fun j hj => by cases hj; exact Nat.le_refl _)
    have kz : (k : Int) < (vs.length : Int) := by omega
    have kw : (k : Int) < (ws.length : Int) := by rw [hl.out]; exact kz
    clear HA HB HX VB BU VM2 hD hx hy hc gr VM lk
    go_upto_region 5 with fail
    go_region
    all_goals (
     go_wp2
     go_roundw
     case rel => exact ⟨k + 1, by omega, by go_num, HV2, HG.out⟩
     case measure => simp [intOf]; omega)
  · have ek : k = vs.length := by omega
    have EE := hide ek
    have VMn : Hid (∃ D, Vm wr w.heap.size vs.length vs ws D) := by rw [← EE.out]; exact VM
    have c0 := HB.out wr hbl 0 n0
    obtain ⟨x0, hx0⟩ : ∃ x, vs.getD 0 0 = x := ⟨_, rfl⟩
    have HX0 := hide hx0
    rw [hx0] at c0
    rw [Nat.add_zero] at c0
    have nz : (0 : Int) < (vs.length : Int) := by omega
    obtain ⟨r1, r2, _⟩ := HX.out 0 n0
    rw [hx0] at r1 r2
    have R0 : Hid (-1000000 ≤ x0 ∧ x0 ≤ 1000000) := ⟨r1, r2⟩
    clear ek VM r1 r2 hx0
    go_wp2
    go_loopw [8, 33] (fun s i wx => ∃ (k : Nat) (b : Int), k ≤ vs.length ∧ s = .int .i64 b ∧ i = .int .i64 k ∧ wx = wr ∧ Hid (∃ j, j < vs.length ∧ b = vs.getD j 0) ∧ Hid (∀ i, i < k → M.votK vs ws (vs.getD i 0) vs.length < M.votK vs ws b vs.length ∨ (M.votK vs ws (vs.getD i 0) vs.length = M.votK vs ws b vs.length ∧ b ≤ vs.getD i 0))) (fun _ i _ => vs.length - (intOf i).toNat)
    case atStart => exact ⟨0, x0, Nat.zero_le _, rfl, rfl, rfl, ⟨0, n0, HX0.out.symm⟩, fun i hi => by omega⟩
    case round =>
     obtain ⟨k, b, hk, rfl, rfl, ew, HJ, HM⟩ := hrel
     subst ew
     clear c0 HX0 R0
     by_cases hlt : k < vs.length
     · have c2 := HB.out _ hbl k hlt
       obtain ⟨x1, x2, _⟩ := HX.out k hlt
       obtain ⟨D, hD⟩ := VMn.out
       obtain ⟨x, hx⟩ : ∃ x, vs.getD k 0 = x := ⟨_, rfl⟩
       obtain ⟨jb, hj, hbj⟩ := HJ.out
       obtain ⟨b1, b2, _⟩ := HX.out jb hj
       rw [← hbj] at b1 b2
       rw [hx] at x1 x2 c2
       have lx := hD.look x1 x2
       have lb := hD.look b1 b2
       have NX : Hid (∃ j, j < vs.length ∧ x = vs.getD j 0) := ⟨k, hlt, hx.symm⟩
       have NM : Hid (∀ b', (M.votK vs ws x vs.length < M.votK vs ws b' vs.length ∨ (M.votK vs ws x vs.length = M.votK vs ws b' vs.length ∧ b' ≤ x)) → (∀ i, i < k → M.votK vs ws (vs.getD i 0) vs.length < M.votK vs ws b' vs.length ∨ (M.votK vs ws (vs.getD i 0) vs.length = M.votK vs ws b' vs.length ∧ b' ≤ vs.getD i 0)) → ∀ i, i < k + 1 → M.votK vs ws (vs.getD i 0) vs.length < M.votK vs ws b' vs.length ∨ (M.votK vs ws (vs.getD i 0) vs.length = M.votK vs ws b' vs.length ∧ b' ≤ vs.getD i 0)) := fun b' h1 h2 i hi => by
        by_cases e : i = k
        · rw [e, hx]; exact h1
        · exact h2 i (by omega)
       obtain ⟨cx, hcx⟩ : ∃ c, M.votK vs ws x vs.length = c := ⟨_, rfl⟩
       obtain ⟨cB, hcB⟩ : ∃ c, M.votK vs ws b vs.length = c := ⟨_, rfl⟩
       have kz : (k : Int) < (vs.length : Int) := by omega
       have HCX := hide hcx
       have HCB := hide hcB
       rw [hcx] at lx
       rw [hcB] at lb
       clear HA HB HX VB BU VMn hD hx hbj hcx hcB b1 b2 x1 x2
       rcases (show cB < cx ∨ (cx = cB ∧ x < b) ∨ (cx = cB ∧ ¬ x < b) ∨ cx < cB from by omega) with g | ⟨g, g2⟩ | ⟨g, g2⟩ | g
       · have q1 : decide (cB < cx) = true := decide_eq_true g
         have N2 : Hid (∀ i, i < k + 1 → M.votK vs ws (vs.getD i 0) vs.length < M.votK vs ws x vs.length ∨ (M.votK vs ws (vs.getD i 0) vs.length = M.votK vs ws x vs.length ∧ x ≤ vs.getD i 0)) := NM.out x (.inr ⟨rfl, Int.le_refl _⟩) (fun i hi => by have h := HM.out i hi; rw [HCB.out] at h; rw [HCX.out]; omega)
         clear HM NM HCX HCB g HJ
         go_wp2
         go_roundw
         case rel => exact ⟨k + 1, x, by omega, rfl, by go_num, (by first | rfl | trivial), NX, N2⟩
         case measure => simp [intOf]; omega
       · have q1 : decide (cB < cx) = false := decide_eq_false (by omega)
         have q2 : (cx == cB) = true := by rw [beq_iff_eq]; exact g
         have q3 : decide (x < b) = true := decide_eq_true g2
         have N2 : Hid (∀ i, i < k + 1 → M.votK vs ws (vs.getD i 0) vs.length < M.votK vs ws x vs.length ∨ (M.votK vs ws (vs.getD i 0) vs.length = M.votK vs ws x vs.length ∧ x ≤ vs.getD i 0)) := NM.out x (.inr ⟨rfl, Int.le_refl _⟩) (fun i hi => by have h := HM.out i hi; rw [HCB.out] at h; rw [HCX.out]; omega)
         clear HM NM HCX HCB g g2 HJ
         go_wp2
         go_roundw
         case rel => exact ⟨k + 1, x, by omega, rfl, by go_num, (by first | rfl | trivial), NX, N2⟩
         case measure => simp [intOf]; omega
       · have q1 : decide (cB < cx) = false := decide_eq_false (by omega)
         have q2 : (cx == cB) = true := by rw [beq_iff_eq]; exact g
         have q3 : decide (x < b) = false := decide_eq_false g2
         have N2 := hide (NM.out b (by rw [HCX.out, HCB.out]; omega) HM.out)
         clear HM NM HCX HCB g g2 NX
         go_wp2
         go_roundw
         case rel => exact ⟨k + 1, b, by omega, rfl, by go_num, (by first | rfl | trivial), HJ, N2⟩
         case measure => simp [intOf]; omega
       · have q1 : decide (cB < cx) = false := decide_eq_false (by omega)
         have q2 : (cx == cB) = false := by rw [beq_eq_false_iff_ne]; omega
         have N2 := hide (NM.out b (by rw [HCX.out, HCB.out]; omega) HM.out)
         clear HM NM HCX HCB g NX
         go_wp2
         go_roundw
         case rel => exact ⟨k + 1, b, by omega, rfl, by go_num, (by first | rfl | trivial), HJ, N2⟩
         case measure => simp [intOf]; omega
     · have R : Hid (res = b) := BU.out b HJ.out (fun i hi => HM.out i (by omega))
       clear HA HB HX VB BU VMn HM HJ
       go_wp2
       go_ret
       exact ⟨ret_int R.out.symm, hbl⟩
set_option maxHeartbeats 4000000 in
theorem gtog_in (wy : Int) (a b : Option Addr) (ws vs : List Int) (ca cb : Nat) (w : World) (ha : Rd w a ws) (hb : Rd w b vs) (V : Vw ws vs) (h1 : 1 ≤ wy) (h3 : wy ≤ 3) :
 Calls Tryz.prog 48 #[.int .i64 wy, .slice a ws.length ca, .slice b vs.length cb] w fun e w' => e = .returned (.int .i64 (M.together wy ws vs)) ∧ Below w.heap.size w w' := by
 have CS := hide (fun W (hW : Below w.heap.size w W) => gsum_in a b ws vs ca cb W (ha.below hW) (hb.below hW) V)
 have CV := hide (fun W (hW : Below w.heap.size w W) => gvote_in a b ws vs ca cb W (ha.below hW) (hb.below hW) V)
 have l0 : ws.length = vs.length := V.len
 have lp := V.pos
 have wt : ∀ i, i < ws.length → 1 ≤ ws.getD i 0 ∧ ws.getD i 0 ≤ 1000 := fun i hi => V.wts i (by omega)
 have CT := hide (fun W (hW : Below w.heap.size w W) => total_in a ws ca W (ha.below hW) (by omega) (by rw [l0]; exact V.top) wt)
 obtain ⟨s1, s2⟩ := M.sum_bound (l := vs) (ws := ws) vs.length (fun i hi => ⟨(V.vals i hi).1, (V.vals i hi).2, (V.wts i hi).1, (V.wts i hi).2⟩)
 obtain ⟨t1, t2⟩ := M.all_pos (ws := ws) ws.length wt
 have n12 := V.top
 have s3 : -12000000000 ≤ M.sumK vs ws vs.length := by omega
 have s4 : M.sumK vs ws vs.length ≤ 12000000000 := by omega
 have t3 : 0 < M.allK ws ws.length := by omega
 have t4 : M.allK ws ws.length ≤ 12000 := by omega
 by_cases c1 : wy = 1
 · have E : Hid (M.sumK vs ws vs.length = M.together wy ws vs) := by unfold Hid M.together; rw [if_pos c1]
   have q2 : (wy == 2) = false := by rw [beq_eq_false_iff_ne]; omega
   have q3 : (wy == 3) = false := by rw [beq_eq_false_iff_ne]; omega
   clear ha hb V l0 wt s1 s2 t1 t2 c1 CV CT
   generalize M.together wy ws vs = R at *
   generalize M.sumK vs ws vs.length = S at *
   go_enter Tryz.func48, Tryz.ntmps48
   go_wp2_with (go_at_call 84; refine (CS.out _ (Below.refl _ _)).mono ?_; rintro e w1 ⟨rfl, e1⟩; subst w1)
   go_ret
   exact ⟨ret_int E.out, Below.refl _ _⟩
 · by_cases c2 : wy = 2
   · have E : Hid (M.sumK vs ws vs.length / M.allK ws ws.length = M.together wy ws vs) := by unfold Hid M.together; rw [if_neg c1, if_pos c2, l0]
     have q2 : (wy == 2) = true := by rw [beq_iff_eq]; exact c2
     clear ha hb V l0 wt s1 s2 t1 t2 c1 c2 CV
     generalize M.together wy ws vs = R at *
     generalize M.sumK vs ws vs.length = S at *
     generalize M.allK ws ws.length = T at *
     go_enter Tryz.func48, Tryz.ntmps48
     go_wp2_with (first
      | (go_at_call 84; refine (CS.out _ (Below.refl _ _)).mono ?_; rintro e w1 ⟨rfl, e1⟩; subst w1)
      | (go_at_call 85; refine (CT.out _ (Below.refl _ _)).mono ?_; rintro e w2 ⟨rfl, e2⟩; subst w2)
      | (go_at_call 83; refine (gdown_any S T _ (by omega) (by omega) (by omega) (by omega)).mono ?_; rintro e w3 ⟨rfl, e3⟩; subst w3))
     go_ret
     exact ⟨ret_int E.out, Below.refl _ _⟩
   · have E : Hid ((M.bestK vs ws vs.length).2 = M.together wy ws vs) := by unfold Hid M.together; rw [if_neg c1, if_neg c2]
     have q2 : (wy == 2) = false := by rw [beq_eq_false_iff_ne]; omega
     have q3 : (wy == 3) = true := by rw [beq_iff_eq]; omega
     clear ha hb V l0 wt s1 s2 t1 t2 c1 c2 CS CT
     generalize M.together wy ws vs = R at *
     generalize (M.bestK vs ws vs.length).2 = S at *
     go_enter Tryz.func48, Tryz.ntmps48
     go_wp2_with (go_at_call 86; refine (CV.out _ (Below.refl _ _)).mono ?_; rintro e w1 ⟨rfl, hb1⟩)
     go_ret
     exact ⟨ret_int E.out, hb1⟩
end Go.Proofs.YtelncekgjfpogahGreatDoor
namespace Go.Proofs.YtelncekgjfpogahGreatDoor
open Go.ChangeShapes Go.WideShapes Go.ChangeAt Go.RowKit Go.Lib
set_option linter.unusedVariables false
theorem M.wts_vw {ws vs : List Int} (V : Vw ws vs) : M.wtsF ws vs.length = 0 := by
 have h0 := V.pos
 have h12 := V.top
 have hl := V.len
 unfold M.wtsF
 rw [if_neg (by omega), if_neg (by omega), if_neg (by simp [hl])]
 have : ws.any M.wBad = false := by
  cases e : ws.any M.wBad with
  | false => rfl
  | true =>
    obtain ⟨x, hx, e2⟩ := List.any_eq_true.1 e
    obtain ⟨i, hi, rfl⟩ := List.getElem_of_mem hx
    have := V.wts i (by omega)
    rw [M.getD_at hi] at this
    unfold M.wBad at e2
    rw [decide_eq_false (by omega), decide_eq_false (by omega)] at e2
    cases e2
 rw [this]; rfl
set_option maxHeartbeats 2000000 in
theorem gTog_in (wy : Int) (a b : Option Addr) (ws vs : List Int) (ca cb : Nat) (w : World) (ha : Rd w a ws) (hb : Rd w b vs) (V : Vw ws vs) (h1 : 1 ≤ wy) (h3 : wy ≤ 3) :
 Calls Tryz.prog 53 #[.int .i64 wy, .slice a ws.length ca, .slice b vs.length cb] w fun e w' => e = .returned (.tuple #[.int .i64 (M.together wy ws vs), .nilIface]) ∧ Below w.heap.size w w' := by
 have IW := hide (fun W => isway_any wy W true (decide_eq_true ⟨h1, h3⟩).symm)
 have CW := hide (gwts_any a ws ca vs.length w ha)
 rw [M.wts_vw V, err_nil rfl] at CW
 have CT := hide (gtog_in wy a b ws vs ca cb w ha hb V h1 h3)
 have hm : vs.length ≤ 9223372036854775807 := hb.1
 clear ha hb V h1 h3
 generalize M.together wy ws vs = T at *
 go_enter Tryz.func53, Tryz.ntmps53
 go_wp2_with (first
  | (go_at_call 68; refine (IW.out _).mono ?_; rintro e w1 ⟨rfl, e1⟩; subst w1)
  | (go_at_call 69; refine CW.out.mono ?_; rintro e w2 ⟨rfl, e2⟩; subst w2)
  | (go_at_call 48; refine CT.out.mono ?_; rintro e w3 ⟨rfl, hb3⟩))
 go_ret2
 exact ⟨rfl, hb3⟩
def M.minK (l : List Int) : Nat → Int
 | 0 => l.getD 0 0
 | k + 1 => if l.getD k 0 < M.minK l k then l.getD k 0 else M.minK l k
def M.maxK (l : List Int) : Nat → Int
 | 0 => l.getD 0 0
 | k + 1 => if M.maxK l k < l.getD k 0 then l.getD k 0 else M.maxK l k
theorem M.min_spec {l : List Int} (h0 : 0 < l.length) : ∀ k, k ≤ l.length → M.minK l k ∈ l ∧ ∀ i, i < k → M.minK l k ≤ l.getD i 0
 | 0, _ => ⟨by show l.getD 0 0 ∈ l; rw [M.getD_at h0]; exact List.getElem_mem h0, fun i hi => by omega⟩
 | k + 1, hk => by
   obtain ⟨h1, h2⟩ := M.min_spec h0 k (by omega)
   unfold M.minK
   split
   · rename_i hc
     refine ⟨by rw [M.getD_at (by omega)]; exact List.getElem_mem _, fun i hi => ?_⟩
     by_cases e : i = k
     · rw [e]; exact Int.le_refl _
     · have := h2 i (by omega); omega
   · rename_i hc
     refine ⟨h1, fun i hi => ?_⟩
     by_cases e : i = k
     · rw [e]; omega
     · exact h2 i (by omega)
theorem M.max_spec {l : List Int} (h0 : 0 < l.length) : ∀ k, k ≤ l.length → M.maxK l k ∈ l ∧ ∀ i, i < k → l.getD i 0 ≤ M.maxK l k
 | 0, _ => ⟨by show l.getD 0 0 ∈ l; rw [M.getD_at h0]; exact List.getElem_mem h0, fun i hi => by omega⟩
 | k + 1, hk => by
   obtain ⟨h1, h2⟩ := M.max_spec h0 k (by omega)
   unfold M.maxK
   split
   · rename_i hc
     refine ⟨by rw [M.getD_at (by omega)]; exact List.getElem_mem _, fun i hi => ?_⟩
     by_cases e : i = k
     · rw [e]; exact Int.le_refl _
     · have := h2 i (by omega); omega
   · rename_i hc
     refine ⟨h1, fun i hi => ?_⟩
     by_cases e : i = k
     · rw [e]; omega
     · exact h2 i (by omega)
theorem M.low_min {l : List Int} (h0 : 0 < l.length) : M.lowL l = M.minK l l.length := by
 obtain ⟨h1, h2⟩ := M.min_spec h0 l.length (Nat.le_refl _)
 refine M.low_unique h1 (fun x hx => ?_)
 obtain ⟨i, hi, rfl⟩ := List.getElem_of_mem hx
 have := h2 i hi
 rwa [M.getD_at hi] at this
theorem M.high_max {l : List Int} (h0 : 0 < l.length) : M.highL l = M.maxK l l.length := by
 obtain ⟨h1, h2⟩ := M.max_spec h0 l.length (Nat.le_refl _)
 refine M.high_unique h1 (fun x hx => ?_)
 obtain ⟨i, hi, rfl⟩ := List.getElem_of_mem hx
 have := h2 i hi
 rwa [M.getD_at hi] at this
theorem M.min_one (l : List Int) : M.minK l 1 = l.getD 0 0 := by
 show (if l.getD 0 0 < l.getD 0 0 then _ else _) = _
 rw [if_neg (by omega)]; rfl
theorem M.max_one (l : List Int) : M.maxK l 1 = l.getD 0 0 := by
 show (if l.getD 0 0 < l.getD 0 0 then _ else _) = _
 rw [if_neg (by omega)]; rfl
set_option maxHeartbeats 2000000 in
theorem smin_in (a : Option Addr) (vs : List Int) (ca : Nat) (w : World) (h : Rd w a vs) (h0 : 0 < vs.length) (n12 : vs.length ≤ 12) :
 Calls Tryz.prog 55 #[.slice a vs.length ca] w fun e w' => e = .returned (.int .i64 (M.lowL vs)) ∧ w' = w := by
 obtain ⟨ba, oa, rfl, hba, hca⟩ := h.2 (by intro e; rw [e] at h0; simp at h0)
 have HC := hide hca
 have EL := hide (M.low_min h0)
 have c0 := hca 0 h0
 have E1 := hide (M.min_one vs)
 have g1 : decide ((vs.length : Int) < 1) = false := decide_eq_false (by omega)
 rw [Nat.add_zero] at c0
 clear h hca hba
 generalize M.lowL vs = LT at *
 generalize vs.getD 0 0 = x0 at *
 go_enter Tryz.func55, Tryz.ntmps55
 go_wp2
 go_loopw [3, 4] (fun s i wr => ∃ k : Nat, 1 ≤ k ∧ k ≤ vs.length ∧ s = .int .i64 (M.minK vs k) ∧ i = .int .i64 k ∧ wr = w) (fun _ i _ => vs.length - (intOf i).toNat)
 case atStart => exact ⟨1, Nat.le_refl _, h0, by rw [E1.out], rfl, rfl⟩
 case round =>
  obtain ⟨k, k1, hk, rfl, rfl, ew⟩ := hrel
  subst wr
  clear c0 E1
  by_cases hlt : k < vs.length
  · have c1 := HC.out k hlt
    have kz : (k : Int) < (vs.length : Int) := by omega
    have SS : Hid (M.minK vs (k + 1) = if vs.getD k 0 < M.minK vs k then vs.getD k 0 else M.minK vs k) := rfl
    clear HC EL
    generalize vs.getD k 0 = x at *
    by_cases hv : x < M.minK vs k
    · have E : Hid (M.minK vs (k + 1) = x) := by unfold Hid; rw [SS.out, if_pos hv]
      clear SS
      generalize M.minK vs k = mk at *
      go_wp2
      go_roundw
      case rel => exact ⟨k + 1, by omega, by omega, (by rw [E.out] <;> (first | rfl | (congr 1; omega))), by go_num, (by first | rfl | trivial)⟩
      case measure => simp [intOf]; omega
    · have E : Hid (M.minK vs (k + 1) = M.minK vs k) := by unfold Hid; rw [SS.out, if_neg hv]
      clear SS
      generalize M.minK vs k = mk at *
      go_wp2
      go_roundw
      case rel => exact ⟨k + 1, by omega, by omega, (by rw [E.out] <;> (first | rfl | (congr 1; omega))), by go_num, (by first | rfl | trivial)⟩
      case measure => simp [intOf]; omega
  · have ek : k = vs.length := by omega
    have E : Hid (M.minK vs k = LT) := by unfold Hid; rw [ek, EL.out]
    clear HC EL ek
    go_wp2
    go_ret
    exact ⟨ret_int E.out, rfl⟩
set_option maxHeartbeats 2000000 in
theorem smax_in (a : Option Addr) (vs : List Int) (ca : Nat) (w : World) (h : Rd w a vs) (h0 : 0 < vs.length) (n12 : vs.length ≤ 12) :
 Calls Tryz.prog 56 #[.slice a vs.length ca] w fun e w' => e = .returned (.int .i64 (M.highL vs)) ∧ w' = w := by
 obtain ⟨ba, oa, rfl, hba, hca⟩ := h.2 (by intro e; rw [e] at h0; simp at h0)
 have HC := hide hca
 have EL := hide (M.high_max h0)
 have c0 := hca 0 h0
 have E1 := hide (M.max_one vs)
 have g1 : decide ((vs.length : Int) < 1) = false := decide_eq_false (by omega)
 rw [Nat.add_zero] at c0
 clear h hca hba
 generalize M.highL vs = LT at *
 generalize vs.getD 0 0 = x0 at *
 go_enter Tryz.func56, Tryz.ntmps56
 go_wp2
 go_loopw [3, 4] (fun s i wr => ∃ k : Nat, 1 ≤ k ∧ k ≤ vs.length ∧ s = .int .i64 (M.maxK vs k) ∧ i = .int .i64 k ∧ wr = w) (fun _ i _ => vs.length - (intOf i).toNat)
 case atStart => exact ⟨1, Nat.le_refl _, h0, by rw [E1.out], rfl, rfl⟩
 case round =>
  obtain ⟨k, k1, hk, rfl, rfl, ew⟩ := hrel
  subst wr
  clear c0 E1
  by_cases hlt : k < vs.length
  · have c1 := HC.out k hlt
    have kz : (k : Int) < (vs.length : Int) := by omega
    have SS : Hid (M.maxK vs (k + 1) = if M.maxK vs k < vs.getD k 0 then vs.getD k 0 else M.maxK vs k) := rfl
    clear HC EL
    generalize vs.getD k 0 = x at *
    by_cases hv : M.maxK vs k < x
    · have E : Hid (M.maxK vs (k + 1) = x) := by unfold Hid; rw [SS.out, if_pos hv]
      clear SS
      generalize M.maxK vs k = mk at *
      go_wp2
      go_roundw
      case rel => exact ⟨k + 1, by omega, by omega, (by rw [E.out] <;> (first | rfl | (congr 1; omega))), by go_num, (by first | rfl | trivial)⟩
      case measure => simp [intOf]; omega
    · have E : Hid (M.maxK vs (k + 1) = M.maxK vs k) := by unfold Hid; rw [SS.out, if_neg hv]
      clear SS
      generalize M.maxK vs k = mk at *
      go_wp2
      go_roundw
      case rel => exact ⟨k + 1, by omega, by omega, (by rw [E.out] <;> (first | rfl | (congr 1; omega))), by go_num, (by first | rfl | trivial)⟩
      case measure => simp [intOf]; omega
  · have ek : k = vs.length := by omega
    have E : Hid (M.maxK vs k = LT) := by unfold Hid; rw [ek, EL.out]
    clear HC EL ek
    go_wp2
    go_ret
    exact ⟨ret_int E.out, rfl⟩
theorem own_near {w : World} {base n e size p o g cap m : Nat} {x : Value} {l : List Value} (h : w.ownsRow base e size (.slice (some ⟨g, 0, none⟩) m cap) n l) (hp : p ≠ g) : (w.setCell ⟨p, o, none⟩ x).ownsRow base e size (.slice (some ⟨g, 0, none⟩) m cap) n l := by
 refine ⟨h.1, ?_⟩
 rcases h.2 with ⟨h0, _⟩ | ⟨g', cap', cur, hv, h1, h2, h3⟩
 · cases h0
 · cases hv
   refine .inr ⟨g, cap, cur, rfl, h1, ?_, h3⟩
   rw [← h2]
   simp [World.setCell, Array.getElem?_modify, hp]
structure Bd (a0 a1 a2 a3 : Value) (w : World) (n : Nat) (L H : List Int) (W : World) (k g1 g2 : Nat) : Prop where
 o1 : W.ownsRow w.heap.size 3 1 (.slice (some ⟨g1, 0, none⟩) n n) n ((M.fillK L k).map (Value.int .i64))
 o2 : W.ownsRow w.heap.size 3 1 (.slice (some ⟨g2, 0, none⟩) n n) n ((M.fillK H k).map (Value.int .i64))
 ne : g1 ≠ g2
 l1 : w.heap.size < g1
 l2 : w.heap.size < g2
 b0 : W.cell? ⟨w.heap.size, 0, none⟩ = some a0
 b1 : W.cell? ⟨w.heap.size, 1, none⟩ = some a1
 b2 : W.cell? ⟨w.heap.size, 2, none⟩ = some a2
 b3 : W.cell? ⟨w.heap.size, 3, none⟩ = some a3
 below : Below w.heap.size w W
theorem Bd.up {a0 a1 a2 a3 : Value} {w : World} {n : Nat} {L H : List Int} {W W' : World} {k g1 g2 : Nat} (h : Bd a0 a1 a2 a3 w n L H W k g1 g2) (hb : Below W.heap.size W W') : Bd a0 a1 a2 a3 w n L H W' k g1 g2 := by
 have hl := block_lt_of_cell h.b0
 exact ⟨own_up h.o1 hb, own_up h.o2 hb, h.ne, h.l1, h.l2, (hb.cell (p := ⟨w.heap.size, 0, none⟩) hl).trans h.b0, (hb.cell (p := ⟨w.heap.size, 1, none⟩) hl).trans h.b1, (hb.cell (p := ⟨w.heap.size, 2, none⟩) hl).trans h.b2, (hb.cell (p := ⟨w.heap.size, 3, none⟩) hl).trans h.b3, below_on h.below hb⟩
theorem Bd.cells {a0 a1 a2 a3 : Value} {w : World} {n : Nat} {L H : List Int} {W : World} {k g1 g2 : Nat} (h : Bd a0 a1 a2 a3 w n L H W k g1 g2) (hL : L.length = n) (hH : H.length = n) (hk : k < n) : (∃ z, W.cell? ⟨g1, k, none⟩ = some (.int .i64 z)) ∧ (∃ z, W.cell? ⟨g2, k, none⟩ = some (.int .i64 z)) ∧ W.frozen? ⟨g1, k, none⟩ = false ∧ W.frozen? ⟨g2, k, none⟩ = false :=
 ⟨fillK_cell (by omega) hL h.o1, fillK_cell (by omega) hH h.o2, h.o1.frozenAt k, h.o2.frozenAt k⟩
theorem Bd.put {a0 a1 a2 a3 : Value} {w : World} {n : Nat} {L H : List Int} {W : World} {k g1 g2 : Nat} (h : Bd a0 a1 a2 a3 w n L H W k g1 g2) (hL : L.length = n) (hH : H.length = n) (hk : k < n) : Bd a0 a1 a2 a3 w n L H ((W.setCell ⟨g1, k, none⟩ (.int .i64 (L.getD k 0))).setCell ⟨g2, k, none⟩ (.int .i64 (H.getD k 0))) (k + 1) g1 g2 := by
 have l1 := h.l1
 have l2 := h.l2
 have ne := h.ne
 have far : ∀ (j : Nat), ((W.setCell ⟨g1, k, none⟩ (.int .i64 (L.getD k 0))).setCell ⟨g2, k, none⟩ (.int .i64 (H.getD k 0))).cell? ⟨w.heap.size, j, none⟩ = W.cell? ⟨w.heap.size, j, none⟩ := fun j => by
  rw [World.cell?_setCell_other _ _ _ _ (by intro e; have := congrArg Addr.block e; simp at this; omega), World.cell?_setCell_other _ _ _ _ (by intro e; have := congrArg Addr.block e; simp at this; omega)]
 exact ⟨own_near (fillK_own (by omega) h.o1) (fun e => ne e.symm), fillK_own (by omega) (own_near h.o2 ne), ne, l1, l2, (far 0).trans h.b0, (far 1).trans h.b1, (far 2).trans h.b2, (far 3).trans h.b3, (h.below.setCell (p := ⟨g1, k, none⟩) (show w.heap.size ≤ g1 by omega) _).setCell (p := ⟨g2, k, none⟩) (show w.heap.size ≤ g2 by omega) _⟩
theorem Bd.rd {a0 a1 a2 a3 : Value} {w : World} {n : Nat} {L H : List Int} {W : World} {g1 g2 : Nat} (h : Bd a0 a1 a2 a3 w n L H W n g1 g2) (hL : L.length = n) (hH : H.length = n) : Rd W (some ⟨g1, 0, none⟩) L ∧ Rd W (some ⟨g2, 0, none⟩) H := by
 have o1 := h.o1
 have o2 := h.o2
 rw [show M.fillK L n = L by rw [← hL]; exact M.fillK_all L] at o1
 rw [show M.fillK H n = H by rw [← hH]; exact M.fillK_all H] at o2
 have p1 : W.ownsRow w.heap.size 3 1 (.slice (some ⟨g1, 0, none⟩) L.length L.length) L.length (L.map (Value.int .i64)) := by rw [hL]; exact o1
 have p2 : W.ownsRow w.heap.size 3 1 (.slice (some ⟨g2, 0, none⟩) H.length H.length) H.length (H.map (Value.int .i64)) := by rw [hH]; exact o2
 obtain ⟨x, c, e, hr, _⟩ := own_rd p1
 obtain ⟨y, d, f, hs, _⟩ := own_rd p2
 cases e
 cases f
 exact ⟨hr, hs⟩
theorem made_row (W : World) (L : List Int) (base : Nat) (hb : base ≤ W.heap.size) (h12 : L.length ≤ 12) : (W.alloc (.cells (madeCells #[Value.int .i64 0] L.length) 3)).ownsRow base 3 1 (.slice (some ⟨W.heap.size, 0, none⟩) L.length L.length) L.length ((M.fillK L 0).map (Value.int .i64)) := by
 have e : (madeCells #[Value.int .i64 0] L.length).toList = (M.fillK L 0).map (Value.int .i64) := by
  have := made L.length
  rw [Nat.mul_one] at this
  rw [M.fillK_zero, ← this]
  rfl
 refine ⟨by rw [← e]; simp [size_madeCells], .inr ⟨W.heap.size, L.length, madeCells #[Value.int .i64 0] L.length, rfl, hb, (MapKept.heap_alloc W _).1, Nat.le_refl _, by unfold maxLen; omega, by simp [size_madeCells], ?_⟩⟩
 rw [Nat.mul_one, e, List.take_of_length_le]
 simp [M.fillK_len]
theorem bd_two {a0 a1 a2 a3 : Value} {w W : World} {L H : List Int} {n : Nat} (hL : L.length = n) (hH : H.length = n) (h12 : n ≤ 12) (hb : Below (w.alloc (.cells #[a0, a1, a2, a3] 27)).heap.size (w.alloc (.cells #[a0, a1, a2, a3] 27)) W) :
 Bd a0 a1 a2 a3 w n L H ((W.alloc (.cells (madeCells #[Value.int .i64 0] n) 3)).alloc (.cells (madeCells #[Value.int .i64 0] n) 3)).drew 0 W.heap.size (W.heap.size + 1) ∧ Bd a0 a1 a2 a3 w n L H ((W.alloc (.cells (madeCells #[Value.int .i64 0] n) 3)).alloc (.cells (madeCells #[Value.int .i64 0] n) 3)).drew 0 (W.heap.size + 1) W.heap.size := by
 have s := hb.size
 simp at s
 have b2 : Below W.heap.size W ((W.alloc (.cells (madeCells #[Value.int .i64 0] n) 3)).alloc (.cells (madeCells #[Value.int .i64 0] n) 3)).drew := (((Below.refl _ W).alloc (Nat.le_refl _) _).alloc (by simp) _).drew
 have b3 : Below (W.alloc (.cells (madeCells #[Value.int .i64 0] n) 3)).heap.size (W.alloc (.cells (madeCells #[Value.int .i64 0] n) 3)) ((W.alloc (.cells (madeCells #[Value.int .i64 0] n) 3)).alloc (.cells (madeCells #[Value.int .i64 0] n) 3)).drew := ((Below.refl _ _).alloc (Nat.le_refl _) _).drew
 have e1 : (W.alloc (.cells (madeCells #[Value.int .i64 0] n) 3)).heap.size = W.heap.size + 1 := by simp
 have first : ∀ X : List Int, X.length = n → ((W.alloc (.cells (madeCells #[Value.int .i64 0] n) 3)).alloc (.cells (madeCells #[Value.int .i64 0] n) 3)).drew.ownsRow w.heap.size 3 1 (.slice (some ⟨W.heap.size, 0, none⟩) n n) n ((M.fillK X 0).map (Value.int .i64)) := fun X hX => by
  have := made_row W X w.heap.size (by omega) (by omega)
  rw [hX] at this
  exact own_up this b3
 have second : ∀ X : List Int, X.length = n → ((W.alloc (.cells (madeCells #[Value.int .i64 0] n) 3)).alloc (.cells (madeCells #[Value.int .i64 0] n) 3)).drew.ownsRow w.heap.size 3 1 (.slice (some ⟨W.heap.size + 1, 0, none⟩) n n) n ((M.fillK X 0).map (Value.int .i64)) := fun X hX => by
  have := made_row (W.alloc (.cells (madeCells #[Value.int .i64 0] n) 3)) X w.heap.size (by omega) (by omega)
  rw [hX, e1] at this
  exact own_up this (Below.refl _ _).drew
 obtain ⟨k0, k1, k2, k3⟩ := kept_box (below_on hb b2)
 have bw := below_on ((Below.refl _ w).alloc (Nat.le_refl _) _) (below_on hb b2)
 exact ⟨⟨first L hL, second H hH, by omega, by omega, by omega, k0, k1, k2, k3, bw⟩, ⟨second L hL, first H hH, by omega, by omega, by omega, k0, k1, k2, k3, bw⟩⟩
theorem M.ends_vw {g : M.Gv} (K : M.Good g) : Vw (M.gs g) ((M.gt g).map M.lowT) ∧ Vw (M.gs g) ((M.gt g).map M.highT) := by
 have rng : ∀ i (hi : i < (M.gt g).length), (-1000000 ≤ M.lowT (M.gt g)[i] ∧ M.lowT (M.gt g)[i] ≤ 1000000) ∧ (-1000000 ≤ M.highT (M.gt g)[i] ∧ M.highT (M.gt g)[i] ≤ 1000000) := fun i hi => by
  have F := (M.tree_ok (K.trees _ (List.getElem_mem hi))).1
  have hp := M.lv_some F
  exact ⟨M.lv_in F _ (M.low_mem hp), M.lv_in F _ (M.high_mem hp)⟩
 refine ⟨⟨by rw [List.length_map]; exact K.len, by rw [List.length_map]; exact K.t0, by rw [List.length_map]; exact K.t12, fun i hi => ?_, fun i hi => M.wt_at K (by simpa using hi)⟩, ⟨by rw [List.length_map]; exact K.len, by rw [List.length_map]; exact K.t0, by rw [List.length_map]; exact K.t12, fun i hi => ?_, fun i hi => M.wt_at K (by simpa using hi)⟩⟩
 · have hi' : i < (M.gt g).length := by simpa using hi
   rw [M.getD_at hi, List.getElem_map]
   exact (rng i hi').1
 · have hi' : i < (M.gt g).length := by simpa using hi
   rw [M.getD_at hi, List.getElem_map]
   exact (rng i hi').2
theorem three_ret {a b c d : Int} {x y : Value} (h1 : a = b) (h2 : c = d) (h3 : x = y) : Ending.returned (.tuple #[.int .i64 a, .int .i64 c, x]) = .returned (.tuple #[.int .i64 b, .int .i64 d, y]) := by rw [h1, h2, h3]
set_option maxHeartbeats 16000000 in
set_option maxRecDepth 10000 in
theorem gbounds_any (G : Gr) (w : World) (h : RdG w G) :
 Calls Tryz.prog 20 #[G.v] w fun e w' => e = .returned (.tuple #[.int .i64 (M.boundsV G.m).1, .int .i64 (M.boundsV G.m).2, errV (M.groveF G.m)]) ∧ Below w.heap.size w w' := by
 have C1 := hide (fun W (hW : Below w.heap.size w W) => gcheck_any G W (h.below hW))
 have B0 : Hid (∀ o, Below w.heap.size w (w.alloc o)) := fun o => (Below.refl _ w).alloc (Nat.le_refl _) o
 by_cases hg : M.groveF G.m = 0
 · have K := (M.good_iff _).1 hg
   have tlen : (M.gt G.m).length = G.ks.length := tl_len G.ks
   have n0 : 0 < G.ks.length := by rw [← tlen]; exact K.t0
   have n12 : G.ks.length ≤ 12 := by rw [← tlen]; exact K.t12
   obtain ⟨V1, V2⟩ := M.ends_vw K
   have w1 := K.w1
   have w3 := K.w3
   have w1' : 1 ≤ G.w := w1
   have w3' : G.w ≤ 3 := w3
   have LL : Hid (((M.gt G.m).map M.lowT).length = G.ks.length) := by unfold Hid; rw [List.length_map]; exact tlen
   have LH : Hid (((M.gt G.m).map M.highT).length = G.ks.length) := by unfold Hid; rw [List.length_map]; exact tlen
   have AL : Hid (∀ k (hk : k < G.ks.length), ((M.gt G.m).map M.lowT).getD k 0 = M.lowT G.ks[k].2.1 ∧ ((M.gt G.m).map M.highT).getD k 0 = M.highT G.ks[k].2.1) := fun k hk => by
    have e : (M.gt G.m)[k]'(by rw [tlen]; exact hk) = G.ks[k].2.1 := by show (tl G.ks)[k]'(by rw [tl_len]; exact hk) = _; simp [tl]
    rw [M.getD_at (by rw [LL.out]; exact hk), M.getD_at (by rw [LH.out]; exact hk), List.getElem_map, List.getElem_map, e]
    exact ⟨rfl, rfl⟩
   have FT : Hid (∀ k (hk : k < G.ks.length), M.Fair G.ks[k].2.1 G.f) := fun k hk => (M.tree_ok (K.trees G.ks[k].2.1 (List.mem_map.2 ⟨_, List.getElem_mem hk, rfl⟩))).1
   have RT : Hid (∀ W, Below w.heap.size w W → ∀ k (hk : k < G.ks.length), RdN W G.ks[k].1 G.ks[k].2.1) := fun W hW k hk => (h.below hW).2.2.1 _ (List.getElem_mem hk)
   obtain ⟨bt, ot, eta, hbt, hct0⟩ := h.2.2.2 (by intro e; rw [e] at n0; simp at n0)
   have HCT : Hid (∀ W, Below w.heap.size w W → ∀ i (hi : i < G.ks.length), W.cell? ⟨bt, ot + i, none⟩ = some (tV G.ks[i])) := fun W hW i hi => (hW.cell (p := ⟨bt, ot + i, none⟩) hbt).trans (hct0 i hi)
   have TG : Hid (∀ W ag cg vs, Vw G.ws vs → Below w.heap.size w W → Rd W ag vs → Calls Tryz.prog 48 #[.int .i64 G.w, .slice G.wa G.ws.length G.wc, .slice ag vs.length cg] W fun e w' => e = .returned (.int .i64 (M.together G.w G.ws vs)) ∧ Below W.heap.size W w') := fun W ag cg vs V hW hv => gtog_in G.w G.wa ag G.ws vs G.wc cg W (h.below hW).1 hv V w1' w3'
   have MI : Hid (∀ W ag cg vs, Vw G.ws vs → Rd W ag vs → Calls Tryz.prog 55 #[.slice ag vs.length cg] W fun e w' => e = .returned (.int .i64 (M.lowL vs)) ∧ w' = W) := fun W ag cg vs V hv => smin_in ag vs cg W hv V.pos V.top
   have MA : Hid (∀ W ag cg vs, Vw G.ws vs → Rd W ag vs → Calls Tryz.prog 56 #[.slice ag vs.length cg] W fun e w' => e = .returned (.int .i64 (M.highL vs)) ∧ w' = W) := fun W ag cg vs V hv => smax_in ag vs cg W hv V.pos V.top
   have BV : Hid (M.boundsV G.m = M.between G.w G.ws ((M.gt G.m).map M.lowT) ((M.gt G.m).map M.highT)) := by unfold Hid M.boundsV; rw [if_pos hg]; rfl
   have HV1 : Hid (Vw G.ws ((M.gt G.m).map M.lowT)) := V1
   have HV2 : Hid (Vw G.ws ((M.gt G.m).map M.highT)) := V2
   have mk := fun W => run_make_row' (P := Tryz.prog) 23 3 (.int .i64 0) 8 Tryz.underlying23 info3 (by simp [Value.cells]) .i64 .i64 G.ks.length (by omega) (by omega) W
   have ES : Hid (errV (M.groveF G.m) = .nilIface) := err_nil hg
   rw [err_nil hg] at C1
   unfold Gr.v at C1 ⊢
   rw [eta] at C1 ⊢
   clear hg K tlen hct0 hbt eta h V1 V2 w1 w3
   generalize errV (M.groveF G.m) = er at *
   generalize (M.gt G.m).map M.lowT = L at *
   generalize (M.gt G.m).map M.highT = H at *
   generalize M.boundsV G.m = bv at *
   go_enter Tryz.func20, Tryz.ntmps20
   go_upto_region 4 with (go_at_call 28; refine (C1.out _ (B0.out _)).mono ?_; rintro e w1 ⟨rfl, hb1⟩; have c3 := (kept_box hb1).2.2.2; have T2 := hide (bd_two LL.out LH.out n12 hb1))
   go_cut [6, 7] from 15 to 22 (fun u v wx => ∃ g1 g2, u = .slice (some ⟨g1, 0, none⟩) G.ks.length G.ks.length ∧ v = .slice (some ⟨g2, 0, none⟩) G.ks.length G.ks.length ∧ Hid (Bd (.int .i64 G.f) (.int .i64 G.w) (.slice G.wa G.ws.length G.wc) (.slice (some ⟨bt, ot, none⟩) G.ks.length G.tc) w G.ks.length L H wx 0 g1 g2))
   case first =>
    go_region_held3 (fun W => W.cell? ⟨w.heap.size, 3, none⟩ = some (.slice (some ⟨bt, ot, none⟩) G.ks.length G.tc)) (go_keep) (fail)
    all_goals go_wp2
    all_goals go_meet
    all_goals (case rel => first | exact ⟨_, _, rfl, rfl, T2.out.1⟩ | exact ⟨_, _, rfl, rfl, T2.out.2⟩)
   case rest =>
    obtain ⟨g1, g2, rfl, rfl, BD⟩ := hcut
    have d3 := BD.out.b3
    clear T2 c3 hb1 C1 mk
    go_wp2
    go_loopw [26] (fun i wr => ∃ k : Nat, k ≤ G.ks.length ∧ i = .int .i64 k ∧ Hid (Bd (.int .i64 G.f) (.int .i64 G.w) (.slice G.wa G.ws.length G.wc) (.slice (some ⟨bt, ot, none⟩) G.ks.length G.tc) w G.ks.length L H wr k g1 g2)) (fun i _ => G.ks.length - (intOf i).toNat)
    case atStart => exact ⟨0, Nat.zero_le _, rfl, BD⟩
    case round =>
     clear BD d3
     obtain ⟨k, hk, rfl, BK⟩ := hrel
     by_cases hlt : k < G.ks.length
     · have ct := HCT.out wr BK.out.below k hlt
       unfold tV at ct
       have kz : (k : Int) < (G.ks.length : Int) := by omega
       have EC := hide (ends_in G.ks[k].1 G.ks[k].2.1 G.ks[k].2.2 G.f wr (RT.out wr BK.out.below k hlt) (FT.out k hlt))
       have PK : Hid (∀ W, Below wr.heap.size wr W → Bd (.int .i64 G.f) (.int .i64 G.w) (.slice G.wa G.ws.length G.wc) (.slice (some ⟨bt, ot, none⟩) G.ks.length G.tc) w G.ks.length L H ((W.setCell ⟨g1, k, none⟩ (.int .i64 (M.lowT G.ks[k].2.1))).setCell ⟨g2, k, none⟩ (.int .i64 (M.highT G.ks[k].2.1))) (k + 1) g1 g2) := fun W hW => by
        have := (BK.out.up hW).put LL.out LH.out hlt
        rw [(AL.out k hlt).1, (AL.out k hlt).2] at this
        exact this
       have CC : Hid (∀ W, Below wr.heap.size wr W → (∃ z, W.cell? ⟨g1, k, none⟩ = some (.int .i64 z)) ∧ (∃ z, W.cell? ⟨g2, k, none⟩ = some (.int .i64 z)) ∧ W.frozen? ⟨g1, k, none⟩ = false ∧ W.frozen? ⟨g2, k, none⟩ = false) := fun W hW => (BK.out.up hW).cells LL.out LH.out hlt
       have nn : ¬ g1 = g2 := BK.out.ne
       clear HCT RT FT AL TG MI MA HV1 HV2
       generalize M.lowT G.ks[k].2.1 = lo at *
       generalize M.highT G.ks[k].2.1 = hi at *
       generalize G.ks[k].2.1.length = tn at *
       generalize G.ks[k].2.2 = tcc at *
       generalize G.ks[k].1 = ta at *
       go_wp2_with (go_at_call 54; refine EC.out.mono ?_; rintro e w4 ⟨rfl, hb4⟩; obtain ⟨⟨za, ca⟩, ⟨zb, cb⟩, fa, fb⟩ := CC.out w4 hb4; have P4 := hide (PK.out w4 hb4))
       go_roundw
       case rel => exact ⟨k + 1, by omega, by go_num, P4⟩
       case measure => simp [intOf]; omega
     · have ek : k = G.ks.length := by omega
       subst ek
       obtain ⟨r1, r2⟩ := BK.out.rd LL.out LH.out
       have b0 := BK.out.b0
       have b1 := BK.out.b1
       have b2 := BK.out.b2
       have b3 := BK.out.b3
       have bb := BK.out.below
       have R1 := hide r1
       have R2 := hide r2
       clear r1 r2 HCT RT FT AL hk hlt
       by_cases hv : G.w = 3
       · have qv : (G.w == 3) = true := by rw [beq_iff_eq]; exact hv
         have E1 : Hid (M.lowL L = bv.1) := by unfold Hid; rw [BV.out]; unfold M.between; rw [if_neg (by simp [hv])]
         have E2 : Hid (M.highL H = bv.2) := by unfold Hid; rw [BV.out]; unfold M.between; rw [if_neg (by simp [hv])]
         have c1 := hide (MI.out wr (some ⟨g1, 0, none⟩) G.ks.length L HV1.out R1.out)
         have c2 := hide (MA.out wr (some ⟨g2, 0, none⟩) G.ks.length H HV2.out R2.out)
         rw [LL.out] at c1
         rw [LH.out] at c2
         clear hv TG MI MA HV1 HV2 R1 R2 BK BV
         generalize M.lowL L = lo at *
         generalize M.highL H = hi at *
         go_wp2_with (first
          | (go_at_call 55; refine c1.out.mono ?_; rintro e w5 ⟨rfl, e5⟩; subst w5)
          | (go_at_call 56; refine c2.out.mono ?_; rintro e w5 ⟨rfl, e5⟩; subst w5))
         go_ret3
         exact ⟨three_ret E1.out E2.out ES.out.symm, bb⟩
       · have qv : (G.w == 3) = false := by rw [beq_eq_false_iff_ne]; exact hv
         have E1 : Hid (M.together G.w G.ws L = bv.1) := by unfold Hid; rw [BV.out]; unfold M.between; rw [if_pos hv]
         have E2 : Hid (M.together G.w G.ws H = bv.2) := by unfold Hid; rw [BV.out]; unfold M.between; rw [if_pos hv]
         have c1 := hide (fun W (hW : Below wr.heap.size wr W) => TG.out W (some ⟨g1, 0, none⟩) G.ks.length L HV1.out (below_on bb hW) (R1.out.below hW))
         have c2 := hide (fun W (hW : Below wr.heap.size wr W) => TG.out W (some ⟨g2, 0, none⟩) G.ks.length H HV2.out (below_on bb hW) (R2.out.below hW))
         rw [LL.out] at c1
         rw [LH.out] at c2
         have CB : Hid (∀ W, Below wr.heap.size wr W → W.cell? ⟨w.heap.size, 0, none⟩ = some (.int .i64 G.f) ∧ W.cell? ⟨w.heap.size, 1, none⟩ = some (.int .i64 G.w) ∧ W.cell? ⟨w.heap.size, 2, none⟩ = some (.slice G.wa G.ws.length G.wc) ∧ W.cell? ⟨w.heap.size, 3, none⟩ = some (.slice (some ⟨bt, ot, none⟩) G.ks.length G.tc)) := fun W hW => ⟨(BK.out.up hW).b0, (BK.out.up hW).b1, (BK.out.up hW).b2, (BK.out.up hW).b3⟩
         have bd : Below wr.heap.size wr wr.drew := (Below.refl _ wr).drew
         clear hv TG MI MA HV1 HV2 R1 R2 BK BV
         generalize M.together G.w G.ws L = lo at *
         generalize M.together G.w G.ws H = hi at *
         go_upto_region 12 with fail
         go_region_held3 (fun W => W.cell? ⟨w.heap.size, 0, none⟩ = some (.int .i64 G.f) ∧ W.cell? ⟨w.heap.size, 1, none⟩ = some (.int .i64 G.w) ∧ W.cell? ⟨w.heap.size, 2, none⟩ = some (.slice G.wa G.ws.length G.wc) ∧ W.cell? ⟨w.heap.size, 3, none⟩ = some (.slice (some ⟨bt, ot, none⟩) G.ks.length G.tc)) (go_keep) (first
          | (go_at_call_of 48 (Value.slice (some ⟨g1, 0, none⟩) G.ks.length G.ks.length); refine (c1.out _ ?_).mono ?_; (first | exact bd | exact bx); rintro e w5 ⟨rfl, hb5⟩; (first | (have by' := below_on bx hb5; have bz := hide by') | (have bx := below_on bd hb5)); obtain ⟨k0, k1, k2, k3⟩ := CB.out w5 (by first | exact by' | exact bx))
          | (go_at_call_of 48 (Value.slice (some ⟨g2, 0, none⟩) G.ks.length G.ks.length); refine (c2.out _ ?_).mono ?_; (first | exact bd | exact bx); rintro e w5 ⟨rfl, hb5⟩; (first | (have by' := below_on bx hb5; have bz := hide by') | (have bx := below_on bd hb5)); obtain ⟨k0, k1, k2, k3⟩ := CB.out w5 (by first | exact by' | exact bx)))
         all_goals go_wp2
         all_goals go_ret3
         all_goals exact ⟨three_ret E1.out E2.out ES.out.symm, below_on bb bz.out⟩
 · have EB : Hid (M.boundsV G.m = (0, 0)) := by unfold Hid M.boundsV; rw [if_neg hg]
   have ES := hide (err_some hg)
   rw [err_some hg] at C1
   unfold Gr.v at C1 ⊢
   clear hg h
   generalize errV (M.groveF G.m) = er at *
   generalize M.boundsV G.m = bv at *
   generalize M.groveF G.m = gF at *
   go_enter Tryz.func20, Tryz.ntmps20
   go_wp2_with (go_at_call 28; refine (C1.out _ (B0.out _)).mono ?_; rintro e w1 ⟨rfl, hb1⟩; have hb1' := below_on (B0.out _) hb1)
   go_ret3
   exact ⟨three_ret (by rw [EB.out]) (by rw [EB.out]) ES.out.symm, hb1'⟩
end Go.Proofs.YtelncekgjfpogahGreatDoor
