/-
  Several texts as one: RefCell, RefAny, RefMeet, RefUp, RefReg, RefSp.
-/
import Derived.Test.YtcaljnhdfbjpnadGreatDoorBase
import Derived.Test.YtcaljnhdfbjpnadGreatDoorLMathA
import Derived.BigQuiet
import Derived.Deep.QuietTactic
import Derived.Test.YtcaljnhdfbjpnadGreatDoorSpans
import Derived.Test.YtcaljnhdfbjpnadGreatDoorLMathB
import Derived.Deep.AppendLies
import Derived.Deep.Cut
import Derived.Deep.CutRange
import Derived.Test.YtcaljnhdfbjpnadGreatDoorNodes
namespace Go.Proofs.YtcaljnhdfbjpnadGreatDoor
open Go.ChangeShapes Go.WideShapes Go.ChangeAt Go.RowKit
set_option linter.unusedVariables false

theorem rcell_any (x : Int) (w : World) : Calls Tryz.prog 18 #[.int .i64 x] w fun e w' => e = .returned (.bool (!M.outI x)) ∧ w' = w := by
  by_cases h1 : -1000000 ≤ x
  · have E : Hid (decide (x ≤ 1000000) = !M.outI x) := by
      unfold Hid M.outI
      rw [decide_eq_false (show ¬ x < -1000000 by omega), Bool.false_or]
      by_cases h : x ≤ 1000000
      · rw [decide_eq_true h, decide_eq_false (by omega)]; rfl
      · rw [decide_eq_false h, decide_eq_true (by omega)]; rfl
    have h1' : decide (-1000000 ≤ x) = true := decide_eq_true h1
    clear h1
    go_enter Tryz.func18, Tryz.ntmps18
    go_wp2
    go_ret
    exact ⟨ret_bool E.out, rfl⟩
  · have E : Hid (false = !M.outI x) := by
      unfold Hid M.outI
      rw [decide_eq_true (show x < -1000000 by omega)]; rfl
    have h1' : decide (-1000000 ≤ x) = false := decide_eq_false h1
    clear h1
    go_enter Tryz.func18, Tryz.ntmps18
    go_wp2
    go_ret
    exact ⟨ret_bool E.out, rfl⟩

end Go.Proofs.YtcaljnhdfbjpnadGreatDoor

namespace Go.Proofs.YtcaljnhdfbjpnadGreatDoor
open Go.ChangeShapes Go.WideShapes Go.ChangeAt Go.RowKit
set_option linter.unusedVariables false

theorem RdS.at {w : World} {b off : Nat} {ss : List M.Sp} (hc : ∀ i, i < ss.length → w.cell? ⟨b, off + i * 3, none⟩ = some (.int .i64 (ss.getD i (0, 0, false)).1) ∧ w.cell? ⟨b, off + i * 3 + 1, none⟩ = some (.int .i64 (ss.getD i (0, 0, false)).2.1) ∧ w.cell? ⟨b, off + i * 3 + 2, none⟩ = some (.bool (ss.getD i (0, 0, false)).2.2)) (k : Nat) (hk : k < ss.length) :
    w.cell? ⟨b, off + k * 3, none⟩ = some (.int .i64 ss[k].1) ∧ w.cell? ⟨b, off + k * 3 + 1, none⟩ = some (.int .i64 ss[k].2.1) ∧ w.cell? ⟨b, off + k * 3 + 2, none⟩ = some (.bool ss[k].2.2) := by
  have := hc k hk
  rw [M.getD_at hk] at this
  exact this
theorem M.any_no {ss : List M.Sp} {k : Nat} (hk : k < ss.length) (h : M.hasS ss[k] = false) : M.anyS ss = false := by
  unfold M.anyS
  rw [List.all_eq_false]
  exact ⟨_, List.getElem_mem hk, by simp [h]⟩
theorem M.any_yes {ss : List M.Sp} {k : Nat} (hk : ss.length ≤ k) (h : (ss.take k).all M.hasS = true) : M.anyS ss = true := by
  rw [List.take_of_length_le hk] at h; exact h
theorem M.all_next {ss : List M.Sp} {k : Nat} (hk : k < ss.length) (h : (ss.take k).all M.hasS = true) (hb : M.hasS ss[k] = true) : (ss.take (k + 1)).all M.hasS = true := by
  rw [List.take_succ_eq_append_getElem hk, List.all_append, h]; simp [hb]

set_option maxHeartbeats 2000000 in
theorem any_any (a : Option Addr) (ss : List M.Sp) (cap : Nat) (w : World) (h : RdS w a ss) :
    Calls Tryz.prog 22 #[.slice a ss.length cap] w fun e w' => e = .returned (.bool (M.anyS ss)) ∧ Below w.heap.size w w' := by
  have hm : ss.length ≤ 9223372036854775807 := h.1
  have HR := hide h.2
  have AN : Hid (∀ k (hk : k < ss.length), M.hasS ss[k] = false → M.anyS ss = false) := fun k => M.any_no
  have AY : Hid (∀ k, ss.length ≤ k → (ss.take k).all M.hasS = true → M.anyS ss = true) := fun k => M.any_yes
  clear h
  generalize M.anyS ss = o at *
  go_enter Tryz.func22, Tryz.ntmps22
  go_wp2
  go_loopw [3] (fun i wr => ∃ k : Nat, k ≤ ss.length ∧ i = .int .i64 k ∧ Hid ((ss.take k).all M.hasS = true) ∧ Below w.heap.size w wr) (fun i _ => ss.length - (intOf i).toNat)
  case atStart => exact ⟨0, Nat.zero_le _, rfl, by unfold Hid; simp, Below.refl _ _⟩
  case round =>
    obtain ⟨k, hk, rfl, I, hbl⟩ := hrel
    by_cases hlt : k < ss.length
    · obtain ⟨b, off, rfl, hb, hc0⟩ := HR.out (by intro e; subst e; simp at hlt)
      obtain ⟨c0, c1, c2⟩ := RdS.at hc0 k hlt
      have s0 := (hbl.cell (p := ⟨b, off + k * 3, none⟩) hb).trans c0
      have s1 := (hbl.cell (p := ⟨b, off + k * 3 + 1, none⟩) hb).trans c1
      have s2 := (hbl.cell (p := ⟨b, off + k * 3 + 2, none⟩) hb).trans c2
      have NX : Hid (M.hasS ss[k] = true → (ss.take (k + 1)).all M.hasS = true) := fun q => M.all_next hlt I.out q
      have HN : Hid (M.hasS ss[k] = false → o = false) := AN.out k hlt
      have HE : Hid (M.hasS ss[k] = (decide (ss[k].1 ≤ ss[k].2.1) || ss[k].2.2)) := rfl
      clear hc0 c0 c1 c2 AN AY I
      generalize M.hasS ss[k] = hs at *
      generalize ss[k].1 = lo at *
      generalize ss[k].2.1 = hi at *
      generalize ss[k].2.2 = nl at *
      by_cases hg : hi < lo
      · have q : decide (hi < lo) = true := decide_eq_true hg
        cases nl with
        | true =>
          have E := hide (NX.out (by rw [HE.out]; simp))
          clear hg NX HN HE
          go_wp2
          go_quiet (fail)
          go_wp2
          go_roundw
          case rel => exact ⟨k + 1, by omega, by go_num, E, below_drew hbl _ hbl.size⟩
          case measure => simp [intOf]; omega
        | false =>
          have E := hide (HN.out (by rw [HE.out, decide_eq_false (by omega)]; rfl))
          clear hg NX HN HE
          go_wp2
          go_quiet (fail)
          go_wp2
          go_ret
          exact ⟨ret_bool E.out.symm, below_drew hbl _ hbl.size⟩
      · have q : decide (hi < lo) = false := decide_eq_false hg
        have E := hide (NX.out (by rw [HE.out, decide_eq_true (by omega)]; rfl))
        clear hg NX HN HE
        go_wp2
        go_quiet (fail)
        go_wp2
        go_roundw
        case rel => exact ⟨k + 1, by omega, by go_num, E, below_drew hbl _ hbl.size⟩
        case measure => simp [intOf]; omega
    · have E := hide (AY.out k (by omega) I.out)
      go_wp2
      go_ret
      exact ⟨ret_bool E.out.symm, hbl⟩

end Go.Proofs.YtcaljnhdfbjpnadGreatDoor

namespace Go.Proofs.YtcaljnhdfbjpnadGreatDoor
open Go.ChangeShapes Go.WideShapes Go.ChangeAt Go.RowKit
set_option linter.unusedVariables false

/-- a span in a block of its own -/
structure Bx (wr W : World) (x y : Int) (z : Bool) : Prop where
  c0 : W.cell? ⟨wr.heap.size, 0, none⟩ = some (.int .i64 x)
  c1 : W.cell? ⟨wr.heap.size, 1, none⟩ = some (.int .i64 y)
  c2 : W.cell? ⟨wr.heap.size, 2, none⟩ = some (.bool z)
  fr : ∀ j, W.frozen? ⟨wr.heap.size, j, none⟩ = false
  lt : wr.heap.size < W.heap.size
  b : Below wr.heap.size wr W
theorem bx_new (wr : World) (x y : Int) (z : Bool) (t : TypeId) : Bx wr (wr.alloc (.cells #[.int .i64 x, .int .i64 y, .bool z] t)) x y z :=
  ⟨World.cell?_alloc_at _ _ _ 0 rfl, World.cell?_alloc_at _ _ _ 1 rfl, World.cell?_alloc_at _ _ _ 2 rfl, fun j => by
    unfold World.frozen?
    rw [heap_alloc_new wr _]
    simp, by simp, (Below.refl _ wr).alloc (Nat.le_refl _) _⟩
theorem Bx.drew {wr W : World} {x y : Int} {z : Bool} (h : Bx wr W x y z) (q : Nat) : Bx wr (W.drewN q) x y z := ⟨h.c0, h.c1, h.c2, h.fr, h.lt, below_drew h.b q (Nat.le_of_lt h.lt)⟩
theorem bx_other (W : World) (p i j : Nat) (v : Value) (h : i ≠ j) : (W.setCell ⟨p, i, none⟩ v).cell? ⟨p, j, none⟩ = W.cell? ⟨p, j, none⟩ := World.cell?_setCell_other _ _ _ _ (by intro e; cases e; exact h rfl)
theorem Bx.set0 {wr W : World} {x y : Int} {z : Bool} (h : Bx wr W x y z) (x' : Int) : Bx wr (W.setCell ⟨wr.heap.size, 0, none⟩ (.int .i64 x')) x' y z :=
  ⟨World.cell?_setCell_same _ _ _ h.c0, (bx_other _ _ _ _ _ (by decide)).trans h.c1, (bx_other _ _ _ _ _ (by decide)).trans h.c2, fun j => by simpa using h.fr j, by simpa using h.lt, h.b.setCell (p := ⟨wr.heap.size, 0, none⟩) (Nat.le_refl _) _⟩
theorem Bx.set1 {wr W : World} {x y : Int} {z : Bool} (h : Bx wr W x y z) (y' : Int) : Bx wr (W.setCell ⟨wr.heap.size, 1, none⟩ (.int .i64 y')) x y' z :=
  ⟨(bx_other _ _ _ _ _ (by decide)).trans h.c0, World.cell?_setCell_same _ _ _ h.c1, (bx_other _ _ _ _ _ (by decide)).trans h.c2, fun j => by simpa using h.fr j, by simpa using h.lt, h.b.setCell (p := ⟨wr.heap.size, 1, none⟩) (Nat.le_refl _) _⟩
theorem Bx.set2 {wr W : World} {x y : Int} {z : Bool} (h : Bx wr W x y z) (z' : Bool) : Bx wr (W.setCell ⟨wr.heap.size, 2, none⟩ (.bool z')) x y z' :=
  ⟨(bx_other _ _ _ _ _ (by decide)).trans h.c0, (bx_other _ _ _ _ _ (by decide)).trans h.c1, World.cell?_setCell_same _ _ _ h.c2, fun j => by simpa using h.fr j, by simpa using h.lt, h.b.setCell (p := ⟨wr.heap.size, 2, none⟩) (Nat.le_refl _) _⟩

set_option maxHeartbeats 8000000 in
set_option maxRecDepth 10000 in
theorem rmeet_any (a b : Option Addr) (ss us : List M.Sp) (ca cb : Nat) (w : World) (ha : RdS w a ss) (hb : RdS w b us) (hl : ss.length = us.length) (h8 : ss.length ≤ 8) :
    Calls Tryz.prog 21 #[.slice a ss.length ca, .slice b us.length cb] w fun e w' => ∃ ag cg, e = .returned (.slice ag (M.meet ss us).length cg) ∧ RdS w' ag (M.meet ss us) ∧ Below w.heap.size w w' := by
  have HA := hide ha.2
  have HB := hide hb.2
  have HL := hide hl
  have MT : Hid (∀ k, k < ss.length → M.meet (ss.take (k + 1)) (us.take (k + 1)) = M.meet (ss.take k) (us.take k) ++ [M.meetS (ss.getD k (0, 0, false)) (us.getD k (0, 0, false))]) := fun k hk => M.meet_take hl hk
  have MA : Hid (M.meet (ss.take ss.length) (us.take ss.length) = M.meet ss us ∧ (M.meet ss us).length = ss.length) := ⟨by rw [List.take_length, hl, List.take_length], M.meet_len hl⟩
  obtain ⟨i0, hi, hz0, hz1, hz2⟩ := info_parts info33
  have I0 := hide hi
  rw [← hl]
  clear ha hb hi hl
  go_enter Tryz.func21, Tryz.ntmps21
  go_wp2
  go_loopw [5, 6, 7] (fun v i _ wr => ∃ k : Nat, k ≤ ss.length ∧ i = .int .i64 k ∧ Hid (wr.ownsRow w.heap.size 52 3 v k (spCells (M.meet (ss.take k) (us.take k)))) ∧ Hid (Below w.heap.size w wr)) (fun _ i _ _ => ss.length - (intOf i).toNat)
  case atStart => exact ⟨0, Nat.zero_le _, rfl, World.ownsRow_nil _ _ _ _, Below.refl _ _⟩
  case round =>
    obtain ⟨k, hk, rfl, HO, K⟩ := hrel
    by_cases hlt : k < ss.length
    · have kz : (k : Int) < (ss.length : Int) := by omega
      obtain ⟨b1, o1, rfl, hb1, hc1⟩ := HA.out (by intro e; subst e; simp at hlt)
      obtain ⟨b2, o2, rfl, hb2, hc2⟩ := HB.out (by intro e; have q := HL.out; rw [e, List.length_nil] at q; omega)
      have hlt2 : k < us.length := by have := HL.out; omega
      obtain ⟨d0, d1, d2⟩ := RdS.at hc1 k hlt
      have s0 := (K.out.cell (p := ⟨b1, o1 + k * 3, none⟩) hb1).trans d0
      have s1 := (K.out.cell (p := ⟨b1, o1 + k * 3 + 1, none⟩) hb1).trans d1
      have s2 := (K.out.cell (p := ⟨b1, o1 + k * 3 + 2, none⟩) hb1).trans d2
      have U : Hid (∀ W, Below wr.heap.size wr W → W.cell? ⟨b2, o2 + k * 3, none⟩ = some (.int .i64 us[k].1) ∧ W.cell? ⟨b2, o2 + k * 3 + 1, none⟩ = some (.int .i64 us[k].2.1) ∧ W.cell? ⟨b2, o2 + k * 3 + 2, none⟩ = some (.bool us[k].2.2)) := fun W hW => by
        obtain ⟨f0, f1, f2⟩ := RdS.at hc2 k hlt2
        have q := below_on K.out hW
        exact ⟨(q.cell (p := ⟨b2, o2 + k * 3, none⟩) hb2).trans f0, (q.cell (p := ⟨b2, o2 + k * 3 + 1, none⟩) hb2).trans f1, (q.cell (p := ⟨b2, o2 + k * 3 + 2, none⟩) hb2).trans f2⟩
      have mt := MT.out k hlt
      rw [M.getD_at hlt, M.getD_at hlt2] at mt
      have MK : Hid (spCells (M.meet (ss.take (k + 1)) (us.take (k + 1))) = spCells (M.meet (ss.take k) (us.take k)) ++ [.int .i64 (if ss[k].1 < us[k].1 then us[k].1 else ss[k].1), .int .i64 (if us[k].2.1 < ss[k].2.1 then us[k].2.1 else ss[k].2.1), .bool (ss[k].2.2 && us[k].2.2)]) := by
        unfold Hid; rw [mt, spCells_snoc]; rfl
      clear hc1 hc2 d0 d1 d2 mt MT MA HL
      generalize ss[k].1 = lo at *
      generalize ss[k].2.1 = hi at *
      generalize ss[k].2.2 = nl at *
      generalize us[k].1 = lo2 at *
      generalize us[k].2.1 = hi2 at *
      generalize us[k].2.2 = nl2 at *
      go_upto_region 6 with fail
      obtain ⟨w1, hw1⟩ : ∃ W, W = wr.alloc (.cells #[.int .i64 lo, .int .i64 hi, .bool nl] 52) := ⟨_, rfl⟩
      have B1 : Hid (Bx wr w1 lo hi nl) := by rw [hw1]; exact bx_new wr lo hi nl _
      rw [← hw1]
      clear hw1 s0 s1 s2
      have x0 := B1.out.c0
      obtain ⟨u0, u1, u2⟩ := U.out _ B1.out.b
      obtain ⟨x, hx⟩ : ∃ x, x = if lo < lo2 then lo2 else lo := ⟨_, rfl⟩
      obtain ⟨y, hy⟩ : ∃ y, y = if hi2 < hi then hi2 else hi := ⟨_, rfl⟩
      obtain ⟨z, hz⟩ : ∃ z, z = (nl && nl2) := ⟨_, rfl⟩
      rw [← hx, ← hy, ← hz] at MK
      have HX := hide hx
      have HY := hide hy
      have HZ := hide hz
      clear hx hy hz
      go_quiet (fail)
      go_upto_if 25 with fail
      go_cut [7] from 25 to 31 (fun p wx => p = .pointer (some ⟨wr.heap.size, 0, none⟩) ∧ Hid (Bx wr wx x hi nl))
      case first =>
        have f0 := B1.out.fr 0
        by_cases c : lo < lo2
        · have ex := hide (HX.out.trans (if_pos c))
          have d : decide (lo < lo2) = true := decide_eq_true c
          rw [d]
          clear c
          go_wp2
          go_meet
          case rel => exact ⟨rfl, by rw [ex.out]; exact (B1.out.drew _).set0 lo2⟩
        · have ex := hide (HX.out.trans (if_neg c))
          have d : decide (lo < lo2) = false := decide_eq_false c
          rw [d]
          clear c
          go_wp2
          go_meet
          case rel => exact ⟨rfl, by rw [ex.out]; exact B1.out.drew _⟩
      case rest =>
        obtain ⟨rfl, B2⟩ := hcut
        clear x0 u0 u1 u2 B1 HX
        have x1 := B2.out.c1
        obtain ⟨u0, u1, u2⟩ := U.out _ B2.out.b
        obtain ⟨w2, hw2⟩ : ∃ W, W = wc := ⟨_, rfl⟩
        subst hw2
        go_upto_region 8 with fail
        go_quiet (fail)
        go_upto_if 39 with fail
        go_cut [7] from 39 to 45 (fun p wx => p = .pointer (some ⟨wr.heap.size, 0, none⟩) ∧ Hid (Bx wr wx x y nl))
        case first =>
          have f1 := B2.out.fr 1
          by_cases c : hi2 < hi
          · have ex := hide (HY.out.trans (if_pos c))
            have d : decide (hi2 < hi) = true := decide_eq_true c
            rw [d]
            clear c
            go_wp2
            go_meet
            case rel => exact ⟨rfl, by rw [ex.out]; exact (B2.out.drew _).set1 hi2⟩
          · have ex := hide (HY.out.trans (if_neg c))
            have d : decide (hi2 < hi) = false := decide_eq_false c
            rw [d]
            clear c
            go_wp2
            go_meet
            case rel => exact ⟨rfl, by rw [ex.out]; exact B2.out.drew _⟩
        case rest =>
          obtain ⟨rfl, B3⟩ := hcut
          clear x1 u0 u1 u2 B2 HY
          have x2 := B3.out.c2
          obtain ⟨u0, u1, u2⟩ := U.out _ B3.out.b
          obtain ⟨w3, hw3⟩ : ∃ W, W = wc := ⟨_, rfl⟩
          subst hw3
          go_upto_region 10 with fail
          go_cut [7] from 46 to 55 (fun p wx => p = .pointer (some ⟨wr.heap.size, 0, none⟩) ∧ Hid (Bx wr wx x y z))
          case first =>
            have f2 := B3.out.fr 2
            cases nl with
            | true =>
              have ez := hide HZ.out
              go_wp2
              go_meet
              case rel => exact ⟨rfl, by rw [ez.out]; exact B3.out.set2 _⟩
            | false =>
              have ez := hide HZ.out
              go_wp2
              go_meet
              case rel => exact ⟨rfl, by rw [ez.out]; exact B3.out.set2 _⟩
          case rest =>
            obtain ⟨rfl, B4⟩ := hcut
            clear x2 u0 u1 u2 B3 HZ U
            have y0 := B4.out.c0
            have y1 := B4.out.c1
            have y2 := B4.out.c2
            obtain ⟨w4, hw4⟩ : ∃ W, W = wc := ⟨_, rfl⟩
            subst hw4
            have O4 := hide (own_up HO.out B4.out.b)
            have ws := B4.out.lt
            have wk := K.out.size
            go_wp2_with (at_builtin; refine wpList_append_lies _ rfl (.tmp 56) (.tmp 58) 23 rfl w.heap.size 52 i0 (.agg #[.int .i64 0, .int .i64 0, .bool false]) 3 24 Tryz.underlying23 I0.out hz0 hz1 hz2 rfl (by omega) _ k (spCells (M.meet (ss.take k) (us.take k))) rfl (O4.out.alloc _) ⟨w4.heap.size, 0, none⟩ 1 1 [.int .i64 x, .int .i64 y, .bool z] rfl rfl (World.news_of_block (heap_alloc_new _ _)) (by simp [Value.oneCell']) (by omega) (by unfold maxLen; omega) (by omega) (by simp; omega) (w4.heap.size + 1) (by simp) ?_)
            intro g5 c5 w5 hov5 hgrow hat hlt5
            have HO5 : Hid (w5.ownsRow w.heap.size 52 3 (.slice (some ⟨g5, 0, none⟩) (k + 1) c5) (k + 1) (spCells (M.meet (ss.take (k + 1)) (us.take (k + 1))))) := by
              unfold Hid; rw [MK.out]; exact hov5
            have K5 : Hid (Below w.heap.size w w5) := ((below_on K.out B4.out.b).alloc (by omega) _).grown hgrow (by simp; omega) (fun q hq => (O4.out.lt q hq).1)
            clear hov5 hgrow hat
            go_wp2
            go_roundw
            case rel => exact ⟨k + 1, by omega, by go_num, HO5, K5⟩
            case measure => simp [intOf] <;> omega
    · have hke : k = ss.length := by omega
      have kz : ¬ ((k : Int) < (ss.length : Int)) := by omega
      have HO2 := HO.out
      rw [hke, MA.out.1] at HO2
      obtain ⟨ag, cg, e, hr⟩ := own_rdS (MA.out.2) (by unfold maxLen; omega) HO2
      have HR := hide hr
      subst e
      clear HO2 HO hr hke MT
      go_wp2
      go_ret
      first | exact ⟨ag, ⟨cg, by rw [MA.out.2]; rfl⟩, HR.out, K.out⟩ | exact ⟨ag, cg, by rw [MA.out.2]; rfl, HR.out, K.out⟩

end Go.Proofs.YtcaljnhdfbjpnadGreatDoor

namespace Go.Proofs.YtcaljnhdfbjpnadGreatDoor
open Go.ChangeShapes Go.WideShapes Go.ChangeAt Go.RowKit
set_option linter.unusedVariables false

/-- the node above a place, as a number -/
def M.upI (t : List M.Nd) (k : Nat) : Int := match M.abv t k with
  | none => -1
  | some u => (u : Int)
def M.upP (t : List M.Nd) (k : Nat) (i : Nat) : Bool := decide (M.nf (M.nAt t i) ≠ -1) && (decide (M.nl (M.nAt t i) = (k : Int)) || decide (M.nr (M.nAt t i) = (k : Int)))
theorem M.up_hit {t : List M.Nd} {k i : Nat} (hi : i < t.length) (hp : M.upP t k i = true) (hj : ∀ j, j < i → M.upP t k j = false) : M.upI t k = (i : Int) := by
  unfold M.upI
  have : M.abv t k = some i := M.first_hit (p := M.upP t k) hp hj hi
  rw [this]
theorem M.up_miss {t : List M.Nd} {k : Nat} (hj : ∀ j, j < t.length → M.upP t k j = false) : M.upI t k = -1 := by
  unfold M.upI
  have : M.abv t k = none := M.first_miss (p := M.upP t k) hj
  rw [this]

set_option maxHeartbeats 2000000 in
theorem up_any (a0 : Option Addr) (ts : List M.Nd) (cap k : Nat) (w : World) (h : RdN w a0 ts) :
    Calls Tryz.prog 40 #[.slice a0 ts.length cap, .int .i64 (k : Nat)] w fun e w' => e = .returned (.int .i64 (M.upI ts k)) ∧ w' = w := by
  have hm : ts.length ≤ 9223372036854775807 := h.1
  have HR := hide h.2
  have UH : Hid (∀ i, i < ts.length → M.upP ts k i = true → (∀ j, j < i → M.upP ts k j = false) → M.upI ts k = (i : Int)) := fun i => M.up_hit
  have UM : Hid ((∀ j, j < ts.length → M.upP ts k j = false) → M.upI ts k = -1) := M.up_miss
  clear h
  generalize M.upI ts k = o at *
  go_enter Tryz.func40, Tryz.ntmps40
  go_wp2
  go_loop [5] (fun i => ∃ j : Nat, j ≤ ts.length ∧ i = .int .i64 j ∧ Hid (∀ p, p < j → M.upP ts k p = false)) (fun i => ts.length - (intOf i).toNat)
  case atStart => exact ⟨0, Nat.zero_le _, rfl, fun p hp => by omega⟩
  case round =>
    obtain ⟨j, hj, rfl, I⟩ := hrel
    by_cases hlt : j < ts.length
    · obtain ⟨b, off, rfl, hb, hc⟩ := HR.out (by intro e; subst e; simp at hlt)
      obtain ⟨s0, s1, s2, s3, s4, s5⟩ := hc j hlt
      have N : Hid (M.upP ts k j = false → ∀ p, p < j + 1 → M.upP ts k p = false) := fun hf p hp => by
        by_cases e : p = j
        · subst e; exact hf
        · exact I.out p (by omega)
      have HT : Hid (M.upP ts k j = true → o = (j : Int)) := fun ht => UH.out j hlt ht I.out
      have PE : Hid (M.upP ts k j = (decide (M.nf (M.nAt ts j) ≠ -1) && (decide (M.nl (M.nAt ts j) = (k : Int)) || decide (M.nr (M.nAt ts j) = (k : Int))))) := rfl
      clear hc UH UM
      generalize M.upP ts k j = pp at *
      generalize M.nf (M.nAt ts j) = f at *
      generalize M.nl (M.nAt ts j) = l at *
      generalize M.nr (M.nAt ts j) = r at *
      by_cases hf : f = -1
      · have q : (f != -1) = false := by rw [bne_eq_false_iff_eq]; exact hf
        have E := hide (N.out (by rw [PE.out]; simp [hf]))
        clear hf N HT PE
        go_wp2
        go_round
        case rel => exact ⟨j + 1, by omega, by go_num, E⟩
        case measure => simp [intOf]; omega
      · have q : (f != -1) = true := by rw [bne_iff_ne]; exact hf
        by_cases h1 : l = (k : Int)
        · have q1 : (l == (k : Int)) = true := by rw [beq_iff_eq]; exact h1
          have E := hide (HT.out (by rw [PE.out]; simp [hf, h1]))
          clear hf h1 N HT PE
          go_wp2
          go_ret
          exact ⟨ret_int E.out.symm, rfl⟩
        · have q1 : (l == (k : Int)) = false := by rw [beq_eq_false_iff_ne]; exact h1
          by_cases h2 : r = (k : Int)
          · have q2 : (r == (k : Int)) = true := by rw [beq_iff_eq]; exact h2
            have E := hide (HT.out (by rw [PE.out]; simp [hf, h2]))
            clear hf h1 h2 N HT PE
            go_wp2
            go_ret
            exact ⟨ret_int E.out.symm, rfl⟩
          · have q2 : (r == (k : Int)) = false := by rw [beq_eq_false_iff_ne]; exact h2
            have E := hide (N.out (by rw [PE.out]; simp [h1, h2]))
            clear hf h1 h2 N HT PE
            go_wp2
            go_round
            case rel => exact ⟨j + 1, by omega, by go_num, E⟩
            case measure => simp [intOf]; omega
    · have E := hide (UM.out fun p hp => I.out p (by omega))
      go_wp2
      go_ret
      exact ⟨ret_int E.out.symm, rfl⟩

end Go.Proofs.YtcaljnhdfbjpnadGreatDoor

namespace Go.Proofs.YtcaljnhdfbjpnadGreatDoor
open Go.ChangeShapes Go.WideShapes Go.ChangeAt Go.RowKit
set_option linter.unusedVariables false

theorem M.reg_enough {t : List M.Nd} {m : Int} (F : M.Fair t m) : ∀ (f g k : Nat) (l : List M.Sp), k < t.length → k < f → k < g → M.regD t f k l = M.regD t g k l
  | 0, g, k, l, hk, hf, hg => by omega
  | f + 1, 0, k, l, hk, hf, hg => by omega
  | f + 1, g + 1, k, l, hk, hf, hg => by
    unfold M.regD
    cases e : M.abv t k with
    | none => rfl
    | some u =>
      have h1 := ((M.abv_iff F hk).1 e).1
      have h2 := M.abv_lt F hk e
      exact M.reg_enough F f g u _ h1 (by omega) (by omega)
theorem M.reg_none {t : List M.Nd} {k : Nat} {l : List M.Sp} (e : M.abv t k = none) : M.regD t t.length k l = l := by
  cases h : t.length with
  | zero => rfl
  | succ n => unfold M.regD; rw [e]
theorem M.reg_step {t : List M.Nd} {m : Int} (F : M.Fair t m) {k u : Nat} {l : List M.Sp} (hk : k < t.length) (e : M.abv t k = some u) :
    M.regD t t.length k l = M.regD t t.length u (l.set (M.nf (M.nAt t u)).toNat (M.narrow (M.nAt t u) (decide (M.nl (M.nAt t u) = (k : Int))) (l.getD (M.nf (M.nAt t u)).toNat (0, 0, false)))) := by
  have h1 := ((M.abv_iff F hk).1 e).1
  have h2 := M.abv_lt F hk e
  obtain ⟨f, q⟩ : ∃ f, t.length = f + 1 := ⟨t.length - 1, by omega⟩
  rw [show M.regD t t.length k l = M.regD t f u (l.set (M.nf (M.nAt t u)).toNat (M.narrow (M.nAt t u) (decide (M.nl (M.nAt t u) = (k : Int))) (l.getD (M.nf (M.nAt t u)).toNat (0, 0, false)))) by rw [q]; conv => lhs; unfold M.regD; rw [e]]
  exact M.reg_enough F f t.length u _ h1 (by omega) (by omega)
theorem M.up_none {t : List M.Nd} {k : Nat} (e : M.abv t k = none) : M.upI t k = -1 := by unfold M.upI; rw [e]
theorem M.up_some' {t : List M.Nd} {k u : Nat} (e : M.abv t k = some u) : M.upI t k = (u : Int) := by unfold M.upI; rw [e]
theorem own_shape3 {w : World} {base n e size : Nat} {v : Value} {l : List Value} (h : w.ownsRow base e size v n l) (hn : 0 < n) : ∃ g cap, v = .slice (some ⟨g, 0, none⟩) n cap ∧ base ≤ g ∧ g < w.heap.size := by
  rcases h.2 with ⟨_, h0⟩ | ⟨g, cap, cur, hv, hb, hg, _⟩
  · omega
  · exact ⟨g, cap, hv, hb, (Array.getElem?_eq_some_iff.1 hg).1⟩
/-- the cells of a span in such a row, behind new blocks -/
theorem own_spanAt {w : World} {base n g cap : Nat} {ss : List M.Sp} (h : w.ownsRow base 52 3 (.slice (some ⟨g, 0, none⟩) n cap) n (spCells ss)) (hn : ss.length = n) {i : Nat} (hi : i < ss.length) :
    w.cell? ⟨g, i * 3, none⟩ = some (.int .i64 ss[i].1) ∧ w.cell? ⟨g, i * 3 + 1, none⟩ = some (.int .i64 ss[i].2.1) ∧ w.cell? ⟨g, i * 3 + 2, none⟩ = some (.bool ss[i].2.2) := by
  obtain ⟨q0, q1, q2⟩ := spCells_at ss i hi
  rw [M.getD_at hi] at q0 q1 q2
  exact ⟨(h.cellAt (i * 3) (by omega)).trans q0, (h.cellAt (i * 3 + 1) (by omega)).trans q1, (h.cellAt (i * 3 + 2) (by omega)).trans q2⟩

set_option maxHeartbeats 16000000 in
set_option maxRecDepth 10000 in
theorem rregion_any (a0 : Option Addr) (ts : List M.Nd) (cap m k : Nat) (w : World) (h : RdN w a0 ts) (F : M.Fair ts (m : Int)) (hk : k < ts.length) :
    Calls Tryz.prog 20 #[.slice a0 ts.length cap, .int .i64 (m : Nat), .int .i64 (k : Nat)] w fun e w' => ∃ v, e = .returned v ∧ w'.ownsRow w.heap.size 52 3 v m (spCells (M.region ts m k)) ∧ Below w.heap.size w w' := by
  have hm : ts.length ≤ 9223372036854775807 := h.1
  have m8 : m ≤ 8 := by have := F.2.2.2.1; omega
  have l63 := F.1
  have HT := hide h
  have HF := hide F
  have R0 : Hid (M.regD ts ts.length k (List.replicate m M.all0) = M.region ts m k) := rfl
  have CU := hide (fun q W (hW : Below w.heap.size w W) => up_any a0 ts cap q W (h.below hW))
  obtain ⟨i0, hi, hz0, hz1, hz2⟩ := info_parts info33
  have I0 := hide hi
  clear h F hi
  generalize M.region ts m k = V at *
  go_enter Tryz.func20, Tryz.ntmps20
  go_wp2
  go_loopw [7, 8] (fun v i wr => ∃ j : Nat, j ≤ m ∧ i = .int .i64 j ∧ wr.ownsRow w.heap.size 52 3 v j (spCells (List.replicate j M.all0)) ∧ Below w.heap.size w wr) (fun _ i _ => m - (intOf i).toNat)
  case atStart => exact ⟨0, Nat.zero_le _, rfl, World.ownsRow_nil _ _ _ _, Below.refl _ _⟩
  case round =>
    obtain ⟨j, hj, rfl, hown, hbl⟩ := hrel
    rename_i u7
    have HO := hide hown
    have kw := hbl.size
    clear hown
    by_cases hlt : j < m
    · have NX : Hid (spCells (List.replicate (j + 1) M.all0) = spCells (List.replicate j M.all0) ++ [.int .i64 (-1000000), .int .i64 1000000, .bool true]) := by
        unfold Hid; rw [List.replicate_succ', spCells_snoc]; rfl
      go_wp2_with (at_builtin; refine wpList_append_lies _ rfl (.tmp 18) (.tmp 20) 23 rfl w.heap.size 52 i0 (.agg #[.int .i64 0, .int .i64 0, .bool false]) 3 24 Tryz.underlying23 I0.out hz0 hz1 hz2 rfl (by omega) u7 j (spCells (List.replicate j M.all0)) rfl (HO.out.alloc _) ⟨wr.heap.size, 0, none⟩ 1 1 [.int .i64 (-1000000), .int .i64 1000000, .bool true] rfl rfl (World.news_of_block (heap_alloc_new _ _)) (by simp [Value.oneCell']) (by omega) (by unfold maxLen; omega) (by omega) (by simp; omega) (wr.heap.size + 1) (by simp) ?_)
      intro g cap2 w5 hov hgrow hat hlt5
      have hb5 : Below w.heap.size w w5 := (hbl.alloc hbl.size _).grown hgrow (by simp; omega) (fun k hk => (HO.out.lt k hk).1)
      have HO5 : Hid (w5.ownsRow w.heap.size 52 3 (.slice (some ⟨g, 0, none⟩) (j + 1) cap2) (j + 1) (spCells (List.replicate (j + 1) M.all0))) := by
        unfold Hid; rw [NX.out]; exact hov
      clear hov hgrow hat
      go_wp2
      go_roundw
      case rel => exact ⟨j + 1, by omega, by go_num, HO5.out, hb5⟩
      case measure => simp [intOf]; omega
    · have hjm : j = m := by omega
      subst hjm
      have U1 := hide (CU.out k wr hbl)
      go_wp2_with (go_at_call 40; refine U1.out.mono ?_; rintro e w1 ⟨rfl, rfl⟩)
      go_loopw [9, 10] (fun kk up wx => ∃ (q : Nat) (l : List M.Sp), q < ts.length ∧ l.length = j ∧ kk = .int .i64 q ∧ up = .int .i64 (M.upI ts q) ∧ Hid (M.regD ts ts.length q l = V) ∧ wx.ownsRow w.heap.size 52 3 u7 j (spCells l) ∧ Below w.heap.size w wx) (fun kk _ _ => (intOf kk).toNat)
      case atStart => exact ⟨k, List.replicate j M.all0, hk, by simp, rfl, rfl, R0, HO.out, hbl⟩
      case round =>
        clear U1 HO R0 hbl kw
        obtain ⟨q, l, hq, hl, rfl, rfl, I, hown, hbl⟩ := hrel
        cases e : M.abv ts q with
        | none =>
          have EV : Hid (V = l) := by unfold Hid; rw [← I.out, M.reg_none e]
          have HO := hide hown
          rw [M.up_none e]
          clear e hown I
          go_wp2
          go_ret
          exact ⟨u7, rfl, by rw [EV.out]; exact HO.out, hbl⟩
        | some u =>
          obtain ⟨h1, h2⟩ := (M.abv_iff HF.out hq).1 e
          have hu := M.abv_lt HF.out hq e
          rw [M.up_some' e]
          have na := M.node_ask (HF.out.2.2.2.2.1 u h1) h2.1
          have hc := M.out_false na.2.2.1
          obtain ⟨fi, hfi⟩ : ∃ fi : Nat, M.nf (M.nAt ts u) = fi := ⟨(M.nf (M.nAt ts u)).toNat, by have := na.1; omega⟩
          have hfl : fi < l.length := by have := na.2.1; omega
          obtain ⟨g, cap2, rfl, hg1, hg2⟩ := own_shape3 hown (by omega)
          obtain ⟨p0, p1, p2⟩ := own_spanAt hown hl hfl
          have z0 := hown.frozenAt (fi * 3)
          have z1 := hown.frozenAt (fi * 3 + 1)
          have z2 := hown.frozenAt (fi * 3 + 2)
          have NR : Hid (M.regD ts ts.length u (l.set fi (M.narrow (M.nAt ts u) (decide (M.nl (M.nAt ts u) = (q : Int))) l[fi])) = V) := by
            unfold Hid
            have := M.reg_step HF.out (l := l) hq e
            rw [hfi, Int.toNat_natCast, M.getD_at hfl] at this
            rw [← this]; exact I.out
          obtain ⟨b0, off, rfl, hb0, hc6⟩ := (HT.out.below hbl).2 (by intro e; subst e; simp at hq)
          obtain ⟨s0, s1, s2, s3, s4, s5⟩ := hc6 u h1
          rw [hfi] at s0
          have OS : Hid (∀ (o1 o2 : Obj) (s : M.Sp), (((((wr.setCell ⟨g, fi * 3, none⟩ (.int .i64 s.1)).setCell ⟨g, fi * 3 + 1, none⟩ (.int .i64 s.2.1)).setCell ⟨g, fi * 3 + 2, none⟩ (.bool s.2.2)).alloc o1).alloc o2).ownsRow w.heap.size 52 3 (.slice (some ⟨g, 0, none⟩) j cap2) j (spCells (l.set fi s))) := fun o1 o2 s => ((own_setS hown fi s).alloc o1).alloc o2
          have BS : Hid (∀ (o1 o2 : Obj) (s : M.Sp), Below w.heap.size w (((((wr.setCell ⟨g, fi * 3, none⟩ (.int .i64 s.1)).setCell ⟨g, fi * 3 + 1, none⟩ (.int .i64 s.2.1)).setCell ⟨g, fi * 3 + 2, none⟩ (.bool s.2.2)).alloc o1).alloc o2)) := fun o1 o2 s => by
            have k1 := ((hbl.setCell (p := ⟨g, fi * 3, none⟩) hg1 (.int .i64 s.1)).setCell (p := ⟨g, fi * 3 + 1, none⟩) hg1 (.int .i64 s.2.1)).setCell (p := ⟨g, fi * 3 + 2, none⟩) hg1 (.bool s.2.2)
            exact (k1.alloc k1.size o1).alloc (k1.alloc k1.size o1).size o2
          have NW : Hid (∀ b s, M.narrow (M.nAt ts u) b s = if b = true then (s.1, if M.nc (M.nAt ts u) - 1 < s.2.1 then M.nc (M.nAt ts u) - 1 else s.2.1, s.2.2 && M.ns (M.nAt ts u)) else (if s.1 < M.nc (M.nAt ts u) then M.nc (M.nAt ts u) else s.1, s.2.1, s.2.2 && !M.ns (M.nAt ts u))) := fun b s => rfl
          have CU2 := hide (fun W (hW : Below w.heap.size w W) => CU.out u W hW)
          have ln : (l.set fi (M.narrow (M.nAt ts u) (decide (M.nl (M.nAt ts u) = (q : Int))) l[fi])).length = j := by rw [List.length_set]; exact hl
          have LN := hide ln
          obtain ⟨hc1, hc2⟩ := hc
          have fz : (fi : Int) < (j : Int) := by omega
          have uz : (u : Int) < (ts.length : Int) := by omega
          clear ln na hc6 hown I e h2 hfi CU HF HT
          rw [NW.out] at NR LN
          clear NW
          generalize M.nf (M.nAt ts u) = f at *
          generalize M.nc (M.nAt ts u) = c at *
          generalize M.nl (M.nAt ts u) = ll at *
          generalize M.nr (M.nAt ts u) = rr at *
          generalize M.ns (M.nAt ts u) = sl at *
          generalize M.nv (M.nAt ts u) = vv at *
          generalize l[fi].1 = lo at *
          generalize l[fi].2.1 = hi at *
          generalize l[fi].2.2 = nl at *
          by_cases hL : ll = (q : Int)
          · have qL : (ll == (q : Int)) = true := by rw [beq_iff_eq]; exact hL
            by_cases hC : c - 1 < hi
            · have qC : decide (c - 1 < hi) = true := decide_eq_true hC
              cases nl with
              | true =>
                have NR2 : Hid (M.regD ts ts.length u (l.set fi (lo, c - 1, sl)) = V) := by unfold Hid; rw [← NR.out]; simp [hL, hC]
                have LN2 : Hid ((l.set fi (lo, c - 1, sl)).length = j) := by unfold Hid; rw [List.length_set]; exact hl
                clear NR LN hL hC
                go_wp2_with (go_at_call 40; refine (CU2.out _ (BS.out _ _ (lo, c - 1, sl))).mono ?_; rintro e w1 ⟨rfl, rfl⟩)
                go_roundw
                case rel => exact ⟨u, l.set fi (lo, c - 1, sl), h1, LN2.out, rfl, rfl, NR2.out, OS.out _ _ (lo, c - 1, sl), BS.out _ _ (lo, c - 1, sl)⟩
                case measure => simp [intOf]; omega
              | false =>
                have NR2 : Hid (M.regD ts ts.length u (l.set fi (lo, c - 1, false)) = V) := by unfold Hid; rw [← NR.out]; simp [hL, hC]
                have LN2 : Hid ((l.set fi (lo, c - 1, false)).length = j) := by unfold Hid; rw [List.length_set]; exact hl
                clear NR LN hL hC
                go_wp2_with (go_at_call 40; refine (CU2.out _ (BS.out _ _ (lo, c - 1, false))).mono ?_; rintro e w1 ⟨rfl, rfl⟩)
                go_roundw
                case rel => exact ⟨u, l.set fi (lo, c - 1, false), h1, LN2.out, rfl, rfl, NR2.out, OS.out _ _ (lo, c - 1, false), BS.out _ _ (lo, c - 1, false)⟩
                case measure => simp [intOf]; omega
            · have qC : decide (c - 1 < hi) = false := decide_eq_false hC
              cases nl with
              | true =>
                have NR2 : Hid (M.regD ts ts.length u (l.set fi (lo, hi, sl)) = V) := by unfold Hid; rw [← NR.out]; simp [hL, hC]
                have LN2 : Hid ((l.set fi (lo, hi, sl)).length = j) := by unfold Hid; rw [List.length_set]; exact hl
                clear NR LN hL hC
                go_wp2_with (go_at_call 40; refine (CU2.out _ (BS.out _ _ (lo, hi, sl))).mono ?_; rintro e w1 ⟨rfl, rfl⟩)
                go_roundw
                case rel => exact ⟨u, l.set fi (lo, hi, sl), h1, LN2.out, rfl, rfl, NR2.out, OS.out _ _ (lo, hi, sl), BS.out _ _ (lo, hi, sl)⟩
                case measure => simp [intOf]; omega
              | false =>
                have NR2 : Hid (M.regD ts ts.length u (l.set fi (lo, hi, false)) = V) := by unfold Hid; rw [← NR.out]; simp [hL, hC]
                have LN2 : Hid ((l.set fi (lo, hi, false)).length = j) := by unfold Hid; rw [List.length_set]; exact hl
                clear NR LN hL hC
                go_wp2_with (go_at_call 40; refine (CU2.out _ (BS.out _ _ (lo, hi, false))).mono ?_; rintro e w1 ⟨rfl, rfl⟩)
                go_roundw
                case rel => exact ⟨u, l.set fi (lo, hi, false), h1, LN2.out, rfl, rfl, NR2.out, OS.out _ _ (lo, hi, false), BS.out _ _ (lo, hi, false)⟩
                case measure => simp [intOf]; omega
          · have qL : (ll == (q : Int)) = false := by rw [beq_eq_false_iff_ne]; exact hL
            by_cases hC : lo < c
            · have qC : decide (lo < c) = true := decide_eq_true hC
              cases nl with
              | true =>
                have NR2 : Hid (M.regD ts ts.length u (l.set fi (c, hi, !sl)) = V) := by unfold Hid; rw [← NR.out]; simp [hL, hC]
                have LN2 : Hid ((l.set fi (c, hi, !sl)).length = j) := by unfold Hid; rw [List.length_set]; exact hl
                clear NR LN hL hC
                go_wp2_with (go_at_call 40; refine (CU2.out _ (BS.out _ _ (c, hi, !sl))).mono ?_; rintro e w1 ⟨rfl, rfl⟩)
                go_roundw
                case rel => exact ⟨u, l.set fi (c, hi, !sl), h1, LN2.out, rfl, rfl, NR2.out, OS.out _ _ (c, hi, !sl), BS.out _ _ (c, hi, !sl)⟩
                case measure => simp [intOf]; omega
              | false =>
                have NR2 : Hid (M.regD ts ts.length u (l.set fi (c, hi, false)) = V) := by unfold Hid; rw [← NR.out]; simp [hL, hC]
                have LN2 : Hid ((l.set fi (c, hi, false)).length = j) := by unfold Hid; rw [List.length_set]; exact hl
                clear NR LN hL hC
                go_wp2_with (go_at_call 40; refine (CU2.out _ (BS.out _ _ (c, hi, false))).mono ?_; rintro e w1 ⟨rfl, rfl⟩)
                go_roundw
                case rel => exact ⟨u, l.set fi (c, hi, false), h1, LN2.out, rfl, rfl, NR2.out, OS.out _ _ (c, hi, false), BS.out _ _ (c, hi, false)⟩
                case measure => simp [intOf]; omega
            · have qC : decide (lo < c) = false := decide_eq_false hC
              cases nl with
              | true =>
                have NR2 : Hid (M.regD ts ts.length u (l.set fi (lo, hi, !sl)) = V) := by unfold Hid; rw [← NR.out]; simp [hL, hC]
                have LN2 : Hid ((l.set fi (lo, hi, !sl)).length = j) := by unfold Hid; rw [List.length_set]; exact hl
                clear NR LN hL hC
                go_wp2_with (go_at_call 40; refine (CU2.out _ (BS.out _ _ (lo, hi, !sl))).mono ?_; rintro e w1 ⟨rfl, rfl⟩)
                go_roundw
                case rel => exact ⟨u, l.set fi (lo, hi, !sl), h1, LN2.out, rfl, rfl, NR2.out, OS.out _ _ (lo, hi, !sl), BS.out _ _ (lo, hi, !sl)⟩
                case measure => simp [intOf]; omega
              | false =>
                have NR2 : Hid (M.regD ts ts.length u (l.set fi (lo, hi, false)) = V) := by unfold Hid; rw [← NR.out]; simp [hL, hC]
                have LN2 : Hid ((l.set fi (lo, hi, false)).length = j) := by unfold Hid; rw [List.length_set]; exact hl
                clear NR LN hL hC
                go_wp2_with (go_at_call 40; refine (CU2.out _ (BS.out _ _ (lo, hi, false))).mono ?_; rintro e w1 ⟨rfl, rfl⟩)
                go_roundw
                case rel => exact ⟨u, l.set fi (lo, hi, false), h1, LN2.out, rfl, rfl, NR2.out, OS.out _ _ (lo, hi, false), BS.out _ _ (lo, hi, false)⟩
                case measure => simp [intOf]; omega

end Go.Proofs.YtcaljnhdfbjpnadGreatDoor

namespace Go.Proofs.YtcaljnhdfbjpnadGreatDoor
open Go.ChangeShapes Go.WideShapes Go.ChangeAt Go.RowKit
set_option linter.unusedVariables false

theorem M.sp_hit {l : List M.Sp} {i : Nat} {c : Int} (h8 : l.length ≤ 8) (hi : i < l.length) (hc : M.sp1F l[i] = c) (h0 : c ≠ 0) (hj : ∀ j (h : j < l.length), j < i → M.sp1F l[j] = 0) : M.spF l = c := by
  unfold M.spF
  rw [if_neg (by omega), M.first_hit (p := fun i => !decide (M.sp1F (l.getD i (0, 0, false)) = 0)) (k := i) (by rw [M.getD_at hi, hc]; simp [h0]) (fun j hji => by rw [M.getD_at (show j < l.length by omega), hj j (by omega) hji]; rfl) hi]
  simp only
  rw [M.getD_at hi]; exact hc

set_option maxHeartbeats 4000000 in
theorem rspans_any (a : Option Addr) (ss : List M.Sp) (cap : Nat) (w : World) (h : RdS w a ss) :
    Calls Tryz.prog 4 #[.slice a ss.length cap] w fun e w' => e = .returned (.int .i64 (M.spF ss)) ∧ Below w.heap.size w w' := by
  have hm : ss.length ≤ 9223372036854775807 := h.1
  have HR := hide h.2
  clear h
  by_cases h8 : 8 < ss.length
  · have E : Hid (M.spF ss = 4) := by unfold Hid M.spF; rw [if_pos h8]
    have hd : decide ((8 : Int) < (ss.length : Int)) = true := decide_eq_true (by omega)
    clear h8
    generalize M.spF ss = o at *
    go_enter Tryz.func4, Tryz.ntmps4
    go_wp2
    go_ret
    exact ⟨ret_int E.out.symm, Below.refl _ _⟩
  · have hd : decide ((8 : Int) < (ss.length : Int)) = false := decide_eq_false (by omega)
    have SH : Hid (∀ i c (hi : i < ss.length), M.sp1F ss[i] = c → c ≠ 0 → (∀ j (h : j < ss.length), j < i → M.sp1F ss[j] = 0) → M.spF ss = c) := fun i c hi hc h0 hj => M.sp_hit (by omega) hi hc h0 hj
    have SM : Hid ((∀ j (h : j < ss.length), M.sp1F ss[j] = 0) → M.spF ss = 0) := fun hj => M.sp_ok (by omega) fun s hs => by
      obtain ⟨i, hi, rfl⟩ := List.getElem_of_mem hs
      exact hj i hi
    have CC := hide rcell_any
    generalize M.spF ss = o at *
    go_enter Tryz.func4, Tryz.ntmps4
    go_wp2
    go_loopw [3] (fun i wr => ∃ k : Nat, k ≤ ss.length ∧ i = .int .i64 k ∧ Hid (∀ j (h : j < ss.length), j < k → M.sp1F ss[j] = 0) ∧ Below w.heap.size w wr) (fun i _ => ss.length - (intOf i).toNat)
    case atStart => exact ⟨0, Nat.zero_le _, rfl, fun j _ h => by omega, Below.refl _ _⟩
    case round =>
      obtain ⟨k, hk, rfl, I, hbl⟩ := hrel
      by_cases hlt : k < ss.length
      · obtain ⟨b, off, rfl, hb, hc0⟩ := HR.out (by intro e; subst e; simp at hlt)
        obtain ⟨c0, c1, c2⟩ := RdS.at hc0 k hlt
        have s0 := (hbl.cell (p := ⟨b, off + k * 3, none⟩) hb).trans c0
        have s1 := (hbl.cell (p := ⟨b, off + k * 3 + 1, none⟩) hb).trans c1
        have s2 := (hbl.cell (p := ⟨b, off + k * 3 + 2, none⟩) hb).trans c2
        have NX : Hid (M.sp1F ss[k] = 0 → ∀ j (h : j < ss.length), j < k + 1 → M.sp1F ss[j] = 0) := fun q j hj hjk => by
          by_cases e : j = k
          · subst e; exact q
          · exact I.out j hj (by omega)
        have HN : Hid (∀ c, M.sp1F ss[k] = c → c ≠ 0 → o = c) := fun c h1 h2 => SH.out k c hlt h1 h2 I.out
        have HE : Hid (M.sp1F ss[k] = if M.outI ss[k].1 = true ∨ M.outI ss[k].2.1 = true then 1 else if (decide (ss[k].1 ≤ ss[k].2.1) || ss[k].2.2) = false then 5 else 0) := rfl
        clear hc0 c0 c1 c2 SH SM I
        generalize M.sp1F ss[k] = hs at *
        generalize ss[k].1 = lo at *
        generalize ss[k].2.1 = hi at *
        generalize ss[k].2.2 = nl at *
        cases z0 : M.outI lo with
        | true =>
          have E := hide (HN.out 1 (HE.out.trans (by simp [z0])) (by decide))
          clear NX HN HE
          go_wp2_with (go_at_call 18; refine (CC.out _ _).mono ?_; rintro e w1 ⟨rfl, rfl⟩)
          go_ret
          exact ⟨ret_int E.out.symm, hbl⟩
        | false =>
          cases z1 : M.outI hi with
          | true =>
            have E := hide (HN.out 1 (HE.out.trans (by simp [z1])) (by decide))
            clear NX HN HE
            go_wp2_with (go_at_call 18; refine (CC.out _ _).mono ?_; rintro e w1 ⟨rfl, rfl⟩)
            go_ret
            exact ⟨ret_int E.out.symm, hbl⟩
          | false =>
            by_cases hg : hi < lo
            · have q : decide (hi < lo) = true := decide_eq_true hg
              cases nl with
              | true =>
                have E := hide (NX.out (HE.out.trans (by simp [z0, z1])))
                clear hg NX HN HE
                go_wp2_with (go_at_call 18; refine (CC.out _ _).mono ?_; rintro e w1 ⟨rfl, rfl⟩)
                go_quiet (fail)
                go_wp2
                go_roundw
                case rel => exact ⟨k + 1, by omega, by go_num, E, below_drew hbl _ hbl.size⟩
                case measure => simp [intOf]; omega
              | false =>
                have E := hide (HN.out 5 (HE.out.trans (by simp [z0, z1]; omega)) (by decide))
                clear hg NX HN HE
                go_wp2_with (go_at_call 18; refine (CC.out _ _).mono ?_; rintro e w1 ⟨rfl, rfl⟩)
                go_quiet (fail)
                go_wp2
                go_ret
                exact ⟨ret_int E.out.symm, below_drew hbl _ hbl.size⟩
            · have q : decide (hi < lo) = false := decide_eq_false hg
              have E := hide (NX.out (HE.out.trans (by simp [z0, z1]; omega)))
              clear hg NX HN HE
              go_wp2_with (go_at_call 18; refine (CC.out _ _).mono ?_; rintro e w1 ⟨rfl, rfl⟩)
              go_quiet (fail)
              go_wp2
              go_roundw
              case rel => exact ⟨k + 1, by omega, by go_num, E, below_drew hbl _ hbl.size⟩
              case measure => simp [intOf]; omega
      · have E := hide (SM.out fun j hj => I.out j hj (by omega))
        go_wp2
        go_ret
        exact ⟨ret_int E.out.symm, hbl⟩

theorem M.pick_take {ss : List M.Sp} {k : Nat} (h : k < ss.length) : M.pick (ss.take (k + 1)) = M.pick (ss.take k) ++ [M.pickC ss[k]] := by
  unfold M.pick
  rw [List.take_succ_eq_append_getElem h, List.map_append]; rfl
theorem M.pick_len (ss : List M.Sp) (k : Nat) : (M.pick (ss.take k)).length ≤ k := by unfold M.pick; rw [List.length_map, List.length_take]; omega

set_option maxHeartbeats 4000000 in
theorem rpick_any (a : Option Addr) (ss : List M.Sp) (cap : Nat) (w : World) (h : RdS w a ss) (h8 : ss.length ≤ 8) :
    Calls Tryz.prog 23 #[.slice a ss.length cap] w fun e w' => ∃ ag cg, e = .returned (.slice ag (M.pick ss).length cg) ∧ Rd w' ag (M.pick ss) ∧ Below w.heap.size w w' := by
  have hm : ss.length ≤ 9223372036854775807 := h.1
  have HR := hide h.2
  obtain ⟨i0, hi, hz0, hz1, hz2⟩ := info_parts info3
  have I0 := hide hi
  have PE : Hid (∀ k, ss.length ≤ k → M.pick ss = M.pick (ss.take k)) := fun k hk => by rw [List.take_of_length_le hk]
  clear h hi
  generalize M.pick ss = V at *
  go_enter Tryz.func23, Tryz.ntmps23
  go_wp2
  go_loopw [3, 4] (fun v i wr => ∃ k : Nat, k ≤ ss.length ∧ i = .int .i64 k ∧ wr.ownsRow w.heap.size 3 1 v (M.pick (ss.take k)).length ((M.pick (ss.take k)).map (Value.int .i64)) ∧ Below w.heap.size w wr) (fun _ i _ => ss.length - (intOf i).toNat)
  case atStart => exact ⟨0, Nat.zero_le _, rfl, World.ownsRow_nil _ _ _ _, Below.refl _ _⟩
  case round =>
    obtain ⟨k, hk, rfl, hown, hbl⟩ := hrel
    obtain ⟨va, vc, rfl, RV, _⟩ := own_rd hown
    have HO := hide hown
    have HV := hide RV
    have LL := M.pick_len ss k
    clear hown RV
    by_cases hlt : k < ss.length
    · obtain ⟨b, off, rfl, hb, hc0⟩ := HR.out (by intro e; subst e; simp at hlt)
      obtain ⟨c0, c1, c2⟩ := RdS.at hc0 k hlt
      have s0 := (hbl.cell (p := ⟨b, off + k * 3, none⟩) hb).trans c0
      have s1 := (hbl.cell (p := ⟨b, off + k * 3 + 1, none⟩) hb).trans c1
      have NX := hide (M.pick_take hlt)
      have PC : Hid (M.pickC ss[k] = if ss[k].1 ≤ ss[k].2.1 then ss[k].1 else M.nilI) := rfl
      have kw4 := hbl.size
      clear hc0 c0 c1 c2
      generalize M.pickC ss[k] = pc at *
      generalize ss[k].1 = lo at *
      generalize ss[k].2.1 = hi at *
      generalize M.pick (ss.take k) = L at *
      by_cases hg : lo ≤ hi
      · have q : decide (lo ≤ hi) = true := decide_eq_true hg
        have E : Hid (pc = lo) := by unfold Hid; rw [PC.out, if_pos hg]
        clear hg PC
        go_wp2
        go_quiet (fail)
        have KD : Hid (∀ q, (wr.drewN q).ownsRow w.heap.size 3 1 (.slice va L.length vc) L.length (L.map (Value.int .i64))) := fun q => own_up HO.out (below_drew (Below.refl _ _) q (Nat.le_refl _))
        go_wp2_with (at_builtin; refine wpList_append_lies _ rfl (.tmp 22) (.tmp 28) 24 rfl w.heap.size 3 i0 (.int .i64 0) 1 8 Tryz.underlying24 I0.out hz0 hz1 hz2 rfl (by omega) (.slice va L.length vc) L.length (L.map (Value.int .i64)) rfl ((KD.out _).alloc _) ⟨wr.heap.size, 0, none⟩ 1 1 [.int .i64 lo] rfl rfl (World.news_of_block (heap_alloc_new _ _)) (by simp [Value.oneCell']) (by omega) (by unfold maxLen; omega) (by omega) (by simp; omega) (wr.heap.size + 1) (by simp) ?_)
        intro g cap w5 hov5 hgrow hat hlt5
        have hb5 : Below w.heap.size w w5 := ((below_drew hbl _ hbl.size).alloc (by simp; omega) _).grown hgrow (by simp; omega) (fun k hk => (HO.out.lt k hk).1)
        have HO5 : Hid (w5.ownsRow w.heap.size 3 1 (.slice (some ⟨g, 0, none⟩) (L.length + 1) cap) (M.pick (ss.take (k + 1))).length ((M.pick (ss.take (k + 1))).map (Value.int .i64))) := by
          unfold Hid; rw [NX.out, E.out, List.map_append, List.length_append]; exact hov5
        clear hov5 hgrow hat
        go_wp2
        go_roundw
        case rel => exact ⟨k + 1, by omega, by go_num, HO5.out, hb5⟩
        case measure => simp [intOf]; omega
      · have q : decide (lo ≤ hi) = false := decide_eq_false hg
        have E : Hid (pc = -1125899906842624) := by unfold Hid; rw [PC.out, if_neg hg]; rfl
        clear hg PC
        go_wp2
        go_quiet (fail)
        have KD : Hid (∀ q, (wr.drewN q).ownsRow w.heap.size 3 1 (.slice va L.length vc) L.length (L.map (Value.int .i64))) := fun q => own_up HO.out (below_drew (Below.refl _ _) q (Nat.le_refl _))
        go_wp2_with (at_builtin; refine wpList_append_lies _ rfl (.tmp 30) (.tmp 31) 24 rfl w.heap.size 3 i0 (.int .i64 0) 1 8 Tryz.underlying24 I0.out hz0 hz1 hz2 rfl (by omega) (.slice va L.length vc) L.length (L.map (Value.int .i64)) rfl ((KD.out _).alloc _) ⟨wr.heap.size, 0, none⟩ 1 1 [.int .i64 (-1125899906842624)] rfl rfl (World.news_of_block (heap_alloc_new _ _)) (by simp [Value.oneCell']) (by omega) (by unfold maxLen; omega) (by omega) (by simp; omega) (wr.heap.size + 1) (by simp) ?_)
        intro g cap w5 hov5 hgrow hat hlt5
        have hb5 : Below w.heap.size w w5 := ((below_drew hbl _ hbl.size).alloc (by simp; omega) _).grown hgrow (by simp; omega) (fun k hk => (HO.out.lt k hk).1)
        have HO5 : Hid (w5.ownsRow w.heap.size 3 1 (.slice (some ⟨g, 0, none⟩) (L.length + 1) cap) (M.pick (ss.take (k + 1))).length ((M.pick (ss.take (k + 1))).map (Value.int .i64))) := by
          unfold Hid; rw [NX.out, E.out, List.map_append, List.length_append]; exact hov5
        clear hov5 hgrow hat
        go_wp2
        go_roundw
        case rel => exact ⟨k + 1, by omega, by go_num, HO5.out, hb5⟩
        case measure => simp [intOf]; omega
    · have E := hide (PE.out k (by omega))
      generalize M.pick (ss.take k) = L at *
      go_wp2
      go_ret
      exact ⟨va, vc, by rw [E.out]; rfl, by rw [E.out]; exact HV.out, hbl⟩

end Go.Proofs.YtcaljnhdfbjpnadGreatDoor
