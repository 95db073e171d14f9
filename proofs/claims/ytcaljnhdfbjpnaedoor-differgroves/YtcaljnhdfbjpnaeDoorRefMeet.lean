/-
  What the reference's Meet answers of spans that are as many.
-/
import Derived.Test.YtcaljnhdfbjpnaeDoorRefAny
import Derived.Test.YtcaljnhdfbjpnaeDoorLMathB
import Derived.Deep.AppendLies
import Derived.Deep.Cut
import Derived.Deep.CutRange
import Derived.BigQuiet
import Derived.Deep.QuietTactic
namespace Go.Proofs.YtcaljnhdfbjpnaeDoor
open Go.ChangeShapes Go.WideShapes Go.ChangeAt Go.RowKit
set_option linter.unusedVariables false

/-- a span in a block of its own -/
structure Bx (wr W : World) (x y : Int) (z : Bool) : Prop where
  c0 : W.cell? ⟨wr.heap.size, 0, none⟩ = some (.int .i64 x)
  c1 : W.cell? ⟨wr.heap.size, 1, none⟩ = some (.int .i64 y)
  c2 : W.cell? ⟨wr.heap.size, 2, none⟩ = some (.bool z)
  fr : ∀ j, W.frozen? ⟨wr.heap.size, j, none⟩ = false
  lt : wr.heap.size < W.heap.size
  b : Below wr.heap.size wr W
theorem bx_new (wr : World) (x y : Int) (z : Bool) (t : TypeId) : Bx wr (wr.alloc (.cells #[.int .i64 x, .int .i64 y, .bool z] t)) x y z :=
  ⟨World.cell?_alloc_at _ _ _ 0 rfl, World.cell?_alloc_at _ _ _ 1 rfl, World.cell?_alloc_at _ _ _ 2 rfl, fun j => by
    unfold World.frozen?
    rw [heap_alloc_new wr _]
    simp, by simp, (Below.refl _ wr).alloc (Nat.le_refl _) _⟩
theorem Bx.drew {wr W : World} {x y : Int} {z : Bool} (h : Bx wr W x y z) (q : Nat) : Bx wr (W.drewN q) x y z := ⟨h.c0, h.c1, h.c2, h.fr, h.lt, below_drew h.b q (Nat.le_of_lt h.lt)⟩
theorem bx_other (W : World) (p i j : Nat) (v : Value) (h : i ≠ j) : (W.setCell ⟨p, i, none⟩ v).cell? ⟨p, j, none⟩ = W.cell? ⟨p, j, none⟩ := World.cell?_setCell_other _ _ _ _ (by intro e; cases e; exact h rfl)
theorem Bx.set0 {wr W : World} {x y : Int} {z : Bool} (h : Bx wr W x y z) (x' : Int) : Bx wr (W.setCell ⟨wr.heap.size, 0, none⟩ (.int .i64 x')) x' y z :=
  ⟨World.cell?_setCell_same _ _ _ h.c0, (bx_other _ _ _ _ _ (by decide)).trans h.c1, (bx_other _ _ _ _ _ (by decide)).trans h.c2, fun j => by simpa using h.fr j, by simpa using h.lt, h.b.setCell (p := ⟨wr.heap.size, 0, none⟩) (Nat.le_refl _) _⟩
theorem Bx.set1 {wr W : World} {x y : Int} {z : Bool} (h : Bx wr W x y z) (y' : Int) : Bx wr (W.setCell ⟨wr.heap.size, 1, none⟩ (.int .i64 y')) x y' z :=
  ⟨(bx_other _ _ _ _ _ (by decide)).trans h.c0, World.cell?_setCell_same _ _ _ h.c1, (bx_other _ _ _ _ _ (by decide)).trans h.c2, fun j => by simpa using h.fr j, by simpa using h.lt, h.b.setCell (p := ⟨wr.heap.size, 1, none⟩) (Nat.le_refl _) _⟩
theorem Bx.set2 {wr W : World} {x y : Int} {z : Bool} (h : Bx wr W x y z) (z' : Bool) : Bx wr (W.setCell ⟨wr.heap.size, 2, none⟩ (.bool z')) x y z' :=
  ⟨(bx_other _ _ _ _ _ (by decide)).trans h.c0, (bx_other _ _ _ _ _ (by decide)).trans h.c1, World.cell?_setCell_same _ _ _ h.c2, fun j => by simpa using h.fr j, by simpa using h.lt, h.b.setCell (p := ⟨wr.heap.size, 2, none⟩) (Nat.le_refl _) _⟩

set_option maxHeartbeats 8000000 in
set_option maxRecDepth 10000 in
theorem rmeet_any (a b : Option Addr) (ss us : List M.Sp) (ca cb : Nat) (w : World) (ha : RdS w a ss) (hb : RdS w b us) (hl : ss.length = us.length) (h8 : ss.length ≤ 8) :
    Calls Tryd.prog 31 #[.slice a ss.length ca, .slice b us.length cb] w fun e w' => ∃ ag cg, e = .returned (.slice ag (M.meet ss us).length cg) ∧ RdS w' ag (M.meet ss us) ∧ Below w.heap.size w w' := by
  have HA := hide ha.2
  have HB := hide hb.2
  have HL := hide hl
  have MT : Hid (∀ k, k < ss.length → M.meet (ss.take (k + 1)) (us.take (k + 1)) = M.meet (ss.take k) (us.take k) ++ [M.meetS (ss.getD k (0, 0, false)) (us.getD k (0, 0, false))]) := fun k hk => M.meet_take hl hk
  have MA : Hid (M.meet (ss.take ss.length) (us.take ss.length) = M.meet ss us ∧ (M.meet ss us).length = ss.length) := ⟨by rw [List.take_length, hl, List.take_length], M.meet_len hl⟩
  obtain ⟨i0, hi, hz0, hz1, hz2⟩ := info_parts info33
  have I0 := hide hi
  rw [← hl]
  clear ha hb hi hl
  go_enter Tryd.func31, Tryd.ntmps31
  go_wp2
  go_loopw [5, 6, 7] (fun v i _ wr => ∃ k : Nat, k ≤ ss.length ∧ i = .int .i64 k ∧ Hid (wr.ownsRow w.heap.size 97 3 v k (spCells (M.meet (ss.take k) (us.take k)))) ∧ Hid (Below w.heap.size w wr)) (fun _ i _ _ => ss.length - (intOf i).toNat)
  case atStart => exact ⟨0, Nat.zero_le _, rfl, World.ownsRow_nil _ _ _ _, Below.refl _ _⟩
  case round =>
    obtain ⟨k, hk, rfl, HO, K⟩ := hrel
    by_cases hlt : k < ss.length
    · have kz : (k : Int) < (ss.length : Int) := by omega
      obtain ⟨b1, o1, rfl, hb1, hc1⟩ := HA.out (by intro e; subst e; simp at hlt)
      obtain ⟨b2, o2, rfl, hb2, hc2⟩ := HB.out (by intro e; have q := HL.out; rw [e, List.length_nil] at q; omega)
      have hlt2 : k < us.length := by have := HL.out; omega
      obtain ⟨d0, d1, d2⟩ := RdS.at hc1 k hlt
      have s0 := (K.out.cell (p := ⟨b1, o1 + k * 3, none⟩) hb1).trans d0
      have s1 := (K.out.cell (p := ⟨b1, o1 + k * 3 + 1, none⟩) hb1).trans d1
      have s2 := (K.out.cell (p := ⟨b1, o1 + k * 3 + 2, none⟩) hb1).trans d2
      have U : Hid (∀ W, Below wr.heap.size wr W → W.cell? ⟨b2, o2 + k * 3, none⟩ = some (.int .i64 us[k].1) ∧ W.cell? ⟨b2, o2 + k * 3 + 1, none⟩ = some (.int .i64 us[k].2.1) ∧ W.cell? ⟨b2, o2 + k * 3 + 2, none⟩ = some (.bool us[k].2.2)) := fun W hW => by
        obtain ⟨f0, f1, f2⟩ := RdS.at hc2 k hlt2
        have q := below_on K.out hW
        exact ⟨(q.cell (p := ⟨b2, o2 + k * 3, none⟩) hb2).trans f0, (q.cell (p := ⟨b2, o2 + k * 3 + 1, none⟩) hb2).trans f1, (q.cell (p := ⟨b2, o2 + k * 3 + 2, none⟩) hb2).trans f2⟩
      have mt := MT.out k hlt
      rw [M.getD_at hlt, M.getD_at hlt2] at mt
      have MK : Hid (spCells (M.meet (ss.take (k + 1)) (us.take (k + 1))) = spCells (M.meet (ss.take k) (us.take k)) ++ [.int .i64 (if ss[k].1 < us[k].1 then us[k].1 else ss[k].1), .int .i64 (if us[k].2.1 < ss[k].2.1 then us[k].2.1 else ss[k].2.1), .bool (ss[k].2.2 && us[k].2.2)]) := by
        unfold Hid; rw [mt, spCells_snoc]; rfl
      clear hc1 hc2 d0 d1 d2 mt MT MA HL
      generalize ss[k].1 = lo at *
      generalize ss[k].2.1 = hi at *
      generalize ss[k].2.2 = nl at *
      generalize us[k].1 = lo2 at *
      generalize us[k].2.1 = hi2 at *
      generalize us[k].2.2 = nl2 at *
      go_upto_region 6 with fail
      obtain ⟨w1, hw1⟩ : ∃ W, W = wr.alloc (.cells #[.int .i64 lo, .int .i64 hi, .bool nl] 97) := ⟨_, rfl⟩
      have B1 : Hid (Bx wr w1 lo hi nl) := by rw [hw1]; exact bx_new wr lo hi nl _
      rw [← hw1]
      clear hw1 s0 s1 s2
      have x0 := B1.out.c0
      obtain ⟨u0, u1, u2⟩ := U.out _ B1.out.b
      obtain ⟨x, hx⟩ : ∃ x, x = if lo < lo2 then lo2 else lo := ⟨_, rfl⟩
      obtain ⟨y, hy⟩ : ∃ y, y = if hi2 < hi then hi2 else hi := ⟨_, rfl⟩
      obtain ⟨z, hz⟩ : ∃ z, z = (nl && nl2) := ⟨_, rfl⟩
      rw [← hx, ← hy, ← hz] at MK
      have HX := hide hx
      have HY := hide hy
      have HZ := hide hz
      clear hx hy hz
      go_quiet (fail)
      go_upto_if 25 with fail
      go_cut [7] from 25 to 31 (fun p wx => p = .pointer (some ⟨wr.heap.size, 0, none⟩) ∧ Hid (Bx wr wx x hi nl))
      case first =>
        have f0 := B1.out.fr 0
        by_cases c : lo < lo2
        · have ex := hide (HX.out.trans (if_pos c))
          have d : decide (lo < lo2) = true := decide_eq_true c
          rw [d]
          clear c
          go_wp2
          go_meet
          case rel => exact ⟨rfl, by rw [ex.out]; exact (B1.out.drew _).set0 lo2⟩
        · have ex := hide (HX.out.trans (if_neg c))
          have d : decide (lo < lo2) = false := decide_eq_false c
          rw [d]
          clear c
          go_wp2
          go_meet
          case rel => exact ⟨rfl, by rw [ex.out]; exact B1.out.drew _⟩
      case rest =>
        obtain ⟨rfl, B2⟩ := hcut
        clear x0 u0 u1 u2 B1 HX
        have x1 := B2.out.c1
        obtain ⟨u0, u1, u2⟩ := U.out _ B2.out.b
        obtain ⟨w2, hw2⟩ : ∃ W, W = wc := ⟨_, rfl⟩
        subst hw2
        go_upto_region 8 with fail
        go_quiet (fail)
        go_upto_if 39 with fail
        go_cut [7] from 39 to 45 (fun p wx => p = .pointer (some ⟨wr.heap.size, 0, none⟩) ∧ Hid (Bx wr wx x y nl))
        case first =>
          have f1 := B2.out.fr 1
          by_cases c : hi2 < hi
          · have ex := hide (HY.out.trans (if_pos c))
            have d : decide (hi2 < hi) = true := decide_eq_true c
            rw [d]
            clear c
            go_wp2
            go_meet
            case rel => exact ⟨rfl, by rw [ex.out]; exact (B2.out.drew _).set1 hi2⟩
          · have ex := hide (HY.out.trans (if_neg c))
            have d : decide (hi2 < hi) = false := decide_eq_false c
            rw [d]
            clear c
            go_wp2
            go_meet
            case rel => exact ⟨rfl, by rw [ex.out]; exact B2.out.drew _⟩
        case rest =>
          obtain ⟨rfl, B3⟩ := hcut
          clear x1 u0 u1 u2 B2 HY
          have x2 := B3.out.c2
          obtain ⟨u0, u1, u2⟩ := U.out _ B3.out.b
          obtain ⟨w3, hw3⟩ : ∃ W, W = wc := ⟨_, rfl⟩
          subst hw3
          go_upto_region 10 with fail
          go_cut [7] from 46 to 55 (fun p wx => p = .pointer (some ⟨wr.heap.size, 0, none⟩) ∧ Hid (Bx wr wx x y z))
          case first =>
            have f2 := B3.out.fr 2
            cases nl with
            | true =>
              have ez := hide HZ.out
              go_wp2
              go_meet
              case rel => exact ⟨rfl, by rw [ez.out]; exact B3.out.set2 _⟩
            | false =>
              have ez := hide HZ.out
              go_wp2
              go_meet
              case rel => exact ⟨rfl, by rw [ez.out]; exact B3.out.set2 _⟩
          case rest =>
            obtain ⟨rfl, B4⟩ := hcut
            clear x2 u0 u1 u2 B3 HZ U
            have y0 := B4.out.c0
            have y1 := B4.out.c1
            have y2 := B4.out.c2
            obtain ⟨w4, hw4⟩ : ∃ W, W = wc := ⟨_, rfl⟩
            subst hw4
            have O4 := hide (own_up HO.out B4.out.b)
            have ws := B4.out.lt
            have wk := K.out.size
            go_wp2_with (at_builtin; refine wpList_append_lies _ rfl (.tmp 56) (.tmp 58) 65 rfl w.heap.size 97 i0 (.agg #[.int .i64 0, .int .i64 0, .bool false]) 3 24 Tryd.underlying65 I0.out hz0 hz1 hz2 rfl (by omega) _ k (spCells (M.meet (ss.take k) (us.take k))) rfl (O4.out.alloc _) ⟨w4.heap.size, 0, none⟩ 1 1 [.int .i64 x, .int .i64 y, .bool z] rfl rfl (World.news_of_block (heap_alloc_new _ _)) (by simp [Value.oneCell']) (by omega) (by unfold maxLen; omega) (by omega) (by simp; omega) (w4.heap.size + 1) (by simp) ?_)
            intro g5 c5 w5 hov5 hgrow hat hlt5
            have HO5 : Hid (w5.ownsRow w.heap.size 97 3 (.slice (some ⟨g5, 0, none⟩) (k + 1) c5) (k + 1) (spCells (M.meet (ss.take (k + 1)) (us.take (k + 1))))) := by
              unfold Hid; rw [MK.out]; exact hov5
            have K5 : Hid (Below w.heap.size w w5) := ((below_on K.out B4.out.b).alloc (by omega) _).grown hgrow (by simp; omega) (fun q hq => (O4.out.lt q hq).1)
            clear hov5 hgrow hat
            go_wp2
            go_roundw
            case rel => exact ⟨k + 1, by omega, by go_num, HO5, K5⟩
            case measure => simp [intOf] <;> omega
    · have hke : k = ss.length := by omega
      have kz : ¬ ((k : Int) < (ss.length : Int)) := by omega
      have HO2 := HO.out
      rw [hke, MA.out.1] at HO2
      obtain ⟨ag, cg, e, hr⟩ := own_rdS (MA.out.2) (by unfold maxLen; omega) HO2
      have HR := hide hr
      subst e
      clear HO2 HO hr hke MT
      go_wp2
      go_ret
      first | exact ⟨ag, ⟨cg, by rw [MA.out.2]; rfl⟩, HR.out, K.out⟩ | exact ⟨ag, cg, by rw [MA.out.2]; rfl, HR.out, K.out⟩

end Go.Proofs.YtcaljnhdfbjpnaeDoor
