/-
  Several texts as one: RefSq, BxFour, BooNew, BooR.
-/
import Derived.Test.YtpblpfleiilehafGreatDoorRun0
import Derived.Test.YtpblpfleiilehafGreatDoorRun9
import Derived.Deep.Cut
import Derived.Deep.CutRange
import Derived.Deep.RegionHeld3
import Derived.Deep.AppendLies
import Derived.OwnWalk
import Derived.BigQuiet
import Derived.Deep.QuietTactic
import Derived.RegionTactic
import Derived.Test.YtpblpfleiilehafGreatDoorRun8
namespace Go.Proofs.YtpblpfleiilehafGreatDoor
open Go.ChangeShapes Go.WideShapes Go.ChangeAt Go.RowKit Go.Lib
set_option linter.unusedVariables false

theorem rfit_any (n : Int) (w : World) :
    Calls Tryz.prog 69 #[.int .i64 n] w fun e w' => e = .returned (.int .i64 (M.fitI n)) ∧ w' = w := by
  rcases (show 1099511627776 < n ∨ n < -1099511627776 ∨ (-1099511627776 ≤ n ∧ n ≤ 1099511627776) from by omega) with h | h | ⟨h1, h2⟩
  · have E : Hid (1099511627776 = M.fitI n) := by unfold M.fitI; rw [if_pos h]; exact rfl
    go_enter Tryz.func69, Tryz.ntmps69
    go_wp2
    go_ret
    exact ⟨ret_int E.out, rfl⟩
  · have E : Hid (-1099511627776 = M.fitI n) := by unfold M.fitI; rw [if_neg (by omega), if_pos h]; exact rfl
    go_enter Tryz.func69, Tryz.ntmps69
    go_wp2
    go_ret
    exact ⟨ret_int E.out, rfl⟩
  · have E : Hid (n = M.fitI n) := (M.fit_id ⟨h1, h2⟩).symm
    go_enter Tryz.func69, Tryz.ntmps69
    go_wp2
    go_ret
    exact ⟨ret_int E.out, rfl⟩

theorem radd_any (a b : Int) (w : World) :
    Calls Tryz.prog 70 #[.int .i64 a, .int .i64 b] w fun e w' => e = .returned (.int .i64 (M.addI a b)) ∧ w' = w := by
  obtain ⟨a1, a2⟩ := M.fit_le a
  obtain ⟨b1, b2⟩ := M.fit_le b
  go_enter Tryz.func70, Tryz.ntmps70
  go_wp2_with (go_at_call 69; refine (rfit_any _ _).mono ?_; rintro e w' ⟨rfl, rfl⟩)
  go_ret
  exact ⟨rfl, rfl⟩

theorem rmul_any (a b : Int) (w : World) :
    Calls Tryz.prog 43 #[.int .i64 a, .int .i64 b] w fun e w' => e = .returned (.int .i64 (M.mulI a b)) ∧ w' = w := by
  obtain ⟨a1, a2⟩ := M.fit_le a
  obtain ⟨b1, b2⟩ := M.fit_le b
  by_cases h0 : M.fitI a = 0
  · have Z := hide (M.mul_zl (b := b) h0)
    go_enter Tryz.func43, Tryz.ntmps43
    go_wp2_with (go_at_call 69; refine (rfit_any _ _).mono ?_; rintro e w' ⟨rfl, rfl⟩)
    go_ret
    exact ⟨ret_int Z.out, rfl⟩
  have hz : (M.fitI a == 0) = false := by simp; omega
  by_cases k0 : M.fitI b = 0
  · have Z := hide (M.mul_zr (a := a) k0)
    go_enter Tryz.func43, Tryz.ntmps43
    go_wp2_with (go_at_call 69; refine (rfit_any _ _).mono ?_; rintro e w' ⟨rfl, rfl⟩)
    go_ret
    exact ⟨ret_int Z.out, rfl⟩
  have kz : (M.fitI b == 0) = false := by simp; omega
  rcases (show 0 < M.fitI a ∨ M.fitI a < 0 from by omega) with g0 | g0
  · have hsa : decide (M.fitI a < 0) = false := by simp; omega
    rcases (show 0 < M.fitI b ∨ M.fitI b < 0 from by omega) with l0 | l0
    · have hsb : decide (M.fitI b < 0) = false := by simp; omega
      have hs := M.sg_pp (x := M.fitI a) (y := M.fitI b) (by omega) (by omega)
      have Q := hide (M.quo_pp (x := M.fitI b) (y := M.fitI a) l0)
      rw [Int.mul_comm] at Q
      by_cases ht : M.fitI a ≤ 1099511627776 / M.fitI b
      · have hm : M.fitI a * M.fitI b ≤ 1099511627776 := Q.out ▸ (show M.fitI a ≤ 1099511627776 / M.fitI b from ht)
        go_enter Tryz.func43, Tryz.ntmps43
        go_wp2_with (go_at_call 69; refine (rfit_any _ _).mono ?_; rintro e w' ⟨rfl, rfl⟩)
        go_ret
        exact ⟨ret_int (M.mul_in (by omega) (by omega)), rfl⟩
      · have hm : ¬ M.fitI a * M.fitI b ≤ 1099511627776 := Q.out ▸ (show ¬ M.fitI a ≤ 1099511627776 / M.fitI b from ht)
        have hd : decide (M.fitI a ≤ 1099511627776 / M.fitI b) = false := by simpa using ht
        go_enter Tryz.func43, Tryz.ntmps43
        go_wp2_with (go_at_call 69; refine (rfit_any _ _).mono ?_; rintro e w' ⟨rfl, rfl⟩)
        go_ret
        exact ⟨ret_int (M.mul_hi (by omega)), rfl⟩
    · have hsb : decide (M.fitI b < 0) = true := by simp; omega
      have hs := M.sg_pn (x := M.fitI a) (y := M.fitI b) (by omega) (by omega)
      have Q := hide (M.quo_np (x := M.fitI b) (y := M.fitI a) l0)
      rw [Int.mul_comm] at Q
      obtain ⟨t1, t2⟩ := M.tneg_bd l0
      have T := hide (M.tneg l0)
      by_cases ht : M.fitI a ≤ -Int.tdiv 1099511627776 (M.fitI b)
      · have hm : -1099511627776 ≤ M.fitI a * M.fitI b := Q.out ▸ (show M.fitI a ≤ 1099511627776 / -M.fitI b from (by have e := T.out; omega))
        obtain ⟨p1, p2⟩ : -1099511627776 ≤ M.fitI a * -M.fitI b ∧ M.fitI a * -M.fitI b ≤ 1099511627776 := by rw [Int.mul_neg]; omega
        go_enter Tryz.func43, Tryz.ntmps43
        go_wp2_with (go_at_call 69; refine (rfit_any _ _).mono ?_; rintro e w' ⟨rfl, rfl⟩)
        go_ret
        exact ⟨ret_int (by rw [← M.mul_in (a := a) (b := b) (by omega) (by omega)]; first | rfl | rw [Int.mul_neg, Int.neg_neg] | rw [Int.neg_mul, Int.neg_neg] | rw [Int.neg_mul, Int.mul_neg, Int.neg_neg]), rfl⟩
      · have hm : ¬ -1099511627776 ≤ M.fitI a * M.fitI b := Q.out ▸ (show ¬ M.fitI a ≤ 1099511627776 / -M.fitI b from (by have e := T.out; omega))
        have hd : decide (M.fitI a ≤ -Int.tdiv 1099511627776 (M.fitI b)) = false := by simpa using ht
        go_enter Tryz.func43, Tryz.ntmps43
        go_wp2_with (go_at_call 69; refine (rfit_any _ _).mono ?_; rintro e w' ⟨rfl, rfl⟩)
        go_ret
        exact ⟨ret_int (M.mul_lo (by omega)), rfl⟩
  · have hsa : decide (M.fitI a < 0) = true := by simp; omega
    rcases (show 0 < M.fitI b ∨ M.fitI b < 0 from by omega) with l0 | l0
    · have hsb : decide (M.fitI b < 0) = false := by simp; omega
      have hs := M.sg_np (x := M.fitI a) (y := M.fitI b) (by omega) (by omega)
      have Q := hide (M.quo_pn (x := M.fitI b) (y := M.fitI a) l0)
      rw [Int.mul_comm] at Q
      by_cases ht : -M.fitI a ≤ 1099511627776 / M.fitI b
      · have hm : -1099511627776 ≤ M.fitI a * M.fitI b := Q.out ▸ (show -M.fitI a ≤ 1099511627776 / M.fitI b from ht)
        obtain ⟨p1, p2⟩ : -1099511627776 ≤ -M.fitI a * M.fitI b ∧ -M.fitI a * M.fitI b ≤ 1099511627776 := by rw [Int.neg_mul]; omega
        go_enter Tryz.func43, Tryz.ntmps43
        go_wp2_with (go_at_call 69; refine (rfit_any _ _).mono ?_; rintro e w' ⟨rfl, rfl⟩)
        go_ret
        exact ⟨ret_int (by rw [← M.mul_in (a := a) (b := b) (by omega) (by omega)]; first | rfl | rw [Int.mul_neg, Int.neg_neg] | rw [Int.neg_mul, Int.neg_neg] | rw [Int.neg_mul, Int.mul_neg, Int.neg_neg]), rfl⟩
      · have hm : ¬ -1099511627776 ≤ M.fitI a * M.fitI b := Q.out ▸ (show ¬ -M.fitI a ≤ 1099511627776 / M.fitI b from ht)
        have hd : decide (-M.fitI a ≤ 1099511627776 / M.fitI b) = false := by simpa using ht
        go_enter Tryz.func43, Tryz.ntmps43
        go_wp2_with (go_at_call 69; refine (rfit_any _ _).mono ?_; rintro e w' ⟨rfl, rfl⟩)
        go_ret
        exact ⟨ret_int (M.mul_lo (by omega)), rfl⟩
    · have hsb : decide (M.fitI b < 0) = true := by simp; omega
      have hs := M.sg_nn (x := M.fitI a) (y := M.fitI b) (by omega) (by omega)
      have Q := hide (M.quo_nn (x := M.fitI b) (y := M.fitI a) l0)
      rw [Int.mul_comm] at Q
      obtain ⟨t1, t2⟩ := M.tneg_bd l0
      have T := hide (M.tneg l0)
      by_cases ht : -M.fitI a ≤ -Int.tdiv 1099511627776 (M.fitI b)
      · have hm : M.fitI a * M.fitI b ≤ 1099511627776 := Q.out ▸ (show -M.fitI a ≤ 1099511627776 / -M.fitI b from (by have e := T.out; omega))
        obtain ⟨p1, p2⟩ : -1099511627776 ≤ -M.fitI a * -M.fitI b ∧ -M.fitI a * -M.fitI b ≤ 1099511627776 := by rw [Int.neg_mul, Int.mul_neg]; omega
        go_enter Tryz.func43, Tryz.ntmps43
        go_wp2_with (go_at_call 69; refine (rfit_any _ _).mono ?_; rintro e w' ⟨rfl, rfl⟩)
        go_ret
        exact ⟨ret_int (by rw [← M.mul_in (a := a) (b := b) (by omega) (by omega)]; first | rfl | rw [Int.mul_neg, Int.neg_neg] | rw [Int.neg_mul, Int.neg_neg] | rw [Int.neg_mul, Int.mul_neg, Int.neg_neg]), rfl⟩
      · have hm : ¬ M.fitI a * M.fitI b ≤ 1099511627776 := Q.out ▸ (show ¬ -M.fitI a ≤ 1099511627776 / -M.fitI b from (by have e := T.out; omega))
        have hd : decide (-M.fitI a ≤ -Int.tdiv 1099511627776 (M.fitI b)) = false := by simpa using ht
        go_enter Tryz.func43, Tryz.ntmps43
        go_wp2_with (go_at_call 69; refine (rfit_any _ _).mono ?_; rintro e w' ⟨rfl, rfl⟩)
        go_ret
        exact ⟨ret_int (M.mul_hi (by omega)), rfl⟩

theorem M.tot_more {L : List Int} {k : Nat} (hk : k < L.length) : M.totalI (L.take (k + 1)) = M.addI (M.totalI (L.take k)) (L.getD k 0) := by
  unfold M.totalI
  rw [List.take_succ_eq_append_getElem hk, List.foldl_append, M.getD_at hk]
  rfl

set_option maxHeartbeats 2000000 in
theorem rtotal_any (a : Option Addr) (xs : List Int) (ca : Nat) (w : World) (h : Rd w a xs) :
    Calls Tryz.prog 44 #[.slice a xs.length ca] w fun e w' => e = .returned (.int .i64 (M.totalI xs)) ∧ w' = w := by
  have hm : xs.length ≤ 9223372036854775807 := h.1
  have HR := hide h
  have TM : Hid (∀ k, k < xs.length → M.totalI (xs.take (k + 1)) = M.addI (M.totalI (xs.take k)) (xs.getD k 0)) := fun k hk => M.tot_more hk
  clear h
  go_enter Tryz.func44, Tryz.ntmps44
  go_wp2
  go_loopw [3, 4] (fun u i wr => ∃ k : Nat, k ≤ xs.length ∧ i = .int .i64 k ∧ u = .int .i64 (M.totalI (xs.take k)) ∧ Hid (wr = w)) (fun _ i _ => xs.length - (intOf i).toNat)
  case atStart => exact ⟨0, Nat.zero_le _, rfl, rfl, rfl⟩
  case round =>
    obtain ⟨k, hk, rfl, rfl, E⟩ := hrel
    have e := E.out
    subst e
    by_cases hlt : k < xs.length
    · obtain ⟨b, off, rfl, hb, hc⟩ := HR.out.2 (by intro e; rw [e] at hlt; simp at hlt)
      have hx := hc k hlt
      have kz : (k : Int) < (xs.length : Int) := by omega
      have N := hide (TM.out k hlt)
      clear hc TM
      generalize M.totalI (xs.take k) = t at *
      generalize xs.getD k 0 = x at *
      go_wp2_with (go_at_call 70; refine (radd_any t x _).mono ?_; rintro e w1 ⟨rfl, e1⟩; have e2 := e1.symm; subst e2)
      go_roundw
      case rel => exact ⟨k + 1, by omega, by go_num, by rw [N.out], (by first | rfl | trivial)⟩
      case measure => simp [intOf]; omega
    · have tk : xs.take k = xs := List.take_of_length_le (by omega)
      have kz : ¬ ((k : Int) < (xs.length : Int)) := by omega
      rw [tk]
      clear TM tk
      go_wp2
      go_ret
      exact ⟨rfl, (by first | rfl | trivial)⟩

set_option maxHeartbeats 4000000 in
set_option maxRecDepth 10000 in
theorem rsq_any (a : Option Addr) (xs : List Int) (ca : Nat) (w : World) (h : Rd w a xs) (hl : xs.length ≤ 1000) :
    Calls Tryz.prog 22 #[.slice a xs.length ca] w fun e w' => e = .returned (.int .i64 (M.sqF xs)) ∧ Below w.heap.size w w' := by
  have HR := hide h
  obtain ⟨i0, hi, hz0, hz1, hz2⟩ := info_parts info3
  have I0 := hide hi
  have ML : Hid (((xs.map fun x => M.mulI x x).take xs.length) = xs.map fun x => M.mulI x x) := List.take_of_length_le (by simp)
  have MK : Hid (∀ k, k < xs.length → (xs.map fun x => M.mulI x x).take (k + 1) = (xs.map fun x => M.mulI x x).take k ++ [M.mulI (xs.getD k 0) (xs.getD k 0)]) := fun k hk => by
    rw [List.take_succ_eq_append_getElem (by simpa using hk), List.getElem_map, M.getD_at hk]
  have MN : Hid (∀ k, k ≤ xs.length → ((xs.map fun x => M.mulI x x).take k).length = k) := fun k hk => by rw [List.length_take, List.length_map]; omega
  have E0 : Hid (M.sqF xs = M.totalI (xs.map fun x => M.mulI x x)) := rfl
  clear h hi
  rw [E0.out]
  generalize (xs.map fun x => M.mulI x x) = QS at *
  go_enter Tryz.func22, Tryz.ntmps22
  go_wp2
  go_loopw [3, 4, 5] (fun u i _ wr => ∃ (k : Nat) (va : Option Addr) (vc : Nat), k ≤ xs.length ∧ i = .int .i64 k ∧ u = .slice va (QS.take k).length vc ∧ Hid (wr.ownsRow w.heap.size 3 1 (.slice va (QS.take k).length vc) (QS.take k).length ((QS.take k).map (Value.int .i64))) ∧ Hid (Below w.heap.size w wr)) (fun _ i _ _ => xs.length - (intOf i).toNat)
  case atStart => exact ⟨0, none, 0, Nat.zero_le _, rfl, rfl, World.ownsRow_nil _ _ _ _, Below.refl _ _⟩
  case round =>
    obtain ⟨k, va, vc, hk, rfl, rfl, HO, K⟩ := hrel
    by_cases hlt : k < xs.length
    · obtain ⟨b, off, rfl, hb, hc⟩ := HR.out.2 (by intro e; rw [e] at hlt; simp at hlt)
      have hx := (K.out.cell (p := ⟨b, off + k, none⟩) hb).trans (hc k hlt)
      have kz : (k : Int) < (xs.length : Int) := by omega
      have N := hide (MK.out k hlt)
      have ql := MN.out k hk
      have lb : (QS.take k).length ≤ 1000 := by omega
      clear ql
      have MU := hide (rmul_any (xs.getD k 0) (xs.getD k 0))
      clear hc MK MN ML
      generalize QS.take k = L at *
      generalize M.mulI (xs.getD k 0) (xs.getD k 0) = z at *
      generalize xs.getD k 0 = x at *
      go_upto_region 5 with fail
      go_cut [5] from 12 to 20 (fun v wx => v = .int .i64 z ∧ Hid (Below wr.heap.size wr wx))
      case first =>
        have KD : Hid (Below wr.heap.size wr wr.drew) := (Below.refl _ _).drew
        clear HO K N I0
        go_region_held3 (fun V => V.cell? ⟨b, off + k, none⟩ = some (.int .i64 x)) (go_keep) ((go_at_call 43; refine (MU.out _).mono ?_; rintro e w1 ⟨rfl, e1⟩; have e2 := e1.symm; subst e2))
        all_goals (
          go_wp2
          go_meet
          case rel => exact ⟨rfl, KD⟩)
      case rest =>
        obtain ⟨rfl, kd⟩ := hcut
        have k4 := hide (below_on K.out kd.out)
        have kw4 := k4.out.size
        clear hx MU
        go_wp2_with (at_builtin; refine wpList_append_lies _ rfl (.tmp 21) (.tmp 23) 42 rfl w.heap.size 3 i0 (.int .i64 0) 1 8 Tryz.underlying42 I0.out hz0 hz1 hz2 rfl (by omega) (.slice va L.length vc) L.length (L.map (Value.int .i64)) rfl ((own_up HO.out kd.out).alloc _) ⟨wc.heap.size, 0, none⟩ 1 1 [.int .i64 z] rfl rfl (World.news_of_block (heap_alloc_new _ _)) (by simp [Value.oneCell']) (by omega) (by unfold maxLen; omega) (by omega) (by simp; omega) (wc.heap.size + 1) (by simp) ?_)
        intro g cap w5 hov5 hgrow hat hlt5
        have hb5 : Hid (Below w.heap.size w w5) := (k4.out.alloc k4.out.size _).grown hgrow (by simp; omega) (fun k hk => (HO.out.lt k hk).1)
        have HO5 : Hid (w5.ownsRow w.heap.size 3 1 (.slice (some ⟨g, 0, none⟩) (QS.take (k + 1)).length cap) (QS.take (k + 1)).length ((QS.take (k + 1)).map (Value.int .i64))) := by
          unfold Hid; rw [N.out, List.map_append, List.length_append]; exact hov5
        have NL : Hid (L.length + 1 = (QS.take (k + 1)).length) := by unfold Hid; rw [N.out, List.length_append]; rfl
        clear hov5 hgrow hat
        go_wp2
        go_roundw
        case rel => exact ⟨k + 1, some ⟨g, 0, none⟩, cap, by omega, by go_num, by rw [NL.out], HO5, hb5⟩
        case measure => simp [intOf]; omega
    · have ek : k = xs.length := by omega
      have kz : ¬ ((k : Int) < (xs.length : Int)) := by omega
      rw [ek, ML.out] at HO
      have ML2 := ML.out
      rw [← ek] at ML2
      have qn : QS.length ≤ 1000 := by have := MN.out k hk; rw [ML2] at this; omega
      rw [ML2]
      obtain ⟨pa, pc, hp1, hp2, _⟩ := own_rd HO.out
      have T := hide (rtotal_any va QS vc wr (by cases hp1; exact hp2))
      clear MK MN ML ML2 HO hp1 hp2 ek
      go_wp2_with (go_at_call 44; refine T.out.mono ?_; rintro e w1 ⟨rfl, e1⟩; have e2 := e1.symm; subst e2)
      go_ret
      exact ⟨rfl, K.out⟩

end Go.Proofs.YtpblpfleiilehafGreatDoor

namespace Go.Proofs.YtpblpfleiilehafGreatDoor
open Go.ChangeShapes Go.WideShapes Go.ChangeAt Go.RowKit Go.Lib
set_option linter.unusedVariables false

/-- a grove in a block, where it lies -/
structure Bx4 (W : World) (b : Nat) (G : Gr) : Prop where
  c0 : W.cell? ⟨b, 0, none⟩ = some (.int .i64 G.f)
  c1 : W.cell? ⟨b, 1, none⟩ = some (.int .i64 G.w)
  c2 : W.cell? ⟨b, 2, none⟩ = some (.slice G.wa G.ws.length G.wc)
  c3 : W.cell? ⟨b, 3, none⟩ = some (.slice G.ta G.ks.length G.tc)
  lt : b < W.heap.size
  rd : RdG W G
theorem Bx4.up {W W' : World} {b : Nat} {G : Gr} (h : Bx4 W b G) (hb : Below W.heap.size W W') : Bx4 W' b G :=
  ⟨(hb.cell (p := ⟨b, 0, none⟩) h.lt).trans h.c0, (hb.cell (p := ⟨b, 1, none⟩) h.lt).trans h.c1, (hb.cell (p := ⟨b, 2, none⟩) h.lt).trans h.c2, (hb.cell (p := ⟨b, 3, none⟩) h.lt).trans h.c3, Nat.lt_of_lt_of_le h.lt hb.size, h.rd.below hb⟩
theorem Bx4.new (W : World) (G : Gr) (h : RdG W G) : Bx4 (W.alloc (grB G)) W.heap.size G ∧ Below W.heap.size W (W.alloc (grB G)) := by
  obtain ⟨b, c0, c1, c2, c3, l⟩ := gr_box W G
  exact ⟨⟨c0, c1, c2, c3, l, h.below b⟩, b⟩

end Go.Proofs.YtpblpfleiilehafGreatDoor

namespace Go.Proofs.YtpblpfleiilehafGreatDoor
open Go.ChangeShapes Go.WideShapes Go.ChangeAt Go.RowKit Go.Lib
set_option linter.unusedVariables false

/-- a grove whose weights and trees lie in blocks that are new -/
def NewG (W w' : World) (J : Gr) : Prop := ∀ W'' : World, w'.heap.size ≤ W''.heap.size → (∀ b o, W.heap.size ≤ b → W''.cell? ⟨b, o, none⟩ = w'.cell? ⟨b, o, none⟩) → RdG W'' J

end Go.Proofs.YtpblpfleiilehafGreatDoor

namespace Go.Proofs.YtpblpfleiilehafGreatDoor
open Go.ChangeShapes Go.WideShapes Go.ChangeAt Go.RowKit Go.Lib
set_option linter.unusedVariables false

def RBoostGives : Prop := ∀ (a : Option Addr) (xs : List Sx) (ca : Nat) (m r d s : Int) (W : World), RdL W a xs → M.booF (sms xs) m r d s = 0 → Calls Tryz.prog 16 #[.slice a xs.length ca, .int .i64 m, .int .i64 r, .int .i64 d, .int .i64 s] W fun e w' => ∃ J : Gr, e = .returned J.v ∧ J.m = M.booG (sms xs) m r d s ∧ NewG W w' J ∧ Below W.heap.size W w'

end Go.Proofs.YtpblpfleiilehafGreatDoor
