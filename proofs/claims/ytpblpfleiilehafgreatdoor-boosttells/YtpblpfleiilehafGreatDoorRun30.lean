/-
  Several texts as one: BooFit, GCheck.
-/
import Derived.Test.YtpblpfleiilehafGreatDoorRun29
import Derived.Test.YtpblpfleiilehafGreatDoorRun9
import Derived.Test.YtpblpfleiilehafGreatDoorRun8
import Derived.Test.YtpblpfleiilehafGreatDoorRun28
import Derived.Deep.Cut
import Derived.Deep.CutRange
namespace Go.Proofs.YtpblpfleiilehafGreatDoor
open Go.ChangeShapes Go.WideShapes Go.ChangeAt Go.RowKit Go.Lib
set_option linter.unusedVariables false

theorem isfrom_any (n lo hi : Int) (w : World) :
    Calls Tryz.prog 39 #[.int .i64 n, .int .i64 lo, .int .i64 hi] w fun e w' => e = .returned (.bool (decide (lo ≤ n ∧ n ≤ hi))) ∧ w' = w := by
  by_cases h1 : lo ≤ n
  · have E : Hid (decide (n ≤ hi) = decide (lo ≤ n ∧ n ≤ hi)) := by unfold Hid; rw [Bool.eq_iff_iff, decide_eq_true_eq, decide_eq_true_eq]; omega
    have q : decide (lo ≤ n) = true := decide_eq_true h1
    clear h1
    go_enter Tryz.func39, Tryz.ntmps39
    go_wp2
    go_ret
    exact ⟨ret_bool E.out, rfl⟩
  · have E : Hid (false = decide (lo ≤ n ∧ n ≤ hi)) := by unfold Hid; rw [decide_eq_false (by omega)]
    have q : decide (lo ≤ n) = false := decide_eq_false h1
    clear h1
    go_enter Tryz.func39, Tryz.ntmps39
    go_wp2
    go_ret
    exact ⟨ret_bool E.out, rfl⟩

theorem isfrom_is (n lo hi : Int) (b : Bool) (w : World) (h : decide (lo ≤ n ∧ n ≤ hi) = b) :
    Calls Tryz.prog 39 #[.int .i64 n, .int .i64 lo, .int .i64 hi] w fun e w' => e = .returned (.bool b) ∧ w' = w := by
  subst h
  exact isfrom_any n lo hi w

def nilGr : Gr := ⟨0, 0, none, [], 0, none, [], 0⟩
theorem nilGr_rdg (w : World) : RdG w nilGr := ⟨⟨Nat.zero_le _, fun h => absurd rfl h⟩, ⟨Nat.zero_le _, (fun k hk => by cases hk), fun h => absurd rfl h⟩⟩
theorem M.booF_sam {l : List M.Sa} {m r d s : Int} (h : (M.samF l m).2 ≠ 0) : M.booF l m r d s = (M.samF l m).2 := by unfold M.booF; rw [if_pos h]
theorem M.booF_num {l : List M.Sa} {m r d s : Int} (h : (M.samF l m).2 = 0) (k : r < 0 ∨ 8 < r ∨ d < 1 ∨ 4 < d ∨ s < 1 ∨ 100 < s) : M.booF l m r d s = 1 := by unfold M.booF; rw [if_neg (by simp [h]), if_pos k]
theorem M.booG_no {l : List M.Sa} {m r d s : Int} (h : M.booF l m r d s ≠ 0) : M.booG l m r d s = (0, 0, [], []) := by unfold M.booG; rw [if_neg h]
theorem kept4 {w w0 W : World} {a0 a1 a2 a3 : Value} {t : TypeId} (e : w0 = w.alloc (.cells #[a0, a1, a2, a3] t)) (h : Below w0.heap.size w0 W) : (W.cell? ⟨w.heap.size, 0, none⟩ = some a0 ∧ W.cell? ⟨w.heap.size, 1, none⟩ = some a1 ∧ W.cell? ⟨w.heap.size, 2, none⟩ = some a2 ∧ W.cell? ⟨w.heap.size, 3, none⟩ = some a3) ∧ ∀ i, W.frozen? ⟨w.heap.size, i, none⟩ = false := by
  have N := new_kept e h
  exact ⟨⟨N.1 0 _ rfl, N.1 1 _ rfl, N.1 2 _ rfl, N.1 3 _ rfl⟩, N.2⟩

set_option maxHeartbeats 8000000 in
set_option maxRecDepth 10000 in
/-- where something is wrong -/
theorem boofit_bad (a : Option Addr) (xs : List Sx) (ca : Nat) (m r d s : Int) (w : World) (h : RdL w a xs) (hB : M.booF (sms xs) m r d s ≠ 0) :
    Calls Tryz.prog 17 #[.slice a xs.length ca, .int .i64 m, .int .i64 r, .int .i64 d, .int .i64 s] w fun e w' => e = .returned (.tuple #[nilGr.v, errV (M.booF (sms xs) m r d s)]) ∧ Below w.heap.size w w' := by
  have CK := hide (fun W (hW : Below w.heap.size w W) => grochk_any a xs ca m W (h.below hW))
  have B0 : Hid (∀ o, Below w.heap.size w (w.alloc o)) := fun o => (Below.refl _ w).alloc (Nat.le_refl _) o
  obtain ⟨w0, hw0⟩ : ∃ V, V = w.alloc (.cells #[.int .i64 0, .int .i64 0, .slice none 0 0, .slice none 0 0] 45) := ⟨_, rfl⟩
  have K0 : Hid (Below w.heap.size w w0) := by unfold Hid; rw [hw0]; exact B0.out _
  have KP := hide (fun W (hW : Below w0.heap.size w0 W) => kept4 hw0 hW)
  have C0 := hide (CK.out w0 K0.out)
  unfold Gr.v nilGr
  by_cases h1 : (M.samF (sms xs) m).2 = 0
  · by_cases k : r < 0 ∨ 8 < r ∨ d < 1 ∨ 4 < d ∨ s < 1 ∨ 100 < s
    · rw [M.booF_num h1 k, err_some (by decide)]
      rw [h1, err_nil rfl] at C0
      clear CK B0 h h1 hB
      generalize (M.samF (sms xs) m).1 = sp at *
      generalize xs.length = n at *
      by_cases k1 : 0 ≤ r ∧ r ≤ 8
      · have F1 : Hid (decide (0 ≤ r ∧ r ≤ 8) = true) := decide_eq_true k1
        by_cases k2 : 1 ≤ d ∧ d ≤ 4
        · have F2 : Hid (decide (1 ≤ d ∧ d ≤ 4) = true) := decide_eq_true k2
          have F3 : Hid (decide (1 ≤ s ∧ s ≤ 100) = false) := decide_eq_false (by omega)
          clear k k1 k2
          go_enter Tryz.func17, Tryz.ntmps17
          go_upto_region 1 with fail
          rw [← hw0]
          clear hw0
          go_wp2_with (first
            | (go_at_call 6; refine C0.out.mono ?_; rintro e w1 ⟨rfl, hb1⟩; have K1 := hide hb1; obtain ⟨⟨y0, y1, y2, y3⟩, yf⟩ := KP.out w1 hb1; have f0 := yf 0; have f1 := yf 1; have f2 := yf 2; have f3 := yf 3; clear hb1 yf)
            | (go_at_call 39; refine (isfrom_is _ _ _ _ _ (by first | exact F1.out | exact F2.out | exact F3.out)).mono ?_; rintro e w2 ⟨rfl, e2⟩; have e2' := e2.symm; subst e2'))
          obtain ⟨e0, e1, e2, e3⟩ := put4 (x0 := .int .i64 0) (x1 := .int .i64 0) (x2 := .slice none 0 0) (x3 := .slice none 0 0) y0 y1 y2 y3
          refine bodyPost_ret (v := .tuple #[.agg #[.int .i64 0, .int .i64 0, .slice none 0 0, .slice none 0 0], .iface 61 (.int .i64 1)]) (by simp [results, Tryz.results17, go_sem, e0, e1, e2, e3]) rfl ?_
          exact ⟨rfl, lay4 (below_on K0.out K1.out) (Nat.le_refl _)⟩
        · have F2 : Hid (decide (1 ≤ d ∧ d ≤ 4) = false) := decide_eq_false k2
          clear k k1 k2
          go_enter Tryz.func17, Tryz.ntmps17
          go_upto_region 1 with fail
          rw [← hw0]
          clear hw0
          go_wp2_with (first
            | (go_at_call 6; refine C0.out.mono ?_; rintro e w1 ⟨rfl, hb1⟩; have K1 := hide hb1; obtain ⟨⟨y0, y1, y2, y3⟩, yf⟩ := KP.out w1 hb1; have f0 := yf 0; have f1 := yf 1; have f2 := yf 2; have f3 := yf 3; clear hb1 yf)
            | (go_at_call 39; refine (isfrom_is _ _ _ _ _ (by first | exact F1.out | exact F2.out | exact F3.out)).mono ?_; rintro e w2 ⟨rfl, e2⟩; have e2' := e2.symm; subst e2'))
          obtain ⟨e0, e1, e2, e3⟩ := put4 (x0 := .int .i64 0) (x1 := .int .i64 0) (x2 := .slice none 0 0) (x3 := .slice none 0 0) y0 y1 y2 y3
          refine bodyPost_ret (v := .tuple #[.agg #[.int .i64 0, .int .i64 0, .slice none 0 0, .slice none 0 0], .iface 61 (.int .i64 1)]) (by simp [results, Tryz.results17, go_sem, e0, e1, e2, e3]) rfl ?_
          exact ⟨rfl, lay4 (below_on K0.out K1.out) (Nat.le_refl _)⟩
      · have F1 : Hid (decide (0 ≤ r ∧ r ≤ 8) = false) := decide_eq_false k1
        clear k k1
        go_enter Tryz.func17, Tryz.ntmps17
        go_upto_region 1 with fail
        rw [← hw0]
        clear hw0
        go_wp2_with (first
          | (go_at_call 6; refine C0.out.mono ?_; rintro e w1 ⟨rfl, hb1⟩; have K1 := hide hb1; obtain ⟨⟨y0, y1, y2, y3⟩, yf⟩ := KP.out w1 hb1; have f0 := yf 0; have f1 := yf 1; have f2 := yf 2; have f3 := yf 3; clear hb1 yf)
          | (go_at_call 39; refine (isfrom_is _ _ _ _ _ (by first | exact F1.out | exact F2.out | exact F3.out)).mono ?_; rintro e w2 ⟨rfl, e2⟩; have e2' := e2.symm; subst e2'))
        obtain ⟨e0, e1, e2, e3⟩ := put4 (x0 := .int .i64 0) (x1 := .int .i64 0) (x2 := .slice none 0 0) (x3 := .slice none 0 0) y0 y1 y2 y3
        refine bodyPost_ret (v := .tuple #[.agg #[.int .i64 0, .int .i64 0, .slice none 0 0, .slice none 0 0], .iface 61 (.int .i64 1)]) (by simp [results, Tryz.results17, go_sem, e0, e1, e2, e3]) rfl ?_
        exact ⟨rfl, lay4 (below_on K0.out K1.out) (Nat.le_refl _)⟩
    · exfalso
      refine hB ?_
      unfold M.booF
      rw [if_neg (by simp [h1]), if_neg k]
  · rw [M.booF_sam h1, err_some h1]
    rw [err_some h1] at C0
    clear CK B0 h h1 hB
    generalize (M.samF (sms xs) m).1 = sp at *
    generalize (M.samF (sms xs) m).2 = sf at *
    generalize xs.length = n at *
    go_enter Tryz.func17, Tryz.ntmps17
    go_upto_region 1 with fail
    rw [← hw0]
    clear hw0
    go_wp2_with (go_at_call 6; refine C0.out.mono ?_; rintro e w1 ⟨rfl, hb1⟩; have K1 := hide hb1; obtain ⟨⟨y0, y1, y2, y3⟩, yf⟩ := KP.out w1 hb1; have f0 := yf 0; have f1 := yf 1; have f2 := yf 2; have f3 := yf 3; clear hb1 yf)
    obtain ⟨e0, e1, e2, e3⟩ := put4 (x0 := .int .i64 0) (x1 := .int .i64 0) (x2 := .slice none 0 0) (x3 := .slice none 0 0) y0 y1 y2 y3
    refine bodyPost_ret (v := .tuple #[.agg #[.int .i64 0, .int .i64 0, .slice none 0 0, .slice none 0 0], .iface 61 (.int .i64 sf)]) (by simp [results, Tryz.results17, go_sem, e0, e1, e2, e3]) rfl ?_
    exact ⟨rfl, lay4 (below_on K0.out K1.out) (Nat.le_refl _)⟩

theorem map_map_lay (n : Nat) (C : List Tc) (L : List M.BT) (h : LayC C L) : (tl C).map (fun t => t.map (M.scN (M.tmN n))) = L.map (M.boL n) := by
  have h' : tl C = L.map (fun T => M.lay T 0) := h
  rw [h', List.map_map]
  refine List.map_congr_left fun T hT => ?_
  show (M.lay T 0).map (M.scN (M.tmN n)) = M.lay (M.scB (M.tmN n) T) 0
  rw [M.sc_lay (M.tm_zero n)]

set_option maxHeartbeats 8000000 in
set_option maxRecDepth 10000 in
theorem boofit_any : BooFitGives := by
  intro a xs ca m r d s w h
  by_cases hB : M.booF (sms xs) m r d s = 0
  · obtain ⟨gk, r0, r8, d1, d4, s1, s2⟩ := M.boo_ok hB
    obtain ⟨GS, hp, hm, _⟩ := M.sam_ok gk
    obtain ⟨I, BL⟩ := M.boo_inv hB
    obtain ⟨mn, rfl⟩ : ∃ mn : Nat, m = (mn : Int) := ⟨m.toNat, hm.symm⟩
    obtain ⟨dn, rfl⟩ : ∃ dn : Nat, d = (dn : Int) := ⟨d.toNat, by omega⟩
    have eg : M.booG (sms xs) (mn : Int) r (dn : Int) s = M.boG (mn : Int) (M.booS (sms xs) (mn : Int) r (dn : Int) s).1 := by unfold M.booG; rw [if_pos hB]
    have es : M.booS (sms xs) (mn : Int) r (dn : Int) s = M.boR mn dn s (sms xs) r.toNat := by unfold M.booS; rw [Int.toNat_natCast, Int.toNat_natCast]
    rw [es] at eg BL
    have B0 : Hid (∀ o, Below w.heap.size w (w.alloc o)) := fun o => (Below.refl _ w).alloc (Nat.le_refl _) o
    obtain ⟨w0, hw0⟩ : ∃ V, V = w.alloc (.cells #[.int .i64 0, .int .i64 0, .slice none 0 0, .slice none 0 0] 45) := ⟨_, rfl⟩
    have K0 : Hid (Below w.heap.size w w0) := by unfold Hid; rw [hw0]; exact B0.out _
    have z0 : Hid (w0.heap.size = w.heap.size + 1) := by unfold Hid; rw [hw0]; simp
    have KP := hide (fun W (hW : Below w0.heap.size w0 W) => kept4 hw0 hW)
    have C0 := hide (grochk_any a xs ca (mn : Int) w0 (h.below K0.out))
    rw [gk, err_nil rfl] at C0
    have TB := hide (fun W (hW : Below w0.heap.size w0 W) => btbt_any a xs ca mn dn r s W (h.below (below_on K0.out hW)) hB)
    have MN : Hid (∀ W V bx tc (C : List Tc), MO V V.heap.size (.slice (some ⟨bx, 0, none⟩) C.length tc) C W → LayC C (M.boR mn dn s (sms xs) r.toNat).1 → Calls Tryz.prog 41 #[.slice (some ⟨bx, 0, none⟩) C.length tc, .int .i64 (mn : Int)] W fun e w' => ∃ J : Gr, e = .returned J.v ∧ J.m = M.booG (sms xs) (mn : Int) r (dn : Int) s ∧ NewG V w' J ∧ Below V.heap.size V w') := fun W V bx tc C hM hL => by
      have cl : C.length = (M.boR mn dn s (sms xs) r.toNat).1.length := by have := congrArg List.length hL; simpa using this
      have ct : ∀ i (hi : i < C.length), ∃ T ∈ (M.boR mn dn s (sms xs) r.toNat).1, C[i].2.1 = M.lay T 0 := fun i hi => by
        have hL' : i < (M.boR mn dn s (sms xs) r.toNat).1.length := by omega
        have h1 : (C.map (fun t => t.2.1))[i]'(by simpa using hi) = ((M.boR mn dn s (sms xs) r.toNat).1.map (fun T => M.lay T 0))[i]'(by simpa using hL') := by
          have := hL
          unfold LayC at this
          simp only [this]
        rw [List.getElem_map, List.getElem_map] at h1
        exact ⟨_, List.getElem_mem hL', h1⟩
      have := bmean_any V V.heap.size bx tc C (mn : Int) W hM (by rw [cl]; exact BL.t9) (fun i hi => by
        obtain ⟨T, hT, e⟩ := ct i hi
        rw [e, M.lay_len]
        have := (BL.each T hT).2.2.2
        omega) (fun i hi t ht => by
        obtain ⟨T, hT, e⟩ := ct i hi
        rw [nAt_in _ ht]
        have mem : C[i].2.1[t] ∈ M.lay T 0 := by rw [← e]; exact List.getElem_mem ht
        exact M.lay_in (by decide) T 0 (BL.each T hT).2.1 _ mem)
      refine this.mono ?_
      rintro e w' ⟨J, rfl, hJ, hn, hb⟩
      refine ⟨J, rfl, ?_, hn, hb⟩
      rw [hJ, eg, map_map_lay _ C _ hL, cl]
      rfl
    have F1 : Hid (decide (0 ≤ r ∧ r ≤ 8) = true) := decide_eq_true ⟨r0, r8⟩
    have F2 : Hid (decide (1 ≤ (dn : Int) ∧ (dn : Int) ≤ 4) = true) := decide_eq_true ⟨d1, d4⟩
    have F3 : Hid (decide (1 ≤ s ∧ s ≤ 100) = true) := decide_eq_true ⟨s1, s2⟩
    rw [hB, err_nil rfl]
    clear h hB gk GS hp hm I BL eg es B0 r0 r8 d1 d4 s1 s2
    generalize M.booG (sms xs) (mn : Int) r (dn : Int) s = GG at *
    generalize (M.boR mn dn s (sms xs) r.toNat).1 = LL at *
    generalize (M.samF (sms xs) (mn : Int)).1 = sp at *
    generalize xs.length = n at *
    go_enter Tryz.func17, Tryz.ntmps17
    go_upto_region 1 with fail
    rw [← hw0]
    clear hw0
    go_wp2_with (first
      | (go_at_call 6; refine C0.out.mono ?_; rintro e w1 ⟨rfl, hb1⟩; have K1 := hide hb1; clear hb1)
      | (go_at_call 39; refine (isfrom_is _ _ _ _ _ (by first | exact F1.out | exact F2.out | exact F3.out)).mono ?_; rintro e w2 ⟨rfl, e2⟩; have e2' := e2.symm; subst e2')
      | (go_at_call 40; refine (TB.out _ K1.out).mono ?_; rintro e w3 ⟨bx, tc, C, rfl, hM, hL⟩; have M3 := hide hM; have L3 := hide hL; clear hM hL)
      | (go_at_call 41; refine (MN.out _ _ _ _ C M3.out L3.out).mono ?_; rintro e w4 ⟨J, rfl, hJ, hn, hb4⟩; have HJ := hide hJ; have HN := hide hn; have K4 := hide (below_on K1.out hb4); obtain ⟨⟨y0, y1, y2, y3⟩, yf⟩ := KP.out w4 K4.out; have f0 := yf 0; have f1 := yf 1; have f2 := yf 2; have f3 := yf 3; unfold Gr.v; clear hJ hn hb4 yf))
    obtain ⟨e0, e1, e2, e3⟩ := put4 (x0 := .int .i64 J.f) (x1 := .int .i64 J.w) (x2 := .slice J.wa J.ws.length J.wc) (x3 := .slice J.ta J.ks.length J.tc) y0 y1 y2 y3
    refine bodyPost_ret (v := .tuple #[.agg #[.int .i64 J.f, .int .i64 J.w, .slice J.wa J.ws.length J.wc, .slice J.ta J.ks.length J.tc], .nilIface]) (by simp [results, Tryz.results17, go_sem, e0, e1, e2, e3]) rfl ?_
    refine ⟨J, rfl, HJ.out, ?_, lay4 (below_on K0.out K4.out) (Nat.le_refl _)⟩
    have l1 := K1.out.size
    have l0 := z0.out
    have cn : ∀ (V : World) (b o i : Nat) (v : Value), w.heap.size < b → (V.setCell ⟨w.heap.size, i, none⟩ v).cell? ⟨b, o, none⟩ = V.cell? ⟨b, o, none⟩ := fun V b o i v hb => World.cell?_setCell_other _ _ _ _ (by intro e; cases e; omega)
    refine HN.out _ (by simp) fun b o hb => ?_
    rw [cn _ _ _ _ _ (by omega), cn _ _ _ _ _ (by omega), cn _ _ _ _ _ (by omega), cn _ _ _ _ _ (by omega)]
  · have e := M.booG_no hB
    refine (boofit_bad a xs ca m r d s w h hB).mono ?_
    rintro e' w' ⟨rfl, hb⟩
    exact ⟨nilGr, rfl, by rw [e]; rfl, nilGr_rdg _, hb⟩

end Go.Proofs.YtpblpfleiilehafGreatDoor

namespace Go.Proofs.YtpblpfleiilehafGreatDoor
open Go.ChangeShapes Go.WideShapes Go.ChangeAt Go.RowKit Go.Lib
set_option linter.unusedVariables false

theorem isway_any (x : Int) (w : World) (iw : Bool) (h : Hid (iw = decide (1 ≤ x ∧ x ≤ 3))) :
    Calls Tryz.prog 71 #[.int .i64 x] w fun e w' => e = .returned (.bool iw) ∧ w' = w := by
  rcases (show x = 1 ∨ x = 2 ∨ x = 3 ∨ (x ≠ 1 ∧ x ≠ 2 ∧ x ≠ 3) from by omega) with c | c | c | ⟨c1, c2, c3⟩
  · have q1 : (x == 1) = true := by rw [beq_iff_eq]; exact c
    have E : Hid (true = iw) := by unfold Hid; rw [h.out, decide_eq_true (by omega)]
    clear c h
    go_enter Tryz.func71, Tryz.ntmps71
    go_wp2
    go_ret
    exact ⟨ret_bool E.out, rfl⟩
  · have q1 : (x == 1) = false := by rw [beq_eq_false_iff_ne]; omega
    have q2 : (x == 2) = true := by rw [beq_iff_eq]; exact c
    have E : Hid (true = iw) := by unfold Hid; rw [h.out, decide_eq_true (by omega)]
    clear c h
    go_enter Tryz.func71, Tryz.ntmps71
    go_wp2
    go_ret
    exact ⟨ret_bool E.out, rfl⟩
  · have q1 : (x == 1) = false := by rw [beq_eq_false_iff_ne]; omega
    have q2 : (x == 2) = false := by rw [beq_eq_false_iff_ne]; omega
    have q3 : (x == 3) = true := by rw [beq_iff_eq]; exact c
    have E : Hid (true = iw) := by unfold Hid; rw [h.out, decide_eq_true (by omega)]
    clear c h
    go_enter Tryz.func71, Tryz.ntmps71
    go_wp2
    go_ret
    exact ⟨ret_bool E.out, rfl⟩
  · have q1 : (x == 1) = false := by rw [beq_eq_false_iff_ne]; omega
    have q2 : (x == 2) = false := by rw [beq_eq_false_iff_ne]; omega
    have q3 : (x == 3) = false := by rw [beq_eq_false_iff_ne]; omega
    have E : Hid (false = iw) := by unfold Hid; rw [h.out, decide_eq_false (by omega)]
    clear c1 c2 c3 h
    go_enter Tryz.func71, Tryz.ntmps71
    go_wp2
    go_ret
    exact ⟨ret_bool E.out, rfl⟩

theorem kept_box {w W : World} {a0 a1 a2 a3 : Value} {t : TypeId} (h : Below (w.alloc (.cells #[a0, a1, a2, a3] t)).heap.size (w.alloc (.cells #[a0, a1, a2, a3] t)) W) :
    W.cell? ⟨w.heap.size, 0, none⟩ = some a0 ∧ W.cell? ⟨w.heap.size, 1, none⟩ = some a1 ∧ W.cell? ⟨w.heap.size, 2, none⟩ = some a2 ∧ W.cell? ⟨w.heap.size, 3, none⟩ = some a3 := by
  have hs : w.heap.size < (w.alloc (.cells #[a0, a1, a2, a3] t)).heap.size := by simp
  exact ⟨(h.cell (p := ⟨w.heap.size, 0, none⟩) hs).trans (World.cell?_alloc_at _ _ _ 0 rfl), (h.cell (p := ⟨w.heap.size, 1, none⟩) hs).trans (World.cell?_alloc_at _ _ _ 1 rfl), (h.cell (p := ⟨w.heap.size, 2, none⟩) hs).trans (World.cell?_alloc_at _ _ _ 2 rfl), (h.cell (p := ⟨w.heap.size, 3, none⟩) hs).trans (World.cell?_alloc_at _ _ _ 3 rfl)⟩
theorem M.grove_rng {g : M.Gv} (h : M.gf g < 0 ∨ 8 < M.gf g ∨ M.gw g < 1 ∨ 3 < M.gw g) : M.groveF g = 1 := by unfold M.groveF; rw [if_pos h]
theorem err_num (c : Int) (h : c ≠ 0) : Ending.returned (.iface 61 (.int .i64 c)) = .returned (errV c) := by rw [err_some h]
theorem err_is {c d : Int} (h : c = d) (h0 : c ≠ 0) : Ending.returned (.iface 61 (.int .i64 c)) = .returned (errV d) := by rw [← h, err_some h0]
theorem err_none {d : Int} (h : d = 0) : Ending.returned .nilIface = .returned (errV d) := by rw [err_nil h]

/-- what is wrong with how many trees there are, or with their weights -/
def M.wtsF (ws : List Int) (n : Nat) : Int := if n = 0 then 5 else if 12 < n then 4 else if ws.length ≠ n then 3 else if ws.any M.wBad = true then 1 else 0
theorem err_go {c d : Int} (h : c = d) : Ending.returned (errV c) = .returned (errV d) := by rw [h]

set_option maxHeartbeats 4000000 in
theorem gwts_any (a : Option Addr) (ws : List Int) (ca n : Nat) (w : World) (h : Rd w a ws) :
    Calls Tryz.prog 72 #[.slice a ws.length ca, .int .i64 (n : Nat)] w fun e w' => e = .returned (errV (M.wtsF ws n)) ∧ w' = w := by
  have hm2 : ws.length ≤ 9223372036854775807 := h.1
  have HR := hide h
  clear h
  unfold M.wtsF
  by_cases t0 : n = 0
  · rw [if_pos t0]
    have q4 : ((n : Int) == 0) = true := by rw [beq_iff_eq]; omega
    clear t0
    go_enter Tryz.func72, Tryz.ntmps72
    go_wp2
    go_ret
    exact ⟨err_num 5 (by decide), rfl⟩
  · rw [if_neg t0]
    have q4 : ((n : Int) == 0) = false := by rw [beq_eq_false_iff_ne]; omega
    have t0' : 0 < n := by omega
    by_cases t12 : 12 < n
    · rw [if_pos t12]
      have q5 : decide (12 < (n : Int)) = true := decide_eq_true (by omega)
      clear t0 t12 t0'
      go_enter Tryz.func72, Tryz.ntmps72
      go_wp2
      go_ret
      exact ⟨err_num 4 (by decide), rfl⟩
    · rw [if_neg t12]
      have q5 : decide (12 < (n : Int)) = false := decide_eq_false (by omega)
      by_cases tw : ws.length ≠ n
      · rw [if_pos tw]
        have q6 : ((ws.length : Int) != (n : Int)) = true := by rw [bne_iff_ne]; omega
        clear t0 t12 t0' tw
        go_enter Tryz.func72, Tryz.ntmps72
        go_wp2
        go_ret
        exact ⟨err_num 3 (by decide), rfl⟩
      · rw [if_neg tw]
        have WB : Hid (∀ k (h : k < ws.length), M.wBad (ws.getD k 0) = true → ws.any M.wBad = true) := fun k h e => List.any_eq_true.2 ⟨_, by rw [M.getD_at h]; exact List.getElem_mem h, e⟩
        have WN : Hid ((∀ k, k < ws.length → M.wBad (ws.getD k 0) = false) → ws.any M.wBad = false) := fun h => by
          cases e : ws.any M.wBad with
          | false => rfl
          | true =>
            obtain ⟨x, hx, e2⟩ := List.any_eq_true.1 e
            obtain ⟨i, hi, rfl⟩ := List.getElem_of_mem hx
            have := h i hi
            rw [M.getD_at hi, e2] at this
            cases this
        have q6 : ((ws.length : Int) != (n : Int)) = false := by rw [bne_eq_false_iff_eq]; omega
        obtain ⟨bw, ow, ewa, hbw, hcw0⟩ := HR.out.2 (by intro e; rw [e] at tw; simp at tw; omega)
        have HCW := hide hcw0
        subst ewa
        clear HR t0 t12 tw t0' hcw0
        generalize hAB : ws.any M.wBad = AB at *
        have HAB := hide hAB
        clear hAB
        generalize hRV : (if AB = true then (1 : Int) else 0) = RV
        have HRV := hide hRV
        clear hRV
        go_enter Tryz.func72, Tryz.ntmps72
        go_wp2
        go_loopw [20] (fun i wr => ∃ k : Nat, k ≤ ws.length ∧ i = .int .i64 k ∧ Hid (∀ j, j < k → M.wBad (ws.getD j 0) = false) ∧ wr = w) (fun i _ => ws.length - (intOf i).toNat)
        case atStart => exact ⟨0, Nat.zero_le _, rfl, fun j hj => by omega, rfl⟩
        case round =>
          obtain ⟨k, hk, rfl, I, ew⟩ := hrel
          subst ew
          by_cases hlt : k < ws.length
          · have cw := HCW.out k hlt
            have kz : (k : Int) < (ws.length : Int) := by omega
            have wb : M.wBad (ws.getD k 0) = (decide (ws.getD k 0 < 1) || decide (1000 < ws.getD k 0)) := rfl
            by_cases b1 : ws.getD k 0 < 1
            · have E : Hid (AB = true) := WB.out k hlt (by rw [wb, decide_eq_true b1]; rfl)
              have p1 : decide (ws.getD k 0 < 1) = true := decide_eq_true b1
              have RE : Hid ((1 : Int) = RV) := by unfold Hid; rw [← HRV.out, if_pos E.out]
              clear WB WN wb b1 E HCW I
              generalize ws.getD k 0 = z at *
              go_wp2
              go_ret
              exact ⟨err_is RE.out (by decide), rfl⟩
            · by_cases b2 : 1000 < ws.getD k 0
              · have E : Hid (AB = true) := WB.out k hlt (by rw [wb, decide_eq_true b2]; simp)
                have p1 : decide (ws.getD k 0 < 1) = false := decide_eq_false b1
                have p2 : decide (1000 < ws.getD k 0) = true := decide_eq_true b2
                have RE : Hid ((1 : Int) = RV) := by unfold Hid; rw [← HRV.out, if_pos E.out]
                clear WB WN wb b1 b2 E HCW I
                generalize ws.getD k 0 = z at *
                go_wp2
                go_ret
                exact ⟨err_is RE.out (by decide), rfl⟩
              · have p1 : decide (ws.getD k 0 < 1) = false := decide_eq_false b1
                have p2 : decide (1000 < ws.getD k 0) = false := decide_eq_false b2
                have N : Hid (∀ j, j < k + 1 → M.wBad (ws.getD j 0) = false) := fun j hj => by
                  by_cases e : j = k
                  · rw [e, wb, p1, p2]; rfl
                  · exact I.out j (by omega)
                clear WB WN wb b1 b2 HCW I
                generalize ws.getD k 0 = z at *
                go_wp2
                go_roundw
                case rel => exact ⟨k + 1, by omega, by go_num, N, trivial⟩
                case measure => simp [intOf]; omega
          · have E : Hid (AB = false) := WN.out (fun j hj => I.out j (by omega))
            have RE : Hid (RV = 0) := by unfold Hid; rw [← HRV.out, E.out]; rfl
            clear WB WN I E HAB HCW
            go_wp2
            go_ret
            exact ⟨err_none RE.out, rfl⟩

theorem M.grove_wts {g : M.Gv} (h : ¬ (M.gf g < 0 ∨ 8 < M.gf g ∨ M.gw g < 1 ∨ 3 < M.gw g)) : M.groveF g = if M.wtsF (M.gs g) (M.gt g).length ≠ 0 then M.wtsF (M.gs g) (M.gt g).length else M.treesF (M.gf g) (M.gt g) := by
  unfold M.groveF M.wtsF
  rw [if_neg h]
  repeat' split
  all_goals first | rfl | omega | simp_all

set_option maxHeartbeats 16000000 in
set_option maxRecDepth 10000 in
theorem gcheck_any (G : Gr) (w : World) (h : RdG w G) :
    Calls Tryz.prog 45 #[G.v] w fun e w' => e = .returned (errV (M.groveF G.m)) ∧ Below w.heap.size w w' := by
  have hm1 : G.ks.length ≤ 9223372036854775807 := h.2.1
  have hm2 : G.ws.length ≤ 9223372036854775807 := h.1.1
  have HG := hide h
  have tlen : (M.gt G.m).length = G.ks.length := tl_len G.ks
  have B0 : Hid (∀ o, Below w.heap.size w (w.alloc o)) := fun o => (Below.refl _ w).alloc (Nat.le_refl _) o
  obtain ⟨iw, hiw⟩ : ∃ iw : Bool, iw = decide (1 ≤ G.w ∧ G.w ≤ 3) := ⟨_, rfl⟩
  have IW := hide (fun W => isway_any G.w W iw hiw)
  have CW := hide (fun W (hW : Below w.heap.size w W) => gwts_any G.wa G.ws G.wc G.ks.length W (HG.out.below hW).1)
  clear h
  unfold Gr.v
  by_cases hR : M.gf G.m < 0 ∨ 8 < M.gf G.m ∨ M.gw G.m < 1 ∨ 3 < M.gw G.m
  · rw [M.grove_rng hR]
    have hR' : G.f < 0 ∨ 8 < G.f ∨ G.w < 1 ∨ 3 < G.w := hR
    clear hR tlen HG CW
    by_cases c0 : G.f < 0
    · have q0 : decide (G.f < 0) = true := decide_eq_true (by omega)
      clear hR' c0 hiw
      go_enter Tryz.func45, Tryz.ntmps45
      go_wp2
      go_ret
      exact ⟨err_num 1 (by decide), B0.out _⟩
    · by_cases c1 : 8 < G.f
      · have q0 : decide (G.f < 0) = false := decide_eq_false (by omega)
        have q1 : decide (8 < G.f) = true := decide_eq_true (by omega)
        clear hR' c0 c1 hiw
        go_enter Tryz.func45, Tryz.ntmps45
        go_wp2
        go_ret
        exact ⟨err_num 1 (by decide), B0.out _⟩
      · have q0 : decide (G.f < 0) = false := decide_eq_false (by omega)
        have q1 : decide (8 < G.f) = false := decide_eq_false (by omega)
        have e : iw = false := by rw [hiw, decide_eq_false (by omega)]
        subst e
        clear hR' c0 c1 hiw
        go_enter Tryz.func45, Tryz.ntmps45
        go_wp2_with (go_at_call 71; refine (IW.out _).mono ?_; rintro e w1 ⟨rfl, e1⟩; subst w1)
        go_ret
        exact ⟨err_num 1 (by decide), B0.out _⟩
  · have hR' : ¬ (G.f < 0 ∨ 8 < G.f ∨ G.w < 1 ∨ 3 < G.w) := hR
    have q0 : decide (G.f < 0) = false := decide_eq_false (by omega)
    have q1 : decide (8 < G.f) = false := decide_eq_false (by omega)
    have e : iw = true := by rw [hiw, decide_eq_true (by omega)]
    subst e
    have E0 : M.groveF G.m = if M.wtsF G.ws G.ks.length ≠ 0 then M.wtsF G.ws G.ks.length else M.treesF G.f (tl G.ks) := by
      rw [← tlen]; exact M.grove_wts hR
    rw [E0]
    clear hR E0 hiw hR'
    by_cases hw : M.wtsF G.ws G.ks.length ≠ 0
    · rw [if_pos hw]
      have HW := hide hw
      rw [err_some hw] at CW
      clear tlen HG hw
      generalize M.wtsF G.ws G.ks.length = wf at *
      go_enter Tryz.func45, Tryz.ntmps45
      go_wp2_with (first
        | (go_at_call 71; refine (IW.out _).mono ?_; rintro e w1 ⟨rfl, e1⟩; subst w1)
        | (go_at_call 72; refine (CW.out _ (B0.out _)).mono ?_; rintro e w2 ⟨rfl, e2⟩; subst w2))
      go_ret
      exact ⟨err_num _ HW.out, B0.out _⟩
    · rw [if_neg hw]
      have w0 : M.wtsF G.ws G.ks.length = 0 := by omega
      rw [w0, err_nil rfl] at CW
      have t0' : 0 < G.ks.length := by
        rcases Nat.eq_zero_or_pos G.ks.length with q | q
        · unfold M.wtsF at w0; rw [if_pos q] at w0; cases w0
        · exact q
      have n12 : G.ks.length ≤ 12 := by
        unfold M.wtsF at w0; rw [if_neg (by omega)] at w0
        by_cases q : 12 < G.ks.length
        · rw [if_pos q] at w0; cases w0
        · omega
      have TA : Hid (∀ k, k < G.ks.length → (∀ j, j < k → (M.treeF ((tl G.ks).getD j []) G.f).2 = 0) → (M.treeF ((tl G.ks).getD k []) G.f).2 ≠ 0 → M.treesF G.f (tl G.ks) = (M.treeF ((tl G.ks).getD k []) G.f).2) := fun k hk h hn => M.trees_at (by rw [tl_len]; exact hk) h hn
      have TN : Hid ((∀ j, j < G.ks.length → (M.treeF ((tl G.ks).getD j []) G.f).2 = 0) → M.treesF G.f (tl G.ks) = 0) := fun h => M.trees_all (fun j hj => h j (by rw [tl_len] at hj; exact hj))
      have TL : Hid (∀ k (h : k < G.ks.length), (tl G.ks).getD k [] = G.ks[k].2.1) := fun k h => tl_at G.ks h
      have RT : Hid (∀ W, Below w.heap.size w W → RdT W G.ta G.ks) := fun W hW => (HG.out.below hW).2
      obtain ⟨bt, ot, eta, hbt, hct0⟩ := HG.out.2.2.2 (by intro e; rw [e] at t0'; simp at t0')
      have HCT : Hid (∀ W, Below w.heap.size w W → ∀ i (hi : i < G.ks.length), W.cell? ⟨bt, ot + i, none⟩ = some (tV G.ks[i])) := fun W hW i hi => (hW.cell (p := ⟨bt, ot + i, none⟩) hbt).trans (hct0 i hi)
      rw [eta]
      clear tlen HG hw w0 hct0 hbt eta
      generalize M.treesF G.f (tl G.ks) = TF at *
      have KG : Hid (∀ W, Below (w.alloc (.cells #[.int .i64 G.f, .int .i64 G.w, .slice G.wa G.ws.length G.wc, .slice (some ⟨bt, ot, none⟩) G.ks.length G.tc] 45)).heap.size (w.alloc (.cells #[.int .i64 G.f, .int .i64 G.w, .slice G.wa G.ws.length G.wc, .slice (some ⟨bt, ot, none⟩) G.ks.length G.tc] 45)) W → Below w.heap.size w W ∧ W.cell? ⟨w.heap.size, 0, none⟩ = some (.int .i64 G.f) ∧ W.cell? ⟨w.heap.size, 3, none⟩ = some (.slice (some ⟨bt, ot, none⟩) G.ks.length G.tc)) := fun W hW =>
        ⟨below_on ((Below.refl _ w).alloc (Nat.le_refl _) _) hW, (kept_box hW).1, (kept_box hW).2.2.2⟩
      go_enter Tryz.func45, Tryz.ntmps45
      go_wp2_with (first
        | (go_at_call 71; refine (IW.out _).mono ?_; rintro e w1 ⟨rfl, e1⟩; subst w1)
        | (go_at_call 72; refine (CW.out _ (B0.out _)).mono ?_; rintro e w2 ⟨rfl, e2⟩; subst w2))
      go_loopw [35] (fun i wr => ∃ k : Nat, k ≤ G.ks.length ∧ i = .int .i64 k ∧ Hid (∀ j, j < k → (M.treeF ((tl G.ks).getD j []) G.f).2 = 0) ∧ Hid (Below (w.alloc (.cells #[.int .i64 G.f, .int .i64 G.w, .slice G.wa G.ws.length G.wc, .slice (some ⟨bt, ot, none⟩) G.ks.length G.tc] 45)).heap.size (w.alloc (.cells #[.int .i64 G.f, .int .i64 G.w, .slice G.wa G.ws.length G.wc, .slice (some ⟨bt, ot, none⟩) G.ks.length G.tc] 45)) wr)) (fun i _ => G.ks.length - (intOf i).toNat)
      case atStart => exact ⟨0, Nat.zero_le _, rfl, fun j hj => by omega, Below.refl _ _⟩
      case round =>
        obtain ⟨k, hk, rfl, I, K⟩ := hrel
        obtain ⟨kw, c0, c3⟩ := KG.out _ K.out
        by_cases hlt : k < G.ks.length
        · obtain ⟨hk1, hk2, hk3⟩ := RT.out wr kw
          have ct := HCT.out wr kw k hlt
          have rk := hk2 _ (List.getElem_mem hlt)
          have TE := TL.out k hlt
          have TR := hide (tcheck_any G.ks[k].1 G.ks[k].2.1 G.ks[k].2.2 G.f wr rk)
          have TAK := hide (TA.out k hlt I.out)
          rw [TE] at TAK
          have kz : (k : Int) < (G.ks.length : Int) := by omega
          unfold tV at ct
          have N : Hid ((M.treeF G.ks[k].2.1 G.f).2 = 0 → ∀ j, j < k + 1 → (M.treeF ((tl G.ks).getD j []) G.f).2 = 0) := fun hz j hj => by
            by_cases e : j = k
            · rw [e, TE]; exact hz
            · exact I.out j (by omega)
          clear hk1 hk2 hk3 HCT rk TE TA TN TL RT I
          generalize (M.treeF G.ks[k].2.1 G.f).2 = te at *
          generalize (M.treeF G.ks[k].2.1 G.f).1 = tp at *
          generalize G.ks[k].2.1.length = tn at *
          generalize G.ks[k].2.2 = tcc at *
          generalize G.ks[k].1 = ta at *
          by_cases hz : te = 0
          · rw [err_nil hz] at TR
            have NN := hide (N.out hz)
            clear hz N TAK
            go_wp2_with (go_at_call 37; refine TR.out.mono ?_; rintro e w5 ⟨rfl, hb5⟩; have K6 := hide (below_on K.out hb5))
            go_roundw
            case rel => exact ⟨k + 1, by omega, by go_num, NN, K6⟩
            case measure => simp [intOf]; omega
          · rw [err_some hz] at TR
            have TE2 := hide (TAK.out hz)
            have HZ := hide hz
            clear hz N TAK
            go_wp2_with (go_at_call 37; refine TR.out.mono ?_; rintro e w5 ⟨rfl, hb5⟩; have kw6 := below_on kw hb5)
            go_ret
            exact ⟨err_is (by rw [TE2.out]) HZ.out, kw6⟩
        · have TZ : Hid (TF = 0) := TN.out (fun j hj => I.out j (by omega))
          clear TA TN TL RT I HCT
          go_wp2
          go_ret
          exact ⟨err_none TZ.out, kw⟩

end Go.Proofs.YtpblpfleiilehafGreatDoor
