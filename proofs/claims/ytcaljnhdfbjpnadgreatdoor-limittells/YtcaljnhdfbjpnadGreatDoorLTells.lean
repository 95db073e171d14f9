/-
  LimitTells' own walk, with what package limit answers as premises.
-/
import Derived.Test.YtcaljnhdfbjpnadGreatDoorLimPJ
import Derived.Test.YtcaljnhdfbjpnadGreatDoorRefEnds
import Derived.Test.YtcaljnhdfbjpnadGreatDoorRefBtw
import Derived.Test.YtcaljnhdfbjpnadGreatDoorRefSJ
import Derived.Test.YtcaljnhdfbjpnadGreatDoorSortJ
import Derived.Test.YtcaljnhdfbjpnadGreatDoorErrJ
import Derived.Test.YtcaljnhdfbjpnadGreatDoorInts
import Derived.Test.YtcaljnhdfbjpnadGreatDoorTwo
import Derived.Deep.CutBlock
namespace Go.Proofs.YtcaljnhdfbjpnadGreatDoor
open Go.ChangeShapes Go.WideShapes Go.ChangeAt Go.RowKit Go.Lib
set_option linter.unusedVariables false

theorem M.lim_sp {t : List M.Nd} {l : List M.Sp} (h : M.spF l ≠ 0) : M.limF t l = M.spF l := by unfold M.limF; rw [if_pos h]
theorem M.lim_tree {t : List M.Nd} {l : List M.Sp} (h : M.spF l = 0) : M.limF t l = (M.treeF t (l.length : Int)).2 := by unfold M.limF; rw [if_neg (by simp [h])]
theorem M.lim_none {t : List M.Nd} {l : List M.Sp} (h : M.limF t l ≠ 0) : M.limV t l = M.ends0 := by unfold M.limV; rw [if_neg h]
theorem M.lim_ends {t : List M.Nd} {l : List M.Sp} (h : M.limF t l = 0) : M.limV t l = M.endsK t l t.length := by unfold M.limV; rw [if_pos h]
/-- Ends, where nothing is wrong -/
theorem rends_lim (a bl : Option Addr) (ts : List M.Nd) (ss : List M.Sp) (ca cl : Nat) (w : World) (ht : RdN w a ts) (hs : RdS w bl ss) (h : M.limF ts ss = 0) :
    Calls Tryz.prog 6 #[.slice a ts.length ca, .slice bl ss.length cl] w fun e w' => ∃ pa pc qa qc, e = .returned (.tuple #[.int .i64 (M.limLo ts ss), .int .i64 (M.limHi ts ss), .slice pa (M.limA ts ss).length pc, .slice qa (M.limB ts ss).length qc]) ∧ Rd w' pa (M.limA ts ss) ∧ Rd w' qa (M.limB ts ss) ∧ Below w.heap.size w w' := by
  have := rends_any a bl ts ss ca cl w ht hs (M.tree_ok (M.lim_ok h).2).1
  rw [← M.lim_ends h] at this
  exact this

set_option maxHeartbeats 32000000 in
set_option maxRecDepth 10000 in
theorem ltells_walk (hT : LimTreeGives) (hR : LimRowsGives) (hG : LimGroveGives) (hS : StepsGives) (G : Gr) (a bl bo b : Option Addr) (ts : List M.Nd) (ss us : List M.Sp) (xs : List Int) (ca cl co cb : Nat) (f : Int) (w : World) (hg : RdG w G) (ht : RdN w a ts) (hs : RdS w bl ss) (ho : RdS w bo us) (hr : Rd w b xs) (hl : Lays w) :
    Calls Tryz.prog 3 #[.slice a ts.length ca, .slice bl ss.length cl, G.v, .slice bo us.length co, .slice b xs.length cb, .int .i64 f] w fun r w' => r = .returned (.bool true) ∧ Below w.heap.size w w' := by
  have hm : ts.length ≤ 9223372036854775807 := ht.1
  have hm2 : xs.length ≤ 9223372036854775807 := hr.1
  have hm3 : ss.length ≤ 9223372036854775807 := hs.1
  have hm4 : us.length ≤ 9223372036854775807 := ho.1
  have SP := hide (fun W (hW : Below w.heap.size w W) => rspans_any bl ss cl W (hs.below hW))
  have RT := hide (fun W (hW : Below w.heap.size w W) => rtree_any a ts ca (ss.length : Int) W (ht.below hW))
  have EN := hide (fun (h : M.limF ts ss = 0) W (hW : Below w.heap.size w W) => rends_lim a bl ts ss ca cl W (ht.below hW) (hs.below hW) h)
  have EZ : Hid (M.limF ts ss ≠ 0 → M.limLo ts ss = 0 ∧ M.limHi ts ss = 0 ∧ M.limA ts ss = [] ∧ M.limB ts ss = []) := fun h => by
    show (M.limV ts ss).2.1 = 0 ∧ (M.limV ts ss).2.2.1 = 0 ∧ (M.limV ts ss).2.2.2.1 = [] ∧ (M.limV ts ss).2.2.2.2 = []
    rw [M.lim_none h]
    exact ⟨rfl, rfl, rfl, rfl⟩
  have F1 : Hid (M.spF ss ≠ 0 → M.limF ts ss = M.spF ss) := fun h => M.lim_sp h
  have F2 : Hid (M.spF ss = 0 → M.limF ts ss = (M.treeF ts (ss.length : Int)).2) := fun h => M.lim_tree h
  have LT := hide (fun W (hW : Below w.heap.size w W) => hT a bl ts ss ca cl W (ht.below hW) (hs.below hW))
  have LR := hide (fun W (hW : Below w.heap.size w W) => hR a bl ts ss ca cl W (ht.below hW) (hs.below hW))
  have ER := hide (fun c W (hW : Below w.heap.size w W) => (error_any c c W (hl.below hW)).mono (R' := fun r w' => r = .returned (.bool true) ∧ Below W.heap.size W w') fun r w' h => ⟨by rw [h.1, beq_self_eq_true], h.2⟩)
  have IN : Hid (∀ (x y : Option Addr) (L : List Int) cx cy W, Rd W x L → Rd W y L → Calls Tryz.prog 10 #[.slice x L.length cx, .slice y L.length cy] W fun e w' => e = .returned (.bool true) ∧ Below W.heap.size W w') := fun x y L cx cy W h1 h2 => by
    have := ints_any x y L L cx cy W h1 h2
    rw [decide_eq_true rfl] at this
    exact this
  -- the grove
  have RGV := hide (fun W (hW : Below w.heap.size w W) => rgrove_any G W (hg.below hW))
  have SO := hide (fun W (hW : Below w.heap.size w W) => rspans_any bo us co W (ho.below hW))
  have LG := hide (fun W (hW : Below w.heap.size w W) => hG G bo us co W (hg.below hW) (ho.below hW))
  obtain ⟨e1, he1⟩ : ∃ e, e = if M.groveF G.m = 0 ∧ (us.length : Int) ≠ G.f then 3 else M.groveF G.m := ⟨_, rfl⟩
  have Q1 : Hid (e1 ≠ 0 → M.limGF G.m us = e1) := fun h => by
    unfold M.limGF
    rw [he1] at h ⊢
    by_cases c : M.groveF G.m = 0
    · by_cases d : (us.length : Int) = G.f
      · rw [if_neg (fun q => q.2 d)] at h; exact absurd c h
      · have r : (if M.groveF G.m = 0 ∧ (us.length : Int) ≠ G.f then 3 else M.groveF G.m) = 3 := if_pos ⟨c, d⟩
        rw [if_neg (by simp [c]), r]
        exact if_pos d
    · rw [if_pos c, if_neg (fun q => c q.1)]
  have Q2 : Hid (e1 = 0 → M.limGF G.m us = M.spF us) := fun h => by
    rw [he1] at h
    by_cases c : M.groveF G.m = 0 ∧ (us.length : Int) ≠ G.f
    · rw [if_pos c] at h; cases h
    · rw [if_neg c] at h
      have d : (us.length : Int) = G.f := Decidable.not_not.1 (fun q => c ⟨h, q⟩)
      unfold M.limGF
      rw [if_neg (by simp [h])]
      exact if_neg (by rw [d]; exact fun q => q rfl)
  have HE1 := hide he1
  have GZ : Hid (M.limGF G.m us ≠ 0 → M.limGV G.m us = (0, 0)) := fun h => by unfold M.limGV; rw [if_neg h]
  have TRE : Hid (M.limGF G.m us = 0 → ∀ k (hk : k < G.ks.length), ∀ W, Below w.heap.size w W → Calls Tryz.prog 6 #[.slice G.ks[k].1 G.ks[k].2.1.length G.ks[k].2.2, .slice bo us.length co] W fun e w' => ∃ pa pc qa qc, e = .returned (.tuple #[.int .i64 (M.limLo G.ks[k].2.1 us), .int .i64 (M.limHi G.ks[k].2.1 us), .slice pa (M.limA G.ks[k].2.1 us).length pc, .slice qa (M.limB G.ks[k].2.1 us).length qc]) ∧ Rd w' pa (M.limA G.ks[k].2.1 us) ∧ Rd w' qa (M.limB G.ks[k].2.1 us) ∧ Below W.heap.size W w') := fun h k hk W hW => rends_lim _ _ _ us _ co W ((hg.below hW).2.2.1 _ (List.getElem_mem hk)) (ho.below hW) ((M.limG_ok h).2.2.2 _ (List.mem_map.2 ⟨_, List.getElem_mem hk, rfl⟩))
  have BTW : Hid (M.limGF G.m us = 0 → (0 < G.ks.length ∧ G.ks.length ≤ 12) ∧ ∀ xa xc ya yc W, Below w.heap.size w W → Rd W xa (M.lowsL G.m us) → Rd W ya (M.highsL G.m us) → Calls Tryz.prog 12 #[.agg #[.int .i64 G.f, .int .i64 G.w, .slice G.wa G.ws.length G.wc, .slice G.ta G.ks.length G.tc], .slice xa G.ks.length xc, .slice ya G.ks.length yc] W fun e w' => e = .returned (.tuple #[.int .i64 (M.limGV G.m us).1, .int .i64 (M.limGV G.m us).2]) ∧ Below W.heap.size W w') := fun h => by
    obtain ⟨Gd, _, _, ht⟩ := M.limG_ok h
    have tlen : (M.gt G.m).length = G.ks.length := tl_len G.ks
    have l1 : (M.lowsL G.m us).length = G.ks.length := by unfold M.lowsL; rw [List.length_map]; exact tlen
    have l2 : (M.highsL G.m us).length = G.ks.length := by unfold M.highsL; rw [List.length_map]; exact tlen
    refine ⟨⟨by rw [← tlen]; exact Gd.t0, by rw [← tlen]; exact Gd.t12⟩, fun xa xc ya yc W hW hx hy => ?_⟩
    have := rbtw_any G xa ya (M.lowsL G.m us) (M.highsL G.m us) xc yc W (hg.below hW) hx hy Gd l1 l2 (fun i hi => by
        rw [M.getD_at hi]
        obtain ⟨t, t1, t2⟩ := List.mem_map.1 (show (M.lowsL G.m us)[i] ∈ List.map (fun t => M.limLo t us) (M.gt G.m) from List.getElem_mem hi)
        rw [← t2]
        exact (M.lim_range (ht t t1)).1) (fun i hi => by
        rw [M.getD_at hi]
        obtain ⟨t, t1, t2⟩ := List.mem_map.1 (show (M.highsL G.m us)[i] ∈ List.map (fun t => M.limHi t us) (M.gt G.m) from List.getElem_mem hi)
        rw [← t2]
        exact (M.lim_range (ht t t1)).2)
    rw [l1, l2] at this
    have e : M.limGV G.m us = M.between G.w G.ws (M.lowsL G.m us) (M.highsL G.m us) := by unfold M.limGV; rw [if_pos h]; rfl
    rw [e]
    exact this
  have LLK : Hid (∀ k (hk : k < G.ks.length), (M.lowsL G.m us).take (k + 1) = (M.lowsL G.m us).take k ++ [M.limLo G.ks[k].2.1 us] ∧ (M.highsL G.m us).take (k + 1) = (M.highsL G.m us).take k ++ [M.limHi G.ks[k].2.1 us]) := fun k hk => by
    have h1 : k < (tl G.ks).length := by rw [tl_len]; exact hk
    unfold M.lowsL M.highsL
    show ((tl G.ks).map _).take (k + 1) = ((tl G.ks).map _).take k ++ _ ∧ ((tl G.ks).map _).take (k + 1) = ((tl G.ks).map _).take k ++ _
    rw [List.take_add_one, List.getElem?_map, List.getElem?_eq_getElem h1, List.take_add_one, List.getElem?_map, List.getElem?_eq_getElem h1]
    refine ⟨by simp [tl], by simp [tl]⟩
  have LLT : Hid ((M.lowsL G.m us).take G.ks.length = M.lowsL G.m us ∧ (M.highsL G.m us).take G.ks.length = M.highsL G.m us) := by
    have tlen : (M.gt G.m).length = G.ks.length := tl_len G.ks
    refine ⟨List.take_of_length_le ?_, List.take_of_length_le ?_⟩
    · unfold M.lowsL; rw [List.length_map]; exact Nat.le_of_eq tlen
    · unfold M.highsL; rw [List.length_map]; exact Nat.le_of_eq tlen
  have HTC : Hid (0 < G.ks.length → ∃ bt2 ot2, G.ta = some ⟨bt2, ot2, none⟩ ∧ ∀ W, Below w.heap.size w W → ∀ k (hk : k < G.ks.length), W.cell? ⟨bt2, ot2 + k, none⟩ = some (.slice G.ks[k].1 G.ks[k].2.1.length G.ks[k].2.2)) := fun g0 => by
    obtain ⟨bt2, ot2, eta, hbt2, hct2⟩ := hg.2.2.2 (by intro e; rw [e] at g0; simp at g0)
    exact ⟨bt2, ot2, eta, fun W hW k hk => (hW.cell (p := ⟨bt2, ot2 + k, none⟩) hbt2).trans (hct2 k hk)⟩
  have hmk : G.ks.length ≤ 9223372036854775807 := hg.2.1
  obtain ⟨i0, hi0, hz0, hz1, hz2⟩ := info_parts info3
  have I0 := hide hi0
  -- the steps
  have RYD := hide (fun W (hW : Below w.heap.size w W) => ready_any a b ts xs ca cb W (ht.below hW) (hr.below hW))
  have LS := hide (fun W (hW : Below w.heap.size w W) => hS a b ts xs ca cb f W (ht.below hW) (hr.below hW))
  have SF1 : Hid (M.stepsF ts xs f = if M.readyF ts xs = 0 ∧ (f < 0 ∨ (xs.length : Int) ≤ f) then 1 else M.readyF ts xs) := by
    unfold Hid M.stepsF
    by_cases c : M.readyF ts xs = 0
    · rw [if_neg (by simp [c])]
      by_cases d : f < 0 ∨ (xs.length : Int) ≤ f
      · rw [if_pos d, if_pos ⟨c, d⟩]
      · rw [if_neg d, if_neg (fun q => d q.2), c]
    · rw [if_pos c, if_neg (fun q => c q.1)]
  have SZ : Hid (M.stepsF ts xs f ≠ 0 → M.stepsC ts xs f = [] ∧ M.stepsV ts xs f = []) := fun h => ⟨by unfold M.stepsC; rw [if_neg h], by unfold M.stepsV; rw [if_neg h]⟩
  have SY : Hid (M.stepsF ts xs f = 0 → ∃ fn : Nat, f = (fn : Int) ∧ fn < xs.length ∧ xs.length ≤ 8 ∧ 0 < ts.length ∧ ts.length ≤ 63 ∧ M.stepsC ts xs f = M.cutsS ts (fn : Int) ∧ M.stepsV ts xs f = M.valsS ts xs fn ∧ ∀ sa sc c W, Below w.heap.size w W → Rd W sa (xs.set fn c) → Calls Tryz.prog 16 #[.slice a ts.length ca, .slice sa xs.length sc] W fun e w' => e = .returned (.int .i64 (M.valS ts xs fn c)) ∧ Below W.heap.size W w') := fun h => by
    obtain ⟨hy, f0, f1⟩ := M.steps_ok h
    obtain ⟨fn, rfl⟩ : ∃ fn : Nat, f = (fn : Int) := ⟨f.toNat, by omega⟩
    obtain ⟨hrow, htr⟩ := M.ready_ok hy
    obtain ⟨F, _⟩ := M.tree_ok htr
    refine ⟨fn, rfl, by omega, ((M.row_ok xs).1 hrow).1, F.2.1, F.1, by unfold M.stepsC; rw [if_pos h], by unfold M.stepsV; rw [if_pos h, Int.toNat_natCast], fun sa sc c W hW hs => ?_⟩
    have := rvalue_fair a sa ts (xs.set fn c) ca sc W (ht.below hW) hs (by rw [List.length_set]; exact F)
    rw [List.length_set] at this
    exact this
  have HTS : Hid (0 < ts.length → ∃ bt ot, a = some ⟨bt, ot, none⟩ ∧ ∀ W, Below w.heap.size w W → ∀ k, k < ts.length → SixAt W bt (ot + k * 6) (M.nAt ts k)) := fun l0 => by
    obtain ⟨bt, ot, e, hb, hc⟩ := ht.2 (by intro e; rw [e] at l0; simp at l0)
    exact ⟨bt, ot, e, fun W hW k hk => (hc k hk).below hW hb⟩
  have HXS : Hid (∀ W, Below w.heap.size w W → Rd W b xs) := fun W hW => hr.below hW
  have HBX : Hid (0 < xs.length → ∃ bx ox, b = some ⟨bx, ox, none⟩) := fun l0 => by
    obtain ⟨bx, ox, e, _, _⟩ := hr.2 (by intro e; rw [e] at l0; simp at l0)
    exact ⟨bx, ox, e⟩
  unfold Gr.v at RGV LG ⊢
  obtain ⟨wb, hwb⟩ : ∃ W, W = w.alloc (.cells #[.int .i64 G.f, .int .i64 G.w, .slice G.wa G.ws.length G.wc, .slice G.ta G.ks.length G.tc] 27) := ⟨_, rfl⟩
  have BB : Hid (Below w.heap.size w wb) := by rw [hwb]; exact (Below.refl _ w).alloc (Nat.le_refl _) _
  have BX : Hid (∀ W, Below wb.heap.size wb W → Below w.heap.size w W ∧ W.cell? ⟨w.heap.size, 0, none⟩ = some (.int .i64 G.f) ∧ W.cell? ⟨w.heap.size, 1, none⟩ = some (.int .i64 G.w) ∧ W.cell? ⟨w.heap.size, 2, none⟩ = some (.slice G.wa G.ws.length G.wc) ∧ W.cell? ⟨w.heap.size, 3, none⟩ = some (.slice G.ta G.ks.length G.tc)) := fun W hW => ⟨below_on BB.out hW, by rw [hwb] at hW; exact kept_grove hW⟩
  clear ht hs ho hr hg hl hT hR hG hS he1 hi0
  generalize M.limA ts ss = LA at *
  generalize M.limB ts ss = LB at *
  generalize M.limLo ts ss = lo at *
  generalize M.limHi ts ss = hi at *
  generalize M.limF ts ss = lf at *
  generalize (M.treeF ts (ss.length : Int)).2 = te at *
  generalize (M.treeF ts (ss.length : Int)).1 = tp at *
  generalize M.spF ss = sp at *
  generalize M.groveF G.m = gv at *
  generalize M.readyF ts xs = rf at *
  generalize M.stepsF ts xs f = sf at *
  generalize M.stepsC ts xs f = SC at *
  generalize M.stepsV ts xs f = SV at *
  generalize M.spF us = so at *
  generalize M.limGF G.m us = lg at *
  generalize hgV : M.limGV G.m us = gV at *
  clear hgV
  go_enter Tryz.func3, Tryz.ntmps3
  go_upto_region 1 with fail
  rw [← hwb]
  clear hwb
  have KB : Hid (Below wb.heap.size wb wb) := Below.refl _ _
  go_upto_if 52 with (go_at_call 4; refine (SP.out _ (BX.out _ KB.out).1).mono ?_; rintro e w1 ⟨rfl, h1⟩; have K1 := hide h1; clear h1)
  go_cut [13] from 51 to 59 (fun v wx => v = .int .i64 lf ∧ Hid (Below wb.heap.size wb wx))
  case first =>
    clear LT LR ER IN EN EZ
    by_cases c : sp = 0
    · have t : (sp == 0) = true := by rw [beq_iff_eq]; exact c
      have e := hide (F2.out c)
      rw [t]
      clear F1 F2 c t
      go_wp2_with (go_at_call 5; refine (RT.out _ (BX.out _ K1.out).1).mono ?_; rintro e w2 ⟨rfl, h2⟩; have K2 := hide (below_on K1.out h2); clear h2)
      go_meet
      case rel => exact ⟨by rw [e.out], K2⟩
    · have t : (sp == 0) = false := by rw [beq_eq_false_iff_ne]; exact c
      have e := hide (F1.out c)
      rw [t]
      clear F1 F2 c t
      go_wp2
      go_meet
      case rel => exact ⟨by rw [e.out], K1⟩
  case rest =>
    obtain ⟨rfl, K2⟩ := hcut
    clear F1 F2 RT SP K1
    go_upto_if 61 with fail
    go_cut [14, 15, 16, 17] from 60 to 69 (fun v1 v2 v3 v4 wx => v1 = .int .i64 lo ∧ v2 = .int .i64 hi ∧ (∃ pa pc, v3 = .slice pa LA.length pc ∧ Hid (Rd wx pa LA)) ∧ (∃ qa qc, v4 = .slice qa LB.length qc ∧ Hid (Rd wx qa LB)) ∧ Hid (Below wb.heap.size wb wx))
    case first =>
      clear LT LR ER IN
      by_cases c : lf = 0
      · have t : (lf == 0) = true := by rw [beq_iff_eq]; exact c
        have E := hide (EN.out c)
        rw [t]
        clear EN EZ c t
        go_wp2_with (go_at_call 6; refine (E.out _ (BX.out _ K2.out).1).mono ?_; rintro e w3 ⟨pa, pc, qa, qc, rfl, hp3, hq3, h3⟩; have K3 := hide (below_on K2.out h3); have HP3 := hide hp3; have HQ3 := hide hq3; clear h3 hp3 hq3)
        go_meet
        case rel => exact ⟨rfl, rfl, ⟨pa, pc, rfl, HP3⟩, ⟨qa, qc, rfl, HQ3⟩, K3⟩
      · have t : (lf == 0) = false := by rw [beq_eq_false_iff_ne]; exact c
        have E := hide (EZ.out c)
        rw [t]
        clear EN EZ c t
        go_wp2
        go_meet
        case rel =>
          refine ⟨by rw [E.out.1], by rw [E.out.2.1], ⟨none, 0, by rw [E.out.2.2.1]; rfl, by rw [E.out.2.2.1]; exact ⟨Nat.zero_le _, fun h => absurd rfl h⟩⟩, ⟨none, 0, by rw [E.out.2.2.2]; rfl, by rw [E.out.2.2.2]; exact ⟨Nat.zero_le _, fun h => absurd rfl h⟩⟩, K2⟩
    case rest =>
      obtain ⟨rfl, rfl, ⟨pa, pc, rfl, HP3⟩, ⟨qa, qc, rfl, HQ3⟩, K3⟩ := hcut
      clear EN EZ K2
      go_upto_region 17 with (first
        | (go_at_call 10; have lean := k8; refine (IN.out _ _ LB _ _ _ HY8.out HQ8.out).mono ?_; rintro e w9 ⟨rfl, h9⟩; have k9 := hide (below_on k8.out h9); clear h9)
        | (go_at_call 10; refine (IN.out _ _ LA _ _ _ HX7.out HP7.out).mono ?_; rintro e w8 ⟨rfl, h8⟩; have k8 := hide (below_on k7.out h8); have HY8 := hide (HY7.out.below h8); have HQ8 := hide (HQ7.out.below h8); clear h8)
        | (go_at_call 8; have lean := k6; refine (ER.out lf _ (BX.out _ k6.out).1).mono ?_; rintro e w7 ⟨rfl, h7⟩; have k7 := hide (below_on k6.out h7); have HX7 := hide (HX6.out.below h7); have HY7 := hide (HY6.out.below h7); have HP7 := hide (HP6.out.below h7); have HQ7 := hide (HQ6.out.below h7); clear h7)
        | (go_at_call 9; refine (LR.out _ (BX.out _ k5.out).1).mono ?_; rintro e w6 ⟨xa, xc, ya, yc, rfl, hx6, hy6, h6⟩; have k6 := hide (below_on k5.out h6); have HX6 := hide hx6; have HY6 := hide hy6; have HP6 := hide (HP5.out.below h6); have HQ6 := hide (HQ5.out.below h6); clear h6 hx6 hy6)
        | (go_at_call 8; refine (ER.out lf _ (BX.out _ k4.out).1).mono ?_; rintro e w5 ⟨rfl, h5⟩; have k5 := hide (below_on k4.out h5); have HP5 := hide (HP4.out.below h5); have HQ5 := hide (HQ4.out.below h5); clear h5)
        | (go_at_call 7; refine (LT.out _ (BX.out _ K3.out).1).mono ?_; rintro e w4 ⟨rfl, h4⟩; have k4 := hide (below_on K3.out h4); have HP4 := hide (HP3.out.below h4); have HQ4 := hide (HQ3.out.below h4); clear h4))
      clear k4 k5 k6 k7 k8 HP3 HP4 HP5 HP6 HP7 HQ3 HQ4 HQ5 HQ6 HQ7 HQ8 HX6 HX7 HY6 HY7 HY8 K3 LT LR lean
      obtain ⟨_, z0, z1, z2, z3⟩ := BX.out _ k9.out
      go_upto_region 18 with (go_at_call 11; refine (RGV.out _ (BX.out _ k9.out).1).mono ?_; rintro e w10 ⟨rfl, h10⟩; have k10 := hide (below_on k9.out h10); clear h10)
      clear z0 z1 z2 z3
      obtain ⟨_, z0, z1, z2, z3⟩ := BX.out _ k10.out
      go_cut [130] from 122 to 129 (fun v wx => ∃ q : Bool, v = .bool q ∧ Hid (q = decide (gv = 0 ∧ (us.length : Int) ≠ G.f)) ∧ wx = w10)
      case first =>
        clear ER IN RGV SO LG Q1 Q2 GZ TRE BTW LLK LLT HTC
        by_cases c : gv = 0
        · have t : (gv == 0) = true := by rw [beq_iff_eq]; exact c
          by_cases d : (us.length : Int) = G.f
          · have u : ((us.length : Int) != G.f) = false := by rw [bne_eq_false_iff_eq]; exact d
            have E : Hid (false = decide (gv = 0 ∧ (us.length : Int) ≠ G.f)) := (decide_eq_false (fun q => q.2 d)).symm
            clear c d
            go_wp2
            go_meet
            case rel => exact ⟨_, rfl, E, rfl⟩
          · have u : ((us.length : Int) != G.f) = true := by rw [bne_iff_ne]; exact d
            have E : Hid (true = decide (gv = 0 ∧ (us.length : Int) ≠ G.f)) := (decide_eq_true ⟨c, d⟩).symm
            clear c d
            go_wp2
            go_meet
            case rel => exact ⟨_, rfl, E, rfl⟩
        · have t : (gv == 0) = false := by rw [beq_eq_false_iff_ne]; exact c
          have E : Hid (false = decide (gv = 0 ∧ (us.length : Int) ≠ G.f)) := (decide_eq_false (fun q => c q.1)).symm
          clear c
          go_wp2
          go_meet
          case rel => exact ⟨_, rfl, E, rfl⟩
      case rest =>
        obtain ⟨q, rfl, HQ, rfl⟩ := hcut
        go_upto_if 130 with fail
        go_cut [13] from 130 to 130 (fun v wx => v = .int .i64 e1 ∧ Hid (Below wb.heap.size wb wx))
        case first =>
          clear ER IN RGV SO LG Q1 Q2 GZ TRE BTW LLK LLT HTC
          cases q with
          | true =>
            have e := hide (HE1.out.trans (if_pos (of_decide_eq_true HQ.out.symm)))
            go_wp2
            go_meet
            case rel => exact ⟨by rw [e.out], k10⟩
          | false =>
            have e := hide (HE1.out.trans (if_neg (of_decide_eq_false HQ.out.symm)))
            go_wp2
            go_meet
            case rel => exact ⟨by rw [e.out], k10⟩
        case rest =>
          clear k10 z0 z1 z2 z3
          obtain ⟨rfl, k10⟩ := hcut
          clear HQ HE1
          go_upto_if 132 with fail
          go_cut [13] from 131 to 134 (fun v wx => v = .int .i64 lg ∧ Hid (Below wb.heap.size wb wx))
          case first =>
            clear ER IN RGV LG GZ TRE BTW LLK LLT HTC
            by_cases c : e1 = 0
            · have t : (e1 == 0) = true := by rw [beq_iff_eq]; exact c
              have e := hide (Q2.out c)
              rw [t]
              clear Q1 Q2 c t
              go_wp2_with (go_at_call 4; refine (SO.out _ (BX.out _ k10.out).1).mono ?_; rintro e w11 ⟨rfl, h11⟩; have k11 := hide (below_on k10.out h11); clear h11)
              go_meet
              case rel => exact ⟨by rw [e.out], k11⟩
            · have t : (e1 == 0) = false := by rw [beq_eq_false_iff_ne]; exact c
              have e := hide (Q1.out c)
              rw [t]
              clear Q1 Q2 c t
              go_wp2
              go_meet
              case rel => exact ⟨by rw [e.out], k10⟩
          case rest =>
            obtain ⟨rfl, K11⟩ := hcut
            clear Q1 Q2 SO RGV k10 k9
            go_upto_if 136 with fail
            go_cut [14, 15, 27, 28, 29, 30, 31, 32, 33] from 135 to 170 (fun v1 v2 _ _ _ _ _ _ _ wx => v1 = .int .i64 gV.1 ∧ v2 = .int .i64 gV.2 ∧ Hid (Below wb.heap.size wb wx))
            case first =>
              clear ER IN LG
              by_cases c : lg = 0
              · have t : (lg == 0) = true := by rw [beq_iff_eq]; exact c
                obtain ⟨⟨g0, g12⟩, bt⟩ := BTW.out c
                have BT := hide bt
                have TE := hide (TRE.out c)
                obtain ⟨bt2, ot2, eta, hct⟩ := HTC.out g0
                have HT := hide hct
                have HETA := hide eta
                rw [t]
                rw [eta] at BX BT ⊢
                clear BTW TRE HTC GZ c t bt hct eta
                obtain ⟨wl, hwl⟩ : ∃ W, W = wc := ⟨_, rfl⟩
                subst hwl
                have T0 := hide (Two.begin wl)
                obtain ⟨_, z0, z1, z2, z3⟩ := BX.out _ K11.out
                go_wp2
                clear z0 z1 z2 z3
                go_loopw [27, 28, 29, 30, 31, 32, 33] (fun x y i _ _ _ _ wr => ∃ (k : Nat) (X Y : List Int), k ≤ G.ks.length ∧ i = .int .i64 k ∧ Hid (X = (M.lowsL G.m us).take k ∧ Y = (M.highsL G.m us).take k ∧ X.length = k ∧ Y.length = k) ∧ Hid (Two wl wr x y X Y)) (fun _ _ i _ _ _ _ _ => G.ks.length - (intOf i).toNat)
                case atStart => exact ⟨0, [], [], Nat.zero_le _, rfl, ⟨rfl, rfl, rfl, rfl⟩, T0⟩
                case round =>
                  obtain ⟨k, X, Y, hk, rfl, HXY, T⟩ := hrel
                  have kw := hide (below_on K11.out T.out.b)
                  obtain ⟨_, z0, z1, z2, z3⟩ := BX.out _ kw.out
                  by_cases hlt : k < G.ks.length
                  · have kz : (k : Int) < (G.ks.length : Int) := by omega
                    have ct := HT.out _ (BX.out _ kw.out).1 k hlt
                    have P1 := hide (TE.out k hlt _ (BX.out _ kw.out).1)
                    obtain ⟨lk1, lk2⟩ := LLK.out k hlt
                    have NX : Hid (X ++ [M.limLo G.ks[k].2.1 us] = (M.lowsL G.m us).take (k + 1) ∧ Y ++ [M.limHi G.ks[k].2.1 us] = (M.highsL G.m us).take (k + 1) ∧ (X ++ [M.limLo G.ks[k].2.1 us]).length = k + 1 ∧ (Y ++ [M.limHi G.ks[k].2.1 us]).length = k + 1) := by
                      rw [lk1, lk2, ← HXY.out.1, ← HXY.out.2.1]
                      refine ⟨rfl, rfl, ?_, ?_⟩
                      · rw [List.length_append, HXY.out.2.2.1]; rfl
                      · rw [List.length_append, HXY.out.2.2.2]; rfl
                    have xl : X.length ≤ 12 := by have := HXY.out.2.2.1; omega
                    have yl : Y.length ≤ 12 := by have := HXY.out.2.2.2; omega
                    obtain ⟨xa, xc, rfl, _, _⟩ := own_rd T.out.ox
                    obtain ⟨ya, yc, rfl, _, _⟩ := own_rd T.out.oy
                    clear HT TE LLK LLT BT HXY lk1 lk2
                    generalize M.limLo G.ks[k].2.1 us = l1 at *
                    generalize M.limHi G.ks[k].2.1 us = h1 at *
                    generalize M.limA G.ks[k].2.1 us = A1 at *
                    generalize M.limB G.ks[k].2.1 us = A2 at *
                    generalize G.ks[k].2.1.length = tn at *
                    generalize G.ks[k].2.2 = tcc at *
                    generalize G.ks[k].1 = ta at *
                    go_wp2_with (first
                      | (go_at_call 6; refine P1.out.mono ?_; rintro e w5 ⟨pa5, pc5, qa5, qc5, rfl, _, _, h5⟩; have T5 := hide (T.out.up h5); have w5s := T5.out.b.size; clear h5)
                      | (at_builtin; refine wpList_append_lies _ rfl (.tmp 156) (.tmp 158) 24 rfl wl.heap.size 3 i0 (.int .i64 0) 1 8 Tryz.underlying24 I0.out hz0 hz1 hz2 rfl (by omega) (.slice xa X.length xc) X.length (X.map (Value.int .i64)) rfl (T5.out.ox.alloc _) ⟨w5.heap.size, 0, none⟩ 1 1 [.int .i64 l1] rfl rfl (World.news_of_block (heap_alloc_new _ _)) (by simp [Value.oneCell']) (by omega) (by unfold maxLen; omega) (by omega) (by simp; omega) (w5.heap.size + 1) (by simp) ?_; intro g6 c6 w6 hov6 hgr6 hat6 hlt6; have T6 := hide (T5.out.first hgr6 hov6 hat6); have w6s := T6.out.b.size; clear hov6 hgr6 hat6)
                      | (at_builtin; refine wpList_append_lies _ rfl (.tmp 160) (.tmp 162) 24 rfl wl.heap.size 3 i0 (.int .i64 0) 1 8 Tryz.underlying24 I0.out hz0 hz1 hz2 rfl (by omega) (.slice ya Y.length yc) Y.length (Y.map (Value.int .i64)) rfl (T6.out.oy.alloc _) ⟨w6.heap.size, 0, none⟩ 1 1 [.int .i64 h1] rfl rfl (World.news_of_block (heap_alloc_new _ _)) (by simp [Value.oneCell']) (by omega) (by unfold maxLen; omega) (by omega) (by simp; omega) (w6.heap.size + 1) (by simp) ?_; intro g7 c7 w7 hov7 hgr7 hat7 hlt7; have T7 := hide (T6.out.second hgr7 hov7 hat7); clear hov7 hgr7 hat7))
                    go_roundw
                    case rel => exact ⟨k + 1, X ++ [l1], Y ++ [h1], by omega, by go_num, NX, T7⟩
                    case measure => simp [intOf] <;> omega
                  · have hke : k = G.ks.length := by omega
                    have kz : ¬ ((k : Int) < (G.ks.length : Int)) := by omega
                    obtain ⟨xa, xc, rfl, RX, _⟩ := own_rd T.out.ox
                    obtain ⟨ya, yc, rfl, RY, _⟩ := own_rd T.out.oy
                    have EX : X = M.lowsL G.m us := by rw [HXY.out.1, hke]; exact LLT.out.1
                    have EY : Y = M.highsL G.m us := by rw [HXY.out.2.1, hke]; exact LLT.out.2
                    have P2 := BT.out xa xc ya yc wr (BX.out _ kw.out).1 (by rw [← EX]; exact RX) (by rw [← EY]; exact RY)
                    have XL : X.length = G.ks.length := by have := HXY.out.2.2.1; omega
                    have YL : Y.length = G.ks.length := by have := HXY.out.2.2.2; omega
                    rw [XL, YL]
                    have HP2 := hide P2
                    clear HT TE LLK LLT BT HXY RX RY EX EY P2 XL YL T hke
                    go_wp2_with (go_at_call 12; refine HP2.out.mono ?_; rintro e w8 ⟨rfl, h8⟩; have k8 := hide (below_on kw.out h8); clear h8)
                    rw [← HETA.out]
                    go_meet
                    case rel => exact ⟨rfl, rfl, k8⟩
              · have t : (lg == 0) = false := by rw [beq_eq_false_iff_ne]; exact c
                have e := hide (GZ.out c)
                rw [t]
                clear BTW TRE HTC GZ c t LLK LLT
                go_wp2
                go_meet
                case rel => exact ⟨by rw [e.out], by rw [e.out], K11⟩
            case rest =>
              obtain ⟨rfl, rfl, K12⟩ := hcut
              clear GZ TRE BTW LLK LLT HTC K11
              obtain ⟨_, z0, z1, z2, z3⟩ := BX.out _ K12.out
              go_upto_region 37 with (first
                | (go_at_call 8; refine (ER.out lg _ (BX.out _ k13.out).1).mono ?_; rintro e w14 ⟨rfl, h14⟩; have k14 := hide (below_on k13.out h14); clear h14)
                | (go_at_call 13; refine (LG.out _ (BX.out _ K12.out).1).mono ?_; rintro e w13 ⟨rfl, h13⟩; have k13 := hide (below_on K12.out h13); clear h13))
              clear z0 z1 z2 z3
              clear K12 k13 LG
              go_upto_region 38 with (go_at_call 14; refine (RYD.out _ (BX.out _ k14.out).1).mono ?_; rintro e w15 ⟨rfl, h15⟩; have k15 := hide (below_on k14.out h15); clear h15)
              go_cut [207] from 196 to 206 (fun v wx => ∃ q : Bool, v = .bool q ∧ Hid (q = decide (rf = 0 ∧ (f < 0 ∨ (xs.length : Int) ≤ f))) ∧ Hid (Below wb.heap.size wb wx))
              case first =>
                clear ER IN RYD LS SF1 SZ SY HTS HXS HBX
                by_cases c : rf = 0
                · have t : (rf == 0) = true := by rw [beq_iff_eq]; exact c
                  by_cases d : f < 0
                  · have u : decide (f < 0) = true := decide_eq_true d
                    have E : Hid (true = decide (rf = 0 ∧ (f < 0 ∨ (xs.length : Int) ≤ f))) := (decide_eq_true ⟨c, .inl d⟩).symm
                    clear c d
                    go_wp2
                    go_meet
                    case rel => exact ⟨_, rfl, E, k15⟩
                  · have u : decide (f < 0) = false := decide_eq_false d
                    by_cases d2 : (xs.length : Int) ≤ f
                    · have u2 : decide ((xs.length : Int) ≤ f) = true := decide_eq_true d2
                      have E : Hid (true = decide (rf = 0 ∧ (f < 0 ∨ (xs.length : Int) ≤ f))) := (decide_eq_true ⟨c, .inr d2⟩).symm
                      clear c d d2
                      go_wp2
                      go_meet
                      case rel => exact ⟨_, rfl, E, k15⟩
                    · have u2 : decide ((xs.length : Int) ≤ f) = false := decide_eq_false d2
                      have E : Hid (false = decide (rf = 0 ∧ (f < 0 ∨ (xs.length : Int) ≤ f))) := (decide_eq_false (fun q => q.2.elim d d2)).symm
                      clear c d d2
                      go_wp2
                      go_meet
                      case rel => exact ⟨_, rfl, E, k15⟩
                · have t : (rf == 0) = false := by rw [beq_eq_false_iff_ne]; exact c
                  have E : Hid (false = decide (rf = 0 ∧ (f < 0 ∨ (xs.length : Int) ≤ f))) := (decide_eq_false (fun q => c q.1)).symm
                  clear c
                  go_wp2
                  go_meet
                  case rel => exact ⟨_, rfl, E, k15⟩
              case rest =>
                obtain ⟨q, rfl, HQ, K16⟩ := hcut
                clear k14 k15
                go_upto_if 207 with fail
                go_cut [13] from 207 to 207 (fun v wx => v = .int .i64 sf ∧ Hid (Below wb.heap.size wb wx))
                case first =>
                  clear ER IN RYD LS SZ SY HTS HXS HBX
                  cases q with
                  | true =>
                    have e := hide (SF1.out.trans (if_pos (of_decide_eq_true HQ.out.symm)))
                    go_wp2
                    go_meet
                    case rel => exact ⟨by rw [e.out], K16⟩
                  | false =>
                    have e := hide (SF1.out.trans (if_neg (of_decide_eq_false HQ.out.symm)))
                    go_wp2
                    go_meet
                    case rel => exact ⟨by rw [e.out], K16⟩
                case rest =>
                  clear K16
                  obtain ⟨rfl, K16⟩ := hcut
                  clear HQ SF1 RYD
                  go_upto_if 209 with fail
                  go_cut [35, 36, 37, 38, 39, 40, 41, 42, 43] from 208 to 292 (fun v1 v2 _ _ _ _ _ _ _ wx => (∃ ca1 cc1, v1 = .slice ca1 SC.length cc1 ∧ Hid (Rd wx ca1 SC)) ∧ (∃ va1 vc1, v2 = .slice va1 SV.length vc1 ∧ Hid (Rd wx va1 SV)) ∧ Hid (Below wb.heap.size wb wx))
                  case first =>
                    clear ER IN LS
                    by_cases c : sf = 0
                    · have t : (sf == 0) = true := by rw [beq_iff_eq]; exact c
                      obtain ⟨fn, rfl, fl, x8, l0, l63, ec, ev, hv⟩ := SY.out c
                      have VC := hide hv
                      have EC := hide ec
                      have EV := hide ev
                      obtain ⟨bt, ot, rfl, hct⟩ := HTS.out l0
                      have HN := hide hct
                      obtain ⟨bx, ox, rfl⟩ := HBX.out (by omega)
                      rw [t]
                      clear SZ SY HTS HBX c t hv ec ev hct
                      obtain ⟨wl, hwl⟩ : ∃ W, W = wc := ⟨_, rfl⟩
                      subst hwl
                      have fz : (fn : Int) < (xs.length : Int) := by omega
                      go_wp2
                      go_loopw [37, 38] (fun x i wr => ∃ k : Nat, k ≤ ts.length ∧ i = .int .i64 k ∧ Hid (wr.ownsRow wl.heap.size 3 1 x (M.cutL ts (fn : Int) k).length ((M.cutL ts (fn : Int) k).map (Value.int .i64))) ∧ Hid (Below wl.heap.size wl wr)) (fun _ i _ => ts.length - (intOf i).toNat)
                      case atStart => exact ⟨0, Nat.zero_le _, rfl, World.ownsRow_nil _ _ _ _, Below.refl _ _⟩
                      case round =>
                        obtain ⟨k, hk, rfl, HO, KL⟩ := hrel
                        have kb := hide (below_on K16.out KL.out)
                        have cl := M.cutL_len ts (fn : Int) k
                        obtain ⟨xa2, xc2, rfl, RL, _⟩ := own_rd HO.out
                        have hn2 := own_nocap HO.out
                        by_cases hlt : k < ts.length
                        · have kz : (k : Int) < (ts.length : Int) := by omega
                          obtain ⟨s0, s1, s2, s3, s4, s5⟩ := HN.out _ (BX.out _ kb.out).1 k hlt
                          have ksz := KL.out.size
                          by_cases hf : M.nf (M.nAt ts k) = (fn : Int)
                          · have q : (M.nf (M.nAt ts k) == (fn : Int)) = true := by rw [beq_iff_eq]; exact hf
                            have N : Hid (M.cutL ts (fn : Int) (k + 1) = M.cutL ts (fn : Int) k ++ [M.nc (M.nAt ts k)]) := by unfold Hid; rw [M.cutL, if_pos hf]
                            clear hf VC EC EV HN HXS RL hn2 s2 s3 s4 s5
                            generalize hCL : M.cutL ts (fn : Int) k = CL at *
                            generalize M.nf (M.nAt ts k) = nf at *
                            generalize M.nc (M.nAt ts k) = nc at *
                            clear hCL
                            go_wp2_with (at_builtin; refine wpList_append_lies _ rfl (.tmp 223) (.tmp 229) 24 rfl wl.heap.size 3 i0 (.int .i64 0) 1 8 Tryz.underlying24 I0.out hz0 hz1 hz2 rfl (by omega) (.slice xa2 CL.length xc2) CL.length (CL.map (Value.int .i64)) rfl (HO.out.alloc _) ⟨wr.heap.size, 0, none⟩ 1 1 [.int .i64 nc] rfl rfl (World.news_of_block (heap_alloc_new _ _)) (by simp [Value.oneCell']) (by omega) (by unfold maxLen; omega) (by omega) (by simp; omega) (wr.heap.size + 1) (by simp) ?_)
                            intro g6 c6 w6 hov6 hgr6 hat6 hlt6
                            have HO6 : Hid (w6.ownsRow wl.heap.size 3 1 (.slice (some ⟨g6, 0, none⟩) (CL.length + 1) c6) (M.cutL ts (fn : Int) (k + 1)).length ((M.cutL ts (fn : Int) (k + 1)).map (Value.int .i64))) := by
                              unfold Hid; rw [N.out, List.map_append, List.length_append]; exact hov6
                            have K6 : Hid (Below wl.heap.size wl w6) := (KL.out.alloc (by omega) _).grown hgr6 (by simp; omega) (fun z hz => (HO.out.lt z hz).1)
                            clear hov6 hgr6 hat6
                            go_wp2
                            go_roundw
                            case rel => exact ⟨k + 1, by omega, by go_num, HO6, K6⟩
                            case measure => simp [intOf] <;> omega
                          · have q : (M.nf (M.nAt ts k) == (fn : Int)) = false := by rw [beq_eq_false_iff_ne]; exact hf
                            have N : Hid (M.cutL ts (fn : Int) (k + 1) = M.cutL ts (fn : Int) k) := by unfold Hid; rw [M.cutL, if_neg hf]
                            clear hf VC EC EV HN HXS RL hn2 s1 s2 s3 s4 s5
                            generalize hCL : M.cutL ts (fn : Int) k = CL at *
                            generalize M.nf (M.nAt ts k) = nf at *
                            clear hCL
                            go_wp2
                            go_roundw
                            case rel => exact ⟨k + 1, by omega, by go_num, by rw [N.out]; exact HO, KL⟩
                            case measure => simp [intOf] <;> omega
                        · have hke : k = ts.length := by omega
                          have kz : ¬ ((k : Int) < (ts.length : Int)) := by omega
                          have ST := hide (sorted_any xa2 (M.cutL ts (fn : Int) k) xc2 wr RL hn2 (by omega))
                          have EC2 : Hid (SC = M.unqK (M.sortI (M.cutL ts (fn : Int) k)) (M.cutL ts (fn : Int) k).length) := by
                            unfold Hid; rw [EC.out, hke]; rfl
                          have EV2 : Hid (SV = M.valS ts xs fn (-2000000) :: SC.map (M.valS ts xs fn)) := by
                            unfold Hid; rw [EV.out, EC.out]; rfl
                          have SL : Hid ((M.sortI (M.cutL ts (fn : Int) k)).length = (M.cutL ts (fn : Int) k).length) := M.sort_length _
                          have UL : Hid (∀ j, (M.unqK (M.sortI (M.cutL ts (fn : Int) k)) j).length ≤ j) := fun j => M.unq_len _ j
                          have UN : Hid (∀ j, (j = 0 ∨ (M.sortI (M.cutL ts (fn : Int) k)).getD j 0 ≠ (M.sortI (M.cutL ts (fn : Int) k)).getD (j - 1) 0) → M.unqK (M.sortI (M.cutL ts (fn : Int) k)) (j + 1) = M.unqK (M.sortI (M.cutL ts (fn : Int) k)) j ++ [(M.sortI (M.cutL ts (fn : Int) k)).getD j 0]) := fun j h => by rw [M.unqK, if_pos h]
                          have UM : Hid (∀ j, ¬ (j = 0 ∨ (M.sortI (M.cutL ts (fn : Int) k)).getD j 0 ≠ (M.sortI (M.cutL ts (fn : Int) k)).getD (j - 1) 0) → M.unqK (M.sortI (M.cutL ts (fn : Int) k)) (j + 1) = M.unqK (M.sortI (M.cutL ts (fn : Int) k)) j) := fun j h => by rw [M.unqK, if_neg h]
                          have U0 : Hid (M.unqK (M.sortI (M.cutL ts (fn : Int) k)) 0 = []) := rfl
                          clear RL hn2 HO EC EV HN hke KL
                          generalize M.unqK (M.sortI (M.cutL ts (fn : Int) k)) = UK at *
                          generalize M.sortI (M.cutL ts (fn : Int) k) = S at *
                          generalize M.cutL ts (fn : Int) k = L at *
                          go_wp2_with (go_at_call 15; refine ST.out.mono ?_; rintro e w7 ⟨sa, sc, rfl, hs7, h7⟩; have k7 := hide (below_on kb.out h7); have HS7 := hide hs7; clear hs7 h7)
                          go_loopw [35, 39] (fun x i wr => ∃ j : Nat, j ≤ L.length ∧ i = .int .i64 j ∧ Hid (wr.ownsRow w7.heap.size 3 1 x (UK j).length ((UK j).map (Value.int .i64))) ∧ Hid (Below w7.heap.size w7 wr)) (fun _ i _ => L.length - (intOf i).toNat)
                          case atStart => exact ⟨0, Nat.zero_le _, rfl, by rw [U0.out]; exact World.ownsRow_nil _ _ _ _, Below.refl _ _⟩
                          case round =>
                            obtain ⟨j, hj, rfl, HO, KL⟩ := hrel
                            have kc := hide (below_on k7.out KL.out)
                            obtain ⟨xa3, xc3, rfl, RU, _⟩ := own_rd HO.out
                            have ul := UL.out j
                            have ksz := KL.out.size
                            by_cases hlt : j < L.length
                            · have jz : (j : Int) < (L.length : Int) := by omega
                              obtain ⟨sb, so2, esa, hsb, hsc⟩ := (HS7.out.below KL.out).2 (by intro e; have := SL.out; rw [e, List.length_nil] at this; omega)
                              subst esa
                              have cj := hsc j (by rw [SL.out]; exact hlt)
                              have O2 : Hid (∀ n, (wr.drewN n).ownsRow w7.heap.size 3 1 (.slice xa3 (UK j).length xc3) (UK j).length ((UK j).map (Value.int .i64)) ∧ Below w7.heap.size w7 (wr.drewN n) ∧ (wr.drewN n).cell? ⟨sb, so2 + j, none⟩ = some (.int .i64 (S.getD j 0)) ∧ (wr.drewN n).heap.size = wr.heap.size) := fun n => by
                                have bd := below_drew (Below.refl _ wr) n (Nat.le_refl _)
                                exact ⟨own_up HO.out bd, below_on KL.out bd, cj, rfl⟩
                              by_cases h0 : j = 0 ∨ S.getD j 0 ≠ S.getD (j - 1) 0
                              · have N := hide (UN.out j h0)
                                by_cases hj0 : j = 0
                                · subst hj0
                                  rw [Nat.add_zero] at cj O2
                                  clear UN UM ST VC EC2 EV2 HXS HS7 hsc RU h0 HO U0
                                  generalize hUK : UK 0 = U at *
                                  generalize hSV : S.getD 0 0 = sv at *
                                  clear hUK hSV
                                  go_upto_region 52 with fail
                                  go_quiet (fail)
                                  obtain ⟨w8, hw8⟩ : ∃ W, W = wr.drewN nq := ⟨_, rfl⟩
                                  obtain ⟨o2, b2, c2, z2⟩ := O2.out nq
                                  rw [← hw8] at o2 b2 c2 z2 ⊢
                                  have P2 := hide o2
                                  have Q2 := hide b2
                                  have ZZ := hide z2
                                  clear O2 hw8 o2 b2 z2
                                  go_wp2_with (at_builtin; refine wpList_append_lies _ rfl (.tmp 253) (.tmp 258) 24 rfl w7.heap.size 3 i0 (.int .i64 0) 1 8 Tryz.underlying24 I0.out hz0 hz1 hz2 rfl (by omega) (.slice xa3 U.length xc3) U.length (U.map (Value.int .i64)) rfl (P2.out.alloc _) ⟨w8.heap.size, 0, none⟩ 1 1 [.int .i64 sv] rfl rfl (World.news_of_block (heap_alloc_new _ _)) (by simp [Value.oneCell']) (by omega) (by unfold maxLen; omega) (by omega) (by simp; have := Q2.out.size; omega) (w8.heap.size + 1) (by simp) ?_)
                                  intro g6 c6 w6 hov6 hgr6 hat6 hlt6
                                  have HO6 : Hid (w6.ownsRow w7.heap.size 3 1 (.slice (some ⟨g6, 0, none⟩) (U.length + 1) c6) (UK (0 + 1)).length ((UK (0 + 1)).map (Value.int .i64))) := by
                                    unfold Hid; rw [N.out, List.map_append, List.length_append]; exact hov6
                                  have K6 : Hid (Below w7.heap.size w7 w6) := (Q2.out.alloc Q2.out.size _).grown hgr6 (by have := Q2.out.size; simp; omega) (fun z hz => (P2.out.lt z hz).1)
                                  clear hov6 hgr6 hat6
                                  go_wp2
                                  go_roundw
                                  case rel => exact ⟨0 + 1, by omega, by go_num, HO6, K6⟩
                                  case measure => simp [intOf] <;> omega
                                · have ne : S.getD j 0 ≠ S.getD (j - 1) 0 := h0.resolve_left hj0
                                  obtain ⟨i, hi⟩ : ∃ i, j = i + 1 := ⟨j - 1, by omega⟩
                                  have ci := hsc i (by rw [SL.out]; omega)
                                  rw [show j - 1 = i by omega] at ne
                                  have t0 : ((j : Int) == 0) = false := by rw [beq_eq_false_iff_ne]; omega
                                  have ej : (j : Int) - 1 = (i : Int) := by omega
                                  have iz : (i : Int) < (L.length : Int) := by omega
                                  have t1 : (S.getD j 0 != S.getD i 0) = true := by rw [bne_iff_ne]; exact ne
                                  clear UN UM ST VC EC2 EV2 HXS HS7 hsc RU h0 HO U0 hj0 ne hi
                                  generalize UK j = U at *
                                  generalize S.getD j 0 = sv at *
                                  generalize S.getD i 0 = su at *
                                  go_upto_region 52 with fail
                                  go_quiet (fail)
                                  obtain ⟨w8, hw8⟩ : ∃ W, W = wr.drewN nq := ⟨_, rfl⟩
                                  obtain ⟨o2, b2, c2, z2⟩ := O2.out nq
                                  rw [← hw8] at o2 b2 c2 z2 ⊢
                                  have P2 := hide o2
                                  have Q2 := hide b2
                                  have ZZ := hide z2
                                  clear O2 hw8 o2 b2 z2
                                  go_wp2_with (at_builtin; refine wpList_append_lies _ rfl (.tmp 253) (.tmp 258) 24 rfl w7.heap.size 3 i0 (.int .i64 0) 1 8 Tryz.underlying24 I0.out hz0 hz1 hz2 rfl (by omega) (.slice xa3 U.length xc3) U.length (U.map (Value.int .i64)) rfl (P2.out.alloc _) ⟨w8.heap.size, 0, none⟩ 1 1 [.int .i64 sv] rfl rfl (World.news_of_block (heap_alloc_new _ _)) (by simp [Value.oneCell']) (by omega) (by unfold maxLen; omega) (by omega) (by simp; have := Q2.out.size; omega) (w8.heap.size + 1) (by simp) ?_)
                                  intro g6 c6 w6 hov6 hgr6 hat6 hlt6
                                  have HO6 : Hid (w6.ownsRow w7.heap.size 3 1 (.slice (some ⟨g6, 0, none⟩) (U.length + 1) c6) (UK (j + 1)).length ((UK (j + 1)).map (Value.int .i64))) := by
                                    unfold Hid; rw [N.out, List.map_append, List.length_append]; exact hov6
                                  have K6 : Hid (Below w7.heap.size w7 w6) := (Q2.out.alloc Q2.out.size _).grown hgr6 (by have := Q2.out.size; simp; omega) (fun z hz => (P2.out.lt z hz).1)
                                  clear hov6 hgr6 hat6
                                  go_wp2
                                  go_roundw
                                  case rel => exact ⟨j + 1, by omega, by go_num, HO6, K6⟩
                                  case measure => simp [intOf] <;> omega
                              · have N := hide (UM.out j h0)
                                have hj0 : j ≠ 0 := fun e => h0 (.inl e)
                                have eq : S.getD j 0 = S.getD (j - 1) 0 := Decidable.not_not.1 (fun e => h0 (.inr e))
                                obtain ⟨i, hi⟩ : ∃ i, j = i + 1 := ⟨j - 1, by omega⟩
                                have ci := hsc i (by rw [SL.out]; omega)
                                rw [show j - 1 = i by omega] at eq
                                have t0 : ((j : Int) == 0) = false := by rw [beq_eq_false_iff_ne]; omega
                                have ej : (j : Int) - 1 = (i : Int) := by omega
                                have iz : (i : Int) < (L.length : Int) := by omega
                                have t1 : (S.getD j 0 != S.getD i 0) = false := by rw [bne_eq_false_iff_eq]; exact eq
                                clear UN UM ST VC EC2 EV2 HXS HS7 hsc RU h0 HO U0 hj0 eq hi
                                generalize UK j = U at *
                                generalize S.getD j 0 = sv at *
                                generalize S.getD i 0 = su at *
                                go_upto_region 52 with fail
                                go_quiet (fail)
                                go_wp2
                                go_roundw
                                case rel => exact ⟨j + 1, by omega, by go_num, by rw [N.out]; exact (O2.out _).1, (O2.out _).2.1⟩
                                case measure => simp [intOf] <;> omega
                            · have hke : j = L.length := by omega
                              have jz : ¬ ((j : Int) < (L.length : Int)) := by omega
                              have RU2 : Hid (Rd wr xa3 SC) := by
                                unfold Hid; rw [EC2.out, ← hke]; exact RU
                              have SCL : Hid ((UK j).length = SC.length) := by unfold Hid; rw [EC2.out, hke]
                              have scl : SC.length ≤ 63 := by have := SCL.out; omega
                              have S3 : Hid (∀ z u, (xs.map (Value.int .i64))[z]? = some u → wr.cell? ((⟨bx, ox, none⟩ : Addr).add z) = some u) := by
                                obtain ⟨bx', ox', e, hb, hc⟩ := (HXS.out _ (BX.out _ kc.out).1).2 (by intro e; rw [e] at fl; simp at fl)
                                cases e
                                exact src_cells hc
                              rw [SCL.out]
                              clear UN UM ST EC2 HXS HS7 RU HO U0 hke UL ul SCL SL
                              obtain ⟨wm, hwm⟩ : ∃ W, W = wr := ⟨_, rfl⟩
                              subst hwm
                              generalize M.valS ts xs fn = VS at *
                              go_upto_region 56 with (at_builtin; refine wpList_append_own _ rfl (.tmp 260) (.tmp 261) 24 rfl wm.heap.size 3 i0 (.int .i64 0) 1 8 Tryz.underlying24 I0.out hz0 hz1 hz2 rfl (by decide) (.slice none 0 0) 0 [] rfl (World.ownsRow_nil _ _ _ _) ⟨bx, ox, none⟩ xs.length cb (xs.map (Value.int .i64)) rfl (by simp) S3.out (one_cells xs) (by unfold maxLen; omega) (by omega) (Nat.le_refl _) ?_; intro v' w8 hown hgrow hnil)
                              rw [Nat.zero_add, List.nil_append] at hown
                              obtain ⟨g, cp, ev', hg1, hg2⟩ := hown.form (show 0 < xs.length by omega)
                              subst ev'
                              have T8 : Hid (Two wm w8 (.slice (some ⟨g, 0, none⟩) xs.length cp) (.slice none 0 0) xs []) := ⟨hown, World.ownsRow_nil _ _ _ _, .inr (.inl rfl), (Below.refl _ wm).grown hgrow (Nat.le_refl _) (fun k hk => by cases hk)⟩
                              have cx := T8.out.cellX rfl fl
                              have fx := T8.out.froX rfl fn
                              clear hown hgrow hnil S3
                              go_upto_region 57 with fail
                              obtain ⟨w9, hw9⟩ : ∃ W, W = w8.setCell ⟨g, fn, none⟩ (.int .i64 (-2000000)) := ⟨_, rfl⟩
                              rw [← hw9]
                              have T9 : Hid (Two wm w9 (.slice (some ⟨g, 0, none⟩) xs.length cp) (.slice none 0 0) (xs.set fn (-2000000)) []) := by rw [hw9]; exact T8.out.turn rfl fn _
                              have RX9 := hide (T9.out.rdX List.length_set)
                              have k9 := hide (below_on kc.out T9.out.b)
                              clear hw9 cx fx T8
                              go_wp2_with (first
                                | (go_at_call 16; refine (VC.out _ _ (-2000000) _ (BX.out _ k9.out).1 RX9.out).mono ?_; rintro e w10 ⟨rfl, h10⟩; have T10 := hide (T9.out.up h10); have w10s := T10.out.b.size; clear h10)
                                | (at_builtin; refine wpList_append_lies _ rfl (.tmp 269) (.tmp 271) 24 rfl wm.heap.size 3 i0 (.int .i64 0) 1 8 Tryz.underlying24 I0.out hz0 hz1 hz2 rfl (by omega) (.slice none 0 0) 0 [] rfl (T10.out.oy.alloc _) ⟨w10.heap.size, 0, none⟩ 1 1 [.int .i64 (VS (-2000000))] rfl rfl (World.news_of_block (heap_alloc_new _ _)) (by simp [Value.oneCell']) (by omega) (by unfold maxLen; omega) (by omega) (by simp; omega) (w10.heap.size + 1) (by simp) ?_; intro g11 c11 w11 hov11 hgr11 hat11 hlt11; have T11 : Hid (Two wm w11 (.slice (some ⟨g, 0, none⟩) xs.length cp) (.slice (some ⟨g11, 0, none⟩) (0 + 1) c11) (xs.set fn (-2000000)) [VS (-2000000)]) := T10.out.second hgr11 hov11 hat11; clear hov11 hgr11 hat11))
                              go_loopw [36, 42, 43] (fun y i _ wq => ∃ (q : Nat) (c : Int) (Y : List Int), q ≤ SC.length ∧ i = .int .i64 q ∧ Hid (Y = VS (-2000000) :: (SC.take q).map VS ∧ Y.length = q + 1) ∧ Hid (Two wm wq (.slice (some ⟨g, 0, none⟩) xs.length cp) y (xs.set fn c) Y)) (fun _ i _ _ => SC.length - (intOf i).toNat)
                              case atStart => exact ⟨0, -2000000, [VS (-2000000)], Nat.zero_le _, rfl, ⟨rfl, rfl⟩, T11⟩
                              case round =>
                                clear T9 T10 T11 RX9 k9
                                obtain ⟨q, c, Y, hq, rfl, HY, T⟩ := hrel
                                have kq := hide (below_on kc.out T.out.b)
                                obtain ⟨ya3, yc3, rfl, RY, _⟩ := own_rd T.out.oy
                                have wqs := T.out.b.size
                                by_cases hlt : q < SC.length
                                · have qz : (q : Int) < (SC.length : Int) := by omega
                                  obtain ⟨ub, uo, eu, hub, huc⟩ := (RU2.out.below T.out.b).2 (by intro e; rw [e, List.length_nil] at hlt; omega)
                                  subst eu
                                  have cq := huc q hlt
                                  have cx := T.out.cellX List.length_set fl
                                  have fx := T.out.froX List.length_set fn
                                  have NY : Hid (Y ++ [VS (SC.getD q 0)] = VS (-2000000) :: (SC.take (q + 1)).map VS ∧ (Y ++ [VS (SC.getD q 0)]).length = q + 1 + 1) := by
                                    refine ⟨?_, by rw [List.length_append, HY.out.2]; rfl⟩
                                    rw [HY.out.1, List.take_succ_eq_append_getElem hlt, List.map_append, M.getD_at hlt]
                                    rfl
                                  have yl : Y.length ≤ 64 := by have := HY.out.2; omega
                                  have TT : Hid (∀ u, Two wm (wr.setCell ⟨g, fn, none⟩ (.int .i64 u)) (.slice (some ⟨g, 0, none⟩) xs.length cp) (.slice ya3 Y.length yc3) (xs.set fn u) Y) := fun u => by
                                    have := T.out.turn List.length_set fn u
                                    rw [List.set_set] at this
                                    exact this
                                  clear RY huc HY
                                  generalize SC.getD q 0 = sv at *
                                  go_upto_region 63 with fail
                                  obtain ⟨w12, hw12⟩ : ∃ W, W = wr.setCell ⟨g, fn, none⟩ (.int .i64 sv) := ⟨_, rfl⟩
                                  rw [← hw12]
                                  have T12 : Hid (Two wm w12 (.slice (some ⟨g, 0, none⟩) xs.length cp) (.slice ya3 Y.length yc3) (xs.set fn sv) Y) := by rw [hw12]; exact TT.out sv
                                  have RX12 := hide (T12.out.rdX List.length_set)
                                  have k12 := hide (below_on kc.out T12.out.b)
                                  clear hw12 cx fx TT cq
                                  go_wp2_with (first
                                    | (go_at_call 16; refine (VC.out _ _ sv _ (BX.out _ k12.out).1 RX12.out).mono ?_; rintro e w13 ⟨rfl, h13⟩; have T13 := hide (T12.out.up h13); have w13s := T13.out.b.size; clear h13)
                                    | (at_builtin; refine wpList_append_lies _ rfl (.tmp 289) (.tmp 291) 24 rfl wm.heap.size 3 i0 (.int .i64 0) 1 8 Tryz.underlying24 I0.out hz0 hz1 hz2 rfl (by omega) (.slice ya3 Y.length yc3) Y.length (Y.map (Value.int .i64)) rfl (T13.out.oy.alloc _) ⟨w13.heap.size, 0, none⟩ 1 1 [.int .i64 (VS sv)] rfl rfl (World.news_of_block (heap_alloc_new _ _)) (by simp [Value.oneCell']) (by omega) (by unfold maxLen; omega) (by omega) (by simp; omega) (w13.heap.size + 1) (by simp) ?_; intro g14 c14 w14 hov14 hgr14 hat14 hlt14; have T14 := hide (T13.out.second hgr14 hov14 hat14); clear hov14 hgr14 hat14))
                                  go_roundw
                                  case rel => exact ⟨q + 1, sv, Y ++ [VS sv], by omega, by go_num, NY, T14⟩
                                  case measure => simp [intOf] <;> omega
                                · have hqe : q = SC.length := by omega
                                  have qz : ¬ ((q : Int) < (SC.length : Int)) := by omega
                                  have EY : Hid (Y = SV) := by
                                    unfold Hid; rw [HY.out.1, hqe, List.take_length, EV2.out]
                                  have RV : Hid (Rd wr ya3 SV) := by
                                    unfold Hid; rw [← EY.out]; exact RY
                                  have RC := hide (RU2.out.below T.out.b)
                                  rw [EY.out]
                                  clear RY HY hqe T RU2 VC EV2
                                  go_wp2
                                  go_meet
                                  case rel => exact ⟨⟨xa3, xc3, rfl, RC⟩, ⟨ya3, yc3, rfl, RV⟩, kq⟩
                    · have t : (sf == 0) = false := by rw [beq_eq_false_iff_ne]; exact c
                      have E := hide (SZ.out c)
                      rw [t]
                      clear SZ SY HTS HXS HBX c t
                      go_wp2
                      go_meet
                      case rel => exact ⟨⟨none, 0, by rw [E.out.1]; rfl, by rw [E.out.1]; exact ⟨Nat.zero_le _, fun h => absurd rfl h⟩⟩, ⟨none, 0, by rw [E.out.2]; rfl, by rw [E.out.2]; exact ⟨Nat.zero_le _, fun h => absurd rfl h⟩⟩, K16⟩
                  case rest =>
                    obtain ⟨⟨ca1, cc1, rfl, HC1⟩, ⟨va1, vc1, rfl, HV1⟩, K17⟩ := hcut
                    clear SZ SY HTS HXS HBX K16
                    go_wp2_with (first
                      | (go_at_call 10; have lean := k20; refine (IN.out _ _ SV _ _ _ HY20.out HV20.out).mono ?_; rintro e w21 ⟨rfl, h21⟩; have k21 := hide (below_on k20.out h21); clear h21)
                      | (go_at_call 10; refine (IN.out _ _ SC _ _ _ HX19.out HC19.out).mono ?_; rintro e w20 ⟨rfl, h20⟩; have k20 := hide (below_on k19.out h20); have HY20 := hide (HY19.out.below h20); have HV20 := hide (HV19.out.below h20); clear h20)
                      | (go_at_call 8; refine (ER.out sf _ (BX.out _ k18.out).1).mono ?_; rintro e w19 ⟨rfl, h19⟩; have k19 := hide (below_on k18.out h19); have HX19 := hide (HX18.out.below h19); have HY19 := hide (HY18.out.below h19); have HC19 := hide (HC18.out.below h19); have HV19 := hide (HV18.out.below h19); clear h19)
                      | (go_at_call 17; refine (LS.out _ (BX.out _ K17.out).1).mono ?_; rintro e w18 ⟨xa8, xc8, ya8, yc8, rfl, hx8, hy8, h18⟩; have k18 := hide (below_on K17.out h18); have HX18 := hide hx8; have HY18 := hide hy8; have HC18 := hide (HC1.out.below h18); have HV18 := hide (HV1.out.below h18); clear h18 hx8 hy8))
                    go_ret
                    exact ⟨rfl, (BX.out _ k21.out).1⟩

end Go.Proofs.YtcaljnhdfbjpnadGreatDoor
