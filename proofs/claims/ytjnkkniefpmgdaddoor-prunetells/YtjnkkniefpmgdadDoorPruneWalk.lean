/-
  PruneTells' own walk, with what package prune answers as premises.
-/
import Derived.Test.YtjnkkniefpmgdadDoorPruneG
import Derived.Test.YtjnkkniefpmgdadDoorRefPr
import Derived.Test.YtjnkkniefpmgdadDoorGwLaid
import Derived.Test.YtjnkkniefpmgdadDoorRefGrove
import Derived.Test.YtjnkkniefpmgdadDoorGrSame
import Derived.Test.YtjnkkniefpmgdadDoorError
import Derived.Deep.CutBlock
import Derived.Deep.RegionHeld3
namespace Go.Proofs.YtjnkkniefpmgdadDoor
open Go.ChangeShapes Go.WideShapes Go.ChangeAt Go.RowKit Go.Lib
set_option linter.unusedVariables false

/-- the reference's Prune and Sort of a tree that is right -/
theorem rprun_right (a0 : Option Addr) (ts : List M.Nd) (cap : Nat) (m : Int) (w : World) (h : RdN w a0 ts) (hz : (M.treeF ts m).2 = 0) :
    Calls Tryd.prog 19 #[.slice a0 ts.length cap, .int .i64 m] w fun e w' => ∃ a c, e = .returned (.slice a (M.prunV ts m).length c) ∧ RdN w' a (M.prunV ts m) ∧ (∀ p, a = some p → w.heap.size ≤ p.block) ∧ Below w.heap.size w w' := by
  obtain ⟨F, em⟩ := M.fair_nat hz
  have e : M.prunV ts m = M.lay (M.prn (M.vld m.toNat) (M.bt ts 0)) 0 := by unfold M.prunV; rw [if_pos hz]
  have := rprune_any a0 ts cap m.toNat w h F (by rw [M.bt_size F]; exact F.1)
  rw [em] at this
  rw [e, M.lay_len]
  exact this
theorem rsort_right (a0 : Option Addr) (ts : List M.Nd) (cap : Nat) (m : Int) (w : World) (h : RdN w a0 ts) (hz : (M.treeF ts m).2 = 0) :
    Calls Tryd.prog 20 #[.slice a0 ts.length cap, .int .i64 0, .slice none 0 0] w fun e w' => ∃ a c, e = .returned (.slice a (M.sortV ts m).length c) ∧ RdN w' a (M.sortV ts m) ∧ (∀ p, a = some p → w.heap.size ≤ p.block) ∧ Below w.heap.size w w' := by
  have F := (M.tree_ok hz).1
  have l0 := F.2.1
  obtain ⟨bt, ot, rfl, hbt, hct⟩ := h.2 (by intro e; rw [e] at l0; simp at l0)
  have e : M.sortV ts m = M.lay (M.bt ts 0) 0 := by unfold M.sortV; rw [if_pos hz]
  rw [e, M.lay_len]
  exact rsort_new ts m F.2.2.2.2.1 F.1 bt ot cap 0 l0 w hbt hct (by rw [M.bt_size F]; have := F.1; omega)

set_option maxHeartbeats 32000000 in
set_option maxRecDepth 10000 in
theorem prune_walk (hT : TreeGives) (hS : SortGives) (hP : PruneGives) (a0 : Option Addr) (ts : List M.Nd) (cap : Nat) (m : Int) (G : Gr) (w : World) (ht : RdN w a0 ts) (h : RdG w G) (hl : Lays w) :
    Calls Tryd.prog 4 #[.slice a0 ts.length cap, .int .i64 m, G.v] w fun r w' => r = .returned (.bool true) ∧ Below w.heap.size w w' := by
  have RT := hide (fun W (hW : Below w.heap.size w W) => rtree_any a0 ts cap m W (ht.below hW))
  have PT := hide (fun W (hW : Below w.heap.size w W) => hT a0 ts cap m W (ht.below hW))
  have PS := hide (fun W (hW : Below w.heap.size w W) => hS a0 ts cap m W (ht.below hW))
  have PR := hide (fun W (hW : Below w.heap.size w W) => hP G W (h.below hW))
  have RG := hide (fun W (hW : Below w.heap.size w W) => rgrove_any G W (h.below hW))
  have ER := hide (fun c W (hW : Below w.heap.size w W) => (error_any c c W (hl.below hW)).mono (R' := fun r w' => r = .returned (.bool true) ∧ Below W.heap.size W w') fun r w' h => ⟨by rw [h.1, beq_self_eq_true], h.2⟩)
  have ND := hide (fun a b (us : List M.Nd) ca cb W (h1 : RdN W a us) (h2 : RdN W b us) => nodesame_any a b us ca cb W h1 h2)
  have GS := hide (fun (G1 G2 : Gr) W h1 h2 hm => grovesame_any G1 G2 W h1 h2 hm)
  have XP : Hid ((M.treeF ts m).2 = 0 → ∀ W, Below w.heap.size w W → Calls Tryd.prog 19 #[.slice a0 ts.length cap, .int .i64 m] W fun e w' => ∃ a c, e = .returned (.slice a (M.prunV ts m).length c) ∧ RdN w' a (M.prunV ts m) ∧ Below W.heap.size W w') := fun hz W hW => (rprun_right a0 ts cap m W (ht.below hW) hz).mono (fun e w' q => by obtain ⟨a, c, q1, q2, _, q4⟩ := q; exact ⟨a, c, q1, q2, q4⟩)
  have XS : Hid ((M.treeF ts m).2 = 0 → ∀ W, Below w.heap.size w W → Calls Tryd.prog 20 #[.slice a0 ts.length cap, .int .i64 0, .slice none 0 0] W fun e w' => ∃ a c, e = .returned (.slice a (M.sortV ts m).length c) ∧ RdN w' a (M.sortV ts m) ∧ Below W.heap.size W w') := fun hz W hW => (rsort_right a0 ts cap m W (ht.below hW) hz).mono (fun e w' q => by obtain ⟨a, c, q1, q2, _, q4⟩ := q; exact ⟨a, c, q1, q2, q4⟩)
  have XN : Hid ((M.treeF ts m).2 ≠ 0 → M.prunV ts m = [] ∧ M.sortV ts m = []) := fun hz => ⟨by unfold M.prunV; rw [if_neg hz], by unfold M.sortV; rw [if_neg hz]⟩
  unfold Gr.v at PR RG ⊢
  have B0 : Hid (∀ o, Below w.heap.size w (w.alloc o)) := fun o => (Below.refl _ w).alloc (Nat.le_refl _) _
  have BX : Hid (∀ W, Below (w.alloc (.cells #[.int .i64 G.f, .int .i64 G.w, .slice G.wa G.ws.length G.wc, .slice G.ta G.ks.length G.tc] 25)).heap.size (w.alloc (.cells #[.int .i64 G.f, .int .i64 G.w, .slice G.wa G.ws.length G.wc, .slice G.ta G.ks.length G.tc] 25)) W → Below w.heap.size w W ∧ W.cell? ⟨w.heap.size, 0, none⟩ = some (.int .i64 G.f) ∧ W.cell? ⟨w.heap.size, 1, none⟩ = some (.int .i64 G.w) ∧ W.cell? ⟨w.heap.size, 2, none⟩ = some (.slice G.wa G.ws.length G.wc) ∧ W.cell? ⟨w.heap.size, 3, none⟩ = some (.slice G.ta G.ks.length G.tc)) := fun W hW => ⟨below_on (B0.out _) hW, kept_grove hW⟩
  have HTS := hide ht
  have HG := hide h
  clear ht h hl hT hS hP
  generalize (M.treeF ts m).2 = te at *
  generalize (M.treeF ts m).1 = tp at *
  generalize M.prunV ts m = PV at *
  generalize M.sortV ts m = SV at *
  go_enter Tryd.func4, Tryd.ntmps4
  go_upto_region 3 with (go_at_call 18; refine (RT.out _ (B0.out _)).mono ?_; rintro r w1 ⟨rfl, h1⟩; have G1 := hide h1; clear h1)
  go_cut [31] from 30 to 31 (fun v wx => ∃ q : Bool, v = .bool q ∧ Hid (q = decide (te = 0)) ∧ wx = w1)
  case first =>
    by_cases hz : te = 0
    · have t : (te == 0) = true := by rw [beq_iff_eq]; exact hz
      have E : Hid (true = decide (te = 0)) := (decide_eq_true hz).symm
      clear hz
      go_wp2
      go_meet
      case rel => exact ⟨true, rfl, E, rfl⟩
    · have t : (te == 0) = false := by rw [beq_eq_false_iff_ne]; exact hz
      have E : Hid (false = decide (te = 0)) := (decide_eq_false hz).symm
      clear hz
      go_wp2
      go_meet
      case rel => exact ⟨false, rfl, E, rfl⟩
  case rest =>
    obtain ⟨q, rfl, HQ, rfl⟩ := hcut
    go_upto_if 31 with fail
    go_cut [9, 10] from 32 to 36 (fun u v wx => (∃ aa ac, u = .slice aa PV.length ac ∧ Hid (RdN wx aa PV)) ∧ (∃ ba bc, v = .slice ba SV.length bc ∧ Hid (RdN wx ba SV)) ∧ Hid (Below (w.alloc (.cells #[.int .i64 G.f, .int .i64 G.w, .slice G.wa G.ws.length G.wc, .slice G.ta G.ks.length G.tc] 25)).heap.size (w.alloc (.cells #[.int .i64 G.f, .int .i64 G.w, .slice G.wa G.ws.length G.wc, .slice G.ta G.ks.length G.tc] 25)) wx))
    case first =>
      cases q with
      | false =>
        have E := hide (XN.out (of_decide_eq_false HQ.out.symm))
        clear HQ XP XS XN PT PS PR RG ER ND GS RT
        go_wp2
        go_meet
        case rel => exact ⟨⟨none, 0, by rw [E.out.1]; rfl, by rw [E.out.1]; exact ⟨Nat.zero_le _, fun h => absurd rfl h⟩⟩, ⟨none, 0, by rw [E.out.2]; rfl, by rw [E.out.2]; exact ⟨Nat.zero_le _, fun h => absurd rfl h⟩⟩, G1⟩
      | true =>
        have z := of_decide_eq_true HQ.out.symm
        have C1 := hide (XP.out z)
        have C2 := hide (XS.out z)
        clear HQ XP XS XN PT PS PR RG ER ND GS RT z
        go_wp2_with (first
          | (go_at_call 19; refine (C1.out _ (BX.out _ G1.out).1).mono ?_; rintro r w2 ⟨aa, ac, rfl, hr2, h2⟩; have g2 := below_on G1.out h2; have HR2' := hide hr2; clear hr2)
          | (go_at_call 20; refine (C2.out _ (BX.out _ g2).1).mono ?_; rintro r w3 ⟨ba, bc, rfl, hr3, h3⟩; have G3 := hide (below_on g2 h3); have HR3 := hide hr3; have HR2 := hide (HR2'.out.below h3); clear hr3))
        go_meet
        case rel => exact ⟨⟨aa, ac, rfl, HR2⟩, ⟨ba, bc, rfl, HR3⟩, G3⟩
    case rest =>
      obtain ⟨⟨aa, ac, rfl, HRA⟩, ⟨ba, bc, rfl, HRB⟩, G3⟩ := hcut
      clear HQ XP XS XN RT G1
      obtain ⟨k3, _, _, _, _⟩ := BX.out _ G3.out
      have g3 := G3.out
      go_upto_region 14 with (first
        | (go_at_call 9; refine (RG.out _ k9).mono ?_; rintro r w10 ⟨rfl, h10⟩; have g10 := below_on g9 h10)
        | (go_at_call 23; have hone := g8; refine (ND.out ya ba SV yc bc _ HY8.out HB8.out).mono ?_; rintro r w9 ⟨rfl, h9⟩; have g9 := below_on g8 h9; have q9 := BX.out _ g9; have k9 := q9.1; have z0 := q9.2.1; have z1 := q9.2.2.1; have z2 := q9.2.2.2.1; have z3 := q9.2.2.2.2; clear q9)
        | (go_at_call 23; refine (ND.out xa aa PV xc ac _ HX7.out HA7.out).mono ?_; rintro r w8 ⟨rfl, h8⟩; have g8 := below_on g7 h8; have HY8 := hide (HY7.out.below h8); have HB8 := hide (HB7.out.below h8))
        | (go_at_call 8; have hone := g6; refine (ER.out te _ k6).mono ?_; rintro r w7 ⟨rfl, h7⟩; have g7 := below_on g6 h7; have HX7 := hide (HX6.out.below h7); have HY7 := hide (HY6.out.below h7); have HA7 := hide (HA6.out.below h7); have HB7 := hide (HB6.out.below h7))
        | (go_at_call 22; refine (PS.out _ k5).mono ?_; rintro r w6 ⟨ya, yc, rfl, hy6, h6⟩; have g6 := below_on g5 h6; have k6 := (BX.out _ g6).1; have HY6 := hide hy6; have HX6 := hide (HX5.out.below h6); have HA6 := hide (HA5.out.below h6); have HB6 := hide (HB5.out.below h6); clear hy6)
        | (go_at_call 8; refine (ER.out te _ k4).mono ?_; rintro r w5 ⟨rfl, h5⟩; have g5 := below_on g4 h5; have k5 := (BX.out _ g5).1; have HX5 := hide (HX4.out.below h5); have HA5 := hide (HA4.out.below h5); have HB5 := hide (HB4.out.below h5))
        | (go_at_call 21; refine (PT.out _ k3).mono ?_; rintro r w4 ⟨xa, xc, rfl, hx4, h4⟩; have g4 := below_on g3 h4; have k4 := (BX.out _ g4).1; have HX4 := hide hx4; have HA4 := hide (HRA.out.below h4); have HB4 := hide (HRB.out.below h4); clear hx4))
      have G10 := hide g10
      clear PT PS ND g3 g4 g5 g6 g7 g8 g9 g10 h4 h5 h6 h7 h8 h9 h10 k3 k4 k5 k6 k9 z0 z1 z2 z3 HRA HRB HX4 HX5 HX6 HX7 HY6 HY7 HY8 HA4 HA5 HA6 HA7 HB4 HB5 HB6 HB7 HB8 G3 hone
      by_cases he : M.groveF G.m = 0
      · have K := (M.good_iff G.m).1 he
        have t : (M.groveF G.m == 0) = true := by rw [beq_iff_eq]; exact he
        have tlen : (M.gt G.m).length = G.ks.length := tl_len G.ks
        have g0 : 0 < G.ks.length := by rw [← tlen]; exact K.t0
        have g12 : G.ks.length ≤ 12 := by rw [← tlen]; exact K.t12
        have TZ : ∀ k (hk : k < G.ks.length), (M.treeF G.ks[k].2.1 G.f).2 = 0 := fun k hk => K.trees G.ks[k].2.1 (List.mem_map.2 ⟨_, List.getElem_mem hk, rfl⟩)
        have LT : Hid (∀ k (hk : k < G.ks.length), ∀ W, Below w.heap.size w W → Calls Tryd.prog 19 #[.slice G.ks[k].1 G.ks[k].2.1.length G.ks[k].2.2, .int .i64 G.f] W fun e w' => ∃ a c, e = .returned (.slice a (M.prunV G.ks[k].2.1 G.f).length c) ∧ RdN w' a (M.prunV G.ks[k].2.1 G.f) ∧ (∀ p, a = some p → W.heap.size ≤ p.block) ∧ Below W.heap.size W w') := fun k hk W hW => rprun_right _ _ _ G.f W ((HG.out.below hW).2.2.1 _ (List.getElem_mem hk)) (TZ k hk)
        have LK : Hid (∀ k (hk : k < G.ks.length), ((tl G.ks).map (fun t => M.prunV t G.f)).take (k + 1) = ((tl G.ks).map (fun t => M.prunV t G.f)).take k ++ [M.prunV G.ks[k].2.1 G.f] ∧ M.prunV G.ks[k].2.1 G.f ≠ []) := fun k hk => by
          have h1 : k < (tl G.ks).length := by rw [tl_len]; exact hk
          refine ⟨?_, fun e => ?_⟩
          · rw [List.take_add_one, List.getElem?_map, List.getElem?_eq_getElem h1]
            simp [tl]
          · have q := (M.tree_ok (M.prun_tree (TZ k hk)).1).1.2.1
            rw [e] at q
            simp at q
        have TT : Hid (((tl G.ks).map (fun t => M.prunV t G.f)).take G.ks.length = (tl G.ks).map (fun t => M.prunV t G.f)) := List.take_of_length_le (by rw [List.length_map, tl_len]; exact Nat.le_refl _)
        have JM1 : Hid (M.prunG G.m = (G.f, G.w, G.ws, (tl G.ks).map (fun t => M.prunV t G.f))) := by unfold Hid M.prunG; rw [if_pos he]; rfl
        obtain ⟨bt2, ot2, eta, hbt2, hct2⟩ := HG.out.2.2.2 (by intro e; rw [e] at g0; simp at g0)
        have HT : Hid (∀ W, Below w.heap.size w W → ∀ k (hk : k < G.ks.length), W.cell? ⟨bt2, ot2 + k, none⟩ = some (.slice G.ks[k].1 G.ks[k].2.1.length G.ks[k].2.2)) := fun W hW k hk => (hW.cell (p := ⟨bt2, ot2 + k, none⟩) hbt2).trans (hct2 k hk)
        have HW := hide (fun W (hW : Below w.heap.size w W) => (HG.out.below hW).1)
        obtain ⟨j0, hj, hy0, hy1, hy2⟩ := info_parts infoL
        have J0 := hide hj
        rw [eta] at PR BX G10 ⊢
        have BA : Hid (∀ o, Below (w.alloc (.cells #[.int .i64 G.f, .int .i64 G.w, .slice G.wa G.ws.length G.wc, .slice (some ⟨bt2, ot2, none⟩) G.ks.length G.tc] 25)).heap.size (w.alloc (.cells #[.int .i64 G.f, .int .i64 G.w, .slice G.wa G.ws.length G.wc, .slice (some ⟨bt2, ot2, none⟩) G.ks.length G.tc] 25)) (w10.alloc o)) := fun o => G10.out.alloc G10.out.size o
        have xa0 : ∀ o, (w10.alloc o).cell? ⟨w.heap.size, 0, none⟩ = some (.int .i64 G.f) := fun o => (BX.out _ (BA.out o)).2.1
        have xa1 : ∀ o, (w10.alloc o).cell? ⟨w.heap.size, 1, none⟩ = some (.int .i64 G.w) := fun o => (BX.out _ (BA.out o)).2.2.1
        have xa2 : ∀ o, (w10.alloc o).cell? ⟨w.heap.size, 2, none⟩ = some (.slice G.wa G.ws.length G.wc) := fun o => (BX.out _ (BA.out o)).2.2.2.1
        clear he K tlen TZ hj eta hbt2 hct2 HG RG
        generalize M.groveF G.m = e at *
        generalize M.prunG G.m = PGm at *
        go_wp2
        obtain ⟨wg, hwg⟩ : ∃ W, W = w10.alloc (.cells #[.int .i64 G.f, .int .i64 G.w, .slice G.wa G.ws.length G.wc, .slice none 0 0] 25) := ⟨_, rfl⟩
        have GW0 := hide (gw_begin wg hwg)
        have bg10 : Hid (Below w10.heap.size w10 wg) := by unfold Hid; rw [hwg]; exact (Below.refl _ _).alloc (Nat.le_refl _) _
        rw [← hwg]
        clear hwg xa0 xa1 xa2 BA
        have KB : Hid (∀ W, wg.grownBy W (some w10.heap.size) → Below (w.alloc (.cells #[.int .i64 G.f, .int .i64 G.w, .slice G.wa G.ws.length G.wc, .slice (some ⟨bt2, ot2, none⟩) G.ks.length G.tc] 25)).heap.size (w.alloc (.cells #[.int .i64 G.f, .int .i64 G.w, .slice G.wa G.ws.length G.wc, .slice (some ⟨bt2, ot2, none⟩) G.ks.length G.tc] 25)) W) := fun W hW => below_on G10.out (bg10.out.grown hW bg10.out.size (fun k hk => by cases hk; exact Nat.le_refl _))
        go_loopw [19] (fun i wr => ∃ (k : Nat) (C : List Tc) (x : Value), k ≤ G.ks.length ∧ i = .int .i64 k ∧ Hid (tl C = ((tl G.ks).map (fun t => M.prunV t G.f)).take k ∧ C.length = k) ∧ Hid (Gw wg wr w10.heap.size G.f G.w (.slice G.wa G.ws.length G.wc) C x)) (fun i _ => G.ks.length - (intOf i).toNat)
        case atStart => exact ⟨0, [], .slice none 0 0, Nat.zero_le _, rfl, ⟨rfl, rfl⟩, GW0⟩
        case round =>
          obtain ⟨k2, C, x, hk2, rfl, HC, GW⟩ := hrel
          have gb := KB.out wr GW.out.gr
          obtain ⟨kw, z0, z1, z2, z3⟩ := BX.out wr gb
          by_cases hlt : k2 < G.ks.length
          · obtain ⟨l2, l3⟩ := LK.out k2 hlt
            have ct := HT.out wr kw k2 hlt
            have P1 := hide (fun W (hW : Below wr.heap.size wr W) => LT.out k2 hlt W (below_on kw hW))
            have kz : (k2 : Int) < (G.ks.length : Int) := by omega
            have TC : Hid (∀ a cp, tl (C ++ [(a, M.prunV G.ks[k2].2.1 G.f, cp)]) = ((tl G.ks).map (fun t => M.prunV t G.f)).take (k2 + 1) ∧ (C ++ [(a, M.prunV G.ks[k2].2.1 G.f, cp)]).length = k2 + 1) := fun a cp => by
              rw [l2, ← HC.out.1]
              refine ⟨by simp [tl], by rw [List.length_append, HC.out.2]; rfl⟩
            have cl : C.length ≤ 12 := by have := HC.out.2; omega
            have UP : Hid (∀ W, Below wr.heap.size wr W → Gw wg W w10.heap.size G.f G.w (.slice G.wa G.ws.length G.wc) C x ∧ W.cell? ⟨w10.heap.size, 3, none⟩ = some x ∧ W.ownsRow wg.heap.size 29 1 x C.length (C.map tV) ∧ wg.heap.size ≤ W.heap.size) := fun W hW => ⟨GW.out.up hW, (GW.out.up hW).c3, (GW.out.up hW).ox, (GW.out.up hW).gr.size⟩
            have MO : Hid (∀ (w5 : World) (o : Obj) a cp g2 c2 w6, Below wr.heap.size wr w5 → RdN w5 a (M.prunV G.ks[k2].2.1 G.f) → (∀ p, a = some p → wr.heap.size ≤ p.block) → (w5.alloc o).grownBy w6 x.ownBlock → w6.ownsRow wg.heap.size 29 1 (.slice (some ⟨g2, 0, none⟩) (C.length + 1) c2) (C.length + 1) (C.map tV ++ [.slice a (M.prunV G.ks[k2].2.1 G.f).length cp]) → (x.ownBlock = some g2 ∨ g2 = w5.heap.size + 1) → (w6.cell? ⟨w10.heap.size, 3, none⟩ = some x ∧ w6.frozen? ⟨w10.heap.size, 3, none⟩ = false) ∧ Hid (Gw wg (w6.setCell ⟨w10.heap.size, 3, none⟩ (.slice (some ⟨g2, 0, none⟩) (C.length + 1) c2)) w10.heap.size G.f G.w (.slice G.wa G.ws.length G.wc) (C ++ [(a, M.prunV G.ks[k2].2.1 G.f, cp)]) (.slice (some ⟨g2, 0, none⟩) (C.length + 1) c2))) := fun w5 o a cp g2 c2 w6 hb hr ha hg ho hor => by
              have q := (UP.out w5 hb).1
              have qs := q.gr.size
              have ql := q.lt
              have gf' : w6.heap[w10.heap.size]? = w5.heap[w10.heap.size]? := (hg.block _ (by simp; omega) (fun e => by have := (q.ox.lt _ e.symm).1; omega)).trans (Below.heap_alloc _ _ _ (by omega))
              refine ⟨⟨(World.cell?_of_block (a := ⟨w10.heap.size, 3, none⟩) gf').trans q.c3, (World.frozen?_of_block (a := ⟨w10.heap.size, 3, none⟩) gf').trans (q.fr 3)⟩, ?_⟩
              exact q.more (w0 := wr) (fun z hz => (GW.out.ox.lt z hz).2) GW.out.gr.size hb.size l3 hr ha hg ho hor
            clear HT LT LK TT HW GS HC GW l2 l3 PR ER JM1
            generalize M.prunV G.ks[k2].2.1 G.f = LV at *
            generalize G.ks[k2].2.1.length = tn at *
            generalize G.ks[k2].2.2 = tcc at *
            generalize G.ks[k2].1 = ta at *
            go_upto_region 21 with fail
            go_cut [20] from 81 to 88 (fun v wx => ∃ av cv, v = .slice av LV.length cv ∧ Hid (RdN wx av LV) ∧ Hid (∀ p, av = some p → wr.heap.size ≤ p.block) ∧ Hid (Below wr.heap.size wr wx))
            case first =>
              have BD : Hid (Below wr.heap.size wr wr.drew) := (Below.refl _ _).drew
              go_region_with (go_at_call 19; refine (P1.out _ BD.out).mono ?_; rintro r w5 ⟨av, cv, rfl, hr5, ha5, h5⟩; have HR5 := hide hr5; have HA5 : Hid (∀ p, av = some p → wr.heap.size ≤ p.block) := (fun p hp => Nat.le_trans BD.out.size (ha5 p hp)); have H5 := hide (below_on BD.out h5); clear hr5 ha5 h5)
              all_goals (
                go_wp2
                go_meet
                case rel => exact ⟨av, cv, rfl, HR5, HA5, H5⟩)
            case rest =>
              obtain ⟨av, cv, rfl, HR5, HA5, H5⟩ := hcut
              have U5 := hide (UP.out wc H5.out)
              have c5 := U5.out.2.1
              have U6 := hide (UP.out _ (H5.out.alloc H5.out.size (.cells #[.slice av LV.length cv] 29)))
              have c6 := U6.out.2.1
              go_wp2_with (at_builtin; refine wpList_append_lies _ rfl (.tmp 90) (.tmp 92) 23 rfl wg.heap.size 29 j0 (.slice none 0 0) 1 24 Tryd.underlying23 J0.out hy0 hy1 hy2 rfl (by decide) x C.length (C.map tV) rfl U6.out.2.2.1 ⟨wc.heap.size, 0, none⟩ 1 1 [.slice av LV.length cv] rfl rfl (World.news_of_block (heap_alloc_new _ _)) (by intro u hu; simp at hu; subst hu; rfl) (by decide) (by unfold maxLen; omega) (by omega) U6.out.2.2.2 (wc.heap.size + 1) (by simp) ?_; intro g6 c6' w6 hown6 hgrow6 hor6 hlt6; have MM := MO.out wc _ av cv g6 c6' w6 H5.out HR5.out HA5.out hgrow6 hown6 hor6; have v3 := MM.1.1; have vf := MM.1.2; have NG := MM.2; clear MM hown6 hgrow6 hor6)
              go_roundw
              case rel => exact ⟨k2 + 1, C ++ [(av, LV, cv)], _, by omega, by go_num, ⟨(TC.out av cv).1, (TC.out av cv).2⟩, NG⟩
              case measure => simp [intOf]; omega
          · have hke : k2 = G.ks.length := by omega
            have kz : ¬ ((k2 : Int) < (G.ks.length : Int)) := by omega
            have hC : 0 < C.length := by have := HC.out.2; omega
            have hC12 : C.length ≤ 12 := by have := HC.out.2; omega
            obtain ⟨gx, cx, ex, hRD⟩ := gw_rdg GW.out (HW.out wr kw) hC hC12
            have HCM : Hid (tl C = (tl G.ks).map (fun t => M.prunV t G.f)) := by unfold Hid; rw [HC.out.1, hke]; exact TT.out
            subst ex
            have HRD := hide hRD
            have CW : Hid (∀ W, Below wr.heap.size wr W → W.cell? ⟨w10.heap.size, 0, none⟩ = some (.int .i64 G.f) ∧ W.cell? ⟨w10.heap.size, 1, none⟩ = some (.int .i64 G.w) ∧ W.cell? ⟨w10.heap.size, 2, none⟩ = some (.slice G.wa G.ws.length G.wc) ∧ W.cell? ⟨w10.heap.size, 3, none⟩ = some (.slice (some ⟨gx, 0, none⟩) C.length cx)) := fun W hW => ⟨(GW.out.up hW).c0, (GW.out.up hW).c1, (GW.out.up hW).c2, (GW.out.up hW).c3⟩
            have SM : Hid (∀ (J : Gr) W, Below wr.heap.size wr W → RdG W J → J.m = PGm → Calls Tryd.prog 15 #[.agg #[.int .i64 J.f, .int .i64 J.w, .slice J.wa J.ws.length J.wc, .slice J.ta J.ks.length J.tc], .agg #[.int .i64 G.f, .int .i64 G.w, .slice G.wa G.ws.length G.wc, .slice (some ⟨gx, 0, none⟩) C.length cx]] W fun r w' => r = .returned (.bool true) ∧ Below W.heap.size W w') := fun J W hW hJ hm => by
              refine GS.out J ⟨G.f, G.w, G.wa, G.ws, G.wc, some ⟨gx, 0, none⟩, C, cx⟩ W hJ (HRD.out.below hW) ?_
              rw [hm, JM1.out]
              show _ = (G.f, G.w, G.ws, tl C)
              rw [HCM.out]
            have GB := hide gb
            clear HT LT LK TT HW GS HC GW hRD hke HCM JM1 gb
            go_wp2_with (first
              | (go_at_call 15; refine (SM.out J _ H12.out HJ12.out HJM.out).mono ?_; rintro r w13 ⟨rfl, h13⟩; have H13 := hide (below_on H12.out h13))
              | (go_at_call 8; refine (ER.out e _ (below_on kw (h11.alloc h11.size _))).mono ?_; rintro r w12 ⟨rfl, h12⟩; have H12 := hide (below_on (h11.alloc h11.size _) h12); obtain ⟨y0, y1, y2, y3⟩ := kept_grove h12; obtain ⟨d0, d1, d2, d3⟩ := CW.out _ H12.out; have HJ12 := hide ((HJ.out.below ((Below.refl _ _).alloc (Nat.le_refl _) _)).below h12))
              | (go_at_call 24; refine (PR.out _ kw).mono ?_; rintro r w11 ⟨J, rfl, hJm, hJr, h11⟩; have HJ := hide hJr; have HJM := hide hJm; clear hJm hJr))
            go_ret
            exact ⟨rfl, (BX.out _ (below_on GB.out H13.out)).1⟩
      · have t : (M.groveF G.m == 0) = false := by rw [beq_eq_false_iff_ne]; exact he
        have JM0 : M.prunG G.m = (0, 0, [], []) := by unfold M.prunG; rw [if_neg he]
        have GSZ : Hid (∀ (J : Gr) W, RdG W J → J.m = M.prunG G.m → Calls Tryd.prog 15 #[.agg #[.int .i64 J.f, .int .i64 J.w, .slice J.wa J.ws.length J.wc, .slice J.ta J.ks.length J.tc], .agg #[.int .i64 0, .int .i64 0, .slice none 0 0, .slice none 0 0]] W fun r w' => r = .returned (.bool true) ∧ Below W.heap.size W w') := fun J W hJ hm => GS.out J ⟨0, 0, none, [], 0, none, [], 0⟩ W hJ ⟨⟨Nat.zero_le _, fun h => absurd rfl h⟩, Nat.zero_le _, (fun k hk => by cases hk), fun h => absurd rfl h⟩ (by rw [hm, JM0]; rfl)
        have Z0 : Hid (∀ W, Below (w10.alloc (.cells #[.int .i64 0, .int .i64 0, .slice none 0 0, .slice none 0 0] 25)).heap.size (w10.alloc (.cells #[.int .i64 0, .int .i64 0, .slice none 0 0, .slice none 0 0] 25)) W → Below (w.alloc (.cells #[.int .i64 G.f, .int .i64 G.w, .slice G.wa G.ws.length G.wc, .slice G.ta G.ks.length G.tc] 25)).heap.size (w.alloc (.cells #[.int .i64 G.f, .int .i64 G.w, .slice G.wa G.ws.length G.wc, .slice G.ta G.ks.length G.tc] 25)) W ∧ W.cell? ⟨w10.heap.size, 0, none⟩ = some (.int .i64 0) ∧ W.cell? ⟨w10.heap.size, 1, none⟩ = some (.int .i64 0) ∧ W.cell? ⟨w10.heap.size, 2, none⟩ = some (.slice none 0 0) ∧ W.cell? ⟨w10.heap.size, 3, none⟩ = some (.slice none 0 0)) := fun W hW => ⟨below_on (G10.out.alloc G10.out.size _) hW, kept_grove hW⟩
        have A0 := hide (Z0.out _ (Below.refl _ _))
        obtain ⟨k10, x0, x1, x2, x3⟩ := BX.out _ A0.out.1
        clear GS he JM0
        generalize M.groveF G.m = e at *
        generalize M.prunG G.m = PGm at *
        go_wp2_with (first
          | (go_at_call 15; refine (GSZ.out J _ HJ12.out HJM.out).mono ?_; rintro r w13 ⟨rfl, h13⟩; have H13 := hide (below_on H12.out h13))
          | (go_at_call 8; refine (ER.out e _ (BX.out _ (Z0.out _ (h11.alloc h11.size _)).1).1).mono ?_; rintro r w12 ⟨rfl, h12⟩; have H12 := hide (below_on (h11.alloc h11.size _) h12); obtain ⟨y0, y1, y2, y3⟩ := kept_grove h12; have q12 := Z0.out _ H12.out; have z0 := q12.2.1; have z1 := q12.2.2.1; have z2 := q12.2.2.2.1; have z3 := q12.2.2.2.2; have HJ12 := hide ((HJ.out.below ((Below.refl _ _).alloc (Nat.le_refl _) _)).below h12); clear q12)
          | (go_at_call 24; refine (PR.out _ k10).mono ?_; rintro r w11 ⟨J, rfl, hJm, hJr, h11⟩; have HJ := hide hJr; have HJM := hide hJm; clear hJm hJr))
        go_ret
        exact ⟨rfl, (BX.out _ (Z0.out _ H13.out).1).1⟩

end Go.Proofs.YtjnkkniefpmgdadDoor
