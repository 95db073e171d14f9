/-
  Several texts as one: PGrove.
-/
import Derived.Test.YtelncekgjfpogahGreatDoorRunT35
import Derived.Test.YtelncekgjfpogahGreatDoorRunT24
import Derived.Test.YtelncekgjfpogahGreatDoorRunT25
import Derived.Test.YtelncekgjfpogahGreatDoorRunT34
import Derived.Deep.RegionHeld3
namespace Go.Proofs.YtelncekgjfpogahGreatDoor
open Go.ChangeShapes Go.WideShapes Go.ChangeAt Go.RowKit Go.Lib
set_option linter.unusedVariables false
set_option maxHeartbeats 16000000 in
set_option maxRecDepth 10000 in
theorem prune_gives : PruneGives := by
 intro G w h
 have CK := hide (fun W (hW : Below w.heap.size w W) => gcheck_any G W (h.below hW))
 have HG := hide h
 unfold Gr.v at CK ⊢
 obtain ⟨wb, hwb⟩ : ∃ W, W = w.alloc (.cells #[.int .i64 G.f, .int .i64 G.w, .slice G.wa G.ws.length G.wc, .slice G.ta G.ks.length G.tc] 27) := ⟨_, rfl⟩
 have SB : Hid (wb.heap.size = w.heap.size + 1) := by rw [hwb]; simp [Hid]
 have BB : Hid (Below w.heap.size w wb) := by rw [hwb]; exact (Below.refl _ w).alloc (Nat.le_refl _) _
 have BX : Hid (∀ W, Below wb.heap.size wb W → Below w.heap.size w W ∧ W.cell? ⟨w.heap.size, 0, none⟩ = some (.int .i64 G.f) ∧ W.cell? ⟨w.heap.size, 1, none⟩ = some (.int .i64 G.w) ∧ W.cell? ⟨w.heap.size, 2, none⟩ = some (.slice G.wa G.ws.length G.wc) ∧ W.cell? ⟨w.heap.size, 3, none⟩ = some (.slice G.ta G.ks.length G.tc)) := fun W hW => ⟨below_on BB.out hW, by rw [hwb] at hW; exact kept_box hW⟩
 have B1 : Hid (Below wb.heap.size wb (wb.alloc nilG)) := (Below.refl _ _).alloc (Nat.le_refl _) _
 have ZB : Hid (∀ W, Below (wb.alloc nilG).heap.size (wb.alloc nilG) W → Zf W (w.heap.size + 1) ∧ Below wb.heap.size wb W) := fun W hW => by
  have := (zf_made wb).up hW
  rw [SB.out] at this
  exact ⟨this, below_on B1.out hW⟩
 by_cases he : M.groveF G.m = 0
 · have K := (M.good_iff G.m).1 he
   have tlen : (M.gt G.m).length = G.ks.length := tl_len G.ks
   have g0 : 0 < G.ks.length := by rw [← tlen]; exact K.t0
   have g12 : G.ks.length ≤ 12 := by rw [← tlen]; exact K.t12
   have wl := K.len
   have w0 : 0 < G.ws.length := by
    have : (M.gs G.m).length = G.ws.length := rfl
    omega
   have wm : G.ws.length ≤ 12 := by
    have : (M.gs G.m).length = G.ws.length := rfl
    omega
   have TZ : ∀ k (hk : k < G.ks.length), (M.treeF G.ks[k].2.1 G.f).2 = 0 := fun k hk => K.trees G.ks[k].2.1 (List.mem_map.2 ⟨_, List.getElem_mem hk, rfl⟩)
   have LT : Hid (∀ k (hk : k < G.ks.length), ∀ W, Below w.heap.size w W → Calls Tryz.prog 31 #[.slice G.ks[k].1 G.ks[k].2.1.length G.ks[k].2.2, .int .i64 G.f] W fun e w' => ∃ a c, e = .returned (.tuple #[.slice a (M.prunV G.ks[k].2.1 G.f).length c, .nilIface]) ∧ RdN w' a (M.prunV G.ks[k].2.1 G.f) ∧ (∀ p, a = some p → W.heap.size ≤ p.block) ∧ Below W.heap.size W w') := fun k hk W hW => by
    have := ptree_any G.ks[k].1 G.ks[k].2.1 G.ks[k].2.2 G.f W ((HG.out.below hW).2.2.1 _ (List.getElem_mem hk))
    rw [err_nil (TZ k hk)] at this
    exact this
   have LK : Hid (∀ k (hk : k < G.ks.length), ((tl G.ks).map (fun t => M.prunV t G.f)).take (k + 1) = ((tl G.ks).map (fun t => M.prunV t G.f)).take k ++ [M.prunV G.ks[k].2.1 G.f] ∧ M.prunV G.ks[k].2.1 G.f ≠ []) := fun k hk => by
    have h1 : k < (tl G.ks).length := by rw [tl_len]; exact hk
    refine ⟨?_, fun e => ?_⟩
    · rw [List.take_add_one, List.getElem?_map, List.getElem?_eq_getElem h1]
      simp [tl]
    · have q := (M.tree_ok (M.prun_tree (TZ k hk)).1).1.2.1
      rw [e] at q
      simp at q
   have TT : Hid (((tl G.ks).map (fun t => M.prunV t G.f)).take G.ks.length = (tl G.ks).map (fun t => M.prunV t G.f)) := List.take_of_length_le (by rw [List.length_map, tl_len]; exact Nat.le_refl _)
   have JM1 : Hid (M.prunG G.m = (G.f, G.w, G.ws, (tl G.ks).map (fun t => M.prunV t G.f))) := by unfold Hid M.prunG; rw [if_pos he]; rfl
   obtain ⟨bt2, ot2, eta, hbt2, hct2⟩ := HG.out.2.2.2 (by intro e; rw [e] at g0; simp at g0)
   obtain ⟨bw, ow, ewa, hbw, hcw⟩ := HG.out.1.2 (by intro e; rw [e] at w0; simp at w0)
   have HT : Hid (∀ W, Below w.heap.size w W → ∀ k (hk : k < G.ks.length), W.cell? ⟨bt2, ot2 + k, none⟩ = some (.slice G.ks[k].1 G.ks[k].2.1.length G.ks[k].2.2)) := fun W hW k hk => (hW.cell (p := ⟨bt2, ot2 + k, none⟩) hbt2).trans (hct2 k hk)
   have CC := hide (fun W (hW : Below w.heap.size w W) => clone_ints bw ow G.wc G.ws W (fun i hi => (hW.cell (p := ⟨bw, ow + i, none⟩) hbw).trans (hcw i hi)) (by omega) (Nat.lt_of_lt_of_le hbw hW.size))
   obtain ⟨i0, hi, hz0, hz1, hz2⟩ := info_parts infoL
   have I0 := hide hi
   rw [err_nil he] at CK ⊢
   rw [eta, ewa] at CK BX hwb ⊢
   have WN : Hid (wb.heap.size = w.heap.size + 1) := SB
   clear he K tlen TZ hi eta hbt2 hct2 ewa hbw hcw h wl
   go_enter Tryz.func7, Tryz.ntmps7
   go_upto_region 1 with fail
   rw [← hwb]
   obtain ⟨_, a0, a1, a2, a3⟩ := BX.out _ B1.out
   clear hwb
   go_upto_region 4 with (go_at_call 28; refine (CK.out _ (BX.out _ B1.out).1).mono ?_; rintro r w1 ⟨rfl, h1⟩; have Z1 := hide (ZB.out _ h1).1; have H1 := hide (ZB.out _ h1).2; clear h1)
   go_cut [5] from 16 to 23 (fun v wx => ∃ gb wa wcc, v = .pointer (some ⟨gb, 0, none⟩) ∧ Hid (Gs wb wx gb G.f G.w G.ws wa wcc))
   case first =>
    have SA : Hid (∀ w3 wa wcc, Below (w1.alloc nilG).drew.heap.size (w1.alloc nilG).drew w3 → Rd w3 wa G.ws → (∀ p, wa = some p → (w1.alloc nilG).drew.heap.size ≤ p.block) → Zf w3 w1.heap.size ∧ Gs wb (put4 w3 w1.heap.size (.int .i64 G.f) (.int .i64 G.w) (.slice wa G.ws.length wcc) (.slice none 0 0)) w1.heap.size G.f G.w G.ws wa wcc) := fun w3 wa wcc q1 q2 q3 => gs_a2 (by rw [WN.out]; exact Z1.out) H1.out q1 q2 q3
    have SD : Hid (∀ w3 wa wcc, Below w1.drew.heap.size w1.drew w3 → Rd w3 wa G.ws → (∀ p, wa = some p → w1.drew.heap.size ≤ p.block) → Gs wb (w3.alloc (.cells #[.int .i64 G.f, .int .i64 G.w, .slice wa G.ws.length wcc, .slice none 0 0] 27)) w3.heap.size G.f G.w G.ws wa wcc) := fun w3 wa wcc q1 q2 q3 => gs_b2 w0 (by rw [WN.out]; exact Z1.out) H1.out q1 q2 q3
    have D1 : Hid (Below wb.heap.size wb w1.drew) := H1.out.drew
    have D2 : Hid (Below wb.heap.size wb (w1.alloc nilG).drew) := (H1.out.alloc H1.out.size _).drew
    obtain ⟨_, b0, b1, b2, b3⟩ := BX.out _ H1.out
    obtain ⟨_, x0, x1, x2, x3⟩ := BX.out _ (H1.out.alloc H1.out.size nilG)
    have KD : Hid (∀ W, Below wb.heap.size wb W → W.cell? ⟨w.heap.size, 0, none⟩ = some (.int .i64 G.f) ∧ W.cell? ⟨w.heap.size, 1, none⟩ = some (.int .i64 G.w) ∧ W.cell? ⟨w.heap.size, 2, none⟩ = some (.slice (some ⟨bw, ow, none⟩) G.ws.length G.wc) ∧ ¬ W.heap.size = w.heap.size) := fun W hW => by
     obtain ⟨_, y0, y1, y2, y3⟩ := BX.out W hW
     have := hW.size
     have := WN.out
     exact ⟨y0, y1, y2, by omega⟩
    have pn1 : ¬ w1.heap.size = w.heap.size := (KD.out _ H1.out).2.2.2
    clear LT LK TT HT JM1 CK a0 a1 a2 a3 b3 x3
    go_region_held3 (fun W => W.cell? ⟨w.heap.size, 0, none⟩ = some (.int .i64 G.f) ∧ W.cell? ⟨w.heap.size, 1, none⟩ = some (.int .i64 G.w) ∧ W.cell? ⟨w.heap.size, 2, none⟩ = some (.slice (some ⟨bw, ow, none⟩) G.ws.length G.wc)) (go_keep) (first
     | (go_at_call 29; refine (CC.out _ ?qw).mono ?_; (case qw => exact (BX.out _ D2.out).1); rintro e w3 ⟨wa, wcc, rfl, hr3, ha3, hb3⟩; have HSA := SA.out w3 wa wcc hb3 hr3 ha3; have Z3 := HSA.1; have HGS := hide HSA.2; clear HSA; have z0 := Z3.c0; have z1 := Z3.c1; have z2 := Z3.c2; have z3 := Z3.c3; have zf := Z3.fr; have dd := KD.out w3 (below_on D2.out hb3); have d0 := dd.1; have d1 := dd.2.1; have d2 := dd.2.2.1; have pn3 := dd.2.2.2; clear dd)
     | (go_at_call 29; refine (CC.out _ ?qw).mono ?_; (case qw => exact (BX.out _ D1.out).1); rintro e w3 ⟨wa, wcc, rfl, hr3, ha3, hb3⟩; have HGS := hide (SD.out w3 wa wcc hb3 hr3 ha3); have dd := KD.out w3 (below_on D1.out hb3); have d0 := dd.1; have d1 := dd.2.1; have d2 := dd.2.2.1; have pn3 := dd.2.2.2; clear dd))
    all_goals go_wp2
    all_goals go_meet
    all_goals (case rel => exact ⟨_, _, _, rfl, HGS⟩)
   case rest =>
    obtain ⟨gb, wa, wcc, rfl, HGS⟩ := hcut
    clear CK CC a0 a1 a2 a3 Z1
    obtain ⟨wx, hwx⟩ : ∃ W, W = wc := ⟨_, rfl⟩
    subst hwx
    have KB : Hid (∀ W, wx.grownBy W (some gb) → Below wb.heap.size wb W) := fun W hW => HGS.out.b.grown hW HGS.out.b.size (fun k hk => by cases hk; have := HGS.out.gn; omega)
    obtain ⟨_, c0, c1, c2, c3⟩ := BX.out wx HGS.out.b
    go_wp2
    clear c0 c1 c2 c3
    go_loopw [7, 8, 9, 27] (fun _ _ _ i wr => ∃ (k : Nat) (x : Value) (C : List Tc), k ≤ G.ks.length ∧ i = .int .i64 k ∧ Hid (tl C = ((tl G.ks).map (fun t => M.prunV t G.f)).take k ∧ C.length = k) ∧ Hid (Gw wx wr gb G.f G.w (.slice wa G.ws.length wcc) C x)) (fun _ _ _ i _ => G.ks.length - (intOf i).toNat)
    case atStart => exact ⟨0, .slice none 0 0, [], Nat.zero_le _, rfl, ⟨rfl, rfl⟩, HGS.out.gw⟩
    case round =>
     obtain ⟨k2, x, C, hk2, rfl, HC, GW⟩ := hrel
     have gbl := KB.out wr GW.out.gr
     obtain ⟨kw, z0, z1, z2, z3⟩ := BX.out wr gbl
     by_cases hlt : k2 < G.ks.length
     · obtain ⟨l2, l3⟩ := LK.out k2 hlt
       have ct := HT.out wr kw k2 hlt
       have P1 := hide (LT.out k2 hlt wr kw)
       have kz : (k2 : Int) < (G.ks.length : Int) := by omega
       have TC : Hid (∀ a cp, tl (C ++ [(a, M.prunV G.ks[k2].2.1 G.f, cp)]) = ((tl G.ks).map (fun t => M.prunV t G.f)).take (k2 + 1) ∧ (C ++ [(a, M.prunV G.ks[k2].2.1 G.f, cp)]).length = k2 + 1) := fun a cp => by
        rw [l2, ← HC.out.1]
        refine ⟨by simp [tl], by rw [List.length_append, HC.out.2]; rfl⟩
       have cl : C.length ≤ 12 := by have := HC.out.2; omega
       have UP : Hid (∀ W, Below wr.heap.size wr W → Gw wx W gb G.f G.w (.slice wa G.ws.length wcc) C x ∧ W.cell? ⟨gb, 3, none⟩ = some x ∧ W.ownsRow wx.heap.size 66 1 x C.length (C.map tV) ∧ wx.heap.size ≤ W.heap.size) := fun W hW => ⟨GW.out.up hW, (GW.out.up hW).c3, (GW.out.up hW).ox, (GW.out.up hW).gr.size⟩
       have MO : Hid (∀ (w5 : World) (o : Obj) a cp g2 c2 w6, Below wr.heap.size wr w5 → RdN w5 a (M.prunV G.ks[k2].2.1 G.f) → (∀ p, a = some p → wr.heap.size ≤ p.block) → (w5.alloc o).grownBy w6 x.ownBlock → w6.ownsRow wx.heap.size 66 1 (.slice (some ⟨g2, 0, none⟩) (C.length + 1) c2) (C.length + 1) (C.map tV ++ [.slice a (M.prunV G.ks[k2].2.1 G.f).length cp]) → (x.ownBlock = some g2 ∨ g2 = w5.heap.size + 1) → (w6.cell? ⟨gb, 3, none⟩ = some x ∧ w6.frozen? ⟨gb, 3, none⟩ = false) ∧ Hid (Gw wx (w6.setCell ⟨gb, 3, none⟩ (.slice (some ⟨g2, 0, none⟩) (C.length + 1) c2)) gb G.f G.w (.slice wa G.ws.length wcc) (C ++ [(a, M.prunV G.ks[k2].2.1 G.f, cp)]) (.slice (some ⟨g2, 0, none⟩) (C.length + 1) c2))) := fun w5 o a cp g2 c2 w6 hb hr ha hg ho hor => by
        have q := (UP.out w5 hb).1
        have qs := q.gr.size
        have ql := q.lt
        have gf' : w6.heap[gb]? = w5.heap[gb]? := (hg.block _ (by simp; omega) (fun e => by have := (q.ox.lt _ e.symm).1; omega)).trans (Below.heap_alloc _ _ _ (by omega))
        refine ⟨⟨(World.cell?_of_block (a := ⟨gb, 3, none⟩) gf').trans q.c3, (World.frozen?_of_block (a := ⟨gb, 3, none⟩) gf').trans (q.fr 3)⟩, ?_⟩
        exact q.more (w0 := wr) (fun z hz => (GW.out.ox.lt z hz).2) GW.out.gr.size hb.size l3 hr ha hg ho hor
       clear HT LT LK TT HC GW l2 l3 JM1 z1 z2 z3
       generalize M.prunV G.ks[k2].2.1 G.f = LV at *
       generalize G.ks[k2].2.1.length = tn at *
       generalize G.ks[k2].2.2 = tcc at *
       generalize G.ks[k2].1 = ta at *
       go_wp2_with (first
        | (go_at_call 31; refine P1.out.mono ?_; rintro r w5 ⟨av, cv, rfl, hr5, ha5, h5⟩; have HR5 := hide hr5; have HA5 := hide ha5; have H5 := hide h5; have U5 := hide (UP.out w5 h5); have c5 := U5.out.2.1; have U6 := hide (UP.out _ (h5.alloc h5.size (.cells #[.slice av LV.length cv] 66))); have c6 := U6.out.2.1; clear hr5 ha5 h5)
        | (at_builtin; refine wpList_append_lies _ rfl (.tmp 43) (.tmp 45) 25 rfl wx.heap.size 66 i0 (.slice none 0 0) 1 24 Tryz.underlying25 I0.out hz0 hz1 hz2 rfl (by decide) x C.length (C.map tV) rfl U6.out.2.2.1 ⟨w5.heap.size, 0, none⟩ 1 1 [.slice av LV.length cv] rfl rfl (World.news_of_block (heap_alloc_new _ _)) (by intro u hu; simp at hu; subst hu; rfl) (by decide) (by unfold maxLen; omega) (by omega) U6.out.2.2.2 (w5.heap.size + 1) (by simp) ?_; intro g6 c6' w6 hown6 hgrow6 hor6 hlt6; have MM := MO.out w5 _ av cv g6 c6' w6 H5.out HR5.out HA5.out hgrow6 hown6 hor6; have v3 := MM.1.1; have vf := MM.1.2; have NG := MM.2; clear MM hown6 hgrow6 hor6))
       go_roundw
       case rel => exact ⟨k2 + 1, _, C ++ [(av, LV, cv)], by omega, by go_num, ⟨(TC.out av cv).1, (TC.out av cv).2⟩, NG⟩
       case measure => simp [intOf]; omega
     · have hke : k2 = G.ks.length := by omega
       have kz : ¬ ((k2 : Int) < (G.ks.length : Int)) := by omega
       have hC : 0 < C.length := by have := HC.out.2; omega
       have hC12 : C.length ≤ 12 := by have := HC.out.2; omega
       obtain ⟨gx, cx, ex, Z, _, _⟩ := gw_done HGS.out GW.out hC hC12 w0 .nilIface .nilIface .nilIface .nilIface
       subst ex
       have FIN : Hid (RdG (put4 wr wb.heap.size (.int .i64 G.f) (.int .i64 G.w) (.slice wa G.ws.length wcc) (.slice (some ⟨gx, 0, none⟩) C.length cx)) ⟨G.f, G.w, wa, G.ws, wcc, some ⟨gx, 0, none⟩, C, cx⟩ ∧ Below wb.heap.size wb (put4 wr wb.heap.size (.int .i64 G.f) (.int .i64 G.w) (.slice wa G.ws.length wcc) (.slice (some ⟨gx, 0, none⟩) C.length cx))) := by
        obtain ⟨g3, c3, e3, _, r1, r2⟩ := gw_done HGS.out GW.out hC hC12 w0 (.int .i64 G.f) (.int .i64 G.w) (.slice wa G.ws.length wcc) (.slice (some ⟨gx, 0, none⟩) C.length cx)
        cases e3
        exact ⟨r1, r2⟩
       have EM : Hid (tl C = (tl G.ks).map (fun t => M.prunV t G.f)) := by unfold Hid; rw [HC.out.1, hke]; exact TT.out
       rw [WN.out] at Z FIN
       have y0 := GW.out.c0
       have y1 := GW.out.c1
       have y2 := GW.out.c2
       have y3 := GW.out.c3
       have q0 := Z.c0
       have q1 := Z.c1
       have q2 := Z.c2
       have q3 := Z.c3
       have qf := Z.fr
       obtain ⟨e0, e1, e2, e3⟩ := set4f (x0 := .int .i64 G.f) (x1 := .int .i64 G.w) (x2 := .slice wa G.ws.length wcc) (x3 := .slice (some ⟨gx, 0, none⟩) C.length cx) q0 q1 q2 q3
       clear HC GW HT LT LK TT Z hke
       go_wp2
       (try simp only [Exit.inBlock, Exit.then])
       refine bodyPost_ret (v := .tuple #[.agg #[.int .i64 G.f, .int .i64 G.w, .slice wa G.ws.length wcc, .slice (some ⟨gx, 0, none⟩) C.length cx], .nilIface]) (by simp [results, Tryz.results7, go_sem, e0, e1, e2, e3]) rfl ?_
       refine ⟨⟨G.f, G.w, wa, G.ws, wcc, some ⟨gx, 0, none⟩, C, cx⟩, rfl, ?_, FIN.out.1, below_on BB.out ?_⟩
       · show (G.f, G.w, G.ws, tl C) = _
         rw [EM.out, JM1.out]
       · rw [WN.out]
         exact FIN.out.2
 · have JM0 : M.prunG G.m = (0, 0, [], []) := by unfold M.prunG; rw [if_neg he]
   have ES := hide (err_some he)
   rw [err_some he] at CK
   rw [JM0]
   clear he JM0 h
   generalize errV (M.groveF G.m) = er at *
   generalize M.groveF G.m = e at *
   go_enter Tryz.func7, Tryz.ntmps7
   go_upto_region 1 with fail
   rw [← hwb]
   obtain ⟨_, a0, a1, a2, a3⟩ := BX.out _ B1.out
   clear hwb
   go_upto_region 3 with (go_at_call 28; refine (CK.out _ (BX.out _ B1.out).1).mono ?_; rintro r w1 ⟨rfl, h1⟩; have Z1 := hide (ZB.out _ h1).1; have H1 := hide (ZB.out _ h1).2; clear h1)
   have q0 := Z1.out.c0
   have q1 := Z1.out.c1
   have q2 := Z1.out.c2
   have q3 := Z1.out.c3
   have qf := Z1.out.fr
   obtain ⟨e0, e1, e2, e3⟩ := set4f (x0 := .int .i64 0) (x1 := .int .i64 0) (x2 := .slice none 0 0) (x3 := .slice none 0 0) q0 q1 q2 q3
   have FB : Hid (Below w.heap.size w (put4 w1 (w.heap.size + 1) (.int .i64 0) (.int .i64 0) (.slice none 0 0) (.slice none 0 0))) := put4_below (below_on BB.out H1.out) (by omega)
   clear a0 a1 a2 a3
   go_wp2
   (try simp only [Exit.inBlock, Exit.then])
   refine bodyPost_ret (v := .tuple #[.agg #[.int .i64 0, .int .i64 0, .slice none 0 0, .slice none 0 0], .iface 74 (.int .i64 e)]) (by simp [results, Tryz.results7, go_sem, e0, e1, e2, e3]) rfl ?_
   exact ⟨⟨0, 0, none, [], 0, none, [], 0⟩, by rw [ES.out]; rfl, rfl, ⟨⟨Nat.zero_le _, fun h => absurd rfl h⟩, Nat.zero_le _, (fun k hk => by cases hk), fun h => absurd rfl h⟩, FB.out⟩
end Go.Proofs.YtelncekgjfpogahGreatDoor
