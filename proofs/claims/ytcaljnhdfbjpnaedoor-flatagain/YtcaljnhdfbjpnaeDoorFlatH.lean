/-
  What package flat's Grove answers: the grove that was laid, each tree level by level.
-/
import Derived.Test.YtcaljnhdfbjpnaeDoorFlatG
import Derived.Test.YtcaljnhdfbjpnaeDoorGwDone
import Derived.Test.YtcaljnhdfbjpnaeDoorFlatQ
import Derived.Deep.RegionHeld3
namespace Go.Proofs.YtcaljnhdfbjpnaeDoor
open Go.ChangeShapes Go.WideShapes Go.ChangeAt Go.RowKit Go.Lib
set_option linter.unusedVariables false

set_option maxHeartbeats 16000000 in
set_option maxRecDepth 10000 in
theorem fgrove_any (p : Nat) (g : M.Gv) (w : World) (hfo : FO w p g) (hg : M.groveF g = 0) :
    Calls Tryd.prog 17 #[.pointer (some ⟨p, 0, none⟩)] w fun e w' => ∃ J : Gr, e = .returned J.v ∧ J.m = (M.gf g, M.gw g, M.gs g, (M.gt g).map M.levels) ∧ RdG w' J ∧ Below w.heap.size w w' := by
  obtain ⟨P, h⟩ := hfo
  have K := (M.good_iff g).1 hg
  have n0 := K.t0
  have n12 := K.t12
  have wl := K.len
  have w0 : 0 < (M.gs g).length := by omega
  have hN := M.allN_le K
  obtain ⟨bw, ow, ewa, hbw, hcw⟩ := h.rw.2 (by intro e; rw [e] at w0; simp at w0)
  have CC := hide (fun W (hW : Below w.heap.size w W) => clone_ints bw ow P.wc (M.gs g) W (fun i hi => (hW.cell (p := ⟨bw, ow + i, none⟩) hbw).trans (hcw i hi)) (by omega) (Nat.lt_of_lt_of_le hbw hW.size))
  have KC : Hid (∀ W, Below w.heap.size w W → W.cell? ⟨p, 0, none⟩ = some (.int .i64 (M.gf g)) ∧ W.cell? ⟨p, 1, none⟩ = some (.int .i64 (M.gw g)) ∧ W.cell? ⟨p, 2, none⟩ = some (.slice (some ⟨bw, ow, none⟩) (M.gs g).length P.wc) ∧ W.cell? ⟨p, 4, none⟩ = some (.slice P.ra (M.allR g).length P.rc)) := fun W hW => ⟨(h.below hW).c0, (h.below hW).c1, by rw [← ewa]; exact (h.below hW).c2, (h.below hW).c4⟩
  have NR : Hid ((M.allR g).length = (M.gt g).length) := M.allR_len g
  obtain ⟨br, or, er, hbr, hcr⟩ := h.rr.2 (by intro e; have := NR.out; rw [e] at this; simp at this; omega)
  have HCR : Hid (∀ W, Below w.heap.size w W → ∀ i, i < (M.gt g).length → W.cell? ⟨br, or + i, none⟩ = some (.int .i64 ((M.laidK (M.gt g) i).length : Nat))) := fun W hW i hi => by
    refine ((hW.cell (p := ⟨br, or + i, none⟩) hbr).trans (hcr i (by rw [NR.out]; exact hi))).trans ?_
    rw [show (M.allR g).getD i 0 = ((M.laidK (M.gt g) i).length : Int) from M.rootsK_at _ _ i hi]
  have nn : 0 < (M.allN g).length := by
    have := (M.laidK_at (T := M.gt g) (k := 0) (n := (M.gt g).length) (p := 0) n0 (M.tree_ok (M.tree_in K n0)).1.2.1).2
    unfold M.allN; omega
  obtain ⟨bn, on, en, hbn, hcn⟩ := h.rn.2 (by intro e; rw [e] at nn; simp at nn)
  have c3N : Hid (∀ W, Below w.heap.size w W → W.cell? ⟨p, 3, none⟩ = some (.slice (some ⟨bn, on, none⟩) (M.allN g).length P.nc)) := fun W hW => by rw [← en]; exact (h.below hW).c3
  have CE := hide (fun W (hW : Below w.heap.size w W) k (hk : k < (M.gt g).length) => fend_any p g P k W (h.below hW) hk n12)
  have CL : Hid (∀ W, Below w.heap.size w W → ∀ k, k < (M.gt g).length → ∀ c, Calls Tryd.prog 38 #[.slice (some ⟨bn, on + (M.laidK (M.gt g) k).length * 6, none⟩) (M.levels ((M.gt g).getD k [])).length c, .int .i64 ((M.laidK (M.gt g) k).length : Nat)] W fun e w' => ∃ a cap, e = .returned (.slice a (M.levels ((M.gt g).getD k [])).length cap) ∧ RdN w' a (M.levels ((M.gt g).getD k [])) ∧ (∀ p, a = some p → W.heap.size ≤ p.block) ∧ Below W.heap.size W w') := fun W hW k hk c => by
    have hz := M.tree_in K hk
    refine lift_in bn _ c _ (M.levels ((M.gt g).getD k [])) (M.gf g) W (fun i hi => ?_) (M.tree_ok (M.levels_tree hz)).1 (Nat.lt_of_lt_of_le hbn hW.size) ?_
    · rw [M.levels_len] at hi
      obtain ⟨l1, l2⟩ := M.laidK_at (T := M.gt g) (k := k) (n := (M.gt g).length) hk hi
      have := (hcn ((M.laidK (M.gt g) k).length + i) l2).below hW hbn
      rw [show M.nAt (M.allN g) ((M.laidK (M.gt g) k).length + i) = _ from l1] at this
      rw [Nat.add_assoc, ← Nat.add_mul]
      exact this
    · have := M.laidK_le (M.gt g) (show k ≤ (M.gt g).length by omega)
      have e3 : (M.allN g).length = (M.laidK (M.gt g) (M.gt g).length).length := rfl
      omega
  have LN : Hid (∀ k, k < (M.gt g).length → (M.laidK (M.gt g) (k + 1)).length = (M.laidK (M.gt g) k).length + (M.levels ((M.gt g).getD k [])).length ∧ (M.laidK (M.gt g) (k + 1)).length ≤ (M.allN g).length ∧ M.levels ((M.gt g).getD k []) ≠ []) := fun k hk => by
    refine ⟨by rw [M.levels_len]; exact M.laidK_len_step _ _, M.laidK_le (M.gt g) (by omega), fun e => ?_⟩
    have l2 := M.levels_len ((M.gt g).getD k [])
    have := (M.tree_ok (M.tree_in K hk)).1.2.1
    rw [e, List.length_nil] at l2
    omega
  have TK : Hid (∀ k (hk : k < (M.gt g).length), ((M.gt g).map M.levels).take (k + 1) = ((M.gt g).map M.levels).take k ++ [M.levels ((M.gt g).getD k [])]) := fun k hk => by
    rw [List.take_add_one, List.getElem?_map, List.getElem?_eq_getElem hk, M.getD_at hk]
    rfl
  have TA : Hid (((M.gt g).map M.levels).take (M.gt g).length = (M.gt g).map M.levels) := by
    unfold Hid; rw [List.take_of_length_le (by simp)]
  have ncap := h.ca
  have HP := hide h.lt
  have PN : Hid (∀ W, Below w.heap.size w W → ¬ W.heap.size = p) := fun W hW e => by have := HP.out; have := hW.size; omega
  rw [er, NR.out] at KC
  obtain ⟨i0, hi, hz0, hz1, hz2⟩ := info_parts infoL
  have I0 := hide hi
  have SA : Hid (∀ w3 wa wcc, Below ((w.alloc nilG).alloc nilG).drew.heap.size ((w.alloc nilG).alloc nilG).drew w3 → Rd w3 wa (M.gs g) → (∀ p, wa = some p → ((w.alloc nilG).alloc nilG).drew.heap.size ≤ p.block) → Zf w3 (w.heap.size + 1) ∧ Gs w (put4 w3 (w.heap.size + 1) (.int .i64 (M.gf g)) (.int .i64 (M.gw g)) (.slice wa (M.gs g).length wcc) (.slice none 0 0)) (w.heap.size + 1) (M.gf g) (M.gw g) (M.gs g) wa wcc) := fun w3 wa wcc h1 h2 h3 => gs_a w0 h1 h2 h3
  have SB : Hid (∀ w3 wa wcc, Below (w.alloc nilG).drew.heap.size (w.alloc nilG).drew w3 → Rd w3 wa (M.gs g) → (∀ p, wa = some p → (w.alloc nilG).drew.heap.size ≤ p.block) → Gs w (w3.alloc (.cells #[.int .i64 (M.gf g), .int .i64 (M.gw g), .slice wa (M.gs g).length wcc, .slice none 0 0] 40)) w3.heap.size (M.gf g) (M.gw g) (M.gs g) wa wcc) := fun w3 wa wcc h1 h2 h3 => gs_b w0 h1 h2 h3
  clear h hg K wl hbw hcw ewa hbr hcr er hbn hcn en hi NR
  generalize (M.gt g).map M.levels = GL at *
  generalize hGN : (M.gt g).length = GN at *
  have HGN := hide hGN
  clear hGN
  generalize (M.allN g).length = NN at *
  generalize (M.allR g).length = NRR at *
  generalize M.gf g = gf at *
  generalize M.gw g = gw at *
  generalize M.gs g = gs at *
  go_enter Tryd.func17, Tryd.ntmps17
  go_upto_region 1 with fail
  go_cut [3] from 6 to 19 (fun v wx => ∃ gb wa wcc, v = .pointer (some ⟨gb, 0, none⟩) ∧ Hid (Gs w wx gb gf gw gs wa wcc))
  case first =>
    have B1 : Hid (Below w.heap.size w (w.alloc nilG).drew) := ((Below.refl _ w).alloc (Nat.le_refl _) _).drew
    have B2 : Hid (Below w.heap.size w ((w.alloc nilG).alloc nilG).drew) := (((Below.refl _ w).alloc (Nat.le_refl _) _).alloc (by simp) _).drew
    obtain ⟨a0, a1, a2, a4⟩ := KC.out _ B1.out
    obtain ⟨b0, b1, b2, b4⟩ := KC.out _ B2.out
    obtain ⟨x0, x1, x2, x4⟩ := KC.out _ ((Below.refl _ w).alloc (Nat.le_refl _) nilG)
    obtain ⟨y0, y1, y2, y4⟩ := KC.out _ (((Below.refl _ w).alloc (Nat.le_refl _) nilG).alloc (by simp) nilG)
    have KD : Hid (∀ W, Below w.heap.size w W → (∀ o, (W.alloc o).cell? ⟨p, 0, none⟩ = some (.int .i64 gf)) ∧ (∀ o, (W.alloc o).cell? ⟨p, 1, none⟩ = some (.int .i64 gw)) ∧ (∀ o, (W.alloc o).cell? ⟨p, 2, none⟩ = some (.slice (some ⟨bw, ow, none⟩) gs.length P.wc))) := fun W hW => ⟨fun o => (KC.out _ (hW.alloc hW.size o)).1, fun o => (KC.out _ (hW.alloc hW.size o)).2.1, fun o => (KC.out _ (hW.alloc hW.size o)).2.2.1⟩
    clear CE CL LN TK TA HCR c3N
    have pn0 : ¬ w.heap.size = p := by have := HP.out; omega
    have pn1 : ¬ w.heap.size + 1 = p := by have := HP.out; omega
    go_region_held3 (fun W => W.cell? ⟨p, 0, none⟩ = some (.int .i64 gf) ∧ W.cell? ⟨p, 1, none⟩ = some (.int .i64 gw) ∧ W.cell? ⟨p, 2, none⟩ = some (.slice (some ⟨bw, ow, none⟩) gs.length P.wc)) (go_keep) (first
      | (go_at_call 33; refine (CC.out _ ?qw).mono ?_; (case qw => exact B2.out); rintro e w3 ⟨wa, wcc, rfl, hr3, ha3, hb3⟩; have HSA := SA.out w3 wa wcc hb3 hr3 ha3; have Z3 := HSA.1; have HG := hide HSA.2; clear HSA; have z0 := Z3.c0; have z1 := Z3.c1; have z2 := Z3.c2; have z3 := Z3.c3; have zf := Z3.fr; have dd := KC.out w3 (below_on B2.out hb3); have d0 := dd.1; have d1 := dd.2.1; have d2 := dd.2.2.1; have pn3 : ¬ w3.heap.size = p := PN.out w3 (below_on B2.out hb3); clear dd)
      | (go_at_call 33; refine (CC.out _ ?qw).mono ?_; (case qw => exact B1.out); rintro e w3 ⟨wa, wcc, rfl, hr3, ha3, hb3⟩; have HG := hide (SB.out w3 wa wcc hb3 hr3 ha3); have dd := KC.out w3 (below_on B1.out hb3); have d0 := dd.1; have d1 := dd.2.1; have d2 := dd.2.2.1; have pn3 : ¬ w3.heap.size = p := PN.out w3 (below_on B1.out hb3); clear dd))
    all_goals go_wp2
    all_goals go_meet
    all_goals (case rel => exact ⟨_, _, _, rfl, HG⟩)
  case rest =>
    obtain ⟨gb, wa, wcc, rfl, HG⟩ := hcut
    obtain ⟨wx, hwx⟩ : ∃ W, W = wc := ⟨_, rfl⟩
    subst hwx
    obtain ⟨f0, f1, f2, f4⟩ := KC.out wx HG.out.b
    have KB : Hid (∀ W, wx.grownBy W (some gb) → Below w.heap.size w W) := fun W hW => HG.out.b.grown hW HG.out.b.size (fun k hk => by cases hk; have := HG.out.gn; omega)
    clear CC SA SB
    go_wp2
    go_loopw [25] (fun i wr => ∃ (k : Nat) (x : Value) (C : List Tc), k ≤ GN ∧ i = .int .i64 k ∧ Hid (tl C = GL.take k ∧ C.length = k) ∧ Hid (Gw wx wr gb gf gw (.slice wa gs.length wcc) C x)) (fun i _ => GN - (intOf i).toNat)
    case atStart => exact ⟨0, .slice none 0 0, [], Nat.zero_le _, rfl, ⟨rfl, rfl⟩, HG.out.gw⟩
    case round =>
      clear f0 f1 f2 f4
      obtain ⟨k, x, C, hk, rfl, HC, GW⟩ := hrel
      by_cases hlt : k < GN
      · have kb := KB.out wr GW.out.gr
        have cr := HCR.out wr kb k hlt
        have kz : (k : Int) < (GN : Int) := by omega
        have x3 := GW.out.c3
        have n3 := c3N.out wr kb
        obtain ⟨l1, l2, l3⟩ := LN.out k hlt
        have tk := TK.out k hlt
        have CE1 := hide (fun W (hW : Below w.heap.size w W) => CE.out W hW k hlt)
        have CL1 := hide (fun W (hW : Below w.heap.size w W) c n (hn : n = (M.levels ((M.gt g).getD k [])).length) => show Calls Tryd.prog 38 #[.slice (some ⟨bn, on + (M.laidK (M.gt g) k).length * 6, none⟩) n c, .int .i64 ((M.laidK (M.gt g) k).length : Nat)] W fun e w' => ∃ a cap, e = .returned (.slice a (M.levels ((M.gt g).getD k [])).length cap) ∧ RdN w' a (M.levels ((M.gt g).getD k [])) ∧ (∀ p, a = some p → W.heap.size ≤ p.block) ∧ Below W.heap.size W w' from by rw [hn]; exact CL.out W hW k hlt c)
        generalize M.levels ((M.gt g).getD k []) = LV at *
        generalize (M.laidK (M.gt g) (k + 1)).length = E at *
        generalize (M.laidK (M.gt g) k).length = R at *
        have OX := hide GW.out.ox
        have LT := GW.out.lt
        have GZ := GW.out.gr.size
        have cl : C.length ≤ 12 := by have := HC.out.2; omega
        have e1 : (R : Int) ≤ (E : Int) := by omega
        have e2 : (E : Int) ≤ (P.nc : Int) := by omega
        have e3 : (E : Int) ≤ (NN : Int) := by omega
        have lvp : 0 < LV.length := List.length_pos_iff.2 l3
        have ncr : ¬ P.nc = R := by omega
        have LE := hide l1
        have BD : Hid (Below w.heap.size w wr.drew) := kb.drew
        have UP : Hid (∀ W, Below wr.drew.heap.size wr.drew W → Gw wx W gb gf gw (.slice wa gs.length wcc) C x) := fun W hW => GW.out.up (((Below.refl _ _).drew).trans hW)
        have XO : Hid (∀ W (o : Obj), Below wr.drew.heap.size wr.drew W → W.cell? ⟨gb, 3, none⟩ = some x ∧ (W.alloc o).cell? ⟨gb, 3, none⟩ = some x ∧ (W.alloc o).ownsRow wx.heap.size 22 1 x C.length (C.map tV) ∧ wx.heap.size ≤ (W.alloc o).heap.size) := fun W o hW => by
          have q := UP.out W hW
          have qa := q.up ((Below.refl _ W).alloc (Nat.le_refl _) o)
          exact ⟨q.c3, qa.c3, qa.ox, qa.gr.size⟩
        have N3 : Hid (∀ W, Below wr.drew.heap.size wr.drew W → W.cell? ⟨p, 3, none⟩ = some (.slice (some ⟨bn, on, none⟩) NN P.nc)) := fun W hW => c3N.out W (below_on kb (((Below.refl _ _).drew).trans hW))
        have PG : ¬ gb = p := by have := HP.out; have := HG.out.gn; omega
        have PZ : Hid (∀ W, Below wr.drew.heap.size wr.drew W → ¬ W.heap.size = p ∧ ¬ W.heap.size = gb) := fun W hW => by
          have := HP.out; have := HG.out.b.size; have q := hW.size; have q2 : wr.drew.heap.size = wr.heap.size := rfl
          exact ⟨by omega, by omega⟩
        have MO : Hid (∀ (w5 : World) (o : Obj) a cp g2 c2 w6, Below wr.drew.heap.size wr.drew w5 → RdN w5 a LV → (∀ p, a = some p → wr.drew.heap.size ≤ p.block) → (w5.alloc o).grownBy w6 x.ownBlock → w6.ownsRow wx.heap.size 22 1 (.slice (some ⟨g2, 0, none⟩) (C.length + 1) c2) (C.length + 1) (C.map tV ++ [.slice a LV.length cp]) → (x.ownBlock = some g2 ∨ g2 = w5.heap.size + 1) → (w6.cell? ⟨gb, 3, none⟩ = some x ∧ w6.frozen? ⟨gb, 3, none⟩ = false ∧ w6.cell? ⟨p, 3, none⟩ = some (.slice (some ⟨bn, on, none⟩) NN P.nc)) ∧ Hid (Gw wx (w6.setCell ⟨gb, 3, none⟩ (.slice (some ⟨g2, 0, none⟩) (C.length + 1) c2)) gb gf gw (.slice wa gs.length wcc) (C ++ [(a, LV, cp)]) (.slice (some ⟨g2, 0, none⟩) (C.length + 1) c2))) := fun w5 o a cp g2 c2 w6 hb hr ha hg ho hor => by
          have q := UP.out w5 hb
          have hg' := hg
          have gf' : w6.heap[gb]? = w5.heap[gb]? := (hg'.block gb (by have := q.gr.size; simp; omega) (fun e => by have := (q.ox.lt gb e.symm).1; omega)).trans (Below.heap_alloc _ _ _ (by have := q.gr.size; omega))
          have pl := HP.out
          have px := HG.out.b.size
          have qs := q.gr.size
          have pf' : w6.heap[p]? = w5.heap[p]? := (hg'.block p (by simp; omega) (fun e => by have := (q.ox.lt p e.symm).1; omega)).trans (Below.heap_alloc _ _ _ (by omega))
          refine ⟨⟨(World.cell?_of_block (a := ⟨gb, 3, none⟩) gf').trans q.c3, (World.frozen?_of_block (a := ⟨gb, 3, none⟩) gf').trans (q.fr 3), (World.cell?_of_block (a := ⟨p, 3, none⟩) pf').trans (N3.out w5 hb)⟩, ?_⟩
          exact q.more (w0 := wr) (fun z hz => (GW.out.ox.lt z hz).2) GZ hb.size l3 hr ha hg' ho hor
        have T1 : Hid (∀ a cp, tl (C ++ [(a, LV, cp)]) = GL.take (k + 1) ∧ (C ++ [(a, LV, cp)]).length = k + 1) := fun a cp => by
          rw [tk, ← HC.out.1]
          refine ⟨by simp [tl], by rw [List.length_append, HC.out.2]; rfl⟩
        clear CE CL HCR LN TK TA GW HC l1 l2 l3 tk KC c3N
        go_upto_region 5 with fail
        go_region_law (first
          | (go_simp; go_at_call 39; refine (CE1.out _ BD.out).mono ?_; rintro e w4 ⟨rfl, ew⟩; subst ew)
          | (go_simp; go_at_call 38; refine (CL1.out _ BD.out _ _ ?hn).mono ?_; (case hn => (have q := LE.out; clear LE; omega)); rintro e w5 ⟨ac, cap5, rfl, hr5, ha5, hb5⟩; have HR5 := hide hr5; have HA5 := hide ha5; have A5 := hide (XO.out w5 (.cells #[.slice ac LV.length cap5] 22) hb5); have c35 := A5.out.1; have c36 := A5.out.2.1; have n35 := N3.out w5 hb5; have pz1 := (PZ.out w5 hb5).1; have pz2 := (PZ.out w5 hb5).2)
          | (refine step_append_lies _ rfl (.tmp 31) (.tmp 43) 38 rfl wx.heap.size 22 i0 (.slice none 0 0) 1 24 Tryd.underlying38 I0.out hz0 hz1 hz2 rfl (by decide) x C.length (C.map tV) rfl A5.out.2.2.1 ⟨w5.heap.size, 0, none⟩ 1 1 [.slice ac LV.length cap5] rfl rfl (World.news_of_block (by first | exact heap_alloc_new _ _ | (simp; done))) (by intro u hu; simp at hu; subst hu; rfl) (by decide) (by unfold maxLen; omega) (by omega) A5.out.2.2.2 (w5.heap.size + 1) (by simp) ?_; intro g6 c6 w6 hown6 hgrow6 hor6 hlt6; have MM := MO.out w5 _ ac cap5 g6 c6 w6 hb5 HR5.out HA5.out hgrow6 hown6 hor6; have v3 := MM.1.1; have vf := MM.1.2.1; have vp := MM.1.2.2; have NG := MM.2; clear MM; clear hown6 hgrow6 hor6))
        all_goals (
          go_wp2
          go_roundw
          case rel => exact ⟨k + 1, _, C ++ [(ac, LV, cap5)], by omega, by go_num, T1.out ac cap5, NG⟩
          case measure => simp [intOf]; omega)
      · have hke : k = GN := by omega
        have hC : 0 < C.length := by have := HC.out.2; omega
        have hC12 : C.length ≤ 12 := by have := HC.out.2; omega
        obtain ⟨gx, cx, ex, Z, _, _⟩ := gw_done HG.out GW.out hC hC12 w0 .nilIface .nilIface .nilIface .nilIface
        subst ex
        have FIN : Hid (RdG (put4 wr w.heap.size (.int .i64 gf) (.int .i64 gw) (.slice wa gs.length wcc) (.slice (some ⟨gx, 0, none⟩) C.length cx)) ⟨gf, gw, wa, gs, wcc, some ⟨gx, 0, none⟩, C, cx⟩ ∧ Below w.heap.size w (put4 wr w.heap.size (.int .i64 gf) (.int .i64 gw) (.slice wa gs.length wcc) (.slice (some ⟨gx, 0, none⟩) C.length cx))) := by
          obtain ⟨g3, c3, e3, _, r1, r2⟩ := gw_done HG.out GW.out hC hC12 w0 (.int .i64 gf) (.int .i64 gw) (.slice wa gs.length wcc) (.slice (some ⟨gx, 0, none⟩) C.length cx)
          cases e3
          exact ⟨r1, r2⟩
        have EM : Hid (tl C = GL) := by unfold Hid; rw [HC.out.1, hke]; exact TA.out
        have y0 := GW.out.c0
        have y1 := GW.out.c1
        have y2 := GW.out.c2
        have y3 := GW.out.c3
        have z0 := Z.c0
        have z1 := Z.c1
        have z2 := Z.c2
        have z3 := Z.c3
        have zf := Z.fr
        obtain ⟨e0, e1, e2, e3⟩ := set4f (x0 := .int .i64 gf) (x1 := .int .i64 gw) (x2 := .slice wa gs.length wcc) (x3 := .slice (some ⟨gx, 0, none⟩) C.length cx) z0 z1 z2 z3
        have kz : ¬ ((k : Int) < (GN : Int)) := by omega
        clear HC GW CE CL HCR LN TK TA Z hke
        go_wp2
        (try simp only [Exit.inBlock, Exit.then])
        refine bodyPost_ret (v := .agg #[.int .i64 gf, .int .i64 gw, .slice wa gs.length wcc, .slice (some ⟨gx, 0, none⟩) C.length cx]) (by simp [results, Tryd.results17, go_sem, e0, e1, e2, e3]) rfl ?_
        refine ⟨⟨gf, gw, wa, gs, wcc, some ⟨gx, 0, none⟩, C, cx⟩, rfl, ?_, FIN.out.1, FIN.out.2⟩
        show (gf, gw, gs, tl C) = _
        rw [EM.out]

end Go.Proofs.YtcaljnhdfbjpnaeDoor
