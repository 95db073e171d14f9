/-
  Several texts as one: ShCopy, ShPkL, ShGrv, ShGrw, ShLiW, ScMa.
-/
import Derived.Test.YtiggkjkjfnlfkaaGreatDoorRunP0
import Derived.Test.YtiggkjkjfnlfkaaGreatDoorRunS27
import Derived.Test.YtiggkjkjfnlfkaaGreatDoorRunS15
import Derived.Deep.RegionHeld3
import Derived.Deep.RegionLaw
import Derived.Deep.Cut
import Derived.Deep.CutRange
import Derived.RegionTactic
import Derived.Test.YtiggkjkjfnlfkaaGreatDoorRunS21
import Derived.BigQuiet
import Derived.Test.YtiggkjkjfnlfkaaGreatDoorRunS25
import Derived.Test.YtiggkjkjfnlfkaaGreatDoorRunS7
namespace Go.Proofs.YtiggkjkjfnlfkaaGreatDoor
open Go.ChangeShapes Go.WideShapes Go.ChangeAt Go.RowKit Go.Lib
set_option linter.unusedVariables false
/-- the grove lies in blocks that are new -/
theorem gw_new {w0 w wx wr : World} {gb : Nat} {f wy : Int} {ws : List Int} {wa : Option Addr} {wc : Nat} {C : List Tc} {x : Value} (s : Gs w wx gb f wy ws wa wc) (h : Gw wx wr gb f wy (.slice wa ws.length wc) C x) (h0 : 0 < C.length) (h12 : C.length ≤ 12) (hw0 : 0 < ws.length) (hz : w0.heap.size ≤ w.heap.size) (ha : ∀ p, wa = some p → w0.heap.size ≤ p.block) (y0 y1 y2 y3 : Value) :
    ∃ g c, x = .slice (some ⟨g, 0, none⟩) C.length c ∧ Zf wr w.heap.size ∧ NewH w0 (put4 wr w.heap.size y0 y1 y2 y3) ⟨f, wy, wa, ws, wc, some ⟨g, 0, none⟩, C, c⟩ ∧ Below w.heap.size w (put4 wr w.heap.size y0 y1 y2 y3) := by
  obtain ⟨g, c, e, z, r, b⟩ := gw_done s h h0 h12 hw0 y0 y1 y2 y3
  have bz := s.b.size
  refine ⟨g, c, e, z, fun W hW hk => ?_, b⟩
  have key : ∀ q, w0.heap.size ≤ q → q < (put4 wr w.heap.size y0 y1 y2 y3).heap.size → W.heap[q]? = (put4 wr w.heap.size y0 y1 y2 y3).heap[q]? := hk
  have gx := h.ox.lt g (by rw [e]; rfl)
  refine ⟨⟨r.1.1, fun hn => ?_⟩, r.2.1, fun t ht => ⟨(r.2.2.1 t ht).1, fun hn => ?_⟩, fun hn => ?_⟩
  · obtain ⟨b2, off, e2, hl, hc⟩ := r.1.2 hn
    have hb : W.heap[b2]? = _ := key b2 (ha _ e2) hl
    exact ⟨b2, off, e2, Nat.lt_of_lt_of_le hl hW, fun i hi => (World.cell?_of_block (a := ⟨b2, off + i, none⟩) hb).trans (hc i hi)⟩
  · obtain ⟨b2, off, e2, hl, hc⟩ := (r.2.2.1 t ht).2 hn
    have lo := (h.ap t ht _ e2).1
    have hb : W.heap[b2]? = _ := key b2 (by have : wx.heap.size ≤ b2 := lo; omega) hl
    have k : ∀ j v, (put4 wr w.heap.size y0 y1 y2 y3).cell? ⟨b2, j, none⟩ = some v → W.cell? ⟨b2, j, none⟩ = some v := fun j v hv => (World.cell?_of_block (a := ⟨b2, j, none⟩) hb).trans hv
    exact ⟨b2, off, e2, Nat.lt_of_lt_of_le hl hW, fun i hi => ⟨k _ _ (hc i hi).1, k _ _ (hc i hi).2.1, k _ _ (hc i hi).2.2.1, k _ _ (hc i hi).2.2.2.1, k _ _ (hc i hi).2.2.2.2.1, k _ _ (hc i hi).2.2.2.2.2⟩⟩
  · obtain ⟨b2, off, e2, hl, hc⟩ := r.2.2.2 hn
    have e3 : g = b2 := by cases e2; rfl
    have hb : W.heap[b2]? = _ := key b2 (by omega) hl
    exact ⟨b2, off, e2, Nat.lt_of_lt_of_le hl hW, fun i hi => (World.cell?_of_block (a := ⟨b2, off + i, none⟩) hb).trans (hc i hi)⟩
theorem infoTr : (Tryz.prog.info? 110).map (fun i => (i.zero, i.size, i.bytes)) = some (some (.slice none 0 0), 1, 24) := by kernel_rfl
set_option maxHeartbeats 16000000 in
set_option maxRecDepth 10000 in
theorem copy_any (G : Gr) (w0 : World) (h : RdG w0 G) (hg : M.groveF G.m = 0) :
    Calls Tryz.prog 46 #[G.v] w0 fun e w' => ∃ J : Gr, e = .returned J.v ∧ J.m = G.m ∧ NewH w0 w' J ∧ Below w0.heap.size w0 w' := by
  have K := (M.good_iff G.m).1 hg
  have tlen : (M.gt G.m).length = G.ks.length := tl_len G.ks
  have n0 : 0 < G.ks.length := by rw [← tlen]; exact K.t0
  have n12 : G.ks.length ≤ 12 := by rw [← tlen]; exact K.t12
  have wl : G.ws.length = G.ks.length := by rw [← tlen]; exact K.len
  have wp : 0 < G.ws.length := by omega
  obtain ⟨w, hw⟩ : ∃ X, X = w0.alloc (.cells #[.int .i64 G.f, .int .i64 G.w, .slice G.wa G.ws.length G.wc, .slice G.ta G.ks.length G.tc] 53) := ⟨_, rfl⟩
  obtain ⟨p, hp⟩ : ∃ x, x = w0.heap.size := ⟨_, rfl⟩
  have B0 : Below w0.heap.size w0 w := by rw [hw]; exact (Below.refl _ _).alloc (Nat.le_refl _) _
  have h := h.below B0
  have zp : w.heap.size = p + 1 := by rw [hw, hp]; simp
  have c0 : w.cell? ⟨p, 0, none⟩ = some (.int .i64 G.f) := by rw [hw, hp]; exact World.cell?_alloc_at _ _ _ 0 rfl
  have c1 : w.cell? ⟨p, 1, none⟩ = some (.int .i64 G.w) := by rw [hw, hp]; exact World.cell?_alloc_at _ _ _ 1 rfl
  have c2 : w.cell? ⟨p, 2, none⟩ = some (.slice G.wa G.ws.length G.wc) := by rw [hw, hp]; exact World.cell?_alloc_at _ _ _ 2 rfl
  have c3 : w.cell? ⟨p, 3, none⟩ = some (.slice G.ta G.ks.length G.tc) := by rw [hw, hp]; exact World.cell?_alloc_at _ _ _ 3 rfl
  obtain ⟨bw, ow, ewa, hbw, hcw⟩ := h.1.2 (by intro e; rw [e] at wl; simp at wl; omega)
  have CC := hide (fun W (hW : Below w.heap.size w W) => clone_ints bw ow G.wc G.ws W (fun i hi => (hW.cell (p := ⟨bw, ow + i, none⟩) hbw).trans (hcw i hi)) (by omega) (Nat.lt_of_lt_of_le hbw hW.size))
  obtain ⟨bt, ot, eta, hbt, hct⟩ := h.2.2.2 (by intro e; rw [e] at n0; simp at n0)
  have pl : p < w.heap.size := by omega
  have KC : Hid (∀ W, Below w.heap.size w W → W.cell? ⟨p, 0, none⟩ = some (.int .i64 G.f) ∧ W.cell? ⟨p, 1, none⟩ = some (.int .i64 G.w) ∧ W.cell? ⟨p, 2, none⟩ = some (.slice (some ⟨bw, ow, none⟩) G.ws.length G.wc) ∧ W.cell? ⟨p, 3, none⟩ = some (.slice (some ⟨bt, ot, none⟩) G.ks.length G.tc)) := fun W hW => ⟨(hW.cell (p := ⟨p, 0, none⟩) pl).trans c0, (hW.cell (p := ⟨p, 1, none⟩) pl).trans c1, by rw [← ewa]; exact (hW.cell (p := ⟨p, 2, none⟩) pl).trans c2, by rw [← eta]; exact (hW.cell (p := ⟨p, 3, none⟩) pl).trans c3⟩
  have HCT : Hid (∀ W, Below w.heap.size w W → ∀ i (hi : i < G.ks.length), W.cell? ⟨bt, ot + i, none⟩ = some (tV G.ks[i])) := fun W hW i hi => (hW.cell (p := ⟨bt, ot + i, none⟩) hbt).trans (hct i hi)
  have HT : Hid (∀ k (hk : k < G.ks.length), G.ks[k].2.1 ≠ [] ∧ ∀ W, Below w.heap.size w W → Calls Tryz.prog 89 #[tV G.ks[k]] W fun e w' => ∃ a cap, e = .returned (.slice a G.ks[k].2.1.length cap) ∧ RdN w' a G.ks[k].2.1 ∧ (∀ p, a = some p → W.heap.size ≤ p.block) ∧ Below W.heap.size W w') := fun k hk => by
    have F := (M.tree_ok (M.tree_in K (show k < (M.gt G.m).length by rw [tlen]; exact hk))).1
    have e : (M.gt G.m).getD k [] = G.ks[k].2.1 := tl_at G.ks hk
    rw [e] at F
    have rk := h.2.2.1 _ (List.getElem_mem hk)
    have ne : G.ks[k].2.1 ≠ [] := by intro e2; have := F.2.1; rw [e2] at this; simp at this
    refine ⟨ne, fun W hW => ?_⟩
    obtain ⟨b, off, e2, hl, hc⟩ := (rk.below hW).2 ne
    unfold tV
    rw [e2]
    exact clone_nodes b off _ _ W hc F.1 hl
  have EN : Hid ((tl G.ks).take G.ks.length = tl G.ks) := by unfold Hid; rw [List.take_of_length_le (by rw [tl_len]; exact Nat.le_refl _)]
  have TK : Hid (∀ k (hk : k < G.ks.length), (tl G.ks).take (k + 1) = (tl G.ks).take k ++ [G.ks[k].2.1]) := fun k hk => by
    unfold tl
    rw [List.take_add_one, List.getElem?_map, List.getElem?_eq_getElem hk]
    rfl
  have HP := hide pl
  have HPB := hide B0
  have PN : Hid (∀ W, Below w.heap.size w W → ¬ W.heap.size = p) := fun W hW e => by have := HP.out; have := hW.size; omega
  obtain ⟨i0, hi, hz0, hz1, hz2⟩ := info_parts infoTr
  have I0 := hide hi
  have SA : Hid (∀ w3 wa wcc, Below ((w.alloc nilG).alloc nilG).drew.heap.size ((w.alloc nilG).alloc nilG).drew w3 → Rd w3 wa G.ws → (∀ p, wa = some p → ((w.alloc nilG).alloc nilG).drew.heap.size ≤ p.block) → Zf w3 (w.heap.size + 1) ∧ Gs w (put4 w3 (w.heap.size + 1) (.int .i64 G.f) (.int .i64 G.w) (.slice wa G.ws.length wcc) (.slice none 0 0)) (w.heap.size + 1) G.f G.w G.ws wa wcc) := fun w3 wa wcc h1 h2 h3 => gs_a wp h1 h2 h3
  have SB : Hid (∀ w3 wa wcc, Below (w.alloc nilG).drew.heap.size (w.alloc nilG).drew w3 → Rd w3 wa G.ws → (∀ p, wa = some p → (w.alloc nilG).drew.heap.size ≤ p.block) → Gs w (w3.alloc (.cells #[.int .i64 G.f, .int .i64 G.w, .slice wa G.ws.length wcc, .slice none 0 0] 53)) w3.heap.size G.f G.w G.ws wa wcc) := fun w3 wa wcc h1 h2 h3 => gs_b wp h1 h2 h3
  have HM : Hid (∀ g c wa wcc (C : List Tc), tl C = tl G.ks → (⟨G.f, G.w, wa, G.ws, wcc, g, C, c⟩ : Gr).m = G.m) := fun g c wa wcc C e => by
    unfold Gr.m
    rw [e]
  have HPE := hide hp
  have ZP := hide zp
  unfold Gr.v
  clear h hg K wl hbw hcw ewa hbt hct eta hi tlen c0 c1 c2 c3 zp hp B0 pl
  generalize tl G.ks = GL at *
  generalize G.f = gf at *
  generalize G.w = gw at *
  go_enter Tryz.func46, Tryz.ntmps46
  go_upto_region 1 with fail
  rw [← hw]
  simp only [← HPE.out]
  rw [← ZP.out]
  clear hw
  go_cut [3] from 6 to 13 (fun v wx => ∃ gb wa wcc, v = .pointer (some ⟨gb, 0, none⟩) ∧ Hid (Gs w wx gb gf gw G.ws wa wcc) ∧ Hid (∀ p, wa = some p → w0.heap.size ≤ p.block))
  case first =>
    have B1 : Hid (Below w.heap.size w (w.alloc nilG).drew) := ((Below.refl _ w).alloc (Nat.le_refl _) _).drew
    have B2 : Hid (Below w.heap.size w ((w.alloc nilG).alloc nilG).drew) := (((Below.refl _ w).alloc (Nat.le_refl _) _).alloc (by simp) _).drew
    obtain ⟨a0, a1, a2, a4⟩ := KC.out _ B1.out
    obtain ⟨b0, b1, b2, b4⟩ := KC.out _ B2.out
    obtain ⟨x0, x1, x2, x4⟩ := KC.out _ ((Below.refl _ w).alloc (Nat.le_refl _) nilG)
    obtain ⟨y0, y1, y2, y4⟩ := KC.out _ (((Below.refl _ w).alloc (Nat.le_refl _) nilG).alloc (by simp) nilG)
    clear HT HCT TK
    have pn0 : ¬ w.heap.size = p := by have := HP.out; omega
    have pn1 : ¬ w.heap.size + 1 = p := by have := HP.out; omega
    go_region_held3 (fun W => W.cell? ⟨p, 0, none⟩ = some (.int .i64 gf) ∧ W.cell? ⟨p, 1, none⟩ = some (.int .i64 gw) ∧ W.cell? ⟨p, 2, none⟩ = some (.slice (some ⟨bw, ow, none⟩) G.ws.length G.wc)) (go_keep) (first
      | (go_at_call 88; refine (CC.out _ ?qw).mono ?_; (case qw => exact B2.out); rintro e w3 ⟨wa, wcc, rfl, hr3, ha3, hb3⟩; have HSA := SA.out w3 wa wcc hb3 hr3 ha3; have Z3 := HSA.1; have HG := hide HSA.2; clear HSA; have z0 := Z3.c0; have z1 := Z3.c1; have z2 := Z3.c2; have z3 := Z3.c3; have zf := Z3.fr; have dd := KC.out w3 (below_on B2.out hb3); have d0 := dd.1; have d1 := dd.2.1; have d2 := dd.2.2.1; have pn3 : ¬ w3.heap.size = p := PN.out w3 (below_on B2.out hb3); clear dd)
      | (go_at_call 88; refine (CC.out _ ?qw).mono ?_; (case qw => exact B1.out); rintro e w3 ⟨wa, wcc, rfl, hr3, ha3, hb3⟩; have HG := hide (SB.out w3 wa wcc hb3 hr3 ha3); have dd := KC.out w3 (below_on B1.out hb3); have d0 := dd.1; have d1 := dd.2.1; have d2 := dd.2.2.1; have pn3 : ¬ w3.heap.size = p := PN.out w3 (below_on B1.out hb3); clear dd))
    all_goals go_wp2
    all_goals go_meet
    all_goals (case rel => exact ⟨_, _, _, rfl, HG, fun p hp => Nat.le_trans (by have := HPB.out.size; first | (simp; omega) | (simp at *; omega)) (ha3 p hp)⟩)
  case rest =>
    obtain ⟨gb, wa, wcc, rfl, HG, HA⟩ := hcut
    obtain ⟨wx, hwx⟩ : ∃ W, W = wc := ⟨_, rfl⟩
    subst hwx
    obtain ⟨f0, f1, f2, f3⟩ := KC.out wx HG.out.b
    have KB : Hid (∀ W, wx.grownBy W (some gb) → Below w.heap.size w W) := fun W hW => HG.out.b.grown hW HG.out.b.size (fun k hk => by cases hk; have := HG.out.gn; omega)
    clear CC SA SB
    go_wp2
    go_loopw [17] (fun i wr => ∃ (k : Nat) (x : Value) (C : List Tc), k ≤ G.ks.length ∧ i = .int .i64 k ∧ Hid (tl C = GL.take k ∧ C.length = k) ∧ Hid (Gw wx wr gb gf gw (.slice wa G.ws.length wcc) C x)) (fun i _ => G.ks.length - (intOf i).toNat)
    case atStart => exact ⟨0, .slice none 0 0, [], Nat.zero_le _, rfl, ⟨rfl, rfl⟩, HG.out.gw⟩
    case round =>
      clear f0 f1 f2 f3
      obtain ⟨k, x, C, hk, rfl, HC, GW⟩ := hrel
      by_cases hlt : k < G.ks.length
      · have kb := KB.out wr GW.out.gr
        have kz : (k : Int) < (G.ks.length : Int) := by omega
        have x3 := GW.out.c3
        have ct := HCT.out wr kb k hlt
        have tk := TK.out k hlt
        obtain ⟨l3, CL0⟩ := HT.out k hlt
        unfold tV at ct CL0
        generalize G.ks[k].2.1 = LV at *
        generalize G.ks[k].2.2 = lc at *
        generalize G.ks[k].1 = la at *
        have CL1 := hide CL0
        have OX := hide GW.out.ox
        have LT := GW.out.lt
        have GZ := GW.out.gr.size
        have cl : C.length ≤ 12 := by have := HC.out.2; omega
        have BD : Hid (Below w.heap.size w wr.drew) := kb.drew
        have UP : Hid (∀ W, Below wr.drew.heap.size wr.drew W → Gw wx W gb gf gw (.slice wa G.ws.length wcc) C x) := fun W hW => GW.out.up (((Below.refl _ _).drew).trans hW)
        have XO : Hid (∀ W (o : Obj), Below wr.drew.heap.size wr.drew W → W.cell? ⟨gb, 3, none⟩ = some x ∧ (W.alloc o).cell? ⟨gb, 3, none⟩ = some x ∧ (W.alloc o).ownsRow wx.heap.size 110 1 x C.length (C.map tV) ∧ wx.heap.size ≤ (W.alloc o).heap.size) := fun W o hW => by
          have q := UP.out W hW
          have qa := q.up ((Below.refl _ W).alloc (Nat.le_refl _) o)
          exact ⟨q.c3, qa.c3, qa.ox, qa.gr.size⟩
        have PG : ¬ gb = p := by have := HP.out; have := HG.out.gn; omega
        have PZ : Hid (∀ W, Below wr.drew.heap.size wr.drew W → ¬ W.heap.size = gb) := fun W hW => by
          have q := hW.size; have q2 : wr.drew.heap.size = wr.heap.size := rfl
          omega
        have MO : Hid (∀ (w5 : World) (o : Obj) a cp g2 c2 w6, Below wr.drew.heap.size wr.drew w5 → RdN w5 a LV → (∀ p, a = some p → wr.drew.heap.size ≤ p.block) → (w5.alloc o).grownBy w6 x.ownBlock → w6.ownsRow wx.heap.size 110 1 (.slice (some ⟨g2, 0, none⟩) (C.length + 1) c2) (C.length + 1) (C.map tV ++ [.slice a LV.length cp]) → (x.ownBlock = some g2 ∨ g2 = w5.heap.size + 1) → (w6.cell? ⟨gb, 3, none⟩ = some x ∧ w6.frozen? ⟨gb, 3, none⟩ = false) ∧ Hid (Gw wx (w6.setCell ⟨gb, 3, none⟩ (.slice (some ⟨g2, 0, none⟩) (C.length + 1) c2)) gb gf gw (.slice wa G.ws.length wcc) (C ++ [(a, LV, cp)]) (.slice (some ⟨g2, 0, none⟩) (C.length + 1) c2))) := fun w5 o a cp g2 c2 w6 hb hr ha hg ho hor => by
          have q := UP.out w5 hb
          have hg' := hg
          have gf' : w6.heap[gb]? = w5.heap[gb]? := (hg'.block gb (by have := q.gr.size; simp; omega) (fun e => by have := (q.ox.lt gb e.symm).1; omega)).trans (Below.heap_alloc _ _ _ (by have := q.gr.size; omega))
          have qs := q.gr.size
          refine ⟨⟨(World.cell?_of_block (a := ⟨gb, 3, none⟩) gf').trans q.c3, (World.frozen?_of_block (a := ⟨gb, 3, none⟩) gf').trans (q.fr 3)⟩, ?_⟩
          exact q.more (w0 := wr) (fun z hz => (GW.out.ox.lt z hz).2) GZ hb.size l3 hr ha hg' ho hor
        have T1 : Hid (∀ a cp, tl (C ++ [(a, LV, cp)]) = GL.take (k + 1) ∧ (C ++ [(a, LV, cp)]).length = k + 1) := fun a cp => by
          rw [tk, ← HC.out.1]
          refine ⟨by simp [tl], by rw [List.length_append, HC.out.2]; rfl⟩
        clear HT HCT TK GW HC l3 tk KC CL0
        go_upto_region 5 with fail
        go_region_law (first
          | (go_simp; go_at_call 89; refine (CL1.out _ BD.out).mono ?_; rintro e w5 ⟨ac, cap5, rfl, hr5, ha5, hb5⟩; have HR5 := hide hr5; have HA5 := hide ha5; have A5 := hide (XO.out w5 (.cells #[.slice ac LV.length cap5] 110) hb5); have c35 := A5.out.1; have c36 := A5.out.2.1; have pz2 := PZ.out w5 hb5)
          | (refine step_append_lies _ rfl (.tmp 22) (.tmp 25) 51 rfl wx.heap.size 110 i0 (.slice none 0 0) 1 24 Tryz.underlying51 I0.out hz0 hz1 hz2 rfl (by decide) x C.length (C.map tV) rfl A5.out.2.2.1 ⟨w5.heap.size, 0, none⟩ 1 1 [.slice ac LV.length cap5] rfl rfl (World.news_of_block (by first | exact heap_alloc_new _ _ | (simp; done))) (by intro u hu; simp at hu; subst hu; rfl) (by decide) (by unfold maxLen; omega) (by omega) A5.out.2.2.2 (w5.heap.size + 1) (by simp) ?_; intro g6 c6 w6 hown6 hgrow6 hor6 hlt6; have MM := MO.out w5 _ ac cap5 g6 c6 w6 hb5 HR5.out HA5.out hgrow6 hown6 hor6; have v3 := MM.1.1; have vf := MM.1.2; have NG := MM.2; clear MM; clear hown6 hgrow6 hor6))
        all_goals (
          go_wp2
          go_roundw
          case rel => exact ⟨k + 1, _, C ++ [(ac, LV, cap5)], by omega, by go_num, T1.out ac cap5, NG⟩
          case measure => simp [intOf]; omega)
      · have hke : k = G.ks.length := by omega
        have hC : 0 < C.length := by have := HC.out.2; omega
        have hC12 : C.length ≤ 12 := by have := HC.out.2; omega
        obtain ⟨gx, cx, ex, Z, _, _⟩ := gw_done HG.out GW.out hC hC12 wp .nilIface .nilIface .nilIface .nilIface
        subst ex
        have FIN : Hid (NewH w0 (put4 wr w.heap.size (.int .i64 gf) (.int .i64 gw) (.slice wa G.ws.length wcc) (.slice (some ⟨gx, 0, none⟩) C.length cx)) ⟨gf, gw, wa, G.ws, wcc, some ⟨gx, 0, none⟩, C, cx⟩ ∧ Below w0.heap.size w0 (put4 wr w.heap.size (.int .i64 gf) (.int .i64 gw) (.slice wa G.ws.length wcc) (.slice (some ⟨gx, 0, none⟩) C.length cx))) := by
          obtain ⟨g3, c3, e3, _, r1, r2⟩ := gw_new HG.out GW.out hC hC12 wp HPB.out.size HA.out (.int .i64 gf) (.int .i64 gw) (.slice wa G.ws.length wcc) (.slice (some ⟨gx, 0, none⟩) C.length cx)
          cases e3
          exact ⟨r1, below_on HPB.out r2⟩
        have EM : Hid (tl C = GL) := by unfold Hid; rw [HC.out.1, hke]; exact EN.out
        have y0 := GW.out.c0
        have y1 := GW.out.c1
        have y2 := GW.out.c2
        have y3 := GW.out.c3
        have z0 := Z.c0
        have z1 := Z.c1
        have z2 := Z.c2
        have z3 := Z.c3
        have zf := Z.fr
        obtain ⟨e0, e1, e2, e3⟩ := set4f (x0 := .int .i64 gf) (x1 := .int .i64 gw) (x2 := .slice wa G.ws.length wcc) (x3 := .slice (some ⟨gx, 0, none⟩) C.length cx) z0 z1 z2 z3
        have kz : ¬ ((k : Int) < (G.ks.length : Int)) := by omega
        clear HC GW HT HCT TK Z hke
        go_wp2
        (try simp only [Exit.inBlock, Exit.then])
        refine bodyPost_ret (v := .agg #[.int .i64 gf, .int .i64 gw, .slice wa G.ws.length wcc, .slice (some ⟨gx, 0, none⟩) C.length cx]) (by simp [results, Tryz.results46, go_sem, e0, e1, e2, e3]) rfl ?_
        exact ⟨⟨gf, gw, wa, G.ws, wcc, some ⟨gx, 0, none⟩, C, cx⟩, rfl, HM.out _ _ _ _ C EM.out, FIN.out.1, FIN.out.2⟩
end Go.Proofs.YtiggkjkjfnlfkaaGreatDoor

namespace Go.Proofs.YtiggkjkjfnlfkaaGreatDoor
open Go.ChangeShapes Go.WideShapes Go.ChangeAt Go.RowKit Go.Lib Go.Maps
set_option linter.unusedVariables false
theorem keyOfW {n : List Nat} (h : n.length ≤ 9223372036854775807) : keyOf Tryz.prog 9 (.string (byStr n)) = some (nmK n) := by
  have e := Go.WideMaps.keyOf_string_mk (P := Tryz.prog) (k := 9) Tryz.underlying9 (s := byStr n) (by
    have : (byStr n).size = n.length := by
      have := congrArg List.length (byStr_list n)
      simpa using this
    rw [this]; unfold maxLen; omega)
  rw [e, byStr_list]
  rfl
theorem SV.lookW {W : World} {f : Nat} {T : Nat → Nat} {S : M.Sh} {mm ml : Nat} {D E : DataW Value} {kb : Nat → Nat} {mb : List Nat → Nat} {va : List Nat → Option Addr} {vc : List Nat → Nat} {G : Nat → Gr} (h : SV W f T S mm ml D E kb mb va vc G) {n : List Nat} (hl : n.length ≤ 9223372036854775807) (hn : M.posL S.l n ≠ []) : (Instr.lookup 76 (.map (some mm)) (.string (byStr n)) false).run Tryz.prog W = .ok (.pointer (some ⟨mb n, 0, none⟩)) W := by
  obtain ⟨v, ps, hrun, hv⟩ := h.mo.lookup keyS Tryz.underlying76 (zeroM W) (zd := .held (.pointer none)) rfl (keyOfW hl)
  rw [h.ms n hn] at hv
  unfold selfE at hv
  simp only [Option.some.injEq, Prod.mk.injEq, DataW.held.injEq] at hv
  rw [hrun, hv.1]
  rfl
theorem SV.look0W {W : World} {f : Nat} {T : Nat → Nat} {S : M.Sh} {mm ml : Nat} {D E : DataW Value} {kb : Nat → Nat} {mb : List Nat → Nat} {va : List Nat → Option Addr} {vc : List Nat → Nat} {G : Nat → Gr} (h : SV W f T S mm ml D E kb mb va vc G) {n : List Nat} (hb : isB n) (hl : n.length ≤ 9223372036854775807) (hn : M.posL S.l n = []) : (Instr.lookup 76 (.map (some mm)) (.string (byStr n)) false).run Tryz.prog W = .ok (.pointer none) W := by
  obtain ⟨v, ps, hrun, hv⟩ := h.mo.lookup keyS Tryz.underlying76 (zeroM W) (zd := .held (.pointer none)) rfl (keyOfW hl)
  rw [atKey_of_not_has (h.mn n hb hn)] at hv
  unfold selfE at hv
  simp only [Option.some.injEq, Prod.mk.injEq, DataW.held.injEq] at hv
  rw [hrun, hv.1]

set_option maxHeartbeats 4000000 in
theorem sh_modelW {W : World} {f : Nat} {T : Nat → Nat} {S : M.Sh} {mm ml : Nat} {D E : DataW Value} {kb : Nat → Nat} {mb : List Nat → Nat} {va : List Nat → Option Addr} {vc : List Nat → Nat} {G : Nat → Gr} (h : SV W f T S mm ml D E kb mb va vc G) {n : List Nat} (hl : n.length ≤ 9223372036854775807) (hn : M.posL S.l n ≠ []) :
    Calls Tryz.prog 43 #[.pointer (some ⟨f, 0, none⟩), .string (byStr n)] W fun e w' => e = .returned (.pointer (some ⟨mb n, 0, none⟩)) ∧ w' = W := by
  have hrun := h.lookW hl hn
  have c0 := h.box.cell 0 _ rfl
  clear h hl hn
  generalize byStr n = s at *
  generalize mb n = b at *
  go_enter Tryz.func43, Tryz.ntmps43
  go_wp2
  go_ret
  exact ⟨rfl, rfl⟩
set_option maxHeartbeats 4000000 in
theorem sh_model0W {W : World} {f : Nat} {T : Nat → Nat} {S : M.Sh} {mm ml : Nat} {D E : DataW Value} {kb : Nat → Nat} {mb : List Nat → Nat} {va : List Nat → Option Addr} {vc : List Nat → Nat} {G : Nat → Gr} (h : SV W f T S mm ml D E kb mb va vc G) {n : List Nat} (hb : isB n) (hl : n.length ≤ 9223372036854775807) (hn : M.posL S.l n = []) :
    Calls Tryz.prog 43 #[.pointer (some ⟨f, 0, none⟩), .string (byStr n)] W fun e w' => e = .returned (.pointer (some ⟨W.heap.size, 0, none⟩)) ∧ w' = W.alloc (.cells #[.slice none 0 0, .pointer none, .pointer none] 96) := by
  have hrun := h.look0W hb hl hn
  have c0 := h.box.cell 0 _ rfl
  clear h hl hn hb
  generalize byStr n = s at *
  go_enter Tryz.func43, Tryz.ntmps43
  go_wp2
  go_ret
  exact ⟨rfl, rfl⟩

set_option maxHeartbeats 8000000 in
set_option maxRecDepth 10000 in
theorem sh_PickW {W : World} {f : Nat} {T : Nat → Nat} {S : M.Sh} {mm ml : Nat} {D E : DataW Value} {kb : Nat → Nat} {mb : List Nat → Nat} {va : List Nat → Option Addr} {vc : List Nat → Nat} {G : Nat → Gr} (h : SV W f T S mm ml D E kb mb va vc G) {n : List Nat} (hb : isB n) (hl : n.length ≤ 9223372036854775807) (key : Int) :
    Calls Tryz.prog 17 #[.pointer (some ⟨f, 0, none⟩), .string (byStr n), .int .i64 key] W fun e w' => e = .returned (.tuple #[vnV (M.pickV S n key), errV (M.pickF S n key)]) ∧ Below W.heap.size W w' := by
  obtain ⟨W1, hW1⟩ : ∃ X, X = W.alloc (.cells #[.string ⟨#[]⟩, .int .i64 0, .int .i64 0, .int .i64 0] 49) := ⟨_, rfl⟩
  have b1 : Below W.heap.size W W1 := by rw [hW1]; exact (Below.refl _ _).alloc (Nat.le_refl _) _
  have h1 := h.below b1
  have B1 := hide b1
  by_cases bad : M.timeB key = false
  · have E1 : Hid (M.pickV S n key = M.vn0 ∧ M.pickF S n key = 1) := by unfold Hid M.pickV M.pickF; rw [if_pos bad, if_pos bad]; exact ⟨rfl, rfl⟩
    rw [E1.out.1, E1.out.2, err_some (show (1 : Int) ≠ 0 by decide)]
    have ways : decide (key < 0) = true ∨ (decide (key < 0) = false ∧ decide (1000000 < key) = true) := by
      unfold M.timeB at bad
      simp only [decide_eq_true_iff, decide_eq_false_iff_not, Bool.and_eq_false_iff] at bad ⊢
      omega
    have FIN : Hid ((Bx W1 W.heap.size [.string ⟨#[]⟩, .int .i64 0, .int .i64 0, .int .i64 0] ∧ Bx ((((W1.setCell ⟨W.heap.size, 0, none⟩ (.string ⟨#[]⟩)).setCell ⟨W.heap.size, 1, none⟩ (.int .i64 0)).setCell ⟨W.heap.size, 2, none⟩ (.int .i64 0)).setCell ⟨W.heap.size, 3, none⟩ (.int .i64 0)) W.heap.size [.string ⟨#[]⟩, .int .i64 0, .int .i64 0, .int .i64 0]) ∧ Below W.heap.size W ((((W1.setCell ⟨W.heap.size, 0, none⟩ (.string ⟨#[]⟩)).setCell ⟨W.heap.size, 1, none⟩ (.int .i64 0)).setCell ⟨W.heap.size, 2, none⟩ (.int .i64 0)).setCell ⟨W.heap.size, 3, none⟩ (.int .i64 0))) := by
      rw [hW1]
      exact box_out (Below.refl _ _)
    have EV : Hid (vnV M.vn0 = .agg #[.string ⟨#[]⟩, .int .i64 0, .int .i64 0, .int .i64 0]) := rfl
    rw [EV.out]
    obtain ⟨⟨k0, k1⟩, k2⟩ := FIN.out
    have r0 := k0.cell 0 _ rfl
    have r1 := k0.cell 1 _ rfl
    have r2 := k0.cell 2 _ rfl
    have r3 := k0.cell 3 _ rfl
    have f0 := k0.free 0
    have f1 := k0.free 1
    have f2 := k0.free 2
    have f3 := k0.free 3
    have e0 := k1.cell 0 _ rfl
    have e1 := k1.cell 1 _ rfl
    have e2 := k1.cell 2 _ rfl
    have e3 := k1.cell 3 _ rfl
    have K2 := hide k2
    clear k0 k1 k2 FIN h h1 bad E1 b1 hb hl
    generalize byStr n = s at *
    rcases ways with g1 | ⟨g1, g2⟩
    all_goals (
      go_enter Tryz.func17, Tryz.ntmps17
      go_upto_region 1 with fail
      rw [← hW1]
      clear hW1
      go_wp2
      refine bodyPost_ret (v := .tuple #[.agg #[.string ⟨#[]⟩, .int .i64 0, .int .i64 0, .int .i64 0], .iface 90 (.int .i64 1)]) (by simp [results, Tryz.results17, go_sem, e0, e1, e2, e3]) rfl ?_
      exact ⟨rfl, K2.out⟩)
  have E1 : Hid (M.pickV S n key = M.told S (M.pickO S n key) ∧ M.pickF S n key = M.toldF (M.pickO S n key)) := by unfold Hid M.pickV M.pickF; rw [if_neg bad, if_neg bad]; exact ⟨rfl, rfl⟩
  rw [E1.out.1, E1.out.2]
  have kr : 0 ≤ key ∧ key ≤ 1000000 := by
    unfold M.timeB at bad
    simp only [Bool.and_eq_false_iff, decide_eq_false_iff_not] at bad
    omega
  have g1 : decide (key < 0) = false := decide_eq_false (by omega)
  have g2 : decide (1000000 < key) = false := decide_eq_false (by omega)
  have k37 : IntKind.i64.wrap (key * 37) = key * 37 := wrap_i64n (by omega) (by omega)
  obtain ⟨kr1, kr2⟩ := kr
  have TD : Hid (∀ o, (o = M.pickO S n key) → ∀ w, Below W.heap.size W w → Calls Tryz.prog 44 #[ptB (o.map kb)] w fun e w' => e = .returned (.tuple #[vnV (M.told S o), errV (M.toldF o)]) ∧ Below w.heap.size w w') := fun o ho w hw => sh_told (h.below hw) (fun k hk => by
    rw [ho] at hk
    unfold M.pickO at hk
    cases e : M.atN S n 2 with
    | none => rw [e] at hk; exact (M.at_is hk).1
    | some c =>
      rw [e] at hk
      simp only at hk
      split at hk
      · cases hk; exact (M.at_is e).1
      · exact (M.at_is hk).1)
  have FIN : Hid (∀ o, ∀ w, Below W1.heap.size W1 w → (Bx w W.heap.size [.string ⟨#[]⟩, .int .i64 0, .int .i64 0, .int .i64 0] ∧ Bx ((((w.setCell ⟨W.heap.size, 0, none⟩ (.string (byStr (M.told S o).name))).setCell ⟨W.heap.size, 1, none⟩ (.int .i64 (M.told S o).num)).setCell ⟨W.heap.size, 2, none⟩ (.int .i64 (M.told S o).stage)).setCell ⟨W.heap.size, 3, none⟩ (.int .i64 (M.told S o).share)) W.heap.size [.string (byStr (M.told S o).name), .int .i64 (M.told S o).num, .int .i64 (M.told S o).stage, .int .i64 (M.told S o).share]) ∧ Below W.heap.size W ((((w.setCell ⟨W.heap.size, 0, none⟩ (.string (byStr (M.told S o).name))).setCell ⟨W.heap.size, 1, none⟩ (.int .i64 (M.told S o).num)).setCell ⟨W.heap.size, 2, none⟩ (.int .i64 (M.told S o).stage)).setCell ⟨W.heap.size, 3, none⟩ (.int .i64 (M.told S o).share))) := fun o w hw => by
    rw [hW1] at hw
    exact box_out hw
  obtain ⟨o, ho⟩ : ∃ o, o = M.pickO S n key := ⟨_, rfl⟩
  have TD := hide (TD.out o ho)
  have FIN := hide (FIN.out o)
  rw [← ho]
  by_cases hn : M.posL S.l n = []
  · have EO : Hid (M.pickO S n key = none) := by unfold Hid M.pickO; rw [at_no hn, at_no hn]
    have MD := hide (sh_model0W h1 hb hl hn)
    have BM : Hid (Below W1.heap.size W1 (W1.alloc (.cells #[.slice none 0 0, .pointer none, .pointer none] 96))) := (Below.refl _ _).alloc (Nat.le_refl _) _
    have CM : Hid (Bx (W1.alloc (.cells #[.slice none 0 0, .pointer none, .pointer none] 96)) W1.heap.size [.slice none 0 0, .pointer none, .pointer none]) := bx_new W1 _ _
    have PN : Hid (ptB (o.map kb) = .pointer none) := by unfold Hid; rw [ho, EO.out]; rfl
    rw [PN.out] at TD
    unfold vnV at TD ⊢
    clear h h1 hb hl hn b1 PN EO E1 bad ho
    generalize byStr n = s at *
    generalize byStr (M.told S o).name = x0 at *
    generalize (M.told S o).num = x1 at *
    generalize (M.told S o).stage = x2 at *
    generalize (M.told S o).share = x3 at *
    generalize errV (M.toldF o) = ev at *
    go_enter Tryz.func17, Tryz.ntmps17
    go_upto_region 1 with fail
    rw [← hW1]
    clear hW1
    have m1 := CM.out.cell 1 _ rfl
    have m2 := CM.out.cell 2 _ rfl
    go_wp2_with (first
      | (go_at_call 43; refine MD.out.mono ?_; rintro e w2 ⟨rfl, e2⟩; have e2' := e2; subst e2')
      | (go_at_call 44; refine (TD.out _ (below_on B1.out BM.out)).mono ?_; rintro e w3 ⟨rfl, b3⟩; obtain ⟨⟨k0, k1⟩, k2⟩ := FIN.out _ (below_on BM.out b3); have r0 := k0.cell 0 _ rfl; have r1 := k0.cell 1 _ rfl; have r2 := k0.cell 2 _ rfl; have r3 := k0.cell 3 _ rfl; have f0 := k0.free 0; have f1 := k0.free 1; have f2 := k0.free 2; have f3 := k0.free 3; have e0 := k1.cell 0 _ rfl; have e1 := k1.cell 1 _ rfl; have e2 := k1.cell 2 _ rfl; have e3 := k1.cell 3 _ rfl; have K2 := hide k2; clear k0 k1 k2 b3))
    refine bodyPost_ret (v := .tuple #[.agg #[.string x0, .int .i64 x1, .int .i64 x2, .int .i64 x3], ev]) (by simp [results, Tryz.results17, go_sem, e0, e1, e2, e3]) rfl ?_
    exact ⟨rfl, K2.out⟩
  have MD := hide (sh_modelW h1 hl hn)
  have m1 := (h1.mc n hn).cell 1 _ rfl
  have m2 := (h1.mc n hn).cell 2 _ rfl
  cases hc : M.atN S n 2 with
  | none =>
    have EO : Hid (o = M.atN S n 3) := by unfold Hid; rw [ho]; unfold M.pickO; rw [hc]
    rw [hc] at m1
    replace m1 : W1.cell? ⟨mb n, 1, none⟩ = some (.pointer none) := m1
    rw [← EO.out] at m2
    unfold vnV at TD ⊢
    clear h h1 hb hl hn b1 EO E1 bad ho hc
    generalize ptB (o.map kb) = pv at *
    generalize byStr n = s at *
    generalize mb n = mq at *
    generalize byStr (M.told S o).name = x0 at *
    generalize (M.told S o).num = x1 at *
    generalize (M.told S o).stage = x2 at *
    generalize (M.told S o).share = x3 at *
    generalize errV (M.toldF o) = ev at *
    go_enter Tryz.func17, Tryz.ntmps17
    go_upto_region 1 with fail
    rw [← hW1]
    clear hW1
    go_wp2_with (first
      | (go_at_call 43; refine MD.out.mono ?_; rintro e w2 ⟨rfl, e2⟩; have e2' := e2.symm; subst e2')
      | (go_at_call 44; refine (TD.out _ B1.out).mono ?_; rintro e w3 ⟨rfl, b3⟩; obtain ⟨⟨k0, k1⟩, k2⟩ := FIN.out _ b3; have r0 := k0.cell 0 _ rfl; have r1 := k0.cell 1 _ rfl; have r2 := k0.cell 2 _ rfl; have r3 := k0.cell 3 _ rfl; have f0 := k0.free 0; have f1 := k0.free 1; have f2 := k0.free 2; have f3 := k0.free 3; have e0 := k1.cell 0 _ rfl; have e1 := k1.cell 1 _ rfl; have e2 := k1.cell 2 _ rfl; have e3 := k1.cell 3 _ rfl; have K2 := hide k2; clear k0 k1 k2 b3))
    refine bodyPost_ret (v := .tuple #[.agg #[.string x0, .int .i64 x1, .int .i64 x2, .int .i64 x3], ev]) (by simp [results, Tryz.results17, go_sem, e0, e1, e2, e3]) rfl ?_
    exact ⟨rfl, K2.out⟩
  | some c =>
    obtain ⟨k1', k2', k3'⟩ := M.at_is hc
    rw [hc] at m1
    replace m1 : W1.cell? ⟨mb n, 1, none⟩ = some (.pointer (some ⟨kb c, 0, none⟩)) := m1
    have s3 := (h1.kc c k1').cell 3 _ rfl
    by_cases lt : key * 37 % 100 < (vAt S c).share
    · have EO : Hid (o = some c) := by unfold Hid; rw [ho]; unfold M.pickO; rw [hc]; exact if_pos lt
      have t1 : decide (key * 37 % 100 < (vAt S c).share) = true := decide_eq_true lt
      have PN : Hid (ptB (o.map kb) = .pointer (some ⟨kb c, 0, none⟩)) := by unfold Hid; rw [EO.out]; rfl
      rw [PN.out] at TD
      unfold vnV at TD ⊢
      clear h h1 hb hl hn b1 EO E1 bad ho hc PN lt k1' k2' k3' m2
      generalize byStr n = s at *
      generalize mb n = mq at *
      generalize kb c = kq at *
      generalize (vAt S c).share = sh at *
      generalize byStr (M.told S o).name = x0 at *
      generalize (M.told S o).num = x1 at *
      generalize (M.told S o).stage = x2 at *
      generalize (M.told S o).share = x3 at *
      generalize errV (M.toldF o) = ev at *
      go_enter Tryz.func17, Tryz.ntmps17
      go_upto_region 1 with fail
      rw [← hW1]
      clear hW1
      go_wp2_with (first
        | (go_at_call 43; refine MD.out.mono ?_; rintro e w2 ⟨rfl, e2⟩; have e2' := e2.symm; subst e2')
        | (go_at_call 44; refine (TD.out _ B1.out).mono ?_; rintro e w3 ⟨rfl, b3⟩; obtain ⟨⟨k0, k1⟩, k2⟩ := FIN.out _ b3; have r0 := k0.cell 0 _ rfl; have r1 := k0.cell 1 _ rfl; have r2 := k0.cell 2 _ rfl; have r3 := k0.cell 3 _ rfl; have f0 := k0.free 0; have f1 := k0.free 1; have f2 := k0.free 2; have f3 := k0.free 3; have e0 := k1.cell 0 _ rfl; have e1 := k1.cell 1 _ rfl; have e2 := k1.cell 2 _ rfl; have e3 := k1.cell 3 _ rfl; have K2 := hide k2; clear k0 k1 k2 b3))
      refine bodyPost_ret (v := .tuple #[.agg #[.string x0, .int .i64 x1, .int .i64 x2, .int .i64 x3], ev]) (by simp [results, Tryz.results17, go_sem, e0, e1, e2, e3]) rfl ?_
      exact ⟨rfl, K2.out⟩
    · have EO : Hid (o = M.atN S n 3) := by unfold Hid; rw [ho]; unfold M.pickO; rw [hc]; exact if_neg lt
      have t1 : decide (key * 37 % 100 < (vAt S c).share) = false := decide_eq_false lt
      rw [← EO.out] at m2
      unfold vnV at TD ⊢
      clear h h1 hb hl hn b1 EO E1 bad ho hc lt k1' k2' k3'
      generalize ptB (o.map kb) = pv at *
      generalize byStr n = s at *
      generalize mb n = mq at *
      generalize kb c = kq at *
      generalize (vAt S c).share = sh at *
      generalize byStr (M.told S o).name = x0 at *
      generalize (M.told S o).num = x1 at *
      generalize (M.told S o).stage = x2 at *
      generalize (M.told S o).share = x3 at *
      generalize errV (M.toldF o) = ev at *
      go_enter Tryz.func17, Tryz.ntmps17
      go_upto_region 1 with fail
      rw [← hW1]
      clear hW1
      go_wp2_with (first
        | (go_at_call 43; refine MD.out.mono ?_; rintro e w2 ⟨rfl, e2⟩; have e2' := e2.symm; subst e2')
        | (go_at_call 44; refine (TD.out _ B1.out).mono ?_; rintro e w3 ⟨rfl, b3⟩; obtain ⟨⟨k0, k1⟩, k2⟩ := FIN.out _ b3; have r0 := k0.cell 0 _ rfl; have r1 := k0.cell 1 _ rfl; have r2 := k0.cell 2 _ rfl; have r3 := k0.cell 3 _ rfl; have f0 := k0.free 0; have f1 := k0.free 1; have f2 := k0.free 2; have f3 := k0.free 3; have e0 := k1.cell 0 _ rfl; have e1 := k1.cell 1 _ rfl; have e2 := k1.cell 2 _ rfl; have e3 := k1.cell 3 _ rfl; have K2 := hide k2; clear k0 k1 k2 b3))
      refine bodyPost_ret (v := .tuple #[.agg #[.string x0, .int .i64 x1, .int .i64 x2, .int .i64 x3], ev]) (by simp [results, Tryz.results17, go_sem, e0, e1, e2, e3]) rfl ?_
      exact ⟨rfl, K2.out⟩
theorem M.ver_there {S : M.Sh} (h : M.numY (M.kyL S.l)) {n : List Nat} {num : Int} {k : Nat} (hk : M.verN S n num = some k) : M.posL S.l n ≠ [] ∧ k < S.l.length := by
  rw [M.ver_pos h] at hk
  split at hk
  · rename_i q
    have hne : M.posL S.l n ≠ [] := by intro e; rw [e] at q; simp at q; omega
    refine ⟨hne, ?_⟩
    cases hk
    have hi : (num - 1).toNat < (M.posL S.l n).length := by omega
    have mem : (M.posL S.l n).getD (num - 1).toNat 0 ∈ M.posL S.l n := by rw [List.getD, List.getElem?_eq_getElem hi]; exact List.getElem_mem hi
    exact (M.pos_mem.1 mem).1
  · cases hk

set_option maxHeartbeats 8000000 in
set_option maxRecDepth 10000 in
theorem sh_Grove {W : World} {f : Nat} {T : Nat → Nat} {S : M.Sh} {mm ml : Nat} {D E : DataW Value} {kb : Nat → Nat} {mb : List Nat → Nat} {va : List Nat → Option Addr} {vc : List Nat → Nat} {G : Nat → Gr} (h : SV W f T S mm ml D E kb mb va vc G) {n : List Nat} (hl : n.length ≤ 9223372036854775807) {num : Int} (hi : I64 num) {k : Nat} (hk : M.verN S n num = some k) (hs : (vAt S k).stage ≠ 4) (hg : M.groveF (S.l.getD k M.vg0).2 = 0) :
    Calls Tryz.prog 21 #[.pointer (some ⟨f, 0, none⟩), .string (byStr n), .int .i64 num] W fun e w' => ∃ J : Gr, e = .returned (.tuple #[J.v, .nilIface]) ∧ J.m = (S.l.getD k M.vg0).2 ∧ NewH W w' J ∧ Below W.heap.size W w' := by
  obtain ⟨hn, kl⟩ := M.ver_there h.inv.nu hk
  obtain ⟨W1, hW1⟩ : ∃ X, X = W.alloc nilG := ⟨_, rfl⟩
  have b1 : Below W.heap.size W W1 := by rw [hW1]; exact (Below.refl _ _).alloc (Nat.le_refl _) _
  have z1 : W1.heap.size = W.heap.size + 1 := by rw [hW1]; simp
  have h1 := h.below b1
  have zf : Zf W1 W.heap.size := by rw [hW1]; exact zf_made W
  have MD := hide (sh_modelW h1 hl hn)
  have VR := hide (sh_version h1 hn hi)
  rw [hk] at VR
  have PK : Hid (ptB (Option.map kb (some k)) = .pointer (some ⟨kb k, 0, none⟩)) := rfl
  rw [PK.out] at VR
  have kc := h1.kc k kl
  have s2 := kc.cell 2 _ rfl
  have g4 := kc.cell 4 _ rfl
  have g5 := kc.cell 5 _ rfl
  have g6 := kc.cell 6 _ rfl
  have g7 := kc.cell 7 _ rfl
  obtain ⟨gm, gi⟩ := h1.kg k kl hs
  have CP := hide (copy_any (G k) W1 gi.rd (by rw [gm]; exact hg))
  have st : ((vAt S k).stage == 4) = false := by rw [beq_eq_false_iff_ne]; exact hs
  have GM := hide gm
  have AFT : Hid (∀ w2 (J : Gr), NewH W1 w2 J → Below W1.heap.size W1 w2 → ((w2.cell? ⟨W.heap.size, 0, none⟩ = some (.int .i64 0) ∧ w2.cell? ⟨W.heap.size, 1, none⟩ = some (.int .i64 0) ∧ w2.cell? ⟨W.heap.size, 2, none⟩ = some (.slice none 0 0) ∧ w2.cell? ⟨W.heap.size, 3, none⟩ = some (.slice none 0 0)) ∧ ∀ j, w2.frozen? ⟨W.heap.size, j, none⟩ = false) ∧ ∀ x0 x1 x2 x3, NewH W (put4 w2 W.heap.size x0 x1 x2 x3) J ∧ Below W.heap.size W (put4 w2 W.heap.size x0 x1 x2 x3)) := fun w2 J hn hb => by
    have z := zf.up hb
    have zz := hb.size
    refine ⟨⟨⟨z.c0, z.c1, z.c2, z.c3⟩, z.fr⟩, fun x0 x1 x2 x3 => ⟨fun W3 hz3 hc3 => ?_, put4_below (below_on b1 hb) (Nat.le_refl _)⟩⟩
    refine hn W3 (by rw [put4_size] at hz3; exact hz3) (fun b q1 q2 => ?_)
    rw [hc3 b (by omega) (by rw [put4_size]; exact q2), put4_far (by omega)]
  unfold Gr.v at CP ⊢
  clear h h1 hi hk hs hg hn kc gi gm zf b1 PK
  generalize byStr n = sn at *
  generalize mb n = mq at *
  generalize kb k = kq at *
  generalize (vAt S k).stage = sg at *
  go_enter Tryz.func21, Tryz.ntmps21
  go_upto_region 1 with fail
  rw [← hW1]
  clear hW1
  go_upto_region 2 with (first
    | (go_at_call 45; refine VR.out.mono ?_; rintro e w2 ⟨rfl, e2⟩; have e2' := e2.symm; subst e2')
    | (go_at_call 43; refine MD.out.mono ?_; rintro e w2 ⟨rfl, e2⟩; have e2' := e2.symm; subst e2'))
  go_wp2_with (go_at_call 46; refine CP.out.mono ?_; rintro e w2 ⟨J, rfl, jm, nj, b2⟩; obtain ⟨⟨⟨u0, u1, u2, u3⟩, uf⟩, r⟩ := AFT.out w2 J nj b2; have R2 := hide r; have JM := hide jm; have f0 := uf 0; have f1 := uf 1; have f2 := uf 2; have f3 := uf 3; clear nj b2 r jm uf)
  obtain ⟨e0, e1, e2, e3⟩ := put4_at (x0 := .int .i64 J.f) (x1 := .int .i64 J.w) (x2 := .slice J.wa J.ws.length J.wc) (x3 := .slice J.ta J.ks.length J.tc) u0 u1 u2 u3
  refine bodyPost_ret (v := .tuple #[.agg #[.int .i64 J.f, .int .i64 J.w, .slice J.wa J.ws.length J.wc, .slice J.ta J.ks.length J.tc], .nilIface]) (by simp [results, Tryz.results21, go_sem, e0, e1, e2, e3]) rfl ?_
  exact ⟨J, rfl, JM.out.trans GM.out, (R2.out _ _ _ _).1, (R2.out _ _ _ _).2⟩
set_option maxHeartbeats 8000000 in
set_option maxRecDepth 10000 in
theorem sh_Grove0 {W : World} {f : Nat} {T : Nat → Nat} {S : M.Sh} {mm ml : Nat} {D E : DataW Value} {kb : Nat → Nat} {mb : List Nat → Nat} {va : List Nat → Option Addr} {vc : List Nat → Nat} {G : Nat → Gr} (h : SV W f T S mm ml D E kb mb va vc G) {n : List Nat} (hb : isB n) (hl : n.length ≤ 9223372036854775807) {num : Int} (hi : I64 num) (hk : ∀ k, M.verN S n num = some k → (vAt S k).stage = 4) :
    Calls Tryz.prog 21 #[.pointer (some ⟨f, 0, none⟩), .string (byStr n), .int .i64 num] W fun e w' => e = .returned (.tuple #[.agg #[.int .i64 0, .int .i64 0, .slice none 0 0, .slice none 0 0], errV 5]) ∧ Below W.heap.size W w' := by
  have E5 : Hid (errV 5 = .iface 90 (.int .i64 5)) := err_some (by decide)
  rw [E5.out]
  clear E5
  obtain ⟨W1, hW1⟩ : ∃ X, X = W.alloc nilG := ⟨_, rfl⟩
  have b1 : Below W.heap.size W W1 := by rw [hW1]; exact (Below.refl _ _).alloc (Nat.le_refl _) _
  have h1 := h.below b1
  have zf : Zf W1 W.heap.size := by rw [hW1]; exact zf_made W
  have FIN : Hid (∀ w2, Below W1.heap.size W1 w2 → ((w2.cell? ⟨W.heap.size, 0, none⟩ = some (.int .i64 0) ∧ w2.cell? ⟨W.heap.size, 1, none⟩ = some (.int .i64 0) ∧ w2.cell? ⟨W.heap.size, 2, none⟩ = some (.slice none 0 0) ∧ w2.cell? ⟨W.heap.size, 3, none⟩ = some (.slice none 0 0)) ∧ ∀ j, w2.frozen? ⟨W.heap.size, j, none⟩ = false) ∧ ∀ x0 x1 x2 x3, Below W.heap.size W (put4 w2 W.heap.size x0 x1 x2 x3)) := fun w2 hb => by
    have z := zf.up hb
    exact ⟨⟨⟨z.c0, z.c1, z.c2, z.c3⟩, z.fr⟩, fun x0 x1 x2 x3 => put4_below (below_on b1 hb) (Nat.le_refl _)⟩
  by_cases hn : M.posL S.l n = []
  · have MD := hide (sh_model0W h1 hb hl hn)
    have VR := hide (sh_version0 (bx_new W1 [.slice none 0 0, .pointer none, .pointer none] 96) num)
    obtain ⟨⟨⟨u0, u1, u2, u3⟩, uf⟩, r⟩ := FIN.out (W1.alloc (.cells #[.slice none 0 0, .pointer none, .pointer none] 96)) ((Below.refl _ _).alloc (Nat.le_refl _) _)
    have R2 := hide r
    have f0 := uf 0
    have f1 := uf 1
    have f2 := uf 2
    have f3 := uf 3
    clear h h1 hb hl hi hk hn b1 zf FIN uf r
    generalize byStr n = s at *
    go_enter Tryz.func21, Tryz.ntmps21
    go_upto_region 1 with fail
    rw [← hW1]
    clear hW1
    go_wp2_with (first
      | (go_at_call 45; refine VR.out.mono ?_; rintro e w2 ⟨rfl, e2⟩; have e2' := e2.symm; subst e2')
      | (go_at_call 43; refine MD.out.mono ?_; rintro e w2 ⟨rfl, e2⟩; have e2' := e2.symm; subst e2'))
    obtain ⟨e0, e1, e2, e3⟩ := put4_at (x0 := .int .i64 0) (x1 := .int .i64 0) (x2 := .slice none 0 0) (x3 := .slice none 0 0) u0 u1 u2 u3
    refine bodyPost_ret (v := .tuple #[.agg #[.int .i64 0, .int .i64 0, .slice none 0 0, .slice none 0 0], .iface 90 (.int .i64 5)]) (by simp [results, Tryz.results21, go_sem, e0, e1, e2, e3]) rfl ?_
    exact ⟨rfl, R2.out _ _ _ _⟩
  · have MD := hide (sh_modelW h1 hl hn)
    have VR := hide (sh_version h1 hn hi)
    obtain ⟨⟨⟨u0, u1, u2, u3⟩, uf⟩, r⟩ := FIN.out W1 (Below.refl _ _)
    have R2 := hide r
    have f0 := uf 0
    have f1 := uf 1
    have f2 := uf 2
    have f3 := uf 3
    cases hv : M.verN S n num with
    | none =>
      have PK : Hid (ptB (Option.map kb none) = .pointer none) := rfl
      rw [hv, PK.out] at VR
      clear h h1 hb hl hi hk hn b1 zf FIN uf r hv PK
      generalize byStr n = s at *
      generalize mb n = mq at *
      go_enter Tryz.func21, Tryz.ntmps21
      go_upto_region 1 with fail
      rw [← hW1]
      clear hW1
      go_wp2_with (first
        | (go_at_call 45; refine VR.out.mono ?_; rintro e w2 ⟨rfl, e2⟩; have e2' := e2.symm; subst e2')
        | (go_at_call 43; refine MD.out.mono ?_; rintro e w2 ⟨rfl, e2⟩; have e2' := e2.symm; subst e2'))
      obtain ⟨e0, e1, e2, e3⟩ := put4_at (x0 := .int .i64 0) (x1 := .int .i64 0) (x2 := .slice none 0 0) (x3 := .slice none 0 0) u0 u1 u2 u3
      refine bodyPost_ret (v := .tuple #[.agg #[.int .i64 0, .int .i64 0, .slice none 0 0, .slice none 0 0], .iface 90 (.int .i64 5)]) (by simp [results, Tryz.results21, go_sem, e0, e1, e2, e3]) rfl ?_
      exact ⟨rfl, R2.out _ _ _ _⟩
    | some k =>
      have kl := (M.ver_there h.inv.nu hv).2
      have PK : Hid (ptB (Option.map kb (some k)) = .pointer (some ⟨kb k, 0, none⟩)) := rfl
      rw [hv, PK.out] at VR
      have s2 := (h1.kc k kl).cell 2 _ rfl
      rw [show (vAt S k).stage = 4 from hk k hv] at s2
      clear h h1 hb hl hi hk hn b1 zf FIN uf r hv PK kl
      generalize byStr n = s at *
      generalize mb n = mq at *
      generalize kb k = kq at *
      go_enter Tryz.func21, Tryz.ntmps21
      go_upto_region 1 with fail
      rw [← hW1]
      clear hW1
      go_wp2_with (first
        | (go_at_call 45; refine VR.out.mono ?_; rintro e w2 ⟨rfl, e2⟩; have e2' := e2.symm; subst e2')
        | (go_at_call 43; refine MD.out.mono ?_; rintro e w2 ⟨rfl, e2⟩; have e2' := e2.symm; subst e2'))
      obtain ⟨e0, e1, e2, e3⟩ := put4_at (x0 := .int .i64 0) (x1 := .int .i64 0) (x2 := .slice none 0 0) (x3 := .slice none 0 0) u0 u1 u2 u3
      refine bodyPost_ret (v := .tuple #[.agg #[.int .i64 0, .int .i64 0, .slice none 0 0, .slice none 0 0], .iface 90 (.int .i64 5)]) (by simp [results, Tryz.results21, go_sem, e0, e1, e2, e3]) rfl ?_
      exact ⟨rfl, R2.out _ _ _ _⟩
set_option maxHeartbeats 4000000 in
theorem sh_LiveW {W : World} {f : Nat} {T : Nat → Nat} {S : M.Sh} {mm ml : Nat} {D E : DataW Value} {kb : Nat → Nat} {mb : List Nat → Nat} {va : List Nat → Option Addr} {vc : List Nat → Nat} {G : Nat → Gr} (h : SV W f T S mm ml D E kb mb va vc G) {n : List Nat} (hb : isB n) (hl : n.length ≤ 9223372036854775807) :
    Calls Tryz.prog 19 #[.pointer (some ⟨f, 0, none⟩), .string (byStr n)] W fun e w' => e = .returned (.tuple #[vnV (M.told S (M.atN S n 3)), errV (M.toldF (M.atN S n 3))]) ∧ Below W.heap.size W w' := by
  obtain ⟨W1, hW1⟩ : ∃ X, X = W.alloc (.cells #[.string ⟨#[]⟩, .int .i64 0, .int .i64 0, .int .i64 0] 49) := ⟨_, rfl⟩
  have b1 : Below W.heap.size W W1 := by rw [hW1]; exact (Below.refl _ _).alloc (Nat.le_refl _) _
  have h1 := h.below b1
  have TD : Hid (∀ w, Below W.heap.size W w → Calls Tryz.prog 44 #[ptB ((M.atN S n 3).map kb)] w fun e w' => e = .returned (.tuple #[vnV (M.told S (M.atN S n 3)), errV (M.toldF (M.atN S n 3))]) ∧ Below w.heap.size w w') := fun w hw => sh_told (h.below hw) (fun k hk => (M.at_is hk).1)
  have FIN : Hid (∀ w, Below W1.heap.size W1 w → (Bx w W.heap.size [.string ⟨#[]⟩, .int .i64 0, .int .i64 0, .int .i64 0] ∧ Bx ((((w.setCell ⟨W.heap.size, 0, none⟩ (.string (byStr (M.told S (M.atN S n 3)).name))).setCell ⟨W.heap.size, 1, none⟩ (.int .i64 (M.told S (M.atN S n 3)).num)).setCell ⟨W.heap.size, 2, none⟩ (.int .i64 (M.told S (M.atN S n 3)).stage)).setCell ⟨W.heap.size, 3, none⟩ (.int .i64 (M.told S (M.atN S n 3)).share)) W.heap.size [.string (byStr (M.told S (M.atN S n 3)).name), .int .i64 (M.told S (M.atN S n 3)).num, .int .i64 (M.told S (M.atN S n 3)).stage, .int .i64 (M.told S (M.atN S n 3)).share]) ∧ Below W.heap.size W ((((w.setCell ⟨W.heap.size, 0, none⟩ (.string (byStr (M.told S (M.atN S n 3)).name))).setCell ⟨W.heap.size, 1, none⟩ (.int .i64 (M.told S (M.atN S n 3)).num)).setCell ⟨W.heap.size, 2, none⟩ (.int .i64 (M.told S (M.atN S n 3)).stage)).setCell ⟨W.heap.size, 3, none⟩ (.int .i64 (M.told S (M.atN S n 3)).share))) := fun w hw => by
    rw [hW1] at hw
    exact box_out hw
  have B1 := hide b1
  by_cases hn : M.posL S.l n = []
  · have MD := hide (sh_model0W h1 hb hl hn)
    have BM : Hid (Below W1.heap.size W1 (W1.alloc (.cells #[.slice none 0 0, .pointer none, .pointer none] 96))) := (Below.refl _ _).alloc (Nat.le_refl _) _
    have CM : Hid (Bx (W1.alloc (.cells #[.slice none 0 0, .pointer none, .pointer none] 96)) W1.heap.size [.slice none 0 0, .pointer none, .pointer none]) := bx_new W1 _ _
    have PN : Hid (ptB ((M.atN S n 3).map kb) = .pointer none) := by unfold Hid; rw [at_no hn]; rfl
    rw [PN.out] at TD
    unfold vnV at TD ⊢
    clear h h1 hb hl hn b1 PN
    generalize byStr n = s at *
    generalize byStr (M.told S (M.atN S n 3)).name = x0 at *
    generalize (M.told S (M.atN S n 3)).num = x1 at *
    generalize (M.told S (M.atN S n 3)).stage = x2 at *
    generalize (M.told S (M.atN S n 3)).share = x3 at *
    generalize errV (M.toldF (M.atN S n 3)) = ev at *
    go_enter Tryz.func19, Tryz.ntmps19
    go_upto_region 1 with fail
    rw [← hW1]
    clear hW1
    have m2 := CM.out.cell 2 _ rfl
    go_wp2_with (first
      | (go_at_call 43; refine MD.out.mono ?_; rintro e w2 ⟨rfl, e2⟩; have e2' := e2; subst e2')
      | (go_at_call 44; refine (TD.out _ (below_on B1.out BM.out)).mono ?_; rintro e w3 ⟨rfl, b3⟩; obtain ⟨⟨k0, k1⟩, k2⟩ := FIN.out _ (below_on BM.out b3); have r0 := k0.cell 0 _ rfl; have r1 := k0.cell 1 _ rfl; have r2 := k0.cell 2 _ rfl; have r3 := k0.cell 3 _ rfl; have f0 := k0.free 0; have f1 := k0.free 1; have f2 := k0.free 2; have f3 := k0.free 3; have e0 := k1.cell 0 _ rfl; have e1 := k1.cell 1 _ rfl; have e2 := k1.cell 2 _ rfl; have e3 := k1.cell 3 _ rfl; have K2 := hide k2; clear k0 k1 k2 b3))
    refine bodyPost_ret (v := .tuple #[.agg #[.string x0, .int .i64 x1, .int .i64 x2, .int .i64 x3], ev]) (by simp [results, Tryz.results19, go_sem, e0, e1, e2, e3]) rfl ?_
    exact ⟨rfl, K2.out⟩
  · have MD := hide (sh_modelW h1 hl hn)
    have m2 := (h1.mc n hn).cell 2 _ rfl
    have BM : Hid (Below W1.heap.size W1 W1) := Below.refl _ _
    unfold vnV at TD ⊢
    clear h h1 hb hl hn b1
    generalize ptB ((M.atN S n 3).map kb) = pv at *
    generalize byStr n = s at *
    generalize mb n = mq at *
    generalize byStr (M.told S (M.atN S n 3)).name = x0 at *
    generalize (M.told S (M.atN S n 3)).num = x1 at *
    generalize (M.told S (M.atN S n 3)).stage = x2 at *
    generalize (M.told S (M.atN S n 3)).share = x3 at *
    generalize errV (M.toldF (M.atN S n 3)) = ev at *
    go_enter Tryz.func19, Tryz.ntmps19
    go_upto_region 1 with fail
    rw [← hW1]
    clear hW1
    go_wp2_with (first
      | (go_at_call 43; refine MD.out.mono ?_; rintro e w2 ⟨rfl, e2⟩; have e2' := e2.symm; subst e2')
      | (go_at_call 44; refine (TD.out _ B1.out).mono ?_; rintro e w3 ⟨rfl, b3⟩; obtain ⟨⟨k0, k1⟩, k2⟩ := FIN.out _ b3; have r0 := k0.cell 0 _ rfl; have r1 := k0.cell 1 _ rfl; have r2 := k0.cell 2 _ rfl; have r3 := k0.cell 3 _ rfl; have f0 := k0.free 0; have f1 := k0.free 1; have f2 := k0.free 2; have f3 := k0.free 3; have e0 := k1.cell 0 _ rfl; have e1 := k1.cell 1 _ rfl; have e2 := k1.cell 2 _ rfl; have e3 := k1.cell 3 _ rfl; have K2 := hide k2; clear k0 k1 k2 b3))
    refine bodyPost_ret (v := .tuple #[.agg #[.string x0, .int .i64 x1, .int .i64 x2, .int .i64 x3], ev]) (by simp [results, Tryz.results19, go_sem, e0, e1, e2, e3]) rfl ?_
    exact ⟨rfl, K2.out⟩
end Go.Proofs.YtiggkjkjfnlfkaaGreatDoor

namespace Go.Proofs.YtiggkjkjfnlfkaaGreatDoor.M
set_option linter.unusedVariables false
/-- each version's grove is right -/
def GG (S : Sh) : Prop := ∀ k, k < S.l.length → groveF (S.l.getD k vg0).2 = 0
theorem gg_zero : GG sh0 := fun k hk => by simp [sh0] at hk
theorem dec_good {b : List Nat} (h : (decF b).2 = 0) : groveF (decV b) = 0 := by
  have dv : decV b = rGrove b := by unfold decV; rw [if_pos h]
  rw [dv]
  unfold decF at h
  by_cases z : groveF (rGrove b) = 0
  · exact z
  · split at h
    · simp at h
    · split at h
      · simp at h; omega
      · split at h
        · simp at h
        · exact h
/-- what a call leaves of the versions: each is where it was, with its name, its number and its grove -/
def keepV (l r : List (Vn × Gv)) : Prop := ∀ k, k < l.length → k < r.length ∧ (r.getD k vg0).1.name = (l.getD k vg0).1.name ∧ (r.getD k vg0).1.num = (l.getD k vg0).1.num ∧ (r.getD k vg0).2 = (l.getD k vg0).2
theorem keep_refl (l : List (Vn × Gv)) : keepV l l := fun k hk => ⟨hk, rfl, rfl, rfl⟩
theorem keep_setV (l : List (Vn × Gv)) (k : Nat) (st sh : Int) : keepV l (setV l k st sh) := fun j hj => by
  rw [len_setV, getD_setV l k st sh hj]
  by_cases q : k = j
  · rw [if_pos q]; exact ⟨hj, rfl, rfl, rfl⟩
  · rw [if_neg q]; exact ⟨hj, rfl, rfl, rfl⟩
theorem keep_setS (l : List (Vn × Gv)) (k : Nat) (st : Int) : keepV l (setS l k st) := fun j hj => by
  have e : (setS l k st).getD j vg0 = if k = j then (⟨(l.getD j vg0).1.name, (l.getD j vg0).1.num, st, (l.getD j vg0).1.share⟩, (l.getD j vg0).2) else l.getD j vg0 := by
    unfold setS; exact mod_at hj
  have el : (setS l k st).length = l.length := by unfold setS; rw [List.length_modify]
  rw [el, e]
  by_cases q : k = j
  · rw [if_pos q]; exact ⟨hj, rfl, rfl, rfl⟩
  · rw [if_neg q]; exact ⟨hj, rfl, rfl, rfl⟩
theorem keep_trans {a b c : List (Vn × Gv)} (h : keepV a b) (k : keepV b c) : keepV a c := fun j hj => by
  obtain ⟨h1, h2, h3, h4⟩ := h j hj
  obtain ⟨k1, k2, k3, k4⟩ := k j h1
  exact ⟨k1, k2.trans h2, k3.trans h3, k4.trans h4⟩
theorem keep_app (l : List (Vn × Gv)) (x : Vn × Gv) : keepV l (l ++ [x]) := fun j hj => by
  have e : (l ++ [x]).getD j vg0 = l.getD j vg0 := by simp [List.getD, List.getElem?_append_left hj]
  rw [e]
  exact ⟨by simp; omega, rfl, rfl, rfl⟩
/-- what is behind a call, of whatever list -/
theorem act_keep (s : Sh) (c : Ca) : keepV s.l (act s c).2.2 ∧ ((act s c).2.2.length = s.l.length ∨ ∃ x : Vn × Gv, groveF x.2 = 0 ∧ (act s c).2.2 = s.l ++ [x]) := by
  unfold act
  by_cases w1 : c.what = 1
  · rw [if_pos w1]
    by_cases d : (decF c.bys).2 ≠ 0
    · rw [if_pos d]; exact ⟨keep_refl _, .inl rfl⟩
    · rw [if_neg d]
      by_cases m : many s c.name = 0 ∧ 8 ≤ names s
      · rw [if_pos m]; exact ⟨keep_refl _, .inl rfl⟩
      · rw [if_neg m]
        exact ⟨keep_app _ _, .inr ⟨_, dec_good (by omega), rfl⟩⟩
  · rw [if_neg w1]
    cases verN s c.name c.num with
    | none => exact ⟨keep_refl _, .inl rfl⟩
    | some k =>
      simp only
      by_cases w2 : c.what = 2
      · rw [if_pos w2]
        repeat' split
        all_goals first
          | exact ⟨keep_refl _, .inl rfl⟩
          | exact ⟨keep_setV _ _ _ _, .inl (len_setV _ _ _ _)⟩
      · rw [if_neg w2]
        have tw : ∀ o, (setV (setS s.l o 4) k 3 0).length = s.l.length := fun o => by rw [len_setV]; unfold setS; rw [List.length_modify]
        by_cases w3 : c.what = 3
        · rw [if_pos w3]
          split
          · exact ⟨keep_refl _, .inl rfl⟩
          · cases atN s c.name 3 with
            | none => exact ⟨keep_setV _ _ _ _, .inl (len_setV _ _ _ _)⟩
            | some o => exact ⟨keep_trans (keep_setS _ _ _) (keep_setV _ _ _ _), .inl (tw o)⟩
        · rw [if_neg w3]
          split
          · exact ⟨keep_refl _, .inl rfl⟩
          · exact ⟨keep_setV _ _ _ _, .inl (len_setV _ _ _ _)⟩
theorem do_list (s : Sh) (c : Ca) : (shDo s c).2.2.l = s.l ∨ (shDo s c).2.2.l = (act s c).2.2 := by
  unfold shDo
  by_cases f : callF c ≠ 0
  · rw [if_pos f]; exact .inl rfl
  · rw [if_neg f]
    cases lastN s c.ses with
    | none => exact .inr rfl
    | some k =>
      simp only
      repeat' split
      all_goals first
        | exact .inl rfl
        | exact .inr rfl
theorem do_keep (s : Sh) (c : Ca) : keepV s.l (shDo s c).2.2.l := by
  rcases do_list s c with e | e
  · rw [e]; exact keep_refl _
  · rw [e]; exact (act_keep s c).1
theorem gg_do {s : Sh} (h : GG s) (c : Ca) : GG (shDo s c).2.2 := by
  intro k hk
  by_cases q : k < s.l.length
  · rw [(do_keep s c k q).2.2.2]; exact h k q
  · rcases do_list s c with e | e
    · rw [e] at hk; exact absurd hk q
    · rw [e] at hk ⊢
      rcases (act_keep s c).2 with e2 | ⟨x, h1, e2⟩
      · rw [e2] at hk; exact absurd hk q
      · rw [e2] at hk ⊢
        have ek : k = s.l.length := by simp at hk; omega
        rw [ek]
        simp [List.getD]
        exact h1
/-- who is picked is there, and has a stage that is not 4 -/
theorem pick_is {S : Sh} {n : List Nat} {key : Int} {k : Nat} (h : pickO S n key = some k) : k < S.l.length ∧ (vAt S k).name = n ∧ (vAt S k).stage ≠ 4 := by
  have key1 : ∀ st : Int, (st = 2 ∨ st = 3) → ∀ j, atN S n st = some j → j < S.l.length ∧ (vAt S j).name = n ∧ (vAt S j).stage ≠ 4 := fun st hs j hj => by
    obtain ⟨a, b, c⟩ := at_is hj
    refine ⟨a, b, ?_⟩
    have c' : (vAt S j).stage = st := c
    omega
  unfold pickO at h
  cases e : atN S n 2 with
  | none => rw [e] at h; exact key1 3 (.inr rfl) k h
  | some c =>
    rw [e] at h
    simp only at h
    split at h
    · cases h; exact key1 2 (.inl rfl) _ e
    · exact key1 3 (.inr rfl) k h
/-- a grove of a version -/
def grvO (S : Sh) (o : Option Nat) : Gv := match o with
  | none => (0, 0, [], [])
  | some k => (S.l.getD k vg0).2
/-- what is wrong with a question, what is told: the value and the version's number -/
def scF (S : Sh) (i : Int) (n : List Nat) (r : List Int) (key tok : Int) : Int :=
  if timeB tok = false then 1 else if i < tok then 6 else if pickF S n key ≠ 0 then pickF S n key else standF (grvO S (pickO S n key)) r
def scV (S : Sh) (i : Int) (n : List Nat) (r : List Int) (key tok : Int) : Int × Int × Int :=
  if scF S i n r key tok ≠ 0 then (0, 0, 0) else (evalG (grvO S (pickO S n key)) r, (pickV S n key).num, i)
/-- what is kept: behind a version that was asked for -/
def kpK {α : Type} (same : α → Bool) (l : List α) (x : α) : List α := (if (l.filter fun y => !same y).length = 4 then (l.filter fun y => !same y).drop 1 else l.filter fun y => !same y) ++ [x]
theorem kpK_le {α : Type} (same : α → Bool) (l : List α) (x : α) (h : l.length ≤ 4) : (kpK same l x).length ≤ 4 := by
  have := List.length_filter_le (fun y => !same y) l
  unfold kpK
  split
  · rw [List.length_append, List.length_drop]; simp; omega
  · rw [List.length_append]; simp; omega
theorem kpK_mem {α : Type} {same : α → Bool} {l : List α} {x y : α} (h : y ∈ kpK same l x) : y ∈ l ∨ y = x := by
  unfold kpK at h
  rcases List.mem_append.1 h with z | z
  · left
    split at z
    · exact (List.mem_filter.1 (List.mem_of_mem_drop z)).1
    · exact (List.mem_filter.1 z).1
  · right
    simpa using z
end Go.Proofs.YtiggkjkjfnlfkaaGreatDoor.M
