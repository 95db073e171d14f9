/-
  What the reference's Left, Leaf, Floor, Each and Together answer, as one text (a claim has at most 60 files).
-/
import Derived.Test.YtandimbpealclacDoorRefDepth
import Derived.Test.YtandimbpealclacDoorMathX
import Derived.Deep.AppendLies
import Derived.Deep.Cut
import Derived.Deep.CutRange
import Derived.Deep.RegionWith
import Derived.Test.YtandimbpealclacDoorGroves
import Derived.Test.YtandimbpealclacDoorRefGrove
namespace Go.Proofs.YtandimbpealclacDoor
open Go.ChangeShapes Go.WideShapes Go.ChangeAt Go.RowKit
set_option linter.unusedVariables false

theorem left_any (n : M.Nd) (c : Int) (w : World) : Calls Tryd.prog 59 #[ndV n, .int .i64 c] w fun e w' => e = .returned (.bool (M.lessC n c)) ∧ Below w.heap.size w w' := by
  have C := hide (none_any c)
  by_cases h : c = M.nilI
  · have E : Hid (M.ns n = M.lessC n c) := by unfold Hid M.lessC; rw [if_pos h]
    rw [decide_eq_true h] at C
    unfold ndV
    clear h
    generalize M.lessC n c = o at *
    generalize M.nf n = f at *
    generalize M.nc n = cc at *
    generalize M.nl n = l at *
    generalize M.nr n = r at *
    generalize M.ns n = s at *
    generalize M.nv n = v at *
    go_enter Tryd.func59, Tryd.ntmps59
    go_wp2_with (go_at_call 58; refine (C.out _).mono ?_; rintro e w1 ⟨rfl, rfl⟩)
    go_ret
    exact ⟨ret_bool E.out, (Below.refl _ _).alloc (Nat.le_refl _) _⟩
  · have E : Hid (decide (c < M.nc n) = M.lessC n c) := by unfold Hid M.lessC; rw [if_neg h]
    rw [decide_eq_false h] at C
    unfold ndV
    clear h
    generalize M.lessC n c = o at *
    generalize M.nf n = f at *
    generalize M.nc n = cc at *
    generalize M.nl n = l at *
    generalize M.nr n = r at *
    generalize M.ns n = s at *
    generalize M.nv n = v at *
    go_enter Tryd.func59, Tryd.ntmps59
    go_wp2_with (go_at_call 58; refine (C.out _).mono ?_; rintro e w1 ⟨rfl, rfl⟩)
    go_ret
    exact ⟨ret_bool E.out, (Below.refl _ _).alloc (Nat.le_refl _) _⟩

end Go.Proofs.YtandimbpealclacDoor

namespace Go.Proofs.YtandimbpealclacDoor
open Go.ChangeShapes Go.WideShapes Go.ChangeAt Go.RowKit
set_option linter.unusedVariables false

set_option maxHeartbeats 4000000 in
set_option maxRecDepth 10000 in
theorem rway_any (a0 b0 : Option Addr) (ts : List M.Nd) (xs : List Int) (ca cb : Nat) (w : World) (ht : RdN w a0 ts) (hr : Rd w b0 xs) (h0 : M.readyF ts xs = 0) :
    Calls Tryd.prog 33 #[.slice a0 ts.length ca, .slice b0 xs.length cb] w fun e w' => ∃ ag cg, e = .returned (.tuple #[.int .i64 (M.leafV ts xs : Nat), .slice ag (M.pathV ts xs).length cg]) ∧ Rd w' ag (M.pathV ts xs) ∧ Below w.heap.size w w' := by
  have hm : ts.length ≤ 9223372036854775807 := ht.1
  have hm2 : xs.length ≤ 9223372036854775807 := hr.1
  obtain ⟨F, _⟩ := M.tree_ok (M.ready_ok h0).2
  have EV : Hid (M.leafV ts xs = M.toD ts xs 0) := by unfold Hid M.leafV; rw [if_pos h0]
  have PV : Hid (M.pathV ts xs = (M.way ts xs 0).map Int.ofNat) := by unfold Hid M.pathV; rw [if_pos h0]
  have W0 := hide (M.way_ne F.2.2.2.2.1 xs F.2.1)
  have FN := hide F.2.2.2.2.1
  have l0 := F.2.1
  have l63 := F.1
  have HT := hide ht
  have HX := hide hr
  obtain ⟨i0, hi, hz0, hz1, hz2⟩ := info_parts info3
  have I0 := hide hi
  have O0 : Hid ((w.alloc (.cells #[.int .i64 0] 3)).ownsRow w.heap.size 3 1 (.slice (some ⟨w.heap.size, 0, none⟩) 1 1) 1 ([(0 : Int)].map (Value.int .i64))) := by
    have := World.ownsRow_lit (base := w.heap.size) (e := 3) (size := 1) w #[.int .i64 0] 1 (Nat.le_refl _) (by unfold maxLen; omega) (by simp)
    exact this
  clear F ht hr h0 hi
  generalize M.leafV ts xs = o at *
  generalize M.pathV ts xs = P at *
  go_enter Tryd.func33, Tryd.ntmps33
  go_wp2
  go_loopw [6, 7] (fun i v wr => ∃ (k : Nat) (L : List Int), k < ts.length ∧ L.length ≤ k + 1 ∧ i = .int .i64 k ∧ wr.ownsRow w.heap.size 3 1 v L.length (L.map (Value.int .i64)) ∧ Below w.heap.size w wr ∧ Hid (M.toD ts xs k = M.toD ts xs 0) ∧ Hid (L ++ ((M.way ts xs k).map Int.ofNat).drop 1 = (M.way ts xs 0).map Int.ofNat)) (fun i _ _ => ts.length - (intOf i).toNat)
  case atStart => exact ⟨0, [0], l0, by simp, rfl, O0.out, (Below.refl _ w).alloc (Nat.le_refl _) _, rfl, by
    obtain ⟨l, e⟩ := W0.out
    unfold Hid
    rw [e]; simp⟩
  case round =>
    clear O0
    obtain ⟨k, L, hlt, hL, rfl, hown, hbl, I, J⟩ := hrel
    obtain ⟨va, vc, rfl, RV, _⟩ := own_rd hown
    have HO := hide hown
    have HV := hide RV
    clear hown RV
    obtain ⟨b1, off, rfl, hb1, hc⟩ := HT.out.2 (by intro e; subst e; simp at hlt)
    obtain ⟨s0, s1, s2, s3, s4, s5⟩ := (hc k hlt).below hbl hb1
    have NS : Hid (∀ W, Below wr.heap.size wr W → SixAt W b1 (off + k * 6) (M.nAt ts k)) := fun W hW => (hc k hlt).below (below_on hbl hW) hb1
    by_cases hf : M.nf (M.nAt ts k) = -1
    · have q : (M.nf (M.nAt ts k) != -1) = false := by rw [bne_eq_false_iff_eq]; exact hf
      have E : Hid (k = o) := by unfold Hid; rw [EV.out, ← I.out, M.to_leaf hlt hf]
      have EP : Hid (P = L) := by unfold Hid; rw [PV.out, ← J.out, M.way_leaf hlt hf]; simp
      clear hc hf NS
      generalize M.nf (M.nAt ts k) = f at *
      go_wp2
      go_ret2
      exact ⟨va, vc, by rw [E.out, EP.out]; rfl, by rw [EP.out]; exact HV.out, hbl⟩
    · have q : (M.nf (M.nAt ts k) != -1) = true := by rw [bne_iff_ne]; exact hf
      have g0 := (M.node_ask (FN.out k hlt) hf).1
      have g1 := (M.node_ask (FN.out k hlt) hf).2.1
      obtain ⟨fi, hfi⟩ : ∃ fi : Nat, M.nf (M.nAt ts k) = fi := ⟨(M.nf (M.nAt ts k)).toNat, by omega⟩
      have hfl : fi < xs.length := by omega
      obtain ⟨bx, ox, rfl, hbx, hcx⟩ := HX.out.2 (by intro e; subst e; simp at hfl)
      have hx := (hbl.cell (p := ⟨bx, ox + fi, none⟩) hbx).trans (hcx fi hfl)
      have CL := hide (left_any (M.nAt ts k) (xs.getD fi 0))
      obtain ⟨j, ej, j1, j2⟩ := M.next_in FN.out xs hlt hf
      have N : Hid (M.toD ts xs j = M.toD ts xs 0) := by unfold Hid; rw [← M.to_next FN.out hlt hf ej]; exact I.out
      have NJ : Hid ((L ++ [(j : Int)]) ++ ((M.way ts xs j).map Int.ofNat).drop 1 = (M.way ts xs 0).map Int.ofNat) := by
        unfold Hid
        rw [← J.out, M.way_next FN.out hlt hf ej]
        obtain ⟨l, e⟩ := M.way_ne FN.out xs j2
        rw [e]; simp
      have NX : Hid ((if M.lessC (M.nAt ts k) (xs.getD fi 0) = true then M.nl (M.nAt ts k) else M.nr (M.nAt ts k)) = (j : Int)) := by
        unfold Hid; rw [← ej]; unfold M.nextI; rw [hfi, Int.toNat_natCast]
      rw [hfi] at s0 q
      unfold ndV at CL
      rw [hfi] at CL
      unfold SixAt at NS
      rw [hfi] at NS
      clear hc hf g0 g1 ej hcx hfi
      generalize M.lessC (M.nAt ts k) (xs.getD fi 0) = bb at *
      generalize xs.getD fi 0 = x at *
      generalize M.nc (M.nAt ts k) = c at *
      generalize M.nl (M.nAt ts k) = l at *
      generalize M.nr (M.nAt ts k) = r at *
      generalize M.ns (M.nAt ts k) = sl at *
      generalize M.nv (M.nAt ts k) = v at *
      go_upto_region 4 with fail
      go_cut [8] from 16 to 28 (fun u wx => u = .bool bb ∧ Hid (Below wr.heap.size wr wx))
      case first =>
        go_region_with (go_at_call 59; refine (CL.out _).mono ?_; rintro e w1 ⟨rfl, hb1⟩)
        all_goals go_wp2
        all_goals go_meet
        all_goals (case rel => exact ⟨rfl, (Below.refl wr.heap.size wr).drew.trans hb1⟩)
      case rest =>
        obtain ⟨rfl, K⟩ := hcut
        obtain ⟨z0, z1, z2, z3, z4, z5⟩ := NS.out wc K.out
        have k4 := below_on hbl K.out
        have kw4 := k4.size
        clear NS CL
        cases bb with
        | true =>
          have e : l = (j : Int) := by have := NX.out; simpa using this
          rw [e] at z2
          clear e NX
          go_wp2_with (at_builtin; refine wpList_append_lies _ rfl (.tmp 40) (.tmp 42) 23 rfl w.heap.size 3 i0 (.int .i64 0) 1 8 Tryd.underlying23 I0.out hz0 hz1 hz2 rfl (by omega) (.slice va L.length vc) L.length (L.map (Value.int .i64)) rfl ((own_up HO.out K.out).alloc _) ⟨wc.heap.size, 0, none⟩ 1 1 [.int .i64 (j : Int)] rfl rfl (World.news_of_block (heap_alloc_new _ _)) (by simp [Value.oneCell']) (by omega) (by unfold maxLen; omega) (by omega) (by simp; omega) (wc.heap.size + 1) (by simp) ?_)
          intro g cap w5 hov5 hgrow hat hlt5
          have hb5 : Below w.heap.size w w5 := (k4.alloc k4.size _).grown hgrow (by simp; omega) (fun k hk => (HO.out.lt k hk).1)
          have HO5 : Hid (w5.ownsRow w.heap.size 3 1 (.slice (some ⟨g, 0, none⟩) (L.length + 1) cap) (L ++ [(j : Int)]).length ((L ++ [(j : Int)]).map (Value.int .i64))) := by
            unfold Hid; rw [List.map_append, List.length_append]; exact hov5
          clear hov5 hgrow hat
          go_wp2
          go_roundw
          case rel => exact ⟨j, L ++ [(j : Int)], j2, by simp; omega, rfl, HO5.out, hb5, N, NJ⟩
          case measure => simp [intOf]; omega
        | false =>
          have e : r = (j : Int) := by have := NX.out; simpa using this
          rw [e] at z3
          clear e NX
          go_wp2_with (at_builtin; refine wpList_append_lies _ rfl (.tmp 40) (.tmp 42) 23 rfl w.heap.size 3 i0 (.int .i64 0) 1 8 Tryd.underlying23 I0.out hz0 hz1 hz2 rfl (by omega) (.slice va L.length vc) L.length (L.map (Value.int .i64)) rfl ((own_up HO.out K.out).alloc _) ⟨wc.heap.size, 0, none⟩ 1 1 [.int .i64 (j : Int)] rfl rfl (World.news_of_block (heap_alloc_new _ _)) (by simp [Value.oneCell']) (by omega) (by unfold maxLen; omega) (by omega) (by simp; omega) (wc.heap.size + 1) (by simp) ?_)
          intro g cap w5 hov5 hgrow hat hlt5
          have hb5 : Below w.heap.size w w5 := (k4.alloc k4.size _).grown hgrow (by simp; omega) (fun k hk => (HO.out.lt k hk).1)
          have HO5 : Hid (w5.ownsRow w.heap.size 3 1 (.slice (some ⟨g, 0, none⟩) (L.length + 1) cap) (L ++ [(j : Int)]).length ((L ++ [(j : Int)]).map (Value.int .i64))) := by
            unfold Hid; rw [List.map_append, List.length_append]; exact hov5
          clear hov5 hgrow hat
          go_wp2
          go_roundw
          case rel => exact ⟨j, L ++ [(j : Int)], j2, by simp; omega, rfl, HO5.out, hb5, N, NJ⟩
          case measure => simp [intOf]; omega

end Go.Proofs.YtandimbpealclacDoor

namespace Go.Proofs.YtandimbpealclacDoor
open Go.ChangeShapes Go.WideShapes Go.ChangeAt Go.RowKit Go.Lib
set_option linter.unusedVariables false

theorem rfloor_any (a b : Int) (w : World) (hb : 0 < b) (hb2 : b ≤ 9007199254740992) (ha : -9007199254740992 ≤ a) (ha2 : a ≤ 9007199254740992) :
    Calls Tryd.prog 34 #[.int .i64 a, .int .i64 b] w fun e w' => e = .returned (.int .i64 (a / b)) ∧ w' = w := by
  have D := hide (M.floor_eq a b hb)
  by_cases h : a < 0
  · obtain ⟨q1, q2⟩ := M.ediv_bd (b - 1 - a) b 18014398509481984 hb (by omega) (by omega) (by omega)
    go_enter Tryd.func34, Tryd.ntmps34
    go_wp2
    go_ret
    exact ⟨ret_int (by rw [← D.out, if_pos h]), rfl⟩
  · go_enter Tryd.func34, Tryd.ntmps34
    go_wp2
    go_ret
    exact ⟨ret_int rfl, rfl⟩

end Go.Proofs.YtandimbpealclacDoor

namespace Go.Proofs.YtandimbpealclacDoor
open Go.ChangeShapes Go.WideShapes Go.ChangeAt Go.RowKit Go.Lib
set_option linter.unusedVariables false

theorem M.eval_nv {t : List M.Nd} {r : List Int} (h : M.readyF t r = 0) : M.evalV t r = M.nv (M.nAt t (M.leafV t r)) := by
  unfold M.evalV M.leafV; rw [if_pos h, if_pos h]
theorem M.leafV_leaf2 {t : List M.Nd} {r : List Int} (h : M.readyF t r = 0) : M.leafV t r < t.length := by
  unfold M.leafV; rw [if_pos h]; exact (M.leafV_leaf' h).1
theorem M.each_snoc (g : M.Gv) (r : List Int) {k : Nat} (hk : k < (M.gt g).length) : (M.eachL g r).take (k + 1) = (M.eachL g r).take k ++ [M.evalV ((M.gt g).getD k []) r] := by
  have hl : k < (M.eachL g r).length := by rw [M.each_len]; exact hk
  rw [List.take_add_one, List.getElem?_eq_getElem hl, ← M.each_at g r hk, M.getD_at hl]; rfl

set_option maxHeartbeats 8000000 in
set_option maxRecDepth 10000 in
theorem reachg_any (G : Gr) (b : Option Addr) (xs : List Int) (cb : Nat) (w : World) (h : RdG w G) (hr : Rd w b xs) (h0 : M.standF G.m xs = 0) :
    Calls Tryd.prog 13 #[G.v, .slice b xs.length cb] w fun e w' => ∃ ag cg, e = .returned (.slice ag (M.eachL G.m xs).length cg) ∧ Rd w' ag (M.eachL G.m xs) ∧ Below w.heap.size w w' := by
  obtain ⟨Gd, _, _⟩ := M.stand_ok h0
  have tlen : (M.gt G.m).length = G.ks.length := tl_len G.ks
  have n12 : G.ks.length ≤ 12 := by rw [← tlen]; exact Gd.t12
  have HG := hide h
  have CL := hide (fun a ts ca W (hW : Below w.heap.size w W) (ha : RdN W a ts) (hz : M.readyF ts xs = 0) => rway_any a b ts xs ca cb W ha (hr.below hW) hz)
  have SN : Hid (∀ k (hk : k < G.ks.length), (M.eachL G.m xs).take (k + 1) = (M.eachL G.m xs).take k ++ [M.evalV G.ks[k].2.1 xs] ∧ M.readyF G.ks[k].2.1 xs = 0) := fun k hk => by
    have e : (M.gt G.m).getD k [] = G.ks[k].2.1 := tl_at G.ks hk
    rw [M.each_snoc G.m xs (by rw [tlen]; exact hk), e]
    refine ⟨rfl, M.stand_ready h0 ?_⟩
    rw [← e, M.getD_at (by rw [tlen]; exact hk)]
    exact List.getElem_mem _
  have EN : Hid ((M.eachL G.m xs).length = G.ks.length) := by unfold Hid; rw [M.each_len, tlen]
  obtain ⟨gO, hgO⟩ : ∃ o : Obj, o = .cells #[.int .i64 G.f, .int .i64 G.w, .slice G.wa G.ws.length G.wc, .slice G.ta G.ks.length G.tc] 38 := ⟨_, rfl⟩
  have KG : Hid (∀ W, Below (w.heap.size + 1) (w.alloc gO) W → Below w.heap.size w W ∧ W.cell? ⟨w.heap.size, 3, none⟩ = some (.slice G.ta G.ks.length G.tc)) := fun W hW => by
    have e : (w.alloc gO).heap.size = w.heap.size + 1 := by simp
    rw [← e] at hW
    refine ⟨below_on ((Below.refl _ w).alloc (Nat.le_refl _) gO) hW, ?_⟩
    rw [hgO] at hW
    exact (kept_grove hW).2.2.2
  rw [hgO] at KG
  obtain ⟨i0, hi, hz0, hz1, hz2⟩ := info_parts info3
  have I0 := hide hi
  unfold Gr.v
  clear h hr h0 Gd tlen hgO hi
  generalize M.eachL G.m xs = EL at *
  go_enter Tryd.func13, Tryd.ntmps13
  go_wp2
  go_loopw [5, 6] (fun v i wr => ∃ (k : Nat) (X : List Int), k ≤ G.ks.length ∧ i = .int .i64 k ∧ Hid (X = EL.take k) ∧ Hid (X.length = k) ∧ wr.ownsRow (w.heap.size + 1) 3 1 v X.length (X.map (Value.int .i64)) ∧ Hid (Below (w.heap.size + 1) (w.alloc (.cells #[.int .i64 G.f, .int .i64 G.w, .slice G.wa G.ws.length G.wc, .slice G.ta G.ks.length G.tc] 38)) wr)) (fun _ i _ => G.ks.length - (intOf i).toNat)
  case atStart => exact ⟨0, [], Nat.zero_le _, rfl, rfl, rfl, World.ownsRow_nil _ _ _ _, Below.refl _ _⟩
  case round =>
    obtain ⟨k, X, hk, rfl, HX, hXl, hown, K⟩ := hrel
    obtain ⟨kw, c3⟩ := KG.out wr K.out
    have kks : w.heap.size + 1 ≤ wr.heap.size := by have := K.out.size; simpa using this
    by_cases hlt : k < G.ks.length
    · have hT := (HG.out.below kw).2
      obtain ⟨bt, ot, eta, hbt, hct⟩ := hT.2.2 (by intro e; rw [e] at hlt; simp at hlt)
      have rk := hT.2.1 _ (List.getElem_mem hlt)
      have ct := hct k hlt
      unfold tV at ct
      obtain ⟨sn, hz⟩ := SN.out k hlt
      have C1 := hide (CL.out _ _ G.ks[k].2.2 wr kw rk hz)
      have lv := M.leafV_leaf2 hz
      have N : Hid (X ++ [M.evalV G.ks[k].2.1 xs] = EL.take (k + 1)) := by unfold Hid; rw [HX.out, sn]
      rw [M.eval_nv hz] at N
      obtain ⟨b1, off, e1, hb1, hc⟩ := rk.2 (by intro e; rw [e] at lv; simp at lv)
      have s5 := (hc _ lv).2.2.2.2.2
      have kz : (k : Int) < (G.ks.length : Int) := by omega
      have lz : ((M.leafV G.ks[k].2.1 xs : Nat) : Int) < (G.ks[k].2.1.length : Int) := by omega
      obtain ⟨va, vc, rfl, RV, _⟩ := own_rd hown
      have HO := hide hown
      rw [eta] at c3
      rw [e1] at ct C1
      have UP : Hid (∀ W, Below wr.heap.size wr W → W.cell? ⟨w.heap.size, 3, none⟩ = some (.slice (some ⟨bt, ot, none⟩) G.ks.length G.tc) ∧ W.cell? ⟨bt, ot + k, none⟩ = some (.slice (some ⟨b1, off, none⟩) G.ks[k].2.1.length G.ks[k].2.2) ∧ W.cell? ⟨b1, off + M.leafV G.ks[k].2.1 xs * 6 + 5, none⟩ = some (.int .i64 (M.nv (M.nAt G.ks[k].2.1 (M.leafV G.ks[k].2.1 xs))))) := fun W hW => by
        refine ⟨?_, (hW.cell (p := ⟨bt, ot + k, none⟩) hbt).trans ct, (hW.cell (p := ⟨b1, off + M.leafV G.ks[k].2.1 xs * 6 + 5, none⟩) hb1).trans s5⟩
        have := (KG.out W (K.out.trans (hW.mono kks))).2
        rw [eta] at this
        exact this
      have k63 : X.length ≤ 12 := by have := hXl.out; omega
      clear hT hct rk sn hz lv hc s5 RV hown CL SN eta e1
      generalize M.nv (M.nAt G.ks[k].2.1 (M.leafV G.ks[k].2.1 xs)) = z at *
      generalize M.leafV G.ks[k].2.1 xs = lf at *
      generalize M.pathV G.ks[k].2.1 xs = pv at *
      generalize G.ks[k].2.1.length = tn at *
      generalize G.ks[k].2.2 = tcc at *
      go_wp2_with (first
        | (go_at_call 33; refine C1.out.mono ?_; rintro e w1 ⟨ag, cg, rfl, hrd, hb1'⟩; have u := UP.out w1 hb1'; have y0 := u.1; have y1 := u.2.1; have y2 := u.2.2; have g1 := K.out.trans (hb1'.mono kks); have kk1 : w.heap.size + 1 ≤ w1.heap.size := Nat.le_trans kks hb1'.size; have HO1 := hide (own_up HO.out hb1'); clear u hrd)
        | (at_builtin; refine wpList_append_lies _ rfl (.tmp 26) (.tmp 36) 23 rfl (w.heap.size + 1) 3 i0 (.int .i64 0) 1 8 Tryd.underlying23 I0.out hz0 hz1 hz2 rfl (by omega) (.slice va X.length vc) X.length (X.map (Value.int .i64)) rfl (HO1.out.alloc _) ⟨w1.heap.size, 0, none⟩ 1 1 [.int .i64 z] rfl rfl (World.news_of_block (heap_alloc_new _ _)) (by simp [Value.oneCell']) (by omega) (by unfold maxLen; omega) (by omega) (by simp; omega) (w1.heap.size + 1) (by simp) ?_))
      intro g cap w5 hov5 hgrow hat hlt5
      have hb5 : Below (w.heap.size + 1) (w.alloc (.cells #[.int .i64 G.f, .int .i64 G.w, .slice G.wa G.ws.length G.wc, .slice G.ta G.ks.length G.tc] 38)) w5 := (g1.alloc kk1 _).grown hgrow (by simp; omega) (fun k hk => (HO1.out.lt k hk).1)
      have HO5 : Hid (w5.ownsRow (w.heap.size + 1) 3 1 (.slice (some ⟨g, 0, none⟩) (X.length + 1) cap) (X ++ [z]).length ((X ++ [z]).map (Value.int .i64))) := by
        unfold Hid; rw [List.map_append, List.length_append]; exact hov5
      have HB5 := hide hb5
      clear hov5 hgrow hat hb5
      go_wp2
      go_roundw
      case rel => exact ⟨k + 1, X ++ [z], by omega, by go_num, N, by unfold Hid; rw [List.length_append, hXl.out]; rfl, HO5.out, HB5⟩
      case measure => simp [intOf]; omega
    · have E : Hid (X = EL) := by
        unfold Hid
        rw [HX.out, List.take_of_length_le (by rw [EN.out]; omega)]
      obtain ⟨va, vc, rfl, RV, _⟩ := own_rd hown
      have HR := hide RV
      clear RV hown CL SN
      go_wp2
      go_ret
      exact ⟨va, vc, by rw [E.out]; rfl, by rw [← E.out]; exact HR.out, kw⟩

end Go.Proofs.YtandimbpealclacDoor

namespace Go.Proofs.YtandimbpealclacDoor
open Go.ChangeShapes Go.WideShapes Go.ChangeAt Go.RowKit Go.Lib
set_option linter.unusedVariables false

theorem wrap_in4 (x : Int) (h1 : -9223372036854775808 ≤ x) (h2 : x ≤ 9223372036854775807) : IntKind.i64.wrap x = x := by
  simp [IntKind.wrap, IntKind.bits, IntKind.signed]
  split <;> omega
theorem M.prod_bound {a b : Int} (h1 : -1000000 ≤ a) (h2 : a ≤ 1000000) (h3 : 1 ≤ b) (h4 : b ≤ 1000) : -1000000000 ≤ a * b ∧ a * b ≤ 1000000000 := by
  have q1 : a * b ≤ 1000000 * b := Int.mul_le_mul_of_nonneg_right h2 (by omega)
  have q2 : -1000000 * b ≤ a * b := Int.mul_le_mul_of_nonneg_right h1 (by omega)
  omega

set_option maxHeartbeats 16000000 in
set_option maxRecDepth 10000 in
theorem rtog_any (G : Gr) (b : Option Addr) (l : List Int) (cb : Nat) (w : World) (h : RdG w G) (hr : Rd w b l) (Gd : M.Good G.m) (hl : l.length = G.ks.length) (hv : ∀ i, i < l.length → -1000000 ≤ l.getD i 0 ∧ l.getD i 0 ≤ 1000000) :
    Calls Tryd.prog 14 #[G.v, .slice b l.length cb] w fun e w' => e = .returned (.int .i64 (M.together G.w G.ws l)) ∧ Below w.heap.size w w' := by
  have tlen : (M.gt G.m).length = G.ks.length := tl_len G.ks
  have n12 : l.length ≤ 12 := by rw [hl, ← tlen]; exact Gd.t12
  have n0 : 0 < l.length := by rw [hl, ← tlen]; exact Gd.t0
  have wl : G.ws.length = l.length := by rw [hl, ← tlen]; exact Gd.len
  have wa : ∀ i, i < l.length → 1 ≤ G.ws.getD i 0 ∧ G.ws.getD i 0 ≤ 1000 := fun i hi => M.wt_at Gd (by rw [tlen, ← hl]; exact hi)
  have SB : Hid (∀ k, k ≤ l.length → -12000000000 ≤ M.sumK l G.ws k ∧ M.sumK l G.ws k ≤ 12000000000) := fun k hk => by
    have := M.sum_bound (l := l) (ws := G.ws) k (fun i hi => ⟨(hv i (by omega)).1, (hv i (by omega)).2, (wa i (by omega)).1, (wa i (by omega)).2⟩)
    omega
  have AB : Hid (∀ k, k ≤ l.length → (k : Int) ≤ M.allK G.ws k ∧ M.allK G.ws k ≤ 12000) := fun k hk => by
    have := M.all_pos (ws := G.ws) k (fun i hi => wa i (by omega))
    omega
  have VB : Hid (∀ v k, k ≤ l.length → 0 ≤ M.votK l G.ws v k ∧ M.votK l G.ws v k ≤ 12000) := fun v k hk => by
    have := M.vot_bound (l := l) (ws := G.ws) v k (fun i hi => wa i (by omega))
    omega
  have HV := hide hv
  have WA := hide wa
  have HL : Hid (∀ W, Below w.heap.size w W → ∃ bl ol, b = some ⟨bl, ol, none⟩ ∧ bl < W.heap.size ∧ ∀ i, i < l.length → W.cell? ⟨bl, ol + i, none⟩ = some (.int .i64 (l.getD i 0))) := fun W hW => (hr.below hW).2 (by intro e; rw [e] at n0; simp at n0)
  have HW : Hid (∀ W, Below w.heap.size w W → ∃ bw ow, G.wa = some ⟨bw, ow, none⟩ ∧ bw < W.heap.size ∧ ∀ i, i < l.length → W.cell? ⟨bw, ow + i, none⟩ = some (.int .i64 (G.ws.getD i 0))) := fun W hW => by
    obtain ⟨bw, ow, e, h1, h2⟩ := (h.1.below hW).2 (by intro e; rw [e] at wl; simp at wl; omega)
    exact ⟨bw, ow, e, h1, fun i hi => h2 i (by omega)⟩
  obtain ⟨bl, ol, rfl, _, _⟩ := HL.out w (Below.refl _ _)
  obtain ⟨bw, ow, ewa, _, _⟩ := HW.out w (Below.refl _ _)
  obtain ⟨gO, hgO⟩ : ∃ o : Obj, o = .cells #[.int .i64 G.f, .int .i64 G.w, .slice G.wa G.ws.length G.wc, .slice G.ta G.ks.length G.tc] 38 := ⟨_, rfl⟩
  -- all that is read, in whatever world
  have KG : Hid (∀ W, Below (w.alloc gO).heap.size (w.alloc gO) W → Below w.heap.size w W ∧ W.cell? ⟨w.heap.size, 1, none⟩ = some (.int .i64 G.w) ∧ W.cell? ⟨w.heap.size, 2, none⟩ = some (.slice (some ⟨bw, ow, none⟩) l.length G.wc) ∧ ∀ i, i < l.length → W.cell? ⟨bl, ol + i, none⟩ = some (.int .i64 (l.getD i 0)) ∧ W.cell? ⟨bw, ow + i, none⟩ = some (.int .i64 (G.ws.getD i 0))) := fun W hW => by
    have kw : Below w.heap.size w W := below_on ((Below.refl _ w).alloc (Nat.le_refl _) gO) hW
    obtain ⟨bl', ol', e1, _, h1⟩ := HL.out W kw
    obtain ⟨bw', ow', e2, _, h2⟩ := HW.out W kw
    cases e1
    rw [ewa] at e2
    cases e2
    rw [hgO] at hW
    have q := kept_grove hW
    refine ⟨kw, q.2.1, ?_, fun i hi => ⟨h1 i hi, h2 i hi⟩⟩
    rw [q.2.2.1, ewa, wl]
  rw [hgO] at KG
  have RT : Hid (M.together G.w G.ws l = if G.w = 1 then M.sumK l G.ws l.length else if G.w = 2 then M.sumK l G.ws l.length / M.allK G.ws l.length else (M.bestK l G.ws l.length).2) := rfl
  unfold Gr.v
  clear h hr Gd hl hv tlen wl wa hgO HL HW ewa
  generalize M.together G.w G.ws l = R at *
  go_enter Tryd.func14, Tryd.ntmps14
  go_wp2
  go_loopw [5, 6, 7, 8, 9] (fun s a be mo i wr => ∃ k : Nat, k ≤ l.length ∧ i = .int .i64 k ∧ s = .int .i64 (M.sumK l G.ws k) ∧ a = .int .i64 (M.allK G.ws k) ∧ be = .int .i64 (M.bestK l G.ws k).2 ∧ mo = .int .i64 (M.bestK l G.ws k).1 ∧ Hid (Below (w.alloc (.cells #[.int .i64 G.f, .int .i64 G.w, .slice G.wa G.ws.length G.wc, .slice G.ta G.ks.length G.tc] 38)).heap.size (w.alloc (.cells #[.int .i64 G.f, .int .i64 G.w, .slice G.wa G.ws.length G.wc, .slice G.ta G.ks.length G.tc] 38)) wr)) (fun _ _ _ _ i _ => l.length - (intOf i).toNat)
  case atStart => exact ⟨0, Nat.zero_le _, rfl, rfl, rfl, rfl, rfl, Below.refl _ _⟩
  case round =>
    obtain ⟨k, hk, rfl, rfl, rfl, rfl, rfl, K⟩ := hrel
    obtain ⟨kw, c1, c2, cc⟩ := KG.out _ K.out
    by_cases hlt : k < l.length
    · have kz : (k : Int) < (l.length : Int) := by omega
      obtain ⟨cl, cw⟩ := cc k hlt
      have cld : wr.drew.cell? ⟨bl, ol + k, none⟩ = some (.int .i64 (l.getD k 0)) := cl
      have cwd : wr.drew.cell? ⟨bw, ow + k, none⟩ = some (.int .i64 (G.ws.getD k 0)) := cw
      have c2d : wr.drew.cell? ⟨w.heap.size, 2, none⟩ = some (.slice (some ⟨bw, ow, none⟩) l.length G.wc) := c2
      have pb := M.prod_bound (HV.out k hlt).1 (HV.out k hlt).2 (WA.out k hlt).1 (WA.out k hlt).2
      have sb := SB.out k hk
      have ab := AB.out k hk
      have sn : Hid (M.sumK l G.ws (k + 1) = M.sumK l G.ws k + l.getD k 0 * G.ws.getD k 0) := rfl
      have an : Hid (M.allK G.ws (k + 1) = M.allK G.ws k + G.ws.getD k 0) := rfl
      have wb := WA.out k hlt
      have w1 : IntKind.i64.wrap (l.getD k 0 * G.ws.getD k 0) = l.getD k 0 * G.ws.getD k 0 := wrap_in4 _ (by omega) (by omega)
      have w2 : IntKind.i64.wrap (M.sumK l G.ws k + l.getD k 0 * G.ws.getD k 0) = M.sumK l G.ws k + l.getD k 0 * G.ws.getD k 0 := wrap_in4 _ (by omega) (by omega)
      have w3 : IntKind.i64.wrap (M.allK G.ws k + G.ws.getD k 0) = M.allK G.ws k + G.ws.getD k 0 := wrap_in4 _ (by omega) (by omega)
      clear cc pb sb ab wb
      go_upto_region 8 with fail
      go_cut [5] from 18 to 29 (fun s wx => s = .int .i64 (M.sumK l G.ws k + l.getD k 0 * G.ws.getD k 0) ∧ Hid (Below wr.heap.size wr wx))
      case first =>
        generalize M.sumK l G.ws k = S at *
        generalize l.getD k 0 = z at *
        generalize G.ws.getD k 0 = y at *
        go_region
        all_goals go_wp2
        all_goals go_meet
        all_goals (case rel => exact ⟨rfl, (Below.refl wr.heap.size wr).drew⟩)
      case rest =>
        obtain ⟨rfl, K8⟩ := hcut
        clear cld cwd c2d cl cw w1 w2 c1 c2
        have K9 := hide (below_on K.out K8.out)
        obtain ⟨kw9, c1, c2, cc⟩ := KG.out _ K9.out
        obtain ⟨cl, cw⟩ := cc k hlt
        clear cc
        have BK : Hid (M.bestK l G.ws (k + 1) = if (M.bestK l G.ws k).1 < M.votK l G.ws (l.getD k 0) l.length ∨ (M.votK l G.ws (l.getD k 0) l.length = (M.bestK l G.ws k).1 ∧ l.getD k 0 < (M.bestK l G.ws k).2) then (M.votK l G.ws (l.getD k 0) l.length, l.getD k 0) else M.bestK l G.ws k) := rfl
        have CK : Hid (∀ W, Below (w.alloc (.cells #[.int .i64 G.f, .int .i64 G.w, .slice G.wa G.ws.length G.wc, .slice G.ta G.ks.length G.tc] 38)).heap.size (w.alloc (.cells #[.int .i64 G.f, .int .i64 G.w, .slice G.wa G.ws.length G.wc, .slice G.ta G.ks.length G.tc] 38)) W → W.cell? ⟨bl, ol + k, none⟩ = some (.int .i64 (l.getD k 0))) := fun W hW => ((KG.out W hW).2.2.2 k hlt).1
        generalize l.getD k 0 = zk at *
        generalize G.ws.getD k 0 = yk at *
        generalize M.sumK l G.ws k = sK at *
        generalize M.allK G.ws k = aK at *
        go_wp2
        go_loopw [10, 11] (fun v j wx => ∃ q : Nat, q ≤ l.length ∧ j = .int .i64 q ∧ v = .int .i64 (M.votK l G.ws zk q) ∧ Hid (Below wc.heap.size wc wx)) (fun _ j _ => l.length - (intOf j).toNat)
        case atStart => exact ⟨0, Nat.zero_le _, rfl, rfl, Below.refl _ _⟩
        case round =>
          obtain ⟨q, hq, rfl, rfl, KQ⟩ := hrel
          have KX := hide (below_on K9.out KQ.out)
          clear c1 c2 cl cw
          obtain ⟨kwx, c1, c2, cc⟩ := KG.out _ KX.out
          have cl := CK.out _ KX.out
          by_cases hql : q < l.length
          · have qz : (q : Int) < (l.length : Int) := by omega
            obtain ⟨dl, dw⟩ := cc q hql
            have vb := VB.out zk q hq
            have wb := WA.out q hql
            have NV : Hid (M.votK l G.ws zk (q + 1) = M.votK l G.ws zk q + if l.getD q 0 = zk then G.ws.getD q 0 else 0) := rfl
            have w4 : IntKind.i64.wrap (M.votK l G.ws zk q + G.ws.getD q 0) = M.votK l G.ws zk q + G.ws.getD q 0 := wrap_in4 _ (by omega) (by omega)
            clear cc vb wb
            have dld : wr.drew.cell? ⟨bl, ol + q, none⟩ = some (.int .i64 (l.getD q 0)) := dl
            have cld : wr.drew.cell? ⟨bl, ol + k, none⟩ = some (.int .i64 zk) := cl
            go_upto_region 14 with fail
            go_cut [51] from 43 to 50 (fun t wx => t = .bool (l.getD q 0 == zk) ∧ Hid (Below wr.heap.size wr wx))
            case first =>
              generalize l.getD q 0 = zq at *
              go_region
              all_goals go_wp2
              all_goals go_meet
              all_goals (case rel => exact ⟨rfl, (Below.refl wr.heap.size wr).drew⟩)
            case rest =>
              obtain ⟨rfl, K14⟩ := hcut
              have KY := hide (below_on KX.out K14.out)
              have KQ2 := hide (below_on KQ.out K14.out)
              clear c1 c2 cl dl dw dld cld
              obtain ⟨kwy, c1, c2, cc⟩ := KG.out _ KY.out
              obtain ⟨dl, dw⟩ := cc q hql
              clear cc
              by_cases he : l.getD q 0 = zk
              · have qe : (l.getD q 0 == zk) = true := by rw [beq_iff_eq]; exact he
                have NN : Hid (M.votK l G.ws zk (q + 1) = M.votK l G.ws zk q + G.ws.getD q 0) := by unfold Hid; rw [NV.out, if_pos he]
                rw [qe]
                clear he NV qe dl
                generalize G.ws.getD q 0 = yq at *
                generalize M.votK l G.ws zk q = vq at *
                go_wp2
                go_roundw
                case rel => exact ⟨q + 1, by omega, by go_num, by rw [NN.out], KQ2⟩
                case measure => simp [intOf]; omega
              · have qe : (l.getD q 0 == zk) = false := by rw [beq_eq_false_iff_ne]; exact he
                have NN : Hid (M.votK l G.ws zk (q + 1) = M.votK l G.ws zk q) := by unfold Hid; rw [NV.out, if_neg he]; omega
                rw [qe]
                clear he NV qe dl w4
                generalize G.ws.getD q 0 = yq at *
                generalize M.votK l G.ws zk q = vq at *
                go_wp2
                go_roundw
                case rel => exact ⟨q + 1, by omega, by go_num, by rw [NN.out], KQ2⟩
                case measure => simp [intOf]; omega
          · have hqe : q = l.length := by omega
            have hV : M.votK l G.ws zk l.length = M.votK l G.ws zk q := by rw [hqe]
            have hp : M.bestK l G.ws k = ((M.bestK l G.ws k).1, (M.bestK l G.ws k).2) := rfl
            rw [hV, hp] at BK
            clear hV hp hqe cc
            generalize M.votK l G.ws zk q = V at *
            generalize (M.bestK l G.ws k).1 = bm at *
            generalize (M.bestK l G.ws k).2 = bb at *
            by_cases h1 : bm < V
            · have p1 : decide (bm < V) = true := decide_eq_true h1
              have BN : Hid (M.bestK l G.ws (k + 1) = (V, zk)) := by unfold Hid; rw [BK.out, if_pos (by omega)]
              clear BK
              go_wp2
              go_roundw
              case rel => exact ⟨k + 1, by omega, by go_num, by rw [sn.out], by rw [an.out], by rw [BN.out], by rw [BN.out], KX⟩
              case measure => simp [intOf]; omega
            · have p1 : decide (bm < V) = false := decide_eq_false h1
              by_cases h2 : V = bm
              · have p2 : (V == bm) = true := by rw [beq_iff_eq]; exact h2
                by_cases h3 : zk < bb
                · have p3 : decide (zk < bb) = true := decide_eq_true h3
                  have H2 := hide h2
                  have BN : Hid (M.bestK l G.ws (k + 1) = (V, zk)) := by unfold Hid; rw [BK.out, if_pos (by omega)]
                  clear h2
                  clear BK
                  go_wp2
                  go_roundw
                  case rel => exact ⟨k + 1, by omega, by go_num, by rw [sn.out], by rw [an.out], by rw [BN.out], by rw [BN.out], KX⟩
                  case measure => simp [intOf]; omega
                · have p3 : decide (zk < bb) = false := decide_eq_false h3
                  have H2 := hide h2
                  have BN : Hid (M.bestK l G.ws (k + 1) = (bm, bb)) := by unfold Hid; rw [BK.out, if_neg (by omega)]
                  clear h2
                  clear BK
                  go_wp2
                  go_roundw
                  case rel => exact ⟨k + 1, by omega, by go_num, by rw [sn.out], by rw [an.out], by rw [BN.out], by rw [BN.out], KX⟩
                  case measure => simp [intOf]; omega
              · have p2 : (V == bm) = false := by rw [beq_eq_false_iff_ne]; exact h2
                have BN : Hid (M.bestK l G.ws (k + 1) = (bm, bb)) := by unfold Hid; rw [BK.out, if_neg (by omega)]
                clear BK
                go_wp2
                go_roundw
                case rel => exact ⟨k + 1, by omega, by go_num, by rw [sn.out], by rw [an.out], by rw [BN.out], by rw [BN.out], KX⟩
                case measure => simp [intOf]; omega
    · have hke : k = l.length := by omega
      have ab := AB.out k hk
      have sb := SB.out k hk
      rw [← hke] at RT
      have k0 : 0 < k := by omega
      clear cc hke
      generalize M.sumK l G.ws k = SS at *
      generalize M.allK G.ws k = AA at *
      generalize (M.bestK l G.ws k).2 = bb at *
      generalize (M.bestK l G.ws k).1 = bm at *
      by_cases h1 : G.w = 1
      · have q1 : (G.w == 1) = true := by rw [beq_iff_eq]; exact h1
        have E : Hid (SS = R) := by unfold Hid; rw [RT.out, if_pos h1]
        clear h1 RT
        go_wp2
        go_ret
        exact ⟨ret_int E.out, kw⟩
      · have q1 : (G.w == 1) = false := by rw [beq_eq_false_iff_ne]; exact h1
        by_cases h2 : G.w = 2
        · have q2 : (G.w == 2) = true := by rw [beq_iff_eq]; exact h2
          have E : Hid (SS / AA = R) := by unfold Hid; rw [RT.out, if_neg h1, if_pos h2]
          have FL := hide (rfloor_any SS AA wr (by omega) (by omega) (by omega) (by omega))
          rw [E.out] at FL
          clear h1 h2 RT
          go_wp2_with (go_at_call 34; refine FL.out.mono ?_; rintro e w5 ⟨rfl, e5⟩; subst w5)
          go_ret
          exact ⟨rfl, kw⟩
        · have q2 : (G.w == 2) = false := by rw [beq_eq_false_iff_ne]; exact h2
          have E : Hid (bb = R) := by unfold Hid; rw [RT.out, if_neg h1, if_neg h2]
          clear h1 h2 RT
          go_wp2
          go_ret
          exact ⟨ret_int E.out, kw⟩

end Go.Proofs.YtandimbpealclacDoor
