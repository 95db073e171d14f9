/-
  What the reference's Each answers, where nothing is wrong with the grove and the row.
-/
import Derived.Test.YtandimbpealclacDoorRefGrove
import Derived.Test.YtandimbpealclacDoorRefWay
import Derived.Deep.AppendLies
namespace Go.Proofs.YtandimbpealclacDoor
open Go.ChangeShapes Go.WideShapes Go.ChangeAt Go.RowKit Go.Lib
set_option linter.unusedVariables false

theorem M.eval_nv {t : List M.Nd} {r : List Int} (h : M.readyF t r = 0) : M.evalV t r = M.nv (M.nAt t (M.leafV t r)) := by
  unfold M.evalV M.leafV; rw [if_pos h, if_pos h]
theorem M.leafV_leaf2 {t : List M.Nd} {r : List Int} (h : M.readyF t r = 0) : M.leafV t r < t.length := by
  unfold M.leafV; rw [if_pos h]; exact (M.leafV_leaf' h).1
theorem M.each_snoc (g : M.Gv) (r : List Int) {k : Nat} (hk : k < (M.gt g).length) : (M.eachL g r).take (k + 1) = (M.eachL g r).take k ++ [M.evalV ((M.gt g).getD k []) r] := by
  have hl : k < (M.eachL g r).length := by rw [M.each_len]; exact hk
  rw [List.take_add_one, List.getElem?_eq_getElem hl, ← M.each_at g r hk, M.getD_at hl]; rfl

set_option maxHeartbeats 8000000 in
set_option maxRecDepth 10000 in
theorem reachg_any (G : Gr) (b : Option Addr) (xs : List Int) (cb : Nat) (w : World) (h : RdG w G) (hr : Rd w b xs) (h0 : M.standF G.m xs = 0) :
    Calls Tryd.prog 13 #[G.v, .slice b xs.length cb] w fun e w' => ∃ ag cg, e = .returned (.slice ag (M.eachL G.m xs).length cg) ∧ Rd w' ag (M.eachL G.m xs) ∧ Below w.heap.size w w' := by
  obtain ⟨Gd, _, _⟩ := M.stand_ok h0
  have tlen : (M.gt G.m).length = G.ks.length := tl_len G.ks
  have n12 : G.ks.length ≤ 12 := by rw [← tlen]; exact Gd.t12
  have HG := hide h
  have CL := hide (fun a ts ca W (hW : Below w.heap.size w W) (ha : RdN W a ts) (hz : M.readyF ts xs = 0) => rway_any a b ts xs ca cb W ha (hr.below hW) hz)
  have SN : Hid (∀ k (hk : k < G.ks.length), (M.eachL G.m xs).take (k + 1) = (M.eachL G.m xs).take k ++ [M.evalV G.ks[k].2.1 xs] ∧ M.readyF G.ks[k].2.1 xs = 0) := fun k hk => by
    have e : (M.gt G.m).getD k [] = G.ks[k].2.1 := tl_at G.ks hk
    rw [M.each_snoc G.m xs (by rw [tlen]; exact hk), e]
    refine ⟨rfl, M.stand_ready h0 ?_⟩
    rw [← e, M.getD_at (by rw [tlen]; exact hk)]
    exact List.getElem_mem _
  have EN : Hid ((M.eachL G.m xs).length = G.ks.length) := by unfold Hid; rw [M.each_len, tlen]
  obtain ⟨gO, hgO⟩ : ∃ o : Obj, o = .cells #[.int .i64 G.f, .int .i64 G.w, .slice G.wa G.ws.length G.wc, .slice G.ta G.ks.length G.tc] 38 := ⟨_, rfl⟩
  have KG : Hid (∀ W, Below (w.heap.size + 1) (w.alloc gO) W → Below w.heap.size w W ∧ W.cell? ⟨w.heap.size, 3, none⟩ = some (.slice G.ta G.ks.length G.tc)) := fun W hW => by
    have e : (w.alloc gO).heap.size = w.heap.size + 1 := by simp
    rw [← e] at hW
    refine ⟨below_on ((Below.refl _ w).alloc (Nat.le_refl _) gO) hW, ?_⟩
    rw [hgO] at hW
    exact (kept_grove hW).2.2.2
  rw [hgO] at KG
  obtain ⟨i0, hi, hz0, hz1, hz2⟩ := info_parts info3
  have I0 := hide hi
  unfold Gr.v
  clear h hr h0 Gd tlen hgO hi
  generalize M.eachL G.m xs = EL at *
  go_enter Tryd.func13, Tryd.ntmps13
  go_wp2
  go_loopw [5, 6] (fun v i wr => ∃ (k : Nat) (X : List Int), k ≤ G.ks.length ∧ i = .int .i64 k ∧ Hid (X = EL.take k) ∧ Hid (X.length = k) ∧ wr.ownsRow (w.heap.size + 1) 3 1 v X.length (X.map (Value.int .i64)) ∧ Hid (Below (w.heap.size + 1) (w.alloc (.cells #[.int .i64 G.f, .int .i64 G.w, .slice G.wa G.ws.length G.wc, .slice G.ta G.ks.length G.tc] 38)) wr)) (fun _ i _ => G.ks.length - (intOf i).toNat)
  case atStart => exact ⟨0, [], Nat.zero_le _, rfl, rfl, rfl, World.ownsRow_nil _ _ _ _, Below.refl _ _⟩
  case round =>
    obtain ⟨k, X, hk, rfl, HX, hXl, hown, K⟩ := hrel
    obtain ⟨kw, c3⟩ := KG.out wr K.out
    have kks : w.heap.size + 1 ≤ wr.heap.size := by have := K.out.size; simpa using this
    by_cases hlt : k < G.ks.length
    · have hT := (HG.out.below kw).2
      obtain ⟨bt, ot, eta, hbt, hct⟩ := hT.2.2 (by intro e; rw [e] at hlt; simp at hlt)
      have rk := hT.2.1 _ (List.getElem_mem hlt)
      have ct := hct k hlt
      unfold tV at ct
      obtain ⟨sn, hz⟩ := SN.out k hlt
      have C1 := hide (CL.out _ _ G.ks[k].2.2 wr kw rk hz)
      have lv := M.leafV_leaf2 hz
      have N : Hid (X ++ [M.evalV G.ks[k].2.1 xs] = EL.take (k + 1)) := by unfold Hid; rw [HX.out, sn]
      rw [M.eval_nv hz] at N
      obtain ⟨b1, off, e1, hb1, hc⟩ := rk.2 (by intro e; rw [e] at lv; simp at lv)
      have s5 := (hc _ lv).2.2.2.2.2
      have kz : (k : Int) < (G.ks.length : Int) := by omega
      have lz : ((M.leafV G.ks[k].2.1 xs : Nat) : Int) < (G.ks[k].2.1.length : Int) := by omega
      obtain ⟨va, vc, rfl, RV, _⟩ := own_rd hown
      have HO := hide hown
      rw [eta] at c3
      rw [e1] at ct C1
      have UP : Hid (∀ W, Below wr.heap.size wr W → W.cell? ⟨w.heap.size, 3, none⟩ = some (.slice (some ⟨bt, ot, none⟩) G.ks.length G.tc) ∧ W.cell? ⟨bt, ot + k, none⟩ = some (.slice (some ⟨b1, off, none⟩) G.ks[k].2.1.length G.ks[k].2.2) ∧ W.cell? ⟨b1, off + M.leafV G.ks[k].2.1 xs * 6 + 5, none⟩ = some (.int .i64 (M.nv (M.nAt G.ks[k].2.1 (M.leafV G.ks[k].2.1 xs))))) := fun W hW => by
        refine ⟨?_, (hW.cell (p := ⟨bt, ot + k, none⟩) hbt).trans ct, (hW.cell (p := ⟨b1, off + M.leafV G.ks[k].2.1 xs * 6 + 5, none⟩) hb1).trans s5⟩
        have := (KG.out W (K.out.trans (hW.mono kks))).2
        rw [eta] at this
        exact this
      have k63 : X.length ≤ 12 := by have := hXl.out; omega
      clear hT hct rk sn hz lv hc s5 RV hown CL SN eta e1
      generalize M.nv (M.nAt G.ks[k].2.1 (M.leafV G.ks[k].2.1 xs)) = z at *
      generalize M.leafV G.ks[k].2.1 xs = lf at *
      generalize M.pathV G.ks[k].2.1 xs = pv at *
      generalize G.ks[k].2.1.length = tn at *
      generalize G.ks[k].2.2 = tcc at *
      go_wp2_with (first
        | (go_at_call 33; refine C1.out.mono ?_; rintro e w1 ⟨ag, cg, rfl, hrd, hb1'⟩; have u := UP.out w1 hb1'; have y0 := u.1; have y1 := u.2.1; have y2 := u.2.2; have g1 := K.out.trans (hb1'.mono kks); have kk1 : w.heap.size + 1 ≤ w1.heap.size := Nat.le_trans kks hb1'.size; have HO1 := hide (own_up HO.out hb1'); clear u hrd)
        | (at_builtin; refine wpList_append_lies _ rfl (.tmp 26) (.tmp 36) 23 rfl (w.heap.size + 1) 3 i0 (.int .i64 0) 1 8 Tryd.underlying23 I0.out hz0 hz1 hz2 rfl (by omega) (.slice va X.length vc) X.length (X.map (Value.int .i64)) rfl (HO1.out.alloc _) ⟨w1.heap.size, 0, none⟩ 1 1 [.int .i64 z] rfl rfl (World.news_of_block (heap_alloc_new _ _)) (by simp [Value.oneCell']) (by omega) (by unfold maxLen; omega) (by omega) (by simp; omega) (w1.heap.size + 1) (by simp) ?_))
      intro g cap w5 hov5 hgrow hat hlt5
      have hb5 : Below (w.heap.size + 1) (w.alloc (.cells #[.int .i64 G.f, .int .i64 G.w, .slice G.wa G.ws.length G.wc, .slice G.ta G.ks.length G.tc] 38)) w5 := (g1.alloc kk1 _).grown hgrow (by simp; omega) (fun k hk => (HO1.out.lt k hk).1)
      have HO5 : Hid (w5.ownsRow (w.heap.size + 1) 3 1 (.slice (some ⟨g, 0, none⟩) (X.length + 1) cap) (X ++ [z]).length ((X ++ [z]).map (Value.int .i64))) := by
        unfold Hid; rw [List.map_append, List.length_append]; exact hov5
      have HB5 := hide hb5
      clear hov5 hgrow hat hb5
      go_wp2
      go_roundw
      case rel => exact ⟨k + 1, X ++ [z], by omega, by go_num, N, by unfold Hid; rw [List.length_append, hXl.out]; rfl, HO5.out, HB5⟩
      case measure => simp [intOf]; omega
    · have E : Hid (X = EL) := by
        unfold Hid
        rw [HX.out, List.take_of_length_le (by rw [EN.out]; omega)]
      obtain ⟨va, vc, rfl, RV, _⟩ := own_rd hown
      have HR := hide RV
      clear RV hown CL SN
      go_wp2
      go_ret
      exact ⟨va, vc, by rw [E.out]; rfl, by rw [← E.out]; exact HR.out, kw⟩

end Go.Proofs.YtandimbpealclacDoor
