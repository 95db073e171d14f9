/-
  Several texts as one: CdEnc, CdLay, CdGrv.
-/
import Derived.Test.YtnmddlgcbljjdaaDoorRunB9
import Derived.Test.YtnmddlgcbljjdaaDoorRunB7
import Derived.Deep.Cut
import Derived.Deep.CutRange
import Derived.Test.YtnmddlgcbljjdaaDoorRunB8
import Derived.Deep.AppendLies
import Derived.RegionTactic
import Derived.Deep.RegionLaw
namespace Go.Proofs.YtnmddlgcbljjdaaDoor
open Go.ChangeShapes Go.WideShapes Go.ChangeAt Go.RowKit Go.Lib
set_option linter.unusedVariables false

theorem M.enc_le {g : M.Gv} (h : M.Good g) (k : Nat) : (M.bysL (M.preL g k)).length ≤ 50000 := by
  have zo := M.zip_ok h
  have zl := M.zip_len h
  have t12 := h.t12
  have hi : ∀ x ∈ M.preL g k, M.I64 x := fun x hx => by
    refine M.gr_in (by have := h.f0; have := h.f8; have := h.w1; have := h.w3; unfold M.I64; omega) zo t12 x ?_
    unfold M.preL at hx
    unfold M.grL
    rcases List.mem_cons.1 hx with e | hx
    · rw [e]; exact List.mem_cons_self ..
    rcases List.mem_cons.1 hx with e | hx
    · rw [e]; exact List.mem_cons_of_mem _ (List.mem_cons_self ..)
    rcases List.mem_cons.1 hx with e | hx
    · rw [e]; exact List.mem_cons_of_mem _ (List.mem_cons_of_mem _ (List.mem_cons_self ..))
    obtain ⟨y, hy, hx⟩ := List.mem_flatMap.1 hx
    exact List.mem_cons_of_mem _ (List.mem_cons_of_mem _ (List.mem_cons_of_mem _ (List.mem_flatMap.2 ⟨y, List.mem_of_mem_take hy, hx⟩)))
  have a := M.bys_len _ hi
  have b := M.trs_len (((M.gs g).zip (M.gt g)).take k) fun x hx => (zo x (List.mem_of_mem_take hx)).2.2.1
  have c : (((M.gs g).zip (M.gt g)).take k).length ≤ 12 := by rw [List.length_take, zl]; omega
  have e : (M.preL g k).length = ((((M.gs g).zip (M.gt g)).take k).flatMap M.trL).length + 1 + 1 + 1 := rfl
  omega

theorem M.pre_tr (G : Gr) {k : Nat} (hk : k < G.ks.length) {x : Int} (hx : x = G.ws.getD k 0) (hz : ((M.gs G.m).zip (M.gt G.m)).length = G.ks.length) (ho : ∀ y ∈ (M.gs G.m).zip (M.gt G.m), M.TrOk y) :
    M.I64 x ∧ 1 ≤ (G.ks[k]'hk).2.1.length ∧ ∀ n ∈ (G.ks[k]'hk).2.1, M.NdOk n := by
  have hz' : k < ((M.gs G.m).zip (M.gt G.m)).length := by rw [hz]; exact hk
  have hw : k < G.ws.length := by have := List.length_zip (l₁ := M.gs G.m) (l₂ := M.gt G.m); rw [hz] at this; have e : (M.gs G.m).length = G.ws.length := rfl; omega
  have e : ((M.gs G.m).zip (M.gt G.m))[k] = (x, (G.ks[k]'hk).2.1) := by
    rw [List.getElem_zip]
    refine Prod.ext ?_ ?_
    · show G.ws[k] = x
      rw [hx]; simp [List.getD, hw]
    · show (tl G.ks)[k]'_ = _
      simp [tl]
  have o := ho _ (List.getElem_mem hz')
  rw [e] at o
  exact ⟨o.1, o.2.1, o.2.2.2⟩

set_option maxHeartbeats 16000000 in
set_option maxRecDepth 10000 in
theorem cdenc_any : CdEncGives := by
  intro G w h
  have hm1 : G.ks.length ≤ 9223372036854775807 := h.2.1
  have hm2 : G.ws.length ≤ 9223372036854775807 := h.1.1
  have B0 : Hid (∀ o, Below w.heap.size w (w.alloc o)) := fun o => (Below.refl _ w).alloc (Nat.le_refl _) o
  have HR := hide (fun o => gcheck_any G (w.alloc o) (h.below (B0.out o)))
  unfold Gr.v at HR ⊢
  by_cases h0 : M.groveF G.m = 0
  · have Gd := (M.good_iff G.m).1 h0
    have len12 : G.ks.length ≤ 12 := by have := Gd.t12; rwa [show (M.gt G.m).length = G.ks.length from tl_len G.ks] at this
    have WL : Hid (G.ws.length = G.ks.length) := Gd.len.trans (tl_len G.ks)
    have ZO := hide (M.zip_ok Gd)
    have ZL : Hid (((M.gs G.m).zip (M.gt G.m)).length = G.ks.length) := (M.zip_len Gd).trans (tl_len G.ks)
    have FW : Hid (M.I64 G.f ∧ M.I64 G.w) := by have := Gd.f0; have := Gd.f8; have := Gd.w1; have := Gd.w3; unfold Hid M.I64; exact ⟨⟨by show _ ≤ M.gf G.m; omega, by show M.gf G.m ≤ _; omega⟩, ⟨by show _ ≤ M.gw G.m; omega, by show M.gw G.m ≤ _; omega⟩⟩
    have LE := hide (M.enc_le Gd)
    have HG := hide h
    have P0 : Hid (M.preL G.m 0 = [G.f, G.w, (G.ks.length : Int)]) := by
      unfold Hid
      rw [M.pre_zero, show (M.gt G.m).length = G.ks.length from tl_len G.ks]
      rfl
    have PE : Hid (M.bysL (M.preL G.m G.ks.length) = M.encB G.m) := by
      unfold Hid M.preL M.encB M.grL
      rw [List.take_of_length_le (by rw [ZL.out]; exact Nat.le_refl _)]
    have EF : Hid (M.encF G.m = if 6000 < (M.encB G.m).length then 4 else 0) := by unfold Hid M.encF; rw [if_neg (by simp [h0])]
    have EV : Hid (M.encV G.m = if M.encF G.m = 0 then M.encB G.m else []) := rfl
    have K1L : Hid (1 ≤ G.ks.length) := by have := Gd.t0; rwa [show (M.gt G.m).length = G.ks.length from tl_len G.ks] at this
    rw [h0, err_nil rfl] at HR
    clear h Gd h0
    generalize M.encF G.m = eF at *
    generalize M.encV G.m = eV at *
    generalize M.encB G.m = eB at *
    go_enter Tryd.func6, Tryd.ntmps6
    go_upto_region 4 with (go_at_call 16; refine (HR.out _).mono ?_; rintro e w1 ⟨rfl, hb⟩; have k1 := hide (below_on (B0.out _) hb); have KB := hide hb; clear hb)
    have GC : Hid (∀ W, Below w1.heap.size w1 W → W.cell? ⟨w.heap.size, 0, none⟩ = some (.int .i64 G.f) ∧ W.cell? ⟨w.heap.size, 1, none⟩ = some (.int .i64 G.w) ∧ W.cell? ⟨w.heap.size, 2, none⟩ = some (.slice G.wa G.ws.length G.wc) ∧ W.cell? ⟨w.heap.size, 3, none⟩ = some (.slice G.ta G.ks.length G.tc)) := fun W hW => by
      have k2 := below_on KB.out hW
      have r := (new_kept rfl k2).1
      exact ⟨r 0 _ rfl, r 1 _ rfl, r 2 _ rfl, r 3 _ rfl⟩
    have HG1 : Hid (∀ W, Below w1.heap.size w1 W → RdG W G) := fun W hW => HG.out.below (below_on k1.out hW)
    clear HR KB HG
    obtain ⟨c0, c1, c2, c3⟩ := GC.out w1 (Below.refl _ _)
    have A0 := hide (add_below (w1 := w1) (W := w1) [G.f, G.w, (G.ks.length : Int)] none 0 [] (Below.refl _ _) (World.ownsRow_nil _ _ _ _) (by
      intro x hx
      rcases List.mem_cons.1 hx with rfl | hx
      · exact FW.out.1
      rcases List.mem_cons.1 hx with rfl | hx
      · exact FW.out.2
      rw [List.mem_singleton] at hx
      rw [hx]; unfold M.I64; omega) (by show 0 + 30 ≤ _; omega) (by show 3 ≤ 1000; omega) _ rfl)
    have PB : Hid ([] ++ M.bysL [G.f, G.w, (G.ks.length : Int)] = M.bysL (M.preL G.m 0)) := by unfold Hid; rw [P0.out]; rfl
    rw [PB.out] at A0
    simp only [List.length_cons, List.length_nil, List.map_cons, List.map_nil, Nat.zero_add] at A0
    clear PB P0
    generalize hL0 : M.bysL (M.preL G.m 0) = L0 at A0
    have HL0 := hide hL0
    clear hL0
    go_upto_region 5 with (go_at_call 17; refine A0.out.mono ?_; rintro e w2 ⟨ua, uc, rfl, o2, k2⟩; have O2 := hide o2; have K2 := hide k2; clear o2 k2)
    clear c0 c1 c2 c3 A0
    obtain ⟨c0, c1, c2, c3⟩ := GC.out w2 K2.out
    obtain ⟨tb, to', eta, htb, htc⟩ := (HG1.out w1 (Below.refl _ _)).2.2.2 (by intro e; have := K1L.out; rw [e] at this; simp at this)
    obtain ⟨wb, wo, ewa, hwb, hwc⟩ := (HG1.out w1 (Below.refl _ _)).1.2 (by intro e; have a := WL.out; have b := K1L.out; rw [e] at a; have c : 0 = G.ks.length := a; omega)
    have EWA := hide ewa
    have HWC := hide hwc
    have HTC := hide htc
    have HTB := hide htb
    have HWB := hide hwb
    have ETA := hide eta
    clear hwc htc htb hwb ewa eta
    go_wp2
    rw [ETA.out]
    clear c0 c1 c2 c3
    go_loopw [5, 27] (fun v i wr => ∃ (k : Nat) (ua : Option Addr) (uc : Nat) (L : List Nat), k ≤ G.ks.length ∧ i = .int .i64 k ∧ v = .slice ua L.length uc ∧ Hid (L = M.bysL (M.preL G.m k)) ∧ Hid (wr.ownsRow w1.heap.size 5 1 (.slice ua L.length uc) L.length (byCells L)) ∧ Hid (Below w1.heap.size w1 wr)) (fun _ i _ => G.ks.length - (intOf i).toNat)
    case atStart => exact ⟨0, ua, uc, L0, Nat.zero_le _, rfl, rfl, HL0.out.symm, O2, K2⟩
    case round =>
      clear O2 K2 HL0
      obtain ⟨k, ua, uc, L, hk, rfl, rfl, EL, OO, K⟩ := hrel
      by_cases hlt : k < G.ks.length
      · have kz : (k : Int) < (G.ks.length : Int) := by omega
        have c2 := (GC.out wr K.out).2.2.1
        rw [EWA.out] at c2
        have wcr := (K.out.cell (p := ⟨wb, wo + k, none⟩) HWB.out).trans (HWC.out k (by rw [WL.out]; exact hlt))
        have tcr := (K.out.cell (p := ⟨tb, to' + k, none⟩) HTB.out).trans (HTC.out k hlt)
        have kw : (k : Int) < (G.ws.length : Int) := by rw [WL.out]; exact kz
        have RN := hide ((HG1.out w1 (Below.refl _ _)).2.2.1 G.ks[k] (List.getElem_mem hlt))
        obtain ⟨x, hx⟩ : ∃ x, x = G.ws.getD k 0 := ⟨_, rfl⟩
        obtain ⟨ZM, l63⟩ : Hid (M.preL G.m (k + 1) = M.preL G.m k ++ [x] ++ [(G.ks[k].2.1.length : Int)] ++ G.ks[k].2.1.flatMap M.ndL) ∧ G.ks[k].2.1.length ≤ 63 := M.pre_more G hlt hx ZL.out ZO.out
        have TK : Hid (M.I64 x ∧ 1 ≤ G.ks[k].2.1.length ∧ ∀ n ∈ G.ks[k].2.1, M.NdOk n) := M.pre_tr G hlt hx ZL.out ZO.out
        rw [← hx] at wcr
        unfold tV at tcr
        have LK := LE.out k
        have LK1 := hide (LE.out (k + 1))
        rw [← EL.out] at LK
        clear hx
        generalize G.ks[k].2.1 = ts at *
        generalize G.ks[k].2.2 = tcap at *
        generalize G.ks[k].1 = tad at *
        have tm : ts.length ≤ 9223372036854775807 := by omega
        obtain ⟨nb, no, etad, hnb, hnc⟩ := RN.out.2 (by intro e; have := TK.out.2.1; rw [e] at this; simp at this)
        subst etad
        have HNB := hide hnb
        have HNC := hide hnc
        have A1 := hide (add_below (w1 := w1) (W := wr) [x, (ts.length : Int)] ua uc L K.out OO.out (by
          intro y hy
          rcases List.mem_cons.1 hy with rfl | hy
          · exact TK.out.1
          rw [List.mem_singleton] at hy
          rw [hy]; unfold M.I64; omega) (by show L.length + 20 ≤ _; omega) (by show 2 ≤ 1000; omega) _ rfl)
        simp only [List.length_cons, List.length_nil, List.map_cons, List.map_nil, Nat.zero_add] at A1
        obtain ⟨L1, hL1⟩ : ∃ L1, L1 = L ++ M.bysL [x, (ts.length : Int)] := ⟨_, rfl⟩
        rw [← hL1] at A1
        have ZB : Hid (M.bysL (M.preL G.m (k + 1)) = L1 ++ M.bysL (ts.flatMap M.ndL)) := by
          unfold Hid
          rw [ZM.out, hL1, EL.out, M.bys_app, M.bys_app, M.bys_app, show M.bysL [x, (ts.length : Int)] = M.bysL [x] ++ M.bysL [(ts.length : Int)] from M.bys_app [x] [(ts.length : Int)]]
          simp only [List.append_assoc]
        have L1L : Hid (L1.length ≤ 50020) := by
          unfold Hid
          rw [hL1, List.length_append]
          have := M.bys_len [x, (ts.length : Int)] (by
            intro y hy
            rcases List.mem_cons.1 hy with rfl | hy
            · exact TK.out.1
            rw [List.mem_singleton] at hy
            rw [hy]; unfold M.I64; omega)
          have e2 : [x, (ts.length : Int)].length = 2 := rfl
          omega
        clear hL1 hnb hnc RN EL ZM OO
        go_upto_region 9 with (go_at_call 17; refine A1.out.mono ?_; rintro e w3 ⟨ua3, uc3, rfl, o3, k3⟩; have O3 := hide o3; have K3 := hide k3; clear o3 k3)
        clear c2 wcr tcr A1 K
        go_wp2
        go_loopw [5, 44] (fun v i wr => ∃ (j : Nat) (ua : Option Addr) (uc : Nat) (L : List Nat), j ≤ ts.length ∧ i = .int .i64 j ∧ v = .slice ua L.length uc ∧ Hid (L = L1 ++ M.bysL ((ts.take j).flatMap M.ndL)) ∧ Hid (wr.ownsRow w1.heap.size 5 1 (.slice ua L.length uc) L.length (byCells L)) ∧ Hid (Below w1.heap.size w1 wr)) (fun _ i _ => ts.length - (intOf i).toNat)
        case atStart => exact ⟨0, ua3, uc3, L1, Nat.zero_le _, rfl, rfl, (by unfold Hid; show L1 = L1 ++ []; rw [List.append_nil]), O3, K3⟩
        case round =>
          clear O3 K3
          obtain ⟨j, ua4, uc4, L4, hj, rfl, rfl, EL4, O4, K4⟩ := hrel
          by_cases jlt : j < ts.length
          · have jz : (j : Int) < (ts.length : Int) := by omega
            obtain ⟨s0, s1, s2, s3, s4, s5⟩ := (HNC.out j jlt).below K4.out HNB.out
            have okn := TK.out.2.2 (M.nAt ts j) (by unfold M.nAt; rw [M.getD_at jlt]; exact List.getElem_mem jlt)
            have L4L : L4.length ≤ 60000 := by
              rw [EL4.out, List.length_append]
              have a := M.bys_len ((ts.take j).flatMap M.ndL) (fun y hy => by
                obtain ⟨n, hn, hy⟩ := List.mem_flatMap.1 hy
                exact M.nd_in (TK.out.2.2 n (List.mem_of_mem_take hn)) y hy)
              have b := M.nds_len (ts.take j)
              rw [List.length_take] at b
              have := L1L.out
              omega
            have EL5 : Hid (L4 ++ M.bysL (M.ndL (M.nAt ts j)) = L1 ++ M.bysL ((ts.take (j + 1)).flatMap M.ndL)) := by
              have := M.nds_more [] (ts := ts) jlt
              rw [List.nil_append, List.nil_append] at this
              unfold Hid
              rw [this, M.bys_app, EL4.out, List.append_assoc]
            generalize M.nAt ts j = N at *
            have K5 := hide (K4.out.alloc K4.out.size (.cells #[.int .i64 (M.nf N), .int .i64 (M.nc N), .int .i64 (M.nl N), .int .i64 (M.nr N), .bool (M.ns N), .int .i64 (M.nv N)] 49))
            have O5 := hide (O4.out.alloc (.cells #[.int .i64 (M.nf N), .int .i64 (M.nc N), .int .i64 (M.nl N), .int .i64 (M.nr N), .bool (M.ns N), .int .i64 (M.nv N)] 49))
            have A2 := hide (addnode_below N ua4 uc4 L4 K5.out O5.out okn (by omega))
            have nv : ndV N = .agg #[.int .i64 (M.nf N), .int .i64 (M.nc N), .int .i64 (M.nl N), .int .i64 (M.nr N), .bool (M.ns N), .int .i64 (M.nv N)] := rfl
            rw [nv] at A2
            generalize L4 ++ M.bysL (M.ndL N) = L5 at *
            clear nv okn EL4 O4 K5 O5
            go_wp2_with (go_at_call 18; refine A2.out.mono ?_; rintro e w6 ⟨ua6, uc6, rfl, o6, k6⟩; have O6 := hide o6; have K6 := hide k6; clear o6 k6)
            go_roundw
            case rel => exact ⟨j + 1, ua6, uc6, L5, by omega, by go_num, rfl, EL5, O6, K6⟩
            case measure => simp [intOf]; omega
          · have ej : j = ts.length := by omega
            have jz : ¬ ((j : Int) < (ts.length : Int)) := by omega
            have EL5 : Hid (L4 = M.bysL (M.preL G.m (k + 1))) := by unfold Hid; rw [ZB.out, EL4.out, ej, List.take_length]
            clear ej EL4 ZB
            go_wp2
            exact ⟨⟨k + 1, ua4, uc4, L4, hlt, rfl, rfl, EL5, O4, K4⟩, by show G.ks.length - (((k : Int) + 1).toNat) < G.ks.length - ((k : Int).toNat); omega⟩
      · have ek : k = G.ks.length := by omega
        have kz : ¬ ((k : Int) < (G.ks.length : Int)) := by omega
        have EB : Hid (L = eB) := by unfold Hid; rw [EL.out, ek]; exact PE.out
        have LK := LE.out k
        rw [← EL.out] at LK
        clear ek EL PE
        by_cases big : 6000 < L.length
        · have t1 : decide ((6000 : Int) < (L.length : Int)) = true := decide_eq_true (by omega)
          have t2 : decide (6000 < L.length) = true := decide_eq_true big
          have E1 : Hid (eF = 4) := by unfold Hid; rw [EF.out, ← EB.out, if_pos big]
          have E2 : Hid (eV = []) := by unfold Hid; rw [EV.out, E1.out]; rfl
          clear big EF EV
          go_wp2
          go_ret2
          exact ⟨.slice none 0 0, by rw [E1.out]; rfl, by rw [E2.out]; exact World.ownsRow_nil _ _ _ _, below_on k1.out K.out⟩
        · have t1 : decide ((6000 : Int) < (L.length : Int)) = false := decide_eq_false (by omega)
          have t2 : decide (6000 < L.length) = false := decide_eq_false big
          have E1 : Hid (eF = 0) := by unfold Hid; rw [EF.out, ← EB.out, if_neg big]
          have E2 : Hid (eV = L) := by unfold Hid; rw [EV.out, E1.out, if_pos rfl, EB.out]
          clear big EF EV
          go_wp2
          go_ret2
          exact ⟨_, by rw [E1.out]; rfl, by rw [E2.out]; exact own_low k1.out.size OO.out, below_on k1.out K.out⟩
  · have EF : Hid (M.encF G.m = M.groveF G.m) := by unfold Hid M.encF; rw [if_pos h0]
    have EV : Hid (M.encV G.m = []) := by unfold Hid M.encV; rw [EF.out, if_neg h0]
    rw [err_some h0] at HR
    have H0 := hide h0
    clear h h0
    go_enter Tryd.func6, Tryd.ntmps6
    go_wp2_with (go_at_call 16; refine (HR.out _).mono ?_; rintro e w1 ⟨rfl, hb⟩; have k1 := hide (below_on (B0.out _) hb); clear hb)
    go_ret2
    exact ⟨.slice none 0 0, by rw [EF.out, err_some H0.out]; rfl, by rw [EV.out]; exact World.ownsRow_nil _ _ _ _, k1.out⟩

end Go.Proofs.YtnmddlgcbljjdaaDoor

namespace Go.Proofs.YtnmddlgcbljjdaaDoor
open Go.ChangeShapes Go.WideShapes Go.ChangeAt Go.RowKit Go.Lib
set_option linter.unusedVariables false

theorem rdN_same {W W' : World} {a : Option Addr} {ts : List M.Nd} (h : RdN W a ts) (hs : W.heap.size ≤ W'.heap.size) (he : ∀ p, a = some p → W'.heap[p.block]? = W.heap[p.block]?) : RdN W' a ts :=
  ⟨h.1, fun hn => by
    obtain ⟨b, off, e, hl, hc⟩ := h.2 hn
    have hb : W'.heap[b]? = W.heap[b]? := he _ e
    have k : ∀ j v, W.cell? ⟨b, j, none⟩ = some v → W'.cell? ⟨b, j, none⟩ = some v := fun j v hv => (World.cell?_of_block (a := ⟨b, j, none⟩) hb).trans hv
    exact ⟨b, off, e, Nat.lt_of_lt_of_le hl hs, fun i hi => ⟨k _ _ (hc i hi).1, k _ _ (hc i hi).2.1, k _ _ (hc i hi).2.2.1, k _ _ (hc i hi).2.2.2.1, k _ _ (hc i hi).2.2.2.2.1, k _ _ (hc i hi).2.2.2.2.2⟩⟩⟩

structure GW (w : World) (g rb gb : Nat) (f m : Int) (kw : Nat) (ya : Option Addr) (yc : Nat) (ws : List Int) (kt : Nat) (xa : Option Addr) (xc : Nat) (D : List Tc) (W : World) : Prop where
  gr : w.grownBy W (some g)
  r : ∀ j, j < 4 → ∃ v, W.cell? ⟨rb, j, none⟩ = some v
  rf : ∀ j, W.frozen? ⟨rb, j, none⟩ = false
  c0 : W.cell? ⟨gb, 0, none⟩ = some (.int .i64 f)
  c1 : W.cell? ⟨gb, 1, none⟩ = some (.int .i64 m)
  c2 : W.cell? ⟨gb, 2, none⟩ = some (.slice ya kw yc)
  c3 : W.cell? ⟨gb, 3, none⟩ = some (.slice xa kt xc)
  fr : ∀ j, W.frozen? ⟨gb, j, none⟩ = false
  lt : gb < W.heap.size
  ge : rb < gb
  wr : w.heap.size ≤ rb
  gn : g ≠ rb ∧ g < gb
  ow : W.ownsRow (gb + 1) 3 1 (.slice ya kw yc) kw (ws.map (Value.int .i64))
  ox : W.ownsRow (gb + 1) 47 1 (.slice xa kt xc) kt (D.map tV)
  xy : ∀ q, (Value.slice ya kw yc).ownBlock = some q → (Value.slice xa kt xc).ownBlock ≠ some q
  tr : ∀ t ∈ D, RdN W t.1 t.2.1 ∧ ∀ p, t.1 = some p → gb < p.block ∧ p.block < W.heap.size ∧ (Value.slice ya kw yc).ownBlock ≠ some p.block ∧ (Value.slice xa kt xc).ownBlock ≠ some p.block
theorem kept_not {W : World} {e size n B : Nat} {v : Value} {l : List Value} {r : Option Nat} {W' : World} (ho : W.ownsRow B e size v n l) (hg : W.grownBy W' r) (hr : ∀ q, v.ownBlock = some q → r ≠ some q) : W'.ownsRow B e size v n l := by
  refine ho.kept hg ?_
  cases hv : v.ownBlock with
  | none => exact .inl rfl
  | some q => exact .inr fun e => hr q hv e.symm
/-- it is empty at first -/
theorem GW.new {w : World} {g : Nat} {f : Int} {m : Int} {w2 : World} (hg : (w.alloc (.cells #[.int .i64 0, .int .i64 0, .slice none 0 0, .slice none 0 0] 25)).grownBy w2 (some g)) (gl : g < w.heap.size) : GW w g w.heap.size w2.heap.size f m 0 none 0 [] 0 none 0 [] (w2.alloc (.cells #[.int .i64 f, .int .i64 m, .slice none 0 0, .slice none 0 0] 25)) := by
  have n := new_grown hg gl
  have z : w.heap.size < w2.heap.size := by have := hg.size; simp at this; omega
  have bl := (Below.refl w2.heap.size w2).alloc (Nat.le_refl _) (.cells #[.int .i64 f, .int .i64 m, .slice none 0 0, .slice none 0 0] 25)
  have k := new_kept (w := w2) (cs := #[.int .i64 f, .int .i64 m, .slice none 0 0, .slice none 0 0]) (t := 25) rfl (Below.refl _ _)
  refine ⟨grown_trans (grown_new hg) (World.grownBy_alloc w2 _ (some g)) (.inl rfl), fun j hj => ?_, fun j => (bl.frozen (p := ⟨w.heap.size, j, none⟩) z).trans (n.2 j), k.1 0 _ rfl, k.1 1 _ rfl, k.1 2 _ rfl, k.1 3 _ rfl, k.2, by simp, z, Nat.le_refl _, ⟨by omega, by omega⟩, World.ownsRow_nil _ _ _ _, World.ownsRow_nil _ _ _ _, (fun q hq => by cases hq), (fun t ht => by cases ht)⟩
  rw [show (w2.alloc (.cells #[.int .i64 f, .int .i64 m, .slice none 0 0, .slice none 0 0] 25)).cell? ⟨w.heap.size, j, none⟩ = w2.cell? ⟨w.heap.size, j, none⟩ from bl.cell (p := ⟨w.heap.size, j, none⟩) z]
  match j, hj with
  | 0, _ => exact ⟨_, n.1 0 _ rfl⟩
  | 1, _ => exact ⟨_, n.1 1 _ rfl⟩
  | 2, _ => exact ⟨_, n.1 2 _ rfl⟩
  | 3, _ => exact ⟨_, n.1 3 _ rfl⟩
/-- the reader goes on -/
theorem GW.rdr {w : World} {g : Nat} {rb : Nat} {gb : Nat} {f : Int} {m : Int} {kw : Nat} {ya : Option Addr} {yc : Nat} {ws : List Int} {kt : Nat} {xa : Option Addr} {xc : Nat} {D : List Tc} {W : World} (h : GW w g rb gb f m kw ya yc ws kt xa xc D W) {W' : World} (hg : W.grownBy W' (some g)) : GW w g rb gb f m kw ya yc ws kt xa xc D W' := by
  have hge := h.ge
  have hlt := h.lt
  have hgn := h.gn
  have b : ∀ q, (q = rb ∨ gb ≤ q) → q < W.heap.size → W'.heap[q]? = W.heap[q]? := fun q h1 h2 => hg.block q h2 (fun e => by cases e; omega)
  have cc : ∀ q j, (q = rb ∨ gb ≤ q) → q < W.heap.size → W'.cell? ⟨q, j, none⟩ = W.cell? ⟨q, j, none⟩ := fun q j h1 h2 => World.cell?_of_block (a := ⟨q, j, none⟩) (b q h1 h2)
  have ff : ∀ q j, (q = rb ∨ gb ≤ q) → q < W.heap.size → W'.frozen? ⟨q, j, none⟩ = W.frozen? ⟨q, j, none⟩ := fun q j h1 h2 => World.frozen?_of_block (a := ⟨q, j, none⟩) (b q h1 h2)
  refine ⟨grown_trans h.gr hg (.inl rfl), fun j hj => ?_, fun j => (ff _ j (.inl rfl) (by omega)).trans (h.rf j), (cc _ 0 (.inr (Nat.le_refl _)) hlt).trans h.c0, (cc _ 1 (.inr (Nat.le_refl _)) hlt).trans h.c1, (cc _ 2 (.inr (Nat.le_refl _)) hlt).trans h.c2, (cc _ 3 (.inr (Nat.le_refl _)) hlt).trans h.c3, fun j => (ff _ j (.inr (Nat.le_refl _)) hlt).trans (h.fr j), Nat.lt_of_lt_of_le hlt hg.size, hge, h.wr, hgn, kept_not h.ow hg (fun q hq e => by cases e; have := (h.ow.lt _ hq).1; omega), kept_not h.ox hg (fun q hq e => by cases e; have := (h.ox.lt _ hq).1; omega), h.xy, fun t ht => ?_⟩
  · rw [cc _ j (.inl rfl) (by omega)]; exact h.r j hj
  · obtain ⟨t1, t2⟩ := h.tr t ht
    exact ⟨rdN_same t1 hg.size (fun p hp => b _ (.inr (by have := (t2 p hp).1; omega)) (t2 p hp).2.1), fun p hp => ⟨(t2 p hp).1, Nat.lt_of_lt_of_le (t2 p hp).2.1 hg.size, (t2 p hp).2.2⟩⟩
/-- one weight more, and its slice stored -/
theorem GW.weight {w : World} {g : Nat} {rb : Nat} {gb : Nat} {f : Int} {m : Int} {kw : Nat} {ya : Option Addr} {yc : Nat} {ws : List Int} {kt : Nat} {xa : Option Addr} {xc : Nat} {D : List Tc} {W : World} (h : GW w g rb gb f m kw ya yc ws kt xa xc D W) {n : Int} {o : Obj} {w5 : World} {g2 cap : Nat}
    (hown : w5.ownsRow (gb + 1) 3 1 (.slice (some ⟨g2, 0, none⟩) (kw + 1) cap) (kw + 1) (ws.map (Value.int .i64) ++ [.int .i64 n])) (hgrow : (W.alloc o).grownBy w5 (Value.slice ya kw yc).ownBlock) (hat : (Value.slice ya kw yc).ownBlock = some g2 ∨ g2 = W.heap.size + 1) :
    (w5.cell? ⟨gb, 2, none⟩ = some (.slice ya kw yc) ∧ w5.frozen? ⟨gb, 2, none⟩ = false) ∧ W.grownBy w5 (Value.slice ya kw yc).ownBlock ∧ GW w g rb gb f m (kw + 1) (some ⟨g2, 0, none⟩) cap (ws ++ [n]) kt xa xc D (w5.setCell ⟨gb, 2, none⟩ (.slice (some ⟨g2, 0, none⟩) (kw + 1) cap)) := by
  have hge := h.ge
  have hlt := h.lt
  have hwr := h.wr
  have hgr : W.grownBy w5 (Value.slice ya kw yc).ownBlock := grown_new hgrow
  have yb : ∀ q, (Value.slice ya kw yc).ownBlock = some q → gb + 1 ≤ q ∧ q < W.heap.size := fun q e => h.ow.lt q e
  have b5 : ∀ q, q < W.heap.size → (Value.slice ya kw yc).ownBlock ≠ some q → w5.heap[q]? = W.heap[q]? := fun q h1 h2 => hgr.block q h1 (fun e => h2 e.symm)
  have cf : ∀ j, w5.cell? ⟨gb, j, none⟩ = W.cell? ⟨gb, j, none⟩ := fun j => World.cell?_of_block (a := ⟨gb, j, none⟩) (b5 gb hlt (fun e => by have := (yb _ e).1; omega))
  have ff : ∀ j, w5.frozen? ⟨gb, j, none⟩ = W.frozen? ⟨gb, j, none⟩ := fun j => World.frozen?_of_block (a := ⟨gb, j, none⟩) (b5 gb hlt (fun e => by have := (yb _ e).1; omega))
  have gs : w5.grownBy (w5.setCell ⟨gb, 2, none⟩ (.slice (some ⟨g2, 0, none⟩) (kw + 1) cap)) (some gb) := grown_set
  have b6 : ∀ q, q < W.heap.size → (Value.slice ya kw yc).ownBlock ≠ some q → q ≠ gb → (w5.setCell ⟨gb, 2, none⟩ (.slice (some ⟨g2, 0, none⟩) (kw + 1) cap)).heap[q]? = W.heap[q]? := fun q h1 h2 h3 => (gs.block q (Nat.lt_of_lt_of_le h1 hgr.size) (fun e => h3 (by cases e; rfl))).trans (b5 q h1 h2)
  have rbl : rb < W.heap.size := by omega
  have rq : (Value.slice ya kw yc).ownBlock ≠ some rb := fun e => by have := (yb _ e).1; omega
  have ob : (Value.slice (some ⟨g2, 0, none⟩) (kw + 1) cap).ownBlock = some g2 := rfl
  have gn : ∀ q, q < W.heap.size → (Value.slice ya kw yc).ownBlock ≠ some q → g2 ≠ q := fun q h1 h2 e => by
    rcases hat with z | z
    · exact h2 (by rw [z, e])
    · omega
  refine ⟨⟨(cf 2).trans h.c2, (ff 2).trans (h.fr 2)⟩, hgr, ⟨grown_trans (grown_trans h.gr hgr (.inr (fun q hq => by have := (yb q hq).1; omega))) gs (.inr (fun q hq => by cases hq; omega)), fun j hj => ?_, fun j => ?_, ?_, ?_, ?_, ?_, fun j => ?_, ?_, hge, hwr, h.gn, ?_, ?_, fun q hq => ?_, fun t ht => ?_⟩⟩
  · rw [World.cell?_of_block (a := ⟨rb, j, none⟩) (b6 rb rbl rq (by omega))]; exact h.r j hj
  · rw [World.frozen?_of_block (a := ⟨rb, j, none⟩) (b6 rb rbl rq (by omega))]; exact h.rf j
  · rw [World.cell?_setCell_other _ _ _ _ (by intro e; cases e)]; exact (cf 0).trans h.c0
  · rw [World.cell?_setCell_other _ _ _ _ (by intro e; cases e)]; exact (cf 1).trans h.c1
  · exact World.cell?_setCell_same (u := .slice ya kw yc) _ _ _ ((cf 2).trans h.c2)
  · rw [World.cell?_setCell_other _ _ _ _ (by intro e; cases e)]; exact (cf 3).trans h.c3
  · rw [World.frozen?_setCell]; exact (ff j).trans (h.fr j)
  · have := gs.size; have := hgr.size; omega
  · rw [List.map_append]
    exact kept_not hown gs (fun q hq e => by cases e; have := (hown.lt _ hq).1; omega)
  · exact kept_not (kept_not h.ox hgr (fun q hq e => h.xy q e hq)) gs (fun q hq e => by cases e; have := (h.ox.lt _ hq).1; omega)
  · intro e
    rw [ob] at hq
    cases hq
    exact gn _ (h.ox.lt _ e).2 (fun z => h.xy _ z e) rfl
  · obtain ⟨t1, t2⟩ := h.tr t ht
    refine ⟨rdN_same t1 (by have := gs.size; have := hgr.size; omega) (fun p hp => b6 _ (t2 p hp).2.1 (t2 p hp).2.2.1 (by have := (t2 p hp).1; omega)), fun p hp => ⟨(t2 p hp).1, by have := gs.size; have := hgr.size; have := (t2 p hp).2.1; omega, fun e => ?_, (t2 p hp).2.2.2⟩⟩
    rw [ob] at e
    cases e
    exact gn _ (t2 p hp).2.1 (t2 p hp).2.2.1 rfl
/-- one tree more, and its slice stored -/
theorem GW.tree {w : World} {g : Nat} {rb : Nat} {gb : Nat} {f : Int} {m : Int} {kw : Nat} {ya : Option Addr} {yc : Nat} {ws : List Int} {kt : Nat} {xa : Option Addr} {xc : Nat} {D : List Tc} {W : World} (h : GW w g rb gb f m kw ya yc ws kt xa xc D W) {t : Tc} (ht : RdN W t.1 t.2.1) (hp : ∀ p, t.1 = some p → gb < p.block ∧ p.block < W.heap.size ∧ (Value.slice ya kw yc).ownBlock ≠ some p.block ∧ (Value.slice xa kt xc).ownBlock ≠ some p.block) {o : Obj} {w5 : World} {g2 cap : Nat}
    (hown : w5.ownsRow (gb + 1) 47 1 (.slice (some ⟨g2, 0, none⟩) (kt + 1) cap) (kt + 1) (D.map tV ++ [tV t])) (hgrow : (W.alloc o).grownBy w5 (Value.slice xa kt xc).ownBlock) (hat : (Value.slice xa kt xc).ownBlock = some g2 ∨ g2 = W.heap.size + 1) :
    (w5.cell? ⟨gb, 3, none⟩ = some (.slice xa kt xc) ∧ w5.frozen? ⟨gb, 3, none⟩ = false) ∧ W.grownBy w5 (Value.slice xa kt xc).ownBlock ∧ GW w g rb gb f m kw ya yc ws (kt + 1) (some ⟨g2, 0, none⟩) cap (D ++ [t]) (w5.setCell ⟨gb, 3, none⟩ (.slice (some ⟨g2, 0, none⟩) (kt + 1) cap)) := by
  have hge := h.ge
  have hlt := h.lt
  have hwr := h.wr
  have hgr : W.grownBy w5 (Value.slice xa kt xc).ownBlock := grown_new hgrow
  have yb : ∀ q, (Value.slice xa kt xc).ownBlock = some q → gb + 1 ≤ q ∧ q < W.heap.size := fun q e => h.ox.lt q e
  have b5 : ∀ q, q < W.heap.size → (Value.slice xa kt xc).ownBlock ≠ some q → w5.heap[q]? = W.heap[q]? := fun q h1 h2 => hgr.block q h1 (fun e => h2 e.symm)
  have cf : ∀ j, w5.cell? ⟨gb, j, none⟩ = W.cell? ⟨gb, j, none⟩ := fun j => World.cell?_of_block (a := ⟨gb, j, none⟩) (b5 gb hlt (fun e => by have := (yb _ e).1; omega))
  have ff : ∀ j, w5.frozen? ⟨gb, j, none⟩ = W.frozen? ⟨gb, j, none⟩ := fun j => World.frozen?_of_block (a := ⟨gb, j, none⟩) (b5 gb hlt (fun e => by have := (yb _ e).1; omega))
  have gs : w5.grownBy (w5.setCell ⟨gb, 3, none⟩ (.slice (some ⟨g2, 0, none⟩) (kt + 1) cap)) (some gb) := grown_set
  have b6 : ∀ q, q < W.heap.size → (Value.slice xa kt xc).ownBlock ≠ some q → q ≠ gb → (w5.setCell ⟨gb, 3, none⟩ (.slice (some ⟨g2, 0, none⟩) (kt + 1) cap)).heap[q]? = W.heap[q]? := fun q h1 h2 h3 => (gs.block q (Nat.lt_of_lt_of_le h1 hgr.size) (fun e => h3 (by cases e; rfl))).trans (b5 q h1 h2)
  have rbl : rb < W.heap.size := by omega
  have rq : (Value.slice xa kt xc).ownBlock ≠ some rb := fun e => by have := (yb _ e).1; omega
  have ob : (Value.slice (some ⟨g2, 0, none⟩) (kt + 1) cap).ownBlock = some g2 := rfl
  have gn : ∀ q, q < W.heap.size → (Value.slice xa kt xc).ownBlock ≠ some q → g2 ≠ q := fun q h1 h2 e => by
    rcases hat with z | z
    · exact h2 (by rw [z, e])
    · omega
  refine ⟨⟨(cf 3).trans h.c3, (ff 3).trans (h.fr 3)⟩, hgr, ⟨grown_trans (grown_trans h.gr hgr (.inr (fun q hq => by have := (yb q hq).1; omega))) gs (.inr (fun q hq => by cases hq; omega)), fun j hj => ?_, fun j => ?_, ?_, ?_, ?_, ?_, fun j => ?_, ?_, hge, hwr, h.gn, ?_, ?_, fun q hq e => ?_, fun t' ht' => ?_⟩⟩
  · rw [World.cell?_of_block (a := ⟨rb, j, none⟩) (b6 rb rbl rq (by omega))]; exact h.r j hj
  · rw [World.frozen?_of_block (a := ⟨rb, j, none⟩) (b6 rb rbl rq (by omega))]; exact h.rf j
  · rw [World.cell?_setCell_other _ _ _ _ (by intro e; cases e)]; exact (cf 0).trans h.c0
  · rw [World.cell?_setCell_other _ _ _ _ (by intro e; cases e)]; exact (cf 1).trans h.c1
  · rw [World.cell?_setCell_other _ _ _ _ (by intro e; cases e)]; exact (cf 2).trans h.c2
  · exact World.cell?_setCell_same (u := .slice xa kt xc) _ _ _ ((cf 3).trans h.c3)
  · rw [World.frozen?_setCell]; exact (ff j).trans (h.fr j)
  · have := gs.size; have := hgr.size; omega
  · exact kept_not (kept_not h.ow hgr (fun q hq e => h.xy q hq e)) gs (fun q hq e => by cases e; have := (h.ow.lt _ hq).1; omega)
  · rw [List.map_append]
    exact kept_not hown gs (fun q hq e => by cases e; have := (hown.lt _ hq).1; omega)
  · rw [ob] at e
    cases e
    exact gn _ (h.ow.lt _ hq).2 (fun z => h.xy _ hq z) rfl
  · have one : ∀ t : Tc, RdN W t.1 t.2.1 → (∀ p, t.1 = some p → gb < p.block ∧ p.block < W.heap.size ∧ (Value.slice ya kw yc).ownBlock ≠ some p.block ∧ (Value.slice xa kt xc).ownBlock ≠ some p.block) → RdN (w5.setCell ⟨gb, 3, none⟩ (.slice (some ⟨g2, 0, none⟩) (kt + 1) cap)) t.1 t.2.1 ∧ ∀ p, t.1 = some p → gb < p.block ∧ p.block < (w5.setCell ⟨gb, 3, none⟩ (.slice (some ⟨g2, 0, none⟩) (kt + 1) cap)).heap.size ∧ (Value.slice ya kw yc).ownBlock ≠ some p.block ∧ (Value.slice (some ⟨g2, 0, none⟩) (kt + 1) cap).ownBlock ≠ some p.block := fun t t1 t2 => by
      refine ⟨rdN_same t1 (by have := gs.size; have := hgr.size; omega) (fun p hp => b6 _ (t2 p hp).2.1 (t2 p hp).2.2.2 (by have := (t2 p hp).1; omega)), fun p hp => ⟨(t2 p hp).1, by have := gs.size; have := hgr.size; have := (t2 p hp).2.1; omega, (t2 p hp).2.2.1, fun e => ?_⟩⟩
      rw [ob] at e
      cases e
      exact gn _ (t2 p hp).2.1 (t2 p hp).2.2.2 rfl
    rcases List.mem_append.1 ht' with z | z
    · exact one t' (h.tr t' z).1 (h.tr t' z).2
    · rw [List.mem_singleton] at z
      subst z
      exact one _ ht hp
/-- its first two numbers, written -/
theorem GW.setF {w : World} {g : Nat} {rb : Nat} {gb : Nat} {f : Int} {m : Int} {kw : Nat} {ya : Option Addr} {yc : Nat} {ws : List Int} {kt : Nat} {xa : Option Addr} {xc : Nat} {D : List Tc} {W : World} (h : GW w g rb gb f m kw ya yc ws kt xa xc D W) (x : Int) : GW w g rb gb x m kw ya yc ws kt xa xc D (W.setCell ⟨gb, 0, none⟩ (.int .i64 x)) := by
  have hge := h.ge
  have hlt := h.lt
  have hwr := h.wr
  have gs : W.grownBy (W.setCell ⟨gb, 0, none⟩ (.int .i64 x)) (some gb) := grown_set
  have b6 : ∀ q, q < W.heap.size → q ≠ gb → (W.setCell ⟨gb, 0, none⟩ (.int .i64 x)).heap[q]? = W.heap[q]? := fun q h1 h3 => gs.block q h1 (fun e => h3 (by cases e; rfl))
  have o : ∀ j u, j ≠ 0 → W.cell? ⟨gb, j, none⟩ = some u → (W.setCell ⟨gb, 0, none⟩ (.int .i64 x)).cell? ⟨gb, j, none⟩ = some u := fun j u hj hu => cell_set_other hu (fun e => hj e.symm)
  refine ⟨grown_trans h.gr gs (.inr (fun q hq => by cases hq; omega)), fun j hj => ?_, fun j => ?_, cell_set_same h.c0, o _ _ (by decide) h.c1, o _ _ (by decide) h.c2, o _ _ (by decide) h.c3, fun j => frozen_set (h.fr j), by simpa using hlt, hge, hwr, h.gn, kept_not h.ow gs (fun q hq e => by cases e; have := (h.ow.lt _ hq).1; omega), kept_not h.ox gs (fun q hq e => by cases e; have := (h.ox.lt _ hq).1; omega), h.xy, fun t ht => ?_⟩
  · rw [World.cell?_of_block (a := ⟨rb, j, none⟩) (b6 rb (by omega) (by omega))]; exact h.r j hj
  · rw [World.frozen?_of_block (a := ⟨rb, j, none⟩) (b6 rb (by omega) (by omega))]; exact h.rf j
  · obtain ⟨t1, t2⟩ := h.tr t ht
    exact ⟨rdN_same t1 gs.size (fun p hp => b6 _ (t2 p hp).2.1 (by have := (t2 p hp).1; omega)), fun p hp => ⟨(t2 p hp).1, Nat.lt_of_lt_of_le (t2 p hp).2.1 gs.size, (t2 p hp).2.2⟩⟩
theorem GW.setM {w : World} {g : Nat} {rb : Nat} {gb : Nat} {f : Int} {m : Int} {kw : Nat} {ya : Option Addr} {yc : Nat} {ws : List Int} {kt : Nat} {xa : Option Addr} {xc : Nat} {D : List Tc} {W : World} (h : GW w g rb gb f m kw ya yc ws kt xa xc D W) (x : Int) : GW w g rb gb f x kw ya yc ws kt xa xc D (W.setCell ⟨gb, 1, none⟩ (.int .i64 x)) := by
  have hge := h.ge
  have hlt := h.lt
  have hwr := h.wr
  have gs : W.grownBy (W.setCell ⟨gb, 1, none⟩ (.int .i64 x)) (some gb) := grown_set
  have b6 : ∀ q, q < W.heap.size → q ≠ gb → (W.setCell ⟨gb, 1, none⟩ (.int .i64 x)).heap[q]? = W.heap[q]? := fun q h1 h3 => gs.block q h1 (fun e => h3 (by cases e; rfl))
  have o : ∀ j u, j ≠ 1 → W.cell? ⟨gb, j, none⟩ = some u → (W.setCell ⟨gb, 1, none⟩ (.int .i64 x)).cell? ⟨gb, j, none⟩ = some u := fun j u hj hu => cell_set_other hu (fun e => hj e.symm)
  refine ⟨grown_trans h.gr gs (.inr (fun q hq => by cases hq; omega)), fun j hj => ?_, fun j => ?_, o _ _ (by decide) h.c0, cell_set_same h.c1, o _ _ (by decide) h.c2, o _ _ (by decide) h.c3, fun j => frozen_set (h.fr j), by simpa using hlt, hge, hwr, h.gn, kept_not h.ow gs (fun q hq e => by cases e; have := (h.ow.lt _ hq).1; omega), kept_not h.ox gs (fun q hq e => by cases e; have := (h.ox.lt _ hq).1; omega), h.xy, fun t ht => ?_⟩
  · rw [World.cell?_of_block (a := ⟨rb, j, none⟩) (b6 rb (by omega) (by omega))]; exact h.r j hj
  · rw [World.frozen?_of_block (a := ⟨rb, j, none⟩) (b6 rb (by omega) (by omega))]; exact h.rf j
  · obtain ⟨t1, t2⟩ := h.tr t ht
    exact ⟨rdN_same t1 gs.size (fun p hp => b6 _ (t2 p hp).2.1 (by have := (t2 p hp).1; omega)), fun p hp => ⟨(t2 p hp).1, Nat.lt_of_lt_of_le (t2 p hp).2.1 gs.size, (t2 p hp).2.2⟩⟩
/-- a tree that is new lies apart -/
theorem GW.fresh {w : World} {g : Nat} {rb : Nat} {gb : Nat} {f : Int} {m : Int} {kw : Nat} {ya : Option Addr} {yc : Nat} {ws : List Int} {kt : Nat} {xa : Option Addr} {xc : Nat} {D : List Tc} {W : World} (h : GW w g rb gb f m kw ya yc ws kt xa xc D W) {W' : World} {va : Option Addr} {vc : Nat} {TS : List M.Nd} (ho : W'.ownsRow W.heap.size 49 6 (.slice va TS.length vc) TS.length (ndCells TS)) (hl : TS.length ≤ 1000) : RdN W' va TS ∧ ∀ p, va = some p → gb < p.block ∧ p.block < W'.heap.size ∧ (Value.slice ya kw yc).ownBlock ≠ some p.block ∧ (Value.slice xa kt xc).ownBlock ≠ some p.block := by
  obtain ⟨a2, c2, e2, hr, hp⟩ := own_rdN rfl (by unfold maxLen; omega) ho
  rw [Value.slice.injEq] at e2
  have ea := e2.1
  subst ea
  refine ⟨hr, fun p hp' => ?_⟩
  have b1 := hp p hp'
  have b2 := h.lt
  refine ⟨by omega, ?_, fun e => by have := (h.ow.lt _ e).2; omega, fun e => by have := (h.ox.lt _ e).2; omega⟩
  subst hp'
  exact (ho.lt p.block rfl).2
theorem grown4_at {W : World} {p : Nat} {x0 x1 x2 x3 : Value} : W.grownBy ((((W.setCell ⟨p, 0, none⟩ x0).setCell ⟨p, 1, none⟩ x1).setCell ⟨p, 2, none⟩ x2).setCell ⟨p, 3, none⟩ x3) (some p) :=
  grown_trans (grown_trans (grown_trans grown_set grown_set (.inl rfl)) grown_set (.inl rfl)) grown_set (.inl rfl)
theorem M.lTree_len (b : List Nat) (s : M.In) : (M.lTree b s).1.length ≤ 63 := by
  have := M.rMany_in (b := b) (s := s) (most := 63) (by decide)
  unfold M.lTree
  rw [M.lNodes_len]
  omega
/-- a grove whose weights and trees lie in blocks that are new, and are read as long as these stay -/
def NewH (W w' : World) (J : Gr) : Prop := ∀ W'' : World, w'.heap.size ≤ W''.heap.size → (∀ b, W.heap.size ≤ b → b < w'.heap.size → W''.heap[b]? = w'.heap[b]?) → RdG W'' J
/-- what is handed out, written: a grove in new blocks -/
theorem GW.out_at {w : World} {g : Nat} {rb : Nat} {gb : Nat} {f : Int} {m : Int} {kw : Nat} {ya : Option Addr} {yc : Nat} {ws : List Int} {kt : Nat} {xa : Option Addr} {xc : Nat} {D : List Tc} {W : World} (h : GW w g rb gb f m kw ya yc ws kt xa xc D W) (hw : ws.length = kw) (hD : D.length = kt) (hk : kt ≤ 1000) (W'' : World) (hz : W.heap.size ≤ W''.heap.size) (hb : ∀ q, gb < q → q < W.heap.size → W''.heap[q]? = W.heap[q]?) : RdG W'' ⟨f, m, ya, ws, yc, xa, D, xc⟩ := by
  have cc : ∀ q j, gb < q → q < W.heap.size → W''.cell? ⟨q, j, none⟩ = W.cell? ⟨q, j, none⟩ := fun q j h1 h2 => World.cell?_of_block (a := ⟨q, j, none⟩) (hb q h1 h2)
  subst hw
  subst hD
  refine ⟨?_, ⟨by unfold maxLen; show D.length ≤ _; omega, fun t ht => ?_, fun hn => ?_⟩⟩
  · obtain ⟨a2, c2, e2, hr, _⟩ := own_rd h.ow
    refine ⟨hr.1, fun hn => ?_⟩
    rcases h.ow.2 with ⟨_, h0⟩ | ⟨q, cap, cur, hv, hbq, hgq, _⟩
    · exact absurd (List.length_eq_zero_iff.1 h0) hn
    · rw [Value.slice.injEq] at hv
      have ql := (Array.getElem?_eq_some_iff.1 hgq).1
      refine ⟨q, 0, hv.1, by omega, fun i hi => ?_⟩
      have hi' : i < ws.length := hi
      rw [cc q _ (by omega) ql, Nat.zero_add]
      have ho := h.ow
      rw [hv.1] at ho
      rw [ho.cellAt i (by omega), List.getElem?_map, List.getElem?_eq_getElem hi']
      simp [List.getD, hi']
  · obtain ⟨t1, t2⟩ := h.tr t ht
    refine ⟨t1.1, fun hn => ?_⟩
    obtain ⟨b, off, e, hl, hcc⟩ := t1.2 hn
    have k : ∀ j v, W.cell? ⟨b, j, none⟩ = some v → W''.cell? ⟨b, j, none⟩ = some v := fun j v hv => (cc b j (t2 _ e).1 hl).trans hv
    exact ⟨b, off, e, by omega, fun i hi => ⟨k _ _ (hcc i hi).1, k _ _ (hcc i hi).2.1, k _ _ (hcc i hi).2.2.1, k _ _ (hcc i hi).2.2.2.1, k _ _ (hcc i hi).2.2.2.2.1, k _ _ (hcc i hi).2.2.2.2.2⟩⟩
  · rcases h.ox.2 with ⟨_, h0⟩ | ⟨q, cap, cur, hv, hbq, hgq, _⟩
    · exact absurd (List.length_eq_zero_iff.1 h0) hn
    · rw [Value.slice.injEq] at hv
      have ql := (Array.getElem?_eq_some_iff.1 hgq).1
      refine ⟨q, 0, hv.1, by omega, fun i hi => ?_⟩
      have hi' : i < D.length := hi
      rw [cc q _ (by omega) ql, Nat.zero_add]
      have ho := h.ox
      rw [hv.1] at ho
      rw [ho.cellAt i (by omega), List.getElem?_map, List.getElem?_eq_getElem hi']
      rfl
theorem GW.out {w : World} {g : Nat} {rb : Nat} {gb : Nat} {f : Int} {m : Int} {kw : Nat} {ya : Option Addr} {yc : Nat} {ws : List Int} {kt : Nat} {xa : Option Addr} {xc : Nat} {D : List Tc} {W : World} (h : GW w g rb gb f m kw ya yc ws kt xa xc D W) (hw : ws.length = kw) (hD : D.length = kt) (hk : kt ≤ 1000) {W' : World} (hs : W'.grownBy W' none → W.heap.size ≤ W'.heap.size) (hb : ∀ q, gb < q → q < W.heap.size → W'.heap[q]? = W.heap[q]?) : NewH w W' ⟨f, m, ya, ws, yc, xa, D, xc⟩ := by
  have hz := hs (World.grownBy.refl _ _)
  have hge := h.ge
  have hwr := h.wr
  intro W'' hs'' hc''
  exact h.out_at hw hD hk W'' (by omega) (fun q h1 h2 => (hc'' q (by omega) (by omega)).trans (hb q h1 h2))

end Go.Proofs.YtnmddlgcbljjdaaDoor

namespace Go.Proofs.YtnmddlgcbljjdaaDoor
open Go.ChangeShapes Go.WideShapes Go.ChangeAt Go.RowKit Go.Lib
set_option linter.unusedVariables false

theorem infoTs : (Tryd.prog.info? 47).map (fun i => (i.zero, i.size, i.bytes)) = some (some (.slice none 0 0), 1, 24) := by kernel_rfl
/-- so many trees, whatever is wrong -/
def M.lTrees (b : List Nat) : Nat → M.In → List (Int × List M.Nd) × M.In
  | 0, s => ([], s)
  | k + 1, s => (((M.rNum b s).1, (M.lTree b (M.rNum b s).2).1) :: (M.lTrees b k (M.lTree b (M.rNum b s).2).2).1, (M.lTrees b k (M.lTree b (M.rNum b s).2).2).2)
def M.lAll (b : List Nat) : List (Int × List M.Nd) × M.In := M.lTrees b (M.rHead b).1.2.2.toNat (M.rHead b).2
def M.lGrove (b : List Nat) : M.Gv := ((M.rHead b).1.1, (M.rHead b).1.2.1, (M.lAll b).1.map (·.1), (M.lAll b).1.map (·.2))
theorem M.lTree_bad {b : List Nat} {s : M.In} (h : s.bad ≠ 0) : (M.lTree b s).2 = s := by
  unfold M.lTree M.rMany
  rw [M.rNum_bad h, if_neg (fun z => h z.1), if_pos h]
  exact M.lNodes_bad _ h
theorem M.lTrees_bad {b : List Nat} : ∀ (k : Nat) {s : M.In}, s.bad ≠ 0 → (M.lTrees b k s).2 = s
  | 0, s, h => rfl
  | k + 1, s, h => by
    show (M.lTrees b k (M.lTree b (M.rNum b s).2).2).2 = s
    rw [M.rNum_bad h, M.lTree_bad h]
    exact M.lTrees_bad k h
theorem M.lTree_is (b : List Nat) (s : M.In) : (M.lTree b (M.rNum b s).2).2 = (M.rTree b s).2 ∧ ((M.rTree b s).2.bad = 0 → ((M.rNum b s).1, (M.lTree b (M.rNum b s).2).1) = (M.rTree b s).1) := by
  have := M.lNodes_is (b := b) (M.rMany b 63 (M.rNum b s).2).1.toNat (M.rMany b 63 (M.rNum b s).2).2
  exact ⟨this.1, fun h => by show (_, (M.lNodes b _ _).1) = _; rw [this.2 h]; rfl⟩
theorem M.rTrees_bad {b : List Nat} {s : M.In} (h : s.bad ≠ 0) (k : Nat) : M.rTrees b k s = ([], s) := by
  cases k with
  | zero => rfl
  | succ k => show (if _ then _ else _) = _; rw [if_pos h]
theorem M.lTrees_is {b : List Nat} : ∀ (k : Nat) (s : M.In), (M.lTrees b k s).2 = (M.rTrees b k s).2 ∧ ((M.rTrees b k s).2.bad = 0 → (M.lTrees b k s).1 = (M.rTrees b k s).1)
  | 0, s => ⟨rfl, fun _ => rfl⟩
  | k + 1, s => by
    by_cases q : s.bad = 0
    · have e : M.rTrees b (k + 1) s = ((M.rTree b s).1 :: (M.rTrees b k (M.rTree b s).2).1, (M.rTrees b k (M.rTree b s).2).2) := by
        show (if _ then _ else _) = _
        rw [if_neg (by simp [q])]
      have t := M.lTree_is b s
      have ih := M.lTrees_is (b := b) k (M.rTree b s).2
      have el : M.lTrees b (k + 1) s = (((M.rNum b s).1, (M.lTree b (M.rNum b s).2).1) :: (M.lTrees b k (M.rTree b s).2).1, (M.lTrees b k (M.rTree b s).2).2) := by
        show (_ :: (M.lTrees b k (M.lTree b (M.rNum b s).2).2).1, (M.lTrees b k (M.lTree b (M.rNum b s).2).2).2) = _
        rw [t.1]
      rw [e, el]
      refine ⟨ih.1, fun h => ?_⟩
      have hb : (M.rTree b s).2.bad = 0 := by
        by_cases z : (M.rTree b s).2.bad = 0
        · exact z
        · have h' : (M.rTrees b k (M.rTree b s).2).2.bad = 0 := h
          rw [M.rTrees_bad z] at h'
          exact absurd h' z
      show _ :: _ = _ :: _
      rw [t.2 hb, ih.2 h]
    · rw [M.rTrees_bad q]
      exact ⟨M.lTrees_bad (k + 1) q, fun h => absurd h q⟩
theorem M.lAll_is (b : List Nat) : (M.lAll b).2 = (M.rAll b).2 ∧ ((M.rAll b).2.bad = 0 → M.lGrove b = M.rGrove b) := by
  have := M.lTrees_is (b := b) (M.rHead b).1.2.2.toNat (M.rHead b).2
  refine ⟨this.1, fun h => ?_⟩
  have e : (M.lAll b).1 = (M.rAll b).1 := this.2 h
  unfold M.lGrove M.rGrove
  rw [e]
theorem M.lTrees_len {b : List Nat} : ∀ (k : Nat) (s : M.In), (M.lTrees b k s).1.length = k
  | 0, s => rfl
  | k + 1, s => by show (M.lTrees b k _).1.length + 1 = k + 1; rw [M.lTrees_len k]

set_option maxHeartbeats 16000000 in
set_option maxRecDepth 10000 in
theorem groveR {w : World} {g : Nat} {a : Option Addr} {bs : List Nat} {c : Nat} (h : Rdr w g a bs c M.in0) : Calls Tryd.prog 22 #[.pointer (some ⟨g, 0, none⟩)] w fun e w' => ∃ O : Gr, e = .returned O.v ∧ O.m = M.lGrove bs ∧ NewH w w' O ∧ Rdr w' g a bs c (M.lAll bs).2 ∧ w.grownBy w' (some g) := by
  have GL := hide h.lt
  have H0 := hide h
  have HA := hide (h.alloc (.cells #[.int .i64 0, .int .i64 0, .slice none 0 0, .slice none 0 0] 25))
  obtain ⟨⟨n1, s1⟩, h1⟩ : ∃ R, M.rNum bs M.in0 = R := ⟨_, rfl⟩
  obtain ⟨⟨n2, s2⟩, h2⟩ : ∃ R, M.rNum bs s1 = R := ⟨_, rfl⟩
  obtain ⟨⟨m3, s3⟩, h3⟩ : ∃ R, M.rMany bs 12 s2 = R := ⟨_, rfl⟩
  have N1 := hide (fun (W : World) (h : Rdr W g a bs c M.in0) => numR h)
  have N2 := hide (fun (W : World) (h : Rdr W g a bs c s1) => numR h)
  have C3 := hide (fun (W : World) (h : Rdr W g a bs c s2) => cntR 12 h)
  have mi := M.rMany_in (b := bs) (s := s2) (most := 12) (by decide)
  rw [h1] at N1
  rw [h2] at N2
  rw [h3] at C3 mi
  have EH : Hid (M.rHead bs = ((n1, n2, m3), s3)) := by
    unfold Hid M.rHead
    rw [h1]
    simp only
    rw [h2]
    simp only
    rw [h3]
  obtain ⟨n, rfl⟩ : ∃ n : Nat, m3 = (n : Int) := ⟨m3.toNat, by simp only at mi; omega⟩
  have n12 : n ≤ 12 := by simp only at mi; omega
  have EA : Hid (M.lAll bs = M.lTrees bs n s3) := by
    unfold Hid M.lAll
    rw [EH.out]
    simp only [Int.toNat_natCast]
  have EG : Hid (M.lGrove bs = (n1, n2, (M.lAll bs).1.map (·.1), (M.lAll bs).1.map (·.2))) := by
    unfold Hid M.lGrove
    rw [EH.out]
  clear h h1 h2 h3 mi EH
  generalize M.lAll bs = Z at *
  generalize M.lGrove bs = G at *
  simp only at N1 N2 C3
  go_enter Tryd.func22, Tryd.ntmps22
  go_upto_region 2 with (first
    | (go_at_call 34; refine (N2.out _ I1.out).mono ?_; rintro e w2 ⟨rfl, i2, g2⟩; have I2 := hide i2; have G2 := hide (grown_trans G1.out g2 (.inl rfl)); clear i2 g2)
    | (go_at_call 34; refine (N1.out _ HA.out).mono ?_; rintro e w1 ⟨rfl, i1, g1⟩; have I1 := hide i1; have G1 := hide g1; clear i1 g1))
  have GW0 : Hid (GW w g w.heap.size w2.heap.size n1 n2 0 none 0 [] 0 none 0 [] (w2.alloc (.cells #[.int .i64 n1, .int .i64 n2, .slice none 0 0, .slice none 0 0] 25))) := GW.new G2.out GL.out
  have I2a := hide (I2.out.alloc (.cells #[.int .i64 n1, .int .i64 n2, .slice none 0 0, .slice none 0 0] 25))
  obtain ⟨gb, hgb⟩ : ∃ gb, gb = w2.heap.size := ⟨_, rfl⟩
  rw [← hgb] at GW0
  simp only [← hgb]
  have HGB := hide hgb
  clear hgb G1 G2 I1 I2 N1 N2 HA
  go_wp2_with (go_at_call 35; refine (C3.out _ I2a.out).mono ?_; rintro e w3 ⟨rfl, i3, g3⟩; have I3 := hide i3; have W3 := hide (GW0.out.rdr g3); clear i3 g3)
  clear C3 I2a GW0
  obtain ⟨i0, hi0, hz0, hz1, hz2⟩ := info_parts info3
  have J0 := hide hi0
  obtain ⟨t0, ht0, hy0, hy1, hy2⟩ := info_parts infoTs
  have J1 := hide ht0
  have NN := hide (fun (W : World) (s : M.In) (h : Rdr W g a bs c s) => numR h)
  have TT := hide (fun (W : World) (s : M.In) (h : Rdr W g a bs c s) => treeR h)
  have NA : Hid (∀ k s, M.lTrees bs (k + 1) s = (((M.rNum bs s).1, (M.lTree bs (M.rNum bs s).2).1) :: (M.lTrees bs k (M.lTree bs (M.rNum bs s).2).2).1, (M.lTrees bs k (M.lTree bs (M.rNum bs s).2).2).2)) := fun _ _ => rfl
  clear hi0 ht0
  go_loopw [11] (fun i wr => ∃ (k : Nat) (ya : Option Addr) (yc : Nat) (xa : Option Addr) (xc : Nat) (P : List (Int × List M.Nd)) (D : List Tc) (s' : M.In), k ≤ n ∧ i = .int .i64 k ∧ Hid (P.length = k ∧ D.length = k ∧ tl D = P.map (·.2)) ∧ Hid (Z = (P ++ (M.lTrees bs (n - k) s').1, (M.lTrees bs (n - k) s').2)) ∧ Hid (Rdr wr g a bs c s') ∧ Hid (GW w g w.heap.size gb n1 n2 k ya yc (P.map (·.1)) k xa xc D wr)) (fun i _ => n - (intOf i).toNat)
  case atStart => exact ⟨0, none, 0, none, 0, [], [], s3, Nat.zero_le _, rfl, ⟨rfl, rfl, rfl⟩, by rw [Nat.sub_zero]; exact EA, I3, W3⟩
  case round =>
    obtain ⟨k, ya, yc, xa, xc, P, D, s', hk, rfl, LK, EZ, RR, GG⟩ := hrel
    by_cases hlt : k < n
    · have kz : (k : Int) < (n : Int) := by omega
      have na := NA.out (n - (k + 1)) s'
      rw [show n - (k + 1) + 1 = n - k by omega] at na
      have ez := EZ.out
      rw [na] at ez
      have M1 := hide (NN.out wr.drew s' (RR.out.up (Below.refl _ wr).drew))
      obtain ⟨⟨x1, t1⟩, e1⟩ : ∃ R, M.rNum bs s' = R := ⟨_, rfl⟩
      rw [e1] at M1 ez
      have M2 := hide (fun (W : World) (h : Rdr W g a bs c t1) => TT.out W t1 h)
      have TL := hide (M.lTree_len bs t1)
      obtain ⟨⟨TS, t2⟩, e2⟩ : ∃ R, M.lTree bs t1 = R := ⟨_, rfl⟩
      rw [e2] at TL
      simp only at TL
      rw [e2] at M2
      simp only at ez M1
      rw [e2] at ez
      simp only at ez M2
      have c2 := GG.out.c2
      have gbz := GG.out.lt
      clear na NN TT NA EZ e1 e2
      go_upto_region 4 with fail
      go_region_law (first
        | (refine step_append_lies _ rfl (.tmp 14) (.tmp 17) 22 rfl (gb + 1) 3 i0 (.int .i64 0) 1 8 Tryd.underlying22 J0.out hz0 hz1 hz2 rfl (by omega) (.slice ya k yc) k ((P.map (·.1)).map (Value.int .i64)) rfl (by exact G4.out.ow.alloc _) ⟨w4.heap.size, 0, none⟩ 1 1 [.int .i64 x1] rfl rfl (World.news_of_block (by first | exact heap_alloc_new _ _ | (simp; done))) (by simp [Value.oneCell']) (by omega) (by unfold maxLen; omega) (by omega) (by simp; omega) (w4.heap.size + 1) (by simp) ?_; intro g7 c7 w7 hov7 hgrow7 hat7 hlt7; have K7 := G4.out.weight hov7 hgrow7 hat7; have z2 := K7.1.1; have zf := K7.1.2; have G7 := hide K7.2.2; have R7 := hide (H0.out.far (H0.out.far I4.out K7.2.1 (fun q hq => by have := (G4.out.ow.lt q hq).1; have := G4.out.ge; omega)) (grown_set (g := gb) (o := 2) (u := .slice (some ⟨g7, 0, none⟩) (k + 1) c7)) (fun q hq => by cases hq; have := G4.out.ge; omega)); clear hov7 hgrow7 hat7 hlt7 K7)
        | (go_simp; go_at_call 34; refine M1.out.mono ?_; rintro e w4 ⟨rfl, i4, g4⟩; have I4 := hide i4; have G4 := hide (GG.out.rdr (grown_undrew g4)); have d2 := G4.out.c2; have d2a := fun o => (((Below.refl w4.heap.size w4).alloc (Nat.le_refl _) o).cell (p := ⟨gb, 2, none⟩) G4.out.lt).trans G4.out.c2; have w4z := G4.out.lt; clear i4 g4))
      all_goals (
        obtain ⟨w8, hw8⟩ : ∃ X, X = w7.setCell ⟨gb, 2, none⟩ (.slice (some ⟨g7, 0, none⟩) (k + 1) c7) := ⟨_, rfl⟩
        rw [← hw8] at G7 R7 ⊢
        have M3 := hide (M2.out w8.drew (R7.out.up (Below.refl _ w8).drew))
        have c3 := G7.out.c3
        clear hw8 z2 zf d2 d2a c2 M1 M2 G4 I4 gbz w4z GG RR
        go_upto_region 5 with fail
        go_region_law (first
          | (refine step_append_lies _ rfl (.tmp 21) (.tmp 24) 23 rfl (gb + 1) 47 t0 (.slice none 0 0) 1 24 Tryd.underlying23 J1.out hy0 hy1 hy2 rfl (by omega) (.slice xa k xc) k (D.map tV) rfl (by exact G9.out.ox.alloc _) ⟨w9.heap.size, 0, none⟩ 1 1 [.slice va TS.length vc] rfl rfl (World.news_of_block (by first | exact heap_alloc_new _ _ | (simp; done))) (by intro u hu; rw [List.mem_singleton] at hu; subst hu; rfl) (by omega) (by unfold maxLen; omega) (by omega) (by simp; omega) (w9.heap.size + 1) (by simp) ?_; intro g12 c12 w12 hov hgrow hat hlt12; have K12 := G9.out.tree (t := (va, TS, vc)) T9.out.1 T9.out.2 hov hgrow hat; have z2 := K12.1.1; have zf := K12.1.2; have G12 := hide K12.2.2; have R12 := hide (H0.out.far (H0.out.far I9.out K12.2.1 (fun q hq => by have := (G9.out.ox.lt q hq).1; have := G9.out.ge; omega)) (grown_set (g := gb) (o := 3) (u := .slice (some ⟨g12, 0, none⟩) (k + 1) c12)) (fun q hq => by cases hq; have := G9.out.ge; omega)); clear hov hgrow hat hlt12 K12)
          | (go_simp; go_at_call 36; refine M3.out.mono ?_; rintro e w9 ⟨va, vc, rfl, o9, i9, g9⟩; have I9 := hide i9; have G9 := hide (G7.out.rdr (grown_undrew g9)); have T9 := hide (G7.out.fresh o9 (by have := TL.out; omega)); have d2 := G9.out.c3; have d2a := fun o => (((Below.refl w9.heap.size w9).alloc (Nat.le_refl _) o).cell (p := ⟨gb, 3, none⟩) G9.out.lt).trans G9.out.c3; have w9z := G9.out.lt; clear i9 g9 o9))
        all_goals (
          obtain ⟨w13, hw13⟩ : ∃ X, X = w12.setCell ⟨gb, 3, none⟩ (.slice (some ⟨g12, 0, none⟩) (k + 1) c12) := ⟨_, rfl⟩
          rw [← hw13] at G12 R12 ⊢
          have E2 : Hid (Z = ((P ++ [(x1, TS)]) ++ (M.lTrees bs (n - (k + 1)) t2).1, (M.lTrees bs (n - (k + 1)) t2).2)) := by
            unfold Hid; rw [ez, List.append_assoc]; rfl
          have LK2 : Hid ((P ++ [(x1, TS)]).length = k + 1 ∧ (D ++ [(va, TS, vc)]).length = k + 1 ∧ tl (D ++ [(va, TS, vc)]) = (P ++ [(x1, TS)]).map (·.2)) := by
            obtain ⟨l1, l2, l3⟩ := LK.out
            refine ⟨by rw [List.length_append, l1]; rfl, by rw [List.length_append, l2]; rfl, ?_⟩
            unfold tl at l3 ⊢
            rw [List.map_append, List.map_append, l3]
            rfl
          have G13 : Hid (GW w g w.heap.size gb n1 n2 (k + 1) (some ⟨g7, 0, none⟩) c7 ((P ++ [(x1, TS)]).map (·.1)) (k + 1) (some ⟨g12, 0, none⟩) c12 (D ++ [(va, TS, vc)]) w13) := by
            unfold Hid; rw [List.map_append]; exact G12.out
          clear hw13 z2 zf d2 d2a c3 M3 G7 R7 G9 I9 T9 w9z G12 ez
          go_wp2
          go_roundw
          case rel => exact ⟨k + 1, _, _, _, _, P ++ [(x1, TS)], D ++ [(va, TS, vc)], t2, by omega, by go_num, LK2, E2, R12, G13⟩
          case measure => simp [intOf]; omega))
    · have ek : k = n := by omega
      have kz : ¬ ((k : Int) < (n : Int)) := by omega
      have EZ2 : Hid (Z = (P, s')) := by
        have := EZ.out
        rw [ek, Nat.sub_self] at this
        unfold Hid
        rw [this]
        show (P ++ [], _) = _
        rw [List.append_nil]
        rfl
      have y0 := GG.out.c0
      have y1 := GG.out.c1
      have y2 := GG.out.c2
      have y3 := GG.out.c3
      obtain ⟨v0, x0⟩ := GG.out.r 0 (by omega)
      obtain ⟨v1, x1⟩ := GG.out.r 1 (by omega)
      obtain ⟨v2, x2⟩ := GG.out.r 2 (by omega)
      obtain ⟨v3, x3⟩ := GG.out.r 3 (by omega)
      have f0 := GG.out.rf 0
      have f1 := GG.out.rf 1
      have f2 := GG.out.rf 2
      have f3 := GG.out.rf 3
      have KN := hide ek
      clear EZ NN TT NA EA ek
      go_wp2
      obtain ⟨e0, e1, e2, e3⟩ := put4_at (x0 := .int .i64 n1) (x1 := .int .i64 n2) (x2 := .slice ya k yc) (x3 := .slice xa k xc) x0 x1 x2 x3
      obtain ⟨l1, l2, l3⟩ := LK.out
      refine bodyPost_ret (v := .agg #[.int .i64 n1, .int .i64 n2, .slice ya k yc, .slice xa k xc]) (by simp [results, Tryd.results22, go_sem, e0, e1, e2, e3]) rfl ?_
      have gg := GG.out.ge
      have gz := GG.out.lt
      refine ⟨⟨n1, n2, ya, P.map (·.1), yc, xa, D, xc⟩, ?_, ?_, ?_, ?_, ?_⟩
      · unfold Gr.v
        simp only [List.length_map, l1, l2]
      · rw [EG.out, EZ2.out]
        unfold Gr.m
        rw [l3]
      · exact GG.out.out (by rw [List.length_map]; exact l1) l2 (by omega) (fun _ => grown4_at.size) (fun q h1 h2 => grown4_at.block q h2 (fun e => by cases e; omega))
      · rw [EZ2.out]
        exact H0.out.far RR.out grown4_at (fun q hq => by cases hq; exact Nat.le_refl _)
      · exact grown_trans GG.out.gr grown4_at (.inr (fun q hq => by cases hq; exact Nat.le_refl _))

end Go.Proofs.YtnmddlgcbljjdaaDoor
