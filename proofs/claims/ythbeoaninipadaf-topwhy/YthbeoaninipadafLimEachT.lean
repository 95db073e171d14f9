/-
  What limit.EachLeaf does with the closure of limit.Tree.
-/
import Derived.Test.YthbeoaninipadafLimTi
import Derived.Test.YthbeoaninipadafLimIn
import Derived.Test.YthbeoaninipadafLimBad
import Derived.Test.YthbeoaninipadafPWit
import Derived.Test.YthbeoaninipadafPReach
import Derived.Test.YthbeoaninipadafPRegions
import Derived.Deep.Cut
import Derived.Deep.CutRange
namespace Go.Proofs.Ythbeoaninipadaf
open Go.ChangeShapes Go.WideShapes Go.ChangeAt Go.RowKit Go.Lib
set_option linter.unusedVariables false

set_option maxHeartbeats 8000000 in
set_option maxRecDepth 10000 in
theorem each_tree (a bl : Option Addr) (ts : List M.Nd) (ss : List M.Sp) (ca cl : Nat) (w : World) (B p q : Nat) (W : World) (ht : RdN w a ts) (hs : RdS w bl ss) (h : M.limF ts ss = 0) (h0 : TI w B p q M.ends0 W) (lp : p < B) (lq : q < B) (pq : p ≠ q) (gp : w.heap.size ≤ p) (gq : w.heap.size ≤ q) :
    Calls Try.prog 33 #[.slice a ts.length ca, .slice bl ss.length cl, .func (.func 34) #[] #[.pointer (some ⟨p, 0, none⟩), .pointer (some ⟨q, 0, none⟩)]] W fun e w' => e = .returned .nilIface ∧ TI w B p q (M.endsK ts ss ts.length) w' := by
  obtain ⟨h1, h2⟩ := M.lim_ok h
  obtain ⟨F, _⟩ := M.tree_ok h2
  have l8 := (M.sp_zero h1).1
  have l63 := F.1
  have WI := hide (witness_any bl ss cl W (hs.below h0.below))
  have RE := hide (fun W' (hW : Below w.heap.size w W') => reach_new a ts ca (ss.length : Int) W' (ht.below hW))
  have hm : ss.length ≤ 9223372036854775807 := hs.1
  rw [err_nil h1] at WI
  rw [err_nil h2] at RE
  have rv : M.rchV ts (ss.length : Int) = M.rch ts ss.length ts.length := by unfold M.rchV; rw [if_pos h2, Int.toNat_natCast]
  rw [rv] at RE
  have AT : Hid (∀ k, k < (M.rch ts ss.length ts.length).length → ∃ j : Nat, (M.rch ts ss.length ts.length).getD k 0 = (j : Int) ∧ j < ts.length ∧ M.leafB (M.nAt ts j) = true) := fun k hk => M.rch_at hk
  have RL := M.rch_len ts ss.length ts.length
  have FM : Hid (∀ k, k < (M.rch ts ss.length ts.length).length → M.fedL ts ss ((M.rch ts ss.length ts.length).take (k + 1)) = M.fed ts ss (M.fedL ts ss ((M.rch ts ss.length ts.length).take k)) ((M.rch ts ss.length ts.length).getD k 0).toNat) := fun k hk => M.fed_more ts ss _ hk
  have FE : Hid (M.fedL ts ss ((M.rch ts ss.length ts.length).take (M.rch ts ss.length ts.length).length) = M.endsK ts ss ts.length) := by unfold Hid; rw [List.take_length]; exact M.fed_rch ts ss ts.length
  have PR : Hid (∀ j : Nat, j < ts.length → M.leafB (M.nAt ts j) = true → ∀ W', Below w.heap.size w W' → Calls Try.prog 16 #[.slice a ts.length ca, .int .i64 (ss.length : Nat), .int .i64 (j : Nat)] W' fun e w' => ∃ ag cg bb, e = .returned (.tuple #[.slice ag ss.length cg, .bool bb, .nilIface]) ∧ RdS w' ag ((M.region ts ss.length j).map M.norm) ∧ Below W'.heap.size W' w') := fun j hj hl W' hW => by
    have := pregion_any a ts ca (ss.length : Int) (j : Int) W' (ht.below hW)
    obtain ⟨q1, q2⟩ := M.reg_at h2 hj hl
    rw [err_nil q1, q2] at this
    refine this.mono ?_
    rintro e w' ⟨ag, cg, rfl, g1, g2⟩
    refine ⟨ag, cg, _, by rw [show ((M.region ts ss.length j).map M.norm).length = ss.length by rw [M.nrm_len, M.region_len]], g1, g2⟩
  have IC : Hid (∀ j ag cg W', Below w.heap.size w W' → RdS W' ag ((M.region ts ss.length j).map M.norm) → Calls Try.prog 58 #[.slice ag ss.length cg, .slice bl ss.length cl] W' fun e w' => ∃ ag cg, e = .returned (.slice ag ss.length cg) ∧ RdS w' ag (M.meet ((M.region ts ss.length j).map M.norm) ss) ∧ Below W'.heap.size W' w') := fun j ag cg W' hW hr => by
    have hl : ((M.region ts ss.length j).map M.norm).length = ss.length := by rw [M.nrm_len, M.region_len]
    have := common_any ag bl _ ss cg cl W' hr (hs.below hW) hl (by omega)
    rw [hl, M.meet_len hl, hl] at this
    exact this
  have WY : Hid (∀ j, j < ts.length → M.anyS (M.meet (M.region ts ss.length j) ss) = true → ∀ ag cg W', RdS W' ag (M.meet ((M.region ts ss.length j).map M.norm) ss) → Calls Try.prog 56 #[.slice ag ss.length cg] W' fun e w' => ∃ cg, e = .returned (.tuple #[.slice (some ⟨W'.heap.size, 0, none⟩) (M.pick (M.meet (M.region ts ss.length j) ss)).length cg, .nilIface]) ∧ Rd w' (some ⟨W'.heap.size, 0, none⟩) (M.pick (M.meet (M.region ts ss.length j) ss)) ∧ Below W'.heap.size W' w' ∧ W'.heap.size < w'.heap.size) := fun j hj ha ag cg W' hr => by
    have hl : (M.meet ((M.region ts ss.length j).map M.norm) ss).length = ss.length := by rw [M.meet_len (by rw [M.nrm_len, M.region_len]), M.nrm_len, M.region_len]
    have := witness_new ag _ cg W' hr
    rw [hl, err_nil ((M.meet_sp F hj h1).2 ha), M.meet_wit F hj h1 ha] at this
    refine this.mono ?_
    rintro e w' ⟨ag', cg', rfl, g1, g2, g3⟩
    obtain ⟨rfl, g5⟩ := g3 ((M.meet_sp F hj h1).2 ha)
    exact ⟨cg', rfl, g1, g2, g5⟩
  have WN : Hid (∀ j, j < ts.length → M.anyS (M.meet (M.region ts ss.length j) ss) = false → ∀ ag cg W', RdS W' ag (M.meet ((M.region ts ss.length j).map M.norm) ss) → Calls Try.prog 56 #[.slice ag ss.length cg] W' fun e w' => ∃ v z, e = .returned (.tuple #[v, .iface 58 (.int .i64 z)]) ∧ Below W'.heap.size W' w') := fun j hj ha ag cg W' hr => by
    have hl : (M.meet ((M.region ts ss.length j).map M.norm) ss).length = ss.length := by rw [M.meet_len (by rw [M.nrm_len, M.region_len]), M.nrm_len, M.region_len]
    have := witness_new ag _ cg W' hr
    rw [hl, err_some (fun e => by rw [(M.meet_sp F hj h1).1 e] at ha; cases ha)] at this
    refine this.mono ?_
    rintro e w' ⟨ag', cg', rfl, g1, g2, g3⟩
    exact ⟨_, _, rfl, g2⟩
  have PL : Hid (∀ j, (M.pick (M.meet (M.region ts ss.length j) ss)).length = ss.length) := fun j => by unfold M.pick; rw [List.length_map, M.meet_len (M.region_len _ _ _), M.region_len]
  have VI : Hid (∀ j, j < ts.length → M.leafB (M.nAt ts j) = true → -1000000 ≤ M.nv (M.nAt ts j) ∧ M.nv (M.nAt ts j) ≤ 1000000) := fun j hj hl => M.leaf_in F hj hl
  obtain ⟨b0, off, rfl, hb0, hc⟩ := ht.2 (by intro e; have := F.2.1; rw [e] at this; simp at this)
  have CV : Hid (∀ j, j < ts.length → ∀ W', Below w.heap.size w W' → W'.cell? ⟨b0, off + j * 6 + 5, none⟩ = some (.int .i64 (M.nv (M.nAt ts j)))) := fun j hj W' hW => ((hc j hj).below hW hb0).2.2.2.2.2
  have H0 := hide h0
  have b0s := h0.size
  have HB := hide h0.below
  clear h h1 h2 F rv ht hs h0 hc
  generalize M.rch ts ss.length ts.length = RV at *
  generalize M.endsK ts ss ts.length = EN at *
  generalize M.witV ss = WV at *
  go_enter Try.func33, Try.ntmps33
  go_wp2_with (first
    | (go_at_call 56; refine WI.out.mono ?_; rintro e w1 ⟨wa, wc, rfl, _, hb1⟩; have k1 := hide hb1; clear hb1)
    | (go_at_call 57; refine (RE.out _ (below_on HB.out k1.out)).mono ?_; rintro e w2 ⟨xa, xc, rfl, hrd2, hb2, hfr2⟩; have k2 := hide (below_on k1.out hb2); have RD2 := hide hrd2; have FR2 : Hid (∀ x, xa = some x → B ≤ x.block) := (fun x hx => Nat.le_trans b0s (Nat.le_trans k1.out.size (hfr2 x hx))); clear hb2 hrd2 hfr2))
  go_loopw [38] (fun i wr => ∃ k : Nat, k ≤ RV.length ∧ i = .int .i64 k ∧ Hid (TI w B p q (M.fedL ts ss (RV.take k)) wr) ∧ Hid (Rd wr xa RV)) (fun i _ => RV.length - (intOf i).toNat)
  case atStart => exact ⟨0, Nat.zero_le _, rfl, H0.out.up lp lq k2.out, RD2⟩
  case round =>
    clear RD2 k2 k1 H0 WI RE HB
    obtain ⟨k, hk, rfl, S, RD⟩ := hrel
    by_cases hlt : k < RV.length
    · obtain ⟨j, ej, hj, hlf⟩ := AT.out k hlt
      have fm := FM.out k hlt
      rw [ej, Int.toNat_natCast] at fm
      obtain ⟨bx, ox, rfl, hbx, hcx⟩ := RD.out.2 (by intro e; rw [e] at hlt; simp at hlt)
      have hx := hcx k hlt
      rw [ej] at hx
      have PJ := hide (PR.out j hj hlf)
      have IJ := hide (fun ag cg W' => IC.out j ag cg W')
      have vi := VI.out j hj hlf
      have CJ := hide (CV.out j hj)
      have jz : (j : Int) < (ts.length : Int) := by omega
      have kz : (k : Int) < (RV.length : Int) := by omega
      have SB := hide S.out.below
      have US : Hid (∀ W', Below wr.heap.size wr W' → TI w B p q (M.fedL ts ss (RV.take k)) W') := fun W' hW => S.out.up lp lq hW
      have UR : Hid (∀ W', Below wr.heap.size wr W' → Rd W' (some ⟨bx, ox, none⟩) RV) := fun W' hW => RD.out.below hW
      have pl := PL.out j
      have PLJ := hide pl
      cases hA : M.anyS (M.meet (M.region ts ss.length j) ss) with
      | true =>
        have WJ := hide (WY.out j hj hA)
        have N : Hid (M.fedL ts ss (RV.take (k + 1)) = M.endS (M.fedL ts ss (RV.take k)) (M.nv (M.nAt ts j)) (M.pick (M.meet (M.region ts ss.length j) ss))) := by unfold Hid; rw [fm]; unfold M.fed; rw [if_pos hA]
        clear AT FM FE PR IC WY WN VI CV PL hA hcx ej fm S RD hlf pl
        generalize (M.region ts ss.length j).map M.norm = RG at *
        generalize M.meet RG ss = X at *
        generalize M.pick (M.meet (M.region ts ss.length j) ss) = PK at *
        generalize M.fedL ts ss (RV.take k) = s at *
        generalize M.nv (M.nAt ts j) = v at *
        go_wp2_with (first
          | (go_at_call 16; refine (PJ.out _ SB.out).mono ?_; rintro e w1 ⟨ga, gc, gb, rfl, hr1, hb1⟩; have k1 := hide hb1; have R1 := hide hr1; clear hb1 hr1)
          | (go_at_call 58; refine (IJ.out _ _ _ (below_on SB.out k1.out) R1.out).mono ?_; rintro e w2 ⟨ha, hc, rfl, hr2, hb2⟩; have k2 := hide (below_on k1.out hb2); have R2 := hide hr2; clear hb2 hr2)
          | (go_at_call 56; refine (WJ.out _ _ _ R2.out).mono ?_; rintro e w3 ⟨pc, rfl, hr3, hb3, hl3⟩; have k3 := hide (below_on k2.out hb3); have c3 := CJ.out _ (below_on SB.out k3.out); have S3 := hide (US.out _ k3.out); have sz3 : Hid (B ≤ w2.heap.size) := (US.out _ k2.out).size; have R3 := hide hr3; have L3 := hide hl3; clear hb3 hr3 hl3)
          | (go_at_call 34; refine (tree1_any w B p q s v PK _ _ _ S3.out lp lq pq gp gq vi.1 vi.2).mono ?_; rintro e w4 ⟨rfl, hs4, hf4⟩; have S4 := hide hs4; have R4 := hide ((UR.out _ k3.out).far FR2.out hf4); clear hs4 hf4))
        go_roundw
        case rel => exact ⟨k + 1, by omega, by go_num, by unfold Hid; rw [N.out]; exact S4.out, R4⟩
        case measure => simp [intOf]; omega
      | false =>
        have WJ := hide (WN.out j hj hA)
        have N : Hid (M.fedL ts ss (RV.take (k + 1)) = M.fedL ts ss (RV.take k)) := by unfold Hid; rw [fm]; unfold M.fed; rw [if_neg (by rw [hA]; decide)]
        clear AT FM FE PR IC WY WN VI CV PL hA hcx ej fm S RD hlf pl
        generalize (M.region ts ss.length j).map M.norm = RG at *
        generalize M.meet RG ss = X at *
        generalize M.fedL ts ss (RV.take k) = s at *
        go_wp2_with (first
          | (go_at_call 16; refine (PJ.out _ SB.out).mono ?_; rintro e w1 ⟨ga, gc, gb, rfl, hr1, hb1⟩; have k1 := hide hb1; have R1 := hide hr1; clear hb1 hr1)
          | (go_at_call 58; refine (IJ.out _ _ _ (below_on SB.out k1.out) R1.out).mono ?_; rintro e w2 ⟨ha, hc, rfl, hr2, hb2⟩; have k2 := hide (below_on k1.out hb2); have R2 := hide hr2; clear hb2 hr2)
          | (go_at_call 56; refine (WJ.out _ _ _ R2.out).mono ?_; rintro e w3 ⟨pv, pz, rfl, hb3⟩; have k3 := hide (below_on k2.out hb3); clear hb3))
        go_roundw
        case rel => exact ⟨k + 1, by omega, by go_num, by unfold Hid; rw [N.out]; exact US.out _ k3.out, UR.out _ k3.out⟩
        case measure => simp [intOf]; omega
    · have E : k = RV.length := by omega
      rw [E, FE.out] at S
      clear E
      go_wp2
      go_ret
      exact ⟨rfl, S.out⟩

end Go.Proofs.Ythbeoaninipadaf
