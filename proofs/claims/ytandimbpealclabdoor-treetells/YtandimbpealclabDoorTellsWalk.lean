/-
  The walk of the law TreeTells: for every list of nodes, every number of features and every row it returns true; the variable of package errors lies as that package lays it.
-/
import Derived.Test.YtandimbpealclabDoorRefLeaf
import Derived.Test.YtandimbpealclabDoorInts
import Derived.Test.YtandimbpealclabDoorError
import Derived.Deep.CutBlock
namespace Go.Proofs.YtandimbpealclabDoor
open Go.ChangeShapes Go.WideShapes Go.ChangeAt Go.RowKit Go.Lib
set_option linter.unusedVariables false

set_option maxHeartbeats 16000000 in
set_option maxRecDepth 10000 in
theorem tells_core (a b : Option Addr) (ts : List M.Nd) (xs : List Int) (ca cb : Nat) (ft : Int) (w : World) (p p8 D X : Nat) (f e8 rf Y : Int) (L : List Int)
    (HT : Hid (∀ W, Below w.heap.size w W → RdN W a ts)) (mt : ts.length ≤ 9223372036854775807) (mx : xs.length ≤ 9223372036854775807)
    (T1 : Hid (∀ W, Below w.heap.size w W → Calls Tryd.prog 8 #[.slice a ts.length ca, .int .i64 ft] W fun r w' => r = .returned (.tuple #[.int .i64 (p : Nat), .int .i64 f]) ∧ Below W.heap.size W w'))
    (K1 : Hid (∀ W, Below w.heap.size w W → Calls Tryd.prog 9 #[.slice a ts.length ca, .int .i64 ft] W fun r w' => r = .returned (.tuple #[.int .i64 (p : Nat), errV f]) ∧ Below W.heap.size W w'))
    (ER : Hid (∀ c W, Below w.heap.size w W → Calls Tryd.prog 10 #[errV c, .int .i64 c] W fun r w' => r = .returned (.bool true) ∧ Below W.heap.size W w'))
    (T8 : Hid (∀ W, Below w.heap.size w W → Calls Tryd.prog 8 #[.slice a ts.length ca, .int .i64 8] W fun r w' => r = .returned (.tuple #[.int .i64 (p8 : Nat), .int .i64 e8]) ∧ Below W.heap.size W w'))
    (DR : Hid (e8 = 0 → ∀ W, Below w.heap.size w W → Calls Tryd.prog 11 #[.slice a ts.length ca, .int .i64 0] W fun r w' => r = .returned (.int .i64 (D : Nat)) ∧ w' = W))
    (E8 : Hid (e8 = 0 → L = M.lvs ts ts.length ∧ ts.length ≤ 63)) (Z8 : Hid (e8 ≠ 0 → D = 0 ∧ L = []))
    (TD : Hid (∀ W, Below w.heap.size w W → Calls Tryd.prog 12 #[.slice a ts.length ca] W fun r w' => r = .returned (.tuple #[.int .i64 (D : Nat), errV e8]) ∧ Below W.heap.size W w'))
    (TL : Hid (∀ W, Below w.heap.size w W → Calls Tryd.prog 13 #[.slice a ts.length ca] W fun r w' => ∃ ag cg, r = .returned (.tuple #[.slice ag L.length cg, errV e8]) ∧ Rd w' ag L ∧ Below W.heap.size W w'))
    (IN : Hid (∀ ag cg bg dg R W, Rd W ag R → Rd W bg R → Calls Tryd.prog 7 #[.slice ag R.length cg, .slice bg R.length dg] W fun r w' => r = .returned (.bool true) ∧ Below W.heap.size W w'))
    (RD : Hid (∀ W, Below w.heap.size w W → Calls Tryd.prog 14 #[.slice a ts.length ca, .slice b xs.length cb] W fun r w' => r = .returned (.int .i64 rf) ∧ Below W.heap.size W w'))
    (RL : Hid (rf = 0 → ∀ W, Below w.heap.size w W → Calls Tryd.prog 15 #[.slice a ts.length ca, .slice b xs.length cb] W fun r w' => ∃ v, r = .returned (.tuple #[.int .i64 (X : Nat), v]) ∧ Below W.heap.size W w'))
    (XV : Hid (rf = 0 → X < ts.length ∧ Y = M.nv (M.nAt ts X))) (XZ : Hid (rf ≠ 0 → X = 0 ∧ Y = 0))
    (TX : Hid (∀ W, Below w.heap.size w W → Calls Tryd.prog 16 #[.slice a ts.length ca, .slice b xs.length cb] W fun r w' => r = .returned (.tuple #[.int .i64 (X : Nat), errV rf]) ∧ Below W.heap.size W w'))
    (TE : Hid (∀ W, Below w.heap.size w W → Calls Tryd.prog 17 #[.slice a ts.length ca, .slice b xs.length cb] W fun r w' => r = .returned (.tuple #[.int .i64 Y, errV rf]) ∧ Below W.heap.size W w')) :
    Calls Tryd.prog 4 #[.slice a ts.length ca, .int .i64 ft, .slice b xs.length cb] w fun e w' => e = .returned (.bool true) ∧ Below w.heap.size w w' := by
  have B0 := hide (Below.refl w.heap.size w)
  go_enter Tryd.func4, Tryd.ntmps4
  go_upto_region 6 with (first
    | (go_at_call 8; refine (T1.out _ B0.out).mono ?_; rintro r w1 ⟨rfl, hb1⟩)
    | (go_at_call 9; refine (K1.out _ hb1).mono ?_; rintro r w2 ⟨rfl, hb2⟩; have k2 := below_on hb1 hb2)
    | (go_at_call 10; refine (ER.out _ _ k2).mono ?_; rintro r w3 ⟨rfl, hb3⟩; have k3 := below_on k2 hb3))
  clear hb1 hb2 hb3 k2 T1 K1 B0
  go_upto_region 9 with (go_at_call 8; refine (T8.out _ k3).mono ?_; rintro r w4 ⟨rfl, hb4⟩)
  have k4 := below_on k3 hb4
  clear hb4 k3 T8
  go_cut [54] from 53 to 54 (fun v wx => ∃ q : Bool, v = .bool q ∧ Hid (q = decide (e8 = 0)) ∧ wx = w4)
  case first =>
    by_cases h : e8 = 0
    · have t : (e8 == 0) = true := by rw [beq_iff_eq]; exact h
      have E : Hid (true = decide (e8 = 0)) := (decide_eq_true h).symm
      clear h
      go_wp2
      go_meet
      case rel => exact ⟨true, rfl, E, rfl⟩
    · have t : (e8 == 0) = false := by rw [beq_eq_false_iff_ne]; exact h
      have E : Hid (false = decide (e8 = 0)) := (decide_eq_false h).symm
      clear h
      go_wp2
      go_meet
      case rel => exact ⟨false, rfl, E, rfl⟩
  case rest =>
    obtain ⟨q, rfl, HQ, rfl⟩ := hcut
    go_upto_if 54 with fail
    go_cut [12, 13, 14] from 55 to 72 (fun u v i wx => u = .int .i64 (D : Nat) ∧ (∃ ag cg, v = .slice ag L.length cg ∧ Hid (Rd wx ag L)) ∧ Hid (Below w.heap.size w wx))
    case first =>
      cases q with
      | false =>
        have E := hide (Z8.out (of_decide_eq_false HQ.out.symm))
        have RN : Hid (Rd wc none L) := by unfold Hid; rw [E.out.2]; exact ⟨Nat.zero_le _, fun h => absurd rfl h⟩
        clear HQ DR E8 Z8 TD TL IN RD RL XV XZ TX TE ER
        go_wp2
        go_meet
        case rel => exact ⟨by rw [E.out.1]; rfl, ⟨none, 0, by rw [E.out.2]; rfl, RN⟩, k4⟩
      | true =>
        have h8 : e8 = 0 := of_decide_eq_true HQ.out.symm
        have D1 := hide (DR.out h8 _ k4)
        have EL := hide (E8.out h8).1
        have l63 := (E8.out h8).2
        obtain ⟨i0, hi, hz0, hz1, hz2⟩ := info_parts info3
        have I0 := hide hi
        have H4 := hide (HT.out _ k4).2
        clear HQ DR E8 Z8 TD TL IN RD RL XV XZ TX TE ER h8 hi HT
        go_wp2_with (go_at_call 11; refine D1.out.mono ?_; rintro r w5 ⟨rfl, h5⟩; have h5' := h5.symm; clear h5; subst h5')
        go_loopw [13, 14] (fun v i wr => ∃ k : Nat, k ≤ ts.length ∧ i = .int .i64 k ∧ wr.ownsRow wc.heap.size 3 1 v (M.lvs ts k).length ((M.lvs ts k).map (Value.int .i64)) ∧ Below wc.heap.size wc wr) (fun _ i _ => ts.length - (intOf i).toNat)
        case atStart => exact ⟨0, Nat.zero_le _, rfl, World.ownsRow_nil _ _ _ _, Below.refl _ _⟩
        case round =>
          obtain ⟨k, hk, rfl, hown, hbl⟩ := hrel
          obtain ⟨va, vc, rfl, RV, _⟩ := own_rd hown
          have HO := hide hown
          have HV := hide RV
          have LL := M.lvs_len ts k
          clear hown RV
          by_cases hlt : k < ts.length
          · obtain ⟨b1, off, rfl, hb1, hc⟩ := H4.out (by intro e; subst e; simp at hlt)
            have s0 := ((hc k hlt).below hbl hb1).1
            clear hc
            have kw := hbl.size
            by_cases hf : M.nf (M.nAt ts k) = -1
            · have LE : Hid (M.lvs ts (k + 1) = M.lvs ts k ++ [(k : Int)]) := by
                unfold Hid; show (if M.leafB (M.nAt ts k) = true then M.lvs ts k ++ [(k : Int)] else M.lvs ts k) = _; rw [show M.leafB (M.nAt ts k) = true from decide_eq_true hf]; rfl
              have qf : (M.nf (M.nAt ts k) == -1) = true := by rw [beq_iff_eq]; exact hf
              clear hf
              generalize M.lvs ts k = K at *
              generalize M.nf (M.nAt ts k) = y at *
              go_wp2_with (at_builtin; refine wpList_append_lies _ rfl (.tmp 69) (.tmp 71) 22 rfl wc.heap.size 3 i0 (.int .i64 0) 1 8 Tryd.underlying22 I0.out hz0 hz1 hz2 rfl (by omega) (.slice va K.length vc) K.length (K.map (Value.int .i64)) rfl (HO.out.alloc _) ⟨wr.heap.size, 0, none⟩ 1 1 [.int .i64 (k : Int)] rfl rfl (World.news_of_block (heap_alloc_new _ _)) (by simp [Value.oneCell']) (by omega) (by unfold maxLen; omega) (by omega) (by simp; omega) (wr.heap.size + 1) (by simp) ?_)
              intro g cap w6 hov hgrow hat hlt6
              have hb6 : Below wc.heap.size wc w6 := (hbl.alloc hbl.size _).grown hgrow (by simp; omega) (fun k hk => (HO.out.lt k hk).1)
              have HO6 : Hid (w6.ownsRow wc.heap.size 3 1 (.slice (some ⟨g, 0, none⟩) (K.length + 1) cap) (M.lvs ts (k + 1)).length ((M.lvs ts (k + 1)).map (Value.int .i64))) := by
                unfold Hid; rw [LE.out, List.map_append, List.length_append]; exact hov
              clear hov hgrow hat
              go_wp2
              go_roundw
              case rel => exact ⟨k + 1, by omega, by go_num, HO6.out, hb6⟩
              case measure => simp [intOf]; omega
            · have LE : Hid (M.lvs ts (k + 1) = M.lvs ts k) := by
                unfold Hid; show (if M.leafB (M.nAt ts k) = true then M.lvs ts k ++ [(k : Int)] else M.lvs ts k) = _; rw [show M.leafB (M.nAt ts k) = false from decide_eq_false hf]; rfl
              have qf : (M.nf (M.nAt ts k) == -1) = false := by rw [beq_eq_false_iff_ne]; exact hf
              clear hf
              generalize M.lvs ts k = K at *
              generalize M.nf (M.nAt ts k) = y at *
              go_wp2
              go_roundw
              case rel => exact ⟨k + 1, by omega, by go_num, by rw [LE.out]; exact HO.out, hbl⟩
              case measure => simp [intOf]; omega
          · have E : Hid (L = M.lvs ts k) := by unfold Hid; rw [EL.out, show k = ts.length by omega]
            generalize M.lvs ts k = K at *
            go_wp2
            go_meet
            case rel => exact ⟨rfl, ⟨va, vc, by rw [E.out], by unfold Hid; rw [E.out]; exact HV.out⟩, below_on k4 hbl⟩
    case rest =>
      obtain ⟨rfl, ⟨ag, cg, rfl, RA⟩, K5⟩ := hcut
      have k5 := K5.out
      clear K5
      go_upto_region 18 with (first
        | (go_at_call 12; refine (TD.out _ k5).mono ?_; rintro r w6 ⟨rfl, hb6⟩; have k6 := below_on k5 hb6)
        | (go_at_call 10; refine (ER.out _ _ k6).mono ?_; rintro r w7 ⟨rfl, hb7⟩; have k7 := below_on k6 hb7))
      have RA7 := hide ((RA.out.below hb6).below hb7)
      clear hb6 hb7 k6 k5 RA TD
      go_upto_region 20 with (first
        | (go_at_call 13; refine (TL.out _ k7).mono ?_; rintro r w8 ⟨bg, dg, rfl, RB, hb8⟩; have k8 := below_on k7 hb8)
        | (go_at_call 10; refine (ER.out _ _ k8).mono ?_; rintro r w9 ⟨rfl, hb9⟩; have k9 := below_on k8 hb9))
      have I1 := hide (IN.out bg dg ag cg L _ (RB.below hb9) ((RA7.out.below hb8).below hb9))
      clear hb8 hb9 k7 k8 RB RA7 TL IN
      go_upto_region 24 with (first
        | (go_at_call 7; refine I1.out.mono ?_; rintro r w10 ⟨rfl, hb10⟩; have k10 := below_on k9 hb10)
        | (go_at_call 14; refine (RD.out _ k10).mono ?_; rintro r w11 ⟨rfl, hb11⟩; have k11 := below_on k10 hb11))
      clear hb10 hb11 k9 k10 I1 RD
      go_cut [96] from 95 to 96 (fun v wx => ∃ q : Bool, v = .bool q ∧ Hid (q = decide (rf = 0)) ∧ wx = w11)
      case first =>
        by_cases h : rf = 0
        · have t : (rf == 0) = true := by rw [beq_iff_eq]; exact h
          have E : Hid (true = decide (rf = 0)) := (decide_eq_true h).symm
          clear h
          go_wp2
          go_meet
          case rel => exact ⟨true, rfl, E, rfl⟩
        · have t : (rf == 0) = false := by rw [beq_eq_false_iff_ne]; exact h
          have E : Hid (false = decide (rf = 0)) := (decide_eq_false h).symm
          clear h
          go_wp2
          go_meet
          case rel => exact ⟨false, rfl, E, rfl⟩
      case rest =>
        obtain ⟨q, rfl, HQ, rfl⟩ := hcut
        go_upto_if 96 with fail
        go_cut [20, 21] from 97 to 107 (fun u v wx => u = .int .i64 (X : Nat) ∧ v = .int .i64 Y ∧ Hid (Below w.heap.size w wx))
        case first =>
          cases q with
          | false =>
            have E := hide (XZ.out (of_decide_eq_false HQ.out.symm))
            clear HQ DR E8 Z8 RL XV XZ TX TE ER
            go_wp2
            go_meet
            case rel => exact ⟨by rw [E.out.1]; rfl, by rw [E.out.2], k11⟩
          | true =>
            have h0 : rf = 0 := of_decide_eq_true HQ.out.symm
            have R1 := hide (RL.out h0 _ k11)
            have EY := hide (XV.out h0).2
            have hX := (XV.out h0).1
            have CX : Hid (∀ W, Below w.heap.size w W → ∃ b1 off, a = some ⟨b1, off, none⟩ ∧ W.cell? ⟨b1, off + X * 6 + 5, none⟩ = some (.int .i64 (M.nv (M.nAt ts X)))) := fun W hW => by
              obtain ⟨b1, off, e, _, hc⟩ := (HT.out W hW).2 (by intro e; subst e; simp at hX)
              exact ⟨b1, off, e, (hc X hX).2.2.2.2.2⟩
            clear HQ DR E8 Z8 RL XV XZ TX TE ER h0 HT
            rw [← EY.out] at CX
            obtain ⟨b1, off, rfl, _⟩ := CX.out _ k11
            go_wp2_with (go_at_call 15; refine R1.out.mono ?_; rintro r w12 ⟨vv, rfl, hb12⟩; obtain ⟨b2, off2, e2, hcell⟩ := CX.out _ (below_on k11 hb12); cases e2)
            go_meet
            case rel => exact ⟨rfl, rfl, below_on k11 hb12⟩
        case rest =>
          obtain ⟨rfl, rfl, K13⟩ := hcut
          have k13 := K13.out
          clear K13 HQ DR E8 Z8 RL XV XZ HT k11
          go_upto_region 29 with (first
            | (go_at_call 16; refine (TX.out _ k13).mono ?_; rintro r w14 ⟨rfl, hb14⟩; have k14 := below_on k13 hb14)
            | (go_at_call 10; refine (ER.out _ _ k14).mono ?_; rintro r w15 ⟨rfl, hb15⟩; have k15 := below_on k14 hb15))
          clear hb14 hb15 k13 k14 TX
          go_wp2_with (first
            | (go_at_call 17; refine (TE.out _ k15).mono ?_; rintro r w16 ⟨rfl, hb16⟩; have k16 := below_on k15 hb16)
            | (go_at_call 10; refine (ER.out _ _ k16).mono ?_; rintro r w17 ⟨rfl, hb17⟩; have k17 := below_on k16 hb17))
          go_ret
          exact ⟨rfl, k17⟩

theorem tells_walk (a b : Option Addr) (ts : List M.Nd) (xs : List Int) (ca cb : Nat) (ft : Int) (w : World) (ht : RdN w a ts) (hr : Rd w b xs) (hg : Lays w) :
    Calls Tryd.prog 4 #[.slice a ts.length ca, .int .i64 ft, .slice b xs.length cb] w fun e w' => e = .returned (.bool true) ∧ Below w.heap.size w w' :=
  tells_core a b ts xs ca cb ft w (M.treeF ts ft).1 (M.treeF ts 8).1 (M.depthV ts) (M.leafV ts xs) (M.treeF ts ft).2 (M.treeF ts 8).2 (M.readyF ts xs) (M.evalV ts xs) (M.leavesV ts)
    (fun W hW => ht.below hW) ht.1 hr.1 (fun W hW => rtree_any a ts ca ft W (ht.below hW)) (fun W hW => tcheck_any a ts ca ft W (ht.below hW))
    (fun c W hW => (error_any c c W (hg.below hW)).mono fun r w' h => ⟨by rw [h.1, beq_self_eq_true], h.2⟩)
    (fun W hW => rtree_any a ts ca 8 W (ht.below hW))
    (fun h W hW => by
      obtain ⟨F, _⟩ := M.tree_ok h
      have := rdepth_any a ts ca 8 W (ht.below hW) F.1 F.2.2.2.2.1 ts.length 0 F.2.1 (by omega)
      unfold M.depthV
      rw [if_pos h]
      exact this)
    (fun h => ⟨by unfold M.leavesV; rw [if_pos h], (M.tree_ok h).1.1⟩) (fun h => ⟨by unfold M.depthV; rw [if_neg h], by unfold M.leavesV; rw [if_neg h]⟩)
    (fun W hW => tdepth_any a ts ca W (ht.below hW)) (fun W hW => leaves_any a ts ca W (ht.below hW))
    (fun ag cg bg dg R W h1 h2 => (ints_any ag bg R R cg dg W h1 h2).mono fun r w' h => ⟨by rw [h.1]; simp, h.2⟩)
    (fun W hW => ready_any a b ts xs ca cb W (ht.below hW) (hr.below hW)) (fun h W hW => rleaf_any a b ts xs ca cb W (ht.below hW) (hr.below hW) h)
    (fun h => leaf_lt h) (fun h => ⟨by unfold M.leafV; rw [if_neg h], by unfold M.evalV; rw [if_neg h]⟩)
    (fun W hW => leaf_any a b ts xs ca cb W (ht.below hW) (hr.below hW)) (fun W hW => eval_any a b ts xs ca cb W (ht.below hW) (hr.below hW))

end Go.Proofs.YtandimbpealclabDoor
