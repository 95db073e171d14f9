/-
  What package differ's eachMoved answers, for all lists of nodes and numbers of features: the errors of its trees; and each pair of leaves that differ is handed on once.
-/
import Derived.Test.YtcaljnhdfbjpnaeDifPairs
namespace Go.Proofs.Ytcaljnhdfbjpnae
open Go.ChangeShapes Go.WideShapes Go.ChangeAt Go.RowKit Go.Lib
set_option linter.unusedVariables false

theorem box_two (W : World) (v0 v1 : Value) (t0 t1 : TypeId) : Below W.heap.size W ((W.alloc (.cells #[v0] t0)).alloc (.cells #[v1] t1)) ∧ ((W.alloc (.cells #[v0] t0)).alloc (.cells #[v1] t1)).cell? ⟨W.heap.size, 0, none⟩ = some v0 ∧ ((W.alloc (.cells #[v0] t0)).alloc (.cells #[v1] t1)).cell? ⟨W.heap.size + 1, 0, none⟩ = some v1 ∧ ((W.alloc (.cells #[v0] t0)).alloc (.cells #[v1] t1)).heap.size = W.heap.size + 1 + 1 := by
  refine ⟨((Below.refl W.heap.size W).alloc (Nat.le_refl _) _).alloc (by simp) _, ?_, ?_, by simp⟩
  · refine (((Below.refl _ (W.alloc (.cells #[v0] t0))).alloc (Nat.le_refl _) _).cell (p := ⟨W.heap.size, 0, none⟩) (by simp)).trans ?_
    exact World.cell?_alloc_at _ _ _ 0 rfl
  · exact World.cell?_alloc_at _ _ _ 0 (by simp)

set_option maxHeartbeats 8000000 in
set_option maxRecDepth 10000 in
theorem emoved_any (a b : Option Addr) (ts us : List M.Nd) (ca cb : Nat) (m : Int) (did q : Nat) (w W : World) (Inv : (Nat → Prop) → Nat → World → Prop) (D : Doer w Inv) (G : DoGives did q Inv (ShowsM ts us m)) (hfn : ∀ args w, (callFunc did args).run Try.prog w = .ok (.enter did args) w) (ha : RdN w a ts) (hu : RdN w b us) (h0 : Inv (fun _ => False) 0 W) :
    Calls Try.prog 37 #[.slice a ts.length ca, .slice b us.length cb, .int .i64 m, .func (.func did) #[] #[.pointer (some ⟨q, 0, none⟩)]] W fun e w' => e = .returned (errV (M.difF ts us m)) ∧ ∃ K s, Inv K s w' ∧ (M.difF ts us m = 0 → s = M.movedV ts us m) := by
  have HB := hide (D.below h0)
  have RE := hide (fun W' (hW : Below W.heap.size W W') => reach_new a ts ca m W' (ha.below (below_on HB.out hW)))
  have BX := hide (box_two W (.slice a ts.length ca) (.func (.func did) #[] #[.pointer (some ⟨q, 0, none⟩)]) 22 71)
  by_cases h1 : (M.treeF ts m).2 = 0
  · obtain ⟨F, _⟩ := M.tree_ok h1
    have m0 := F.2.2.1
    have m8 := F.2.2.2.1
    have l63 := F.1
    obtain ⟨mn, rfl⟩ : ∃ mn : Nat, m = (mn : Int) := ⟨m.toNat, by omega⟩
    rw [err_nil h1] at RE
    have rv : M.rchV ts (mn : Int) = M.rch ts mn ts.length := by unfold M.rchV; rw [if_pos h1, Int.toNat_natCast]
    rw [rv] at RE
    have AT : Hid (∀ k, k < (M.rch ts mn ts.length).length → ∃ j : Nat, (M.rch ts mn ts.length).getD k 0 = (j : Int) ∧ j < ts.length ∧ M.leafB (M.nAt ts j) = true ∧ M.anyS (M.region ts mn j) = true) := fun k hk => M.rch_any hk
    have RL := M.rch_len ts mn ts.length
    have PR : Hid (∀ j : Nat, j < ts.length → M.leafB (M.nAt ts j) = true → ∀ W', Below w.heap.size w W' → Calls Try.prog 42 #[.slice a ts.length ca, .int .i64 (mn : Nat), .int .i64 (j : Nat)] W' fun e w' => ∃ ag cg bb, e = .returned (.tuple #[.slice ag mn cg, .bool bb, .nilIface]) ∧ RdS w' ag ((M.region ts mn j).map M.norm) ∧ Below W'.heap.size W' w' ∧ (∀ x, ag = some x → W'.heap.size ≤ x.block)) := fun j hj hl W' hW => by
      have := pregion_new a ts ca (mn : Int) (j : Int) W' (ha.below hW)
      obtain ⟨q1, q2⟩ := M.reg_at h1 hj hl
      rw [err_nil q1, q2] at this
      refine this.mono ?_
      rintro e w' ⟨ag, cg, rfl, g1, g2, g3⟩
      refine ⟨ag, cg, _, by rw [M.nrm_reg], g1, g2, g3⟩
    have ST := hide (fun V V' xa R hb la ld c0 c1 hb2 hr hf => EM.start (w := w) (V := V) (V' := V') (ba := W.heap.size) (bd := W.heap.size + 1) (did := did) (q := q) (a := a) (n := ts.length) (ca := ca) (xa := xa) (R := R) D h0 hb (Nat.le_refl _) (Nat.le_succ _) la ld c0 c1 hb2 hr hf)
    have DD := hide D
    by_cases h2 : (M.treeF us (mn : Int)).2 = 0
    · have df := M.dif_of h1 h2
      have mv : Hid (M.movedV ts us (mn : Int) = M.sumL (fun i => M.mvR ts us mn i us.length) (M.rch ts mn ts.length)) := by unfold Hid M.movedV; rw [if_pos df, Int.toNat_natCast, M.mvK_at]
      obtain ⟨F2, _⟩ := M.tree_ok h2
      have u63 := F2.1
      have SM : Hid (∀ k, k < (M.rch ts mn ts.length).length → M.sumL (fun i => M.mvR ts us mn i us.length) ((M.rch ts mn ts.length).take (k + 1)) = M.sumL (fun i => M.mvR ts us mn i us.length) ((M.rch ts mn ts.length).take k) + M.mvR ts us mn ((M.rch ts mn ts.length).getD k 0).toNat us.length) := fun k hk => M.sumL_more _ _ hk
      have SB : Hid (∀ k, M.sumL (fun i => M.mvR ts us mn i us.length) ((M.rch ts mn ts.length).take k) ≤ 3969) := fun k => by
        have := M.sumL_le (fun i => M.mvR_le ts us mn i) ((M.rch ts mn ts.length).take k)
        have q2 : ((M.rch ts mn ts.length).take k).length ≤ (M.rch ts mn ts.length).length := List.length_take_le' _ _
        have q3 : ((M.rch ts mn ts.length).take k).length * us.length ≤ 63 * 63 := Nat.mul_le_mul (by omega) u63
        omega
      have FE : Hid ((M.rch ts mn ts.length).take (M.rch ts mn ts.length).length = M.rch ts mn ts.length) := List.take_length
      have CA := hide (fun V V1 V2 bl ga cg xa R s i hi hl hany h hs hb1 hbl lbl cbl hb2 hg hgf => EM.call (V := V) (V1 := V1) (V2 := V2) (bl := bl) (ga := ga) (cg := cg) (cb := cb) (xa := xa) (R := R) (s := s) (i := i) (ba := W.heap.size) (bd := W.heap.size + 1) (ca := ca) D G hfn ha hu h1 h2 hi hl hany h hs hb1 hbl lbl cbl hb2 hg hgf)
      rw [err_nil df]
      clear h1 h2 df F F2 rv ha hu h0 D G
      generalize M.movedV ts us (mn : Int) = MVV at *
      generalize M.difF ts us (mn : Int) = dff at *
      generalize M.rch ts mn ts.length = RV at *
      go_enter Try.func37, Try.ntmps37
      go_wp2_with (go_at_call 41; refine (RE.out _ BX.out.1).mono ?_; rintro e w1 ⟨xa, xc, rfl, hr1, hb1, hf1⟩; have E1 := hide (ST.out _ w1 xa RV BX.out.1 (by rw [BX.out.2.2.2]; omega) (by rw [BX.out.2.2.2]; omega) BX.out.2.1 BX.out.2.2.1 hb1 hr1 hf1); clear hb1 hr1 hf1)
      go_loopw [27] (fun i' wr => ∃ k : Nat, k ≤ RV.length ∧ i' = .int .i64 k ∧ Hid (EM W.heap.size (W.heap.size + 1) did q a ts.length ca Inv xa RV (M.sumL (fun i => M.mvR ts us mn i us.length) (RV.take k)) wr)) (fun i' _ => RV.length - (intOf i').toNat)
      case atStart => exact ⟨0, Nat.zero_le _, rfl, E1⟩
      case round =>
        clear E1 ST RE HB BX
        obtain ⟨k, hk, rfl, S⟩ := hrel
        by_cases hlt : k < RV.length
        · obtain ⟨j, ej, hj, hlf, hany⟩ := AT.out k hlt
          have sm := SM.out k hlt
          rw [ej, Int.toNat_natCast] at sm
          have sb := SB.out k
          obtain ⟨bx, ox, rfl, hbx, hcx⟩ := S.out.rd.2 (fun e => by rw [e] at hlt; simp at hlt)
          have hx := hcx k hlt
          rw [ej] at hx
          have kz : (k : Int) < (RV.length : Int) := by omega
          have PJ := hide (PR.out j hj hlf)
          have SW := hide (DD.out.below S.out.inv)
          have CC := hide (fun V1 V2 bl ga cg hb1 hbl lbl cbl hb2 hg hgf => CA.out wr V1 V2 bl ga cg (some ⟨bx, ox, none⟩) RV _ j hj hlf hany S.out (by omega) hb1 hbl lbl cbl hb2 hg hgf)
          have y0 := S.out.ca
          have la := S.out.la
          have N : Hid (M.sumL (fun i => M.mvR ts us mn i us.length) (RV.take (k + 1)) = M.sumL (fun i => M.mvR ts us mn i us.length) (RV.take k) + M.mvR ts us mn j us.length) := sm
          clear AT SM SB FE PR CA hcx ej sm sb S hlf hany mv
          generalize (M.region ts mn j).map M.norm = RG at *
          generalize M.sumL (fun i => M.mvR ts us mn i us.length) (RV.take k) = s at *
          generalize M.mvR ts us mn j us.length = mr at *
          go_upto_region 7 with fail
          obtain ⟨w1, hw1⟩ : ∃ V, V = wr.alloc (.cells #[.int .i64 (j : Nat)] 3) := ⟨_, rfl⟩
          have k1 : Hid (Below wr.heap.size wr w1) := by rw [hw1]; exact (Below.refl _ wr).alloc (Nat.le_refl _) _
          have c0 : w1.cell? ⟨W.heap.size, 0, none⟩ = some (.slice a ts.length ca) := (k1.out.cell (p := ⟨W.heap.size, 0, none⟩) la).trans y0
          have c1 : w1.cell? ⟨wr.heap.size, 0, none⟩ = some (.int .i64 (j : Nat)) := by rw [hw1]; exact World.cell?_alloc_at _ _ _ 0 rfl
          have L1 : Hid (wr.heap.size < w1.heap.size) := by unfold Hid; rw [hw1]; simp
          have C1 := hide c1
          rw [← hw1]
          clear hw1 hx y0
          go_wp2_with (first
            | (go_at_call 42; refine (PJ.out _ (below_on SW.out k1.out)).mono ?_; rintro e w2 ⟨ga, gc, gb, rfl, hr2, hb2, hf2⟩; have CE := hide (CC.out w1 w2 wr.heap.size ga gc k1.out (Nat.le_refl _) L1.out C1.out hb2 hr2 hf2); clear hr2 hb2 hf2)
            | (go_at_call 16; refine CE.out.mono ?_; rintro e w4 ⟨rfl, hs4⟩; have S4 := hide hs4; clear hs4))
          go_roundw
          case rel => exact ⟨k + 1, by omega, by go_num, by unfold Hid; rw [N.out]; exact S4.out⟩
          case measure => simp [intOf]; omega
        · have E : k = RV.length := by omega
          rw [E, FE.out] at S
          clear E
          go_wp2
          go_ret
          exact ⟨rfl, _, _, S.out.inv, fun _ => mv.out.symm⟩
    · have df : M.difF ts us (mn : Int) = (M.treeF us (mn : Int)).2 := by unfold M.difF; rw [if_neg (by simp [h1])]
      have LN : Hid (0 < (M.rch ts mn ts.length).length) := M.rch_some h1
      rw [df, err_some h2]
      have NZ := hide h2
      have EB : Hid (∀ j, j < ts.length → M.anyS (M.region ts mn j) = true → ∀ ag cg fv W', Below w.heap.size w W' → RdS W' ag ((M.region ts mn j).map M.norm) → Calls Try.prog 16 #[.slice b us.length cb, .slice ag mn cg, fv] W' fun e w' => e = .returned (.iface 56 (.int .i64 (M.treeF us (mn : Int)).2)) ∧ Below W'.heap.size W' w') := fun j hj hany ag cg fv W' hW hr => by
        have lr := M.lim_reg (us := us) F hj hany
        have := each_bad b ag us ((M.region ts mn j).map M.norm) cb cg fv W' (hu.below hW) hr (by rw [lr]; exact h2)
        rw [lr, M.nrm_reg] at this
        exact this
      have UP := hide (fun W' hb => D.on (W' := W') h0 hb)
      clear h1 h2 df F rv ha hu h0 D G ST
      generalize M.movedV ts us (mn : Int) = MVV at *
      generalize (M.treeF us (mn : Int)).2 = tf at *
      generalize M.rch ts mn ts.length = RV at *
      have rz : (0 : Int) < (RV.length : Int) := by have := LN.out; omega
      obtain ⟨j, ej, hj, hlf, hany⟩ := AT.out 0 LN.out
      have PJ := hide (PR.out j hj hlf)
      have EJ := hide (EB.out j hj hany)
      clear PR EB hlf hany AT
      generalize (M.region ts mn j).map M.norm = RG at *
      go_enter Try.func37, Try.ntmps37
      go_wp2_with (go_at_call 41; refine (RE.out _ BX.out.1).mono ?_; rintro e w1 ⟨xa, xc, rfl, hr1, hb1, hf1⟩; obtain ⟨bx, ox, rfl, hbx, hcx⟩ := hr1.2 (fun e => by have := LN.out; rw [e] at this; simp at this); have hx := hcx 0 LN.out; rw [ej, Nat.add_zero] at hx; have y0 := (hb1.cell (p := ⟨W.heap.size, 0, none⟩) (by simp; omega)).trans BX.out.2.1; have k1 := hide (below_on BX.out.1 hb1); have z1 : W.heap.size < w1.heap.size := (by have := hb1.size; have := BX.out.2.2.2; omega); clear hb1 hr1 hf1 hcx)
      go_loopw [27] (fun i' wr => i' = .int .i64 0 ∧ wr = w1) (fun _ _ => 0)
      case atStart => exact ⟨rfl, rfl⟩
      case round =>
        obtain ⟨rfl, rfl⟩ := hrel
        go_upto_region 7 with fail
        obtain ⟨w2, hw2⟩ : ∃ V, V = wr.alloc (.cells #[.int .i64 (j : Nat)] 3) := ⟨_, rfl⟩
        have k2 : Hid (Below wr.heap.size wr w2) := by rw [hw2]; exact (Below.refl _ wr).alloc (Nat.le_refl _) _
        have c0 : w2.cell? ⟨W.heap.size, 0, none⟩ = some (.slice a ts.length ca) := (k2.out.cell (p := ⟨W.heap.size, 0, none⟩) z1).trans y0
        have c1 : w2.cell? ⟨wr.heap.size, 0, none⟩ = some (.int .i64 (j : Nat)) := by rw [hw2]; exact World.cell?_alloc_at _ _ _ 0 rfl
        have k3 := hide (below_on k1.out k2.out)
        rw [← hw2]
        clear hw2 hx y0
        go_wp2_with (first
          | (go_at_call 42; refine (PJ.out _ (below_on HB.out k3.out)).mono ?_; rintro e w4 ⟨ga, gc, gb, rfl, hr4, hb4, _⟩; have k4 := hide (below_on k3.out hb4); have R4 := hide hr4; clear hr4 hb4)
          | (go_at_call 16; refine (EJ.out _ _ _ _ (below_on HB.out k4.out) R4.out).mono ?_; rintro e w5 ⟨rfl, hb5⟩; have k5 := hide (below_on k4.out hb5); clear hb5))
        go_ret
        exact ⟨rfl, _, _, UP.out _ k5.out, fun e => absurd e NZ.out⟩
  · have df : M.difF ts us m = (M.treeF ts m).2 := by unfold M.difF; rw [if_pos h1]
    rw [err_some h1] at RE
    rw [df, err_some h1]
    have UP := hide (fun W' hb => D.on (W' := W') h0 hb)
    have NZ := hide h1
    clear h1 ha hu h0 D G df
    generalize (M.treeF ts m).2 = tf at *
    generalize M.rchV ts m = RV at *
    generalize M.movedV ts us m = MVV at *
    go_enter Try.func37, Try.ntmps37
    go_wp2_with (go_at_call 41; refine (RE.out _ BX.out.1).mono ?_; rintro e w1 ⟨xa, xc, rfl, _, hb1, _⟩; have k1 := hide (below_on BX.out.1 hb1); clear hb1)
    go_ret
    exact ⟨rfl, _, _, UP.out _ k1.out, fun e => absurd e NZ.out⟩

end Go.Proofs.Ytcaljnhdfbjpnae
