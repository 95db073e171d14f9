/-
  What package grove's Bounds answers, for every grove.
-/
import Derived.Test.YtandimbpealclacDoorGBounds
namespace Go.Proofs.YtandimbpealclacDoor
open Go.ChangeShapes Go.WideShapes Go.ChangeAt Go.RowKit Go.Lib
set_option linter.unusedVariables false

theorem three_ret {a b c d : Int} {x y : Value} (h1 : a = b) (h2 : c = d) (h3 : x = y) : Ending.returned (.tuple #[.int .i64 a, .int .i64 c, x]) = .returned (.tuple #[.int .i64 b, .int .i64 d, y]) := by rw [h1, h2, h3]

set_option maxHeartbeats 16000000 in
set_option maxRecDepth 10000 in
theorem gbounds_any (G : Gr) (w : World) (h : RdG w G) :
    Calls Tryd.prog 20 #[G.v] w fun e w' => e = .returned (.tuple #[.int .i64 (M.boundsV G.m).1, .int .i64 (M.boundsV G.m).2, errV (M.groveF G.m)]) ∧ Below w.heap.size w w' := by
  have C1 := hide (fun W (hW : Below w.heap.size w W) => gcheck_any G W (h.below hW))
  have B0 : Hid (∀ o, Below w.heap.size w (w.alloc o)) := fun o => (Below.refl _ w).alloc (Nat.le_refl _) o
  by_cases hg : M.groveF G.m = 0
  · have K := (M.good_iff _).1 hg
    have tlen : (M.gt G.m).length = G.ks.length := tl_len G.ks
    have n0 : 0 < G.ks.length := by rw [← tlen]; exact K.t0
    have n12 : G.ks.length ≤ 12 := by rw [← tlen]; exact K.t12
    obtain ⟨V1, V2⟩ := M.ends_vw K
    have w1 := K.w1
    have w3 := K.w3
    have w1' : 1 ≤ G.w := w1
    have w3' : G.w ≤ 3 := w3
    have LL : Hid (((M.gt G.m).map M.lowT).length = G.ks.length) := by unfold Hid; rw [List.length_map]; exact tlen
    have LH : Hid (((M.gt G.m).map M.highT).length = G.ks.length) := by unfold Hid; rw [List.length_map]; exact tlen
    have AL : Hid (∀ k (hk : k < G.ks.length), ((M.gt G.m).map M.lowT).getD k 0 = M.lowT G.ks[k].2.1 ∧ ((M.gt G.m).map M.highT).getD k 0 = M.highT G.ks[k].2.1) := fun k hk => by
      have e : (M.gt G.m)[k]'(by rw [tlen]; exact hk) = G.ks[k].2.1 := by show (tl G.ks)[k]'(by rw [tl_len]; exact hk) = _; simp [tl]
      rw [M.getD_at (by rw [LL.out]; exact hk), M.getD_at (by rw [LH.out]; exact hk), List.getElem_map, List.getElem_map, e]
      exact ⟨rfl, rfl⟩
    have FT : Hid (∀ k (hk : k < G.ks.length), M.Fair G.ks[k].2.1 G.f) := fun k hk => (M.tree_ok (K.trees G.ks[k].2.1 (List.mem_map.2 ⟨_, List.getElem_mem hk, rfl⟩))).1
    have RT : Hid (∀ W, Below w.heap.size w W → ∀ k (hk : k < G.ks.length), RdN W G.ks[k].1 G.ks[k].2.1) := fun W hW k hk => (h.below hW).2.2.1 _ (List.getElem_mem hk)
    obtain ⟨bt, ot, eta, hbt, hct0⟩ := h.2.2.2 (by intro e; rw [e] at n0; simp at n0)
    have HCT : Hid (∀ W, Below w.heap.size w W → ∀ i (hi : i < G.ks.length), W.cell? ⟨bt, ot + i, none⟩ = some (tV G.ks[i])) := fun W hW i hi => (hW.cell (p := ⟨bt, ot + i, none⟩) hbt).trans (hct0 i hi)
    have TG : Hid (∀ W ag cg vs, Vw G.ws vs → Below w.heap.size w W → Rd W ag vs → Calls Tryd.prog 36 #[.int .i64 G.w, .slice G.wa G.ws.length G.wc, .slice ag vs.length cg] W fun e w' => e = .returned (.int .i64 (M.together G.w G.ws vs)) ∧ Below W.heap.size W w') := fun W ag cg vs V hW hv => gtog_in G.w G.wa ag G.ws vs G.wc cg W (h.below hW).1 hv V w1' w3'
    have MI : Hid (∀ W ag cg vs, Vw G.ws vs → Rd W ag vs → Calls Tryd.prog 38 #[.slice ag vs.length cg] W fun e w' => e = .returned (.int .i64 (M.lowL vs)) ∧ w' = W) := fun W ag cg vs V hv => smin_in ag vs cg W hv V.pos V.top
    have MA : Hid (∀ W ag cg vs, Vw G.ws vs → Rd W ag vs → Calls Tryd.prog 39 #[.slice ag vs.length cg] W fun e w' => e = .returned (.int .i64 (M.highL vs)) ∧ w' = W) := fun W ag cg vs V hv => smax_in ag vs cg W hv V.pos V.top
    have BV : Hid (M.boundsV G.m = M.between G.w G.ws ((M.gt G.m).map M.lowT) ((M.gt G.m).map M.highT)) := by unfold Hid M.boundsV; rw [if_pos hg]; rfl
    have HV1 : Hid (Vw G.ws ((M.gt G.m).map M.lowT)) := V1
    have HV2 : Hid (Vw G.ws ((M.gt G.m).map M.highT)) := V2
    have mk := fun W => run_make_row' (P := Tryd.prog) 23 3 (.int .i64 0) 8 Tryd.underlying23 info3 (by simp [Value.cells]) .i64 .i64 G.ks.length (by omega) (by omega) W
    have ES : Hid (errV (M.groveF G.m) = .nilIface) := err_nil hg
    rw [err_nil hg] at C1
    unfold Gr.v at C1 ⊢
    rw [eta] at C1 ⊢
    clear hg K tlen hct0 hbt eta h V1 V2 w1 w3
    generalize errV (M.groveF G.m) = er at *
    generalize (M.gt G.m).map M.lowT = L at *
    generalize (M.gt G.m).map M.highT = H at *
    generalize M.boundsV G.m = bv at *
    go_enter Tryd.func20, Tryd.ntmps20
    go_upto_region 4 with (go_at_call 11; refine (C1.out _ (B0.out _)).mono ?_; rintro e w1 ⟨rfl, hb1⟩; have c3 := (kept_box hb1).2.2.2; have T2 := hide (bd_two LL.out LH.out n12 hb1))
    go_cut [6, 7] from 15 to 22 (fun u v wx => ∃ g1 g2, u = .slice (some ⟨g1, 0, none⟩) G.ks.length G.ks.length ∧ v = .slice (some ⟨g2, 0, none⟩) G.ks.length G.ks.length ∧ Hid (Bd (.int .i64 G.f) (.int .i64 G.w) (.slice G.wa G.ws.length G.wc) (.slice (some ⟨bt, ot, none⟩) G.ks.length G.tc) w G.ks.length L H wx 0 g1 g2))
    case first =>
      go_region_held3 (fun W => W.cell? ⟨w.heap.size, 3, none⟩ = some (.slice (some ⟨bt, ot, none⟩) G.ks.length G.tc)) (go_keep) (fail)
      all_goals go_wp2
      all_goals go_meet
      all_goals (case rel => first | exact ⟨_, _, rfl, rfl, T2.out.1⟩ | exact ⟨_, _, rfl, rfl, T2.out.2⟩)
    case rest =>
      obtain ⟨g1, g2, rfl, rfl, BD⟩ := hcut
      have d3 := BD.out.b3
      clear T2 c3 hb1 C1 mk
      go_wp2
      go_loopw [26] (fun i wr => ∃ k : Nat, k ≤ G.ks.length ∧ i = .int .i64 k ∧ Hid (Bd (.int .i64 G.f) (.int .i64 G.w) (.slice G.wa G.ws.length G.wc) (.slice (some ⟨bt, ot, none⟩) G.ks.length G.tc) w G.ks.length L H wr k g1 g2)) (fun i _ => G.ks.length - (intOf i).toNat)
      case atStart => exact ⟨0, Nat.zero_le _, rfl, BD⟩
      case round =>
        clear BD d3
        obtain ⟨k, hk, rfl, BK⟩ := hrel
        by_cases hlt : k < G.ks.length
        · have ct := HCT.out wr BK.out.below k hlt
          unfold tV at ct
          have kz : (k : Int) < (G.ks.length : Int) := by omega
          have EC := hide (ends_in G.ks[k].1 G.ks[k].2.1 G.ks[k].2.2 G.f wr (RT.out wr BK.out.below k hlt) (FT.out k hlt))
          have PK : Hid (∀ W, Below wr.heap.size wr W → Bd (.int .i64 G.f) (.int .i64 G.w) (.slice G.wa G.ws.length G.wc) (.slice (some ⟨bt, ot, none⟩) G.ks.length G.tc) w G.ks.length L H ((W.setCell ⟨g1, k, none⟩ (.int .i64 (M.lowT G.ks[k].2.1))).setCell ⟨g2, k, none⟩ (.int .i64 (M.highT G.ks[k].2.1))) (k + 1) g1 g2) := fun W hW => by
            have := (BK.out.up hW).put LL.out LH.out hlt
            rw [(AL.out k hlt).1, (AL.out k hlt).2] at this
            exact this
          have CC : Hid (∀ W, Below wr.heap.size wr W → (∃ z, W.cell? ⟨g1, k, none⟩ = some (.int .i64 z)) ∧ (∃ z, W.cell? ⟨g2, k, none⟩ = some (.int .i64 z)) ∧ W.frozen? ⟨g1, k, none⟩ = false ∧ W.frozen? ⟨g2, k, none⟩ = false) := fun W hW => (BK.out.up hW).cells LL.out LH.out hlt
          have nn : ¬ g1 = g2 := BK.out.ne
          clear HCT RT FT AL TG MI MA HV1 HV2
          generalize M.lowT G.ks[k].2.1 = lo at *
          generalize M.highT G.ks[k].2.1 = hi at *
          generalize G.ks[k].2.1.length = tn at *
          generalize G.ks[k].2.2 = tcc at *
          generalize G.ks[k].1 = ta at *
          go_wp2_with (go_at_call 37; refine EC.out.mono ?_; rintro e w4 ⟨rfl, hb4⟩; obtain ⟨⟨za, ca⟩, ⟨zb, cb⟩, fa, fb⟩ := CC.out w4 hb4; have P4 := hide (PK.out w4 hb4))
          go_roundw
          case rel => exact ⟨k + 1, by omega, by go_num, P4⟩
          case measure => simp [intOf]; omega
        · have ek : k = G.ks.length := by omega
          subst ek
          obtain ⟨r1, r2⟩ := BK.out.rd LL.out LH.out
          have b0 := BK.out.b0
          have b1 := BK.out.b1
          have b2 := BK.out.b2
          have b3 := BK.out.b3
          have bb := BK.out.below
          have R1 := hide r1
          have R2 := hide r2
          clear r1 r2 HCT RT FT AL hk hlt
          by_cases hv : G.w = 3
          · have qv : (G.w == 3) = true := by rw [beq_iff_eq]; exact hv
            have E1 : Hid (M.lowL L = bv.1) := by unfold Hid; rw [BV.out]; unfold M.between; rw [if_neg (by simp [hv])]
            have E2 : Hid (M.highL H = bv.2) := by unfold Hid; rw [BV.out]; unfold M.between; rw [if_neg (by simp [hv])]
            have c1 := hide (MI.out wr (some ⟨g1, 0, none⟩) G.ks.length L HV1.out R1.out)
            have c2 := hide (MA.out wr (some ⟨g2, 0, none⟩) G.ks.length H HV2.out R2.out)
            rw [LL.out] at c1
            rw [LH.out] at c2
            clear hv TG MI MA HV1 HV2 R1 R2 BK BV
            generalize M.lowL L = lo at *
            generalize M.highL H = hi at *
            go_wp2_with (first
              | (go_at_call 38; refine c1.out.mono ?_; rintro e w5 ⟨rfl, e5⟩; subst w5)
              | (go_at_call 39; refine c2.out.mono ?_; rintro e w5 ⟨rfl, e5⟩; subst w5))
            go_ret3
            exact ⟨three_ret E1.out E2.out ES.out.symm, bb⟩
          · have qv : (G.w == 3) = false := by rw [beq_eq_false_iff_ne]; exact hv
            have E1 : Hid (M.together G.w G.ws L = bv.1) := by unfold Hid; rw [BV.out]; unfold M.between; rw [if_pos hv]
            have E2 : Hid (M.together G.w G.ws H = bv.2) := by unfold Hid; rw [BV.out]; unfold M.between; rw [if_pos hv]
            have c1 := hide (fun W (hW : Below wr.heap.size wr W) => TG.out W (some ⟨g1, 0, none⟩) G.ks.length L HV1.out (below_on bb hW) (R1.out.below hW))
            have c2 := hide (fun W (hW : Below wr.heap.size wr W) => TG.out W (some ⟨g2, 0, none⟩) G.ks.length H HV2.out (below_on bb hW) (R2.out.below hW))
            rw [LL.out] at c1
            rw [LH.out] at c2
            have CB : Hid (∀ W, Below wr.heap.size wr W → W.cell? ⟨w.heap.size, 0, none⟩ = some (.int .i64 G.f) ∧ W.cell? ⟨w.heap.size, 1, none⟩ = some (.int .i64 G.w) ∧ W.cell? ⟨w.heap.size, 2, none⟩ = some (.slice G.wa G.ws.length G.wc) ∧ W.cell? ⟨w.heap.size, 3, none⟩ = some (.slice (some ⟨bt, ot, none⟩) G.ks.length G.tc)) := fun W hW => ⟨(BK.out.up hW).b0, (BK.out.up hW).b1, (BK.out.up hW).b2, (BK.out.up hW).b3⟩
            have bd : Below wr.heap.size wr wr.drew := (Below.refl _ wr).drew
            clear hv TG MI MA HV1 HV2 R1 R2 BK BV
            generalize M.together G.w G.ws L = lo at *
            generalize M.together G.w G.ws H = hi at *
            go_upto_region 12 with fail
            go_region_held3 (fun W => W.cell? ⟨w.heap.size, 0, none⟩ = some (.int .i64 G.f) ∧ W.cell? ⟨w.heap.size, 1, none⟩ = some (.int .i64 G.w) ∧ W.cell? ⟨w.heap.size, 2, none⟩ = some (.slice G.wa G.ws.length G.wc) ∧ W.cell? ⟨w.heap.size, 3, none⟩ = some (.slice (some ⟨bt, ot, none⟩) G.ks.length G.tc)) (go_keep) (first
              | (go_at_call_of 36 (Value.slice (some ⟨g1, 0, none⟩) G.ks.length G.ks.length); refine (c1.out _ ?_).mono ?_; (first | exact bd | exact bx); rintro e w5 ⟨rfl, hb5⟩; (first | (have by' := below_on bx hb5; have bz := hide by') | (have bx := below_on bd hb5)); obtain ⟨k0, k1, k2, k3⟩ := CB.out w5 (by first | exact by' | exact bx))
              | (go_at_call_of 36 (Value.slice (some ⟨g2, 0, none⟩) G.ks.length G.ks.length); refine (c2.out _ ?_).mono ?_; (first | exact bd | exact bx); rintro e w5 ⟨rfl, hb5⟩; (first | (have by' := below_on bx hb5; have bz := hide by') | (have bx := below_on bd hb5)); obtain ⟨k0, k1, k2, k3⟩ := CB.out w5 (by first | exact by' | exact bx)))
            all_goals go_wp2
            all_goals go_ret3
            all_goals exact ⟨three_ret E1.out E2.out ES.out.symm, below_on bb bz.out⟩
  · have EB : Hid (M.boundsV G.m = (0, 0)) := by unfold Hid M.boundsV; rw [if_neg hg]
    have ES := hide (err_some hg)
    rw [err_some hg] at C1
    unfold Gr.v at C1 ⊢
    clear hg h
    generalize errV (M.groveF G.m) = er at *
    generalize M.boundsV G.m = bv at *
    generalize M.groveF G.m = gF at *
    go_enter Tryd.func20, Tryd.ntmps20
    go_wp2_with (go_at_call 11; refine (C1.out _ (B0.out _)).mono ?_; rintro e w1 ⟨rfl, hb1⟩; have hb1' := below_on (B0.out _) hb1)
    go_ret3
    exact ⟨three_ret (by rw [EB.out]) (by rw [EB.out]) ES.out.symm, hb1'⟩

end Go.Proofs.YtandimbpealclacDoor
