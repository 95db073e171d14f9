/-
  Several texts as one: LimGrove.
-/
import Derived.Test.YtelncekgjfpogahGreatDoorRunT27
import Derived.Test.YtelncekgjfpogahGreatDoorRunT29
import Derived.Deep.Cut
import Derived.Deep.CutRange
namespace Go.Proofs.YtelncekgjfpogahGreatDoor
open Go.ChangeShapes Go.WideShapes Go.ChangeAt Go.RowKit Go.Lib
set_option linter.unusedVariables false
theorem M.lim_vw {g : M.Gv} {l : List M.Sp} (h : M.limGF g l = 0) : Vw (M.gs g) (M.lowsL g l) ∧ Vw (M.gs g) (M.highsL g l) := by
 obtain ⟨K, _, _, ht⟩ := M.limG_ok h
 have l1 : (M.lowsL g l).length = (M.gt g).length := by unfold M.lowsL; simp
 have l2 : (M.highsL g l).length = (M.gt g).length := by unfold M.highsL; simp
 refine ⟨⟨by rw [l1]; exact K.len, by rw [l1]; exact K.t0, by rw [l1]; exact K.t12, fun i hi => ?_, fun i hi => M.wt_at K (by rw [← l1]; exact hi)⟩, ⟨by rw [l2]; exact K.len, by rw [l2]; exact K.t0, by rw [l2]; exact K.t12, fun i hi => ?_, fun i hi => M.wt_at K (by rw [← l2]; exact hi)⟩⟩
 · have hi' : i < (M.gt g).length := by rw [← l1]; exact hi
   have e : (M.lowsL g l).getD i 0 = M.limLo (M.gt g)[i] l := by unfold M.lowsL at hi ⊢; rw [M.getD_at hi, List.getElem_map]
   rw [e]
   exact (M.lim_range (ht _ (List.getElem_mem hi'))).1
 · have hi' : i < (M.gt g).length := by rw [← l2]; exact hi
   have e : (M.highsL g l).getD i 0 = M.limHi (M.gt g)[i] l := by unfold M.highsL at hi ⊢; rw [M.getD_at hi, List.getElem_map]
   rw [e]
   exact (M.lim_range (ht _ (List.getElem_mem hi'))).2
theorem lret {a b c d : Int} {x y : Value} (h1 : a = b) (h2 : c = d) (h3 : x = y) : Ending.returned (.tuple #[.int .i64 a, .int .i64 c, x]) = .returned (.tuple #[.int .i64 b, .int .i64 d, y]) := by rw [h1, h2, h3]
set_option maxHeartbeats 4000000 in
set_option maxRecDepth 10000 in
theorem both_in (f wy : Int) (wa ta la ha : Option Addr) (ws L H : List Int) (wc tn tc lc hc : Nat) (w : World) (hw : Rd w wa ws) (hl : Rd w la L) (hh : Rd w ha H) (V1 : Vw ws L) (V2 : Vw ws H) (h1 : 1 ≤ wy) (h3 : wy ≤ 3) :
 Calls Tryz.prog 58 #[.agg #[.int .i64 f, .int .i64 wy, .slice wa ws.length wc, .slice ta tn tc], .slice la L.length lc, .slice ha H.length hc] w fun e w' => e = .returned (.tuple #[.int .i64 (M.together wy ws L), .int .i64 (M.together wy ws H), .nilIface]) ∧ Below w.heap.size w w' := by
 have C1 := hide (fun W (hW : Below w.heap.size w W) => gTog_in wy wa la ws L wc lc W (hw.below hW) (hl.below hW) V1 h1 h3)
 have C2 := hide (fun W (hW : Below w.heap.size w W) => gTog_in wy wa ha ws H wc hc W (hw.below hW) (hh.below hW) V2 h1 h3)
 have B0 : Hid (∀ o, Below w.heap.size w (w.alloc o)) := fun o => (Below.refl _ w).alloc (Nat.le_refl _) o
 clear hw hl hh V1 V2 h1 h3
 generalize M.together wy ws L = lo at *
 generalize M.together wy ws H = hi at *
 go_enter Tryz.func58, Tryz.ntmps58
 go_wp2_with (first
  | (go_at_call 53; refine (C2.out _ k1.out).mono ?_; rintro e w2 ⟨rfl, hb2⟩; have k2 := hide (below_on k1.out hb2); clear hb2)
  | (go_at_call 53; refine (C1.out _ (B0.out _)).mono ?_; rintro e w1 ⟨rfl, hb1⟩; have z1 := (kept_box hb1).2.1; have z2 := (kept_box hb1).2.2.1; have k1 := hide (below_on (B0.out _) hb1); clear hb1))
 go_ret3
 exact ⟨rfl, k2.out⟩
set_option maxHeartbeats 16000000 in
set_option maxRecDepth 10000 in
theorem limgrove_any (hT : LimTreeGives) : LimGroveGives := by
 intro G bl ss cl w h hs
 have C1 := hide (fun W (hW : Below w.heap.size w W) => gcheck_any G W (h.below hW))
 have B0 : Hid (∀ o, Below w.heap.size w (w.alloc o)) := fun o => (Below.refl _ w).alloc (Nat.le_refl _) o
 have hm : ss.length ≤ 9223372036854775807 := hs.1
 have gfe : M.gf G.m = G.f := rfl
 by_cases hg : M.groveF G.m = 0
 · by_cases hf : (ss.length : Int) = G.f
   · have K := (M.good_iff _).1 hg
     have tlen : (M.gt G.m).length = G.ks.length := tl_len G.ks
     have n0 : 0 < G.ks.length := by rw [← tlen]; exact K.t0
     have n12 : G.ks.length ≤ 12 := by rw [← tlen]; exact K.t12
     have GF : M.limGF G.m ss = M.spF ss := by unfold M.limGF; rw [if_neg (by simp [hg]), if_neg (by rw [gfe]; simp [hf])]
     have TF : ∀ k (hk : k < G.ks.length), M.limF G.ks[k].2.1 ss = M.spF ss := fun k hk => by
      have tz : (M.treeF G.ks[k].2.1 (ss.length : Int)).2 = 0 := by rw [hf, ← gfe]; exact K.trees G.ks[k].2.1 (List.mem_map.2 ⟨_, List.getElem_mem hk, rfl⟩)
      unfold M.limF
      by_cases e : M.spF ss = 0
      · rw [if_neg (by simp [e]), tz, e]
      · rw [if_pos e]
     have w1' : 1 ≤ G.w := K.w1
     have w3' : G.w ≤ 3 := K.w3
     have RT : Hid (∀ W, Below w.heap.size w W → ∀ k (hk : k < G.ks.length), RdN W G.ks[k].1 G.ks[k].2.1) := fun W hW k hk => (h.below hW).2.2.1 _ (List.getElem_mem hk)
     obtain ⟨bt, ot, eta, hbt, hct0⟩ := h.2.2.2 (by intro e; rw [e] at n0; simp at n0)
     have HCT : Hid (∀ W, Below w.heap.size w W → ∀ i (hi : i < G.ks.length), W.cell? ⟨bt, ot + i, none⟩ = some (tV G.ks[i])) := fun W hW i hi => (hW.cell (p := ⟨bt, ot + i, none⟩) hbt).trans (hct0 i hi)
     have HS := hide (fun W (hW : Below w.heap.size w W) => hs.below hW)
     have HW := hide (fun W (hW : Below w.heap.size w W) => (h.below hW).1)
     have mk := fun W => run_make_row' (P := Tryz.prog) 23 3 (.int .i64 0) 8 Tryz.underlying23 info3 (by simp [Value.cells]) .i64 .i64 G.ks.length (by omega) (by omega) W
     have q : ((ss.length : Int) != G.f) = false := by rw [bne_eq_false_iff_eq]; exact hf
     rw [err_nil hg] at C1
     by_cases hp : M.spF ss = 0
     · have G0 : M.limGF G.m ss = 0 := by rw [GF]; exact hp
       obtain ⟨V1, V2⟩ := M.lim_vw G0
       have LL : Hid ((M.lowsL G.m ss).length = G.ks.length) := by unfold Hid M.lowsL; rw [List.length_map]; exact tlen
       have LH : Hid ((M.highsL G.m ss).length = G.ks.length) := by unfold Hid M.highsL; rw [List.length_map]; exact tlen
       have AL : Hid (∀ k (hk : k < G.ks.length), (M.lowsL G.m ss).getD k 0 = M.limLo G.ks[k].2.1 ss ∧ (M.highsL G.m ss).getD k 0 = M.limHi G.ks[k].2.1 ss) := fun k hk => by
        have e : (M.gt G.m)[k]'(by rw [tlen]; exact hk) = G.ks[k].2.1 := by show (tl G.ks)[k]'(by rw [tl_len]; exact hk) = _; simp [tl]
        rw [M.getD_at (by rw [LL.out]; exact hk), M.getD_at (by rw [LH.out]; exact hk)]
        unfold M.lowsL M.highsL
        rw [List.getElem_map, List.getElem_map, e]
        exact ⟨rfl, rfl⟩
       have TC : Hid (∀ k (hk : k < G.ks.length) W, Below w.heap.size w W → Calls Tryz.prog 57 #[.slice G.ks[k].1 G.ks[k].2.1.length G.ks[k].2.2, .slice bl ss.length cl] W fun e w' => e = .returned (.tuple #[.int .i64 (M.limLo G.ks[k].2.1 ss), .int .i64 (M.limHi G.ks[k].2.1 ss), .nilIface]) ∧ Below W.heap.size W w') := fun k hk W hW => by
        have := hT G.ks[k].1 bl G.ks[k].2.1 ss G.ks[k].2.2 cl W (RT.out W hW k hk) (HS.out W hW)
        rw [err_nil ((TF k hk).trans hp)] at this
        exact this
       have BO : Hid (∀ W la lc ha hc, Below w.heap.size w W → Rd W la (M.lowsL G.m ss) → Rd W ha (M.highsL G.m ss) → Calls Tryz.prog 58 #[.agg #[.int .i64 G.f, .int .i64 G.w, .slice G.wa G.ws.length G.wc, .slice (some ⟨bt, ot, none⟩) G.ks.length G.tc], .slice la (M.lowsL G.m ss).length lc, .slice ha (M.highsL G.m ss).length hc] W fun e w' => e = .returned (.tuple #[.int .i64 (M.together G.w G.ws (M.lowsL G.m ss)), .int .i64 (M.together G.w G.ws (M.highsL G.m ss)), .nilIface]) ∧ Below W.heap.size W w') := fun W la lc ha hc hW hl hh => both_in G.f G.w G.wa (some ⟨bt, ot, none⟩) la ha G.ws _ _ G.wc G.ks.length G.tc lc hc W (HW.out W hW) hl hh V1 V2 w1' w3'
       have MI : Hid (∀ W ag cg vs, Vw G.ws vs → Rd W ag vs → Calls Tryz.prog 55 #[.slice ag vs.length cg] W fun e w' => e = .returned (.int .i64 (M.lowL vs)) ∧ w' = W) := fun W ag cg vs V hv => smin_in ag vs cg W hv V.pos V.top
       have MA : Hid (∀ W ag cg vs, Vw G.ws vs → Rd W ag vs → Calls Tryz.prog 56 #[.slice ag vs.length cg] W fun e w' => e = .returned (.int .i64 (M.highL vs)) ∧ w' = W) := fun W ag cg vs V hv => smax_in ag vs cg W hv V.pos V.top
       have BV : Hid (M.limGV G.m ss = M.between G.w G.ws (M.lowsL G.m ss) (M.highsL G.m ss)) := by unfold Hid M.limGV; rw [if_pos G0]; rfl
       have HV1 : Hid (Vw G.ws (M.lowsL G.m ss)) := V1
       have HV2 : Hid (Vw G.ws (M.highsL G.m ss)) := V2
       have ES : Hid (errV (M.limGF G.m ss) = .nilIface) := err_nil G0
       unfold Gr.v at C1 ⊢
       rw [eta] at C1 ⊢
       clear hg hf K tlen hct0 hbt eta h hs V1 V2 GF G0 TF hp RT gfe
       generalize errV (M.limGF G.m ss) = er at *
       generalize M.lowsL G.m ss = L at *
       generalize M.highsL G.m ss = H at *
       generalize M.limGV G.m ss = bv at *
       go_enter Tryz.func21, Tryz.ntmps21
       go_upto_region 6 with (go_at_call 28; refine (C1.out _ (B0.out _)).mono ?_; rintro e w1 ⟨rfl, hb1⟩; have z0 := (kept_box hb1).1; have c3 := (kept_box hb1).2.2.2; have T2 := hide (bd_two LL.out LH.out n12 hb1))
       go_cut [8, 9] from 23 to 30 (fun u v wx => ∃ g1 g2, u = .slice (some ⟨g1, 0, none⟩) G.ks.length G.ks.length ∧ v = .slice (some ⟨g2, 0, none⟩) G.ks.length G.ks.length ∧ Hid (Bd (.int .i64 G.f) (.int .i64 G.w) (.slice G.wa G.ws.length G.wc) (.slice (some ⟨bt, ot, none⟩) G.ks.length G.tc) w G.ks.length L H wx 0 g1 g2))
       case first =>
        go_region_held3 (fun W => W.cell? ⟨w.heap.size, 3, none⟩ = some (.slice (some ⟨bt, ot, none⟩) G.ks.length G.tc)) (go_keep) (fail)
        all_goals go_wp2
        all_goals go_meet
        all_goals (case rel => first | exact ⟨_, _, rfl, rfl, T2.out.1⟩ | exact ⟨_, _, rfl, rfl, T2.out.2⟩)
       case rest =>
        obtain ⟨g1, g2, rfl, rfl, BD⟩ := hcut
        have d3 := BD.out.b3
        clear T2 c3 hb1 C1 mk z0
        go_wp2
        go_loopw [6, 34] (fun e6 i wr => ∃ k : Nat, k ≤ G.ks.length ∧ i = .int .i64 k ∧ e6 = .nilIface ∧ Hid (Bd (.int .i64 G.f) (.int .i64 G.w) (.slice G.wa G.ws.length G.wc) (.slice (some ⟨bt, ot, none⟩) G.ks.length G.tc) w G.ks.length L H wr k g1 g2)) (fun _ i _ => G.ks.length - (intOf i).toNat)
        case atStart => exact ⟨0, Nat.zero_le _, rfl, rfl, BD⟩
        case round =>
         clear BD d3
         obtain ⟨k, hk, rfl, rfl, BK⟩ := hrel
         by_cases hlt : k < G.ks.length
         · have ct := HCT.out wr BK.out.below k hlt
           unfold tV at ct
           have kz : (k : Int) < (G.ks.length : Int) := by omega
           have EC := hide (TC.out k hlt wr BK.out.below)
           have PK : Hid (∀ W, Below wr.heap.size wr W → Bd (.int .i64 G.f) (.int .i64 G.w) (.slice G.wa G.ws.length G.wc) (.slice (some ⟨bt, ot, none⟩) G.ks.length G.tc) w G.ks.length L H ((W.setCell ⟨g1, k, none⟩ (.int .i64 (M.limLo G.ks[k].2.1 ss))).setCell ⟨g2, k, none⟩ (.int .i64 (M.limHi G.ks[k].2.1 ss))) (k + 1) g1 g2) := fun W hW => by
            have := (BK.out.up hW).put LL.out LH.out hlt
            rw [(AL.out k hlt).1, (AL.out k hlt).2] at this
            exact this
           have CC : Hid (∀ W, Below wr.heap.size wr W → (∃ z, W.cell? ⟨g1, k, none⟩ = some (.int .i64 z)) ∧ (∃ z, W.cell? ⟨g2, k, none⟩ = some (.int .i64 z)) ∧ W.frozen? ⟨g1, k, none⟩ = false ∧ W.frozen? ⟨g2, k, none⟩ = false) := fun W hW => (BK.out.up hW).cells LL.out LH.out hlt
           have nn : ¬ g1 = g2 := BK.out.ne
           clear HCT AL MI MA HV1 HV2 TC BO HS HW
           generalize M.limLo G.ks[k].2.1 ss = lo at *
           generalize M.limHi G.ks[k].2.1 ss = hi at *
           generalize G.ks[k].2.1.length = tn at *
           generalize G.ks[k].2.2 = tcc at *
           generalize G.ks[k].1 = ta at *
           go_wp2_with (go_at_call 57; refine EC.out.mono ?_; rintro e w4 ⟨rfl, hb4⟩; obtain ⟨⟨za, ca⟩, ⟨zb, cb⟩, fa, fb⟩ := CC.out w4 hb4; have P4 := hide (PK.out w4 hb4))
           go_roundw
           case rel => exact ⟨k + 1, by omega, by go_num, rfl, P4⟩
           case measure => simp [intOf]; omega
         · have ek : k = G.ks.length := by omega
           subst ek
           obtain ⟨r1, r2⟩ := BK.out.rd LL.out LH.out
           have b0 := BK.out.b0
           have b1 := BK.out.b1
           have b2 := BK.out.b2
           have b3 := BK.out.b3
           have bb := hide BK.out.below
           have R1 := hide r1
           have R2 := hide r2
           clear r1 r2 HCT AL hk hlt
           by_cases hv : G.w = 3
           · have qv : (G.w == 3) = true := by rw [beq_iff_eq]; exact hv
             have E1 : Hid (M.lowL L = bv.1) := by unfold Hid; rw [BV.out]; unfold M.between; rw [if_neg (by simp [hv])]
             have E2 : Hid (M.highL H = bv.2) := by unfold Hid; rw [BV.out]; unfold M.between; rw [if_neg (by simp [hv])]
             have c1 := hide (MI.out wr (some ⟨g1, 0, none⟩) G.ks.length L HV1.out R1.out)
             have c2 := hide (MA.out wr (some ⟨g2, 0, none⟩) G.ks.length H HV2.out R2.out)
             rw [LL.out] at c1
             rw [LH.out] at c2
             clear hv TC BO MI MA HV1 HV2 R1 R2 BK BV
             generalize M.lowL L = lo at *
             generalize M.highL H = hi at *
             go_wp2_with (first
              | (go_at_call 55; refine c1.out.mono ?_; rintro e w5 ⟨rfl, e5⟩; subst w5)
              | (go_at_call 56; refine c2.out.mono ?_; rintro e w5 ⟨rfl, e5⟩; subst w5))
             go_ret3
             exact ⟨lret E1.out E2.out ES.out.symm, bb.out⟩
           · have qv : (G.w == 3) = false := by rw [beq_eq_false_iff_ne]; exact hv
             have E1 : Hid (M.together G.w G.ws L = bv.1) := by unfold Hid; rw [BV.out]; unfold M.between; rw [if_pos hv]
             have E2 : Hid (M.together G.w G.ws H = bv.2) := by unfold Hid; rw [BV.out]; unfold M.between; rw [if_pos hv]
             have c1 := hide (BO.out wr (some ⟨g1, 0, none⟩) G.ks.length (some ⟨g2, 0, none⟩) G.ks.length bb.out R1.out R2.out)
             rw [LL.out, LH.out] at c1
             clear hv TC BO MI MA HV1 HV2 R1 R2 BK BV
             generalize M.together G.w G.ws L = lo at *
             generalize M.together G.w G.ws H = hi at *
             go_wp2_with (go_at_call 58; refine c1.out.mono ?_; rintro e w5 ⟨rfl, hb5⟩; have k5 := hide (below_on bb.out hb5); clear hb5)
             go_ret3
             exact ⟨lret E1.out E2.out ES.out.symm, k5.out⟩
     · have GZ : M.limGF G.m ss ≠ 0 := by rw [GF]; exact hp
       have EB : Hid (M.limGV G.m ss = (0, 0)) := by unfold Hid M.limGV; rw [if_neg GZ]
       have TC : Hid (∀ W, Below w.heap.size w W → Calls Tryz.prog 57 #[.slice (G.ks[0]'n0).1 (G.ks[0]'n0).2.1.length (G.ks[0]'n0).2.2, .slice bl ss.length cl] W fun e w' => e = .returned (.tuple #[.int .i64 (M.limLo (G.ks[0]'n0).2.1 ss), .int .i64 (M.limHi (G.ks[0]'n0).2.1 ss), .iface 74 (.int .i64 (M.spF ss))]) ∧ Below W.heap.size W w') := fun W hW => by
        have := hT (G.ks[0]'n0).1 bl (G.ks[0]'n0).2.1 ss (G.ks[0]'n0).2.2 cl W (RT.out W hW 0 n0) (HS.out W hW)
        rw [err_some (by rw [TF 0 n0]; exact hp), TF 0 n0] at this
        exact this
       have CT0 : Hid (∀ W, Below w.heap.size w W → W.cell? ⟨bt, ot, none⟩ = some (.slice (G.ks[0]'n0).1 (G.ks[0]'n0).2.1.length (G.ks[0]'n0).2.2)) := fun W hW => HCT.out W hW 0 n0
       have RL : Hid ((List.replicate G.ks.length (0 : Int)).length = G.ks.length) := List.length_replicate
       have ES : Hid (errV (M.limGF G.m ss) = .iface 74 (.int .i64 (M.spF ss))) := by unfold Hid; rw [err_some GZ, GF]
       have q0 : decide ((0 : Int) < (G.ks.length : Int)) = true := decide_eq_true (by omega)
       have nz : (0 : Int) < (G.ks.length : Int) := by omega
       unfold Gr.v at C1 ⊢
       rw [eta] at C1 ⊢
       clear hg hf K tlen hct0 hbt eta h hs GF GZ TF hp RT gfe HCT HS HW w1' w3'
       generalize errV (M.limGF G.m ss) = er at *
       generalize List.replicate G.ks.length (0 : Int) = L at *
       generalize M.limGV G.m ss = bv at *
       generalize M.spF ss = sf at *
       generalize M.limLo (G.ks[0]'n0).2.1 ss = lo at *
       generalize M.limHi (G.ks[0]'n0).2.1 ss = hi at *
       generalize (G.ks[0]'n0).2.1.length = tn at *
       generalize (G.ks[0]'n0).2.2 = tcc at *
       generalize (G.ks[0]'n0).1 = ta at *
       go_enter Tryz.func21, Tryz.ntmps21
       go_upto_region 6 with (go_at_call 28; refine (C1.out _ (B0.out _)).mono ?_; rintro e w1 ⟨rfl, hb1⟩; have z0 := (kept_box hb1).1; have c3 := (kept_box hb1).2.2.2; have T2 := hide (bd_two RL.out RL.out n12 hb1))
       go_cut [8, 9] from 23 to 30 (fun u v wx => ∃ g1 g2, u = .slice (some ⟨g1, 0, none⟩) G.ks.length G.ks.length ∧ v = .slice (some ⟨g2, 0, none⟩) G.ks.length G.ks.length ∧ Hid (Bd (.int .i64 G.f) (.int .i64 G.w) (.slice G.wa G.ws.length G.wc) (.slice (some ⟨bt, ot, none⟩) G.ks.length G.tc) w G.ks.length L L wx 0 g1 g2))
       case first =>
        go_region_held3 (fun W => W.cell? ⟨w.heap.size, 3, none⟩ = some (.slice (some ⟨bt, ot, none⟩) G.ks.length G.tc)) (go_keep) (fail)
        all_goals go_wp2
        all_goals go_meet
        all_goals (case rel => first | exact ⟨_, _, rfl, rfl, T2.out.1⟩ | exact ⟨_, _, rfl, rfl, T2.out.2⟩)
       case rest =>
        obtain ⟨g1, g2, rfl, rfl, BD⟩ := hcut
        have d3 := BD.out.b3
        clear T2 c3 hb1 C1 mk z0
        go_wp2
        go_loopw [34] (fun i wr => i = .int .i64 0 ∧ Hid (Bd (.int .i64 G.f) (.int .i64 G.w) (.slice G.wa G.ws.length G.wc) (.slice (some ⟨bt, ot, none⟩) G.ks.length G.tc) w G.ks.length L L wr 0 g1 g2)) (fun _ _ => 0)
        case atStart => exact ⟨rfl, BD⟩
        case round =>
         clear BD d3
         obtain ⟨rfl, BK⟩ := hrel
         have ct := CT0.out wr BK.out.below
         have EC := hide (TC.out wr BK.out.below)
         have CC : Hid (∀ W, Below wr.heap.size wr W → (∃ z, W.cell? ⟨g1, 0, none⟩ = some (.int .i64 z)) ∧ (∃ z, W.cell? ⟨g2, 0, none⟩ = some (.int .i64 z)) ∧ W.frozen? ⟨g1, 0, none⟩ = false ∧ W.frozen? ⟨g2, 0, none⟩ = false) := fun W hW => (BK.out.up hW).cells RL.out RL.out n0
         have nn : ¬ g1 = g2 := BK.out.ne
         have l1 := BK.out.l1
         have l2 := BK.out.l2
         have PB : Hid (∀ W v1 v2, Below wr.heap.size wr W → Below w.heap.size w ((W.setCell ⟨g1, 0, none⟩ v1).setCell ⟨g2, 0, none⟩ v2)) := fun W v1 v2 hW => ((below_on BK.out.below hW).setCell (p := ⟨g1, 0, none⟩) (Nat.le_of_lt l1) v1).setCell (p := ⟨g2, 0, none⟩) (Nat.le_of_lt l2) v2
         clear TC CT0
         go_wp2_with (go_at_call 57; refine EC.out.mono ?_; rintro e w4 ⟨rfl, hb4⟩; obtain ⟨⟨za, ca⟩, ⟨zb, cb⟩, fa, fb⟩ := CC.out w4 hb4; have P4 := hide (fun v1 v2 => PB.out w4 v1 v2 hb4))
         go_ret3
         exact ⟨lret (by rw [EB.out]) (by rw [EB.out]) ES.out.symm, P4.out _ _⟩
   · have GF : M.limGF G.m ss = 3 := by unfold M.limGF; rw [if_neg (by simp [hg]), if_pos (by rw [gfe]; exact hf)]
     have EB : Hid (M.limGV G.m ss = (0, 0)) := by unfold Hid M.limGV; rw [if_neg (by rw [GF]; decide)]
     have q : ((ss.length : Int) != G.f) = true := by rw [bne_iff_ne]; exact hf
     rw [GF, err_some (show (3 : Int) ≠ 0 by decide)]
     rw [err_nil hg] at C1
     unfold Gr.v at C1 ⊢
     clear hg hf h hs GF gfe
     generalize M.limGV G.m ss = bv at *
     go_enter Tryz.func21, Tryz.ntmps21
     go_wp2_with (go_at_call 28; refine (C1.out _ (B0.out _)).mono ?_; rintro e w1 ⟨rfl, hb1⟩; have z0 := (kept_box hb1).1; have hb1' := hide (below_on (B0.out _) hb1); clear hb1)
     go_ret3
     exact ⟨lret (by rw [EB.out]) (by rw [EB.out]) rfl, hb1'.out⟩
 · have GF : M.limGF G.m ss = M.groveF G.m := by unfold M.limGF; rw [if_pos hg]
   have EB : Hid (M.limGV G.m ss = (0, 0)) := by unfold Hid M.limGV; rw [if_neg (by rw [GF]; exact hg)]
   rw [GF, err_some hg]
   rw [err_some hg] at C1
   unfold Gr.v at C1 ⊢
   clear hg h hs GF gfe
   generalize M.limGV G.m ss = bv at *
   generalize M.groveF G.m = gF at *
   go_enter Tryz.func21, Tryz.ntmps21
   go_wp2_with (go_at_call 28; refine (C1.out _ (B0.out _)).mono ?_; rintro e w1 ⟨rfl, hb1⟩; have hb1' := hide (below_on (B0.out _) hb1); clear hb1)
   go_ret3
   exact ⟨lret (by rw [EB.out]) (by rw [EB.out]) rfl, hb1'.out⟩
end Go.Proofs.YtelncekgjfpogahGreatDoor
