/-
  What the reference's Together answers, for a grove that is right and as many values that are within a cell's bounds.
-/
import Derived.Test.YtandimbpealclacDoorRefGrove
import Derived.Test.YtandimbpealclacDoorRefFloor
namespace Go.Proofs.YtandimbpealclacDoor
open Go.ChangeShapes Go.WideShapes Go.ChangeAt Go.RowKit Go.Lib
set_option linter.unusedVariables false

theorem wrap_in4 (x : Int) (h1 : -9223372036854775808 ≤ x) (h2 : x ≤ 9223372036854775807) : IntKind.i64.wrap x = x := by
  simp [IntKind.wrap, IntKind.bits, IntKind.signed]
  split <;> omega
theorem M.prod_bound {a b : Int} (h1 : -1000000 ≤ a) (h2 : a ≤ 1000000) (h3 : 1 ≤ b) (h4 : b ≤ 1000) : -1000000000 ≤ a * b ∧ a * b ≤ 1000000000 := by
  have q1 : a * b ≤ 1000000 * b := Int.mul_le_mul_of_nonneg_right h2 (by omega)
  have q2 : -1000000 * b ≤ a * b := Int.mul_le_mul_of_nonneg_right h1 (by omega)
  omega

set_option maxHeartbeats 16000000 in
set_option maxRecDepth 10000 in
theorem rtog_any (G : Gr) (b : Option Addr) (l : List Int) (cb : Nat) (w : World) (h : RdG w G) (hr : Rd w b l) (Gd : M.Good G.m) (hl : l.length = G.ks.length) (hv : ∀ i, i < l.length → -1000000 ≤ l.getD i 0 ∧ l.getD i 0 ≤ 1000000) :
    Calls Tryd.prog 14 #[G.v, .slice b l.length cb] w fun e w' => e = .returned (.int .i64 (M.together G.w G.ws l)) ∧ Below w.heap.size w w' := by
  have tlen : (M.gt G.m).length = G.ks.length := tl_len G.ks
  have n12 : l.length ≤ 12 := by rw [hl, ← tlen]; exact Gd.t12
  have n0 : 0 < l.length := by rw [hl, ← tlen]; exact Gd.t0
  have wl : G.ws.length = l.length := by rw [hl, ← tlen]; exact Gd.len
  have wa : ∀ i, i < l.length → 1 ≤ G.ws.getD i 0 ∧ G.ws.getD i 0 ≤ 1000 := fun i hi => M.wt_at Gd (by rw [tlen, ← hl]; exact hi)
  have SB : Hid (∀ k, k ≤ l.length → -12000000000 ≤ M.sumK l G.ws k ∧ M.sumK l G.ws k ≤ 12000000000) := fun k hk => by
    have := M.sum_bound (l := l) (ws := G.ws) k (fun i hi => ⟨(hv i (by omega)).1, (hv i (by omega)).2, (wa i (by omega)).1, (wa i (by omega)).2⟩)
    omega
  have AB : Hid (∀ k, k ≤ l.length → (k : Int) ≤ M.allK G.ws k ∧ M.allK G.ws k ≤ 12000) := fun k hk => by
    have := M.all_pos (ws := G.ws) k (fun i hi => wa i (by omega))
    omega
  have VB : Hid (∀ v k, k ≤ l.length → 0 ≤ M.votK l G.ws v k ∧ M.votK l G.ws v k ≤ 12000) := fun v k hk => by
    have := M.vot_bound (l := l) (ws := G.ws) v k (fun i hi => wa i (by omega))
    omega
  have HV := hide hv
  have WA := hide wa
  have HL : Hid (∀ W, Below w.heap.size w W → ∃ bl ol, b = some ⟨bl, ol, none⟩ ∧ bl < W.heap.size ∧ ∀ i, i < l.length → W.cell? ⟨bl, ol + i, none⟩ = some (.int .i64 (l.getD i 0))) := fun W hW => (hr.below hW).2 (by intro e; rw [e] at n0; simp at n0)
  have HW : Hid (∀ W, Below w.heap.size w W → ∃ bw ow, G.wa = some ⟨bw, ow, none⟩ ∧ bw < W.heap.size ∧ ∀ i, i < l.length → W.cell? ⟨bw, ow + i, none⟩ = some (.int .i64 (G.ws.getD i 0))) := fun W hW => by
    obtain ⟨bw, ow, e, h1, h2⟩ := (h.1.below hW).2 (by intro e; rw [e] at wl; simp at wl; omega)
    exact ⟨bw, ow, e, h1, fun i hi => h2 i (by omega)⟩
  obtain ⟨bl, ol, rfl, _, _⟩ := HL.out w (Below.refl _ _)
  obtain ⟨bw, ow, ewa, _, _⟩ := HW.out w (Below.refl _ _)
  obtain ⟨gO, hgO⟩ : ∃ o : Obj, o = .cells #[.int .i64 G.f, .int .i64 G.w, .slice G.wa G.ws.length G.wc, .slice G.ta G.ks.length G.tc] 38 := ⟨_, rfl⟩
  -- all that is read, in whatever world
  have KG : Hid (∀ W, Below (w.alloc gO).heap.size (w.alloc gO) W → Below w.heap.size w W ∧ W.cell? ⟨w.heap.size, 1, none⟩ = some (.int .i64 G.w) ∧ W.cell? ⟨w.heap.size, 2, none⟩ = some (.slice (some ⟨bw, ow, none⟩) l.length G.wc) ∧ ∀ i, i < l.length → W.cell? ⟨bl, ol + i, none⟩ = some (.int .i64 (l.getD i 0)) ∧ W.cell? ⟨bw, ow + i, none⟩ = some (.int .i64 (G.ws.getD i 0))) := fun W hW => by
    have kw : Below w.heap.size w W := below_on ((Below.refl _ w).alloc (Nat.le_refl _) gO) hW
    obtain ⟨bl', ol', e1, _, h1⟩ := HL.out W kw
    obtain ⟨bw', ow', e2, _, h2⟩ := HW.out W kw
    cases e1
    rw [ewa] at e2
    cases e2
    rw [hgO] at hW
    have q := kept_grove hW
    refine ⟨kw, q.2.1, ?_, fun i hi => ⟨h1 i hi, h2 i hi⟩⟩
    rw [q.2.2.1, ewa, wl]
  rw [hgO] at KG
  have RT : Hid (M.together G.w G.ws l = if G.w = 1 then M.sumK l G.ws l.length else if G.w = 2 then M.sumK l G.ws l.length / M.allK G.ws l.length else (M.bestK l G.ws l.length).2) := rfl
  unfold Gr.v
  clear h hr Gd hl hv tlen wl wa hgO HL HW ewa
  generalize M.together G.w G.ws l = R at *
  go_enter Tryd.func14, Tryd.ntmps14
  go_wp2
  go_loopw [5, 6, 7, 8, 9] (fun s a be mo i wr => ∃ k : Nat, k ≤ l.length ∧ i = .int .i64 k ∧ s = .int .i64 (M.sumK l G.ws k) ∧ a = .int .i64 (M.allK G.ws k) ∧ be = .int .i64 (M.bestK l G.ws k).2 ∧ mo = .int .i64 (M.bestK l G.ws k).1 ∧ Hid (Below (w.alloc (.cells #[.int .i64 G.f, .int .i64 G.w, .slice G.wa G.ws.length G.wc, .slice G.ta G.ks.length G.tc] 38)).heap.size (w.alloc (.cells #[.int .i64 G.f, .int .i64 G.w, .slice G.wa G.ws.length G.wc, .slice G.ta G.ks.length G.tc] 38)) wr)) (fun _ _ _ _ i _ => l.length - (intOf i).toNat)
  case atStart => exact ⟨0, Nat.zero_le _, rfl, rfl, rfl, rfl, rfl, Below.refl _ _⟩
  case round =>
    obtain ⟨k, hk, rfl, rfl, rfl, rfl, rfl, K⟩ := hrel
    obtain ⟨kw, c1, c2, cc⟩ := KG.out _ K.out
    by_cases hlt : k < l.length
    · have kz : (k : Int) < (l.length : Int) := by omega
      obtain ⟨cl, cw⟩ := cc k hlt
      have cld : wr.drew.cell? ⟨bl, ol + k, none⟩ = some (.int .i64 (l.getD k 0)) := cl
      have cwd : wr.drew.cell? ⟨bw, ow + k, none⟩ = some (.int .i64 (G.ws.getD k 0)) := cw
      have c2d : wr.drew.cell? ⟨w.heap.size, 2, none⟩ = some (.slice (some ⟨bw, ow, none⟩) l.length G.wc) := c2
      have pb := M.prod_bound (HV.out k hlt).1 (HV.out k hlt).2 (WA.out k hlt).1 (WA.out k hlt).2
      have sb := SB.out k hk
      have ab := AB.out k hk
      have sn : Hid (M.sumK l G.ws (k + 1) = M.sumK l G.ws k + l.getD k 0 * G.ws.getD k 0) := rfl
      have an : Hid (M.allK G.ws (k + 1) = M.allK G.ws k + G.ws.getD k 0) := rfl
      have wb := WA.out k hlt
      have w1 : IntKind.i64.wrap (l.getD k 0 * G.ws.getD k 0) = l.getD k 0 * G.ws.getD k 0 := wrap_in4 _ (by omega) (by omega)
      have w2 : IntKind.i64.wrap (M.sumK l G.ws k + l.getD k 0 * G.ws.getD k 0) = M.sumK l G.ws k + l.getD k 0 * G.ws.getD k 0 := wrap_in4 _ (by omega) (by omega)
      have w3 : IntKind.i64.wrap (M.allK G.ws k + G.ws.getD k 0) = M.allK G.ws k + G.ws.getD k 0 := wrap_in4 _ (by omega) (by omega)
      clear cc pb sb ab wb
      go_upto_region 8 with fail
      go_cut [5] from 18 to 29 (fun s wx => s = .int .i64 (M.sumK l G.ws k + l.getD k 0 * G.ws.getD k 0) ∧ Hid (Below wr.heap.size wr wx))
      case first =>
        generalize M.sumK l G.ws k = S at *
        generalize l.getD k 0 = z at *
        generalize G.ws.getD k 0 = y at *
        go_region
        all_goals go_wp2
        all_goals go_meet
        all_goals (case rel => exact ⟨rfl, (Below.refl wr.heap.size wr).drew⟩)
      case rest =>
        obtain ⟨rfl, K8⟩ := hcut
        clear cld cwd c2d cl cw w1 w2 c1 c2
        have K9 := hide (below_on K.out K8.out)
        obtain ⟨kw9, c1, c2, cc⟩ := KG.out _ K9.out
        obtain ⟨cl, cw⟩ := cc k hlt
        clear cc
        have BK : Hid (M.bestK l G.ws (k + 1) = if (M.bestK l G.ws k).1 < M.votK l G.ws (l.getD k 0) l.length ∨ (M.votK l G.ws (l.getD k 0) l.length = (M.bestK l G.ws k).1 ∧ l.getD k 0 < (M.bestK l G.ws k).2) then (M.votK l G.ws (l.getD k 0) l.length, l.getD k 0) else M.bestK l G.ws k) := rfl
        have CK : Hid (∀ W, Below (w.alloc (.cells #[.int .i64 G.f, .int .i64 G.w, .slice G.wa G.ws.length G.wc, .slice G.ta G.ks.length G.tc] 38)).heap.size (w.alloc (.cells #[.int .i64 G.f, .int .i64 G.w, .slice G.wa G.ws.length G.wc, .slice G.ta G.ks.length G.tc] 38)) W → W.cell? ⟨bl, ol + k, none⟩ = some (.int .i64 (l.getD k 0))) := fun W hW => ((KG.out W hW).2.2.2 k hlt).1
        generalize l.getD k 0 = zk at *
        generalize G.ws.getD k 0 = yk at *
        generalize M.sumK l G.ws k = sK at *
        generalize M.allK G.ws k = aK at *
        go_wp2
        go_loopw [10, 11] (fun v j wx => ∃ q : Nat, q ≤ l.length ∧ j = .int .i64 q ∧ v = .int .i64 (M.votK l G.ws zk q) ∧ Hid (Below wc.heap.size wc wx)) (fun _ j _ => l.length - (intOf j).toNat)
        case atStart => exact ⟨0, Nat.zero_le _, rfl, rfl, Below.refl _ _⟩
        case round =>
          obtain ⟨q, hq, rfl, rfl, KQ⟩ := hrel
          have KX := hide (below_on K9.out KQ.out)
          clear c1 c2 cl cw
          obtain ⟨kwx, c1, c2, cc⟩ := KG.out _ KX.out
          have cl := CK.out _ KX.out
          by_cases hql : q < l.length
          · have qz : (q : Int) < (l.length : Int) := by omega
            obtain ⟨dl, dw⟩ := cc q hql
            have vb := VB.out zk q hq
            have wb := WA.out q hql
            have NV : Hid (M.votK l G.ws zk (q + 1) = M.votK l G.ws zk q + if l.getD q 0 = zk then G.ws.getD q 0 else 0) := rfl
            have w4 : IntKind.i64.wrap (M.votK l G.ws zk q + G.ws.getD q 0) = M.votK l G.ws zk q + G.ws.getD q 0 := wrap_in4 _ (by omega) (by omega)
            clear cc vb wb
            have dld : wr.drew.cell? ⟨bl, ol + q, none⟩ = some (.int .i64 (l.getD q 0)) := dl
            have cld : wr.drew.cell? ⟨bl, ol + k, none⟩ = some (.int .i64 zk) := cl
            go_upto_region 14 with fail
            go_cut [51] from 43 to 50 (fun t wx => t = .bool (l.getD q 0 == zk) ∧ Hid (Below wr.heap.size wr wx))
            case first =>
              generalize l.getD q 0 = zq at *
              go_region
              all_goals go_wp2
              all_goals go_meet
              all_goals (case rel => exact ⟨rfl, (Below.refl wr.heap.size wr).drew⟩)
            case rest =>
              obtain ⟨rfl, K14⟩ := hcut
              have KY := hide (below_on KX.out K14.out)
              have KQ2 := hide (below_on KQ.out K14.out)
              clear c1 c2 cl dl dw dld cld
              obtain ⟨kwy, c1, c2, cc⟩ := KG.out _ KY.out
              obtain ⟨dl, dw⟩ := cc q hql
              clear cc
              by_cases he : l.getD q 0 = zk
              · have qe : (l.getD q 0 == zk) = true := by rw [beq_iff_eq]; exact he
                have NN : Hid (M.votK l G.ws zk (q + 1) = M.votK l G.ws zk q + G.ws.getD q 0) := by unfold Hid; rw [NV.out, if_pos he]
                rw [qe]
                clear he NV qe dl
                generalize G.ws.getD q 0 = yq at *
                generalize M.votK l G.ws zk q = vq at *
                go_wp2
                go_roundw
                case rel => exact ⟨q + 1, by omega, by go_num, by rw [NN.out], KQ2⟩
                case measure => simp [intOf]; omega
              · have qe : (l.getD q 0 == zk) = false := by rw [beq_eq_false_iff_ne]; exact he
                have NN : Hid (M.votK l G.ws zk (q + 1) = M.votK l G.ws zk q) := by unfold Hid; rw [NV.out, if_neg he]; omega
                rw [qe]
                clear he NV qe dl w4
                generalize G.ws.getD q 0 = yq at *
                generalize M.votK l G.ws zk q = vq at *
                go_wp2
                go_roundw
                case rel => exact ⟨q + 1, by omega, by go_num, by rw [NN.out], KQ2⟩
                case measure => simp [intOf]; omega
          · have hqe : q = l.length := by omega
            have hV : M.votK l G.ws zk l.length = M.votK l G.ws zk q := by rw [hqe]
            have hp : M.bestK l G.ws k = ((M.bestK l G.ws k).1, (M.bestK l G.ws k).2) := rfl
            rw [hV, hp] at BK
            clear hV hp hqe cc
            generalize M.votK l G.ws zk q = V at *
            generalize (M.bestK l G.ws k).1 = bm at *
            generalize (M.bestK l G.ws k).2 = bb at *
            by_cases h1 : bm < V
            · have p1 : decide (bm < V) = true := decide_eq_true h1
              have BN : Hid (M.bestK l G.ws (k + 1) = (V, zk)) := by unfold Hid; rw [BK.out, if_pos (by omega)]
              clear BK
              go_wp2
              go_roundw
              case rel => exact ⟨k + 1, by omega, by go_num, by rw [sn.out], by rw [an.out], by rw [BN.out], by rw [BN.out], KX⟩
              case measure => simp [intOf]; omega
            · have p1 : decide (bm < V) = false := decide_eq_false h1
              by_cases h2 : V = bm
              · have p2 : (V == bm) = true := by rw [beq_iff_eq]; exact h2
                by_cases h3 : zk < bb
                · have p3 : decide (zk < bb) = true := decide_eq_true h3
                  have H2 := hide h2
                  have BN : Hid (M.bestK l G.ws (k + 1) = (V, zk)) := by unfold Hid; rw [BK.out, if_pos (by omega)]
                  clear h2
                  clear BK
                  go_wp2
                  go_roundw
                  case rel => exact ⟨k + 1, by omega, by go_num, by rw [sn.out], by rw [an.out], by rw [BN.out], by rw [BN.out], KX⟩
                  case measure => simp [intOf]; omega
                · have p3 : decide (zk < bb) = false := decide_eq_false h3
                  have H2 := hide h2
                  have BN : Hid (M.bestK l G.ws (k + 1) = (bm, bb)) := by unfold Hid; rw [BK.out, if_neg (by omega)]
                  clear h2
                  clear BK
                  go_wp2
                  go_roundw
                  case rel => exact ⟨k + 1, by omega, by go_num, by rw [sn.out], by rw [an.out], by rw [BN.out], by rw [BN.out], KX⟩
                  case measure => simp [intOf]; omega
              · have p2 : (V == bm) = false := by rw [beq_eq_false_iff_ne]; exact h2
                have BN : Hid (M.bestK l G.ws (k + 1) = (bm, bb)) := by unfold Hid; rw [BK.out, if_neg (by omega)]
                clear BK
                go_wp2
                go_roundw
                case rel => exact ⟨k + 1, by omega, by go_num, by rw [sn.out], by rw [an.out], by rw [BN.out], by rw [BN.out], KX⟩
                case measure => simp [intOf]; omega
    · have hke : k = l.length := by omega
      have ab := AB.out k hk
      have sb := SB.out k hk
      rw [← hke] at RT
      have k0 : 0 < k := by omega
      clear cc hke
      generalize M.sumK l G.ws k = SS at *
      generalize M.allK G.ws k = AA at *
      generalize (M.bestK l G.ws k).2 = bb at *
      generalize (M.bestK l G.ws k).1 = bm at *
      by_cases h1 : G.w = 1
      · have q1 : (G.w == 1) = true := by rw [beq_iff_eq]; exact h1
        have E : Hid (SS = R) := by unfold Hid; rw [RT.out, if_pos h1]
        clear h1 RT
        go_wp2
        go_ret
        exact ⟨ret_int E.out, kw⟩
      · have q1 : (G.w == 1) = false := by rw [beq_eq_false_iff_ne]; exact h1
        by_cases h2 : G.w = 2
        · have q2 : (G.w == 2) = true := by rw [beq_iff_eq]; exact h2
          have E : Hid (SS / AA = R) := by unfold Hid; rw [RT.out, if_neg h1, if_pos h2]
          have FL := hide (rfloor_any SS AA wr (by omega) (by omega) (by omega) (by omega))
          rw [E.out] at FL
          clear h1 h2 RT
          go_wp2_with (go_at_call 34; refine FL.out.mono ?_; rintro e w5 ⟨rfl, e5⟩; subst w5)
          go_ret
          exact ⟨rfl, kw⟩
        · have q2 : (G.w == 2) = false := by rw [beq_eq_false_iff_ne]; exact h2
          have E : Hid (bb = R) := by unfold Hid; rw [RT.out, if_neg h1, if_neg h2]
          clear h1 h2 RT
          go_wp2
          go_ret
          exact ⟨ret_int E.out, kw⟩

end Go.Proofs.YtandimbpealclacDoor
