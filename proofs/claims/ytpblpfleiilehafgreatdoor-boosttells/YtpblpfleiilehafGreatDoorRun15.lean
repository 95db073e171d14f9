/-
  Several texts as one: RefTog, Ints, NdSame, GrSame, As.
-/
import Derived.Test.YtpblpfleiilehafGreatDoorRun14
import Derived.Test.YtpblpfleiilehafGreatDoorRun0
import Derived.RegionTactic
import Derived.Test.YtpblpfleiilehafGreatDoorRun3
import Derived.Deep.Cut
import Derived.Deep.CutRange
import Derived.Deep.RegionWith
import Derived.Test.YtpblpfleiilehafGreatDoorRun8
import Derived.LaidEql
import Derived.Stop.Asserts
import Derived.RowKitTokens
namespace Go.Proofs.YtpblpfleiilehafGreatDoor
open Go.ChangeShapes Go.WideShapes Go.ChangeAt Go.RowKit Go.Lib
set_option linter.unusedVariables false

theorem wrap_in4 (x : Int) (h1 : -9223372036854775808 ≤ x) (h2 : x ≤ 9223372036854775807) : IntKind.i64.wrap x = x := by
  simp [IntKind.wrap, IntKind.bits, IntKind.signed]
  split <;> omega
theorem M.prod_bound {a b : Int} (h1 : -1000000 ≤ a) (h2 : a ≤ 1000000) (h3 : 1 ≤ b) (h4 : b ≤ 1000) : -1000000000 ≤ a * b ∧ a * b ≤ 1000000000 := by
  have q1 : a * b ≤ 1000000 * b := Int.mul_le_mul_of_nonneg_right h2 (by omega)
  have q2 : -1000000 * b ≤ a * b := Int.mul_le_mul_of_nonneg_right h1 (by omega)
  omega

set_option maxHeartbeats 16000000 in
set_option maxRecDepth 10000 in
theorem rtog_any (G : Gr) (b : Option Addr) (l : List Int) (cb : Nat) (w : World) (h : RdG w G) (hr : Rd w b l) (Gd : M.Good G.m) (hl : l.length = G.ks.length) (hv : ∀ i, i < l.length → -1000000 ≤ l.getD i 0 ∧ l.getD i 0 ≤ 1000000) :
    Calls Tryz.prog 20 #[G.v, .slice b l.length cb] w fun e w' => e = .returned (.int .i64 (M.together G.w G.ws l)) ∧ Below w.heap.size w w' := by
  have tlen : (M.gt G.m).length = G.ks.length := tl_len G.ks
  have n12 : l.length ≤ 12 := by rw [hl, ← tlen]; exact Gd.t12
  have n0 : 0 < l.length := by rw [hl, ← tlen]; exact Gd.t0
  have wl : G.ws.length = l.length := by rw [hl, ← tlen]; exact Gd.len
  have wa : ∀ i, i < l.length → 1 ≤ G.ws.getD i 0 ∧ G.ws.getD i 0 ≤ 1000 := fun i hi => M.wt_at Gd (by rw [tlen, ← hl]; exact hi)
  have SB : Hid (∀ k, k ≤ l.length → -12000000000 ≤ M.sumK l G.ws k ∧ M.sumK l G.ws k ≤ 12000000000) := fun k hk => by
    have := M.sum_bound (l := l) (ws := G.ws) k (fun i hi => ⟨(hv i (by omega)).1, (hv i (by omega)).2, (wa i (by omega)).1, (wa i (by omega)).2⟩)
    omega
  have AB : Hid (∀ k, k ≤ l.length → (k : Int) ≤ M.allK G.ws k ∧ M.allK G.ws k ≤ 12000) := fun k hk => by
    have := M.all_pos (ws := G.ws) k (fun i hi => wa i (by omega))
    omega
  have VB : Hid (∀ v k, k ≤ l.length → 0 ≤ M.votK l G.ws v k ∧ M.votK l G.ws v k ≤ 12000) := fun v k hk => by
    have := M.vot_bound (l := l) (ws := G.ws) v k (fun i hi => wa i (by omega))
    omega
  have HV := hide hv
  have WA := hide wa
  have HL : Hid (∀ W, Below w.heap.size w W → ∃ bl ol, b = some ⟨bl, ol, none⟩ ∧ bl < W.heap.size ∧ ∀ i, i < l.length → W.cell? ⟨bl, ol + i, none⟩ = some (.int .i64 (l.getD i 0))) := fun W hW => (hr.below hW).2 (by intro e; rw [e] at n0; simp at n0)
  have HW : Hid (∀ W, Below w.heap.size w W → ∃ bw ow, G.wa = some ⟨bw, ow, none⟩ ∧ bw < W.heap.size ∧ ∀ i, i < l.length → W.cell? ⟨bw, ow + i, none⟩ = some (.int .i64 (G.ws.getD i 0))) := fun W hW => by
    obtain ⟨bw, ow, e, h1, h2⟩ := (h.1.below hW).2 (by intro e; rw [e] at wl; simp at wl; omega)
    exact ⟨bw, ow, e, h1, fun i hi => h2 i (by omega)⟩
  obtain ⟨bl, ol, rfl, _, _⟩ := HL.out w (Below.refl _ _)
  obtain ⟨bw, ow, ewa, _, _⟩ := HW.out w (Below.refl _ _)
  obtain ⟨gO, hgO⟩ : ∃ o : Obj, o = .cells #[.int .i64 G.f, .int .i64 G.w, .slice G.wa G.ws.length G.wc, .slice G.ta G.ks.length G.tc] 45 := ⟨_, rfl⟩
  -- all that is read, in whatever world
  have KG : Hid (∀ W, Below (w.alloc gO).heap.size (w.alloc gO) W → Below w.heap.size w W ∧ W.cell? ⟨w.heap.size, 1, none⟩ = some (.int .i64 G.w) ∧ W.cell? ⟨w.heap.size, 2, none⟩ = some (.slice (some ⟨bw, ow, none⟩) l.length G.wc) ∧ ∀ i, i < l.length → W.cell? ⟨bl, ol + i, none⟩ = some (.int .i64 (l.getD i 0)) ∧ W.cell? ⟨bw, ow + i, none⟩ = some (.int .i64 (G.ws.getD i 0))) := fun W hW => by
    have kw : Below w.heap.size w W := below_on ((Below.refl _ w).alloc (Nat.le_refl _) gO) hW
    obtain ⟨bl', ol', e1, _, h1⟩ := HL.out W kw
    obtain ⟨bw', ow', e2, _, h2⟩ := HW.out W kw
    cases e1
    rw [ewa] at e2
    cases e2
    rw [hgO] at hW
    have q := kept_grove hW
    refine ⟨kw, q.2.1, ?_, fun i hi => ⟨h1 i hi, h2 i hi⟩⟩
    rw [q.2.2.1, ewa, wl]
  rw [hgO] at KG
  have RT : Hid (M.together G.w G.ws l = if G.w = 1 then M.sumK l G.ws l.length else if G.w = 2 then M.sumK l G.ws l.length / M.allK G.ws l.length else (M.bestK l G.ws l.length).2) := rfl
  unfold Gr.v
  clear h hr Gd hl hv tlen wl wa hgO HL HW ewa
  generalize M.together G.w G.ws l = R at *
  go_enter Tryz.func20, Tryz.ntmps20
  go_wp2
  go_loopw [5, 6, 7, 8, 9] (fun s a be mo i wr => ∃ k : Nat, k ≤ l.length ∧ i = .int .i64 k ∧ s = .int .i64 (M.sumK l G.ws k) ∧ a = .int .i64 (M.allK G.ws k) ∧ be = .int .i64 (M.bestK l G.ws k).2 ∧ mo = .int .i64 (M.bestK l G.ws k).1 ∧ Hid (Below (w.alloc (.cells #[.int .i64 G.f, .int .i64 G.w, .slice G.wa G.ws.length G.wc, .slice G.ta G.ks.length G.tc] 45)).heap.size (w.alloc (.cells #[.int .i64 G.f, .int .i64 G.w, .slice G.wa G.ws.length G.wc, .slice G.ta G.ks.length G.tc] 45)) wr)) (fun _ _ _ _ i _ => l.length - (intOf i).toNat)
  case atStart => exact ⟨0, Nat.zero_le _, rfl, rfl, rfl, rfl, rfl, Below.refl _ _⟩
  case round =>
    obtain ⟨k, hk, rfl, rfl, rfl, rfl, rfl, K⟩ := hrel
    obtain ⟨kw, c1, c2, cc⟩ := KG.out _ K.out
    by_cases hlt : k < l.length
    · have kz : (k : Int) < (l.length : Int) := by omega
      obtain ⟨cl, cw⟩ := cc k hlt
      have cld : wr.drew.cell? ⟨bl, ol + k, none⟩ = some (.int .i64 (l.getD k 0)) := cl
      have cwd : wr.drew.cell? ⟨bw, ow + k, none⟩ = some (.int .i64 (G.ws.getD k 0)) := cw
      have c2d : wr.drew.cell? ⟨w.heap.size, 2, none⟩ = some (.slice (some ⟨bw, ow, none⟩) l.length G.wc) := c2
      have pb := M.prod_bound (HV.out k hlt).1 (HV.out k hlt).2 (WA.out k hlt).1 (WA.out k hlt).2
      have sb := SB.out k hk
      have ab := AB.out k hk
      have sn : Hid (M.sumK l G.ws (k + 1) = M.sumK l G.ws k + l.getD k 0 * G.ws.getD k 0) := rfl
      have an : Hid (M.allK G.ws (k + 1) = M.allK G.ws k + G.ws.getD k 0) := rfl
      have wb := WA.out k hlt
      have w1 : IntKind.i64.wrap (l.getD k 0 * G.ws.getD k 0) = l.getD k 0 * G.ws.getD k 0 := wrap_in4 _ (by omega) (by omega)
      have w2 : IntKind.i64.wrap (M.sumK l G.ws k + l.getD k 0 * G.ws.getD k 0) = M.sumK l G.ws k + l.getD k 0 * G.ws.getD k 0 := wrap_in4 _ (by omega) (by omega)
      have w3 : IntKind.i64.wrap (M.allK G.ws k + G.ws.getD k 0) = M.allK G.ws k + G.ws.getD k 0 := wrap_in4 _ (by omega) (by omega)
      clear cc pb sb ab wb
      go_upto_region 8 with fail
      go_cut [5] from 18 to 29 (fun s wx => s = .int .i64 (M.sumK l G.ws k + l.getD k 0 * G.ws.getD k 0) ∧ Hid (Below wr.heap.size wr wx))
      case first =>
        generalize M.sumK l G.ws k = S at *
        generalize l.getD k 0 = z at *
        generalize G.ws.getD k 0 = y at *
        go_region
        all_goals go_wp2
        all_goals go_meet
        all_goals (case rel => exact ⟨rfl, (Below.refl wr.heap.size wr).drew⟩)
      case rest =>
        obtain ⟨rfl, K8⟩ := hcut
        clear cld cwd c2d cl cw w1 w2 c1 c2
        have K9 := hide (below_on K.out K8.out)
        obtain ⟨kw9, c1, c2, cc⟩ := KG.out _ K9.out
        obtain ⟨cl, cw⟩ := cc k hlt
        clear cc
        have BK : Hid (M.bestK l G.ws (k + 1) = if (M.bestK l G.ws k).1 < M.votK l G.ws (l.getD k 0) l.length ∨ (M.votK l G.ws (l.getD k 0) l.length = (M.bestK l G.ws k).1 ∧ l.getD k 0 < (M.bestK l G.ws k).2) then (M.votK l G.ws (l.getD k 0) l.length, l.getD k 0) else M.bestK l G.ws k) := rfl
        have CK : Hid (∀ W, Below (w.alloc (.cells #[.int .i64 G.f, .int .i64 G.w, .slice G.wa G.ws.length G.wc, .slice G.ta G.ks.length G.tc] 45)).heap.size (w.alloc (.cells #[.int .i64 G.f, .int .i64 G.w, .slice G.wa G.ws.length G.wc, .slice G.ta G.ks.length G.tc] 45)) W → W.cell? ⟨bl, ol + k, none⟩ = some (.int .i64 (l.getD k 0))) := fun W hW => ((KG.out W hW).2.2.2 k hlt).1
        generalize l.getD k 0 = zk at *
        generalize G.ws.getD k 0 = yk at *
        generalize M.sumK l G.ws k = sK at *
        generalize M.allK G.ws k = aK at *
        go_wp2
        go_loopw [10, 11] (fun v j wx => ∃ q : Nat, q ≤ l.length ∧ j = .int .i64 q ∧ v = .int .i64 (M.votK l G.ws zk q) ∧ Hid (Below wc.heap.size wc wx)) (fun _ j _ => l.length - (intOf j).toNat)
        case atStart => exact ⟨0, Nat.zero_le _, rfl, rfl, Below.refl _ _⟩
        case round =>
          obtain ⟨q, hq, rfl, rfl, KQ⟩ := hrel
          have KX := hide (below_on K9.out KQ.out)
          clear c1 c2 cl cw
          obtain ⟨kwx, c1, c2, cc⟩ := KG.out _ KX.out
          have cl := CK.out _ KX.out
          by_cases hql : q < l.length
          · have qz : (q : Int) < (l.length : Int) := by omega
            obtain ⟨dl, dw⟩ := cc q hql
            have vb := VB.out zk q hq
            have wb := WA.out q hql
            have NV : Hid (M.votK l G.ws zk (q + 1) = M.votK l G.ws zk q + if l.getD q 0 = zk then G.ws.getD q 0 else 0) := rfl
            have w4 : IntKind.i64.wrap (M.votK l G.ws zk q + G.ws.getD q 0) = M.votK l G.ws zk q + G.ws.getD q 0 := wrap_in4 _ (by omega) (by omega)
            clear cc vb wb
            have dld : wr.drew.cell? ⟨bl, ol + q, none⟩ = some (.int .i64 (l.getD q 0)) := dl
            have cld : wr.drew.cell? ⟨bl, ol + k, none⟩ = some (.int .i64 zk) := cl
            go_upto_region 14 with fail
            go_cut [51] from 43 to 50 (fun t wx => t = .bool (l.getD q 0 == zk) ∧ Hid (Below wr.heap.size wr wx))
            case first =>
              generalize l.getD q 0 = zq at *
              go_region
              all_goals go_wp2
              all_goals go_meet
              all_goals (case rel => exact ⟨rfl, (Below.refl wr.heap.size wr).drew⟩)
            case rest =>
              obtain ⟨rfl, K14⟩ := hcut
              have KY := hide (below_on KX.out K14.out)
              have KQ2 := hide (below_on KQ.out K14.out)
              clear c1 c2 cl dl dw dld cld
              obtain ⟨kwy, c1, c2, cc⟩ := KG.out _ KY.out
              obtain ⟨dl, dw⟩ := cc q hql
              clear cc
              by_cases he : l.getD q 0 = zk
              · have qe : (l.getD q 0 == zk) = true := by rw [beq_iff_eq]; exact he
                have NN : Hid (M.votK l G.ws zk (q + 1) = M.votK l G.ws zk q + G.ws.getD q 0) := by unfold Hid; rw [NV.out, if_pos he]
                rw [qe]
                clear he NV qe dl
                generalize G.ws.getD q 0 = yq at *
                generalize M.votK l G.ws zk q = vq at *
                go_wp2
                go_roundw
                case rel => exact ⟨q + 1, by omega, by go_num, by rw [NN.out], KQ2⟩
                case measure => simp [intOf]; omega
              · have qe : (l.getD q 0 == zk) = false := by rw [beq_eq_false_iff_ne]; exact he
                have NN : Hid (M.votK l G.ws zk (q + 1) = M.votK l G.ws zk q) := by unfold Hid; rw [NV.out, if_neg he]; omega
                rw [qe]
                clear he NV qe dl w4
                generalize G.ws.getD q 0 = yq at *
                generalize M.votK l G.ws zk q = vq at *
                go_wp2
                go_roundw
                case rel => exact ⟨q + 1, by omega, by go_num, by rw [NN.out], KQ2⟩
                case measure => simp [intOf]; omega
          · have hqe : q = l.length := by omega
            have hV : M.votK l G.ws zk l.length = M.votK l G.ws zk q := by rw [hqe]
            have hp : M.bestK l G.ws k = ((M.bestK l G.ws k).1, (M.bestK l G.ws k).2) := rfl
            rw [hV, hp] at BK
            clear hV hp hqe cc
            generalize M.votK l G.ws zk q = V at *
            generalize (M.bestK l G.ws k).1 = bm at *
            generalize (M.bestK l G.ws k).2 = bb at *
            by_cases h1 : bm < V
            · have p1 : decide (bm < V) = true := decide_eq_true h1
              have BN : Hid (M.bestK l G.ws (k + 1) = (V, zk)) := by unfold Hid; rw [BK.out, if_pos (by omega)]
              clear BK
              go_wp2
              go_roundw
              case rel => exact ⟨k + 1, by omega, by go_num, by rw [sn.out], by rw [an.out], by rw [BN.out], by rw [BN.out], KX⟩
              case measure => simp [intOf]; omega
            · have p1 : decide (bm < V) = false := decide_eq_false h1
              by_cases h2 : V = bm
              · have p2 : (V == bm) = true := by rw [beq_iff_eq]; exact h2
                by_cases h3 : zk < bb
                · have p3 : decide (zk < bb) = true := decide_eq_true h3
                  have H2 := hide h2
                  have BN : Hid (M.bestK l G.ws (k + 1) = (V, zk)) := by unfold Hid; rw [BK.out, if_pos (by omega)]
                  clear h2
                  clear BK
                  go_wp2
                  go_roundw
                  case rel => exact ⟨k + 1, by omega, by go_num, by rw [sn.out], by rw [an.out], by rw [BN.out], by rw [BN.out], KX⟩
                  case measure => simp [intOf]; omega
                · have p3 : decide (zk < bb) = false := decide_eq_false h3
                  have H2 := hide h2
                  have BN : Hid (M.bestK l G.ws (k + 1) = (bm, bb)) := by unfold Hid; rw [BK.out, if_neg (by omega)]
                  clear h2
                  clear BK
                  go_wp2
                  go_roundw
                  case rel => exact ⟨k + 1, by omega, by go_num, by rw [sn.out], by rw [an.out], by rw [BN.out], by rw [BN.out], KX⟩
                  case measure => simp [intOf]; omega
              · have p2 : (V == bm) = false := by rw [beq_eq_false_iff_ne]; exact h2
                have BN : Hid (M.bestK l G.ws (k + 1) = (bm, bb)) := by unfold Hid; rw [BK.out, if_neg (by omega)]
                clear BK
                go_wp2
                go_roundw
                case rel => exact ⟨k + 1, by omega, by go_num, by rw [sn.out], by rw [an.out], by rw [BN.out], by rw [BN.out], KX⟩
                case measure => simp [intOf]; omega
    · have hke : k = l.length := by omega
      have ab := AB.out k hk
      have sb := SB.out k hk
      rw [← hke] at RT
      have k0 : 0 < k := by omega
      clear cc hke
      generalize M.sumK l G.ws k = SS at *
      generalize M.allK G.ws k = AA at *
      generalize (M.bestK l G.ws k).2 = bb at *
      generalize (M.bestK l G.ws k).1 = bm at *
      by_cases h1 : G.w = 1
      · have q1 : (G.w == 1) = true := by rw [beq_iff_eq]; exact h1
        have E : Hid (SS = R) := by unfold Hid; rw [RT.out, if_pos h1]
        clear h1 RT
        go_wp2
        go_ret
        exact ⟨ret_int E.out, kw⟩
      · have q1 : (G.w == 1) = false := by rw [beq_eq_false_iff_ne]; exact h1
        by_cases h2 : G.w = 2
        · have q2 : (G.w == 2) = true := by rw [beq_iff_eq]; exact h2
          have E : Hid (SS / AA = R) := by unfold Hid; rw [RT.out, if_neg h1, if_pos h2]
          have FL := hide (rfloor_any SS AA wr (by omega) (by omega) (by omega) (by omega))
          rw [E.out] at FL
          clear h1 h2 RT
          go_wp2_with (go_at_call 32; refine FL.out.mono ?_; rintro e w5 ⟨rfl, e5⟩; subst w5)
          go_ret
          exact ⟨rfl, kw⟩
        · have q2 : (G.w == 2) = false := by rw [beq_eq_false_iff_ne]; exact h2
          have E : Hid (bb = R) := by unfold Hid; rw [RT.out, if_neg h1, if_neg h2]
          clear h1 h2 RT
          go_wp2
          go_ret
          exact ⟨ret_int E.out, kw⟩

end Go.Proofs.YtpblpfleiilehafGreatDoor

namespace Go.Proofs.YtpblpfleiilehafGreatDoor
open Go.ChangeShapes Go.WideShapes Go.ChangeAt Go.RowKit
set_option linter.unusedVariables false

theorem same_end {xs ys : List Int} (hl : xs.length = ys.length) {k : Nat} (hk : xs.length ≤ k) (h : xs.take k = ys.take k) : decide (xs = ys) = true := by
  rw [List.take_of_length_le hk, List.take_of_length_le (by omega)] at h
  simp [h]
theorem same_next {xs ys : List Int} {k : Nat} (h1 : k < xs.length) (h2 : k < ys.length) (h : xs.take k = ys.take k) (he : xs[k] = ys[k]) : xs.take (k + 1) = ys.take (k + 1) := by
  rw [List.take_succ_eq_append_getElem h1, List.take_succ_eq_append_getElem h2, h, he]
theorem same_not {xs ys : List Int} {k : Nat} (h1 : k < xs.length) (h2 : k < ys.length) (he : xs[k] ≠ ys[k]) : decide (xs = ys) = false := by
  rw [decide_eq_false_iff_not]; intro h; subst h; exact he rfl

set_option maxHeartbeats 2000000 in
theorem ints_any (a b : Option Addr) (xs ys : List Int) (ca cb : Nat) (w : World) (ha : Rd w a xs) (hb : Rd w b ys) :
    Calls Tryz.prog 25 #[.slice a xs.length ca, .slice b ys.length cb] w fun e w' => e = .returned (.bool (decide (xs = ys))) ∧ Below w.heap.size w w' := by
  have hm : xs.length ≤ 9223372036854775807 := ha.1
  have hm2 : ys.length ≤ 9223372036854775807 := hb.1
  by_cases hl : xs.length = ys.length
  · have hn : ((xs.length : Int) != (ys.length : Int)) = false := by rw [bne_eq_false_iff_eq]; omega
    have HL := hide hl
    by_cases hx : xs = []
    · have hy : ys = [] := List.length_eq_zero_iff.1 (by rw [← hl, hx]; rfl)
      subst hx
      subst hy
      clear hl HL hn
      go_enter Tryz.func25, Tryz.ntmps25
      go_wp2
      refine wp_loop_rounds 1 ?_
      rw [rounds_succ]
      go_wp2
      go_ret
      exact ⟨by simp, Below.refl _ _⟩
    · have hy : ys ≠ [] := by intro e; subst e; exact hx (List.length_eq_zero_iff.1 hl)
      obtain ⟨ba, oa, rfl, hba, hca⟩ := ha.2 hx
      obtain ⟨bb, ob, rfl, hbb, hcb⟩ := hb.2 hy
      have HA := hide hca
      have HB := hide hcb
      have SE : Hid (∀ k, xs.length ≤ k → xs.take k = ys.take k → decide (xs = ys) = true) := fun k => same_end hl
      have SN : Hid (∀ k (h1 : k < xs.length) (h2 : k < ys.length), xs[k] ≠ ys[k] → decide (xs = ys) = false) := fun k h1 h2 => same_not h1 h2
      clear hca hcb ha hb hx hy hl
      generalize decide (xs = ys) = r at *
      go_enter Tryz.func25, Tryz.ntmps25
      go_wp2
      go_loopw [5] (fun i wr => ∃ k : Nat, k ≤ xs.length ∧ i = .int .i64 k ∧ Below w.heap.size w wr ∧ Hid (xs.take k = ys.take k)) (fun i _ => xs.length - (intOf i).toNat)
      case atStart => exact ⟨0, Nat.zero_le _, rfl, Below.refl _ _, by unfold Hid; simp⟩
      case round =>
        obtain ⟨k, hk, rfl, hbl, I⟩ := hrel
        by_cases hlt : k < xs.length
        · have hlt2 : k < ys.length := by have := HL.out; omega
          have c1 := (hbl.cell (p := ⟨ba, oa + k, none⟩) hba).trans (Rd.at HA.out k hlt)
          have c2 := (hbl.cell (p := ⟨bb, ob + k, none⟩) hbb).trans (Rd.at HB.out k hlt2)
          by_cases he : xs[k] = ys[k]
          · have N := hide (same_next hlt hlt2 I.out he)
            have q : (xs[k] != ys[k]) = false := by rw [bne_eq_false_iff_eq]; exact he
            clear he
            generalize xs[k] = x at *
            generalize ys[k] = y at *
            go_wp2
            go_region
            all_goals go_wp2
            all_goals go_roundw
            all_goals first | (case rel => exact ⟨k + 1, by omega, by go_num, hbl.drew, N⟩) | skip
            all_goals first | (case measure => simp [intOf]; omega) | skip
          · have E2 : Hid (false = r) := (SN.out k hlt hlt2 he).symm
            have q : (xs[k] != ys[k]) = true := by rw [bne_iff_ne]; exact he
            clear he
            generalize xs[k] = x at *
            generalize ys[k] = y at *
            go_wp2
            go_region
            all_goals go_wp2
            all_goals go_ret
            all_goals exact ⟨ret_bool E2.out, hbl.drew⟩
        · have E2 : Hid (true = r) := (SE.out k (by omega) I.out).symm
          go_wp2
          go_ret
          exact ⟨ret_bool E2.out, hbl⟩
  · have hn : ((xs.length : Int) != (ys.length : Int)) = true := by rw [bne_iff_ne]; omega
    have E : Hid (false = decide (xs = ys)) := by unfold Hid; symm; rw [decide_eq_false_iff_not]; intro e; exact hl (by rw [e])
    clear ha hb hl
    go_enter Tryz.func25, Tryz.ntmps25
    go_wp2
    go_ret
    exact ⟨ret_bool E.out, Below.refl _ _⟩

end Go.Proofs.YtpblpfleiilehafGreatDoor

namespace Go.Proofs.YtpblpfleiilehafGreatDoor
open Go.ChangeShapes Go.WideShapes Go.ChangeAt Go.RowKit Go.Lib
set_option linter.unusedVariables false

set_option maxHeartbeats 8000000 in
set_option maxRecDepth 10000 in
theorem nodesame_any (a b : Option Addr) (ts : List M.Nd) (ca cb : Nat) (w : World) (ha : RdN w a ts) (hb : RdN w b ts) :
    Calls Tryz.prog 12 #[.slice a ts.length ca, .slice b ts.length cb] w fun e w' => e = .returned (.bool true) ∧ Below w.heap.size w w' := by
  have hm : ts.length ≤ 9223372036854775807 := ha.1
  have HA := hide ha
  have HB := hide hb
  clear ha hb
  go_enter Tryz.func12, Tryz.ntmps12
  go_wp2
  go_loopw [5] (fun i wr => ∃ k : Nat, k ≤ ts.length ∧ i = .int .i64 k ∧ Hid (Below w.heap.size w wr)) (fun i _ => ts.length - (intOf i).toNat)
  case atStart => exact ⟨0, Nat.zero_le _, rfl, Below.refl _ _⟩
  case round =>
    obtain ⟨k, hk, rfl, K⟩ := hrel
    by_cases hlt : k < ts.length
    · have kz : (k : Int) < (ts.length : Int) := by omega
      obtain ⟨b1, o1, rfl, h1, hc1⟩ := (HA.out.below K.out).2 (by intro e; subst e; simp at hlt)
      obtain ⟨b2, o2, rfl, h2, hc2⟩ := (HB.out.below K.out).2 (by intro e; subst e; simp at hlt)
      obtain ⟨s0, s1, s2, s3, s4, s5⟩ := hc1 k hlt
      obtain ⟨u0, u1, u2, u3, u4, u5⟩ := hc2 k hlt
      clear hc1 hc2 HA HB
      generalize M.nf (M.nAt ts k) = f at *
      generalize M.nc (M.nAt ts k) = c at *
      generalize M.nl (M.nAt ts k) = l at *
      generalize M.nr (M.nAt ts k) = r at *
      generalize M.ns (M.nAt ts k) = sl at *
      generalize M.nv (M.nAt ts k) = v at *
      go_upto_region 6 with fail
      go_cut [25] from 17 to 24 (fun t wx => t = .bool false ∧ Hid (Below wr.heap.size wr wx))
      case first =>
        go_region
        all_goals go_wp2
        all_goals go_meet
        all_goals (case rel => exact ⟨by simp, (Below.refl wr.heap.size wr).drew⟩)
      case rest =>
        obtain ⟨rfl, K6⟩ := hcut
        have K7 := hide (below_on K.out K6.out)
        go_wp2
        go_roundw
        case rel => exact ⟨k + 1, by omega, by go_num, K7⟩
        case measure => simp [intOf]; omega
    · go_wp2
      go_ret
      exact ⟨rfl, K.out⟩

end Go.Proofs.YtpblpfleiilehafGreatDoor

namespace Go.Proofs.YtpblpfleiilehafGreatDoor
open Go.ChangeShapes Go.WideShapes Go.ChangeAt Go.RowKit Go.Lib
set_option linter.unusedVariables false

theorem kept_both {w W : World} {a0 a1 a2 a3 b0 b1 b2 b3 : Value} {t u : TypeId} (h : Below ((w.alloc (.cells #[a0, a1, a2, a3] t)).alloc (.cells #[b0, b1, b2, b3] u)).heap.size ((w.alloc (.cells #[a0, a1, a2, a3] t)).alloc (.cells #[b0, b1, b2, b3] u)) W) :
    (W.cell? ⟨w.heap.size, 0, none⟩ = some a0 ∧ W.cell? ⟨w.heap.size, 1, none⟩ = some a1 ∧ W.cell? ⟨w.heap.size, 3, none⟩ = some a3) ∧
    (W.cell? ⟨w.heap.size + 1, 0, none⟩ = some b0 ∧ W.cell? ⟨w.heap.size + 1, 1, none⟩ = some b1 ∧ W.cell? ⟨w.heap.size + 1, 3, none⟩ = some b3) := by
  have e : (w.alloc (.cells #[a0, a1, a2, a3] t)).heap.size = w.heap.size + 1 := by simp
  have h2 : Below (w.alloc (.cells #[a0, a1, a2, a3] t)).heap.size (w.alloc (.cells #[a0, a1, a2, a3] t)) W := below_on ((Below.refl _ _).alloc (Nat.le_refl _) _) h
  have hs : w.heap.size < (w.alloc (.cells #[a0, a1, a2, a3] t)).heap.size := by simp
  have hs2 : w.heap.size + 1 < ((w.alloc (.cells #[a0, a1, a2, a3] t)).alloc (.cells #[b0, b1, b2, b3] u)).heap.size := by simp
  have c : ∀ j, (w.alloc (.cells #[a0, a1, a2, a3] t)).cell? ⟨w.heap.size, j, none⟩ = _ := fun j => World.cell?_alloc_at _ _ _ j rfl
  have d : ∀ j, ((w.alloc (.cells #[a0, a1, a2, a3] t)).alloc (.cells #[b0, b1, b2, b3] u)).cell? ⟨w.heap.size + 1, j, none⟩ = _ := fun j => World.cell?_alloc_at _ _ _ j (by simp)
  exact ⟨⟨(h2.cell (p := ⟨w.heap.size, 0, none⟩) hs).trans (c 0), (h2.cell (p := ⟨w.heap.size, 1, none⟩) hs).trans (c 1), (h2.cell (p := ⟨w.heap.size, 3, none⟩) hs).trans (c 3)⟩,
    ⟨(h.cell (p := ⟨w.heap.size + 1, 0, none⟩) hs2).trans (d 0), (h.cell (p := ⟨w.heap.size + 1, 1, none⟩) hs2).trans (d 1), (h.cell (p := ⟨w.heap.size + 1, 3, none⟩) hs2).trans (d 3)⟩⟩

set_option maxHeartbeats 8000000 in
set_option maxRecDepth 10000 in
theorem grovesame_any (G O : Gr) (w : World) (hg : RdG w G) (ho : RdG w O) (hm : G.m = O.m) :
    Calls Tryz.prog 18 #[G.v, O.v] w fun e w' => e = .returned (.bool true) ∧ Below w.heap.size w w' := by
  obtain ⟨f, wy, wa, ws, wc, ta, ks, tc⟩ := G
  obtain ⟨f', wy', wa', ws', wc', ta', ks', tc'⟩ := O
  simp only [Gr.m, Prod.mk.injEq] at hm
  obtain ⟨rfl, rfl, rfl, ht⟩ := hm
  have kl : ks'.length = ks.length := by rw [← tl_len ks', ← ht, tl_len]
  have he : ∀ k (h : k < ks.length) (h' : k < ks'.length), ks'[k].2.1 = ks[k].2.1 := fun k h h' => by rw [← tl_at ks' h', ← tl_at ks h, ht]
  have HE := hide he
  have KL := hide kl
  have hl : ks.length ≤ 9223372036854775807 := hg.2.1
  show Calls Tryz.prog 18 #[.agg #[.int .i64 f, .int .i64 wy, .slice wa ws.length wc, .slice ta ks.length tc], .agg #[.int .i64 f, .int .i64 wy, .slice wa' ws.length wc', .slice ta' ks'.length tc']] w fun e w' => e = .returned (.bool true) ∧ Below w.heap.size w w'
  rw [kl]
  have CI := hide (fun W (hW : Below w.heap.size w W) => ints_any wa wa' ws ws wc wc' W (hg.1.below hW) (ho.1.below hW))
  simp only [decide_true] at CI
  have HG : Hid (∀ W, Below w.heap.size w W → RdT W ta ks) := fun W hW => hg.2.below hW
  have HO : Hid (∀ W, Below w.heap.size w W → RdT W ta' ks') := fun W hW => ho.2.below hW
  obtain ⟨gO, hgO⟩ : ∃ o : Obj, o = .cells #[.int .i64 f, .int .i64 wy, .slice wa ws.length wc, .slice ta ks.length tc] 45 := ⟨_, rfl⟩
  obtain ⟨oO, hoO⟩ : ∃ o : Obj, o = .cells #[.int .i64 f, .int .i64 wy, .slice wa' ws.length wc', .slice ta' ks.length tc'] 45 := ⟨_, rfl⟩
  have B0 : Hid (∀ W, Below ((w.alloc gO).alloc oO).heap.size ((w.alloc gO).alloc oO) W → Below w.heap.size w W) := fun W hW => below_on (((Below.refl _ w).alloc (Nat.le_refl _) gO).alloc (by simp) oO) hW
  have CG : Hid (∀ W, Below ((w.alloc gO).alloc oO).heap.size ((w.alloc gO).alloc oO) W → (W.cell? ⟨w.heap.size, 0, none⟩ = some (.int .i64 f) ∧ W.cell? ⟨w.heap.size, 1, none⟩ = some (.int .i64 wy) ∧ W.cell? ⟨w.heap.size, 3, none⟩ = some (.slice ta ks.length tc)) ∧ (W.cell? ⟨w.heap.size + 1, 0, none⟩ = some (.int .i64 f) ∧ W.cell? ⟨w.heap.size + 1, 1, none⟩ = some (.int .i64 wy) ∧ W.cell? ⟨w.heap.size + 1, 3, none⟩ = some (.slice ta' ks.length tc'))) := fun W hW => by rw [hgO, hoO] at hW; exact kept_both hW
  have R0 : Hid (Below w.heap.size w ((w.alloc gO).alloc oO)) := ((Below.refl _ w).alloc (Nat.le_refl _) gO).alloc (by simp) oO
  rw [hgO, hoO] at B0 CG R0
  clear hg ho ht kl he hgO hoO
  go_enter Tryz.func18, Tryz.ntmps18
  go_wp2_with (go_at_call 25; refine (CI.out _ R0.out).mono ?_; rintro e w1 ⟨rfl, hb1⟩; have q := CG.out _ hb1; have c0 := q.1.1; have c1 := q.1.2.1; have c3 := q.1.2.2; have d0 := q.2.1; have d1 := q.2.2.1; have d3 := q.2.2.2; clear q)
  have G1 := hide hb1
  clear CI c0 c1 c3 d0 d1 d3 hb1
  go_loopw [6] (fun i wr => ∃ k : Nat, k ≤ ks.length ∧ i = .int .i64 k ∧ Hid (Below w1.heap.size w1 wr)) (fun i _ => ks.length - (intOf i).toNat)
  case atStart => exact ⟨0, Nat.zero_le _, rfl, Below.refl _ _⟩
  case round =>
    obtain ⟨k, hk, rfl, K⟩ := hrel
    have g2 := below_on G1.out K.out
    have kw := B0.out _ g2
    obtain ⟨⟨c0, c1, c3⟩, d0, d1, d3⟩ := CG.out _ g2
    by_cases hlt : k < ks.length
    · have hlt' : k < ks'.length := by rw [KL.out]; exact hlt
      have kz : (k : Int) < (ks.length : Int) := by omega
      obtain ⟨b1, o1, e1, h1, hc1⟩ := (HG.out wr kw).2.2 (by intro e; rw [e] at hlt; simp at hlt)
      obtain ⟨b2, o2, e2, h2, hc2⟩ := (HO.out wr kw).2.2 (by intro e; rw [e] at hlt'; simp at hlt')
      have s1 := hc1 k hlt
      have s2 := hc2 k hlt'
      have r1 := (HG.out wr kw).2.1 _ (List.getElem_mem hlt)
      have r2 := (HO.out wr kw).2.1 _ (List.getElem_mem hlt')
      have ee := HE.out k hlt hlt'
      unfold tV at s1 s2
      rw [ee] at s2 r2
      rw [e1] at c3
      rw [e2] at d3
      have NS := hide (nodesame_any ks[k].1 ks'[k].1 ks[k].2.1 ks[k].2.2 ks'[k].2.2 wr.drew (r1.below (Below.refl _ wr).drew) (r2.below (Below.refl _ wr).drew))
      have c3d : wr.drew.cell? ⟨w.heap.size, 3, none⟩ = some (.slice (some ⟨b1, o1, none⟩) ks.length tc) := c3
      have d3d : wr.drew.cell? ⟨w.heap.size + 1, 3, none⟩ = some (.slice (some ⟨b2, o2, none⟩) ks.length tc') := d3
      have s1d : wr.drew.cell? ⟨b1, o1 + k, none⟩ = some (.slice ks[k].1 ks[k].2.1.length ks[k].2.2) := s1
      have s2d : wr.drew.cell? ⟨b2, o2 + k, none⟩ = some (.slice ks'[k].1 ks[k].2.1.length ks'[k].2.2) := s2
      clear hc1 hc2 r1 r2 ee HG HO HE e1 e2
      generalize ks[k].2.1.length = tn at *
      generalize ks[k].1 = a1 at *
      generalize ks'[k].1 = a2 at *
      generalize ks[k].2.2 = x1 at *
      generalize ks'[k].2.2 = x2 at *
      go_upto_region 7 with fail
      go_cut [7] from 45 to 55 (fun t wx => t = .bool true ∧ Hid (Below wr.heap.size wr wx))
      case first =>
        go_region_with (go_at_call 12; refine NS.out.mono ?_; rintro e w5 ⟨rfl, hb5⟩)
        all_goals go_wp2
        all_goals go_meet
        all_goals (case rel => exact ⟨rfl, (Below.refl wr.heap.size wr).drew.trans hb5⟩)
      case rest =>
        obtain ⟨rfl, K6⟩ := hcut
        have K7 := hide (below_on K.out K6.out)
        go_wp2
        go_roundw
        case rel => exact ⟨k + 1, by omega, by go_num, K7⟩
        case measure => simp [intOf]; omega
    · go_wp2
      go_ret
      exact ⟨rfl, kw⟩

end Go.Proofs.YtpblpfleiilehafGreatDoor

namespace Go.Proofs.YtpblpfleiilehafGreatDoor
open Go.RowKit Go.Extern.Stop Go.Stop Go.Extern
set_option linter.unusedVariables false

theorem Tryz.valueOfP (t : Addr) (w : World) : (ReflectliteValue.unpack (.iface 89 (.pointer (some t)))).run Tryz.prog w
    = .ok (.agg #[.pointer (some ⟨1, 89, none⟩), .pointer (some ⟨w.heap.size, 0, none⟩), .int .u64 150]) (w.alloc (.cells #[.pointer (some t)] 89)) := by kernel_rfl
theorem Tryz.typeP (a : Addr) (w : World) : (ReflectliteValue.methodAny (ReflectliteValue.valueError "reflectlite.Value.Type" 0) (fun t _ _ _ => ReflectliteType.toType t) #[.agg #[.pointer (some ⟨1, 89, none⟩), .pointer (some a), .int .u64 150]]).run Tryz.prog w
    = .ok (.iface 135 (.agg #[.pointer (some ⟨1, 89, none⟩)])) w := by kernel_rfl
theorem Tryz.methodKind (h : Value) (w : World) : (Go.method 302 135 (.agg #[h]) "Kind").run Tryz.prog w = .ok (142, h) w := by kernel_rfl
theorem Tryz.kindP (w : World) : ((ReflectliteType.abiMethod fun t => (fun a : Nat => Value.int IntKind.u8 (a : Int)) <$> Rtype.kind t) #[.pointer (some ⟨1, 89, none⟩)]).run Tryz.prog w = .ok (.int .u8 22) w := by kernel_rfl
theorem Tryz.kindE (w : World) : ((ReflectliteType.abiMethod fun t => (fun a : Nat => Value.int IntKind.u8 (a : Int)) <$> Rtype.kind t) #[.pointer (some ⟨1, 61, none⟩)]).run Tryz.prog w = .ok (.int .u8 2) w := by kernel_rfl

theorem Tryz.partsP (a : Addr) (w : World) : (ReflectliteValue.parts (.agg #[.pointer (some ⟨1, 89, none⟩), .pointer (some a), .int .u64 150])).run Tryz.prog w = .ok (some (89, a, 150)) w := by kernel_rfl
theorem Tryz.isNilP (a p : Addr) (W : World) (ha : W.cell? a = some (.pointer (some p))) :
    (ReflectliteValue.method (ReflectliteValue.valueError "reflectlite.Value.IsNil" 0) ReflectliteValue.isNil #[.agg #[.pointer (some ⟨1, 89, none⟩), .pointer (some a), .int .u64 150]]).run Tryz.prog W = .ok (.bool false) W := by
  have h : (ReflectliteValue.method (ReflectliteValue.valueError "reflectlite.Value.IsNil" 0) ReflectliteValue.isNil #[.agg #[.pointer (some ⟨1, 89, none⟩), .pointer (some a), .int .u64 150]]).run Tryz.prog W = (ReflectliteValue.isNil 89 a 150 22).run Tryz.prog W := by kernel_rfl
  rw [h]
  simp [ReflectliteValue.isNil, loadVar, isAgg, underlying, Tryz.underlying89, ha, Result.andThen]

theorem Tryz.methodElem (h : Value) (w : World) : (Go.method 302 135 (.agg #[h]) "Elem").run Tryz.prog w = .ok (152, .agg #[h]) w := by kernel_rfl
theorem Tryz.methodImplements (h : Value) (w : World) : (Go.method 302 135 (.agg #[h]) "Implements").run Tryz.prog w = .ok (153, .agg #[h]) w := by kernel_rfl
theorem Tryz.methodAssignableTo (h : Value) (w : World) : (Go.method 302 135 (.agg #[h]) "AssignableTo").run Tryz.prog w = .ok (150, .agg #[h]) w := by kernel_rfl
theorem Tryz.elemP (w : World) : (ReflectliteType.method ReflectliteType.elem #[.agg #[.pointer (some ⟨1, 89, none⟩)]]).run Tryz.prog w = .ok (.iface 135 (.agg #[.pointer (some ⟨1, 61, none⟩)])) w := by kernel_rfl
theorem Tryz.implementsE (w : World) : (ReflectliteType.relation "Implements" ReflectliteType.implements_ #[.agg #[.pointer (some ⟨1, 61, none⟩)], .iface 135 (.agg #[.pointer (some ⟨1, 27, none⟩)])]).run Tryz.prog w = .ok (.bool true) w := by kernel_rfl
theorem Tryz.typeOfE (v : Value) (w : World) : (ReflectliteType.typeOf #[.iface 61 v]).run Tryz.prog w = .ok (.iface 135 (.agg #[.pointer (some ⟨1, 61, none⟩)])) w := by kernel_rfl
theorem Tryz.assignableE (w : World) : (ReflectliteType.relation "AssignableTo" ReflectliteType.assignableTo #[.agg #[.pointer (some ⟨1, 61, none⟩)], .iface 135 (.agg #[.pointer (some ⟨1, 61, none⟩)])]).run Tryz.prog w = .ok (.bool true) w := by kernel_rfl
theorem Tryz.valueOfE (c : Int) (w : World) : (ReflectliteValue.unpack (.iface 61 (.int .i64 c))).run Tryz.prog w
    = .ok (.agg #[.pointer (some ⟨1, 61, none⟩), .pointer (some ⟨w.heap.size, 0, none⟩), .int .u64 130]) (w.alloc (.cells #[.int .i64 c] 61)) := by kernel_rfl

theorem Tryz.elemOfP (w : World) : (Rtype.elem? 89).run Tryz.prog w = .ok (some 61) w := by kernel_rfl
theorem Tryz.mkE (p : Addr) (w : World) : (ReflectliteValue.mk 61 p ReflectliteValue.flagAddr).run Tryz.prog w = .ok (.agg #[.pointer (some ⟨1, 61, none⟩), .pointer (some p), .int .u64 386]) w := by kernel_rfl
theorem Tryz.elemVP (a p : Addr) (W : World) (ha : W.cell? a = some (.pointer (some p))) :
    (ReflectliteValue.method (ReflectliteValue.valueError "reflectlite.Value.Elem" 0) ReflectliteValue.elem #[.agg #[.pointer (some ⟨1, 89, none⟩), .pointer (some a), .int .u64 150]]).run Tryz.prog W
      = .ok (.agg #[.pointer (some ⟨1, 61, none⟩), .pointer (some p), .int .u64 386]) W := by
  have h : (ReflectliteValue.method (ReflectliteValue.valueError "reflectlite.Value.Elem" 0) ReflectliteValue.elem #[.agg #[.pointer (some ⟨1, 89, none⟩), .pointer (some a), .int .u64 150]]).run Tryz.prog W = (ReflectliteValue.elem 89 a 150 22).run Tryz.prog W := by kernel_rfl
  rw [h]
  simp [ReflectliteValue.elem, loadVar, isAgg, underlying, Tryz.underlying89, ha, Result.andThen, Tryz.elemOfP, Tryz.mkE]
theorem Tryz.partsEa (a : Addr) (w : World) : (ReflectliteValue.parts (.agg #[.pointer (some ⟨1, 61, none⟩), .pointer (some a), .int .u64 386])).run Tryz.prog w = .ok (some (61, a, 386)) w := by kernel_rfl
theorem Tryz.partsE (a : Addr) (w : World) : (ReflectliteValue.parts (.agg #[.pointer (some ⟨1, 61, none⟩), .pointer (some a), .int .u64 130])).run Tryz.prog w = .ok (some (61, a, 130)) w := by kernel_rfl
theorem Tryz.directE (w : World) : (Rtype.directlyAssignable 61 61).run Tryz.prog w = .ok true w := by kernel_rfl
theorem Tryz.sizeE (w : World) : (sizeOf 61).run Tryz.prog w = .ok 1 w := by kernel_rfl
theorem Tryz.setE (ta b : Addr) (c : Int) (old : Value) (W : World) (hb : W.cell? b = some (.int .i64 c)) (ht : W.cell? ta = some old) (hf : W.frozen? ta = false) :
    (ReflectliteValue.set #[.agg #[.pointer (some ⟨1, 61, none⟩), .pointer (some ta), .int .u64 386], .agg #[.pointer (some ⟨1, 61, none⟩), .pointer (some b), .int .u64 130]]).run Tryz.prog W
      = .ok (.tuple #[]) (W.setCell ta (.int .i64 c)) := by
  delta ReflectliteValue.set
  delta ReflectliteValue.set.match_3
  simp only [List.size_toArray, List.length_cons, List.length_nil, Nat.zero_add, Nat.reduceAdd, dite_true, Array.getLit, List.getElem_toArray, List.getElem_cons_zero, List.getElem_cons_succ]
  simp only [Sem.run_bind, Tryz.partsEa, Tryz.partsE, Result.andThen]
  simp [ReflectliteValue.flagAddr, loadVar, isAgg, underlying, Tryz.underlying61, hb, Result.andThen, Tryz.directE, storeVar, Value.cells, storeCells, Addr.add]
  rw [run_store Tryz.prog W ta _ _ (by rfl)]
  simp [ht, hf]

end Go.Proofs.YtpblpfleiilehafGreatDoor
