/-
  GroveTwice's own walk: at any grove and any row it answers true, where grove.Eval, grove.Each and grove.Join answer what the chapter says.
-/
import Derived.Test.YtandimbpealcladGroveQ
import Derived.Test.YtandimbpealcladTEval
namespace Go.Proofs.Ytandimbpealclad
open Go.ChangeShapes Go.WideShapes Go.ChangeAt Go.RowKit Go.Lib
set_option linter.unusedVariables false

theorem wrap_in2 (x : Int) (h1 : -9223372036854775808 ≤ x) (h2 : x ≤ 9223372036854775807) : IntKind.i64.wrap x = x := by
  simp [IntKind.wrap, IntKind.bits, IntKind.signed]
  split <;> omega

set_option maxHeartbeats 16000000 in
set_option maxRecDepth 10000 in
theorem twice_walk (hE : EvalGives) (hH : EachGives) (hJ : JoinGives) (G : Gr) (b : Option Addr) (xs : List Int) (cb : Nat) (w : World) (hg : RdG w G) (hr : Rd w b xs) :
    Calls Try.prog 3 #[G.v, .slice b xs.length cb] w fun e w' => e = .returned (.bool true) ∧ Below w.heap.size w w' := by
  have hm1 : G.ks.length ≤ 9223372036854775807 := hg.2.1
  have HG := hide hg
  have HR := hide hr
  obtain ⟨gO, hgO⟩ : ∃ o : Obj, o = .cells #[.int .i64 G.f, .int .i64 G.w, .slice G.wa G.ws.length G.wc, .slice G.ta G.ks.length G.tc] 25 := ⟨_, rfl⟩
  have B0 : Hid (∀ W, Below (w.alloc gO).heap.size (w.alloc gO) W → Below w.heap.size w W) := fun W hW => below_on ((Below.refl _ w).alloc (Nat.le_refl _) gO) hW
  have CG : Hid (∀ W, Below (w.alloc gO).heap.size (w.alloc gO) W → W.cell? ⟨w.heap.size, 0, none⟩ = some (.int .i64 G.f) ∧ W.cell? ⟨w.heap.size, 1, none⟩ = some (.int .i64 G.w) ∧ W.cell? ⟨w.heap.size, 2, none⟩ = some (.slice G.wa G.ws.length G.wc) ∧ W.cell? ⟨w.heap.size, 3, none⟩ = some (.slice G.ta G.ks.length G.tc)) := fun W hW => by rw [hgO] at hW; exact kept_four hW
  have E1 : Hid (Calls Try.prog 4 #[.agg #[.int .i64 0, .int .i64 3, .slice (some ⟨w.heap.size + 1 + 1, 0, none⟩) 1 1, .slice (some ⟨w.heap.size + 1 + 1 + 1, 0, none⟩) 1 1], .slice none 0 0] (one7W (w.alloc gO) (w.heap.size + 1)) fun e w' => ∃ bg og cg, e = .returned (.tuple #[.slice (some ⟨bg, og, none⟩) 1 cg, .nilIface]) ∧ w'.cell? ⟨bg, og, none⟩ = some (.int .i64 7) ∧ Below (w.alloc gO).heap.size (w.alloc gO) w') := by
    have h := hH (one7G (w.heap.size + 1)) none [] 0 (one7W (w.alloc gO) (w.heap.size + 1)) (one7_rdg _ _ (by simp)) ⟨Nat.zero_le _, fun h => absurd rfl h⟩
    have em : (one7G (w.heap.size + 1)).m = M.one7 := rfl
    rw [em, M.one7_each, err_nil M.one7_stand] at h
    refine h.mono ?_
    rintro e w' ⟨ag, cg, rfl, hrd, hb⟩
    obtain ⟨bg, og, rfl, _, hc⟩ := hrd.2 (by simp)
    refine ⟨bg, og, cg, rfl, hc 0 (by simp), below_on ?_ hb⟩
    exact (((Below.refl _ (w.alloc gO)).alloc (Nat.le_refl _) _).alloc (by simp) _).alloc (by simp) _
  have CE := hide (fun W (hW : Below w.heap.size w W) => hE G b xs cb W (hg.below hW) (hr.below hW))
  have CH := hide (fun W (hW : Below w.heap.size w W) => hH G b xs cb W (hg.below hW) (hr.below hW))
  have CJ := hide (fun W (hW : Below w.heap.size w W) => hJ G G W (hg.below hW) (hg.below hW))
  have CEJ := hide (fun J W (hW : Below w.heap.size w W) (hj : RdG W J) => hE J b xs cb W hj (hr.below hW))
  have CT := hide (fun a ts ca W (hW : Below w.heap.size w W) (ha : RdN W a ts) => eval_any a b ts xs ca cb W ha (hr.below hW))
  unfold Gr.v at CE CH CJ CEJ ⊢
  clear hE hH hJ hg hr
  by_cases h0 : M.standF G.m xs = 0
  · obtain ⟨Gd, _, _⟩ := M.stand_ok h0
    have EVe : M.eachV G.m xs = M.eachL G.m xs := by unfold M.eachV; rw [if_pos h0]
    have tlen : (M.gt G.m).length = G.ks.length := tl_len G.ks
    have LL : (M.eachV G.m xs).length = G.ks.length := by rw [EVe, M.each_len, tlen]
    have n12 : G.ks.length ≤ 12 := by rw [← tlen]; exact Gd.t12
    have n0 : 0 < G.ks.length := by rw [← tlen]; exact Gd.t0
    have LA : Hid (∀ i (h : i < G.ks.length), (M.eachV G.m xs).getD i 0 = M.evalV G.ks[i].2.1 xs ∧ M.readyF G.ks[i].2.1 xs = 0) := fun i h => by
      rw [EVe, M.each_at G.m xs (by rw [tlen]; exact h)]
      have e : (M.gt G.m).getD i [] = G.ks[i].2.1 := tl_at G.ks h
      rw [e]
      refine ⟨rfl, M.stand_ready h0 ?_⟩
      rw [← e, M.getD_at (by rw [tlen]; exact h)]
      exact List.getElem_mem _
    have HGT : Hid (∀ W, Below w.heap.size w W → ∃ bt ot, G.ta = some ⟨bt, ot, none⟩ ∧ bt < W.heap.size ∧ ∀ i (h : i < G.ks.length), W.cell? ⟨bt, ot + i, none⟩ = some (.slice G.ks[i].1 G.ks[i].2.1.length G.ks[i].2.2) ∧ RdN W G.ks[i].1 G.ks[i].2.1) := fun W hW => by
      have hk := (HG.out.below hW).2
      obtain ⟨bt, ot, e, hb, hc⟩ := hk.2.2 (by intro e; rw [e] at n0; simp at n0)
      exact ⟨bt, ot, e, hb, fun i h => ⟨hc i h, hk.2.1 _ (List.getElem_mem h)⟩⟩
    rw [err_nil h0] at CE CH
    rw [LL] at CH
    have LLn := LL
    obtain ⟨bt, ot, hta, _, _⟩ := HGT.out w (Below.refl _ _)
    have HTA := hide hta
    clear hta
    have JS := M.join_self Gd
    rw [tlen] at JS
    rcases JS with hj | hj
    · have JV : M.joinV G.m G.m = M.joinG G.m G.m := by unfold M.joinV; rw [if_pos hj]
      rw [err_nil hj, JV] at CJ
      by_cases hw : G.w = 1
      · have TW : M.evalG (M.joinG G.m G.m) xs = 2 * M.evalG G.m xs := by rw [M.twice hj h0]; exact if_pos hw
        have rng := M.eval_range h0 hw
        have qw : (G.w == 1) = true := by rw [beq_iff_eq]; exact hw
        have SJ : M.standF (M.joinG G.m G.m) xs = 0 := (M.join_stand hj h0).2
        have EJ : Hid (∀ J : Gr, J.m = M.joinG G.m G.m → ∀ W, Below w.heap.size w W → RdG W J → Calls Try.prog 5 #[.agg #[.int .i64 J.f, .int .i64 J.w, .slice J.wa J.ws.length J.wc, .slice J.ta J.ks.length J.tc], .slice b xs.length cb] W fun e w' => e = .returned (.tuple #[.int .i64 (2 * M.evalG G.m xs), .nilIface]) ∧ Below W.heap.size W w') := fun J hm W hW hj2 => by
          have := CEJ.out J W hW hj2
          rw [hm, TW, err_nil SJ] at this
          exact this
        rw [hgO] at E1 CG B0
        clear hgO h0 Gd EVe tlen LL CEJ hj JV hw TW SJ
        obtain ⟨rg1, rg2⟩ := rng
        generalize M.evalG G.m xs = ev at *
        have wr2 : IntKind.i64.wrap (2 * ev) = 2 * ev := wrap_in2 _ (by omega) (by omega)
        generalize M.eachV G.m xs = L at *
        generalize M.joinG G.m G.m = JM at *
        go_enter Try.func3, Try.ntmps3
        go_wp2_with (first
          | (go_at_call 5; refine (CE.out _ k1).mono ?_; rintro e w2 ⟨rfl, hb2⟩; have g2 := below_on g1 hb2; have q2 := CG.out _ g2; have d0 := q2.1; have d1 := q2.2.1; have d2 := q2.2.2.1; have d3 := q2.2.2.2; have k2 := B0.out _ g2; clear q2)
          | (go_at_call 4; refine (CH.out _ k2).mono ?_; rintro e w3 ⟨ag, cg, rfl, hrd, hb3⟩; have g3 := below_on g2 hb3; have q3 := CG.out _ g3; have e3 := q3.2.2.2; have HL := hide hrd; clear q3 hrd)
          | (go_at_call 4; refine E1.out.mono ?_; rintro e w1 ⟨bg, og, cg1, rfl, x1, hb1⟩; have q1 := CG.out _ hb1; have c0 := q1.1; have c1 := q1.2.1; have c2 := q1.2.2.1; have c3 := q1.2.2.2; have k1 := B0.out _ hb1; have g1 := hb1; clear q1))
        have g3' := hide g3
        clear E1 CE CH hb1 hb2 g1 g2 k1 k2 c0 c1 c2 c3 d0 d1 d2 d3 x1
        go_loopw [12] (fun i wr => ∃ k : Nat, k ≤ G.ks.length ∧ i = .int .i64 k ∧ Below w3.heap.size w3 wr) (fun i _ => G.ks.length - (intOf i).toNat)
        case atStart => exact ⟨0, Nat.zero_le _, rfl, Below.refl _ _⟩
        case round =>
          obtain ⟨k, hk, rfl, hbl⟩ := hrel
          have gr := below_on g3'.out hbl
          have kr := B0.out _ gr
          have qr := CG.out _ gr
          have c0 := qr.1
          have c1 := qr.2.1
          have c2 := qr.2.2.1
          have c3 := qr.2.2.2
          clear qr
          by_cases hlt : k < G.ks.length
          · obtain ⟨bt2, ot2, ht2, hbt, hc⟩ := HGT.out _ kr
            rw [HTA.out] at ht2
            cases ht2
            obtain ⟨ck, rk⟩ := hc k hlt
            obtain ⟨la, lr⟩ := LA.out k hlt
            obtain ⟨bl, ol, rfl, hbl2, hcl⟩ := (HL.out.below hbl).2 (by intro e; rw [e] at LLn; simp at LLn; omega)
            have cl := hcl k (by rw [LLn]; exact hlt)
            rw [la] at cl
            have T1 := hide (CT.out _ _ G.ks[k].2.2 wr kr rk)
            rw [err_nil lr] at T1
            have kz : (k : Int) < (G.ks.length : Int) := by omega
            clear hc hcl la lr rk HGT LA
            generalize M.evalV G.ks[k].2.1 xs = z at *
            generalize G.ks[k].2.1.length = tn at *
            generalize G.ks[k].2.2 = tcc at *
            generalize G.ks[k].1 = ta at *
            rw [HTA.out] at c3
            go_wp2_with (go_at_call 6; refine T1.out.mono ?_; rintro e w4 ⟨rfl, hb4⟩; have cl4 := (hb4.cell (p := ⟨bl, ol + k, none⟩) hbl2).trans cl)
            go_roundw
            case rel => exact ⟨k + 1, by omega, by go_num, below_on hbl hb4⟩
            case measure => simp [intOf]; omega
          · clear HGT LA CT HL
            go_wp2_with (first
              | (go_at_call 7; refine (CJ.out _ kr).mono ?_; rintro e w5 ⟨JJ, rfl, hm5, hr5, hb5⟩; have g5 := below_on gr hb5; have q5 := CG.out _ g5; have f1 := q5.2.1; have k5 := B0.out _ g5; have HM := hide hm5; have HRG := hide hr5; have kw5 := k5.size; clear q5 hm5 hr5)
              | (go_at_call 5; refine (EJ.out _ HM.out _ (k5.alloc k5.size _) (HRG.out.below ((Below.refl _ _).alloc (Nat.le_refl _) _))).mono ?_; rintro e w6 ⟨rfl, hb6⟩; have k6 := below_on ((Below.refl _ _).alloc (Nat.le_refl _) _) hb6; have g6 := below_on g5 k6; have q6 := CG.out _ g6; have h1 := q6.2.1; clear q6))
            go_ret
            exact ⟨rfl, below_on k5 k6⟩
      · have TW : M.evalG (M.joinG G.m G.m) xs = M.evalG G.m xs := by rw [M.twice hj h0]; exact if_neg hw
        have qw : (G.w == 1) = false := by rw [beq_eq_false_iff_ne]; exact hw
        have SJ : M.standF (M.joinG G.m G.m) xs = 0 := (M.join_stand hj h0).2
        have EJ : Hid (∀ J : Gr, J.m = M.joinG G.m G.m → ∀ W, Below w.heap.size w W → RdG W J → Calls Try.prog 5 #[.agg #[.int .i64 J.f, .int .i64 J.w, .slice J.wa J.ws.length J.wc, .slice J.ta J.ks.length J.tc], .slice b xs.length cb] W fun e w' => e = .returned (.tuple #[.int .i64 (M.evalG G.m xs), .nilIface]) ∧ Below W.heap.size W w') := fun J hm W hW hj2 => by
          have := CEJ.out J W hW hj2
          rw [hm, TW, err_nil SJ] at this
          exact this
        rw [hgO] at E1 CG B0
        clear hgO h0 Gd EVe tlen LL CEJ hj JV hw TW SJ
        generalize M.evalG G.m xs = ev at *
        generalize M.eachV G.m xs = L at *
        generalize M.joinG G.m G.m = JM at *
        go_enter Try.func3, Try.ntmps3
        go_wp2_with (first
          | (go_at_call 5; refine (CE.out _ k1).mono ?_; rintro e w2 ⟨rfl, hb2⟩; have g2 := below_on g1 hb2; have q2 := CG.out _ g2; have d0 := q2.1; have d1 := q2.2.1; have d2 := q2.2.2.1; have d3 := q2.2.2.2; have k2 := B0.out _ g2; clear q2)
          | (go_at_call 4; refine (CH.out _ k2).mono ?_; rintro e w3 ⟨ag, cg, rfl, hrd, hb3⟩; have g3 := below_on g2 hb3; have q3 := CG.out _ g3; have e3 := q3.2.2.2; have HL := hide hrd; clear q3 hrd)
          | (go_at_call 4; refine E1.out.mono ?_; rintro e w1 ⟨bg, og, cg1, rfl, x1, hb1⟩; have q1 := CG.out _ hb1; have c0 := q1.1; have c1 := q1.2.1; have c2 := q1.2.2.1; have c3 := q1.2.2.2; have k1 := B0.out _ hb1; have g1 := hb1; clear q1))
        have g3' := hide g3
        clear E1 CE CH hb1 hb2 g1 g2 k1 k2 c0 c1 c2 c3 d0 d1 d2 d3 x1
        go_loopw [12] (fun i wr => ∃ k : Nat, k ≤ G.ks.length ∧ i = .int .i64 k ∧ Below w3.heap.size w3 wr) (fun i _ => G.ks.length - (intOf i).toNat)
        case atStart => exact ⟨0, Nat.zero_le _, rfl, Below.refl _ _⟩
        case round =>
          obtain ⟨k, hk, rfl, hbl⟩ := hrel
          have gr := below_on g3'.out hbl
          have kr := B0.out _ gr
          have qr := CG.out _ gr
          have c0 := qr.1
          have c1 := qr.2.1
          have c2 := qr.2.2.1
          have c3 := qr.2.2.2
          clear qr
          by_cases hlt : k < G.ks.length
          · obtain ⟨bt2, ot2, ht2, hbt, hc⟩ := HGT.out _ kr
            rw [HTA.out] at ht2
            cases ht2
            obtain ⟨ck, rk⟩ := hc k hlt
            obtain ⟨la, lr⟩ := LA.out k hlt
            obtain ⟨bl, ol, rfl, hbl2, hcl⟩ := (HL.out.below hbl).2 (by intro e; rw [e] at LLn; simp at LLn; omega)
            have cl := hcl k (by rw [LLn]; exact hlt)
            rw [la] at cl
            have T1 := hide (CT.out _ _ G.ks[k].2.2 wr kr rk)
            rw [err_nil lr] at T1
            have kz : (k : Int) < (G.ks.length : Int) := by omega
            clear hc hcl la lr rk HGT LA
            generalize M.evalV G.ks[k].2.1 xs = z at *
            generalize G.ks[k].2.1.length = tn at *
            generalize G.ks[k].2.2 = tcc at *
            generalize G.ks[k].1 = ta at *
            rw [HTA.out] at c3
            go_wp2_with (go_at_call 6; refine T1.out.mono ?_; rintro e w4 ⟨rfl, hb4⟩; have cl4 := (hb4.cell (p := ⟨bl, ol + k, none⟩) hbl2).trans cl)
            go_roundw
            case rel => exact ⟨k + 1, by omega, by go_num, below_on hbl hb4⟩
            case measure => simp [intOf]; omega
          · clear HGT LA CT HL
            go_wp2_with (first
              | (go_at_call 7; refine (CJ.out _ kr).mono ?_; rintro e w5 ⟨JJ, rfl, hm5, hr5, hb5⟩; have g5 := below_on gr hb5; have q5 := CG.out _ g5; have f1 := q5.2.1; have k5 := B0.out _ g5; have HM := hide hm5; have HRG := hide hr5; have kw5 := k5.size; clear q5 hm5 hr5)
              | (go_at_call 5; refine (EJ.out _ HM.out _ (k5.alloc k5.size _) (HRG.out.below ((Below.refl _ _).alloc (Nat.le_refl _) _))).mono ?_; rintro e w6 ⟨rfl, hb6⟩; have k6 := below_on ((Below.refl _ _).alloc (Nat.le_refl _) _) hb6; have g6 := below_on g5 k6; have q6 := CG.out _ g6; have h1 := q6.2.1; clear q6))
            go_ret
            exact ⟨rfl, below_on k5 k6⟩
    · have JF : M.joinF G.m G.m = 4 := hj.1
      have j12 : 12 < 2 * (G.ks.length : Int) := by have := hj.2; omega
      have q12 : decide (12 < 2 * (G.ks.length : Int)) = true := decide_eq_true j12
      have wr3 : IntKind.i64.wrap (2 * (G.ks.length : Int)) = 2 * (G.ks.length : Int) := wrap_in2 _ (by omega) (by omega)
      rw [JF, err_some (show (4 : Int) ≠ 0 by decide)] at CJ
      rw [hgO] at E1 CG B0
      clear hgO h0 Gd EVe tlen LL CEJ hj JF
      generalize M.evalG G.m xs = ev at *
      generalize M.eachV G.m xs = L at *
      generalize M.joinV G.m G.m = JM at *
      go_enter Try.func3, Try.ntmps3
      go_wp2_with (first
        | (go_at_call 5; refine (CE.out _ k1).mono ?_; rintro e w2 ⟨rfl, hb2⟩; have g2 := below_on g1 hb2; have q2 := CG.out _ g2; have d0 := q2.1; have d1 := q2.2.1; have d2 := q2.2.2.1; have d3 := q2.2.2.2; have k2 := B0.out _ g2; clear q2)
        | (go_at_call 4; refine (CH.out _ k2).mono ?_; rintro e w3 ⟨ag, cg, rfl, hrd, hb3⟩; have g3 := below_on g2 hb3; have q3 := CG.out _ g3; have e3 := q3.2.2.2; have HL := hide hrd; clear q3 hrd)
        | (go_at_call 4; refine E1.out.mono ?_; rintro e w1 ⟨bg, og, cg1, rfl, x1, hb1⟩; have q1 := CG.out _ hb1; have c0 := q1.1; have c1 := q1.2.1; have c2 := q1.2.2.1; have c3 := q1.2.2.2; have k1 := B0.out _ hb1; have g1 := hb1; clear q1))
      have g3' := hide g3
      clear E1 CE CH hb1 hb2 g1 g2 k1 k2 c0 c1 c2 c3 d0 d1 d2 d3 x1
      go_loopw [12] (fun i wr => ∃ k : Nat, k ≤ G.ks.length ∧ i = .int .i64 k ∧ Below w3.heap.size w3 wr) (fun i _ => G.ks.length - (intOf i).toNat)
      case atStart => exact ⟨0, Nat.zero_le _, rfl, Below.refl _ _⟩
      case round =>
        obtain ⟨k, hk, rfl, hbl⟩ := hrel
        have gr := below_on g3'.out hbl
        have kr := B0.out _ gr
        have qr := CG.out _ gr
        have c0 := qr.1
        have c1 := qr.2.1
        have c2 := qr.2.2.1
        have c3 := qr.2.2.2
        clear qr
        by_cases hlt : k < G.ks.length
        · obtain ⟨bt2, ot2, ht2, hbt, hc⟩ := HGT.out _ kr
          rw [HTA.out] at ht2
          cases ht2
          obtain ⟨ck, rk⟩ := hc k hlt
          obtain ⟨la, lr⟩ := LA.out k hlt
          obtain ⟨bl, ol, rfl, hbl2, hcl⟩ := (HL.out.below hbl).2 (by intro e; rw [e] at LLn; simp at LLn; omega)
          have cl := hcl k (by rw [LLn]; exact hlt)
          rw [la] at cl
          have T1 := hide (CT.out _ _ G.ks[k].2.2 wr kr rk)
          rw [err_nil lr] at T1
          have kz : (k : Int) < (G.ks.length : Int) := by omega
          clear hc hcl la lr rk HGT LA
          generalize M.evalV G.ks[k].2.1 xs = z at *
          generalize G.ks[k].2.1.length = tn at *
          generalize G.ks[k].2.2 = tcc at *
          generalize G.ks[k].1 = ta at *
          rw [HTA.out] at c3
          go_wp2_with (go_at_call 6; refine T1.out.mono ?_; rintro e w4 ⟨rfl, hb4⟩; have cl4 := (hb4.cell (p := ⟨bl, ol + k, none⟩) hbl2).trans cl)
          go_roundw
          case rel => exact ⟨k + 1, by omega, by go_num, below_on hbl hb4⟩
          case measure => simp [intOf]; omega
        · clear HGT LA CT HL
          go_wp2_with (go_at_call 7; refine (CJ.out _ kr).mono ?_; rintro e w5 ⟨JJ, rfl, hm5, hr5, hb5⟩; have g5 := below_on gr hb5; have q5 := CG.out _ g5; have f3 := q5.2.2.2; have k5 := B0.out _ g5; have lt5 : w.heap.size < w5.heap.size := (by have := g5.size; simp at this; omega); clear q5 hm5 hr5)
          go_ret
          exact ⟨rfl, k5.alloc k5.size _⟩
  · rw [err_some h0] at CE
    clear CH CJ CEJ CT
    rw [hgO] at E1 CG B0
    clear hgO
    generalize M.standF G.m xs = sf at *
    generalize M.evalG G.m xs = ev at *
    go_enter Try.func3, Try.ntmps3
    go_wp2_with (first
      | (go_at_call 4; refine E1.out.mono ?_; rintro e w1 ⟨bg, og, cg, rfl, x1, hb1⟩; have q1 := CG.out _ hb1; have c0 := q1.1; have c1 := q1.2.1; have c2 := q1.2.2.1; have c3 := q1.2.2.2; have k1 := B0.out _ hb1; clear q1)
      | (go_at_call 5; refine (CE.out _ k1).mono ?_; rintro e w2 ⟨rfl, hb2⟩))
    go_ret
    exact ⟨rfl, below_on k1 hb2⟩

end Go.Proofs.Ytandimbpealclad
