/-
  What grow.Split and grow.Wrong answer, for all samples and nodes and all numbers.
-/
import Derived.Test.YthbeoaninipadafGroFit
import Derived.Test.YthbeoaninipadafGroR
import Derived.Test.YthbeoaninipadafMathSi
import Derived.Test.YthbeoaninipadafTEval
import Derived.Test.YthbeoaninipadafTCheck
namespace Go.Proofs.Ythbeoaninipadaf
open Go.ChangeShapes Go.WideShapes Go.ChangeAt Go.RowKit Go.Lib
set_option linter.unusedVariables false

theorem M.splF_sam {l : List M.Sa} {m least : Int} (h : (M.samF l m).2 ≠ 0) : M.splF l m least = (M.samF l m).2 := by unfold M.splF; rw [if_pos h]
theorem M.splF_num {l : List M.Sa} {m least : Int} (h : (M.samF l m).2 = 0) (h2 : least < 1 ∨ 60 < least) : M.splF l m least = 1 := by unfold M.splF; rw [if_neg (by simp [h]), if_pos h2]
theorem M.splF_fo {l : List M.Sa} {m least : Int} (h : (M.samF l m).2 = 0) (h2 : ¬ (least < 1 ∨ 60 < least)) : M.splF l m least = if (M.spV l m.toNat least).2.2.2.2 = true then 0 else 5 := by unfold M.splF; rw [if_neg (by simp [h]), if_neg h2]
theorem M.splX_no {l : List M.Sa} {m least : Int} (h : M.splF l m least ≠ 0) : M.splX l m least = 0 ∧ M.splC l m least = 0 := by unfold M.splX M.splC; rw [if_neg h, if_neg h]; exact ⟨rfl, rfl⟩
theorem M.splX_yes {l : List M.Sa} {m least : Int} (h : M.splF l m least = 0) : M.splX l m least = ((M.spV l m.toNat least).2.2.1 : Nat) ∧ M.splC l m least = (M.spV l m.toNat least).2.2.2.1 := by unfold M.splX M.splC; rw [if_pos h, if_pos h]; exact ⟨rfl, rfl⟩

set_option maxHeartbeats 8000000 in
set_option maxRecDepth 10000 in
theorem grosplit_any : GroSplitGives := by
  intro a xs ca m least w h
  have CK := hide (grochk_any a xs ca m w h)
  by_cases h1 : (M.samF (sms xs) m).2 = 0
  · obtain ⟨G, hl, hm, hz⟩ := M.sam_ok h1
    rw [h1, err_nil rfl] at CK
    have LS := hide (isleast_any least)
    by_cases h2 : least < 1 ∨ 60 < least
    · have EF : M.splF (sms xs) m least = 1 := M.splF_num h1 h2
      obtain ⟨e1, e2⟩ := M.splX_no (l := sms xs) (m := m) (least := least) (by rw [EF]; decide)
      rw [e1, e2, EF, err_some (by decide)]
      rw [decide_eq_false (by omega)] at LS
      clear h h1 h2 EF e1 e2 G hl hm hz
      generalize xs.length = n at *
      go_enter Try.func11, Try.ntmps11
      go_wp2_with (first
        | (go_at_call 13; refine CK.out.mono ?_; rintro e w1 ⟨rfl, hb1⟩; have K1 := hide hb1; clear hb1)
        | (go_at_call 21; refine (LS.out _).mono ?_; rintro e w2 ⟨rfl, e2⟩; have e2' := e2.symm; subst e2'))
      go_ret3
      exact ⟨rfl, K1.out⟩
    · obtain ⟨mn, rfl⟩ : ∃ mn : Nat, m = (mn : Int) := ⟨m.toNat, hm.symm⟩
      rw [Int.toNat_natCast] at G
      have lp : 0 < xs.length := by rw [← sms_len]; exact hl
      have BQ := hide (fun W (hW : Below w.heap.size w W) => best_any gcuts_any a xs ca mn least W (h.below hW) (Ask.of G) G.m8 lp (by omega))
      have EF := M.splF_fo h1 h2
      rw [Int.toNat_natCast] at EF
      rw [decide_eq_true (by omega)] at LS
      have UA : Hid (∀ W o, Below w.heap.size w W → Below w.heap.size w (W.alloc o)) := fun W o hW => below_on hW ((Below.refl _ W).alloc (Nat.le_refl _) o)
      cases hf : (M.spV (sms xs) mn least).2.2.2.2 with
      | true =>
        rw [hf] at EF BQ
        rw [if_pos rfl] at EF
        obtain ⟨e1, e2⟩ := M.splX_yes EF
        rw [Int.toNat_natCast] at e1 e2
        rw [e1, e2, EF, err_nil rfl]
        clear h h1 h2 EF e1 e2 G hl hm hz lp hf
        generalize (M.spV (sms xs) mn least).2.2.1 = f at *
        generalize (M.spV (sms xs) mn least).2.2.2.1 = cu at *
        generalize xs.length = n at *
        go_enter Try.func11, Try.ntmps11
        go_upto_region 9 with (first
          | (go_at_call 13; refine CK.out.mono ?_; rintro e w1 ⟨rfl, hb1⟩; have K1 := hide hb1; clear hb1)
          | (go_at_call 21; refine (LS.out _).mono ?_; rintro e w2 ⟨rfl, e2⟩; have e2' := e2.symm; subst e2')
          | (go_at_call 28; refine (BQ.out _ K1.out).mono ?_; rintro e w3 ⟨rfl, hb3⟩; have K3 := hide (below_on K1.out hb3); clear hb3))
        have KD : Hid (∀ o q, Below w.heap.size w ((w3.alloc o).drewN q)) := fun o q => below_on (UA.out w3 o K3.out) (below_drew (Below.refl _ _) q (Nat.le_refl _))
        go_quiet (fail)
        go_wp2
        go_ret3
        exact ⟨rfl, KD.out _ _⟩
      | false =>
        rw [hf] at EF BQ
        rw [if_neg (by decide)] at EF
        obtain ⟨e1, e2⟩ := M.splX_no (l := sms xs) (m := (mn : Int)) (least := least) (by rw [EF]; decide)
        rw [e1, e2, EF, err_some (by decide)]
        clear h h1 h2 EF e1 e2 G hl hm hz lp hf
        generalize (M.spV (sms xs) mn least).2.2.1 = f at *
        generalize (M.spV (sms xs) mn least).2.2.2.1 = cu at *
        generalize xs.length = n at *
        go_enter Try.func11, Try.ntmps11
        go_wp2_with (first
          | (go_at_call 13; refine CK.out.mono ?_; rintro e w1 ⟨rfl, hb1⟩; have K1 := hide hb1; clear hb1)
          | (go_at_call 21; refine (LS.out _).mono ?_; rintro e w2 ⟨rfl, e2⟩; have e2' := e2.symm; subst e2')
          | (go_at_call 28; refine (BQ.out _ K1.out).mono ?_; rintro e w3 ⟨rfl, hb3⟩; have K3 := hide (below_on K1.out hb3); clear hb3))
        go_ret3
        exact ⟨rfl, UA.out _ _ K3.out⟩
  · have EF : M.splF (sms xs) m least = (M.samF (sms xs) m).2 := M.splF_sam h1
    obtain ⟨e1, e2⟩ := M.splX_no (l := sms xs) (m := m) (least := least) (by rw [EF]; exact h1)
    rw [e1, e2, EF, err_some h1]
    rw [err_some h1] at CK
    clear h h1 EF e1 e2
    generalize (M.samF (sms xs) m).2 = er at *
    generalize (M.samF (sms xs) m).1 = ep at *
    generalize xs.length = n at *
    go_enter Try.func11, Try.ntmps11
    go_wp2_with (go_at_call 13; refine CK.out.mono ?_; rintro e w1 ⟨rfl, hb1⟩; have K1 := hide hb1; clear hb1)
    go_ret3
    exact ⟨rfl, K1.out⟩

theorem M.rdy_none {t : List M.Nd} {l : List M.Sa} (h : l.length = 0) : M.rdyF t l = 5 := by unfold M.rdyF; rw [if_pos h]
theorem M.rdy_tree {t : List M.Nd} {l : List M.Sa} (h : l.length ≠ 0) (h2 : (M.treeF t ((M.sAt l 0).1.length : Int)).2 ≠ 0) : M.rdyF t l = (M.treeF t ((M.sAt l 0).1.length : Int)).2 := by unfold M.rdyF; rw [if_neg h, if_pos h2]
theorem M.rdy_sam {t : List M.Nd} {l : List M.Sa} (h : l.length ≠ 0) (h2 : (M.treeF t ((M.sAt l 0).1.length : Int)).2 = 0) : M.rdyF t l = (M.samF l ((M.sAt l 0).1.length : Int)).2 := by unfold M.rdyF; rw [if_neg h, if_neg (by simp [h2])]
theorem M.wrgV_no {t : List M.Nd} {l : List M.Sa} (h : M.rdyF t l ≠ 0) : M.wrgV t l = 0 := by unfold M.wrgV; rw [if_neg h]
theorem M.wrgV_yes {t : List M.Nd} {l : List M.Sa} (h : M.rdyF t l = 0) : M.wrgV t l = M.wrgS t l := by unfold M.wrgV; rw [if_pos h]

set_option maxHeartbeats 8000000 in
set_option maxRecDepth 10000 in
theorem growrong_any : GroWrongGives := by
  intro a b ts xs ca cb w ht h
  have hmx : xs.length ≤ 9223372036854775807 := h.1
  have hmt : ts.length ≤ 9223372036854775807 := ht.1
  by_cases h0 : xs.length = 0
  · have EF : M.rdyF ts (sms xs) = 5 := M.rdy_none (by rw [sms_len]; exact h0)
    rw [M.wrgV_no (by rw [EF]; decide), EF, err_some (by decide)]
    have q : ((xs.length : Int) == 0) = true := by rw [beq_iff_eq]; omega
    clear h ht EF h0
    generalize xs.length = n at *
    go_enter Try.func10, Try.ntmps10
    go_wp2
    go_ret2
    exact ⟨rfl, Below.refl _ _⟩
  · have q : ((xs.length : Int) == 0) = false := by rw [beq_eq_false_iff_ne]; omega
    have x0 : 0 < xs.length := by omega
    obtain ⟨bl, ol, rfl, hbl, hcl⟩ := h.2.2 (by intro e; rw [e] at x0; simp at x0)
    have c0 := (hcl 0 x0).1
    have e0 : M.sAt (sms xs) 0 = sm xs[0] := sms_at xs x0
    have eL : (M.sAt (sms xs) 0).1.length = xs[0].2.1.length := by rw [e0]; rfl
    have sl : (sms xs).length ≠ 0 := by rw [sms_len]; exact h0
    unfold sxV at c0
    rw [Nat.zero_mul, Nat.add_zero] at c0
    have z0 : (0 : Int) < (xs.length : Int) := by omega
    have TC := hide (tcheck_any a ts ca (xs[0].2.1.length : Int) w ht)
    have SC := hide (fun W (hW : Below w.heap.size w W) => grochk_any (some ⟨bl, ol, none⟩) xs cb (xs[0].2.1.length : Int) W (h.below hW))
    by_cases h2 : (M.treeF ts (xs[0].2.1.length : Int)).2 = 0
    · have EF : M.rdyF ts (sms xs) = (M.samF (sms xs) (xs[0].2.1.length : Int)).2 := by rw [← eL]; exact M.rdy_sam sl (by rw [eL]; exact h2)
      rw [h2, err_nil rfl] at TC
      by_cases h3 : (M.samF (sms xs) (xs[0].2.1.length : Int)).2 = 0
      · rw [h3] at EF
        obtain ⟨G, _, _, _⟩ := M.sam_ok h3
        rw [Int.toNat_natCast] at G
        obtain ⟨F, _⟩ := M.tree_ok h2
        have l60 : xs.length ≤ 60 := by have := G.le; rw [sms_len] at this; exact this
        have hv : ∀ r, -1000000 ≤ M.nv (M.nAt ts (M.toD ts r 0)) ∧ M.nv (M.nAt ts (M.toD ts r 0)) ≤ 1000000 := fun r => by
          have e := M.to_end F.2.2.2.2.1 r ts.length 0 F.2.1 (by omega)
          exact M.lv_in F _ ((M.lvK_mem ts _ _).2 ⟨_, e.1, decide_eq_true e.2, rfl⟩)
        have tg : ∀ x ∈ xs, -1000 ≤ x.2.2.2 ∧ x.2.2.2 ≤ 1000 := fun x hx => (G.each (sm x) (List.mem_map.2 ⟨x, hx, rfl⟩)).2.2.1
        have SM : Hid (∀ k (hk : k < xs.length), M.wrgS ts ((sms xs).take (k + 1)) = M.wrgS ts ((sms xs).take k) + (xs[k].2.2.2 - M.nv (M.nAt ts (M.toD ts xs[k].2.1 0))) * (xs[k].2.2.2 - M.nv (M.nAt ts (M.toD ts xs[k].2.1 0)))) := fun k hk => by
          rw [List.take_succ_eq_append_getElem (by rw [sms_len]; exact hk), M.wrg_app]
          have e : (sms xs)[k]'(by rw [sms_len]; exact hk) = sm xs[k] := by simp [sms]
          rw [e]
          show _ + (_ + 0) = _
          rw [Int.add_zero]
          rfl
        have BD : Hid (∀ k, 0 ≤ M.wrgS ts ((sms xs).take k) ∧ M.wrgS ts ((sms xs).take k) ≤ 60120060000000) := fun k => by
          have := M.wrg_in hv (l := (sms xs).take k) fun s hs => by
            obtain ⟨x, hx, rfl⟩ := List.mem_map.1 (List.mem_of_mem_take hs)
            exact tg x hx
          have l : ((sms xs).take k).length ≤ 60 := by rw [List.length_take, sms_len]; omega
          omega
        have VC : Hid (∀ k (hk : k < xs.length) W, Below w.heap.size w W → Calls Try.prog 17 #[.slice a ts.length ca, .slice xs[k].1 xs[k].2.1.length xs[k].2.2.1] W fun e w' => e = .returned (.tuple #[.int .i64 (M.nv (M.nAt ts (M.toD ts xs[k].2.1 0))), .nilIface]) ∧ Below W.heap.size W w') := fun k hk W hW => by
          have g := G.each (sm xs[k]) (List.mem_map.2 ⟨_, List.getElem_mem hk, rfl⟩)
          have rd : M.readyF ts xs[k].2.1 = 0 := by
            have e : xs[k].2.1.length = xs[0].2.1.length := g.2.1
            have g1 : M.rowF xs[k].2.1 = 0 := g.1
            unfold M.readyF
            rw [g1, e, h2]
            simp
          have := eval_any a xs[k].1 ts xs[k].2.1 ca xs[k].2.2.1 W (ht.below hW) ((h.2.1 _ (List.getElem_mem hk)).below hW)
          rw [rd, err_nil rfl, show M.evalV ts xs[k].2.1 = M.nv (M.nAt ts (M.toD ts xs[k].2.1 0)) by unfold M.evalV; rw [if_pos rd]] at this
          exact this
        have TG : Hid (∀ k (hk : k < xs.length), -1000 ≤ xs[k].2.2.2 ∧ xs[k].2.2.2 ≤ 1000) := fun k hk => tg _ (List.getElem_mem hk)
        have HV := hide hv
        have HL := hide h
        have E0 : Hid (M.wrgS ts ((sms xs).take xs.length) = M.wrgS ts (sms xs)) := by unfold Hid; rw [← sms_len xs, List.take_length]
        rw [M.wrgV_yes EF, EF, err_nil rfl]
        rw [h3, err_nil rfl] at SC
        clear ht h hcl h0 e0 eL sl h2 h3 EF G F hv tg
        generalize M.wrgS ts (sms xs) = o at *
        generalize (M.samF (sms xs) (xs[0].2.1.length : Int)).1 = sp at *
        generalize (M.treeF ts (xs[0].2.1.length : Int)).1 = tp at *
        generalize xs[0].2.1.length = rl0 at *
        generalize xs[0].2.2.1 = rc0 at *
        generalize xs[0].1 = ra0 at *
        go_enter Try.func10, Try.ntmps10
        go_wp2_with (first
          | (go_at_call 7; refine TC.out.mono ?_; rintro e w1 ⟨rfl, hb1⟩; have k1 := hide hb1; clear hb1)
          | (go_at_call 13; refine (SC.out _ k1.out).mono ?_; rintro e w2 ⟨rfl, hb2⟩; have k2 := hide (below_on k1.out hb2); clear hb2))
        clear TC SC k1 c0
        go_loopw [11, 45] (fun s i wr => ∃ k : Nat, k ≤ xs.length ∧ i = .int .i64 k ∧ s = .int .i64 (M.wrgS ts ((sms xs).take k)) ∧ Hid (Below w.heap.size w wr)) (fun _ i _ => xs.length - (intOf i).toNat)
        case atStart => exact ⟨0, Nat.zero_le _, rfl, rfl, k2⟩
        case round =>
          obtain ⟨k, hk, rfl, rfl, K⟩ := hrel
          by_cases hlt : k < xs.length
          · obtain ⟨bl', ol', el, hbl', hcl⟩ := (HL.out.below K.out).2.2 (by intro e; rw [e] at hlt; simp at hlt)
            cases el
            obtain ⟨c0, c1⟩ := hcl k hlt
            unfold sxV at c0
            have VK := hide (VC.out k hlt)
            obtain ⟨t0, t1⟩ := TG.out k hlt
            obtain ⟨v0, v1⟩ := HV.out xs[k].2.1
            obtain ⟨b0, b1⟩ := BD.out k
            have S1 := hide (SM.out k hlt)
            have kz : (k : Int) < (xs.length : Int) := by omega
            clear hcl SM VC TG HV BD HL E0 k2
            generalize M.nv (M.nAt ts (M.toD ts xs[k].2.1 0)) = v at *
            generalize xs[k].2.2.2 = t at *
            generalize xs[k].2.1.length = rl at *
            generalize xs[k].2.2.1 = rc at *
            generalize xs[k].1 = ra at *
            generalize M.wrgS ts ((sms xs).take k) = s at *
            have q := M.sq_in5 (s := t - v) (B := 1001000) (by omega) (by omega)
            have x1 : IntKind.i64.wrap ((t - v) * (t - v)) = (t - v) * (t - v) := wrap_in6 _ (by omega) (by omega)
            have x2 : IntKind.i64.wrap (s + (t - v) * (t - v)) = s + (t - v) * (t - v) := wrap_in6 _ (by omega) (by omega)
            have x3 : IntKind.i64.wrap (t - v) = t - v := wrap_in6 _ (by omega) (by omega)
            clear q
            go_upto_region 14 with fail
            obtain ⟨w5, hw5⟩ : ∃ W, W = wr.alloc (.cells #[.slice ra rl rc, .int .i64 t] 25) := ⟨_, rfl⟩
            rw [← hw5]
            have K5 : Hid (Below w.heap.size w w5) := by unfold Hid; rw [hw5]; exact below_on K.out ((Below.refl _ wr).alloc (Nat.le_refl _) _)
            have N5 : Hid (∀ W, Below w5.heap.size w5 W → W.cell? ⟨wr.heap.size, 0, none⟩ = some (.slice ra rl rc) ∧ W.cell? ⟨wr.heap.size, 1, none⟩ = some (.int .i64 t)) := fun W hW => ⟨(new_kept hw5 hW).1 0 _ rfl, (new_kept hw5 hW).1 1 _ rfl⟩
            obtain ⟨y0, y1⟩ := N5.out w5 (Below.refl _ _)
            have V5 := hide (VK.out w5 K5.out)
            clear hw5 VK c0 c1
            go_wp2_with (go_at_call 17; refine V5.out.mono ?_; rintro e w6 ⟨rfl, hb6⟩; have K6 := hide (below_on K5.out hb6); obtain ⟨g0, g1⟩ := N5.out w6 hb6; clear hb6)
            go_roundw
            case rel => exact ⟨k + 1, by omega, by go_num, by rw [S1.out], K6⟩
            case measure => simp [intOf]; omega
          · have ke : k = xs.length := by omega
            have E1 : Hid (M.wrgS ts ((sms xs).take k) = o) := by unfold Hid; rw [ke]; exact E0.out
            clear SM VC TG HV BD HL E0 ke
            generalize M.wrgS ts ((sms xs).take k) = s at *
            go_wp2
            go_ret2
            exact ⟨by rw [E1.out]; rfl, K.out⟩
      · rw [M.wrgV_no (by rw [EF]; exact h3), EF, err_some h3]
        rw [err_some h3] at SC
        clear ht h hcl h0 e0 eL sl h2 h3 EF
        generalize (M.samF (sms xs) (xs[0].2.1.length : Int)).2 = sf at *
        generalize (M.samF (sms xs) (xs[0].2.1.length : Int)).1 = sp at *
        generalize (M.treeF ts (xs[0].2.1.length : Int)).1 = tp at *
        generalize xs[0].2.1.length = rl0 at *
        generalize xs[0].2.2.1 = rc0 at *
        generalize xs[0].1 = ra0 at *
        go_enter Try.func10, Try.ntmps10
        go_wp2_with (first
          | (go_at_call 7; refine TC.out.mono ?_; rintro e w1 ⟨rfl, hb1⟩; have k1 := hide hb1; clear hb1)
          | (go_at_call 13; refine (SC.out _ k1.out).mono ?_; rintro e w2 ⟨rfl, hb2⟩; have k2 := hide (below_on k1.out hb2); clear hb2))
        go_ret2
        exact ⟨rfl, k2.out⟩
    · have EF : M.rdyF ts (sms xs) = (M.treeF ts (xs[0].2.1.length : Int)).2 := by rw [← eL]; exact M.rdy_tree sl (by rw [eL]; exact h2)
      rw [M.wrgV_no (by rw [EF]; exact h2), EF, err_some h2]
      rw [err_some h2] at TC
      clear ht h hcl h0 e0 eL sl h2 EF SC
      generalize (M.treeF ts (xs[0].2.1.length : Int)).2 = tf at *
      generalize (M.treeF ts (xs[0].2.1.length : Int)).1 = tp at *
      generalize xs[0].2.1.length = rl0 at *
      generalize xs[0].2.2.1 = rc0 at *
      generalize xs[0].1 = ra0 at *
      go_enter Try.func10, Try.ntmps10
      go_wp2_with (go_at_call 7; refine TC.out.mono ?_; rintro e w1 ⟨rfl, hb1⟩; have k1 := hide hb1; clear hb1)
      go_ret2
      exact ⟨rfl, k1.out⟩

end Go.Proofs.Ythbeoaninipadaf
