/-
  What the reference's act answers of a version that is tried, made live or retired, and what it leaves.
-/
import Derived.Test.YtiggkjkjfnlfkaaGreatDoorRunP3
namespace Go.Proofs.YtiggkjkjfnlfkaaGreatDoor
open Go.ChangeShapes Go.WideShapes Go.ChangeAt Go.RowKit Go.Lib
set_option linter.unusedVariables false

set_option maxHeartbeats 16000000 in
set_option maxRecDepth 10000 in
theorem ract_ch {W : World} {s : Nat} {T : Nat → Nat} {S : M.Sh} {la : Option Addr} {lc : Nat} {da : Option Addr} {dc : Nat} {G : Nat → Gr} (h : RV W s T S la lc da dc G) (c : M.Ca) (a : Option Addr) (cap : Nat) (hb : isB c.name) (hw : c.what = 2 ∨ c.what = 3 ∨ c.what = 4) :
    Calls Tryz.prog 32 #[.pointer (some ⟨s, 0, none⟩), caV c a cap] W fun e w' => e = .returned (.tuple #[.int .i64 0, .int .i64 (M.chF S c).1]) ∧ RLeft W s T ⟨S.idx, (M.chF S c).2, S.done⟩ w' := by
  unfold caV
  obtain ⟨W1, hW1⟩ : ∃ X, X = W.alloc (.cells #[.int .i64 c.what, .int .i64 c.ses, .int .i64 c.seq, .string (byStr c.name), .int .i64 c.num, .int .i64 c.share, .slice a c.bys.length cap] 36) := ⟨_, rfl⟩
  have b1 : Hid (Below W.heap.size W W1) := by unfold Hid; rw [hW1]; exact (Below.refl _ _).alloc (Nat.le_refl _) _
  have bx := caCells W c a cap
  rw [← hW1] at bx
  have c0 := bx.cell 0 _ rfl
  have c3 := bx.cell 3 _ rfl
  have c4 := bx.cell 4 _ rfl
  have c5 := bx.cell 5 _ rfl
  clear bx
  have h1 := h.below b1.out
  have s1 := h1.box.cell 1 _ rfl
  have mx := own_max h1.lo
  have VE := hide (rsver_any h1 hb c.num)
  have AT := hide (fun x => rsat_any h1 hb x)
  have SAME : Hid (RLeft W s T S W1) := ⟨T, ⟨la, lc, da, dc, G, h1⟩, stay_of b1.out (Nat.le_refl _), fun q hq => .inl hq⟩
  have g1 : (c.what == 1) = false := by rw [beq_eq_false_iff_ne]; omega
  have sl : s < W.heap.size := h.tlt s (by rw [h.ts]; decide)
  have n1 : ¬ s = W.heap.size := by omega
  have n2 : ¬ W.heap.size = s := by omega
  have EC : Hid (M.chF S c = match M.verN S c.name c.num with | none => (5, S.l) | some k => M.turn S k c) := rfl
  rw [EC.out]
  clear EC
  cases hv : M.verN S c.name c.num with
  | none =>
    rw [hv] at VE
    clear hv AT h h1 hb hw s1
    simp only
    generalize byStr c.name = sn at *
    generalize c.what = x0 at *
    generalize c.num = x4 at *
    generalize c.share = x5 at *
    generalize c.ses = x1 at *
    generalize c.seq = x2 at *
    generalize c.bys.length = x6 at *
    go_enter Tryz.func32, Tryz.ntmps32
    go_upto_region 1 with fail
    rw [← hW1]
    clear hW1
    go_wp2_with (go_at_call 20; refine VE.out.mono ?_; rintro e w2 ⟨rfl, ew⟩; have ew2 := ew.symm; subst ew2; clear VE)
    go_ret2
    exact ⟨rfl, SAME.out⟩
  | some k =>
    rw [hv] at VE
    obtain ⟨_, hk, hp⟩ := M.find_more _ S.l 0 k hv
    rw [Nat.sub_zero] at hk hp
    have nm : (vAt S k).name = c.name := (of_decide_eq_true (hp M.vg0)).1
    clear hp
    have VE : Hid (Calls Tryz.prog 20 #[.pointer (some ⟨s, 0, none⟩), .string (byStr c.name), .int .i64 c.num] W1 fun e w' => e = .returned (.int .i64 (k : Int)) ∧ w' = W1) := VE
    obtain ⟨b, rfl, bl, hc⟩ := h1.item hk
    have d2 := hc 2 _ (by omega) rfl
    have d3 := hc 3 _ (by omega) rfl
    have f2 := h1.lo.frozenAt (k * 8 + 2)
    have f3 := h1.lo.frozenAt (k * 8 + 3)
    have kz : (k : Int) < (S.l.length : Int) := by omega
    have tb : T b = 2 := h.tl ⟨b, 0, none⟩ rfl
    have bw : b < W.heap.size := h.tlt b (by rw [tb]; decide)
    have n3 : ¬ s = b := fun e => by have := h.ts; rw [e, tb] at this; cases this
    have n4 : ¬ b = s := fun e => n3 e.symm
    have n5 : ¬ b = W.heap.size := by omega
    have n6 : ¬ W.heap.size = b := by omega
    have hz := h.inv.zr
    clear hc hv
    simp only
    unfold M.turn
    rcases hw with w2 | w3 | w4
    · have g2 : (c.what == 2) = true := by rw [w2]; rfl
      rw [if_pos w2]
      unfold M.tryF
      by_cases a1 : c.share < 1 ∨ 99 < c.share
      · rw [if_pos a1]
        have ways : decide (c.share < 1) = true ∨ (decide (c.share < 1) = false ∧ decide (99 < c.share) = true) := by
          by_cases z : c.share < 1
          · exact .inl (decide_eq_true z)
          · exact .inr ⟨decide_eq_false z, decide_eq_true (by omega)⟩
        clear AT h h1 hb hz a1 w2
        generalize (vAt S k).stage = st at *
        rcases ways with r1 | ⟨r1, r2⟩
        all_goals (
          generalize byStr c.name = sn at *
          generalize c.what = x0 at *
          generalize c.num = x4 at *
          generalize c.share = x5 at *
          generalize c.ses = x1 at *
          generalize c.seq = x2 at *
          generalize c.bys.length = x6 at *
          go_enter Tryz.func32, Tryz.ntmps32
          go_upto_region 1 with fail
          rw [← hW1]
          clear hW1
          go_wp2_with (go_at_call 20; refine VE.out.mono ?_; rintro e w2 ⟨rfl, ew⟩; have ew2 := ew.symm; subst ew2; clear VE)
          go_ret2
          exact ⟨rfl, SAME.out⟩)
      rw [if_neg a1]
      have r1 : decide (c.share < 1) = false := decide_eq_false (by omega)
      have r2 : decide (99 < c.share) = false := decide_eq_false (by omega)
      by_cases a2 : (vAt S k).stage ≠ 1
      · rw [if_pos a2]
        have r3 : ((vAt S k).stage == 1) = false := by rw [beq_eq_false_iff_ne]; exact a2
        clear AT h h1 hb hz a1 w2 a2
        generalize (vAt S k).stage = st at *
        generalize byStr c.name = sn at *
        generalize c.what = x0 at *
        generalize c.num = x4 at *
        generalize c.share = x5 at *
        generalize c.ses = x1 at *
        generalize c.seq = x2 at *
        generalize c.bys.length = x6 at *
        go_enter Tryz.func32, Tryz.ntmps32
        go_upto_region 1 with fail
        rw [← hW1]
        clear hW1
        go_wp2_with (go_at_call 20; refine VE.out.mono ?_; rintro e w2 ⟨rfl, ew⟩; have ew2 := ew.symm; subst ew2; clear VE)
        go_ret2
        exact ⟨rfl, SAME.out⟩
      rw [if_neg a2]
      have a2' : (vAt S k).stage = 1 := by omega
      have A2 := hide (AT.out 2)
      rw [nm]
      rw [a2'] at d2
      cases a3 : M.atN S c.name 2 with
      | some o =>
        rw [a3] at A2
        simp only [Option.isSome_some, if_true]
        clear AT h h1 hb hz a1 w2 a2 a2' a3 nm
        have A2 : Hid (Calls Tryz.prog 18 #[.pointer (some ⟨s, 0, none⟩), .string (byStr c.name), .int .i64 2] W1 fun e w' => e = .returned (.int .i64 (o : Int)) ∧ w' = W1) := A2
        have oz : (0 : Int) ≤ (o : Int) := by omega
        generalize byStr c.name = sn at *
        generalize c.what = x0 at *
        generalize c.num = x4 at *
        generalize c.share = x5 at *
        generalize c.ses = x1 at *
        generalize c.seq = x2 at *
        generalize c.bys.length = x6 at *
        go_enter Tryz.func32, Tryz.ntmps32
        go_upto_region 1 with fail
        rw [← hW1]
        clear hW1
        go_wp2_with (first
          | (go_at_call 20; refine VE.out.mono ?_; rintro e w2 ⟨rfl, ew⟩; have ew2 := ew.symm; subst ew2; clear VE)
          | (go_at_call 18; refine A2.out.mono ?_; rintro e w3 ⟨rfl, ew⟩; have ew3 := ew.symm; subst ew3; clear A2))
        go_ret2
        exact ⟨rfl, SAME.out⟩
      | none =>
        rw [a3] at A2
        simp only [Option.isSome_none, Bool.false_eq_true, if_false]
        have A2 : Hid (Calls Tryz.prog 18 #[.pointer (some ⟨s, 0, none⟩), .string (byStr c.name), .int .i64 2] W1 fun e w' => e = .returned (.int .i64 (-1)) ∧ w' = W1) := A2
        have FIN := hide (h.one b1.out (k := k) (st := 2) (sh := c.share) hk (one_new h.inv.ok.one hk (.inr rfl) (by rw [nm]; exact a3)) (by constructor <;> intro z <;> omega) (fun z => absurd rfl z))
        clear AT h h1 hb hz a1 w2 a2 a2' a3 nm SAME
        generalize byStr c.name = sn at *
        generalize c.what = x0 at *
        generalize c.num = x4 at *
        generalize c.share = x5 at *
        generalize c.ses = x1 at *
        generalize c.seq = x2 at *
        generalize c.bys.length = x6 at *
        go_enter Tryz.func32, Tryz.ntmps32
        go_upto_region 1 with fail
        rw [← hW1]
        clear hW1
        go_wp2_with (first
          | (go_at_call 20; refine VE.out.mono ?_; rintro e w2 ⟨rfl, ew⟩; have ew2 := ew.symm; subst ew2; clear VE)
          | (go_at_call 18; refine A2.out.mono ?_; rintro e w3 ⟨rfl, ew⟩; have ew3 := ew.symm; subst ew3; clear A2))
        go_region_with fail
        all_goals (
          go_wp2
          go_ret2
          refine ⟨rfl, ?_⟩
          repeat (first | exact FIN.out | refine RLeft.drew ?_))
    · have g2 : (c.what == 2) = false := by rw [w3]; rfl
      have g3 : (c.what == 3) = true := by rw [w3]; rfl
      rw [if_neg (show ¬ c.what = 2 by omega), if_pos w3]
      unfold M.proF
      by_cases a1 : (vAt S k).stage ≠ 1 ∧ (vAt S k).stage ≠ 2
      · rw [if_pos a1]
        have r3 : ((vAt S k).stage == 1) = false := by rw [beq_eq_false_iff_ne]; exact a1.1
        have r4 : ((vAt S k).stage == 2) = false := by rw [beq_eq_false_iff_ne]; exact a1.2
        have r5 : ((vAt S k).stage != 1) = true := by rw [bne, r3]; rfl
        have r6 : ((vAt S k).stage != 2) = true := by rw [bne, r4]; rfl
        have r7 : ¬ (vAt S k).stage = 1 := a1.1
        have r8 : ¬ (vAt S k).stage = 2 := a1.2
        clear AT h h1 hb hz a1 w3
        generalize (vAt S k).stage = st at *
        generalize byStr c.name = sn at *
        generalize c.what = x0 at *
        generalize c.num = x4 at *
        generalize c.share = x5 at *
        generalize c.ses = x1 at *
        generalize c.seq = x2 at *
        generalize c.bys.length = x6 at *
        go_enter Tryz.func32, Tryz.ntmps32
        go_upto_region 1 with fail
        rw [← hW1]
        clear hW1
        go_wp2_with (go_at_call 20; refine VE.out.mono ?_; rintro e w2 ⟨rfl, ew⟩; have ew2 := ew.symm; subst ew2; clear VE)
        go_ret2
        exact ⟨rfl, SAME.out⟩
      rw [if_neg a1, nm]
      have a2 : (vAt S k).stage = 1 ∨ (vAt S k).stage = 2 := by omega
      have A2 := hide (AT.out 3)
      cases a3 : M.atN S c.name 3 with
      | none =>
        rw [a3] at A2
        have A2 : Hid (Calls Tryz.prog 18 #[.pointer (some ⟨s, 0, none⟩), .string (byStr c.name), .int .i64 3] W1 fun e w' => e = .returned (.int .i64 (-1)) ∧ w' = W1) := A2
        have FIN := hide (h.one b1.out (k := k) (st := 3) (sh := 0) hk (one_new h.inv.ok.one hk (.inl rfl) (by rw [nm]; exact a3)) (by constructor <;> intro z <;> omega) (fun z => rfl))
        clear AT h h1 hb hz a1 w3 a3 nm SAME
        rcases a2 with a2 | a2
        all_goals (
          rw [a2] at d2
          clear a2
          generalize byStr c.name = sn at *
          generalize c.what = x0 at *
          generalize c.num = x4 at *
          generalize c.share = x5 at *
          generalize c.ses = x1 at *
          generalize c.seq = x2 at *
          generalize c.bys.length = x6 at *
          go_enter Tryz.func32, Tryz.ntmps32
          go_upto_region 1 with fail
          rw [← hW1]
          clear hW1
          go_wp2_with (first
            | (go_at_call 20; refine VE.out.mono ?_; rintro e w2 ⟨rfl, ew⟩; have ew2 := ew.symm; subst ew2; clear VE)
            | (go_at_call 18; refine A2.out.mono ?_; rintro e w3 ⟨rfl, ew⟩; have ew3 := ew.symm; subst ew3; clear A2))
          first
            | (go_ret2; exact ⟨rfl, FIN.out⟩)
            | (go_region_with fail
               all_goals (
                go_wp2
                go_ret2
                refine ⟨rfl, ?_⟩
                repeat (first | exact FIN.out | refine RLeft.drew ?_))))
      | some o =>
        rw [a3] at A2
        obtain ⟨o1, o2, o3⟩ := M.at_is a3
        have A2 : Hid (Calls Tryz.prog 18 #[.pointer (some ⟨s, 0, none⟩), .string (byStr c.name), .int .i64 3] W1 fun e w' => e = .returned (.int .i64 (o : Int)) ∧ w' = W1) := A2
        have ok : o ≠ k := fun e => by
          subst e
          have o3' : (vAt S o).stage = 3 := o3
          omega
        have h4 : M.oneL (M.setV S.l o 4 0) := one_four h.inv.ok.one o1
        have h3 : M.oneL (M.setV (M.setV S.l o 4 0) k 3 0) := by
          have i1 := h.inv.set (st := 4) (sh := 0) o1 h4 (by constructor <;> intro z <;> omega) (fun _ => rfl)
          have hk1 : k < (M.setV S.l o 4 0).length := by rw [M.len_setV]; exact hk
          have vk : vAt ⟨S.idx, M.setV S.l o 4 0, S.done⟩ k = vAt S k := by
            show ((M.setV S.l o 4 0).getD k M.vg0).1 = (S.l.getD k M.vg0).1
            rw [M.getD_setV S.l o 4 0 hk, if_neg ok]
          refine one_new (S := ⟨S.idx, M.setV S.l o 4 0, S.done⟩) i1.ok.one hk1 (.inl rfl) ?_
          have on : (vAt S o).name = c.name := o2
          rw [vk, nm, ← on, at_set_mv h.inv.ok.one o1 h4 (.inl rfl), on, a3]
          unfold mvC
          rw [if_neg (show ¬ ((4 : Int) = 3) by decide), if_pos rfl]
        have FIN := hide (h.two b1.out (k := k) (o := o) hk o1 (by rw [o3]; decide) h3 h4)
        have e2 := (h1.lo).frozenAt (o * 8 + 2)
        obtain ⟨b', eb, _, hc⟩ := h1.item o1
        cases eb
        have d6 := hc 2 _ (by omega) rfl
        have oz : (o : Int) < (S.l.length : Int) := by omega
        have q1 : ¬ o * 8 + 2 = k * 8 + 2 := by omega
        have q2 : ¬ k * 8 + 2 = o * 8 + 2 := by omega
        have q3 : ¬ o * 8 + 2 = k * 8 + 3 := by omega
        have q4 : ¬ k * 8 + 3 = o * 8 + 2 := by omega
        clear hc AT h h1 hb hz a1 w3 a3 nm SAME o1 o2 h3 h4 ok
        rw [o3] at d6
        clear o3
        rcases a2 with a2 | a2
        all_goals (
          rw [a2] at d2
          clear a2
          generalize byStr c.name = sn at *
          generalize c.what = x0 at *
          generalize c.num = x4 at *
          generalize c.share = x5 at *
          generalize c.ses = x1 at *
          generalize c.seq = x2 at *
          generalize c.bys.length = x6 at *
          go_enter Tryz.func32, Tryz.ntmps32
          go_upto_region 1 with fail
          rw [← hW1]
          clear hW1
          go_wp2_with (first
            | (go_at_call 20; refine VE.out.mono ?_; rintro e w2 ⟨rfl, ew⟩; have ew2 := ew.symm; subst ew2; clear VE)
            | (go_at_call 18; refine A2.out.mono ?_; rintro e w3 ⟨rfl, ew⟩; have ew3 := ew.symm; subst ew3; clear A2))
          go_ret2
          exact ⟨rfl, FIN.out⟩)
    · have g2 : (c.what == 2) = false := by rw [w4]; rfl
      have g3 : (c.what == 3) = false := by rw [w4]; rfl
      have g4 : (c.what == 4) = true := by rw [w4]; rfl
      rw [if_neg (show ¬ c.what = 2 by omega), if_neg (show ¬ c.what = 3 by omega)]
      unfold M.retF
      by_cases a1 : (vAt S k).stage = 4
      · rw [if_pos a1]
        rw [a1] at d2
        clear AT h h1 hb hz a1 w4
        generalize byStr c.name = sn at *
        generalize c.what = x0 at *
        generalize c.num = x4 at *
        generalize c.share = x5 at *
        generalize c.ses = x1 at *
        generalize c.seq = x2 at *
        generalize c.bys.length = x6 at *
        go_enter Tryz.func32, Tryz.ntmps32
        go_upto_region 1 with fail
        rw [← hW1]
        clear hW1
        go_wp2_with (go_at_call 20; refine VE.out.mono ?_; rintro e w2 ⟨rfl, ew⟩; have ew2 := ew.symm; subst ew2; clear VE)
        go_ret2
        exact ⟨rfl, SAME.out⟩
      · rw [if_neg a1]
        have r3 : ((vAt S k).stage == 4) = false := by rw [beq_eq_false_iff_ne]; exact a1
        have FIN := hide (h.one b1.out (k := k) (st := 4) (sh := 0) hk (one_four h.inv.ok.one hk) (by constructor <;> intro z <;> omega) (fun z => rfl))
        clear AT h h1 hb hz a1 w4 SAME
        generalize (vAt S k).stage = st at *
        generalize byStr c.name = sn at *
        generalize c.what = x0 at *
        generalize c.num = x4 at *
        generalize c.share = x5 at *
        generalize c.ses = x1 at *
        generalize c.seq = x2 at *
        generalize c.bys.length = x6 at *
        go_enter Tryz.func32, Tryz.ntmps32
        go_upto_region 1 with fail
        rw [← hW1]
        clear hW1
        go_wp2_with (go_at_call 20; refine VE.out.mono ?_; rintro e w2 ⟨rfl, ew⟩; have ew2 := ew.symm; subst ew2; clear VE)
        go_ret2
        exact ⟨rfl, FIN.out⟩

end Go.Proofs.YtiggkjkjfnlfkaaGreatDoor
