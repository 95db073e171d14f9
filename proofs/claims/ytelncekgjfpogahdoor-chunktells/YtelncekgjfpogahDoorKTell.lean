/-
  ChunkTells' own walk: what package chunk answers is what the reference says, of all bytes, sizes, parts, orders and pieces.
-/
import Derived.Test.YtelncekgjfpogahDoorKTw
import Derived.Test.YtelncekgjfpogahDoorFetNew
import Derived.Test.YtelncekgjfpogahDoorFetPut
import Derived.Test.YtelncekgjfpogahDoorChPlan
import Derived.Test.YtelncekgjfpogahDoorRefKp
import Derived.Test.YtelncekgjfpogahDoorRefKc
import Derived.Test.YtelncekgjfpogahDoorPtSame
import Derived.Test.YtelncekgjfpogahDoorInts
import Derived.Test.YtelncekgjfpogahDoorByStr
import Derived.Deep.Cut
import Derived.Deep.CutRange
namespace Go.Proofs.YtelncekgjfpogahDoor
open Go.ChangeShapes Go.WideShapes Go.ChangeAt Go.RowKit Go.Lib
set_option linter.unusedVariables false

theorem infoY : (Tryd.prog.info? 26).map (fun i => (i.zero, i.size, i.bytes)) = some (some (.slice none 0 0), 1, 24) := by kernel_rfl
theorem rdB_none (W : World) : RdB W none [] := ⟨Nat.zero_le _, (fun x hx => by cases hx), fun hn => absurd rfl hn⟩
theorem put_out {l : List M.Pt} {h : M.Has} {k : Int} {b : List Nat} (q : k < 0 ∨ (l.length : Int) ≤ k) : M.putF l k b = 1 ∧ M.putN l h k b = false ∧ M.putH l h k b = h := by
  have e1 : M.putF l k b = 1 := by unfold M.putF; rw [if_pos q]
  have e2 : M.putN l h k b = false := by unfold M.putN; rw [e1]; rfl
  exact ⟨e1, e2, by unfold M.putH; rw [e2]; rfl⟩
theorem put_not {l : List M.Pt} {h : M.Has} {n : Nat} {b : List Nat} (q : n < l.length) (p : M.ptIs l n b = false) : M.putF l (n : Int) b = 3 ∧ M.putN l h (n : Int) b = false ∧ M.putH l h (n : Int) b = h := by
  have e1 : M.putF l (n : Int) b = 3 := by unfold M.putF; rw [if_neg (by omega), Int.toNat_natCast, p]; rfl
  have e2 : M.putN l h (n : Int) b = false := by unfold M.putN; rw [e1]; rfl
  exact ⟨e1, e2, by unfold M.putH; rw [e2]; rfl⟩
theorem put_is {l : List M.Pt} {h : M.Has} {n : Nat} {b : List Nat} (q : n < l.length) (p : M.ptIs l n b = true) : M.putF l (n : Int) b = 0 ∧ M.putN l h (n : Int) b = (h.getD n none).isNone ∧ M.putH l h (n : Int) b = if (h.getD n none).isNone then h.set n (some b) else h := by
  have e1 : M.putF l (n : Int) b = 0 := by unfold M.putF; rw [if_neg (by omega), Int.toNat_natCast, p]; rfl
  have e2 : M.putN l h (n : Int) b = (h.getD n none).isNone := by unfold M.putN; rw [e1, Int.toNat_natCast]; rfl
  exact ⟨e1, e2, by unfold M.putH; rw [e2, Int.toNat_natCast]⟩

set_option maxHeartbeats 16000000 in
set_option maxRecDepth 10000 in
theorem ktell_walk (a : Option Addr) (bs : List Nat) (ca : Nat) (size : Int) (la : Option Addr) (l : List M.Pt) (lc : Nat) (oa : Option Addr) (ol : List Int) (oc : Nat) (pa : Option Addr) (ps : List Bc) (pc : Nat) (w : World)
    (hER : ∀ e W, Below w.heap.size w W → Calls Tryd.prog 11 #[errV e, .int .i64 e] W fun r w' => r = .returned (.bool true) ∧ Below W.heap.size W w')
    (hb : RdB w a bs) (hl : bs.length ≤ ca) (hca : ca ≤ 9223372036854775807) (hp : RdP w la l) (ho : Rd w oa ol) (hoi : ∀ x ∈ ol, -9223372036854775808 ≤ x ∧ x ≤ 9223372036854775807) (hy : RdY w pa ps) (s1 : -9223372036854775808 ≤ size) (s2 : size ≤ 9223372036854775807) :
    Calls Tryd.prog 5 #[.slice a bs.length ca, .int .i64 size, .slice la l.length lc, .slice oa ol.length oc, .slice pa ps.length pc] w fun e w' => e = .returned (.bool true) ∧ Below w.heap.size w w' := by
  have S1 := hide (chsum_same a bs ca w hb)
  have S2 := hide (rsum_any a bs ca w hb)
  have P1 := hide (rplan_any a bs ca size w hb hl hca s1 s2)
  have P2 := hide (fun W hW => chplan_any a bs ca size W (hb.below hW) hl hca s1 s2)
  have Q1 := hide (fun W hW => rparts_any la l lc W (hp.below hW))
  have Q2 := hide (fun W hW => chcheck_any la l lc W (hp.below hW))
  have HER := hide hER
  have sl := M.sum_lt bs
  have hm : bs.length ≤ 9223372036854775807 := hb.1
  have lm : l.length ≤ 9223372036854775807 := hp.1
  have om : ol.length ≤ 9223372036854775807 := ho.1
  have pm : ps.length ≤ 9223372036854775807 := hy.1
  have VL : (M.planV bs size).length ≤ 100 := by
    unfold M.planV
    split
    · rename_i q
      unfold M.planF at q
      split at q
      · cases q
      · split at q
        · cases q
        · split at q
          · cases q
          · omega
    · simp
  clear hb hER
  generalize M.sumF bs = sm at *
  generalize M.planF bs size = pF at *
  generalize M.planV bs size = pV at *
  obtain ⟨lF, hlF⟩ : ∃ n, n = M.partsF l := ⟨_, rfl⟩
  have LF := hide hlF
  rw [← hlF] at Q1 Q2
  clear hlF
  have ER0 := hide (fun W (hW : Below w.heap.size w W) => HER.out lF W hW)
  have ERp := hide (fun W (hW : Below w.heap.size w W) => HER.out pF W hW)
  obtain ⟨v0, hv0⟩ : ∃ v, v = errV lF := ⟨_, rfl⟩
  obtain ⟨vp, hvp⟩ : ∃ v, v = errV pF := ⟨_, rfl⟩
  rw [← hv0] at Q2 ER0
  rw [← hvp] at P2 ERp
  have V0 := hide hv0
  have HP := hide hp
  have HO := hide ho
  have HOI := hide hoi
  have HY := hide hy
  clear hv0 hvp hp ho hy hoi
  go_enter Tryd.func5, Tryd.ntmps5
  go_upto_region 5 with (first
    | (go_at_call 17; refine S1.out.mono ?_; rintro e w1 ⟨rfl, ew⟩; have ew2 := ew.symm; subst ew2)
    | (go_at_call 18; refine S2.out.mono ?_; rintro e w1 ⟨rfl, ew⟩; have ew2 := ew.symm; subst ew2)
    | (go_at_call 19; refine P1.out.mono ?_; rintro e w1 ⟨v1, rfl, o1, b1⟩; have O1 := hide o1; have K1 := hide b1; clear o1 b1)
    | (go_at_call 12; refine (P2.out _ K1.out).mono ?_; rintro e w2 ⟨v2, rfl, o2, b2⟩; have O2 := hide o2; have K2 := hide (below_on K1.out b2); have OW := hide (own_up O1.out b2); clear o2 b2))
  obtain ⟨wa, wc, e1, rw1, _⟩ := own_rdP rfl (by unfold maxLen; omega) OW.out
  obtain ⟨ga, gc, e2, rg2, _⟩ := own_rdP rfl (by unfold maxLen; omega) O2.out
  subst e1
  subst e2
  have RW := hide rw1
  have RG := hide rg2
  clear rw1 rg2 OW O1 O2 S1 S2 P1 P2 K1
  go_upto_region 8 with (first
    | (go_at_call 21; refine (Q1.out _ K4.out).mono ?_; rintro e w5 ⟨rfl, ew⟩; have ew2 := ew.symm; subst ew2)
    | (go_at_call 20; refine (partsame_any _ _ _ _ _ _ (RG.out.below B3.out) (RW.out.below B3.out)).mono ?_; rintro e w4 ⟨rfl, b4⟩; have K4 := hide (below_on K3.out b4); clear b4)
    | (go_at_call 11; refine (ERp.out _ K2.out).mono ?_; rintro e w3 ⟨rfl, b3⟩; have K3 := hide (below_on K2.out b3); have B3 := hide b3; clear b3))
  clear RW RG B3 K3 K2 ERp Q1
  go_upto_region 9 with (first
    | (go_at_call 11; refine (ER0.out _ K5.out).mono ?_; rintro e w6 ⟨rfl, b6⟩; have K6 := hide (below_on K5.out b6); clear b6)
    | (go_at_call 22; refine (Q2.out _ K4.out).mono ?_; rintro e w5 ⟨rfl, b5⟩; have K5 := hide (below_on K4.out b5); clear b5))
  clear K4 K5 Q2
  by_cases pf : lF = 0
  case neg =>
    have N1 := hide (fun W hW => fet_bad la l lc W (HP.out.below hW) (by rw [← LF.out]; exact pf))
    rw [← LF.out, ← V0.out] at N1
    have fz : (lF == 0) = false := by simpa using pf
    clear pf HP HO HOI HY LF V0 HER
    go_wp2_with (first
      | (go_at_call 11; refine (ER0.out _ K7.out).mono ?_; rintro e w8 ⟨rfl, b8⟩; have K8 := hide (below_on K7.out b8); clear b8)
      | (go_at_call 13; refine (N1.out _ K6.out).mono ?_; rintro e w7 ⟨v7, rfl, b7⟩; have K7 := hide (below_on K6.out b7); clear b7))
    go_ret
    exact ⟨rfl, K8.out⟩
  subst pf
  have L0 : Hid (M.partsF l = 0) := LF.out.symm
  have l100 := M.parts_le L0.out
  have z0 : errV 0 = .nilIface := if_pos rfl
  have v00 : v0 = .nilIface := by rw [V0.out, z0]
  subst v00
  have N1 := hide (fet_new la l lc w6 (HP.out.below K6.out) L0.out)
  have mk := fun W => run_make_row' (P := Tryd.prog) 53 26 (.slice none 0 0) 24 Tryd.underlying53 infoY (by simp [Value.cells]) .i64 .i64 l.length (by omega) (by omega) W
  clear z0 LF V0
  go_upto_region 16 with (first
    | (go_at_call 11; refine (ER0.out _ K7.out).mono ?_; rintro e w8 ⟨rfl, b8⟩; have K8 := hide (below_on K7.out b8); have B8 := hide b8; clear b8)
    | (go_at_call 13; refine N1.out.mono ?_; rintro e w7 ⟨f, K, rfl, fa, kk, b7⟩; have FA7 := hide fa; have KK := hide kk; have B7 := hide b7; have K7 := hide (below_on K6.out b7); clear b7 fa kk))
  clear mk N1
  have TW0 : Hid (TW w w6 f K w8.heap.size l (hvL (List.replicate l.length none3)) (List.replicate l.length none3) (w8.alloc (.cells (madeCells #[Value.slice none 0 0] l.length) 26))) := by
    have bz := B7.out.size
    have bz8 := B8.out.size
    have al : Below w8.heap.size w8 (w8.alloc (.cells (madeCells #[Value.slice none 0 0] l.length) 26)) := (Below.refl _ w8).alloc (Nat.le_refl _) _
    have al7 : Below w7.heap.size w7 (w8.alloc (.cells (madeCells #[Value.slice none 0 0] l.length) 26)) := below_on B8.out al
    refine ⟨?_, fun q hq => ⟨KK.out q hq, fun e => ?_⟩, below_on K8.out al, ?_, by simp; omega, K6.out.size, ⟨by omega, by simp⟩⟩
    · rw [← hvL_zero]
      exact fa_up FA7.out (fun q hq => al7.block q (fa_lt FA7.out q hq)) al7.size
    · have := fa_lt FA7.out q hq
      omega
    · have := made_rows w8 l.length w6.heap.size (by omega) (by omega)
      rw [List.length_replicate]
      exact this
  obtain ⟨w9, hw9⟩ : ∃ X, X = w8.alloc (.cells (madeCells #[Value.slice none 0 0] l.length) 26) := ⟨_, rfl⟩
  rw [← hw9] at TW0 ⊢
  obtain ⟨hb, hhb⟩ : ∃ sb, sb = w8.heap.size := ⟨_, rfl⟩
  rw [← hhb] at TW0
  have HHB := hide hhb
  clear hw9 hhb
  rw [show w8.heap.size = hb from HHB.out.symm]
  clear HHB FA7 KK B7 B8 K7 K8
  go_wp2
  go_loopw [21] (fun i wr => ∃ (t : Nat) (K : Nat → Prop) (HV : List Bc), t ≤ 40 ∧ i = .int .i64 t ∧ Hid (HV.length = l.length) ∧ Hid (HvOk w HV) ∧ Hid (TW w w6 f K hb l (hvL HV) HV wr)) (fun i _ => 40 - (intOf i).toNat)
  case atStart => exact ⟨0, K, List.replicate l.length none3, Nat.zero_le _, rfl, (by unfold Hid; rw [List.length_replicate]), hvok_zero w _, TW0⟩
  case round =>
    clear TW0
    obtain ⟨t, Kt, HV, t40, rfl, HL, OK, TT⟩ := hrel
    by_cases go : t < ol.length ∧ t < ps.length ∧ t < 40
    case neg =>
      have ways : (decide ((t : Int) < (ol.length : Int)) = false ∧ decide (t < ol.length) = false) ∨ ((decide ((t : Int) < (ol.length : Int)) = true ∧ decide (t < ol.length) = true) ∧ decide ((t : Int) < (ps.length : Int)) = false ∧ decide (t < ps.length) = false) ∨ ((decide ((t : Int) < (ol.length : Int)) = true ∧ decide (t < ol.length) = true) ∧ (decide ((t : Int) < (ps.length : Int)) = true ∧ decide (t < ps.length) = true) ∧ decide ((t : Int) < 40) = false ∧ decide (t < 40) = false) := by
        simp only [decide_eq_true_iff, decide_eq_false_iff_not]
        omega
      have KB := hide TT.out.bel
      clear go HO HOI HY HP ER0 HER TT OK HL
      rcases ways with ⟨g1, g1'⟩ | ⟨⟨g1, g1'⟩, g2, g2'⟩ | ⟨⟨g1, g1'⟩, ⟨g2, g2'⟩, g3, g3'⟩
      all_goals (
        go_wp2
        go_ret
        exact ⟨rfl, KB.out⟩)
    obtain ⟨go1, go2, go3⟩ := go
    have g1 : decide ((t : Int) < (ol.length : Int)) = true := decide_eq_true (by omega)
    have g2 : decide ((t : Int) < (ps.length : Int)) = true := decide_eq_true (by omega)
    have g3 : decide ((t : Int) < 40) = true := decide_eq_true (by omega)
    obtain ⟨ob, oo, eo, obl, occ⟩ := (HO.out.below TT.out.bel).2 (by intro e; rw [e] at go1; simp at go1)
    have o0 := occ t go1
    have ki := HOI.out (ol.getD t 0) (by rw [show ol.getD t 0 = ol[t] by simp [List.getD, go1]]; exact List.getElem_mem go1)
    obtain ⟨yb, yo, ey, ybl, ycc⟩ := HY.out.2.2 (by intro e; rw [e] at go2; simp at go2)
    have YC0 := hide (fun W (hW : Below w.heap.size w W) => (hW.cell (p := ⟨yb, yo + t, none⟩) ybl).trans (ycc t go2))
    have y0 := YC0.out wr TT.out.bel
    have yk := HY.out.2.1 ps[t] (List.getElem_mem go2)
    obtain ⟨⟨cA, cB, cC⟩, hc⟩ : ∃ c, c = ps[t] := ⟨_, rfl⟩
    rw [← hc] at y0 yk YC0
    have YK : Hid (RdB w cA cB ∧ cB.length ≤ cC ∧ cC ≤ 9223372036854775807 ∧ (cA = none → cC = 0)) := yk
    have cm : cB.length ≤ 9223372036854775807 := yk.1.1
    unfold bV at y0
    simp only at y0
    have YC : Hid (∀ W, Below w.heap.size w W → W.cell? ⟨yb, yo + t, none⟩ = some (.slice cA cB.length cC)) := YC0.out
    clear YC0
    clear hc yk ycc occ
    subst eo
    subst ey
    generalize ol.getD t 0 = k at *
    have tz1 : (t : Int) < (ol.length : Int) := by omega
    have tz2 : (t : Int) < (ps.length : Int) := by omega
    have g1' : decide (t < ol.length) = true := decide_eq_true go1
    have g2' : decide (t < ps.length) = true := decide_eq_true go2
    have g3' : decide (t < 40) = true := decide_eq_true go3
    go_upto_region 22 with fail
    go_cut [115] from 108 to 115 (fun v wx => ∃ q : Bool, v = .bool q ∧ Hid (q = decide (k < 0 ∨ (l.length : Int) ≤ k)) ∧ wx = wr)
    case first =>
      by_cases h0 : k < 0
      · have t1 : decide (k < 0) = true := decide_eq_true h0
        have E : Hid (true = decide (k < 0 ∨ (l.length : Int) ≤ k)) := (decide_eq_true (.inl h0)).symm
        clear h0
        go_wp2
        go_meet
        case rel => exact ⟨true, rfl, E, rfl⟩
      · have t1 : decide (k < 0) = false := decide_eq_false h0
        have E : Hid (decide ((l.length : Int) ≤ k) = decide (k < 0 ∨ (l.length : Int) ≤ k)) := by unfold Hid; simp [h0]
        clear h0
        go_wp2
        go_meet
        case rel => exact ⟨_, rfl, E, rfl⟩
    case rest =>
      obtain ⟨q, rfl, EQ, ew⟩ := hcut
      have ew2 := ew.symm
      subst ew2
      go_upto_if 115 with fail
      have SR : Hid (∀ n, Calls Tryd.prog 18 #[.slice cA cB.length cC] (wr.drewN n) fun e w' => e = .returned (.int .i64 (M.sumF cB : Nat)) ∧ w' = wr.drewN n) := fun n => rsum_any cA cB cC _ (YK.out.1.below (below_drew TT.out.bel n TT.out.bel.size))
      go_cut [12, 23] from 116 to 152 (fun v b wx => ∃ HV', v = .int .i64 (M.putF l k cB) ∧ b = .bool (M.putN l (hvL HV) k cB) ∧ Hid (HV'.length = l.length) ∧ Hid (HvOk w HV') ∧ Hid (M.putH l (hvL HV) k cB = hvL HV') ∧ Hid (TW w w6 f Kt hb l (hvL HV) HV' wx))
      case first =>
        by_cases out : k < 0 ∨ (l.length : Int) ≤ k
        · obtain ⟨e1, e2, e3⟩ := put_out (h := hvL HV) (b := cB) out
          have E1 := hide e1
          have E2 := hide e2
          have E3 := hide e3
          have eq : q = true := by rw [EQ.out]; exact decide_eq_true out
          subst eq
          clear e1 e2 e3 out EQ
          go_wp2
          go_meet
          case rel => exact ⟨HV, by rw [E1.out], by rw [E2.out], HL, OK, E3, TT⟩
        have eq : q = false := by rw [EQ.out]; exact decide_eq_false out
        subst eq
        obtain ⟨n, rfl⟩ : ∃ n : Nat, k = (n : Int) := ⟨k.toNat, by omega⟩
        have nl : n < l.length := by omega
        have nz : (n : Int) < (l.length : Int) := by omega
        obtain ⟨lb, lo, ela, lbl, lcc⟩ := (HP.out.below TT.out.bel).2 (by intro e; rw [e] at nl; simp at nl)
        obtain ⟨d0, d1⟩ := lcc n nl
        have PT : Hid (M.ptIs l n cB = decide ((cB.length : Int) = (l.getD n (0, 0)).1 ∧ (M.sumF cB : Int) = (l.getD n (0, 0)).2)) := rfl
        have P6 := (M.parts_one L0.out nl)
        have hc := TT.out.cell (i := n) (by rw [HL.out]; exact nl)
        unfold bV at hc
        have csm := M.sum_lt cB
        subst ela
        have h1l : (HV.getD n none3).2.1.length ≤ 9223372036854775807 := by have := OK.out.len n (by rw [HL.out]; exact nl); omega
        have DQ : Hid (∀ nq, TW w w6 f Kt hb l (hvL HV) HV (wr.drewN nq)) := fun nq => TT.out.up (below_drew (Below.refl _ _) nq (Nat.le_refl _))
        have hlz : ((n : Int) < (HV.length : Int)) := by rw [HL.out]; exact nz
        have q22 : ∀ (w : World) (a : Option Addr) (n c n' c' : Nat), (binOp .eql 26 (.slice a n c) (.slice none n' c')).run Tryd.prog w = .ok (.bool a.isNone) w := fun w a n c n' c' => Lib.run_eql_slice_nil w _ _ a n c n' c' Tryd.underlying26
        clear lcc out EQ
        by_cases x1 : (cB.length : Int) = (l.getD n (0, 0)).1
        case neg =>
          obtain ⟨e1, e2, e3⟩ := put_not (h := hvL HV) (b := cB) nl (by rw [PT.out]; exact decide_eq_false (fun h => x1 h.1))
          have E1 := hide e1
          have E2 := hide e2
          have E3 := hide e3
          have t1 : ((cB.length : Int) != (l.getD n (0, 0)).1) = true := by simpa using x1
          clear e1 e2 e3 PT x1 SR hc h1l P6 hlz
          generalize (l.getD n (0, 0)).1 = x at *
          generalize (l.getD n (0, 0)).2 = y at *
          go_upto_region 24 with fail
          go_quiet (fail)
          go_wp2
          go_meet
          case rel => exact ⟨HV, by rw [E1.out], by rw [E2.out], HL, OK, E3, DQ.out _⟩
        have t1 : ((cB.length : Int) != (l.getD n (0, 0)).1) = false := by simpa using x1
        have X1 := hide x1
        by_cases x2 : (M.sumF cB : Int) = (l.getD n (0, 0)).2
        case neg =>
          obtain ⟨e1, e2, e3⟩ := put_not (h := hvL HV) (b := cB) nl (by rw [PT.out]; exact decide_eq_false (fun h => x2 h.2))
          have E1 := hide e1
          have E2 := hide e2
          have E3 := hide e3
          have t2 : ((M.sumF cB : Int) != (l.getD n (0, 0)).2) = true := by simpa using x2
          clear e1 e2 e3 PT x1 x2 hc h1l P6 hlz X1
          generalize (l.getD n (0, 0)).1 = x at *
          generalize (l.getD n (0, 0)).2 = y at *
          generalize M.sumF cB = sB at *
          go_upto_region 24 with fail
          go_quiet ((go_at_call 18; exact Calls.quiet_of_same (SR.out _)))
          go_wp2
          go_meet
          case rel => exact ⟨HV, by rw [E1.out], by rw [E2.out], HL, OK, E3, DQ.out _⟩
        have t2 : ((M.sumF cB : Int) != (l.getD n (0, 0)).2) = false := by simpa using x2
        obtain ⟨e1, e2, e3⟩ := put_is (h := hvL HV) (b := cB) nl (by rw [PT.out]; exact decide_eq_true ⟨x1, x2⟩)
        have EH := hide (hvL_at (HV := HV) (i := n) (by rw [HL.out]; exact nl))
        rw [EH.out] at e2 e3
        have c6 : cB.length ≤ 6000 := by have := P6.2; omega
        have c0 : 0 < cB.length := by have := P6.1; omega
        have cs : ∃ p, cA = some p := by
          obtain ⟨b', off', e, _⟩ := YK.out.1.2.2 (by intro e; rw [e] at c0; simp at c0)
          exact ⟨_, e⟩
        have CS := hide cs
        have C6 := hide c6
        have E1 := hide e1
        clear PT x1 x2 P6 c0 c6 cs e1 X1
        generalize (l.getD n (0, 0)).1 = x at *
        generalize (l.getD n (0, 0)).2 = y at *
        generalize M.sumF cB = sB at *
        cases hq : (HV.getD n none3).1 with
        | some p0 =>
          have hb1 : (hasB (HV.getD n none3)).isNone = false := by unfold hasB; rw [hq]; rfl
          rw [hb1] at e2 e3
          rw [if_neg (by simp)] at e3
          rw [hq] at hc
          have E2 := hide e2
          have E3 := hide e3
          clear e2 e3 hb1 hq EH
          generalize (HV.getD n none3).2.1.length = h1n at *
          generalize (HV.getD n none3).2.2 = h1c at *
          go_upto_region 24 with fail
          go_quiet ((go_at_call 18; exact Calls.quiet_of_same (SR.out _)))
          go_wp2
          go_meet
          case rel => exact ⟨HV, by rw [E1.out], by rw [E2.out], HL, OK, E3, DQ.out _⟩
        | none =>
          have hb1 : (hasB (HV.getD n none3)).isNone = true := by unfold hasB; rw [hq]; rfl
          rw [hb1] at e2 e3
          rw [if_pos rfl] at e3
          rw [hq] at hc
          have eS : M.putH l (hvL HV) (n : Int) cB = hvL (HV.set n (cA, cB, cC)) := by
            obtain ⟨p, ep⟩ := CS.out
            rw [e3, ← hvL_set]
            unfold hasB
            rw [ep]
            rfl
          have E2 := hide e2
          have E3 := hide eS
          have fz : ∀ nq, (wr.drewN nq).frozen? ⟨hb, n, none⟩ = false := fun nq => (DQ.out nq).sn.frozenAt n
          have hcq : ∀ nq, (wr.drewN nq).cell? ⟨hb, n, none⟩ = some (.slice none (HV.getD n none3).2.1.length (HV.getD n none3).2.2) := fun nq => hc
          have OK2 : Hid (HvOk w (HV.set n (cA, cB, cC))) := hvok_set OK.out YK.out.1 (fun e => by obtain ⟨p, ep⟩ := CS.out; rw [ep] at e; cases e) C6.out
          have HL2 : Hid ((HV.set n (cA, cB, cC)).length = l.length) := by unfold Hid; rw [List.length_set]; exact HL.out
          have TS : Hid (∀ nq, TW w w6 f Kt hb l (hvL HV) (HV.set n (cA, cB, cC)) ((wr.drewN nq).setCell ⟨hb, n, none⟩ (.slice cA cB.length cC))) := fun nq => (DQ.out nq).set n (cA, cB, cC)
          clear e2 e3 eS hb1 hq EH CS C6
          generalize (HV.getD n none3).2.1.length = h1n at *
          generalize (HV.getD n none3).2.2 = h1c at *
          go_upto_region 24 with fail
          go_quiet ((go_at_call 18; exact Calls.quiet_of_same (SR.out _)))
          go_wp2
          go_meet
          case rel => exact ⟨_, by rw [E1.out], by rw [E2.out], HL2, OK2, E3, TS.out _⟩
      case rest =>
        obtain ⟨HV', rfl, rfl, HL2, OK2, E3, T2⟩ := hcut
        clear EQ SR TT OK HL y0 o0
        have y0 := YC.out wc T2.out.bel
        have CP := hide (fet_put k cA cB cC T2.out.fa (YK.out.1.below T2.out.bel) YK.out.2.1 YK.out.2.2.1 YK.out.2.2.2 ki.1 ki.2)
        rw [E3.out] at CP
        have ERa := hide (fun W (hW : Below w.heap.size w W) => HER.out (M.putF l k cB) W hW)
        obtain ⟨ve, hve⟩ : ∃ v, v = errV (M.putF l k cB) := ⟨_, rfl⟩
        rw [← hve] at CP ERa
        clear hve E3
        generalize M.putF l k cB = eF at *
        generalize M.putN l (hvL HV) k cB = pN at *
        have pn : (pN != pN) = false := by cases pN <;> rfl
        have wcz := T2.out.bel.size
        go_upto_region 33 with (first
          | (go_at_call 11; refine (ERa.out _ T9.out.bel).mono ?_; rintro e w10 ⟨rfl, b10⟩; have T10 := hide (T9.out.up b10); clear b10)
          | (go_at_call 14; refine CP.out.mono ?_; rintro e w9 ⟨K9, rfl, fa9, st9, hk9⟩; have T9 := hide (T2.out.put fa9 st9 hk9); clear fa9 st9 hk9))
        clear T2 T9 CP ERa y0 pn YC YK HO HOI HY HP
        have q22 : ∀ (w : World) (a : Option Addr) (n c n' c' : Nat), (binOp .eql 26 (.slice a n c) (.slice none n' c')).run Tryd.prog w = .ok (.bool a.isNone) w := fun w a n c n' c' => Lib.run_eql_slice_nil w _ _ a n c n' c' Tryd.underlying26
        obtain ⟨i0, hi0, hz0, hz1, hz2⟩ := info_parts info3
        have J0 := hide hi0
        have HLN : Hid ((hvL HV').length = l.length) := by unfold Hid; rw [hvL_len, HL2.out]
        clear hi0
        go_wp2
        go_loopw [27, 28, 29] (fun v u j wr2 => ∃ (m n1 n2 : Nat) (va : Option Addr) (vc : Nat) (ua : Option Addr) (uc : Nat), m ≤ l.length ∧ j = .int .i64 m ∧ n1 ≤ m ∧ n2 ≤ 6000 * m ∧ v = .slice va n1 vc ∧ u = .slice ua n2 uc ∧ Hid ((lackK (hvL HV') m).length = n1) ∧ Hid ((bytK (hvL HV') m).length = n2) ∧ Hid (TB w10 wr2 (.slice va n1 vc) (.slice ua n2 uc) (lackK (hvL HV') m) (bytK (hvL HV') m))) (fun _ _ j _ => l.length - (intOf j).toNat)
        case atStart => exact ⟨0, 0, 0, none, 0, none, 0, Nat.zero_le _, rfl, Nat.le_refl _, Nat.zero_le _, rfl, rfl, rfl, rfl, TB.begin _⟩
        case round =>
          obtain ⟨m, n1, n2, va, vc, ua, uc, ml, rfl, nm1, nm2, rfl, rfl, LN1, LN2, BB⟩ := hrel
          have b10 := T10.out.bel.size
          have b2z := BB.out.b.size
          by_cases hlt : m < l.length
          · have mz : (m : Int) < (l.length : Int) := by omega
            have T11 := hide (T10.out.up BB.out.b)
            have hc := T11.out.cell (i := m) (by rw [HL2.out]; exact hlt)
            unfold bV at hc
            have c6 := OK2.out.len m (by rw [HL2.out]; exact hlt)
            have RB := hide ((OK2.out.rd m (by rw [HL2.out]; exact hlt)).below T11.out.bel)
            have HN := hide (OK2.out.nil m (by rw [HL2.out]; exact hlt))
            have LK := hide (lackK_hv (HV := HV') (k := m) (by rw [HL2.out]; exact hlt))
            have BK := hide (bytK_hv OK2.out (k := m) (by rw [HL2.out]; exact hlt))
            have OX := hide BB.out.ox
            have OY := hide BB.out.oy
            rw [LN1.out] at OX
            rw [LN2.out] at OY
            obtain ⟨⟨hA, hB, hC⟩, hh⟩ : ∃ c, c = HV'.getD m none3 := ⟨_, rfl⟩
            rw [← hh] at hc c6 RB HN LK BK
            simp only at hc c6 RB HN LK BK
            have HH := hide hh
            have T13 := T10
            have hlt2 : m < HV'.length := by rw [HL2.out]; exact hlt
            clear hh
            cases hA with
            | some p0 =>
              have LK2 : Hid (lackK (hvL HV') (m + 1) = lackK (hvL HV') m) := by unfold Hid; rw [LK.out]; rfl
              clear LK T10 T13 HH hlt2
              go_wp2_with (at_builtin; refine wpList_append_byat rfl (.tmp 188) (.tmp 192) rfl w10.heap.size (.slice ua n2 uc) n2 (bytK (hvL HV') m) rfl OY.out (some p0) hB hB.length hC rfl rfl RB.out (fun e => by cases e) (by omega) b2z ?_; intro va' vc' w3 ho3 hg3 hat3; have O3 := hide ho3; have G3 := hide hg3; have A3 := hide hat3; clear ho3 hg3 hat3)
              have B3 : TB w10 w3 (.slice va n1 vc) (.slice va' (n2 + hB.length) vc') (lackK (hvL HV') m) (bytK (hvL HV') m ++ hB) := BB.out.second G3.out (by rw [List.length_append, LN2.out]; exact O3.out) A3.out
              exact ⟨⟨m + 1, n1, n2 + hB.length, va, vc, va', vc', by omega, by go_num, by omega, by omega, rfl, rfl, by unfold Hid; rw [LK2.out]; exact LN1.out, by unfold Hid; rw [BK.out, List.length_append, LN2.out], by unfold Hid; rw [LK2.out, BK.out]; exact B3⟩, by show l.length - ((m : Int) + 1).toNat < l.length - ((m : Int)).toNat; omega⟩
            | none =>
              have LK2 : Hid (lackK (hvL HV') (m + 1) = lackK (hvL HV') m ++ [(m : Int)]) := by unfold Hid; rw [LK.out]; rfl
              obtain ⟨hn1, hn2⟩ := HN.out rfl
              subst hn1
              subst hn2
              rw [List.append_nil] at BK
              have hnn : Hid (HV'.getD m none3 = (none, [], 0)) := HH.out.symm
              clear LK T10 HN c6 HH
              go_wp2_with (first
                | (at_builtin; refine wpList_append_byat rfl (.tmp 188) (.tmp 192) rfl w10.heap.size (.slice ua n2 uc) n2 (bytK (hvL HV') m) rfl OY2.out none [] 0 0 rfl rfl RB3.out (fun _ => rfl) (by show n2 + 0 ≤ _; omega) b3z ?_; intro va' vc' w4 ho4 hg4 hat4; have O4 := hide ho4; have G4 := hide hg4; have A4 := hide hat4; clear ho4 hg4 hat4)
                | (at_builtin; refine wpList_append_lies _ rfl (.tmp 184) (.tmp 186) 22 rfl w10.heap.size 3 i0 (.int .i64 0) 1 8 Tryd.underlying22 J0.out hz0 hz1 hz2 rfl (by omega) (.slice va n1 vc) n1 ((lackK (hvL HV') m).map (Value.int .i64)) rfl (OX.out.alloc _) ⟨wr.heap.size, 0, none⟩ 1 1 [.int .i64 (m : Int)] rfl rfl (World.news_of_block (heap_alloc_new _ _)) (by simp [Value.oneCell']) (by omega) (by unfold maxLen; omega) (by omega) (by simp; omega) (wr.heap.size + 1) (by simp) ?_; intro g3 cap3 w3 ho3 hg3 hat3 _; have B3 := hide (BB.out.first (c := cap3) hg3 (by rw [LN1.out]; exact ho3) hat3); have OY2 := hide B3.out.oy; rw [LN2.out] at OY2; have b3z := B3.out.b.size; have T12 := hide (T13.out.up B3.out.b); have hc3 := T12.out.cell (i := m) hlt2; unfold bV at hc3; rw [hnn.out] at hc3; have RB3 : Hid (RdB w3 none []) := rdB_none w3; clear ho3 hg3 hat3))
              have B4 : TB w10 w4 (.slice (some ⟨g3, 0, none⟩) (n1 + 1) cap3) (.slice va' n2 vc') (lackK (hvL HV') m ++ [(m : Int)]) (bytK (hvL HV') m) := by
                have b3 := B3.out
                rw [LN1.out] at b3
                have := b3.second (y' := .slice va' (n2 + 0) vc') (Z := []) G4.out (by rw [List.append_nil, LN2.out]; have o4 := O4.out; rw [List.append_nil] at o4; exact o4) A4.out
                rw [List.append_nil] at this
                exact this
              exact ⟨⟨m + 1, n1 + 1, n2, _, cap3, va', vc', by omega, by go_num, by omega, by omega, rfl, rfl, by unfold Hid; rw [LK2.out, List.length_append, LN1.out]; rfl, by unfold Hid; rw [BK.out]; exact LN2.out, by unfold Hid; rw [LK2.out, BK.out]; exact B4⟩, by show l.length - ((m : Int) + 1).toNat < l.length - ((m : Int)).toNat; omega⟩
          · have mz : ¬ ((m : Int) < (l.length : Int)) := by omega
            have em : m = l.length := by omega
            subst em
            rw [lackK_all HLN.out] at LN1 BB
            have T11 := hide (T10.out.up BB.out.b)
            obtain ⟨va', vc', e1, r1, _⟩ := own_rd BB.out.ox
            have e1' : va = va' := by cases e1; rfl
            subst e1'
            have RX := hide r1
            obtain ⟨ua', uc', e2, r2, un, _⟩ := own_rdB0 rfl (by rw [LN2.out]; unfold maxLen; omega) (bytK_8 OK2.out l.length (by rw [HL2.out]; exact Nat.le_refl _)).1 BB.out.oy
            have e2' : ua = ua' := by cases e2; rfl
            subst e2'
            have RY := hide r2
            have FE := hide (lack_bytes (hvL HV'))
            have VE := hide (byt_is HLN.out)
            have CB := hide (fun W (hW : Below wr.heap.size wr W) => fet_bytes (T11.out.up hW).fa)
            have CL := hide (fun W (hW : Below wr.heap.size wr W) => fet_lacks (T11.out.up hW).fa)
            have V8 : Hid (∀ x ∈ M.bytV (hvL HV'), x < 256) := fun x hx => by
              rw [VE.out] at hx
              split at hx
              · cases hx
              · exact RY.out.2.1 x hx
            have ERb := hide (fun W (hW : Below w.heap.size w W) => HER.out (M.bytF (hvL HV')) W hW)
            obtain ⟨vb, hvb⟩ : ∃ v, v = errV (M.bytF (hvL HV')) := ⟨_, rfl⟩
            rw [← hvb] at CB ERb
            have WB := hide T11.out.bel
            rw [LN1.out] at FE VE
            have SI : Hid (∀ W a' c', Rd W a' (M.lackL (hvL HV')) → Rd W va (M.lackL (hvL HV')) → Calls Tryd.prog 23 #[.slice a' n1 c', .slice va n1 vc] W fun e w' => e = .returned (.bool true) ∧ Below W.heap.size W w') := fun W a' c' h1 h2 => by
              have := ints_any a' va _ _ c' vc W h1 h2
              rw [decide_eq_true rfl, LN1.out] at this
              exact this
            rw [LN1.out] at CL
            clear e1 e2 r1 r2 BB T10 un hvb HER ER0
            generalize M.bytF (hvL HV') = bF at *
            generalize M.bytV (hvL HV') = bV' at *
            generalize bytK (hvL HV') l.length = bK at *
            generalize M.lackL (hvL HV') = LL at *
            go_upto_if 196 with fail
            go_cut [12, 28] from 194 to 196 (fun v u wx => ∃ ya yc, v = .int .i64 bF ∧ u = .slice ya bV'.length yc ∧ Hid (RdB wr ya bV') ∧ wx = wr)
            case first =>
              by_cases q : 0 < n1
              · have pz : (0 : Int) < (n1 : Int) := by omega
                rw [if_pos q] at FE VE
                go_wp2
                go_meet
                case rel => exact ⟨none, 0, by rw [FE.out], by rw [VE.out]; rfl, by unfold Hid; rw [VE.out]; exact rdB_none _, rfl⟩
              · have q0 : n1 = 0 := by omega
                rw [if_neg q] at FE VE
                subst q0
                clear q
                go_wp2
                go_meet
                case rel => exact ⟨ua, uc, by rw [FE.out], by rw [VE.out, LN2.out], by unfold Hid; rw [VE.out]; exact RY.out, rfl⟩
            case rest =>
              obtain ⟨ya, yc, rfl, rfl, RY2, ew⟩ := hcut
              have ew2 := ew.symm
              subst ew2
              clear FE VE RY LN2
              go_upto_region 48 with (first
                | (go_at_call 23; refine (SI.out _ _ _ R14.out (RX.out.below B14.out)).mono ?_; rintro e w15 ⟨rfl, b15⟩; have B15 := hide (below_on B14.out b15); have R15 := hide (R12.out.below (below_on (below_on B13b.out B14b.out) b15)); clear b15)
                | (go_at_call 16; refine (CL.out _ B13.out).mono ?_; rintro e w14 ⟨la4, lc4, rfl, r14, b14⟩; have R14 := hide r14; have B14b := hide b14; have B14 := hide (below_on B13.out b14); clear b14 r14)
                | (go_at_call 11; refine (ERb.out _ (below_on WB.out B12.out)).mono ?_; rintro e w13 ⟨rfl, b13⟩; have B13 := hide (below_on B12.out b13); have B13b := hide b13; clear b13)
                | (go_at_call 15; refine (CB.out _ (Below.refl _ _)).mono ?_; rintro e w12 ⟨xa, xc, rfl, r12, b12⟩; have R12 := hide r12; have B12 := hide b12; clear b12 r12))
              have k1 := conv_by R15.out xc
              have k2 := conv_by (RY2.out.below B15.out) yc
              have TF := hide (T11.out.up B15.out)
              clear CB CL SI R12 R14 R15 RX RY2 B12 B13 B13b B14 B14b
              generalize byStr bV' = st at *
              go_wp2
              exact ⟨⟨t + 1, K9, HV', by omega, by go_num, HL2, OK2, TF⟩, by show 40 - ((t : Int) + 1).toNat < 40 - ((t : Int)).toNat; omega⟩

end Go.Proofs.YtelncekgjfpogahDoor
