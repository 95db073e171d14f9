/-
  ChunkBack's own walk, with what package chunk answers as premises.
-/
import Derived.Test.YtelncekgjfpogahDoorChF
import Derived.Test.YtelncekgjfpogahDoorBySlice
import Derived.Test.YtelncekgjfpogahDoorByStr
import Derived.Deep.OwnRows
import Derived.BigQuiet
import Derived.Deep.QuietTactic
import Derived.Deep.Cut
import Derived.Deep.CutRange
namespace Go.Proofs.YtelncekgjfpogahDoor
open Go.ChangeShapes Go.WideShapes Go.ChangeAt Go.RowKit Go.Lib
set_option linter.unusedVariables false

theorem rdB_three (w : World) (t : TypeId) : RdB (w.alloc (.cells #[.int .u8 1, .int .u8 2, .int .u8 3] t)) (some ⟨w.heap.size, 0, none⟩) [1, 2, 3] :=
  ⟨by unfold maxLen; simp, (fun x hx => by simp at hx; omega), fun _ => ⟨w.heap.size, 0, rfl, by simp, fun i hi => by
    rw [Nat.zero_add, World.cell?_alloc_new]
    match i, hi with
    | 0, _ => rfl
    | 1, _ => rfl
    | 2, _ => rfl⟩⟩
theorem infoBool : (Tryd.prog.info? 4).map (fun i => (i.zero, i.size, i.bytes)) = some (some (.bool false), 1, 1) := by kernel_rfl
theorem M.plan_fact : M.planF [1, 2, 3] 2 = 0 ∧ M.planV [1, 2, 3] 2 = [(2, 6792), (1, 221)] := by decide

theorem own_same {W W' : World} {base e size n cap g : Nat} {l : List Value} (h : W.ownsRow base e size (.slice (some ⟨g, 0, none⟩) n cap) n l) (he : W'.heap[g]? = W.heap[g]?) : W'.ownsRow base e size (.slice (some ⟨g, 0, none⟩) n cap) n l := by
  refine ⟨h.1, ?_⟩
  rcases h.2 with ⟨h', h0⟩ | ⟨g', cap', cur, h', hb, hg, rest⟩
  · exact .inl ⟨h', h0⟩
  · have h2 := h'
    rw [Value.slice.injEq] at h2
    have eg : g = g' := by have := h2.1; cases this; rfl
    subst eg
    exact .inr ⟨g, cap', cur, h', hb, he.trans hg, rest⟩
theorem made_bool (W : World) (n : Nat) (base : Nat) (hb : base ≤ W.heap.size) (hn : n ≤ 1000) : (W.alloc (.cells (madeCells #[Value.bool false] n) 4)).ownsRow base 4 1 (.slice (some ⟨W.heap.size, 0, none⟩) n n) n ((List.replicate n false).map Value.bool) := by
  have e : (madeCells #[Value.bool false] n).toList = (List.replicate n false).map Value.bool := by
    refine List.ext_getElem (by simp [size_madeCells]) fun i h1 h2 => ?_
    simp [madeCells, Nat.mod_one]
  refine ⟨by rw [← e]; simp [size_madeCells], .inr ⟨W.heap.size, n, madeCells #[Value.bool false] n, rfl, hb, (MapKept.heap_alloc W _).1, Nat.le_refl _, by unfold maxLen; omega, by simp [size_madeCells], ?_⟩⟩
  rw [Nat.mul_one, e, List.take_of_length_le]
  simp
/-- a Fetch that is filled, and what was seen of it -/
structure KW (FA : World → Nat → (Nat → Prop) → List M.Pt → M.Has → Prop) (w wN : World) (f : Nat) (K : Nat → Prop) (sb : Nat) (P : List M.Pt) (h : M.Has) (seen : List Bool) (W : World) : Prop where
  fa : FA W f K P h
  kk : ∀ q, K q → wN.heap.size ≤ q ∧ q ≠ sb
  bel : Below w.heap.size w W
  pn : ∀ q, q < wN.heap.size → W.heap[q]? = wN.heap[q]?
  sn : W.ownsRow wN.heap.size 4 1 (.slice (some ⟨sb, 0, none⟩) seen.length seen.length) seen.length (seen.map Value.bool)
  sz : wN.heap.size ≤ W.heap.size
  wn : w.heap.size ≤ wN.heap.size
  sg : wN.heap.size ≤ sb ∧ sb < W.heap.size
theorem KW.up {FA : World → Nat → (Nat → Prop) → List M.Pt → M.Has → Prop} {w : World} {wN : World} {f : Nat} {K : Nat → Prop} {sb : Nat} {P : List M.Pt} {h : M.Has} {seen : List Bool} {W : World} {W' : World} (F : FchGives FA) (k : KW FA w wN f K sb P h seen W) (hb : Below W.heap.size W W') : KW FA w wN f K sb P h seen W' :=
  ⟨F.up k.fa (fun q hq => hb.block q (F.lt k.fa q hq)) hb.size, k.kk, below_on k.bel hb, fun q hq => (hb.block q (Nat.lt_of_lt_of_le hq k.sz)).trans (k.pn q hq), own_same k.sn (hb.block sb k.sg.2), Nat.le_trans k.sz hb.size, k.wn, ⟨k.sg.1, Nat.lt_of_lt_of_le k.sg.2 hb.size⟩⟩
theorem KW.put {FA : World → Nat → (Nat → Prop) → List M.Pt → M.Has → Prop} {w : World} {wN : World} {f : Nat} {K : Nat → Prop} {sb : Nat} {P : List M.Pt} {h : M.Has} {seen : List Bool} {W : World} {W' : World} {K' : Nat → Prop} {h' : M.Has} (k : KW FA w wN f K sb P h seen W) (fa : FA W' f K' P h') (s : StayBut K W W') (hk : ∀ q, K' q → K q ∨ W.heap.size ≤ q) : KW FA w wN f K' sb P h' seen W' := by
  have sg := k.sg
  have sz := k.sz
  have wn := k.wn
  have nk : ¬ K sb := fun q => (k.kk sb q).2 rfl
  refine ⟨fa, fun q hq => ?_, ⟨s.os.trans k.bel.os, s.tape.trans k.bel.tape, s.output.trans k.bel.output, Nat.le_trans k.bel.size s.size, fun q hq => (s.block q (by have := k.bel.size; omega) (fun z => by have := (k.kk q z).1; omega)).trans (k.bel.block q hq)⟩, fun q hq => (s.block q (by omega) (fun z => by have := (k.kk q z).1; omega)).trans (k.pn q hq), own_same k.sn (s.block sb sg.2 nk), by have := s.size; omega, wn, ⟨sg.1, Nat.lt_of_lt_of_le sg.2 s.size⟩⟩
  · rcases hk q hq with z | z
    · exact k.kk q z
    · exact ⟨by omega, by omega⟩
theorem KW.see {FA : World → Nat → (Nat → Prop) → List M.Pt → M.Has → Prop} {w : World} {wN : World} {f : Nat} {K : Nat → Prop} {sb : Nat} {P : List M.Pt} {h : M.Has} {seen : List Bool} {W : World} (F : FchGives FA) (k : KW FA w wN f K sb P h seen W) {i : Nat} (hi : i < seen.length) : KW FA w wN f K sb P h (seen.set i true) (W.setCell ⟨sb, i, none⟩ (.bool true)) := by
  have gs : W.grownBy (W.setCell ⟨sb, i, none⟩ (.bool true)) (some sb) := grown_set
  have sg := k.sg
  have sz := k.sz
  have wn := k.wn
  refine ⟨F.up k.fa (fun q hq => gs.block q (F.lt k.fa q hq) (fun e => by cases e; exact (k.kk _ hq).2 rfl)) gs.size, k.kk, k.bel.setCell (p := ⟨sb, i, none⟩) (by show w.heap.size ≤ sb; omega) _, fun q hq => (gs.block q (by omega) (fun e => by cases e; omega)).trans (k.pn q hq), ?_, by have := gs.size; omega, wn, ⟨sg.1, by have := gs.size; omega⟩⟩
  rw [List.length_set, List.map_set]
  exact (k.sn.stored i (.bool true)).1

set_option maxHeartbeats 16000000 in
set_option maxRecDepth 10000 in
theorem kback_walk {FA : World → Nat → (Nat → Prop) → List M.Pt → M.Has → Prop} (F : FchGives FA) (hP : ChPlanGives) (a : Option Addr) (bs : List Nat) (ca : Nat) (size : Int) (oa : Option Addr) (ol : List Int) (oc : Nat) (at' : Int) (y : Nat) (w : World)
    (hER : ∀ e W, Below w.heap.size w W → Calls Tryd.prog 11 #[errV e, .int .i64 e] W fun r w' => r = .returned (.bool true) ∧ Below W.heap.size W w')
    (hb : RdB w a bs) (hl : bs.length ≤ ca) (hca : ca ≤ 9223372036854775807) (hnil : a = none → ca = 0) (hz : bs.length ≤ 140737488351232) (ho : Rd w oa ol) (hol : ol.length ≤ 140737488351232) (hoi : ∀ x ∈ ol, -9223372036854775808 ≤ x ∧ x ≤ 9223372036854775807) (s1 : -9223372036854775808 ≤ size) (s2 : size ≤ 9223372036854775807) (a1 : -9223372036854775808 ≤ at') (a2 : at' ≤ 9223372036854775807) (hy : y < 256) :
    Calls Tryd.prog 4 #[.slice a bs.length ca, .int .i64 size, .slice oa ol.length oc, .int .i64 at', .int .u8 (y : Int)] w fun e w' => e = .returned (.bool true) ∧ Below w.heap.size w w' := by
  have B0 : Hid (∀ o, Below w.heap.size w (w.alloc o)) := fun o => (Below.refl _ w).alloc (Nat.le_refl _) o
  have P0 := hide (fun t => hP (some ⟨w.heap.size, 0, none⟩) [1, 2, 3] 3 2 _ (rdB_three w t) (by simp) (by omega) (by omega) (by omega))
  have z0 : errV 0 = .nilIface := if_pos rfl
  rw [M.plan_fact.1, M.plan_fact.2, z0] at P0
  simp only [List.length_cons, List.length_nil, Nat.zero_add] at P0
  have P1 := hide (fun (W : World) (hW : Below w.heap.size w W) => hP a bs ca size W (hb.below hW) hl hca s1 s2)
  have HB := hide hb
  have HO := hide ho
  have HOI := hide hoi
  have HER := hide hER
  have FF := hide F
  clear hb ho hoi hER hP z0
  go_enter Tryd.func4, Tryd.ntmps4
  go_upto_region 2 with (go_at_call 12; refine (P0.out _).mono ?_; rintro e w1 ⟨v1, rfl, o1, b1⟩; have O1 := hide o1; have K1 := hide (below_on (B0.out _) b1); clear o1 b1)
  obtain ⟨pa, pc, ev, rp, _⟩ := own_rdP (l := [(2, 6792), (1, 221)]) rfl (by unfold maxLen; decide) O1.out
  subst ev
  obtain ⟨fb, fo, rfl, hfb, hfc⟩ := rp.2 (by simp)
  have f0 : w1.cell? ⟨fb, fo + 1, none⟩ = some (.int .i64 6792) := (hfc 0 (by simp)).2
  have f1 : w1.cell? ⟨fb, fo + 2, none⟩ = some (.int .i64 1) := (hfc 1 (by simp)).1
  have f2 : w1.cell? ⟨fb, fo + 2 + 1, none⟩ = some (.int .i64 221) := (hfc 1 (by simp)).2
  clear hfc rp O1 P0
  go_quiet (fail)
  obtain ⟨w2, hw2⟩ : ∃ X, X = w1.drewN nq := ⟨_, rfl⟩
  rw [← hw2]
  have K2 : Hid (Below w.heap.size w w2) := by rw [hw2]; exact below_drew K1.out nq K1.out.size
  clear hw2 f0 f1 f2 K1
  by_cases pf : M.planF bs size = 0
  · have q2 : ¬ 6000 < bs.length := fun z => by unfold M.planF at pf; rw [if_pos z] at pf; cases pf
    have q1 : ¬ (size < 1 ∨ 6000 < size) := fun z => by unfold M.planF at pf; rw [if_neg q2, if_pos z] at pf; cases pf
    obtain ⟨s, rfl⟩ : ∃ s : Nat, size = (s : Int) := ⟨size.toNat, by omega⟩
    have q3 : ¬ 100 < (M.planL bs s).length := fun z => by unfold M.planF at pf; rw [if_neg q2, if_neg q1, Int.toNat_natCast, if_pos z] at pf; cases pf
    have pv : M.planV bs (s : Int) = M.planL bs s := by unfold M.planV; rw [if_pos pf, Int.toNat_natCast]
    rw [err_nil pf, pv] at P1
    have sp : 1 ≤ s := by omega
    have L6 : bs.length ≤ 6000 := by omega
    have S6 : s ≤ 6000 := by omega
    have PR := hide (M.plan_right sp bs L6 (by omega))
    have PA := hide (fun i (hi : i < (M.planL bs s).length) => M.plan_at sp i bs (M.plan_in sp bs hi))
    have PI := hide (fun i (hi : i < (M.planL bs s).length) => M.plan_in sp bs hi)
    have HP := hide (fun (seen : List Bool) (hl : seen.length = (M.planL bs s).length) i (hi : i < (M.planL bs s).length) => M.seenH_put sp bs hl hi)
    have HN := hide (fun i (hi : i < (M.planL bs s).length) k (ha : k < (M.pieceAt bs s i).length) (hne : (M.pieceAt bs s i).getD k 0 ≠ y) => M.piece_not sp bs HB.out.2.1 hi ha hy hne)
    have HA := hide (fun (seen : List Bool) (hl : seen.length = (M.planL bs s).length) ha => M.seenH_all sp bs hl ha)
    have HZ := hide (M.seenH_zero bs s (M.planL bs s))
    have m100 : (M.planL bs s).length ≤ 100 := by omega
    generalize M.planL bs s = P at *
    clear pf q1 q2 q3 pv
    go_upto_region 7 with (go_at_call 12; refine (P1.out _ K2.out).mono ?_; rintro e w3 ⟨v3, rfl, o3, b3⟩; have O3 := hide o3; have K3 := hide (below_on K2.out b3); clear o3 b3)
    obtain ⟨pa, pc3, ev, rp, _, _⟩ := own_rdP rfl (by unfold maxLen; omega) O3.out
    subst ev
    have RP := hide rp
    have N1 := hide (FF.out.new pa P pc3 w3 rp PR.out)
    clear rp O3 P1 PR
    go_upto_region 10 with (go_at_call 13; refine N1.out.mono ?_; rintro e w4 ⟨f, K, rfl, fa, kk, b4⟩; have FA4 := hide fa; have KK := hide kk; have B4 := hide b4; clear fa kk b4)
    have mk := fun W => run_make_row' (P := Tryd.prog) 47 4 (.bool false) 1 Tryd.underlying47 infoBool (by simp [Value.cells]) .i64 .i64 P.length (by omega) (by omega) W
    have KW0 : Hid (KW FA w w3 f K w4.heap.size P (M.seenH bs s (List.replicate P.length false)) (List.replicate P.length false) (w4.alloc (.cells (madeCells #[Value.bool false] P.length) 4))) := by
      have bz := B4.out.size
      have al : Below w4.heap.size w4 (w4.alloc (.cells (madeCells #[Value.bool false] P.length) 4)) := (Below.refl _ w4).alloc (Nat.le_refl _) _
      refine ⟨?_, fun q hq => ⟨KK.out q hq, fun e => ?_⟩, below_on (below_on K3.out B4.out) al, fun q hq => (al.block q (by omega)).trans (B4.out.block q hq), ?_, by simp; omega, K3.out.size, ⟨bz, by simp⟩⟩
      · have := FF.out.up FA4.out (fun q hq => al.block q (FF.out.lt FA4.out q hq)) al.size
        rw [HZ.out] at this
        exact this
      · have := FF.out.lt FA4.out q hq
        omega
      · have := made_bool w4 P.length w3.heap.size bz (by omega)
        rw [List.length_replicate]
        exact this
    clear N1 KK B4 FA4 HZ
    go_upto_region 11 with fail
    clear mk
    obtain ⟨w5, hw5⟩ : ∃ X, X = w4.alloc (.cells (madeCells #[Value.bool false] P.length) 4) := ⟨_, rfl⟩
    rw [← hw5] at KW0 ⊢
    obtain ⟨sb, hsb⟩ : ∃ sb, sb = w4.heap.size := ⟨_, rfl⟩
    rw [← hsb] at KW0
    have HSB := hide hsb
    clear hw5 hsb
    rw [show w4.heap.size = sb from HSB.out.symm]
    clear HSB
    go_wp2
    go_loopw [18] (fun i wr => ∃ (t : Nat) (K : Nat → Prop) (seen : List Bool), t ≤ ol.length + P.length ∧ i = .int .i64 t ∧ Hid (seen.length = P.length) ∧ Hid (∀ j, ol.length + j < t → seen.getD j false = true) ∧ Hid (KW FA w w3 f K sb P (M.seenH bs s seen) seen wr)) (fun i _ => ol.length + P.length - (intOf i).toNat)
    case atStart => exact ⟨0, K, List.replicate P.length false, Nat.zero_le _, rfl, (by unfold Hid; rw [List.length_replicate]), (fun j hj => by omega), KW0⟩
    case round =>
      clear KW0 K2 K3
      obtain ⟨t, Kt, seen, ht, rfl, SL, SA, KK⟩ := hrel
      by_cases hlt : t < ol.length + P.length
      · have tz : (t : Int) < (ol.length : Int) + (P.length : Int) := by omega
        have HR := hide (HO.out.below KK.out.bel)
        obtain ⟨iv, IV⟩ : ∃ iv : Int, Hid (iv = if t < ol.length then ol.getD t 0 else (t : Int) - (ol.length : Int)) := ⟨_, rfl⟩
        have i1 : -9223372036854775808 ≤ iv ∧ iv ≤ 9223372036854775807 := by
          rw [IV.out]
          split
          · next q =>
            have e : ol.getD t 0 = ol[t] := by simp [List.getD, q]
            rw [e]
            exact HOI.out _ (List.getElem_mem q)
          · omega
        have cs : t < ol.length ∨ ¬ t < ol.length := by omega
        rcases cs with c1 | c1
        case' inl => have c1z : (t : Int) < (ol.length : Int) := by omega
        case' inl => obtain ⟨ob, oo, rfl, hob, hoc⟩ := HR.out.2 (by intro e; rw [e] at c1; simp at c1)
        case' inl => have oc0 := hoc t c1
        case' inl => rw [show ol.getD t 0 = iv by rw [IV.out, if_pos c1]] at oc0
        case' inl => clear hoc
        case' inr => have c1z : ¬ (t : Int) < (ol.length : Int) := by omega
        case' inr => have oc0 : (t : Int) - (ol.length : Int) = iv := by rw [IV.out, if_neg c1]
        all_goals (
          have IC : Hid (¬ t < ol.length → iv = (t : Int) - (ol.length : Int)) := fun z => by rw [IV.out, if_neg z]
          clear IV HR
          go_upto_region 17 with fail
          clear oc0
          by_cases rng : 0 ≤ iv ∧ iv < (P.length : Int)
          · obtain ⟨i, rfl⟩ : ∃ i : Nat, iv = (i : Int) := ⟨iv.toNat, by omega⟩
            have hi : i < P.length := by omega
            have SLi : i < seen.length := by rw [SL.out]; exact hi
            have g1 : decide ((i : Int) < 0) = false := decide_eq_false (by omega)
            have g2 : decide ((P.length : Int) ≤ (i : Int)) = false := decide_eq_false (by omega)
            have g2' : decide (P.length ≤ i) = false := decide_eq_false (by omega)
            have pi := PI.out i hi
            have px := PA.out i hi
            have HPi := hide (HP.out seen SL.out i hi)
            have HNi := hide (HN.out i hi)
            obtain ⟨sv, hsv⟩ : ∃ sv, sv = seen.getD i false := ⟨_, rfl⟩
            rw [← hsv] at HPi
            have HSV := hide hsv
            have SLI := hide SLi
            clear hsv SLi
            obtain ⟨F0, hF0⟩ : ∃ F0, F0 = i * s := ⟨_, rfl⟩
            rw [← hF0] at pi px
            obtain ⟨m, hm⟩ : ∃ m, m = min s (bs.length - F0) := ⟨_, rfl⟩
            rw [← hm] at px
            obtain ⟨PC, hPC⟩ : ∃ PC, PC = M.pieceAt bs s i := ⟨_, rfl⟩
            rw [← hPC] at HPi HNi
            have PCL : Hid (PC.length = m) := by unfold Hid; rw [hPC, M.piece_len, hm, hF0]
            have PE : Hid ((bs.drop F0).take m = PC) := by
              unfold Hid
              rw [hPC, hm, hF0]
              unfold M.pieceAt
              by_cases q : s ≤ bs.length - i * s
              · rw [Nat.min_eq_left q]
              · rw [Nat.min_eq_right (by omega), List.take_of_length_le (by rw [List.length_drop]; omega), List.take_of_length_le (by rw [List.length_drop]; omega)]
            have pm : (i : Int) * (s : Int) = (F0 : Int) := by rw [hF0]; rfl
            have m1 : 1 ≤ m := by omega
            have m2 : F0 + m ≤ bs.length := by omega
            have RPr := hide RP.out
            obtain ⟨pb, po, rfl, hpb, hpc⟩ := RPr.out.2 (by intro e; rw [e] at hi; simp at hi)
            have pc0 : wr.cell? ⟨pb, po + i * 2, none⟩ = some (.int .i64 (m : Int)) := by
              rw [World.cell?_of_block (a := ⟨pb, po + i * 2, none⟩) (KK.out.pn pb hpb), (hpc i hi).1, px]
            obtain ⟨bb, bo, rfl, hbb, hbc⟩ := HB.out.2.2 (by intro e; rw [e] at pi; simp at pi)
            have BBW := hide hbb
            have z0 : (0 : Int) ≤ (F0 : Int) := by omega
            have z1 : (F0 : Int) ≤ (F0 : Int) + (m : Int) := by omega
            have z2 : (F0 : Int) + (m : Int) ≤ (ca : Int) := by omega
            have z3 : ¬ ca = F0 := by omega
            clear hF0 hm hPC hpc hbc hbb px HP HN PI PA rng HO HOI RP RPr HA
            go_upto_region 20 with fail
            clear pc0 pm
            have af : (⟨bb, bo, none⟩ : Addr).add F0 = ⟨bb, bo + F0, none⟩ := by unfold Addr.add; simp
            rw [show F0 + m - F0 = m by omega]
            clear af
            have RPC : Hid (RdB wr (some ⟨bb, bo + F0, none⟩) PC) := by
              have := ((HB.out.below KK.out.bel).drop F0).take m
              rw [PE.out] at this
              exact this
            by_cases an : at' < 0
            · have h1 : decide ((0 : Int) ≤ at') = false := decide_eq_false (by omega)
              have KQ := KK
              clear an KK RPC HNi
              go_upto_region 28 with fail
              have BQ := hide (HB.out.below KQ.out.bel)
              have RQ : Hid (RdB wr (some ⟨bb, bo + F0, none⟩) PC) := by
                have := (BQ.out.drop F0).take m
                rw [PE.out] at this
                exact this
              have CQ := hide (FF.out.put (i : Int) (some ⟨bb, bo + F0, none⟩) PC (ca - F0) KQ.out.fa RQ.out (by rw [PCL.out]; omega) (by omega) (by rw [PCL.out]; omega) (fun e => by cases e) (fun p hp z => by cases hp; have z2 := (KQ.out.kk _ z).1; have := KQ.out.wn; have := BBW.out; simp at z2; omega) (by omega) (by omega))
              rw [HPi.out.1, HPi.out.2.1, HPi.out.2.2, err_nil rfl, PCL.out] at CQ
              go_upto_region 29 with (go_at_call 14; refine CQ.out.mono ?_; rintro e w10 ⟨K10, rfl, fa10, st10, hk10⟩; have KX := hide (KQ.out.put fa10 st10 hk10); clear fa10 st10 hk10)
              have sc : w10.cell? ⟨sb, i, none⟩ = some (.bool sv) := by
                rw [KX.out.sn.cellAt i (by rw [SL.out]; omega), List.getElem?_map, List.getElem?_eq_getElem SLI.out, HSV.out]
                simp [List.getD, SLI.out]
              have sf : w10.frozen? ⟨sb, i, none⟩ = false := KX.out.sn.frozenAt i
              have KS := hide (KX.out.see FF.out SLI.out)
              have SL2 : Hid ((seen.set i true).length = P.length) := by unfold Hid; rw [List.length_set]; exact SL.out
              have SA2 : Hid (∀ j, ol.length + j < t + 1 → (seen.set i true).getD j false = true) := fun j hj => by
                by_cases q : i = j
                · subst q
                  simp [List.getD, SLI.out]
                · have e : (seen.set i true).getD j false = seen.getD j false := by simp [List.getD, List.getElem?_set_ne q]
                  rw [e]
                  refine SA.out j ?_
                  by_cases z : ol.length + j < t
                  · exact z
                  · exfalso
                    have z2 := IC.out (by omega)
                    omega
              clear CQ BQ RQ KQ
              clear SLI
              cases sv <;> (
                go_wp2
                exact ⟨⟨t + 1, K10, seen.set i true, by omega, rfl, SL2, SA2, KS⟩, by show ol.length + P.length - ((t : Int) + 1).toNat < ol.length + P.length - ((t : Int)).toNat; omega⟩)
            · obtain ⟨k, rfl⟩ : ∃ k : Nat, at' = (k : Int) := ⟨at'.toNat, by omega⟩
              have h1 : decide ((0 : Int) ≤ (k : Int)) = true := decide_eq_true (by omega)
              by_cases km : k < m
              · have h2 : decide ((k : Int) < (m : Int)) = true := decide_eq_true (by omega)
                have h2z : (k : Int) < (m : Int) := by omega
                have kc : wr.cell? ⟨bb, bo + F0 + k, none⟩ = some (.int .u8 ((PC.getD k 0 : Nat) : Int)) := by
                  obtain ⟨b2, o2, e2, _, hc2⟩ := RPC.out.2.2 (by intro e; have := PCL.out; rw [e] at this; simp at this; omega)
                  cases e2
                  exact hc2 k (by rw [PCL.out]; exact km)
                by_cases ky : PC.getD k 0 = y
                · have h3 : (((PC.getD k 0 : Nat) : Int) != (y : Int)) = false := by rw [bne_eq_false_iff_eq]; omega
                  have KQ := KK
                  generalize PC.getD k 0 = pv at *
                  clear ky KK RPC HNi an
                  go_upto_region 28 with fail
                  clear kc
                  have BQ := hide (HB.out.below KQ.out.bel)
                  have RQ : Hid (RdB wr (some ⟨bb, bo + F0, none⟩) PC) := by
                    have := (BQ.out.drop F0).take m
                    rw [PE.out] at this
                    exact this
                  have CQ := hide (FF.out.put (i : Int) (some ⟨bb, bo + F0, none⟩) PC (ca - F0) KQ.out.fa RQ.out (by rw [PCL.out]; omega) (by omega) (by rw [PCL.out]; omega) (fun e => by cases e) (fun p hp z => by cases hp; have z2 := (KQ.out.kk _ z).1; have := KQ.out.wn; have := BBW.out; simp at z2; omega) (by omega) (by omega))
                  rw [HPi.out.1, HPi.out.2.1, HPi.out.2.2, err_nil rfl, PCL.out] at CQ
                  go_upto_region 29 with (go_at_call 14; refine CQ.out.mono ?_; rintro e w10 ⟨K10, rfl, fa10, st10, hk10⟩; have KX := hide (KQ.out.put fa10 st10 hk10); clear fa10 st10 hk10)
                  have sc : w10.cell? ⟨sb, i, none⟩ = some (.bool sv) := by
                    rw [KX.out.sn.cellAt i (by rw [SL.out]; omega), List.getElem?_map, List.getElem?_eq_getElem SLI.out, HSV.out]
                    simp [List.getD, SLI.out]
                  have sf : w10.frozen? ⟨sb, i, none⟩ = false := KX.out.sn.frozenAt i
                  have KS := hide (KX.out.see FF.out SLI.out)
                  have SL2 : Hid ((seen.set i true).length = P.length) := by unfold Hid; rw [List.length_set]; exact SL.out
                  have SA2 : Hid (∀ j, ol.length + j < t + 1 → (seen.set i true).getD j false = true) := fun j hj => by
                    by_cases q : i = j
                    · subst q
                      simp [List.getD, SLI.out]
                    · have e : (seen.set i true).getD j false = seen.getD j false := by simp [List.getD, List.getElem?_set_ne q]
                      rw [e]
                      refine SA.out j ?_
                      by_cases z : ol.length + j < t
                      · exact z
                      · exfalso
                        have z2 := IC.out (by omega)
                        omega
                  clear CQ BQ RQ KQ
                  clear SLI
                  cases sv <;> (
                    go_wp2
                    exact ⟨⟨t + 1, K10, seen.set i true, by omega, rfl, SL2, SA2, KS⟩, by show ol.length + P.length - ((t : Int) + 1).toNat < ol.length + P.length - ((t : Int)).toNat; omega⟩)
                · have h3 : (((PC.getD k 0 : Nat) : Int) != (y : Int)) = true := by rw [bne_iff_ne]; omega
                  have NB := hide (HNi.out k (by rw [PCL.out]; exact km) ky)
                  have PF3 : Hid (M.putF P (i : Int) (PC.set k y) = 3) := by
                    unfold Hid M.putF
                    rw [if_neg (by omega), Int.toNat_natCast, NB.out]
                    rfl
                  have PN3 : Hid (M.putN P (M.seenH bs s seen) (i : Int) (PC.set k y) = false) := by
                    unfold Hid M.putN
                    rw [PF3.out]
                    rfl
                  have PH3 : Hid (M.putH P (M.seenH bs s seen) (i : Int) (PC.set k y) = M.seenH bs s seen) := by
                    unfold Hid M.putH
                    rw [PN3.out]
                    rfl
                  generalize PC.getD k 0 = pv at *
                  clear ky HNi an NB
                  go_upto_region 22 with fail
                  clear kc
                  go_upto_region 23 with (at_builtin; refine wpList_append_by rfl (.tmp 138) (.tmp 139) rfl wr.heap.size (.slice none 0 0) 0 [] rfl (World.ownsRow_nil _ _ _ _) (some ⟨bb, bo + F0, none⟩) PC m (ca - F0) PCL.out rfl RPC.out (fun e => by cases e) (by rw [PCL.out]; omega) (Nat.le_refl _) ?_; intro va vc w6 ho6 hb6 hg6; rw [Nat.zero_add, List.nil_append] at ho6; have O6 := hide ho6; have B6 := hide hb6; clear ho6 hb6 hg6)
                  obtain ⟨qg, eva, hqg⟩ : ∃ qg, va = some ⟨qg, 0, none⟩ ∧ wr.heap.size ≤ qg := by
                    rcases O6.out.2 with ⟨h', h0⟩ | ⟨g', cap', cur, h', hb', _⟩
                    · omega
                    · rw [Value.slice.injEq] at h'
                      exact ⟨g', h'.1, hb'⟩
                  subst eva
                  have QG := hide hqg
                  obtain ⟨u, hu⟩ : ∃ u, w6.cell? ⟨qg, k, none⟩ = some u := ⟨_, by rw [O6.out.cellAt k (by omega), List.getElem?_eq_getElem (by rw [byCells_len, PCL.out]; exact km)]⟩
                  have qf := O6.out.frozenAt k
                  go_upto_region 24 with fail
                  obtain ⟨w7, hw7⟩ : ∃ X, X = w6.setCell ⟨qg, k, none⟩ (.int .u8 (y : Int)) := ⟨_, rfl⟩
                  rw [← hw7]
                  have O7 : Hid (w7.ownsRow wr.heap.size 5 1 (.slice (some ⟨qg, 0, none⟩) m vc) m (byCells (PC.set k y))) := by
                    have := (O6.out.stored k (byV y)).1
                    rw [show (byCells PC).set k (byV y) = byCells (PC.set k y) by unfold byCells; rw [List.map_set]] at this
                    rw [hw7]
                    exact this
                  have B7 : Hid (Below wr.heap.size wr w7) := by rw [hw7]; exact B6.out.setCell (p := ⟨qg, k, none⟩) QG.out _
                  clear hw7 hu qf B6 O6 hqg
                  have KW7 := hide (KK.out.up FF.out B7.out)
                  obtain ⟨a7, c7, e7, r7, _, l7, m7⟩ := own_rdB1 (xs := PC.set k y) (by rw [List.length_set]; exact PCL.out) (by unfold maxLen; omega) (fun x hx => by
                    rcases List.mem_or_eq_of_mem_set hx with z | z
                    · exact RPC.out.2.1 x z
                    · rw [z]; exact hy) O7.out
                  rw [Value.slice.injEq] at e7
                  obtain ⟨ea7, _, ec7⟩ := e7
                  subst ea7
                  subst ec7
                  have CQ3 := hide (FF.out.put (i : Int) (some ⟨qg, 0, none⟩) (PC.set k y) vc KW7.out.fa r7 (by rw [List.length_set, PCL.out]; exact l7) m7 (by rw [List.length_set, PCL.out]; omega) (fun e => by cases e) (fun p hp z => by cases hp; have z2 := FF.out.lt KK.out.fa _ z; have := QG.out; simp at z2; omega) (by omega) (by omega))
                  rw [PF3.out, PN3.out, PH3.out, List.length_set, PCL.out, err_some (show (3 : Int) ≠ 0 by decide)] at CQ3
                  clear O7 B7 r7 l7 m7 PF3 PN3 PH3
                  go_upto_region 25 with (go_at_call 14; refine CQ3.out.mono ?_; rintro e w8 ⟨K8, rfl, fa8, st8, hk8⟩; have KW8 := hide (KW7.out.put fa8 st8 hk8); clear fa8 st8 hk8)
                  have E3 := hide (HER.out 3 w8 KW8.out.bel)
                  rw [err_some (show (3 : Int) ≠ 0 by decide)] at E3
                  clear CQ3 KW7 KK RPC
                  go_upto_region 26 with (go_at_call 11; refine E3.out.mono ?_; rintro e w9 ⟨rfl, hb9⟩; have KQ := hide (KW8.out.up FF.out hb9); clear hb9)
                  clear E3 KW8
                  go_upto_region 28 with fail
                  have BQ := hide (HB.out.below KQ.out.bel)
                  have RQ : Hid (RdB w9 (some ⟨bb, bo + F0, none⟩) PC) := by
                    have := (BQ.out.drop F0).take m
                    rw [PE.out] at this
                    exact this
                  have CQ := hide (FF.out.put (i : Int) (some ⟨bb, bo + F0, none⟩) PC (ca - F0) KQ.out.fa RQ.out (by rw [PCL.out]; omega) (by omega) (by rw [PCL.out]; omega) (fun e => by cases e) (fun p hp z => by cases hp; have z2 := (KQ.out.kk _ z).1; have := KQ.out.wn; have := BBW.out; simp at z2; omega) (by omega) (by omega))
                  rw [HPi.out.1, HPi.out.2.1, HPi.out.2.2, err_nil rfl, PCL.out] at CQ
                  go_upto_region 29 with (go_at_call 14; refine CQ.out.mono ?_; rintro e w10 ⟨K10, rfl, fa10, st10, hk10⟩; have KX := hide (KQ.out.put fa10 st10 hk10); clear fa10 st10 hk10)
                  have sc : w10.cell? ⟨sb, i, none⟩ = some (.bool sv) := by
                    rw [KX.out.sn.cellAt i (by rw [SL.out]; omega), List.getElem?_map, List.getElem?_eq_getElem SLI.out, HSV.out]
                    simp [List.getD, SLI.out]
                  have sf : w10.frozen? ⟨sb, i, none⟩ = false := KX.out.sn.frozenAt i
                  have KS := hide (KX.out.see FF.out SLI.out)
                  have SL2 : Hid ((seen.set i true).length = P.length) := by unfold Hid; rw [List.length_set]; exact SL.out
                  have SA2 : Hid (∀ j, ol.length + j < t + 1 → (seen.set i true).getD j false = true) := fun j hj => by
                    by_cases q : i = j
                    · subst q
                      simp [List.getD, SLI.out]
                    · have e : (seen.set i true).getD j false = seen.getD j false := by simp [List.getD, List.getElem?_set_ne q]
                      rw [e]
                      refine SA.out j ?_
                      by_cases z : ol.length + j < t
                      · exact z
                      · exfalso
                        have z2 := IC.out (by omega)
                        omega
                  clear CQ BQ RQ KQ
                  clear SLI
                  cases sv <;> (
                    go_wp2
                    exact ⟨⟨t + 1, K10, seen.set i true, by omega, rfl, SL2, SA2, KS⟩, by show ol.length + P.length - ((t : Int) + 1).toNat < ol.length + P.length - ((t : Int)).toNat; omega⟩)
              · have h2 : decide ((k : Int) < (m : Int)) = false := decide_eq_false (by omega)
                have h2z : ¬ (k : Int) < (m : Int) := by omega
                have KQ := KK
                clear km KK RPC HNi an
                go_upto_region 28 with fail
                have BQ := hide (HB.out.below KQ.out.bel)
                have RQ : Hid (RdB wr (some ⟨bb, bo + F0, none⟩) PC) := by
                  have := (BQ.out.drop F0).take m
                  rw [PE.out] at this
                  exact this
                have CQ := hide (FF.out.put (i : Int) (some ⟨bb, bo + F0, none⟩) PC (ca - F0) KQ.out.fa RQ.out (by rw [PCL.out]; omega) (by omega) (by rw [PCL.out]; omega) (fun e => by cases e) (fun p hp z => by cases hp; have z2 := (KQ.out.kk _ z).1; have := KQ.out.wn; have := BBW.out; simp at z2; omega) (by omega) (by omega))
                rw [HPi.out.1, HPi.out.2.1, HPi.out.2.2, err_nil rfl, PCL.out] at CQ
                go_upto_region 29 with (go_at_call 14; refine CQ.out.mono ?_; rintro e w10 ⟨K10, rfl, fa10, st10, hk10⟩; have KX := hide (KQ.out.put fa10 st10 hk10); clear fa10 st10 hk10)
                have sc : w10.cell? ⟨sb, i, none⟩ = some (.bool sv) := by
                  rw [KX.out.sn.cellAt i (by rw [SL.out]; omega), List.getElem?_map, List.getElem?_eq_getElem SLI.out, HSV.out]
                  simp [List.getD, SLI.out]
                have sf : w10.frozen? ⟨sb, i, none⟩ = false := KX.out.sn.frozenAt i
                have KS := hide (KX.out.see FF.out SLI.out)
                have SL2 : Hid ((seen.set i true).length = P.length) := by unfold Hid; rw [List.length_set]; exact SL.out
                have SA2 : Hid (∀ j, ol.length + j < t + 1 → (seen.set i true).getD j false = true) := fun j hj => by
                  by_cases q : i = j
                  · subst q
                    simp [List.getD, SLI.out]
                  · have e : (seen.set i true).getD j false = seen.getD j false := by simp [List.getD, List.getElem?_set_ne q]
                    rw [e]
                    refine SA.out j ?_
                    by_cases z : ol.length + j < t
                    · exact z
                    · exfalso
                      have z2 := IC.out (by omega)
                      omega
                clear CQ BQ RQ KQ
                clear SLI
                cases sv <;> (
                  go_wp2
                  exact ⟨⟨t + 1, K10, seen.set i true, by omega, rfl, SL2, SA2, KS⟩, by show ol.length + P.length - ((t : Int) + 1).toNat < ol.length + P.length - ((t : Int)).toNat; omega⟩)
          · have NOI : Hid (t < ol.length) := by
              by_cases z : t < ol.length
              · exact z
              · exact absurd ⟨by rw [IC.out z]; omega, by rw [IC.out z]; omega⟩ rng
            have SA2 : Hid (∀ j, ol.length + j < t + 1 → seen.getD j false = true) := fun j hj => by have := NOI.out; omega
            have ways : (decide (iv < 0) = true) ∨ (decide (iv < 0) = false ∧ decide ((P.length : Int) ≤ iv) = true) := by
              simp only [decide_eq_true_iff, decide_eq_false_iff_not]
              omega
            clear rng IC
            rcases ways with g1 | ⟨g1, g2⟩
            all_goals (
              go_wp2
              exact ⟨⟨t + 1, Kt, seen, by omega, rfl, SL, SA2, KK⟩, by show ol.length + P.length - ((t : Int) + 1).toNat < ol.length + P.length - ((t : Int)).toNat; omega⟩))
      · have te : t = ol.length + P.length := by omega
        have tz : ¬ (t : Int) < (ol.length : Int) + (P.length : Int) := by omega
        have HX := HA.out seen SL.out (fun i hi => SA.out i (by have := SL.out; omega))
        have BY := hide (FF.out.bytes KK.out.fa)
        rw [HX.1, HX.2.1, err_nil rfl] at BY
        have LK := hide (fun (W : World) (hW : Below wr.heap.size wr W) => FF.out.lacks (KK.out.up FF.out hW).fa)
        rw [HX.2.2] at LK
        simp only [List.length_nil] at LK
        have CB := hide (fun (W : World) (hW : Below wr.heap.size wr W) => conv_by (HB.out.below (below_on KK.out.bel hW)) ca)
        have KB := hide KK.out.bel
        clear HX te SA SL HP HN HA PI PA HO HOI RP
        go_upto_region 33 with (go_at_call 15; refine BY.out.mono ?_; rintro e w6 ⟨va, vc, rfl, r6, hb6⟩; have R6 := hide r6; have B6 := hide hb6; clear r6 hb6)
        go_wp2_with (go_at_call 16; refine (LK.out _ B6.out).mono ?_; rintro e w7 ⟨ua, uc, rfl, _, hb7⟩; have s1 := conv_by (R6.out.below hb7) vc; have s2 := CB.out w7 (below_on B6.out hb7); have B7 := hide (below_on B6.out hb7); clear hb7)
        go_ret
        exact ⟨rfl, below_on KB.out B7.out⟩
  · have pv : M.planV bs size = [] := by unfold M.planV; rw [if_neg pf]
    rw [err_some pf, pv] at P1
    simp only [List.length_nil] at P1
    clear pf pv FF HO HOI HER HB
    generalize M.planF bs size = pf at *
    go_upto_region 5 with (go_at_call 12; refine (P1.out _ K2.out).mono ?_; rintro e w3 ⟨v3, rfl, o3, b3⟩; have O3 := hide o3; have K3 := hide (below_on K2.out b3); clear o3 b3)
    obtain ⟨pa, pc3, ev, rp, _, _⟩ := own_rdP (l := []) rfl (Nat.zero_le _) O3.out
    subst ev
    clear rp O3 P1
    go_wp2
    go_ret
    exact ⟨rfl, K3.out⟩

end Go.Proofs.YtelncekgjfpogahDoor
