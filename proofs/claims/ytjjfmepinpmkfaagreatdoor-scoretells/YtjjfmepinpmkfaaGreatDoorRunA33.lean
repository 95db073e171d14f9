/-
  Several texts as one: ShDoY.
-/
import Derived.Test.YtjjfmepinpmkfaaGreatDoorRunA31
import Derived.Test.YtjjfmepinpmkfaaGreatDoorRunA32
import Derived.Deep.Cut
import Derived.Deep.CutRange
namespace Go.Proofs.YtjjfmepinpmkfaaGreatDoor
open Go.ChangeShapes Go.WideShapes Go.ChangeAt Go.RowKit Go.Lib Go.Maps
set_option linter.unusedVariables false
set_option maxHeartbeats 16000000 in
set_option maxRecDepth 10000 in
theorem sh_Do_yes {W : World} {f : Nat} {T : Nat → Nat} {S : M.Sh} {mm ml : Nat} {D E : DataW Value} {kb : Nat → Nat} {mb : List Nat → Nat} {va : List Nat → Option Addr} {vc : List Nat → Nat} {G : Nat → Gr} (h : SV W f T S mm ml D E kb mb va vc G) (c : M.Ca) (a : Option Addr) (cap : Nat) (hb : isB c.name) (hr : RdB W a c.bys) (ha : c.bys ≠ [] → ∀ p, a = some p → T p.block = 0) (hc : c.bys.length ≤ cap) (h63 : cap ≤ 9223372036854775807) (hi : S.idx ≤ 900000) (hn : I64 c.num) (hs : I64 c.share) (q1 : M.callF c = 0) (q2 : ¬ (M.was S c.ses).seq = c.seq) (q3 : ¬ c.seq < (M.was S c.ses).seq) :
    Calls Tryz.prog 8 #[.pointer (some ⟨f, 0, none⟩), caV c a cap] W fun e w' => e = .returned (.tuple #[anV (M.cntF S c).1, errV (M.cntF S c).2.1]) ∧ Left W f T (M.cntF S c).2.2 w' := by
  obtain ⟨wh, ses1, seq1, nl⟩ := M.call_seq q1
  have i0 := h.inv.ok.i0
  unfold caV
  obtain ⟨W1, hW1⟩ : ∃ X, X = (W.alloc (.cells #[.int .i64 c.what, .int .i64 c.ses, .int .i64 c.seq, .string (byStr c.name), .int .i64 c.num, .int .i64 c.share, .slice a c.bys.length cap] 36)).alloc (.cells #[.int .i64 0, .int .i64 0] 31) := ⟨_, rfl⟩
  have z1 : W1.heap.size = W.heap.size + 1 + 1 := by rw [hW1]; simp
  have b1 : Hid (Below W.heap.size W W1) := by unfold Hid; rw [hW1]; exact ((Below.refl _ _).alloc (Nat.le_refl _) _).alloc (by simp) _
  have bx : Bx W1 W.heap.size [.int .i64 c.what, .int .i64 c.ses, .int .i64 c.seq, .string (byStr c.name), .int .i64 c.num, .int .i64 c.share, .slice a c.bys.length cap] := by rw [hW1]; exact (bx_new W _ _).keep (((Below.refl _ _).alloc (Nat.le_refl _) _).block _ (by simp))
  have ba : Bx W1 (W.heap.size + 1) [.int .i64 0, .int .i64 0] := by
    rw [hW1]
    have := bx_new (W.alloc (.cells #[.int .i64 c.what, .int .i64 c.ses, .int .i64 c.seq, .string (byStr c.name), .int .i64 c.num, .int .i64 c.share, .slice a c.bys.length cap] 36)) [.int .i64 0, .int .i64 0] 31
    rwa [show (W.alloc (.cells #[.int .i64 c.what, .int .i64 c.ses, .int .i64 c.seq, .string (byStr c.name), .int .i64 c.num, .int .i64 c.share, .slice a c.bys.length cap] 36)).heap.size = W.heap.size + 1 by simp] at this
  have CK := hide (sh_check c a cap hb (by omega) W1)
  unfold caV at CK
  rw [err_nil q1] at CK
  have BX := hide bx
  have BA := hide ba
  have c0 := bx.cell 0 _ rfl
  have c1 := bx.cell 1 _ rfl
  have c2 := bx.cell 2 _ rfl
  have c3 := bx.cell 3 _ rfl
  have c4 := bx.cell 4 _ rfl
  have c5 := bx.cell 5 _ rfl
  have c6 := bx.cell 6 _ rfl
  clear bx ba
  have fl : f < W.heap.size := h.lt
  have Z1 := hide z1
  have KP : Hid (∀ w2, Below W1.heap.size W1 w2 → (∀ j, w2.cell? ⟨W.heap.size, j, none⟩ = W1.cell? ⟨W.heap.size, j, none⟩) ∧ W.heap.size + 1 < w2.heap.size ∧ w2.cell? ⟨f, 1, none⟩ = some (.map (some ml)) ∧ (Instr.lookup 76 (.map (some ml)) (.int .i64 c.ses) false).run Tryz.prog w2 = .ok (lastV (M.was S c.ses)) w2 ∧ (Instr.lookup 76 (.map (some ml)) (.int .i64 c.ses) false).run Tryz.prog w2.drew = .ok (lastV (M.was S c.ses)) w2.drew ∧ (Instr.lookup 76 (.map (some ml)) (.int .i64 c.ses) false).run Tryz.prog (w2.alloc (.cells #[.int .i64 0, .int .i64 0, .int .i64 0, .nilIface] 86)) = .ok (lastV (M.was S c.ses)) (w2.alloc (.cells #[.int .i64 0, .int .i64 0, .int .i64 0, .nilIface] 86)) ∧ (Instr.lookup 76 (.map (some ml)) (.int .i64 c.ses) false).run Tryz.prog (w2.alloc (.cells #[.int .i64 0, .int .i64 0, .int .i64 0, .nilIface] 86)).drew = .ok (lastV (M.was S c.ses)) (w2.alloc (.cells #[.int .i64 0, .int .i64 0, .int .i64 0, .nilIface] 86)).drew) := fun w2 hw => by
    have hb := below_on b1.out hw
    have h2 := h.below hb
    have h3 := h.below hb.drew
    exact ⟨fun j => hw.cell (p := ⟨W.heap.size, j, none⟩) BX.out.lt, by have := hw.size; have := Z1.out; omega, h2.box.cell 1 _ rfl, h2.lookL ses1, h3.lookL ses1, (h.below (hb.alloc hb.size _)).lookL ses1, (h.below (hb.alloc hb.size _).drew).lookL ses1⟩
  unfold lastV at KP
  have g1 : (c.seq == (M.was S c.ses).seq) = false := by rw [beq_eq_false_iff_ne]; exact fun z => q2 z.symm
  have g2 : decide (c.seq < (M.was S c.ses).seq) = false := decide_eq_false q3
  have T0 : Hid (∀ q, W.heap.size ≤ q → T q = 0) := fun q hq => by
    by_cases z : T q = 0
    · exact z
    · have := h.tlt q z; omega
  have AFT := hide (fun wc (hw : Below W.heap.size W wc) hX hA => cnt_do h c a cap hb nl hr ha hc h63 hi hn hs wh hw hX hA)
  unfold caV at AFT
  have SD := hide (fun (w : World) (N : Nat) (hL : LeftN W f T N ⟨S.idx + 1, (M.act S c).2.2, S.done⟩ w) (hN : W.heap.size ≤ N) => said_left (S := S) (d := ⟨c.ses, c.seq, if (M.act S c).2.1 = 0 then ⟨(M.act S c).1, S.idx + 1⟩ else M.an0, (M.act S c).2.1⟩) hL hN h.inv.dl hi ses1 (fun z => by
    have z' : (M.act S c).2.1 = 0 := z
    show 1 ≤ (if (M.act S c).2.1 = 0 then (⟨(M.act S c).1, S.idx + 1⟩ : M.An) else M.an0).idx ∧ _
    rw [if_pos z']
    show 1 ≤ S.idx + 1 ∧ S.idx + 1 ≤ S.idx + 1
    omega))
  have UP : Hid (∀ w2 wc, Below W1.heap.size W1 w2 → Below w2.heap.size w2 wc → Below W.heap.size W wc ∧ Bx wc W.heap.size [.int .i64 c.what, .int .i64 c.ses, .int .i64 c.seq, .string (byStr c.name), .int .i64 c.num, .int .i64 c.share, .slice a c.bys.length cap] ∧ Bx wc (W.heap.size + 1) [.int .i64 0, .int .i64 0]) := fun w2 wc h1 h2 => by
    have h3 := below_on h1 h2
    exact ⟨below_on b1.out h3, BX.out.keep (h3.block _ BX.out.lt), BA.out.keep (h3.block _ BA.out.lt)⟩
  have CN : Hid (M.cntF S c = (if (M.act S c).2.1 = 0 then ⟨(M.act S c).1, S.idx + 1⟩ else M.an0, (M.act S c).2.1, ⟨S.idx + 1, (M.act S c).2.2, M.say S.done (M.lastN ⟨S.idx + 1, (M.act S c).2.2, S.done⟩ c.ses) ⟨c.ses, c.seq, if (M.act S c).2.1 = 0 then ⟨(M.act S c).1, S.idx + 1⟩ else M.an0, (M.act S c).2.1⟩⟩)) := rfl
  rw [CN.out]
  simp only
  unfold lastV at SD
  have ways := err_ways (M.was S c.ses).bad
  clear hb hr ha hc hn hs q1 q2 q3 wh ses1 seq1 nl h CN z1
  generalize hS9 : (⟨S.idx + 1, (M.act S c).2.2, M.say S.done (M.lastN ⟨S.idx + 1, (M.act S c).2.2, S.done⟩ c.ses) ⟨c.ses, c.seq, if (M.act S c).2.1 = 0 then ⟨(M.act S c).1, S.idx + 1⟩ else M.an0, (M.act S c).2.1⟩⟩ : M.Sh) = S9 at *
  clear hS9
  generalize (⟨S.idx + 1, (M.act S c).2.2, S.done⟩ : M.Sh) = S6 at *
  generalize (M.act S c).2.1 = re at *
  generalize (M.act S c).1 = rn at *
  generalize hI : S.idx = I at *
  clear hI
  generalize (M.was S c.ses).seq = y0 at *
  generalize (M.was S c.ses).ans.num = y1 at *
  generalize (M.was S c.ses).ans.idx = y2 at *
  generalize errV (M.was S c.ses).bad = y3 at *
  generalize byStr c.name = s at *
  go_enter Tryz.func8, Tryz.ntmps8
  go_upto_region 1 with fail
  rw [← hW1]
  clear hW1
  go_upto_region 4 with (go_at_call 30; refine CK.out.mono ?_; rintro e w2 ⟨rfl, h2⟩; obtain ⟨kc, l3, k1, lk, lkd, lka, lkad⟩ := KP.out _ h2; have H2 := hide h2; clear h2)
  go_cut [7] from 17 to 23 (fun v wx => v = .pointer (some ⟨w2.heap.size, 0, none⟩) ∧ Hid (Bx wx w2.heap.size [.int .i64 y0, .int .i64 y1, .int .i64 y2, y3]) ∧ Hid (Below w2.heap.size w2 wx))
  case first =>
    have d1 := (kc 1).trans c1
    have d2 := (kc 2).trans c2
    have l1 : W.heap.size < w2.heap.size := by omega
    have l2 : ¬ W.heap.size = w2.heap.size := by omega
    have l6 : f < w2.heap.size := by omega
    have l7 : ¬ f = w2.heap.size := by omega
    clear kc c0 c1 c2 c3 c4 c5 c6 CK KP AFT SD
    obtain rfl | ⟨x3, rfl⟩ := ways
    · go_region_with (fail)
      all_goals (
        go_wp2
        go_meet
        case rel => exact ⟨rfl, bx_new w2 [.int .i64 y0, .int .i64 y1, .int .i64 y2, .nilIface] 86, (((Below.refl _ w2).alloc (Nat.le_refl _) _).drew)⟩)
    · go_region_with (fail)
      all_goals (
        go_wp2
        go_meet
        case rel => exact ⟨rfl, bx_new w2 [.int .i64 y0, .int .i64 y1, .int .i64 y2, .iface 87 (.int .i64 x3)] 86, (((Below.refl _ w2).alloc (Nat.le_refl _) _).drew)⟩)
  case rest =>
    obtain ⟨rfl, HB, HL⟩ := hcut
    obtain ⟨wm, hwm⟩ : ∃ x, x = wc := ⟨_, rfl⟩
    subst hwm
    obtain ⟨wb, bX, bA⟩ := UP.out w2 wm H2.out HL.out
    obtain ⟨⟨x2, xf⟩, oc, DO⟩ := AFT.out wm wb bX bA
    have d2 := bX.cell 2 _ rfl
    have p0 := HB.out.cell 0 _ rfl
    have e0 := (oc 0).trans (bX.cell 0 _ rfl)
    have e1 := (oc 1).trans (bX.cell 1 _ rfl)
    have e2 := (oc 2).trans (bX.cell 2 _ rfl)
    have e3 := (oc 3).trans (bX.cell 3 _ rfl)
    have e4 := (oc 4).trans (bX.cell 4 _ rfl)
    have e5 := (oc 5).trans (bX.cell 5 _ rfl)
    have e6 := (oc 6).trans (bX.cell 6 _ rfl)
    have DO' := hide DO
    have zc : Hid (W.heap.size + 1 < wm.heap.size) := bA.lt
    have z4 : Hid ((wm.setCell ⟨f, 2, none⟩ (.int .i64 (I + 1))).heap.size = wm.heap.size) := World.size_setCell ..
    clear DO AFT UP oc bX bA wb k1 lk lkd lka lkad kc c0 c1 c2 c3 c4 c5 c6 CK KP ways
    go_upto_region 10 with fail
    generalize hw4 : wm.setCell ⟨f, 2, none⟩ (.int .i64 (I + 1)) = w4 at *
    clear hw4 x2 xf d2 p0 HB HL
    have l1 : W.heap.size < w4.heap.size := by have := z4.out; have := zc.out; omega
    have l2 : ¬ W.heap.size = w4.heap.size := by omega
    go_upto_region 12 with (go_at_call 31; refine DO'.out.mono ?_; rintro e w6 ⟨rfl, lf, b8, b0, ba⟩; have LF := hide lf; have B8 := hide b8; have B0 := hide b0; have BA6 := hide ba; clear lf b8 b0 ba)
    clear e0 e1 e2 e3 e4 e5 e6 DO'
    have hz4 := z4.out
    rw [hz4] at *
    clear hz4
    have b81 := B8.out.cell 1 _ rfl
    have b82 := B8.out.cell 2 _ rfl
    have b83 := B8.out.cell 3 _ rfl
    have f81 := B8.out.free 1
    have f82 := B8.out.free 2
    have f83 := B8.out.free 3
    by_cases hz : re = 0
    case neg =>
      rw [if_neg hz, err_some hz] at SD
      rw [err_some hz]
      have HZ := hide hz
      clear hz
      go_upto_region 15 with fail
      clear b81 b82 b83 f81 f82 f83
      have L7 : Hid (LeftN W f T (wm.heap.size + 1) S6 (w6.setCell ⟨wm.heap.size, 3, none⟩ (.iface 87 (.int .i64 re)))) := LF.out.set (T0.out _ (by have := zc.out; omega)) (by omega) (by have := zc.out; omega)
      have B7 : Hid (Bx (w6.setCell ⟨wm.heap.size, 3, none⟩ (.iface 87 (.int .i64 re))) wm.heap.size [.int .i64 c.seq, .int .i64 0, .int .i64 0, .iface 87 (.int .i64 re)]) := B8.out.put (j := 3)
      have A7 : Hid (Bx (w6.setCell ⟨wm.heap.size, 3, none⟩ (.iface 87 (.int .i64 re))) (W.heap.size + 1) [.int .i64 0, .int .i64 0]) := BA6.out.else (by have := zc.out; omega)
      have C7 : Hid ((w6.setCell ⟨wm.heap.size, 3, none⟩ (.iface 87 (.int .i64 re))).cell? ⟨W.heap.size, 1, none⟩ = some (.int .i64 c.ses)) := (B0.out.else (by have := zc.out; omega)).cell 1 _ rfl
      clear LF B8 B0 BA6
      generalize (w6.setCell ⟨wm.heap.size, 3, none⟩ (.iface 87 (.int .i64 re))) = w7 at *
      obtain ⟨ml7, v1, _, _, upd⟩ := SD.out _ _ L7.out (by have := zc.out; omega)
      obtain ⟨w9, r9, lf9, k9, z9⟩ := upd w7 rfl rfl rfl rfl
      obtain ⟨wd, rd, lfd, kd, zd⟩ := upd w7.drew rfl rfl rfl rfl
      replace r9 : (Instr.mapUpdate 76 (.map (some ml7)) (.int .i64 c.ses) (.agg #[.int .i64 c.seq, .int .i64 0, .int .i64 0, .iface 87 (.int .i64 re)])).run Tryz.prog w7 = .ok () w9 := r9
      replace rd : (Instr.mapUpdate 76 (.map (some ml7)) (.int .i64 c.ses) (.agg #[.int .i64 c.seq, .int .i64 0, .int .i64 0, .iface 87 (.int .i64 re)])).run Tryz.prog w7.drew = .ok () wd := rd
      have c71 := C7.out
      have b70 := B7.out.cell 0 _ rfl
      have b71 := B7.out.cell 1 _ rfl
      have b72 := B7.out.cell 2 _ rfl
      have b73 := B7.out.cell 3 _ rfl
      have zc' := zc.out
      have b7l := B7.out.lt
      have a7l := A7.out.lt
      have R9 : Hid (LeftN W f T (wm.heap.size + 1) S9 w9 ∧ Bx w9 wm.heap.size [.int .i64 c.seq, .int .i64 0, .int .i64 0, .iface 87 (.int .i64 re)] ∧ Bx w9 (W.heap.size + 1) [.int .i64 0, .int .i64 0]) := ⟨lf9, B7.out.keep (k9 _ b7l (T0.out _ (by omega)) (by omega)), A7.out.keep (k9 _ a7l (T0.out _ (by omega)) (by omega))⟩
      have RD : Hid (LeftN W f T (wm.heap.size + 1) S9 wd ∧ Bx wd wm.heap.size [.int .i64 c.seq, .int .i64 0, .int .i64 0, .iface 87 (.int .i64 re)] ∧ Bx wd (W.heap.size + 1) [.int .i64 0, .int .i64 0]) := ⟨lfd, B7.out.keep (kd _ b7l (T0.out _ (by omega)) (by omega)), A7.out.keep (kd _ a7l (T0.out _ (by omega)) (by omega))⟩
      clear upd lf9 lfd k9 kd SD zd z9 zc' b7l a7l
      go_cut [8] from 67 to 73 (fun v wx => v = .pointer (some ⟨wm.heap.size, 0, none⟩) ∧ Hid (LeftN W f T (wm.heap.size + 1) S9 wx ∧ Bx wx wm.heap.size [.int .i64 c.seq, .int .i64 0, .int .i64 0, .iface 87 (.int .i64 re)] ∧ Bx wx (W.heap.size + 1) [.int .i64 0, .int .i64 0]))
      case first =>
        go_region_with (fail)
        all_goals (
          go_wp2
          go_meet
          case rel => first | exact ⟨rfl, R9⟩ | exact ⟨rfl, RD⟩ | exact ⟨rfl, RD.out.1.drew, RD.out.2⟩ | exact ⟨rfl, R9.out.1.drew, R9.out.2⟩)
      case rest =>
        clear r9 rd v1 b70 b71 b72 b73 c71
        obtain ⟨rfl, HF⟩ := hcut
        have rb := HF.out.2.1
        have ra := HF.out.2.2
        have p0 := rb.cell 0 _ rfl
        have p1 := rb.cell 1 _ rfl
        have p2 := rb.cell 2 _ rfl
        have p3 := rb.cell 3 _ rfl
        have s0 := ra.cell 0 _ rfl
        have s1 := ra.cell 1 _ rfl
        have t0 := ra.free 0
        have t1 := ra.free 1
        have n1 : ¬ W.heap.size + 1 = wm.heap.size := by have := zc.out; omega
        have n2 : ¬ wm.heap.size = W.heap.size + 1 := by omega
        have fin := (ra.put (j := 0) (v := .int .i64 0)).put (j := 1) (v := .int .i64 0)
        have e0 := fin.cell 0 _ rfl
        have e1 := fin.cell 1 _ rfl
        have E0 := hide e0
        have E1 := hide e1
        have LFF : Hid (Left W f T S9 ((wc.setCell ⟨W.heap.size + 1, 0, none⟩ (.int .i64 0)).setCell ⟨W.heap.size + 1, 1, none⟩ (.int .i64 0))) := ((HF.out.1.set (T0.out _ (by omega)) (by have := zc.out; omega) (by omega)).set (T0.out _ (by omega)) (by have := zc.out; omega) (by omega)).left (by have := zc.out; omega)
        have DR : Hid (∀ V, Left W f T S9 V → Left W f T S9 V.drew) := fun V ⟨T', g1, g2, g3⟩ => ⟨T', g1.up (fun _ _ => rfl) (Nat.le_refl _), ⟨g2.os, g2.tape, g2.output, g2.size, g2.block⟩, g3⟩
        clear rb ra fin e0 e1
        go_upto_region 16 with fail
        go_region_with (fail)
        all_goals (
          go_simp
          go_wp2
          have e0 := E0.out
          have e1 := E1.out
          refine bodyPost_ret (v := .tuple #[.agg #[.int .i64 0, .int .i64 0], .iface 87 (.int .i64 re)]) (by simp [results, Tryz.results8, go_sem, e0, e1]) rfl ?_
          refine ⟨by rw [err_some HZ.out]; rfl, ?_⟩
          repeat (first | exact LFF.out | refine DR.out _ ?_))
    case pos =>
      rw [if_pos hz, err_nil hz] at SD
      rw [err_nil hz]
      have HZ := hide hz
      clear hz
      obtain ⟨_, _, v2, _, _⟩ := SD.out _ _ LF.out (by have := zc.out; omega)
      go_upto_region 15 with fail
      clear b81 b82 b83 f81 f82 f83 v2
      have L7 : Hid (LeftN W f T (wm.heap.size + 1) S6 ((w6.setCell ⟨wm.heap.size, 1, none⟩ (.int .i64 rn)).setCell ⟨wm.heap.size, 2, none⟩ (.int .i64 (I + 1)))) := (LF.out.set (T0.out _ (by have := zc.out; omega)) (by omega) (by have := zc.out; omega)).set (T0.out _ (by have := zc.out; omega)) (by omega) (by have := zc.out; omega)
      have B7 : Hid (Bx ((w6.setCell ⟨wm.heap.size, 1, none⟩ (.int .i64 rn)).setCell ⟨wm.heap.size, 2, none⟩ (.int .i64 (I + 1))) wm.heap.size [.int .i64 c.seq, .int .i64 rn, .int .i64 (I + 1), .nilIface]) := (B8.out.put (j := 1)).put (j := 2)
      have A7 : Hid (Bx ((w6.setCell ⟨wm.heap.size, 1, none⟩ (.int .i64 rn)).setCell ⟨wm.heap.size, 2, none⟩ (.int .i64 (I + 1))) (W.heap.size + 1) [.int .i64 0, .int .i64 0]) := (BA6.out.else (by have := zc.out; omega)).else (by have := zc.out; omega)
      have C7 : Hid (((w6.setCell ⟨wm.heap.size, 1, none⟩ (.int .i64 rn)).setCell ⟨wm.heap.size, 2, none⟩ (.int .i64 (I + 1))).cell? ⟨W.heap.size, 1, none⟩ = some (.int .i64 c.ses)) := ((B0.out.else (by have := zc.out; omega)).else (by have := zc.out; omega)).cell 1 _ rfl
      clear LF B8 B0 BA6
      generalize ((w6.setCell ⟨wm.heap.size, 1, none⟩ (.int .i64 rn)).setCell ⟨wm.heap.size, 2, none⟩ (.int .i64 (I + 1))) = w7 at *
      obtain ⟨ml7, v1, _, _, upd⟩ := SD.out _ _ L7.out (by have := zc.out; omega)
      obtain ⟨w9, r9, lf9, k9, z9⟩ := upd w7 rfl rfl rfl rfl
      obtain ⟨wd, rd, lfd, kd, zd⟩ := upd w7.drew rfl rfl rfl rfl
      replace r9 : (Instr.mapUpdate 76 (.map (some ml7)) (.int .i64 c.ses) (.agg #[.int .i64 c.seq, .int .i64 rn, .int .i64 (I + 1), .nilIface])).run Tryz.prog w7 = .ok () w9 := r9
      replace rd : (Instr.mapUpdate 76 (.map (some ml7)) (.int .i64 c.ses) (.agg #[.int .i64 c.seq, .int .i64 rn, .int .i64 (I + 1), .nilIface])).run Tryz.prog w7.drew = .ok () wd := rd
      have c71 := C7.out
      have b70 := B7.out.cell 0 _ rfl
      have b71 := B7.out.cell 1 _ rfl
      have b72 := B7.out.cell 2 _ rfl
      have b73 := B7.out.cell 3 _ rfl
      have zc' := zc.out
      have b7l := B7.out.lt
      have a7l := A7.out.lt
      have R9 : Hid (LeftN W f T (wm.heap.size + 1) S9 w9 ∧ Bx w9 wm.heap.size [.int .i64 c.seq, .int .i64 rn, .int .i64 (I + 1), .nilIface] ∧ Bx w9 (W.heap.size + 1) [.int .i64 0, .int .i64 0]) := ⟨lf9, B7.out.keep (k9 _ b7l (T0.out _ (by omega)) (by omega)), A7.out.keep (k9 _ a7l (T0.out _ (by omega)) (by omega))⟩
      have RD : Hid (LeftN W f T (wm.heap.size + 1) S9 wd ∧ Bx wd wm.heap.size [.int .i64 c.seq, .int .i64 rn, .int .i64 (I + 1), .nilIface] ∧ Bx wd (W.heap.size + 1) [.int .i64 0, .int .i64 0]) := ⟨lfd, B7.out.keep (kd _ b7l (T0.out _ (by omega)) (by omega)), A7.out.keep (kd _ a7l (T0.out _ (by omega)) (by omega))⟩
      clear upd lf9 lfd k9 kd SD zd z9 zc' b7l a7l
      go_cut [8] from 67 to 73 (fun v wx => v = .pointer (some ⟨wm.heap.size, 0, none⟩) ∧ Hid (LeftN W f T (wm.heap.size + 1) S9 wx ∧ Bx wx wm.heap.size [.int .i64 c.seq, .int .i64 rn, .int .i64 (I + 1), .nilIface] ∧ Bx wx (W.heap.size + 1) [.int .i64 0, .int .i64 0]))
      case first =>
        go_region_with (fail)
        all_goals (
          go_wp2
          go_meet
          case rel => first | exact ⟨rfl, R9⟩ | exact ⟨rfl, RD⟩ | exact ⟨rfl, RD.out.1.drew, RD.out.2⟩ | exact ⟨rfl, R9.out.1.drew, R9.out.2⟩)
      case rest =>
        clear r9 rd v1 b70 b71 b72 b73 c71
        obtain ⟨rfl, HF⟩ := hcut
        have rb := HF.out.2.1
        have ra := HF.out.2.2
        have p0 := rb.cell 0 _ rfl
        have p1 := rb.cell 1 _ rfl
        have p2 := rb.cell 2 _ rfl
        have p3 := rb.cell 3 _ rfl
        have s0 := ra.cell 0 _ rfl
        have s1 := ra.cell 1 _ rfl
        have t0 := ra.free 0
        have t1 := ra.free 1
        have n1 : ¬ W.heap.size + 1 = wm.heap.size := by have := zc.out; omega
        have n2 : ¬ wm.heap.size = W.heap.size + 1 := by omega
        have fin := (ra.put (j := 0) (v := .int .i64 rn)).put (j := 1) (v := .int .i64 (I + 1))
        have e0 := fin.cell 0 _ rfl
        have e1 := fin.cell 1 _ rfl
        have E0 := hide e0
        have E1 := hide e1
        have LFF : Hid (Left W f T S9 ((wc.setCell ⟨W.heap.size + 1, 0, none⟩ (.int .i64 rn)).setCell ⟨W.heap.size + 1, 1, none⟩ (.int .i64 (I + 1)))) := ((HF.out.1.set (T0.out _ (by omega)) (by have := zc.out; omega) (by omega)).set (T0.out _ (by omega)) (by have := zc.out; omega) (by omega)).left (by have := zc.out; omega)
        have DR : Hid (∀ V, Left W f T S9 V → Left W f T S9 V.drew) := fun V ⟨T', g1, g2, g3⟩ => ⟨T', g1.up (fun _ _ => rfl) (Nat.le_refl _), ⟨g2.os, g2.tape, g2.output, g2.size, g2.block⟩, g3⟩
        clear rb ra fin e0 e1
        go_upto_region 16 with fail
        go_region_with (fail)
        all_goals (
          go_simp
          go_wp2
          have e0 := E0.out
          have e1 := E1.out
          refine bodyPost_ret (v := .tuple #[.agg #[.int .i64 rn, .int .i64 (I + 1)], .nilIface]) (by simp [results, Tryz.results8, go_sem, e0, e1]) rfl ?_
          refine ⟨by rw [err_nil rfl]; rfl, ?_⟩
          repeat (first | exact LFF.out | refine DR.out _ ?_))

theorem sh_Do {W : World} {f : Nat} {T : Nat → Nat} {S : M.Sh} (h : SA W f T S) {c : M.Ca} {a : Option Addr} {cap : Nat} (hc : CaIn W c a cap) (ha : c.bys ≠ [] → ∀ p, a = some p → T p.block = 0) (hi : S.idx ≤ 900000) :
    Calls Tryz.prog 8 #[.pointer (some ⟨f, 0, none⟩), caV c a cap] W fun e w' => e = .returned (.tuple #[anV (M.shDo S c).1, errV (M.shDo S c).2.1]) ∧ Left W f T (M.shDo S c).2.2 w' := by
  obtain ⟨mm, ml, D, E, kb, mb, va, vc, G, h⟩ := h
  by_cases q : M.callF c ≠ 0 ∨ (M.was S c.ses).seq = c.seq ∨ c.seq < (M.was S c.ses).seq
  · exact sh_Do_no h c a cap hc.nb hc.nl q
  · have q1 : M.callF c = 0 := by
      by_cases z : M.callF c = 0
      · exact z
      · exact absurd (.inl z) q
    have q2 : ¬ (M.was S c.ses).seq = c.seq := fun z => q (.inr (.inl z))
    have q3 : ¬ c.seq < (M.was S c.ses).seq := fun z => q (.inr (.inr z))
    rw [M.do_is q1, if_neg q2, if_neg q3]
    exact sh_Do_yes h c a cap hc.nb hc.rd ha hc.le hc.cp hi hc.num hc.shr q1 q2 q3
end Go.Proofs.YtjjfmepinpmkfaaGreatDoor
