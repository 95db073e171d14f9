/-
  Several texts as one: ShDoY, CaCells.
-/
import Derived.Test.YtiggkjkjfnlfkaaGreatDoorRunS22
import Derived.Test.YtiggkjkjfnlfkaaGreatDoorRunS24
import Derived.Deep.Cut
import Derived.Deep.CutRange
import Derived.Test.YtiggkjkjfnlfkaaGreatDoorRunS21
namespace Go.Proofs.YtiggkjkjfnlfkaaGreatDoor
open Go.ChangeShapes Go.WideShapes Go.ChangeAt Go.RowKit Go.Lib Go.Maps
set_option linter.unusedVariables false
set_option maxHeartbeats 16000000 in
set_option maxRecDepth 10000 in
theorem sh_Do_no {W : World} {f : Nat} {T : Nat → Nat} {S : M.Sh} {mm ml : Nat} {D E : DataW Value} {kb : Nat → Nat} {mb : List Nat → Nat} {va : List Nat → Option Addr} {vc : List Nat → Nat} {G : Nat → Gr} (h : SV W f T S mm ml D E kb mb va vc G) (c : M.Ca) (a : Option Addr) (cap : Nat) (hb : isB c.name) (hl : c.name.length ≤ 9223372036854775807) (hq : M.callF c ≠ 0 ∨ (M.was S c.ses).seq = c.seq ∨ c.seq < (M.was S c.ses).seq) :
    Calls Tryz.prog 10 #[.pointer (some ⟨f, 0, none⟩), caV c a cap] W fun e w' => e = .returned (.tuple #[anV (M.shDo S c).1, errV (M.shDo S c).2.1]) ∧ Below W.heap.size W w' := by
  unfold caV
  obtain ⟨W1, hW1⟩ : ∃ X, X = (W.alloc (.cells #[.int .i64 c.what, .int .i64 c.ses, .int .i64 c.seq, .string (byStr c.name), .int .i64 c.num, .int .i64 c.share, .slice a c.bys.length cap] 36)).alloc (.cells #[.int .i64 0, .int .i64 0] 31) := ⟨_, rfl⟩
  have z1 : W1.heap.size = W.heap.size + 1 + 1 := by rw [hW1]; simp
  have b1 : Hid (Below W.heap.size W W1) := by unfold Hid; rw [hW1]; exact ((Below.refl _ _).alloc (Nat.le_refl _) _).alloc (by simp) _
  have bx : Bx W1 W.heap.size [.int .i64 c.what, .int .i64 c.ses, .int .i64 c.seq, .string (byStr c.name), .int .i64 c.num, .int .i64 c.share, .slice a c.bys.length cap] := by rw [hW1]; exact (bx_new W _ _).keep (((Below.refl _ _).alloc (Nat.le_refl _) _).block _ (by simp))
  have ba : Bx W1 (W.heap.size + 1) [.int .i64 0, .int .i64 0] := by
    rw [hW1]
    have := bx_new (W.alloc (.cells #[.int .i64 c.what, .int .i64 c.ses, .int .i64 c.seq, .string (byStr c.name), .int .i64 c.num, .int .i64 c.share, .slice a c.bys.length cap] 36)) [.int .i64 0, .int .i64 0] 31
    rwa [show (W.alloc (.cells #[.int .i64 c.what, .int .i64 c.ses, .int .i64 c.seq, .string (byStr c.name), .int .i64 c.num, .int .i64 c.share, .slice a c.bys.length cap] 36)).heap.size = W.heap.size + 1 by simp] at this
  have CT : Hid (Calls Tryz.prog 33 #[.pointer (some ⟨f, 0, none⟩), caV c a cap] W1 fun e w' => e = .returned (.bool false) ∧ Below W1.heap.size W1 w') := by
    have := sh_Counts (h.below b1.out) c a cap hb hl
    rcases M.cnt_ways S c with ⟨_, z, y⟩ | ⟨z, _⟩
    · rcases hq with x | x | x
      · exact absurd z x
      · omega
      · omega
    · rw [z] at this; exact this
  have UN : Hid (∀ w2, Below W1.heap.size W1 w2 → Calls Tryz.prog 34 #[.pointer (some ⟨f, 0, none⟩), caV c a cap] w2 fun e w' => e = .returned (.tuple #[anV (M.shDo S c).1, errV (M.shDo S c).2.1]) ∧ Below w2.heap.size w2 w') := fun w2 hw => sh_unc (h.below (below_on b1.out hw)) c a cap hb hl hq
  unfold caV at CT UN
  have BX := hide bx
  have BA := hide ba
  have c0 := bx.cell 0 _ rfl
  have c1 := bx.cell 1 _ rfl
  have c2 := bx.cell 2 _ rfl
  have c3 := bx.cell 3 _ rfl
  have c4 := bx.cell 4 _ rfl
  have c5 := bx.cell 5 _ rfl
  have c6 := bx.cell 6 _ rfl
  clear bx ba h hq
  unfold anV at UN ⊢
  generalize (M.shDo S c).1.num = y1 at *
  generalize (M.shDo S c).1.idx = y2 at *
  generalize errV (M.shDo S c).2.1 = y3 at *
  have Z1 := hide z1
  clear z1 hb hl
  generalize byStr c.name = s at *
  go_enter Tryz.func10, Tryz.ntmps10
  go_upto_region 1 with fail
  rw [← hW1]
  clear hW1
  go_upto_region 2 with (go_at_call 33; refine CT.out.mono ?_; rintro e w2 ⟨rfl, h2⟩; have U2 := hide (UN.out w2 h2); have d : ∀ j, w2.cell? ⟨W.heap.size, j, none⟩ = W1.cell? ⟨W.heap.size, j, none⟩ := fun j => h2.cell (p := ⟨W.heap.size, j, none⟩) BX.out.lt; have d0 := (d 0).trans c0; have d1 := (d 1).trans c1; have d2 := (d 2).trans c2; have d3 := (d 3).trans c3; have d4 := (d 4).trans c4; have d5 := (d 5).trans c5; have d6 := (d 6).trans c6; have H2 := hide h2; clear h2 d)
  clear c0 c1 c2 c3 c4 c5 c6 CT UN
  have zl : Hid (W.heap.size + 1 < w2.heap.size) := by have := H2.out.size; have := Z1.out; unfold Hid; omega
  go_wp2_with (go_at_call 34; refine U2.out.mono ?_; rintro e w3 ⟨rfl, h3⟩; have B3 : Hid (Bx w3 (W.heap.size + 1) [.int .i64 0, .int .i64 0]) := BA.out.keep (((below_on H2.out h3).block _ BA.out.lt)); have a0 := B3.out.cell 0 _ rfl; have a1 := B3.out.cell 1 _ rfl; have f0 := B3.out.free 0; have f1 := B3.out.free 1; have H3 := hide h3; clear h3)
  have fin := (B3.out.put (j := 0) (v := .int .i64 y1)).put (j := 1) (v := .int .i64 y2)
  have e0 := fin.cell 0 _ rfl
  have e1 := fin.cell 1 _ rfl
  refine bodyPost_ret (v := .tuple #[.agg #[.int .i64 y1, .int .i64 y2], y3]) (by simp [results, Tryz.results10, go_sem, e0, e1]) rfl ?_
  exact ⟨rfl, ((below_on b1.out (below_on H2.out H3.out)).setCell (show W.heap.size ≤ W.heap.size + 1 by omega) _).setCell (show W.heap.size ≤ W.heap.size + 1 by omega) _⟩

set_option maxHeartbeats 16000000 in
set_option maxRecDepth 10000 in
theorem sh_Do_yes {W : World} {f : Nat} {T : Nat → Nat} {S : M.Sh} {mm ml : Nat} {D E : DataW Value} {kb : Nat → Nat} {mb : List Nat → Nat} {va : List Nat → Option Addr} {vc : List Nat → Nat} {G : Nat → Gr} (h : SV W f T S mm ml D E kb mb va vc G) (c : M.Ca) (a : Option Addr) (cap : Nat) (hb : isB c.name) (hr : RdB W a c.bys) (ha : c.bys ≠ [] → ∀ p, a = some p → T p.block = 0) (hc : c.bys.length ≤ cap) (h63 : cap ≤ 9223372036854775807) (hi : S.idx ≤ 900000) (hn : I64 c.num) (hs : I64 c.share) (q1 : M.callF c = 0) (q2 : ¬ (M.was S c.ses).seq = c.seq) (q3 : ¬ c.seq < (M.was S c.ses).seq) :
    Calls Tryz.prog 10 #[.pointer (some ⟨f, 0, none⟩), caV c a cap] W fun e w' => e = .returned (.tuple #[anV (M.cntF S c).1, errV (M.cntF S c).2.1]) ∧ Left W f T (M.cntF S c).2.2 w' := by
  obtain ⟨wh, ses1, seq1, nl⟩ := M.call_seq q1
  have i0 := h.inv.ok.i0
  unfold caV
  obtain ⟨W1, hW1⟩ : ∃ X, X = (W.alloc (.cells #[.int .i64 c.what, .int .i64 c.ses, .int .i64 c.seq, .string (byStr c.name), .int .i64 c.num, .int .i64 c.share, .slice a c.bys.length cap] 36)).alloc (.cells #[.int .i64 0, .int .i64 0] 31) := ⟨_, rfl⟩
  have z1 : W1.heap.size = W.heap.size + 1 + 1 := by rw [hW1]; simp
  have b1 : Hid (Below W.heap.size W W1) := by unfold Hid; rw [hW1]; exact ((Below.refl _ _).alloc (Nat.le_refl _) _).alloc (by simp) _
  have bx : Bx W1 W.heap.size [.int .i64 c.what, .int .i64 c.ses, .int .i64 c.seq, .string (byStr c.name), .int .i64 c.num, .int .i64 c.share, .slice a c.bys.length cap] := by rw [hW1]; exact (bx_new W _ _).keep (((Below.refl _ _).alloc (Nat.le_refl _) _).block _ (by simp))
  have ba : Bx W1 (W.heap.size + 1) [.int .i64 0, .int .i64 0] := by
    rw [hW1]
    have := bx_new (W.alloc (.cells #[.int .i64 c.what, .int .i64 c.ses, .int .i64 c.seq, .string (byStr c.name), .int .i64 c.num, .int .i64 c.share, .slice a c.bys.length cap] 36)) [.int .i64 0, .int .i64 0] 31
    rwa [show (W.alloc (.cells #[.int .i64 c.what, .int .i64 c.ses, .int .i64 c.seq, .string (byStr c.name), .int .i64 c.num, .int .i64 c.share, .slice a c.bys.length cap] 36)).heap.size = W.heap.size + 1 by simp] at this
  have CT : Hid (Calls Tryz.prog 33 #[.pointer (some ⟨f, 0, none⟩), caV c a cap] W1 fun e w' => e = .returned (.bool true) ∧ Below W1.heap.size W1 w') := by
    have := sh_Counts (h.below b1.out) c a cap hb (by omega)
    rcases M.cnt_ways S c with ⟨z, _, _⟩ | ⟨_, z | z | z⟩
    · rw [z] at this; exact this
    · exact absurd q1 z
    · exact absurd z q2
    · exact absurd z q3
  unfold caV at CT
  have BX := hide bx
  have BA := hide ba
  have c0 := bx.cell 0 _ rfl
  have c1 := bx.cell 1 _ rfl
  have c2 := bx.cell 2 _ rfl
  have c3 := bx.cell 3 _ rfl
  have c4 := bx.cell 4 _ rfl
  have c5 := bx.cell 5 _ rfl
  have c6 := bx.cell 6 _ rfl
  clear bx ba
  have fl : f < W.heap.size := h.lt
  have Z1 := hide z1
  have T0 : Hid (∀ q, W.heap.size ≤ q → T q = 0) := fun q hq => by
    by_cases z : T q = 0
    · exact z
    · have := h.tlt q z; omega
  have AFT := hide (fun wc (hw : Below W.heap.size W wc) hX hA => cnt_do h c a cap hb nl hr ha hc h63 hi hn hs wh hw hX hA)
  unfold caV at AFT
  have SD := hide (fun (w : World) (N : Nat) (hL : LeftN W f T N ⟨S.idx + 1, (M.act S c).2.2, S.done⟩ w) (hN : W.heap.size ≤ N) => said_left (S := S) (d := ⟨c.ses, c.seq, if (M.act S c).2.1 = 0 then ⟨(M.act S c).1, S.idx + 1⟩ else M.an0, (M.act S c).2.1⟩) hL hN h.inv.dl hi ses1 (fun z => by
    have z' : (M.act S c).2.1 = 0 := z
    show 1 ≤ (if (M.act S c).2.1 = 0 then (⟨(M.act S c).1, S.idx + 1⟩ : M.An) else M.an0).idx ∧ _
    rw [if_pos z']
    show 1 ≤ S.idx + 1 ∧ S.idx + 1 ≤ S.idx + 1
    omega))
  have UP : Hid (∀ wc, Below W1.heap.size W1 wc → Below W.heap.size W wc ∧ Bx wc W.heap.size [.int .i64 c.what, .int .i64 c.ses, .int .i64 c.seq, .string (byStr c.name), .int .i64 c.num, .int .i64 c.share, .slice a c.bys.length cap] ∧ Bx wc (W.heap.size + 1) [.int .i64 0, .int .i64 0]) := fun wc h3 => ⟨below_on b1.out h3, BX.out.keep (h3.block _ BX.out.lt), BA.out.keep (h3.block _ BA.out.lt)⟩
  have CN : Hid (M.cntF S c = (if (M.act S c).2.1 = 0 then ⟨(M.act S c).1, S.idx + 1⟩ else M.an0, (M.act S c).2.1, ⟨S.idx + 1, (M.act S c).2.2, M.say S.done (M.lastN ⟨S.idx + 1, (M.act S c).2.2, S.done⟩ c.ses) ⟨c.ses, c.seq, if (M.act S c).2.1 = 0 then ⟨(M.act S c).1, S.idx + 1⟩ else M.an0, (M.act S c).2.1⟩⟩)) := rfl
  rw [CN.out]
  simp only
  unfold lastV at SD
  clear hb hr ha hc hn hs q1 q2 q3 wh ses1 seq1 nl h CN z1
  generalize hS9 : (⟨S.idx + 1, (M.act S c).2.2, M.say S.done (M.lastN ⟨S.idx + 1, (M.act S c).2.2, S.done⟩ c.ses) ⟨c.ses, c.seq, if (M.act S c).2.1 = 0 then ⟨(M.act S c).1, S.idx + 1⟩ else M.an0, (M.act S c).2.1⟩⟩ : M.Sh) = S9 at *
  clear hS9
  generalize (⟨S.idx + 1, (M.act S c).2.2, S.done⟩ : M.Sh) = S6 at *
  generalize (M.act S c).2.1 = re at *
  generalize (M.act S c).1 = rn at *
  generalize hI : S.idx = I at *
  clear hI
  generalize byStr c.name = s at *
  go_enter Tryz.func10, Tryz.ntmps10
  go_upto_region 1 with fail
  rw [← hW1]
  clear hW1
  go_upto_region 3 with (go_at_call 33; refine CT.out.mono ?_; rintro e wm ⟨rfl, h2⟩; obtain ⟨wb, bX, bA⟩ := UP.out wm h2; clear h2)
  obtain ⟨⟨x2, xf⟩, oc, DO⟩ := AFT.out wm wb bX bA
  have d2 := bX.cell 2 _ rfl
  have e0 := (oc 0).trans (bX.cell 0 _ rfl)
  have e1 := (oc 1).trans (bX.cell 1 _ rfl)
  have e2 := (oc 2).trans (bX.cell 2 _ rfl)
  have e3 := (oc 3).trans (bX.cell 3 _ rfl)
  have e4 := (oc 4).trans (bX.cell 4 _ rfl)
  have e5 := (oc 5).trans (bX.cell 5 _ rfl)
  have e6 := (oc 6).trans (bX.cell 6 _ rfl)
  have DO' := hide DO
  have zc : Hid (W.heap.size + 1 < wm.heap.size) := bA.lt
  have z4 : Hid ((wm.setCell ⟨f, 2, none⟩ (.int .i64 (I + 1))).heap.size = wm.heap.size) := World.size_setCell ..
  clear DO AFT UP oc bX bA wb c0 c1 c2 c3 c4 c5 c6 CT
  go_upto_region 4 with fail
  generalize hw4 : wm.setCell ⟨f, 2, none⟩ (.int .i64 (I + 1)) = w4 at *
  clear hw4 x2 xf d2
  have l1 : W.heap.size < w4.heap.size := by have := z4.out; have := zc.out; omega
  have l2 : ¬ W.heap.size = w4.heap.size := by omega
  go_upto_region 6 with (go_at_call 35; refine DO'.out.mono ?_; rintro e w6 ⟨rfl, lf, b8, b0, ba⟩; have LF := hide lf; have B8 := hide b8; have B0 := hide b0; have BA6 := hide ba; clear lf b8 b0 ba)
  clear e0 e1 e2 e3 e4 e5 e6 DO'
  have hz4 := z4.out
  rw [hz4] at *
  clear hz4
  have b81 := B8.out.cell 1 _ rfl
  have b82 := B8.out.cell 2 _ rfl
  have b83 := B8.out.cell 3 _ rfl
  have f81 := B8.out.free 1
  have f82 := B8.out.free 2
  have f83 := B8.out.free 3
  by_cases hz : re = 0
  case neg =>
    rw [if_neg hz, err_some hz] at SD
    rw [err_some hz]
    have HZ := hide hz
    clear hz
    go_upto_region 9 with fail
    clear b81 b82 b83 f81 f82 f83
    have L7 : Hid (LeftN W f T (wm.heap.size + 1) S6 (w6.setCell ⟨wm.heap.size, 3, none⟩ (.iface 90 (.int .i64 re)))) := LF.out.set (T0.out _ (by have := zc.out; omega)) (by omega) (by have := zc.out; omega)
    have B7 : Hid (Bx (w6.setCell ⟨wm.heap.size, 3, none⟩ (.iface 90 (.int .i64 re))) wm.heap.size [.int .i64 c.seq, .int .i64 0, .int .i64 0, .iface 90 (.int .i64 re)]) := B8.out.put (j := 3)
    have A7 : Hid (Bx (w6.setCell ⟨wm.heap.size, 3, none⟩ (.iface 90 (.int .i64 re))) (W.heap.size + 1) [.int .i64 0, .int .i64 0]) := BA6.out.else (by have := zc.out; omega)
    have C7 : Hid ((w6.setCell ⟨wm.heap.size, 3, none⟩ (.iface 90 (.int .i64 re))).cell? ⟨W.heap.size, 1, none⟩ = some (.int .i64 c.ses)) := (B0.out.else (by have := zc.out; omega)).cell 1 _ rfl
    clear LF B8 B0 BA6
    generalize (w6.setCell ⟨wm.heap.size, 3, none⟩ (.iface 90 (.int .i64 re))) = w7 at *
    obtain ⟨ml7, v1, _, _, upd⟩ := SD.out _ _ L7.out (by have := zc.out; omega)
    obtain ⟨w9, r9, lf9, k9, z9⟩ := upd w7 rfl rfl rfl rfl
    obtain ⟨wd, rd, lfd, kd, zd⟩ := upd w7.drew rfl rfl rfl rfl
    replace r9 : (Instr.mapUpdate 77 (.map (some ml7)) (.int .i64 c.ses) (.agg #[.int .i64 c.seq, .int .i64 0, .int .i64 0, .iface 90 (.int .i64 re)])).run Tryz.prog w7 = .ok () w9 := r9
    replace rd : (Instr.mapUpdate 77 (.map (some ml7)) (.int .i64 c.ses) (.agg #[.int .i64 c.seq, .int .i64 0, .int .i64 0, .iface 90 (.int .i64 re)])).run Tryz.prog w7.drew = .ok () wd := rd
    have c71 := C7.out
    have b70 := B7.out.cell 0 _ rfl
    have b71 := B7.out.cell 1 _ rfl
    have b72 := B7.out.cell 2 _ rfl
    have b73 := B7.out.cell 3 _ rfl
    have zc' := zc.out
    have b7l := B7.out.lt
    have a7l := A7.out.lt
    have R9 : Hid (LeftN W f T (wm.heap.size + 1) S9 w9 ∧ Bx w9 wm.heap.size [.int .i64 c.seq, .int .i64 0, .int .i64 0, .iface 90 (.int .i64 re)] ∧ Bx w9 (W.heap.size + 1) [.int .i64 0, .int .i64 0]) := ⟨lf9, B7.out.keep (k9 _ b7l (T0.out _ (by omega)) (by omega)), A7.out.keep (k9 _ a7l (T0.out _ (by omega)) (by omega))⟩
    have RD : Hid (LeftN W f T (wm.heap.size + 1) S9 wd ∧ Bx wd wm.heap.size [.int .i64 c.seq, .int .i64 0, .int .i64 0, .iface 90 (.int .i64 re)] ∧ Bx wd (W.heap.size + 1) [.int .i64 0, .int .i64 0]) := ⟨lfd, B7.out.keep (kd _ b7l (T0.out _ (by omega)) (by omega)), A7.out.keep (kd _ a7l (T0.out _ (by omega)) (by omega))⟩
    clear upd lf9 lfd k9 kd SD zd z9 zc' b7l a7l
    go_cut [6] from 45 to 51 (fun v wx => v = .pointer (some ⟨wm.heap.size, 0, none⟩) ∧ Hid (LeftN W f T (wm.heap.size + 1) S9 wx ∧ Bx wx wm.heap.size [.int .i64 c.seq, .int .i64 0, .int .i64 0, .iface 90 (.int .i64 re)] ∧ Bx wx (W.heap.size + 1) [.int .i64 0, .int .i64 0]))
    case first =>
      go_region_with (fail)
      all_goals (
        go_wp2
        go_meet
        case rel => first | exact ⟨rfl, R9⟩ | exact ⟨rfl, RD⟩ | exact ⟨rfl, RD.out.1.drew, RD.out.2⟩ | exact ⟨rfl, R9.out.1.drew, R9.out.2⟩)
    case rest =>
      clear r9 rd v1 b70 b71 b72 b73 c71
      obtain ⟨rfl, HF⟩ := hcut
      have rb := HF.out.2.1
      have ra := HF.out.2.2
      have p0 := rb.cell 0 _ rfl
      have p1 := rb.cell 1 _ rfl
      have p2 := rb.cell 2 _ rfl
      have p3 := rb.cell 3 _ rfl
      have s0 := ra.cell 0 _ rfl
      have s1 := ra.cell 1 _ rfl
      have t0 := ra.free 0
      have t1 := ra.free 1
      have n1 : ¬ W.heap.size + 1 = wm.heap.size := by have := zc.out; omega
      have n2 : ¬ wm.heap.size = W.heap.size + 1 := by omega
      have fin := (ra.put (j := 0) (v := .int .i64 0)).put (j := 1) (v := .int .i64 0)
      have e0 := fin.cell 0 _ rfl
      have e1 := fin.cell 1 _ rfl
      have E0 := hide e0
      have E1 := hide e1
      have LFF : Hid (Left W f T S9 ((wc.setCell ⟨W.heap.size + 1, 0, none⟩ (.int .i64 0)).setCell ⟨W.heap.size + 1, 1, none⟩ (.int .i64 0))) := ((HF.out.1.set (T0.out _ (by omega)) (by have := zc.out; omega) (by omega)).set (T0.out _ (by omega)) (by have := zc.out; omega) (by omega)).left (by have := zc.out; omega)
      have DR : Hid (∀ V, Left W f T S9 V → Left W f T S9 V.drew) := fun V ⟨T', g1, g2, g3⟩ => ⟨T', g1.up (fun _ _ => rfl) (Nat.le_refl _), ⟨g2.os, g2.tape, g2.output, g2.size, g2.block⟩, g3⟩
      clear rb ra fin e0 e1
      go_upto_region 10 with fail
      go_region_with (fail)
      all_goals (
        go_simp
        go_wp2
        have e0 := E0.out
        have e1 := E1.out
        refine bodyPost_ret (v := .tuple #[.agg #[.int .i64 0, .int .i64 0], .iface 90 (.int .i64 re)]) (by simp [results, Tryz.results10, go_sem, e0, e1]) rfl ?_
        refine ⟨by rw [err_some HZ.out]; rfl, ?_⟩
        repeat (first | exact LFF.out | refine DR.out _ ?_))
  case pos =>
    rw [if_pos hz, err_nil hz] at SD
    rw [err_nil hz]
    have HZ := hide hz
    clear hz
    obtain ⟨_, _, v2, _, _⟩ := SD.out _ _ LF.out (by have := zc.out; omega)
    go_upto_region 9 with fail
    clear b81 b82 b83 f81 f82 f83 v2
    have L7 : Hid (LeftN W f T (wm.heap.size + 1) S6 ((w6.setCell ⟨wm.heap.size, 1, none⟩ (.int .i64 rn)).setCell ⟨wm.heap.size, 2, none⟩ (.int .i64 (I + 1)))) := (LF.out.set (T0.out _ (by have := zc.out; omega)) (by omega) (by have := zc.out; omega)).set (T0.out _ (by have := zc.out; omega)) (by omega) (by have := zc.out; omega)
    have B7 : Hid (Bx ((w6.setCell ⟨wm.heap.size, 1, none⟩ (.int .i64 rn)).setCell ⟨wm.heap.size, 2, none⟩ (.int .i64 (I + 1))) wm.heap.size [.int .i64 c.seq, .int .i64 rn, .int .i64 (I + 1), .nilIface]) := (B8.out.put (j := 1)).put (j := 2)
    have A7 : Hid (Bx ((w6.setCell ⟨wm.heap.size, 1, none⟩ (.int .i64 rn)).setCell ⟨wm.heap.size, 2, none⟩ (.int .i64 (I + 1))) (W.heap.size + 1) [.int .i64 0, .int .i64 0]) := (BA6.out.else (by have := zc.out; omega)).else (by have := zc.out; omega)
    have C7 : Hid (((w6.setCell ⟨wm.heap.size, 1, none⟩ (.int .i64 rn)).setCell ⟨wm.heap.size, 2, none⟩ (.int .i64 (I + 1))).cell? ⟨W.heap.size, 1, none⟩ = some (.int .i64 c.ses)) := ((B0.out.else (by have := zc.out; omega)).else (by have := zc.out; omega)).cell 1 _ rfl
    clear LF B8 B0 BA6
    generalize ((w6.setCell ⟨wm.heap.size, 1, none⟩ (.int .i64 rn)).setCell ⟨wm.heap.size, 2, none⟩ (.int .i64 (I + 1))) = w7 at *
    obtain ⟨ml7, v1, _, _, upd⟩ := SD.out _ _ L7.out (by have := zc.out; omega)
    obtain ⟨w9, r9, lf9, k9, z9⟩ := upd w7 rfl rfl rfl rfl
    obtain ⟨wd, rd, lfd, kd, zd⟩ := upd w7.drew rfl rfl rfl rfl
    replace r9 : (Instr.mapUpdate 77 (.map (some ml7)) (.int .i64 c.ses) (.agg #[.int .i64 c.seq, .int .i64 rn, .int .i64 (I + 1), .nilIface])).run Tryz.prog w7 = .ok () w9 := r9
    replace rd : (Instr.mapUpdate 77 (.map (some ml7)) (.int .i64 c.ses) (.agg #[.int .i64 c.seq, .int .i64 rn, .int .i64 (I + 1), .nilIface])).run Tryz.prog w7.drew = .ok () wd := rd
    have c71 := C7.out
    have b70 := B7.out.cell 0 _ rfl
    have b71 := B7.out.cell 1 _ rfl
    have b72 := B7.out.cell 2 _ rfl
    have b73 := B7.out.cell 3 _ rfl
    have zc' := zc.out
    have b7l := B7.out.lt
    have a7l := A7.out.lt
    have R9 : Hid (LeftN W f T (wm.heap.size + 1) S9 w9 ∧ Bx w9 wm.heap.size [.int .i64 c.seq, .int .i64 rn, .int .i64 (I + 1), .nilIface] ∧ Bx w9 (W.heap.size + 1) [.int .i64 0, .int .i64 0]) := ⟨lf9, B7.out.keep (k9 _ b7l (T0.out _ (by omega)) (by omega)), A7.out.keep (k9 _ a7l (T0.out _ (by omega)) (by omega))⟩
    have RD : Hid (LeftN W f T (wm.heap.size + 1) S9 wd ∧ Bx wd wm.heap.size [.int .i64 c.seq, .int .i64 rn, .int .i64 (I + 1), .nilIface] ∧ Bx wd (W.heap.size + 1) [.int .i64 0, .int .i64 0]) := ⟨lfd, B7.out.keep (kd _ b7l (T0.out _ (by omega)) (by omega)), A7.out.keep (kd _ a7l (T0.out _ (by omega)) (by omega))⟩
    clear upd lf9 lfd k9 kd SD zd z9 zc' b7l a7l
    go_cut [6] from 45 to 51 (fun v wx => v = .pointer (some ⟨wm.heap.size, 0, none⟩) ∧ Hid (LeftN W f T (wm.heap.size + 1) S9 wx ∧ Bx wx wm.heap.size [.int .i64 c.seq, .int .i64 rn, .int .i64 (I + 1), .nilIface] ∧ Bx wx (W.heap.size + 1) [.int .i64 0, .int .i64 0]))
    case first =>
      go_region_with (fail)
      all_goals (
        go_wp2
        go_meet
        case rel => first | exact ⟨rfl, R9⟩ | exact ⟨rfl, RD⟩ | exact ⟨rfl, RD.out.1.drew, RD.out.2⟩ | exact ⟨rfl, R9.out.1.drew, R9.out.2⟩)
    case rest =>
      clear r9 rd v1 b70 b71 b72 b73 c71
      obtain ⟨rfl, HF⟩ := hcut
      have rb := HF.out.2.1
      have ra := HF.out.2.2
      have p0 := rb.cell 0 _ rfl
      have p1 := rb.cell 1 _ rfl
      have p2 := rb.cell 2 _ rfl
      have p3 := rb.cell 3 _ rfl
      have s0 := ra.cell 0 _ rfl
      have s1 := ra.cell 1 _ rfl
      have t0 := ra.free 0
      have t1 := ra.free 1
      have n1 : ¬ W.heap.size + 1 = wm.heap.size := by have := zc.out; omega
      have n2 : ¬ wm.heap.size = W.heap.size + 1 := by omega
      have fin := (ra.put (j := 0) (v := .int .i64 rn)).put (j := 1) (v := .int .i64 (I + 1))
      have e0 := fin.cell 0 _ rfl
      have e1 := fin.cell 1 _ rfl
      have E0 := hide e0
      have E1 := hide e1
      have LFF : Hid (Left W f T S9 ((wc.setCell ⟨W.heap.size + 1, 0, none⟩ (.int .i64 rn)).setCell ⟨W.heap.size + 1, 1, none⟩ (.int .i64 (I + 1)))) := ((HF.out.1.set (T0.out _ (by omega)) (by have := zc.out; omega) (by omega)).set (T0.out _ (by omega)) (by have := zc.out; omega) (by omega)).left (by have := zc.out; omega)
      have DR : Hid (∀ V, Left W f T S9 V → Left W f T S9 V.drew) := fun V ⟨T', g1, g2, g3⟩ => ⟨T', g1.up (fun _ _ => rfl) (Nat.le_refl _), ⟨g2.os, g2.tape, g2.output, g2.size, g2.block⟩, g3⟩
      clear rb ra fin e0 e1
      go_upto_region 10 with fail
      go_region_with (fail)
      all_goals (
        go_simp
        go_wp2
        have e0 := E0.out
        have e1 := E1.out
        refine bodyPost_ret (v := .tuple #[.agg #[.int .i64 rn, .int .i64 (I + 1)], .nilIface]) (by simp [results, Tryz.results10, go_sem, e0, e1]) rfl ?_
        refine ⟨by rw [err_nil rfl]; rfl, ?_⟩
        repeat (first | exact LFF.out | refine DR.out _ ?_))

theorem sh_Do {W : World} {f : Nat} {T : Nat → Nat} {S : M.Sh} (h : SA W f T S) {c : M.Ca} {a : Option Addr} {cap : Nat} (hc : CaIn W c a cap) (ha : c.bys ≠ [] → ∀ p, a = some p → T p.block = 0) (hi : S.idx ≤ 900000) :
    Calls Tryz.prog 10 #[.pointer (some ⟨f, 0, none⟩), caV c a cap] W fun e w' => e = .returned (.tuple #[anV (M.shDo S c).1, errV (M.shDo S c).2.1]) ∧ Left W f T (M.shDo S c).2.2 w' := by
  obtain ⟨mm, ml, D, E, kb, mb, va, vc, G, h⟩ := h
  by_cases q : M.callF c ≠ 0 ∨ (M.was S c.ses).seq = c.seq ∨ c.seq < (M.was S c.ses).seq
  · have e : (M.shDo S c).2.2 = S := by
      refine M.cnt_no ?_
      rcases M.cnt_ways S c with ⟨_, z, y⟩ | ⟨z, _⟩
      · rcases q with x | x | x
        · exact absurd z x
        · omega
        · omega
      · exact z
    refine (sh_Do_no h c a cap hc.nb hc.nl q).mono ?_
    rintro _ w' ⟨rfl, hb⟩
    rw [e]
    exact ⟨rfl, T, ⟨mm, ml, D, E, kb, mb, va, vc, G, h.below hb⟩, stay_of hb (Nat.le_refl _), fun q hq => .inl hq⟩
  · have q1 : M.callF c = 0 := by
      by_cases z : M.callF c = 0
      · exact z
      · exact absurd (.inl z) q
    have q2 : ¬ (M.was S c.ses).seq = c.seq := fun z => q (.inr (.inl z))
    have q3 : ¬ c.seq < (M.was S c.ses).seq := fun z => q (.inr (.inr z))
    rw [M.do_is q1, if_neg q2, if_neg q3]
    exact sh_Do_yes h c a cap hc.nb hc.rd ha hc.le hc.cp hi hc.num hc.shr q1 q2 q3
/-- a shelf between calls, its blocks all new since a world -/
structure Has (W0 w : World) (f : Nat) (T : Nat → Nat) (S : M.Sh) : Prop where
  sa : SA w f T S
  bl : Below W0.heap.size W0 w
  tn : ∀ q, T q ≠ 0 → W0.heap.size ≤ q
theorem SA.lt {w : World} {f : Nat} {T : Nat → Nat} {S : M.Sh} (h : SA w f T S) {q : Nat} (hq : w.heap.size ≤ q) : T q = 0 := by
  obtain ⟨mm, ml, D, E, kb, mb, va, vc, G, h⟩ := h
  by_cases z : T q = 0
  · exact z
  · have := h.tlt q z; omega
theorem Has.up {W0 w w' : World} {f : Nat} {T : Nat → Nat} {S : M.Sh} (h : Has W0 w f T S) (hb : Below w.heap.size w w') : Has W0 w' f T S :=
  ⟨h.sa.up (fun q hq => hb.block q (by
    by_cases z : q < w.heap.size
    · exact z
    · exact absurd (h.sa.lt (by omega)) hq)) hb.size, below_on h.bl hb, h.tn⟩
theorem Has.left {W0 w w' : World} {f : Nat} {T : Nat → Nat} {S S' : M.Sh} (h : Has W0 w f T S) (hl : Left w f T S' w') : ∃ T', Has W0 w' f T' S' ∧ (∀ q, q < w.heap.size → T q = 0 → T' q = 0 ∧ w'.heap[q]? = w.heap[q]?) ∧ w.heap.size ≤ w'.heap.size := by
  obtain ⟨T', a, b, c⟩ := hl
  have z := h.bl.size
  refine ⟨T', ⟨a, ⟨b.os.trans h.bl.os, b.tape.trans h.bl.tape, b.output.trans h.bl.output, Nat.le_trans z b.size, fun q hq => ?_⟩, fun q hq => ?_⟩, fun q hq ht => ⟨?_, b.block q hq (fun y => y ht)⟩, b.size⟩
  · rw [b.block q (by omega) (fun y => by have := h.tn q y; omega)]
    exact h.bl.block q hq
  · rcases c q hq with y | y
    · exact h.tn q y
    · omega
  · by_cases y : T' q = 0
    · exact y
    · rcases c q y with x | x
      · exact absurd ht x
      · omega
theorem Has.doIt {W0 w : World} {f : Nat} {T : Nat → Nat} {S : M.Sh} (h : Has W0 w f T S) {k : CaC} (hc : CaIn W0 k.1 k.2.1 k.2.2) (hi : S.idx ≤ 900) :
    Calls Tryz.prog 10 #[.pointer (some ⟨f, 0, none⟩), caV k.1 k.2.1 k.2.2] w fun e w' => e = .returned (.tuple #[anV (M.shDo S k.1).1, errV (M.shDo S k.1).2.1]) ∧ ∃ T', Has W0 w' f T' (M.shDo S k.1).2.2 ∧ (∀ q, q < w.heap.size → T q = 0 → T' q = 0 ∧ w'.heap[q]? = w.heap[q]?) ∧ w.heap.size ≤ w'.heap.size := by
  refine (sh_Do h.sa (hc.below h.bl) (fun hne p hp => ?_) (by omega)).mono ?_
  · obtain ⟨b, off, e, hl, _⟩ := hc.rd.2.2 hne
    rw [e] at hp
    cases hp
    by_cases z : T b = 0
    · exact z
    · have : W0.heap.size ≤ b := h.tn b z
      omega
  · rintro e w' ⟨rfl, hl⟩
    exact ⟨rfl, h.left hl⟩
end Go.Proofs.YtiggkjkjfnlfkaaGreatDoor
