/-
  Several texts as one: ShUp, ShDo0, ShDoM.
-/
import Derived.Test.YtiggkjkjfnlfkaaGreatDoorRunS20
import Derived.Test.YtiggkjkjfnlfkaaGreatDoorShelfC
import Derived.Test.YtiggkjkjfnlfkaaGreatDoorRunS17
import Derived.Deep.AppendLies
import Derived.Deep.RegionLaw
import Derived.RegionTactic
import Derived.Deep.RegionWith
namespace Go.Proofs.YtiggkjkjfnlfkaaGreatDoor
open Go.ChangeShapes Go.WideShapes Go.ChangeAt Go.RowKit Go.Lib Go.Maps
set_option linter.unusedVariables false
def M.upF (S : M.Sh) (n : List Nat) (bs : List Nat) : Int × Int × M.Sh :=
  if (M.decF bs).2 ≠ 0 then (0, (M.decF bs).2, S) else if M.many S n = 0 ∧ 8 ≤ M.names S then (0, 4, S) else ((M.many S n : Int) + 1, 0, M.addS S n (M.decV bs))
theorem infoPk : (Tryz.prog.info? 94).map (fun i => (i.zero, i.size, i.bytes)) = some (some (.pointer none), 1, 8) := by kernel_rfl
theorem SV.lookOk {W : World} {f : Nat} {T : Nat → Nat} {S : M.Sh} {mm ml : Nat} {D E : DataW Value} {kb : Nat → Nat} {mb : List Nat → Nat} {va : List Nat → Option Addr} {vc : List Nat → Nat} {G : Nat → Gr} (h : SV W f T S mm ml D E kb mb va vc G) {n : List Nat} (hl : n.length ≤ 140737488351232) (hn : M.posL S.l n ≠ []) : (Instr.lookup 76 (.map (some mm)) (.string (byStr n)) true).run Tryz.prog W = .ok (.tuple #[.pointer (some ⟨mb n, 0, none⟩), .bool true]) W := by
  obtain ⟨v, ps, hrun, hv⟩ := h.mo.look_ok keyS Tryz.underlying76 (zeroM W) (zd := .held (.pointer none)) rfl (keyOfS hl)
  rw [h.ms n hn] at hv
  unfold selfE at hv
  simp only [Option.some.injEq, Prod.mk.injEq, DataW.held.injEq] at hv
  rw [hrun, hv.1, has_true_of_atKey (h.ms n hn)]
  rfl
theorem SV.lookOk0 {W : World} {f : Nat} {T : Nat → Nat} {S : M.Sh} {mm ml : Nat} {D E : DataW Value} {kb : Nat → Nat} {mb : List Nat → Nat} {va : List Nat → Option Addr} {vc : List Nat → Nat} {G : Nat → Gr} (h : SV W f T S mm ml D E kb mb va vc G) {n : List Nat} (hb : isB n) (hl : n.length ≤ 140737488351232) (hn : M.posL S.l n = []) : (Instr.lookup 76 (.map (some mm)) (.string (byStr n)) true).run Tryz.prog W = .ok (.tuple #[.pointer none, .bool false]) W := by
  obtain ⟨v, ps, hrun, hv⟩ := h.mo.look_ok keyS Tryz.underlying76 (zeroM W) (zd := .held (.pointer none)) rfl (keyOfS hl)
  rw [atKey_of_not_has (h.mn n hb hn)] at hv
  unfold selfE at hv
  simp only [Option.some.injEq, Prod.mk.injEq, DataW.held.injEq] at hv
  rw [hrun, hv.1, h.mn n hb hn]
theorem sh_clone (s : ByteArray) (hs : s.size ≤ 1000000) (W : World) : Calls Tryz.prog 113 #[.string s] W fun e w' => e = .returned (.string s) ∧ Below W.heap.size W w' := by
  have C := hide (Tryz.stringslite_Clone s W (by omega))
  go_enter Tryz.func113, Tryz.ntmps113
  go_wp2_with (go_at_call 154; refine C.out.mono ?_; rintro e w1 ⟨rfl, h1⟩; have H1 := hide h1; clear h1)
  go_ret
  exact ⟨rfl, H1.out⟩

/-- an append behind two new blocks: what stays, and what is new -/
theorem two_new {V V2 w7 : World} {x y : List Value} {t u : TypeId} {r : Option Nat} (e : V2.heap = (V.heap.push (.cells x.toArray t)).push (.cells y.toArray u)) (e2 : V2.os = V.os ∧ V2.tape = V.tape ∧ V2.output = V.output) (hr : ∀ q, r = some q → q < V.heap.size) (hg : V2.grownBy w7 r) :
    (∀ q, q < V.heap.size → r ≠ some q → w7.heap[q]? = V.heap[q]?) ∧ Bx w7 V.heap.size x ∧ (w7.os = V.os ∧ w7.tape = V.tape ∧ w7.output = V.output) := by
  have sz : V2.heap.size = V.heap.size + 1 + 1 := by rw [e]; simp
  have at' : ∀ q, q < V.heap.size → V2.heap[q]? = V.heap[q]? := fun q hq => by
    rw [e, Array.getElem?_push, if_neg (by simp; omega), Array.getElem?_push, if_neg (by omega)]
  refine ⟨fun q hq hne => (hg.block q (by omega) (fun z => hne z.symm)).trans (at' q hq), ⟨t, ?_⟩, hg.os.trans e2.1, hg.tape.trans e2.2.1, hg.output.trans e2.2.2⟩
  rw [hg.block V.heap.size (by omega) (fun z => by have := hr _ z.symm; omega), e, Array.getElem?_push, if_neg (by simp), Array.getElem?_push, if_pos rfl]

set_option maxHeartbeats 16000000 in
set_option maxRecDepth 10000 in
theorem sh_upload {W : World} {f : Nat} {T : Nat → Nat} {S : M.Sh} {mm ml : Nat} {D E : DataW Value} {kb : Nat → Nat} {mb : List Nat → Nat} {va : List Nat → Option Addr} {vc : List Nat → Nat} {G : Nat → Gr} (h : SV W f T S mm ml D E kb mb va vc G) (n : List Nat) (hb : isB n) (nl : n.length ≤ 12) (a : Option Addr) (bs : List Nat) (c : Nat) (hr : RdB W a bs) (hc : bs.length ≤ c) (h63 : c ≤ 9223372036854775807) (hl : (S.l.length : Int) + 1 ≤ S.idx) (hi : S.idx ≤ 1000000) :
    Calls Tryz.prog 81 #[.pointer (some ⟨f, 0, none⟩), .string (byStr n), .slice a bs.length c] W fun e w' => e = .returned (.tuple #[.int .i64 (M.upF S n bs).1, errV (M.upF S n bs).2.1]) ∧ Left W f T (M.upF S n bs).2.2 w' := by
  have DC := hide (cddec_new a bs c W hr hc h63)
  unfold Gr.v at DC
  have SAME : Hid (∀ w', Below W.heap.size W w' → Left W f T S w') := fun w' hw => ⟨T, ⟨mm, ml, D, E, kb, mb, va, vc, G, h.below hw⟩, stay_of hw (Nat.le_refl _), fun q hq => .inl hq⟩
  by_cases q1 : (M.decF bs).2 = 0
  case neg =>
    have EU : Hid (M.upF S n bs = (0, (M.decF bs).2, S)) := by unfold Hid M.upF; rw [if_pos q1]
    rw [EU.out]
    have Q := hide q1
    simp only
    rw [err_some q1] at DC ⊢
    clear EU q1 h hr hc
    generalize (M.decF bs).2 = de at *
    generalize (M.decF bs).1 = da at *
    generalize byStr n = s at *
    go_enter Tryz.func81, Tryz.ntmps81
    go_wp2_with (go_at_call 112; refine DC.out.mono ?_; rintro e w1 ⟨O, rfl, om, nh, hb1⟩; have B1 := hide hb1; clear om nh hb1)
    go_ret2
    exact ⟨rfl, SAME.out _ (B1.out.alloc B1.out.size _)⟩
  have EU : Hid (M.upF S n bs = if M.many S n = 0 ∧ 8 ≤ M.names S then (0, 4, S) else ((M.many S n : Int) + 1, 0, M.addS S n (M.decV bs))) := by unfold Hid M.upF; rw [if_neg (by simp [q1])]
  rw [err_nil q1] at DC
  have pl := M.pos_len S n
  have mlt : M.many S n ≤ 1000000 := by
    have : M.many S n ≤ S.l.length := List.length_filter_le _ _
    omega
  have nlt : M.names S ≤ 1000000 := by
    have : M.names S ≤ S.l.length := List.length_filter_le _ _
    omega
  have sz : (byStr n).size ≤ 1000000 := by
    have : (byStr n).size = n.length := by
      have := congrArg List.length (byStr_list n)
      simpa using this
    omega
  have CL := hide (fun V => sh_clone (byStr n) sz V)
  have key := keyOfS (n := n) (by omega)
  obtain ⟨i0, hi0, hz0, hz1, hz2⟩ := info_parts infoPk
  have I0 := hide hi0
  by_cases hn : M.posL S.l n = []
  · -- a name that has not been
    have m0 : M.many S n = 0 := by rw [← pl, hn]; rfl
    have LK : Hid (∀ V, Below W.heap.size W V → V.cell? ⟨f, 0, none⟩ = some (.map (some mm)) ∧ (Instr.lookup 76 (.map (some mm)) (.string (byStr n)) true).run Tryz.prog V = .ok (.tuple #[.pointer none, .bool false]) V ∧ (∀ ty, (Builtin.len_ #[76] ty #[.map (some mm)]).run Tryz.prog V = .ok (.int .i64 (M.names S : Nat)) V)) := fun V hV => by
      have hv := h.below hV
      refine ⟨hv.box.cell 0 _ rfl, hv.lookOk0 hb (by omega) hn, fun ty => ?_⟩
      rw [hv.mo.len Tryz.underlying76 ty, hv.mz]
    by_cases q2 : 8 ≤ M.names S
    · rw [EU.out, if_pos ⟨m0, q2⟩]
      have g1 : decide ((8 : Int) ≤ (M.names S : Int)) = true := decide_eq_true (by omega)
      have g2 : decide (8 ≤ M.names S) = true := decide_eq_true q2
      simp only
      rw [err_some (show (4 : Int) ≠ 0 by decide)]
      clear EU q1 h hr hc q2 CL key pl hn m0
      generalize M.names S = N at *
      generalize (M.decF bs).1 = da at *
      generalize byStr n = s at *
      go_enter Tryz.func81, Tryz.ntmps81
      go_upto_region 4 with (go_at_call 112; refine DC.out.mono ?_; rintro e w1 ⟨O, rfl, om, nh, hb1⟩; have B1 := hide hb1; clear om nh hb1)
      have B2 := hide (B1.out.alloc B1.out.size (.cells #[.int .i64 O.f, .int .i64 O.w, .slice O.wa O.ws.length O.wc, .slice O.ta O.ks.length O.tc] 53))
      obtain ⟨c0, hrun, hlen⟩ := LK.out _ B2.out
      generalize w1.alloc (.cells #[.int .i64 O.f, .int .i64 O.w, .slice O.wa O.ws.length O.wc, .slice O.ta O.ks.length O.tc] 53) = w2 at *
      go_wp2
      go_ret2
      exact ⟨rfl, SAME.out _ B2.out⟩
    rw [EU.out, if_neg (fun z => q2 z.2)]
    simp only
    rw [m0, err_nil rfl]
    have g1 : decide ((8 : Int) ≤ (M.names S : Int)) = false := decide_eq_false (by omega)
    have g2 : decide (8 ≤ M.names S) = false := decide_eq_false q2
    have UPD : Hid (∀ w3, Below W.heap.size W w3 → ∃ V, (Instr.mapUpdate 76 (.map (some mm)) (.string (byStr n)) (.pointer (some ⟨w3.heap.size, 0, none⟩))).run Tryz.prog (w3.alloc (.cells #[.slice none 0 0, .pointer none, .pointer none] 96)) = .ok () V ∧ V.ownsMap Tryz.prog 9 selfE mm (M.names S + 1) (D.put (nmK n) (.held (ptB (some w3.heap.size)))) ∧ (w3.alloc (.cells #[.slice none 0 0, .pointer none, .pointer none] 96)).grownBy V (some mm)) := fun w3 hw => ((h.below hw).mo.alloc _).update keyS Tryz.underlying76 (by unfold maxLen; omega) key rfl
    have F0 : Hid (∀ w3, Below W.heap.size W w3 → (w3.alloc (.cells #[.slice none 0 0, .pointer none, .pointer none] 96)).cell? ⟨f, 0, none⟩ = some (.map (some mm))) := fun w3 hw => (h.below (hw.alloc hw.size _)).box.cell 0 _ rfl
    have fl : f < W.heap.size := h.lt
    have mml : mm < W.heap.size := h.tlt mm (by rw [h.tm]; decide)
    have ND : Hid (M.names (M.addS S n (M.decV bs)) = M.names S + 1) := by unfold Hid; rw [M.names_add, if_pos hn]
    have SD : Hid (∀ b, Maps.size (D.put (nmK n) (.held (ptB (some b)))) = M.names S + 1) := fun b => by rw [size_put (h.mo.tidy keyS), h.mn n hb hn, h.mz]; rfl
    have AT : Hid (M.atN S n 2 = none ∧ M.atN S n 3 = none) := by
      have no : ∀ st, M.atN S n st = none := fun st => M.at_none (fun k hk z => by
        have := M.pos_mem.2 ⟨hk, z.1⟩
        rw [hn] at this
        cases this)
      exact ⟨no 2, no 3⟩
    have FIN : Hid (∀ (w1 w3 V V2 w7 : World) (O : Gr) (pq cq : Nat), O.m = M.decV bs → NewH W w1 O → Below W.heap.size W w1 → Below w1.heap.size w1 w3 → Below W.heap.size W w3 → V.ownsMap Tryz.prog 9 selfE mm (M.names S + 1) (D.put (nmK n) (.held (ptB (some w3.heap.size)))) → (w3.alloc (.cells #[.slice none 0 0, .pointer none, .pointer none] 96)).grownBy V (some mm) →
        V2.heap = (V.heap.push (.cells #[.string (byStr n), .int .i64 1, .int .i64 1, .int .i64 0, .int .i64 O.f, .int .i64 O.w, .slice O.wa O.ws.length O.wc, .slice O.ta O.ks.length O.tc] 98)).push (.cells #[.pointer (some ⟨V.heap.size, 0, none⟩)] 94) → (V2.os = V.os ∧ V2.tape = V.tape ∧ V2.output = V.output) → V2.grownBy w7 none → w7.ownsRow 0 94 1 (.slice (some ⟨pq, 0, none⟩) (0 + 1) cq) (0 + 1) ([] ++ [.pointer (some ⟨V.heap.size, 0, none⟩)]) → pq = V.heap.size + 1 + 1 →
        (w7.cell? ⟨w3.heap.size, 0, none⟩ = some (.slice none 0 0) ∧ w7.frozen? ⟨w3.heap.size, 0, none⟩ = false) ∧ Left W f T (M.addS S n (M.decV bs)) (w7.setCell ⟨w3.heap.size, 0, none⟩ (.slice (some ⟨pq, 0, none⟩) (0 + 1) cq))) := fun w1 w3 V V2 w7 O pq cq om nh bw1 b13 bw3 vo vg e e2 hg hov hat => by
      obtain ⟨g1, g2, g3⟩ := two_new (x := [.string (byStr n), .int .i64 1, .int .i64 1, .int .i64 0, .int .i64 O.f, .int .i64 O.w, .slice O.wa O.ws.length O.wc, .slice O.ta O.ks.length O.tc]) (y := [.pointer (some ⟨V.heap.size, 0, none⟩)]) e e2 (fun q hq => by cases hq) hg
      have z3 : w3.heap.size < V.heap.size := by have := vg.size; simp at this; omega
      have w13 := b13.size
      have ww3 := bw3.size
      have mmn : w3.heap.size ≠ mm := by omega
      have bm : Bx V w3.heap.size [.slice none 0 0, .pointer none, .pointer none] := (bx_new w3 [.slice none 0 0, .pointer none, .pointer none] 96).keep (vg.block w3.heap.size (by simp) (fun z => by cases z; exact mmn rfl))
      have vold : ∀ q, q < w3.heap.size → q ≠ mm → V.heap[q]? = w3.heap[q]? := fun q hq hne => (vg.block q (by simp; omega) (fun z => by cases z; exact hne rfl)).trans (((Below.refl _ w3).alloc (Nat.le_refl _) _).block q hq)
      have b7 := bm.keep (g1 w3.heap.size z3 (by intro z; cases z))
      have na := AT.out
      have gin : GIn (fun q => W.heap.size ≤ q ∧ q < w1.heap.size) V O := fun W'' hz hq => nh W'' (by omega) (fun b h1 h2 => (hq b ⟨h1, h2⟩).trans ((vold b (by omega) (by omega)).trans (b13.block b h2)))
      have vst : StayBut (fun q => q = mm ∧ M.posL S.l n = []) W V := ⟨vg.os.trans bw3.os, vg.tape.trans bw3.tape, vg.output.trans bw3.output, by omega, fun q hq hne => (vold q (by omega) (fun z => hne ⟨z, hn⟩)).trans (bw3.block q hq)⟩
      have R := up_fin (V := V) (w7 := w7) (D' := D.put (nmK n) (.held (ptB (some w3.heap.size)))) (O := O) (mq := w3.heap.size) (pq := pq) (cq := cq) (s1 := w1.heap.size) (rc := 0) (ra := none) h hb hl vst ⟨fun z => absurd hn z, fun _ => w13⟩ z3 (by rw [na.1, na.2, hn]; exact bm) ⟨fun z => absurd hn z, fun _ => rfl⟩ (by rw [om, ND.out]; exact vo) (by rw [om, ND.out]; exact SD.out _) ⟨fun z => absurd hn z, fun _ => rfl⟩ gin bw1.size (by omega) (by rw [hn]; exact hov) (fun q hq _ => g1 q hq (by intro z; cases z)) (by rw [m0]; exact g2) g3 (.inr hat)
      rw [hn, om] at R
      exact ⟨⟨b7.cell 0 _ rfl, b7.free 0⟩, _, ⟨_, _, _, _, _, _, _, _, _, R.1⟩, R.2, fun q hq => by
        by_cases z : q < W.heap.size
        · unfold addT at hq
          rw [if_pos z] at hq
          exact .inl hq
        · exact .inr (by omega)⟩
    clear EU q1 h hr hc q2 key pl hn m0 SAME ND SD AT
    generalize M.names S = N at *
    generalize (M.decF bs).1 = da at *
    generalize M.decV bs = dv at *
    generalize byStr n = s at *
    generalize M.addS S n dv = S2 at *
    go_enter Tryz.func81, Tryz.ntmps81
    go_upto_region 4 with (go_at_call 112; refine DC.out.mono ?_; rintro e w1 ⟨O, rfl, om, nh, hb1⟩; have B1 := hide hb1; have OM := hide om; have NH := hide nh; clear om nh hb1)
    have B2 := hide (B1.out.alloc B1.out.size (.cells #[.int .i64 O.f, .int .i64 O.w, .slice O.wa O.ws.length O.wc, .slice O.ta O.ks.length O.tc] 53))
    have B12 : Hid (Below w1.heap.size w1 (w1.alloc (.cells #[.int .i64 O.f, .int .i64 O.w, .slice O.wa O.ws.length O.wc, .slice O.ta O.ks.length O.tc] 53))) := (Below.refl _ w1).alloc (Nat.le_refl _) _
    have GB := hide (bx_new w1 [.int .i64 O.f, .int .i64 O.w, .slice O.wa O.ws.length O.wc, .slice O.ta O.ks.length O.tc] 53)
    obtain ⟨c0, hrun, hlen⟩ := LK.out _ B2.out
    generalize w1.alloc (.cells #[.int .i64 O.f, .int .i64 O.w, .slice O.wa O.ws.length O.wc, .slice O.ta O.ks.length O.tc] 53) = w2 at *
    go_upto_region 9 with (go_at_call 113; refine (CL.out _).mono ?_; rintro e w3 ⟨rfl, hb3⟩; have B3 := hide (below_on B2.out hb3); have B13 := hide (below_on B12.out hb3); have GB3 := hide (GB.out.keep (hb3.block _ GB.out.lt)); clear hb3)
    have c3 := F0.out w3 B3.out
    go_upto_region 10 with fail
    obtain ⟨V, hup, vo, vg⟩ := UPD.out w3 B3.out
    have VO := hide vo
    have VG := hide vg
    have zv : Hid (w3.heap.size < V.heap.size) := by unfold Hid; have := vg.size; simp at this; omega
    have BM : Hid (Bx V w3.heap.size [.slice none 0 0, .pointer none, .pointer none]) := (bx_new w3 [.slice none 0 0, .pointer none, .pointer none] 96).keep (vg.block w3.heap.size (by simp) (fun z => by cases z; have := B3.out.size; omega))
    have GV : Hid (Bx V w1.heap.size [.int .i64 O.f, .int .i64 O.w, .slice O.wa O.ws.length O.wc, .slice O.ta O.ks.length O.tc]) := GB3.out.keep ((vg.block _ (by have := GB3.out.lt; simp; omega) (fun z => by cases z; have := B1.out.size; omega)).trans (((Below.refl _ w3).alloc (Nat.le_refl _) _).block _ GB3.out.lt))
    clear vo vg
    have y0 := GV.out.cell 0 _ rfl
    have y1 := GV.out.cell 1 _ rfl
    have y2 := GV.out.cell 2 _ rfl
    have y3 := GV.out.cell 3 _ rfl
    have m0 := BM.out.cell 0 _ rfl
    have f0 := BM.out.free 0
    go_upto_region 12 with fail
    have FN := hide (fun V2 w7 pq cq (hg : World.grownBy V2 w7 none) e e2 => FIN.out w1 w3 V V2 w7 O pq cq OM.out NH.out B1.out B13.out B3.out VO.out VG.out e e2 hg)
    have l1 : w3.heap.size < V.heap.size := zv.out
    have l2 : ¬ w3.heap.size = V.heap.size := by omega
    have l3 : ¬ w3.heap.size = V.heap.size + 1 := by omega
    have l4 : w1.heap.size < V.heap.size := GV.out.lt
    have l5 : ¬ w1.heap.size = V.heap.size := by omega
    have l6 : ¬ w1.heap.size = V.heap.size + 1 := by omega
    clear c0 c3 hrun hlen hup LK UPD F0 FIN CL DC GB GB3
    go_region_law (refine step_append_lies _ rfl (.tmp 65) (.tmp 72) 93 rfl 0 94 i0 (.pointer none) 1 8 Tryz.underlying93 I0.out hz0 hz1 hz2 rfl (by omega) (.slice none 0 0) 0 [] rfl (World.ownsRow_nil _ _ _ _) ⟨V.heap.size + 1, 0, none⟩ 1 1 [.pointer (some ⟨V.heap.size, 0, none⟩)] rfl rfl (World.news_of_block (by first | exact heap_alloc2_new _ _ _ | exact heap_alloc2_new V.drew _ _ | exact heap_alloc_new _ _ | (simp; done))) (by simp [Value.oneCell']) (by omega) (by unfold maxLen; omega) (by omega) (by simp) (V.heap.size + 1 + 1) (by simp) ?_; intro g7 c7 w7 hov7 hgrow7 hat7 hlt7; obtain ⟨⟨z0, zf⟩, lf⟩ := FN.out _ w7 g7 c7 hgrow7 rfl ⟨rfl, rfl, rfl⟩ hov7 (hat7.resolve_left (by intro z; cases z)); have LF := hide lf; clear hov7 hgrow7 hat7 hlt7 lf)
    all_goals (
      go_wp2
      go_ret2
      exact ⟨rfl, LF.out⟩)
  have m1 : M.many S n ≠ 0 := by
    rw [← pl]
    intro z
    exact hn (List.length_eq_zero_iff.1 z)
  rw [EU.out, if_neg (fun z => m1 z.1)]
  simp only
  rw [err_nil rfl]
  have LK : Hid (∀ V, Below W.heap.size W V → V.cell? ⟨f, 0, none⟩ = some (.map (some mm)) ∧ (Instr.lookup 76 (.map (some mm)) (.string (byStr n)) true).run Tryz.prog V = .ok (.tuple #[.pointer (some ⟨mb n, 0, none⟩), .bool true]) V) := fun V hV => by
    have hv := h.below hV
    exact ⟨hv.box.cell 0 _ rfl, hv.lookOk (by omega) hn⟩
  have RW : Hid (∀ V, Below W.heap.size W V → Bx V (mb n) [.slice (va n) (M.many S n) (vc n), ptB ((M.atN S n 2).map kb), ptB ((M.atN S n 3).map kb)] ∧ V.ownsRow 0 94 1 (.slice (va n) (M.many S n) (vc n)) (M.many S n) ((M.posL S.l n).map fun k => ptB (some (kb k)))) := fun V hV => by
    have hv := h.below hV
    rw [← pl]
    exact ⟨hv.mc n hn, hv.ro n hn⟩
  have ND : Hid (M.names (M.addS S n (M.decV bs)) = M.names S) := by unfold Hid; rw [M.names_add, if_neg hn]
  have FIN : Hid (∀ (w1 V V2 w7 : World) (O : Gr) (pq cq : Nat), O.m = M.decV bs → NewH W w1 O → Below W.heap.size W w1 → Below w1.heap.size w1 V → Below W.heap.size W V →
      V2.heap = (V.heap.push (.cells #[.string (byStr n), .int .i64 ((M.many S n : Int) + 1), .int .i64 1, .int .i64 0, .int .i64 O.f, .int .i64 O.w, .slice O.wa O.ws.length O.wc, .slice O.ta O.ks.length O.tc] 98)).push (.cells #[.pointer (some ⟨V.heap.size, 0, none⟩)] 94) → (V2.os = V.os ∧ V2.tape = V.tape ∧ V2.output = V.output) → V2.grownBy w7 (Value.slice (va n) (M.many S n) (vc n)).ownBlock → w7.ownsRow 0 94 1 (.slice (some ⟨pq, 0, none⟩) (M.many S n + 1) cq) (M.many S n + 1) (((M.posL S.l n).map fun k => ptB (some (kb k))) ++ [.pointer (some ⟨V.heap.size, 0, none⟩)]) → ((Value.slice (va n) (M.many S n) (vc n)).ownBlock = some pq ∨ pq = V.heap.size + 1 + 1) →
      ((∃ v, w7.cell? ⟨mb n, 0, none⟩ = some v) ∧ w7.frozen? ⟨mb n, 0, none⟩ = false) ∧ Left W f T (M.addS S n (M.decV bs)) (w7.setCell ⟨mb n, 0, none⟩ (.slice (some ⟨pq, 0, none⟩) (M.many S n + 1) cq))) := fun w1 V V2 w7 O pq cq om nh bw1 b13 bw3 e e2 hg hov hat => by
    have hv := h.below bw3
    have w13 := b13.size
    have ww3 := bw3.size
    have own : ∀ q, (Value.slice (va n) (M.many S n) (vc n)).ownBlock = some q → q < W.heap.size ∧ T q = 5 := fun q hq => by
      cases e : va n with
      | none => rw [e] at hq; cases hq
      | some p =>
        rw [e] at hq
        have hq' : p.block = q := by cases hq; rfl
        subst hq'
        have t5 := h.rt n p hn e
        exact ⟨h.tlt _ (by rw [t5]; decide), t5⟩
    obtain ⟨g1, g2, g3⟩ := two_new (x := [.string (byStr n), .int .i64 ((M.many S n : Int) + 1), .int .i64 1, .int .i64 0, .int .i64 O.f, .int .i64 O.w, .slice O.wa O.ws.length O.wc, .slice O.ta O.ks.length O.tc]) (y := [.pointer (some ⟨V.heap.size, 0, none⟩)]) e e2 (fun q hq => by have := (own q hq).1; omega) hg
    have mbl : mb n < W.heap.size := h.tlt (mb n) (by rw [h.tb n hn]; decide)
    have mno : (Value.slice (va n) (M.many S n) (vc n)).ownBlock ≠ some (mb n) := fun z => by
      have := (own _ z).2
      rw [h.tb n hn] at this
      cases this
    have bm := hv.mc n hn
    have b7 := bm.keep (g1 (mb n) (by omega) mno)
    have gin : GIn (fun q => W.heap.size ≤ q ∧ q < w1.heap.size) V O := fun W'' hz hq => nh W'' (by omega) (fun b h1 h2 => (hq b ⟨h1, h2⟩).trans (b13.block b h2))
    have vst : StayBut (fun q => q = mm ∧ M.posL S.l n = []) W V := stay_of bw3 (Nat.le_refl _)
    have R := up_fin (V := V) (w7 := w7) (D' := D) (O := O) (mq := mb n) (pq := pq) (cq := cq) (s1 := w1.heap.size) (rc := vc n) (ra := va n) h hb hl vst ⟨fun _ => rfl, fun z => absurd z hn⟩ (by omega) bm ⟨fun _ => rfl, fun z => absurd z hn⟩ (by rw [om, ND.out]; exact hv.mo) (by rw [om, ND.out]; exact h.mz) ⟨fun _ => rfl, fun z => absurd z hn⟩ gin bw1.size (by omega) (by rw [pl]; exact hov) (fun q hq hne => g1 q hq (by rw [pl] at hne; exact hne)) g2 g3 (by rw [pl]; exact hat)
    rw [pl, om] at R
    exact ⟨⟨⟨_, b7.cell 0 _ rfl⟩, b7.free 0⟩, _, ⟨_, _, _, _, _, _, _, _, _, R.1⟩, R.2, fun q hq => by
      by_cases z : q < W.heap.size
      · unfold addT at hq
        rw [if_pos z] at hq
        exact .inl hq
      · exact .inr (by omega)⟩
  have mbl : mb n < W.heap.size := h.tlt (mb n) (by rw [h.tb n hn]; decide)
  clear EU q1 h hr hc key pl hn m1 SAME ND
  generalize ((M.posL S.l n).map fun k => ptB (some (kb k))) = rows at *
  generalize M.names S = N at *
  generalize (M.decF bs).1 = da at *
  generalize M.decV bs = dv at *
  generalize byStr n = s at *
  generalize M.addS S n dv = S2 at *
  generalize M.many S n = L at *
  generalize mb n = mq at *
  generalize va n = ra at *
  generalize vc n = rc at *
  generalize ptB ((M.atN S n 2).map kb) = pc at *
  generalize ptB ((M.atN S n 3).map kb) = pd at *
  go_enter Tryz.func81, Tryz.ntmps81
  go_upto_region 4 with (go_at_call 112; refine DC.out.mono ?_; rintro e w1 ⟨O, rfl, om, nh, hb1⟩; have B1 := hide hb1; have OM := hide om; have NH := hide nh; clear om nh hb1)
  have B2 := hide (B1.out.alloc B1.out.size (.cells #[.int .i64 O.f, .int .i64 O.w, .slice O.wa O.ws.length O.wc, .slice O.ta O.ks.length O.tc] 53))
  have B12 : Hid (Below w1.heap.size w1 (w1.alloc (.cells #[.int .i64 O.f, .int .i64 O.w, .slice O.wa O.ws.length O.wc, .slice O.ta O.ks.length O.tc] 53))) := (Below.refl _ w1).alloc (Nat.le_refl _) _
  have GB := hide (bx_new w1 [.int .i64 O.f, .int .i64 O.w, .slice O.wa O.ws.length O.wc, .slice O.ta O.ks.length O.tc] 53)
  obtain ⟨c0, hrun⟩ := LK.out _ B2.out
  generalize w1.alloc (.cells #[.int .i64 O.f, .int .i64 O.w, .slice O.wa O.ws.length O.wc, .slice O.ta O.ks.length O.tc] 53) = w2 at *
  go_upto_region 8 with (go_at_call 113; refine (CL.out _).mono ?_; rintro e V ⟨rfl, hb3⟩; have B3 := hide (below_on B2.out hb3); have B13 := hide (below_on B12.out hb3); have GV := hide (GB.out.keep (hb3.block _ GB.out.lt)); clear hb3)
  obtain ⟨bm, ro⟩ := RW.out V B3.out
  have RO := hide ro
  have y0 := GV.out.cell 0 _ rfl
  have y1 := GV.out.cell 1 _ rfl
  have y2 := GV.out.cell 2 _ rfl
  have y3 := GV.out.cell 3 _ rfl
  have m0 := bm.cell 0 _ rfl
  have f0 := bm.free 0
  clear bm ro
  go_upto_region 12 with fail
  have FN := hide (fun V2 w7 pq cq (hg : World.grownBy V2 w7 (Value.slice ra L rc).ownBlock) e e2 => FIN.out w1 V V2 w7 O pq cq OM.out NH.out B1.out B13.out B3.out e e2 hg)
  have l4 : w1.heap.size < V.heap.size := GV.out.lt
  have l5 : ¬ w1.heap.size = V.heap.size := by omega
  have l6 : ¬ w1.heap.size = V.heap.size + 1 := by omega
  have l1 : mq < V.heap.size := by have := B3.out.size; omega
  have l2 : ¬ mq = V.heap.size := by omega
  have l3 : ¬ mq = V.heap.size + 1 := by omega
  clear c0 hrun LK FIN CL DC GB
  go_region_law (refine step_append_lies _ rfl (.tmp 65) (.tmp 72) 93 rfl 0 94 i0 (.pointer none) 1 8 Tryz.underlying93 I0.out hz0 hz1 hz2 rfl (by omega) (.slice ra L rc) L rows rfl (by first | exact (RO.out.alloc _).alloc _ | exact (RO.out.drew.alloc _).alloc _ | exact ((RO.out.alloc _).alloc _).drew) ⟨V.heap.size + 1, 0, none⟩ 1 1 [.pointer (some ⟨V.heap.size, 0, none⟩)] rfl rfl (World.news_of_block (by first | exact heap_alloc2_new _ _ _ | exact heap_alloc2_new V.drew _ _ | exact heap_alloc_new _ _ | (simp; done))) (by simp [Value.oneCell']) (by omega) (by unfold maxLen; omega) (by omega) (by simp) (V.heap.size + 1 + 1) (by simp) ?_; intro g7 c7 w7 hov7 hgrow7 hat7 hlt7; obtain ⟨⟨⟨zv, z0⟩, zf⟩, lf⟩ := FN.out _ w7 g7 c7 hgrow7 rfl ⟨rfl, rfl, rfl⟩ hov7 hat7; have LF := hide lf; clear hov7 hgrow7 hat7 hlt7 lf)
  all_goals (
    go_wp2
    go_ret2
    exact ⟨rfl, LF.out⟩)
theorem M.act_up {S : M.Sh} {c : M.Ca} (hw : c.what = 1) : M.act S c = ((M.upF S c.name c.bys).1, (M.upF S c.name c.bys).2.1, (M.upF S c.name c.bys).2.2.l) ∧ (⟨S.idx, (M.act S c).2.2, S.done⟩ : M.Sh) = (M.upF S c.name c.bys).2.2 := by
  unfold M.act M.upF
  rw [if_pos hw]
  by_cases q1 : (M.decF c.bys).2 ≠ 0
  · rw [if_pos q1, if_pos q1]; exact ⟨rfl, rfl⟩
  · rw [if_neg q1, if_neg q1]
    by_cases q2 : M.many S c.name = 0 ∧ 8 ≤ M.names S
    · rw [if_pos q2, if_pos q2]; exact ⟨rfl, rfl⟩
    · rw [if_neg q2, if_neg q2]; exact ⟨rfl, rfl⟩
theorem RdB.same {W V : World} {a : Option Addr} {bs : List Nat} (h : RdB W a bs) (hz : W.heap.size ≤ V.heap.size) (hk : ∀ p, a = some p → V.heap[p.block]? = W.heap[p.block]?) : RdB V a bs :=
  ⟨h.1, h.2.1, fun hn => by
    obtain ⟨b, off, e, hl, hc⟩ := h.2.2 hn
    have hb : V.heap[b]? = W.heap[b]? := hk _ e
    exact ⟨b, off, e, Nat.lt_of_lt_of_le hl hz, fun i hi => (World.cell?_of_block (a := ⟨b, off + i, none⟩) hb).trans (hc i hi)⟩⟩

set_option maxHeartbeats 16000000 in
set_option maxRecDepth 10000 in
theorem sh_do {W : World} {f : Nat} {T : Nat → Nat} {S : M.Sh} {mm ml : Nat} {D E : DataW Value} {kb : Nat → Nat} {mb : List Nat → Nat} {va : List Nat → Option Addr} {vc : List Nat → Nat} {G : Nat → Gr} (h : SV W f T S mm ml D E kb mb va vc G) (c : M.Ca) (a : Option Addr) (cap : Nat) (hb : isB c.name) (nl : c.name.length ≤ 12) (hr : RdB W a c.bys) (hc : c.bys.length ≤ cap) (h63 : cap ≤ 9223372036854775807) (hl : (S.l.length : Int) + 1 ≤ S.idx) (hi : S.idx ≤ 1000000) (hn : I64 c.num) (hs : I64 c.share) (hw : c.what = 1 ∨ c.what = 2 ∨ c.what = 3 ∨ c.what = 4) :
    Calls Tryz.prog 35 #[.pointer (some ⟨f, 0, none⟩), caV c a cap] W fun e w' => e = .returned (.tuple #[.int .i64 (M.act S c).1, errV (M.act S c).2.1]) ∧ Left W f T ⟨S.idx, (M.act S c).2.2, S.done⟩ w' := by
  unfold caV
  obtain ⟨W1, hW1⟩ : ∃ X, X = W.alloc (.cells #[.int .i64 c.what, .int .i64 c.ses, .int .i64 c.seq, .string (byStr c.name), .int .i64 c.num, .int .i64 c.share, .slice a c.bys.length cap] 36) := ⟨_, rfl⟩
  have b1 : Hid (Below W.heap.size W W1) := by unfold Hid; rw [hW1]; exact (Below.refl _ _).alloc (Nat.le_refl _) _
  have bx := caCells W c a cap
  rw [← hW1] at bx
  have c0 := bx.cell 0 _ rfl
  have c1 := bx.cell 1 _ rfl
  have c2 := bx.cell 2 _ rfl
  have c3 := bx.cell 3 _ rfl
  have c4 := bx.cell 4 _ rfl
  have c5 := bx.cell 5 _ rfl
  have c6 := bx.cell 6 _ rfl
  have BX := hide bx
  clear bx
  have h1 := h.below b1.out
  have LF : Hid (∀ S' w', Left W1 f T S' w' → Left W f T S' w') := fun S' w' ⟨T', g1, g2, g3⟩ => ⟨T', g1, (stay_of b1.out (Nat.le_refl _)).trans g2, fun q hq => (g3 q hq).imp id (fun z => Nat.le_trans b1.out.size z)⟩
  by_cases w1 : c.what = 1
  · obtain ⟨e1, e2⟩ := M.act_up (S := S) w1
    have g1 : (c.what == 1) = true := by rw [w1]; rfl
    have UP := hide (sh_upload h1 c.name hb nl a c.bys cap (hr.below b1.out) hc h63 hl hi)
    rw [e2, e1]
    simp only
    clear h h1 hr hc w1 hw e1 e2 hb hn hs
    generalize M.upF S c.name c.bys = u at *
    go_enter Tryz.func35, Tryz.ntmps35
    go_upto_region 1 with fail
    rw [← hW1]
    clear hW1
    go_wp2_with (go_at_call 81; refine UP.out.mono ?_; rintro e w2 ⟨rfl, h2⟩; have H2 := hide (LF.out _ _ h2); clear h2)
    go_ret2
    exact ⟨rfl, H2.out⟩
  have g1 : (c.what == 1) = false := by rw [beq_eq_false_iff_ne]; exact w1
  have hw3 : c.what = 2 ∨ c.what = 3 ∨ c.what = 4 := by omega
  rw [M.act_ch h.inv w1]
  simp only
  by_cases hp : M.posL S.l c.name = []
  · have ER : Hid (M.chF S c = (5, S.l)) := by
      unfold Hid M.chF
      rw [M.ver_pos h.inv.nu, hp, if_neg (by simp; omega)]
    rw [ER.out]
    have MD : Hid (∀ V, V.heap = W1.heap → Calls Tryz.prog 43 #[.pointer (some ⟨f, 0, none⟩), .string (byStr c.name)] V fun e w' => e = .returned (.pointer (some ⟨V.heap.size, 0, none⟩)) ∧ w' = V.alloc (.cells #[.slice none 0 0, .pointer none, .pointer none] 96)) := fun V hV => sh_model0 (h1.up (fun q _ => by rw [hV]) (by rw [hV]; exact Nat.le_refl _)) hb (by omega) hp
    have CH := hide (fun V => sh_change0 (pc := .pointer none) (pl := .pointer none) (bx_new V [.slice none 0 0, .pointer none, .pointer none] 96) c a cap)
    unfold caV at CH
    have SAME : Hid (∀ w', Below W.heap.size W w' → Left W f T S w') := fun w' hw => ⟨T, ⟨mm, ml, D, E, kb, mb, va, vc, G, h.below hw⟩, stay_of hw (Nat.le_refl _), fun q hq => .inl hq⟩
    have zW : Hid (W1.heap.size = W.heap.size + 1) := by unfold Hid; rw [hW1]; simp
    rw [err_some (show (5 : Int) ≠ 0 by decide)] at CH ⊢
    have l1 : W.heap.size < W1.heap.size := by have := zW.out; omega
    have l2 : ¬ W.heap.size = W1.heap.size := by omega
    have l3 : ¬ W1.heap.size = W.heap.size := by omega
    clear h h1 hr hc w1 hw hw3 hb hn hs ER LF hp BX hl hi zW nl h63
    generalize byStr c.name = s at *
    generalize c.what = x0 at *
    generalize c.ses = x1 at *
    generalize c.seq = x2 at *
    generalize c.num = x4 at *
    generalize c.share = x5 at *
    generalize c.bys.length = x6 at *
    go_enter Tryz.func35, Tryz.ntmps35
    go_upto_region 1 with fail
    rw [← hW1]
    clear hW1
    go_upto_region 3 with fail
    go_region_with (first
      | (go_at_call 43; refine (MD.out W1.drew rfl).mono ?_; rintro e w2 ⟨rfl, e2⟩; subst e2)
      | (go_at_call 82; refine (CH.out W1.drew).mono ?_; rintro e w3 ⟨rfl, h3⟩; have H3 := hide h3; clear h3))
    all_goals (
      go_simp
      go_wp2
      go_ret2
      exact ⟨rfl, SAME.out _ (below_on (below_on b1.out ((Below.refl _ W1).drew.alloc (Nat.le_refl _) _)) H3.out)⟩)
  have MD : Hid (∀ V, Below W.heap.size W V → Calls Tryz.prog 43 #[.pointer (some ⟨f, 0, none⟩), .string (byStr c.name)] V fun e w' => e = .returned (.pointer (some ⟨mb c.name, 0, none⟩)) ∧ w' = V) := fun V hV => sh_model (h.below hV) (by omega) hp
  have CH : Hid (∀ V, Below W.heap.size W V → Calls Tryz.prog 82 #[.pointer (some ⟨mb c.name, 0, none⟩), caV c a cap] V fun e w' => e = .returned (errV (M.chF S c).1) ∧ Left W f T ⟨S.idx, (M.chF S c).2, S.done⟩ w') := fun V hV => (sh_change (h.below hV) c a cap hp hn hs hw3).mono (fun e w' ⟨G', g1, g2, g3⟩ => ⟨g1, T, ⟨mm, ml, D, E, kb, mb, va, vc, G', g2⟩, (stay_of hV (Nat.le_refl _)).trans g3, fun q hq => .inl hq⟩)
  unfold caV at CH
  have zW : Hid (W1.heap.size = W.heap.size + 1) := by unfold Hid; rw [hW1]; simp
  have l1 : W.heap.size < W1.heap.size := by have := zW.out; omega
  have l2 : ¬ W.heap.size = W1.heap.size := by omega
  have l3 : ¬ W1.heap.size = W.heap.size := by omega
  have BD : Hid (Below W.heap.size W W1.drew) := b1.out.drew
  clear h h1 hr hc w1 hw hw3 hb hn hs LF hp BX hl hi zW nl h63
  generalize hst : (M.chF S c) = r at *
  clear hst
  generalize byStr c.name = s at *
  generalize mb c.name = mq at *
  generalize c.what = x0 at *
  generalize c.ses = x1 at *
  generalize c.seq = x2 at *
  generalize c.num = x4 at *
  generalize c.share = x5 at *
  generalize c.bys.length = x6 at *
  go_enter Tryz.func35, Tryz.ntmps35
  go_upto_region 1 with fail
  rw [← hW1]
  clear hW1
  go_upto_region 3 with fail
  go_region_with (first
    | (go_at_call 43; refine (MD.out W1.drew BD.out).mono ?_; rintro e w2 ⟨rfl, e2⟩; subst e2)
    | (go_at_call 82; refine (CH.out W1.drew BD.out).mono ?_; rintro e w3 ⟨rfl, h3⟩; have H3 := hide h3; clear h3))
  all_goals (
    go_simp
    go_wp2
    go_ret2
    exact ⟨rfl, H3.out⟩)
/-- what is left, with what is new from a block on -/
def LeftN (W : World) (f : Nat) (T : Nat → Nat) (N : Nat) (S : M.Sh) (w : World) : Prop := ∃ T', SA w f T' S ∧ StayBut (fun q => T q ≠ 0) W w ∧ (∀ q, T' q ≠ 0 → T q ≠ 0 ∨ N ≤ q)
theorem LeftN.set {W : World} {f : Nat} {T : Nat → Nat} {N : Nat} {S : M.Sh} {w : World} (h : LeftN W f T N S w) {q0 j : Nat} {v : Value} (h1 : T q0 = 0) (h2 : q0 < N) (h3 : W.heap.size ≤ q0) : LeftN W f T N S (w.setCell ⟨q0, j, none⟩ v) := by
  obtain ⟨T', a, b, c⟩ := h
  refine ⟨T', a.up (fun q hq => heap_setCell_other _ _ _ _ (fun e => ?_)) (by rw [World.size_setCell]; exact Nat.le_refl _), ?_, c⟩
  · subst e
    rcases c _ hq with z | z
    · exact z h1
    · omega
  · refine ⟨b.os, b.tape, b.output, by rw [World.size_setCell]; exact b.size, fun q hq hk => ?_⟩
    rw [heap_setCell_other _ _ _ _ (show q ≠ q0 by omega)]
    exact b.block q hq hk
theorem LeftN.drew {W : World} {f : Nat} {T : Nat → Nat} {N : Nat} {S : M.Sh} {w : World} (h : LeftN W f T N S w) : LeftN W f T N S w.drew := by
  obtain ⟨T', a, b, c⟩ := h
  exact ⟨T', a.up (fun q hq => rfl) (Nat.le_refl _), ⟨b.os, b.tape, b.output, b.size, b.block⟩, c⟩
theorem LeftN.left {W : World} {f : Nat} {T : Nat → Nat} {N : Nat} {S : M.Sh} {w : World} (h : LeftN W f T N S w) (hN : W.heap.size ≤ N) : Left W f T S w := by
  obtain ⟨T', a, b, c⟩ := h
  exact ⟨T', a, b, fun q hq => (c q hq).imp id (fun z => Nat.le_trans hN z)⟩
/-- blocks that are not the shelf's stay -/
theorem LeftN.keep {W V : World} {f : Nat} {T : Nat → Nat} {N : Nat} {S : M.Sh} {w : World} (h : StayBut (fun q => T q ≠ 0) V w) {b : Nat} {l : List Value} (hb : Bx V b l) (ht : T b = 0) : Bx w b l := hb.keep (h.block b hb.lt (fun z => z ht))

/-- an answer that is kept -/
theorem said_left {W w : World} {f : Nat} {T : Nat → Nat} {N : Nat} {S : M.Sh} {l : List (M.Vn × M.Gv)} {d : M.Dn} (h : LeftN W f T N ⟨S.idx + 1, l, S.done⟩ w) (hN : W.heap.size ≤ N) (hd : (S.done.length : Int) ≤ S.idx) (hi : S.idx ≤ 900000) (hs : 0 ≤ d.ses ∧ d.ses ≤ 1000000) (ha : d.bad = 0 → 1 ≤ d.ans.idx ∧ d.ans.idx ≤ S.idx + 1) :
    ∃ ml, w.cell? ⟨f, 1, none⟩ = some (.map (some ml)) ∧ w.cell? ⟨f, 2, none⟩ = some (.int .i64 (S.idx + 1)) ∧ f < N + w.heap.size ∧ ∀ V : World, V.heap = w.heap → V.os = w.os → V.tape = w.tape → V.output = w.output → ∃ w9, (Instr.mapUpdate 77 (.map (some ml)) (.int .i64 d.ses) (lastV d)).run Tryz.prog V = .ok () w9 ∧ LeftN W f T N ⟨S.idx + 1, l, M.say S.done (M.lastN ⟨S.idx + 1, l, S.done⟩ d.ses) d⟩ w9 ∧ (∀ q, q < w.heap.size → T q = 0 → q < N → w9.heap[q]? = w.heap[q]?) ∧ w.heap.size ≤ w9.heap.size := by
  obtain ⟨T', ⟨mm, ml, D, E, kb, mb, va, vc, G, sv⟩, b, c⟩ := h
  refine ⟨ml, sv.box.cell 1 _ rfl, sv.box.cell 2 _ rfl, by have := sv.lt; omega, fun V e1 e2 e3 e4 => ?_⟩
  have svV : SV V f T' ⟨S.idx + 1, l, S.done⟩ mm ml D E kb mb va vc G := sv.up (fun q _ => by rw [e1]) (by rw [e1]; exact Nat.le_refl _)
  obtain ⟨m, lo⟩ := svV.lo
  have lz := svV.lz
  have lt := ownsMap_tight lo
  rw [lz] at lt
  obtain ⟨w9, hrun, ho, hg⟩ := lt.update (val := lastV d) keyI Tryz.underlying77 (by show S.done.length < maxLen; unfold maxLen; omega) (keyOf_int_mk (a := d.ses) Tryz.underlying3 (WalkArith.wf_i64 (by omega))) rfl
  have sz := hg.size
  rw [e1] at sz
  refine ⟨w9, hrun, ⟨T', ⟨mm, ml, D, _, kb, mb, va, vc, G, svV.said (d := d) (by show (S.done.length : Int) + 1 ≤ S.idx + 1; omega) hs ha ho hg⟩, ?_, c⟩, fun q q1 q2 q3 => ?_, sz⟩
  · refine ⟨(hg.os.trans e2).trans b.os, (hg.tape.trans e3).trans b.tape, (hg.output.trans e4).trans b.output, Nat.le_trans b.size sz, fun q hq hk => ?_⟩
    rw [hg.block q (by rw [e1]; have := b.size; omega) (fun z => by
      cases z
      have := c ml (by rw [sv.tl]; decide)
      rcases this with z | z
      · exact hk z
      · omega), e1]
    exact b.block q hq hk
  · rw [hg.block q (by rw [e1]; exact q1) (fun z => by
      cases z
      rcases c ml (by rw [sv.tl]; decide) with y | y
      · exact y q2
      · omega), e1]

/-- the index raised, the answer's own block laid, and what is asked done -/
theorem cnt_do {W : World} {f : Nat} {T : Nat → Nat} {S : M.Sh} {mm ml : Nat} {D E : DataW Value} {kb : Nat → Nat} {mb : List Nat → Nat} {va : List Nat → Option Addr} {vc : List Nat → Nat} {G : Nat → Gr} (h : SV W f T S mm ml D E kb mb va vc G) (c : M.Ca) (a : Option Addr) (cap : Nat) (hb : isB c.name) (nl : c.name.length ≤ 12) (hr : RdB W a c.bys) (ha : c.bys ≠ [] → ∀ p, a = some p → T p.block = 0) (hc : c.bys.length ≤ cap) (h63 : cap ≤ 9223372036854775807) (hi : S.idx ≤ 900000) (hn : I64 c.num) (hs : I64 c.share) (wh : 1 ≤ c.what ∧ c.what ≤ 4) {wc : World} (hw : Below W.heap.size W wc) (BX : Bx wc W.heap.size [.int .i64 c.what, .int .i64 c.ses, .int .i64 c.seq, .string (byStr c.name), .int .i64 c.num, .int .i64 c.share, .slice a c.bys.length cap]) (BA : Bx wc (W.heap.size + 1) [.int .i64 0, .int .i64 0]) :
    (wc.cell? ⟨f, 2, none⟩ = some (.int .i64 S.idx) ∧ wc.frozen? ⟨f, 2, none⟩ = false) ∧ (∀ j, (wc.setCell ⟨f, 2, none⟩ (.int .i64 (S.idx + 1))).cell? ⟨W.heap.size, j, none⟩ = wc.cell? ⟨W.heap.size, j, none⟩) ∧
    Calls Tryz.prog 35 #[.pointer (some ⟨f, 0, none⟩), caV c a cap] ((wc.setCell ⟨f, 2, none⟩ (.int .i64 (S.idx + 1))).alloc (.cells #[.int .i64 c.seq, .int .i64 0, .int .i64 0, .nilIface] 87)) fun e w6 => e = .returned (.tuple #[.int .i64 (M.act S c).1, errV (M.act S c).2.1]) ∧ LeftN W f T (wc.heap.size + 1) ⟨S.idx + 1, (M.act S c).2.2, S.done⟩ w6 ∧ Bx w6 wc.heap.size [.int .i64 c.seq, .int .i64 0, .int .i64 0, .nilIface] ∧ Bx w6 W.heap.size [.int .i64 c.what, .int .i64 c.ses, .int .i64 c.seq, .string (byStr c.name), .int .i64 c.num, .int .i64 c.share, .slice a c.bys.length cap] ∧ Bx w6 (W.heap.size + 1) [.int .i64 0, .int .i64 0] := by
  have hv := h.below hw
  have fl := h.lt
  have wz := hw.size
  have b0 := BX.lt
  have b1 := BA.lt
  have T0 : ∀ q, W.heap.size ≤ q → T q = 0 := fun q hq => by
    by_cases z : T q = 0
    · exact z
    · have := h.tlt q z; omega
  have s4 := hv.count
  have z4 : (wc.setCell ⟨f, 2, none⟩ (.int .i64 (S.idx + 1))).heap.size = wc.heap.size := World.size_setCell ..
  have oth : ∀ q, q ≠ f → (wc.setCell ⟨f, 2, none⟩ (.int .i64 (S.idx + 1))).heap[q]? = wc.heap[q]? := fun q hq => heap_setCell_other _ _ _ _ hq
  have a5 : Below (wc.setCell ⟨f, 2, none⟩ (.int .i64 (S.idx + 1))).heap.size (wc.setCell ⟨f, 2, none⟩ (.int .i64 (S.idx + 1))) ((wc.setCell ⟨f, 2, none⟩ (.int .i64 (S.idx + 1))).alloc (.cells #[.int .i64 c.seq, .int .i64 0, .int .i64 0, .nilIface] 87)) := (Below.refl _ _).alloc (Nat.le_refl _) _
  have s5 := s4.below a5
  have z5 : ((wc.setCell ⟨f, 2, none⟩ (.int .i64 (S.idx + 1))).alloc (.cells #[.int .i64 c.seq, .int .i64 0, .int .i64 0, .nilIface] 87)).heap.size = wc.heap.size + 1 := by simp
  have o5 : ∀ q, q < wc.heap.size → q ≠ f → ((wc.setCell ⟨f, 2, none⟩ (.int .i64 (S.idx + 1))).alloc (.cells #[.int .i64 c.seq, .int .i64 0, .int .i64 0, .nilIface] 87)).heap[q]? = wc.heap[q]? := fun q h1 h2 => (a5.block q (by rw [z4]; exact h1)).trans (oth q h2)
  have B8 : Bx ((wc.setCell ⟨f, 2, none⟩ (.int .i64 (S.idx + 1))).alloc (.cells #[.int .i64 c.seq, .int .i64 0, .int .i64 0, .nilIface] 87)) wc.heap.size [.int .i64 c.seq, .int .i64 0, .int .i64 0, .nilIface] := by
    have := bx_new (wc.setCell ⟨f, 2, none⟩ (.int .i64 (S.idx + 1))) [.int .i64 c.seq, .int .i64 0, .int .i64 0, .nilIface] 87
    rwa [z4] at this
  have hr5 : RdB ((wc.setCell ⟨f, 2, none⟩ (.int .i64 (S.idx + 1))).alloc (.cells #[.int .i64 c.seq, .int .i64 0, .int .i64 0, .nilIface] 87)) a c.bys := by
    by_cases hne : c.bys = []
    · rw [hne]; exact ⟨Nat.zero_le _, (fun x hx => by cases hx), fun z => absurd rfl z⟩
    · obtain ⟨b, off, e, hl, _⟩ := hr.2.2 hne
      refine (hr.below hw).same (by rw [z5]; omega) (fun p hp => ?_)
      rw [e] at hp
      cases hp
      have t0 : T b = 0 := ha hne _ e
      refine o5 b (by omega) (fun z => ?_)
      rw [z, h.tf] at t0
      cases t0
  refine ⟨⟨hv.box.cell 2 _ rfl, hv.box.free 2⟩, fun j => World.cell?_of_block (a := ⟨W.heap.size, j, none⟩) (oth W.heap.size (by omega)), ?_⟩
  refine (sh_do s5 c a cap hb nl hr5 hc h63 (by have := h.inv.ll; show (S.l.length : Int) + 1 ≤ S.idx + 1; omega) (by show S.idx + 1 ≤ 1000000; omega) hn hs (by omega)).mono ?_
  rintro e w6 ⟨rfl, T', a6, b6, c6⟩
  have EA : M.act ⟨S.idx + 1, S.l, S.done⟩ c = M.act S c := rfl
  rw [EA] at a6 ⊢
  refine ⟨rfl, ⟨T', a6, ⟨b6.os.trans hw.os, b6.tape.trans hw.tape, b6.output.trans hw.output, by have := b6.size; rw [z5] at this; omega, fun q hq hk => ?_⟩, fun q hq => ?_⟩, B8.keep (b6.block _ B8.lt (fun z => z (T0 _ (by omega)))), BX.keep ((b6.block _ (by rw [z5]; omega) (fun z => z (T0 _ (by omega)))).trans (o5 _ b0 (by omega))), BA.keep ((b6.block _ (by rw [z5]; omega) (fun z => z (T0 _ (by omega)))).trans (o5 _ b1 (by omega)))⟩
  · rw [b6.block q (by rw [z5]; omega) hk, o5 q (by omega) (fun z => hk (by rw [z, h.tf]; decide))]
    exact hw.block q hq
  · have := c6 q hq
    rw [z5] at this
    exact this
end Go.Proofs.YtiggkjkjfnlfkaaGreatDoor
