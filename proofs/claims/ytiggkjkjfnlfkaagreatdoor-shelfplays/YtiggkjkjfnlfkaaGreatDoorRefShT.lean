/-
  What the reference's Do answers of a call that counts, and what it leaves.
-/
import Derived.Test.YtiggkjkjfnlfkaaGreatDoorRunP5
import Derived.Deep.Cut
import Derived.Deep.CutRange
import Derived.Deep.RegionHeld3
import Derived.Deep.AppendLies
import Derived.Deep.RegionLaw
namespace Go.Proofs.YtiggkjkjfnlfkaaGreatDoor
open Go.ChangeShapes Go.WideShapes Go.ChangeAt Go.RowKit Go.Lib
set_option linter.unusedVariables false

theorem infoDn : (Tryz.prog.info? 83).map (fun i => (i.zero, i.size, i.bytes)) = some (some (.agg #[.int .i64 0, .int .i64 0, .int .i64 0, .int .i64 0, .int .i64 0]), 5, 40) := by kernel_rfl
theorem RdB.stayed {W V : World} {a : Option Addr} {bs : List Nat} (h : RdB W a bs) (hz : W.heap.size ≤ V.heap.size) (hk : bs ≠ [] → ∀ p, a = some p → V.heap[p.block]? = W.heap[p.block]?) : RdB V a bs :=
  ⟨h.1, h.2.1, fun hn => by
    obtain ⟨b, off, e, hl, hc⟩ := h.2.2 hn
    have hb : V.heap[b]? = W.heap[b]? := hk hn _ e
    exact ⟨b, off, e, Nat.lt_of_lt_of_le hl hz, fun i hi => (World.cell?_of_block (a := ⟨b, off + i, none⟩) hb).trans (hc i hi)⟩⟩

theorem five_other (V : World) {b q j0 j1 j2 j3 j4 : Nat} {v0 v1 v2 v3 v4 : Value} (h : q ≠ b) : (((((V.setCell ⟨b, j0, none⟩ v0).setCell ⟨b, j1, none⟩ v1).setCell ⟨b, j2, none⟩ v2).setCell ⟨b, j3, none⟩ v3).setCell ⟨b, j4, none⟩ v4).heap[q]? = V.heap[q]? := 
  (heap_setCell_other _ _ _ _ h).trans ((heap_setCell_other _ _ _ _ h).trans ((heap_setCell_other _ _ _ _ h).trans ((heap_setCell_other _ _ _ _ h).trans (heap_setCell_other _ _ _ _ h))))
theorem five_cell {V : World} {b q j j0 j1 j2 j3 j4 : Nat} {v0 v1 v2 v3 v4 v : Value} (h : q ≠ b) (hv : V.cell? ⟨q, j, none⟩ = some v) : (((((V.setCell ⟨b, j0, none⟩ v0).setCell ⟨b, j1, none⟩ v1).setCell ⟨b, j2, none⟩ v2).setCell ⟨b, j3, none⟩ v3).setCell ⟨b, j4, none⟩ v4).cell? ⟨q, j, none⟩ = some v := 
  (World.cell?_of_block (a := ⟨q, j, none⟩) (five_other V h)).trans hv
theorem five_bx {V : World} {b q j0 j1 j2 j3 j4 : Nat} {v0 v1 v2 v3 v4 : Value} {l : List Value} (h : q ≠ b) (hv : Bx V q l) : Bx (((((V.setCell ⟨b, j0, none⟩ v0).setCell ⟨b, j1, none⟩ v1).setCell ⟨b, j2, none⟩ v2).setCell ⟨b, j3, none⟩ v3).setCell ⟨b, j4, none⟩ v4) q l := 
  hv.keep (five_other V h)

set_option maxHeartbeats 16000000 in
set_option maxRecDepth 10000 in
theorem rDo_yes (hR : RGrvGives) {W : World} {s : Nat} {T : Nat → Nat} {S : M.Sh} {la : Option Addr} {lc : Nat} {da : Option Addr} {dc : Nat} {G : Nat → Gr} (h : RV W s T S la lc da dc G) (c : M.Ca) (a : Option Addr) (cap : Nat) (hb : isB c.name) (hr : RdB W a c.bys) (ha : c.bys ≠ [] → ∀ p, a = some p → T p.block = 0) (hc : c.bys.length ≤ cap) (h63 : cap ≤ 9223372036854775807) (hi : S.idx ≤ 900000) (q1 : M.callF c = 0) (q2 : ¬ (M.was S c.ses).seq = c.seq) (q3 : ¬ c.seq < (M.was S c.ses).seq) :
    Calls Tryz.prog 9 #[.pointer (some ⟨s, 0, none⟩), caV c a cap] W fun e w' => e = .returned (.tuple #[anV (M.cntF S c).1, .int .i64 (M.cntF S c).2.1]) ∧ RLeft W s T (M.cntF S c).2.2 w' := by
  obtain ⟨wh, ses1, seq1, nl⟩ := M.call_seq q1
  have i0 := h.inv.ok.i0
  unfold caV
  obtain ⟨W1, hW1⟩ : ∃ X, X = (W.alloc (.cells #[.int .i64 c.what, .int .i64 c.ses, .int .i64 c.seq, .string (byStr c.name), .int .i64 c.num, .int .i64 c.share, .slice a c.bys.length cap] 36)).alloc (.cells #[.int .i64 0, .int .i64 0] 31) := ⟨_, rfl⟩
  have b1 : Hid (Below W.heap.size W W1) := by unfold Hid; rw [hW1]; exact ((Below.refl _ _).alloc (Nat.le_refl _) _).alloc (by simp) _
  have bx : Bx W1 W.heap.size [.int .i64 c.what, .int .i64 c.ses, .int .i64 c.seq, .string (byStr c.name), .int .i64 c.num, .int .i64 c.share, .slice a c.bys.length cap] := by rw [hW1]; exact (bx_new W _ _).keep (((Below.refl _ _).alloc (Nat.le_refl _) _).block _ (by simp))
  have ba : Bx W1 (W.heap.size + 1) [.int .i64 0, .int .i64 0] := by
    rw [hW1]
    have := bx_new (W.alloc (.cells #[.int .i64 c.what, .int .i64 c.ses, .int .i64 c.seq, .string (byStr c.name), .int .i64 c.num, .int .i64 c.share, .slice a c.bys.length cap] 36)) [.int .i64 0, .int .i64 0] 31
    rwa [show (W.alloc (.cells #[.int .i64 c.what, .int .i64 c.ses, .int .i64 c.seq, .string (byStr c.name), .int .i64 c.num, .int .i64 c.share, .slice a c.bys.length cap] 36)).heap.size = W.heap.size + 1 by simp] at this
  have CF := hide (rcall_any c a cap hb (by omega) W1)
  rw [q1] at CF
  unfold caV at CF
  have BX := hide bx
  have BA := hide ba
  have c0 := bx.cell 0 _ rfl
  have c1 := bx.cell 1 _ rfl
  have c2 := bx.cell 2 _ rfl
  have c3 := bx.cell 3 _ rfl
  have c4 := bx.cell 4 _ rfl
  have c5 := bx.cell 5 _ rfl
  have c6 := bx.cell 6 _ rfl
  have H := hide h
  have sl : s < W.heap.size := h.tlt s (by rw [h.ts]; decide)
  have ts0 : T s ≠ 0 := by rw [h.ts]; decide
  have T0 : Hid (∀ q, W.heap.size ≤ q → T q = 0) := fun q hq => by
    by_cases z : T q = 0
    · exact z
    · have := h.tlt q z; omega
  have dl := h.inv.dl
  have mxd := own_max h.dd
  obtain ⟨S6, hS6⟩ : ∃ X : M.Sh, X = ⟨S.idx + 1, (M.act S c).2.2, S.done⟩ := ⟨_, rfl⟩
  obtain ⟨D, hD⟩ : ∃ X : M.Dn, X = ⟨c.ses, c.seq, if (M.act S c).2.1 = 0 then ⟨(M.act S c).1, S.idx + 1⟩ else M.an0, (M.act S c).2.1⟩ := ⟨_, rfl⟩
  have dOk : D.bad = 0 → 1 ≤ D.ans.idx ∧ D.ans.idx ≤ S.idx + 1 := fun z => by
    rw [hD] at z ⊢
    have z' : (M.act S c).2.1 = 0 := z
    show 1 ≤ (if (M.act S c).2.1 = 0 then (⟨(M.act S c).1, S.idx + 1⟩ : M.An) else M.an0).idx ∧ _
    rw [if_pos z']
    show 1 ≤ S.idx + 1 ∧ S.idx + 1 ≤ S.idx + 1
    omega
  -- up to the call of act
  have ACT : Hid (∀ w5, Below W1.heap.size W1 w5 → (w5.cell? ⟨s, 0, none⟩ = some (.int .i64 S.idx) ∧ w5.frozen? ⟨s, 0, none⟩ = false) ∧ Bx (w5.setCell ⟨s, 0, none⟩ (.int .i64 (S.idx + 1))) W.heap.size [.int .i64 c.what, .int .i64 c.ses, .int .i64 c.seq, .string (byStr c.name), .int .i64 c.num, .int .i64 c.share, .slice a c.bys.length cap] ∧ Calls Tryz.prog 32 #[.pointer (some ⟨s, 0, none⟩), caV c a cap] (w5.setCell ⟨s, 0, none⟩ (.int .i64 (S.idx + 1))) fun e w6 => e = .returned (.tuple #[.int .i64 (M.act S c).1, .int .i64 (M.act S c).2.1]) ∧ RLeft (w5.setCell ⟨s, 0, none⟩ (.int .i64 (S.idx + 1))) s T S6 w6) := fun w5 hw => by
    have bW := below_on b1.out hw
    have h5 := H.out.below bW
    have hv := H.out.count bW
    have x5 := BX.out.keep (hw.block _ BX.out.lt)
    refine ⟨⟨h5.box.cell 0 _ rfl, h5.box.free 0⟩, x5.else (by omega), ?_⟩
    have r5 : RdB (w5.setCell ⟨s, 0, none⟩ (.int .i64 (S.idx + 1))) a c.bys := (hr.below bW).stayed (by rw [World.size_setCell]; exact Nat.le_refl _) (fun hn p hp => heap_setCell_other _ _ _ _ (fun e => by
      have := ha hn p hp
      rw [e] at this
      exact ts0 this))
    have := ract_any hR hv c a cap hb r5 hc h63 (by show S.idx + 1 ≤ 1000000; omega) (by have := h.inv.ll; show (S.l.length : Int) + 1 ≤ S.idx + 1; omega) wh
    rw [hS6]
    exact this
  -- behind it
  have AFT : Hid (∀ w5 w6, Below W1.heap.size W1 w5 → RLeft (w5.setCell ⟨s, 0, none⟩ (.int .i64 (S.idx + 1))) s T S6 w6 → W.heap.size + 1 < w6.heap.size ∧ w6.cell? ⟨s, 0, none⟩ = some (.int .i64 (S.idx + 1)) ∧ Bx w6 W.heap.size [.int .i64 c.what, .int .i64 c.ses, .int .i64 c.seq, .string (byStr c.name), .int .i64 c.num, .int .i64 c.share, .slice a c.bys.length cap] ∧ Bx w6 (W.heap.size + 1) [.int .i64 0, .int .i64 0] ∧ StayBut (fun q => T q ≠ 0) W (w5.setCell ⟨s, 0, none⟩ (.int .i64 (S.idx + 1))) ∧ W.heap.size + 1 < (w5.setCell ⟨s, 0, none⟩ (.int .i64 (S.idx + 1))).heap.size) := fun w5 w6 hw hl => by
    have bW := below_on b1.out hw
    have st := stay_count (T := T) ts0 bW (.int .i64 (S.idx + 1))
    have z1 := BA.out.lt
    have z5 := hw.size
    have zs : (w5.setCell ⟨s, 0, none⟩ (.int .i64 (S.idx + 1))).heap.size = w5.heap.size := World.size_setCell ..
    have x5 := (BX.out.keep (hw.block _ BX.out.lt)).else (p := s) (j := 0) (v := .int .i64 (S.idx + 1)) (by omega)
    have a5 := (BA.out.keep (hw.block _ BA.out.lt)).else (p := s) (j := 0) (v := .int .i64 (S.idx + 1)) (by omega)
    obtain ⟨T', ⟨la6, lc6, da6, dc6, G6, h6⟩, s6, n6⟩ := hl
    have z6 := s6.size
    have e0 := h6.box.cell 0 _ rfl
    rw [hS6] at e0
    exact ⟨by omega, e0, x5.keep (s6.block _ (by omega) (fun z => z (T0.out _ (Nat.le_refl _)))), a5.keep (s6.block _ (by omega) (fun z => z (T0.out _ (by omega)))), st, by omega⟩
  -- the two ways
  cases hk : M.lastN S c.ses with
  | none =>
    have e6 : M.lastN S6 c.ses = M.lastN S c.ses := by rw [hS6]; rfl
    have CN : Hid (M.cntF S c = (D.ans, D.bad, ⟨S.idx + 1, (M.act S c).2.2, M.say S.done none D⟩)) := by
      unfold Hid M.cntF
      rw [hk, hD]
    rw [CN.out]
    simp only
    obtain ⟨S9, hS9⟩ : ∃ X : M.Sh, X = ⟨S.idx + 1, (M.act S c).2.2, M.say S.done none D⟩ := ⟨_, rfl⟩
    rw [← hS9]
    have LASTF : Hid (∀ w, Below W1.heap.size W1 w → Bx w W.heap.size [.int .i64 c.what, .int .i64 c.ses, .int .i64 c.seq, .string (byStr c.name), .int .i64 c.num, .int .i64 c.share, .slice a c.bys.length cap] ∧ Calls Tryz.prog 31 #[.pointer (some ⟨s, 0, none⟩), .int .i64 c.ses] w fun e w' => e = .returned (.int .i64 (-1)) ∧ w' = w) := fun w hw => by
      have l := rlast_any (H.out.below (below_on b1.out hw)) c.ses
      rw [hk] at l
      exact ⟨BX.out.keep (hw.block _ BX.out.lt), l⟩
    have DN : Hid (∀ V5 w6, RLeft V5 s T S6 w6 → StayBut (fun q => T q ≠ 0) W V5 → ∃ da6 dc6, w6.cell? ⟨s, 2, none⟩ = some (.slice da6 S.done.length dc6) ∧ w6.ownsRow 0 83 5 (.slice da6 S.done.length dc6) S.done.length (flatR (fun k => dnL (S.done.getD k dn0)) S.done.length) ∧ ∀ V g cg w12, Below w6.heap.size w6 V → V.grownBy w12 (Value.slice da6 S.done.length dc6).ownBlock → w12.ownsRow 0 83 5 (.slice (some ⟨g, 0, none⟩) (S.done.length + 1) cg) (S.done.length + 1) (flatR (fun k => dnL (S.done.getD k dn0)) S.done.length ++ [.int .i64 c.ses, .int .i64 c.seq, .int .i64 D.ans.num, .int .i64 D.ans.idx, .int .i64 D.bad]) → ((Value.slice da6 S.done.length dc6).ownBlock = some g ∨ V.heap.size ≤ g) →
        (w12.cell? ⟨s, 2, none⟩ = some (.slice da6 S.done.length dc6) ∧ w12.frozen? ⟨s, 2, none⟩ = false) ∧ RLeftN W s T V5.heap.size S9 (w12.setCell ⟨s, 2, none⟩ (.slice (some ⟨g, 0, none⟩) (S.done.length + 1) cg)) ∧ ∀ q, ((T q = 0 ∧ q < V5.heap.size) ∨ w6.heap.size ≤ q) → q < V.heap.size → w12.heap[q]? = V.heap[q]?) := fun V5 w6 lf st => by
      rw [hS6] at lf
      obtain ⟨lav, da6, dc6, b6, ro, ad⟩ := done_add lf st D (by rw [hD]; exact hk) (by show (S.done.length : Int) + 1 ≤ S.idx + 1; omega) dOk
      refine ⟨da6, dc6, b6.cell 2 _ rfl, ro, fun V g cg w12 h1 h2 h3 h4 => ?_⟩
      rw [hS9]
      exact ad V g cg w12 h1 h2 (by rw [hD] at h3 ⊢; exact h3) h4
    have EA : Hid (((M.act S c).2.1 = 0 → D.ans.num = (M.act S c).1 ∧ D.ans.idx = S.idx + 1) ∧ ((M.act S c).2.1 ≠ 0 → D.ans.num = 0 ∧ D.ans.idx = 0) ∧ D.bad = (M.act S c).2.1) := by
      rw [hD]
      refine ⟨fun z => ?_, fun z => ?_, rfl⟩
      · show (if (M.act S c).2.1 = 0 then (⟨(M.act S c).1, S.idx + 1⟩ : M.An) else M.an0).num = _ ∧ (if (M.act S c).2.1 = 0 then (⟨(M.act S c).1, S.idx + 1⟩ : M.An) else M.an0).idx = _
        rw [if_pos z]; exact ⟨rfl, rfl⟩
      · show (if (M.act S c).2.1 = 0 then (⟨(M.act S c).1, S.idx + 1⟩ : M.An) else M.an0).num = _ ∧ (if (M.act S c).2.1 = 0 then (⟨(M.act S c).1, S.idx + 1⟩ : M.An) else M.an0).idx = _
        rw [if_neg z]; exact ⟨rfl, rfl⟩
    have wI : IntKind.i64.wrap (S.idx + 1) = S.idx + 1 := wrap_i64n (by omega) (by omega)
    obtain ⟨i0', hi0, hz0, hz1, hz2⟩ := info_parts infoDn
    have I0 := hide hi0
    clear hi0
    unfold anV
    unfold caV at ACT
    clear CN e6 hb hr ha hc h63 q1 q2 q3 wh ses1 seq1 nl h hS9 hS6 dOk hD H hk bx ba 
    generalize D.ans.num = a0 at *
    generalize D.ans.idx = a1 at *
    generalize D.bad = dbad at *
    generalize (M.act S c).1 = rn at *
    generalize (M.act S c).2.1 = re at *
    generalize hI : S.idx = I at *
    clear hI
    generalize hn : S.done.length = n at *
    have mxn : n ≤ 900000 := by omega
    clear dl
    generalize byStr c.name = sn at *
    generalize flatR (fun k => dnL (S.done.getD k dn0)) n = FC at *
    go_enter Tryz.func9, Tryz.ntmps9
    go_upto_region 1 with fail
    rw [← hW1]
    clear hW1
    go_upto_region 2 with (go_at_call 30; refine CF.out.mono ?_; rintro e w2 ⟨rfl, h2⟩; have H2 := hide h2; obtain ⟨bX, ls⟩ := LASTF.out w2 h2; have LS := hide ls; have d1 := bX.cell 1 _ rfl; have d2' := bX.cell 2 _ rfl; clear ls h2 bX)
    clear c0 c1 c2 c3 c4 c5 c6 CF
    go_upto_region 5 with (go_at_call 31; refine LS.out.mono ?_; rintro e w3 ⟨rfl, ew⟩; have ew2 := ew.symm; subst ew2)
    clear LS
    go_quiet (fail)
    have H4 := hide (below_drew H2.out nq H2.out.size)
    clear d1 d2' H2 
    generalize w2.drewN nq = w4 at *
    obtain ⟨bX, _⟩ := LASTF.out w4 H4.out
    have d1 := bX.cell 1 _ rfl
    have d2' := bX.cell 2 _ rfl
    go_upto_region 7 with fail
    go_quiet (fail)
    have H5 := hide (below_drew H4.out nq H4.out.size)
    clear d1 d2' H4 bX 
    generalize w4.drewN nq = w5 at *
    obtain ⟨⟨x0, xf⟩, bX, ac⟩ := ACT.out w5 H5.out
    have AF := hide (fun w6 => AFT.out w5 w6 H5.out)
    have AC := hide ac
    clear ac ACT AFT LASTF
    go_upto_region 10 with fail
    generalize w5.setCell ⟨s, 0, none⟩ (.int .i64 (I + 1)) = V5 at *
    have d0 := bX.cell 0 _ rfl
    have d1 := bX.cell 1 _ rfl
    have d2 := bX.cell 2 _ rfl
    have d3 := bX.cell 3 _ rfl
    have d4 := bX.cell 4 _ rfl
    have d5 := bX.cell 5 _ rfl
    have d6 := bX.cell 6 _ rfl
    clear bX x0 xf
    go_upto_region 11 with (go_at_call 32; refine AC.out.mono ?_; rintro e w6 ⟨rfl, lf⟩; have LF := hide lf; clear lf)
    obtain ⟨z6, y0, x6, a6, st5, z5⟩ := AF.out w6 LF.out
    obtain ⟨da6, dc6, y2, ro, ad⟩ := DN.out V5 w6 LF.out st5
    have RO := hide ro
    have AD := hide ad
    clear ro ad DN
    clear d0 d1 d2 d3 d4 d5 d6 AC AF
    have p1 := x6.cell 1 _ rfl
    have p2 := x6.cell 2 _ rfl
    have A6 := hide a6
    have X6 := hide x6
    have Z6 := hide z6
    clear x6 a6
    have l1 : W.heap.size < w6.heap.size := by omega
    have l2 : ¬ W.heap.size = w6.heap.size := by omega
    have eb := EA.out.2.2
    subst eb
    by_cases hz : dbad = 0
    · have g1 : (dbad != 0) = false := by simp [hz]
      obtain ⟨ea0, ea1⟩ := EA.out.1 hz
      clear EA
      subst hz ea0 ea1
      go_upto_if 98 with fail
      obtain ⟨V8, hV8⟩ : ∃ X, X = (w6.alloc (.cells #[.int .i64 a0, .int .i64 (I + 1)] 31)).alloc (.cells #[.int .i64 c.ses, .int .i64 c.seq, .int .i64 a0, .int .i64 (I + 1), .int .i64 0] 83) := ⟨_, rfl⟩
      rw [← hV8]
      have B8 : Hid (Below w6.heap.size w6 V8) := by unfold Hid; rw [hV8]; exact ((Below.refl _ _).alloc (Nat.le_refl _) _).alloc (by simp) _
      have A8 : Hid (Bx V8 w6.heap.size [.int .i64 a0, .int .i64 (I + 1)]) := by unfold Hid; rw [hV8]; exact (bx_new w6 _ _).keep (((Below.refl _ _).alloc (Nat.le_refl _) _).block _ (by simp))
      have D8 : Hid (Bx V8 (w6.heap.size + 1) [.int .i64 c.ses, .int .i64 c.seq, .int .i64 a0, .int .i64 (I + 1), .int .i64 0]) := by
        unfold Hid
        rw [hV8]
        have := bx_new (w6.alloc (.cells #[.int .i64 a0, .int .i64 (I + 1)] 31)) [.int .i64 c.ses, .int .i64 c.seq, .int .i64 a0, .int .i64 (I + 1), .int .i64 0] 83
        rwa [show (w6.alloc (.cells #[.int .i64 a0, .int .i64 (I + 1)] 31)).heap.size = w6.heap.size + 1 by simp] at this
      have z8 : Hid (V8.heap.size = w6.heap.size + 1 + 1) := by unfold Hid; rw [hV8]; simp
      clear hV8 p1 p2 X6
      have R8 : Hid (Bx V8 (W.heap.size + 1) [.int .i64 0, .int .i64 0]) := A6.out.keep (B8.out.block _ A6.out.lt)
      have q0 := D8.out.cell 0 _ rfl
      have q1 := D8.out.cell 1 _ rfl
      have q2 := D8.out.cell 2 _ rfl
      have q3 := D8.out.cell 3 _ rfl
      have q4 := D8.out.cell 4 _ rfl
      have sl8 : s < V8.heap.size := by have := z8.out; omega
      have y2v := (B8.out.cell (p := ⟨s, 2, none⟩) (by show s < w6.heap.size; omega)).trans y2
      have o8 : V8.ownsRow 0 83 5 (.slice da6 n dc6) n FC := own_keep_at RO.out (fun q hq => B8.out.block q (RO.out.lt q hq).2)
      have Z : Hid (∀ o : Obj, (V8.alloc o).ownsRow 0 83 5 (.slice da6 n dc6) n FC ∧ (V8.drew.alloc o).ownsRow 0 83 5 (.slice da6 n dc6) n FC) := fun o => ⟨o8.alloc o, o8.drew.alloc o⟩
      have BLW : Hid (∀ o : Obj, Below V8.heap.size V8 (V8.alloc o) ∧ Below V8.heap.size V8 (V8.drew.alloc o)) := fun o => ⟨(Below.refl _ _).alloc (Nat.le_refl _) _, ((Below.refl _ _).drew).alloc (Nat.le_refl _) _⟩
      have s1a : ∀ o : Obj, (V8.drew.alloc o).cell? ⟨s, 2, none⟩ = some (.slice da6 n dc6) := fun o => ((BLW.out o).2.cell (p := ⟨s, 2, none⟩) sl8).trans y2v
      have kn : ¬ (0 : Int) ≤ (-1 : Int) := by omega
      have FL : Hid (∀ (X : World) (g cg : Nat) (w12 : World), Below V8.heap.size V8 X → X.heap.size = V8.heap.size + 1 → w12.ownsRow 0 83 5 (.slice (some ⟨g, 0, none⟩) (n + 1) cg) (n + 1) (FC ++ [.int .i64 c.ses, .int .i64 c.seq, .int .i64 a0, .int .i64 (I + 1), .int .i64 0]) → X.grownBy w12 (Value.slice da6 n dc6).ownBlock → ((Value.slice da6 n dc6).ownBlock = some g ∨ g = V8.heap.size + 1) →
          (w12.cell? ⟨s, 2, none⟩ = some (.slice da6 n dc6) ∧ w12.frozen? ⟨s, 2, none⟩ = false) ∧ RLeftN W s T V5.heap.size S9 (w12.setCell ⟨s, 2, none⟩ (.slice (some ⟨g, 0, none⟩) (n + 1) cg)) ∧ Bx (w12.setCell ⟨s, 2, none⟩ (.slice (some ⟨g, 0, none⟩) (n + 1) cg)) w6.heap.size [.int .i64 a0, .int .i64 (I + 1)] ∧ Bx (w12.setCell ⟨s, 2, none⟩ (.slice (some ⟨g, 0, none⟩) (n + 1) cg)) (W.heap.size + 1) [.int .i64 0, .int .i64 0]) := fun X g cg w12 bX zX ho hg ha => by
        have z8' := z8.out
        obtain ⟨r1, r2, r3⟩ := AD.out X g cg w12 (below_on B8.out bX) hg ho (ha.imp id (fun z => by omega))
        refine ⟨r1, r2, ((A8.out.keep (bX.block _ A8.out.lt)).keep (r3 _ (.inr (Nat.le_refl _)) (by omega))).else (by omega), ((R8.out.keep (bX.block _ R8.out.lt)).keep (r3 _ (.inl ⟨T0.out _ (by omega), by omega⟩) (by omega))).else (by omega)⟩
      clear o8 RO AD

      go_cut [4, 6, 9] from 97 (fun v4 v6 v9 wx => v4 = .pointer (some ⟨W.heap.size + 1, 0, none⟩) ∧ v6 = .int .i64 0 ∧ v9 = .pointer (some ⟨w6.heap.size, 0, none⟩) ∧ Hid (RLeftN W s T V5.heap.size S9 wx ∧ Bx wx w6.heap.size [.int .i64 a0, .int .i64 (I + 1)] ∧ Bx wx (W.heap.size + 1) [.int .i64 0, .int .i64 0]))
      case first =>
        go_upto_region 17 with fail
        go_region_law (refine step_append_lies _ rfl (.tmp 110) (.tmp 112) 27 rfl 0 83 i0' (.agg #[.int .i64 0, .int .i64 0, .int .i64 0, .int .i64 0, .int .i64 0]) 5 40 Tryz.underlying27 I0.out hz0 hz1 hz2 rfl (by omega) (.slice da6 n dc6) n FC rfl (by first | exact (Z.out _).1 | exact (Z.out _).2) ⟨V8.heap.size, 0, none⟩ 1 1 [.int .i64 c.ses, .int .i64 c.seq, .int .i64 a0, .int .i64 (I + 1), .int .i64 0] rfl rfl (World.news_of_block (by first | exact heap_alloc_new _ _ | (simp; done))) (by simp [Value.oneCell']) (by omega) (by unfold maxLen; omega) (by omega) (Nat.zero_le _) (V8.heap.size + 1) (by simp) ?_; intro g cg w12 ho12 hg12 ha12 hl12; obtain ⟨⟨y0, y1⟩, fn⟩ := FL.out _ g cg w12 (by first | exact (BLW.out _).1 | exact (BLW.out _).2) (by simp) ho12 hg12 ha12; have FN := hide fn; clear ho12 hg12 ha12 hl12 fn)
        all_goals (
          go_wp2
          go_meet
          case rel => first | exact ⟨rfl, rfl, rfl, FN.out⟩ | exact ⟨rfl, rfl, rfl, FN.out.1.drew, FN.out.2⟩)
      case rest =>
        obtain ⟨rfl, rfl, rfl, HF⟩ := hcut
        have ra := HF.out.2.1
        have rb := HF.out.2.2
        have s0 := ra.cell 0 _ rfl
        have s1 := ra.cell 1 _ rfl
        have t0 := rb.cell 0 _ rfl
        have t1 := rb.cell 1 _ rfl
        have u0 := rb.free 0
        have u1 := rb.free 1
        have fin := (rb.put (j := 0) (v := .int .i64 a0)).put (j := 1) (v := .int .i64 (I + 1))
        have e0 := fin.cell 0 _ rfl
        have e1 := fin.cell 1 _ rfl
        have LFF := hide ((((HF.out.1.set (j := 0) (v := .int .i64 a0) (T0.out (W.heap.size + 1) (by omega)) (by omega) (by omega)).set (j := 1) (v := .int .i64 (I + 1)) (T0.out (W.heap.size + 1) (by omega)) (by omega) (by omega)).left (by omega)))
        clear ra rb fin
        go_wp2
        refine bodyPost_ret (v := .tuple #[.agg #[.int .i64 a0, .int .i64 (I + 1)], .int .i64 0]) (by simp [results, Tryz.results9, go_sem, e0, e1]) rfl ?_
        exact ⟨rfl, LFF.out⟩
    · have g1 : (dbad != 0) = true := by simp [hz]
      obtain ⟨ea0, ea1⟩ := EA.out.2.1 hz
      clear EA hz
      subst ea0 ea1
      go_upto_if 98 with fail
      obtain ⟨V8, hV8⟩ : ∃ X, X = (w6.alloc (.cells #[.int .i64 0, .int .i64 0] 31)).alloc (.cells #[.int .i64 c.ses, .int .i64 c.seq, .int .i64 0, .int .i64 0, .int .i64 dbad] 83) := ⟨_, rfl⟩
      rw [← hV8]
      have B8 : Hid (Below w6.heap.size w6 V8) := by unfold Hid; rw [hV8]; exact ((Below.refl _ _).alloc (Nat.le_refl _) _).alloc (by simp) _
      have A8 : Hid (Bx V8 w6.heap.size [.int .i64 0, .int .i64 0]) := by unfold Hid; rw [hV8]; exact (bx_new w6 _ _).keep (((Below.refl _ _).alloc (Nat.le_refl _) _).block _ (by simp))
      have D8 : Hid (Bx V8 (w6.heap.size + 1) [.int .i64 c.ses, .int .i64 c.seq, .int .i64 0, .int .i64 0, .int .i64 dbad]) := by
        unfold Hid
        rw [hV8]
        have := bx_new (w6.alloc (.cells #[.int .i64 0, .int .i64 0] 31)) [.int .i64 c.ses, .int .i64 c.seq, .int .i64 0, .int .i64 0, .int .i64 dbad] 83
        rwa [show (w6.alloc (.cells #[.int .i64 0, .int .i64 0] 31)).heap.size = w6.heap.size + 1 by simp] at this
      have z8 : Hid (V8.heap.size = w6.heap.size + 1 + 1) := by unfold Hid; rw [hV8]; simp
      clear hV8 p1 p2 X6
      have R8 : Hid (Bx V8 (W.heap.size + 1) [.int .i64 0, .int .i64 0]) := A6.out.keep (B8.out.block _ A6.out.lt)
      have q0 := D8.out.cell 0 _ rfl
      have q1 := D8.out.cell 1 _ rfl
      have q2 := D8.out.cell 2 _ rfl
      have q3 := D8.out.cell 3 _ rfl
      have q4 := D8.out.cell 4 _ rfl
      have sl8 : s < V8.heap.size := by have := z8.out; omega
      have y2v := (B8.out.cell (p := ⟨s, 2, none⟩) (by show s < w6.heap.size; omega)).trans y2
      have o8 : V8.ownsRow 0 83 5 (.slice da6 n dc6) n FC := own_keep_at RO.out (fun q hq => B8.out.block q (RO.out.lt q hq).2)
      have Z : Hid (∀ o : Obj, (V8.alloc o).ownsRow 0 83 5 (.slice da6 n dc6) n FC ∧ (V8.drew.alloc o).ownsRow 0 83 5 (.slice da6 n dc6) n FC) := fun o => ⟨o8.alloc o, o8.drew.alloc o⟩
      have BLW : Hid (∀ o : Obj, Below V8.heap.size V8 (V8.alloc o) ∧ Below V8.heap.size V8 (V8.drew.alloc o)) := fun o => ⟨(Below.refl _ _).alloc (Nat.le_refl _) _, ((Below.refl _ _).drew).alloc (Nat.le_refl _) _⟩
      have s1a : ∀ o : Obj, (V8.drew.alloc o).cell? ⟨s, 2, none⟩ = some (.slice da6 n dc6) := fun o => ((BLW.out o).2.cell (p := ⟨s, 2, none⟩) sl8).trans y2v
      have kn : ¬ (0 : Int) ≤ (-1 : Int) := by omega
      have FL : Hid (∀ (X : World) (g cg : Nat) (w12 : World), Below V8.heap.size V8 X → X.heap.size = V8.heap.size + 1 → w12.ownsRow 0 83 5 (.slice (some ⟨g, 0, none⟩) (n + 1) cg) (n + 1) (FC ++ [.int .i64 c.ses, .int .i64 c.seq, .int .i64 0, .int .i64 0, .int .i64 dbad]) → X.grownBy w12 (Value.slice da6 n dc6).ownBlock → ((Value.slice da6 n dc6).ownBlock = some g ∨ g = V8.heap.size + 1) →
          (w12.cell? ⟨s, 2, none⟩ = some (.slice da6 n dc6) ∧ w12.frozen? ⟨s, 2, none⟩ = false) ∧ RLeftN W s T V5.heap.size S9 (w12.setCell ⟨s, 2, none⟩ (.slice (some ⟨g, 0, none⟩) (n + 1) cg)) ∧ Bx (w12.setCell ⟨s, 2, none⟩ (.slice (some ⟨g, 0, none⟩) (n + 1) cg)) w6.heap.size [.int .i64 0, .int .i64 0] ∧ Bx (w12.setCell ⟨s, 2, none⟩ (.slice (some ⟨g, 0, none⟩) (n + 1) cg)) (W.heap.size + 1) [.int .i64 0, .int .i64 0]) := fun X g cg w12 bX zX ho hg ha => by
        have z8' := z8.out
        obtain ⟨r1, r2, r3⟩ := AD.out X g cg w12 (below_on B8.out bX) hg ho (ha.imp id (fun z => by omega))
        refine ⟨r1, r2, ((A8.out.keep (bX.block _ A8.out.lt)).keep (r3 _ (.inr (Nat.le_refl _)) (by omega))).else (by omega), ((R8.out.keep (bX.block _ R8.out.lt)).keep (r3 _ (.inl ⟨T0.out _ (by omega), by omega⟩) (by omega))).else (by omega)⟩
      clear o8 RO AD

      go_cut [4, 6, 9] from 97 (fun v4 v6 v9 wx => v4 = .pointer (some ⟨W.heap.size + 1, 0, none⟩) ∧ v6 = .int .i64 dbad ∧ v9 = .pointer (some ⟨w6.heap.size, 0, none⟩) ∧ Hid (RLeftN W s T V5.heap.size S9 wx ∧ Bx wx w6.heap.size [.int .i64 0, .int .i64 0] ∧ Bx wx (W.heap.size + 1) [.int .i64 0, .int .i64 0]))
      case first =>
        go_upto_region 17 with fail
        go_region_law (refine step_append_lies _ rfl (.tmp 110) (.tmp 112) 27 rfl 0 83 i0' (.agg #[.int .i64 0, .int .i64 0, .int .i64 0, .int .i64 0, .int .i64 0]) 5 40 Tryz.underlying27 I0.out hz0 hz1 hz2 rfl (by omega) (.slice da6 n dc6) n FC rfl (by first | exact (Z.out _).1 | exact (Z.out _).2) ⟨V8.heap.size, 0, none⟩ 1 1 [.int .i64 c.ses, .int .i64 c.seq, .int .i64 0, .int .i64 0, .int .i64 dbad] rfl rfl (World.news_of_block (by first | exact heap_alloc_new _ _ | (simp; done))) (by simp [Value.oneCell']) (by omega) (by unfold maxLen; omega) (by omega) (Nat.zero_le _) (V8.heap.size + 1) (by simp) ?_; intro g cg w12 ho12 hg12 ha12 hl12; obtain ⟨⟨y0, y1⟩, fn⟩ := FL.out _ g cg w12 (by first | exact (BLW.out _).1 | exact (BLW.out _).2) (by simp) ho12 hg12 ha12; have FN := hide fn; clear ho12 hg12 ha12 hl12 fn)
        all_goals (
          go_wp2
          go_meet
          case rel => first | exact ⟨rfl, rfl, rfl, FN.out⟩ | exact ⟨rfl, rfl, rfl, FN.out.1.drew, FN.out.2⟩)
      case rest =>
        obtain ⟨rfl, rfl, rfl, HF⟩ := hcut
        have ra := HF.out.2.1
        have rb := HF.out.2.2
        have s0 := ra.cell 0 _ rfl
        have s1 := ra.cell 1 _ rfl
        have t0 := rb.cell 0 _ rfl
        have t1 := rb.cell 1 _ rfl
        have u0 := rb.free 0
        have u1 := rb.free 1
        have fin := (rb.put (j := 0) (v := .int .i64 0)).put (j := 1) (v := .int .i64 0)
        have e0 := fin.cell 0 _ rfl
        have e1 := fin.cell 1 _ rfl
        have LFF := hide ((((HF.out.1.set (j := 0) (v := .int .i64 0) (T0.out (W.heap.size + 1) (by omega)) (by omega) (by omega)).set (j := 1) (v := .int .i64 0) (T0.out (W.heap.size + 1) (by omega)) (by omega) (by omega)).left (by omega)))
        clear ra rb fin
        go_wp2
        refine bodyPost_ret (v := .tuple #[.agg #[.int .i64 0, .int .i64 0], .int .i64 dbad]) (by simp [results, Tryz.results9, go_sem, e0, e1]) rfl ?_
        exact ⟨rfl, LFF.out⟩
  | some k =>
    have e6 : M.lastN S6 c.ses = M.lastN S c.ses := by rw [hS6]; rfl
    have CN : Hid (M.cntF S c = (D.ans, D.bad, ⟨S.idx + 1, (M.act S c).2.2, M.say S.done (some k) D⟩)) := by
      unfold Hid M.cntF
      rw [hk, hD]
    rw [CN.out]
    simp only
    obtain ⟨S9, hS9⟩ : ∃ X : M.Sh, X = ⟨S.idx + 1, (M.act S c).2.2, M.say S.done (some k) D⟩ := ⟨_, rfl⟩
    rw [← hS9]
    have LASTF : Hid (∀ w, Below W1.heap.size W1 w → Bx w W.heap.size [.int .i64 c.what, .int .i64 c.ses, .int .i64 c.seq, .string (byStr c.name), .int .i64 c.num, .int .i64 c.share, .slice a c.bys.length cap] ∧ Calls Tryz.prog 31 #[.pointer (some ⟨s, 0, none⟩), .int .i64 c.ses] w fun e w' => e = .returned (.int .i64 (k : Int)) ∧ w' = w) := fun w hw => by
      have l := rlast_any (H.out.below (below_on b1.out hw)) c.ses
      rw [hk] at l
      exact ⟨BX.out.keep (hw.block _ BX.out.lt), l⟩
    obtain ⟨_, kl, kp⟩ := M.find_more _ S.done 0 k hk
    rw [Nat.sub_zero] at kl
    have w0 : M.was S c.ses = S.done.getD k dn0 := by unfold M.was; rw [hk]
    rw [w0] at q2 q3
    have kz : (k : Int) < (S.done.length : Int) := by omega
    have r1 : ((S.done.getD k dn0).seq == c.seq) = false := by rw [beq_eq_false_iff_ne]; exact q2
    have r3 : decide (c.seq < (S.done.getD k dn0).seq) = false := decide_eq_false q3
    have SEQ : Hid (∀ w, Below W1.heap.size W1 w → ∃ b, da = some ⟨b, 0, none⟩ ∧ w.cell? ⟨s, 2, none⟩ = some (.slice da S.done.length dc) ∧ w.cell? ⟨b, k * 5 + 1, none⟩ = some (.int .i64 (S.done.getD k dn0).seq)) := fun w hw => by
      have hv := H.out.below (below_on b1.out hw)
      obtain ⟨b, eb, bl, hc⟩ := hv.did kl
      exact ⟨b, eb, hv.box.cell 2 _ rfl, hc 1 _ (by omega) rfl⟩
    have DN : Hid (∀ V5 w6, RLeft V5 s T S6 w6 → StayBut (fun q => T q ≠ 0) W V5 → ∃ b dc6, w6.cell? ⟨s, 2, none⟩ = some (.slice (some ⟨b, 0, none⟩) S.done.length dc6) ∧ s < w6.heap.size ∧ b < w6.heap.size ∧ b ≠ s ∧ (T b ≠ 0 ∨ V5.heap.size ≤ b) ∧ ∀ w7, Below w6.heap.size w6 w7 → (∀ j, j < 5 → ∃ v, w7.cell? ⟨b, k * 5 + j, none⟩ = some v) ∧ (∀ j, w7.frozen? ⟨b, j, none⟩ = false) ∧
        RLeftN W s T V5.heap.size S9 (((((w7.setCell ⟨b, k * 5, none⟩ (.int .i64 c.ses)).setCell ⟨b, k * 5 + 1, none⟩ (.int .i64 c.seq)).setCell ⟨b, k * 5 + 2, none⟩ (.int .i64 D.ans.num)).setCell ⟨b, k * 5 + 3, none⟩ (.int .i64 D.ans.idx)).setCell ⟨b, k * 5 + 4, none⟩ (.int .i64 D.bad))) := fun V5 w6 lf st => by
      rw [hS6] at lf
      obtain ⟨lav, b, dc6, b6, bl, bs, bt, put⟩ := done_set lf st kl D (by rw [hD]; exact hk) (by show (S.done.length : Int) + 1 ≤ S.idx + 1; omega) dOk
      refine ⟨b, dc6, b6.cell 2 _ rfl, b6.lt, bl, bs, bt, fun w7 hw => ?_⟩
      obtain ⟨p1, p2, p3⟩ := put w7 hw
      rw [hS9]
      refine ⟨p1, p2, ?_⟩
      rw [hD] at p3 ⊢
      exact p3
    have EA : Hid (((M.act S c).2.1 = 0 → D.ans.num = (M.act S c).1 ∧ D.ans.idx = S.idx + 1) ∧ ((M.act S c).2.1 ≠ 0 → D.ans.num = 0 ∧ D.ans.idx = 0) ∧ D.bad = (M.act S c).2.1) := by
      rw [hD]
      refine ⟨fun z => ?_, fun z => ?_, rfl⟩
      · show (if (M.act S c).2.1 = 0 then (⟨(M.act S c).1, S.idx + 1⟩ : M.An) else M.an0).num = _ ∧ (if (M.act S c).2.1 = 0 then (⟨(M.act S c).1, S.idx + 1⟩ : M.An) else M.an0).idx = _
        rw [if_pos z]; exact ⟨rfl, rfl⟩
      · show (if (M.act S c).2.1 = 0 then (⟨(M.act S c).1, S.idx + 1⟩ : M.An) else M.an0).num = _ ∧ (if (M.act S c).2.1 = 0 then (⟨(M.act S c).1, S.idx + 1⟩ : M.An) else M.an0).idx = _
        rw [if_neg z]; exact ⟨rfl, rfl⟩
    have wI : IntKind.i64.wrap (S.idx + 1) = S.idx + 1 := wrap_i64n (by omega) (by omega)
    unfold anV
    unfold caV at ACT
    clear CN e6 hb hr ha hc h63 q1 q2 q3 wh ses1 seq1 nl h hS9 hS6 dOk hD H hk bx ba kp w0
    generalize D.ans.num = a0 at *
    generalize D.ans.idx = a1 at *
    generalize D.bad = dbad at *
    generalize (M.act S c).1 = rn at *
    generalize (M.act S c).2.1 = re at *
    generalize hI : S.idx = I at *
    clear hI
    generalize hn : S.done.length = n at *
    have mxn : n ≤ 900000 := by omega
    clear dl
    generalize byStr c.name = sn at *
    generalize (S.done.getD k dn0).seq = dq at *
    go_enter Tryz.func9, Tryz.ntmps9
    go_upto_region 1 with fail
    rw [← hW1]
    clear hW1
    go_upto_region 2 with (go_at_call 30; refine CF.out.mono ?_; rintro e w2 ⟨rfl, h2⟩; have H2 := hide h2; obtain ⟨bX, ls⟩ := LASTF.out w2 h2; obtain ⟨b, rfl, x2, x3⟩ := SEQ.out w2 h2; have LS := hide ls; have d1 := bX.cell 1 _ rfl; have d2' := bX.cell 2 _ rfl; clear ls h2 bX)
    clear c0 c1 c2 c3 c4 c5 c6 CF
    go_upto_region 5 with (go_at_call 31; refine LS.out.mono ?_; rintro e w3 ⟨rfl, ew⟩; have ew2 := ew.symm; subst ew2)
    clear LS
    go_quiet (fail)
    have H4 := hide (below_drew H2.out nq H2.out.size)
    clear d1 d2' H2 x2 x3
    generalize w2.drewN nq = w4 at *
    obtain ⟨bX, _⟩ := LASTF.out w4 H4.out
    obtain ⟨b', eb, x2, x3⟩ := SEQ.out w4 H4.out
    cases eb
    have d1 := bX.cell 1 _ rfl
    have d2' := bX.cell 2 _ rfl
    go_upto_region 7 with fail
    go_quiet (fail)
    have H5 := hide (below_drew H4.out nq H4.out.size)
    clear d1 d2' H4 bX x2 x3
    generalize w4.drewN nq = w5 at *
    obtain ⟨⟨x0, xf⟩, bX, ac⟩ := ACT.out w5 H5.out
    have AF := hide (fun w6 => AFT.out w5 w6 H5.out)
    have AC := hide ac
    clear ac ACT AFT LASTF
    go_upto_region 10 with fail
    generalize w5.setCell ⟨s, 0, none⟩ (.int .i64 (I + 1)) = V5 at *
    have d0 := bX.cell 0 _ rfl
    have d1 := bX.cell 1 _ rfl
    have d2 := bX.cell 2 _ rfl
    have d3 := bX.cell 3 _ rfl
    have d4 := bX.cell 4 _ rfl
    have d5 := bX.cell 5 _ rfl
    have d6 := bX.cell 6 _ rfl
    clear bX x0 xf
    go_upto_region 11 with (go_at_call 32; refine AC.out.mono ?_; rintro e w6 ⟨rfl, lf⟩; have LF := hide lf; clear lf)
    obtain ⟨z6, y0, x6, a6, st5, z5⟩ := AF.out w6 LF.out
    obtain ⟨b6, dc6, y2, sl6, bl6, bs6, bt6, put⟩ := DN.out V5 w6 LF.out st5
    have PUT := hide put
    clear put DN
    clear d0 d1 d2 d3 d4 d5 d6 AC AF
    have p1 := x6.cell 1 _ rfl
    have p2 := x6.cell 2 _ rfl
    have A6 := hide a6
    have X6 := hide x6
    have Z6 := hide z6
    clear x6 a6
    have l1 : W.heap.size < w6.heap.size := by omega
    have l2 : ¬ W.heap.size = w6.heap.size := by omega
    have eb := EA.out.2.2
    subst eb
    by_cases hz : dbad = 0
    · have g1 : (dbad != 0) = false := by simp [hz]
      obtain ⟨ea0, ea1⟩ := EA.out.1 hz
      clear EA
      subst hz ea0 ea1
      go_upto_if 98 with fail
      obtain ⟨V8, hV8⟩ : ∃ X, X = (w6.alloc (.cells #[.int .i64 a0, .int .i64 (I + 1)] 31)).alloc (.cells #[.int .i64 c.ses, .int .i64 c.seq, .int .i64 a0, .int .i64 (I + 1), .int .i64 0] 83) := ⟨_, rfl⟩
      rw [← hV8]
      have B8 : Hid (Below w6.heap.size w6 V8) := by unfold Hid; rw [hV8]; exact ((Below.refl _ _).alloc (Nat.le_refl _) _).alloc (by simp) _
      have A8 : Hid (Bx V8 w6.heap.size [.int .i64 a0, .int .i64 (I + 1)]) := by unfold Hid; rw [hV8]; exact (bx_new w6 _ _).keep (((Below.refl _ _).alloc (Nat.le_refl _) _).block _ (by simp))
      have D8 : Hid (Bx V8 (w6.heap.size + 1) [.int .i64 c.ses, .int .i64 c.seq, .int .i64 a0, .int .i64 (I + 1), .int .i64 0]) := by
        unfold Hid
        rw [hV8]
        have := bx_new (w6.alloc (.cells #[.int .i64 a0, .int .i64 (I + 1)] 31)) [.int .i64 c.ses, .int .i64 c.seq, .int .i64 a0, .int .i64 (I + 1), .int .i64 0] 83
        rwa [show (w6.alloc (.cells #[.int .i64 a0, .int .i64 (I + 1)] 31)).heap.size = w6.heap.size + 1 by simp] at this
      have z8 : Hid (V8.heap.size = w6.heap.size + 1 + 1) := by unfold Hid; rw [hV8]; simp
      clear hV8 p1 p2 X6
      have R8 : Hid (Bx V8 (W.heap.size + 1) [.int .i64 0, .int .i64 0]) := A6.out.keep (B8.out.block _ A6.out.lt)
      have q0 := D8.out.cell 0 _ rfl
      have q1 := D8.out.cell 1 _ rfl
      have q2 := D8.out.cell 2 _ rfl
      have q3 := D8.out.cell 3 _ rfl
      have q4 := D8.out.cell 4 _ rfl
      have y2v := (B8.out.cell (p := ⟨s, 2, none⟩) sl6).trans y2
      obtain ⟨ex, fz, _⟩ := PUT.out V8 B8.out
      obtain ⟨o0, ho0⟩ := ex 0 (by omega)
      obtain ⟨o1, ho1⟩ := ex 1 (by omega)
      obtain ⟨o2, ho2⟩ := ex 2 (by omega)
      obtain ⟨o3, ho3⟩ := ex 3 (by omega)
      obtain ⟨o4, ho4⟩ := ex 4 (by omega)
      rw [Nat.add_zero] at ho0
      have m0 := fz (k * 5)
      have m1 := fz (k * 5 + 1)
      have m2 := fz (k * 5 + 2)
      have m3 := fz (k * 5 + 3)
      have m4 := fz (k * 5 + 4)
      have kz0 : (0 : Int) ≤ (k : Int) := by omega
      have FIN : Hid (∀ w7, Below w6.heap.size w6 w7 → Bx w7 w6.heap.size [.int .i64 a0, .int .i64 (I + 1)] → Bx w7 (W.heap.size + 1) [.int .i64 0, .int .i64 0] → RLeftN W s T V5.heap.size S9 (((((w7.setCell ⟨b6, k * 5, none⟩ (.int .i64 c.ses)).setCell ⟨b6, k * 5 + 1, none⟩ (.int .i64 c.seq)).setCell ⟨b6, k * 5 + 2, none⟩ (.int .i64 a0)).setCell ⟨b6, k * 5 + 3, none⟩ (.int .i64 (I + 1))).setCell ⟨b6, k * 5 + 4, none⟩ (.int .i64 0)) ∧ Bx (((((w7.setCell ⟨b6, k * 5, none⟩ (.int .i64 c.ses)).setCell ⟨b6, k * 5 + 1, none⟩ (.int .i64 c.seq)).setCell ⟨b6, k * 5 + 2, none⟩ (.int .i64 a0)).setCell ⟨b6, k * 5 + 3, none⟩ (.int .i64 (I + 1))).setCell ⟨b6, k * 5 + 4, none⟩ (.int .i64 0)) w6.heap.size [.int .i64 a0, .int .i64 (I + 1)] ∧ Bx (((((w7.setCell ⟨b6, k * 5, none⟩ (.int .i64 c.ses)).setCell ⟨b6, k * 5 + 1, none⟩ (.int .i64 c.seq)).setCell ⟨b6, k * 5 + 2, none⟩ (.int .i64 a0)).setCell ⟨b6, k * 5 + 3, none⟩ (.int .i64 (I + 1))).setCell ⟨b6, k * 5 + 4, none⟩ (.int .i64 0)) (W.heap.size + 1) [.int .i64 0, .int .i64 0]) := fun w7 h1 h2 h3 => by
        have nb : W.heap.size + 1 ≠ b6 := fun e => by
          rcases bt6 with z | z
          · exact z (by rw [← e]; exact T0.out _ (by omega))
          · omega
        have na : w6.heap.size ≠ b6 := by omega
        exact ⟨(PUT.out w7 h1).2.2, ((((h2.else na).else na).else na).else na).else na, ((((h3.else nb).else nb).else nb).else nb).else nb⟩
      clear ex fz PUT

      go_cut [4, 6, 9] from 97 (fun v4 v6 v9 wx => v4 = .pointer (some ⟨W.heap.size + 1, 0, none⟩) ∧ v6 = .int .i64 0 ∧ v9 = .pointer (some ⟨w6.heap.size, 0, none⟩) ∧ Hid (RLeftN W s T V5.heap.size S9 wx ∧ Bx wx w6.heap.size [.int .i64 a0, .int .i64 (I + 1)] ∧ Bx wx (W.heap.size + 1) [.int .i64 0, .int .i64 0]))
      case first =>
        go_upto_region 16 with fail
        have hB0 : Bx V8.drew (w6.heap.size + 1) [.int .i64 c.ses, .int .i64 c.seq, .int .i64 a0, .int .i64 (I + 1), .int .i64 0] ∧ V8.drew.cell? ⟨s, 2, none⟩ = some (.slice (some ⟨b6, 0, none⟩) n dc6) := ⟨D8.out, y2v⟩
        refine wp_region_held_drew (S := fun V => Bx V (w6.heap.size + 1) [.int .i64 c.ses, .int .i64 c.seq, .int .i64 a0, .int .i64 (I + 1), .int .i64 0] ∧ V.cell? ⟨s, 2, none⟩ = some (.slice (some ⟨b6, 0, none⟩) n dc6)) (by kernel_rfl) hB0 (fun hHeld => ?_)
        refine take_lg (i := 0) (d := some 99) (v := ?v99) rfl rfl (by kernel_rfl) (by kernel_rfl) (by kernel_rfl) (fun _ _ _ h => h) (Or.inl ⟨by rfl, ?h99⟩) (by assumption) ?r99
        case h99 => (intro V hSw; have m0 := hSw.1.cell 0 _ rfl; have m1 := hSw.1.cell 1 _ rfl; have m2 := hSw.1.cell 2 _ rfl; have m3 := hSw.1.cell 3 _ rfl; have m4 := hSw.1.cell 4 _ rfl; have m5 := hSw.2; clear hSw; go_simp; (try with_reducible rfl))
        simp only [Act.put, List.setIfInBounds_toArray, List.set_cons_zero, List.set_cons_succ]
        refine take_lg (i := 1) (d := some 100) (v := ?v100) rfl rfl (by kernel_rfl) (by kernel_rfl) (by kernel_rfl) (fun _ _ _ h => h) (Or.inl ⟨by rfl, ?h100⟩) (by assumption) ?r100
        case h100 => (intro V hSw; have m0 := hSw.1.cell 0 _ rfl; have m1 := hSw.1.cell 1 _ rfl; have m2 := hSw.1.cell 2 _ rfl; have m3 := hSw.1.cell 3 _ rfl; have m4 := hSw.1.cell 4 _ rfl; have m5 := hSw.2; clear hSw; go_simp; (try with_reducible rfl))
        simp only [Act.put, List.setIfInBounds_toArray, List.set_cons_zero, List.set_cons_succ]
        refine take_lg (i := 2) (d := some 101) (v := ?v101) rfl rfl (by kernel_rfl) (by kernel_rfl) (by kernel_rfl) (fun _ _ _ h => h) (Or.inl ⟨by rfl, ?h101⟩) (by assumption) ?r101
        case h101 => (intro V hSw; have m0 := hSw.1.cell 0 _ rfl; have m1 := hSw.1.cell 1 _ rfl; have m2 := hSw.1.cell 2 _ rfl; have m3 := hSw.1.cell 3 _ rfl; have m4 := hSw.1.cell 4 _ rfl; have m5 := hSw.2; clear hSw; go_simp; (try with_reducible rfl))
        simp only [Act.put, List.setIfInBounds_toArray, List.set_cons_zero, List.set_cons_succ]
        refine take_lg (i := 3) (d := some 102) (v := ?v102) rfl rfl (by kernel_rfl) (by kernel_rfl) (by kernel_rfl) (fun _ _ _ h => h) (Or.inl ⟨by rfl, ?h102⟩) (by assumption) ?r102
        case h102 => (intro V hSw; have m0 := hSw.1.cell 0 _ rfl; have m1 := hSw.1.cell 1 _ rfl; have m2 := hSw.1.cell 2 _ rfl; have m3 := hSw.1.cell 3 _ rfl; have m4 := hSw.1.cell 4 _ rfl; have m5 := hSw.2; clear hSw; go_simp; (try with_reducible rfl))
        simp only [Act.put, List.setIfInBounds_toArray, List.set_cons_zero, List.set_cons_succ]
        refine take_lg (i := 4) (d := some 103) (v := ?v103) rfl rfl (by kernel_rfl) (by kernel_rfl) (by kernel_rfl) (fun _ _ _ h => h) (Or.inl ⟨by rfl, ?h103⟩) (by assumption) ?r103
        case h103 => (intro V hSw; have m0 := hSw.1.cell 0 _ rfl; have m1 := hSw.1.cell 1 _ rfl; have m2 := hSw.1.cell 2 _ rfl; have m3 := hSw.1.cell 3 _ rfl; have m4 := hSw.1.cell 4 _ rfl; have m5 := hSw.2; clear hSw; go_simp; (try with_reducible rfl))
        simp only [Act.put, List.setIfInBounds_toArray, List.set_cons_zero, List.set_cons_succ]
        refine take_lg (i := 5) (d := some 104) (v := ?v104) rfl rfl (by kernel_rfl) (by kernel_rfl) (by kernel_rfl) (fun _ _ _ h => h) (Or.inl ⟨by rfl, ?h104⟩) (by assumption) ?r104
        case h104 => (intro V hSw; have m0 := hSw.1.cell 0 _ rfl; have m1 := hSw.1.cell 1 _ rfl; have m2 := hSw.1.cell 2 _ rfl; have m3 := hSw.1.cell 3 _ rfl; have m4 := hSw.1.cell 4 _ rfl; have m5 := hSw.2; clear hSw; go_simp; (try with_reducible rfl))
        simp only [Act.put, List.setIfInBounds_toArray, List.set_cons_zero, List.set_cons_succ]
        refine take_lg (i := 6) (d := some 105) (v := ?v105) rfl rfl (by kernel_rfl) (by kernel_rfl) (by kernel_rfl) (fun _ _ _ h => h) (Or.inl ⟨by rfl, ?h105⟩) (by assumption) ?r105
        case h105 => (intro V hSw; have m0 := hSw.1.cell 0 _ rfl; have m1 := hSw.1.cell 1 _ rfl; have m2 := hSw.1.cell 2 _ rfl; have m3 := hSw.1.cell 3 _ rfl; have m4 := hSw.1.cell 4 _ rfl; have m5 := hSw.2; clear hSw; go_simp; (try with_reducible rfl))
        simp only [Act.put, List.setIfInBounds_toArray, List.set_cons_zero, List.set_cons_succ]
        refine wpAnyH_ready (rs := [7]) (by kernel_rfl) (by simp) ?_
        refine AllReadyH.cons rfl (fun K hK => ?_) AllReadyH.nil
        go_simp
        have ns : s ≠ b6 := fun e => bs6 e.symm
        have nd : w6.heap.size + 1 ≠ b6 := by omega
        obtain ⟨V9, hV9⟩ : ∃ X, X = (((((V8.setCell ⟨b6, k * 5, none⟩ (.int .i64 c.ses)).setCell ⟨b6, k * 5 + 1, none⟩ (.int .i64 c.seq)).setCell ⟨b6, k * 5 + 2, none⟩ (.int .i64 a0)).setCell ⟨b6, k * 5 + 3, none⟩ (.int .i64 (I + 1))).setCell ⟨b6, k * 5 + 4, none⟩ (.int .i64 0)) := ⟨_, rfl⟩
        have fin := FIN.out V8 B8.out A8.out R8.out
        have hS0 : Bx V9 (w6.heap.size + 1) [.int .i64 c.ses, .int .i64 c.seq, .int .i64 a0, .int .i64 (I + 1), .int .i64 0] ∧ V9.cell? ⟨s, 2, none⟩ = some (.slice (some ⟨b6, 0, none⟩) n dc6) := by
          rw [hV9]
          exact ⟨five_bx nd D8.out, five_cell ns y2v⟩
        have hS : Bx V9.drew (w6.heap.size + 1) [.int .i64 c.ses, .int .i64 c.seq, .int .i64 a0, .int .i64 (I + 1), .int .i64 0] ∧ V9.drew.cell? ⟨s, 2, none⟩ = some (.slice (some ⟨b6, 0, none⟩) n dc6) := hS0
        rw [← hV9] at fin ⊢
        have FIN9 := hide fin
        clear hV9 fin FIN
        refine hK.out _ _ hS (fun hHeld7 => ?_)
        clear hK K hHeld7
        try simp only [Act.put, List.setIfInBounds_toArray, List.set_cons_zero, List.set_cons_succ]
        refine wpAnyH_done (by kernel_rfl) ?_ _
        go_wp2
        go_meet
        case rel => exact ⟨rfl, rfl, rfl, FIN9.out.1.drew, FIN9.out.2⟩
      case rest =>
        obtain ⟨rfl, rfl, rfl, HF⟩ := hcut
        have ra := HF.out.2.1
        have rb := HF.out.2.2
        have s0 := ra.cell 0 _ rfl
        have s1 := ra.cell 1 _ rfl
        have t0 := rb.cell 0 _ rfl
        have t1 := rb.cell 1 _ rfl
        have u0 := rb.free 0
        have u1 := rb.free 1
        have fin := (rb.put (j := 0) (v := .int .i64 a0)).put (j := 1) (v := .int .i64 (I + 1))
        have e0 := fin.cell 0 _ rfl
        have e1 := fin.cell 1 _ rfl
        have LFF := hide ((((HF.out.1.set (j := 0) (v := .int .i64 a0) (T0.out (W.heap.size + 1) (by omega)) (by omega) (by omega)).set (j := 1) (v := .int .i64 (I + 1)) (T0.out (W.heap.size + 1) (by omega)) (by omega) (by omega)).left (by omega)))
        clear ra rb fin
        go_wp2
        refine bodyPost_ret (v := .tuple #[.agg #[.int .i64 a0, .int .i64 (I + 1)], .int .i64 0]) (by simp [results, Tryz.results9, go_sem, e0, e1]) rfl ?_
        exact ⟨rfl, LFF.out⟩
    · have g1 : (dbad != 0) = true := by simp [hz]
      obtain ⟨ea0, ea1⟩ := EA.out.2.1 hz
      clear EA hz
      subst ea0 ea1
      go_upto_if 98 with fail
      obtain ⟨V8, hV8⟩ : ∃ X, X = (w6.alloc (.cells #[.int .i64 0, .int .i64 0] 31)).alloc (.cells #[.int .i64 c.ses, .int .i64 c.seq, .int .i64 0, .int .i64 0, .int .i64 dbad] 83) := ⟨_, rfl⟩
      rw [← hV8]
      have B8 : Hid (Below w6.heap.size w6 V8) := by unfold Hid; rw [hV8]; exact ((Below.refl _ _).alloc (Nat.le_refl _) _).alloc (by simp) _
      have A8 : Hid (Bx V8 w6.heap.size [.int .i64 0, .int .i64 0]) := by unfold Hid; rw [hV8]; exact (bx_new w6 _ _).keep (((Below.refl _ _).alloc (Nat.le_refl _) _).block _ (by simp))
      have D8 : Hid (Bx V8 (w6.heap.size + 1) [.int .i64 c.ses, .int .i64 c.seq, .int .i64 0, .int .i64 0, .int .i64 dbad]) := by
        unfold Hid
        rw [hV8]
        have := bx_new (w6.alloc (.cells #[.int .i64 0, .int .i64 0] 31)) [.int .i64 c.ses, .int .i64 c.seq, .int .i64 0, .int .i64 0, .int .i64 dbad] 83
        rwa [show (w6.alloc (.cells #[.int .i64 0, .int .i64 0] 31)).heap.size = w6.heap.size + 1 by simp] at this
      have z8 : Hid (V8.heap.size = w6.heap.size + 1 + 1) := by unfold Hid; rw [hV8]; simp
      clear hV8 p1 p2 X6
      have R8 : Hid (Bx V8 (W.heap.size + 1) [.int .i64 0, .int .i64 0]) := A6.out.keep (B8.out.block _ A6.out.lt)
      have q0 := D8.out.cell 0 _ rfl
      have q1 := D8.out.cell 1 _ rfl
      have q2 := D8.out.cell 2 _ rfl
      have q3 := D8.out.cell 3 _ rfl
      have q4 := D8.out.cell 4 _ rfl
      have y2v := (B8.out.cell (p := ⟨s, 2, none⟩) sl6).trans y2
      obtain ⟨ex, fz, _⟩ := PUT.out V8 B8.out
      obtain ⟨o0, ho0⟩ := ex 0 (by omega)
      obtain ⟨o1, ho1⟩ := ex 1 (by omega)
      obtain ⟨o2, ho2⟩ := ex 2 (by omega)
      obtain ⟨o3, ho3⟩ := ex 3 (by omega)
      obtain ⟨o4, ho4⟩ := ex 4 (by omega)
      rw [Nat.add_zero] at ho0
      have m0 := fz (k * 5)
      have m1 := fz (k * 5 + 1)
      have m2 := fz (k * 5 + 2)
      have m3 := fz (k * 5 + 3)
      have m4 := fz (k * 5 + 4)
      have kz0 : (0 : Int) ≤ (k : Int) := by omega
      have FIN : Hid (∀ w7, Below w6.heap.size w6 w7 → Bx w7 w6.heap.size [.int .i64 0, .int .i64 0] → Bx w7 (W.heap.size + 1) [.int .i64 0, .int .i64 0] → RLeftN W s T V5.heap.size S9 (((((w7.setCell ⟨b6, k * 5, none⟩ (.int .i64 c.ses)).setCell ⟨b6, k * 5 + 1, none⟩ (.int .i64 c.seq)).setCell ⟨b6, k * 5 + 2, none⟩ (.int .i64 0)).setCell ⟨b6, k * 5 + 3, none⟩ (.int .i64 0)).setCell ⟨b6, k * 5 + 4, none⟩ (.int .i64 dbad)) ∧ Bx (((((w7.setCell ⟨b6, k * 5, none⟩ (.int .i64 c.ses)).setCell ⟨b6, k * 5 + 1, none⟩ (.int .i64 c.seq)).setCell ⟨b6, k * 5 + 2, none⟩ (.int .i64 0)).setCell ⟨b6, k * 5 + 3, none⟩ (.int .i64 0)).setCell ⟨b6, k * 5 + 4, none⟩ (.int .i64 dbad)) w6.heap.size [.int .i64 0, .int .i64 0] ∧ Bx (((((w7.setCell ⟨b6, k * 5, none⟩ (.int .i64 c.ses)).setCell ⟨b6, k * 5 + 1, none⟩ (.int .i64 c.seq)).setCell ⟨b6, k * 5 + 2, none⟩ (.int .i64 0)).setCell ⟨b6, k * 5 + 3, none⟩ (.int .i64 0)).setCell ⟨b6, k * 5 + 4, none⟩ (.int .i64 dbad)) (W.heap.size + 1) [.int .i64 0, .int .i64 0]) := fun w7 h1 h2 h3 => by
        have nb : W.heap.size + 1 ≠ b6 := fun e => by
          rcases bt6 with z | z
          · exact z (by rw [← e]; exact T0.out _ (by omega))
          · omega
        have na : w6.heap.size ≠ b6 := by omega
        exact ⟨(PUT.out w7 h1).2.2, ((((h2.else na).else na).else na).else na).else na, ((((h3.else nb).else nb).else nb).else nb).else nb⟩
      clear ex fz PUT

      go_cut [4, 6, 9] from 97 (fun v4 v6 v9 wx => v4 = .pointer (some ⟨W.heap.size + 1, 0, none⟩) ∧ v6 = .int .i64 dbad ∧ v9 = .pointer (some ⟨w6.heap.size, 0, none⟩) ∧ Hid (RLeftN W s T V5.heap.size S9 wx ∧ Bx wx w6.heap.size [.int .i64 0, .int .i64 0] ∧ Bx wx (W.heap.size + 1) [.int .i64 0, .int .i64 0]))
      case first =>
        go_upto_region 16 with fail
        have hB0 : Bx V8.drew (w6.heap.size + 1) [.int .i64 c.ses, .int .i64 c.seq, .int .i64 0, .int .i64 0, .int .i64 dbad] ∧ V8.drew.cell? ⟨s, 2, none⟩ = some (.slice (some ⟨b6, 0, none⟩) n dc6) := ⟨D8.out, y2v⟩
        refine wp_region_held_drew (S := fun V => Bx V (w6.heap.size + 1) [.int .i64 c.ses, .int .i64 c.seq, .int .i64 0, .int .i64 0, .int .i64 dbad] ∧ V.cell? ⟨s, 2, none⟩ = some (.slice (some ⟨b6, 0, none⟩) n dc6)) (by kernel_rfl) hB0 (fun hHeld => ?_)
        refine take_lg (i := 0) (d := some 99) (v := ?v99b) rfl rfl (by kernel_rfl) (by kernel_rfl) (by kernel_rfl) (fun _ _ _ h => h) (Or.inl ⟨by rfl, ?h99b⟩) (by assumption) ?r99b
        case h99b => (intro V hSw; have m0 := hSw.1.cell 0 _ rfl; have m1 := hSw.1.cell 1 _ rfl; have m2 := hSw.1.cell 2 _ rfl; have m3 := hSw.1.cell 3 _ rfl; have m4 := hSw.1.cell 4 _ rfl; have m5 := hSw.2; clear hSw; go_simp; (try with_reducible rfl))
        simp only [Act.put, List.setIfInBounds_toArray, List.set_cons_zero, List.set_cons_succ]
        refine take_lg (i := 1) (d := some 100) (v := ?v100b) rfl rfl (by kernel_rfl) (by kernel_rfl) (by kernel_rfl) (fun _ _ _ h => h) (Or.inl ⟨by rfl, ?h100b⟩) (by assumption) ?r100b
        case h100b => (intro V hSw; have m0 := hSw.1.cell 0 _ rfl; have m1 := hSw.1.cell 1 _ rfl; have m2 := hSw.1.cell 2 _ rfl; have m3 := hSw.1.cell 3 _ rfl; have m4 := hSw.1.cell 4 _ rfl; have m5 := hSw.2; clear hSw; go_simp; (try with_reducible rfl))
        simp only [Act.put, List.setIfInBounds_toArray, List.set_cons_zero, List.set_cons_succ]
        refine take_lg (i := 2) (d := some 101) (v := ?v101b) rfl rfl (by kernel_rfl) (by kernel_rfl) (by kernel_rfl) (fun _ _ _ h => h) (Or.inl ⟨by rfl, ?h101b⟩) (by assumption) ?r101b
        case h101b => (intro V hSw; have m0 := hSw.1.cell 0 _ rfl; have m1 := hSw.1.cell 1 _ rfl; have m2 := hSw.1.cell 2 _ rfl; have m3 := hSw.1.cell 3 _ rfl; have m4 := hSw.1.cell 4 _ rfl; have m5 := hSw.2; clear hSw; go_simp; (try with_reducible rfl))
        simp only [Act.put, List.setIfInBounds_toArray, List.set_cons_zero, List.set_cons_succ]
        refine take_lg (i := 3) (d := some 102) (v := ?v102b) rfl rfl (by kernel_rfl) (by kernel_rfl) (by kernel_rfl) (fun _ _ _ h => h) (Or.inl ⟨by rfl, ?h102b⟩) (by assumption) ?r102b
        case h102b => (intro V hSw; have m0 := hSw.1.cell 0 _ rfl; have m1 := hSw.1.cell 1 _ rfl; have m2 := hSw.1.cell 2 _ rfl; have m3 := hSw.1.cell 3 _ rfl; have m4 := hSw.1.cell 4 _ rfl; have m5 := hSw.2; clear hSw; go_simp; (try with_reducible rfl))
        simp only [Act.put, List.setIfInBounds_toArray, List.set_cons_zero, List.set_cons_succ]
        refine take_lg (i := 4) (d := some 103) (v := ?v103b) rfl rfl (by kernel_rfl) (by kernel_rfl) (by kernel_rfl) (fun _ _ _ h => h) (Or.inl ⟨by rfl, ?h103b⟩) (by assumption) ?r103b
        case h103b => (intro V hSw; have m0 := hSw.1.cell 0 _ rfl; have m1 := hSw.1.cell 1 _ rfl; have m2 := hSw.1.cell 2 _ rfl; have m3 := hSw.1.cell 3 _ rfl; have m4 := hSw.1.cell 4 _ rfl; have m5 := hSw.2; clear hSw; go_simp; (try with_reducible rfl))
        simp only [Act.put, List.setIfInBounds_toArray, List.set_cons_zero, List.set_cons_succ]
        refine take_lg (i := 5) (d := some 104) (v := ?v104b) rfl rfl (by kernel_rfl) (by kernel_rfl) (by kernel_rfl) (fun _ _ _ h => h) (Or.inl ⟨by rfl, ?h104b⟩) (by assumption) ?r104b
        case h104b => (intro V hSw; have m0 := hSw.1.cell 0 _ rfl; have m1 := hSw.1.cell 1 _ rfl; have m2 := hSw.1.cell 2 _ rfl; have m3 := hSw.1.cell 3 _ rfl; have m4 := hSw.1.cell 4 _ rfl; have m5 := hSw.2; clear hSw; go_simp; (try with_reducible rfl))
        simp only [Act.put, List.setIfInBounds_toArray, List.set_cons_zero, List.set_cons_succ]
        refine take_lg (i := 6) (d := some 105) (v := ?v105b) rfl rfl (by kernel_rfl) (by kernel_rfl) (by kernel_rfl) (fun _ _ _ h => h) (Or.inl ⟨by rfl, ?h105b⟩) (by assumption) ?r105b
        case h105b => (intro V hSw; have m0 := hSw.1.cell 0 _ rfl; have m1 := hSw.1.cell 1 _ rfl; have m2 := hSw.1.cell 2 _ rfl; have m3 := hSw.1.cell 3 _ rfl; have m4 := hSw.1.cell 4 _ rfl; have m5 := hSw.2; clear hSw; go_simp; (try with_reducible rfl))
        simp only [Act.put, List.setIfInBounds_toArray, List.set_cons_zero, List.set_cons_succ]
        refine wpAnyH_ready (rs := [7]) (by kernel_rfl) (by simp) ?_
        refine AllReadyH.cons rfl (fun K hK => ?_) AllReadyH.nil
        go_simp
        have ns : s ≠ b6 := fun e => bs6 e.symm
        have nd : w6.heap.size + 1 ≠ b6 := by omega
        obtain ⟨V9, hV9⟩ : ∃ X, X = (((((V8.setCell ⟨b6, k * 5, none⟩ (.int .i64 c.ses)).setCell ⟨b6, k * 5 + 1, none⟩ (.int .i64 c.seq)).setCell ⟨b6, k * 5 + 2, none⟩ (.int .i64 0)).setCell ⟨b6, k * 5 + 3, none⟩ (.int .i64 0)).setCell ⟨b6, k * 5 + 4, none⟩ (.int .i64 dbad)) := ⟨_, rfl⟩
        have fin := FIN.out V8 B8.out A8.out R8.out
        have hS0 : Bx V9 (w6.heap.size + 1) [.int .i64 c.ses, .int .i64 c.seq, .int .i64 0, .int .i64 0, .int .i64 dbad] ∧ V9.cell? ⟨s, 2, none⟩ = some (.slice (some ⟨b6, 0, none⟩) n dc6) := by
          rw [hV9]
          exact ⟨five_bx nd D8.out, five_cell ns y2v⟩
        have hS : Bx V9.drew (w6.heap.size + 1) [.int .i64 c.ses, .int .i64 c.seq, .int .i64 0, .int .i64 0, .int .i64 dbad] ∧ V9.drew.cell? ⟨s, 2, none⟩ = some (.slice (some ⟨b6, 0, none⟩) n dc6) := hS0
        rw [← hV9] at fin ⊢
        have FIN9 := hide fin
        clear hV9 fin FIN
        refine hK.out _ _ hS (fun hHeld7 => ?_)
        clear hK K hHeld7
        try simp only [Act.put, List.setIfInBounds_toArray, List.set_cons_zero, List.set_cons_succ]
        refine wpAnyH_done (by kernel_rfl) ?_ _
        go_wp2
        go_meet
        case rel => exact ⟨rfl, rfl, rfl, FIN9.out.1.drew, FIN9.out.2⟩
      case rest =>
        obtain ⟨rfl, rfl, rfl, HF⟩ := hcut
        have ra := HF.out.2.1
        have rb := HF.out.2.2
        have s0 := ra.cell 0 _ rfl
        have s1 := ra.cell 1 _ rfl
        have t0 := rb.cell 0 _ rfl
        have t1 := rb.cell 1 _ rfl
        have u0 := rb.free 0
        have u1 := rb.free 1
        have fin := (rb.put (j := 0) (v := .int .i64 0)).put (j := 1) (v := .int .i64 0)
        have e0 := fin.cell 0 _ rfl
        have e1 := fin.cell 1 _ rfl
        have LFF := hide ((((HF.out.1.set (j := 0) (v := .int .i64 0) (T0.out (W.heap.size + 1) (by omega)) (by omega) (by omega)).set (j := 1) (v := .int .i64 0) (T0.out (W.heap.size + 1) (by omega)) (by omega) (by omega)).left (by omega)))
        clear ra rb fin
        go_wp2
        refine bodyPost_ret (v := .tuple #[.agg #[.int .i64 0, .int .i64 0], .int .i64 dbad]) (by simp [results, Tryz.results9, go_sem, e0, e1]) rfl ?_
        exact ⟨rfl, LFF.out⟩

end Go.Proofs.YtiggkjkjfnlfkaaGreatDoor
