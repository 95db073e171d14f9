/-
  Several texts as one: LgF, LgH.
-/
import Derived.Test.YtodidokeblblgaaGreatRunF21
import Derived.Test.YtodidokeblblgaaGreatRunF27
import Derived.Deep.AppendLies
import Derived.Test.YtodidokeblblgaaGreatRunF22
namespace Go.Proofs.YtodidokeblblgaaGreat
open Go.ChangeShapes Go.WideShapes Go.ChangeAt Go.RowKit Go.Lib
set_option linter.unusedVariables false
def caL (c : M.Ca) (a : Option Addr) (cap : Nat) : List Value := [.int .i64 c.what, .int .i64 c.ses, .int .i64 c.seq, .string (byStr c.name), .int .i64 c.num, .int .i64 c.share, .slice a c.bys.length cap]
theorem LA.leave {W w' : World} {f : Nat} {va : Option Addr} {vc : Nat} {L : M.Lg} (h : LA W f va vc L) (hb : Below W.heap.size W w') : LeftL W f va L w' :=
  ⟨va, vc, h.below hb, stay_of hb (Nat.le_refl _), fun q hq => .inl hq⟩

set_option maxHeartbeats 8000000 in
theorem lg_Append_no {W : World} {f : Nat} {va : Option Addr} {vc : Nat} {L : M.Lg} (h : LA W f va vc L) {c : M.Ca} {a : Option Addr} {cap : Nat} (hi : CaIn W c a cap) (hr : M.rngF c = false ∨ 100 < c.name.length ∨ 6000 < c.bys.length) :
    Calls Tryz.prog 23 #[.pointer (some ⟨f, 0, none⟩), caV c a cap] W fun e w' => e = .returned (errV (M.apF L c)) ∧ LeftL W f va (M.apL L c) w' := by
  have AP : M.apF L c = (if M.rngF c = false then 1 else 4) := by
    unfold M.apF
    by_cases q : M.rngF c = false
    · rw [if_pos q, if_pos q]
    · rw [if_neg q, if_neg q]
      rcases hr with z | z | z
      · exact absurd z q
      · rw [if_pos (.inl z)]
      · rw [if_pos (.inr (.inl z))]
  have AL : M.apL L c = L := by
    unfold M.apL
    rw [if_pos]
    rw [AP]
    by_cases q : M.rngF c = false
    · rw [if_pos q]; exact .inl rfl
    · rw [if_neg q]; exact .inr (.inl rfl)
  rw [AP, AL]
  have FIN := hide (fun w' (hb : Below W.heap.size W w') => h.leave hb)
  have IR := hide (lg_inRange c a cap)
  unfold caV at IR ⊢
  have sz := byStr_sizeN c.name
  obtain ⟨W1, hW1⟩ : ∃ X, X = W.alloc (.cells #[.int .i64 c.what, .int .i64 c.ses, .int .i64 c.seq, .string (byStr c.name), .int .i64 c.num, .int .i64 c.share, .slice a c.bys.length cap] 35) := ⟨_, rfl⟩
  have b1 : Hid (Below W.heap.size W W1) := by unfold Hid; rw [hW1]; exact (Below.refl _ _).alloc (Nat.le_refl _) _
  have bx := caBx W c a cap
  rw [← hW1] at bx
  have c0 := bx.cell 0 _ rfl
  have c1 := bx.cell 1 _ rfl
  have c2 := bx.cell 2 _ rfl
  have c3 := bx.cell 3 _ rfl
  have c4 := bx.cell 4 _ rfl
  have c5 := bx.cell 5 _ rfl
  have c6 := bx.cell 6 _ rfl
  have BX := hide bx
  clear bx h hi AP AL
  have IR1 := hide (IR.out W1)
  cases hq : M.rngF c with
  | false =>
    rw [hq] at IR1
    rw [if_pos rfl, err_some (by decide)]
    clear hr hq IR
    generalize c.what = x0 at *
    go_enter Tryz.func23, Tryz.ntmps23
    go_upto_region 1 with fail
    rw [← hW1]
    clear hW1
    go_wp2_with (go_at_call 35; refine IR1.out.mono ?_; rintro e w2 ⟨rfl, hb2⟩; have K2 := hide (b1.out.trans (hb2.mono b1.out.size)); clear hb2)
    go_ret
    exact ⟨rfl, FIN.out _ K2.out⟩
  | true =>
    rw [hq] at IR1
    rw [if_neg (by decide), err_some (by decide)]
    have hw : 100 < c.name.length ∨ 6000 < c.bys.length := by
      rcases hr with z | z
      · rw [hq] at z; cases z
      · exact z
    have BW : Hid (∀ w2, Below W1.heap.size W1 w2 → w2.cell? ⟨W.heap.size, 3, none⟩ = some (.string (byStr c.name)) ∧ w2.cell? ⟨W.heap.size, 6, none⟩ = some (.slice a c.bys.length cap) ∧ Below W.heap.size W w2) := fun w2 hb => by
      have b := BX.out.keep (hb.block _ BX.out.lt)
      exact ⟨b.cell 3 _ rfl, b.cell 6 _ rfl, b1.out.trans (hb.mono b1.out.size)⟩
    have ways : (decide ((100 : Int) < (c.name.length : Int)) = true ∧ decide (100 < c.name.length) = true) ∨ (decide ((100 : Int) < (c.name.length : Int)) = false ∧ decide (100 < c.name.length) = false ∧ decide ((6000 : Int) < (c.bys.length : Int)) = true ∧ decide (6000 < c.bys.length) = true) := by
      simp only [decide_eq_true_iff, decide_eq_false_iff_not]
      omega
    clear hr hq IR hw
    generalize c.what = x0 at *
    generalize c.name.length = nn at *
    generalize c.bys.length = bn at *
    rcases ways with ⟨g1, g1'⟩ | ⟨g1, g1', g2, g2'⟩
    all_goals (
      go_enter Tryz.func23, Tryz.ntmps23
      go_upto_region 1 with fail
      rw [← hW1]
      clear hW1
      go_wp2_with (go_at_call 35; refine IR1.out.mono ?_; rintro e w2 ⟨rfl, hb2⟩; obtain ⟨e3, e6, eb⟩ := BW.out w2 hb2; have K2 := hide eb; clear hb2 eb)
      go_ret
      exact ⟨rfl, FIN.out _ K2.out⟩)

theorem CaIn.ok {W : World} {c : M.Ca} {a : Option Addr} {cap : Nat} (h : CaIn W c a cap) (h1 : M.rngF c = true) (h2 : c.name.length ≤ 100) (h3 : c.bys.length ≤ 6000) : M.CaOk c := ⟨h1, h2, h3, h.nb, h.rd.2.1⟩
theorem M.bys_more : ∀ l : List Int, (∀ x ∈ l, M.I64 x) → l.length ≤ (M.bysL l).length
  | [], _ => Nat.le_refl _
  | n :: l, h => by
    have a := M.bys_more l fun x hx => h x (List.mem_cons_of_mem _ hx)
    have b := (M.num_len (h n (List.mem_cons_self ..)).1 (h n (List.mem_cons_self ..)).2).1
    rw [M.bys_cons, List.length_append]
    show l.length + 1 ≤ _
    omega
theorem M.CaOk.rec_seven {c : M.Ca} (h : M.CaOk c) : 7 ≤ (M.recL c).length := by
  have a := M.bys_more (M.sixL c) h.i64
  have e : (M.sixL c).length = 6 := rfl
  have b := (M.num_len h.num_in.1 h.num_in.2).1
  unfold M.recL
  rw [List.length_append]
  have : (M.bysL (M.sixL c)).length ≤ (M.bodL c).length := by unfold M.bodL; rw [List.length_append, List.length_append]; omega
  omega
/-- the log with what is not whole cut off, a step on -/
def L0 (L : M.Lg) : M.Lg := M.stpL ⟨L.calls, [], min L.safe L.whole, L.ahead, L.stop⟩
theorem L0_bytes (L : M.Lg) : (L0 L).bytes = M.recs L.calls := List.append_nil _
/-- bytes behind a log's: where its row lies then -/
theorem LA.grow {w w' : World} {f : Nat} {va : Option Addr} {vc : Nat} {L : M.Lg} (h : LA w f va vc L) {g : Nat} (hgr : w.grownBy w' (Value.slice va L.bytes.length vc).ownBlock) (hg : (Value.slice va L.bytes.length vc).ownBlock = some g ∨ g = w.heap.size) :
    Bx w' f (lgL va vc L) ∧ g ≠ f ∧ StayBut (LB f va) w w' ∧ (LB f va g ∨ w.heap.size ≤ g) := by
  have ob : ∀ q, (Value.slice va L.bytes.length vc).ownBlock = some q → ∃ p, va = some p ∧ p.block = q := fun q hq => by
    cases va with
    | none => cases hq
    | some p => exact ⟨p, rfl, by simpa [Value.ownBlock] using hq⟩
  have nf : ∀ q, (Value.slice va L.bytes.length vc).ownBlock = some q → q ≠ f := fun q hq => by
    obtain ⟨p, e1, e2⟩ := ob q hq
    rw [← e2]
    exact h.ne p e1
  refine ⟨h.box.keep (hgr.block f h.box.lt (fun e => nf f e.symm rfl)), ?_, ⟨hgr.os, hgr.tape, hgr.output, hgr.size, fun q hq hk => hgr.block q hq (fun e => hk (.inr (ob q e.symm)))⟩, ?_⟩
  · rcases hg with e | e
    · exact nf g e
    · have := h.box.lt
      omega
  · rcases hg with e | e
    · exact .inl (.inr (ob g e))
    · exact .inr (by omega)

set_option maxHeartbeats 8000000 in
set_option maxRecDepth 10000 in
theorem lg_Append_ok {W : World} {f : Nat} {va : Option Addr} {vc : Nat} {L : M.Lg} (h : LA W f va vc L) {c : M.Ca} {a : Option Addr} {cap : Nat} (hi : CaIn W c a cap) (h1 : M.rngF c = true) (h2 : c.name.length ≤ 100) (h3 : c.bys.length ≤ 6000) :
    Calls Tryz.prog 23 #[.pointer (some ⟨f, 0, none⟩), caV c a cap] W fun e w' => e = .returned (errV (M.apF L c)) ∧ LeftL W f va (M.apL L c) w' := by
  have ok := hi.ok h1 h2 h3
  have FIN := hide (fun w' (hb : Below W.heap.size W w') => h.leave hb)
  have HB := hide (fun w' (hb : Below W.heap.size W w') => h.below hb)
  have IR := hide (lg_inRange c a cap)
  rw [h1] at IR
  have WR := hide (fun w (hw : Below W.heap.size W w) => lg_written c a cap w (hi.below hw) ok)
  have RL := ok.rec_le
  have RB := hide ok.rec_byte
  have R7 := hide ok.rec_seven
  have NM := hide hi.nb
  have BY := hide hi.rd.2.1
  have LO := hide h.ok
  have wl := h.ok.wh
  unfold caV at IR WR ⊢
  have sz := byStr_sizeN c.name
  obtain ⟨W1, hW1⟩ : ∃ X, X = W.alloc (.cells #[.int .i64 c.what, .int .i64 c.ses, .int .i64 c.seq, .string (byStr c.name), .int .i64 c.num, .int .i64 c.share, .slice a c.bys.length cap] 35) := ⟨_, rfl⟩
  have b1 : Hid (Below W.heap.size W W1) := by unfold Hid; rw [hW1]; exact (Below.refl _ _).alloc (Nat.le_refl _) _
  have bx := caBx W c a cap
  rw [← hW1] at bx
  have c0 := bx.cell 0 _ rfl
  have c1 := bx.cell 1 _ rfl
  have c2 := bx.cell 2 _ rfl
  have c3 := bx.cell 3 _ rfl
  have c4 := bx.cell 4 _ rfl
  have c5 := bx.cell 5 _ rfl
  have c6 := bx.cell 6 _ rfl
  have BX := hide bx
  have IR1 := hide (IR.out W1)
  have BW : Hid (∀ w2, Below W1.heap.size W1 w2 → Bx w2 W.heap.size [.int .i64 c.what, .int .i64 c.ses, .int .i64 c.seq, .string (byStr c.name), .int .i64 c.num, .int .i64 c.share, .slice a c.bys.length cap] ∧ Below W.heap.size W w2) := fun w2 hb => ⟨BX.out.keep (hb.block _ BX.out.lt), b1.out.trans (hb.mono b1.out.size)⟩
  have g1 : decide ((100 : Int) < (c.name.length : Int)) = false := decide_eq_false (by omega)
  have g2 : decide ((6000 : Int) < (c.bys.length : Int)) = false := decide_eq_false (by omega)
  have g1' : decide (100 < c.name.length) = false := decide_eq_false (by omega)
  have g2' : decide (6000 < c.bys.length) = false := decide_eq_false (by omega)
  have AF : Hid (M.apF L c = if 100000 < L.whole + (M.recL c).length then 4 else if M.stpF L = true then 9 else 0) := by
    unfold Hid M.apF
    rw [if_neg (by rw [h1]; decide)]
    by_cases q : 100000 < L.whole + (M.recL c).length
    · rw [if_pos (.inr (.inr q)), if_pos q]
    · rw [if_neg (by omega), if_neg q]
  have CUT := hide (fun w3 (hw : LA w3 f va vc L) => lg_cut hw L.whole hw.ok.len.1)
  rw [M.cutG_whole h.ok] at CUT
  clear bx h hi ok IR h1 h2 h3
  have w2w : Hid (∀ w2 w3 : World, Below W.heap.size W w2 → Below w2.heap.size w2 w3 → Below W.heap.size W w3) := fun w2 w3 x y => x.trans (y.mono x.size)
  go_enter Tryz.func23, Tryz.ntmps23
  go_upto_region 1 with fail
  rw [← hW1]
  clear hW1
  go_upto_region 5 with (go_at_call 35; refine IR1.out.mono ?_; rintro e w2 ⟨rfl, hb2⟩; obtain ⟨bx2, eb⟩ := BW.out w2 hb2; have K2 := hide eb; have d0 := bx2.cell 0 _ rfl; have d1 := bx2.cell 1 _ rfl; have d2 := bx2.cell 2 _ rfl; have d3 := bx2.cell 3 _ rfl; have d4 := bx2.cell 4 _ rfl; have d5 := bx2.cell 5 _ rfl; have d6 := bx2.cell 6 _ rfl; clear hb2 eb bx2)
  clear c0 c1 c2 c3 c4 c5 c6 IR1 BW BX
  have WR2 := hide (WR.out w2 K2.out)
  clear WR g1 g2 g1' g2'
  go_upto_region 6 with (go_at_call 36; refine WR2.out.mono ?_; rintro e w3 ⟨vb, vbc, rfl, ho3, hb3⟩; have O3 := hide ho3; have K3 := hide (w2w.out w2 w3 K2.out hb3); clear ho3 hb3)
  clear d0 d1 d2 d3 d4 d5 d6 WR2 w2w
  have H3 := hide (HB.out w3 K3.out)
  have f1 := H3.out.box.cell 1 _ rfl
  have f4 := H3.out.box.cell 4 _ rfl
  have wr : IntKind.i64.wrap ((L.whole : Int) + ((M.recL c).length : Int)) = (L.whole : Int) + ((M.recL c).length : Int) := i64_in (by omega) (by omega)
  obtain ⟨wh, hwh⟩ : ∃ x, x = L.whole := ⟨_, rfl⟩
  obtain ⟨rn, hrn⟩ : ∃ x, x = (M.recL c).length := ⟨_, rfl⟩
  have EW := hide hwh
  have EN := hide hrn
  rw [← hwh, ← hrn] at wr AF
  rw [← hwh] at f1 wl
  rw [← hwh] at CUT
  rw [← hrn] at RL O3 ⊢
  clear hwh hrn
  by_cases q4 : 100000 < wh + rn
  · have e4 := AF.out
    rw [if_pos q4] at e4
    have E4 := hide e4
    have t1 : decide ((100000 : Int) < (wh : Int) + (rn : Int)) = true := decide_eq_true (by omega)
    have DONE : Hid (LeftL W f va (M.apL L c) w3) := by
      unfold Hid M.apL
      rw [if_pos (.inr (.inl e4))]
      exact FIN.out w3 K3.out
    clear q4 e4 AF
    go_wp2
    go_ret
    exact ⟨by rw [E4.out, err_some (by decide : (4 : Int) ≠ 0)]; rfl, DONE.out⟩
  have e4 := AF.out
  rw [if_neg q4] at e4
  have t1 : decide ((100000 : Int) < (wh : Int) + (rn : Int)) = false := decide_eq_false (by omega)
  clear AF
  cases hst : L.stop with
  | true =>
    rw [hst] at f4
    rw [if_pos (by unfold M.stpF; rw [hst]; rfl)] at e4
    have E4 := hide e4
    have DONE : Hid (LeftL W f va (M.apL L c) w3) := by
      unfold Hid M.apL
      rw [if_pos (.inr (.inr hst))]
      exact FIN.out w3 K3.out
    clear e4 q4
    go_wp2
    go_ret
    exact ⟨by rw [E4.out, err_some (by decide : (9 : Int) ≠ 0)]; rfl, DONE.out⟩
  | false =>
    rw [hst] at f4
    have SF : M.stpF L = decide (L.ahead = 0) := by unfold M.stpF; rw [hst, Bool.false_or]
    have SC : M.stpF ⟨L.calls, [], min L.safe wh, L.ahead, L.stop⟩ = decide (L.ahead = 0) := by unfold M.stpF; rw [hst, Bool.false_or]
    have CUT3 := hide (CUT.out w3 H3.out)
    have STP := hide (fun w4 (hw : LA w4 f va vc ⟨L.calls, [], min L.safe wh, L.ahead, L.stop⟩) => lg_step hw)
    rw [SC] at STP
    have EL0 : Hid (M.stpL ⟨L.calls, [], min L.safe wh, L.ahead, L.stop⟩ = L0 L) := by unfold Hid L0; rw [EW.out]
    have SROW : Hid (∀ w4 : World, StayBut (fun q => q = f) w3 w4 → RdB w4 vb (M.recL c) ∧ (∀ p, vb = some p → p.block < w4.heap.size)) := fun w4 hs => by
      obtain ⟨a', c', e, r, _⟩ := own_rdB1 EN.out.symm (by unfold maxLen; omega) RB.out O3.out
      cases e
      have sp := own_spot O3.out
      have fl : f < w2.heap.size := Nat.lt_of_lt_of_le (HB.out W (Below.refl _ _)).box.lt K2.out.size
      exact ⟨rdB_keep r (fun _ p hp => hs.block _ (sp p hp).2.1 (by
        have := (O3.out.lt p.block (sp p hp).2.2).1
        show p.block ≠ f
        omega)) hs.size, fun p hp => Nat.lt_of_lt_of_le (sp p hp).2.1 hs.size⟩
    have VB : Hid (∃ b, vb = some ⟨b, 0, none⟩ ∧ rn ≤ vbc) := by
      rcases O3.out.2 with ⟨hv, h0⟩ | ⟨g, cap, cur, hv, _, _, hcap, _⟩
      · omega
      · cases hv
        exact ⟨g, rfl, hcap⟩
    obtain ⟨bb, rfl, vble⟩ := VB.out
    have S0 : Hid (StayBut (LB f va) W w3) := stay_of K3.out (Nat.le_refl _)
    have sz3 : Hid (W.heap.size ≤ w3.heap.size) := K3.out.size
    have hst2 := hide hst
    clear CUT VB O3 hst SF SC
    by_cases q0 : L.ahead = 0
    · rw [decide_eq_true q0] at STP
      rw [if_pos rfl] at STP
      rw [err_some (by decide)] at STP
      have E9 : Hid (M.apF L c = 9) := by unfold Hid; rw [e4, if_pos (by unfold M.stpF; rw [decide_eq_true q0, Bool.or_true])]
      clear e4 q4
      go_upto_region 13 with (first
        | (go_at_call 37; refine CUT3.out.mono ?_; rintro e w4 ⟨rfl, h4, s4⟩; have H4 := hide h4; have S4 := hide s4; clear h4 s4)
        | (go_at_call 38; refine (STP.out w4 H4.out).mono ?_; rintro e w5 ⟨rfl, h5, s5⟩; have H5 := hide h5; have S5 := hide (StayBut.trans S4.out s5); clear h5 s5))
      rw [EL0.out] at H5
      have H6 := hide (H5.out.below (Below.refl _ _).drew)
      have LBY : (L0 L).bytes.length = wh := by rw [L0_bytes, EW.out]; rfl
      obtain ⟨hf, hhf⟩ : ∃ x, x = rn / 2 := ⟨_, rfl⟩
      have hd1 : Int.tdiv (rn : Int) 2 = (hf : Int) := by rw [Int.tdiv_eq_ediv_of_nonneg (by omega)]; omega
      have hd2 : (rn : Int) / 2 = (hf : Int) := by omega
      have r7 : 7 ≤ rn := by rw [EN.out]; exact R7.out
      have hf0 : 0 < hf := by omega
      have hw0 : IntKind.i64.wrap (hf : Int) = (hf : Int) := i64_in (by omega) (by omega)
      have y1 : (hf : Int) ≤ (vbc : Int) := by omega
      have y2 : hf ≤ vbc := by omega
      have c50 := H5.out.box.cell 0 _ rfl
      rw [LBY] at c50
      have OW : Hid (w5.drew.ownsRow 0 5 1 (.slice va wh vc) wh (byCells (L0 L).bytes)) := by
        have := H6.out.own
        rw [LBY] at this
        exact this
      obtain ⟨i0, hi0, hz0, hz1, hz2⟩ := info_parts info8
      have J0 := hide hi0
      clear hi0
      have SR := (SROW.out w5 S5.out).1
      have NLn : Hid ((byCells ((M.recL c).take hf)).length = hf * 1) := by unfold Hid; rw [byCells_len, List.length_take, ← EN.out]; omega
      have NWn : Hid (∀ j u, (byCells ((M.recL c).take hf))[j]? = some u → w5.drew.cell? ((⟨bb, 0, none⟩ : Addr).add j) = some u) := by
        obtain ⟨b', off', e, _, hcc⟩ := (SR.take hf).2.2 (by
          intro z
          have := congrArg List.length z
          rw [List.length_take, ← EN.out] at this
          simp only [List.length_nil] at this
          omega)
        cases e
        exact by_src hcc
      have LM1 : Hid (wh + hf ≤ maxLen) := by unfold Hid maxLen; omega
      have LM2 : Hid ((wh + hf) * 1 ≤ 140737488355328) := by unfold Hid; omega
      have GR : Hid (∀ (w6 : World) (g : Nat), w5.drew.grownBy w6 (Value.slice va wh vc).ownBlock → ((Value.slice va wh vc).ownBlock = some g ∨ g = w5.drew.heap.size) → Bx w6 f (lgL va vc (L0 L)) ∧ g ≠ f ∧ StayBut (LB f va) w5.drew w6 ∧ (LB f va g ∨ w5.drew.heap.size ≤ g)) := fun w6 g x y => H6.out.grow (by rw [LBY]; exact x) (by rw [LBY]; exact y)
      have S6 : Hid (StayBut (LB f va) W w5.drew) := S0.out.trans (S5.out.low.trans (stay_of ((Below.refl w5.heap.size w5).drew) (Nat.le_refl _)))
      have APL : M.apL L c = ⟨L.calls, (M.recL c).take hf, min L.safe L.whole, L.ahead, true⟩ := by
        unfold M.apL
        rw [if_neg (by rw [E9.out]; intro z; rcases z with z | z | z <;> first | cases z | (rw [hst2.out] at z; cases z)), if_pos q0, hhf, EN.out]
      have FINH : Hid (∀ (g cg : Nat) (w6 : World), w6.ownsRow 0 5 1 (.slice (some ⟨g, 0, none⟩) (wh + hf) cg) (wh + hf) (byCells (L0 L).bytes ++ byCells ((M.recL c).take hf)) → Bx w6 f (lgL va vc (L0 L)) → g ≠ f → StayBut (LB f va) w5.drew w6 → (LB f va g ∨ w5.drew.heap.size ≤ g) → LeftL W f va (M.apL L c) (w6.setCell ⟨f, 0, none⟩ (.slice (some ⟨g, 0, none⟩) (wh + hf) cg))) := fun g cg w6 ow bx gf st lb => by
        have ok' := M.ap_ok LO.out (c := c) NM.out BY.out
        have bl : (M.apL L c).bytes.length = wh + hf := by
          rw [APL]
          show (M.recs L.calls ++ (M.recL c).take hf).length = _
          rw [List.length_append, List.length_take, ← EN.out]
          have : (M.recs L.calls).length = wh := EW.out.symm
          omega
        refine ⟨some ⟨g, 0, none⟩, cg, ⟨ok', ?_, ?_, fun p hp => by cases hp; exact gf⟩, S6.out.trans (st.trans (stay_set (K := LB f va) (.inl rfl))), fun q hq => ?_⟩
        · have := bx.put (j := 0) (v := .slice (some ⟨g, 0, none⟩) (wh + hf) cg)
          have e : (lgL va vc (L0 L)).set 0 (.slice (some ⟨g, 0, none⟩) (wh + hf) cg) = lgL (some ⟨g, 0, none⟩) cg (M.apL L c) := by
            unfold lgL
            rw [bl, APL]
            unfold L0 M.stpL
            simp only [M.stpF, q0, decide_true, Bool.or_true, if_true]
            rfl
          rw [e] at this
          exact this
        · rw [bl]
          have e : byCells (M.apL L c).bytes = byCells (L0 L).bytes ++ byCells ((M.recL c).take hf) := by
            rw [APL, L0_bytes, ← byCells_app]
            rfl
          rw [e]
          exact own_stay ow (fun p hp => by cases hp; exact heap_setCell_other _ _ _ _ gf)
        · rcases hq with z | ⟨p, z1, z2⟩
          · exact .inl (.inl z)
          · cases z1
            subst z2
            rcases lb with y | y
            · exact .inl y
            · exact .inr (Nat.le_trans S6.out.size y)
      clear SR H3 H4 H5 H6 CUT3 STP SROW APL LBY f1 f4 sz3 hhf q0
      refine wp_region_held_drew (S := fun _ => True) (by kernel_rfl) trivial (fun hHeld => ?_)
      refine take_lg (i := 0) (d := some 48) (v := ?v1) rfl rfl (by kernel_rfl) (by kernel_rfl) (by kernel_rfl) (fun _ _ _ h => h) (Or.inl ⟨by rfl, ?h1⟩) trivial ?r1
      case h1 => (intro V hSw; clear hSw; go_simp; (try with_reducible rfl))
      simp only [Act.put, List.setIfInBounds_toArray, List.set_cons_zero, List.set_cons_succ]
      refine take_lg (i := 1) (d := some 49) (v := ?v2) rfl rfl (by kernel_rfl) (by kernel_rfl) (by kernel_rfl) (fun _ _ _ h => h) (Or.inl ⟨by rfl, ?h2⟩) trivial ?r2
      case h2 => (intro V hSw; clear hSw; go_simp; (try with_reducible rfl))
      simp only [Act.put, List.setIfInBounds_toArray, List.set_cons_zero, List.set_cons_succ]
      refine take_lg (i := 2) (d := some 50) (v := ?v3) rfl rfl (by kernel_rfl) (by kernel_rfl) (by kernel_rfl) (fun _ _ _ h => h) (Or.inl ⟨by rfl, ?h3⟩) trivial ?r3
      case h3 => (intro V hSw; clear hSw; go_simp; (try with_reducible rfl))
      simp only [Act.put, List.setIfInBounds_toArray, List.set_cons_zero, List.set_cons_succ]
      refine take_lg (i := 3) (d := some 51) (v := ?v4) rfl rfl (by kernel_rfl) (by kernel_rfl) (by kernel_rfl) (fun _ _ _ h => h) (Or.inl ⟨by rfl, ?h4⟩) trivial ?r4
      case h4 => (intro V hSw; clear hSw; go_simp; (try with_reducible rfl))
      simp only [Act.put, List.setIfInBounds_toArray, List.set_cons_zero, List.set_cons_succ]
      refine take_lg (i := 5) (d := some 53) (v := ?v5) rfl rfl (by kernel_rfl) (by kernel_rfl) (by kernel_rfl) (fun _ _ _ h => h) (Or.inl ⟨by rfl, ?h5⟩) trivial ?r5
      case h5 => (intro V hSw; clear hSw; go_simp; (try with_reducible rfl))
      simp only [Act.put, List.setIfInBounds_toArray, List.set_cons_zero, List.set_cons_succ]
      refine take_lg (i := 6) (d := some 54) (v := ?v6) rfl rfl (by kernel_rfl) (by kernel_rfl) (by kernel_rfl) (fun _ _ _ h => h) (Or.inl ⟨by rfl, ?h6⟩) trivial ?r6
      case h6 => (intro V hSw; clear hSw; go_simp; (try with_reducible rfl))
      simp only [Act.put, List.setIfInBounds_toArray, List.set_cons_zero, List.set_cons_succ]
      refine take_lg (i := 7) (d := some 55) (v := ?v7) rfl rfl (by kernel_rfl) (by kernel_rfl) (by kernel_rfl) (fun _ _ _ h => h) (Or.inl ⟨by rfl, ?h7⟩) trivial ?r7
      case h7 => (intro V hSw; clear hSw; go_simp; (try with_reducible rfl))
      simp only [Act.put, List.setIfInBounds_toArray, List.set_cons_zero, List.set_cons_succ]
      refine take_lg (i := 8) (d := some 56) (v := ?v8) rfl rfl (by kernel_rfl) (by kernel_rfl) (by kernel_rfl) (fun _ _ _ h => h) (Or.inl ⟨by rfl, ?h8⟩) trivial ?r8
      case h8 => (intro V hSw; clear hSw; go_simp; (try with_reducible rfl))
      simp only [Act.put, List.setIfInBounds_toArray, List.set_cons_zero, List.set_cons_succ]
      refine take_lg (i := 9) (d := some 57) (v := ?v9) rfl rfl (by kernel_rfl) (by kernel_rfl) (by kernel_rfl) (fun _ _ _ h => h) (Or.inl ⟨by rfl, ?h9⟩) trivial ?r9
      case h9 => (intro V hSw; clear hSw; go_simp; (try with_reducible rfl))
      simp only [Act.put, List.setIfInBounds_toArray, List.set_cons_zero, List.set_cons_succ]
      refine wpAnyH_ready (rs := [4]) (by kernel_rfl) (by simp) ?_
      refine AllReadyH.cons rfl (fun K hK => ?_) AllReadyH.nil
      go_simp
      refine hK.out _ _ trivial (fun hHeld4 => ?_)
      clear hK K hHeld4
      try simp only [Act.put, List.setIfInBounds_toArray, List.set_cons_zero, List.set_cons_succ]
      refine wpAnyH_ready (rs := [10]) (by kernel_rfl) (by simp) ?_
      refine AllReadyH.cons rfl (fun K hK => ?_) AllReadyH.nil
      refine step_append_lies _ rfl (.tmp 52) (.tmp 57) 33 rfl 0 5 i0 (.int .u8 0) 1 1 Tryz.underlying33 J0.out hz0 hz1 hz2 rfl (by omega) (.slice va wh vc) wh (byCells (L0 L).bytes) rfl OW.out ⟨bb, 0, none⟩ hf vbc (byCells ((M.recL c).take hf)) rfl NLn.out NWn.out (byCells_one _) hf0 LM1.out LM2.out (Nat.zero_le _) w5.drew.heap.size rfl ?_
      intro g cg w6 ho6 hg6 ha6 hl6
      obtain ⟨bx6, gf, st6, lb6⟩ := GR.out _ _ hg6 ha6
      have x0 := bx6.cell 0 _ rfl
      have z0 := bx6.free 0
      have FN := hide (FINH.out g cg w6 ho6 bx6 gf st6 lb6)
      clear ho6 hg6 ha6 hl6 bx6 gf st6 lb6
      refine hK.out _ _ trivial (fun hHeld5 => ?_)
      clear hK K hHeld5
      try simp only [Act.put, List.setIfInBounds_toArray]
      refine take_lg (i := 11) (d := some 59) (v := ?v10) rfl rfl (by kernel_rfl) (by kernel_rfl) (by kernel_rfl) (fun _ _ _ h => h) (Or.inl ⟨by rfl, ?h10⟩) trivial ?r10
      case h10 => (intro V hSw; clear hSw; go_simp; (try with_reducible rfl))
      simp only [Act.put]
      refine take_lg (i := 12) (d := some 60) (v := ?v11) rfl rfl (by kernel_rfl) (by kernel_rfl) (by kernel_rfl) (fun _ _ _ h => h) (Or.inl ⟨by rfl, ?h11⟩) trivial ?r11
      case h11 => (intro V hSw; clear hSw; go_simp; (try with_reducible rfl))
      simp only [Act.put]
      refine wpAnyH_ready (rs := [13]) (by kernel_rfl) (by simp) ?_
      refine AllReadyH.cons rfl (fun K hK => ?_) AllReadyH.nil
      go_simp
      refine hK.out _ _ trivial (fun hHeld6 => ?_)
      clear hK K hHeld6
      try simp only [Act.put, List.setIfInBounds_toArray, List.set_cons_zero, List.set_cons_succ]
      refine wpAnyH_done (by kernel_rfl) ?_ _
      go_wp2
      go_ret
      exact ⟨by rw [E9.out, err_some (by decide : (9 : Int) ≠ 0)]; rfl, FN.out⟩
    · rw [decide_eq_false q0] at STP
      rw [if_neg (by decide)] at STP
      rw [err_nil rfl] at STP
      have E0 : Hid (M.apF L c = 0) := by unfold Hid; rw [e4, if_neg (by unfold M.stpF; rw [decide_eq_false q0, hst2.out]; decide)]
      clear e4 q4
      go_upto_region 15 with (first
        | (go_at_call 37; refine CUT3.out.mono ?_; rintro e w4 ⟨rfl, h4, s4⟩; have H4 := hide h4; have S4 := hide s4; clear h4 s4)
        | (go_at_call 38; refine (STP.out w4 H4.out).mono ?_; rintro e w5 ⟨rfl, h5, s5⟩; have H5 := hide h5; have S5 := hide (StayBut.trans S4.out s5); clear h5 s5))
      rw [EL0.out] at H5
      have LBY : (L0 L).bytes.length = wh := by rw [L0_bytes, EW.out]; rfl
      have c50 := H5.out.box.cell 0 _ rfl
      rw [LBY] at c50
      have OW : Hid (w5.ownsRow 0 5 1 (.slice va wh vc) wh (byCells (L0 L).bytes)) := by
        have := H5.out.own
        rw [LBY] at this
        exact this
      obtain ⟨i0, hi0, hz0, hz1, hz2⟩ := info_parts info8
      have J0 := hide hi0
      clear hi0
      have SR := (SROW.out w5 S5.out).1
      have NLn : Hid ((byCells (M.recL c)).length = rn * 1) := by unfold Hid; rw [byCells_len, ← EN.out]; omega
      have NWn : Hid (∀ j u, (byCells (M.recL c))[j]? = some u → w5.cell? ((⟨bb, 0, none⟩ : Addr).add j) = some u) := by
        obtain ⟨b', off', e, _, hcc⟩ := SR.2.2 (by
          intro z
          have := congrArg List.length z
          rw [← EN.out] at this
          simp only [List.length_nil] at this
          omega)
        cases e
        exact by_src hcc
      have rn0 : 0 < rn := by omega
      have LM1 : Hid (wh + rn ≤ maxLen) := by unfold Hid maxLen; omega
      have LM2 : Hid ((wh + rn) * 1 ≤ 140737488355328) := by unfold Hid; omega
      have GR : Hid (∀ (w6 : World) (g : Nat), w5.grownBy w6 (Value.slice va wh vc).ownBlock → ((Value.slice va wh vc).ownBlock = some g ∨ g = w5.heap.size) → Bx w6 f (lgL va vc (L0 L)) ∧ g ≠ f ∧ StayBut (LB f va) w5 w6 ∧ (LB f va g ∨ w5.heap.size ≤ g)) := fun w6 g x y => H5.out.grow (by rw [LBY]; exact x) (by rw [LBY]; exact y)
      have S6 : Hid (StayBut (LB f va) W w5) := S0.out.trans S5.out.low
      have APL : M.apL L c = ⟨L.calls ++ [c], [], min L.safe L.whole, if 0 < L.ahead then L.ahead - 1 else L.ahead, L.stop⟩ := by
        unfold M.apL
        rw [if_neg (by rw [E0.out]; intro z; rcases z with z | z | z <;> first | cases z | (rw [hst2.out] at z; cases z)), if_neg q0]
      have FINH : Hid (∀ (g cg : Nat) (w6 : World), w6.ownsRow 0 5 1 (.slice (some ⟨g, 0, none⟩) (wh + rn) cg) (wh + rn) (byCells (L0 L).bytes ++ byCells (M.recL c)) → Bx w6 f (lgL va vc (L0 L)) → g ≠ f → StayBut (LB f va) w5 w6 → (LB f va g ∨ w5.heap.size ≤ g) → LeftL W f va (M.apL L c) ((w6.setCell ⟨f, 0, none⟩ (.slice (some ⟨g, 0, none⟩) (wh + rn) cg)).setCell ⟨f, 1, none⟩ (.int .i64 ((wh + rn : Nat) : Int))) ∧ Bx (w6.setCell ⟨f, 0, none⟩ (.slice (some ⟨g, 0, none⟩) (wh + rn) cg)) f ((lgL va vc (L0 L)).set 0 (.slice (some ⟨g, 0, none⟩) (wh + rn) cg))) := fun g cg w6 ow bx gf st lb => by
        have ok' := M.ap_ok LO.out (c := c) NM.out BY.out
        have wn : (M.apL L c).whole = wh + rn := by
          rw [APL]
          show (M.recs (L.calls ++ [c])).length = _
          rw [M.recs_app, M.recs_one, List.length_append, ← EN.out]
          have : (M.recs L.calls).length = wh := EW.out.symm
          omega
        have bl : (M.apL L c).bytes.length = wh + rn := by
          rw [← wn, APL]
          show (M.recs (L.calls ++ [c]) ++ []).length = _
          rw [List.append_nil]
          rfl
        have bp := bx.put (j := 0) (v := .slice (some ⟨g, 0, none⟩) (wh + rn) cg)
        refine ⟨⟨some ⟨g, 0, none⟩, cg, ⟨ok', ?_, ?_, fun p hp => by cases hp; exact gf⟩, S6.out.trans (st.trans ((stay_set (K := LB f va) (.inl rfl)).trans (stay_set (K := LB f va) (.inl rfl)))), fun q hq => ?_⟩, bp⟩
        · have := bp.put (j := 1) (v := .int .i64 ((wh + rn : Nat) : Int))
          have e : ((lgL va vc (L0 L)).set 0 (.slice (some ⟨g, 0, none⟩) (wh + rn) cg)).set 1 (.int .i64 ((wh + rn : Nat) : Int)) = lgL (some ⟨g, 0, none⟩) cg (M.apL L c) := by
            unfold lgL
            rw [bl, wn, APL]
            unfold L0 M.stpL
            simp only [M.stpF, q0, hst2.out, decide_false, Bool.or_false, Bool.false_eq_true, if_false]
            rfl
          rw [e] at this
          exact this
        · rw [bl]
          have e : byCells (M.apL L c).bytes = byCells (L0 L).bytes ++ byCells (M.recL c) := by
            rw [APL, L0_bytes, ← byCells_app]
            show byCells (M.recs (L.calls ++ [c]) ++ []) = _
            rw [List.append_nil, M.recs_app, M.recs_one]
          rw [e]
          exact own_stay ow (fun p hp => by cases hp; rw [heap_setCell_other _ _ _ _ gf, heap_setCell_other _ _ _ _ gf])
        · rcases hq with z | ⟨p, z1, z2⟩
          · exact .inl (.inl z)
          · cases z1
            subst z2
            rcases lb with y | y
            · exact .inl y
            · exact .inr (Nat.le_trans S6.out.size y)
      clear SR H3 H4 H5 CUT3 STP SROW APL LBY f1 f4 sz3 q0
      go_upto_region 16 with (at_builtin; refine wpList_append_lies _ rfl (.tmp 66) (.tmp 67) 33 rfl 0 5 i0 (.int .u8 0) 1 1 Tryz.underlying33 J0.out hz0 hz1 hz2 rfl (by omega) (.slice va wh vc) wh (byCells (L0 L).bytes) rfl OW.out ⟨bb, 0, none⟩ rn vbc (byCells (M.recL c)) rfl NLn.out NWn.out (byCells_one _) rn0 LM1.out LM2.out (Nat.zero_le _) w5.heap.size rfl ?_; intro g cg w6 ho6 hg6 ha6 hl6; obtain ⟨bx6, gf, st6, lb6⟩ := GR.out _ _ hg6 ha6; have x0 := bx6.cell 0 _ rfl; have z0 := bx6.free 0; obtain ⟨fn, bx7⟩ := FINH.out g cg w6 ho6 bx6 gf st6 lb6; have FN := hide fn; have B7 := hide bx7; clear ho6 hg6 ha6 hl6 bx6 gf st6 lb6 fn bx7)
      have v0 := B7.out.cell 0 _ rfl
      have v1 := B7.out.cell 1 _ rfl
      have y1 := B7.out.free 1
      clear x0 z0 B7 FINH GR
      generalize hw7 : w6.setCell ⟨f, 0, none⟩ (.slice (some ⟨g, 0, none⟩) (wh + rn) cg) = w7 at *
      clear hw7
      go_wp2
      go_ret
      exact ⟨by rw [E0.out, err_nil rfl]; rfl, FN.out⟩

theorem lg_Append {W : World} {f : Nat} {va : Option Addr} {vc : Nat} {L : M.Lg} (h : LA W f va vc L) {c : M.Ca} {a : Option Addr} {cap : Nat} (hi : CaIn W c a cap) :
    Calls Tryz.prog 23 #[.pointer (some ⟨f, 0, none⟩), caV c a cap] W fun e w' => e = .returned (errV (M.apF L c)) ∧ LeftL W f va (M.apL L c) w' := by
  by_cases q : M.rngF c = false ∨ 100 < c.name.length ∨ 6000 < c.bys.length
  · exact lg_Append_no h hi q
  · refine lg_Append_ok h hi ?_ (by omega) (by omega)
    cases e : M.rngF c with
    | true => rfl
    | false => exact absurd (.inl e) q
structure HL (W w : World) (f : Nat) (va : Option Addr) (L : M.Lg) : Prop where
  la : ∃ vc, LA w f va vc L
  bl : Below W.heap.size W w
  tn : ∀ q, LB f va q → W.heap.size ≤ q
/-- what stays of all else -/
def KeptL (w : World) (f : Nat) (va va' : Option Addr) (w' : World) : Prop := w.heap.size ≤ w'.heap.size ∧ ∀ q, q < w.heap.size → ¬ LB f va q → ¬ LB f va' q ∧ w'.heap[q]? = w.heap[q]?
theorem HL.ok {W w : World} {f : Nat} {va : Option Addr} {L : M.Lg} (h : HL W w f va L) : M.LgOk L := by
  obtain ⟨vc, h1⟩ := h.la
  exact h1.ok
theorem HL.lt {W w : World} {f : Nat} {va : Option Addr} {L : M.Lg} (h : HL W w f va L) {q : Nat} (hq : LB f va q) : q < w.heap.size := by
  obtain ⟨vc, h1⟩ := h.la
  exact h1.lt hq
theorem HL.up {W w w' : World} {f : Nat} {va : Option Addr} {L : M.Lg} (h : HL W w f va L) (hb : Below w.heap.size w w') : HL W w' f va L := by
  obtain ⟨vc, h1⟩ := h.la
  exact ⟨⟨vc, h1.below hb⟩, below_on h.bl hb, h.tn⟩
theorem HL.left {W w w' : World} {f : Nat} {va : Option Addr} {L L' : M.Lg} (h : HL W w f va L) (hl : LeftL w f va L' w') : ∃ va', HL W w' f va' L' ∧ KeptL w f va va' w' := by
  obtain ⟨va', vc', a, b, c⟩ := hl
  have z := h.bl.size
  refine ⟨va', ⟨⟨vc', a⟩, ⟨b.os.trans h.bl.os, b.tape.trans h.bl.tape, b.output.trans h.bl.output, Nat.le_trans z b.size, fun q hq => ?_⟩, fun q hq => ?_⟩, b.size, fun q hq ht => ⟨fun y => ?_, b.block q hq ht⟩⟩
  · rw [b.block q (by omega) (fun y => by have := h.tn q y; omega)]
    exact h.bl.block q hq
  · rcases c q hq with y | y
    · exact h.tn q y
    · omega
  · rcases c q y with x | x
    · exact ht x
    · omega
theorem HL.stay {W w w' : World} {f : Nat} {va : Option Addr} {vc : Nat} {L L' : M.Lg} (h : HL W w f va L) (h1 : LA w' f va vc L') (hs : StayBut (fun q => q = f) w w') : HL W w' f va L' ∧ KeptL w f va va w' := by
  obtain ⟨va', a, b⟩ := h.left (L' := L') ⟨va, vc, h1, hs.low, fun q hq => .inl hq⟩
  exact ⟨⟨⟨vc, h1⟩, a.bl, h.tn⟩, hs.size, fun q hq hk => ⟨hk, hs.low.block q hq hk⟩⟩
theorem HL.new {W w : World} (hb : Below W.heap.size W w) : Calls Tryz.prog 10 #[] w fun e w' => ∃ f, e = .returned (.pointer (some ⟨f, 0, none⟩)) ∧ HL W w' f none M.lg0 ∧ Below w.heap.size w w' ∧ f = w.heap.size := (lg_New w).mono (by
  rintro e w' ⟨f, rfl, h1, h2, h3⟩
  refine ⟨f, rfl, ⟨⟨0, h1⟩, below_on hb h2, fun q hq => ?_⟩, h2, h3⟩
  rcases hq with z | ⟨p, z, _⟩
  · rw [z, h3]; exact hb.size
  · cases z)
theorem HL.sync {W w : World} {f : Nat} {va : Option Addr} {L : M.Lg} (h : HL W w f va L) :
    Calls Tryz.prog 24 #[.pointer (some ⟨f, 0, none⟩)] w fun e w' => e = .returned (errV (M.syF L)) ∧ HL W w' f va (M.syL L) ∧ KeptL w f va va w' := by
  obtain ⟨vc, h1⟩ := h.la
  refine (lg_Sync h1).mono ?_
  rintro e w' ⟨rfl, a, b⟩
  exact ⟨rfl, h.stay a b⟩
theorem HL.append {W w : World} {f : Nat} {va : Option Addr} {L : M.Lg} (h : HL W w f va L) {c : M.Ca} {a : Option Addr} {cap : Nat} (hi : CaIn w c a cap) :
    Calls Tryz.prog 23 #[.pointer (some ⟨f, 0, none⟩), caV c a cap] w fun e w' => e = .returned (errV (M.apF L c)) ∧ ∃ va', HL W w' f va' (M.apL L c) ∧ KeptL w f va va' w' := by
  obtain ⟨vc, h1⟩ := h.la
  refine (lg_Append h1 hi).mono ?_
  rintro e w' ⟨rfl, a⟩
  exact ⟨rfl, h.left a⟩
end Go.Proofs.YtodidokeblblgaaGreat
