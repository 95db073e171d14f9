/-
  Several texts as one: LgC.
-/
import Derived.Test.YtodidokeblblgaaGreatDoorRunK14
import Derived.Test.YtodidokeblblgaaGreatDoorRunK2
import Derived.Deep.RegionHeld3
namespace Go.Proofs.YtodidokeblblgaaGreatDoor
open Go.ChangeShapes Go.WideShapes Go.ChangeAt Go.RowKit Go.Lib
set_option linter.unusedVariables false
theorem own_take {W : World} {B n m : Nat} {a : Option Addr} {c : Nat} {l : List Nat} (hm : l.length = m) (h : W.ownsRow B 5 1 (.slice a m c) m (byCells l)) (hn : n ≤ m) : W.ownsRow B 5 1 (.slice a n c) n (byCells (l.take n)) := by
  refine ⟨by rw [byCells_len, List.length_take]; omega, ?_⟩
  rcases h.2 with ⟨hv, h0⟩ | ⟨g, cap, cur, hv, hb, hg, h1, h2, h3, h4⟩
  · cases hv
    have : n = 0 := by omega
    subst this
    exact .inl ⟨rfl, rfl⟩
  · cases hv
    refine .inr ⟨g, c, cur, rfl, hb, hg, by omega, h2, h3, ?_⟩
    rw [Nat.mul_one] at h4 ⊢
    have e : byCells (l.take n) = (byCells l).take n := by unfold byCells; rw [List.map_take]
    rw [e, ← h4, List.take_take]
    congr 1
    omega

set_option maxHeartbeats 4000000 in
theorem lg_cut {W : World} {f : Nat} {va : Option Addr} {vc : Nat} {L : M.Lg} (h : LA W f va vc L) (n : Nat) (hn : n ≤ L.bytes.length) :
    Calls Tryz.prog 58 #[.pointer (some ⟨f, 0, none⟩), .int .i64 (n : Int)] W fun e w' => e = .returned (.tuple #[]) ∧ LA w' f va vc (M.cutG L n) ∧ StayBut (fun q => q = f) W w' := by
  have c0 := h.box.cell 0 _ rfl
  have c1 := h.box.cell 1 _ rfl
  have c2 := h.box.cell 2 _ rfl
  have z0 := h.box.free 0
  have z1 := h.box.free 1
  have z2 := h.box.free 2
  obtain ⟨tk, be⟩ := M.cutG_tail h.ok n
  have ok' := M.cutG_ok h.ok n hn
  have bl : (M.cutG L n).bytes.length = n := by rw [be, List.length_take]; omega
  obtain ⟨rd, rn, rl, rc⟩ := h.rd
  have b2 := (h.box.put (j := 0) (v := .slice va n vc)).put (j := 2) (v := .int .i64 (if n < L.safe then (n : Int) else (L.safe : Int)))
  have s2 : StayBut (fun q => q = f) W ((W.setCell ⟨f, 0, none⟩ (.slice va n vc)).setCell ⟨f, 2, none⟩ (.int .i64 (if n < L.safe then (n : Int) else (L.safe : Int)))) := StayBut.trans (K := fun q => q = f) (stay_set (K := fun q => q = f) rfl) (stay_set (K := fun q => q = f) rfl)
  have ow : W.ownsRow 0 5 1 (.slice va n vc) n (byCells (M.cutG L n).bytes) := by rw [be]; exact own_take rfl h.own hn
  have NE := hide h.ne
  have FIN : Hid (∀ w', Bx w' f (lgL va vc (M.cutG L n)) → (∀ q, q < W.heap.size → q ≠ f → w'.heap[q]? = W.heap[q]?) → LA w' f va vc (M.cutG L n)) := fun w' hb hk => ⟨ok', hb, by rw [bl]; exact own_stay ow (fun p hp => hk _ (own_spot ow p hp).2.1 (NE.out p hp)), NE.out⟩
  have EL : Hid (lgL va vc (M.cutG L n) = [.slice va n vc, .int .i64 ((M.cutG L n).whole : Int), .int .i64 (if n < L.safe then (n : Int) else (L.safe : Int)), .int .i64 L.ahead, .bool L.stop]) := by
    unfold Hid lgL
    rw [bl]
    have : ((M.cutG L n).safe : Int) = (if n < L.safe then (n : Int) else (L.safe : Int)) := by
      show ((min L.safe n : Nat) : Int) = _
      split <;> omega
    rw [this]
    rfl
  have y1 : (n : Int) ≤ (vc : Int) := by omega
  have y2 : n ≤ vc := by omega
  have f0 : f < W.heap.size := h.box.lt
  obtain ⟨W2, hW2⟩ : ∃ X, X = (W.setCell ⟨f, 0, none⟩ (.slice va n vc)).setCell ⟨f, 2, none⟩ (.int .i64 (if n < L.safe then (n : Int) else (L.safe : Int))) := ⟨_, rfl⟩
  rw [← hW2] at b2 s2
  have d1 := b2.cell 1 _ rfl
  have d0 := b2.cell 0 _ rfl
  have g1 := b2.free 1
  have B2 : Hid (Bx W2 f [.slice va n vc, .int .i64 (L.whole : Int), .int .i64 (if n < L.safe then (n : Int) else (L.safe : Int)), .int .i64 L.ahead, .bool L.stop]) := b2
  have S2 := hide s2
  have WH : Hid (∀ w : World, (∀ p, va = some p → w.heap[p.block]? = W.heap[p.block]?) → W.heap.size ≤ w.heap.size → Calls Tryz.prog 79 #[.slice va n vc] w fun e w' => e = .returned (.int .i64 ((M.cutG L n).whole : Int)) ∧ Below w.heap.size w w') := fun w hk hz => by
    have := lg_wholeOf va (M.cutG L n).calls (M.cutG L n).tail vc w ok'.ok ok'.tl (by
      show RdB w va (M.cutG L n).bytes
      rw [be]
      exact rdB_keep (rd.take n) (fun _ p hp => hk p hp) hz) (by show (M.cutG L n).bytes.length ≤ _; omega) rc rn
    rw [show (M.recs (M.cutG L n).calls ++ (M.cutG L n).tail).length = n from bl] at this
    exact this
  have MO := hide (fun (z : L.whole ≤ n) => M.cutG_more h.ok z)
  clear h be tk ok' ow rd rn rl rc b2 s2 bl hn
  generalize M.cutG L n = L1 at *
  generalize L.bytes.length = bn at *
  by_cases hw : n < L.whole
  · have t1 : decide ((n : Int) < (L.whole : Int)) = true := decide_eq_true (by omega)
    have t2 : decide (n < L.whole) = true := decide_eq_true hw
    have WW := hide (WH.out W2 (fun p hp => by rw [hW2, heap_setCell_other _ _ _ _ (NE.out p hp), heap_setCell_other _ _ _ _ (NE.out p hp)]) S2.out.size)
    clear hw MO WH
    generalize L.whole = wh at *
    generalize L.safe = sf at *
    go_enter Tryz.func58, Tryz.ntmps58
    go_upto_region 2 with fail
    rw [← hW2]
    clear hW2 c0 c1 c2 z0 z1 z2
    go_upto_region 3 with fail
    have FI := hide FIN.out
    have KE : Hid (∀ w3, Below W2.heap.size W2 w3 → w3.cell? ⟨f, 1, none⟩ = some (.int .i64 (wh : Int)) ∧ w3.frozen? ⟨f, 1, none⟩ = false ∧ LA (w3.setCell ⟨f, 1, none⟩ (.int .i64 (L1.whole : Int))) f va vc L1 ∧ StayBut (fun q => q = f) W (w3.setCell ⟨f, 1, none⟩ (.int .i64 (L1.whole : Int)))) := fun w3 hb => by
      have lt : f < W2.heap.size := B2.out.lt
      have b3 := B2.out.keep (hb.block f lt)
      refine ⟨b3.cell 1 _ rfl, b3.free 1, FI.out _ ?_ ?_, S2.out.trans ((stay_of hb (Nat.le_refl _)).trans (stay_set (K := fun q => q = f) rfl))⟩
      · rw [EL.out]; exact b3.put (j := 1) (v := .int .i64 (L1.whole : Int))
      · intro q hq hf
        rw [heap_setCell_other _ _ _ _ hf, hb.block q (Nat.lt_of_lt_of_le hq S2.out.size)]
        exact S2.out.block q hq hf
    clear FI FIN EL B2 S2
    go_wp2_with (go_at_call 79; refine WW.out.mono ?_; rintro e w3 ⟨rfl, hb3⟩; obtain ⟨e1, e2, e3, e4⟩ := KE.out w3 hb3; have E3 := hide e3; have E4 := hide e4; clear e3 e4 hb3)
    all_goals (
      go_end0
      exact ⟨rfl, E3.out, E4.out⟩)
  · have t1 : decide ((n : Int) < (L.whole : Int)) = false := decide_eq_false (by omega)
    have t2 : decide (n < L.whole) = false := decide_eq_false hw
    have DONE : Hid (LA W2 f va vc L1 ∧ StayBut (fun q => q = f) W W2) := by
      refine ⟨FIN.out W2 ?_ (fun q hq hf => S2.out.block q hq hf), S2.out⟩
      rw [EL.out, MO.out (by omega)]
      exact B2.out
    clear hw MO WH FIN EL B2 S2
    generalize L.whole = wh at *
    generalize L.safe = sf at *
    go_enter Tryz.func58, Tryz.ntmps58
    go_upto_region 2 with fail
    rw [← hW2]
    clear hW2 c0 c1 c2 z0 z1 z2
    go_wp2
    all_goals (
      go_end0
      exact ⟨rfl, DONE.out.1, DONE.out.2⟩)

theorem StayBut.low {f : Nat} {va : Option Addr} {W W' : World} (h : StayBut (fun q => q = f) W W') : StayBut (LB f va) W W' := h.mono (fun q _ e => .inl e)
set_option maxHeartbeats 4000000 in
theorem lg_Sync {W : World} {f : Nat} {va : Option Addr} {vc : Nat} {L : M.Lg} (h : LA W f va vc L) :
    Calls Tryz.prog 24 #[.pointer (some ⟨f, 0, none⟩)] W fun e w' => e = .returned (errV (M.syF L)) ∧ LA w' f va vc (M.syL L) ∧ StayBut (fun q => q = f) W w' := by
  have ST := hide (lg_step h)
  have ok' := hide (M.sy_ok h.ok)
  unfold M.syF
  cases hs : M.stpF L with
  | true =>
    rw [if_pos hs] at ST
    rw [if_pos rfl]
    have e : M.syL L = M.stpL L := by unfold M.syL; rw [if_pos hs]
    rw [e]
    rw [err_some (by decide)] at ST ⊢
    clear h ok' e hs
    go_enter Tryz.func24, Tryz.ntmps24
    go_wp2_with (go_at_call 59; refine ST.out.mono ?_; rintro e w1 ⟨rfl, h1, s1⟩; have H1 := hide h1; have S1 := hide s1; clear h1 s1)
    go_ret
    exact ⟨rfl, H1.out, S1.out⟩
  | false =>
    rw [if_neg (by rw [hs]; decide)] at ST
    rw [if_neg (by decide)]
    rw [err_nil rfl] at ST ⊢
    have e : M.syL L = ⟨L.calls, L.tail, L.bytes.length, (M.stpL L).ahead, false⟩ := by unfold M.syL; rw [if_neg (by rw [hs]; decide)]
    have PU : Hid (∀ w1, LA w1 f va vc (M.stpL L) → w1.cell? ⟨f, 0, none⟩ = some (.slice va L.bytes.length vc) ∧ (∃ u, w1.cell? ⟨f, 2, none⟩ = some u) ∧ w1.frozen? ⟨f, 2, none⟩ = false ∧ LA (w1.setCell ⟨f, 2, none⟩ (.int .i64 (L.bytes.length : Int))) f va vc (M.syL L) ∧ StayBut (fun q => q = f) w1 (w1.setCell ⟨f, 2, none⟩ (.int .i64 (L.bytes.length : Int)))) := fun w1 h1 => by
      have p := h1.put (L' := M.syL L) (j := 2) (v := .int .i64 (L.bytes.length : Int)) (by rw [e]; rfl) (by rw [e]; unfold lgL; show [_, _, _, _, _] = [_, _, _, _, _]; rw [show (M.stpL L).stop = false from hs]; rfl) ok'.out
      exact ⟨h1.box.cell 0 _ rfl, ⟨_, h1.box.cell 2 _ rfl⟩, h1.box.free 2, p⟩
    clear h ok' e hs
    generalize L.bytes.length = bn at *
    go_enter Tryz.func24, Tryz.ntmps24
    go_wp2_with (go_at_call 59; refine ST.out.mono ?_; rintro e w1 ⟨rfl, h1, s1⟩; obtain ⟨e0, ⟨u, e1⟩, e2, e3, e4⟩ := PU.out w1 h1; have E3 := hide e3; have E4 := hide (StayBut.trans s1 e4); clear h1 s1 e3 e4)
    go_ret
    exact ⟨rfl, E3.out, E4.out⟩

set_option maxHeartbeats 4000000 in
theorem lg_Crash {W : World} {f : Nat} {va : Option Addr} {vc : Nat} {L : M.Lg} (h : LA W f va vc L) (keep : Int) (hk : M.I64 keep) :
    Calls Tryz.prog 25 #[.pointer (some ⟨f, 0, none⟩), .int .i64 keep] W fun e w' => e = .returned (.tuple #[]) ∧ LA w' f va vc (M.crL L keep) ∧ StayBut (fun q => q = f) W w' := by
  have c0 := h.box.cell 0 _ rfl
  have c2 := h.box.cell 2 _ rfl
  have lb := h.ok.len
  have sf := h.ok.sf
  have cn := (M.crN_le h.ok keep).2
  have CT : Hid (∀ x : Int, x = (M.crN L keep : Int) → Calls Tryz.prog 58 #[.pointer (some ⟨f, 0, none⟩), .int .i64 x] W.drew fun e w' => e = .returned (.tuple #[]) ∧ LA w' f va vc (M.cutG L (M.crN L keep)) ∧ StayBut (fun q => q = f) W.drew w') := fun x hx => by
    rw [hx]
    exact lg_cut (h.below ((Below.refl _ _).drew)) _ cn
  have CN : M.crN L keep = L.safe + min keep.toNat (L.bytes.length - L.safe) := rfl
  have wr : IntKind.i64.wrap ((L.bytes.length : Int) - (L.safe : Int)) = (L.bytes.length : Int) - (L.safe : Int) := i64_in (by omega) (by omega)
  have PU : Hid (∀ w1, LA w1 f va vc (M.cutG L (M.crN L keep)) → StayBut (fun q => q = f) W.drew w1 → ∃ bl : Nat, w1.cell? ⟨f, 0, none⟩ = some (.slice va bl vc) ∧ w1.cell? ⟨f, 2, none⟩ = some (.int .i64 (L.safe : Int)) ∧ w1.frozen? ⟨f, 2, none⟩ = false ∧ (∃ u, w1.cell? ⟨f, 3, none⟩ = some u) ∧ w1.frozen? ⟨f, 3, none⟩ = false ∧ (∃ u, w1.cell? ⟨f, 4, none⟩ = some u) ∧ w1.frozen? ⟨f, 4, none⟩ = false ∧ LA (((w1.setCell ⟨f, 2, none⟩ (.int .i64 (bl : Int))).setCell ⟨f, 3, none⟩ (.int .i64 (-1))).setCell ⟨f, 4, none⟩ (.bool false)) f va vc (M.crL L keep) ∧ StayBut (fun q => q = f) W (((w1.setCell ⟨f, 2, none⟩ (.int .i64 (bl : Int))).setCell ⟨f, 3, none⟩ (.int .i64 (-1))).setCell ⟨f, 4, none⟩ (.bool false))) := fun w1 h1 s1 => by
    have o := M.cr_ok h.ok keep
    have c9 : w1.cell? ⟨f, 2, none⟩ = some (.int .i64 (L.safe : Int)) := by
      have := h1.box.cell 2 _ rfl
      rw [show (M.cutG L (M.crN L keep)).safe = L.safe from Nat.min_eq_left (M.crN_le h.ok keep).1] at this
      exact this
    generalize hC : M.cutG L (M.crN L keep) = C at h1
    have p1 := h1.put (L' := ⟨C.calls, C.tail, C.bytes.length, C.ahead, C.stop⟩) (j := 2) (v := .int .i64 (C.bytes.length : Int)) rfl rfl ⟨h1.ok.ok, h1.ok.tl, h1.ok.wh, Nat.le_refl _, h1.ok.ah⟩
    have p2 := p1.1.put (L' := ⟨C.calls, C.tail, C.bytes.length, -1, C.stop⟩) (j := 3) (v := .int .i64 (-1)) rfl rfl ⟨h1.ok.ok, h1.ok.tl, h1.ok.wh, Nat.le_refl _, ⟨(by decide : (-9223372036854775808 : Int) ≤ -1), (by decide : (-1 : Int) ≤ 9223372036854775807)⟩⟩
    have eC : M.crL L keep = ⟨C.calls, C.tail, C.bytes.length, -1, false⟩ := by unfold M.crL; rw [hC]
    have p3 := p2.1.put (L' := M.crL L keep) (j := 4) (v := .bool false) (by rw [eC]; rfl) (by rw [eC]; rfl) o
    have s0 : StayBut (fun q => q = f) W W.drew := stay_of ((Below.refl W.heap.size W).drew) (Nat.le_refl _)
    exact ⟨C.bytes.length, h1.box.cell 0 _ rfl, c9, h1.box.free 2, ⟨_, h1.box.cell 3 _ rfl⟩, h1.box.free 3, ⟨_, h1.box.cell 4 _ rfl⟩, h1.box.free 4, p3.1, s0.trans (s1.trans (p1.2.trans (p2.2.trans p3.2)))⟩
  have lb2 := lb.2
  clear h lb
  generalize M.cutG L (M.crN L keep) = C at *
  generalize M.crN L keep = cr at *
  generalize L.bytes.length = bn at *
  generalize L.safe = sn at *
  have WX : Hid (∀ x : Int, x = (cr : Int) → IntKind.i64.wrap x = (cr : Int)) := fun x hx => by rw [hx]; exact i64_in (by omega) (by omega)
  have CNH := hide CN
  have SH := hide (And.intro sf lb2)
  have kd : W.drew.cell? ⟨f, 2, none⟩ = some (.int .i64 (sn : Int)) := c2
  by_cases q : keep < 0
  · have qa : ¬ ((bn : Int) - (sn : Int) < 0) := by omega
    clear sf lb2 cn CN
    go_enter Tryz.func25, Tryz.ntmps25
    go_upto_region 0 with fail
    refine wp_region_held_drew (S := fun V => V.cell? ⟨f, 2, none⟩ = some (.int .i64 (sn : Int))) (by kernel_rfl) kd (fun hHeld => ?_)
    refine take_lg (i := 0) (d := some 4) (v := ?v1) rfl rfl (by kernel_rfl) (by kernel_rfl) (by kernel_rfl) (fun _ _ _ h => h) (Or.inl ⟨by rfl, ?h1⟩) (by assumption) ?r1
    case h1 => (intro V hSw; go_simp; (try with_reducible rfl))
    simp only [Act.put, List.setIfInBounds_toArray, List.set_cons_zero, List.set_cons_succ]
    refine take_lg (i := 1) (d := some 5) (v := ?v2) rfl rfl (by kernel_rfl) (by kernel_rfl) (by kernel_rfl) (fun _ _ _ h => h) (Or.inl ⟨by rfl, ?h2⟩) (by assumption) ?r2
    case h2 => (intro V hSw; go_simp; (try with_reducible rfl))
    simp only [Act.put, List.setIfInBounds_toArray, List.set_cons_zero, List.set_cons_succ]
    refine take_lg (i := 2) (d := some 6) (v := ?v3) rfl rfl (by kernel_rfl) (by kernel_rfl) (by kernel_rfl) (fun _ _ _ h => h) (Or.inl ⟨by rfl, ?h3⟩) (by assumption) ?r3
    case h3 => (intro V hSw; go_simp; (try with_reducible rfl))
    simp only [Act.put, List.setIfInBounds_toArray, List.set_cons_zero, List.set_cons_succ]
    refine take_lg (i := 3) (d := some 7) (v := ?v4) rfl rfl (by kernel_rfl) (by kernel_rfl) (by kernel_rfl) (fun _ _ _ h => h) (Or.inl ⟨by rfl, ?h4⟩) (by assumption) ?r4
    case h4 => (intro V hSw; go_simp; (try with_reducible rfl))
    simp only [Act.put, List.setIfInBounds_toArray, List.set_cons_zero, List.set_cons_succ]
    refine take_lg (i := 4) (d := some 8) (v := ?v5) rfl rfl (by kernel_rfl) (by kernel_rfl) (by kernel_rfl) (fun _ _ _ h => h) (Or.inl ⟨by rfl, ?h5⟩) (by assumption) ?r5
    case h5 => (intro V hSw; go_simp; (try with_reducible rfl))
    simp only [Act.put, List.setIfInBounds_toArray, List.set_cons_zero, List.set_cons_succ]
    refine take_lg (i := 5) (d := some 9) (v := ?v6) rfl rfl (by kernel_rfl) (by kernel_rfl) (by kernel_rfl) (fun _ _ _ h => h) (Or.inl ⟨by rfl, ?h6⟩) (by assumption) ?r6
    case h6 => (intro V hSw; go_simp; (try with_reducible rfl))
    simp only [Act.put, List.setIfInBounds_toArray, List.set_cons_zero, List.set_cons_succ]
    refine take_lg (i := 6) (d := some 10) (v := ?v7) rfl rfl (by kernel_rfl) (by kernel_rfl) (by kernel_rfl) (fun _ _ _ h => h) (Or.inl ⟨by rfl, ?h7⟩) (by assumption) ?r7
    case h7 => (intro V hSw; go_simp; (try with_reducible rfl))
    simp only [Act.put, List.setIfInBounds_toArray, List.set_cons_zero, List.set_cons_succ]
    refine take_lg (i := 7) (d := some 11) (v := ?v8) rfl rfl (by kernel_rfl) (by kernel_rfl) (by kernel_rfl) (fun _ _ _ h => h) (Or.inl ⟨by rfl, ?h8⟩) (by assumption) ?r8
    case h8 => (intro V hSw; go_simp; (try with_reducible rfl))
    simp only [Act.put, List.setIfInBounds_toArray, List.set_cons_zero, List.set_cons_succ]
    refine take_lg (i := 8) (d := some 12) (v := ?v9) rfl rfl (by kernel_rfl) (by kernel_rfl) (by kernel_rfl) (fun _ _ _ h => h) (Or.inl ⟨by rfl, ?h9⟩) (by assumption) ?r9
    case h9 => (intro V hSw; go_simp; (try with_reducible rfl))
    simp only [Act.put, List.setIfInBounds_toArray, List.set_cons_zero, List.set_cons_succ]
    refine take_lg (i := 9) (d := some 13) (v := ?v10) rfl rfl (by kernel_rfl) (by kernel_rfl) (by kernel_rfl) (fun _ _ _ h => h) (Or.inl ⟨by rfl, ?h10⟩) (by assumption) ?r10
    case h10 => (intro V hSw; go_simp; (try with_reducible rfl))
    simp only [Act.put, List.setIfInBounds_toArray, List.set_cons_zero, List.set_cons_succ]
    refine take_lg (i := 12) (d := some 16) (v := ?v11) rfl rfl (by kernel_rfl) (by kernel_rfl) (by kernel_rfl) (fun _ _ _ h => h) (Or.inl ⟨by rfl, ?h11⟩) (by assumption) ?r11
    case h11 => (intro V hSw; go_simp; (try with_reducible rfl))
    simp only [Act.put, List.setIfInBounds_toArray, List.set_cons_zero, List.set_cons_succ]
    refine take_lg (i := 13) (d := some 17) (v := ?v12) rfl rfl (by kernel_rfl) (by kernel_rfl) (by kernel_rfl) (fun _ _ _ h => h) (Or.inl ⟨by rfl, ?h12⟩) (by assumption) ?r12
    case h12 => (intro V hSw; go_simp; (try with_reducible rfl))
    simp only [Act.put, List.setIfInBounds_toArray, List.set_cons_zero, List.set_cons_succ]
    refine take_lg (i := 14) (d := some 18) (v := ?v13) rfl rfl (by kernel_rfl) (by kernel_rfl) (by kernel_rfl) (fun _ _ _ h => h) (Or.inl ⟨by rfl, ?h13⟩) (by assumption) ?r13
    case h13 => (intro V hSw; go_simp; (try with_reducible rfl))
    simp only [Act.put, List.setIfInBounds_toArray, List.set_cons_zero, List.set_cons_succ]
    refine take_lg (i := 15) (d := some 19) (v := ?v14) rfl rfl (by kernel_rfl) (by kernel_rfl) (by kernel_rfl) (fun _ _ _ h => h) (Or.inl ⟨by rfl, ?h14⟩) (by assumption) ?r14
    case h14 => (intro V hSw; go_simp; (try with_reducible rfl))
    simp only [Act.put, List.setIfInBounds_toArray, List.set_cons_zero, List.set_cons_succ]
    refine wpAnyH_ready (rs := [10]) (by kernel_rfl) (by simp) ?_
    refine AllReadyH.cons rfl (fun K hK => ?_) AllReadyH.nil
    go_simp
    refine hK.out _ _ (by assumption) (fun hHeld4 => ?_)
    clear hK K hHeld4
    try simp only [Act.put, List.setIfInBounds_toArray, List.set_cons_zero, List.set_cons_succ]
    refine take_lg (i := 11) (d := some 15) (v := ?v15) rfl rfl (by kernel_rfl) (by kernel_rfl) (by kernel_rfl) (fun _ _ _ h => h) (Or.inl ⟨by rfl, ?h15⟩) (by assumption) ?r15
    case h15 => (intro V hSw; go_simp; (try with_reducible rfl))
    simp only [Act.put, List.setIfInBounds_toArray, List.set_cons_zero, List.set_cons_succ]
    refine take_lg (i := 16) (d := some 20) (v := ?v16) rfl rfl (by kernel_rfl) (by kernel_rfl) (by kernel_rfl) (fun _ _ _ h => h) (Or.inl ⟨by rfl, ?h16⟩) (by assumption) ?r16
    case h16 => (intro V hSw; go_simp; (try with_reducible rfl))
    simp only [Act.put, List.setIfInBounds_toArray, List.set_cons_zero, List.set_cons_succ]
    refine take_lg (i := 17) (d := some 21) (v := ?v17) rfl rfl (by kernel_rfl) (by kernel_rfl) (by kernel_rfl) (fun _ _ _ h => h) (Or.inl ⟨by rfl, ?h17⟩) (by assumption) ?r17
    case h17 => (intro V hSw; go_simp; (try with_reducible rfl))
    simp only [Act.put, List.setIfInBounds_toArray, List.set_cons_zero, List.set_cons_succ]
    refine take_lg (i := 18) (d := some 22) (v := ?v18) rfl rfl (by kernel_rfl) (by kernel_rfl) (by kernel_rfl) (fun _ _ _ h => h) (Or.inl ⟨by rfl, ?h18⟩) (by assumption) ?r18
    case h18 => (intro V hSw; go_simp; (try with_reducible rfl))
    simp only [Act.put, List.setIfInBounds_toArray, List.set_cons_zero, List.set_cons_succ]
    refine wpAnyH_ready (rs := [19]) (by kernel_rfl) (by simp) ?_
    refine AllReadyH.cons rfl (fun K hK => ?_) AllReadyH.nil
    go_simp
    go_at_call 58
    refine (CT.out _ ?hx).mono ?_
    case hx => (have h1 := CNH.out; have h2 := SH.out; first | (refine WX.out _ ?_; omega) | omega)
    rintro e w1 ⟨rfl, h1, s1⟩
    obtain ⟨bl, e0, e2, z2, ⟨u3, e3⟩, z3, ⟨u4, e4⟩, z4, p1, p2⟩ := PU.out w1 h1 s1
    have P1 := hide p1
    have P2 := hide p2
    clear h1 s1 p1 p2
    try go_wp2_with fail
    refine hK.out _ _ (by assumption) (fun hHeld3 => ?_)
    clear hK K
    try simp only [Act.put, List.setIfInBounds_toArray, List.set_cons_zero, List.set_cons_succ]
    refine wpAnyH_done (by kernel_rfl) ?_ _
    go_wp2
    go_end0
    exact ⟨rfl, P1.out, P2.out⟩
  · by_cases q2 : (bn : Int) - (sn : Int) < keep
    · clear sf lb2 cn CN
      go_enter Tryz.func25, Tryz.ntmps25
      go_upto_region 0 with fail
      refine wp_region_held_drew (S := fun V => V.cell? ⟨f, 2, none⟩ = some (.int .i64 (sn : Int))) (by kernel_rfl) kd (fun hHeld => ?_)
      refine take_lg (i := 0) (d := some 4) (v := ?v19) rfl rfl (by kernel_rfl) (by kernel_rfl) (by kernel_rfl) (fun _ _ _ h => h) (Or.inl ⟨by rfl, ?h19⟩) (by assumption) ?r19
      case h19 => (intro V hSw; go_simp; (try with_reducible rfl))
      simp only [Act.put, List.setIfInBounds_toArray, List.set_cons_zero, List.set_cons_succ]
      refine take_lg (i := 1) (d := some 5) (v := ?v20) rfl rfl (by kernel_rfl) (by kernel_rfl) (by kernel_rfl) (fun _ _ _ h => h) (Or.inl ⟨by rfl, ?h20⟩) (by assumption) ?r20
      case h20 => (intro V hSw; go_simp; (try with_reducible rfl))
      simp only [Act.put, List.setIfInBounds_toArray, List.set_cons_zero, List.set_cons_succ]
      refine take_lg (i := 2) (d := some 6) (v := ?v21) rfl rfl (by kernel_rfl) (by kernel_rfl) (by kernel_rfl) (fun _ _ _ h => h) (Or.inl ⟨by rfl, ?h21⟩) (by assumption) ?r21
      case h21 => (intro V hSw; go_simp; (try with_reducible rfl))
      simp only [Act.put, List.setIfInBounds_toArray, List.set_cons_zero, List.set_cons_succ]
      refine take_lg (i := 3) (d := some 7) (v := ?v22) rfl rfl (by kernel_rfl) (by kernel_rfl) (by kernel_rfl) (fun _ _ _ h => h) (Or.inl ⟨by rfl, ?h22⟩) (by assumption) ?r22
      case h22 => (intro V hSw; go_simp; (try with_reducible rfl))
      simp only [Act.put, List.setIfInBounds_toArray, List.set_cons_zero, List.set_cons_succ]
      refine take_lg (i := 4) (d := some 8) (v := ?v23) rfl rfl (by kernel_rfl) (by kernel_rfl) (by kernel_rfl) (fun _ _ _ h => h) (Or.inl ⟨by rfl, ?h23⟩) (by assumption) ?r23
      case h23 => (intro V hSw; go_simp; (try with_reducible rfl))
      simp only [Act.put, List.setIfInBounds_toArray, List.set_cons_zero, List.set_cons_succ]
      refine take_lg (i := 5) (d := some 9) (v := ?v24) rfl rfl (by kernel_rfl) (by kernel_rfl) (by kernel_rfl) (fun _ _ _ h => h) (Or.inl ⟨by rfl, ?h24⟩) (by assumption) ?r24
      case h24 => (intro V hSw; go_simp; (try with_reducible rfl))
      simp only [Act.put, List.setIfInBounds_toArray, List.set_cons_zero, List.set_cons_succ]
      refine take_lg (i := 6) (d := some 10) (v := ?v25) rfl rfl (by kernel_rfl) (by kernel_rfl) (by kernel_rfl) (fun _ _ _ h => h) (Or.inl ⟨by rfl, ?h25⟩) (by assumption) ?r25
      case h25 => (intro V hSw; go_simp; (try with_reducible rfl))
      simp only [Act.put, List.setIfInBounds_toArray, List.set_cons_zero, List.set_cons_succ]
      refine take_lg (i := 7) (d := some 11) (v := ?v26) rfl rfl (by kernel_rfl) (by kernel_rfl) (by kernel_rfl) (fun _ _ _ h => h) (Or.inl ⟨by rfl, ?h26⟩) (by assumption) ?r26
      case h26 => (intro V hSw; go_simp; (try with_reducible rfl))
      simp only [Act.put, List.setIfInBounds_toArray, List.set_cons_zero, List.set_cons_succ]
      refine take_lg (i := 8) (d := some 12) (v := ?v27) rfl rfl (by kernel_rfl) (by kernel_rfl) (by kernel_rfl) (fun _ _ _ h => h) (Or.inl ⟨by rfl, ?h27⟩) (by assumption) ?r27
      case h27 => (intro V hSw; go_simp; (try with_reducible rfl))
      simp only [Act.put, List.setIfInBounds_toArray, List.set_cons_zero, List.set_cons_succ]
      refine take_lg (i := 9) (d := some 13) (v := ?v28) rfl rfl (by kernel_rfl) (by kernel_rfl) (by kernel_rfl) (fun _ _ _ h => h) (Or.inl ⟨by rfl, ?h28⟩) (by assumption) ?r28
      case h28 => (intro V hSw; go_simp; (try with_reducible rfl))
      simp only [Act.put, List.setIfInBounds_toArray, List.set_cons_zero, List.set_cons_succ]
      refine take_lg (i := 12) (d := some 16) (v := ?v29) rfl rfl (by kernel_rfl) (by kernel_rfl) (by kernel_rfl) (fun _ _ _ h => h) (Or.inl ⟨by rfl, ?h29⟩) (by assumption) ?r29
      case h29 => (intro V hSw; go_simp; (try with_reducible rfl))
      simp only [Act.put, List.setIfInBounds_toArray, List.set_cons_zero, List.set_cons_succ]
      refine take_lg (i := 13) (d := some 17) (v := ?v30) rfl rfl (by kernel_rfl) (by kernel_rfl) (by kernel_rfl) (fun _ _ _ h => h) (Or.inl ⟨by rfl, ?h30⟩) (by assumption) ?r30
      case h30 => (intro V hSw; go_simp; (try with_reducible rfl))
      simp only [Act.put, List.setIfInBounds_toArray, List.set_cons_zero, List.set_cons_succ]
      refine take_lg (i := 14) (d := some 18) (v := ?v31) rfl rfl (by kernel_rfl) (by kernel_rfl) (by kernel_rfl) (fun _ _ _ h => h) (Or.inl ⟨by rfl, ?h31⟩) (by assumption) ?r31
      case h31 => (intro V hSw; go_simp; (try with_reducible rfl))
      simp only [Act.put, List.setIfInBounds_toArray, List.set_cons_zero, List.set_cons_succ]
      refine take_lg (i := 15) (d := some 19) (v := ?v32) rfl rfl (by kernel_rfl) (by kernel_rfl) (by kernel_rfl) (fun _ _ _ h => h) (Or.inl ⟨by rfl, ?h32⟩) (by assumption) ?r32
      case h32 => (intro V hSw; go_simp; (try with_reducible rfl))
      simp only [Act.put, List.setIfInBounds_toArray, List.set_cons_zero, List.set_cons_succ]
      refine wpAnyH_ready (rs := [10]) (by kernel_rfl) (by simp) ?_
      refine AllReadyH.cons rfl (fun K hK => ?_) AllReadyH.nil
      go_simp
      refine hK.out _ _ (by assumption) (fun hHeld4 => ?_)
      clear hK K hHeld4
      try simp only [Act.put, List.setIfInBounds_toArray, List.set_cons_zero, List.set_cons_succ]
      refine take_lg (i := 11) (d := some 15) (v := ?v33) rfl rfl (by kernel_rfl) (by kernel_rfl) (by kernel_rfl) (fun _ _ _ h => h) (Or.inl ⟨by rfl, ?h33⟩) (by assumption) ?r33
      case h33 => (intro V hSw; go_simp; (try with_reducible rfl))
      simp only [Act.put, List.setIfInBounds_toArray, List.set_cons_zero, List.set_cons_succ]
      refine take_lg (i := 16) (d := some 20) (v := ?v34) rfl rfl (by kernel_rfl) (by kernel_rfl) (by kernel_rfl) (fun _ _ _ h => h) (Or.inl ⟨by rfl, ?h34⟩) (by assumption) ?r34
      case h34 => (intro V hSw; go_simp; (try with_reducible rfl))
      simp only [Act.put, List.setIfInBounds_toArray, List.set_cons_zero, List.set_cons_succ]
      refine take_lg (i := 17) (d := some 21) (v := ?v35) rfl rfl (by kernel_rfl) (by kernel_rfl) (by kernel_rfl) (fun _ _ _ h => h) (Or.inl ⟨by rfl, ?h35⟩) (by assumption) ?r35
      case h35 => (intro V hSw; go_simp; (try with_reducible rfl))
      simp only [Act.put, List.setIfInBounds_toArray, List.set_cons_zero, List.set_cons_succ]
      refine take_lg (i := 18) (d := some 22) (v := ?v36) rfl rfl (by kernel_rfl) (by kernel_rfl) (by kernel_rfl) (fun _ _ _ h => h) (Or.inl ⟨by rfl, ?h36⟩) (by assumption) ?r36
      case h36 => (intro V hSw; go_simp; (try with_reducible rfl))
      simp only [Act.put, List.setIfInBounds_toArray, List.set_cons_zero, List.set_cons_succ]
      refine wpAnyH_ready (rs := [19]) (by kernel_rfl) (by simp) ?_
      refine AllReadyH.cons rfl (fun K hK => ?_) AllReadyH.nil
      go_simp
      go_at_call 58
      refine (CT.out _ ?hx).mono ?_
      case hx => (have h1 := CNH.out; have h2 := SH.out; first | (refine WX.out _ ?_; omega) | omega)
      rintro e w1 ⟨rfl, h1, s1⟩
      obtain ⟨bl, e0, e2, z2, ⟨u3, e3⟩, z3, ⟨u4, e4⟩, z4, p1, p2⟩ := PU.out w1 h1 s1
      have P1 := hide p1
      have P2 := hide p2
      clear h1 s1 p1 p2
      try go_wp2_with fail
      refine hK.out _ _ (by assumption) (fun hHeld3 => ?_)
      clear hK K
      try simp only [Act.put, List.setIfInBounds_toArray, List.set_cons_zero, List.set_cons_succ]
      refine wpAnyH_done (by kernel_rfl) ?_ _
      go_wp2
      go_end0
      exact ⟨rfl, P1.out, P2.out⟩
    · clear sf lb2 cn CN
      go_enter Tryz.func25, Tryz.ntmps25
      go_upto_region 0 with fail
      refine wp_region_held_drew (S := fun V => V.cell? ⟨f, 2, none⟩ = some (.int .i64 (sn : Int))) (by kernel_rfl) kd (fun hHeld => ?_)
      refine take_lg (i := 0) (d := some 4) (v := ?v37) rfl rfl (by kernel_rfl) (by kernel_rfl) (by kernel_rfl) (fun _ _ _ h => h) (Or.inl ⟨by rfl, ?h37⟩) (by assumption) ?r37
      case h37 => (intro V hSw; go_simp; (try with_reducible rfl))
      simp only [Act.put, List.setIfInBounds_toArray, List.set_cons_zero, List.set_cons_succ]
      refine take_lg (i := 1) (d := some 5) (v := ?v38) rfl rfl (by kernel_rfl) (by kernel_rfl) (by kernel_rfl) (fun _ _ _ h => h) (Or.inl ⟨by rfl, ?h38⟩) (by assumption) ?r38
      case h38 => (intro V hSw; go_simp; (try with_reducible rfl))
      simp only [Act.put, List.setIfInBounds_toArray, List.set_cons_zero, List.set_cons_succ]
      refine take_lg (i := 2) (d := some 6) (v := ?v39) rfl rfl (by kernel_rfl) (by kernel_rfl) (by kernel_rfl) (fun _ _ _ h => h) (Or.inl ⟨by rfl, ?h39⟩) (by assumption) ?r39
      case h39 => (intro V hSw; go_simp; (try with_reducible rfl))
      simp only [Act.put, List.setIfInBounds_toArray, List.set_cons_zero, List.set_cons_succ]
      refine take_lg (i := 3) (d := some 7) (v := ?v40) rfl rfl (by kernel_rfl) (by kernel_rfl) (by kernel_rfl) (fun _ _ _ h => h) (Or.inl ⟨by rfl, ?h40⟩) (by assumption) ?r40
      case h40 => (intro V hSw; go_simp; (try with_reducible rfl))
      simp only [Act.put, List.setIfInBounds_toArray, List.set_cons_zero, List.set_cons_succ]
      refine take_lg (i := 4) (d := some 8) (v := ?v41) rfl rfl (by kernel_rfl) (by kernel_rfl) (by kernel_rfl) (fun _ _ _ h => h) (Or.inl ⟨by rfl, ?h41⟩) (by assumption) ?r41
      case h41 => (intro V hSw; go_simp; (try with_reducible rfl))
      simp only [Act.put, List.setIfInBounds_toArray, List.set_cons_zero, List.set_cons_succ]
      refine take_lg (i := 5) (d := some 9) (v := ?v42) rfl rfl (by kernel_rfl) (by kernel_rfl) (by kernel_rfl) (fun _ _ _ h => h) (Or.inl ⟨by rfl, ?h42⟩) (by assumption) ?r42
      case h42 => (intro V hSw; go_simp; (try with_reducible rfl))
      simp only [Act.put, List.setIfInBounds_toArray, List.set_cons_zero, List.set_cons_succ]
      refine take_lg (i := 6) (d := some 10) (v := ?v43) rfl rfl (by kernel_rfl) (by kernel_rfl) (by kernel_rfl) (fun _ _ _ h => h) (Or.inl ⟨by rfl, ?h43⟩) (by assumption) ?r43
      case h43 => (intro V hSw; go_simp; (try with_reducible rfl))
      simp only [Act.put, List.setIfInBounds_toArray, List.set_cons_zero, List.set_cons_succ]
      refine take_lg (i := 7) (d := some 11) (v := ?v44) rfl rfl (by kernel_rfl) (by kernel_rfl) (by kernel_rfl) (fun _ _ _ h => h) (Or.inl ⟨by rfl, ?h44⟩) (by assumption) ?r44
      case h44 => (intro V hSw; go_simp; (try with_reducible rfl))
      simp only [Act.put, List.setIfInBounds_toArray, List.set_cons_zero, List.set_cons_succ]
      refine take_lg (i := 8) (d := some 12) (v := ?v45) rfl rfl (by kernel_rfl) (by kernel_rfl) (by kernel_rfl) (fun _ _ _ h => h) (Or.inl ⟨by rfl, ?h45⟩) (by assumption) ?r45
      case h45 => (intro V hSw; go_simp; (try with_reducible rfl))
      simp only [Act.put, List.setIfInBounds_toArray, List.set_cons_zero, List.set_cons_succ]
      refine take_lg (i := 9) (d := some 13) (v := ?v46) rfl rfl (by kernel_rfl) (by kernel_rfl) (by kernel_rfl) (fun _ _ _ h => h) (Or.inl ⟨by rfl, ?h46⟩) (by assumption) ?r46
      case h46 => (intro V hSw; go_simp; (try with_reducible rfl))
      simp only [Act.put, List.setIfInBounds_toArray, List.set_cons_zero, List.set_cons_succ]
      refine take_lg (i := 12) (d := some 16) (v := ?v47) rfl rfl (by kernel_rfl) (by kernel_rfl) (by kernel_rfl) (fun _ _ _ h => h) (Or.inl ⟨by rfl, ?h47⟩) (by assumption) ?r47
      case h47 => (intro V hSw; go_simp; (try with_reducible rfl))
      simp only [Act.put, List.setIfInBounds_toArray, List.set_cons_zero, List.set_cons_succ]
      refine take_lg (i := 13) (d := some 17) (v := ?v48) rfl rfl (by kernel_rfl) (by kernel_rfl) (by kernel_rfl) (fun _ _ _ h => h) (Or.inl ⟨by rfl, ?h48⟩) (by assumption) ?r48
      case h48 => (intro V hSw; go_simp; (try with_reducible rfl))
      simp only [Act.put, List.setIfInBounds_toArray, List.set_cons_zero, List.set_cons_succ]
      refine take_lg (i := 14) (d := some 18) (v := ?v49) rfl rfl (by kernel_rfl) (by kernel_rfl) (by kernel_rfl) (fun _ _ _ h => h) (Or.inl ⟨by rfl, ?h49⟩) (by assumption) ?r49
      case h49 => (intro V hSw; go_simp; (try with_reducible rfl))
      simp only [Act.put, List.setIfInBounds_toArray, List.set_cons_zero, List.set_cons_succ]
      refine take_lg (i := 15) (d := some 19) (v := ?v50) rfl rfl (by kernel_rfl) (by kernel_rfl) (by kernel_rfl) (fun _ _ _ h => h) (Or.inl ⟨by rfl, ?h50⟩) (by assumption) ?r50
      case h50 => (intro V hSw; go_simp; (try with_reducible rfl))
      simp only [Act.put, List.setIfInBounds_toArray, List.set_cons_zero, List.set_cons_succ]
      refine wpAnyH_ready (rs := [10]) (by kernel_rfl) (by simp) ?_
      refine AllReadyH.cons rfl (fun K hK => ?_) AllReadyH.nil
      go_simp
      refine hK.out _ _ (by assumption) (fun hHeld4 => ?_)
      clear hK K hHeld4
      try simp only [Act.put, List.setIfInBounds_toArray, List.set_cons_zero, List.set_cons_succ]
      refine take_lg (i := 11) (d := some 15) (v := ?v51) rfl rfl (by kernel_rfl) (by kernel_rfl) (by kernel_rfl) (fun _ _ _ h => h) (Or.inl ⟨by rfl, ?h51⟩) (by assumption) ?r51
      case h51 => (intro V hSw; go_simp; (try with_reducible rfl))
      simp only [Act.put, List.setIfInBounds_toArray, List.set_cons_zero, List.set_cons_succ]
      refine take_lg (i := 16) (d := some 20) (v := ?v52) rfl rfl (by kernel_rfl) (by kernel_rfl) (by kernel_rfl) (fun _ _ _ h => h) (Or.inl ⟨by rfl, ?h52⟩) (by assumption) ?r52
      case h52 => (intro V hSw; go_simp; (try with_reducible rfl))
      simp only [Act.put, List.setIfInBounds_toArray, List.set_cons_zero, List.set_cons_succ]
      refine take_lg (i := 17) (d := some 21) (v := ?v53) rfl rfl (by kernel_rfl) (by kernel_rfl) (by kernel_rfl) (fun _ _ _ h => h) (Or.inl ⟨by rfl, ?h53⟩) (by assumption) ?r53
      case h53 => (intro V hSw; go_simp; (try with_reducible rfl))
      simp only [Act.put, List.setIfInBounds_toArray, List.set_cons_zero, List.set_cons_succ]
      refine take_lg (i := 18) (d := some 22) (v := ?v54) rfl rfl (by kernel_rfl) (by kernel_rfl) (by kernel_rfl) (fun _ _ _ h => h) (Or.inl ⟨by rfl, ?h54⟩) (by assumption) ?r54
      case h54 => (intro V hSw; go_simp; (try with_reducible rfl))
      simp only [Act.put, List.setIfInBounds_toArray, List.set_cons_zero, List.set_cons_succ]
      refine wpAnyH_ready (rs := [19]) (by kernel_rfl) (by simp) ?_
      refine AllReadyH.cons rfl (fun K hK => ?_) AllReadyH.nil
      go_simp
      go_at_call 58
      refine (CT.out _ ?hx).mono ?_
      case hx => (have h1 := CNH.out; have h2 := SH.out; first | (refine WX.out _ ?_; omega) | omega)
      rintro e w1 ⟨rfl, h1, s1⟩
      obtain ⟨bl, e0, e2, z2, ⟨u3, e3⟩, z3, ⟨u4, e4⟩, z4, p1, p2⟩ := PU.out w1 h1 s1
      have P1 := hide p1
      have P2 := hide p2
      clear h1 s1 p1 p2
      try go_wp2_with fail
      refine hK.out _ _ (by assumption) (fun hHeld3 => ?_)
      clear hK K
      try simp only [Act.put, List.setIfInBounds_toArray, List.set_cons_zero, List.set_cons_succ]
      refine wpAnyH_done (by kernel_rfl) ?_ _
      go_wp2
      go_end0
      exact ⟨rfl, P1.out, P2.out⟩
end Go.Proofs.YtodidokeblblgaaGreatDoor
