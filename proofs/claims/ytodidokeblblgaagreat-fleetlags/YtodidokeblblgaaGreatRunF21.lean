/-
  Several texts as one: LgC.
-/
import Derived.Test.YtodidokeblblgaaGreatRunF20
import Derived.Test.YtodidokeblblgaaGreatRunF2
import Derived.Deep.RegionHeld3
namespace Go.Proofs.YtodidokeblblgaaGreat
open Go.ChangeShapes Go.WideShapes Go.ChangeAt Go.RowKit Go.Lib
set_option linter.unusedVariables false
theorem own_take {W : World} {B n m : Nat} {a : Option Addr} {c : Nat} {l : List Nat} (hm : l.length = m) (h : W.ownsRow B 5 1 (.slice a m c) m (byCells l)) (hn : n ≤ m) : W.ownsRow B 5 1 (.slice a n c) n (byCells (l.take n)) := by
  refine ⟨by rw [byCells_len, List.length_take]; omega, ?_⟩
  rcases h.2 with ⟨hv, h0⟩ | ⟨g, cap, cur, hv, hb, hg, h1, h2, h3, h4⟩
  · cases hv
    have : n = 0 := by omega
    subst this
    exact .inl ⟨rfl, rfl⟩
  · cases hv
    refine .inr ⟨g, c, cur, rfl, hb, hg, by omega, h2, h3, ?_⟩
    rw [Nat.mul_one] at h4 ⊢
    have e : byCells (l.take n) = (byCells l).take n := by unfold byCells; rw [List.map_take]
    rw [e, ← h4, List.take_take]
    congr 1
    omega

set_option maxHeartbeats 4000000 in
theorem lg_cut {W : World} {f : Nat} {va : Option Addr} {vc : Nat} {L : M.Lg} (h : LA W f va vc L) (n : Nat) (hn : n ≤ L.bytes.length) :
    Calls Tryz.prog 37 #[.pointer (some ⟨f, 0, none⟩), .int .i64 (n : Int)] W fun e w' => e = .returned (.tuple #[]) ∧ LA w' f va vc (M.cutG L n) ∧ StayBut (fun q => q = f) W w' := by
  have c0 := h.box.cell 0 _ rfl
  have c1 := h.box.cell 1 _ rfl
  have c2 := h.box.cell 2 _ rfl
  have z0 := h.box.free 0
  have z1 := h.box.free 1
  have z2 := h.box.free 2
  obtain ⟨tk, be⟩ := M.cutG_tail h.ok n
  have ok' := M.cutG_ok h.ok n hn
  have bl : (M.cutG L n).bytes.length = n := by rw [be, List.length_take]; omega
  obtain ⟨rd, rn, rl, rc⟩ := h.rd
  have b2 := (h.box.put (j := 0) (v := .slice va n vc)).put (j := 2) (v := .int .i64 (if n < L.safe then (n : Int) else (L.safe : Int)))
  have s2 : StayBut (fun q => q = f) W ((W.setCell ⟨f, 0, none⟩ (.slice va n vc)).setCell ⟨f, 2, none⟩ (.int .i64 (if n < L.safe then (n : Int) else (L.safe : Int)))) := StayBut.trans (K := fun q => q = f) (stay_set (K := fun q => q = f) rfl) (stay_set (K := fun q => q = f) rfl)
  have ow : W.ownsRow 0 5 1 (.slice va n vc) n (byCells (M.cutG L n).bytes) := by rw [be]; exact own_take rfl h.own hn
  have NE := hide h.ne
  have FIN : Hid (∀ w', Bx w' f (lgL va vc (M.cutG L n)) → (∀ q, q < W.heap.size → q ≠ f → w'.heap[q]? = W.heap[q]?) → LA w' f va vc (M.cutG L n)) := fun w' hb hk => ⟨ok', hb, by rw [bl]; exact own_stay ow (fun p hp => hk _ (own_spot ow p hp).2.1 (NE.out p hp)), NE.out⟩
  have EL : Hid (lgL va vc (M.cutG L n) = [.slice va n vc, .int .i64 ((M.cutG L n).whole : Int), .int .i64 (if n < L.safe then (n : Int) else (L.safe : Int)), .int .i64 L.ahead, .bool L.stop]) := by
    unfold Hid lgL
    rw [bl]
    have : ((M.cutG L n).safe : Int) = (if n < L.safe then (n : Int) else (L.safe : Int)) := by
      show ((min L.safe n : Nat) : Int) = _
      split <;> omega
    rw [this]
    rfl
  have y1 : (n : Int) ≤ (vc : Int) := by omega
  have y2 : n ≤ vc := by omega
  have f0 : f < W.heap.size := h.box.lt
  obtain ⟨W2, hW2⟩ : ∃ X, X = (W.setCell ⟨f, 0, none⟩ (.slice va n vc)).setCell ⟨f, 2, none⟩ (.int .i64 (if n < L.safe then (n : Int) else (L.safe : Int))) := ⟨_, rfl⟩
  rw [← hW2] at b2 s2
  have d1 := b2.cell 1 _ rfl
  have d0 := b2.cell 0 _ rfl
  have g1 := b2.free 1
  have B2 : Hid (Bx W2 f [.slice va n vc, .int .i64 (L.whole : Int), .int .i64 (if n < L.safe then (n : Int) else (L.safe : Int)), .int .i64 L.ahead, .bool L.stop]) := b2
  have S2 := hide s2
  have WH : Hid (∀ w : World, (∀ p, va = some p → w.heap[p.block]? = W.heap[p.block]?) → W.heap.size ≤ w.heap.size → Calls Tryz.prog 57 #[.slice va n vc] w fun e w' => e = .returned (.int .i64 ((M.cutG L n).whole : Int)) ∧ Below w.heap.size w w') := fun w hk hz => by
    have := lg_wholeOf va (M.cutG L n).calls (M.cutG L n).tail vc w ok'.ok ok'.tl (by
      show RdB w va (M.cutG L n).bytes
      rw [be]
      exact rdB_keep (rd.take n) (fun _ p hp => hk p hp) hz) (by show (M.cutG L n).bytes.length ≤ _; omega) rc rn
    rw [show (M.recs (M.cutG L n).calls ++ (M.cutG L n).tail).length = n from bl] at this
    exact this
  have MO := hide (fun (z : L.whole ≤ n) => M.cutG_more h.ok z)
  clear h be tk ok' ow rd rn rl rc b2 s2 bl hn
  generalize M.cutG L n = L1 at *
  generalize L.bytes.length = bn at *
  by_cases hw : n < L.whole
  · have t1 : decide ((n : Int) < (L.whole : Int)) = true := decide_eq_true (by omega)
    have t2 : decide (n < L.whole) = true := decide_eq_true hw
    have WW := hide (WH.out W2 (fun p hp => by rw [hW2, heap_setCell_other _ _ _ _ (NE.out p hp), heap_setCell_other _ _ _ _ (NE.out p hp)]) S2.out.size)
    clear hw MO WH
    generalize L.whole = wh at *
    generalize L.safe = sf at *
    go_enter Tryz.func37, Tryz.ntmps37
    go_upto_region 2 with fail
    rw [← hW2]
    clear hW2 c0 c1 c2 z0 z1 z2
    go_upto_region 3 with fail
    have FI := hide FIN.out
    have KE : Hid (∀ w3, Below W2.heap.size W2 w3 → w3.cell? ⟨f, 1, none⟩ = some (.int .i64 (wh : Int)) ∧ w3.frozen? ⟨f, 1, none⟩ = false ∧ LA (w3.setCell ⟨f, 1, none⟩ (.int .i64 (L1.whole : Int))) f va vc L1 ∧ StayBut (fun q => q = f) W (w3.setCell ⟨f, 1, none⟩ (.int .i64 (L1.whole : Int)))) := fun w3 hb => by
      have lt : f < W2.heap.size := B2.out.lt
      have b3 := B2.out.keep (hb.block f lt)
      refine ⟨b3.cell 1 _ rfl, b3.free 1, FI.out _ ?_ ?_, S2.out.trans ((stay_of hb (Nat.le_refl _)).trans (stay_set (K := fun q => q = f) rfl))⟩
      · rw [EL.out]; exact b3.put (j := 1) (v := .int .i64 (L1.whole : Int))
      · intro q hq hf
        rw [heap_setCell_other _ _ _ _ hf, hb.block q (Nat.lt_of_lt_of_le hq S2.out.size)]
        exact S2.out.block q hq hf
    clear FI FIN EL B2 S2
    go_wp2_with (go_at_call 57; refine WW.out.mono ?_; rintro e w3 ⟨rfl, hb3⟩; obtain ⟨e1, e2, e3, e4⟩ := KE.out w3 hb3; have E3 := hide e3; have E4 := hide e4; clear e3 e4 hb3)
    all_goals (
      go_end0
      exact ⟨rfl, E3.out, E4.out⟩)
  · have t1 : decide ((n : Int) < (L.whole : Int)) = false := decide_eq_false (by omega)
    have t2 : decide (n < L.whole) = false := decide_eq_false hw
    have DONE : Hid (LA W2 f va vc L1 ∧ StayBut (fun q => q = f) W W2) := by
      refine ⟨FIN.out W2 ?_ (fun q hq hf => S2.out.block q hq hf), S2.out⟩
      rw [EL.out, MO.out (by omega)]
      exact B2.out
    clear hw MO WH FIN EL B2 S2
    generalize L.whole = wh at *
    generalize L.safe = sf at *
    go_enter Tryz.func37, Tryz.ntmps37
    go_upto_region 2 with fail
    rw [← hW2]
    clear hW2 c0 c1 c2 z0 z1 z2
    go_wp2
    all_goals (
      go_end0
      exact ⟨rfl, DONE.out.1, DONE.out.2⟩)

theorem StayBut.low {f : Nat} {va : Option Addr} {W W' : World} (h : StayBut (fun q => q = f) W W') : StayBut (LB f va) W W' := h.mono (fun q _ e => .inl e)
set_option maxHeartbeats 4000000 in
theorem lg_Sync {W : World} {f : Nat} {va : Option Addr} {vc : Nat} {L : M.Lg} (h : LA W f va vc L) :
    Calls Tryz.prog 24 #[.pointer (some ⟨f, 0, none⟩)] W fun e w' => e = .returned (errV (M.syF L)) ∧ LA w' f va vc (M.syL L) ∧ StayBut (fun q => q = f) W w' := by
  have ST := hide (lg_step h)
  have ok' := hide (M.sy_ok h.ok)
  unfold M.syF
  cases hs : M.stpF L with
  | true =>
    rw [if_pos hs] at ST
    rw [if_pos rfl]
    have e : M.syL L = M.stpL L := by unfold M.syL; rw [if_pos hs]
    rw [e]
    rw [err_some (by decide)] at ST ⊢
    clear h ok' e hs
    go_enter Tryz.func24, Tryz.ntmps24
    go_wp2_with (go_at_call 38; refine ST.out.mono ?_; rintro e w1 ⟨rfl, h1, s1⟩; have H1 := hide h1; have S1 := hide s1; clear h1 s1)
    go_ret
    exact ⟨rfl, H1.out, S1.out⟩
  | false =>
    rw [if_neg (by rw [hs]; decide)] at ST
    rw [if_neg (by decide)]
    rw [err_nil rfl] at ST ⊢
    have e : M.syL L = ⟨L.calls, L.tail, L.bytes.length, (M.stpL L).ahead, false⟩ := by unfold M.syL; rw [if_neg (by rw [hs]; decide)]
    have PU : Hid (∀ w1, LA w1 f va vc (M.stpL L) → w1.cell? ⟨f, 0, none⟩ = some (.slice va L.bytes.length vc) ∧ (∃ u, w1.cell? ⟨f, 2, none⟩ = some u) ∧ w1.frozen? ⟨f, 2, none⟩ = false ∧ LA (w1.setCell ⟨f, 2, none⟩ (.int .i64 (L.bytes.length : Int))) f va vc (M.syL L) ∧ StayBut (fun q => q = f) w1 (w1.setCell ⟨f, 2, none⟩ (.int .i64 (L.bytes.length : Int)))) := fun w1 h1 => by
      have p := h1.put (L' := M.syL L) (j := 2) (v := .int .i64 (L.bytes.length : Int)) (by rw [e]; rfl) (by rw [e]; unfold lgL; show [_, _, _, _, _] = [_, _, _, _, _]; rw [show (M.stpL L).stop = false from hs]; rfl) ok'.out
      exact ⟨h1.box.cell 0 _ rfl, ⟨_, h1.box.cell 2 _ rfl⟩, h1.box.free 2, p⟩
    clear h ok' e hs
    generalize L.bytes.length = bn at *
    go_enter Tryz.func24, Tryz.ntmps24
    go_wp2_with (go_at_call 38; refine ST.out.mono ?_; rintro e w1 ⟨rfl, h1, s1⟩; obtain ⟨e0, ⟨u, e1⟩, e2, e3, e4⟩ := PU.out w1 h1; have E3 := hide e3; have E4 := hide (StayBut.trans s1 e4); clear h1 s1 e3 e4)
    go_ret
    exact ⟨rfl, E3.out, E4.out⟩
end Go.Proofs.YtodidokeblblgaaGreat
