/-
  Several texts as one: GroPart, MathSg, SaAway.
-/
import Derived.Test.YtpblpfleiilehafRun14
import Derived.Test.YtpblpfleiilehafRun12
import Derived.Deep.AppendLies
import Derived.OwnWalk
import Derived.RegionTactic
import Derived.Deep.Cut
import Derived.Deep.CutRange
import Derived.BigQuiet
import Derived.Deep.QuietTactic
import Derived.Test.YtpblpfleiilehafRun6
import Derived.Test.YtpblpfleiilehafRun11
namespace Go.Proofs.Ytpblpfleiilehaf
open Go.ChangeShapes Go.WideShapes Go.ChangeAt Go.RowKit Go.Lib
set_option linter.unusedVariables false

/-- two rows of samples of our own that grow side by side -/
structure TwoS (w0 W : World) (x y : Value) (X Y : List Sx) : Prop where
  ox : W.ownsRow w0.heap.size 25 2 x X.length (saCells X)
  oy : W.ownsRow w0.heap.size 25 2 y Y.length (saCells Y)
  dj : x.ownBlock = none ∨ y.ownBlock = none ∨ x.ownBlock ≠ y.ownBlock
  b : Below w0.heap.size w0 W
theorem TwoS.begin (w0 : World) : TwoS w0 w0 (.slice none 0 0) (.slice none 0 0) [] [] := ⟨World.ownsRow_nil _ _ _ _, World.ownsRow_nil _ _ _ _, .inl rfl, Below.refl _ _⟩
theorem TwoS.up {w0 W W' : World} {x y : Value} {X Y : List Sx} (h : TwoS w0 W x y X Y) (hb : Below W.heap.size W W') : TwoS w0 W' x y X Y := ⟨own_up h.ox hb, own_up h.oy hb, h.dj, below_on h.b hb⟩
theorem TwoS.turn {w0 W : World} {x y : Value} {X Y : List Sx} (h : TwoS w0 W x y X Y) : TwoS w0 W y x Y X := ⟨h.oy, h.ox, by
    rcases h.dj with q | q | q
    · exact .inr (.inl q)
    · exact .inl q
    · exact .inr (.inr (fun e => q e.symm)), h.b⟩
theorem TwoS.first {w0 W w7 : World} {x y : Value} {X Y : List Sx} {o : Obj} {g c : Nat} {u : Sx} (h : TwoS w0 W x y X Y) (hg : (W.alloc o).grownBy w7 x.ownBlock) (ho : w7.ownsRow w0.heap.size 25 2 (.slice (some ⟨g, 0, none⟩) (X.length + 1) c) (X.length + 1) (saCells X ++ [sxV u, .int .i64 u.2.2.2])) (hat : x.ownBlock = some g ∨ g = W.heap.size + 1) :
    TwoS w0 w7 (.slice (some ⟨g, 0, none⟩) (X.length + 1) c) y (X ++ [u]) Y := by
  have hs := h.b.size
  have ne : y.ownBlock = none ∨ y.ownBlock ≠ x.ownBlock := by
    rcases h.dj with q | q | q
    · cases hy : y.ownBlock with
      | none => exact .inl rfl
      | some z => exact .inr (by rw [q]; simp)
    · exact .inl q
    · exact .inr (fun e => q e.symm)
  refine ⟨by rw [saCells_snoc, List.length_append]; exact ho, (h.oy.alloc _).kept hg ne, ?_, ?_⟩
  · rcases ne with q | q
    · exact .inr (.inl q)
    · refine .inr (.inr (fun e => ?_))
      have e' : some g = y.ownBlock := e
      rcases hat with p | p
      · exact q (by rw [p, e'])
      · have := (h.oy.lt g e'.symm).2; omega
  · exact (h.b.alloc (by omega) _).grown hg (by simp; omega) (fun k hk => (h.ox.lt k hk).1)

set_option maxHeartbeats 8000000 in
set_option maxRecDepth 10000 in
theorem part_any (a : Option Addr) (xs : List Sx) (ca m f : Nat) (c : Int) (w : World) (h : RdL w a xs) (A : Ask xs m) (hf : f < m) :
    Calls Try.prog 53 #[.agg #[.int .i64 (f : Nat), .int .i64 c], .slice a xs.length ca] w fun e w' => ∃ pa pac pb pbc, e = .returned (.tuple #[.slice pa (partX xs f c true).length pac, .slice pb (partX xs f c false).length pbc]) ∧ RdL w' pa (partX xs f c true) ∧ RdL w' pb (partX xs f c false) ∧ Below w.heap.size w w' ∧ (∀ p, pa = some p → w.heap.size ≤ p.block) ∧ (∀ p, pb = some p → w.heap.size ≤ p.block) := by
  have HL := hide h
  have AA := hide A
  have l60 := A.le
  obtain ⟨i0, hi, hz0, hz1, hz2⟩ := info_parts infoSam
  have I0 := hide hi
  have PM : Hid (∀ b k (hk : k < xs.length), partX (xs.take (k + 1)) f c b = if (decide (xs[k].2.1.getD f 0 < c) == b) = true then partX (xs.take k) f c b ++ [xs[k]] else partX (xs.take k) f c b) := fun b k hk => partX_more xs f c b hk
  have PL : Hid (∀ b k, (partX (xs.take k) f c b).length ≤ 60) := fun b k => Nat.le_trans (List.length_filter_le _ _) (by rw [List.length_take]; omega)
  have PA : Hid (∀ b, partX (xs.take xs.length) f c b = partX xs f c b) := fun b => by rw [List.take_length]
  have PR : Hid (∀ b W, Below w.heap.size w W → ∀ x ∈ partX xs f c b, Rd W x.1 x.2.1) := fun b W hW x hx => (h.2.1 x (partX_mem hx)).below hW
  obtain ⟨w1, hw1⟩ : ∃ W, W = w.alloc (.cells #[.int .i64 (f : Nat), .int .i64 c] 72) := ⟨_, rfl⟩
  have K1 : Hid (Below w.heap.size w w1) := by unfold Hid; rw [hw1]; exact (Below.refl _ w).alloc (Nat.le_refl _) _
  have B1 : Hid (∀ W, Below w1.heap.size w1 W → W.cell? ⟨w.heap.size, 0, none⟩ = some (.int .i64 (f : Nat)) ∧ W.cell? ⟨w.heap.size, 1, none⟩ = some (.int .i64 c)) := fun W hW => ⟨(new_kept hw1 hW).1 0 _ rfl, (new_kept hw1 hW).1 1 _ rfl⟩
  have W1 : Hid (w.heap.size ≤ w1.heap.size) := by unfold Hid; rw [hw1]; simp
  have HW := hide hw1
  clear h A hi hw1
  generalize hPT : partX xs f c true = PT at *
  generalize hPF : partX xs f c false = PF at *
  have PAT : Hid (partX (xs.take xs.length) f c true = PT) := by unfold Hid; rw [PA.out, hPT]
  have PAF : Hid (partX (xs.take xs.length) f c false = PF) := by unfold Hid; rw [PA.out, hPF]
  have PRT : Hid (∀ W, Below w.heap.size w W → ∀ x ∈ PT, Rd W x.1 x.2.1) := by have := PR.out true; rw [hPT] at this; exact this
  have PRF : Hid (∀ W, Below w.heap.size w W → ∀ x ∈ PF, Rd W x.1 x.2.1) := by have := PR.out false; rw [hPF] at this; exact this
  clear PA PR hPT hPF
  go_enter Try.func53, Try.ntmps53
  go_upto_region 1 with fail
  rw [← HW.out]
  go_wp2
  go_loopw [4, 5, 10] (fun v u i wr => ∃ k : Nat, k ≤ xs.length ∧ i = .int .i64 k ∧ Hid (TwoS w1 wr v u (partX (xs.take k) f c true) (partX (xs.take k) f c false))) (fun _ _ i _ => xs.length - (intOf i).toNat)
  case atStart => exact ⟨0, Nat.zero_le _, rfl, TwoS.begin w1⟩
  case round =>
    obtain ⟨k, hk, rfl, T⟩ := hrel
    have pl1 := PL.out true k
    have pl2 := PL.out false k
    by_cases hlt : k < xs.length
    · have K2 := hide (below_on K1.out T.out.b)
      obtain ⟨bl, ol, rfl, hbl, hcl⟩ := (HL.out.below K2.out).2.2 (by intro e; rw [e] at hlt; simp at hlt)
      obtain ⟨q0, q1⟩ := hcl k hlt
      have hr := AA.out.row xs[k] (List.getElem_mem hlt)
      have fr : f < xs[k].2.1.length := by omega
      obtain ⟨bx, ox, ex, hbx, hcx⟩ := ((HL.out.below K2.out).2.1 xs[k] (List.getElem_mem hlt)).2 (by intro e; rw [e] at fr; simp at fr)
      have hx := hcx f fr
      have pm1 := PM.out true k hlt
      have pm2 := PM.out false k hlt
      have SX : Hid (sxV xs[k] = .slice (some ⟨bx, ox, none⟩) xs[k].2.1.length xs[k].2.2.1) := by unfold Hid sxV; rw [ex]
      unfold sxV at q0
      rw [ex] at q0
      have kz : (k : Int) < (xs.length : Int) := by omega
      have fz : (f : Int) < (xs[k].2.1.length : Int) := by omega
      have f0 : (0 : Int) ≤ (f : Int) := by omega
      obtain ⟨va, vc, rfl⟩ := own_any T.out.ox
      obtain ⟨ua, uc, rfl⟩ := own_any T.out.oy
      have T2 : Hid (∀ o q, TwoS w1 ((wr.alloc o).drewN q) (.slice va (partX (xs.take k) f c true).length vc) (.slice ua (partX (xs.take k) f c false).length uc) (partX (xs.take k) f c true) (partX (xs.take k) f c false)) := fun o q => T.out.up (below_drew ((Below.refl _ wr).alloc (Nat.le_refl _) o) q (by simp))
      have UA : Hid (∀ o, Below wr.heap.size wr (wr.alloc o)) := fun o => (Below.refl _ wr).alloc (Nat.le_refl _) o
      have g0 : ∀ o, (wr.alloc o).cell? ⟨w.heap.size, 0, none⟩ = some (.int .i64 (f : Nat)) := fun o => (B1.out _ (below_on T.out.b (UA.out o))).1
      have g1 : ∀ o, (wr.alloc o).cell? ⟨w.heap.size, 1, none⟩ = some (.int .i64 c) := fun o => (B1.out _ (below_on T.out.b (UA.out o))).2
      have g2 : ∀ o, (wr.alloc o).cell? ⟨bx, ox + f, none⟩ = some (.int .i64 (xs[k].2.1.getD f 0)) := fun o => ((UA.out o).cell (p := ⟨bx, ox + f, none⟩) hbx).trans hx
      have RK := hide (show (some ⟨bx, ox, none⟩ : Option Addr) = xs[k].1 from ex.symm)
      obtain ⟨U, hU⟩ : ∃ U, U = xs[k] := ⟨_, rfl⟩
      rw [← hU] at q0 q1 fz pm1 pm2 SX
      simp only [← hU] at g2
      have sz1 := T.out.b.size
      have SZ := hide sz1
      clear hx UA hcl hcx PM hr fr ex PAT PAF PRT PRF PL HL AA B1 T RK hU sz1 HW
      generalize partX (xs.take k) f c true = P at *
      generalize partX (xs.take k) f c false = Q at *
      have sz := SZ.out
      obtain ⟨ra0, rr, rc, t⟩ := U
      dsimp only at q0 q1 g2 fz pm1 pm2 SX
      generalize hv : rr.getD f 0 = v at *
      generalize rr.length = rl at *
      go_upto_region 4 with fail
      go_quiet (fail)
      obtain ⟨w5, hw5⟩ : ∃ W, W = (wr.alloc (.cells #[.slice (some ⟨bx, ox, none⟩) rl rc, .int .i64 t] 25)).drewN nq := ⟨_, rfl⟩
      rw [← hw5]
      have N5 := hide (new_kept (w := wr) (W := w5) (cs := #[.slice (some ⟨bx, ox, none⟩) rl rc, .int .i64 t]) (t := 25) rfl (by rw [hw5]; exact below_drew (Below.refl _ _) nq (by simp)))
      have n0 := N5.out.1 0 _ rfl
      have n1 := N5.out.1 1 _ rfl
      have T5 : Hid (TwoS w1 w5 (.slice va P.length vc) (.slice ua Q.length uc) P Q) := by unfold Hid; rw [hw5]; exact T2.out _ _
      have sz5 := T5.out.b.size
      clear hw5 T2 N5 g0 g1 g2 q0 q1 sz hv
      cases hq : decide (v < c) with
      | true =>
        rw [hq, if_pos (by decide)] at pm1
        rw [hq, if_neg (by decide)] at pm2
        have PM1 := hide pm1
        have PM2 := hide pm2
        clear pm1 pm2
        go_wp2_with (at_builtin; refine wpList_append_lies _ rfl (.tmp 23) (.tmp 25) 22 rfl w1.heap.size 25 i0 (.agg #[.slice none 0 0, .int .i64 0]) 2 32 Try.underlying22 I0.out hz0 hz1 hz2 rfl (by omega) (.slice va P.length vc) P.length (saCells P) rfl (T5.out.ox.alloc _) ⟨w5.heap.size, 0, none⟩ 1 1 [.slice (some ⟨bx, ox, none⟩) rl rc, .int .i64 t] rfl rfl (World.news_of_block (heap_alloc_new _ _)) (by simp [Value.oneCell']) (by omega) (by unfold maxLen; omega) (by omega) (by simp; omega) (w5.heap.size + 1) (by simp) ?_)
        intro g cap w6 hov hgrow hat hlt6
        have T6 : Hid (TwoS w1 w6 (.slice (some ⟨g, 0, none⟩) (P.length + 1) cap) (.slice ua Q.length uc) (partX (xs.take (k + 1)) f c true) (partX (xs.take (k + 1)) f c false)) := by
          unfold Hid; rw [PM1.out, PM2.out]
          exact T5.out.first (u := (ra0, rr, rc, t)) hgrow (by rw [SX.out]; exact hov) hat
        clear hov hgrow hat
        go_wp2
        go_roundw
        case rel => exact ⟨k + 1, by omega, by go_num, T6⟩
        case measure => simp [intOf]; omega
      | false =>
        rw [hq, if_neg (by decide)] at pm1
        rw [hq, if_pos (by decide)] at pm2
        have PM1 := hide pm1
        have PM2 := hide pm2
        clear pm1 pm2
        go_wp2_with (at_builtin; refine wpList_append_lies _ rfl (.tmp 27) (.tmp 29) 22 rfl w1.heap.size 25 i0 (.agg #[.slice none 0 0, .int .i64 0]) 2 32 Try.underlying22 I0.out hz0 hz1 hz2 rfl (by omega) (.slice ua Q.length uc) Q.length (saCells Q) rfl (T5.out.oy.alloc _) ⟨w5.heap.size, 0, none⟩ 1 1 [.slice (some ⟨bx, ox, none⟩) rl rc, .int .i64 t] rfl rfl (World.news_of_block (heap_alloc_new _ _)) (by simp [Value.oneCell']) (by omega) (by unfold maxLen; omega) (by omega) (by simp; omega) (w5.heap.size + 1) (by simp) ?_)
        intro g cap w6 hov hgrow hat hlt6
        have T6 : Hid (TwoS w1 w6 (.slice va P.length vc) (.slice (some ⟨g, 0, none⟩) (Q.length + 1) cap) (partX (xs.take (k + 1)) f c true) (partX (xs.take (k + 1)) f c false)) := by
          unfold Hid; rw [PM1.out, PM2.out]
          exact (T5.out.turn.first (u := (ra0, rr, rc, t)) hgrow (by rw [SX.out]; exact hov) hat).turn
        clear hov hgrow hat
        go_wp2
        go_roundw
        case rel => exact ⟨k + 1, by omega, by go_num, T6⟩
        case measure => simp [intOf]; omega
    · have ke : k = xs.length := by omega
      have t := T.out
      rw [ke, PAT.out, PAF.out] at t
      rw [ke, PAT.out] at pl1
      rw [ke, PAF.out] at pl2
      have K2 := hide (below_on K1.out t.b)
      obtain ⟨ga, gc, ev, hr⟩ := own_rdL rfl (by unfold maxLen; omega) t.ox (PRT.out _ K2.out)
      obtain ⟨ha, hc, ev2, hr2⟩ := own_rdL rfl (by unfold maxLen; omega) t.oy (PRF.out _ K2.out)
      subst ev ev2
      have HR := hide hr
      have HR2 := hide hr2
      have L1 : Hid (∀ p, ga = some p → w.heap.size ≤ p.block) := fun p hp => by subst hp; exact Nat.le_trans W1.out (t.ox.lt p.block rfl).1
      have L2 : Hid (∀ p, ha = some p → w.heap.size ≤ p.block) := fun p hp => by subst hp; exact Nat.le_trans W1.out (t.oy.lt p.block rfl).1
      clear ke t T PM PL PAT PAF PRT PRF HL AA hr hr2 pl1 pl2 B1 HW
      go_wp2
      go_ret2
      exact ⟨ga, gc, ha, hc, rfl, HR.out, HR2.out, K2.out, L1.out, L2.out⟩

end Go.Proofs.Ytpblpfleiilehaf

namespace Go.Proofs.Ytpblpfleiilehaf.M
set_option linter.unusedVariables false

/-- the numbers of a feature -/
def colL (l : List Sa) (f : Nat) : List Int := l.map fun s => colA s f
theorem colL_len (l : List Sa) (f : Nat) : (colL l f).length = l.length := by simp [colL]
/-- rising, each once -/
def risL (l : List Sa) (f : Nat) : List Int := Lib.compact (sortI (colL l f))
/-- but the least -/
def cutP (l : List Sa) (f : Nat) : List Int := (risL l f).drop 1
theorem ris_pw (l : List Sa) (f : Nat) : (risL l f).Pairwise (fun a b => a < b) := uniq_pw _ (sort_pw _)
theorem ris_mem (l : List Sa) (f : Nat) (x : Int) : x ∈ risL l f ↔ x ∈ colL l f := by
  unfold risL
  rw [uniq_mem _ (sort_pw _)]
  exact (sort_perm _).mem_iff
theorem cutP_pw (l : List Sa) (f : Nat) : (cutP l f).Pairwise (fun a b => a < b) := (ris_pw l f).sublist (List.drop_sublist _ _)
theorem col_at (l : List Sa) (f : Nat) (x : Int) : x ∈ colL l f ↔ ∃ i, i < l.length ∧ colA (sAt l i) f = x := by
  unfold colL
  rw [List.mem_map]
  constructor
  · rintro ⟨s, hs, rfl⟩
    obtain ⟨i, hi, e⟩ := List.getElem_of_mem hs
    exact ⟨i, hi, by unfold sAt; rw [getD_at hi, e]⟩
  · rintro ⟨i, hi, rfl⟩
    exact ⟨l[i], List.getElem_mem hi, by unfold sAt; rw [getD_at hi]⟩
theorem cutP_mem {l : List Sa} {f : Nat} {x : Int} (h : x ∈ cutP l f) : ∃ i, i < l.length ∧ colA (sAt l i) f = x :=
  (col_at l f x).1 ((ris_mem l f x).1 (List.mem_of_mem_drop h))
/-- nothing is below the least -/
theorem part_least {l : List Sa} {f : Nat} {c : Int} (h : ∀ x ∈ colL l f, c ≤ x) : partS l f c true = [] := by
  unfold partS
  rw [List.filter_eq_nil_iff]
  intro s hs q
  have := h (colA s f) (List.mem_map.2 ⟨s, hs, rfl⟩)
  unfold sideB at q
  rw [show decide (colA s f < c) = false from decide_eq_false (by omega)] at q
  cases q
theorem cut_more {l : List Sa} {least : Int} {f : Nat} {c : Int} (hi : ∃ i, i < l.length ∧ colA (sAt l i) f = c) (ok : okC l least f c = true) : c ∈ cutP l f := by
  have hm : c ∈ risL l f := (ris_mem l f c).2 ((col_at l f c).2 hi)
  have pw := ris_pw l f
  unfold cutP
  rcases hr : risL l f with _ | ⟨v, t⟩
  · rw [hr] at hm; cases hm
  · rw [hr] at hm pw
    rcases List.mem_cons.1 hm with e | e
    · exfalso
      subst e
      have z : partS l f c true = [] := part_least fun x hx => by
        have h2 : x ∈ risL l f := (ris_mem l f x).2 hx
        rw [hr] at h2
        rcases List.mem_cons.1 h2 with e | e
        · omega
        · have := (List.pairwise_cons.1 pw).1 x e; omega
      unfold okC nB at ok
      rw [z] at ok
      simp at ok
    · exact e

/-! ### one by one -/
def bqN (l : List Sa) (least : Int) (st : SpS) (f : Nat) (c : Int) : SpS := if nB l f c true < least ∨ nB l f c false < least then st else if st.1 * spD l f c < spU l f c * st.2.1 then (spU l f c, spD l f c, f, c, true) else st
def bqI (l : List Sa) (least : Int) (f : Nat) (st : SpS) : List Int → SpS
  | [] => st
  | c :: cs => bqI l least f (bqN l least st f c) cs
def bqA (l : List Sa) (least : Int) : Nat → SpS
  | 0 => sp0 l
  | f + 1 => bqI l least f (bqA l least f) (cutP l f)
theorem bqI_snoc (l : List Sa) (least : Int) (f : Nat) (c : Int) : ∀ (cs : List Int) (st : SpS), bqI l least f st (cs ++ [c]) = bqN l least (bqI l least f st cs) f c
  | [], st => rfl
  | d :: cs, st => bqI_snoc l least f c cs _
theorem bqI_take (l : List Sa) (least : Int) (f : Nat) (st : SpS) (cs : List Int) {k : Nat} (hk : k < cs.length) : bqI l least f st (cs.take (k + 1)) = bqN l least (bqI l least f st (cs.take k)) f (cs.getD k 0) := by
  rw [List.take_succ_eq_append_getElem hk, bqI_snoc, getD_at hk]
theorem bqN_sp {l : List Sa} {least : Int} {st : SpS} {f : Nat} {c : Int} (h1 : 1 ≤ least) (h : st.2.2.2.2 = true → st.2.2.1 = f → st.2.2.2.1 < c) : bqN l least st f c = spN l least st f c := by
  unfold bqN spN
  have e1 : okC l least f c = !decide (nB l f c true < least ∨ nB l f c false < least) := by
    unfold okC
    by_cases a : nB l f c true < least
    · rw [decide_eq_true a, decide_eq_true (Or.inl a)]; rfl
    · have z : ¬ nB l f c true = 0 := by omega
      rw [decide_eq_false a, decide_eq_false z]
      by_cases b : nB l f c false < least
      · rw [decide_eq_true b, decide_eq_true (Or.inr b)]; rfl
      · rw [decide_eq_false b, decide_eq_false (by omega)]; rfl
  have e2 : spGt l st f c = decide (st.1 * spD l f c < spU l f c * st.2.1) := by
    unfold spGt
    cases q : st.2.2.2.2 with
    | false => simp
    | true =>
      by_cases ef : f = st.2.2.1
      · have := h q ef.symm
        rw [show decide (c < st.2.2.2.1) = false from decide_eq_false (by omega)]
        simp
      · rw [decide_eq_false ef]; simp
  rw [e1, e2]
  by_cases a : nB l f c true < least ∨ nB l f c false < least
  · rw [if_pos a, decide_eq_true a]; rfl
  · rw [if_neg a, decide_eq_false a]
    show _ = if true = true then _ else _
    rw [if_pos rfl]
    by_cases b : st.1 * spD l f c < spU l f c * st.2.1
    · rw [if_pos b, if_pos (decide_eq_true b)]
    · rw [if_neg b, if_neg (by rw [decide_eq_false b]; decide)]
theorem bqI_inv {l : List Sa} {least : Int} {F : Nat} (h1 : 1 ≤ least) (hl : 0 < l.length) : ∀ (cs : List Int) {P : Nat → Int → Prop} {st : SpS}, cs.Pairwise (fun a b => a < b) → (∀ c ∈ cs, st.2.2.2.2 = true → st.2.2.1 = F → st.2.2.2.1 < c) → SpInv l least F P st → SpInv l least F (fun f d => P f d ∨ (f = F ∧ d ∈ cs)) (bqI l least F st cs)
  | [], P, st, _, _, h => h.same fun f c => ⟨.inl, fun q => q.elim id (fun q => by cases q.2)⟩
  | c :: cs, P, st, pw, lo, h => by
    obtain ⟨p1, p2⟩ := List.pairwise_cons.1 pw
    have e := bqN_sp (l := l) (f := F) h1 (lo c (List.mem_cons_self ..))
    have m := h.more h1 hl c
    rw [← e] at m
    have lo' : ∀ d ∈ cs, (bqN l least st F c).2.2.2.2 = true → (bqN l least st F c).2.2.1 = F → (bqN l least st F c).2.2.2.1 < d := by
      intro d hd
      unfold bqN
      split
      · exact lo d (List.mem_cons_of_mem _ hd)
      · split
        · intro _ _; exact p1 d hd
        · exact lo d (List.mem_cons_of_mem _ hd)
    exact (bqI_inv h1 hl cs p2 lo' m).same fun f d => by
      rw [List.mem_cons]
      constructor
      · rintro ((q | ⟨rfl, rfl⟩) | ⟨rfl, q⟩)
        · exact .inl q
        · exact .inr ⟨rfl, .inl rfl⟩
        · exact .inr ⟨rfl, .inr q⟩
      · rintro (q | ⟨rfl, rfl | q⟩)
        · exact .inl (.inl q)
        · exact .inl (.inr ⟨rfl, rfl⟩)
        · exact .inr ⟨rfl, q⟩
theorem bqA_inv {l : List Sa} {least : Int} (h1 : 1 ≤ least) (hl : 0 < l.length) : ∀ m, SpInv l least m (fun f d => f < m ∧ d ∈ cutP l f) (bqA l least m)
  | 0 => ⟨fun _ => ⟨rfl, fun f c hp => by omega⟩, fun q => (by cases q), fun f c hp => by omega⟩
  | m + 1 => by
    have I := bqA_inv (l := l) h1 hl m
    have := bqI_inv (F := m) h1 hl (cutP l m) (cutP_pw l m) (fun c _ q e => by have := (I.yes q).1.1; omega) I
    exact (this.wide (Nat.le_succ m)).same fun f c => by
      constructor
      · rintro (⟨h, q⟩ | ⟨rfl, q⟩)
        · exact ⟨by omega, q⟩
        · exact ⟨by omega, q⟩
      · rintro ⟨h, q⟩
        by_cases e : f = m
        · subst e; exact .inr ⟨rfl, q⟩
        · exact .inl ⟨by omega, q⟩
/-- it is the one that the document tells -/
theorem bq_is {l : List Sa} {least : Int} (h1 : 1 ≤ least) (hl : 0 < l.length) (m : Nat) : (bqA l least m).2.2 = (spV l m least).2.2 := by
  have I := bqA_inv h1 hl m
  have cand : ∀ f c, Cand l m least f c → f < m ∧ c ∈ cutP l f := fun f c h => ⟨h.1, cut_more h.2.1 h.2.2⟩
  cases q : (bqA l least m).2.2.2.2 with
  | false =>
    obtain ⟨e, n⟩ := I.no q
    obtain ⟨s1, s2⟩ := split_spec (l := l) (m := m) h1 hl
    cases z : (spV l m least).2.2.2.2 with
    | true =>
      obtain ⟨t1, t2, _⟩ := s2 z
      exact absurd t2 (n _ _ (cand _ _ t1) t1.2.2)
    | false =>
      obtain ⟨a, b, _⟩ := s1 z
      rw [e]
      refine Prod.ext a.symm (Prod.ext b.symm z.symm)
  | true =>
    obtain ⟨y1, y2, y3, y4, y5, y6⟩ := I.yes q
    obtain ⟨a, b, c⟩ := split_only h1 hl (m := m) ⟨y1.1, cutP_mem y1.2, y2⟩ y5 (fun g d hc => y6 g d (cand g d hc) hc.2.2)
    refine Prod.ext b.symm (Prod.ext c.symm ?_)
    show (bqA l least m).2.2.2.2 = _
    rw [q, a]

/-! ### bounds -/
theorem bq_in {l : List Sa} {least : Int} (P : SpS → Prop) (h0 : P (sp0 l)) (hn : ∀ f c, least ≤ nB l f c true → least ≤ nB l f c false → ∀ b, P (spU l f c, spD l f c, f, c, b)) : ∀ (st : SpS) (f : Nat) (c : Int), P st → P (bqN l least st f c) := by
  intro st f c h
  unfold bqN
  split
  · exact h
  · split
    · exact hn f c (by omega) (by omega) true
    · exact h
theorem bqI_in {l : List Sa} {least : Int} (P : SpS → Prop) (h : ∀ st f c, P st → P (bqN l least st f c)) (f : Nat) : ∀ (cs : List Int) (st : SpS), P st → P (bqI l least f st cs)
  | [], _, q => q
  | _ :: cs, _, q => bqI_in P h f cs _ (h _ _ _ q)
theorem bqA_in {l : List Sa} {least : Int} (P : SpS → Prop) (h0 : P (sp0 l)) (h : ∀ st f c, P st → P (bqN l least st f c)) : ∀ m, P (bqA l least m)
  | 0 => h0
  | m + 1 => bqI_in P h m _ _ (bqA_in P h0 h m)

end Go.Proofs.Ytpblpfleiilehaf.M

namespace Go.Proofs.Ytpblpfleiilehaf
open Go.ChangeShapes Go.WideShapes Go.ChangeAt Go.RowKit Go.Lib
set_option linter.unusedVariables false

/-- samples lie apart from a block -/
def Away (o : Option Nat) (a : Option Addr) (xs : List Sx) : Prop := (∀ p, a = some p → o ≠ some p.block) ∧ ∀ x ∈ xs, ∀ p, x.1 = some p → o ≠ some p.block
theorem Rd.grown {w w' : World} {o : Option Nat} {a : Option Addr} {xs : List Int} (h : Rd w a xs) (ha : ∀ p, a = some p → o ≠ some p.block) (hg : w.grownBy w' o) : Rd w' a xs :=
  ⟨h.1, fun hn => by
    obtain ⟨b, off, rfl, hb, hc⟩ := h.2 hn
    exact ⟨b, off, rfl, Nat.lt_of_lt_of_le hb hg.size, fun i hi => hg.cell (hc i hi) (fun e => ha _ rfl e.symm)⟩⟩
theorem RdL.grown {w w' : World} {o : Option Nat} {a : Option Addr} {xs : List Sx} (h : RdL w a xs) (ha : Away o a xs) (hg : w.grownBy w' o) : RdL w' a xs :=
  ⟨h.1, fun x hx => (h.2.1 x hx).grown (ha.2 x hx) hg, fun hn => by
    obtain ⟨b, off, rfl, hb, hc⟩ := h.2.2 hn
    exact ⟨b, off, rfl, Nat.lt_of_lt_of_le hb hg.size, fun i hi => ⟨hg.cell (hc i hi).1 (fun e => ha.1 _ rfl e.symm), hg.cell (hc i hi).2 (fun e => ha.1 _ rfl e.symm)⟩⟩⟩
theorem partX_len (xs : List Sx) (f : Nat) (c : Int) (b : Bool) : ((partX xs f c b).length : Int) = M.nB (sms xs) f c b := by
  unfold M.nB; rw [← partX_sms, sms_len]

theorem away_new {w : World} {a : Option Addr} {xs : List Sx} {m : Nat} (h : RdL w a xs) (A : Ask xs m) (hm : 0 < m) (hp : 0 < xs.length) {g : Nat} (hg : w.heap.size ≤ g) : Away (some g) a xs := by
  refine ⟨fun p hp' => ?_, fun x hx p hp' => ?_⟩
  · obtain ⟨b, off, rfl, hb, _⟩ := h.2.2 (by intro e; rw [e] at hp; simp at hp)
    cases hp'
    intro e
    have e' : g = b := Option.some.inj e
    omega
  · have hl := A.row x hx
    obtain ⟨b, off, e0, hb, _⟩ := (h.2.1 x hx).2 (by intro e; rw [e] at hl; simp at hl; omega)
    rw [e0] at hp'
    cases hp'
    intro e
    have e' : g = b := Option.some.inj e
    omega
theorem away_part {w : World} {o : Option Nat} {a ag : Option Addr} {xs : List Sx} {f : Nat} {c : Int} {b : Bool} (h : Away o a xs) (ho : ∀ q, o = some q → q < w.heap.size) (hf : ∀ p, ag = some p → w.heap.size ≤ p.block) : Away o ag (partX xs f c b) := by
  refine ⟨fun p hp e => ?_, fun x hx p hp => h.2 x (partX_mem hx) p hp⟩
  have h1 := hf p hp
  have h2 := ho p.block e
  omega

end Go.Proofs.Ytpblpfleiilehaf
