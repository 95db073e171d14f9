/-
  What grow's question part answers of samples that are right: those below the cut, and the others, each in their order.
-/
import Derived.Test.YthbeoaninipadafSaPart
import Derived.Test.YthbeoaninipadafSaCells
import Derived.Test.YthbeoaninipadafGroLeafJ
import Derived.Deep.AppendLies
import Derived.OwnWalk
import Derived.RegionTactic
import Derived.Deep.Cut
import Derived.Deep.CutRange
import Derived.BigQuiet
import Derived.Deep.QuietTactic
namespace Go.Proofs.Ythbeoaninipadaf
open Go.ChangeShapes Go.WideShapes Go.ChangeAt Go.RowKit Go.Lib
set_option linter.unusedVariables false

/-- two rows of samples of our own that grow side by side -/
structure TwoS (w0 W : World) (x y : Value) (X Y : List Sx) : Prop where
  ox : W.ownsRow w0.heap.size 25 2 x X.length (saCells X)
  oy : W.ownsRow w0.heap.size 25 2 y Y.length (saCells Y)
  dj : x.ownBlock = none ∨ y.ownBlock = none ∨ x.ownBlock ≠ y.ownBlock
  b : Below w0.heap.size w0 W
theorem TwoS.begin (w0 : World) : TwoS w0 w0 (.slice none 0 0) (.slice none 0 0) [] [] := ⟨World.ownsRow_nil _ _ _ _, World.ownsRow_nil _ _ _ _, .inl rfl, Below.refl _ _⟩
theorem TwoS.up {w0 W W' : World} {x y : Value} {X Y : List Sx} (h : TwoS w0 W x y X Y) (hb : Below W.heap.size W W') : TwoS w0 W' x y X Y := ⟨own_up h.ox hb, own_up h.oy hb, h.dj, below_on h.b hb⟩
theorem TwoS.turn {w0 W : World} {x y : Value} {X Y : List Sx} (h : TwoS w0 W x y X Y) : TwoS w0 W y x Y X := ⟨h.oy, h.ox, by
    rcases h.dj with q | q | q
    · exact .inr (.inl q)
    · exact .inl q
    · exact .inr (.inr (fun e => q e.symm)), h.b⟩
theorem TwoS.first {w0 W w7 : World} {x y : Value} {X Y : List Sx} {o : Obj} {g c : Nat} {u : Sx} (h : TwoS w0 W x y X Y) (hg : (W.alloc o).grownBy w7 x.ownBlock) (ho : w7.ownsRow w0.heap.size 25 2 (.slice (some ⟨g, 0, none⟩) (X.length + 1) c) (X.length + 1) (saCells X ++ [sxV u, .int .i64 u.2.2.2])) (hat : x.ownBlock = some g ∨ g = W.heap.size + 1) :
    TwoS w0 w7 (.slice (some ⟨g, 0, none⟩) (X.length + 1) c) y (X ++ [u]) Y := by
  have hs := h.b.size
  have ne : y.ownBlock = none ∨ y.ownBlock ≠ x.ownBlock := by
    rcases h.dj with q | q | q
    · cases hy : y.ownBlock with
      | none => exact .inl rfl
      | some z => exact .inr (by rw [q]; simp)
    · exact .inl q
    · exact .inr (fun e => q e.symm)
  refine ⟨by rw [saCells_snoc, List.length_append]; exact ho, (h.oy.alloc _).kept hg ne, ?_, ?_⟩
  · rcases ne with q | q
    · exact .inr (.inl q)
    · refine .inr (.inr (fun e => ?_))
      have e' : some g = y.ownBlock := e
      rcases hat with p | p
      · exact q (by rw [p, e'])
      · have := (h.oy.lt g e'.symm).2; omega
  · exact (h.b.alloc (by omega) _).grown hg (by simp; omega) (fun k hk => (h.ox.lt k hk).1)

set_option maxHeartbeats 8000000 in
set_option maxRecDepth 10000 in
theorem part_any (a : Option Addr) (xs : List Sx) (ca m f : Nat) (c : Int) (w : World) (h : RdL w a xs) (A : Ask xs m) (hf : f < m) :
    Calls Try.prog 42 #[.agg #[.int .i64 (f : Nat), .int .i64 c], .slice a xs.length ca] w fun e w' => ∃ pa pac pb pbc, e = .returned (.tuple #[.slice pa (partX xs f c true).length pac, .slice pb (partX xs f c false).length pbc]) ∧ RdL w' pa (partX xs f c true) ∧ RdL w' pb (partX xs f c false) ∧ Below w.heap.size w w' ∧ (∀ p, pa = some p → w.heap.size ≤ p.block) ∧ (∀ p, pb = some p → w.heap.size ≤ p.block) := by
  have HL := hide h
  have AA := hide A
  have l60 := A.le
  obtain ⟨i0, hi, hz0, hz1, hz2⟩ := info_parts infoSam
  have I0 := hide hi
  have PM : Hid (∀ b k (hk : k < xs.length), partX (xs.take (k + 1)) f c b = if (decide (xs[k].2.1.getD f 0 < c) == b) = true then partX (xs.take k) f c b ++ [xs[k]] else partX (xs.take k) f c b) := fun b k hk => partX_more xs f c b hk
  have PL : Hid (∀ b k, (partX (xs.take k) f c b).length ≤ 60) := fun b k => Nat.le_trans (List.length_filter_le _ _) (by rw [List.length_take]; omega)
  have PA : Hid (∀ b, partX (xs.take xs.length) f c b = partX xs f c b) := fun b => by rw [List.take_length]
  have PR : Hid (∀ b W, Below w.heap.size w W → ∀ x ∈ partX xs f c b, Rd W x.1 x.2.1) := fun b W hW x hx => (h.2.1 x (partX_mem hx)).below hW
  obtain ⟨w1, hw1⟩ : ∃ W, W = w.alloc (.cells #[.int .i64 (f : Nat), .int .i64 c] 65) := ⟨_, rfl⟩
  have K1 : Hid (Below w.heap.size w w1) := by unfold Hid; rw [hw1]; exact (Below.refl _ w).alloc (Nat.le_refl _) _
  have B1 : Hid (∀ W, Below w1.heap.size w1 W → W.cell? ⟨w.heap.size, 0, none⟩ = some (.int .i64 (f : Nat)) ∧ W.cell? ⟨w.heap.size, 1, none⟩ = some (.int .i64 c)) := fun W hW => ⟨(new_kept hw1 hW).1 0 _ rfl, (new_kept hw1 hW).1 1 _ rfl⟩
  have W1 : Hid (w.heap.size ≤ w1.heap.size) := by unfold Hid; rw [hw1]; simp
  have HW := hide hw1
  clear h A hi hw1
  generalize hPT : partX xs f c true = PT at *
  generalize hPF : partX xs f c false = PF at *
  have PAT : Hid (partX (xs.take xs.length) f c true = PT) := by unfold Hid; rw [PA.out, hPT]
  have PAF : Hid (partX (xs.take xs.length) f c false = PF) := by unfold Hid; rw [PA.out, hPF]
  have PRT : Hid (∀ W, Below w.heap.size w W → ∀ x ∈ PT, Rd W x.1 x.2.1) := by have := PR.out true; rw [hPT] at this; exact this
  have PRF : Hid (∀ W, Below w.heap.size w W → ∀ x ∈ PF, Rd W x.1 x.2.1) := by have := PR.out false; rw [hPF] at this; exact this
  clear PA PR hPT hPF
  go_enter Try.func42, Try.ntmps42
  go_upto_region 1 with fail
  rw [← HW.out]
  go_wp2
  go_loopw [4, 5, 10] (fun v u i wr => ∃ k : Nat, k ≤ xs.length ∧ i = .int .i64 k ∧ Hid (TwoS w1 wr v u (partX (xs.take k) f c true) (partX (xs.take k) f c false))) (fun _ _ i _ => xs.length - (intOf i).toNat)
  case atStart => exact ⟨0, Nat.zero_le _, rfl, TwoS.begin w1⟩
  case round =>
    obtain ⟨k, hk, rfl, T⟩ := hrel
    have pl1 := PL.out true k
    have pl2 := PL.out false k
    by_cases hlt : k < xs.length
    · have K2 := hide (below_on K1.out T.out.b)
      obtain ⟨bl, ol, rfl, hbl, hcl⟩ := (HL.out.below K2.out).2.2 (by intro e; rw [e] at hlt; simp at hlt)
      obtain ⟨q0, q1⟩ := hcl k hlt
      have hr := AA.out.row xs[k] (List.getElem_mem hlt)
      have fr : f < xs[k].2.1.length := by omega
      obtain ⟨bx, ox, ex, hbx, hcx⟩ := ((HL.out.below K2.out).2.1 xs[k] (List.getElem_mem hlt)).2 (by intro e; rw [e] at fr; simp at fr)
      have hx := hcx f fr
      have pm1 := PM.out true k hlt
      have pm2 := PM.out false k hlt
      have SX : Hid (sxV xs[k] = .slice (some ⟨bx, ox, none⟩) xs[k].2.1.length xs[k].2.2.1) := by unfold Hid sxV; rw [ex]
      unfold sxV at q0
      rw [ex] at q0
      have kz : (k : Int) < (xs.length : Int) := by omega
      have fz : (f : Int) < (xs[k].2.1.length : Int) := by omega
      have f0 : (0 : Int) ≤ (f : Int) := by omega
      obtain ⟨va, vc, rfl⟩ := own_any T.out.ox
      obtain ⟨ua, uc, rfl⟩ := own_any T.out.oy
      have T2 : Hid (∀ o q, TwoS w1 ((wr.alloc o).drewN q) (.slice va (partX (xs.take k) f c true).length vc) (.slice ua (partX (xs.take k) f c false).length uc) (partX (xs.take k) f c true) (partX (xs.take k) f c false)) := fun o q => T.out.up (below_drew ((Below.refl _ wr).alloc (Nat.le_refl _) o) q (by simp))
      have UA : Hid (∀ o, Below wr.heap.size wr (wr.alloc o)) := fun o => (Below.refl _ wr).alloc (Nat.le_refl _) o
      have g0 : ∀ o, (wr.alloc o).cell? ⟨w.heap.size, 0, none⟩ = some (.int .i64 (f : Nat)) := fun o => (B1.out _ (below_on T.out.b (UA.out o))).1
      have g1 : ∀ o, (wr.alloc o).cell? ⟨w.heap.size, 1, none⟩ = some (.int .i64 c) := fun o => (B1.out _ (below_on T.out.b (UA.out o))).2
      have g2 : ∀ o, (wr.alloc o).cell? ⟨bx, ox + f, none⟩ = some (.int .i64 (xs[k].2.1.getD f 0)) := fun o => ((UA.out o).cell (p := ⟨bx, ox + f, none⟩) hbx).trans hx
      have RK := hide (show (some ⟨bx, ox, none⟩ : Option Addr) = xs[k].1 from ex.symm)
      obtain ⟨U, hU⟩ : ∃ U, U = xs[k] := ⟨_, rfl⟩
      rw [← hU] at q0 q1 fz pm1 pm2 SX
      simp only [← hU] at g2
      have sz1 := T.out.b.size
      have SZ := hide sz1
      clear hx UA hcl hcx PM hr fr ex PAT PAF PRT PRF PL HL AA B1 T RK hU sz1 HW
      generalize partX (xs.take k) f c true = P at *
      generalize partX (xs.take k) f c false = Q at *
      have sz := SZ.out
      obtain ⟨ra0, rr, rc, t⟩ := U
      dsimp only at q0 q1 g2 fz pm1 pm2 SX
      generalize hv : rr.getD f 0 = v at *
      generalize rr.length = rl at *
      go_upto_region 4 with fail
      go_quiet (fail)
      obtain ⟨w5, hw5⟩ : ∃ W, W = (wr.alloc (.cells #[.slice (some ⟨bx, ox, none⟩) rl rc, .int .i64 t] 25)).drewN nq := ⟨_, rfl⟩
      rw [← hw5]
      have N5 := hide (new_kept (w := wr) (W := w5) (cs := #[.slice (some ⟨bx, ox, none⟩) rl rc, .int .i64 t]) (t := 25) rfl (by rw [hw5]; exact below_drew (Below.refl _ _) nq (by simp)))
      have n0 := N5.out.1 0 _ rfl
      have n1 := N5.out.1 1 _ rfl
      have T5 : Hid (TwoS w1 w5 (.slice va P.length vc) (.slice ua Q.length uc) P Q) := by unfold Hid; rw [hw5]; exact T2.out _ _
      have sz5 := T5.out.b.size
      clear hw5 T2 N5 g0 g1 g2 q0 q1 sz hv
      cases hq : decide (v < c) with
      | true =>
        rw [hq, if_pos (by decide)] at pm1
        rw [hq, if_neg (by decide)] at pm2
        have PM1 := hide pm1
        have PM2 := hide pm2
        clear pm1 pm2
        go_wp2_with (at_builtin; refine wpList_append_lies _ rfl (.tmp 23) (.tmp 25) 22 rfl w1.heap.size 25 i0 (.agg #[.slice none 0 0, .int .i64 0]) 2 32 Try.underlying22 I0.out hz0 hz1 hz2 rfl (by omega) (.slice va P.length vc) P.length (saCells P) rfl (T5.out.ox.alloc _) ⟨w5.heap.size, 0, none⟩ 1 1 [.slice (some ⟨bx, ox, none⟩) rl rc, .int .i64 t] rfl rfl (World.news_of_block (heap_alloc_new _ _)) (by simp [Value.oneCell']) (by omega) (by unfold maxLen; omega) (by omega) (by simp; omega) (w5.heap.size + 1) (by simp) ?_)
        intro g cap w6 hov hgrow hat hlt6
        have T6 : Hid (TwoS w1 w6 (.slice (some ⟨g, 0, none⟩) (P.length + 1) cap) (.slice ua Q.length uc) (partX (xs.take (k + 1)) f c true) (partX (xs.take (k + 1)) f c false)) := by
          unfold Hid; rw [PM1.out, PM2.out]
          exact T5.out.first (u := (ra0, rr, rc, t)) hgrow (by rw [SX.out]; exact hov) hat
        clear hov hgrow hat
        go_wp2
        go_roundw
        case rel => exact ⟨k + 1, by omega, by go_num, T6⟩
        case measure => simp [intOf]; omega
      | false =>
        rw [hq, if_neg (by decide)] at pm1
        rw [hq, if_pos (by decide)] at pm2
        have PM1 := hide pm1
        have PM2 := hide pm2
        clear pm1 pm2
        go_wp2_with (at_builtin; refine wpList_append_lies _ rfl (.tmp 27) (.tmp 29) 22 rfl w1.heap.size 25 i0 (.agg #[.slice none 0 0, .int .i64 0]) 2 32 Try.underlying22 I0.out hz0 hz1 hz2 rfl (by omega) (.slice ua Q.length uc) Q.length (saCells Q) rfl (T5.out.oy.alloc _) ⟨w5.heap.size, 0, none⟩ 1 1 [.slice (some ⟨bx, ox, none⟩) rl rc, .int .i64 t] rfl rfl (World.news_of_block (heap_alloc_new _ _)) (by simp [Value.oneCell']) (by omega) (by unfold maxLen; omega) (by omega) (by simp; omega) (w5.heap.size + 1) (by simp) ?_)
        intro g cap w6 hov hgrow hat hlt6
        have T6 : Hid (TwoS w1 w6 (.slice va P.length vc) (.slice (some ⟨g, 0, none⟩) (Q.length + 1) cap) (partX (xs.take (k + 1)) f c true) (partX (xs.take (k + 1)) f c false)) := by
          unfold Hid; rw [PM1.out, PM2.out]
          exact (T5.out.turn.first (u := (ra0, rr, rc, t)) hgrow (by rw [SX.out]; exact hov) hat).turn
        clear hov hgrow hat
        go_wp2
        go_roundw
        case rel => exact ⟨k + 1, by omega, by go_num, T6⟩
        case measure => simp [intOf]; omega
    · have ke : k = xs.length := by omega
      have t := T.out
      rw [ke, PAT.out, PAF.out] at t
      rw [ke, PAT.out] at pl1
      rw [ke, PAF.out] at pl2
      have K2 := hide (below_on K1.out t.b)
      obtain ⟨ga, gc, ev, hr⟩ := own_rdL rfl (by unfold maxLen; omega) t.ox (PRT.out _ K2.out)
      obtain ⟨ha, hc, ev2, hr2⟩ := own_rdL rfl (by unfold maxLen; omega) t.oy (PRF.out _ K2.out)
      subst ev ev2
      have HR := hide hr
      have HR2 := hide hr2
      have L1 : Hid (∀ p, ga = some p → w.heap.size ≤ p.block) := fun p hp => by subst hp; exact Nat.le_trans W1.out (t.ox.lt p.block rfl).1
      have L2 : Hid (∀ p, ha = some p → w.heap.size ≤ p.block) := fun p hp => by subst hp; exact Nat.le_trans W1.out (t.oy.lt p.block rfl).1
      clear ke t T PM PL PAT PAF PRT PRF HL AA hr hr2 pl1 pl2 B1 HW
      go_wp2
      go_ret2
      exact ⟨ga, gc, ha, hc, rfl, HR.out, HR2.out, K2.out, L1.out, L2.out⟩

end Go.Proofs.Ythbeoaninipadaf
