/-
  Several texts as one: TsBase, TsWalk, TsAll.
-/
import Derived.Test.YtelncekgjfpogahGreatDoorRunT28
import Derived.Test.YtelncekgjfpogahGreatDoorRunT9
import Derived.Test.YtelncekgjfpogahGreatDoorRunT18
import Derived.Test.YtelncekgjfpogahGreatDoorRunT37
import Derived.Test.YtelncekgjfpogahGreatDoorRunT39
import Derived.Test.YtelncekgjfpogahGreatDoorRunT40
import Derived.Test.YtelncekgjfpogahGreatDoorRunT25
import Derived.Test.YtelncekgjfpogahGreatDoorRunT26
import Derived.Test.YtelncekgjfpogahGreatDoorRunT22
import Derived.Test.YtelncekgjfpogahGreatDoorRunT41
import Derived.Test.YtelncekgjfpogahGreatDoorRunT32
import Derived.Test.YtelncekgjfpogahGreatDoorRunT27
import Derived.Test.YtelncekgjfpogahGreatDoorRunT20
import Derived.Test.YtelncekgjfpogahGreatDoorRunT31
import Derived.Test.YtelncekgjfpogahGreatDoorRunT29
import Derived.Test.YtelncekgjfpogahGreatDoorRunT30
import Derived.Test.YtelncekgjfpogahGreatDoorRunT21
import Derived.Test.YtelncekgjfpogahGreatDoorRunT16
import Derived.Test.YtelncekgjfpogahGreatDoorRunT42
import Derived.Test.YtelncekgjfpogahGreatDoorRunT2
import Derived.Test.YtelncekgjfpogahGreatDoorRunT12
import Derived.Deep.Cut
import Derived.Deep.CutRange
namespace Go.Proofs.YtelncekgjfpogahGreatDoor
end Go.Proofs.YtelncekgjfpogahGreatDoor
namespace Go.Proofs.YtelncekgjfpogahGreatDoor
open Go.ChangeShapes Go.WideShapes Go.ChangeAt Go.RowKit Go.Lib
set_option linter.unusedVariables false
structure FW (wN : World) (f : Nat) (K : Nat → Prop) (P : List M.Pt) (h : M.Has) (W : World) : Prop where
 fa : FA W f K P h
 kk : ∀ q, K q → wN.heap.size ≤ q
 bel : Below wN.heap.size wN W
theorem FW.put {wN : World} {f : Nat} {K K' : Nat → Prop} {P : List M.Pt} {h h' : M.Has} {W W' : World} (k : FW wN f K P h W) (fa : FA W' f K' P h') (s : StayBut K W W') (hk : ∀ q, K' q → K q ∨ W.heap.size ≤ q) : FW wN f K' P h' W' := by
 have sz := k.bel.size
 refine ⟨fa, fun q hq => ?_, ⟨s.os.trans k.bel.os, s.tape.trans k.bel.tape, s.output.trans k.bel.output, Nat.le_trans sz s.size, fun q hq => (s.block q (by omega) (fun z => by have := k.kk q z; omega)).trans (k.bel.block q hq)⟩⟩
 rcases hk q hq with z | z
 · exact k.kk q z
 · omega
theorem frozen_fresh (V : World) (cs : Array Value) (t : TypeId) (j : Nat) : (V.alloc (.cells cs t)).frozen? ⟨V.heap.size, j, none⟩ = false := by
 unfold World.frozen?
 rw [show (V.alloc (.cells cs t)).heap[V.heap.size]? = some (.cells cs t) from (MapKept.heap_alloc V _).1]
 simp
theorem infoSpn : (Tryz.prog.info? 63).map (fun i => (i.zero, i.size, i.bytes)) = some (some (.agg #[.int .i64 0, .int .i64 0, .bool false]), 3, 24) := by kernel_rfl
theorem M.ptL_more {r : List Int} {k : Nat} (h : k < r.length) : M.ptL (r.take (k + 1)) = M.ptL (r.take k) ++ [M.ptS (r.getD k 0)] := by
 unfold M.ptL
 rw [List.take_succ_eq_append_getElem h, List.map_append, show r.getD k 0 = r[k] by simp [List.getD, h]]
 rfl
theorem M.enc_8 (g : M.Gv) : (∀ c ∈ M.encV g, c < 256) ∧ (M.encV g).length ≤ 6000 := by
 unfold M.encV
 by_cases e : M.encF g = 0
 · rw [if_pos e]
   refine ⟨fun c hc => M.bys_byte _ c hc, ?_⟩
   unfold M.encF at e
   by_cases q : M.groveF g = 0
   · rw [if_neg (by simp [q])] at e
     by_cases p : 6000 < (M.encB g).length
     · rw [if_pos p] at e; cases e
     · omega
   · rw [if_pos q] at e; exact absurd e q
 · rw [if_neg e]
   exact ⟨(fun c hc => by cases hc), Nat.zero_le _⟩
theorem M.enc_4 {g : M.Gv} (h : M.groveF g = 0) (e : M.encF g ≠ 0) : M.encF g = 4 := by
 unfold M.encF at e ⊢
 rw [if_neg (by simp [h])] at e ⊢
 by_cases p : 6000 < (M.encB g).length
 · rw [if_pos p]
 · rw [if_neg p] at e; exact absurd rfl e
set_option maxHeartbeats 16000000 in
set_option maxRecDepth 10000 in
theorem tsame_walk (a : Option Addr) (xs : List Sx) (ca : Nat) (m r s z : Int) (ra : Option Addr) (rl : List Int) (rc : Nat) (w : World)
 (hER : ∀ e W, Below w.heap.size w W → Calls Tryz.prog 9 #[errV e, .int .i64 e] W fun r w' => r = .returned (.bool true) ∧ Below W.heap.size W w')
 (h : RdL w a xs) (hr : Rd w ra rl) (z1 : -9223372036854775808 ≤ z) (z2 : z ≤ 9223372036854775807) :
 Calls Tryz.prog 3 #[.slice a xs.length ca, .int .i64 m, .int .i64 r, .int .i64 s, .int .i64 z, .slice ra rl.length rc] w fun e w' => e = .returned (.bool true) ∧ Below w.heap.size w w' := by
 have O1 := hide (one_any grofit_any eval_any w)
 have F1 := hide (fun W hW => boofit_any a xs ca m r 3 s W (h.below hW))
 have hmr : rl.length ≤ 9223372036854775807 := hr.1
 have HR := hide hr
 have HER := hide hER
 have NB := hide Bx4.new
 clear h hr hER
 by_cases bf : M.booF (sms xs) m r 3 s = 0
 case neg =>
  rw [err_some bf] at F1
  clear bf HR HER
  generalize M.booF (sms xs) m r 3 s = bF at *
  go_enter Tryz.func3, Tryz.ntmps3
  go_wp2_with (first
   | (go_at_call 4; refine O1.out.mono ?_; rintro e w1 ⟨rfl, b1⟩; have K1 := hide b1; clear b1)
   | (go_at_call 5; refine (F1.out _ K1.out).mono ?_; rintro e w2 ⟨J, rfl, hm, hg, b2⟩; have K2 := hide (below_on K1.out b2); have N2 := hide (NB.out w2 J hg); unfold Gr.v; clear hm hg b2))
  go_ret
  exact ⟨rfl, below_on K2.out N2.out.2⟩
 obtain ⟨gk, gfm, gw2⟩ := M.boo_top bf
 rw [bf, err_nil rfl] at F1
 generalize M.booG (sms xs) m r 3 s = gB at *
 have PN := hide (M.prunG_none gk)
 have PE := hide (fun (r : List Int) (hs : M.standF gB r = 0) => M.prunG_eval gk hs)
 have FN : Hid (∀ (J : Gr) W, J.m = gB → RdG W J → Calls Tryz.prog 6 #[J.v] W fun e w' => ∃ p, e = .returned (.tuple #[.pointer (some ⟨p, 0, none⟩), .nilIface]) ∧ FO w' p gB ∧ Below W.heap.size W w') := fun J W hm hg => by
  have := fnew_any J W hg (by rw [hm]; exact gk)
  rw [hm] at this
  exact this
 have PG : Hid (∀ (J : Gr) W, J.m = gB → RdG W J → Calls Tryz.prog 7 #[J.v] W fun e w' => ∃ Q : Gr, e = .returned (.tuple #[Q.v, .nilIface]) ∧ Q.m = M.prunG gB ∧ RdG w' Q ∧ Below W.heap.size W w') := fun J W hm hg => by
  have := prune_gives J W hg
  rw [hm, err_nil gk] at this
  exact this
 have EN : Hid (∀ (J : Gr) W, J.m = gB → RdG W J → Calls Tryz.prog 8 #[J.v] W fun e w' => ∃ v, e = .returned (.tuple #[v, errV (M.encF gB)]) ∧ w'.ownsRow W.heap.size 5 1 v (M.encV gB).length (byCells (M.encV gB)) ∧ Below W.heap.size W w') := fun J W hm hg => by
  have := cdenc_any J W hg
  rw [hm] at this
  exact this
 have DG : Hid (∀ (J Q : Gr) W, J.m = gB → Q.m = M.prunG gB → RdG W J → RdG W Q → Calls Tryz.prog 16 #[J.v, Q.v] W fun e w' => ∃ n : Int, e = .returned (.tuple #[.int .i64 n, errV 5]) ∧ Below W.heap.size W w') := fun J Q W hm hq h1 h2 => by
  have := difgroves_any diftrees_any J Q W h1 h2
  rw [hm, hq, PN.out.2] at this
  exact this.mono fun e w' he => ⟨_, he.1, he.2⟩
 have GE : Hid (∀ (J : Gr) W, J.m = gB → RdG W J → Rd W ra rl → Calls Tryz.prog 17 #[J.v, .slice ra rl.length rc] W fun e w' => e = .returned (.tuple #[.int .i64 (M.evalG gB rl), errV (M.standF gB rl)]) ∧ Below W.heap.size W w') := fun J W hm hg hr => by
  have := geval_any J ra rl rc W hg hr
  rw [hm] at this
  exact this
 have GK := hide gk
 have GF := hide gfm
 have GW := hide gw2
 simp only [Gr.v] at FN PG EN DG GE
 clear gk gfm gw2 bf
 go_enter Tryz.func3, Tryz.ntmps3
 go_upto_region 7 with (first
  | (go_at_call 4; refine O1.out.mono ?_; rintro e w1 ⟨rfl, b1⟩; have K1 := hide b1; clear b1)
  | (go_at_call 5; refine (F1.out _ K1.out).mono ?_; rintro e w2 ⟨J, rfl, hm, hg, b2⟩; have K2 := hide (below_on K1.out b2); have HJ := hide hm; have N2 := hide (NB.out w2 J hg); unfold Gr.v; clear hm hg b2))
 have X3 := hide N2.out.1
 have K3 := hide (below_on K2.out N2.out.2)
 obtain ⟨w3, hw3⟩ : ∃ X, X = w2.alloc (grB J) := ⟨_, rfl⟩
 rw [← hw3] at X3 K3 ⊢
 obtain ⟨gb, hgb⟩ : ∃ n, n = w2.heap.size := ⟨_, rfl⟩
 rw [← hgb] at X3 ⊢
 clear hw3 hgb N2 K2 K1 O1 F1
 have c0 := X3.out.c0
 have c1 := X3.out.c1
 have c2 := X3.out.c2
 have c3 := X3.out.c3
 go_upto_region 8 with (go_at_call 6; refine (FN.out J _ HJ.out X3.out.rd).mono ?_; rintro e w4 ⟨p, rfl, fo, b4⟩; have FO4 := hide fo; have K4 := hide (below_on K3.out b4); have X4 := hide (X3.out.up b4); clear fo b4)
 clear c0 c1 c2 c3 X3 K3 FN
 have c0 := X4.out.c0
 have c1 := X4.out.c1
 have c2 := X4.out.c2
 have c3 := X4.out.c3
 go_upto_region 9 with (go_at_call 7; refine (PG.out J _ HJ.out X4.out.rd).mono ?_; rintro e w5 ⟨Q, rfl, hm, hg, b5⟩; have HQ := hide hm; have N5 := hide (NB.out w5 Q hg); have B5 := hide b5; clear hm hg b5)
 have B6 := hide (below_on B5.out N5.out.2)
 have Y6 := hide N5.out.1
 obtain ⟨w6, hw6⟩ : ∃ X, X = w5.alloc (grB Q) := ⟨_, rfl⟩
 rw [← hw6] at B6 Y6 ⊢
 obtain ⟨qb, hqb⟩ : ∃ n, n = w5.heap.size := ⟨_, rfl⟩
 rw [← hqb] at Y6 ⊢
 have X6 := hide (X4.out.up B6.out)
 have K6 := hide (below_on K4.out B6.out)
 have FO6 := hide (FO4.out.below B6.out)
 clear hw6 hqb N5 B5 B6 X4 K4 FO4 c0 c1 c2 c3 PG NB
 have c0 := X6.out.c0
 have c1 := X6.out.c1
 have c2 := X6.out.c2
 have c3 := X6.out.c3
 go_upto_region 10 with (go_at_call 8; refine (EN.out J _ HJ.out X6.out.rd).mono ?_; rintro e w7 ⟨v7, rfl, o7, b7⟩; have O7 := hide o7; have K7 := hide (below_on K6.out b7); have X7 := hide (X6.out.up b7); have Y7 := hide (Y6.out.up b7); have FO7 := hide (FO6.out.below b7); clear o7 b7)
 clear c0 c1 c2 c3 X6 Y6 K6 FO6 EN
 obtain ⟨e8, e6⟩ := M.enc_8 gB
 obtain ⟨ba, bc, ev, rb, bn, bl1, bl2⟩ := own_rdB1 rfl (by unfold maxLen; omega) e8 O7.out
 subst ev
 have RB := hide rb
 have BN := hide bn
 have E8 := hide e8
 have DE := hide (fun (h : M.encF gB = 0) => M.dec_enc h)
 have E4 := hide (fun (h : M.encF gB ≠ 0) => M.enc_4 GK.out h)
 clear rb bn e8 O7
 generalize M.encV gB = bB at *
 generalize M.encF gB = eF at *
 obtain ⟨ve, hve⟩ : ∃ v, v = errV eF := ⟨_, rfl⟩
 rw [← hve]
 have VE := hide hve
 clear hve
 go_cut [21, 91] from 77 to 91 (fun u v wx => u = ve ∧ v = .bool false ∧ Hid (Below w7.heap.size w7 wx))
 case first =>
  by_cases ef : eF = 0
  · have e1 : ve = .nilIface := by rw [VE.out, ef]; exact if_pos rfl
    subst e1
    clear ef VE
    go_wp2
    go_meet
    case rel => exact ⟨rfl, rfl, Below.refl _ _⟩
  · have e4 := E4.out ef
    have e1 : ve = .iface 74 (.int .i64 4) := by rw [VE.out, e4]; exact err_some (by decide)
    have C4 := hide (HER.out 4 w7 K7.out)
    rw [err_some (by decide)] at C4
    subst e1
    clear ef VE e4
    go_wp2_with (go_at_call 9; refine C4.out.mono ?_; rintro e w8 ⟨rfl, b8⟩; have B8 := hide b8; clear b8)
    go_meet
    case rel => exact ⟨rfl, rfl, B8⟩
 case rest =>
  obtain ⟨hu, rfl, B8⟩ := hcut
  have hu2 := hu.symm
  subst hu2
  obtain ⟨w8, hw8⟩ : ∃ X, X = wc := ⟨_, rfl⟩
  subst hw8
  go_upto_region 12 with fail
  go_cut [21, 93] from 92 to 93 (fun u v wx => u = ve ∧ ∃ q : Bool, v = .bool q ∧ Hid (q = decide (eF = 0)) ∧ wx = w8)
  case first =>
   by_cases ef : eF = 0
   · have e1 : ve = .nilIface := by rw [VE.out, ef]; exact if_pos rfl
     have EQ : Hid (true = decide (eF = 0)) := (decide_eq_true ef).symm
     subst e1
     clear ef VE
     go_wp2
     go_meet
     case rel => exact ⟨rfl, true, rfl, EQ, rfl⟩
   · have e1 : ve = .iface 74 (.int .i64 eF) := by rw [VE.out]; exact err_some ef
     have EQ : Hid (false = decide (eF = 0)) := (decide_eq_false ef).symm
     subst e1
     clear ef VE
     go_wp2
     go_meet
     case rel => exact ⟨rfl, false, rfl, EQ, rfl⟩
  case rest =>
   obtain ⟨hu, q, rfl, EQ, hw⟩ := hcut
   have hu2 := hu.symm
   subst hu2
   have hw9 := hw.symm
   subst hw9
   go_upto_if 93 with fail
   go_cut [21] from 94 to 166 (fun u wx => u = ve ∧ Hid (Below w7.heap.size w7 wx))
   case first =>
    by_cases ef : eF = 0
    case neg =>
     have eq : q = false := by rw [EQ.out]; exact decide_eq_false ef
     subst eq
     clear ef EQ
     go_wp2
     go_meet
     case rel => exact ⟨rfl, B8⟩
    have eq : q = true := by rw [EQ.out]; exact decide_eq_true ef
    subst eq
    obtain ⟨d1, d2⟩ := DE.out ef
    have DC := hide (cddec_any ba bB bc w8 (RB.out.below B8.out) bl1 bl2)
    rw [d1, d2] at DC
    simp only [Gr.v] at DC
    have z0 : errV 0 = .nilIface := if_pos rfl
    rw [z0] at DC
    clear ef EQ d1 d2 DE z0
    have NB := hide Bx4.new
    go_upto_region 14 with (go_at_call 10; refine DC.out.mono ?_; rintro e w9 ⟨O, rfl, hm, hg, b9⟩; have HO := hide hm; have N9 := hide (NB.out w9 O hg); have B9 := hide (below_on B8.out b9); clear hm hg b9)
    have B10 := hide (below_on B9.out N9.out.2)
    have Z10 := hide N9.out.1
    obtain ⟨w10, hw10⟩ : ∃ X, X = w9.alloc (grB O) := ⟨_, rfl⟩
    rw [← hw10] at B10 Z10 ⊢
    obtain ⟨ob, hob⟩ : ∃ n, n = w9.heap.size := ⟨_, rfl⟩
    rw [← hob] at Z10 ⊢
    have X10 := hide (X7.out.up B10.out)
    have GS := hide (grovesame_any O J w10 Z10.out.rd X10.out.rd (by rw [HO.out, HJ.out]))
    simp only [Gr.v] at GS
    have PC := hide (fun W (hW : Below w7.heap.size w7 W) => chplan_any ba bB bc z W (RB.out.below hW) bl1 bl2 z1 z2)
    clear hw10 hob N9 B9 DC NB
    have c0 := X10.out.c0
    have c1 := X10.out.c1
    have c2 := X10.out.c2
    have c3 := X10.out.c3
    have d0 := Z10.out.c0
    have d1 := Z10.out.c1
    have d2 := Z10.out.c2
    have d3 := Z10.out.c3
    go_upto_region 17 with (go_at_call 11; refine GS.out.mono ?_; rintro e w11 ⟨rfl, b11⟩; have B11 := hide (below_on B10.out b11); clear b11)
    clear c0 c1 c2 c3 d0 d1 d2 d3 GS X10 Z10 B10
    by_cases pf : M.planF bB z = 0
    case neg =>
     rw [err_some pf] at PC
     clear pf
     generalize M.planF bB z = pF at *
     generalize M.planV bB z = pV at *
     go_wp2_with (go_at_call 12; refine (PC.out _ B11.out).mono ?_; rintro e w12 ⟨v12, rfl, o12, b12⟩; have B12 := hide (below_on B11.out b12); clear o12 b12)
     go_meet
     case rel => exact ⟨rfl, B12⟩
    have q2 : ¬ 6000 < bB.length := fun y => by unfold M.planF at pf; rw [if_pos y] at pf; cases pf
    have q1 : ¬ (z < 1 ∨ 6000 < z) := fun y => by unfold M.planF at pf; rw [if_neg q2, if_pos y] at pf; cases pf
    obtain ⟨sz, rfl⟩ : ∃ s : Nat, z = (s : Int) := ⟨z.toNat, by omega⟩
    have q3 : ¬ 100 < (M.planL bB sz).length := fun y => by unfold M.planF at pf; rw [if_neg q2, if_neg q1, Int.toNat_natCast, if_pos y] at pf; cases pf
    have pv : M.planV bB (sz : Int) = M.planL bB sz := by unfold M.planV; rw [if_pos pf, Int.toNat_natCast]
    rw [err_nil pf, pv] at PC
    have sp : 1 ≤ sz := by omega
    have S6 : sz ≤ 6000 := by omega
    have PR := hide (M.plan_right sp bB e6 (by omega))
    have PA := hide (fun i (hi : i < (M.planL bB sz).length) => M.plan_at sp i bB (M.plan_in sp bB hi))
    have PI := hide (fun i (hi : i < (M.planL bB sz).length) => M.plan_in sp bB hi)
    have HP := hide (fun (seen : List Bool) (hl : seen.length = (M.planL bB sz).length) i (hi : i < (M.planL bB sz).length) => M.seenH_put sp bB hl hi)
    have HA := hide (fun (seen : List Bool) (hl : seen.length = (M.planL bB sz).length) ha => M.seenH_all sp bB hl ha)
    have HZ := hide (M.seenH_zero bB sz (M.planL bB sz))
    have m100 : (M.planL bB sz).length ≤ 100 := by omega
    generalize M.planL bB sz = P at *
    clear pf q1 q2 q3 pv
    go_upto_region 19 with (go_at_call 12; refine (PC.out _ B11.out).mono ?_; rintro e w12 ⟨v12, rfl, o12, b12⟩; have O12 := hide o12; have B12 := hide (below_on B11.out b12); clear o12 b12)
    obtain ⟨pa, pc, ev, rp, _, _⟩ := own_rdP rfl (by unfold maxLen; omega) O12.out
    subst ev
    have RP := hide rp
    have N1 := hide (fet_new pa P pc w12 rp PR.out)
    clear rp O12 PC PR B11
    go_upto_region 22 with (go_at_call 13; refine N1.out.mono ?_; rintro e w13 ⟨f, K, rfl, fa, kk, b13⟩; have FW0 : Hid (FW w12 f K P (M.has0 P) w13) := ⟨fa, kk, b13⟩; clear fa kk b13)
    rw [HZ.out] at FW0
    clear N1 HZ
    have pz : (P.length : Int) ≤ 100 := by omega
    go_wp2
    go_loopw [30] (fun i wr => ∃ (k : Nat) (K : Nat → Prop) (seen : List Bool), k ≤ P.length ∧ i = .int .i64 ((k : Int) - 1) ∧ Hid (seen.length = P.length) ∧ Hid (∀ j, k ≤ j → j < P.length → seen.getD j false = true) ∧ Hid (FW w12 f K P (M.seenH bB sz seen) wr)) (fun i _ => (intOf i + 1).toNat)
    case atStart => exact ⟨P.length, K, List.replicate P.length false, Nat.le_refl _, rfl, (by unfold Hid; rw [List.length_replicate]), (fun j h1 h2 => by omega), FW0⟩
    case round =>
     clear FW0
     obtain ⟨k, Kt, seen, hk, rfl, SL, SA, FK⟩ := hrel
     rcases k with _ | j
     · obtain ⟨x1, x2, x3⟩ := HA.out seen SL.out (fun i hi => SA.out i (Nat.zero_le _) (by rw [← SL.out]; exact hi))
       have BY := hide (fet_bytes FK.out.fa)
       rw [x1, x2, err_nil rfl] at BY
       have BW2 := hide (below_on B12.out FK.out.bel)
       have CB := hide (fun (W : World) (hW : Below wr.heap.size wr W) => conv_by (RB.out.below (below_on BW2.out hW)) bc)
       have gz : decide ((0 : Int) ≤ ((0 : Nat) : Int) - 1) = false := by decide
       clear x1 x2 x3 HA SA SL HP PI PA RP FK
       go_upto_region 29 with (go_at_call 15; refine BY.out.mono ?_; rintro e w14 ⟨va, vc, rfl, r14, b14⟩; have R14 := hide r14; have B14 := hide b14; clear r14 b14)
       have s1 := conv_by R14.out vc
       have s2 := CB.out w14 B14.out
       have BF := hide (below_on BW2.out B14.out)
       clear CB BY R14
       generalize byStr bB = st at *
       go_wp2
       go_meet
       case rel => exact ⟨rfl, BF⟩
     · have ej : (((j + 1 : Nat) : Int) - 1) = (j : Int) := by omega
       rw [ej]
       have hi : j < P.length := by omega
       have jz : (j : Int) < (P.length : Int) := by omega
       have gz : decide ((0 : Int) ≤ (j : Int)) = true := decide_eq_true (by omega)
       have HPi := hide (HP.out seen SL.out j hi)
       have px := congrArg Prod.fst (PA.out j hi)
       simp only at px
       have pi := PI.out j hi
       obtain ⟨F0, hF0⟩ : ∃ n, n = j * sz := ⟨_, rfl⟩
       rw [← hF0] at pi px
       obtain ⟨m1, hm⟩ : ∃ m, m = min sz (bB.length - F0) := ⟨_, rfl⟩
       rw [← hm] at px
       obtain ⟨PC, hPC⟩ : ∃ PC, PC = M.pieceAt bB sz j := ⟨_, rfl⟩
       rw [← hPC] at HPi
       have PCL : Hid (PC.length = m1) := by unfold Hid; rw [hPC, M.piece_len, hm, hF0]
       have PE : Hid ((bB.drop F0).take m1 = PC) := by
        unfold Hid
        rw [hPC, hm, hF0]
        unfold M.pieceAt
        by_cases q : sz ≤ bB.length - j * sz
        · rw [Nat.min_eq_left q]
        · rw [Nat.min_eq_right (by omega), List.take_of_length_le (by rw [List.length_drop]; omega), List.take_of_length_le (by rw [List.length_drop]; omega)]
       have pm : (j : Int) * (sz : Int) = (F0 : Int) := by rw [hF0]; rfl
       have k1 : 1 ≤ m1 := by omega
       have k2 : F0 + m1 ≤ bB.length := by omega
       obtain ⟨pb, po, epa, hpb, hpc⟩ := RP.out.2 (by intro e; rw [e] at hi; simp at hi)
       subst epa
       have pc0 : wr.cell? ⟨pb, po + j * 2, none⟩ = some (.int .i64 (m1 : Int)) := by
        rw [FK.out.bel.cell (p := ⟨pb, po + j * 2, none⟩) hpb, (hpc j hi).1, px]
       obtain ⟨bb, bo, eba, hbb, hbc⟩ := RB.out.2.2 (by intro e; rw [e] at pi; simp at pi)
       subst eba
       have z0 : (0 : Int) ≤ (F0 : Int) := by omega
       have y1 : (F0 : Int) ≤ (F0 : Int) + (m1 : Int) := by omega
       have y2 : (F0 : Int) + (m1 : Int) ≤ (bc : Int) := by omega
       have y3 : ¬ bc = F0 := by omega
       have RPC : Hid (RdB wr (some ⟨bb, bo + F0, none⟩) PC) := by
        have := ((RB.out.below (below_on B12.out FK.out.bel)).drop F0).take m1
        rw [PE.out] at this
        exact this
       have CQ := hide (fet_put (j : Int) (some ⟨bb, bo + F0, none⟩) PC (bc - F0) FK.out.fa RPC.out (by rw [PCL.out]; omega) (by omega) (fun e => by cases e) (by omega) (by omega))
       rw [HPi.out.1, HPi.out.2.1, HPi.out.2.2, err_nil rfl, PCL.out] at CQ
       have SL2 : Hid ((seen.set j true).length = P.length) := by unfold Hid; rw [List.length_set]; exact SL.out
       have SA2 : Hid (∀ i, j ≤ i → i < P.length → (seen.set j true).getD i false = true) := fun i h1 h2 => by
        by_cases q : j = i
        · subst q
          simp [List.getD, show j < seen.length by rw [SL.out]; exact h2]
        · have := SA.out i (by omega) h2
          simpa [List.getD, List.getElem?_set_ne q] using this
       have FK2 := FK
       have fs : F0 + m1 - F0 = m1 := by omega
       generalize (!seen.getD j false) = sv at *
       clear hF0 hm hPC hpc hbc hbb px HP PI PA RP HA SA SL HPi PE RPC hpb pi FK
       go_wp2_with (go_at_call 14; refine CQ.out.mono ?_; rintro e w14 ⟨K14, rfl, fa, st, hk14⟩; have FK3 := hide (FK2.out.put fa st hk14); clear fa st hk14)
       exact ⟨⟨j, K14, seen.set j true, by omega, rfl, SL2, SA2, FK3⟩, by show ((j : Int) - 1 + 1).toNat < ((j : Int) + 1).toNat; omega⟩
   case rest =>
    obtain ⟨hu, B9⟩ := hcut
    have hu2 := hu.symm
    subst hu2
    obtain ⟨w9, hw9⟩ : ∃ X, X = wc := ⟨_, rfl⟩
    subst hw9
    have X9 := hide (X7.out.up B9.out)
    have Y9 := hide (Y7.out.up B9.out)
    have K9 := hide (below_on K7.out B9.out)
    have FO9 := hide (FO7.out.below B9.out)
    have C5 := hide (fun W hW => HER.out 5 W hW)
    rw [err_some (by decide)] at C5
    have DG2 : Hid (Calls Tryz.prog 16 #[.agg #[.int .i64 J.f, .int .i64 J.w, .slice J.wa J.ws.length J.wc, .slice J.ta J.ks.length J.tc], .agg #[.int .i64 Q.f, .int .i64 Q.w, .slice Q.wa Q.ws.length Q.wc, .slice Q.ta Q.ks.length Q.tc]] w9 fun e w' => ∃ n : Int, e = .returned (.tuple #[.int .i64 n, .iface 74 (.int .i64 5)]) ∧ Below w9.heap.size w9 w') := by
     have := DG.out J Q w9 HJ.out HQ.out X9.out.rd Y9.out.rd
     rw [err_some (by decide)] at this
     exact this
    clear B8 EQ B9 X7 Y7 K7 FO7 DG VE RB BN E8 DE E4
    have c0 := X9.out.c0
    have c1 := X9.out.c1
    have c2 := X9.out.c2
    have c3 := X9.out.c3
    have d0 := Y9.out.c0
    have d1 := Y9.out.c1
    have d2 := Y9.out.c2
    have d3 := Y9.out.c3
    go_upto_region 35 with (first
     | (go_at_call 9; refine (C5.out _ K10.out).mono ?_; rintro e w11 ⟨rfl, b11⟩; have K11 := hide (below_on K10.out b11); have B11 := hide (below_on B10.out b11); clear b11)
     | (go_at_call 16; refine DG2.out.mono ?_; rintro e w10 ⟨n10, rfl, b10⟩; have K10 := hide (below_on K9.out b10); have B10 := hide b10; clear b10))
    have X11 := hide (X9.out.up B11.out)
    have Y11 := hide (Y9.out.up B11.out)
    have FO11 := hide (FO9.out.below B11.out)
    clear c0 c1 c2 c3 d0 d1 d2 d3 X9 Y9 FO9 B10 B11 K9 K10 DG2 C5
    have c0 := X11.out.c0
    have c1 := X11.out.c1
    have c2 := X11.out.c2
    have c3 := X11.out.c3
    have RR := hide (HR.out.below K11.out)
    have GE1 := hide (GE.out J w11 HJ.out X11.out.rd RR.out)
    by_cases st : M.standF gB rl = 0
    case neg =>
     rw [err_some st] at GE1
     have RC := hide (fun W (hW : Below w.heap.size w W) => rcheck_any ra rl rc W (HR.out.below hW))
     have ST : Hid (M.rowF rl ≠ 0 ∨ (rl.length : Int) ≠ m) := by
      by_cases q : M.rowF rl = 0
      · by_cases q2 : (rl.length : Int) = m
        · exact absurd (M.stand_of ((M.good_iff gB).1 GK.out) q (by rw [GF.out]; exact q2)) st
        · exact .inr q2
      · exact .inl q
     clear st GK GF GW PE PN FO11 Y11
     generalize M.standF gB rl = sF at *
     generalize M.evalG gB rl = eV at *
     by_cases rf : M.rowF rl = 0
     · have rm : (rl.length : Int) ≠ m := by
        rcases ST.out with q | q
        · exact absurd rf q
        · exact q
       have t1 : ((rl.length : Int) != m) = true := by simpa using rm
       rw [err_nil rf] at RC
       clear rf rm ST
       go_wp2_with (first
        | (go_at_call 17; refine GE1.out.mono ?_; rintro e w12 ⟨rfl, b12⟩; have K12 := hide (below_on K11.out b12); clear b12)
        | (go_at_call 18; refine (RC.out _ K12.out).mono ?_; rintro e w13 ⟨rfl, b13⟩; have K13 := hide (below_on K12.out b13); clear b13))
       go_ret
       exact ⟨rfl, K13.out⟩
     · rw [err_some rf] at RC
       clear rf ST
       generalize M.rowF rl = rF at *
       go_wp2_with (first
        | (go_at_call 17; refine GE1.out.mono ?_; rintro e w12 ⟨rfl, b12⟩; have K12 := hide (below_on K11.out b12); clear b12)
        | (go_at_call 18; refine (RC.out _ K12.out).mono ?_; rintro e w13 ⟨rfl, b13⟩; have K13 := hide (below_on K12.out b13); clear b13))
       go_ret
       exact ⟨rfl, K13.out⟩
    rw [err_nil st] at GE1
    obtain ⟨pe1, pe2⟩ := PE.out rl st
    obtain ⟨l1, l2⟩ := M.lim_pt st (by rw [GW.out]; decide)
    obtain ⟨bd1, bd2⟩ := M.eval_bounds st
    have r8 : rl.length ≤ 8 := ((M.row_ok rl).1 (M.stand_ok st).2.1).1
    have FE := hide (fun W (hW : Below w11.heap.size w11 W) => feval_any p gB ra rl rc W (FO11.out.below hW) GK.out (RR.out.below hW))
    rw [err_nil st] at FE
    have GQ := hide (fun W (hW : Below w11.heap.size w11 W) => geval_any Q ra rl rc W (Y11.out.up hW).rd (RR.out.below hW))
    rw [HQ.out, pe2, pe1] at GQ
    have BO := hide (fun W (hW : Below w11.heap.size w11 W) => gbounds_any J W (X11.out.up hW).rd)
    rw [HJ.out, GK.out] at BO
    have LG := hide (fun W (hW : Below w11.heap.size w11 W) sa sc hs => limgrove_any limtree_any J sa (M.ptL rl) sc W (X11.out.up hW).rd hs)
    rw [HJ.out, l2, l1, M.ptL_len] at LG
    have z0 : errV 0 = .nilIface := if_pos rfl
    rw [z0] at GQ BO LG
    simp only [Gr.v] at GQ BO LG
    clear z0 st pe1 pe2 l1 l2 PE PN GE GK GF GW HER
    generalize M.evalG gB rl = eV at *
    generalize (M.boundsV gB).1 = lo at *
    generalize (M.boundsV gB).2 = hi at *
    go_upto_region 38 with (go_at_call 17; refine GE1.out.mono ?_; rintro e w12 ⟨rfl, b12⟩; have B12 := hide b12; clear b12)
    clear c0 c1 c2 c3 GE1
    go_upto_region 39 with (go_at_call 19; refine (FE.out _ B12.out).mono ?_; rintro e w13 ⟨rfl, b13⟩; have B13 := hide (below_on B12.out b13); clear b13)
    have Y13 := Y11.out.up B13.out
    have d0 := Y13.c0
    have d1 := Y13.c1
    have d2 := Y13.c2
    have d3 := Y13.c3
    clear Y13 B12 FE
    go_upto_region 40 with (go_at_call 17; refine (GQ.out _ B13.out).mono ?_; rintro e w14 ⟨rfl, b14⟩; have B14 := hide (below_on B13.out b14); clear b14)
    have X14 := X11.out.up B14.out
    clear d0 d1 d2 d3 B13 GQ
    have c0 := X14.c0
    have c1 := X14.c1
    have c2 := X14.c2
    have c3 := X14.c3
    clear X14
    go_upto_region 41 with (go_at_call 20; refine (BO.out _ B14.out).mono ?_; rintro e w15 ⟨rfl, b15⟩; have B15 := hide (below_on B14.out b15); clear b15)
    clear c0 c1 c2 c3 B14 BO
    obtain ⟨i0, hi0, hz0, hz1, hz2⟩ := info_parts infoSpn
    have J0 := hide hi0
    clear hi0
    go_wp2
    go_loopw [43, 44] (fun v i wr => ∃ (k : Nat) (va : Option Addr) (vc : Nat), k ≤ rl.length ∧ i = .int .i64 k ∧ v = .slice va k vc ∧ Hid (wr.ownsRow w15.heap.size 63 3 (.slice va k vc) k (spCells (M.ptL (rl.take k)))) ∧ Hid (Below w15.heap.size w15 wr)) (fun _ i _ => rl.length - (intOf i).toNat)
    case atStart => exact ⟨0, none, 0, Nat.zero_le _, rfl, rfl, World.ownsRow_nil _ _ _ _, Below.refl _ _⟩
    case round =>
     obtain ⟨k, va, vc, hk, rfl, rfl, OO, KK⟩ := hrel
     have KZ := KK.out.size
     by_cases hlt : k < rl.length
     · have kz : (k : Int) < (rl.length : Int) := by omega
       obtain ⟨rb, ro, era, rbl, rcc⟩ := RR.out.2 (by intro e; rw [e] at hlt; simp at hlt)
       subst era
       have BW1 := hide (below_on B15.out KK.out)
       have RC : Hid (∀ W, Below wr.heap.size wr W → W.cell? ⟨rb, ro + k, none⟩ = some (.int .i64 (rl.getD k 0))) := fun W hW => ((below_on BW1.out hW).cell (p := ⟨rb, ro + k, none⟩) rbl).trans (rcc k hlt)
       have rne : rb < wr.heap.size := Nat.lt_of_lt_of_le rbl BW1.out.size
       have PM := hide (M.ptL_more hlt)
       have e0 := fun o => RC.out (wr.alloc o) ((Below.refl _ _).alloc (Nat.le_refl _) o)
       clear rcc LG
       generalize rl.getD k 0 = c at *
       by_cases cn : c = M.nilI
       · have PS : Hid (M.ptL (rl.take (k + 1)) = M.ptL (rl.take k) ++ [(1, 0, true)]) := by unfold Hid; rw [PM.out]; unfold M.ptS; rw [if_pos cn]
         have t1 : (c != -1125899906842624) = false := by rw [cn]; decide
         have NC := hide (spCells_snoc (M.ptL (rl.take k)) (1, 0, true))
         clear cn PM RC
         go_upto_region 48 with fail
         have s0 : (wr.alloc (.cells #[.int .i64 1, .int .i64 0, .bool true] 63)).cell? ⟨wr.heap.size, 0, none⟩ = some (.int .i64 1) := World.cell?_alloc_at _ _ _ 0 rfl
         have s1 : (wr.alloc (.cells #[.int .i64 1, .int .i64 0, .bool true] 63)).cell? ⟨wr.heap.size, 1, none⟩ = some (.int .i64 0) := World.cell?_alloc_at _ _ _ 1 rfl
         have s2 : (wr.alloc (.cells #[.int .i64 1, .int .i64 0, .bool true] 63)).cell? ⟨wr.heap.size, 2, none⟩ = some (.bool true) := World.cell?_alloc_at _ _ _ 2 rfl
         have O16 := hide (OO.out.alloc (.cells #[.int .i64 1, .int .i64 0, .bool true] 63))
         have K16 := hide (KK.out.alloc KZ (.cells #[.int .i64 1, .int .i64 0, .bool true] 63))
         generalize wr.alloc (.cells #[.int .i64 1, .int .i64 0, .bool true] 63) = w16 at *
         generalize wr.heap.size = sg at *
         have Z16 := K16.out.size
         clear e0 OO KK
         go_wp2_with (at_builtin; refine wpList_append_lies _ rfl (.tmp 233) (.tmp 235) 61 rfl w15.heap.size 63 i0 (.agg #[.int .i64 0, .int .i64 0, .bool false]) 3 24 Tryz.underlying61 J0.out hz0 hz1 hz2 rfl (by omega) (.slice va k vc) k (spCells (M.ptL (rl.take k))) rfl (O16.out.alloc _) ⟨w16.heap.size, 0, none⟩ 1 1 [.int .i64 1, .int .i64 0, .bool true] rfl rfl (World.news_of_block (heap_alloc_new _ _)) (by simp [Value.oneCell']) (by omega) (by unfold maxLen; omega) (by omega) (by simp; omega) (w16.heap.size + 1) (by simp) ?_; intro g3 cap3 w17 ho3 hg3 _ _; have O3 := hide ho3; have K3 := hide ((K16.out.alloc Z16 _).grown hg3 (by simp; omega) (fun q hq => (O16.out.lt q hq).1)); clear ho3 hg3)
         exact ⟨⟨k + 1, _, _, by omega, by go_num, rfl, (by unfold Hid; rw [PS.out, NC.out]; exact O3.out), K3⟩, by show rl.length - ((k : Int) + 1).toNat < rl.length - ((k : Int)).toNat; omega⟩
       · have PS : Hid (M.ptL (rl.take (k + 1)) = M.ptL (rl.take k) ++ [(c, c, false)]) := by unfold Hid; rw [PM.out]; unfold M.ptS; rw [if_neg cn]
         have t1 : (c != -1125899906842624) = true := by
          rw [bne_iff_ne]
          exact cn
         have NC := hide (spCells_snoc (M.ptL (rl.take k)) (c, c, false))
         clear cn PM RC
         go_upto_region 47 with fail
         have s0 : (wr.alloc (.cells #[.int .i64 1, .int .i64 0, .bool true] 63)).cell? ⟨wr.heap.size, 0, none⟩ = some (.int .i64 1) := World.cell?_alloc_at _ _ _ 0 rfl
         have s1 : (wr.alloc (.cells #[.int .i64 1, .int .i64 0, .bool true] 63)).cell? ⟨wr.heap.size, 1, none⟩ = some (.int .i64 0) := World.cell?_alloc_at _ _ _ 1 rfl
         have s2 : (wr.alloc (.cells #[.int .i64 1, .int .i64 0, .bool true] 63)).cell? ⟨wr.heap.size, 2, none⟩ = some (.bool true) := World.cell?_alloc_at _ _ _ 2 rfl
         have fz : ∀ q, (wr.alloc (.cells #[.int .i64 1, .int .i64 0, .bool true] 63)).frozen? ⟨wr.heap.size, q, none⟩ = false := fun q => frozen_fresh _ _ _ q
         have O16 := hide (OO.out.alloc (.cells #[.int .i64 1, .int .i64 0, .bool true] 63))
         have K16 := hide (KK.out.alloc KZ (.cells #[.int .i64 1, .int .i64 0, .bool true] 63))
         have e1 := e0 (.cells #[.int .i64 1, .int .i64 0, .bool true] 63)
         have NW := hide (fun q (hq : (Value.slice va k vc).ownBlock = some q) => (OO.out.lt q hq).2)
         have S16 : Hid ((wr.alloc (.cells #[.int .i64 1, .int .i64 0, .bool true] 63)).heap.size = wr.heap.size + 1) := by unfold Hid; simp
         generalize wr.alloc (.cells #[.int .i64 1, .int .i64 0, .bool true] 63) = w16 at *
         generalize wr.heap.size = sg at *
         have ne1 : ¬ sg = rb := by omega
         have ne2 : ¬ rb = sg := by omega
         have f0 := fz 0
         have f1 := fz 1
         have f2 := fz 2
         clear e0 OO KK fz
         have w15z := K16.out.size
         have gr0 : Hid (w16.grownBy (((w16.setCell ⟨sg, 0, none⟩ (.int .i64 c)).setCell ⟨sg, 1, none⟩ (.int .i64 c)).setCell ⟨sg, 2, none⟩ (.bool false)).drew (some sg)) := ⟨rfl, rfl, rfl, by simp, fun q hq hn => by
          show (((w16.setCell ⟨sg, 0, none⟩ (.int .i64 c)).setCell ⟨sg, 1, none⟩ (.int .i64 c)).setCell ⟨sg, 2, none⟩ (.bool false)).heap[q]? = _
          have ne : q ≠ sg := fun e => hn (by rw [e])
          rw [Below.heap_setCell _ _ _ _ ne, Below.heap_setCell _ _ _ _ ne, Below.heap_setCell _ _ _ _ ne]⟩
         have x0 : (((w16.setCell ⟨sg, 0, none⟩ (.int .i64 c)).setCell ⟨sg, 1, none⟩ (.int .i64 c)).setCell ⟨sg, 2, none⟩ (.bool false)).drew.cell? ⟨sg, 0, none⟩ = some (.int .i64 c) := cell_set_other (cell_set_other (cell_set_same s0) (by decide)) (by decide)
         have x1 : (((w16.setCell ⟨sg, 0, none⟩ (.int .i64 c)).setCell ⟨sg, 1, none⟩ (.int .i64 c)).setCell ⟨sg, 2, none⟩ (.bool false)).drew.cell? ⟨sg, 1, none⟩ = some (.int .i64 c) := cell_set_other (cell_set_same (cell_set_other s1 (by decide))) (by decide)
         have x2 : (((w16.setCell ⟨sg, 0, none⟩ (.int .i64 c)).setCell ⟨sg, 1, none⟩ (.int .i64 c)).setCell ⟨sg, 2, none⟩ (.bool false)).drew.cell? ⟨sg, 2, none⟩ = some (.bool false) := cell_set_same (cell_set_other (cell_set_other s2 (by decide)) (by decide))
         have XX := hide (And.intro x0 (And.intro x1 x2))
         have O17 := hide (O16.out.kept gr0.out (.inr (fun e => by have := NW.out sg e; omega)))
         have K17 := hide (K16.out.grown gr0.out w15z (fun q hq => by cases hq; exact KZ))
         clear x0 x1 x2
         go_region_with (fail)
         all_goals (
          clear s0 s1 s2 f0 f1 f2 e1
          obtain ⟨x0, x1, x2⟩ := XX.out
          clear XX gr0
          generalize (((w16.setCell ⟨sg, 0, none⟩ (.int .i64 c)).setCell ⟨sg, 1, none⟩ (.int .i64 c)).setCell ⟨sg, 2, none⟩ (.bool false)).drew = w17 at *
          have Z17 := K17.out.size
          go_wp2_with (at_builtin; refine wpList_append_lies _ rfl (.tmp 233) (.tmp 235) 61 rfl w15.heap.size 63 i0 (.agg #[.int .i64 0, .int .i64 0, .bool false]) 3 24 Tryz.underlying61 J0.out hz0 hz1 hz2 rfl (by omega) (.slice va k vc) k (spCells (M.ptL (rl.take k))) rfl (O17.out.alloc _) ⟨w17.heap.size, 0, none⟩ 1 1 [.int .i64 c, .int .i64 c, .bool false] rfl rfl (World.news_of_block (heap_alloc_new _ _)) (by simp [Value.oneCell']) (by omega) (by unfold maxLen; omega) (by omega) (by simp; omega) (w17.heap.size + 1) (by simp) ?_; intro g3 cap3 w18 ho3 hg3 _ _; have O3 := hide ho3; have K3 := hide ((K17.out.alloc Z17 _).grown hg3 (by simp; omega) (fun q hq => (O17.out.lt q hq).1)); clear ho3 hg3)
          exact ⟨⟨k + 1, _, _, by omega, by go_num, rfl, (by unfold Hid; rw [PS.out, NC.out]; exact O3.out), K3⟩, by show rl.length - ((k : Int) + 1).toNat < rl.length - ((k : Int)).toNat; omega⟩)
     · have kz : ¬ ((k : Int) < (rl.length : Int)) := by omega
       have ek : k = rl.length := by omega
       subst ek
       rw [List.take_length] at OO
       obtain ⟨sa, sc, e1, rs⟩ := own_rdS (M.ptL_len rl) (by unfold maxLen; omega) OO.out
       cases e1
       have BW1 := hide (below_on B15.out KK.out)
       have LG1 := hide (LG.out _ BW1.out va vc rs)
       have X16 := X11.out.up BW1.out
       have c0 := X16.c0
       have c1 := X16.c1
       have c2 := X16.c2
       have c3 := X16.c3
       have g1 : decide (lo ≤ eV) = true := decide_eq_true bd1
       have g2 : decide (eV ≤ hi) = true := decide_eq_true bd2
       clear X16 LG rs OO J0 bd1 bd2
       go_upto_region 50 with (go_at_call 21; refine LG1.out.mono ?_; rintro e w16 ⟨rfl, b16⟩; have KE := hide (below_on K11.out (below_on BW1.out b16)); clear b16)
       clear c0 c1 c2 c3 LG1
       go_wp2
       go_ret
       exact ⟨rfl, KE.out⟩
theorem tsame_all (a ra : Option Addr) (xs : List Sx) (rl : List Int) (ca rc : Nat) (m r s z : Int) (w : World) (h : RdL w a xs) (hr : Rd w ra rl) (h1 : -9223372036854775808 ≤ m ∧ m ≤ 9223372036854775807) (h2 : -9223372036854775808 ≤ r ∧ r ≤ 9223372036854775807) (h3 : -9223372036854775808 ≤ s ∧ s ≤ 9223372036854775807) (h4 : -9223372036854775808 ≤ z ∧ z ≤ 9223372036854775807) (hL : Lays w) :
 Calls Tryz.prog 3 #[.slice a xs.length ca, .int .i64 m, .int .i64 r, .int .i64 s, .int .i64 z, .slice ra rl.length rc] w fun e w' => e = .returned (.bool true) ∧ Below w.heap.size w w' :=
 tsame_walk a xs ca m r s z ra rl rc w (fun e W hW => error_self e W (hL.below hW)) h hr h4.1 h4.2
end Go.Proofs.YtelncekgjfpogahGreatDoor
