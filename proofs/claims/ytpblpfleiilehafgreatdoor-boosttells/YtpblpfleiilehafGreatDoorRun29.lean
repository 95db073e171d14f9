/-
  Several texts as one: BooTbt, BooMean.
-/
import Derived.Test.YtpblpfleiilehafGreatDoorRun22
import Derived.Test.YtpblpfleiilehafGreatDoorRun26
import Derived.Test.YtpblpfleiilehafGreatDoorRun28
import Derived.Deep.CutBlock
import Derived.Deep.AppendLies
import Derived.Test.YtpblpfleiilehafGreatDoorRun21
import Derived.Test.YtpblpfleiilehafGreatDoorRun17
import Derived.Deep.Cut
import Derived.BigQuiet
import Derived.Deep.QuietTactic
import Derived.OwnWalk
namespace Go.Proofs.YtpblpfleiilehafGreatDoor
open Go.ChangeShapes Go.WideShapes Go.ChangeAt Go.RowKit Go.Lib
set_option linter.unusedVariables false

theorem M.sam_good {l : List M.Sa} {m : Nat} (h : M.GoodS l m) (hl : 0 < l.length) : (M.samF l (m : Int)).2 = 0 := by
  have := M.sam_all (l := l) (m := (m : Int)) h.le hl ⟨by omega, by have := h.m8; omega⟩ fun j hj => by
    have e : M.sAt l j = l[j] := by unfold M.sAt; rw [M.getD_at hj]
    rw [e]
    obtain ⟨z1, z2, z3, z4⟩ := h.each l[j] (List.getElem_mem hj)
    unfold M.sa1F
    rw [if_neg (by simp [z1]), if_neg (by omega)]
    simp [z2, z4]
  rw [this]
theorem lf_less (v : Int) : ∀ xs : List Sx, M.lessL (.lf v) (sms xs) (tgs xs) = (sms xs).map (fun s => s.2 - v)
  | [] => rfl
  | x :: xs => by
    show (x.2.2.2 - v) :: M.lessL (.lf v) (sms xs) (tgs xs) = (x.2.2.2 - v) :: (sms xs).map (fun s => s.2 - v)
    rw [lf_less v xs]
/-- what is left behind a tree that is right -/
theorem bleft_tree (T : M.BT) (ta : Option Addr) (tc : Nat) (a ra : Option Addr) (xs : List Sx) (R : List Int) (ca rc mn : Nat) (w : World) (h : RdL w a xs) (hr : Rd w ra R) (G : M.GoodS (sms xs) mn) (hR : R.length = xs.length) (hb : ∀ x ∈ R, -10000 ≤ x ∧ x ≤ 10000) (ok : M.okB (mn : Int) T) (hi : M.inV 1000 T) (hs : T.size ≤ 63) (hd : T.deep ≤ 10) (ht : RdN w ta (M.lay T 0)) :
    Calls Tryz.prog 64 #[.slice ta T.size tc, .slice a xs.length ca, .slice ra xs.length rc] w fun e w' => e = .returned (.tuple #[.slice (some ⟨w.heap.size, 0, none⟩) xs.length xs.length, .nilIface]) ∧ w'.ownsRow w.heap.size 3 1 (.slice (some ⟨w.heap.size, 0, none⟩) xs.length xs.length) xs.length ((M.lessL T (sms xs) R).map (Value.int .i64)) ∧ Below w.heap.size w w' := by
  have x60 : xs.length ≤ 60 := by have := G.le; rw [sms_len] at this; exact this
  have m8 := G.m8
  have tr : (M.treeF (M.lay T 0) (mn : Int)).2 = 0 := M.lay_tree ok (by omega) (by omega) hs hd
  have rl : R.length = (sms xs).length := by rw [sms_len]; exact hR
  have V : ∀ k (hk : k < xs.length), (xs.map fun x => M.evB T x.2.1).getD k 0 = M.evB T xs[k].2.1 := fun k hk => by
    rw [M.getD_at (by simpa using hk), List.getElem_map]
  refine bleft_any ta T.size tc a ra xs R (xs.map fun x => M.evB T x.2.1) (M.lessL T (sms xs) R) ca rc w h hr (by omega) hR (by rw [M.less_len T _ _ rl, sms_len]) (fun k hk => ?_) (fun k hk W hW => ?_)
  · have e := M.less_at T (sms xs) R rl k (by rw [sms_len]; exact hk)
    rw [sms_at xs hk] at e
    rw [V k hk, M.getD_at (show k < R.length by omega)] at *
    have := hb R[k] (List.getElem_mem _)
    have := M.in_ev xs[k].2.1 T hi
    exact ⟨e, by omega, by omega, by omega, by omega⟩
  · have g := G.each (sm xs[k]) (List.mem_map.2 ⟨_, List.getElem_mem hk, rfl⟩)
    have g1 : M.rowF xs[k].2.1 = 0 := g.1
    have g2 : xs[k].2.1.length = mn := g.2.1
    have q := M.lay_eval (T := T) (r := xs[k].2.1) (by rw [g2]; exact ok) (by rw [g2]; exact tr) g1
    have z := eval_any ta xs[k].1 (M.lay T 0) xs[k].2.1 tc xs[k].2.2.1 W (ht.below hW) ((h.2.1 _ (List.getElem_mem hk)).below hW)
    rw [q.1, q.2, err_nil rfl, M.lay_len] at z
    rw [V k hk]
    exact z

set_option maxHeartbeats 16000000 in
set_option maxRecDepth 10000 in
theorem btbt_any (a : Option Addr) (xs : List Sx) (ca mn dn : Nat) (r s : Int) (w : World) (h : RdL w a xs) (hB : M.booF (sms xs) (mn : Int) r (dn : Int) s = 0) :
    Calls Tryz.prog 40 #[.slice a xs.length ca, .int .i64 (mn : Int), .int .i64 r, .int .i64 (dn : Int), .int .i64 s] w fun e w' => ∃ bx tc C, e = .returned (.tuple #[.slice (some ⟨bx, 0, none⟩) (List.length (α := Tc) C) tc, .nilIface]) ∧ MO w w.heap.size (.slice (some ⟨bx, 0, none⟩) C.length tc) C w' ∧ LayC C (M.boR mn dn s (sms xs) r.toNat).1 := by
  obtain ⟨gk, r0, r8, d1, d4, s1, s2⟩ := M.boo_ok hB
  obtain ⟨G, hp, hm, _⟩ := M.sam_ok gk
  rw [Int.toNat_natCast] at G
  rw [sms_len] at hp
  have x60 : xs.length ≤ 60 := by have := G.le; rw [sms_len] at this; exact this
  have hps : 0 < (sms xs).length := by rw [sms_len]; exact hp
  have d4' : dn ≤ 4 := by omega
  have HL := hide h
  have HG := hide G
  have mi := M.mean_in G hps
  have okf : M.okB (mn : Int) (.lf (M.meanS (sms xs))) := M.out_in (by omega) (by omega)
  have F1 : Hid (Calls Tryz.prog 11 #[.slice a xs.length ca, .int .i64 (mn : Int), .int .i64 0, .int .i64 1] w fun e w' => ∃ g c, e = .returned (.tuple #[.slice (some ⟨g, 0, none⟩) 1 c, .nilIface]) ∧ w'.ownsRow w.heap.size 72 6 (.slice (some ⟨g, 0, none⟩) 1 c) 1 (ndCells (M.lay (.lf (M.meanS (sms xs))) 0)) ∧ Below w.heap.size w w') := by
    have e0 : M.grwF (sms xs) (mn : Int) 0 1 = 0 := M.grwF_ok gk (by omega)
    have e1 : M.grwT (sms xs) (mn : Int) 0 1 = M.lay (.lf (M.meanS (sms xs))) 0 := by
      unfold M.grwT; rw [if_pos e0]; rfl
    have := grofit_own a xs ca (mn : Int) 0 1 w h e0
    rw [e1] at this
    exact this
  have F2 : Hid (∀ W, Below w.heap.size w W → Calls Tryz.prog 65 #[.slice a xs.length ca] W fun e w' => e = .returned (.slice (some ⟨W.heap.size, 0, none⟩) xs.length xs.length) ∧ Rd w' (some ⟨W.heap.size, 0, none⟩) (tgs xs) ∧ Below W.heap.size W w') := fun W hW => btgt_any a xs ca W (h.below hW) (by omega)
  have tb : ∀ x ∈ tgs xs, -10000 ≤ x ∧ x ≤ 10000 := fun x hx => by
    obtain ⟨y, hy, rfl⟩ := List.mem_map.1 hx
    have := (G.each (sm y) (List.mem_map.2 ⟨y, hy, rfl⟩)).2.2.1
    have t1 : -1000 ≤ y.2.2.2 ∧ y.2.2.2 ≤ 1000 := this
    omega
  have F3 : Hid (∀ W ta tc rb, Below w.heap.size w W → RdN W ta (M.lay (.lf (M.meanS (sms xs))) 0) → Rd W (some ⟨rb, 0, none⟩) (tgs xs) → Calls Tryz.prog 64 #[.slice ta 1 tc, .slice a xs.length ca, .slice (some ⟨rb, 0, none⟩) xs.length xs.length] W fun e w' => e = .returned (.tuple #[.slice (some ⟨W.heap.size, 0, none⟩) xs.length xs.length, .nilIface]) ∧ w'.ownsRow W.heap.size 3 1 (.slice (some ⟨W.heap.size, 0, none⟩) xs.length xs.length) xs.length ((M.bo0 (sms xs)).2.1.map (Value.int .i64)) ∧ Below W.heap.size W w') := fun W ta tc rb hW ht hr => by
    have := bleft_tree (.lf (M.meanS (sms xs))) ta tc a (some ⟨rb, 0, none⟩) xs (tgs xs) ca xs.length mn W (h.below hW) hr G (tgs_len xs) tb okf mi (show 1 ≤ 63 by decide) (Nat.zero_le _) ht
    rw [lf_less] at this
    exact this
  obtain ⟨i1, hi1, jz0, jz1, jz2⟩ := info_parts (show (Tryz.prog.info? 23).map (fun i => (i.zero, i.size, i.bytes)) = some (some (.slice none 0 0), 1, 24) by kernel_rfl)
  have I1 := hide hi1
  have E0 : Hid (M.boR mn dn s (sms xs) 0 = ([.lf (M.meanS (sms xs))], (M.bo0 (sms xs)).2.1, false)) := rfl
  have LN : Hid ((M.lay (.lf (M.meanS (sms xs))) 0).length = 1) := rfl
  clear h G hi1 gk okf tb hm mi hB
  generalize (M.bo0 (sms xs)).2.1 = R0 at *
  generalize M.meanS (sms xs) = mv at *
  go_enter Tryz.func40, Tryz.ntmps40
  go_upto_region 7 with (first
    | (go_at_call 11; refine F1.out.mono ?_; rintro e w1 ⟨g1, c1, rfl, ho1, hb1⟩; have O1 := hide ho1; have K1 := hide hb1; clear ho1 hb1)
    | (go_at_call 65; refine (F2.out _ K1.out).mono ?_; rintro e w2 ⟨rfl, hr2, hb2⟩; have R2 := hide hr2; have J2 := hide hb2; have K2 := hide (below_on K1.out hb2); clear hr2 hb2)
    | (go_at_call 64; obtain ⟨pa, pc, pe, pr, _⟩ := own_rdN LN.out (by unfold maxLen; omega) (own_up O1.out J2.out); rw [Value.slice.injEq] at pe; refine (F3.out w2 _ c1 _ K2.out (by rw [pe.1]; exact pr) R2.out).mono ?_; rintro e w3 ⟨rfl, ho3, hb3⟩; have O3 := hide ho3; have J3 := hide hb3; have K3 := hide (below_on K2.out hb3); clear ho3 hb3 pe pr))
  have T3 : Hid (w3.ownsRow w.heap.size 72 6 (tV (some ⟨g1, 0, none⟩, M.lay (.lf mv) 0, c1)) (M.lay (.lf mv) 0).length (ndCells (M.lay (.lf mv) 0))) := own_up (own_up O1.out J2.out) J3.out
  go_upto_block 0 with fail
  obtain ⟨w4, hw4⟩ : ∃ V, V = w3.alloc (.cells #[.slice (some ⟨g1, 0, none⟩) 1 c1] 23) := ⟨_, rfl⟩
  have S4 : Hid (MO w w.heap.size (.slice (some ⟨w3.heap.size, 0, none⟩) 1 1) [(some ⟨g1, 0, none⟩, M.lay (.lf mv) 0, c1)] w4) := by
    unfold Hid
    rw [hw4]
    exact MO.one K3.out (Nat.le_refl _) K3.out.size T3.out (q := g1) rfl _ rfl
  have O4 : Hid (w4.ownsRow w.heap.size 3 1 (.slice (some ⟨w2.heap.size, 0, none⟩) xs.length xs.length) xs.length (R0.map (Value.int .i64))) := by
    unfold Hid
    rw [hw4]
    exact own_up (own_low K2.out.size O3.out) ((Below.refl _ w3).alloc (Nat.le_refl _) _)
  have N4 : Hid (w3.heap.size ≠ w2.heap.size) := fun e => by
    have := (O3.out.lt w2.heap.size rfl).2
    omega
  have C4 : Hid (LayC [(some ⟨g1, 0, none⟩, M.lay (.lf mv) 0, c1)] [.lf mv]) := rfl
  rw [← hw4]
  clear hw4 T3 O1 O3 R2 J2 J3 K1 K2 K3 F1 F2 F3 LN
  go_cut [14, 15] from 16 to 76 (fun _ v wx => ∃ (bx tc : Nat) (C : List Tc), v = .slice (some ⟨bx, 0, none⟩) C.length tc ∧ Hid (LayC C (M.boR mn dn s (sms xs) r.toNat).1) ∧ Hid (MO w w.heap.size (.slice (some ⟨bx, 0, none⟩) C.length tc) C wx))
  case first =>
    go_wp2
    go_loopw [14, 15, 42] (fun u v i wq => ∃ (k lb bx tc : Nat) (L : List M.BT) (R : List Int) (C : List Tc), (k : Int) ≤ r ∧ i = .int .i64 k ∧ u = .slice (some ⟨lb, 0, none⟩) xs.length xs.length ∧ v = .slice (some ⟨bx, 0, none⟩) C.length tc ∧ Hid (M.boR mn dn s (sms xs) k = (L, R, false)) ∧ Hid (LayC C L) ∧ Hid (MO w w.heap.size (.slice (some ⟨bx, 0, none⟩) C.length tc) C wq) ∧ Hid (wq.ownsRow w.heap.size 3 1 (.slice (some ⟨lb, 0, none⟩) xs.length xs.length) xs.length (R.map (Value.int .i64))) ∧ Hid (bx ≠ lb)) (fun _ _ i _ => r.toNat - (intOf i).toNat)
    case atStart => exact ⟨0, _, _, _, _, R0, _, by simpa using r0, rfl, rfl, rfl, E0, C4, S4, O4, N4⟩
    case round =>
      clear E0 C4 S4 O4 N4
      obtain ⟨k, lb, bx, tc, L, R, C, hk, rfl, rfl, rfl, EB, LC, S, O, NB⟩ := hrel
      by_cases hlt : (k : Int) < r
      · have t1 : decide ((k : Int) < r) = true := decide_eq_true hlt
        have I := M.bo_all (m := mn) (dp := dn) (share := s) HG.out (by rw [sms_len]; exact hp) s1 s2 k
        have len : R.length = xs.length := by have := I.len; rw [EB.out, sms_len] at this; exact this
        have ir := I
        rw [EB.out] at ir
        have br := M.bo_round (share := s) HG.out (by rw [sms_len]; exact hp) s1 s2 (by omega) (by omega) ir
        have C9 : C.length ≤ 9 := by
          have e1 := congrArg List.length LC.out
          rw [List.length_map, List.length_map] at e1
          have e3 : L.length ≤ k + 1 := ir.tk
          omega
        have rls : R.length = (sms xs).length := by rw [sms_len]; exact len
        have G2 := M.les_good HG.out rls
        have ll : 0 < (M.lesS (sms xs) R).length := by rw [M.les_len _ _ rls]; exact hps
        have gi := M.grow_in (m := mn) (least := 1) (Int.le_refl _) dn G2 ll
        have gok := M.grow_ok (m := mn) (least := 1) (Int.le_refl _) dn G2 ll
        have gd := M.grow_deep mn 1 dn (M.lesS (sms xs) R)
        have bi : M.inV 1000 (M.boT mn dn s (sms xs) R) := M.sc_in (fun v a b => M.shr_in s1 s2 v a b) _ gi
        have bo : M.okB (mn : Int) (M.boT mn dn s (sms xs) R) := M.sc_ok (fun v a b => by have := M.shr_in s1 s2 v a b; exact M.out_in (by omega) (by omega)) _ gok gi
        have bd : (M.boT mn dn s (sms xs) R).deep ≤ 10 := by unfold M.boT; rw [M.sc_deep]; have := gd.1; omega
        have hS : M.grwF (M.lesS (sms xs) R) (mn : Int) (dn : Int) 1 = 0 := M.grwF_ok (M.sam_good G2 ll) (by omega)
        have RDR : Rd wr (some ⟨lb, 0, none⟩) R := by
          have ho := O.out
          rw [← len] at ho
          obtain ⟨pa, pc, hp1, hp2, _⟩ := own_rd ho
          cases hp1
          exact hp2
        have KS := S.out.below
        have P1 := hide (btree_any grofit_own a (some ⟨lb, 0, none⟩) xs R ca xs.length mn dn s wr (HL.out.below KS) RDR hp len HG.out hS s1 s2 d4')
        have P2 : Hid (∀ W ta tc, Below wr.heap.size wr W → RdN W ta (M.lay (M.boT mn dn s (sms xs) R) 0) → Calls Tryz.prog 64 #[.slice ta (M.boT mn dn s (sms xs) R).size tc, .slice a xs.length ca, .slice (some ⟨lb, 0, none⟩) xs.length xs.length] W fun e w' => e = .returned (.tuple #[.slice (some ⟨W.heap.size, 0, none⟩) xs.length xs.length, .nilIface]) ∧ w'.ownsRow W.heap.size 3 1 (.slice (some ⟨W.heap.size, 0, none⟩) xs.length xs.length) xs.length ((M.lessL (M.boT mn dn s (sms xs) R) (sms xs) R).map (Value.int .i64)) ∧ Below W.heap.size W w') := fun W ta tc hW ht =>
          bleft_tree (M.boT mn dn s (sms xs) R) ta tc a (some ⟨lb, 0, none⟩) xs R ca xs.length mn W (HL.out.below (below_on KS hW)) (RDR.below hW) HG.out len br.2.1 bo bi (by have := br.2.2.1; omega) bd ht
        have nl : (M.lessL (M.boT mn dn s (sms xs) R) (sms xs) R).length = xs.length := by rw [M.less_len _ _ _ rls, sms_len]
        have ni := M.less_in (T := M.boT mn dn s (sms xs) R) (l := sms xs) rls br.2.1 (fun q hq => M.in_ev q.1 _ bi)
        have P3 : Hid (∀ W nb, W.ownsRow w.heap.size 3 1 (.slice (some ⟨nb, 0, none⟩) xs.length xs.length) xs.length ((M.lessL (M.boT mn dn s (sms xs) R) (sms xs) R).map (Value.int .i64)) → Calls Tryz.prog 47 #[.slice (some ⟨nb, 0, none⟩) xs.length xs.length] W fun e w' => e = .returned (.int .i64 (M.sqs (M.lessL (M.boT mn dn s (sms xs) R) (sms xs) R))) ∧ Below W.heap.size W w') := fun W nb ho => by
          rw [← nl] at ho
          obtain ⟨pa, pc, hp1, hp2, _⟩ := own_rd ho
          cases hp1
          have z := bsq_any (some ⟨nb, 0, none⟩) _ xs.length W hp2 (by omega)
          rw [M.sqF_in ni (by omega), nl] at z
          exact z
        have P4 : Hid (∀ W, Below wr.heap.size wr W → Calls Tryz.prog 47 #[.slice (some ⟨lb, 0, none⟩) xs.length xs.length] W fun e w' => e = .returned (.int .i64 (M.sqs R)) ∧ Below W.heap.size W w') := fun W hW => by
          have z := bsq_any (some ⟨lb, 0, none⟩) R xs.length W (RDR.below hW) (by omega)
          rw [M.sqF_in (fun x hx => by have := br.2.1 x hx; omega) (by omega), len] at z
          exact z
        have LB : Hid ((M.lay (M.boT mn dn s (sms xs) R) 0).length = (M.boT mn dn s (sms xs) R).size) := M.lay_len _ 0
        have bs : (M.boT mn dn s (sms xs) R).size ≤ 31 := br.2.2.1
        have EN := hide (fun hq => M.bo_end EB.out (show M.sqs R ≤ M.sqs (M.lessL (M.boT mn dn s (sms xs) R) (sms xs) R) from hq))
        have EO := hide (fun hq => M.bo_on EB.out (show ¬ M.sqs R ≤ M.sqs (M.lessL (M.boT mn dn s (sms xs) R) (sms xs) R) from hq))
        clear I len ir br rls G2 ll gi gok gd bi bo bd hS RDR KS nl ni
        generalize M.lessL (M.boT mn dn s (sms xs) R) (sms xs) R = NX at *
        generalize M.boT mn dn s (sms xs) R = BT at *
        by_cases hq : M.sqs R ≤ M.sqs NX
        · have t2 : decide (M.sqs R ≤ M.sqs NX) = true := decide_eq_true hq
          have EE : Hid (LayC C (M.boR mn dn s (sms xs) r.toNat).1) := by
            have e1 := EN.out hq
            have e2 := M.bo_stay (by rw [e1]) (r.toNat - (k + 1))
            rw [e1] at e2
            have e3 : k + 1 + (r.toNat - (k + 1)) = r.toNat := by omega
            rw [e3] at e2
            unfold Hid; rw [e2]; exact LC.out
          clear hq EN EO EB LC
          generalize M.sqs R = qr at *
          generalize M.sqs NX = qn at *
          go_wp2_with (first
            | (go_at_call 66; refine P1.out.mono ?_; rintro e w5 ⟨g5, c5, rfl, ho5, hb5⟩; have O5 := hide ho5; have K5 := hide hb5; clear ho5 hb5)
            | (go_at_call 64; obtain ⟨pa, pc, pe, pr, _⟩ := own_rdN LB.out (by unfold maxLen; omega) O5.out; rw [Value.slice.injEq] at pe; refine (P2.out w5 _ c5 K5.out (by rw [pe.1]; exact pr)).mono ?_; rintro e w6 ⟨rfl, ho6, hb6⟩; have O6 := hide (own_low (below_on S.out.below K5.out).size ho6); have J6 := hide hb6; have K6 := hide (below_on K5.out hb6); clear ho6 hb6 pe pr)
            | (go_at_call 47; have lean := K7; refine (P4.out _ K7.out).mono ?_; rintro e w8 ⟨rfl, h8⟩; have J8 := hide (below_on J7.out h8); have K8 := hide (below_on K7.out h8); clear h8)
            | (go_at_call 47; refine (P3.out w6 _ O6.out).mono ?_; rintro e w7 ⟨rfl, h7⟩; have J7 := hide h7; have K7 := hide (below_on K6.out h7); clear h7))
          have S8 := hide (S.out.up K8.out)
          clear P1 P2 P3 P4 O5 O6 J6 J7 J8 K5 K6 K7 K8 S O
          go_meet
          case rel => exact ⟨bx, tc, C, rfl, EE, S8⟩
        · have t2 : decide (M.sqs R ≤ M.sqs NX) = false := decide_eq_false hq
          have EE : Hid (M.boR mn dn s (sms xs) (k + 1) = (L ++ [BT], NX, false)) := EO.out hq
          clear hq EN EO EB
          generalize M.sqs R = qr at *
          generalize M.sqs NX = qn at *
          go_upto_region 17 with (first
            | (go_at_call 66; refine P1.out.mono ?_; rintro e w5 ⟨g5, c5, rfl, ho5, hb5⟩; have O5 := hide ho5; have K5 := hide hb5; clear ho5 hb5)
            | (go_at_call 64; obtain ⟨pa, pc, pe, pr, _⟩ := own_rdN LB.out (by unfold maxLen; omega) O5.out; rw [Value.slice.injEq] at pe; refine (P2.out w5 _ c5 K5.out (by rw [pe.1]; exact pr)).mono ?_; rintro e w6 ⟨rfl, ho6, hb6⟩; have O6 := hide (own_low (below_on S.out.below K5.out).size ho6); have J6 := hide hb6; have K6 := hide (below_on K5.out hb6); clear ho6 hb6 pe pr)
            | (go_at_call 47; have lean := K7; refine (P4.out _ K7.out).mono ?_; rintro e w8 ⟨rfl, h8⟩; have J8 := hide (below_on J7.out h8); have K8 := hide (below_on K7.out h8); clear h8)
            | (go_at_call 47; refine (P3.out w6 _ O6.out).mono ?_; rintro e w7 ⟨rfl, h7⟩; have J7 := hide h7; have K7 := hide (below_on K6.out h7); clear h7))
          have TX : Hid (∀ g, tV (some ⟨g, 0, none⟩, M.lay BT 0, c5) = .slice (some ⟨g, 0, none⟩) BT.size c5) := fun g => by unfold tV; rw [LB.out]
          have LC2 : Hid (LayC (C ++ [(some ⟨g5, 0, none⟩, M.lay BT 0, c5)]) (L ++ [BT])) := by
            have e1 := LC.out
            unfold LayC at e1
            unfold Hid LayC
            rw [List.map_append, List.map_append, e1]; rfl
          have xlt : bx < wr.heap.size := (S.out.own.lt bx rfl).2
          have llt : lb < wr.heap.size := (O.out.lt lb rfl).2
          have g5w : wr.heap.size ≤ g5 := (O5.out.lt g5 rfl).1
          have g5l : g5 < w5.heap.size := (O5.out.lt g5 rfl).2
          have n6 : w5.heap.size < w6.heap.size := (O6.out.lt w5.heap.size rfl).2
          have s8 := K8.out.size
          have j8 := J8.out.size
          have S8 := hide (S.out.up K8.out)
          have O8 := hide (own_up (own_up (own_low S.out.below.size O5.out) J6.out) J8.out)
          have N8 := hide (own_up O6.out J8.out)
          have WO := hide S8.out.own
          have ws8 : w.heap.size ≤ w8.heap.size := S8.out.below.size
          have FS : Hid (∀ (o : Obj) (w9 : World) (g cap : Nat), w9.ownsRow w.heap.size 23 1 (.slice (some ⟨g, 0, none⟩) (C.length + 1) cap) (C.length + 1) (C.map tV ++ [.slice (some ⟨g5, 0, none⟩) BT.size c5]) → (w8.alloc o).grownBy w9 (some bx) → (some bx = some g ∨ g = w8.heap.size + 1) → MO w w.heap.size (.slice (some ⟨g, 0, none⟩) (C.length + 1) cap) (C ++ [(some ⟨g5, 0, none⟩, M.lay BT 0, c5)]) w9 ∧ w9.ownsRow w.heap.size 3 1 (.slice (some ⟨w5.heap.size, 0, none⟩) xs.length xs.length) xs.length (NX.map (Value.int .i64)) ∧ g ≠ w5.heap.size) := fun o w9 g cap h1 h2 h3 => by
            refine ⟨?_, ?_, ?_⟩
            · refine S8.out.more (t := (some ⟨g5, 0, none⟩, M.lay BT 0, c5)) (q := g5) ?_ ?_ ?_ ?_ (o := o) ?_ h2 h3
              · rw [TX.out, LB.out]; exact O8.out
              · rw [TX.out]; rfl
              · intro e
                have e' : bx = g5 := by simpa [Value.ownBlock] using e
                omega
              · intro i hi e
                have := ((S.out.trees i hi).lt g5 e).2
                omega
              · rw [TX.out]; exact h1
            · have hgr : w8.grownBy w9 (some bx) := grown_trans (World.grownBy_alloc w8 o _) h2 (.inl rfl)
              refine N8.out.kept hgr (.inr fun e => ?_)
              have e' : w5.heap.size = bx := by simpa [Value.ownBlock] using e
              omega
            · rcases h3 with z | z
              · have z' : bx = g := by simpa using z
                omega
              · omega
          clear P1 P2 P3 P4 O5 O6 J6 J7 J8 K5 K6 K7 K8 S O S8 O8 N8 LC TX xlt llt g5w g5l n6 s8 j8 LB
          go_wp2_with (at_builtin; refine wpList_append_lies _ rfl (.tmp 71) (.tmp 73) 43 rfl w.heap.size 23 i1 (.slice none 0 0) 1 24 Tryz.underlying43 I1.out jz0 jz1 jz2 rfl (by omega) (.slice (some ⟨bx, 0, none⟩) C.length tc) C.length (C.map tV) rfl (WO.out.alloc _) ⟨w8.heap.size, 0, none⟩ 1 1 [.slice (some ⟨g5, 0, none⟩) BT.size c5] rfl rfl (World.news_of_block (heap_alloc_new _ _)) (by simp [Value.oneCell']) (by omega) (by unfold maxLen; omega) (by omega) (by simp; omega) (w8.heap.size + 1) (by simp) ?_; intro g9 c9 w9 hov hgrow hat hlt9; have F9 := hide (FS.out _ w9 g9 c9 hov hgrow hat); clear hov hgrow hat)
          go_roundw
          case rel => exact ⟨k + 1, _, g9, c9, L ++ [BT], NX, C ++ [(some ⟨g5, 0, none⟩, M.lay BT 0, c5)], by omega, by go_num, rfl, by simp, EE, LC2, by unfold Hid; rw [List.length_append]; exact F9.out.1, F9.out.2.1, F9.out.2.2⟩
          case measure => simp [intOf]; omega
      · have t1 : decide ((k : Int) < r) = false := decide_eq_false hlt
        have kr : Hid (r.toNat = k) := by unfold Hid; omega
        have LC2 : Hid (LayC C (M.boR mn dn s (sms xs) r.toNat).1) := by unfold Hid; rw [kr.out, EB.out]; exact LC.out
        clear EB LC O NB kr
        go_wp2
        go_meet
        case rel => exact ⟨bx, tc, C, rfl, LC2, S⟩
  case rest =>
    obtain ⟨bx, tc, C, rfl, LC, S⟩ := hcut
    go_wp2
    go_ret2
    exact ⟨bx, tc, C, rfl, S.out, LC.out⟩

end Go.Proofs.YtpblpfleiilehafGreatDoor

namespace Go.Proofs.YtpblpfleiilehafGreatDoor
open Go.ChangeShapes Go.WideShapes Go.ChangeAt Go.RowKit Go.Lib
set_option linter.unusedVariables false

theorem mw_start {w W : World} {B : Nat} {m : Int} {x : Value} {C : List Tc} (h : MO w B x C W) (a0 a1 a2 a3 : Value) (t0 t1 : TypeId) (W2 : World) (hW : W2 = (W.alloc (.cells #[a0, a1, a2, a3] t0)).alloc (.cells #[.int .i64 m, .int .i64 2, .slice none 0 0, x] t1)) : MW w B W.heap.size m (.slice none 0 0) x C 0 W2 := by
  obtain ⟨W1, hW1⟩ : ∃ V, V = W.alloc (.cells #[a0, a1, a2, a3] t0) := ⟨_, rfl⟩
  rw [← hW1] at hW
  have z1 : W1.heap.size = W.heap.size + 1 := by rw [hW1]; simp
  have b1 : Below W.heap.size W W1 := by rw [hW1]; exact (Below.refl _ W).alloc (Nat.le_refl _) _
  have b2 : Below W1.heap.size W1 W2 := by rw [hW]; exact (Below.refl _ W1).alloc (Nat.le_refl _) _
  have N1 := new_kept hW1 b2
  have N2 := new_kept hW (Below.refl _ _)
  rw [z1] at N2
  refine ⟨h.up (b1.trans (b2.mono b1.size)), N2.1 0 _ rfl, N2.1 1 _ rfl, N2.1 2 _ rfl, N2.1 3 _ rfl, N2.2, ⟨_, N1.1 0 _ rfl⟩, ⟨_, N1.1 1 _ rfl⟩, ⟨_, N1.1 2 _ rfl⟩, ⟨_, N1.1 3 _ rfl⟩, N1.2, by rw [hW]; simp [z1], h.below.size, fun q hq => (h.own.lt q hq).2, fun i hi q hq => ((h.trees i hi).lt q hq).2, World.ownsRow_nil _ _ _ _⟩

theorem wrap_in7 (x : Int) (h1 : -9007199254740992 ≤ x) (h2 : x ≤ 9007199254740992) : IntKind.i64.wrap x = x := by
  first
    | exact wrap_in5 x (by omega) (by omega)
    | (unfold IntKind.wrap; simp [IntKind.bits, IntKind.signed]; omega)

set_option maxHeartbeats 16000000 in
set_option maxRecDepth 10000 in
theorem bmean_any (w : World) (B bx tc : Nat) (C : List Tc) (m : Int) (W : World) (h : MO w B (.slice (some ⟨bx, 0, none⟩) C.length tc) C W) (n9 : C.length ≤ 9) (hT : ∀ k (hk : k < C.length), C[k].2.1.length ≤ 63) (hv : ∀ k (hk : k < C.length) t, t < C[k].2.1.length → -1000 ≤ M.nv (M.nAt C[k].2.1 t) ∧ M.nv (M.nAt C[k].2.1 t) ≤ 1000) :
    Calls Tryz.prog 41 #[.slice (some ⟨bx, 0, none⟩) C.length tc, .int .i64 m] W fun e w' => ∃ J : Gr, e = .returned J.v ∧ J.m = (m, 2, List.replicate C.length 1, (tl C).map (fun t => t.map (M.scN (M.tmN C.length)))) ∧ NewG w w' J ∧ Below w.heap.size w w' := by
  have HM := hide h
  have VV := hide hv
  have TLn := hide hT
  have FINM : Hid (∀ D, Mix (M.tmN C.length) C D C.length 0 → tl D = (tl C).map fun t => t.map (M.scN (M.tmN C.length))) := fun D hD => hD.fin
  obtain ⟨i0, hi, hz0, hz1, hz2⟩ := info_parts info3
  have I0 := hide hi
  have ST := hide (fun a0 a1 a2 a3 t0 t1 W2 hW => mw_start (m := m) h a0 a1 a2 a3 t0 t1 W2 hW)
  clear h hv hT hi
  go_enter Tryz.func41, Tryz.ntmps41
  go_upto_region 2 with fail
  obtain ⟨w2, hw2⟩ : ∃ V, V = (W.alloc (.cells #[.int .i64 0, .int .i64 0, .slice none 0 0, .slice none 0 0] 45)).alloc (.cells #[.int .i64 m, .int .i64 2, .slice none 0 0, .slice (some ⟨bx, 0, none⟩) C.length tc] 45) := ⟨_, rfl⟩
  rw [← hw2]
  have S2 := hide (ST.out _ _ _ _ _ _ _ hw2)
  clear hw2 ST HM
  go_wp2
  go_loopw [14] (fun i wq => ∃ (k : Nat) (y : Value) (D : List Tc), k ≤ C.length ∧ i = .int .i64 k ∧ Hid (Mix (M.tmN C.length) C D k 0) ∧ Hid (MW w B W.heap.size m y (.slice (some ⟨bx, 0, none⟩) C.length tc) D k wq)) (fun i _ => C.length - (intOf i).toNat)
  case atStart => exact ⟨0, _, C, Nat.zero_le _, rfl, Mix.start _ _, S2⟩
  case round =>
    obtain ⟨k, y, D, hk, rfl, MX, S⟩ := hrel
    clear S2
    have DL : Hid (D.length = C.length) := MX.out.len
    by_cases hlt : k < C.length
    · have c2 := S.out.c2
      have hdk : k < D.length := by rw [DL.out]; exact hlt
      obtain ⟨q, cap, q1, q2, q3, q4, q5⟩ := S.out.mo.tree k hdk
      have TR0 := (MX.out.tree hlt hdk).2.2
      rw [scK_zero] at TR0
      have el : D[k].2.1.length = C[k].2.1.length := by rw [TR0]
      have cx : wr.cell? ⟨bx, k, none⟩ = some (.slice (some ⟨q, 0, none⟩) C[k].2.1.length cap) := by
        have own := S.out.mo.own
        rw [DL.out] at own
        rw [own.cellAt k (by omega), List.getElem?_map, List.getElem?_eq_getElem hdk]
        show some (tV D[k]) = _
        unfold tV
        rw [q1, q2, el]
      have Q5 : Hid (∀ E : List Tc, ∀ t, Mix (M.tmN C.length) C E k t → ∀ hd : k < E.length, (tV E[k]).ownBlock = some q ∧ E[k].2.1 = scK (M.tmN C.length) C[k].2.1 t ∧ tV E[k] = .slice (some ⟨q, 0, none⟩) C[k].2.1.length cap) := fun E t hE hd => by
        obtain ⟨e1, e2, e3⟩ := hE.tree hlt hd
        obtain ⟨d1, d2, _⟩ := MX.out.tree hlt hdk
        have ev : tV E[k] = .slice (some ⟨q, 0, none⟩) C[k].2.1.length cap := by
          unfold tV
          rw [e1, e2, e3, scK_len, ← d1, ← d2, q1, q2]
        exact ⟨by rw [ev]; rfl, e3, ev⟩
      obtain ⟨ya, yc, rfl⟩ := own_any S.out.wo
      have kz : (k : Int) < (C.length : Int) := by omega
      have k9 : k ≤ 9 := by omega
      have MO := hide (fun (o : Obj) (w5 : World) (g cap : Nat) h1 h2 => S.out.more (o := o) (w5 := w5) (g := g) (cap := cap) h1 h2)
      have WO := hide S.out.wo
      have wsz := S.out.lt
      clear q1 q2 q3 q4 q5 TR0 el hdk
      go_upto_region 6 with (at_builtin; refine wpList_append_lies _ rfl (.tmp 19) (.tmp 20) 42 rfl (W.heap.size + 1 + 1) 3 i0 (.int .i64 0) 1 8 Tryz.underlying42 I0.out hz0 hz1 hz2 rfl (by omega) (.slice ya k yc) k ((List.replicate k (1 : Int)).map (Value.int .i64)) rfl (WO.out.alloc _) ⟨wr.heap.size, 0, none⟩ 1 1 [.int .i64 1] rfl rfl (World.news_of_block (heap_alloc_new _ _)) (by simp [Value.oneCell']) (by omega) (by unfold maxLen; omega) (by omega) (by simp; omega) (wr.heap.size + 1) (by simp) ?_; intro g7 c7 w7 hov7 hgrow7 hat7 hlt7; have F7 := MO.out _ w7 g7 c7 hov7 hgrow7; have f0 := F7.1.1; have f1 := F7.1.2; have B7 := hide F7.2; clear hov7 hgrow7 hat7 F7)
      obtain ⟨w8, hw8⟩ : ∃ V, V = w7.setCell ⟨W.heap.size + 1, 2, none⟩ (.slice (some ⟨g7, 0, none⟩) (k + 1) c7) := ⟨_, rfl⟩
      rw [← hw8] at B7 ⊢
      clear hw8 f0 f1 MO WO c2 S cx
      have VK := hide (VV.out k hlt)
      have TK := TLn.out k hlt
      have TN := hide (fun D t (h : Mix (M.tmN C.length) C D k t) (hd : k < D.length) => h.turn hlt hd)
      have NX := hide (fun D t (h : Mix (M.tmN C.length) C D k t) => h.next hlt)
      have SC := hide (fun t => @scK_cells (M.tmN C.length) C[k].2.1 t)
      have SLn := hide (scK_len (M.tmN C.length) C[k].2.1)
      have SA := hide (fun t => @scK_at (M.tmN C.length) C[k].2.1 t)
      generalize C[k].2.1 = N at *
      go_wp2
      go_loopw [25] (fun j wq => ∃ (t : Nat) (E : List Tc), t ≤ N.length ∧ j = .int .i64 t ∧ Hid (Mix (M.tmN C.length) C E k t) ∧ Hid (MW w B W.heap.size m (.slice (some ⟨g7, 0, none⟩) (k + 1) c7) (.slice (some ⟨bx, 0, none⟩) C.length tc) E (k + 1) wq)) (fun j _ => N.length - (intOf j).toNat)
      case atStart => exact ⟨0, D, Nat.zero_le _, rfl, MX, B7⟩
      case round =>
        clear MX B7 DL
        obtain ⟨t, E, ht, rfl, MX, S⟩ := hrel
        have hd : k < E.length := by rw [MX.out.len]; exact hlt
        obtain ⟨q5, e3, tv2⟩ := Q5.out E t MX.out hd
        have el : E[k].2.1.length = N.length := by rw [e3]; exact SLn.out t
        by_cases tl : t < N.length
        · have tz : (t : Int) < (N.length : Int) := by omega
          obtain ⟨v0, v1⟩ := VK.out t tl
          have tow := S.out.mo.trees k hd
          have hs := SC.out t tl
          rw [tv2, el] at tow
          have cv : wr.cell? ⟨q, t * 6 + 5, none⟩ = some (.int .i64 (M.nv (M.nAt N t))) := by
            have z5 := (ndCells_at E[k].2.1 t (by rw [el]; exact tl)).2.2.2.2.2
            rw [tow.cellAt (t * 6 + 5) (by omega), z5, e3, SA.out t tl]
          have fv : wr.frozen? ⟨q, t * 6 + 5, none⟩ = false := tow.frozenAt _
          have BT : Hid (MW w B W.heap.size m (.slice (some ⟨g7, 0, none⟩) (k + 1) c7) (.slice (some ⟨bx, 0, none⟩) C.length tc) (E.set k (E[k].1, scK (M.tmN C.length) N (t + 1), E[k].2.2)) (k + 1) (wr.setCell ⟨q, t * 6 + 5, none⟩ (.int .i64 (M.tmN C.length (M.nv (M.nAt N t)))))) :=
            S.out.turn k hd q5 (by rw [e3]; exact hs) (by rw [SLn.out, el])
          have MT : Hid (Mix (M.tmN C.length) C (E.set k (E[k].1, scK (M.tmN C.length) N (t + 1), E[k].2.2)) k (t + 1)) := TN.out E t MX.out hd
          have tm : M.tmN C.length (M.nv (M.nAt N t)) = M.nv (M.nAt N t) * (C.length : Int) := rfl
          have tb := M.tm_in n9 (M.nv (M.nAt N t)) v0 v1
          rw [tm] at tb BT
          have w1 : IntKind.i64.wrap (M.nv (M.nAt N t) * (C.length : Int)) = M.nv (M.nAt N t) * (C.length : Int) := wrap_in7 _ (by omega) (by omega)
          have FT := hide (fun w => fitto_in (M.nv (M.nAt N t) * (C.length : Int)) w (by omega) (by omega))
          clear tow tv2 hs e3 el tm tb VV TLn FINM SC SLn SA TN NX VK MX S Q5 q5 I0
          generalize M.nv (M.nAt N t) = v at *
          generalize hvn : v * (C.length : Int) = vn at *
          go_wp2_with (go_at_call 67; refine (FT.out _).mono ?_; rintro e w9 ⟨rfl, e9⟩; have e10 := e9.symm; subst e10)
          go_roundw
          case rel => exact ⟨t + 1, _, by omega, by go_num, MT, BT⟩
          case measure => simp [intOf]; omega
        · have te : t = N.length := by omega
          have tz : ¬ ((t : Int) < (N.length : Int)) := by omega
          have MN := hide (NX.out E t MX.out te)
          clear VV TLn FINM SC SLn SA TN NX VK MX e3 tv2 te el Q5 q5
          go_wp2
          go_roundw
          case rel => exact ⟨k + 1, _, E, by omega, by go_num, MN, S⟩
          case measure => simp [intOf]; omega
    · have ke : k = C.length := by omega
      have knz : ¬ ((k : Int) < (C.length : Int)) := by omega
      have mx := MX.out
      rw [ke] at mx
      have FM := hide (FINM.out D mx)
      have b := S.out
      rw [ke] at b
      obtain ⟨z0, y0⟩ := b.r0
      obtain ⟨z1, y1⟩ := b.r1
      obtain ⟨z2, y2⟩ := b.r2
      obtain ⟨z3, y3⟩ := b.r3
      have f0 := b.rf 0
      have f1 := b.rf 1
      have f2 := b.rf 2
      have f3 := b.rf 3
      have c0' := b.c0
      have c1' := b.c1
      have c2' := b.c2
      have c3' := b.c3
      obtain ⟨wa, wc, ey⟩ := own_any b.wo
      subst ey
      have NP : Hid (∃ J : Gr, J.v = .agg #[.int .i64 m, .int .i64 2, .slice wa C.length wc, .slice (some ⟨bx, 0, none⟩) C.length tc] ∧ J.m = (m, 2, List.replicate C.length 1, (tl C).map (fun t => t.map (M.scN (M.tmN C.length)))) ∧ NewG w ((((wr.setCell ⟨W.heap.size, 0, none⟩ (.int .i64 m)).setCell ⟨W.heap.size, 1, none⟩ (.int .i64 2)).setCell ⟨W.heap.size, 2, none⟩ (.slice wa C.length wc)).setCell ⟨W.heap.size, 3, none⟩ (.slice (some ⟨bx, 0, none⟩) C.length tc)) J) := by
        obtain ⟨p1, p2⟩ := b.puts (.int .i64 m) (.int .i64 2) (.slice wa C.length wc) (.slice (some ⟨bx, 0, none⟩) C.length tc)
        obtain ⟨wa', wc', ta', tc', e1, e2, NG⟩ := mo_new (m := m) p1 p2 b.ge (by omega) (by rw [DL.out]; omega) (fun t ht => by
          obtain ⟨j, hj, rfl⟩ := List.getElem_of_mem ht
          have hj' : j < C.length := by rw [← DL.out]; exact hj
          obtain ⟨_, _, e3⟩ := mx.at' j hj' hj
          rw [e3, if_pos hj', List.length_map]
          have := TLn.out j hj'
          omega)
        refine ⟨_, ?_, ?_, NG⟩
        · unfold Gr.v
          rw [List.length_replicate, ← e1, ← e2]
        · unfold Gr.m
          rw [FM.out]
      have KB := hide (b.mo.below)
      have rg : Hid (w.heap.size ≤ W.heap.size) := b.ge
      clear mx b MX S FINM VV TLn FM DL ke I0
      go_wp2
      obtain ⟨e0, e1, e2, e3⟩ := put4 (x0 := .int .i64 m) (x1 := .int .i64 2) (x2 := .slice wa C.length wc) (x3 := .slice (some ⟨bx, 0, none⟩) C.length tc) y0 y1 y2 y3
      refine bodyPost_ret (v := .agg #[.int .i64 m, .int .i64 2, .slice wa C.length wc, .slice (some ⟨bx, 0, none⟩) C.length tc]) (by simp [results, Tryz.results41, go_sem, e0, e1, e2, e3]) rfl ?_
      obtain ⟨J, j1, j2, j3⟩ := NP.out
      exact ⟨J, by rw [j1], j2, j3, lay4 KB.out rg.out⟩

end Go.Proofs.YtpblpfleiilehafGreatDoor
