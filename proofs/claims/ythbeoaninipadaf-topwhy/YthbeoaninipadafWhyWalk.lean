/-
  TopWhy's own walk, with what packages grow, tree, path, limit and row answer as premises.
-/
import Derived.Test.YthbeoaninipadafTwoX
import Derived.Test.YthbeoaninipadafLimPT
import Derived.Test.YthbeoaninipadafSMath
import Derived.Test.YthbeoaninipadafAppendRd
import Derived.Deep.Cut
import Derived.Deep.CutRange
import Derived.Deep.AppendLies
import Derived.OwnWalk
namespace Go.Proofs.Ythbeoaninipadaf
open Go.ChangeShapes Go.WideShapes Go.ChangeAt Go.RowKit Go.Lib
set_option linter.unusedVariables false

def WEvalGives : Prop := ∀ (a0 b0 : Option Addr) (ts : List M.Nd) (xs : List Int) (ca cb : Nat) (w : World), RdN w a0 ts → Rd w b0 xs → Calls Try.prog 17 #[.slice a0 ts.length ca, .slice b0 xs.length cb] w fun e w' => e = .returned (.tuple #[.int .i64 (M.evalV ts xs), errV (M.readyF ts xs)]) ∧ Below w.heap.size w w'
def WLeafGives : Prop := ∀ (a0 b0 : Option Addr) (ts : List M.Nd) (xs : List Int) (ca cb : Nat) (w : World), RdN w a0 ts → Rd w b0 xs → Calls Try.prog 9 #[.slice a0 ts.length ca, .slice b0 xs.length cb] w fun e w' => e = .returned (.tuple #[.int .i64 (M.leafV ts xs : Nat), errV (M.readyF ts xs)]) ∧ Below w.heap.size w w'
def WPathGives : Prop := ∀ (a b : Option Addr) (ts : List M.Nd) (xs : List Int) (ca cb : Nat) (w : World), RdN w a ts → Rd w b xs → Calls Try.prog 15 #[.slice a ts.length ca, .slice b xs.length cb] w fun e w' => ∃ ag cg, e = .returned (.tuple #[.slice ag (M.pathV ts xs).length cg, errV (M.readyF ts xs)]) ∧ Rd w' ag (M.pathV ts xs) ∧ Below w.heap.size w w'
def WRegionGives : Prop := ∀ (a : Option Addr) (ts : List M.Nd) (ca : Nat) (m k : Int) (w : World), RdN w a ts → Calls Try.prog 16 #[.slice a ts.length ca, .int .i64 m, .int .i64 k] w fun e w' => ∃ ag cg, e = .returned (.tuple #[.slice ag (M.regV ts m k).length cg, .bool (M.regB ts m k), errV (M.regF ts m k)]) ∧ RdS w' ag (M.regV ts m k) ∧ Below w.heap.size w w'
def WFitsGives : Prop := ∀ (a b : Option Addr) (xs : List Int) (ss : List M.Sp) (ca cb : Nat) (w : World), Rd w a xs → RdS w b ss → Calls Try.prog 19 #[.slice a xs.length ca, .slice b ss.length cb] w fun e w' => e = .returned (.tuple #[.bool (M.fitV xs ss), errV (M.fitF xs ss)]) ∧ Below w.heap.size w w'
def WRowGives : Prop := ∀ (a : Option Addr) (xs : List Int) (cap : Nat) (w : World), Rd w a xs → Calls Try.prog 20 #[.slice a xs.length cap] w fun e w' => e = .returned (errV (M.rowF xs)) ∧ Below w.heap.size w w'

theorem M.two_fit : M.grwF [([1], 5), ([2], 9)] 1 3 1 = 0 ∧ M.grwT [([1], 5), ([2], 9)] 1 3 1 = [(0, 2, 1, 2, false, 0), (-1, 0, 0, 0, false, 5), (-1, 0, 0, 0, false, 9)] := by decide +kernel
theorem M.two_eval : M.readyF [(0, 2, 1, 2, false, 0), (-1, 0, 0, 0, false, 5), (-1, 0, 0, 0, false, 9)] [2] = 0 ∧ M.evalV [(0, 2, 1, 2, false, 0), (-1, 0, 0, 0, false, 5), (-1, 0, 0, 0, false, 9)] [2] = 9 := by decide +kernel
set_option maxHeartbeats 4000000 in
set_option maxRecDepth 10000 in
theorem one_any (hF : GroFitGives) (hE : WEvalGives) (w : World) : Calls Try.prog 14 #[] w fun e w' => e = .returned (.bool true) ∧ Below w.heap.size w w' := by
  have F0 := hide (fun (n : Nat) (W : World) (h : RdL W (some ⟨n + 1 + 1, 0, none⟩) (twoX n)) => hF (some ⟨n + 1 + 1, 0, none⟩) (twoX n) 2 1 3 1 W h)
  have es : ∀ n, sms (twoX n) = [([1], 5), ([2], 9)] := fun n => rfl
  simp only [es, M.two_fit.1, M.two_fit.2] at F0
  rw [err_nil rfl] at F0
  have E0 := hide (fun pa pc W (h : RdN W pa [(0, 2, 1, 2, false, 0), (-1, 0, 0, 0, false, 5), (-1, 0, 0, 0, false, 9)]) n (h2 : Rd W (some ⟨n, 0, none⟩) [2]) => hE pa (some ⟨n, 0, none⟩) _ [2] pc 1 W h h2)
  rw [M.two_eval.1, M.two_eval.2, err_nil rfl] at E0
  have R0 := hide (two_rd w 3 25)
  have B3 : Hid (∀ o1 o2 o3, Below w.heap.size w (((w.alloc o1).alloc o2).alloc o3)) := fun o1 o2 o3 => (((Below.refl _ w).alloc (Nat.le_refl _) o1).alloc (by simp) o2).alloc (by simp; omega) o3
  clear es hF hE
  go_enter Try.func14, Try.ntmps14
  go_wp2_with (first
    | (go_at_call 6; refine (F0.out w.heap.size _ R0.out).mono ?_; rintro e w1 ⟨pa, pc, rfl, hr, hb⟩; have k1 := hide (below_on (B3.out _ _ _) hb); have R1 := hide hr; clear hr hb)
    | (go_at_call 17; refine (E0.out pa pc _ (R1.out.below ((Below.refl _ _).alloc (Nat.le_refl _) _)) _ (one_rd _ 2 _)).mono ?_; rintro e w2 ⟨rfl, hb⟩; have k2 := hide (below_on (below_on k1.out ((Below.refl _ _).alloc (Nat.le_refl _) _)) hb); clear hb))
  go_ret
  exact ⟨rfl, k2.out⟩

set_option maxHeartbeats 16000000 in
set_option maxRecDepth 10000 in
theorem why_walk (hF : GroFitGives) (hE : WEvalGives) (hL : WLeafGives) (hP : WPathGives) (hR : WRegionGives) (hT : LimTreeGives) (hS : WFitsGives) (hC : WRowGives) (a b : Option Addr) (ts : List M.Nd) (xs : List Int) (ca cb : Nat) (f c : Int) (w : World) (ht : RdN w a ts) (hr : Rd w b xs) :
    Calls Try.prog 5 #[.slice a ts.length ca, .slice b xs.length cb, .int .i64 f, .int .i64 c] w fun e w' => e = .returned (.bool true) ∧ Below w.heap.size w w' := by
  have hm2 : xs.length ≤ 9223372036854775807 := hr.1
  have ON := hide (one_any hF hE w)
  have LF := hide (fun W (hW : Below w.heap.size w W) => hL a b ts xs ca cb W (ht.below hW) (hr.below hW))
  by_cases h : M.readyF ts xs = 0
  · obtain ⟨p1, p2, p3, p4, p5, p6, p7, p8, p9⟩ := M.why_all h
    obtain ⟨F, _⟩ := M.tree_ok (M.ready_ok h).2
    have x8 : xs.length ≤ 8 := by have := F.2.2.2.1; omega
    have PT := hide (fun W (hW : Below w.heap.size w W) => hP a b ts xs ca cb W (ht.below hW) (hr.below hW))
    have RG := hide (fun W (hW : Below w.heap.size w W) => hR a ts ca (xs.length : Int) (M.leafV ts xs : Nat) W (ht.below hW))
    have EV := hide (fun W (hW : Below w.heap.size w W) => hE a b ts xs ca cb W (ht.below hW) (hr.below hW))
    have LT := hide (fun ga gc W (hW : Below w.heap.size w W) (hg : RdS W ga (M.regV ts (xs.length : Int) (M.leafV ts xs : Nat))) => hT a ga ts _ ca gc W (ht.below hW) hg)
    rw [err_nil h] at LF PT EV
    rw [p3, err_nil rfl, p4, p5] at RG
    rw [p7, p8, p6, err_nil rfl, p5] at LT
    obtain ⟨q, hq⟩ : ∃ q, (M.pathV ts xs).length = q + 1 := ⟨(M.pathV ts xs).length - 1, by omega⟩
    rw [hq] at PT
    have LC : Hid (∀ W pa, Rd W pa (M.pathV ts xs) → ∃ pb po, pa = some ⟨pb, po, none⟩ ∧ W.cell? ⟨pb, po + q, none⟩ = some (.int .i64 (M.leafV ts xs : Nat))) := fun W pa hp => by
      obtain ⟨pb, po, rfl, _, hc⟩ := hp.2 (by intro e; rw [e] at hq; simp at hq)
      refine ⟨pb, po, rfl, ?_⟩
      rw [hc q (by omega)]
      rw [show (M.pathV ts xs).length - 1 = q by omega] at p2
      rw [p2]
    have qz : (q : Int) < ((q + 1 : Nat) : Int) := by omega
    have q64 : q ≤ 1000 := by
      have e : (M.pathV ts xs).length = (M.way ts xs 0).length := by unfold M.pathV; rw [if_pos h, List.length_map]
      have := M.way_size F.2.2.2.2.1 xs ts.length 0 F.2.1 (by omega)
      have := F.1
      omega
    have HX := hide (fun W (hW : Below w.heap.size w W) => hr.below hW)
    have FI : Hid (∀ fn, fn < xs.length → ∀ sa sc ga gc W, Below w.heap.size w W → Rd W sa (xs.set fn c) → RdS W ga (M.regV ts (xs.length : Int) (M.leafV ts xs : Nat)) → Calls Try.prog 19 #[.slice sa xs.length sc, .slice ga xs.length gc] W fun e w' => e = .returned (.tuple #[.bool (M.fitV (xs.set fn c) (M.regV ts (xs.length : Int) (M.leafV ts xs : Nat))), errV (M.fitF (xs.set fn c) (M.regV ts (xs.length : Int) (M.leafV ts xs : Nat)))]) ∧ Below W.heap.size W w') := fun fn hfn sa sc ga gc W hW h1 h2 => by
      have := hS sa ga (xs.set fn c) _ sc gc W h1 h2
      rw [List.length_set, p5] at this
      exact this
    have LS : Hid (∀ fn sa sc W, Below w.heap.size w W → Rd W sa (xs.set fn c) → Calls Try.prog 9 #[.slice a ts.length ca, .slice sa xs.length sc] W fun e w' => e = .returned (.tuple #[.int .i64 (M.leafV ts (xs.set fn c) : Nat), errV (M.readyF ts (xs.set fn c))]) ∧ Below W.heap.size W w') := fun fn sa sc W hW h1 => by
      have := hL a sa ts (xs.set fn c) ca sc W (ht.below hW) h1
      rw [List.length_set] at this
      exact this
    have RC : Hid (∀ fn sa sc W, Rd W sa (xs.set fn c) → Calls Try.prog 20 #[.slice sa xs.length sc] W fun e w' => e = .returned (errV (M.rowF (xs.set fn c))) ∧ Below W.heap.size W w') := fun fn sa sc W h1 => by
      have := hC sa (xs.set fn c) sc W h1
      rw [List.length_set] at this
      exact this
    have NF : Hid (∀ fn, M.rowF (xs.set fn c) ≠ 0 → M.fitF (xs.set fn c) (M.regV ts (xs.length : Int) (M.leafV ts xs : Nat)) ≠ 0) := fun fn hb => by
      rw [(M.fit_row hb).1]; exact hb
    have P9 := hide p9
    clear ht hr h p1 p2 p3 p4 p5 p6 p7 p8 p9 F hF hE hL hP hR hT hS hC
    generalize M.regV ts (xs.length : Int) (M.leafV ts xs : Nat) = RV at *
    generalize M.evalV ts xs = ev at *
    generalize M.pathV ts xs = P at *
    generalize hlf : M.leafV ts xs = L at *
    clear hlf hq
    by_cases h0 : f < 0 ∨ (xs.length : Int) ≤ f
    · by_cases h1 : f < 0
      · have t1 : decide (f < 0) = true := decide_eq_true h1
        clear FI LS RC NF P9 HX h0 h1
        go_enter Try.func5, Try.ntmps5
        go_upto_region 12 with (first
      | (go_at_call 14; refine ON.out.mono ?_; rintro e w1 ⟨rfl, hb⟩; have k1 := hide hb; clear hb)
      | (go_at_call 9; refine (LF.out _ k1.out).mono ?_; rintro e w2 ⟨rfl, hb⟩; have k2 := hide (below_on k1.out hb); clear hb)
      | (go_at_call 15; refine (PT.out _ k2.out).mono ?_; rintro e w3 ⟨pa, pc, rfl, hr, hb⟩; have k3 := hide (below_on k2.out hb); have RP := hide hr; clear hr hb)
      | (go_at_call 16; refine (RG.out _ k3.out).mono ?_; rintro e w4 ⟨ga, gc, rfl, hr, hb⟩; have k4 := hide (below_on k3.out hb); have RR := hide hr; have RP4 := hide (RP.out.below hb); clear hr hb)
      | (go_at_call 17; refine (EV.out _ k4.out).mono ?_; rintro e w5 ⟨rfl, hb⟩; have k5 := hide (below_on k4.out hb); have RR5 := hide (RR.out.below hb); have RP5 := hide (RP4.out.below hb); clear hb)
      | (go_at_call 18; refine (LT.out ga gc _ k5.out RR5.out).mono ?_; rintro e w6 ⟨rfl, hb⟩; have k6 := hide (below_on k5.out hb); have RR6 := hide (RR5.out.below hb); have RP6 := hide (RP5.out.below hb); clear hb))
        obtain ⟨pb, po, rfl, hcell⟩ := LC.out _ _ RP6.out
        go_wp2
        go_ret
        exact ⟨rfl, k6.out⟩
      · have t1 : decide (f < 0) = false := decide_eq_false h1
        have t2 : decide ((xs.length : Int) ≤ f) = true := decide_eq_true (by omega)
        clear FI LS RC NF P9 HX h0 h1
        go_enter Try.func5, Try.ntmps5
        go_upto_region 12 with (first
      | (go_at_call 14; refine ON.out.mono ?_; rintro e w1 ⟨rfl, hb⟩; have k1 := hide hb; clear hb)
      | (go_at_call 9; refine (LF.out _ k1.out).mono ?_; rintro e w2 ⟨rfl, hb⟩; have k2 := hide (below_on k1.out hb); clear hb)
      | (go_at_call 15; refine (PT.out _ k2.out).mono ?_; rintro e w3 ⟨pa, pc, rfl, hr, hb⟩; have k3 := hide (below_on k2.out hb); have RP := hide hr; clear hr hb)
      | (go_at_call 16; refine (RG.out _ k3.out).mono ?_; rintro e w4 ⟨ga, gc, rfl, hr, hb⟩; have k4 := hide (below_on k3.out hb); have RR := hide hr; have RP4 := hide (RP.out.below hb); clear hr hb)
      | (go_at_call 17; refine (EV.out _ k4.out).mono ?_; rintro e w5 ⟨rfl, hb⟩; have k5 := hide (below_on k4.out hb); have RR5 := hide (RR.out.below hb); have RP5 := hide (RP4.out.below hb); clear hb)
      | (go_at_call 18; refine (LT.out ga gc _ k5.out RR5.out).mono ?_; rintro e w6 ⟨rfl, hb⟩; have k6 := hide (below_on k5.out hb); have RR6 := hide (RR5.out.below hb); have RP6 := hide (RP5.out.below hb); clear hb))
        obtain ⟨pb, po, rfl, hcell⟩ := LC.out _ _ RP6.out
        go_wp2
        go_ret
        exact ⟨rfl, k6.out⟩
    · have t1 : decide (f < 0) = false := decide_eq_false (by omega)
      have t2 : decide ((xs.length : Int) ≤ f) = false := decide_eq_false (by omega)
      obtain ⟨fn, rfl⟩ : ∃ fn : Nat, f = (fn : Int) := ⟨f.toNat, by omega⟩
      have fl : fn < xs.length := by omega
      have fz : (fn : Int) < (xs.length : Int) := by omega
      have NN : Hid (b = none → cb = 0) := fun e => by
        obtain ⟨_, _, e2, _⟩ := (HX.out w (Below.refl _ _)).2 (by intro z; rw [z] at fl; simp at fl)
        rw [e] at e2
        cases e2
      have FK := hide (FI.out fn fl)
      have LK := hide (LS.out fn)
      have RK := hide (RC.out fn)
      have NK := hide (NF.out fn)
      have PK := hide (P9.out fn c)
      clear FI LS RC NF P9 h0
      go_enter Try.func5, Try.ntmps5
      go_upto_region 12 with (first
      | (go_at_call 14; refine ON.out.mono ?_; rintro e w1 ⟨rfl, hb⟩; have k1 := hide hb; clear hb)
      | (go_at_call 9; refine (LF.out _ k1.out).mono ?_; rintro e w2 ⟨rfl, hb⟩; have k2 := hide (below_on k1.out hb); clear hb)
      | (go_at_call 15; refine (PT.out _ k2.out).mono ?_; rintro e w3 ⟨pa, pc, rfl, hr, hb⟩; have k3 := hide (below_on k2.out hb); have RP := hide hr; clear hr hb)
      | (go_at_call 16; refine (RG.out _ k3.out).mono ?_; rintro e w4 ⟨ga, gc, rfl, hr, hb⟩; have k4 := hide (below_on k3.out hb); have RR := hide hr; have RP4 := hide (RP.out.below hb); clear hr hb)
      | (go_at_call 17; refine (EV.out _ k4.out).mono ?_; rintro e w5 ⟨rfl, hb⟩; have k5 := hide (below_on k4.out hb); have RR5 := hide (RR.out.below hb); have RP5 := hide (RP4.out.below hb); clear hb)
      | (go_at_call 18; refine (LT.out ga gc _ k5.out RR5.out).mono ?_; rintro e w6 ⟨rfl, hb⟩; have k6 := hide (below_on k5.out hb); have RR6 := hide (RR5.out.below hb); have RP6 := hide (RP5.out.below hb); clear hb))
      obtain ⟨pb, po, rfl, hcell⟩ := LC.out _ _ RP6.out
      have X6 := hide (HX.out _ k6.out)
      go_wp2_with (at_builtin; refine wpList_append_rd rfl (.tmp 117) (.tmp 118) rfl w6.heap.size (.slice none 0 0) 0 [] rfl (World.ownsRow_nil _ _ _ _) b xs cb rfl X6.out NN.out (by omega) (Nat.le_refl _) ?_)
      intro v7 w7 hown7' hb7
      have hown7 : w7.ownsRow w6.heap.size 3 1 v7 xs.length (xs.map (Value.int .i64)) := by simpa using hown7'
      clear hown7'
      obtain ⟨g, gc7, rfl, hg1, hg2⟩ := own_shape hown7 (by omega)
      have O7 := hide hown7
      have k7 := hide (below_on k6.out hb7)
      have RR7 := hide (RR6.out.below hb7)
      have c7 := own_at hown7 rfl fn fl
      have z7 := hown7.frozenAt fn
      have k8 : Hid (Below w.heap.size w (w7.setCell ⟨g, fn, none⟩ (.int .i64 c))) := k7.out.setCell (p := ⟨g, fn, none⟩) (Nat.le_trans k6.out.size hg1) _
      have b68 : Hid (Below w6.heap.size w6 (w7.setCell ⟨g, fn, none⟩ (.int .i64 c))) := hb7.setCell (p := ⟨g, fn, none⟩) hg1 _
      have R8 : Hid (Rd (w7.setCell ⟨g, fn, none⟩ (.int .i64 c)) (some ⟨g, 0, none⟩) (xs.set fn c)) := by
        have st := (hown7.stored fn (.int .i64 c)).1
        rw [← List.map_set] at st
        have st2 : (w7.setCell ⟨g, fn, none⟩ (.int .i64 c)).ownsRow w6.heap.size 3 1 (.slice (some ⟨g, 0, none⟩) (xs.set fn c).length gc7) (xs.set fn c).length ((xs.set fn c).map (Value.int .i64)) := by rw [List.length_set]; exact st
        obtain ⟨x, y, e, hrd, _⟩ := own_rd st2
        rw [Value.slice.injEq] at e
        unfold Hid
        rw [e.1]
        exact hrd
      have RR8 := hide (RR6.out.below b68.out)
      clear hown7 hb7 O7 RR7 k7 b68
      generalize xs[fn] = xo at *
      by_cases rb : M.rowF (xs.set fn c) = 0
      · obtain ⟨f1, f2, f3⟩ := PK.out rb
        have FC := hide (FK.out (some ⟨g, 0, none⟩) gc7 ga gc _ k8.out R8.out RR8.out)
        rw [f3, f1, err_nil rfl] at FC
        have LC2 := hide (fun W (hW : Below w.heap.size w W) (h1 : Rd W (some ⟨g, 0, none⟩) (xs.set fn c)) => LK.out (some ⟨g, 0, none⟩) gc7 W hW h1)
        rw [f2, err_nil rfl] at LC2
        clear f1 f2 f3 FK LK RK NK PK rb
        generalize M.leafV ts (xs.set fn c) = L2 at *
        by_cases e : L2 = L
        · have d1 : decide (L2 = L) = true := decide_eq_true e
          have v1 : ((L2 : Int) == (L : Int)) = true := by rw [beq_iff_eq, e]
          rw [d1] at FC
          clear d1 e
          go_wp2_with (first
            | (go_at_call 19; refine FC.out.mono ?_; rintro e w9 ⟨rfl, hb⟩; have k9 := hide (below_on k8.out hb); have R9 := hide (R8.out.below hb); clear hb)
            | (go_at_call 9; refine (LC2.out _ k9.out R9.out).mono ?_; rintro e w10 ⟨rfl, hb⟩; have k10 := hide (below_on k9.out hb); clear hb))
          go_ret
          exact ⟨rfl, k10.out⟩
        · have d1 : decide (L2 = L) = false := decide_eq_false e
          have v1 : ((L2 : Int) == (L : Int)) = false := by rw [beq_eq_false_iff_ne]; omega
          rw [d1] at FC
          clear d1 e
          go_wp2_with (first
            | (go_at_call 19; refine FC.out.mono ?_; rintro e w9 ⟨rfl, hb⟩; have k9 := hide (below_on k8.out hb); have R9 := hide (R8.out.below hb); clear hb)
            | (go_at_call 9; refine (LC2.out _ k9.out R9.out).mono ?_; rintro e w10 ⟨rfl, hb⟩; have k10 := hide (below_on k9.out hb); clear hb))
          go_ret
          exact ⟨rfl, k10.out⟩
      · have FC := hide (FK.out (some ⟨g, 0, none⟩) gc7 ga gc _ k8.out R8.out RR8.out)
        rw [err_some (NK.out rb)] at FC
        have RC2 := hide (fun W (h1 : Rd W (some ⟨g, 0, none⟩) (xs.set fn c)) => RK.out (some ⟨g, 0, none⟩) gc7 W h1)
        rw [err_some rb] at RC2
        clear FK LK RK NK PK rb
        generalize M.rowF (xs.set fn c) = rf at *
        generalize M.fitF (xs.set fn c) RV = ff at *
        generalize M.fitV (xs.set fn c) RV = fv at *
        go_wp2_with (first
          | (go_at_call 19; refine FC.out.mono ?_; rintro e w9 ⟨rfl, hb⟩; have k9 := hide (below_on k8.out hb); have R9 := hide (R8.out.below hb); clear hb)
          | (go_at_call 20; refine (RC2.out _ R9.out).mono ?_; rintro e w10 ⟨rfl, hb⟩; have k10 := hide (below_on k9.out hb); clear hb))
        go_ret
        exact ⟨rfl, k10.out⟩
  · rw [err_some h] at LF
    clear ht hr h hF hE hL hP hR hT hS hC
    generalize M.readyF ts xs = rf at *
    generalize M.leafV ts xs = L at *
    go_enter Try.func5, Try.ntmps5
    go_wp2_with (first
      | (go_at_call 14; refine ON.out.mono ?_; rintro e w1 ⟨rfl, hb⟩; have k1 := hide hb; clear hb)
      | (go_at_call 9; refine (LF.out _ k1.out).mono ?_; rintro e w2 ⟨rfl, hb⟩; have k2 := hide (below_on k1.out hb); clear hb))
    go_ret
    exact ⟨rfl, k2.out⟩

end Go.Proofs.Ythbeoaninipadaf
