/-
  What limit.Steps answers, for every list of nodes, every row and every number.
-/
import Derived.Test.YtcaljnhdfbjpnaeLimPJ
import Derived.Test.YtcaljnhdfbjpnaeLimVal
import Derived.Test.YtcaljnhdfbjpnaeLimCuts
import Derived.Test.YtcaljnhdfbjpnaeLimIJ
import Derived.Test.YtcaljnhdfbjpnaeConcat
import Derived.Test.YtcaljnhdfbjpnaeTEval
import Derived.Test.YtcaljnhdfbjpnaeTwo
namespace Go.Proofs.Ytcaljnhdfbjpnae
open Go.ChangeShapes Go.WideShapes Go.ChangeAt Go.RowKit Go.Lib
set_option linter.unusedVariables false

/-- a row that is turned, one that grows, and a third that stays -/
structure Th (w0 W : World) (x y : Value) (X Y : List Int) (gl : Nat) (L : List Int) : Prop where
  t : Two w0 W x y X Y
  rl : Rd W (some ⟨gl, 0, none⟩) L
  fx : x.ownBlock ≠ some gl
  fy : y.ownBlock ≠ some gl
  lt : gl < W.heap.size
theorem Th.up {w0 W W' : World} {x y : Value} {X Y : List Int} {gl : Nat} {L : List Int} (h : Th w0 W x y X Y gl L) (hb : Below W.heap.size W W') : Th w0 W' x y X Y gl L := ⟨h.t.up hb, h.rl.below hb, h.fx, h.fy, Nat.lt_of_lt_of_le h.lt hb.size⟩
theorem rd_beside {W : World} {gl p o : Nat} {L : List Int} {v : Value} (h : Rd W (some ⟨gl, 0, none⟩) L) (hp : p ≠ gl) : Rd (W.setCell ⟨p, o, none⟩ v) (some ⟨gl, 0, none⟩) L := by
  refine ⟨h.1, fun hn => ?_⟩
  obtain ⟨b, off, e, hb, hc⟩ := h.2 hn
  cases e
  exact ⟨gl, 0, rfl, by simpa using hb, fun i hi => (World.cell?_setCell_other _ _ _ _ (by intro e; cases e; exact hp rfl)).trans (hc i hi)⟩
theorem Th.turn {w0 W : World} {y : Value} {X Y : List Int} {g c n gl : Nat} {L : List Int} (hn : X.length = n) (h : Th w0 W (.slice (some ⟨g, 0, none⟩) n c) y X Y gl L) (i : Nat) (u : Int) : Th w0 (W.setCell ⟨g, i, none⟩ (.int .i64 u)) (.slice (some ⟨g, 0, none⟩) n c) y (X.set i u) Y gl L :=
  ⟨h.t.turn hn i u, rd_beside h.rl (fun e => h.fx (by rw [e]; rfl)), h.fx, h.fy, by simpa using h.lt⟩
theorem Th.second {w0 W w7 : World} {x y : Value} {X Y : List Int} {o : Obj} {g c gl : Nat} {u : Int} {L : List Int} (h : Th w0 W x y X Y gl L) (hg : (W.alloc o).grownBy w7 y.ownBlock) (ho : w7.ownsRow w0.heap.size 3 1 (.slice (some ⟨g, 0, none⟩) (Y.length + 1) c) (Y.length + 1) (Y.map (Value.int .i64) ++ [.int .i64 u])) (hat : y.ownBlock = some g ∨ g = W.heap.size + 1) :
    Th w0 w7 x (.slice (some ⟨g, 0, none⟩) (Y.length + 1) c) X (Y ++ [u]) gl L := by
  have lt := h.lt
  have sz : W.heap.size + 1 ≤ w7.heap.size := by have := hg.size; simp at this; exact this
  refine ⟨h.t.second hg ho hat, ?_, h.fx, ?_, by omega⟩
  · have r := h.rl.below ((Below.refl _ W).alloc (Nat.le_refl _) o)
    refine ⟨r.1, fun hn => ?_⟩
    obtain ⟨b, off, e, hb, hc⟩ := r.2 hn
    cases e
    exact ⟨gl, 0, rfl, by omega, fun i hi => hg.cell (hc i hi) (fun e => h.fy e.symm)⟩
  · intro e
    have e' : some g = some gl := e
    rcases hat with p | p
    · exact h.fy (by rw [p, e'])
    · cases e'; omega

theorem steps_two {w2 w3 w4 : World} {g gc m : Nat} {xs : List Int} (ho : w3.ownsRow w2.heap.size 3 1 (.slice (some ⟨g, 0, none⟩) xs.length gc) xs.length (xs.map (Value.int .i64))) (hg : g < w3.heap.size) (h4 : w4.ownsRow w2.heap.size 3 1 (.slice (some ⟨w3.heap.size, 0, none⟩) 0 m) 0 []) (hgr : w3.grownBy w4 none) (hb : Below w2.heap.size w2 w3) :
    Two w2 w4 (.slice (some ⟨g, 0, none⟩) xs.length gc) (.slice (some ⟨w3.heap.size, 0, none⟩) 0 m) xs [] :=
  ⟨ho.kept hgr (.inr (by simp [Value.ownBlock])), h4, .inr (.inr (fun e => by have e' : some g = some w3.heap.size := e; cases e'; omega)), hb.grown hgr hb.size (fun k hk => by cases hk)⟩
theorem steps_th {w2 w4 w5 : World} {g gc gv m gl glc : Nat} {xs LS : List Int} {o1 o2 : Obj} (h : Two w2 w4 (.slice (some ⟨g, 0, none⟩) xs.length gc) (.slice (some ⟨gv, 0, none⟩) 0 m) xs [])
    (ho : w5.ownsRow ((w4.alloc o1).alloc o2).heap.size 3 1 (.slice (some ⟨gl, 0, none⟩) LS.length glc) LS.length (LS.map (Value.int .i64))) (hb : Below ((w4.alloc o1).alloc o2).heap.size ((w4.alloc o1).alloc o2) w5) :
    Th w2 w5 (.slice (some ⟨g, 0, none⟩) xs.length gc) (.slice (some ⟨gv, 0, none⟩) 0 m) xs [] gl LS := by
  have b2 : Below w4.heap.size w4 w5 := below_on (below_on ((Below.refl _ w4).alloc (Nat.le_refl _) o1) ((Below.refl _ _).alloc (Nat.le_refl _) o2)) hb
  have l1 := (ho.lt gl rfl).1
  have l2 := (ho.lt gl rfl).2
  simp at l1
  have x1 := (h.ox.lt g rfl).2
  have y1 := (h.oy.lt gv rfl).2
  obtain ⟨a, c, e, hr, _⟩ := own_rd ho
  rw [Value.slice.injEq] at e
  refine ⟨h.up b2, by rw [e.1]; exact hr, fun q => ?_, fun q => ?_, l2⟩
  · have q' : some g = some gl := q
    cases q'; omega
  · have q' : some gv = some gl := q
    cases q'; omega

theorem M.val_below {t : List M.Nd} {m : Int} (F : M.Fair t m) (r : List Int) (f : Nat) : M.valS t r f (-1000001) = M.valS t r f (-2000000) := by
  refine M.val_same F (M.not_nil (by decide)) (M.not_nil (by decide)) fun q hq => ?_
  have := M.in_out (((M.cuts_ok _).1 (M.cutsS_ok F (show (0 : Int) ≤ (f : Int) by omega))).2.1 q hq)
  constructor <;> intro <;> omega
theorem M.vals_below {t : List M.Nd} {m : Int} (F : M.Fair t m) (r : List Int) (f : Nat) : M.valsS t r f = ((-1000001) :: M.cutsS t (f : Int)).map (M.valS t r f) := by
  unfold M.valsS
  rw [List.map_cons, M.val_below F]

theorem take_more {L : List Int} {g : Int → Int} {k : Nat} (h : k < L.length) : (L.map g).take k ++ [g (L.getD k 0)] = (L.map g).take (k + 1) := by
  rw [List.take_succ_eq_append_getElem (by simpa using h), List.getElem_map, M.getD_at h]

set_option maxHeartbeats 8000000 in
set_option maxRecDepth 10000 in
theorem steps_good (a b : Option Addr) (ts : List M.Nd) (xs : List Int) (ca cb f : Nat) (W : World) (ht : RdN W a ts) (hr : Rd W b xs) (h : M.readyF ts xs = 0) (hf : f < xs.length) :
    Calls Try.prog 12 #[.slice a ts.length ca, .slice b xs.length cb, .int .i64 (f : Nat)] W fun e w' => ∃ pa pc qa qc, e = .returned (.tuple #[.slice pa (M.cutsS ts (f : Int)).length pc, .slice qa (M.valsS ts xs f).length qc, .nilIface]) ∧ Rd w' pa (M.cutsS ts (f : Int)) ∧ Rd w' qa (M.valsS ts xs f) ∧ Below W.heap.size W w' := by
  obtain ⟨F, _⟩ := M.tree_ok (M.ready_ok h).2
  have x8 : xs.length ≤ 8 := by have := F.2.2.2.1; omega
  have l63 := F.1
  have EV := hide (eval_any a b ts xs ca cb W ht hr)
  rw [err_nil h] at EV
  have CU := hide (fun W' (hW : Below W.heap.size W W') => cutsof_any a ts ca (f : Int) W' (ht.below hW) l63)
  have CL : Hid (∀ W', Below W.heap.size W W' → Calls Try.prog 19 #[.slice b xs.length cb] W' fun e w' => ∃ v, e = .returned v ∧ w'.ownsRow W'.heap.size 3 1 v xs.length (xs.map (Value.int .i64)) ∧ Below W'.heap.size W' w') := fun W' hW => by
    obtain ⟨bx, ox, rfl, hb, hc⟩ := (hr.below hW).2 (by intro e; rw [e] at hf; simp at hf)
    exact clone_new bx ox cb xs W' hc (by omega) hb
  have VA : Hid (∀ g gc u W', Below W.heap.size W W' → Rd W' (some ⟨g, 0, none⟩) (xs.set f u) → Calls Try.prog 33 #[.slice a ts.length ca, .slice (some ⟨g, 0, none⟩) xs.length gc] W' fun e w' => e = .returned (.int .i64 (M.valS ts xs f u)) ∧ Below W'.heap.size W' w') := fun g gc u W' hW hx => by
    have := limval_fair a (some ⟨g, 0, none⟩) ts (xs.set f u) ca gc W' (ht.below hW) hx (by rw [List.length_set]; exact F)
    rw [List.length_set] at this
    exact this
  have CN := hide (fun B a b xs ys ca cb w h1 h2 h3 h4 h5 h6 h7 h8 h9 => concat_two B a b xs ys ca cb w h1 h2 h3 h4 h5 h6 h7 h8 h9)
  have VE := hide (M.vals_below F xs f)
  have cl : (M.cutsS ts (f : Int)).length ≤ 60 := by
    have := (M.cuts_ok _).1 (M.cutsS_ok F (show (0 : Int) ≤ (f : Int) by omega))
    exact this.1
  have TM : Hid (∀ k, k < ((-1000001) :: M.cutsS ts (f : Int)).length → (((-1000001) :: M.cutsS ts (f : Int)).map (M.valS ts xs f)).take k ++ [M.valS ts xs f (((-1000001) :: M.cutsS ts (f : Int)).getD k 0)] = (((-1000001) :: M.cutsS ts (f : Int)).map (M.valS ts xs f)).take (k + 1)) := fun k hk => take_more hk
  have TA : Hid ((((-1000001) :: M.cutsS ts (f : Int)).map (M.valS ts xs f)).take ((-1000001) :: M.cutsS ts (f : Int)).length = ((-1000001) :: M.cutsS ts (f : Int)).map (M.valS ts xs f)) := List.take_of_length_le (by simp)
  have VL : Hid ((((-1000001) :: M.cutsS ts (f : Int)).map (M.valS ts xs f)).length = (M.cutsS ts (f : Int)).length + 1) := by unfold Hid; simp
  obtain ⟨i0, hi, hz0, hz1, hz2⟩ := info_parts info3
  have I0 := hide hi
  have fz : (f : Int) < (xs.length : Int) := by omega
  have f0 : decide ((f : Int) < 0) = false := decide_eq_false (by omega)
  have f1 : decide ((xs.length : Int) ≤ (f : Int)) = false := decide_eq_false (by omega)
  have CAT : Hid ([(-1000001 : Int)] ++ M.cutsS ts (f : Int) = (-1000001) :: M.cutsS ts (f : Int)) := rfl
  have LL : ((-1000001 : Int) :: M.cutsS ts (f : Int)).length = (M.cutsS ts (f : Int)).length + 1 := rfl
  clear h ht hr F hi
  generalize M.valsS ts xs f = VV at *
  generalize M.cutsS ts (f : Int) = CC at *
  generalize (-1000001 : Int) :: CC = LS at *
  generalize LS.map (M.valS ts xs f) = VS at *
  generalize M.evalV ts xs = ev at *
  go_enter Try.func12, Try.ntmps12
  go_wp2_with (first
    | (go_at_call 8; refine EV.out.mono ?_; rintro e w1 ⟨rfl, hb1⟩; have k1 := hide hb1; clear hb1)
    | (go_at_call 31; refine (CU.out _ k1.out).mono ?_; rintro e w2 ⟨v2, rfl, ho2, hb2⟩; have k2 := hide (below_on k1.out hb2); obtain ⟨pa, pc, rfl, hr2, _⟩ := own_rd ho2; have R2 := hide hr2; have N2 := hide (own_nocap ho2); clear ho2 hb2 hr2)
    | (go_at_call 19; refine (CL.out _ k2.out).mono ?_; rintro e w3 ⟨v3, rfl, ho3, hb3⟩; have k3 := hide hb3; obtain ⟨g, gc, rfl, hg3, hl3⟩ := own_shape ho3 (by omega); have O3 := hide ho3; clear ho3 hb3)
    | (at_make; refine wpList_make_own _ rfl _ (.tmp 41) 23 rfl w2.heap.size 3 i0 (.int .i64 0) 1 Try.underlying23 I0.out hz0 hz1 .i64 .i64 _ (CC.length + 1) rfl rfl (by omega) (by rw [hz2]; omega) (by unfold maxLen; omega) k3.out.size ?_; intro w4 hown4 hgrow4; have T4 := hide (steps_two O3.out hl3 hown4 hgrow4 k3.out); clear hown4 hgrow4)
    | (go_at_call 32; refine (CN.out (w4.heap.size + 1) (some ⟨w4.heap.size, 0, none⟩) pa [-1000001] CC 1 pc _ (by simp) (World.cell?_alloc_at _ _ _ 0 (by simp)) (World.cell?_alloc_at _ _ _ 1 (by simp)) ((one_rd w4 (-1000001) 3).below ((Below.refl _ _).alloc (Nat.le_refl _) _)) (R2.out.below (below_on (below_on T4.out.b ((Below.refl _ _).alloc (Nat.le_refl _) _)) ((Below.refl _ _).alloc (Nat.le_refl _) _))) (fun e => by cases e) N2.out (by simp) (by omega)).mono ?_; rintro e w5 ⟨v5, rfl, ho5, hb5⟩; rw [CAT.out] at ho5; obtain ⟨gl, glc, rfl, hg5, hl5⟩ := own_shape ho5 (by omega); have T5 := hide (steps_th T4.out ho5 hb5); clear ho5 hb5))
  go_loopw [13, 48] (fun v i wr => ∃ (k : Nat) (X : List Int), k ≤ LS.length ∧ i = .int .i64 k ∧ Hid (X.length = xs.length ∧ ∀ u, X.set f u = xs.set f u) ∧ Hid (Th w2 wr (.slice (some ⟨g, 0, none⟩) xs.length gc) v X (VS.take k) gl LS)) (fun _ i _ => LS.length - (intOf i).toNat)
  case atStart => exact ⟨0, xs, Nat.zero_le _, rfl, ⟨rfl, fun _ => rfl⟩, T5.out⟩
  case round =>
    clear T5 T4 EV CU CL CN
    obtain ⟨k, X, hk, rfl, XX, T⟩ := hrel
    obtain ⟨ya, yc, rfl, _⟩ := own_rd T.out.t.oy
    by_cases hlt : k < LS.length
    · have kz : (k : Int) < (LS.length : Int) := by omega
      obtain ⟨bl, ol, el, _, hcl⟩ := T.out.rl.2 (by intro e; rw [e] at hlt; simp at hlt)
      have hx := hcl k hlt
      cases el
      rw [Nat.zero_add] at hx
      have cX := T.out.t.cellX XX.out.1 hf
      have fX := T.out.t.froX XX.out.1 f
      have TU := T.out.turn XX.out.1 f (LS.getD k 0)
      rw [XX.out.2] at TU
      have T1 := hide TU
      have tm := TM.out k hlt
      have XN : Hid ((xs.set f (LS.getD k 0)).length = xs.length ∧ ∀ u, (xs.set f (LS.getD k 0)).set f u = xs.set f u) := ⟨by simp, fun u => by simp⟩
      have VJ : Hid (∀ W', Below W.heap.size W W' → Rd W' (some ⟨g, 0, none⟩) (xs.set f (LS.getD k 0)) → Calls Try.prog 33 #[.slice a ts.length ca, .slice (some ⟨g, 0, none⟩) xs.length gc] W' fun e w' => e = .returned (.int .i64 (M.valS ts xs f (LS.getD k 0))) ∧ Below W'.heap.size W' w') := fun W' h1 h2 => VA.out g gc _ W' h1 h2
      have XR := hide (T1.out.t.rdX XN.out.1)
      have YL : (VS.take k).length ≤ 61 := by rw [List.length_take]; omega
      have TMK := hide tm
      clear TU T XX TM TA VE VA VL hcl tm
      generalize VS.take k = Y at *
      generalize M.valS ts xs f (LS.getD k 0) = vu at *
      generalize xs.set f (LS.getD k 0) = XS at *
      generalize LS.getD k 0 = u at *
      generalize X.getD f 0 = xo at *
      have s1 := T1.out.t.b.size
      go_wp2_with (first
        | (go_at_call 33; refine (VJ.out _ (below_on k2.out T1.out.t.b) XR.out).mono ?_; rintro e w6 ⟨rfl, hb6⟩; have T6 := hide (T1.out.up hb6); have s6 := T6.out.t.b.size; clear hb6)
        | (at_builtin; refine wpList_append_lies _ rfl (.tmp 56) (.tmp 60) 23 rfl w2.heap.size 3 i0 (.int .i64 0) 1 8 Try.underlying23 I0.out hz0 hz1 hz2 rfl (by omega) (.slice ya Y.length yc) Y.length (Y.map (Value.int .i64)) rfl (T6.out.t.oy.alloc _) ⟨w6.heap.size, 0, none⟩ 1 1 [.int .i64 vu] rfl rfl (World.news_of_block (heap_alloc_new _ _)) (by simp [Value.oneCell']) (by omega) (by unfold maxLen; omega) (by omega) (by simp; omega) (w6.heap.size + 1) (by simp) ?_; intro g7 c7 w7 hov7 hgr7 hat7 hlt7; have T7 := hide (T6.out.second hgr7 hov7 hat7); clear hov7 hgr7 hat7))
      rw [TMK.out] at T7
      go_roundw
      case rel => exact ⟨k + 1, XS, by omega, by go_num, XN, T7⟩
      case measure => simp [intOf]; omega
    · have E : k = LS.length := by omega
      have ta := TA.out
      have oy := T.out.t.oy
      rw [E, ta] at oy
      obtain ⟨qa, qc, eq, RQ, _⟩ := own_rd oy
      have EQ : Hid (Value.slice ya (VS.take k).length yc = .slice qa VV.length qc) := by unfold Hid; rw [E, ta, VE.out]; rw [← eq]
      have RQV : Hid (Rd wr qa VV) := by unfold Hid; rw [VE.out]; exact RQ
      have PB := hide (R2.out.below T.out.t.b)
      have BW := hide (below_on k2.out T.out.t.b)
      generalize (VS.take k).length = yn at *
      clear E ta oy T TA TM XX VE VL RQ eq
      go_wp2
      go_ret3
      exact ⟨pa, pc, qa, qc, by rw [EQ.out]; rfl, PB.out, RQV.out, BW.out⟩

set_option maxHeartbeats 4000000 in
set_option maxRecDepth 10000 in
theorem limsteps_any : StepsGives := by
  intro a b ts xs ca cb f W ht hr
  have hm2 : xs.length ≤ 9223372036854775807 := hr.1
  have EV := hide (eval_any a b ts xs ca cb W ht hr)
  have NIL : Hid (∀ W, Rd W none []) := fun W => ⟨Nat.zero_le _, fun h => absurd rfl h⟩
  by_cases h : M.readyF ts xs = 0
  · rw [err_nil h] at EV
    by_cases hf : f < 0 ∨ (xs.length : Int) ≤ f
    · have E : M.stepsF ts xs f = 1 := by unfold M.stepsF; rw [if_neg (by simp [h]), if_pos hf]
      have EC : M.stepsC ts xs f = [] := by unfold M.stepsC; rw [if_neg (by rw [E]; decide)]
      have EW : M.stepsV ts xs f = [] := by unfold M.stepsV; rw [if_neg (by rw [E]; decide)]
      rw [E, EC, EW, err_some (show (1 : Int) ≠ 0 by decide)]
      have fin : Hid (∀ W', Below W.heap.size W W' → ∃ pa pc qa qc, Ending.returned (.tuple #[.slice none 0 0, .slice none 0 0, .iface 56 (.int .i64 1)]) = .returned (.tuple #[.slice pa ([] : List Int).length pc, .slice qa ([] : List Int).length qc, .iface 56 (.int .i64 1)]) ∧ Rd W' pa [] ∧ Rd W' qa [] ∧ Below W.heap.size W W') := fun W' hW => ⟨none, 0, none, 0, rfl, NIL.out _, NIL.out _, hW⟩
      by_cases f0 : f < 0
      · have q1 : decide (f < 0) = true := decide_eq_true f0
        clear ht hr h hf E EC EW f0
        generalize M.evalV ts xs = ev at *
        go_enter Try.func12, Try.ntmps12
        go_wp2_with (go_at_call 8; refine EV.out.mono ?_; rintro e w1 ⟨rfl, hb1⟩; have k1 := hide hb1; clear hb1)
        go_ret3
        exact fin.out _ k1.out
      · have q1 : decide (f < 0) = false := decide_eq_false f0
        have q2 : decide ((xs.length : Int) ≤ f) = true := decide_eq_true (by omega)
        clear ht hr h hf E EC EW f0
        generalize M.evalV ts xs = ev at *
        go_enter Try.func12, Try.ntmps12
        go_wp2_with (go_at_call 8; refine EV.out.mono ?_; rintro e w1 ⟨rfl, hb1⟩; have k1 := hide hb1; clear hb1)
        go_ret3
        exact fin.out _ k1.out
    · have f0 : 0 ≤ f := by omega
      obtain ⟨fn, rfl⟩ : ∃ fn : Nat, f = (fn : Int) := ⟨f.toNat, by omega⟩
      have E : M.stepsF ts xs (fn : Int) = 0 := by unfold M.stepsF; rw [if_neg (by simp [h]), if_neg hf]
      have EC : M.stepsC ts xs (fn : Int) = M.cutsS ts (fn : Int) := by unfold M.stepsC; rw [if_pos E]
      have EW : M.stepsV ts xs (fn : Int) = M.valsS ts xs fn := by unfold M.stepsV; rw [if_pos E, Int.toNat_natCast]
      rw [err_nil E, EC, EW]
      exact steps_good a b ts xs ca cb fn W ht hr h (by omega)
  · have E : M.stepsF ts xs f = M.readyF ts xs := by unfold M.stepsF; rw [if_pos h]
    have EC : M.stepsC ts xs f = [] := by unfold M.stepsC; rw [if_neg (by rw [E]; exact h)]
    have EW : M.stepsV ts xs f = [] := by unfold M.stepsV; rw [if_neg (by rw [E]; exact h)]
    rw [E, EC, EW, err_some h]
    rw [err_some h] at EV
    clear ht hr h E EC EW
    generalize M.evalV ts xs = ev at *
    generalize M.readyF ts xs = rf at *
    go_enter Try.func12, Try.ntmps12
    go_wp2_with (go_at_call 8; refine EV.out.mono ?_; rintro e w1 ⟨rfl, hb1⟩; have k1 := hide hb1; clear hb1)
    go_ret3
    exact ⟨none, 0, none, 0, rfl, NIL.out _, NIL.out _, k1.out⟩

end Go.Proofs.Ytcaljnhdfbjpnae
