/-
  FlatAgain's own walk, with what package flat and differ.Groves answer as premises.
-/
import Derived.Test.YtcaljnhdfbjpnaeDoorFlatO
import Derived.Test.YtcaljnhdfbjpnaeDoorGrSame
import Derived.Test.YtcaljnhdfbjpnaeDoorGCheck
import Derived.Test.YtcaljnhdfbjpnaeDoorDifPG
import Derived.Test.YtcaljnhdfbjpnaeDoorErrJ
import Derived.BigQuiet
import Derived.Deep.QuietTactic
namespace Go.Proofs.YtcaljnhdfbjpnaeDoor
open Go.ChangeShapes Go.WideShapes Go.ChangeAt Go.RowKit Go.Lib
set_option linter.unusedVariables false

def FNewGives : Prop := ∀ (G : Gr) (w : World), RdG w G → M.groveF G.m = 0 → Calls Tryd.prog 15 #[G.v] w fun e w' => ∃ p, e = .returned (.tuple #[.pointer (some ⟨p, 0, none⟩), .nilIface]) ∧ FO w' p G.m ∧ Below w.heap.size w w'
def FBadGives : Prop := ∀ (G : Gr) (w : World), RdG w G → M.groveF G.m ≠ 0 → Calls Tryd.prog 15 #[G.v] w fun e w' => e = .returned (.tuple #[.pointer none, errV (M.groveF G.m)]) ∧ Below w.heap.size w w'
def FGroveGives : Prop := ∀ (p : Nat) (g : M.Gv) (w : World), FO w p g → M.groveF g = 0 → Calls Tryd.prog 17 #[.pointer (some ⟨p, 0, none⟩)] w fun e w' => ∃ J : Gr, e = .returned J.v ∧ J.m = M.levG g ∧ RdG w' J ∧ Below w.heap.size w w'

abbrev boxA (G : Gr) : Obj := .cells #[.int .i64 G.f, .int .i64 G.w, .slice G.wa G.ws.length G.wc, .slice G.ta G.ks.length G.tc] 40
theorem kept_boxA {w W : World} {a0 a1 a2 a3 : Value} {t : TypeId} (h : Below (w.alloc (.cells #[a0, a1, a2, a3] t)).heap.size (w.alloc (.cells #[a0, a1, a2, a3] t)) W) :
    W.cell? ⟨w.heap.size, 0, none⟩ = some a0 ∧ W.cell? ⟨w.heap.size, 1, none⟩ = some a1 ∧ W.cell? ⟨w.heap.size, 2, none⟩ = some a2 ∧ W.cell? ⟨w.heap.size, 3, none⟩ = some a3 := by
  have hs : w.heap.size < (w.alloc (.cells #[a0, a1, a2, a3] t)).heap.size := by simp
  exact ⟨(h.cell (p := ⟨w.heap.size, 0, none⟩) hs).trans (World.cell?_alloc_at _ _ _ 0 rfl), (h.cell (p := ⟨w.heap.size, 1, none⟩) hs).trans (World.cell?_alloc_at _ _ _ 1 rfl), (h.cell (p := ⟨w.heap.size, 2, none⟩) hs).trans (World.cell?_alloc_at _ _ _ 2 rfl), (h.cell (p := ⟨w.heap.size, 3, none⟩) hs).trans (World.cell?_alloc_at _ _ _ 3 rfl)⟩
theorem M.laid_map (T : List (List M.Nd)) : ∀ k, (M.laidK (T.map M.levels) k).length = (M.laidK T k).length
  | 0 => rfl
  | k + 1 => by
    rw [M.laidK_len_step, M.laidK_len_step, M.laid_map T k]
    congr 1
    by_cases h : k < T.length
    · rw [M.getD_at (by simpa using h), M.getD_at h]; simp [M.levels_len]
    · rw [show (T.map M.levels).getD k [] = [] by simp [List.getD, List.getElem?_eq_none (show T.length ≤ k by omega)], show T.getD k [] = [] by simp [List.getD, List.getElem?_eq_none (show T.length ≤ k by omega)]]
theorem M.allN_lev (g : M.Gv) : (M.allN (M.levG g)).length = (M.allN g).length := by
  unfold M.allN
  show (M.laidK ((M.gt g).map M.levels) ((M.gt g).map M.levels).length).length = _
  rw [M.laid_map, List.length_map]

set_option maxHeartbeats 16000000 in
set_option maxRecDepth 10000 in
theorem again_bad (hB : FBadGives) (G : Gr) (w : World) (h : RdG w G) (he : M.groveF G.m ≠ 0) :
    Calls Tryd.prog 5 #[G.v] w fun r w' => r = .returned (.bool true) ∧ Below w.heap.size w w' := by
  have N2 := hide (fun W (hW : Below w.heap.size w W) => hB G W (h.below hW) he)
  have GC := hide (fun W (hW : Below w.heap.size w W) => gcheck_any G W (h.below hW))
  rw [err_some he] at N2 GC
  unfold Gr.v at N2 GC ⊢
  have B0 : Hid (Below w.heap.size w (w.alloc (boxA G))) := (Below.refl _ w).alloc (Nat.le_refl _) _
  have BX : Hid (∀ W, Below (w.alloc (boxA G)).heap.size (w.alloc (boxA G)) W → Below w.heap.size w W ∧ W.cell? ⟨w.heap.size, 0, none⟩ = some (.int .i64 G.f) ∧ W.cell? ⟨w.heap.size, 1, none⟩ = some (.int .i64 G.w) ∧ W.cell? ⟨w.heap.size, 2, none⟩ = some (.slice G.wa G.ws.length G.wc) ∧ W.cell? ⟨w.heap.size, 3, none⟩ = some (.slice G.ta G.ks.length G.tc)) := fun W hW => ⟨below_on B0.out hW, kept_boxA hW⟩
  clear h he
  generalize M.groveF G.m = e at *
  go_enter Tryd.func5, Tryd.ntmps5
  go_wp2_with (first
    | (go_at_call 16; refine (GC.out _ k1).mono ?_; rintro r w2 ⟨rfl, h2⟩; have k2 := below_on k1 h2)
    | (go_at_call 15; refine (N2.out _ B0.out).mono ?_; rintro r w1 ⟨rfl, h1⟩; have q1 := BX.out _ h1; have k1 := q1.1; have d0 := q1.2.1; have d1 := q1.2.2.1; have d2 := q1.2.2.2.1; have d3 := q1.2.2.2.2; clear q1))
  go_ret
  exact ⟨rfl, k2⟩

set_option maxHeartbeats 16000000 in
set_option maxRecDepth 10000 in
theorem again_good (hN : FNewGives) (hF : FGroveGives) (hD : DifGrovesGives) (G : Gr) (w : World) (h : RdG w G) (hl : Lays w) (he : M.groveF G.m = 0) :
    Calls Tryd.prog 5 #[G.v] w fun r w' => r = .returned (.bool true) ∧ Below w.heap.size w w' := by
  have K := (M.good_iff G.m).1 he
  have le : M.groveF (M.levG G.m) = 0 := (M.good_iff _).2 (M.levG_good K)
  have N1 := hide (hN G (w.alloc (boxA G)) (h.below ((Below.refl _ w).alloc (Nat.le_refl _) _)) he)
  have F1 := hide (fun p W (hf : FO W p G.m) => hF p G.m W hf he)
  have N2 := hide (fun (J : Gr) W (hJ : RdG W J) (hm : J.m = M.levG G.m) => show Calls Tryd.prog 15 #[J.v] W (fun e w' => ∃ p, e = .returned (.tuple #[.pointer (some ⟨p, 0, none⟩), .nilIface]) ∧ FO w' p (M.levG G.m) ∧ Below W.heap.size W w') from by
    have q := hN J W hJ (by rw [hm]; exact le)
    rw [hm] at q
    exact q)
  have F2 := hide (fun p W (hf : FO W p (M.levG G.m)) => show Calls Tryd.prog 17 #[.pointer (some ⟨p, 0, none⟩)] W (fun e w' => ∃ J : Gr, e = .returned J.v ∧ J.m = M.levG G.m ∧ RdG w' J ∧ Below W.heap.size W w') from by
    have q := hF p (M.levG G.m) W hf le
    rw [M.levG_twice K] at q
    exact q)
  have SM := hide (fun (J I : Gr) W (hJ : RdG W J) (hI : RdG W I) (h1 : J.m = M.levG G.m) (h2 : I.m = M.levG G.m) => grovesame_any J I W hJ hI (h1.trans h2.symm))
  have DG := hide (fun (J : Gr) W (hW : Below w.heap.size w W) (hJ : RdG W J) (hm : J.m = M.levG G.m) => show Calls Tryd.prog 13 #[G.v, J.v] W (fun e w' => e = .returned (.tuple #[.int .i64 (M.difGV G.m (M.levG G.m) : Nat), errV 5]) ∧ Below W.heap.size W w') from by
    have q := hD G J W (h.below hW) hJ
    rw [hm, M.lev_none K] at q
    exact q)
  have ER := hide (fun W (hW : Below w.heap.size w W) => (error_any 5 5 W (hl.below hW)))
  rw [beq_self_eq_true] at ER
  rw [err_some (by decide)] at DG ER
  have S1 := hide (fun W p (hf : FO W p G.m) => size_any p G.m W hf)
  have S2 := hide (fun W p (hf : FO W p (M.levG G.m)) => size_any p (M.levG G.m) W hf)
  rw [M.allN_lev] at S2
  unfold Gr.v at N1 F1 N2 F2 SM DG ⊢
  have B0 : Hid (Below w.heap.size w (w.alloc (boxA G))) := (Below.refl _ w).alloc (Nat.le_refl _) _
  have BX : Hid (∀ W, Below (w.alloc (boxA G)).heap.size (w.alloc (boxA G)) W → Below w.heap.size w W ∧ W.cell? ⟨w.heap.size, 0, none⟩ = some (.int .i64 G.f) ∧ W.cell? ⟨w.heap.size, 1, none⟩ = some (.int .i64 G.w) ∧ W.cell? ⟨w.heap.size, 2, none⟩ = some (.slice G.wa G.ws.length G.wc) ∧ W.cell? ⟨w.heap.size, 3, none⟩ = some (.slice G.ta G.ks.length G.tc)) := fun W hW => ⟨below_on B0.out hW, kept_boxA hW⟩
  clear h he hl K le
  generalize (M.allN G.m).length = nn at *
  generalize M.difGV G.m (M.levG G.m) = dv at *
  go_enter Tryd.func5, Tryd.ntmps5
  go_upto_region 4 with (go_at_call 15; refine N1.out.mono ?_; rintro r w1 ⟨p, rfl, hf1, h1⟩; have H1 := hide h1; have HF1 := hide hf1; clear h1 hf1)
  go_upto_region 5 with (go_at_call 17; refine (F1.out _ _ HF1.out).mono ?_; rintro r w2 ⟨J, rfl, hJm, hJ, h2⟩; have H2 := hide h2; have HJ := hide hJ; have HM := hide hJm; clear h2 hJ hJm)
  have HJ2 := hide (HJ.out.below ((Below.refl _ w2).alloc (Nat.le_refl _) (boxA J)))
  have A2 : Hid (Below w2.heap.size w2 (w2.alloc (boxA J))) := (Below.refl _ w2).alloc (Nat.le_refl _) _
  have CJ : Hid (∀ W, Below (w2.alloc (boxA J)).heap.size (w2.alloc (boxA J)) W → W.cell? ⟨w2.heap.size, 0, none⟩ = some (.int .i64 J.f) ∧ W.cell? ⟨w2.heap.size, 1, none⟩ = some (.int .i64 J.w) ∧ W.cell? ⟨w2.heap.size, 2, none⟩ = some (.slice J.wa J.ws.length J.wc) ∧ W.cell? ⟨w2.heap.size, 3, none⟩ = some (.slice J.ta J.ks.length J.tc)) := fun W hW => kept_boxA hW
  go_upto_region 8 with (go_at_call 15; refine (N2.out J _ HJ2.out HM.out).mono ?_; rintro r w3 ⟨q, rfl, hf3, h3⟩; have H3 := hide h3; have HF3 := hide hf3; clear h3 hf3)
  go_upto_region 9 with (go_at_call 17; refine (F2.out _ _ HF3.out).mono ?_; rintro r w4 ⟨I, rfl, hIm, hI, h4⟩; have H4 := hide h4; have HI := hide hI; have HIM := hide hIm; clear h4 hI hIm)
  have A4 : Hid (Below w4.heap.size w4 (w4.alloc (boxA I))) := (Below.refl _ w4).alloc (Nat.le_refl _) _
  have U2 : Hid (Below (w2.alloc (boxA J)).heap.size (w2.alloc (boxA J)) (w4.alloc (boxA I))) := below_on (below_on H3.out H4.out) A4.out
  have U1 : Hid (Below (w.alloc (boxA G)).heap.size (w.alloc (boxA G)) (w4.alloc (boxA I))) := below_on (below_on (below_on H1.out H2.out) A2.out) U2.out
  have UP : Hid (∀ W, Below (w4.alloc (boxA I)).heap.size (w4.alloc (boxA I)) W → (Below w.heap.size w W ∧ W.cell? ⟨w.heap.size, 0, none⟩ = some (.int .i64 G.f) ∧ W.cell? ⟨w.heap.size, 1, none⟩ = some (.int .i64 G.w) ∧ W.cell? ⟨w.heap.size, 2, none⟩ = some (.slice G.wa G.ws.length G.wc) ∧ W.cell? ⟨w.heap.size, 3, none⟩ = some (.slice G.ta G.ks.length G.tc)) ∧ (W.cell? ⟨w2.heap.size, 0, none⟩ = some (.int .i64 J.f) ∧ W.cell? ⟨w2.heap.size, 1, none⟩ = some (.int .i64 J.w) ∧ W.cell? ⟨w2.heap.size, 2, none⟩ = some (.slice J.wa J.ws.length J.wc) ∧ W.cell? ⟨w2.heap.size, 3, none⟩ = some (.slice J.ta J.ks.length J.tc)) ∧ RdG W J ∧ RdG W I ∧ FO W p G.m ∧ FO W q (M.levG G.m)) := fun W hW =>
    ⟨BX.out W (below_on U1.out hW), CJ.out W (below_on U2.out hW), HJ2.out.below (below_on U2.out hW), HI.out.below (below_on A4.out hW), HF1.out.below (below_on (below_on (below_on H2.out A2.out) U2.out) hW), HF3.out.below (below_on (below_on H4.out A4.out) hW)⟩
  have R4 : Hid (Below (w4.alloc (boxA I)).heap.size (w4.alloc (boxA I)) (w4.alloc (boxA I))) := Below.refl _ _
  obtain ⟨_, ⟨x0, x1, x2, x3⟩, _⟩ := UP.out _ R4.out
  go_upto_region 10 with (go_at_call 18; refine (SM.out J I _ (UP.out _ R4.out).2.2.1 (UP.out _ R4.out).2.2.2.1 HM.out HIM.out).mono ?_; rintro r w5 ⟨rfl, h5⟩; have H5 := hide h5; clear h5)
  clear x0 x1 x2 x3
  obtain ⟨⟨_, y0, y1, y2, y3⟩, ⟨x0, x1, x2, x3⟩, _⟩ := UP.out _ H5.out
  go_upto_region 11 with (go_at_call 13; refine (DG.out J _ (UP.out _ H5.out).1.1 (UP.out _ H5.out).2.2.1 HM.out).mono ?_; rintro r w6 ⟨rfl, h6⟩; have H6 := hide (below_on H5.out h6); clear h6)
  clear x0 x1 x2 x3 y0 y1 y2 y3
  go_upto_region 12 with (go_at_call 8; refine (ER.out _ (UP.out _ H6.out).1.1).mono ?_; rintro r w7 ⟨rfl, h7⟩; have H7 := hide (below_on H6.out h7); clear h7)
  obtain ⟨_, _, _, _, f1, f2⟩ := UP.out _ H7.out
  go_wp2_with (first
    | (go_at_call 19; refine (S2.out _ _ f2).mono ?_; rintro r w8 ⟨rfl, e8⟩; subst w8)
    | (go_at_call 19; refine (S1.out _ _ f1).mono ?_; rintro r w8 ⟨rfl, e8⟩; subst w8))
  go_ret
  exact ⟨rfl, (UP.out _ H7.out).1.1⟩

theorem again_walk (hN : FNewGives) (hB : FBadGives) (hF : FGroveGives) (hD : DifGrovesGives) (G : Gr) (w : World) (h : RdG w G) (hl : Lays w) :
    Calls Tryd.prog 5 #[G.v] w fun r w' => r = .returned (.bool true) ∧ Below w.heap.size w w' := by
  by_cases he : M.groveF G.m = 0
  · exact again_good hN hF hD G w h hl he
  · exact again_bad hB G w h he

end Go.Proofs.YtcaljnhdfbjpnaeDoor
