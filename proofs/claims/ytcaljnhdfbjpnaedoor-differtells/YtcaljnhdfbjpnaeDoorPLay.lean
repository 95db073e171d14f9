/-
  What package prune's layBehind answers: the nodes that tell a tree from a place on, in order, behind others.
-/
import Derived.Test.YtcaljnhdfbjpnaeDoorGrown
import Derived.Test.YtcaljnhdfbjpnaeDoorPruneMath
import Derived.Deep.Cut
import Derived.Deep.CutRange
import Derived.RegionTactic
namespace Go.Proofs.YtcaljnhdfbjpnaeDoor
open Go.ChangeShapes Go.WideShapes Go.ChangeAt Go.RowKit Go.Lib
set_option linter.unusedVariables false

theorem nAt_last (O : List M.Nd) (n : M.Nd) (C : List M.Nd) : M.nAt (O ++ n :: C) O.length = n := by unfold M.nAt; simp [List.getD]
theorem set_last (O : List M.Nd) (n n' : M.Nd) (C : List M.Nd) : (O ++ n :: C).set O.length n' = O ++ n' :: C := by
  rw [List.set_append_right _ _ (Nat.le_refl _), Nat.sub_self, List.set_cons_zero]
theorem six_keep {w W : World} {b off : Nat} {n : M.Nd} (hb : W.heap[b]? = w.heap[b]?) (h : SixAt w b off n) : SixAt W b off n := by
  obtain ⟨h0, h1, h2, h3, h4, h5⟩ := h
  exact ⟨(World.cell?_of_block (a := ⟨b, _, none⟩) hb).trans h0, (World.cell?_of_block (a := ⟨b, _, none⟩) hb).trans h1, (World.cell?_of_block (a := ⟨b, _, none⟩) hb).trans h2, (World.cell?_of_block (a := ⟨b, _, none⟩) hb).trans h3, (World.cell?_of_block (a := ⟨b, _, none⟩) hb).trans h4, (World.cell?_of_block (a := ⟨b, _, none⟩) hb).trans h5⟩

theorem six_alloc (w : World) (n : M.Nd) (t : TypeId) : SixAt ((w.alloc (.cells #[.int .i64 (M.nf n), .int .i64 (M.nc n), .int .i64 (M.nl n), .int .i64 (M.nr n), .bool (M.ns n), .int .i64 (M.nv n)] t)).drew) w.heap.size 0 n :=
  ⟨World.cell?_alloc_at _ _ _ 0 rfl, World.cell?_alloc_at _ _ _ 1 rfl, World.cell?_alloc_at _ _ _ 2 rfl, World.cell?_alloc_at _ _ _ 3 rfl, World.cell?_alloc_at _ _ _ 4 rfl, World.cell?_alloc_at _ _ _ 5 rfl⟩

set_option maxHeartbeats 8000000 in
set_option maxRecDepth 10000 in
theorem play_any (ts : List M.Nd) (l63 : ts.length ≤ 63) (bt ot cap B : Nat) : ∀ (T : M.BT) (i : Nat), M.Den ts T i → ∀ (O : List M.Nd) (va : Option Addr) (vc : Nat) (w : World), bt < w.heap.size → (∀ j, j < ts.length → SixAt w bt (ot + j * 6) (M.nAt ts j)) → (Value.slice va O.length vc).ownBlock ≠ some bt → w.ownsRow B 25 6 (.slice va O.length vc) O.length (ndCells O) → B ≤ w.heap.size → O.length + T.size ≤ 1000 →
    Calls Tryd.prog 28 #[.slice va O.length vc, .slice (some ⟨bt, ot, none⟩) ts.length cap, .int .i64 (i : Nat)] w fun e w' => ∃ g c, e = .returned (.slice (some ⟨g, 0, none⟩) (O.length + T.size) c) ∧ w'.ownsRow B 25 6 (.slice (some ⟨g, 0, none⟩) (O.length + T.size) c) (O.length + T.size) (ndCells (O ++ M.lay T O.length)) ∧ w.grownBy w' (Value.slice va O.length vc).ownBlock ∧ ((Value.slice va O.length vc).ownBlock = some g ∨ w.heap.size ≤ g) := by
  intro T
  induction T with
  | lf v =>
    intro i hD O va vc w hbt hct hne hv hB hsz
    obtain ⟨hi, hn⟩ := hD
    have iz : (i : Int) < (ts.length : Int) := by omega
    obtain ⟨j0, hj, hy0, hy1, hy2⟩ := info_parts infoN
    have J0 := hide hj
    have R0 := hct i hi
    rw [hn] at R0
    have HL : Hid (∀ g, (Value.slice va O.length vc).ownBlock = some g → g < w.heap.size) := fun g hg => (hv.lt g hg).2
    have HV := hide hv
    have RA : Hid (∀ o, SixAt (w.alloc o) bt (ot + i * 6) (-1, 0, 0, 0, false, v)) := fun o => R0.below ((Below.refl _ w).alloc (Nat.le_refl _) o) hbt
    have r0 : w.cell? ⟨bt, ot + i * 6, none⟩ = some (.int .i64 (-1)) := R0.1
    have a0 : ∀ o, (w.alloc o).cell? ⟨bt, ot + i * 6, none⟩ = some (.int .i64 (-1)) := fun o => (RA.out o).1
    have r1 : w.cell? ⟨bt, ot + i * 6 + 1, none⟩ = some (.int .i64 0) := R0.2.1
    have a1 : ∀ o, (w.alloc o).cell? ⟨bt, ot + i * 6 + 1, none⟩ = some (.int .i64 0) := fun o => (RA.out o).2.1
    have r2 : w.cell? ⟨bt, ot + i * 6 + 2, none⟩ = some (.int .i64 0) := R0.2.2.1
    have a2 : ∀ o, (w.alloc o).cell? ⟨bt, ot + i * 6 + 2, none⟩ = some (.int .i64 0) := fun o => (RA.out o).2.2.1
    have r3 : w.cell? ⟨bt, ot + i * 6 + 3, none⟩ = some (.int .i64 0) := R0.2.2.2.1
    have a3 : ∀ o, (w.alloc o).cell? ⟨bt, ot + i * 6 + 3, none⟩ = some (.int .i64 0) := fun o => (RA.out o).2.2.2.1
    have r4 : w.cell? ⟨bt, ot + i * 6 + 4, none⟩ = some (.bool false) := R0.2.2.2.2.1
    have a4 : ∀ o, (w.alloc o).cell? ⟨bt, ot + i * 6 + 4, none⟩ = some (.bool false) := fun o => (RA.out o).2.2.2.2.1
    have r5 : w.cell? ⟨bt, ot + i * 6 + 5, none⟩ = some (.int .i64 v) := R0.2.2.2.2.2
    have a5 : ∀ o, (w.alloc o).cell? ⟨bt, ot + i * 6 + 5, none⟩ = some (.int .i64 v) := fun o => (RA.out o).2.2.2.2.2
    have ol : O.length ≤ 1000 := by omega
    have e1 : (M.BT.lf v).size = 1 := rfl
    have e2 : M.lay (.lf v) O.length = [(-1, 0, 0, 0, false, v)] := rfl
    rw [e1, e2]
    have HC := hide True.intro
    have HE := hide True.intro
    clear hv hct hj hne hn hsz e1 e2 R0 RA
    go_enter Tryd.func28, Tryd.ntmps28
    go_upto_region 1 with fail
    go_cut [7, 8] from 9 to 14 (fun x y wx => x = .int .i64 (O.length : Int) ∧ y = .pointer (some ⟨w.heap.size, 0, none⟩) ∧ Hid (Below w.heap.size w wx ∧ wx.heap.size = w.heap.size + 1 ∧ SixAt wx w.heap.size 0 (-1, 0, 0, 0, false, v)))
    case first =>
      clear HC HL HV HE
      go_region
      all_goals (
        go_wp2
        go_meet
        case rel => exact ⟨rfl, rfl, ((Below.refl _ w).alloc (Nat.le_refl _) _).drew, by simp, six_alloc w (-1, 0, 0, 0, false, v) _⟩)
    case rest =>
      obtain ⟨rfl, rfl, HX⟩ := hcut
      clear r0 r1 r2 r3 r4 r5 a0 a1 a2 a3 a4 a5
      have HO := hide (own_up HV.out HX.out.1)
      have ws := HX.out.2.1
      have s0 : wc.cell? ⟨w.heap.size, 0, none⟩ = some (.int .i64 (-1)) := HX.out.2.2.1
      have s1 : wc.cell? ⟨w.heap.size, 1, none⟩ = some (.int .i64 0) := HX.out.2.2.2.1
      have s2 : wc.cell? ⟨w.heap.size, 2, none⟩ = some (.int .i64 0) := HX.out.2.2.2.2.1
      have s3 : wc.cell? ⟨w.heap.size, 3, none⟩ = some (.int .i64 0) := HX.out.2.2.2.2.2.1
      have s4 : wc.cell? ⟨w.heap.size, 4, none⟩ = some (.bool false) := HX.out.2.2.2.2.2.2.1
      have s5 : wc.cell? ⟨w.heap.size, 5, none⟩ = some (.int .i64 v) := HX.out.2.2.2.2.2.2.2
      have KB : Hid (∀ W, wc.grownBy W (Value.slice va O.length vc).ownBlock → W.cell? ⟨w.heap.size, 0, none⟩ = some (.int .i64 (-1))) := fun W hW => (six_keep (hW.block _ (by omega) (fun e => by have := HL.out _ e.symm; omega)) HX.out.2.2).1
      have WS := hide ws
      clear ws
      go_wp2_with (at_builtin; refine wpList_append_lies _ rfl (.tmp 15) (.tmp 17) 22 rfl B 25 j0 (.agg #[.int .i64 0, .int .i64 0, .int .i64 0, .int .i64 0, .bool false, .int .i64 0]) 6 48 Tryd.underlying22 J0.out hy0 hy1 hy2 rfl (by omega) (.slice va O.length vc) O.length (ndCells O) rfl (HO.out.alloc _) ⟨wc.heap.size, 0, none⟩ 1 1 [.int .i64 (-1), .int .i64 0, .int .i64 0, .int .i64 0, .bool false, .int .i64 v] rfl rfl (World.news_of_block (heap_alloc_new _ _)) (by simp [Value.oneCell']) (by omega) (by unfold maxLen; omega) (by omega) (by simp; have := WS.out; omega) (wc.heap.size + 1) (by simp) ?_)
      intro g1 c1 w1 hov hgrow hat hlt1
      have HO1 : Hid (w1.ownsRow B 25 6 (.slice (some ⟨g1, 0, none⟩) (O.length + 1) c1) (O.length + 1) (ndCells (O ++ [(-1, 0, 0, 0, false, v)]))) := by
        unfold Hid; rw [ndCells_app]; exact hov
      have G1 : Hid (wc.grownBy w1 (Value.slice va O.length vc).ownBlock) := grown_trans (World.grownBy_alloc wc _ _) hgrow (.inl rfl)
      have A1 : Hid ((Value.slice va O.length vc).ownBlock = some g1 ∨ w.heap.size ≤ g1) := by
        rcases hat with q | q
        · exact .inl q
        · exact .inr (by have := WS.out; omega)
      have z0 := KB.out w1 G1.out
      clear hov hgrow hat HV HO s0 s1 s2 s3 s4 s5 KB
      go_wp2
      go_ret
      exact ⟨g1, c1, rfl, HO1.out, grown_trans (grown_of HX.out.1 _) G1.out (.inl rfl), A1.out⟩
  | nd f c s l r ihl ihr =>
    intro i hD O va vc w hbt hct hne hv hB hsz
    obtain ⟨hi, hf, a, b, hn, hia, hib, hDl, hDr⟩ := hD
    have iz : (i : Int) < (ts.length : Int) := by omega
    obtain ⟨j0, hj, hy0, hy1, hy2⟩ := info_parts infoN
    have J0 := hide hj
    have R0 := hct i hi
    rw [hn] at R0
    have HL : Hid (∀ g, (Value.slice va O.length vc).ownBlock = some g → g < w.heap.size) := fun g hg => (hv.lt g hg).2
    have HV := hide hv
    have RA : Hid (∀ o, SixAt (w.alloc o) bt (ot + i * 6) (f, c, (a : Int), (b : Int), s, 0)) := fun o => R0.below ((Below.refl _ w).alloc (Nat.le_refl _) o) hbt
    have r0 : w.cell? ⟨bt, ot + i * 6, none⟩ = some (.int .i64 f) := R0.1
    have a0 : ∀ o, (w.alloc o).cell? ⟨bt, ot + i * 6, none⟩ = some (.int .i64 f) := fun o => (RA.out o).1
    have r1 : w.cell? ⟨bt, ot + i * 6 + 1, none⟩ = some (.int .i64 c) := R0.2.1
    have a1 : ∀ o, (w.alloc o).cell? ⟨bt, ot + i * 6 + 1, none⟩ = some (.int .i64 c) := fun o => (RA.out o).2.1
    have r2 : w.cell? ⟨bt, ot + i * 6 + 2, none⟩ = some (.int .i64 (a : Int)) := R0.2.2.1
    have a2 : ∀ o, (w.alloc o).cell? ⟨bt, ot + i * 6 + 2, none⟩ = some (.int .i64 (a : Int)) := fun o => (RA.out o).2.2.1
    have r3 : w.cell? ⟨bt, ot + i * 6 + 3, none⟩ = some (.int .i64 (b : Int)) := R0.2.2.2.1
    have a3 : ∀ o, (w.alloc o).cell? ⟨bt, ot + i * 6 + 3, none⟩ = some (.int .i64 (b : Int)) := fun o => (RA.out o).2.2.2.1
    have r4 : w.cell? ⟨bt, ot + i * 6 + 4, none⟩ = some (.bool s) := R0.2.2.2.2.1
    have a4 : ∀ o, (w.alloc o).cell? ⟨bt, ot + i * 6 + 4, none⟩ = some (.bool s) := fun o => (RA.out o).2.2.2.2.1
    have r5 : w.cell? ⟨bt, ot + i * 6 + 5, none⟩ = some (.int .i64 0) := R0.2.2.2.2.2
    have a5 : ∀ o, (w.alloc o).cell? ⟨bt, ot + i * 6 + 5, none⟩ = some (.int .i64 0) := fun o => (RA.out o).2.2.2.2.2
    have ol : O.length ≤ 1000 := by omega
    have hf' : (f == -1) = false := by rw [beq_eq_false_iff_ne]; exact hf
    have IA := hide (ihl a hDl)
    have IB := hide (ihr b hDr)
    have LA : Hid (∀ k, (M.lay l k).length = l.size) := fun k => M.lay_len _ k
    have e1 : (M.BT.nd f c s l r).size = 1 + l.size + r.size := rfl
    have e2 : M.lay (.nd f c s l r) O.length = (f, c, ((O.length + 1 : Nat) : Int), ((O.length + 1 + l.size : Nat) : Int), s, 0) :: (M.lay l (O.length + 1) ++ M.lay r (O.length + 1 + l.size)) := rfl
    have cz1 : ((O.length + 1 : Nat) : Int) = (O.length : Int) + 1 := by omega
    have cz2 : ((O.length + 1 + l.size : Nat) : Int) = (O.length : Int) + 1 + (l.size : Int) := by omega
    rw [e1] at hsz
    rw [e1, e2, cz1, cz2, show O.length + (1 + l.size + r.size) = O.length + 1 + l.size + r.size by omega]
    have HC := hide hct
    have HE := hide hne
    clear hv hct hj hne hn e1 e2 cz1 cz2 R0 RA ihl ihr hDl hDr hf
    generalize htl : l.size = sl at *
    generalize htr : r.size = sr at *
    have TL := hide htl
    have TR := hide htr
    clear htl htr
    go_enter Tryd.func28, Tryd.ntmps28
    go_upto_region 1 with fail
    go_cut [7, 8] from 9 to 14 (fun x y wx => x = .int .i64 (O.length : Int) ∧ y = .pointer (some ⟨w.heap.size, 0, none⟩) ∧ Hid (Below w.heap.size w wx ∧ wx.heap.size = w.heap.size + 1 ∧ SixAt wx w.heap.size 0 (f, c, (a : Int), (b : Int), s, 0)))
    case first =>
      clear HC HL HV HE
      go_region
      all_goals (
        go_wp2
        go_meet
        case rel => exact ⟨rfl, rfl, ((Below.refl _ w).alloc (Nat.le_refl _) _).drew, by simp, six_alloc w (f, c, (a : Int), (b : Int), s, 0) _⟩)
    case rest =>
      obtain ⟨rfl, rfl, HX⟩ := hcut
      clear r0 r1 r2 r3 r4 r5 a0 a1 a2 a3 a4 a5
      have HO := hide (own_up HV.out HX.out.1)
      have ws := HX.out.2.1
      have s0 : wc.cell? ⟨w.heap.size, 0, none⟩ = some (.int .i64 f) := HX.out.2.2.1
      have s1 : wc.cell? ⟨w.heap.size, 1, none⟩ = some (.int .i64 c) := HX.out.2.2.2.1
      have s2 : wc.cell? ⟨w.heap.size, 2, none⟩ = some (.int .i64 (a : Int)) := HX.out.2.2.2.2.1
      have s3 : wc.cell? ⟨w.heap.size, 3, none⟩ = some (.int .i64 (b : Int)) := HX.out.2.2.2.2.2.1
      have s4 : wc.cell? ⟨w.heap.size, 4, none⟩ = some (.bool s) := HX.out.2.2.2.2.2.2.1
      have s5 : wc.cell? ⟨w.heap.size, 5, none⟩ = some (.int .i64 0) := HX.out.2.2.2.2.2.2.2
      have KB : Hid (∀ W, wc.grownBy W (Value.slice va O.length vc).ownBlock → W.cell? ⟨w.heap.size, 0, none⟩ = some (.int .i64 f) ∧ W.cell? ⟨w.heap.size, 2, none⟩ = some (.int .i64 (a : Int)) ∧ W.cell? ⟨w.heap.size, 3, none⟩ = some (.int .i64 (b : Int))) := fun W hW => by
        have q := six_keep (hW.block w.heap.size (by omega) (fun e => by have := HL.out _ e.symm; omega)) HX.out.2.2
        exact ⟨q.1, q.2.2.1, q.2.2.2.1⟩
      have KC : Hid (∀ W, wc.grownBy W (Value.slice va O.length vc).ownBlock → bt < W.heap.size ∧ wc.heap.size ≤ W.heap.size ∧ ∀ j, j < ts.length → SixAt W bt (ot + j * 6) (M.nAt ts j)) := fun W hW => by
        refine ⟨by have := hW.size; omega, hW.size, fun j hj => ?_⟩
        exact six_keep (hW.block bt (by omega) (fun e => HE.out e.symm)) ((HC.out j hj).below HX.out.1 hbt)
      have WS := hide ws
      clear ws
      go_wp2_with (at_builtin; refine wpList_append_lies _ rfl (.tmp 15) (.tmp 17) 22 rfl B 25 j0 (.agg #[.int .i64 0, .int .i64 0, .int .i64 0, .int .i64 0, .bool false, .int .i64 0]) 6 48 Tryd.underlying22 J0.out hy0 hy1 hy2 rfl (by omega) (.slice va O.length vc) O.length (ndCells O) rfl (HO.out.alloc _) ⟨wc.heap.size, 0, none⟩ 1 1 [.int .i64 f, .int .i64 c, .int .i64 (a : Int), .int .i64 (b : Int), .bool s, .int .i64 0] rfl rfl (World.news_of_block (heap_alloc_new _ _)) (by simp [Value.oneCell']) (by omega) (by unfold maxLen; omega) (by omega) (by simp; have := WS.out; omega) (wc.heap.size + 1) (by simp) ?_)
      intro g1 c1 w1 hov hgrow hat hlt1
      have HO1 : Hid (w1.ownsRow B 25 6 (.slice (some ⟨g1, 0, none⟩) (O.length + 1) c1) (O.length + 1) (ndCells (O ++ [(f, c, (a : Int), (b : Int), s, (0 : Int))]))) := by
        unfold Hid; rw [ndCells_app]; exact hov
      have G1 : Hid (wc.grownBy w1 (Value.slice va O.length vc).ownBlock) := grown_trans (World.grownBy_alloc wc _ _) hgrow (.inl rfl)
      have A1 : Hid ((Value.slice va O.length vc).ownBlock = some g1 ∨ wc.heap.size ≤ g1) := by
        rcases hat with q | q
        · exact .inl q
        · exact .inr (by omega)
      have L0 : O.length < (O ++ [(f, c, (a : Int), (b : Int), s, (0 : Int))]).length := by simp
      obtain ⟨t0, t2, t3⟩ := KB.out w1 G1.out
      obtain ⟨x0, x1, x2, x3, x4, x5⟩ := ndCells_at _ O.length L0
      have q2 := (HO1.out.cellAt (O.length * 6 + 2) (by omega)).trans x2
      have fz2 := HO1.out.frozenAt (O.length * 6 + 2)
      have oz : ((O.length : Nat) : Int) < ((O.length + 1 : Nat) : Int) := by omega
      clear hov hgrow hat HV HO s0 s1 s2 s3 s4 s5 x0 x1 x2 x3 x4 x5 L0
      go_upto_region 6 with fail
      obtain ⟨w2, hw2⟩ : ∃ W, W = w1.setCell ⟨g1, O.length * 6 + 2, none⟩ (.int .i64 ((O.length : Int) + 1)) := ⟨_, rfl⟩
      rw [← hw2]
      have g1s : Hid ((some g1 : Option Nat) = (Value.slice va O.length vc).ownBlock ∨ ∀ q, (some g1 : Option Nat) = some q → wc.heap.size ≤ q) := by
        rcases A1.out with q | q
        · exact .inl q.symm
        · exact .inr (fun z hz => by cases hz; exact q)
      have HO2 : Hid (w2.ownsRow B 25 6 (.slice (some ⟨g1, 0, none⟩) (O.length + 1) c1) (O.length + 1) (ndCells (O ++ [(f, c, (O.length : Int) + 1, (b : Int), s, (0 : Int))]))) := by
        have st := (HO1.out.stored (O.length * 6 + 2) (.int .i64 ((O.length : Int) + 1))).1
        rw [ndCells_setL _ O.length (by simp), nAt_last, set_last] at st
        rw [hw2]
        exact st
      have G2 : Hid (wc.grownBy w2 (Value.slice va O.length vc).ownBlock) := by
        rw [hw2]
        exact grown_trans G1.out grown_set g1s.out
      have gne : Hid (g1 ≠ bt) := fun e => by
        subst e
        rcases A1.out with q | q
        · exact HE.out q
        · have := WS.out; omega
      obtain ⟨kc1, kc2, kc3⟩ := KC.out w2 G2.out
      have I1 := IA.out (O ++ [(f, c, (O.length : Int) + 1, (b : Int), s, (0 : Int))]) (some ⟨g1, 0, none⟩) c1 w2 kc1 kc3 (fun e => gne.out (by cases e; rfl)) (by rw [List.length_append]; exact HO2.out) (by have := WS.out; omega) (by rw [List.length_append]; simp; omega)
      rw [show (O ++ [(f, c, (O.length : Int) + 1, (b : Int), s, (0 : Int))]).length = O.length + 1 by simp] at I1
      have HI1 := hide I1
      obtain ⟨u0, u2, u3⟩ := KB.out w2 G2.out
      clear hw2 I1 HO1 q2 fz2 t0 t2 t3 kc1 kc3 IA
      go_upto_region 7 with (go_at_call 28; refine HI1.out.mono ?_; rintro e w3 ⟨g3, c3, rfl, ho3, hg3, ha3⟩)
      have G3 : Hid (wc.grownBy w3 (Value.slice va O.length vc).ownBlock) := grown_trans G2.out hg3 g1s.out
      have A3 : Hid ((Value.slice va O.length vc).ownBlock = some g3 ∨ wc.heap.size ≤ g3) := by
        rcases ha3 with q | q
        · have e : g1 = g3 := by simpa [Value.ownBlock] using q
          rw [← e]; exact A1.out
        · exact .inr (Nat.le_trans kc2 q)
      have HO3 : Hid (w3.ownsRow B 25 6 (.slice (some ⟨g3, 0, none⟩) (O.length + 1 + sl) c3) (O.length + 1 + sl) (ndCells (O ++ (f, c, (O.length : Int) + 1, (b : Int), s, (0 : Int)) :: M.lay l (O.length + 1)))) := by
        have := ho3
        rw [List.append_assoc] at this
        exact this
      have L3 : O.length < (O ++ (f, c, (O.length : Int) + 1, (b : Int), s, (0 : Int)) :: M.lay l (O.length + 1)).length := by simp
      obtain ⟨x0, x1, x2, x3, x4, x5⟩ := ndCells_at _ O.length L3
      have q3 := (HO3.out.cellAt (O.length * 6 + 3) (by omega)).trans x3
      have fz3 := HO3.out.frozenAt (O.length * 6 + 3)
      have oz3 : ((O.length : Nat) : Int) < ((O.length + 1 + sl : Nat) : Int) := by omega
      clear ho3 hg3 ha3 HO2 x0 x1 x2 x3 x4 x5 L3 u0 u2 u3 HI1 kc2
      go_upto_region 8 with fail
      obtain ⟨w4, hw4⟩ : ∃ W, W = w3.setCell ⟨g3, O.length * 6 + 3, none⟩ (.int .i64 ((O.length : Int) + 1 + (sl : Int))) := ⟨_, rfl⟩
      rw [← hw4]
      have g3s : Hid ((some g3 : Option Nat) = (Value.slice va O.length vc).ownBlock ∨ ∀ q, (some g3 : Option Nat) = some q → wc.heap.size ≤ q) := by
        rcases A3.out with q | q
        · exact .inl q.symm
        · exact .inr (fun z hz => by cases hz; exact q)
      have HO4 : Hid (w4.ownsRow B 25 6 (.slice (some ⟨g3, 0, none⟩) (O.length + 1 + sl) c3) (O.length + 1 + sl) (ndCells (O ++ (f, c, (O.length : Int) + 1, (O.length : Int) + 1 + (sl : Int), s, (0 : Int)) :: M.lay l (O.length + 1)))) := by
        have st := (HO3.out.stored (O.length * 6 + 3) (.int .i64 ((O.length : Int) + 1 + (sl : Int)))).1
        rw [ndCells_setR _ O.length (by simp), nAt_last, set_last] at st
        rw [hw4]
        exact st
      have G4 : Hid (wc.grownBy w4 (Value.slice va O.length vc).ownBlock) := by
        rw [hw4]
        exact grown_trans G3.out grown_set g3s.out
      have gne3 : Hid (g3 ≠ bt) := fun e => by
        subst e
        rcases A3.out with q | q
        · exact HE.out q
        · have := WS.out; omega
      obtain ⟨kc1, kc2, kc3⟩ := KC.out w4 G4.out
      have len4 : (O ++ (f, c, (O.length : Int) + 1, (O.length : Int) + 1 + (sl : Int), s, (0 : Int)) :: M.lay l (O.length + 1)).length = O.length + 1 + sl := by
        rw [List.length_append, List.length_cons, LA.out]; omega
      have I2 := IB.out (O ++ (f, c, (O.length : Int) + 1, (O.length : Int) + 1 + (sl : Int), s, (0 : Int)) :: M.lay l (O.length + 1)) (some ⟨g3, 0, none⟩) c3 w4 kc1 kc3 (fun e => gne3.out (by cases e; rfl)) (by rw [len4]; exact HO4.out) (by have := WS.out; omega) (by rw [len4]; omega)
      rw [len4] at I2
      have HI2 := hide I2
      obtain ⟨u0, u2, u3⟩ := KB.out w4 G4.out
      clear hw4 I2 HO3 q3 fz3 len4 KB KC IB kc1 kc3 HC HE
      go_wp2_with (go_at_call 28; refine HI2.out.mono ?_; rintro e w5 ⟨g5, c5, rfl, ho5, hg5, ha5⟩)
      go_ret
      refine ⟨g5, c5, rfl, ?_, grown_trans (grown_of HX.out.1 _) (grown_trans G4.out hg5 g3s.out) (.inl rfl), ?_⟩
      · rw [List.append_assoc, List.cons_append] at ho5
        exact ho5
      · have := HX.out.1.size
        rcases ha5 with q | q
        · have e : g3 = g5 := by simpa [Value.ownBlock] using q
          rw [← e]
          rcases A3.out with q | q
          · exact .inl q
          · exact .inr (by omega)
        · exact .inr (by omega)

end Go.Proofs.YtcaljnhdfbjpnaeDoor
