/-
  Several texts as one: CdGrv, CdDec, RefGrove.
-/
import Derived.Test.YtdadjppdonephagDoorRunT11
import Derived.Deep.AppendLies
import Derived.RegionTactic
import Derived.Deep.RegionLaw
import Derived.Test.YtdadjppdonephagDoorRunT10
import Derived.Test.YtdadjppdonephagDoorRunT8
import Derived.Deep.Cut
import Derived.Deep.CutRange
import Derived.Deep.RegionWith
namespace Go.Proofs.YtdadjppdonephagDoor
open Go.ChangeShapes Go.WideShapes Go.ChangeAt Go.RowKit Go.Lib
set_option linter.unusedVariables false

theorem infoTs : (Tryd.prog.info? 46).map (fun i => (i.zero, i.size, i.bytes)) = some (some (.slice none 0 0), 1, 24) := by kernel_rfl
/-- so many trees, whatever is wrong -/
def M.lTrees (b : List Nat) : Nat → M.In → List (Int × List M.Nd) × M.In
  | 0, s => ([], s)
  | k + 1, s => (((M.rNum b s).1, (M.lTree b (M.rNum b s).2).1) :: (M.lTrees b k (M.lTree b (M.rNum b s).2).2).1, (M.lTrees b k (M.lTree b (M.rNum b s).2).2).2)
def M.lAll (b : List Nat) : List (Int × List M.Nd) × M.In := M.lTrees b (M.rHead b).1.2.2.toNat (M.rHead b).2
def M.lGrove (b : List Nat) : M.Gv := ((M.rHead b).1.1, (M.rHead b).1.2.1, (M.lAll b).1.map (·.1), (M.lAll b).1.map (·.2))
theorem M.lTree_bad {b : List Nat} {s : M.In} (h : s.bad ≠ 0) : (M.lTree b s).2 = s := by
  unfold M.lTree M.rMany
  rw [M.rNum_bad h, if_neg (fun z => h z.1), if_pos h]
  exact M.lNodes_bad _ h
theorem M.lTrees_bad {b : List Nat} : ∀ (k : Nat) {s : M.In}, s.bad ≠ 0 → (M.lTrees b k s).2 = s
  | 0, s, h => rfl
  | k + 1, s, h => by
    show (M.lTrees b k (M.lTree b (M.rNum b s).2).2).2 = s
    rw [M.rNum_bad h, M.lTree_bad h]
    exact M.lTrees_bad k h
theorem M.lTree_is (b : List Nat) (s : M.In) : (M.lTree b (M.rNum b s).2).2 = (M.rTree b s).2 ∧ ((M.rTree b s).2.bad = 0 → ((M.rNum b s).1, (M.lTree b (M.rNum b s).2).1) = (M.rTree b s).1) := by
  have := M.lNodes_is (b := b) (M.rMany b 63 (M.rNum b s).2).1.toNat (M.rMany b 63 (M.rNum b s).2).2
  exact ⟨this.1, fun h => by show (_, (M.lNodes b _ _).1) = _; rw [this.2 h]; rfl⟩
theorem M.rTrees_bad {b : List Nat} {s : M.In} (h : s.bad ≠ 0) (k : Nat) : M.rTrees b k s = ([], s) := by
  cases k with
  | zero => rfl
  | succ k => show (if _ then _ else _) = _; rw [if_pos h]
theorem M.lTrees_is {b : List Nat} : ∀ (k : Nat) (s : M.In), (M.lTrees b k s).2 = (M.rTrees b k s).2 ∧ ((M.rTrees b k s).2.bad = 0 → (M.lTrees b k s).1 = (M.rTrees b k s).1)
  | 0, s => ⟨rfl, fun _ => rfl⟩
  | k + 1, s => by
    by_cases q : s.bad = 0
    · have e : M.rTrees b (k + 1) s = ((M.rTree b s).1 :: (M.rTrees b k (M.rTree b s).2).1, (M.rTrees b k (M.rTree b s).2).2) := by
        show (if _ then _ else _) = _
        rw [if_neg (by simp [q])]
      have t := M.lTree_is b s
      have ih := M.lTrees_is (b := b) k (M.rTree b s).2
      have el : M.lTrees b (k + 1) s = (((M.rNum b s).1, (M.lTree b (M.rNum b s).2).1) :: (M.lTrees b k (M.rTree b s).2).1, (M.lTrees b k (M.rTree b s).2).2) := by
        show (_ :: (M.lTrees b k (M.lTree b (M.rNum b s).2).2).1, (M.lTrees b k (M.lTree b (M.rNum b s).2).2).2) = _
        rw [t.1]
      rw [e, el]
      refine ⟨ih.1, fun h => ?_⟩
      have hb : (M.rTree b s).2.bad = 0 := by
        by_cases z : (M.rTree b s).2.bad = 0
        · exact z
        · have h' : (M.rTrees b k (M.rTree b s).2).2.bad = 0 := h
          rw [M.rTrees_bad z] at h'
          exact absurd h' z
      show _ :: _ = _ :: _
      rw [t.2 hb, ih.2 h]
    · rw [M.rTrees_bad q]
      exact ⟨M.lTrees_bad (k + 1) q, fun h => absurd h q⟩
theorem M.lAll_is (b : List Nat) : (M.lAll b).2 = (M.rAll b).2 ∧ ((M.rAll b).2.bad = 0 → M.lGrove b = M.rGrove b) := by
  have := M.lTrees_is (b := b) (M.rHead b).1.2.2.toNat (M.rHead b).2
  refine ⟨this.1, fun h => ?_⟩
  have e : (M.lAll b).1 = (M.rAll b).1 := this.2 h
  unfold M.lGrove M.rGrove
  rw [e]
theorem M.lTrees_len {b : List Nat} : ∀ (k : Nat) (s : M.In), (M.lTrees b k s).1.length = k
  | 0, s => rfl
  | k + 1, s => by show (M.lTrees b k _).1.length + 1 = k + 1; rw [M.lTrees_len k]

set_option maxHeartbeats 16000000 in
set_option maxRecDepth 10000 in
theorem groveR {w : World} {g : Nat} {a : Option Addr} {bs : List Nat} {c : Nat} (h : Rdr w g a bs c M.in0) : Calls Tryd.prog 21 #[.pointer (some ⟨g, 0, none⟩)] w fun e w' => ∃ O : Gr, e = .returned O.v ∧ O.m = M.lGrove bs ∧ NewH w w' O ∧ Rdr w' g a bs c (M.lAll bs).2 ∧ w.grownBy w' (some g) := by
  have GL := hide h.lt
  have H0 := hide h
  have HA := hide (h.alloc (.cells #[.int .i64 0, .int .i64 0, .slice none 0 0, .slice none 0 0] 25))
  obtain ⟨⟨n1, s1⟩, h1⟩ : ∃ R, M.rNum bs M.in0 = R := ⟨_, rfl⟩
  obtain ⟨⟨n2, s2⟩, h2⟩ : ∃ R, M.rNum bs s1 = R := ⟨_, rfl⟩
  obtain ⟨⟨m3, s3⟩, h3⟩ : ∃ R, M.rMany bs 12 s2 = R := ⟨_, rfl⟩
  have N1 := hide (fun (W : World) (h : Rdr W g a bs c M.in0) => numR h)
  have N2 := hide (fun (W : World) (h : Rdr W g a bs c s1) => numR h)
  have C3 := hide (fun (W : World) (h : Rdr W g a bs c s2) => cntR 12 h)
  have mi := M.rMany_in (b := bs) (s := s2) (most := 12) (by decide)
  rw [h1] at N1
  rw [h2] at N2
  rw [h3] at C3 mi
  have EH : Hid (M.rHead bs = ((n1, n2, m3), s3)) := by
    unfold Hid M.rHead
    rw [h1]
    simp only
    rw [h2]
    simp only
    rw [h3]
  obtain ⟨n, rfl⟩ : ∃ n : Nat, m3 = (n : Int) := ⟨m3.toNat, by simp only at mi; omega⟩
  have n12 : n ≤ 12 := by simp only at mi; omega
  have EA : Hid (M.lAll bs = M.lTrees bs n s3) := by
    unfold Hid M.lAll
    rw [EH.out]
    simp only [Int.toNat_natCast]
  have EG : Hid (M.lGrove bs = (n1, n2, (M.lAll bs).1.map (·.1), (M.lAll bs).1.map (·.2))) := by
    unfold Hid M.lGrove
    rw [EH.out]
  clear h h1 h2 h3 mi EH
  generalize M.lAll bs = Z at *
  generalize M.lGrove bs = G at *
  simp only at N1 N2 C3
  go_enter Tryd.func21, Tryd.ntmps21
  go_upto_region 2 with (first
    | (go_at_call 33; refine (N2.out _ I1.out).mono ?_; rintro e w2 ⟨rfl, i2, g2⟩; have I2 := hide i2; have G2 := hide (grown_trans G1.out g2 (.inl rfl)); clear i2 g2)
    | (go_at_call 33; refine (N1.out _ HA.out).mono ?_; rintro e w1 ⟨rfl, i1, g1⟩; have I1 := hide i1; have G1 := hide g1; clear i1 g1))
  have GW0 : Hid (GW w g w.heap.size w2.heap.size n1 n2 0 none 0 [] 0 none 0 [] (w2.alloc (.cells #[.int .i64 n1, .int .i64 n2, .slice none 0 0, .slice none 0 0] 25))) := GW.new G2.out GL.out
  have I2a := hide (I2.out.alloc (.cells #[.int .i64 n1, .int .i64 n2, .slice none 0 0, .slice none 0 0] 25))
  obtain ⟨gb, hgb⟩ : ∃ gb, gb = w2.heap.size := ⟨_, rfl⟩
  rw [← hgb] at GW0
  simp only [← hgb]
  have HGB := hide hgb
  clear hgb G1 G2 I1 I2 N1 N2 HA
  go_wp2_with (go_at_call 34; refine (C3.out _ I2a.out).mono ?_; rintro e w3 ⟨rfl, i3, g3⟩; have I3 := hide i3; have W3 := hide (GW0.out.rdr g3); clear i3 g3)
  clear C3 I2a GW0
  obtain ⟨i0, hi0, hz0, hz1, hz2⟩ := info_parts info3
  have J0 := hide hi0
  obtain ⟨t0, ht0, hy0, hy1, hy2⟩ := info_parts infoTs
  have J1 := hide ht0
  have NN := hide (fun (W : World) (s : M.In) (h : Rdr W g a bs c s) => numR h)
  have TT := hide (fun (W : World) (s : M.In) (h : Rdr W g a bs c s) => treeR h)
  have NA : Hid (∀ k s, M.lTrees bs (k + 1) s = (((M.rNum bs s).1, (M.lTree bs (M.rNum bs s).2).1) :: (M.lTrees bs k (M.lTree bs (M.rNum bs s).2).2).1, (M.lTrees bs k (M.lTree bs (M.rNum bs s).2).2).2)) := fun _ _ => rfl
  clear hi0 ht0
  go_loopw [11] (fun i wr => ∃ (k : Nat) (ya : Option Addr) (yc : Nat) (xa : Option Addr) (xc : Nat) (P : List (Int × List M.Nd)) (D : List Tc) (s' : M.In), k ≤ n ∧ i = .int .i64 k ∧ Hid (P.length = k ∧ D.length = k ∧ tl D = P.map (·.2)) ∧ Hid (Z = (P ++ (M.lTrees bs (n - k) s').1, (M.lTrees bs (n - k) s').2)) ∧ Hid (Rdr wr g a bs c s') ∧ Hid (GW w g w.heap.size gb n1 n2 k ya yc (P.map (·.1)) k xa xc D wr)) (fun i _ => n - (intOf i).toNat)
  case atStart => exact ⟨0, none, 0, none, 0, [], [], s3, Nat.zero_le _, rfl, ⟨rfl, rfl, rfl⟩, by rw [Nat.sub_zero]; exact EA, I3, W3⟩
  case round =>
    obtain ⟨k, ya, yc, xa, xc, P, D, s', hk, rfl, LK, EZ, RR, GG⟩ := hrel
    by_cases hlt : k < n
    · have kz : (k : Int) < (n : Int) := by omega
      have na := NA.out (n - (k + 1)) s'
      rw [show n - (k + 1) + 1 = n - k by omega] at na
      have ez := EZ.out
      rw [na] at ez
      have M1 := hide (NN.out wr.drew s' (RR.out.up (Below.refl _ wr).drew))
      obtain ⟨⟨x1, t1⟩, e1⟩ : ∃ R, M.rNum bs s' = R := ⟨_, rfl⟩
      rw [e1] at M1 ez
      have M2 := hide (fun (W : World) (h : Rdr W g a bs c t1) => TT.out W t1 h)
      have TL := hide (M.lTree_len bs t1)
      obtain ⟨⟨TS, t2⟩, e2⟩ : ∃ R, M.lTree bs t1 = R := ⟨_, rfl⟩
      rw [e2] at TL
      simp only at TL
      rw [e2] at M2
      simp only at ez M1
      rw [e2] at ez
      simp only at ez M2
      have c2 := GG.out.c2
      have gbz := GG.out.lt
      clear na NN TT NA EZ e1 e2
      go_upto_region 4 with fail
      go_region_law (first
        | (refine step_append_lies _ rfl (.tmp 14) (.tmp 17) 22 rfl (gb + 1) 3 i0 (.int .i64 0) 1 8 Tryd.underlying22 J0.out hz0 hz1 hz2 rfl (by omega) (.slice ya k yc) k ((P.map (·.1)).map (Value.int .i64)) rfl (by exact G4.out.ow.alloc _) ⟨w4.heap.size, 0, none⟩ 1 1 [.int .i64 x1] rfl rfl (World.news_of_block (by first | exact heap_alloc_new _ _ | (simp; done))) (by simp [Value.oneCell']) (by omega) (by unfold maxLen; omega) (by omega) (by simp; omega) (w4.heap.size + 1) (by simp) ?_; intro g7 c7 w7 hov7 hgrow7 hat7 hlt7; have K7 := G4.out.weight hov7 hgrow7 hat7; have z2 := K7.1.1; have zf := K7.1.2; have G7 := hide K7.2.2; have R7 := hide (H0.out.far (H0.out.far I4.out K7.2.1 (fun q hq => by have := (G4.out.ow.lt q hq).1; have := G4.out.ge; omega)) (grown_set (g := gb) (o := 2) (u := .slice (some ⟨g7, 0, none⟩) (k + 1) c7)) (fun q hq => by cases hq; have := G4.out.ge; omega)); clear hov7 hgrow7 hat7 hlt7 K7)
        | (go_simp; go_at_call 33; refine M1.out.mono ?_; rintro e w4 ⟨rfl, i4, g4⟩; have I4 := hide i4; have G4 := hide (GG.out.rdr (grown_undrew g4)); have d2 := G4.out.c2; have d2a := fun o => (((Below.refl w4.heap.size w4).alloc (Nat.le_refl _) o).cell (p := ⟨gb, 2, none⟩) G4.out.lt).trans G4.out.c2; have w4z := G4.out.lt; clear i4 g4))
      all_goals (
        obtain ⟨w8, hw8⟩ : ∃ X, X = w7.setCell ⟨gb, 2, none⟩ (.slice (some ⟨g7, 0, none⟩) (k + 1) c7) := ⟨_, rfl⟩
        rw [← hw8] at G7 R7 ⊢
        have M3 := hide (M2.out w8.drew (R7.out.up (Below.refl _ w8).drew))
        have c3 := G7.out.c3
        clear hw8 z2 zf d2 d2a c2 M1 M2 G4 I4 gbz w4z GG RR
        go_upto_region 5 with fail
        go_region_law (first
          | (refine step_append_lies _ rfl (.tmp 21) (.tmp 24) 23 rfl (gb + 1) 46 t0 (.slice none 0 0) 1 24 Tryd.underlying23 J1.out hy0 hy1 hy2 rfl (by omega) (.slice xa k xc) k (D.map tV) rfl (by exact G9.out.ox.alloc _) ⟨w9.heap.size, 0, none⟩ 1 1 [.slice va TS.length vc] rfl rfl (World.news_of_block (by first | exact heap_alloc_new _ _ | (simp; done))) (by intro u hu; rw [List.mem_singleton] at hu; subst hu; rfl) (by omega) (by unfold maxLen; omega) (by omega) (by simp; omega) (w9.heap.size + 1) (by simp) ?_; intro g12 c12 w12 hov hgrow hat hlt12; have K12 := G9.out.tree (t := (va, TS, vc)) T9.out.1 T9.out.2 hov hgrow hat; have z2 := K12.1.1; have zf := K12.1.2; have G12 := hide K12.2.2; have R12 := hide (H0.out.far (H0.out.far I9.out K12.2.1 (fun q hq => by have := (G9.out.ox.lt q hq).1; have := G9.out.ge; omega)) (grown_set (g := gb) (o := 3) (u := .slice (some ⟨g12, 0, none⟩) (k + 1) c12)) (fun q hq => by cases hq; have := G9.out.ge; omega)); clear hov hgrow hat hlt12 K12)
          | (go_simp; go_at_call 35; refine M3.out.mono ?_; rintro e w9 ⟨va, vc, rfl, o9, i9, g9⟩; have I9 := hide i9; have G9 := hide (G7.out.rdr (grown_undrew g9)); have T9 := hide (G7.out.fresh o9 (by have := TL.out; omega)); have d2 := G9.out.c3; have d2a := fun o => (((Below.refl w9.heap.size w9).alloc (Nat.le_refl _) o).cell (p := ⟨gb, 3, none⟩) G9.out.lt).trans G9.out.c3; have w9z := G9.out.lt; clear i9 g9 o9))
        all_goals (
          obtain ⟨w13, hw13⟩ : ∃ X, X = w12.setCell ⟨gb, 3, none⟩ (.slice (some ⟨g12, 0, none⟩) (k + 1) c12) := ⟨_, rfl⟩
          rw [← hw13] at G12 R12 ⊢
          have E2 : Hid (Z = ((P ++ [(x1, TS)]) ++ (M.lTrees bs (n - (k + 1)) t2).1, (M.lTrees bs (n - (k + 1)) t2).2)) := by
            unfold Hid; rw [ez, List.append_assoc]; rfl
          have LK2 : Hid ((P ++ [(x1, TS)]).length = k + 1 ∧ (D ++ [(va, TS, vc)]).length = k + 1 ∧ tl (D ++ [(va, TS, vc)]) = (P ++ [(x1, TS)]).map (·.2)) := by
            obtain ⟨l1, l2, l3⟩ := LK.out
            refine ⟨by rw [List.length_append, l1]; rfl, by rw [List.length_append, l2]; rfl, ?_⟩
            unfold tl at l3 ⊢
            rw [List.map_append, List.map_append, l3]
            rfl
          have G13 : Hid (GW w g w.heap.size gb n1 n2 (k + 1) (some ⟨g7, 0, none⟩) c7 ((P ++ [(x1, TS)]).map (·.1)) (k + 1) (some ⟨g12, 0, none⟩) c12 (D ++ [(va, TS, vc)]) w13) := by
            unfold Hid; rw [List.map_append]; exact G12.out
          clear hw13 z2 zf d2 d2a c3 M3 G7 R7 G9 I9 T9 w9z G12 ez
          go_wp2
          go_roundw
          case rel => exact ⟨k + 1, _, _, _, _, P ++ [(x1, TS)], D ++ [(va, TS, vc)], t2, by omega, by go_num, LK2, E2, R12, G13⟩
          case measure => simp [intOf]; omega))
    · have ek : k = n := by omega
      have kz : ¬ ((k : Int) < (n : Int)) := by omega
      have EZ2 : Hid (Z = (P, s')) := by
        have := EZ.out
        rw [ek, Nat.sub_self] at this
        unfold Hid
        rw [this]
        show (P ++ [], _) = _
        rw [List.append_nil]
        rfl
      have y0 := GG.out.c0
      have y1 := GG.out.c1
      have y2 := GG.out.c2
      have y3 := GG.out.c3
      obtain ⟨v0, x0⟩ := GG.out.r 0 (by omega)
      obtain ⟨v1, x1⟩ := GG.out.r 1 (by omega)
      obtain ⟨v2, x2⟩ := GG.out.r 2 (by omega)
      obtain ⟨v3, x3⟩ := GG.out.r 3 (by omega)
      have f0 := GG.out.rf 0
      have f1 := GG.out.rf 1
      have f2 := GG.out.rf 2
      have f3 := GG.out.rf 3
      have KN := hide ek
      clear EZ NN TT NA EA ek
      go_wp2
      obtain ⟨e0, e1, e2, e3⟩ := put4_at (x0 := .int .i64 n1) (x1 := .int .i64 n2) (x2 := .slice ya k yc) (x3 := .slice xa k xc) x0 x1 x2 x3
      obtain ⟨l1, l2, l3⟩ := LK.out
      refine bodyPost_ret (v := .agg #[.int .i64 n1, .int .i64 n2, .slice ya k yc, .slice xa k xc]) (by simp [results, Tryd.results21, go_sem, e0, e1, e2, e3]) rfl ?_
      have gg := GG.out.ge
      have gz := GG.out.lt
      refine ⟨⟨n1, n2, ya, P.map (·.1), yc, xa, D, xc⟩, ?_, ?_, ?_, ?_, ?_⟩
      · unfold Gr.v
        simp only [List.length_map, l1, l2]
      · rw [EG.out, EZ2.out]
        unfold Gr.m
        rw [l3]
      · exact GG.out.out (by rw [List.length_map]; exact l1) l2 (by omega) (fun _ => grown4_at.size) (fun q h1 h2 => grown4_at.block q h2 (fun e => by cases e; omega))
      · rw [EZ2.out]
        exact H0.out.far RR.out grown4_at (fun q hq => by cases hq; exact Nat.le_refl _)
      · exact grown_trans GG.out.gr grown4_at (.inr (fun q hq => by cases hq; exact Nat.le_refl _))

end Go.Proofs.YtdadjppdonephagDoor

namespace Go.Proofs.YtdadjppdonephagDoor
open Go.ChangeShapes Go.WideShapes Go.ChangeAt Go.RowKit Go.Lib
set_option linter.unusedVariables false

theorem M.lAll_fin (b : List Nat) : (M.lAll b).2.fin ≤ b.length := by
  have f : ∀ (k : Nat) {s : M.In}, s.fin ≤ b.length → (M.lTrees b k s).2.fin ≤ b.length := by
    intro k
    induction k with
    | zero => intro s h; exact h
    | succ k ih => intro s h; exact ih (M.lNodes_fin _ (M.rMany_fin (M.rNum_fin h)))
  refine f _ ?_
  exact M.rMany_fin (M.rNum_fin (M.rNum_fin (Nat.zero_le _)))
/-- what is wrong with a grove that was read -/
def M.wrF (b : List Nat) : Int := if (M.lAll b).2.bad ≠ 0 then (M.lAll b).2.bad else if (M.lAll b).2.fin < b.length then 2 else M.groveF (M.lGrove b)
theorem M.dec_is (b : List Nat) (h : ¬ 6000 < b.length) : M.decF b = (if M.wrF b = 0 then (0, 0) else (M.lat (M.lAll b).2, M.wrF b)) ∧ (M.wrF b = 0 → M.decV b = M.lGrove b) := by
  have a := M.lAll_is b
  have f := M.lAll_fin b
  have e : M.decF b = if (M.rAll b).2.bad ≠ 0 then ((M.rAll b).2.at', (M.rAll b).2.bad) else if (M.rAll b).2.fin ≠ b.length then ((M.rAll b).2.fin, 2) else if M.groveF (M.rGrove b) ≠ 0 then ((M.rAll b).2.fin, M.groveF (M.rGrove b)) else (0, 0) := by
    unfold M.decF; rw [if_neg h]
  unfold M.decV
  rw [e]
  unfold M.wrF M.lat
  rw [a.1] at f ⊢
  by_cases q : (M.rAll b).2.bad = 0
  · rw [if_neg (by simp [q])]
    simp only [if_neg (show ¬ (M.rAll b).2.bad ≠ 0 by simp [q]), if_pos q]
    rw [a.2 q]
    by_cases r : (M.rAll b).2.fin < b.length
    · rw [if_pos (by omega), if_pos r]
      exact ⟨rfl, fun z => absurd z (by decide)⟩
    · rw [if_neg (by omega), if_neg r]
      by_cases t : M.groveF (M.rGrove b) = 0
      · rw [if_neg (by simp [t]), t]
        exact ⟨rfl, fun _ => rfl⟩
      · rw [if_pos t, if_neg t]
        exact ⟨rfl, fun z => absurd z t⟩
  · rw [if_pos q]
    simp only [if_pos q, if_neg q]
    exact ⟨by first | rfl | trivial, fun z => absurd z (by first | exact q | trivial)⟩

set_option maxHeartbeats 16000000 in
set_option maxRecDepth 10000 in
theorem wrongR {w : World} {g : Nat} {a : Option Addr} {bs : List Nat} {c : Nat} {O : Gr} (h : Rdr w g a bs c (M.lAll bs).2) (ho : RdG w O) (hm : O.m = M.lGrove bs) : Calls Tryd.prog 22 #[.pointer (some ⟨g, 0, none⟩), O.v] w fun e w' => e = .returned (errV (M.wrF bs)) ∧ Below w.heap.size w w' := by
  have B0 : Hid (∀ o, Below w.heap.size w (w.alloc o)) := fun o => (Below.refl _ w).alloc (Nat.le_refl _) o
  have EW : Hid (M.wrF bs = if (M.lAll bs).2.bad ≠ 0 then (M.lAll bs).2.bad else if (M.lAll bs).2.fin < bs.length then 2 else M.groveF O.m) := by rw [hm]; exact rfl
  have GC := hide (fun W (hW : Below w.heap.size w W) => gcheck_any O W (ho.below hW))
  have gl := h.lt
  have ml := h.rd.1
  have fl := h.fin
  generalize (M.lAll bs).2 = s at *
  generalize M.wrF bs = WF at *
  have y0 := h.box.c0
  have y1 := h.box.c1
  have y2 := h.box.c2
  have A0 := fun o => ((B0.out o).cell (p := ⟨g, 0, none⟩) gl).trans y0
  have A1 := fun o => ((B0.out o).cell (p := ⟨g, 1, none⟩) gl).trans y1
  have A2 := fun o => ((B0.out o).cell (p := ⟨g, 2, none⟩) gl).trans y2
  have BB : bs.length ≤ 9223372036854775807 := ml
  unfold Gr.v at GC ⊢
  clear h ho hm y0 y1 y2 ml
  by_cases q : s.bad = 0
  · rw [if_neg (by simp [q])] at EW
    rw [err_nil q] at A2
    rw [show M.lat s = s.fin from if_pos q] at A1
    have Q := hide q
    clear q
    by_cases r : s.fin < bs.length
    · have EW2 : Hid (WF = 2) := by unfold Hid; rw [EW.out, if_pos r]
      have t1 : decide ((s.fin : Int) < (bs.length : Int)) = true := decide_eq_true (by omega)
      have t2 : decide (s.fin < bs.length) = true := decide_eq_true r
      clear EW GC r
      go_enter Tryd.func22, Tryd.ntmps22
      go_upto_region 3 with fail
      go_quiet (fail)
      have K2 := hide (below_drew (B0.out (.cells #[.int .i64 O.f, .int .i64 O.w, .slice O.wa O.ws.length O.wc, .slice O.ta O.ks.length O.tc] 25)) nq (by simp))
      go_wp2
      go_ret
      exact ⟨by rw [EW2.out]; rfl, K2.out⟩
    · have EW2 : Hid (WF = M.groveF O.m) := by unfold Hid; rw [EW.out, if_neg r]
      have t1 : decide ((s.fin : Int) < (bs.length : Int)) = false := decide_eq_false (by omega)
      have t2 : decide (s.fin < bs.length) = false := decide_eq_false r
      clear EW r
      go_enter Tryd.func22, Tryd.ntmps22
      go_upto_region 3 with fail
      go_quiet (fail)
      have K2 := hide (below_drew (B0.out (.cells #[.int .i64 O.f, .int .i64 O.w, .slice O.wa O.ws.length O.wc, .slice O.ta O.ks.length O.tc] 25)) nq (by simp))
      go_wp2_with (go_at_call 15; refine (GC.out _ K2.out).mono ?_; rintro e w3 ⟨rfl, hb3⟩; have K3 := hide (below_on K2.out hb3); clear hb3)
      go_ret
      exact ⟨by rw [EW2.out]; rfl, K3.out⟩
  · rw [if_pos q] at EW
    rw [err_some q] at A2
    have Q := hide q
    clear GC q
    go_enter Tryd.func22, Tryd.ntmps22
    go_wp2
    go_ret
    exact ⟨by rw [EW.out, err_some Q.out]; rfl, B0.out _⟩

def Gr.no : Gr := ⟨0, 0, none, [], 0, none, [], 0⟩
theorem Gr.no_rd (W : World) : RdG W Gr.no := ⟨⟨Nat.zero_le _, fun h => absurd rfl h⟩, ⟨Nat.zero_le _, (fun k hk => by cases hk), fun h => absurd rfl h⟩⟩
theorem box4 {w W : World} {t : TypeId} {x0 x1 x2 x3 : Value} (hb : Below (w.alloc (.cells #[x0, x1, x2, x3] t)).heap.size (w.alloc (.cells #[x0, x1, x2, x3] t)) W) : (W.cell? ⟨w.heap.size, 0, none⟩ = some x0 ∧ W.cell? ⟨w.heap.size, 1, none⟩ = some x1 ∧ W.cell? ⟨w.heap.size, 2, none⟩ = some x2 ∧ W.cell? ⟨w.heap.size, 3, none⟩ = some x3) ∧ ∀ j, W.frozen? ⟨w.heap.size, j, none⟩ = false := by
  have k := new_kept rfl hb
  exact ⟨⟨k.1 0 _ rfl, k.1 1 _ rfl, k.1 2 _ rfl, k.1 3 _ rfl⟩, k.2⟩

set_option maxHeartbeats 16000000 in
set_option maxRecDepth 10000 in
theorem cddec_any : CdDecGives := by
  intro a bs c w h hc h63
  have bl : bs.length ≤ 9223372036854775807 := h.1
  by_cases big : 6000 < bs.length
  · have E1 : Hid (M.decF bs = (0, 4)) := by unfold Hid M.decF; rw [if_pos big]
    have E2 : Hid (M.decV bs = (0, 0, [], [])) := by unfold Hid M.decV; rw [E1.out]; rfl
    have t1 : decide ((6000 : Int) < (bs.length : Int)) = true := decide_eq_true (by omega)
    have t2 : decide (6000 < bs.length) = true := decide_eq_true big
    obtain ⟨⟨y0, y1, y2, y3⟩, yf⟩ := box4 (w := w) (t := 25) (x0 := .int .i64 0) (x1 := .int .i64 0) (x2 := .slice none 0 0) (x3 := .slice none 0 0) (Below.refl _ _)
    have K4 := hide (lay4 (x0 := .int .i64 0) (x1 := .int .i64 0) (x2 := .slice none 0 0) (x3 := .slice none 0 0) ((Below.refl _ w).alloc (Nat.le_refl _) (.cells #[.int .i64 0, .int .i64 0, .slice none 0 0, .slice none 0 0] 25)) (Nat.le_refl _))
    obtain ⟨e0, e1, e2, e3⟩ := put4_at (x0 := .int .i64 0) (x1 := .int .i64 0) (x2 := .slice none 0 0) (x3 := .slice none 0 0) y0 y1 y2 y3
    clear h hc big
    go_enter Tryd.func8, Tryd.ntmps8
    go_wp2
    refine bodyPost_ret (v := .tuple #[.agg #[.int .i64 0, .int .i64 0, .slice none 0 0, .slice none 0 0], .int .i64 0, .iface 52 (.int .i64 4)]) (by simp [results, Tryd.results8, go_sem, y0, y1, y2, y3]) rfl ?_
    exact ⟨Gr.no, by rw [E1.out]; rfl, by rw [E2.out]; rfl, Gr.no_rd _, (Below.refl _ w).alloc (Nat.le_refl _) _⟩
  · have D := hide (M.dec_is bs big)
    have t1 : decide ((6000 : Int) < (bs.length : Int)) = false := decide_eq_false (by omega)
    have t2 : decide (6000 < bs.length) = false := decide_eq_false big
    obtain ⟨W1, hW1⟩ : ∃ X, X = (w.alloc (.cells #[.int .i64 0, .int .i64 0, .slice none 0 0, .slice none 0 0] 25)).alloc (.cells #[.slice a bs.length c, .int .i64 0, .nilIface] 60) := ⟨_, rfl⟩
    have z1 : W1.heap.size = w.heap.size + 1 + 1 := by rw [hW1]; simp
    have bw1 : Below w.heap.size w W1 := by rw [hW1]; exact ((Below.refl _ w).alloc (Nat.le_refl _) _).alloc (by simp) _
    have k0 : Hid ((W1.cell? ⟨w.heap.size, 0, none⟩ = some (.int .i64 0) ∧ W1.cell? ⟨w.heap.size, 1, none⟩ = some (.int .i64 0) ∧ W1.cell? ⟨w.heap.size, 2, none⟩ = some (.slice none 0 0) ∧ W1.cell? ⟨w.heap.size, 3, none⟩ = some (.slice none 0 0)) ∧ ∀ j, W1.frozen? ⟨w.heap.size, j, none⟩ = false) := by
      rw [hW1]; exact box4 ((Below.refl _ _).alloc (Nat.le_refl _) _)
    have R0 : Hid (Rdr W1 (w.heap.size + 1) a bs c M.in0) := by
      have k := new_kept (w := w.alloc (.cells #[.int .i64 0, .int .i64 0, .slice none 0 0, .slice none 0 0] 25)) (cs := #[.slice a bs.length c, .int .i64 0, .nilIface]) (t := 60) rfl (Below.refl _ _)
      rw [← hW1] at k
      have es : (w.alloc (.cells #[.int .i64 0, .int .i64 0, .slice none 0 0, .slice none 0 0] 25)).heap.size = w.heap.size + 1 := by simp
      rw [es] at k
      refine ⟨⟨k.1 0 _ rfl, k.1 1 _ rfl, k.1 2 _ rfl, k.2⟩, h.below bw1, hc, h63, Nat.zero_le _, fun hn p hp e => ?_⟩
      obtain ⟨b, off, e2, hl, _⟩ := h.2.2 hn
      rw [hp] at e2
      cases e2
      simp at e
      omega
    have GR := hide (groveR R0.out)
    have GL := hide R0.out.lt
    have WR := hide (fun (W : World) (O : Gr) (h1 : Rdr W (w.heap.size + 1) a bs c (M.lAll bs).2) (h2 : RdG W O) (h3 : O.m = M.lGrove bs) => wrongR h1 h2 h3)
    unfold Gr.v at GR WR
    have Z1 := hide z1
    have BW1 := hide bw1
    have DE : Hid ((M.decF bs).2 ≠ 0 → M.decV bs = (0, 0, [], [])) := fun z => by unfold M.decV; rw [if_neg z]
    generalize M.wrF bs = WF at *
    generalize M.decF bs = DF at *
    generalize M.decV bs = DV at *
    generalize M.lAll bs = LA at *
    generalize M.lGrove bs = LG at *
    have HW1 := hide hW1
    clear h hc big z1 bw1 bl h63 hW1
    have AFT : Hid (∀ (w1 w3 : World) (O : Gr), W1.grownBy w1 (some (w.heap.size + 1)) → NewH W1 w1 O → Below (w1.alloc (.cells #[.int .i64 O.f, .int .i64 O.w, .slice O.wa O.ws.length O.wc, .slice O.ta O.ks.length O.tc] 25)).heap.size (w1.alloc (.cells #[.int .i64 O.f, .int .i64 O.w, .slice O.wa O.ws.length O.wc, .slice O.ta O.ks.length O.tc] 25)) w3 → ((w3.cell? ⟨w.heap.size, 0, none⟩ = some (.int .i64 0) ∧ w3.cell? ⟨w.heap.size, 1, none⟩ = some (.int .i64 0) ∧ w3.cell? ⟨w.heap.size, 2, none⟩ = some (.slice none 0 0) ∧ w3.cell? ⟨w.heap.size, 3, none⟩ = some (.slice none 0 0)) ∧ ∀ j, w3.frozen? ⟨w.heap.size, j, none⟩ = false) ∧ Below w.heap.size w w3 ∧ ∀ W'', w3.grownBy W'' (some w.heap.size) → RdG W'' O) := by
      intro w1 w3 O hg hn hb
      have zz := Z1.out
      have hs := hg.size
      have b1 : Below w1.heap.size w1 w3 := below_on ((Below.refl _ w1).alloc (Nat.le_refl _) _) hb
      have e3 : w3.heap[w.heap.size]? = W1.heap[w.heap.size]? := (b1.block _ (by omega)).trans (hg.block _ (by omega) (fun e => by rw [Option.some.injEq] at e; omega))
      obtain ⟨⟨y0, y1, y2, y3⟩, yf⟩ := k0.out
      refine ⟨⟨⟨(World.cell?_of_block (a := ⟨w.heap.size, 0, none⟩) e3).trans y0, (World.cell?_of_block (a := ⟨w.heap.size, 1, none⟩) e3).trans y1, (World.cell?_of_block (a := ⟨w.heap.size, 2, none⟩) e3).trans y2, (World.cell?_of_block (a := ⟨w.heap.size, 3, none⟩) e3).trans y3⟩, fun j => (World.frozen?_of_block (a := ⟨w.heap.size, j, none⟩) e3).trans (yf j)⟩, ?_, fun W'' hg'' => ?_⟩
      · exact below_on (BW1.out.grown hg (by omega) (fun k hk => by cases hk; omega)) b1
      · refine hn W'' (by have := b1.size; have := hg''.size; omega) (fun b h1 h2 => (hg''.block b (by have := b1.size; omega) (fun e => by cases e; omega)).trans (b1.block b h2))
    by_cases q : WF = 0
    · have E1 : Hid (DF = (0, 0)) := by unfold Hid; rw [D.out.1, if_pos q]
      have E2 : Hid (DV = LG) := D.out.2 q
      rw [err_nil q] at WR
      clear D q k0
      go_enter Tryd.func8, Tryd.ntmps8
      go_upto_region 4 with fail
      rw [← HW1.out]
      clear HW1
      go_upto_region 5 with (go_at_call 21; refine GR.out.mono ?_; rintro e w1 ⟨O, rfl, om, nh, rr, gg⟩; have OM := hide om; have NH := hide nh; have RR := hide rr; have GG := hide gg; clear om nh rr gg)
      have RG : Hid (RdG (w1.alloc (.cells #[.int .i64 O.f, .int .i64 O.w, .slice O.wa O.ws.length O.wc, .slice O.ta O.ks.length O.tc] 25)) O) := NH.out _ (by simp) (fun b h1 h2 => ((Below.refl _ w1).alloc (Nat.le_refl _) _).block b h2)
      have RA := hide (RR.out.alloc (.cells #[.int .i64 O.f, .int .i64 O.w, .slice O.wa O.ws.length O.wc, .slice O.ta O.ks.length O.tc] 25))
      go_upto_region 8 with (go_at_call 22; refine (WR.out _ O RA.out RG.out OM.out).mono ?_; rintro e w3 ⟨rfl, hb3⟩; have B3 := hide hb3; clear hb3)
      obtain ⟨⟨⟨x0, x1, x2, x3⟩, xf⟩, kw, rg⟩ := AFT.out w1 w3 O GG.out NH.out B3.out
      obtain ⟨⟨u0, u1, u2, u3⟩, uf⟩ := box4 B3.out
      have f0 := xf 0
      have f1 := xf 1
      have f2 := xf 2
      have f3 := xf 3
      have KW := hide kw
      have RGH := hide rg
      clear xf uf kw rg
      go_wp2
      obtain ⟨e0, e1, e2, e3⟩ := put4_at (x0 := .int .i64 O.f) (x1 := .int .i64 O.w) (x2 := .slice O.wa O.ws.length O.wc) (x3 := .slice O.ta O.ks.length O.tc) x0 x1 x2 x3
      refine bodyPost_ret (v := .tuple #[.agg #[.int .i64 O.f, .int .i64 O.w, .slice O.wa O.ws.length O.wc, .slice O.ta O.ks.length O.tc], .int .i64 0, .nilIface]) (by simp [results, Tryd.results8, go_sem, e0, e1, e2, e3]) rfl ?_
      exact ⟨O, by rw [E1.out]; rfl, by rw [E2.out]; exact OM.out, RGH.out _ grown4_at, lay4 KW.out (Nat.le_refl _)⟩
    · have E1 : Hid (DF = (M.lat LA.2, WF)) := by unfold Hid; rw [D.out.1, if_neg q]
      have E2 : Hid (DV = (0, 0, [], [])) := DE.out (by rw [E1.out]; exact q)
      rw [err_some q] at WR
      have Q := hide q
      clear D q k0
      go_enter Tryd.func8, Tryd.ntmps8
      go_upto_region 4 with fail
      rw [← HW1.out]
      clear HW1
      go_upto_region 5 with (go_at_call 21; refine GR.out.mono ?_; rintro e w1 ⟨O, rfl, om, nh, rr, gg⟩; have OM := hide om; have NH := hide nh; have RR := hide rr; have GG := hide gg; clear om nh rr gg)
      have RG : Hid (RdG (w1.alloc (.cells #[.int .i64 O.f, .int .i64 O.w, .slice O.wa O.ws.length O.wc, .slice O.ta O.ks.length O.tc] 25)) O) := NH.out _ (by simp) (fun b h1 h2 => ((Below.refl _ w1).alloc (Nat.le_refl _) _).block b h2)
      have RA := hide (RR.out.alloc (.cells #[.int .i64 O.f, .int .i64 O.w, .slice O.wa O.ws.length O.wc, .slice O.ta O.ks.length O.tc] 25))
      go_upto_region 7 with (go_at_call 22; refine (WR.out _ O RA.out RG.out OM.out).mono ?_; rintro e w3 ⟨rfl, hb3⟩; have B3 := hide hb3; clear hb3)
      obtain ⟨⟨⟨x0, x1, x2, x3⟩, xf⟩, kw, rg⟩ := AFT.out w1 w3 O GG.out NH.out B3.out
      have u1 := (RA.out.up B3.out).box.c1
      have f0 := xf 0
      have f1 := xf 1
      have f2 := xf 2
      have f3 := xf 3
      have KW := hide kw
      clear xf kw rg
      go_region_with (fail)
      all_goals (
        go_simp
        go_wp2
        obtain ⟨e0, e1, e2, e3⟩ := put4_at (x0 := .int .i64 0) (x1 := .int .i64 0) (x2 := .slice none 0 0) (x3 := .slice none 0 0) x0 x1 x2 x3
        refine bodyPost_ret (v := .tuple #[.agg #[.int .i64 0, .int .i64 0, .slice none 0 0, .slice none 0 0], .int .i64 ((M.lat LA.2 : Nat) : Int), .iface 52 (.int .i64 WF)]) (by simp [results, Tryd.results8, go_sem, e0, e1, e2, e3]) rfl ?_
        exact ⟨Gr.no, by rw [E1.out, err_some Q.out]; rfl, by rw [E2.out]; rfl, Gr.no_rd _, (lay4 KW.out (Nat.le_refl _)).drew⟩)

end Go.Proofs.YtdadjppdonephagDoor

namespace Go.Proofs.YtdadjppdonephagDoor
open Go.ChangeShapes Go.WideShapes Go.ChangeAt Go.RowKit Go.Lib
set_option linter.unusedVariables false

theorem kept_grove {w W : World} {a0 a1 a2 a3 : Value} {t : TypeId} (h : Below (w.alloc (.cells #[a0, a1, a2, a3] t)).heap.size (w.alloc (.cells #[a0, a1, a2, a3] t)) W) :
    W.cell? ⟨w.heap.size, 0, none⟩ = some a0 ∧ W.cell? ⟨w.heap.size, 1, none⟩ = some a1 ∧ W.cell? ⟨w.heap.size, 2, none⟩ = some a2 ∧ W.cell? ⟨w.heap.size, 3, none⟩ = some a3 := by
  have hs : w.heap.size < (w.alloc (.cells #[a0, a1, a2, a3] t)).heap.size := by simp
  exact ⟨(h.cell (p := ⟨w.heap.size, 0, none⟩) hs).trans (World.cell?_alloc_at _ _ _ 0 rfl), (h.cell (p := ⟨w.heap.size, 1, none⟩) hs).trans (World.cell?_alloc_at _ _ _ 1 rfl), (h.cell (p := ⟨w.heap.size, 2, none⟩) hs).trans (World.cell?_alloc_at _ _ _ 2 rfl), (h.cell (p := ⟨w.heap.size, 3, none⟩) hs).trans (World.cell?_alloc_at _ _ _ 3 rfl)⟩

theorem M.grove_range {g : M.Gv} (h : M.gf g < 0 ∨ 8 < M.gf g ∨ M.gw g < 1 ∨ 3 < M.gw g) : M.groveF g = 1 := by unfold M.groveF; rw [if_pos h]

set_option maxHeartbeats 16000000 in
set_option maxRecDepth 10000 in
theorem rgrove_any (G : Gr) (w : World) (h : RdG w G) :
    Calls Tryd.prog 14 #[G.v] w fun e w' => e = .returned (.int .i64 (M.groveF G.m)) ∧ Below w.heap.size w w' := by
  have hm1 : G.ks.length ≤ 9223372036854775807 := h.2.1
  have hm2 : G.ws.length ≤ 9223372036854775807 := h.1.1
  have HG := hide h
  have tlen : (M.gt G.m).length = G.ks.length := tl_len G.ks
  have B0 : Hid (∀ o, Below w.heap.size w (w.alloc o)) := fun o => (Below.refl _ w).alloc (Nat.le_refl _) o
  clear h
  obtain ⟨gO, hgO⟩ : ∃ o : Obj, o = .cells #[.int .i64 G.f, .int .i64 G.w, .slice G.wa G.ws.length G.wc, .slice G.ta G.ks.length G.tc] 25 := ⟨_, rfl⟩
  have HGO := hide hgO
  clear hgO
  unfold Gr.v
  by_cases hR : M.gf G.m < 0 ∨ 8 < M.gf G.m ∨ M.gw G.m < 1 ∨ 3 < M.gw G.m
  · rw [M.grove_range hR]
    have hR' : G.f < 0 ∨ 8 < G.f ∨ G.w < 1 ∨ 3 < G.w := hR
    clear hR tlen HG

    by_cases c0 : G.f < 0
    · have q0 : decide (G.f < 0) = true := decide_eq_true (by omega)
      clear hR' c0
      go_enter Tryd.func14, Tryd.ntmps14
      go_wp2
      go_ret
      exact ⟨rfl, B0.out _⟩
    · by_cases c1 : 8 < G.f
      · have q0 : decide (G.f < 0) = false := decide_eq_false (by omega)
        have q1 : decide (8 < G.f) = true := decide_eq_true (by omega)
        clear hR' c0 c1
        go_enter Tryd.func14, Tryd.ntmps14
        go_wp2
        go_ret
        exact ⟨rfl, B0.out _⟩
      · by_cases c2 : G.w < 1
        · have q0 : decide (G.f < 0) = false := decide_eq_false (by omega)
          have q1 : decide (8 < G.f) = false := decide_eq_false (by omega)
          have q2 : decide (G.w < 1) = true := decide_eq_true (by omega)
          clear hR' c0 c1 c2
          go_enter Tryd.func14, Tryd.ntmps14
          go_wp2
          go_ret
          exact ⟨rfl, B0.out _⟩
        · have q0 : decide (G.f < 0) = false := decide_eq_false (by omega)
          have q1 : decide (8 < G.f) = false := decide_eq_false (by omega)
          have q2 : decide (G.w < 1) = false := decide_eq_false (by omega)
          have q3 : decide (3 < G.w) = true := decide_eq_true (by omega)
          clear hR' c0 c1 c2
          go_enter Tryd.func14, Tryd.ntmps14
          go_wp2
          go_ret
          exact ⟨rfl, B0.out _⟩
  · have q0 : decide (G.f < 0) = false := decide_eq_false (fun c => hR (.inl c))
    have q1 : decide (8 < G.f) = false := decide_eq_false (fun c => hR (.inr (.inl c)))
    have q2 : decide (G.w < 1) = false := decide_eq_false (fun c => hR (.inr (.inr (.inl c))))
    have q3 : decide (3 < G.w) = false := decide_eq_false (fun c => hR (.inr (.inr (.inr c))))
    have E0 : M.groveF G.m = if G.ks.length = 0 then 5 else if 12 < G.ks.length then 4 else if G.ws.length ≠ G.ks.length then 3 else if G.ws.any M.wBad = true then 1 else M.treesF G.f (tl G.ks) := by
      rw [← tlen]; unfold M.groveF; rw [if_neg hR]; rfl
    rw [E0]
    clear hR E0
    by_cases t0 : G.ks.length = 0
    · rw [if_pos t0]
      rw [t0]
      clear tlen HG t0 hm1
      go_enter Tryd.func14, Tryd.ntmps14
      go_wp2
      go_ret
      exact ⟨rfl, B0.out _⟩
    · rw [if_neg t0]
      have q4 : ((G.ks.length : Int) == 0) = false := by rw [beq_eq_false_iff_ne]; omega
      have t0' : 0 < G.ks.length := by omega
      by_cases t12 : 12 < G.ks.length
      · rw [if_pos t12]
        have q5 : decide (12 < (G.ks.length : Int)) = true := decide_eq_true (by omega)
        clear tlen HG t0 t12
        go_enter Tryd.func14, Tryd.ntmps14
        go_wp2
        go_ret
        exact ⟨rfl, B0.out _⟩
      · rw [if_neg t12]
        have q5 : decide (12 < (G.ks.length : Int)) = false := decide_eq_false (by omega)
        by_cases tw : G.ws.length ≠ G.ks.length
        · rw [if_pos tw]
          have q6 : ((G.ws.length : Int) != (G.ks.length : Int)) = true := by rw [bne_iff_ne]; omega
          clear tlen HG t0 t12 tw
          go_enter Tryd.func14, Tryd.ntmps14
          go_wp2
          go_ret
          exact ⟨rfl, B0.out _⟩
        · rw [if_neg tw]
          have tw' : G.ws.length = G.ks.length := by omega
          have n12 : G.ks.length ≤ 12 := by omega
          have WB : Hid (∀ k (h : k < G.ws.length), M.wBad (G.ws.getD k 0) = true → G.ws.any M.wBad = true) := fun k h e => List.any_eq_true.2 ⟨_, by rw [M.getD_at h]; exact List.getElem_mem h, e⟩
          have WN : Hid ((∀ k, k < G.ws.length → M.wBad (G.ws.getD k 0) = false) → G.ws.any M.wBad = false) := fun h => by
            cases e : G.ws.any M.wBad with
            | false => rfl
            | true =>
              obtain ⟨x, hx, e2⟩ := List.any_eq_true.1 e
              obtain ⟨i, hi, rfl⟩ := List.getElem_of_mem hx
              have := h i hi
              rw [M.getD_at hi, e2] at this
              cases this
          have TA : Hid (∀ k, k < G.ks.length → (∀ j, j < k → (M.treeF ((tl G.ks).getD j []) G.f).2 = 0) → (M.treeF ((tl G.ks).getD k []) G.f).2 ≠ 0 → M.treesF G.f (tl G.ks) = (M.treeF ((tl G.ks).getD k []) G.f).2) := fun k hk h hn => M.trees_at (by rw [tl_len]; exact hk) h hn
          have TN : Hid ((∀ j, j < G.ks.length → (M.treeF ((tl G.ks).getD j []) G.f).2 = 0) → M.treesF G.f (tl G.ks) = 0) := fun h => M.trees_all (fun j hj => h j (by rw [tl_len] at hj; exact hj))
          have TL : Hid (∀ k (h : k < G.ks.length), (tl G.ks).getD k [] = G.ks[k].2.1) := fun k h => tl_at G.ks h
          have RW : Hid (∀ W, Below w.heap.size w W → Rd W G.wa G.ws) := fun W hW => (HG.out.below hW).1
          have RT : Hid (∀ W, Below w.heap.size w W → RdT W G.ta G.ks) := fun W hW => (HG.out.below hW).2
          have LW := hide tw'
          have q6 : ((G.ws.length : Int) != (G.ks.length : Int)) = false := by rw [bne_eq_false_iff_eq]; omega
          clear tlen HG t0 t12 tw tw'
          generalize hAB : G.ws.any M.wBad = AB at *
          have HAB := hide hAB
          clear hAB
          generalize M.treesF G.f (tl G.ks) = TF at *
          generalize hRV : (if AB = true then (1 : Int) else TF) = RV
          have HRV := hide hRV
          clear hRV
          have KG : Hid (∀ W, Below (w.alloc gO).heap.size (w.alloc gO) W → Below w.heap.size w W ∧ W.cell? ⟨w.heap.size, 0, none⟩ = some (.int .i64 G.f) ∧ W.cell? ⟨w.heap.size, 2, none⟩ = some (.slice G.wa G.ws.length G.wc) ∧ W.cell? ⟨w.heap.size, 3, none⟩ = some (.slice G.ta G.ks.length G.tc)) := fun W hW => by
            refine ⟨below_on ((Below.refl _ w).alloc (Nat.le_refl _) gO) hW, ?_⟩
            rw [HGO.out] at hW
            exact ⟨(kept_grove hW).1, (kept_grove hW).2.2.1, (kept_grove hW).2.2.2⟩
          rw [HGO.out] at KG
          go_enter Tryd.func14, Tryd.ntmps14
          go_wp2
          go_loopw [3] (fun i wr => ∃ k : Nat, k ≤ G.ws.length ∧ i = .int .i64 k ∧ Hid (∀ j, j < k → M.wBad (G.ws.getD j 0) = false) ∧ Hid (Below (w.alloc (.cells #[.int .i64 G.f, .int .i64 G.w, .slice G.wa G.ws.length G.wc, .slice G.ta G.ks.length G.tc] 25)).heap.size (w.alloc (.cells #[.int .i64 G.f, .int .i64 G.w, .slice G.wa G.ws.length G.wc, .slice G.ta G.ks.length G.tc] 25)) wr)) (fun i _ => G.ws.length - (intOf i).toNat)
          case atStart => exact ⟨0, Nat.zero_le _, rfl, fun j hj => by omega, Below.refl _ _⟩
          case round =>
            obtain ⟨k, hk, rfl, I, KK⟩ := hrel
            obtain ⟨kw1, c0, c2, c3⟩ := KG.out wr KK.out
            by_cases hlt : k < G.ws.length
            · obtain ⟨bw, ow, ewa, hbw, hcw⟩ := (RW.out wr kw1).2 (by intro e; rw [e] at hlt; simp at hlt)
              have HWA := hide ewa
              have cw := hcw k hlt
              have kz : (k : Int) < (G.ws.length : Int) := by omega
              rw [HWA.out] at c2
              have wb : M.wBad (G.ws.getD k 0) = (decide (G.ws.getD k 0 < 1) || decide (1000 < G.ws.getD k 0)) := rfl
              by_cases b1 : G.ws.getD k 0 < 1
              · have E : Hid (AB = true) := WB.out k hlt (by rw [wb, decide_eq_true b1]; rfl)
                have p1 : decide (G.ws.getD k 0 < 1) = true := decide_eq_true b1
                have RE : Hid ((1 : Int) = RV) := by unfold Hid; rw [← HRV.out, if_pos E.out]
                clear WB WN TA TN TL RT wb b1 E hcw I ewa
                generalize G.ws.getD k 0 = z at *
                go_wp2
                go_ret
                exact ⟨ret_int RE.out, kw1⟩
              · by_cases b2 : 1000 < G.ws.getD k 0
                · have E : Hid (AB = true) := WB.out k hlt (by rw [wb, decide_eq_true b2]; simp)
                  have p1 : decide (G.ws.getD k 0 < 1) = false := decide_eq_false b1
                  have p2 : decide (1000 < G.ws.getD k 0) = true := decide_eq_true b2
                  have RE : Hid ((1 : Int) = RV) := by unfold Hid; rw [← HRV.out, if_pos E.out]
                  clear WB WN TA TN TL RT wb b1 b2 E hcw I ewa
                  generalize G.ws.getD k 0 = z at *
                  go_wp2
                  go_ret
                  exact ⟨ret_int RE.out, kw1⟩
                · have p1 : decide (G.ws.getD k 0 < 1) = false := decide_eq_false b1
                  have p2 : decide (1000 < G.ws.getD k 0) = false := decide_eq_false b2
                  have N : Hid (∀ j, j < k + 1 → M.wBad (G.ws.getD j 0) = false) := fun j hj => by
                    by_cases e : j = k
                    · rw [e, wb, p1, p2]; rfl
                    · exact I.out j (by omega)
                  clear WB WN TA TN TL RT wb b1 b2 hcw I ewa
                  generalize G.ws.getD k 0 = z at *
                  go_wp2
                  go_roundw
                  case rel => exact ⟨k + 1, by omega, by go_num, N, KK⟩
                  case measure => simp [intOf]; omega
            · have E : Hid (AB = false) := WN.out (fun j hj => I.out j (by omega))
              have RE : Hid (TF = RV) := by unfold Hid; rw [← HRV.out, E.out]; rfl
              clear WB WN I E RW LW HAB
              go_wp2
              go_loopw [4] (fun i wr => ∃ k : Nat, k ≤ G.ks.length ∧ i = .int .i64 k ∧ Hid (∀ j, j < k → (M.treeF ((tl G.ks).getD j []) G.f).2 = 0) ∧ Hid (Below (w.alloc (.cells #[.int .i64 G.f, .int .i64 G.w, .slice G.wa G.ws.length G.wc, .slice G.ta G.ks.length G.tc] 25)).heap.size (w.alloc (.cells #[.int .i64 G.f, .int .i64 G.w, .slice G.wa G.ws.length G.wc, .slice G.ta G.ks.length G.tc] 25)) wr)) (fun i _ => G.ks.length - (intOf i).toNat)
              case atStart => exact ⟨0, Nat.zero_le _, rfl, fun j hj => by omega, KK⟩
              case round =>
                clear KK kw1 c0 c2 c3
                obtain ⟨k, hk, rfl, I, K⟩ := hrel
                obtain ⟨kw, c0, c2, c3⟩ := KG.out _ K.out
                by_cases hlt : k < G.ks.length
                · obtain ⟨hk1, hk2, hk3⟩ := RT.out wr kw
                  obtain ⟨bt, ot, eta, hbt, hct⟩ := hk3 (by intro e; rw [e] at hlt; simp at hlt)
                  have ct := hct k hlt
                  have rk := hk2 _ (List.getElem_mem hlt)
                  have HTA := hide eta
                  have TE := TL.out k hlt
                  have TR := hide (rtree_any G.ks[k].1 G.ks[k].2.1 G.ks[k].2.2 G.f wr.drew (rk.below (Below.refl _ wr).drew))
                  have TAK := hide (TA.out k hlt I.out)
                  rw [TE] at TAK
                  have kz : (k : Int) < (G.ks.length : Int) := by omega
                  have c0d : wr.drew.cell? ⟨w.heap.size, 0, none⟩ = some (.int .i64 G.f) := c0
                  have c3d : wr.drew.cell? ⟨w.heap.size, 3, none⟩ = some (.slice (some ⟨bt, ot, none⟩) G.ks.length G.tc) := by rw [← HTA.out]; exact c3
                  unfold tV at ct
                  have ctd : wr.drew.cell? ⟨bt, ot + k, none⟩ = some (.slice G.ks[k].1 G.ks[k].2.1.length G.ks[k].2.2) := ct
                  have N : Hid ((M.treeF G.ks[k].2.1 G.f).2 = 0 → ∀ j, j < k + 1 → (M.treeF ((tl G.ks).getD j []) G.f).2 = 0) := fun hz j hj => by
                    by_cases e : j = k
                    · rw [e, TE]; exact hz
                    · exact I.out j (by omega)
                  clear hk1 hk2 hk3 hct rk eta TE TA TN TL RT I
                  generalize (M.treeF G.ks[k].2.1 G.f).2 = te at *
                  generalize (M.treeF G.ks[k].2.1 G.f).1 = tp at *
                  generalize G.ks[k].2.1.length = tn at *
                  generalize G.ks[k].2.2 = tcc at *
                  generalize G.ks[k].1 = ta at *
                  go_upto_region 17 with fail
                  go_cut [5, 6] from 68 to 78 (fun p e wx => p = .int .i64 (tp : Nat) ∧ e = .int .i64 te ∧ Hid (Below wr.heap.size wr wx))
                  case first =>
                    go_region_with (go_at_call 27; refine TR.out.mono ?_; rintro e w5 ⟨rfl, hb5⟩)
                    all_goals go_wp2
                    all_goals go_meet
                    all_goals (case rel => exact ⟨rfl, rfl, (Below.refl wr.heap.size wr).drew.trans hb5⟩)
                  case rest =>
                    obtain ⟨rfl, rfl, K5⟩ := hcut
                    have K6 := hide (below_on K.out K5.out)
                    have kw6 := below_on kw K5.out
                    by_cases hz : te = 0
                    · have qz : (te != 0) = false := by rw [bne_eq_false_iff_eq]; exact hz
                      have NN := hide (N.out hz)
                      clear hz N TAK
                      go_wp2
                      go_roundw
                      case rel => exact ⟨k + 1, by omega, by go_num, NN, K6⟩
                      case measure => simp [intOf]; omega
                    · have qz : (te != 0) = true := by rw [bne_iff_ne]; exact hz
                      have TE2 := hide (TAK.out hz)
                      clear hz N TAK
                      go_wp2
                      go_ret
                      exact ⟨ret_int (by rw [← RE.out, TE2.out]), kw6⟩
                · have TZ : Hid (TF = 0) := TN.out (fun j hj => I.out j (by omega))
                  clear TA TN TL RT I
                  go_wp2
                  go_ret
                  exact ⟨ret_int (by rw [← RE.out, TZ.out]), kw⟩

end Go.Proofs.YtdadjppdonephagDoor
