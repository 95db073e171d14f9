/-
  Several texts as one: CdGrv, CdQd, GCheck.
-/
import Derived.Test.YtiggkjkjfnlfkaaGreatDoorRunS15
import Derived.Deep.AppendLies
import Derived.RegionTactic
import Derived.Deep.RegionLaw
import Derived.Test.YtiggkjkjfnlfkaaGreatDoorRunS1
import Derived.Test.YtiggkjkjfnlfkaaGreatDoorRunS7
import Derived.Test.YtiggkjkjfnlfkaaGreatDoorRunS13
import Derived.Deep.Cut
import Derived.Deep.CutRange
namespace Go.Proofs.YtiggkjkjfnlfkaaGreatDoor
open Go.ChangeShapes Go.WideShapes Go.ChangeAt Go.RowKit Go.Lib
set_option linter.unusedVariables false
theorem infoTs : (Tryz.prog.info? 110).map (fun i => (i.zero, i.size, i.bytes)) = some (some (.slice none 0 0), 1, 24) := by kernel_rfl
/-- so many trees, whatever is wrong -/
def M.lTrees (b : List Nat) : Nat → M.In → List (Int × List M.Nd) × M.In
  | 0, s => ([], s)
  | k + 1, s => (((M.rNum b s).1, (M.lTree b (M.rNum b s).2).1) :: (M.lTrees b k (M.lTree b (M.rNum b s).2).2).1, (M.lTrees b k (M.lTree b (M.rNum b s).2).2).2)
def M.lAll (b : List Nat) : List (Int × List M.Nd) × M.In := M.lTrees b (M.rHead b).1.2.2.toNat (M.rHead b).2
def M.lGrove (b : List Nat) : M.Gv := ((M.rHead b).1.1, (M.rHead b).1.2.1, (M.lAll b).1.map (·.1), (M.lAll b).1.map (·.2))
theorem M.lTree_bad {b : List Nat} {s : M.In} (h : s.bad ≠ 0) : (M.lTree b s).2 = s := by
  unfold M.lTree M.rMany
  rw [M.rNum_bad h, if_neg (fun z => h z.1), if_pos h]
  exact M.lNodes_bad _ h
theorem M.lTrees_bad {b : List Nat} : ∀ (k : Nat) {s : M.In}, s.bad ≠ 0 → (M.lTrees b k s).2 = s
  | 0, s, h => rfl
  | k + 1, s, h => by
    show (M.lTrees b k (M.lTree b (M.rNum b s).2).2).2 = s
    rw [M.rNum_bad h, M.lTree_bad h]
    exact M.lTrees_bad k h
theorem M.lTree_is (b : List Nat) (s : M.In) : (M.lTree b (M.rNum b s).2).2 = (M.rTree b s).2 ∧ ((M.rTree b s).2.bad = 0 → ((M.rNum b s).1, (M.lTree b (M.rNum b s).2).1) = (M.rTree b s).1) := by
  have := M.lNodes_is (b := b) (M.rMany b 63 (M.rNum b s).2).1.toNat (M.rMany b 63 (M.rNum b s).2).2
  exact ⟨this.1, fun h => by show (_, (M.lNodes b _ _).1) = _; rw [this.2 h]; rfl⟩
theorem M.rTrees_bad {b : List Nat} {s : M.In} (h : s.bad ≠ 0) (k : Nat) : M.rTrees b k s = ([], s) := by
  cases k with
  | zero => rfl
  | succ k => show (if _ then _ else _) = _; rw [if_pos h]
theorem M.lTrees_is {b : List Nat} : ∀ (k : Nat) (s : M.In), (M.lTrees b k s).2 = (M.rTrees b k s).2 ∧ ((M.rTrees b k s).2.bad = 0 → (M.lTrees b k s).1 = (M.rTrees b k s).1)
  | 0, s => ⟨rfl, fun _ => rfl⟩
  | k + 1, s => by
    by_cases q : s.bad = 0
    · have e : M.rTrees b (k + 1) s = ((M.rTree b s).1 :: (M.rTrees b k (M.rTree b s).2).1, (M.rTrees b k (M.rTree b s).2).2) := by
        show (if _ then _ else _) = _
        rw [if_neg (by simp [q])]
      have t := M.lTree_is b s
      have ih := M.lTrees_is (b := b) k (M.rTree b s).2
      have el : M.lTrees b (k + 1) s = (((M.rNum b s).1, (M.lTree b (M.rNum b s).2).1) :: (M.lTrees b k (M.rTree b s).2).1, (M.lTrees b k (M.rTree b s).2).2) := by
        show (_ :: (M.lTrees b k (M.lTree b (M.rNum b s).2).2).1, (M.lTrees b k (M.lTree b (M.rNum b s).2).2).2) = _
        rw [t.1]
      rw [e, el]
      refine ⟨ih.1, fun h => ?_⟩
      have hb : (M.rTree b s).2.bad = 0 := by
        by_cases z : (M.rTree b s).2.bad = 0
        · exact z
        · have h' : (M.rTrees b k (M.rTree b s).2).2.bad = 0 := h
          rw [M.rTrees_bad z] at h'
          exact absurd h' z
      show _ :: _ = _ :: _
      rw [t.2 hb, ih.2 h]
    · rw [M.rTrees_bad q]
      exact ⟨M.lTrees_bad (k + 1) q, fun h => absurd h q⟩
theorem M.lAll_is (b : List Nat) : (M.lAll b).2 = (M.rAll b).2 ∧ ((M.rAll b).2.bad = 0 → M.lGrove b = M.rGrove b) := by
  have := M.lTrees_is (b := b) (M.rHead b).1.2.2.toNat (M.rHead b).2
  refine ⟨this.1, fun h => ?_⟩
  have e : (M.lAll b).1 = (M.rAll b).1 := this.2 h
  unfold M.lGrove M.rGrove
  rw [e]
theorem M.lTrees_len {b : List Nat} : ∀ (k : Nat) (s : M.In), (M.lTrees b k s).1.length = k
  | 0, s => rfl
  | k + 1, s => by show (M.lTrees b k _).1.length + 1 = k + 1; rw [M.lTrees_len k]

set_option maxHeartbeats 16000000 in
set_option maxRecDepth 10000 in
theorem groveR {w : World} {g : Nat} {a : Option Addr} {bs : List Nat} {c : Nat} (h : Rdr w g a bs c M.in0) : Calls Tryz.prog 152 #[.pointer (some ⟨g, 0, none⟩)] w fun e w' => ∃ O : Gr, e = .returned O.v ∧ O.m = M.lGrove bs ∧ NewH w w' O ∧ Rdr w' g a bs c (M.lAll bs).2 ∧ w.grownBy w' (some g) := by
  have GL := hide h.lt
  have H0 := hide h
  have HA := hide (h.alloc (.cells #[.int .i64 0, .int .i64 0, .slice none 0 0, .slice none 0 0] 53))
  obtain ⟨⟨n1, s1⟩, h1⟩ : ∃ R, M.rNum bs M.in0 = R := ⟨_, rfl⟩
  obtain ⟨⟨n2, s2⟩, h2⟩ : ∃ R, M.rNum bs s1 = R := ⟨_, rfl⟩
  obtain ⟨⟨m3, s3⟩, h3⟩ : ∃ R, M.rMany bs 12 s2 = R := ⟨_, rfl⟩
  have N1 := hide (fun (W : World) (h : Rdr W g a bs c M.in0) => numR h)
  have N2 := hide (fun (W : World) (h : Rdr W g a bs c s1) => numR h)
  have C3 := hide (fun (W : World) (h : Rdr W g a bs c s2) => cntR 12 h)
  have mi := M.rMany_in (b := bs) (s := s2) (most := 12) (by decide)
  rw [h1] at N1
  rw [h2] at N2
  rw [h3] at C3 mi
  have EH : Hid (M.rHead bs = ((n1, n2, m3), s3)) := by
    unfold Hid M.rHead
    rw [h1]
    simp only
    rw [h2]
    simp only
    rw [h3]
  obtain ⟨n, rfl⟩ : ∃ n : Nat, m3 = (n : Int) := ⟨m3.toNat, by simp only at mi; omega⟩
  have n12 : n ≤ 12 := by simp only at mi; omega
  have EA : Hid (M.lAll bs = M.lTrees bs n s3) := by
    unfold Hid M.lAll
    rw [EH.out]
    simp only [Int.toNat_natCast]
  have EG : Hid (M.lGrove bs = (n1, n2, (M.lAll bs).1.map (·.1), (M.lAll bs).1.map (·.2))) := by
    unfold Hid M.lGrove
    rw [EH.out]
  clear h h1 h2 h3 mi EH
  generalize M.lAll bs = Z at *
  generalize M.lGrove bs = G at *
  simp only at N1 N2 C3
  go_enter Tryz.func152, Tryz.ntmps152
  go_upto_region 2 with (first
    | (go_at_call 184; refine (N2.out _ I1.out).mono ?_; rintro e w2 ⟨rfl, i2, g2⟩; have I2 := hide i2; have G2 := hide (grown_trans G1.out g2 (.inl rfl)); clear i2 g2)
    | (go_at_call 184; refine (N1.out _ HA.out).mono ?_; rintro e w1 ⟨rfl, i1, g1⟩; have I1 := hide i1; have G1 := hide g1; clear i1 g1))
  have GW0 : Hid (GW w g w.heap.size w2.heap.size n1 n2 0 none 0 [] 0 none 0 [] (w2.alloc (.cells #[.int .i64 n1, .int .i64 n2, .slice none 0 0, .slice none 0 0] 53))) := GW.new G2.out GL.out
  have I2a := hide (I2.out.alloc (.cells #[.int .i64 n1, .int .i64 n2, .slice none 0 0, .slice none 0 0] 53))
  obtain ⟨gb, hgb⟩ : ∃ gb, gb = w2.heap.size := ⟨_, rfl⟩
  rw [← hgb] at GW0
  simp only [← hgb]
  have HGB := hide hgb
  clear hgb G1 G2 I1 I2 N1 N2 HA
  go_wp2_with (go_at_call 185; refine (C3.out _ I2a.out).mono ?_; rintro e w3 ⟨rfl, i3, g3⟩; have I3 := hide i3; have W3 := hide (GW0.out.rdr g3); clear i3 g3)
  clear C3 I2a GW0
  obtain ⟨i0, hi0, hz0, hz1, hz2⟩ := info_parts info3
  have J0 := hide hi0
  obtain ⟨t0, ht0, hy0, hy1, hy2⟩ := info_parts infoTs
  have J1 := hide ht0
  have NN := hide (fun (W : World) (s : M.In) (h : Rdr W g a bs c s) => numR h)
  have TT := hide (fun (W : World) (s : M.In) (h : Rdr W g a bs c s) => treeR h)
  have NA : Hid (∀ k s, M.lTrees bs (k + 1) s = (((M.rNum bs s).1, (M.lTree bs (M.rNum bs s).2).1) :: (M.lTrees bs k (M.lTree bs (M.rNum bs s).2).2).1, (M.lTrees bs k (M.lTree bs (M.rNum bs s).2).2).2)) := fun _ _ => rfl
  clear hi0 ht0
  go_loopw [11] (fun i wr => ∃ (k : Nat) (ya : Option Addr) (yc : Nat) (xa : Option Addr) (xc : Nat) (P : List (Int × List M.Nd)) (D : List Tc) (s' : M.In), k ≤ n ∧ i = .int .i64 k ∧ Hid (P.length = k ∧ D.length = k ∧ tl D = P.map (·.2)) ∧ Hid (Z = (P ++ (M.lTrees bs (n - k) s').1, (M.lTrees bs (n - k) s').2)) ∧ Hid (Rdr wr g a bs c s') ∧ Hid (GW w g w.heap.size gb n1 n2 k ya yc (P.map (·.1)) k xa xc D wr)) (fun i _ => n - (intOf i).toNat)
  case atStart => exact ⟨0, none, 0, none, 0, [], [], s3, Nat.zero_le _, rfl, ⟨rfl, rfl, rfl⟩, by rw [Nat.sub_zero]; exact EA, I3, W3⟩
  case round =>
    obtain ⟨k, ya, yc, xa, xc, P, D, s', hk, rfl, LK, EZ, RR, GG⟩ := hrel
    by_cases hlt : k < n
    · have kz : (k : Int) < (n : Int) := by omega
      have na := NA.out (n - (k + 1)) s'
      rw [show n - (k + 1) + 1 = n - k by omega] at na
      have ez := EZ.out
      rw [na] at ez
      have M1 := hide (NN.out wr.drew s' (RR.out.up (Below.refl _ wr).drew))
      obtain ⟨⟨x1, t1⟩, e1⟩ : ∃ R, M.rNum bs s' = R := ⟨_, rfl⟩
      rw [e1] at M1 ez
      have M2 := hide (fun (W : World) (h : Rdr W g a bs c t1) => TT.out W t1 h)
      have TL := hide (M.lTree_len bs t1)
      obtain ⟨⟨TS, t2⟩, e2⟩ : ∃ R, M.lTree bs t1 = R := ⟨_, rfl⟩
      rw [e2] at TL
      simp only at TL
      rw [e2] at M2
      simp only at ez M1
      rw [e2] at ez
      simp only at ez M2
      have c2 := GG.out.c2
      have gbz := GG.out.lt
      clear na NN TT NA EZ e1 e2
      go_upto_region 4 with fail
      go_region_law (first
        | (refine step_append_lies _ rfl (.tmp 14) (.tmp 17) 50 rfl (gb + 1) 3 i0 (.int .i64 0) 1 8 Tryz.underlying50 J0.out hz0 hz1 hz2 rfl (by omega) (.slice ya k yc) k ((P.map (·.1)).map (Value.int .i64)) rfl (by exact G4.out.ow.alloc _) ⟨w4.heap.size, 0, none⟩ 1 1 [.int .i64 x1] rfl rfl (World.news_of_block (by first | exact heap_alloc_new _ _ | (simp; done))) (by simp [Value.oneCell']) (by omega) (by unfold maxLen; omega) (by omega) (by simp; omega) (w4.heap.size + 1) (by simp) ?_; intro g7 c7 w7 hov7 hgrow7 hat7 hlt7; have K7 := G4.out.weight hov7 hgrow7 hat7; have z2 := K7.1.1; have zf := K7.1.2; have G7 := hide K7.2.2; have R7 := hide (H0.out.far (H0.out.far I4.out K7.2.1 (fun q hq => by have := (G4.out.ow.lt q hq).1; have := G4.out.ge; omega)) (grown_set (g := gb) (o := 2) (u := .slice (some ⟨g7, 0, none⟩) (k + 1) c7)) (fun q hq => by cases hq; have := G4.out.ge; omega)); clear hov7 hgrow7 hat7 hlt7 K7)
        | (go_simp; go_at_call 184; refine M1.out.mono ?_; rintro e w4 ⟨rfl, i4, g4⟩; have I4 := hide i4; have G4 := hide (GG.out.rdr (grown_undrew g4)); have d2 := G4.out.c2; have d2a := fun o => (((Below.refl w4.heap.size w4).alloc (Nat.le_refl _) o).cell (p := ⟨gb, 2, none⟩) G4.out.lt).trans G4.out.c2; have w4z := G4.out.lt; clear i4 g4))
      all_goals (
        obtain ⟨w8, hw8⟩ : ∃ X, X = w7.setCell ⟨gb, 2, none⟩ (.slice (some ⟨g7, 0, none⟩) (k + 1) c7) := ⟨_, rfl⟩
        rw [← hw8] at G7 R7 ⊢
        have M3 := hide (M2.out w8.drew (R7.out.up (Below.refl _ w8).drew))
        have c3 := G7.out.c3
        clear hw8 z2 zf d2 d2a c2 M1 M2 G4 I4 gbz w4z GG RR
        go_upto_region 5 with fail
        go_region_law (first
          | (refine step_append_lies _ rfl (.tmp 21) (.tmp 24) 51 rfl (gb + 1) 110 t0 (.slice none 0 0) 1 24 Tryz.underlying51 J1.out hy0 hy1 hy2 rfl (by omega) (.slice xa k xc) k (D.map tV) rfl (by exact G9.out.ox.alloc _) ⟨w9.heap.size, 0, none⟩ 1 1 [.slice va TS.length vc] rfl rfl (World.news_of_block (by first | exact heap_alloc_new _ _ | (simp; done))) (by intro u hu; rw [List.mem_singleton] at hu; subst hu; rfl) (by omega) (by unfold maxLen; omega) (by omega) (by simp; omega) (w9.heap.size + 1) (by simp) ?_; intro g12 c12 w12 hov hgrow hat hlt12; have K12 := G9.out.tree (t := (va, TS, vc)) T9.out.1 T9.out.2 hov hgrow hat; have z2 := K12.1.1; have zf := K12.1.2; have G12 := hide K12.2.2; have R12 := hide (H0.out.far (H0.out.far I9.out K12.2.1 (fun q hq => by have := (G9.out.ox.lt q hq).1; have := G9.out.ge; omega)) (grown_set (g := gb) (o := 3) (u := .slice (some ⟨g12, 0, none⟩) (k + 1) c12)) (fun q hq => by cases hq; have := G9.out.ge; omega)); clear hov hgrow hat hlt12 K12)
          | (go_simp; go_at_call 186; refine M3.out.mono ?_; rintro e w9 ⟨va, vc, rfl, o9, i9, g9⟩; have I9 := hide i9; have G9 := hide (G7.out.rdr (grown_undrew g9)); have T9 := hide (G7.out.fresh o9 (by have := TL.out; omega)); have d2 := G9.out.c3; have d2a := fun o => (((Below.refl w9.heap.size w9).alloc (Nat.le_refl _) o).cell (p := ⟨gb, 3, none⟩) G9.out.lt).trans G9.out.c3; have w9z := G9.out.lt; clear i9 g9 o9))
        all_goals (
          obtain ⟨w13, hw13⟩ : ∃ X, X = w12.setCell ⟨gb, 3, none⟩ (.slice (some ⟨g12, 0, none⟩) (k + 1) c12) := ⟨_, rfl⟩
          rw [← hw13] at G12 R12 ⊢
          have E2 : Hid (Z = ((P ++ [(x1, TS)]) ++ (M.lTrees bs (n - (k + 1)) t2).1, (M.lTrees bs (n - (k + 1)) t2).2)) := by
            unfold Hid; rw [ez, List.append_assoc]; rfl
          have LK2 : Hid ((P ++ [(x1, TS)]).length = k + 1 ∧ (D ++ [(va, TS, vc)]).length = k + 1 ∧ tl (D ++ [(va, TS, vc)]) = (P ++ [(x1, TS)]).map (·.2)) := by
            obtain ⟨l1, l2, l3⟩ := LK.out
            refine ⟨by rw [List.length_append, l1]; rfl, by rw [List.length_append, l2]; rfl, ?_⟩
            unfold tl at l3 ⊢
            rw [List.map_append, List.map_append, l3]
            rfl
          have G13 : Hid (GW w g w.heap.size gb n1 n2 (k + 1) (some ⟨g7, 0, none⟩) c7 ((P ++ [(x1, TS)]).map (·.1)) (k + 1) (some ⟨g12, 0, none⟩) c12 (D ++ [(va, TS, vc)]) w13) := by
            unfold Hid; rw [List.map_append]; exact G12.out
          clear hw13 z2 zf d2 d2a c3 M3 G7 R7 G9 I9 T9 w9z G12 ez
          go_wp2
          go_roundw
          case rel => exact ⟨k + 1, _, _, _, _, P ++ [(x1, TS)], D ++ [(va, TS, vc)], t2, by omega, by go_num, LK2, E2, R12, G13⟩
          case measure => simp [intOf]; omega))
    · have ek : k = n := by omega
      have kz : ¬ ((k : Int) < (n : Int)) := by omega
      have EZ2 : Hid (Z = (P, s')) := by
        have := EZ.out
        rw [ek, Nat.sub_self] at this
        unfold Hid
        rw [this]
        show (P ++ [], _) = _
        rw [List.append_nil]
        rfl
      have y0 := GG.out.c0
      have y1 := GG.out.c1
      have y2 := GG.out.c2
      have y3 := GG.out.c3
      obtain ⟨v0, x0⟩ := GG.out.r 0 (by omega)
      obtain ⟨v1, x1⟩ := GG.out.r 1 (by omega)
      obtain ⟨v2, x2⟩ := GG.out.r 2 (by omega)
      obtain ⟨v3, x3⟩ := GG.out.r 3 (by omega)
      have f0 := GG.out.rf 0
      have f1 := GG.out.rf 1
      have f2 := GG.out.rf 2
      have f3 := GG.out.rf 3
      have KN := hide ek
      clear EZ NN TT NA EA ek
      go_wp2
      obtain ⟨e0, e1, e2, e3⟩ := put4_at (x0 := .int .i64 n1) (x1 := .int .i64 n2) (x2 := .slice ya k yc) (x3 := .slice xa k xc) x0 x1 x2 x3
      obtain ⟨l1, l2, l3⟩ := LK.out
      refine bodyPost_ret (v := .agg #[.int .i64 n1, .int .i64 n2, .slice ya k yc, .slice xa k xc]) (by simp [results, Tryz.results152, go_sem, e0, e1, e2, e3]) rfl ?_
      have gg := GG.out.ge
      have gz := GG.out.lt
      refine ⟨⟨n1, n2, ya, P.map (·.1), yc, xa, D, xc⟩, ?_, ?_, ?_, ?_, ?_⟩
      · unfold Gr.v
        simp only [List.length_map, l1, l2]
      · rw [EG.out, EZ2.out]
        unfold Gr.m
        rw [l3]
      · exact GG.out.out (by rw [List.length_map]; exact l1) l2 (by omega) (fun _ => grown4_at.size) (fun q h1 h2 => grown4_at.block q h2 (fun e => by cases e; omega))
      · rw [EZ2.out]
        exact H0.out.far RR.out grown4_at (fun q hq => by cases hq; exact Nat.le_refl _)
      · exact grown_trans GG.out.gr grown4_at (.inr (fun q hq => by cases hq; exact Nat.le_refl _))
def CdDecGives : Prop := ∀ (a : Option Addr) (bs : List Nat) (c : Nat) (W : World), RdB W a bs → bs.length ≤ c → c ≤ 9223372036854775807 → Calls Tryz.prog 112 #[.slice a bs.length c] W fun e w' => ∃ O : Gr, e = .returned (.tuple #[O.v, .int .i64 ((M.decF bs).1 : Nat), errV (M.decF bs).2]) ∧ O.m = M.decV bs ∧ RdG w' O ∧ Below W.heap.size W w'
theorem isway_any (x : Int) (w : World) (iw : Bool) (h : Hid (iw = decide (1 ≤ x ∧ x ≤ 3))) :
    Calls Tryz.prog 217 #[.int .i64 x] w fun e w' => e = .returned (.bool iw) ∧ w' = w := by
  rcases (show x = 1 ∨ x = 2 ∨ x = 3 ∨ (x ≠ 1 ∧ x ≠ 2 ∧ x ≠ 3) from by omega) with c | c | c | ⟨c1, c2, c3⟩
  · have q1 : (x == 1) = true := by rw [beq_iff_eq]; exact c
    have E : Hid (true = iw) := by unfold Hid; rw [h.out, decide_eq_true (by omega)]
    clear c h
    go_enter Tryz.func217, Tryz.ntmps217
    go_wp2
    go_ret
    exact ⟨ret_bool E.out, rfl⟩
  · have q1 : (x == 1) = false := by rw [beq_eq_false_iff_ne]; omega
    have q2 : (x == 2) = true := by rw [beq_iff_eq]; exact c
    have E : Hid (true = iw) := by unfold Hid; rw [h.out, decide_eq_true (by omega)]
    clear c h
    go_enter Tryz.func217, Tryz.ntmps217
    go_wp2
    go_ret
    exact ⟨ret_bool E.out, rfl⟩
  · have q1 : (x == 1) = false := by rw [beq_eq_false_iff_ne]; omega
    have q2 : (x == 2) = false := by rw [beq_eq_false_iff_ne]; omega
    have q3 : (x == 3) = true := by rw [beq_iff_eq]; exact c
    have E : Hid (true = iw) := by unfold Hid; rw [h.out, decide_eq_true (by omega)]
    clear c h
    go_enter Tryz.func217, Tryz.ntmps217
    go_wp2
    go_ret
    exact ⟨ret_bool E.out, rfl⟩
  · have q1 : (x == 1) = false := by rw [beq_eq_false_iff_ne]; omega
    have q2 : (x == 2) = false := by rw [beq_eq_false_iff_ne]; omega
    have q3 : (x == 3) = false := by rw [beq_eq_false_iff_ne]; omega
    have E : Hid (false = iw) := by unfold Hid; rw [h.out, decide_eq_false (by omega)]
    clear c1 c2 c3 h
    go_enter Tryz.func217, Tryz.ntmps217
    go_wp2
    go_ret
    exact ⟨ret_bool E.out, rfl⟩

theorem kept_box {w W : World} {a0 a1 a2 a3 : Value} {t : TypeId} (h : Below (w.alloc (.cells #[a0, a1, a2, a3] t)).heap.size (w.alloc (.cells #[a0, a1, a2, a3] t)) W) :
    W.cell? ⟨w.heap.size, 0, none⟩ = some a0 ∧ W.cell? ⟨w.heap.size, 1, none⟩ = some a1 ∧ W.cell? ⟨w.heap.size, 2, none⟩ = some a2 ∧ W.cell? ⟨w.heap.size, 3, none⟩ = some a3 := by
  have hs : w.heap.size < (w.alloc (.cells #[a0, a1, a2, a3] t)).heap.size := by simp
  exact ⟨(h.cell (p := ⟨w.heap.size, 0, none⟩) hs).trans (World.cell?_alloc_at _ _ _ 0 rfl), (h.cell (p := ⟨w.heap.size, 1, none⟩) hs).trans (World.cell?_alloc_at _ _ _ 1 rfl), (h.cell (p := ⟨w.heap.size, 2, none⟩) hs).trans (World.cell?_alloc_at _ _ _ 2 rfl), (h.cell (p := ⟨w.heap.size, 3, none⟩) hs).trans (World.cell?_alloc_at _ _ _ 3 rfl)⟩
theorem M.grove_rng {g : M.Gv} (h : M.gf g < 0 ∨ 8 < M.gf g ∨ M.gw g < 1 ∨ 3 < M.gw g) : M.groveF g = 1 := by unfold M.groveF; rw [if_pos h]
theorem err_num (c : Int) (h : c ≠ 0) : Ending.returned (.iface 90 (.int .i64 c)) = .returned (errV c) := by rw [err_some h]
theorem err_is {c d : Int} (h : c = d) (h0 : c ≠ 0) : Ending.returned (.iface 90 (.int .i64 c)) = .returned (errV d) := by rw [← h, err_some h0]
theorem err_none {d : Int} (h : d = 0) : Ending.returned .nilIface = .returned (errV d) := by rw [err_nil h]

/-- what is wrong with how many trees there are, or with their weights -/
def M.wtsF (ws : List Int) (n : Nat) : Int := if n = 0 then 5 else if 12 < n then 4 else if ws.length ≠ n then 3 else if ws.any M.wBad = true then 1 else 0
theorem err_go {c d : Int} (h : c = d) : Ending.returned (errV c) = .returned (errV d) := by rw [h]

set_option maxHeartbeats 4000000 in
theorem gwts_any (a : Option Addr) (ws : List Int) (ca n : Nat) (w : World) (h : Rd w a ws) :
    Calls Tryz.prog 218 #[.slice a ws.length ca, .int .i64 (n : Nat)] w fun e w' => e = .returned (errV (M.wtsF ws n)) ∧ w' = w := by
  have hm2 : ws.length ≤ 9223372036854775807 := h.1
  have HR := hide h
  clear h
  unfold M.wtsF
  by_cases t0 : n = 0
  · rw [if_pos t0]
    have q4 : ((n : Int) == 0) = true := by rw [beq_iff_eq]; omega
    clear t0
    go_enter Tryz.func218, Tryz.ntmps218
    go_wp2
    go_ret
    exact ⟨err_num 5 (by decide), rfl⟩
  · rw [if_neg t0]
    have q4 : ((n : Int) == 0) = false := by rw [beq_eq_false_iff_ne]; omega
    have t0' : 0 < n := by omega
    by_cases t12 : 12 < n
    · rw [if_pos t12]
      have q5 : decide (12 < (n : Int)) = true := decide_eq_true (by omega)
      clear t0 t12 t0'
      go_enter Tryz.func218, Tryz.ntmps218
      go_wp2
      go_ret
      exact ⟨err_num 4 (by decide), rfl⟩
    · rw [if_neg t12]
      have q5 : decide (12 < (n : Int)) = false := decide_eq_false (by omega)
      by_cases tw : ws.length ≠ n
      · rw [if_pos tw]
        have q6 : ((ws.length : Int) != (n : Int)) = true := by rw [bne_iff_ne]; omega
        clear t0 t12 t0' tw
        go_enter Tryz.func218, Tryz.ntmps218
        go_wp2
        go_ret
        exact ⟨err_num 3 (by decide), rfl⟩
      · rw [if_neg tw]
        have WB : Hid (∀ k (h : k < ws.length), M.wBad (ws.getD k 0) = true → ws.any M.wBad = true) := fun k h e => List.any_eq_true.2 ⟨_, by rw [M.getD_at h]; exact List.getElem_mem h, e⟩
        have WN : Hid ((∀ k, k < ws.length → M.wBad (ws.getD k 0) = false) → ws.any M.wBad = false) := fun h => by
          cases e : ws.any M.wBad with
          | false => rfl
          | true =>
            obtain ⟨x, hx, e2⟩ := List.any_eq_true.1 e
            obtain ⟨i, hi, rfl⟩ := List.getElem_of_mem hx
            have := h i hi
            rw [M.getD_at hi, e2] at this
            cases this
        have q6 : ((ws.length : Int) != (n : Int)) = false := by rw [bne_eq_false_iff_eq]; omega
        obtain ⟨bw, ow, ewa, hbw, hcw0⟩ := HR.out.2 (by intro e; rw [e] at tw; simp at tw; omega)
        have HCW := hide hcw0
        subst ewa
        clear HR t0 t12 tw t0' hcw0
        generalize hAB : ws.any M.wBad = AB at *
        have HAB := hide hAB
        clear hAB
        generalize hRV : (if AB = true then (1 : Int) else 0) = RV
        have HRV := hide hRV
        clear hRV
        go_enter Tryz.func218, Tryz.ntmps218
        go_wp2
        go_loopw [20] (fun i wr => ∃ k : Nat, k ≤ ws.length ∧ i = .int .i64 k ∧ Hid (∀ j, j < k → M.wBad (ws.getD j 0) = false) ∧ wr = w) (fun i _ => ws.length - (intOf i).toNat)
        case atStart => exact ⟨0, Nat.zero_le _, rfl, fun j hj => by omega, rfl⟩
        case round =>
          obtain ⟨k, hk, rfl, I, ew⟩ := hrel
          subst ew
          by_cases hlt : k < ws.length
          · have cw := HCW.out k hlt
            have kz : (k : Int) < (ws.length : Int) := by omega
            have wb : M.wBad (ws.getD k 0) = (decide (ws.getD k 0 < 1) || decide (1000 < ws.getD k 0)) := rfl
            by_cases b1 : ws.getD k 0 < 1
            · have E : Hid (AB = true) := WB.out k hlt (by rw [wb, decide_eq_true b1]; rfl)
              have p1 : decide (ws.getD k 0 < 1) = true := decide_eq_true b1
              have RE : Hid ((1 : Int) = RV) := by unfold Hid; rw [← HRV.out, if_pos E.out]
              clear WB WN wb b1 E HCW I
              generalize ws.getD k 0 = z at *
              go_wp2
              go_ret
              exact ⟨err_is RE.out (by decide), rfl⟩
            · by_cases b2 : 1000 < ws.getD k 0
              · have E : Hid (AB = true) := WB.out k hlt (by rw [wb, decide_eq_true b2]; simp)
                have p1 : decide (ws.getD k 0 < 1) = false := decide_eq_false b1
                have p2 : decide (1000 < ws.getD k 0) = true := decide_eq_true b2
                have RE : Hid ((1 : Int) = RV) := by unfold Hid; rw [← HRV.out, if_pos E.out]
                clear WB WN wb b1 b2 E HCW I
                generalize ws.getD k 0 = z at *
                go_wp2
                go_ret
                exact ⟨err_is RE.out (by decide), rfl⟩
              · have p1 : decide (ws.getD k 0 < 1) = false := decide_eq_false b1
                have p2 : decide (1000 < ws.getD k 0) = false := decide_eq_false b2
                have N : Hid (∀ j, j < k + 1 → M.wBad (ws.getD j 0) = false) := fun j hj => by
                  by_cases e : j = k
                  · rw [e, wb, p1, p2]; rfl
                  · exact I.out j (by omega)
                clear WB WN wb b1 b2 HCW I
                generalize ws.getD k 0 = z at *
                go_wp2
                go_roundw
                case rel => exact ⟨k + 1, by omega, by go_num, N, trivial⟩
                case measure => simp [intOf]; omega
          · have E : Hid (AB = false) := WN.out (fun j hj => I.out j (by omega))
            have RE : Hid (RV = 0) := by unfold Hid; rw [← HRV.out, E.out]; rfl
            clear WB WN I E HAB HCW
            go_wp2
            go_ret
            exact ⟨err_none RE.out, rfl⟩

theorem M.grove_wts {g : M.Gv} (h : ¬ (M.gf g < 0 ∨ 8 < M.gf g ∨ M.gw g < 1 ∨ 3 < M.gw g)) : M.groveF g = if M.wtsF (M.gs g) (M.gt g).length ≠ 0 then M.wtsF (M.gs g) (M.gt g).length else M.treesF (M.gf g) (M.gt g) := by
  unfold M.groveF M.wtsF
  rw [if_neg h]
  repeat' split
  all_goals first | rfl | omega | simp_all

set_option maxHeartbeats 16000000 in
set_option maxRecDepth 10000 in
theorem gcheck_any (G : Gr) (w : World) (h : RdG w G) :
    Calls Tryz.prog 187 #[G.v] w fun e w' => e = .returned (errV (M.groveF G.m)) ∧ Below w.heap.size w w' := by
  have hm1 : G.ks.length ≤ 9223372036854775807 := h.2.1
  have hm2 : G.ws.length ≤ 9223372036854775807 := h.1.1
  have HG := hide h
  have tlen : (M.gt G.m).length = G.ks.length := tl_len G.ks
  have B0 : Hid (∀ o, Below w.heap.size w (w.alloc o)) := fun o => (Below.refl _ w).alloc (Nat.le_refl _) o
  obtain ⟨iw, hiw⟩ : ∃ iw : Bool, iw = decide (1 ≤ G.w ∧ G.w ≤ 3) := ⟨_, rfl⟩
  have IW := hide (fun W => isway_any G.w W iw hiw)
  have CW := hide (fun W (hW : Below w.heap.size w W) => gwts_any G.wa G.ws G.wc G.ks.length W (HG.out.below hW).1)
  clear h
  unfold Gr.v
  by_cases hR : M.gf G.m < 0 ∨ 8 < M.gf G.m ∨ M.gw G.m < 1 ∨ 3 < M.gw G.m
  · rw [M.grove_rng hR]
    have hR' : G.f < 0 ∨ 8 < G.f ∨ G.w < 1 ∨ 3 < G.w := hR
    clear hR tlen HG CW
    by_cases c0 : G.f < 0
    · have q0 : decide (G.f < 0) = true := decide_eq_true (by omega)
      clear hR' c0 hiw
      go_enter Tryz.func187, Tryz.ntmps187
      go_wp2
      go_ret
      exact ⟨err_num 1 (by decide), B0.out _⟩
    · by_cases c1 : 8 < G.f
      · have q0 : decide (G.f < 0) = false := decide_eq_false (by omega)
        have q1 : decide (8 < G.f) = true := decide_eq_true (by omega)
        clear hR' c0 c1 hiw
        go_enter Tryz.func187, Tryz.ntmps187
        go_wp2
        go_ret
        exact ⟨err_num 1 (by decide), B0.out _⟩
      · have q0 : decide (G.f < 0) = false := decide_eq_false (by omega)
        have q1 : decide (8 < G.f) = false := decide_eq_false (by omega)
        have e : iw = false := by rw [hiw, decide_eq_false (by omega)]
        subst e
        clear hR' c0 c1 hiw
        go_enter Tryz.func187, Tryz.ntmps187
        go_wp2_with (go_at_call 217; refine (IW.out _).mono ?_; rintro e w1 ⟨rfl, e1⟩; subst w1)
        go_ret
        exact ⟨err_num 1 (by decide), B0.out _⟩
  · have hR' : ¬ (G.f < 0 ∨ 8 < G.f ∨ G.w < 1 ∨ 3 < G.w) := hR
    have q0 : decide (G.f < 0) = false := decide_eq_false (by omega)
    have q1 : decide (8 < G.f) = false := decide_eq_false (by omega)
    have e : iw = true := by rw [hiw, decide_eq_true (by omega)]
    subst e
    have E0 : M.groveF G.m = if M.wtsF G.ws G.ks.length ≠ 0 then M.wtsF G.ws G.ks.length else M.treesF G.f (tl G.ks) := by
      rw [← tlen]; exact M.grove_wts hR
    rw [E0]
    clear hR E0 hiw hR'
    by_cases hw : M.wtsF G.ws G.ks.length ≠ 0
    · rw [if_pos hw]
      have HW := hide hw
      rw [err_some hw] at CW
      clear tlen HG hw
      generalize M.wtsF G.ws G.ks.length = wf at *
      go_enter Tryz.func187, Tryz.ntmps187
      go_wp2_with (first
        | (go_at_call 217; refine (IW.out _).mono ?_; rintro e w1 ⟨rfl, e1⟩; subst w1)
        | (go_at_call 218; refine (CW.out _ (B0.out _)).mono ?_; rintro e w2 ⟨rfl, e2⟩; subst w2))
      go_ret
      exact ⟨err_num _ HW.out, B0.out _⟩
    · rw [if_neg hw]
      have w0 : M.wtsF G.ws G.ks.length = 0 := by omega
      rw [w0, err_nil rfl] at CW
      have t0' : 0 < G.ks.length := by
        rcases Nat.eq_zero_or_pos G.ks.length with q | q
        · unfold M.wtsF at w0; rw [if_pos q] at w0; cases w0
        · exact q
      have n12 : G.ks.length ≤ 12 := by
        unfold M.wtsF at w0; rw [if_neg (by omega)] at w0
        by_cases q : 12 < G.ks.length
        · rw [if_pos q] at w0; cases w0
        · omega
      have TA : Hid (∀ k, k < G.ks.length → (∀ j, j < k → (M.treeF ((tl G.ks).getD j []) G.f).2 = 0) → (M.treeF ((tl G.ks).getD k []) G.f).2 ≠ 0 → M.treesF G.f (tl G.ks) = (M.treeF ((tl G.ks).getD k []) G.f).2) := fun k hk h hn => M.trees_at (by rw [tl_len]; exact hk) h hn
      have TN : Hid ((∀ j, j < G.ks.length → (M.treeF ((tl G.ks).getD j []) G.f).2 = 0) → M.treesF G.f (tl G.ks) = 0) := fun h => M.trees_all (fun j hj => h j (by rw [tl_len] at hj; exact hj))
      have TL : Hid (∀ k (h : k < G.ks.length), (tl G.ks).getD k [] = G.ks[k].2.1) := fun k h => tl_at G.ks h
      have RT : Hid (∀ W, Below w.heap.size w W → RdT W G.ta G.ks) := fun W hW => (HG.out.below hW).2
      obtain ⟨bt, ot, eta, hbt, hct0⟩ := HG.out.2.2.2 (by intro e; rw [e] at t0'; simp at t0')
      have HCT : Hid (∀ W, Below w.heap.size w W → ∀ i (hi : i < G.ks.length), W.cell? ⟨bt, ot + i, none⟩ = some (tV G.ks[i])) := fun W hW i hi => (hW.cell (p := ⟨bt, ot + i, none⟩) hbt).trans (hct0 i hi)
      rw [eta]
      clear tlen HG hw w0 hct0 hbt eta
      generalize M.treesF G.f (tl G.ks) = TF at *
      have KG : Hid (∀ W, Below (w.alloc (.cells #[.int .i64 G.f, .int .i64 G.w, .slice G.wa G.ws.length G.wc, .slice (some ⟨bt, ot, none⟩) G.ks.length G.tc] 53)).heap.size (w.alloc (.cells #[.int .i64 G.f, .int .i64 G.w, .slice G.wa G.ws.length G.wc, .slice (some ⟨bt, ot, none⟩) G.ks.length G.tc] 53)) W → Below w.heap.size w W ∧ W.cell? ⟨w.heap.size, 0, none⟩ = some (.int .i64 G.f) ∧ W.cell? ⟨w.heap.size, 3, none⟩ = some (.slice (some ⟨bt, ot, none⟩) G.ks.length G.tc)) := fun W hW =>
        ⟨below_on ((Below.refl _ w).alloc (Nat.le_refl _) _) hW, (kept_box hW).1, (kept_box hW).2.2.2⟩
      go_enter Tryz.func187, Tryz.ntmps187
      go_wp2_with (first
        | (go_at_call 217; refine (IW.out _).mono ?_; rintro e w1 ⟨rfl, e1⟩; subst w1)
        | (go_at_call 218; refine (CW.out _ (B0.out _)).mono ?_; rintro e w2 ⟨rfl, e2⟩; subst w2))
      go_loopw [35] (fun i wr => ∃ k : Nat, k ≤ G.ks.length ∧ i = .int .i64 k ∧ Hid (∀ j, j < k → (M.treeF ((tl G.ks).getD j []) G.f).2 = 0) ∧ Hid (Below (w.alloc (.cells #[.int .i64 G.f, .int .i64 G.w, .slice G.wa G.ws.length G.wc, .slice (some ⟨bt, ot, none⟩) G.ks.length G.tc] 53)).heap.size (w.alloc (.cells #[.int .i64 G.f, .int .i64 G.w, .slice G.wa G.ws.length G.wc, .slice (some ⟨bt, ot, none⟩) G.ks.length G.tc] 53)) wr)) (fun i _ => G.ks.length - (intOf i).toNat)
      case atStart => exact ⟨0, Nat.zero_le _, rfl, fun j hj => by omega, Below.refl _ _⟩
      case round =>
        obtain ⟨k, hk, rfl, I, K⟩ := hrel
        obtain ⟨kw, c0, c3⟩ := KG.out _ K.out
        by_cases hlt : k < G.ks.length
        · obtain ⟨hk1, hk2, hk3⟩ := RT.out wr kw
          have ct := HCT.out wr kw k hlt
          have rk := hk2 _ (List.getElem_mem hlt)
          have TE := TL.out k hlt
          have TR := hide (tcheck_any G.ks[k].1 G.ks[k].2.1 G.ks[k].2.2 G.f wr rk)
          have TAK := hide (TA.out k hlt I.out)
          rw [TE] at TAK
          have kz : (k : Int) < (G.ks.length : Int) := by omega
          unfold tV at ct
          have N : Hid ((M.treeF G.ks[k].2.1 G.f).2 = 0 → ∀ j, j < k + 1 → (M.treeF ((tl G.ks).getD j []) G.f).2 = 0) := fun hz j hj => by
            by_cases e : j = k
            · rw [e, TE]; exact hz
            · exact I.out j (by omega)
          clear hk1 hk2 hk3 HCT rk TE TA TN TL RT I
          generalize (M.treeF G.ks[k].2.1 G.f).2 = te at *
          generalize (M.treeF G.ks[k].2.1 G.f).1 = tp at *
          generalize G.ks[k].2.1.length = tn at *
          generalize G.ks[k].2.2 = tcc at *
          generalize G.ks[k].1 = ta at *
          by_cases hz : te = 0
          · rw [err_nil hz] at TR
            have NN := hide (N.out hz)
            clear hz N TAK
            go_wp2_with (go_at_call 177; refine TR.out.mono ?_; rintro e w5 ⟨rfl, hb5⟩; have K6 := hide (below_on K.out hb5))
            go_roundw
            case rel => exact ⟨k + 1, by omega, by go_num, NN, K6⟩
            case measure => simp [intOf]; omega
          · rw [err_some hz] at TR
            have TE2 := hide (TAK.out hz)
            have HZ := hide hz
            clear hz N TAK
            go_wp2_with (go_at_call 177; refine TR.out.mono ?_; rintro e w5 ⟨rfl, hb5⟩; have kw6 := below_on kw hb5)
            go_ret
            exact ⟨err_is (by rw [TE2.out]) HZ.out, kw6⟩
        · have TZ : Hid (TF = 0) := TN.out (fun j hj => I.out j (by omega))
          clear TA TN TL RT I HCT
          go_wp2
          go_ret
          exact ⟨err_none TZ.out, kw⟩
end Go.Proofs.YtiggkjkjfnlfkaaGreatDoor
