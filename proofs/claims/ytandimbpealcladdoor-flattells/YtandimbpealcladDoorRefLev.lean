/-
  What the reference's Levels answers of a tree that is right: its nodes level by level.
-/
import Derived.Test.YtandimbpealcladDoorNdCells
import Derived.Test.YtandimbpealcladDoorMathK
import Derived.Deep.AppendLies
import Derived.OwnWalk
namespace Go.Proofs.YtandimbpealcladDoor
open Go.ChangeShapes Go.WideShapes Go.ChangeAt Go.RowKit Go.Lib
set_option linter.unusedVariables false

theorem ndCells_app (a b : List M.Nd) : ndCells (a ++ b) = ndCells a ++ ndCells b := by unfold ndCells; rw [List.flatMap_append]
abbrev nodeObj (n : M.Nd) : Obj := .cells #[.int .i64 (M.nf n), .int .i64 (M.nc n), .int .i64 (M.nl n), .int .i64 (M.nr n), .bool (M.ns n), .int .i64 (M.nv n)] 28
theorem own_block_ne {w : World} {B e size n : Nat} {v : Value} {l : List Value} (h : w.ownsRow B e size v n l) {g : Nat} (hg : w.heap.size ≤ g) : v.ownBlock ≠ some g := fun q => by
  have := (h.lt g q).2; omega

set_option maxHeartbeats 8000000 in
set_option maxRecDepth 10000 in
theorem rlevels_any (a0 : Option Addr) (ts : List M.Nd) (cap : Nat) (m : Int) (w : World) (h : RdN w a0 ts) (F : M.Fair ts m) :
    Calls Tryd.prog 13 #[.slice a0 ts.length cap] w fun e w' => ∃ a c, e = .returned (.slice a (M.levels ts).length c) ∧ RdN w' a (M.levels ts) ∧ (∀ p, a = some p → w.heap.size ≤ p.block) ∧ Below w.heap.size w w' := by
  have l63 : ts.length ≤ 63 := F.1
  have l0 : 0 < ts.length := F.2.1
  have ST : Hid (∀ k, k < ts.length → k < (M.ordI ts k).length ∧ (M.ordI ts k).length ≤ 63 ∧ ∃ j : Nat, (M.ordI ts k).getD k 0 = (j : Int) ∧ j < ts.length ∧ (M.nf (M.nAt ts j) = -1 → M.ordI ts (k + 1) = M.ordI ts k ∧ M.levK ts (k + 1) = M.levK ts k ++ [M.nAt ts j]) ∧ (M.nf (M.nAt ts j) ≠ -1 → M.ordI ts (k + 1) = M.ordI ts k ++ [M.nl (M.nAt ts j)] ++ [M.nr (M.nAt ts j)] ∧ M.levK ts (k + 1) = M.levK ts k ++ [(M.nf (M.nAt ts j), M.nc (M.nAt ts j), ((M.ordI ts k).length : Int), ((M.ordI ts k).length : Int) + 1, M.ns (M.nAt ts j), M.nv (M.nAt ts j))])) := fun k hk => by
    obtain ⟨q, hl⟩ := M.ord_all F k (by omega)
    have hl' := hl hk
    refine ⟨by rw [M.ordI_len]; exact hl', ?_, (M.ordS ts k).getD k 0, M.ordI_at ts k hl', q.lt _ (M.getD_mem' hl'), fun hf => M.ordI_leaf hf, fun hf => M.ordI_ask F hk hf⟩
    rw [M.ordI_len]
    have := M.nodup_len _ _ q.nd q.lt
    omega
  have EN : Hid ((M.ordI ts ts.length).length = ts.length) := by unfold Hid; rw [M.ordI_len]; exact (M.ord_end F).2
  have S0 : Hid (M.ordI ts 0 = [0]) := rfl
  obtain ⟨bt, ot, rfl, hbt, hct⟩ := h.2 (by intro e; rw [e] at l0; simp at l0)
  have HC : Hid (∀ W, Below w.heap.size w W → ∀ i, i < ts.length → SixAt W bt (ot + i * 6) (M.nAt ts i)) := fun W hW i hi => (hct i hi).below hW hbt
  have LL : Hid (∀ k, (M.levK ts k).length = k) := fun k => M.levK_len ts k
  have LV : Hid (M.levels ts = M.levK ts ts.length) := rfl
  obtain ⟨i0, hi, hz0, hz1, hz2⟩ := info_parts info3
  obtain ⟨j0, hj, hy0, hy1, hy2⟩ := info_parts infoN
  have I0 := hide hi
  have J0 := hide hj
  clear h F hct hi hj
  generalize M.levels ts = LVS at *
  go_enter Tryd.func13, Tryd.ntmps13
  go_wp2
  go_loopw [3, 4, 5] (fun u v i wr => ∃ (k : Nat) (X : List M.Nd) (O : List Int), k ≤ ts.length ∧ i = .int .i64 k ∧ Hid (X = M.levK ts k ∧ O = M.ordI ts k) ∧ wr.ownsRow w.heap.size 28 6 u k (ndCells X) ∧ wr.ownsRow w.heap.size 3 1 v O.length (O.map (Value.int .i64)) ∧ Hid (0 < O.length ∧ u.ownBlock ≠ v.ownBlock) ∧ Hid (Below w.heap.size w wr)) (fun _ _ i _ => ts.length - (intOf i).toNat)
  case atStart => exact ⟨0, [], [0], Nat.zero_le _, rfl, ⟨rfl, S0.out.symm⟩, World.ownsRow_nil _ _ _ _, World.ownsRow_lit w _ 1 (Nat.le_refl _) (by unfold maxLen; decide) rfl, ⟨by decide, by intro e; cases e⟩, (Below.refl _ w).alloc (Nat.le_refl _) _⟩
  case round =>
    obtain ⟨k, X, O, hk, rfl, HXO, hou, hov, DJ, K⟩ := hrel
    obtain ⟨vg, vc, rfl, hvb, hvl⟩ := own_shape hov DJ.out.1
    by_cases hlt : k < ts.length
    · obtain ⟨k1, k2, j, ej, hj, LF, AS⟩ := ST.out k hlt
      rw [← HXO.out.2] at k1 k2 ej
      have oc := own_at hov rfl k k1
      rw [show O[k] = (j : Int) by rw [← ej, M.getD_at k1]] at oc
      obtain ⟨n0, n1, n2, n3, n4, n5⟩ := HC.out wr K.out j hj
      have kz : (k : Int) < (O.length : Int) := by omega
      have jz : (j : Int) < (ts.length : Int) := by omega
      have HOU := hide hou
      have HOV := hide hov
      have ksz := K.out.size
      obtain ⟨ua, uc, rfl, _, _⟩ := own_rdN (by rw [HXO.out.1]; exact LL.out k) (by unfold maxLen; omega) hou
      clear hou hov ej HC
      by_cases hf : M.nf (M.nAt ts j) = -1
      · have t : (M.nf (M.nAt ts j) != -1) = false := by rw [bne_eq_false_iff_eq]; exact hf
        obtain ⟨e1, e2⟩ := LF hf
        have N : Hid (X ++ [M.nAt ts j] = M.levK ts (k + 1) ∧ O = M.ordI ts (k + 1)) := by unfold Hid; rw [HXO.out.1, e1, e2]; exact ⟨rfl, HXO.out.2⟩
        clear LF AS e1 e2 hf HXO
        have NC : Hid (ndCells [M.nAt ts j] = [.int .i64 (M.nf (M.nAt ts j)), .int .i64 (M.nc (M.nAt ts j)), .int .i64 (M.nl (M.nAt ts j)), .int .i64 (M.nr (M.nAt ts j)), .bool (M.ns (M.nAt ts j)), .int .i64 (M.nv (M.nAt ts j))]) := rfl
        generalize M.nf (M.nAt ts j) = nf at *
        generalize M.nc (M.nAt ts j) = nc at *
        generalize M.nl (M.nAt ts j) = nl at *
        generalize M.nr (M.nAt ts j) = nr at *
        generalize M.ns (M.nAt ts j) = ns at *
        generalize M.nv (M.nAt ts j) = nv at *
        go_wp2_with (at_builtin; refine wpList_append_lies _ rfl (.tmp 45) (.tmp 47) 29 rfl w.heap.size 28 j0 (.agg #[.int .i64 0, .int .i64 0, .int .i64 0, .int .i64 0, .bool false, .int .i64 0]) 6 48 Tryd.underlying29 J0.out hy0 hy1 hy2 rfl (by omega) (.slice ua k uc) k (ndCells X) rfl ((HOU.out.alloc _).alloc _) ⟨wr.heap.size + 1, 0, none⟩ 1 1 [.int .i64 nf, .int .i64 nc, .int .i64 nl, .int .i64 nr, .bool ns, .int .i64 nv] rfl rfl (World.news_of_block (by rw [show wr.heap.size + 1 = (wr.alloc (.cells #[.int .i64 nf, .int .i64 nc, .int .i64 nl, .int .i64 nr, .bool ns, .int .i64 nv] 28)).heap.size by simp]; exact heap_alloc_new _ _)) (by simp [Value.oneCell']) (by omega) (by unfold maxLen; omega) (by omega) (by simp; omega) (wr.heap.size + 1 + 1) (by simp) ?_)
        intro g cp w5 hov5 hgrow hat hlt5
        have HO5 : Hid (w5.ownsRow w.heap.size 28 6 (.slice (some ⟨g, 0, none⟩) (k + 1) cp) (k + 1) (ndCells (X ++ [M.nAt ts j]))) := by
          unfold Hid; rw [ndCells_app, NC.out]; exact hov5
        have HV5 : Hid (w5.ownsRow w.heap.size 3 1 (.slice (some ⟨vg, 0, none⟩) O.length vc) O.length (O.map (Value.int .i64))) := ((HOV.out.alloc _).alloc _).kept hgrow (.inr (fun e => DJ.out.2 e.symm))
        have DJ5 : Hid (0 < O.length ∧ (Value.slice (some ⟨g, 0, none⟩) (k + 1) cp).ownBlock ≠ (Value.slice (some ⟨vg, 0, none⟩) O.length vc).ownBlock) := ⟨DJ.out.1, fun e => by
          rcases hat with q | q
          · exact DJ.out.2 (by rw [q]; exact e)
          · have : g = vg := by simpa [Value.ownBlock] using e
            omega⟩
        have HB5 : Hid (Below w.heap.size w w5) := ((K.out.alloc ksz _).alloc (by simp; omega) _).grown hgrow (by simp; omega) (fun k hk => (HOU.out.lt k hk).1)
        clear hov5 hgrow hat
        go_wp2
        go_roundw
        case rel => exact ⟨k + 1, X ++ [M.nAt ts j], O, by omega, by go_num, N, HO5.out, HV5.out, DJ5, HB5⟩
        case measure => simp [intOf]; omega
      · have t : (M.nf (M.nAt ts j) != -1) = true := by rw [bne_iff_ne]; exact hf
        obtain ⟨e1, e2⟩ := AS hf
        have N : Hid (X ++ [(M.nf (M.nAt ts j), M.nc (M.nAt ts j), (O.length : Int), (O.length : Int) + 1, M.ns (M.nAt ts j), M.nv (M.nAt ts j))] = M.levK ts (k + 1) ∧ O ++ [M.nl (M.nAt ts j)] ++ [M.nr (M.nAt ts j)] = M.ordI ts (k + 1)) := by unfold Hid; rw [HXO.out.1, e1, e2, HXO.out.2]; exact ⟨rfl, rfl⟩
        clear LF AS e1 e2 hf HXO
        generalize M.nf (M.nAt ts j) = nf at *
        generalize M.nc (M.nAt ts j) = nc at *
        generalize M.nl (M.nAt ts j) = nl at *
        generalize M.nr (M.nAt ts j) = nr at *
        generalize M.ns (M.nAt ts j) = ns at *
        generalize M.nv (M.nAt ts j) = nv at *
        have NC : Hid (ndCells [(nf, nc, (O.length : Int), (O.length : Int) + 1, ns, nv)] = [.int .i64 nf, .int .i64 nc, .int .i64 (O.length : Int), .int .i64 ((O.length : Int) + 1), .bool ns, .int .i64 nv]) := rfl
        go_wp2_with (at_builtin; refine wpList_append_lies _ rfl (.tmp 37) (.tmp 39) 22 rfl w.heap.size 3 i0 (.int .i64 0) 1 8 Tryd.underlying22 I0.out hz0 hz1 hz2 rfl (by omega) (.slice (some ⟨vg, 0, none⟩) O.length vc) O.length (O.map (Value.int .i64)) rfl ((HOV.out.alloc _).alloc _) ⟨wr.heap.size + 1, 0, none⟩ 1 1 [.int .i64 nl] rfl rfl (World.news_of_block (by rw [show wr.heap.size + 1 = (wr.alloc (.cells #[.int .i64 nf, .int .i64 nc, .int .i64 (O.length : Int), .int .i64 ((O.length : Int) + 1), .bool ns, .int .i64 nv] 28)).heap.size by simp]; exact heap_alloc_new _ _)) (by simp [Value.oneCell']) (by omega) (by unfold maxLen; omega) (by omega) (by simp; omega) (wr.heap.size + 1 + 1) (by simp) ?_)
        intro g cp w5 hov5 hgrow hat hlt5
        have HV5 : Hid (w5.ownsRow w.heap.size 3 1 (.slice (some ⟨g, 0, none⟩) (O.length + 1) cp) (O.length + 1) ((O ++ [nl]).map (Value.int .i64))) := by
          unfold Hid; rw [List.map_append]; exact hov5
        have HU5 : Hid (w5.ownsRow w.heap.size 28 6 (.slice ua k uc) k (ndCells X)) := ((HOU.out.alloc _).alloc _).kept hgrow (.inr DJ.out.2)
        have DJ5 : Hid ((Value.slice ua k uc).ownBlock ≠ some g) := fun e => by
          rcases hat with q | q
          · exact DJ.out.2 (by rw [e]; exact q.symm)
          · have := (HOU.out.lt g e).2
            omega
        have CN5 : ∀ i, w5.cell? ⟨wr.heap.size, i, none⟩ = (wr.alloc (.cells #[.int .i64 nf, .int .i64 nc, .int .i64 (O.length : Int), .int .i64 ((O.length : Int) + 1), .bool ns, .int .i64 nv] 28)).cell? ⟨wr.heap.size, i, none⟩ := fun i => by
          have b1 : w5.heap[wr.heap.size]? = _ := hgrow.block wr.heap.size (by simp; omega) (fun e => by
            have : wr.heap.size = vg := by simpa [Value.ownBlock] using e
            omega)
          refine (World.cell?_of_block (a := ⟨wr.heap.size, i, none⟩) b1).trans (World.cell?_of_block (a := ⟨wr.heap.size, i, none⟩) ?_)
          exact Below.heap_alloc _ _ _ (by simp)
        have c0 := (CN5 0).trans (World.cell?_alloc_at _ _ _ 0 rfl)
        have c1 := (CN5 1).trans (World.cell?_alloc_at _ _ _ 1 rfl)
        have c2 := (CN5 2).trans (World.cell?_alloc_at _ _ _ 2 rfl)
        have c3 := (CN5 3).trans (World.cell?_alloc_at _ _ _ 3 rfl)
        have c4 := (CN5 4).trans (World.cell?_alloc_at _ _ _ 4 rfl)
        have c5 := (CN5 5).trans (World.cell?_alloc_at _ _ _ 5 rfl)
        have HB5 : Hid (Below w.heap.size w w5) := ((K.out.alloc ksz _).alloc (by simp; omega) _).grown hgrow (by simp; omega) (fun k hk => (HOV.out.lt k hk).1)
        have sz5 : wr.heap.size + 1 + 1 ≤ w5.heap.size := by have := hgrow.size; simpa using this
        have wsz : w.heap.size ≤ w5.heap.size := by omega
        have HAT5 := hide hat
        clear hov5 hgrow hat CN5
        go_wp2_with (at_builtin; refine wpList_append_lies _ rfl (.tmp 41) (.tmp 43) 22 rfl w.heap.size 3 i0 (.int .i64 0) 1 8 Tryd.underlying22 I0.out hz0 hz1 hz2 rfl (by omega) (.slice (some ⟨g, 0, none⟩) (O.length + 1) cp) (O.length + 1) ((O ++ [nl]).map (Value.int .i64)) rfl (HV5.out.alloc _) ⟨w5.heap.size, 0, none⟩ 1 1 [.int .i64 nr] rfl rfl (World.news_of_block (heap_alloc_new _ _)) (by simp [Value.oneCell']) (by omega) (by unfold maxLen; omega) (by omega) (by simp; omega) (w5.heap.size + 1) (by simp) ?_)
        intro g6 cp6 w6 hov6 hgrow6 hat6 hlt6
        have HV6 : Hid (w6.ownsRow w.heap.size 3 1 (.slice (some ⟨g6, 0, none⟩) (O.length + 1 + 1) cp6) (O ++ [nl] ++ [nr]).length ((O ++ [nl] ++ [nr]).map (Value.int .i64))) := by
          unfold Hid
          rw [show (O ++ [nl] ++ [nr]).map (Value.int .i64) = O.map (Value.int .i64) ++ [.int .i64 nl, .int .i64 nr] by simp, show (O ++ [nl] ++ [nr]).length = O.length + 1 + 1 by simp]
          exact hov6
        have HU6 : Hid (w6.ownsRow w.heap.size 28 6 (.slice ua k uc) k (ndCells X)) := (HU5.out.alloc _).kept hgrow6 (.inr DJ5.out)
        have DJ6 : Hid ((Value.slice ua k uc).ownBlock ≠ some g6) := fun e => by
          rcases hat6 with q | q
          · exact DJ5.out (by rw [e]; exact q.symm)
          · have := (HU5.out.lt g6 e).2
            omega
        have gne : g ≠ wr.heap.size := by
          rcases HAT5.out with q | q
          · have : vg = g := by simpa [Value.ownBlock] using q
            omega
          · omega
        have CN6 : ∀ i, w6.cell? ⟨wr.heap.size, i, none⟩ = w5.cell? ⟨wr.heap.size, i, none⟩ := fun i => by
          have b1 : w6.heap[wr.heap.size]? = _ := hgrow6.block wr.heap.size (by simp; omega) (fun e => by
            have : wr.heap.size = g := by simpa [Value.ownBlock] using e
            omega)
          refine (World.cell?_of_block (a := ⟨wr.heap.size, i, none⟩) b1).trans (World.cell?_of_block (a := ⟨wr.heap.size, i, none⟩) ?_)
          exact Below.heap_alloc _ _ _ (by simp; omega)
        have d0 := (CN6 0).trans c0
        have d1 := (CN6 1).trans c1
        have d2 := (CN6 2).trans c2
        have d3 := (CN6 3).trans c3
        have d4 := (CN6 4).trans c4
        have d5 := (CN6 5).trans c5
        have HB6 : Hid (Below w.heap.size w w6) := (HB5.out.alloc wsz _).grown hgrow6 (by simp; omega) (fun k hk => (HV5.out.lt k hk).1)
        have wsz6 : w.heap.size ≤ w6.heap.size := by have := hgrow6.size; simp at this; omega
        have gl6 : g6 < w6.heap.size := hlt6
        clear hov6 hgrow6 hat6 CN6 c0 c1 c2 c3 c4 c5
        go_wp2_with (at_builtin; refine wpList_append_lies _ rfl (.tmp 45) (.tmp 47) 29 rfl w.heap.size 28 j0 (.agg #[.int .i64 0, .int .i64 0, .int .i64 0, .int .i64 0, .bool false, .int .i64 0]) 6 48 Tryd.underlying29 J0.out hy0 hy1 hy2 rfl (by omega) (.slice ua k uc) k (ndCells X) rfl (HU6.out.alloc _) ⟨w6.heap.size, 0, none⟩ 1 1 [.int .i64 nf, .int .i64 nc, .int .i64 (O.length : Int), .int .i64 ((O.length : Int) + 1), .bool ns, .int .i64 nv] rfl rfl (World.news_of_block (heap_alloc_new _ _)) (by simp [Value.oneCell']) (by omega) (by unfold maxLen; omega) (by omega) (by simp; omega) (w6.heap.size + 1) (by simp) ?_)
        intro g7 cp7 w7 hov7 hgrow7 hat7 hlt7
        have HO7 : Hid (w7.ownsRow w.heap.size 28 6 (.slice (some ⟨g7, 0, none⟩) (k + 1) cp7) (k + 1) (ndCells (X ++ [(nf, nc, (O.length : Int), (O.length : Int) + 1, ns, nv)]))) := by
          unfold Hid; rw [ndCells_app, NC.out]; exact hov7
        have HV7 : Hid (w7.ownsRow w.heap.size 3 1 (.slice (some ⟨g6, 0, none⟩) (O.length + 1 + 1) cp6) (O ++ [nl] ++ [nr]).length ((O ++ [nl] ++ [nr]).map (Value.int .i64))) := (HV6.out.alloc _).kept hgrow7 (.inr (fun e => DJ6.out e.symm))
        have DJ7 : Hid (0 < (O ++ [nl] ++ [nr]).length ∧ (Value.slice (some ⟨g7, 0, none⟩) (k + 1) cp7).ownBlock ≠ (Value.slice (some ⟨g6, 0, none⟩) (O.length + 1 + 1) cp6).ownBlock) := ⟨by simp, fun e => by
          have e' : g7 = g6 := by simpa [Value.ownBlock] using e
          rcases hat7 with q | q
          · exact DJ6.out (by rw [q, e'])
          · omega⟩
        have HB7 : Hid (Below w.heap.size w w7) := (HB6.out.alloc wsz6 _).grown hgrow7 (by simp; omega) (fun k hk => (HU6.out.lt k hk).1)
        clear hov7 hgrow7 hat7 d0 d1 d2 d3 d4 d5
        go_wp2
        go_roundw
        case rel => exact ⟨k + 1, X ++ [(nf, nc, (O.length : Int), (O.length : Int) + 1, ns, nv)], O ++ [nl] ++ [nr], by omega, by go_num, N, HO7.out, HV7.out, DJ7, HB7⟩
        case measure => simp [intOf]; omega
    · have hke : k = ts.length := by omega
      have E : Hid (X = LVS) := by unfold Hid; rw [HXO.out.1, LV.out, hke]
      have EL : Hid (X.length = k) := by unfold Hid; rw [HXO.out.1]; exact LL.out k
      have OL : O.length = k := by rw [HXO.out.2, hke]; exact EN.out
      have q : ¬ ((k : Int) < (O.length : Int)) := by omega
      obtain ⟨ua, uc, rfl, RU, UP⟩ := own_rdN EL.out (by unfold maxLen; omega) hou
      have HR := hide RU
      have HUP := hide UP
      clear RU UP hou hov OL HXO
      go_wp2
      go_ret
      exact ⟨ua, ⟨uc, by rw [← E.out, EL.out, hke]; rfl⟩, by rw [← E.out]; exact HR.out, HUP.out, K.out⟩

end Go.Proofs.YtandimbpealcladDoor
