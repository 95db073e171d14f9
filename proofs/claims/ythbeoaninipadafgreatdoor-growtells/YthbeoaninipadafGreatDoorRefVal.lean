/-
  What the reference's Leaf and Value answer of a tree that is right, whatever numbers the row's cells have.
-/
import Derived.Test.YthbeoaninipadafGreatDoorRefLeft
import Derived.Test.YthbeoaninipadafGreatDoorLMathB
import Derived.Deep.AppendLies
import Derived.Deep.Cut
import Derived.Deep.CutRange
import Derived.Deep.RegionWith
import Derived.OwnWalk
namespace Go.Proofs.YthbeoaninipadafGreatDoor
open Go.ChangeShapes Go.WideShapes Go.ChangeAt Go.RowKit
set_option linter.unusedVariables false

set_option maxHeartbeats 4000000 in
set_option maxRecDepth 10000 in
theorem rleaf_fair (a0 b0 : Option Addr) (ts : List M.Nd) (xs : List Int) (ca cb : Nat) (w : World) (ht : RdN w a0 ts) (hr : Rd w b0 xs) (F : M.Fair ts (xs.length : Int)) :
    Calls Tryz.prog 40 #[.slice a0 ts.length ca, .slice b0 xs.length cb] w fun e w' => ∃ v, e = .returned (.tuple #[.int .i64 (M.toD ts xs 0 : Nat), v]) ∧ Below w.heap.size w w' := by
  have hm : ts.length ≤ 9223372036854775807 := ht.1
  have hm2 : xs.length ≤ 9223372036854775807 := hr.1
  obtain ⟨o, ho⟩ : ∃ o, o = M.toD ts xs 0 := ⟨_, rfl⟩
  have EV : Hid (o = M.toD ts xs 0) := ho
  rw [← ho]
  have FN := hide F.2.2.2.2.1
  have l0 := F.2.1
  have l63 := F.1
  have HT := hide ht
  have HX := hide hr
  obtain ⟨i0, hi, hz0, hz1, hz2⟩ := info_parts info3
  have I0 := hide hi
  have O0 : Hid ((w.alloc (.cells #[.int .i64 0] 3)).ownsRow w.heap.size 3 1 (.slice (some ⟨w.heap.size, 0, none⟩) 1 1) 1 ([(0 : Int)].map (Value.int .i64))) := by
    have := World.ownsRow_lit (base := w.heap.size) (e := 3) (size := 1) w #[.int .i64 0] 1 (Nat.le_refl _) (by unfold maxLen; omega) (by simp)
    exact this
  clear F ht hr ho hi
  go_enter Tryz.func40, Tryz.ntmps40
  go_wp2
  go_loopw [6, 7] (fun i v wr => ∃ (k : Nat) (L : List Int), k < ts.length ∧ L.length ≤ k + 1 ∧ i = .int .i64 k ∧ wr.ownsRow w.heap.size 3 1 v L.length (L.map (Value.int .i64)) ∧ Below w.heap.size w wr ∧ Hid (M.toD ts xs k = M.toD ts xs 0)) (fun i _ _ => ts.length - (intOf i).toNat)
  case atStart => exact ⟨0, [0], l0, by simp, rfl, O0.out, (Below.refl _ w).alloc (Nat.le_refl _) _, rfl⟩
  case round =>
    clear O0
    obtain ⟨k, L, hlt, hL, rfl, hown, hbl, I⟩ := hrel
    obtain ⟨va, vc, rfl, RV, _⟩ := own_rd hown
    have HO := hide hown
    clear hown RV
    obtain ⟨b1, off, rfl, hb1, hc⟩ := HT.out.2 (by intro e; subst e; simp at hlt)
    obtain ⟨s0, s1, s2, s3, s4, s5⟩ := (hc k hlt).below hbl hb1
    have NS : Hid (∀ W, Below wr.heap.size wr W → SixAt W b1 (off + k * 6) (M.nAt ts k)) := fun W hW => (hc k hlt).below (below_on hbl hW) hb1
    by_cases hf : M.nf (M.nAt ts k) = -1
    · have q : (M.nf (M.nAt ts k) != -1) = false := by rw [bne_eq_false_iff_eq]; exact hf
      have E : Hid (k = o) := by unfold Hid; rw [EV.out, ← I.out, M.to_leaf hlt hf]
      clear hc hf NS
      generalize M.nf (M.nAt ts k) = f at *
      go_wp2
      go_ret2
      exact ⟨_, by rw [E.out]; rfl, hbl⟩
    · have q : (M.nf (M.nAt ts k) != -1) = true := by rw [bne_iff_ne]; exact hf
      have g0 := (M.node_ask (FN.out k hlt) hf).1
      have g1 := (M.node_ask (FN.out k hlt) hf).2.1
      obtain ⟨fi, hfi⟩ : ∃ fi : Nat, M.nf (M.nAt ts k) = fi := ⟨(M.nf (M.nAt ts k)).toNat, by omega⟩
      have hfl : fi < xs.length := by omega
      obtain ⟨bx, ox, rfl, hbx, hcx⟩ := HX.out.2 (by intro e; subst e; simp at hfl)
      have hx := (hbl.cell (p := ⟨bx, ox + fi, none⟩) hbx).trans (hcx fi hfl)
      have CL := hide (left_any (M.nAt ts k) (xs.getD fi 0))
      obtain ⟨j, ej, j1, j2⟩ := M.next_in FN.out xs hlt hf
      have N : Hid (M.toD ts xs j = M.toD ts xs 0) := by unfold Hid; rw [← M.to_next FN.out hlt hf ej]; exact I.out
      have NX : Hid ((if M.lessC (M.nAt ts k) (xs.getD fi 0) = true then M.nl (M.nAt ts k) else M.nr (M.nAt ts k)) = (j : Int)) := by
        unfold Hid; rw [← ej]; unfold M.nextI; rw [hfi, Int.toNat_natCast]
      rw [hfi] at s0 q
      unfold ndV at CL
      rw [hfi] at CL
      unfold SixAt at NS
      rw [hfi] at NS
      clear hc hf g0 g1 ej hcx hfi
      generalize M.lessC (M.nAt ts k) (xs.getD fi 0) = bb at *
      generalize xs.getD fi 0 = x at *
      generalize M.nc (M.nAt ts k) = c at *
      generalize M.nl (M.nAt ts k) = l at *
      generalize M.nr (M.nAt ts k) = r at *
      generalize M.ns (M.nAt ts k) = sl at *
      generalize M.nv (M.nAt ts k) = v at *
      go_upto_region 4 with fail
      go_cut [8] from 16 to 28 (fun u wx => u = .bool bb ∧ Hid (Below wr.heap.size wr wx))
      case first =>
        go_region_with (go_at_call 56; refine (CL.out _).mono ?_; rintro e w1 ⟨rfl, hb1⟩)
        all_goals go_wp2
        all_goals go_meet
        all_goals (case rel => exact ⟨rfl, (Below.refl wr.heap.size wr).drew.trans hb1⟩)
      case rest =>
        obtain ⟨rfl, K⟩ := hcut
        obtain ⟨z0, z1, z2, z3, z4, z5⟩ := NS.out wc K.out
        have k4 := below_on hbl K.out
        have kw4 := k4.size
        clear NS CL
        cases bb with
        | true =>
          have e : l = (j : Int) := by have := NX.out; simpa using this
          rw [e] at z2
          clear e NX
          go_wp2_with (at_builtin; refine wpList_append_lies _ rfl (.tmp 40) (.tmp 42) 43 rfl w.heap.size 3 i0 (.int .i64 0) 1 8 Tryz.underlying43 I0.out hz0 hz1 hz2 rfl (by omega) (.slice va L.length vc) L.length (L.map (Value.int .i64)) rfl ((own_up HO.out K.out).alloc _) ⟨wc.heap.size, 0, none⟩ 1 1 [.int .i64 (j : Int)] rfl rfl (World.news_of_block (heap_alloc_new _ _)) (by simp [Value.oneCell']) (by omega) (by unfold maxLen; omega) (by omega) (by simp; omega) (wc.heap.size + 1) (by simp) ?_)
          intro g cap w5 hov5 hgrow hat hlt5
          have hb5 : Below w.heap.size w w5 := (k4.alloc k4.size _).grown hgrow (by simp; omega) (fun k hk => (HO.out.lt k hk).1)
          have HO5 : Hid (w5.ownsRow w.heap.size 3 1 (.slice (some ⟨g, 0, none⟩) (L.length + 1) cap) (L ++ [(j : Int)]).length ((L ++ [(j : Int)]).map (Value.int .i64))) := by
            unfold Hid; rw [List.map_append, List.length_append]; exact hov5
          clear hov5 hgrow hat
          go_wp2
          go_roundw
          case rel => exact ⟨j, L ++ [(j : Int)], j2, by simp; omega, rfl, HO5.out, hb5, N⟩
          case measure => simp [intOf]; omega
        | false =>
          have e : r = (j : Int) := by have := NX.out; simpa using this
          rw [e] at z3
          clear e NX
          go_wp2_with (at_builtin; refine wpList_append_lies _ rfl (.tmp 40) (.tmp 42) 43 rfl w.heap.size 3 i0 (.int .i64 0) 1 8 Tryz.underlying43 I0.out hz0 hz1 hz2 rfl (by omega) (.slice va L.length vc) L.length (L.map (Value.int .i64)) rfl ((own_up HO.out K.out).alloc _) ⟨wc.heap.size, 0, none⟩ 1 1 [.int .i64 (j : Int)] rfl rfl (World.news_of_block (heap_alloc_new _ _)) (by simp [Value.oneCell']) (by omega) (by unfold maxLen; omega) (by omega) (by simp; omega) (wc.heap.size + 1) (by simp) ?_)
          intro g cap w5 hov5 hgrow hat hlt5
          have hb5 : Below w.heap.size w w5 := (k4.alloc k4.size _).grown hgrow (by simp; omega) (fun k hk => (HO.out.lt k hk).1)
          have HO5 : Hid (w5.ownsRow w.heap.size 3 1 (.slice (some ⟨g, 0, none⟩) (L.length + 1) cap) (L ++ [(j : Int)]).length ((L ++ [(j : Int)]).map (Value.int .i64))) := by
            unfold Hid; rw [List.map_append, List.length_append]; exact hov5
          clear hov5 hgrow hat
          go_wp2
          go_roundw
          case rel => exact ⟨j, L ++ [(j : Int)], j2, by simp; omega, rfl, HO5.out, hb5, N⟩
          case measure => simp [intOf]; omega

theorem M.to_lt {t : List M.Nd} {m : Int} (F : M.Fair t m) (r : List Int) : M.toD t r 0 < t.length := (M.way_mem F.2.2.2.2.1 r t.length 0 F.2.1 (by omega) _ (M.to_mem F.2.2.2.2.1 r t.length 0 F.2.1 (by omega))).2
set_option maxHeartbeats 1000000 in
theorem rvalue_fair (a0 b0 : Option Addr) (ts : List M.Nd) (xs : List Int) (ca cb : Nat) (w : World) (ht : RdN w a0 ts) (hr : Rd w b0 xs) (F : M.Fair ts (xs.length : Int)) :
    Calls Tryz.prog 25 #[.slice a0 ts.length ca, .slice b0 xs.length cb] w fun e w' => e = .returned (.int .i64 (M.nv (M.nAt ts (M.toD ts xs 0)))) ∧ Below w.heap.size w w' := by
  have l0 := F.2.1
  have lt := M.to_lt F xs
  have L := hide (rleaf_fair a0 b0 ts xs ca cb w ht hr F)
  obtain ⟨b1, off, rfl, hb1, hc⟩ := ht.2 (by intro e; rw [e] at l0; simp at l0)
  have HC : Hid (∀ W, Below w.heap.size w W → W.cell? ⟨b1, off + M.toD ts xs 0 * 6 + 5, none⟩ = some (.int .i64 (M.nv (M.nAt ts (M.toD ts xs 0))))) := fun W hW => ((hc _ lt).below hW hb1).2.2.2.2.2
  have lz : ((M.toD ts xs 0 : Nat) : Int) < (ts.length : Int) := by omega
  clear hc F ht hr
  generalize M.nv (M.nAt ts (M.toD ts xs 0)) = v at *
  generalize M.toD ts xs 0 = j at *
  go_enter Tryz.func25, Tryz.ntmps25
  go_wp2_with (go_at_call 40; refine L.out.mono ?_; rintro e w1 ⟨u, rfl, h1⟩; have c1 := HC.out _ h1; have k1 := hide h1; clear h1)
  go_ret
  exact ⟨rfl, k1.out⟩

end Go.Proofs.YthbeoaninipadafGreatDoor
