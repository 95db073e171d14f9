/-
  What package tree's Leaves answers, for every list of nodes.
-/
import Derived.Test.YtjnkkniefpmgdadTCheck
import Derived.Deep.AppendLies
namespace Go.Proofs.Ytjnkkniefpmgdad
open Go.ChangeShapes Go.WideShapes Go.ChangeAt Go.RowKit Go.Lib
set_option linter.unusedVariables false

set_option maxHeartbeats 4000000 in
set_option maxRecDepth 10000 in
theorem leaves_any (a0 : Option Addr) (ts : List M.Nd) (ca : Nat) (w : World) (ht : RdN w a0 ts) :
    Calls Try.prog 14 #[.slice a0 ts.length ca] w fun e w' => ∃ ag cg, e = .returned (.tuple #[.slice ag (M.leavesV ts).length cg, errV (M.treeF ts 8).2]) ∧ Rd w' ag (M.leavesV ts) ∧ Below w.heap.size w w' := by
  have hm : ts.length ≤ 9223372036854775807 := ht.1
  have T := hide (tcheck_any a0 ts ca 8 w ht)
  by_cases h2 : (M.treeF ts 8).2 = 0
  · obtain ⟨F, e2⟩ := M.tree_ok h2
    have EV : Hid (M.leavesV ts = M.lvs ts ts.length) := by unfold Hid M.leavesV; rw [if_pos h2]
    rw [err_nil h2]
    rw [e2, err_nil rfl] at T
    have l63 := F.1
    have HT := hide ht
    obtain ⟨i0, hi, hz0, hz1, hz2⟩ := info_parts info3
    have I0 := hide hi
    clear h2 F e2 ht hi
    generalize M.leavesV ts = V at *
    go_enter Try.func14, Try.ntmps14
    go_wp2_with (go_at_call 17; refine T.out.mono ?_; rintro e w1 ⟨rfl, hb1⟩)
    go_loopw [6, 19] (fun v i wr => ∃ k : Nat, k ≤ ts.length ∧ i = .int .i64 k ∧ wr.ownsRow w.heap.size 3 1 v (M.lvs ts k).length ((M.lvs ts k).map (Value.int .i64)) ∧ Below w.heap.size w wr) (fun _ i _ => ts.length - (intOf i).toNat)
    case atStart => exact ⟨0, Nat.zero_le _, rfl, World.ownsRow_nil _ _ _ _, hb1⟩
    case round =>
      clear hb1
      obtain ⟨k, hk, rfl, hown, hbl⟩ := hrel
      obtain ⟨va, vc, rfl, RV, _⟩ := own_rd hown
      have HO := hide hown
      have HV := hide RV
      have LL := M.lvs_len ts k
      clear hown RV
      by_cases hlt : k < ts.length
      · obtain ⟨b1, off, rfl, hb1, hc⟩ := HT.out.2 (by intro e; subst e; simp at hlt)
        obtain ⟨s0, s1, s2, s3, s4, s5⟩ := (hc k hlt).below hbl hb1
        have C1 := hide (isleaf_any (M.nAt ts k))
        unfold ndV at C1
        have NB : Hid (∀ o W, Below (wr.alloc o).heap.size (wr.alloc o) W → Below wr.heap.size wr W) := fun o W hW => below_on ((Below.refl _ wr).alloc (Nat.le_refl _) o) hW
        cases hf : M.leafB (M.nAt ts k) with
        | false =>
          rw [hf] at C1
          have LE : Hid (M.lvs ts (k + 1) = M.lvs ts k) := by
            unfold Hid; show (if M.leafB (M.nAt ts k) = true then M.lvs ts k ++ [(k : Int)] else M.lvs ts k) = _; rw [hf]; rfl
          clear hc hf
          generalize M.lvs ts k = L at *
          generalize M.nf (M.nAt ts k) = f at *
          generalize M.nc (M.nAt ts k) = c at *
          generalize M.nl (M.nAt ts k) = l at *
          generalize M.nr (M.nAt ts k) = r at *
          generalize M.ns (M.nAt ts k) = sl at *
          generalize M.nv (M.nAt ts k) = v at *
          go_wp2_with (go_at_call 32; refine (C1.out _).mono ?_; rintro e w2 ⟨rfl, hb2⟩)
          go_roundw
          case rel => exact ⟨k + 1, by omega, by go_num, by rw [LE.out]; exact own_up HO.out (NB.out _ w2 hb2), below_on hbl (NB.out _ w2 hb2)⟩
          case measure => simp [intOf]; omega
        | true =>
          rw [hf] at C1
          have LE : Hid (M.lvs ts (k + 1) = M.lvs ts k ++ [(k : Int)]) := by
            unfold Hid; show (if M.leafB (M.nAt ts k) = true then M.lvs ts k ++ [(k : Int)] else M.lvs ts k) = _; rw [hf]; rfl
          clear hc hf
          generalize M.lvs ts k = L at *
          generalize M.nf (M.nAt ts k) = f at *
          generalize M.nc (M.nAt ts k) = c at *
          generalize M.nl (M.nAt ts k) = l at *
          generalize M.nr (M.nAt ts k) = r at *
          generalize M.ns (M.nAt ts k) = sl at *
          generalize M.nv (M.nAt ts k) = v at *
          go_wp2_with (first
            | (go_at_call 32; refine (C1.out _).mono ?_; rintro e w2 ⟨rfl, hb2⟩; have k2 := NB.out _ w2 hb2; have k4 := below_on hbl k2; have kw4 := k4.size)
            | (at_builtin; refine wpList_append_lies _ rfl (.tmp 26) (.tmp 28) 22 rfl w.heap.size 3 i0 (.int .i64 0) 1 8 Try.underlying22 I0.out hz0 hz1 hz2 rfl (by omega) (.slice va L.length vc) L.length (L.map (Value.int .i64)) rfl ((own_up HO.out k2).alloc _) ⟨w2.heap.size, 0, none⟩ 1 1 [.int .i64 (k : Int)] rfl rfl (World.news_of_block (heap_alloc_new _ _)) (by simp [Value.oneCell']) (by omega) (by unfold maxLen; omega) (by omega) (by simp; omega) (w2.heap.size + 1) (by simp) ?_))
          intro g cap w5 hov5 hgrow hat hlt5
          have hb5 : Below w.heap.size w w5 := (k4.alloc k4.size _).grown hgrow (by simp; omega) (fun k hk => (HO.out.lt k hk).1)
          have HO5 : Hid (w5.ownsRow w.heap.size 3 1 (.slice (some ⟨g, 0, none⟩) (L.length + 1) cap) (M.lvs ts (k + 1)).length ((M.lvs ts (k + 1)).map (Value.int .i64))) := by
            unfold Hid; rw [LE.out, List.map_append, List.length_append]; exact hov5
          clear hov5 hgrow hat
          go_wp2
          go_roundw
          case rel => exact ⟨k + 1, by omega, by go_num, HO5.out, hb5⟩
          case measure => simp [intOf]; omega
      · have E : Hid (V = M.lvs ts k) := by unfold Hid; rw [EV.out, show k = ts.length by omega]
        generalize M.lvs ts k = L at *
        go_wp2
        go_ret2
        exact ⟨va, vc, by rw [E.out]; rfl, by rw [E.out]; exact HV.out, hbl⟩
  · have EV : Hid (M.leavesV ts = []) := by unfold Hid M.leavesV; rw [if_neg h2]
    have ES := hide (err_some h2)
    rw [err_some h2] at T
    clear h2 ht
    generalize M.leavesV ts = V at *
    generalize errV (M.treeF ts 8).2 = er at *
    generalize (M.treeF ts 8).2 = tf at *
    generalize (M.treeF ts 8).1 = tp at *
    go_enter Try.func14, Try.ntmps14
    go_wp2_with (go_at_call 17; refine T.out.mono ?_; rintro e w1 ⟨rfl, hb1⟩)
    go_ret2
    exact ⟨none, 0, by rw [EV.out, ES.out]; rfl, by rw [EV.out]; exact ⟨Nat.zero_le _, fun h => absurd rfl h⟩, hb1⟩

end Go.Proofs.Ytjnkkniefpmgdad
