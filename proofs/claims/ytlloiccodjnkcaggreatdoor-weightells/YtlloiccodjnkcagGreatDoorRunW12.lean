/-
  Several texts as one: RefPart, RefLeft, RefWay, SaAway, MathWk, WeiCnt, TNode.
-/
import Derived.Test.YtlloiccodjnkcagGreatDoorRunW11
import Derived.Deep.AppendLies
import Derived.OwnWalk
import Derived.Test.YtlloiccodjnkcagGreatDoorRunW9
import Derived.Test.YtlloiccodjnkcagGreatDoorRunW8
import Derived.Test.YtlloiccodjnkcagGreatDoorRunW3
import Derived.Deep.Cut
import Derived.Deep.CutRange
import Derived.Deep.RegionWith
import Derived.Test.YtlloiccodjnkcagGreatDoorRunW6
import Derived.Test.YtlloiccodjnkcagGreatDoorRunW5
import Derived.RegionTactic
import Derived.Laws.Rows
import Derived.Deep.QuietTactic
namespace Go.Proofs.YtlloiccodjnkcagGreatDoor
open Go.ChangeShapes Go.WideShapes Go.ChangeAt Go.RowKit Go.Lib
set_option linter.unusedVariables false

set_option maxHeartbeats 4000000 in
set_option maxRecDepth 10000 in
theorem rpart_any (a : Option Addr) (xs : List Sx) (ca m f : Nat) (c : Int) (b : Bool) (w : World) (h : RdL w a xs) (A : Ask xs m) (hf : f < m) :
    Calls Tryz.prog 37 #[.slice a xs.length ca, .int .i64 (f : Nat), .int .i64 c, .bool b] w fun e w' => ∃ ag cg, e = .returned (.slice ag (partX xs f c b).length cg) ∧ RdL w' ag (partX xs f c b) ∧ Below w.heap.size w w' ∧ (∀ p, ag = some p → w.heap.size ≤ p.block) := by
  have HL := hide h
  have AA := hide A
  have l60 := A.le
  obtain ⟨i0, hi, hz0, hz1, hz2⟩ := info_parts infoSam
  have I0 := hide hi
  have PM : Hid (∀ k (hk : k < xs.length), partX (xs.take (k + 1)) f c b = if (decide (xs[k].2.1.getD f 0 < c) == b) = true then partX (xs.take k) f c b ++ [xs[k]] else partX (xs.take k) f c b) := fun k hk => partX_more xs f c b hk
  have PL : Hid (∀ k, (partX (xs.take k) f c b).length ≤ 60) := fun k => Nat.le_trans (List.length_filter_le _ _) (by rw [List.length_take]; omega)
  have PA : Hid (partX (xs.take xs.length) f c b = partX xs f c b) := by unfold Hid; rw [List.take_length]
  have PR : Hid (∀ W, Below w.heap.size w W → ∀ x ∈ partX xs f c b, Rd W x.1 x.2.1) := fun W hW x hx => (h.2.1 x (partX_mem hx)).below hW
  clear h A hi
  generalize partX xs f c b = PX at *
  go_enter Tryz.func37, Tryz.ntmps37
  go_wp2
  go_loopw [9, 10] (fun v i wr => ∃ k : Nat, k ≤ xs.length ∧ i = .int .i64 k ∧ Hid (wr.ownsRow w.heap.size 52 2 v (partX (xs.take k) f c b).length (saCells (partX (xs.take k) f c b))) ∧ Hid (Below w.heap.size w wr)) (fun _ i _ => xs.length - (intOf i).toNat)
  case atStart => exact ⟨0, Nat.zero_le _, rfl, World.ownsRow_nil _ _ _ _, Below.refl _ _⟩
  case round =>
    obtain ⟨k, hk, rfl, HO, K⟩ := hrel
    have pl := PL.out k
    by_cases hlt : k < xs.length
    · obtain ⟨bl, ol, rfl, hbl, hcl⟩ := (HL.out.below K.out).2.2 (by intro e; rw [e] at hlt; simp at hlt)
      obtain ⟨q0, q1⟩ := hcl k hlt
      have hr := AA.out.row xs[k] (List.getElem_mem hlt)
      have fr : f < xs[k].2.1.length := by omega
      obtain ⟨bx, ox, ex, hbx, hcx⟩ := ((HL.out.below K.out).2.1 xs[k] (List.getElem_mem hlt)).2 (by intro e; rw [e] at fr; simp at fr)
      have hx := hcx f fr
      have pm := PM.out k hlt
      have PC : Hid (saCells (partX (xs.take k) f c b ++ [xs[k]]) = saCells (partX (xs.take k) f c b) ++ [.slice (some ⟨bx, ox, none⟩) xs[k].2.1.length xs[k].2.2.1, .int .i64 xs[k].2.2.2]) := by
        unfold Hid; rw [saCells_snoc]; unfold sxV; rw [ex]
      unfold sxV at q0
      rw [ex] at q0
      have kz : (k : Int) < (xs.length : Int) := by omega
      have fz : (f : Int) < (xs[k].2.1.length : Int) := by omega
      obtain ⟨va, vc, rfl⟩ := own_any HO.out
      have w0 := K.out.size
      cases hq : (decide (xs[k].2.1.getD f 0 < c) == b) with
      | true =>
        rw [if_pos hq] at pm
        have z1 := hide pm
        clear hcl hcx PM hr fr ex PA PR pm PL
        generalize xs[k].2.2.2 = t at *
        generalize xs[k].2.1.getD f 0 = x at *
        generalize xs[k].2.1.length = rl at *
        generalize xs[k].2.2.1 = rc at *
        generalize partX (xs.take k) f c b = P at *
        go_wp2_with (at_builtin; refine wpList_append_lies _ rfl (.tmp 29) (.tmp 34) 27 rfl w.heap.size 52 i0 (.agg #[.slice none 0 0, .int .i64 0]) 2 32 Tryz.underlying27 I0.out hz0 hz1 hz2 rfl (by omega) (.slice va P.length vc) P.length (saCells P) rfl (HO.out.alloc _) ⟨wr.heap.size, 0, none⟩ 1 1 [.slice (some ⟨bx, ox, none⟩) rl rc, .int .i64 t] rfl rfl (World.news_of_block (heap_alloc_new _ _)) (by simp [Value.oneCell']) (by omega) (by unfold maxLen; omega) (by omega) (by simp; omega) (wr.heap.size + 1) (by simp) ?_)
        intro g cap w5 hov5 hgrow hat hlt5
        have hb5 : Hid (Below w.heap.size w w5) := (K.out.alloc w0 _).grown hgrow (by simp; omega) (fun k hk => (HO.out.lt k hk).1)
        have HO5 : Hid (w5.ownsRow w.heap.size 52 2 (.slice (some ⟨g, 0, none⟩) (P.length + 1) cap) (partX (xs.take (k + 1)) f c b).length (saCells (partX (xs.take (k + 1)) f c b))) := by
          unfold Hid; rw [z1.out, PC.out, List.length_append]; exact hov5
        clear hov5 hgrow hat
        go_wp2
        go_roundw
        case rel => exact ⟨k + 1, by omega, by go_num, HO5, hb5⟩
        case measure => simp [intOf]; omega
      | false =>
        rw [if_neg (by rw [hq]; decide)] at pm
        have z1 : Hid (wr.ownsRow w.heap.size 52 2 (.slice va (partX (xs.take k) f c b).length vc) (partX (xs.take (k + 1)) f c b).length (saCells (partX (xs.take (k + 1)) f c b))) := by unfold Hid; rw [pm]; exact HO.out
        clear hcl hcx PM hr fr ex PA PR pm PL PC
        generalize xs[k].2.2.2 = t at *
        generalize xs[k].2.1.getD f 0 = x at *
        generalize xs[k].2.1.length = rl at *
        generalize xs[k].2.2.1 = rc at *
        generalize (partX (xs.take k) f c b).length = pn at *
        go_wp2
        go_roundw
        case rel => exact ⟨k + 1, by omega, by go_num, z1, K⟩
        case measure => simp [intOf]; omega
    · have ke : k = xs.length := by omega
      have ho := HO.out
      rw [ke, PA.out] at ho
      have pl2 : PX.length ≤ 60 := by rw [← PA.out, ← ke]; exact pl
      obtain ⟨ga, gc, ev, hr⟩ := own_rdL rfl (by unfold maxLen; omega) ho (PR.out _ K.out)
      subst ev
      have HR := hide hr
      have LT : Hid (∀ p, ga = some p → w.heap.size ≤ p.block) := fun p hp => by subst hp; exact (ho.lt p.block rfl).1
      clear ke ho HO PM PL PA PR HL AA hr pl
      go_wp2
      go_ret
      exact ⟨ga, gc, rfl, HR.out, K.out, LT.out⟩

end Go.Proofs.YtlloiccodjnkcagGreatDoor

namespace Go.Proofs.YtlloiccodjnkcagGreatDoor
open Go.ChangeShapes Go.WideShapes Go.ChangeAt Go.RowKit
set_option linter.unusedVariables false

theorem left_any (n : M.Nd) (c : Int) (w : World) : Calls Tryz.prog 63 #[ndV n, .int .i64 c] w fun e w' => e = .returned (.bool (M.lessC n c)) ∧ Below w.heap.size w w' := by
  have C := hide (none_any c)
  by_cases h : c = M.nilI
  · have E : Hid (M.ns n = M.lessC n c) := by unfold Hid M.lessC; rw [if_pos h]
    rw [decide_eq_true h] at C
    unfold ndV
    clear h
    generalize M.lessC n c = o at *
    generalize M.nf n = f at *
    generalize M.nc n = cc at *
    generalize M.nl n = l at *
    generalize M.nr n = r at *
    generalize M.ns n = s at *
    generalize M.nv n = v at *
    go_enter Tryz.func63, Tryz.ntmps63
    go_wp2_with (go_at_call 87; refine (C.out _).mono ?_; rintro e w1 ⟨rfl, rfl⟩)
    go_ret
    exact ⟨ret_bool E.out, (Below.refl _ _).alloc (Nat.le_refl _) _⟩
  · have E : Hid (decide (c < M.nc n) = M.lessC n c) := by unfold Hid M.lessC; rw [if_neg h]
    rw [decide_eq_false h] at C
    unfold ndV
    clear h
    generalize M.lessC n c = o at *
    generalize M.nf n = f at *
    generalize M.nc n = cc at *
    generalize M.nl n = l at *
    generalize M.nr n = r at *
    generalize M.ns n = s at *
    generalize M.nv n = v at *
    go_enter Tryz.func63, Tryz.ntmps63
    go_wp2_with (go_at_call 87; refine (C.out _).mono ?_; rintro e w1 ⟨rfl, rfl⟩)
    go_ret
    exact ⟨ret_bool E.out, (Below.refl _ _).alloc (Nat.le_refl _) _⟩

end Go.Proofs.YtlloiccodjnkcagGreatDoor

namespace Go.Proofs.YtlloiccodjnkcagGreatDoor
open Go.ChangeShapes Go.WideShapes Go.ChangeAt Go.RowKit
set_option linter.unusedVariables false

set_option maxHeartbeats 4000000 in
set_option maxRecDepth 10000 in
theorem rway_new (a0 b0 : Option Addr) (ts : List M.Nd) (xs : List Int) (ca cb : Nat) (w : World) (ht : RdN w a0 ts) (hr : Rd w b0 xs) (h0 : M.readyF ts xs = 0) :
    Calls Tryz.prog 36 #[.slice a0 ts.length ca, .slice b0 xs.length cb] w fun e w' => ∃ ag cg, e = .returned (.tuple #[.int .i64 (M.leafV ts xs : Nat), .slice ag (M.pathV ts xs).length cg]) ∧ Rd w' ag (M.pathV ts xs) ∧ Below w.heap.size w w' ∧ (∀ p, ag = some p → w.heap.size ≤ p.block) := by
  have hm : ts.length ≤ 9223372036854775807 := ht.1
  have hm2 : xs.length ≤ 9223372036854775807 := hr.1
  obtain ⟨F, _⟩ := M.tree_ok (M.ready_ok h0).2
  have EV : Hid (M.leafV ts xs = M.toD ts xs 0) := by unfold Hid M.leafV; rw [if_pos h0]
  have PV : Hid (M.pathV ts xs = (M.way ts xs 0).map Int.ofNat) := by unfold Hid M.pathV; rw [if_pos h0]
  have W0 := hide (M.way_ne F.2.2.2.2.1 xs F.2.1)
  have FN := hide F.2.2.2.2.1
  have l0 := F.2.1
  have l63 := F.1
  have HT := hide ht
  have HX := hide hr
  obtain ⟨i0, hi, hz0, hz1, hz2⟩ := info_parts info3
  have I0 := hide hi
  have O0 : Hid ((w.alloc (.cells #[.int .i64 0] 3)).ownsRow w.heap.size 3 1 (.slice (some ⟨w.heap.size, 0, none⟩) 1 1) 1 ([(0 : Int)].map (Value.int .i64))) := by
    have := World.ownsRow_lit (base := w.heap.size) (e := 3) (size := 1) w #[.int .i64 0] 1 (Nat.le_refl _) (by unfold maxLen; omega) (by simp)
    exact this
  clear F ht hr h0 hi
  generalize M.leafV ts xs = o at *
  generalize M.pathV ts xs = P at *
  go_enter Tryz.func36, Tryz.ntmps36
  go_wp2
  go_loopw [6, 7] (fun i v wr => ∃ (k : Nat) (L : List Int), k < ts.length ∧ L.length ≤ k + 1 ∧ i = .int .i64 k ∧ wr.ownsRow w.heap.size 3 1 v L.length (L.map (Value.int .i64)) ∧ Below w.heap.size w wr ∧ Hid (M.toD ts xs k = M.toD ts xs 0) ∧ Hid (L ++ ((M.way ts xs k).map Int.ofNat).drop 1 = (M.way ts xs 0).map Int.ofNat)) (fun i _ _ => ts.length - (intOf i).toNat)
  case atStart => exact ⟨0, [0], l0, by simp, rfl, O0.out, (Below.refl _ w).alloc (Nat.le_refl _) _, rfl, by
    obtain ⟨l, e⟩ := W0.out
    unfold Hid
    rw [e]; simp⟩
  case round =>
    clear O0
    obtain ⟨k, L, hlt, hL, rfl, hown, hbl, I, J⟩ := hrel
    obtain ⟨va, vc, rfl, RV, _⟩ := own_rd hown
    have HO := hide hown
    have HV := hide RV
    clear hown RV
    obtain ⟨b1, off, rfl, hb1, hc⟩ := HT.out.2 (by intro e; subst e; simp at hlt)
    obtain ⟨s0, s1, s2, s3, s4, s5⟩ := (hc k hlt).below hbl hb1
    have NS : Hid (∀ W, Below wr.heap.size wr W → SixAt W b1 (off + k * 6) (M.nAt ts k)) := fun W hW => (hc k hlt).below (below_on hbl hW) hb1
    by_cases hf : M.nf (M.nAt ts k) = -1
    · have q : (M.nf (M.nAt ts k) != -1) = false := by rw [bne_eq_false_iff_eq]; exact hf
      have E : Hid (k = o) := by unfold Hid; rw [EV.out, ← I.out, M.to_leaf hlt hf]
      have EP : Hid (P = L) := by unfold Hid; rw [PV.out, ← J.out, M.way_leaf hlt hf]; simp
      clear hc hf NS
      generalize M.nf (M.nAt ts k) = f at *
      go_wp2
      go_ret2
      exact ⟨va, vc, by rw [E.out, EP.out]; rfl, by rw [EP.out]; exact HV.out, hbl, fun p hp => by subst hp; exact (HO.out.lt p.block rfl).1⟩
    · have q : (M.nf (M.nAt ts k) != -1) = true := by rw [bne_iff_ne]; exact hf
      have g0 := (M.node_ask (FN.out k hlt) hf).1
      have g1 := (M.node_ask (FN.out k hlt) hf).2.1
      obtain ⟨fi, hfi⟩ : ∃ fi : Nat, M.nf (M.nAt ts k) = fi := ⟨(M.nf (M.nAt ts k)).toNat, by omega⟩
      have hfl : fi < xs.length := by omega
      obtain ⟨bx, ox, rfl, hbx, hcx⟩ := HX.out.2 (by intro e; subst e; simp at hfl)
      have hx := (hbl.cell (p := ⟨bx, ox + fi, none⟩) hbx).trans (hcx fi hfl)
      have CL := hide (left_any (M.nAt ts k) (xs.getD fi 0))
      obtain ⟨j, ej, j1, j2⟩ := M.next_in FN.out xs hlt hf
      have N : Hid (M.toD ts xs j = M.toD ts xs 0) := by unfold Hid; rw [← M.to_next FN.out hlt hf ej]; exact I.out
      have NJ : Hid ((L ++ [(j : Int)]) ++ ((M.way ts xs j).map Int.ofNat).drop 1 = (M.way ts xs 0).map Int.ofNat) := by
        unfold Hid
        rw [← J.out, M.way_next FN.out hlt hf ej]
        obtain ⟨l, e⟩ := M.way_ne FN.out xs j2
        rw [e]; simp
      have NX : Hid ((if M.lessC (M.nAt ts k) (xs.getD fi 0) = true then M.nl (M.nAt ts k) else M.nr (M.nAt ts k)) = (j : Int)) := by
        unfold Hid; rw [← ej]; unfold M.nextI; rw [hfi, Int.toNat_natCast]
      rw [hfi] at s0 q
      unfold ndV at CL
      rw [hfi] at CL
      unfold SixAt at NS
      rw [hfi] at NS
      clear hc hf g0 g1 ej hcx hfi
      generalize M.lessC (M.nAt ts k) (xs.getD fi 0) = bb at *
      generalize xs.getD fi 0 = x at *
      generalize M.nc (M.nAt ts k) = c at *
      generalize M.nl (M.nAt ts k) = l at *
      generalize M.nr (M.nAt ts k) = r at *
      generalize M.ns (M.nAt ts k) = sl at *
      generalize M.nv (M.nAt ts k) = v at *
      go_upto_region 4 with fail
      go_cut [8] from 16 to 28 (fun u wx => u = .bool bb ∧ Hid (Below wr.heap.size wr wx))
      case first =>
        go_region_with (go_at_call 63; refine (CL.out _).mono ?_; rintro e w1 ⟨rfl, hb1⟩)
        all_goals go_wp2
        all_goals go_meet
        all_goals (case rel => exact ⟨rfl, (Below.refl wr.heap.size wr).drew.trans hb1⟩)
      case rest =>
        obtain ⟨rfl, K⟩ := hcut
        obtain ⟨z0, z1, z2, z3, z4, z5⟩ := NS.out wc K.out
        have k4 := below_on hbl K.out
        have kw4 := k4.size
        clear NS CL
        cases bb with
        | true =>
          have e : l = (j : Int) := by have := NX.out; simpa using this
          rw [e] at z2
          clear e NX
          go_wp2_with (at_builtin; refine wpList_append_lies _ rfl (.tmp 40) (.tmp 42) 22 rfl w.heap.size 3 i0 (.int .i64 0) 1 8 Tryz.underlying22 I0.out hz0 hz1 hz2 rfl (by omega) (.slice va L.length vc) L.length (L.map (Value.int .i64)) rfl ((own_up HO.out K.out).alloc _) ⟨wc.heap.size, 0, none⟩ 1 1 [.int .i64 (j : Int)] rfl rfl (World.news_of_block (heap_alloc_new _ _)) (by simp [Value.oneCell']) (by omega) (by unfold maxLen; omega) (by omega) (by simp; omega) (wc.heap.size + 1) (by simp) ?_)
          intro g cap w5 hov5 hgrow hat hlt5
          have hb5 : Below w.heap.size w w5 := (k4.alloc k4.size _).grown hgrow (by simp; omega) (fun k hk => (HO.out.lt k hk).1)
          have HO5 : Hid (w5.ownsRow w.heap.size 3 1 (.slice (some ⟨g, 0, none⟩) (L.length + 1) cap) (L ++ [(j : Int)]).length ((L ++ [(j : Int)]).map (Value.int .i64))) := by
            unfold Hid; rw [List.map_append, List.length_append]; exact hov5
          clear hov5 hgrow hat
          go_wp2
          go_roundw
          case rel => exact ⟨j, L ++ [(j : Int)], j2, by simp; omega, rfl, HO5.out, hb5, N, NJ⟩
          case measure => simp [intOf]; omega
        | false =>
          have e : r = (j : Int) := by have := NX.out; simpa using this
          rw [e] at z3
          clear e NX
          go_wp2_with (at_builtin; refine wpList_append_lies _ rfl (.tmp 40) (.tmp 42) 22 rfl w.heap.size 3 i0 (.int .i64 0) 1 8 Tryz.underlying22 I0.out hz0 hz1 hz2 rfl (by omega) (.slice va L.length vc) L.length (L.map (Value.int .i64)) rfl ((own_up HO.out K.out).alloc _) ⟨wc.heap.size, 0, none⟩ 1 1 [.int .i64 (j : Int)] rfl rfl (World.news_of_block (heap_alloc_new _ _)) (by simp [Value.oneCell']) (by omega) (by unfold maxLen; omega) (by omega) (by simp; omega) (wc.heap.size + 1) (by simp) ?_)
          intro g cap w5 hov5 hgrow hat hlt5
          have hb5 : Below w.heap.size w w5 := (k4.alloc k4.size _).grown hgrow (by simp; omega) (fun k hk => (HO.out.lt k hk).1)
          have HO5 : Hid (w5.ownsRow w.heap.size 3 1 (.slice (some ⟨g, 0, none⟩) (L.length + 1) cap) (L ++ [(j : Int)]).length ((L ++ [(j : Int)]).map (Value.int .i64))) := by
            unfold Hid; rw [List.map_append, List.length_append]; exact hov5
          clear hov5 hgrow hat
          go_wp2
          go_roundw
          case rel => exact ⟨j, L ++ [(j : Int)], j2, by simp; omega, rfl, HO5.out, hb5, N, NJ⟩
          case measure => simp [intOf]; omega
theorem rway_any (a0 b0 : Option Addr) (ts : List M.Nd) (xs : List Int) (ca cb : Nat) (w : World) (ht : RdN w a0 ts) (hr : Rd w b0 xs) (h0 : M.readyF ts xs = 0) :
    Calls Tryz.prog 36 #[.slice a0 ts.length ca, .slice b0 xs.length cb] w fun e w' => ∃ ag cg, e = .returned (.tuple #[.int .i64 (M.leafV ts xs : Nat), .slice ag (M.pathV ts xs).length cg]) ∧ Rd w' ag (M.pathV ts xs) ∧ Below w.heap.size w w' :=
  (rway_new a0 b0 ts xs ca cb w ht hr h0).mono fun e w' ⟨ag, cg, h1, h2, h3, _⟩ => ⟨ag, cg, h1, h2, h3⟩

end Go.Proofs.YtlloiccodjnkcagGreatDoor

namespace Go.Proofs.YtlloiccodjnkcagGreatDoor
open Go.ChangeShapes Go.WideShapes Go.ChangeAt Go.RowKit Go.Lib
set_option linter.unusedVariables false

/-- samples lie apart from a block -/
def Away (o : Option Nat) (a : Option Addr) (xs : List Sx) : Prop := (∀ p, a = some p → o ≠ some p.block) ∧ ∀ x ∈ xs, ∀ p, x.1 = some p → o ≠ some p.block
theorem Rd.grown {w w' : World} {o : Option Nat} {a : Option Addr} {xs : List Int} (h : Rd w a xs) (ha : ∀ p, a = some p → o ≠ some p.block) (hg : w.grownBy w' o) : Rd w' a xs :=
  ⟨h.1, fun hn => by
    obtain ⟨b, off, rfl, hb, hc⟩ := h.2 hn
    exact ⟨b, off, rfl, Nat.lt_of_lt_of_le hb hg.size, fun i hi => hg.cell (hc i hi) (fun e => ha _ rfl e.symm)⟩⟩
theorem RdL.grown {w w' : World} {o : Option Nat} {a : Option Addr} {xs : List Sx} (h : RdL w a xs) (ha : Away o a xs) (hg : w.grownBy w' o) : RdL w' a xs :=
  ⟨h.1, fun x hx => (h.2.1 x hx).grown (ha.2 x hx) hg, fun hn => by
    obtain ⟨b, off, rfl, hb, hc⟩ := h.2.2 hn
    exact ⟨b, off, rfl, Nat.lt_of_lt_of_le hb hg.size, fun i hi => ⟨hg.cell (hc i hi).1 (fun e => ha.1 _ rfl e.symm), hg.cell (hc i hi).2 (fun e => ha.1 _ rfl e.symm)⟩⟩⟩
theorem partX_len (xs : List Sx) (f : Nat) (c : Int) (b : Bool) : ((partX xs f c b).length : Int) = M.nB (sms xs) f c b := by
  unfold M.nB; rw [← partX_sms, sms_len]

theorem away_new {w : World} {a : Option Addr} {xs : List Sx} {m : Nat} (h : RdL w a xs) (A : Ask xs m) (hm : 0 < m) (hp : 0 < xs.length) {g : Nat} (hg : w.heap.size ≤ g) : Away (some g) a xs := by
  refine ⟨fun p hp' => ?_, fun x hx p hp' => ?_⟩
  · obtain ⟨b, off, rfl, hb, _⟩ := h.2.2 (by intro e; rw [e] at hp; simp at hp)
    cases hp'
    intro e
    have e' : g = b := Option.some.inj e
    omega
  · have hl := A.row x hx
    obtain ⟨b, off, e0, hb, _⟩ := (h.2.1 x hx).2 (by intro e; rw [e] at hl; simp at hl; omega)
    rw [e0] at hp'
    cases hp'
    intro e
    have e' : g = b := Option.some.inj e
    omega
theorem away_part {w : World} {o : Option Nat} {a ag : Option Addr} {xs : List Sx} {f : Nat} {c : Int} {b : Bool} (h : Away o a xs) (ho : ∀ q, o = some q → q < w.heap.size) (hf : ∀ p, ag = some p → w.heap.size ≤ p.block) : Away o ag (partX xs f c b) := by
  refine ⟨fun p hp e => ?_, fun x hx p hp => h.2 x (partX_mem hx) p hp⟩
  have h1 := hf p hp
  have h2 := ho p.block e
  omega

end Go.Proofs.YtlloiccodjnkcagGreatDoor

namespace Go.Proofs.YtlloiccodjnkcagGreatDoor.M
set_option linter.unusedVariables false

/-- what is counted of eight features -/
def cU (c : Nat → Nat) (g : Nat → Int) : List Us := (List.range 8).map fun (i : Nat) => ((i : Int), ((c i : Nat) : Int), g i)
/-- .. as it lies: nothing of a feature in no node -/
def bU (c : Nat → Nat) (g : Nat → Int) : List Us := (List.range 8).map fun (i : Nat) => if c i = 0 then ((0 : Int), (0 : Int), (0 : Int)) else ((i : Int), ((c i : Nat) : Int), g i)
theorem bU_len (c : Nat → Nat) (g : Nat → Int) : (bU c g).length = 8 := by simp [bU]
theorem bU_at {c : Nat → Nat} {g : Nat → Int} {i : Nat} (h : i < 8) : (bU c g).getD i (0, 0, 0) = if c i = 0 then ((0 : Int), (0 : Int), (0 : Int)) else ((i : Int), ((c i : Nat) : Int), g i) := by
  unfold bU
  rw [List.getD_eq_getElem?_getD, List.getElem?_map, List.getElem?_range h]
  rfl
theorem bU_zero {c : Nat → Nat} (g : Nat → Int) (h : ∀ i, i < 8 → c i = 0) : bU c g = List.replicate 8 (0, 0, 0) := by
  unfold bU
  rw [show List.replicate 8 ((0 : Int), (0 : Int), (0 : Int)) = (List.range 8).map fun _ => ((0 : Int), (0 : Int), (0 : Int)) from rfl]
  exact List.map_congr_left fun i hi => by rw [if_pos (h i (by simpa using hi))]
theorem bU_same {c c' : Nat → Nat} {g g' : Nat → Int} (hc : ∀ i, i < 8 → c' i = c i) (hg : ∀ i, i < 8 → g' i = g i) : bU c' g' = bU c g := by
  unfold bU
  exact List.map_congr_left fun i hi => by rw [hc i (by simpa using hi), hg i (by simpa using hi)]
theorem bU_add {c c' : Nat → Nat} {g g' : Nat → Int} {f : Nat} {x : Int} (hf : f < 8) (h0 : c f = 0 → g f = 0) (hc : ∀ i, i < 8 → c' i = if i = f then c i + 1 else c i) (hg : ∀ i, i < 8 → g' i = if i = f then g i + x else g i) :
    (bU c g).set f ((f : Int), ((bU c g).getD f (0, 0, 0)).2.1 + 1, ((bU c g).getD f (0, 0, 0)).2.2 + x) = bU c' g' := by
  obtain ⟨u, hu⟩ : ∃ u, u = (bU c g).getD f (0, 0, 0) := ⟨_, rfl⟩
  rw [← hu]
  rw [bU_at hf] at hu
  refine List.ext_getElem (by rw [List.length_set, bU_len, bU_len]) fun i h1 h2 => ?_
  have hi : i < 8 := by rw [bU_len] at h2; exact h2
  have e2 : (bU c' g')[i] = if c' i = 0 then ((0 : Int), (0 : Int), (0 : Int)) else ((i : Int), ((c' i : Nat) : Int), g' i) := by rw [← bU_at hi, List.getD_eq_getElem?_getD, List.getElem?_eq_getElem h2]; rfl
  refine Eq.trans ?_ e2.symm
  rw [List.getElem_set, hc i hi, hg i hi]
  by_cases e : f = i
  · subst e
    rw [if_pos rfl, if_pos rfl, if_pos rfl, if_neg (by omega)]
    by_cases z : c f = 0
    · rw [if_pos z] at hu; rw [hu, h0 z, z]; simp
    · rw [if_neg z] at hu; rw [hu]; simp
  · have q : ¬ i = f := fun q => e q.symm
    simp only [if_neg e, if_neg q]
    have e1 : i < (bU c g).length := by rw [bU_len]; exact hi
    rw [← bU_at hi, List.getD_eq_getElem?_getD, List.getElem?_eq_getElem e1]; rfl
theorem cU_rise (c : Nat → Nat) (g : Nat → Int) : RiseU (cU c g) := by
  unfold RiseU cU
  rw [List.pairwise_map]
  exact (List.pairwise_lt_range).imp fun {a b} h => (show ((a : Nat) : Int) < ((b : Nat) : Int) by omega)
/-- those that are in some node -/
def askU (l : List Us) : List Us := l.filter fun u => decide (0 < u.2.1)
theorem asked_len (l : List Us) : (askU l).length ≤ l.length := List.length_filter_le _ _
theorem ask_more {l : List Us} {k : Nat} (hk : k < l.length) : askU (l.take (k + 1)) = if 0 < (l.getD k (0, 0, 0)).2.1 then askU (l.take k) ++ [l.getD k (0, 0, 0)] else askU (l.take k) := by
  unfold askU
  rw [List.take_succ_eq_append_getElem hk, List.filter_append, usAt l hk]
  by_cases h : 0 < l[k].2.1
  · rw [if_pos h, List.filter_cons_of_pos (by simpa using h)]; rfl
  · rw [if_neg h, List.filter_cons_of_neg (by simpa using h)]; simp
theorem ask_same (c : Nat → Nat) (g : Nat → Int) : askU (bU c g) = askU (cU c g) := by
  unfold askU bU cU
  rw [List.filter_map, List.filter_map]
  have e : ((fun u : Us => decide (0 < u.2.1)) ∘ fun (i : Nat) => if c i = 0 then ((0 : Int), (0 : Int), (0 : Int)) else ((i : Int), ((c i : Nat) : Int), g i)) = ((fun u : Us => decide (0 < u.2.1)) ∘ fun (i : Nat) => ((i : Int), ((c i : Nat) : Int), g i)) := by
    funext i
    show decide (0 < (if c i = 0 then ((0 : Int), (0 : Int), (0 : Int)) else ((i : Int), ((c i : Nat) : Int), g i)).2.1) = decide (0 < ((c i : Nat) : Int))
    by_cases z : c i = 0
    · rw [if_pos z, z]; rfl
    · rw [if_neg z]
  rw [e]
  refine List.map_congr_left fun i hi => ?_
  have hp : 0 < ((c i : Nat) : Int) := by simpa using (List.mem_filter.1 hi).2
  rw [if_neg (by omega)]
theorem ask_mem {c : Nat → Nat} {g : Nat → Int} {x : Us} : x ∈ askU (bU c g) ↔ x ∈ cU c g ∧ x.2.1 ≠ 0 := by
  rw [ask_same]
  unfold askU
  rw [List.mem_filter, decide_eq_true_iff]
  constructor
  · rintro ⟨a, b⟩; exact ⟨a, by omega⟩
  · rintro ⟨a, b⟩
    refine ⟨a, ?_⟩
    unfold cU at a
    obtain ⟨i, _, rfl⟩ := List.mem_map.1 a
    have : ((c i : Nat) : Int) ≠ 0 := b
    show 0 < ((c i : Nat) : Int)
    omega
theorem ask_rise (c : Nat → Nat) (g : Nat → Int) : RiseU (askU (bU c g)) := by
  rw [ask_same]
  exact (cU_rise c g).sublist List.filter_sublist
/-- put in order it is ranked -/
theorem sorted_rank {gb : Bool} {c : Nat → Nat} {g : Nat → Int} {r : List Us} (hp : r.Perm (askU (bU c g))) (hs : ∀ i j (hi : i < j) (hj : j < r.length), ¬ RkU gb r[j] (r[i]'(by omega))) : r = rankU gb (cU c g) := by
  refine rank_only (cU_rise c g) ?_ fun x => hp.mem_iff.trans ask_mem
  have d : r.Pairwise (fun a b => a.1 ≠ b.1) := by
    refine (hp.pairwise_iff (R := fun a b : Us => a.1 ≠ b.1) (fun {a b} h => fun e => h e.symm)).2 ?_
    exact (ask_rise c g).imp fun {a b} h => by omega
  rw [List.pairwise_iff_getElem] at d ⊢
  intro i j hi hj hij
  have h1 := hs i j hij hj
  have h2 := d i j hi hj hij
  unfold RkU at h1 ⊢
  have h3 : ¬ keyU gb r[i] < keyU gb r[j] := fun q => h1 (.inl q)
  by_cases e : keyU gb r[j] = keyU gb r[i]
  · refine .inr ⟨e.symm, ?_⟩
    have h4 : ¬ r[j].1 < r[i].1 := fun q => h1 (.inr ⟨e, q⟩)
    omega
  · exact .inl (by omega)
theorem rank_len (gb : Bool) (c : Nat → Nat) (g : Nat → Int) : (rankU gb (cU c g)).length ≤ 8 := by
  have h : ∀ (l : List Us) k, (rankK gb l k).length ≤ k := fun l k => by
    induction k with
    | zero => exact Nat.le_refl _
    | succ k ih =>
      unfold rankK
      split
      · omega
      · unfold insU
        have := toU_le gb (rankK gb l k) (l.getD k (0, 0, 0)) (rankK gb l k).length
        rw [List.length_append, List.length_append, List.length_take, List.length_drop]
        simp
        omega
  have := h (cU c g) (cU c g).length
  rw [show (cU c g).length = 8 by simp [cU]] at this
  unfold rankU
  rw [show (cU c g).length = 8 by simp [cU]]
  exact this

/-! ### counted node by node -/
theorem cntN_more (f : Int) {t : List Nd} {j : Nat} (h : j < t.length) : cntN f (t.take (j + 1)) = cntN f (t.take j) + if nf (nAt t j) = f then 1 else 0 := by
  rw [List.take_succ_eq_append_getElem h, cntN_app]
  have e : nAt t j = t[j] := by unfold nAt; rw [getD_at h]
  rw [e]
  show _ + ((if nf t[j] = f then 1 else 0) + 0) = _
  omega
theorem cntN_le (f : Int) : ∀ t : List Nd, cntN f t ≤ t.length
  | [] => Nat.le_refl _
  | n :: t => by
    have := cntN_le f t
    show (if nf n = f then 1 else 0) + cntN f t ≤ t.length + 1
    split <;> omega
theorem cntG_app (f : Int) : ∀ (a : List (List Nd)) (t : List Nd), cntG f (a ++ [t]) = cntG f a + cntN f t
  | [], t => by show cntN f t + 0 = 0 + cntN f t; omega
  | s :: a, t => by
    show cntN f s + cntG f (a ++ [t]) = cntN f s + cntG f a + cntN f t
    rw [cntG_app f a t]; omega
theorem cntGr_le (f : Int) {b : Nat} : ∀ l : List (List Nd), (∀ t ∈ l, t.length ≤ b) → cntG f l ≤ b * l.length
  | [], _ => Nat.zero_le _
  | t :: l, h => by
    have h1 := cntGr_le f l fun s hs => h s (List.mem_cons_of_mem _ hs)
    have h2 := cntN_le f t
    have h3 := h t (List.mem_cons_self ..)
    show cntN f t + cntG f l ≤ b * (l.length + 1)
    rw [Nat.mul_add]
    omega
/-- of k trees, and j nodes of the next -/
def cK (l : List (List Nd)) (k j : Nat) (i : Nat) : Nat := cntG (i : Int) (l.take k) + cntN (i : Int) ((l.getD k []).take j)
theorem cK_none (l : List (List Nd)) (i : Nat) : cK l 0 0 i = 0 := by unfold cK; simp [cntG, cntN]
theorem cK_node {l : List (List Nd)} {k j : Nat} (h : j < (l.getD k []).length) (i : Nat) : cK l k (j + 1) i = cK l k j i + if nf (nAt (l.getD k []) j) = (i : Int) then 1 else 0 := by
  unfold cK; rw [cntN_more _ h]; omega
theorem cK_tree {l : List (List Nd)} {k : Nat} (h : k < l.length) (i : Nat) : cK l k (l.getD k []).length i = cK l (k + 1) 0 i := by
  unfold cK
  rw [List.take_length, List.take_succ_eq_append_getElem h, cntG_app]
  have e : l.getD k [] = l[k] := by simp [List.getD, h]
  rw [e]
  simp [cntN]
theorem cK_all (l : List (List Nd)) (i : Nat) : cK l l.length 0 i = cntG (i : Int) l := by
  unfold cK; rw [List.take_length]; simp [cntN]
theorem cK_le {l : List (List Nd)} (h : ∀ t ∈ l, t.length ≤ 63) (hl : l.length ≤ 12) (k j i : Nat) : cK l k j i ≤ 1000 := by
  unfold cK
  have h1 := cntGr_le (i : Int) (b := 63) (l.take k) fun t ht => h t (List.mem_of_mem_take ht)
  have h2 := cntN_le (i : Int) ((l.getD k []).take j)
  have h3 : (l.take k).length ≤ 12 := Nat.le_trans (by rw [List.length_take]; exact Nat.min_le_right ..) hl
  have h4 : ((l.getD k []).take j).length ≤ 63 := by
    refine Nat.le_trans (by rw [List.length_take]; exact Nat.min_le_right ..) ?_
    by_cases q : k < l.length
    · have e : l.getD k [] = l[k] := by simp [List.getD, q]
      rw [e]; exact h _ (List.getElem_mem q)
    · have e : l.getD k [] = [] := by simp [List.getD, List.getElem?_eq_none (Nat.le_of_not_lt q)]
      rw [e]; simp
  have h5 : 63 * (l.take k).length ≤ 63 * 12 := Nat.mul_le_mul_left _ h3
  omega

end Go.Proofs.YtlloiccodjnkcagGreatDoor.M

namespace Go.Proofs.YtlloiccodjnkcagGreatDoor
open Go.ChangeShapes Go.WideShapes Go.ChangeAt Go.RowKit Go.Lib
set_option linter.unusedVariables false

/-- an array of eight uses of our own -/
def ArrU (w : World) (B g : Nat) (F : List M.Us) : Prop := F.length = 8 ∧ w.ownsRow B 62 1 (.slice (some ⟨g, 0, none⟩) 24 24) 24 (usCells F)
theorem ArrU.cells {w : World} {B g : Nat} {F : List M.Us} (h : ArrU w B g F) {i : Nat} (hi : i < 8) : w.cell? ⟨g, i * 3, none⟩ = some (.int .i64 (M.uAt F i).1) ∧ w.cell? ⟨g, i * 3 + 1, none⟩ = some (.int .i64 (M.uAt F i).2.1) ∧ w.cell? ⟨g, i * 3 + 2, none⟩ = some (.int .i64 (M.uAt F i).2.2) := by
  have hl := h.1
  obtain ⟨q0, q1, q2⟩ := usCells_at F i (by omega)
  exact ⟨(h.2.cellAt (i * 3) (by omega)).trans q0, (h.2.cellAt (i * 3 + 1) (by omega)).trans q1, (h.2.cellAt (i * 3 + 2) (by omega)).trans q2⟩
theorem ArrU.frozen {w : World} {B g : Nat} {F : List M.Us} (h : ArrU w B g F) (i : Nat) : w.frozen? ⟨g, i, none⟩ = false := h.2.frozenAt i
theorem usCells_setF : ∀ (ts : List M.Us) (i : Nat), i < ts.length → ∀ n : Int, (usCells ts).set (i * 3) (.int .i64 n) = usCells (ts.set i (n, (M.uAt ts i).2.1, (M.uAt ts i).2.2))
  | [], i, h, n => by simp at h
  | s :: t, 0, h, n => rfl
  | s :: t, i + 1, h, n => by
    have ih := usCells_setF t i (by simpa using h) n
    have e : M.uAt (s :: t) (i + 1) = M.uAt t i := by simp [M.uAt]
    rw [e, List.set_cons_succ, usCells_cons, usCells_cons, ← ih, show (i + 1) * 3 = (i * 3) + 1 + 1 + 1 by omega]
    simp only [List.set_cons_succ]
theorem ArrU.setF {w : World} {B g : Nat} {F : List M.Us} (h : ArrU w B g F) {i : Nat} (hi : i < 8) (n : Int) : ArrU (w.setCell ⟨g, i * 3, none⟩ (.int .i64 n)) B g (F.set i (n, (M.uAt F i).2.1, (M.uAt F i).2.2)) := by
  have hl := h.1
  refine ⟨by rw [List.length_set]; exact h.1, ?_⟩
  rw [← usCells_setF F i (by omega)]
  exact (h.2.stored (i * 3) _).1
theorem ArrU.setN {w : World} {B g : Nat} {F : List M.Us} (h : ArrU w B g F) {i : Nat} (hi : i < 8) (n : Int) : ArrU (w.setCell ⟨g, i * 3 + 1, none⟩ (.int .i64 n)) B g (F.set i ((M.uAt F i).1, n, (M.uAt F i).2.2)) := by
  have hl := h.1
  refine ⟨by rw [List.length_set]; exact h.1, ?_⟩
  rw [← usCells_setN F i (by omega)]
  exact (h.2.stored (i * 3 + 1) _).1
theorem ArrU.setG {w : World} {B g : Nat} {F : List M.Us} (h : ArrU w B g F) {i : Nat} (hi : i < 8) (n : Int) : ArrU (w.setCell ⟨g, i * 3 + 2, none⟩ (.int .i64 n)) B g (F.set i ((M.uAt F i).1, (M.uAt F i).2.1, n)) := by
  have hl := h.1
  refine ⟨by rw [List.length_set]; exact h.1, ?_⟩
  rw [← usCells_setG F i (by omega)]
  exact (h.2.stored (i * 3 + 2) _).1
theorem ArrU.up {w w' : World} {B g : Nat} {F : List M.Us} (h : ArrU w B g F) (hb : Below w.heap.size w w') : ArrU w' B g F := ⟨h.1, own_up h.2 hb⟩
theorem ArrU.lt {w : World} {B g : Nat} {F : List M.Us} (h : ArrU w B g F) : B ≤ g ∧ g < w.heap.size := h.2.lt g rfl
theorem ArrU.block {w : World} {B g : Nat} {F : List M.Us} (h : ArrU w B g F) : w.heap[g]? = some (.cells (usCells F).toArray 62 (0, 0)) := by
  have hl := h.1
  rcases h.2.2 with ⟨h0, _⟩ | ⟨g', cap, cur, e, h1, h2, h3, h4, h5, h6⟩
  · cases h0
  · cases e
    rw [h2]
    have : cur = (usCells F).toArray := by
      apply Array.toList_inj.1
      rw [← h6, List.take_of_length_le (by simp [h5])]
    rw [this]
theorem ArrU.new (w : World) (B : Nat) (hB : B ≤ w.heap.size) : ArrU (w.alloc (.cells (usCells (List.replicate 8 (0, 0, 0))).toArray 62)) B w.heap.size (List.replicate 8 (0, 0, 0)) :=
  ⟨rfl, World.ownsRow_lit (base := B) (e := 62) (size := 1) w (usCells (List.replicate 8 (0, 0, 0))).toArray 24 hB (by unfold maxLen; omega) rfl⟩
theorem infoCnt : (Tryz.prog.info? 62).map (·.size) = some 24 := by kernel_rfl
theorem M.uAt_set (F : List M.Us) {i : Nat} (hi : i < F.length) (u : M.Us) : M.uAt (F.set i u) i = u := by unfold M.uAt; simp [List.getD, hi]
theorem M.set_set (F : List M.Us) (i : Nat) (u v : M.Us) : (F.set i u).set i v = F.set i v := by simp

theorem wrap_in8 (x : Int) (h1 : -9223372036854775808 ≤ x) (h2 : x ≤ 9223372036854775807) : IntKind.i64.wrap x = x := by
  simp [IntKind.wrap, IntKind.bits, IntKind.signed]; omega

set_option maxHeartbeats 4000000 in
set_option maxRecDepth 10000 in
theorem wadd_any (B g f : Nat) (F : List M.Us) (x : Int) (w : World) (h : ArrU w B g F) (hf : f < 8) (n0 : 0 ≤ (M.uAt F f).2.1) (n1 : (M.uAt F f).2.1 ≤ 1000000) (g0 : 0 ≤ (M.uAt F f).2.2) (g1 : (M.uAt F f).2.2 ≤ 1000000000000) (x0 : 0 ≤ x) (x1 : x ≤ 1000000000000) :
    Calls Tryz.prog 25 #[.pointer (some ⟨g, 0, none⟩), .int .i64 f, .int .i64 x] w fun e w' => e = .returned (.tuple #[]) ∧ ArrU w' B g (F.set f ((f : Int), (M.uAt F f).2.1 + 1, (M.uAt F f).2.2 + x)) ∧ w.grownBy w' (some g) := by
  have hl : f < F.length := by have := h.1; omega
  have fz : (f : Int) < 8 := by omega
  have f0 : (0 : Int) ≤ (f : Int) := by omega
  obtain ⟨c0, c1, c2⟩ := h.cells hf
  have z0 := h.frozen (f * 3)
  obtain ⟨u, hu⟩ : ∃ u, u = M.uAt F f := ⟨_, rfl⟩
  rw [← hu] at c0 c1 c2 n0 n1 g0 g1 ⊢
  have A1 := h.setF hf (f : Int)
  rw [← hu] at A1
  have HU := hide hu
  have HL := hide hl
  obtain ⟨w1, hw1⟩ : ∃ W, W = w.setCell ⟨g, f * 3, none⟩ (.int .i64 (f : Int)) := ⟨_, rfl⟩
  rw [← hw1] at A1
  have G1 : Hid (w.grownBy w1 (some g)) := by rw [hw1]; exact grown_set
  obtain ⟨e0, e1, e2⟩ := A1.cells hf
  rw [M.uAt_set F hl] at e1 e2
  have d1 : w1.cell? ⟨g, f * 3 + 1, none⟩ = some (.int .i64 u.2.1) := e1
  have d2 : w1.cell? ⟨g, f * 3 + 2, none⟩ = some (.int .i64 u.2.2) := e2
  have z1 := A1.frozen (f * 3 + 1)
  have A2 : Hid (∀ n : Int, ArrU (w1.setCell ⟨g, f * 3 + 1, none⟩ (.int .i64 n)) B g (F.set f ((f : Int), n, u.2.2))) := fun n => by
    have := A1.setN hf n
    rw [M.uAt_set F hl, M.set_set] at this
    exact this
  have wp1 : IntKind.i64.wrap (u.2.1 + 1) = u.2.1 + 1 := wrap_in8 _ (by omega) (by omega)
  clear h hu A1 e0 e1 e2 c2
  go_enter Tryz.func25, Tryz.ntmps25
  go_upto_region 1 with fail
  rw [← hw1]
  clear hw1 c0 c1 z0
  go_region
  go_upto_region 2 with fail
  obtain ⟨w2, hw2⟩ : ∃ W, W = (w1.setCell ⟨g, f * 3 + 1, none⟩ (.int .i64 (u.2.1 + 1))).drew := ⟨_, rfl⟩
  rw [← hw2]
  have B2 : Hid (ArrU w2 B g (F.set f ((f : Int), u.2.1 + 1, u.2.2))) := by rw [hw2]; exact (A2.out _).up (Below.refl _ _).drew
  have G2 : Hid (w.grownBy w2 (some g)) := by rw [hw2]; exact grown_drew (grown_trans G1.out grown_set (.inl rfl))
  obtain ⟨e0, e1, e2⟩ := B2.out.cells hf
  rw [M.uAt_set F HL.out] at e2
  have y2 : w2.cell? ⟨g, f * 3 + 2, none⟩ = some (.int .i64 u.2.2) := e2
  have z2 := B2.out.frozen (f * 3 + 2)
  have wp2 : IntKind.i64.wrap (u.2.2 + x) = u.2.2 + x := wrap_in8 _ (by omega) (by omega)
  have A3 : Hid (ArrU (w2.setCell ⟨g, f * 3 + 2, none⟩ (.int .i64 (u.2.2 + x))) B g (F.set f ((f : Int), u.2.1 + 1, u.2.2 + x))) := by
    have := B2.out.setG hf (u.2.2 + x)
    rw [M.uAt_set F HL.out, M.set_set] at this
    exact this
  clear hw2 d1 d2 z1 e0 e1 e2 wp1
  go_region
  go_wp2
  go_end0
  exact ⟨rfl, A3.out.up (Below.refl _ _).drew, grown_drew (grown_trans G2.out grown_set (.inl rfl))⟩

end Go.Proofs.YtlloiccodjnkcagGreatDoor

namespace Go.Proofs.YtlloiccodjnkcagGreatDoor
open Go.ChangeShapes Go.WideShapes Go.ChangeAt Go.RowKit Go.Lib
set_option linter.unusedVariables false

theorem isleaf_any (n : M.Nd) (w : World) : Calls Tryz.prog 92 #[ndV n] w fun e w' => e = .returned (.bool (M.leafB n)) ∧ Below w.heap.size w w' := by
  have E : Hid ((M.nf n == -1) = M.leafB n) := by
    unfold Hid M.leafB
    by_cases h : M.nf n = -1
    · rw [decide_eq_true h, beq_iff_eq]; exact h
    · rw [decide_eq_false h, beq_eq_false_iff_ne]; exact h
  unfold ndV
  generalize M.leafB n = o at *
  generalize M.nf n = f at *
  generalize M.nc n = c at *
  generalize M.nl n = l at *
  generalize M.nr n = r at *
  generalize M.ns n = s at *
  generalize M.nv n = v at *
  go_enter Tryz.func92, Tryz.ntmps92
  go_wp2
  go_ret
  exact ⟨ret_bool E.out, (Below.refl _ _).alloc (Nat.le_refl _) _⟩

theorem iscell_any (x : Int) (w : World) : Calls Tryz.prog 134 #[.int .i64 x] w fun e w' => e = .returned (.bool (!M.outI x)) ∧ w' = w := by
  by_cases h1 : -1000000 ≤ x
  · have E : Hid (decide (x ≤ 1000000) = !M.outI x) := by
      unfold Hid M.outI
      rw [show decide (x < -1000000) = false from decide_eq_false (by omega), Bool.false_or]
      by_cases h2 : x ≤ 1000000
      · simp [h2]
      · simp [h2]; omega
    have h1' : decide (-1000000 ≤ x) = true := decide_eq_true h1
    clear h1
    go_enter Tryz.func134, Tryz.ntmps134
    go_wp2
    go_ret
    exact ⟨ret_bool E.out, rfl⟩
  · have E : Hid (false = !M.outI x) := by
      unfold Hid M.outI
      rw [show decide (x < -1000000) = true from decide_eq_true (by omega)]; rfl
    have h1' : decide (-1000000 ≤ x) = false := decide_eq_false h1
    clear h1
    go_enter Tryz.func134, Tryz.ntmps134
    go_wp2
    go_ret
    exact ⟨ret_bool E.out, rfl⟩

theorem ret_err {c d : Int} (h : c = d) : Ending.returned (errV c) = .returned (errV d) := by rw [h]

theorem checkleaf_any (n : M.Nd) (w : World) : Calls Tryz.prog 101 #[ndV n] w fun e w' => e = .returned (errV (M.lfF n)) ∧ Below w.heap.size w w' := by
  have C := hide (iscell_any (M.nv n))
  have D : Hid (M.lfF n = if M.outI (M.nv n) = true then 1 else if M.nc n ≠ 0 ∨ M.nl n ≠ 0 ∨ M.nr n ≠ 0 ∨ M.ns n = true then 3 else 0) := rfl
  unfold ndV
  generalize M.lfF n = o at *
  generalize M.outI (M.nv n) = z at *
  generalize M.nf n = f at *
  generalize M.nc n = c at *
  generalize M.nl n = l at *
  generalize M.nr n = r at *
  generalize M.ns n = s at *
  generalize M.nv n = v at *
  cases z with
  | true =>
    have E : Hid (o = 1) := D.out.trans (by simp)
    clear D
    go_enter Tryz.func101, Tryz.ntmps101
    go_wp2_with (go_at_call 134; refine (C.out _).mono ?_; rintro e w1 ⟨rfl, rfl⟩)
    go_ret
    exact ⟨by rw [E.out]; rfl, (Below.refl _ _).alloc (Nat.le_refl _) _⟩
  | false =>
    by_cases hc : c = 0
    · have qc : (c != 0) = false := by rw [bne_eq_false_iff_eq]; exact hc
      by_cases hl : l = 0
      · have ql : (l != 0) = false := by rw [bne_eq_false_iff_eq]; exact hl
        by_cases hr : r = 0
        · have qr : (r != 0) = false := by rw [bne_eq_false_iff_eq]; exact hr
          cases s with
          | true =>
            have E : Hid (o = 3) := D.out.trans (by simp [hc, hl, hr])
            clear D hc hl hr
            go_enter Tryz.func101, Tryz.ntmps101
            go_wp2_with (go_at_call 134; refine (C.out _).mono ?_; rintro e w1 ⟨rfl, rfl⟩)
            go_ret
            exact ⟨by rw [E.out]; rfl, (Below.refl _ _).alloc (Nat.le_refl _) _⟩
          | false =>
            have E : Hid (o = 0) := D.out.trans (by simp [hc, hl, hr])
            clear D hc hl hr
            go_enter Tryz.func101, Tryz.ntmps101
            go_wp2_with (go_at_call 134; refine (C.out _).mono ?_; rintro e w1 ⟨rfl, rfl⟩)
            go_ret
            exact ⟨by rw [E.out]; rfl, (Below.refl _ _).alloc (Nat.le_refl _) _⟩
        · have qr : (r != 0) = true := by rw [bne_iff_ne]; exact hr
          have E : Hid (o = 3) := D.out.trans (by simp [hc, hl, hr])
          clear D hc hl hr
          go_enter Tryz.func101, Tryz.ntmps101
          go_wp2_with (go_at_call 134; refine (C.out _).mono ?_; rintro e w1 ⟨rfl, rfl⟩)
          go_ret
          exact ⟨by rw [E.out]; rfl, (Below.refl _ _).alloc (Nat.le_refl _) _⟩
      · have ql : (l != 0) = true := by rw [bne_iff_ne]; exact hl
        have E : Hid (o = 3) := D.out.trans (by simp [hc, hl])
        clear D hc hl
        go_enter Tryz.func101, Tryz.ntmps101
        go_wp2_with (go_at_call 134; refine (C.out _).mono ?_; rintro e w1 ⟨rfl, rfl⟩)
        go_ret
        exact ⟨by rw [E.out]; rfl, (Below.refl _ _).alloc (Nat.le_refl _) _⟩
    · have qc : (c != 0) = true := by rw [bne_iff_ne]; exact hc
      have E : Hid (o = 3) := D.out.trans (by simp [hc])
      clear D hc
      go_enter Tryz.func101, Tryz.ntmps101
      go_wp2_with (go_at_call 134; refine (C.out _).mono ?_; rintro e w1 ⟨rfl, rfl⟩)
      go_ret
      exact ⟨by rw [E.out]; rfl, (Below.refl _ _).alloc (Nat.le_refl _) _⟩

theorem behind_any (bp bl : Nat) (p q x : Int) (w : World) (hp : w.cell? ⟨bp, 0, none⟩ = some (.int .i64 p)) (hq : w.cell? ⟨bl, 0, none⟩ = some (.int .i64 q)) :
    Calls Tryz.prog 135 (#[.int .i64 x] ++ #[.pointer (some ⟨bp, 0, none⟩), .pointer (some ⟨bl, 0, none⟩)]) w fun e w' => e = .returned (.bool (decide (p < x) && decide (x ≤ q))) ∧ w' = w := by
  by_cases h : p < x
  · have E : Hid (decide (x ≤ q) = (decide (p < x) && decide (x ≤ q))) := by unfold Hid; simp [h]
    have h1 : decide (p < x) = true := decide_eq_true h
    clear h
    generalize (decide (p < x) && decide (x ≤ q)) = o at *
    go_enter Tryz.func135, Tryz.ntmps135
    go_wp2
    go_ret
    exact ⟨ret_bool E.out, rfl⟩
  · have E : Hid (false = (decide (p < x) && decide (x ≤ q))) := by unfold Hid; simp [h]
    have h1 : decide (p < x) = false := decide_eq_false h
    clear h
    generalize (decide (p < x) && decide (x ≤ q)) = o at *
    go_enter Tryz.func135, Tryz.ntmps135
    go_wp2
    go_ret
    exact ⟨ret_bool E.out, rfl⟩

theorem behind_is {p q x : Int} {i len : Nat} (hp : p = i) (hq : q = (len : Int) - 1) : (decide (p < x) && decide (x ≤ q)) = M.inB x i len := by
  subst hp; subst hq
  unfold M.inB
  congr 1
  exact decide_eq_decide.2 ⟨fun h => by omega, fun h => by omega⟩

set_option maxHeartbeats 8000000 in
theorem checkask_any (n : M.Nd) (i len : Nat) (p q m : Int) (w : World) (hp : p = i) (hq : q = (len : Int) - 1) :
    Calls Tryz.prog 102 #[ndV n, .int .i64 p, .int .i64 q, .int .i64 m] w fun e w' => e = .returned (errV (M.asF n i len m)) ∧ Below w.heap.size w w' := by
  have C := hide (iscell_any (M.nc n))
  have CB : Hid (∀ x bp bl W, W.cell? ⟨bp, 0, none⟩ = some (.int .i64 p) → W.cell? ⟨bl, 0, none⟩ = some (.int .i64 q) → Calls Tryz.prog 135 (#[.int .i64 x] ++ #[.pointer (some ⟨bp, 0, none⟩), .pointer (some ⟨bl, 0, none⟩)]) W fun e w' => e = .returned (.bool (M.inB x i len)) ∧ w' = W) :=
    fun x bp bl W h1 h2 => by rw [← behind_is hp hq]; exact behind_any bp bl p q _ W h1 h2
  have QP : Hid (∀ o : Obj, (((w.alloc o).alloc (.cells #[.int .i64 p] 3)).alloc (.cells #[.int .i64 q] 3)).cell? ⟨w.heap.size + 1, 0, none⟩ = some (.int .i64 p)) := fun o => by
    rw [World.cell?_alloc_past _ _ _ (by simp), World.cell?_alloc_at _ _ _ _ (by simp)]; rfl
  have QQ : Hid (∀ o : Obj, (((w.alloc o).alloc (.cells #[.int .i64 p] 3)).alloc (.cells #[.int .i64 q] 3)).cell? ⟨w.heap.size + 1 + 1, 0, none⟩ = some (.int .i64 q)) := fun o => by
    rw [World.cell?_alloc_at _ _ _ _ (by simp)]; rfl
  have D : Hid (M.asF n i len m = if M.nf n < 0 ∨ m ≤ M.nf n ∨ M.outI (M.nc n) = true ∨ M.inB (M.nl n) i len = false ∨ M.inB (M.nr n) i len = false then 1 else if M.nv n ≠ 0 ∨ M.nl n = M.nr n then 3 else 0) := rfl
  clear hp hq
  unfold ndV
  generalize M.asF n i len m = o at *
  generalize M.outI (M.nc n) = zc at *
  generalize M.nf n = f at *
  generalize M.nc n = c at *
  generalize M.nl n = l at *
  generalize M.nr n = r at *
  generalize M.ns n = s at *
  generalize M.nv n = v at *
  by_cases h1 : f < 0
  · have q1 : decide (f < 0) = true := decide_eq_true h1
    have E : Hid (o = 1) := D.out.trans (by simp [h1])
    clear D h1
    go_enter Tryz.func102, Tryz.ntmps102
    go_wp2_with (first
      | (go_at_call 134; refine (C.out _).mono ?_; rintro e w1 ⟨rfl, rfl⟩)
      | (go_at_call 135; refine (CB.out _ _ _ _ (QP.out _) (QQ.out _)).mono ?_; rintro e w1 ⟨rfl, rfl⟩))
    go_ret
    exact ⟨by rw [E.out]; rfl, (((Below.refl _ w).alloc (Nat.le_refl _) _).alloc (by simp) _).alloc (by simp; omega) _⟩
  · have q1 : decide (f < 0) = false := decide_eq_false h1
    by_cases h2 : m ≤ f
    · have q2 : decide (m ≤ f) = true := decide_eq_true h2
      have E : Hid (o = 1) := D.out.trans (by simp [h1, h2])
      clear D h1 h2
      go_enter Tryz.func102, Tryz.ntmps102
      go_wp2_with (first
        | (go_at_call 134; refine (C.out _).mono ?_; rintro e w1 ⟨rfl, rfl⟩)
        | (go_at_call 135; refine (CB.out _ _ _ _ (QP.out _) (QQ.out _)).mono ?_; rintro e w1 ⟨rfl, rfl⟩))
      go_ret
      exact ⟨by rw [E.out]; rfl, (((Below.refl _ w).alloc (Nat.le_refl _) _).alloc (by simp) _).alloc (by simp; omega) _⟩
    · have q2 : decide (m ≤ f) = false := decide_eq_false h2
      cases zc with
      | true =>
        have E : Hid (o = 1) := D.out.trans (by simp [h1, h2])
        clear D h1 h2
        go_enter Tryz.func102, Tryz.ntmps102
        go_wp2_with (first
          | (go_at_call 134; refine (C.out _).mono ?_; rintro e w1 ⟨rfl, rfl⟩)
          | (go_at_call 135; refine (CB.out _ _ _ _ (QP.out _) (QQ.out _)).mono ?_; rintro e w1 ⟨rfl, rfl⟩))
        go_ret
        exact ⟨by rw [E.out]; rfl, (((Below.refl _ w).alloc (Nat.le_refl _) _).alloc (by simp) _).alloc (by simp; omega) _⟩
      | false =>
        cases zl : M.inB l i len with
        | false =>
          have E : Hid (o = 1) := D.out.trans (by simp [h1, h2, zl])
          clear D h1 h2
          go_enter Tryz.func102, Tryz.ntmps102
          go_wp2_with (first
            | (go_at_call 134; refine (C.out _).mono ?_; rintro e w1 ⟨rfl, rfl⟩)
            | (go_at_call 135; refine (CB.out _ _ _ _ (QP.out _) (QQ.out _)).mono ?_; rintro e w1 ⟨rfl, rfl⟩))
          go_ret
          exact ⟨by rw [E.out]; rfl, (((Below.refl _ w).alloc (Nat.le_refl _) _).alloc (by simp) _).alloc (by simp; omega) _⟩
        | true =>
          cases zr : M.inB r i len with
          | false =>
            have E : Hid (o = 1) := D.out.trans (by simp [h1, h2, zl, zr])
            clear D h1 h2
            go_enter Tryz.func102, Tryz.ntmps102
            go_wp2_with (first
              | (go_at_call 134; refine (C.out _).mono ?_; rintro e w1 ⟨rfl, rfl⟩)
              | (go_at_call 135; refine (CB.out _ _ _ _ (QP.out _) (QQ.out _)).mono ?_; rintro e w1 ⟨rfl, rfl⟩))
            go_ret
            exact ⟨by rw [E.out]; rfl, (((Below.refl _ w).alloc (Nat.le_refl _) _).alloc (by simp) _).alloc (by simp; omega) _⟩
          | true =>
            by_cases h3 : v = 0
            · have q3 : (v != 0) = false := by rw [bne_eq_false_iff_eq]; exact h3
              by_cases h4 : l = r
              · have q4 : (l == r) = true := by rw [beq_iff_eq]; exact h4
                have E : Hid (o = 3) := D.out.trans (by simp [h1, h2, h3, h4, zr])
                clear D h1 h2 h3 h4
                go_enter Tryz.func102, Tryz.ntmps102
                go_wp2_with (first
                  | (go_at_call 134; refine (C.out _).mono ?_; rintro e w1 ⟨rfl, rfl⟩)
                  | (go_at_call 135; refine (CB.out _ _ _ _ (QP.out _) (QQ.out _)).mono ?_; rintro e w1 ⟨rfl, rfl⟩))
                go_ret
                exact ⟨by rw [E.out]; rfl, (((Below.refl _ w).alloc (Nat.le_refl _) _).alloc (by simp) _).alloc (by simp; omega) _⟩
              · have q4 : (l == r) = false := by rw [beq_eq_false_iff_ne]; exact h4
                have E : Hid (o = 0) := D.out.trans (by simp [h1, h2, h3, h4, zl, zr])
                clear D h1 h2 h3 h4
                go_enter Tryz.func102, Tryz.ntmps102
                go_wp2_with (first
                  | (go_at_call 134; refine (C.out _).mono ?_; rintro e w1 ⟨rfl, rfl⟩)
                  | (go_at_call 135; refine (CB.out _ _ _ _ (QP.out _) (QQ.out _)).mono ?_; rintro e w1 ⟨rfl, rfl⟩))
                go_ret
                exact ⟨by rw [E.out]; rfl, (((Below.refl _ w).alloc (Nat.le_refl _) _).alloc (by simp) _).alloc (by simp; omega) _⟩
            · have q3 : (v != 0) = true := by rw [bne_iff_ne]; exact h3
              have E : Hid (o = 3) := D.out.trans (by simp [h1, h2, h3, zl, zr])
              clear D h1 h2 h3
              go_enter Tryz.func102, Tryz.ntmps102
              go_wp2_with (first
                | (go_at_call 134; refine (C.out _).mono ?_; rintro e w1 ⟨rfl, rfl⟩)
                | (go_at_call 135; refine (CB.out _ _ _ _ (QP.out _) (QQ.out _)).mono ?_; rintro e w1 ⟨rfl, rfl⟩))
              go_ret
              exact ⟨by rw [E.out]; rfl, (((Below.refl _ w).alloc (Nat.le_refl _) _).alloc (by simp) _).alloc (by simp; omega) _⟩

theorem checknode_any (n : M.Nd) (i len : Nat) (p q m : Int) (w : World) (hp : p = i) (hq : q = (len : Int) - 1) :
    Calls Tryz.prog 77 #[ndV n, .int .i64 p, .int .i64 q, .int .i64 m] w fun e w' => e = .returned (errV (M.nodeF n i len m)) ∧ Below w.heap.size w w' := by
  have C1 := hide (isleaf_any n)
  have C2 := hide (checkleaf_any n)
  have C3 := hide (fun W => checkask_any n i len p q m W hp hq)
  clear hp hq
  by_cases h : M.nf n = -1
  · have E : Hid (M.lfF n = M.nodeF n i len m) := by unfold Hid M.nodeF; rw [if_pos h]
    have hl : M.leafB n = true := by unfold M.leafB; exact decide_eq_true h
    rw [hl] at C1
    clear h hl C3
    unfold ndV at *
    generalize M.nodeF n i len m = o at *
    generalize M.lfF n = u at *
    generalize M.nf n = f at *
    generalize M.nc n = c at *
    generalize M.nl n = l at *
    generalize M.nr n = r at *
    generalize M.ns n = s at *
    generalize M.nv n = v at *
    go_enter Tryz.func77, Tryz.ntmps77
    go_wp2_with (first
      | (go_at_call 92; refine (C1.out _).mono ?_; rintro e w1 ⟨rfl, hb1⟩; have hcell : ∀ k, w1.cell? ⟨w.heap.size, k, none⟩ = _ := fun k => hb1.cell (p := ⟨w.heap.size, k, none⟩) (by simp))
      | (go_at_call 101; refine (C2.out _).mono ?_; rintro e w2 ⟨rfl, hb2⟩))
    go_ret
    exact ⟨ret_err E.out, below_on (below_on ((Below.refl _ w).alloc (Nat.le_refl _) _) hb1) hb2⟩
  · have E : Hid (M.asF n i len m = M.nodeF n i len m) := by unfold Hid M.nodeF; rw [if_neg h]
    have hl : M.leafB n = false := by unfold M.leafB; exact decide_eq_false h
    rw [hl] at C1
    clear h hl C2
    unfold ndV at *
    generalize M.nodeF n i len m = o at *
    generalize M.asF n i len m = u at *
    generalize M.nf n = f at *
    generalize M.nc n = c at *
    generalize M.nl n = l at *
    generalize M.nr n = r at *
    generalize M.ns n = s at *
    generalize M.nv n = v at *
    go_enter Tryz.func77, Tryz.ntmps77
    go_wp2_with (first
      | (go_at_call 92; refine (C1.out _).mono ?_; rintro e w1 ⟨rfl, hb1⟩; have hcell : ∀ k, w1.cell? ⟨w.heap.size, k, none⟩ = _ := fun k => hb1.cell (p := ⟨w.heap.size, k, none⟩) (by simp))
      | (go_at_call 102; refine (C3.out _).mono ?_; rintro e w2 ⟨rfl, hb2⟩))
    go_ret
    exact ⟨ret_err E.out, below_on (below_on ((Below.refl _ w).alloc (Nat.le_refl _) _) hb1) hb2⟩

end Go.Proofs.YtlloiccodjnkcagGreatDoor
