/-
  What the reference's sum and part answer of samples that are right.
-/
import Derived.Test.YthbeoaninipadafGreatDoorSaPart
import Derived.Test.YthbeoaninipadafGreatDoorSaCells
import Derived.Deep.AppendLies
import Derived.OwnWalk
namespace Go.Proofs.YthbeoaninipadafGreatDoor
open Go.ChangeShapes Go.WideShapes Go.ChangeAt Go.RowKit Go.Lib
set_option linter.unusedVariables false

set_option maxHeartbeats 4000000 in
set_option maxRecDepth 10000 in
theorem rsum_any (a : Option Addr) (xs : List Sx) (ca m f : Nat) (c : Int) (b : Bool) (w : World) (h : RdL w a xs) (A : Ask xs m) (hf : f < m) :
    Calls Tryz.prog 18 #[.slice a xs.length ca, .int .i64 (f : Nat), .int .i64 c, .bool b] w fun e w' => e = .returned (.tuple #[.int .i64 (M.tB (sms xs) f c b), .int .i64 (M.nB (sms xs) f c b)]) ∧ w' = w := by
  have HL := hide h
  have AA := hide A
  have l60 := A.le
  have E1 : Hid (M.tB (sms xs) f c b = M.sumT (M.partS ((sms xs).take xs.length) f c b)) := by unfold Hid M.tB; rw [← sms_len xs, List.take_length]
  have E2 : Hid (M.nB (sms xs) f c b = ((M.partS ((sms xs).take xs.length) f c b).length : Nat)) := by unfold Hid M.nB; rw [← sms_len xs, List.take_length]
  have SM : Hid (∀ k, k < xs.length → M.sumT (M.partS ((sms xs).take (k + 1)) f c b) = (if (decide (M.colA (M.sAt (sms xs) k) f < c) == b) = true then M.sumT (M.partS ((sms xs).take k) f c b) + (M.sAt (sms xs) k).2 else M.sumT (M.partS ((sms xs).take k) f c b)) ∧ (M.partS ((sms xs).take (k + 1)) f c b).length = (if (decide (M.colA (M.sAt (sms xs) k) f < c) == b) = true then (M.partS ((sms xs).take k) f c b).length + 1 else (M.partS ((sms xs).take k) f c b).length)) := fun k hk => M.sum_more (sms xs) f c b (by rw [sms_len]; exact hk)
  clear h A
  generalize M.tB (sms xs) f c b = TT at *
  generalize M.nB (sms xs) f c b = NN at *
  go_enter Tryz.func18, Tryz.ntmps18
  go_wp2
  go_loopw [10, 11, 12] (fun s n i wr => ∃ k : Nat, k ≤ xs.length ∧ i = .int .i64 k ∧ s = .int .i64 (M.sumT (M.partS ((sms xs).take k) f c b)) ∧ n = .int .i64 ((M.partS ((sms xs).take k) f c b).length : Nat) ∧ Hid (wr = w)) (fun _ _ i _ => xs.length - (intOf i).toNat)
  case atStart => exact ⟨0, Nat.zero_le _, rfl, rfl, rfl, rfl⟩
  case round =>
    obtain ⟨k, hk, rfl, rfl, rfl, W⟩ := hrel
    have we := W.out
    subst we
    obtain ⟨b0, b1, b2⟩ := AA.out.in f c b k
    by_cases hlt : k < xs.length
    · obtain ⟨bl, ol, rfl, hbl, hcl⟩ := HL.out.2.2 (by intro e; rw [e] at hlt; simp at hlt)
      obtain ⟨q0, q1⟩ := hcl k hlt
      have hr := AA.out.row xs[k] (List.getElem_mem hlt)
      have ht := AA.out.tgt xs[k] (List.getElem_mem hlt)
      have fr : f < xs[k].2.1.length := by omega
      obtain ⟨bx, ox, ex, hbx, hcx⟩ := (HL.out.2.1 xs[k] (List.getElem_mem hlt)).2 (by intro e; rw [e] at fr; simp at fr)
      have hx := hcx f fr
      have sa := sms_at xs hlt
      have ec : M.colA (M.sAt (sms xs) k) f = xs[k].2.1.getD f 0 := by rw [sa]; rfl
      have et : (M.sAt (sms xs) k).2 = xs[k].2.2.2 := by rw [sa]; rfl
      obtain ⟨sm1, sm2⟩ := SM.out k hlt
      rw [ec, et] at sm1
      rw [ec] at sm2
      have S1 := hide sm1
      have S2 := hide sm2
      unfold sxV at q0
      rw [ex] at q0
      have kz : (k : Int) < (xs.length : Int) := by omega
      have fz : (f : Int) < (xs[k].2.1.length : Int) := by omega
      clear sa ec et sm1 sm2 hcl hcx SM hr fr ex E1 E2
      generalize xs[k].2.2.2 = t at *
      generalize xs[k].2.1.getD f 0 = v at *
      generalize xs[k].2.1.length = rl at *
      generalize xs[k].2.2.1 = rc at *
      generalize M.sumT (M.partS ((sms xs).take k) f c b) = s at *
      generalize (M.partS ((sms xs).take k) f c b).length = n at *
      obtain ⟨t0, t1⟩ := ht
      cases hq : (decide (v < c) == b) with
      | true =>
        have z1 : Hid (M.sumT (M.partS ((sms xs).take (k + 1)) f c b) = s + t) := by unfold Hid; rw [S1.out, if_pos hq]
        have z2 : Hid ((M.partS ((sms xs).take (k + 1)) f c b).length = n + 1) := by unfold Hid; rw [S2.out, if_pos hq]
        clear S1 S2
        go_wp2
        go_roundw
        case rel => exact ⟨k + 1, by omega, by go_num, by rw [z1.out], by rw [z2.out]; go_num, (by first | rfl | trivial)⟩
        case measure => simp [intOf]; omega
      | false =>
        have z1 : Hid (M.sumT (M.partS ((sms xs).take (k + 1)) f c b) = s) := by unfold Hid; rw [S1.out, if_neg (by rw [hq]; decide)]
        have z2 : Hid ((M.partS ((sms xs).take (k + 1)) f c b).length = n) := by unfold Hid; rw [S2.out, if_neg (by rw [hq]; decide)]
        clear S1 S2
        go_wp2
        go_roundw
        case rel => exact ⟨k + 1, by omega, by go_num, by rw [z1.out], by rw [z2.out], (by first | rfl | trivial)⟩
        case measure => simp [intOf]; omega
    · have ke : k = xs.length := by omega
      have e1 : Hid (M.sumT (M.partS ((sms xs).take k) f c b) = TT) := by unfold Hid; rw [E1.out, ke]
      have e2 : Hid (((M.partS ((sms xs).take k) f c b).length : Int) = NN) := by unfold Hid; rw [E2.out, ke]
      clear ke SM E1 E2 HL AA
      generalize M.sumT (M.partS ((sms xs).take k) f c b) = s at *
      generalize (M.partS ((sms xs).take k) f c b).length = n at *
      go_wp2
      go_ret2
      exact ⟨by rw [← e1.out, ← e2.out]; rfl, rfl⟩

set_option maxHeartbeats 4000000 in
set_option maxRecDepth 10000 in
theorem rpart_any (a : Option Addr) (xs : List Sx) (ca m f : Nat) (c : Int) (b : Bool) (w : World) (h : RdL w a xs) (A : Ask xs m) (hf : f < m) :
    Calls Tryz.prog 22 #[.slice a xs.length ca, .int .i64 (f : Nat), .int .i64 c, .bool b] w fun e w' => ∃ ag cg, e = .returned (.slice ag (partX xs f c b).length cg) ∧ RdL w' ag (partX xs f c b) ∧ Below w.heap.size w w' ∧ (∀ p, ag = some p → w.heap.size ≤ p.block) := by
  have HL := hide h
  have AA := hide A
  have l60 := A.le
  obtain ⟨i0, hi, hz0, hz1, hz2⟩ := info_parts infoSam
  have I0 := hide hi
  have PM : Hid (∀ k (hk : k < xs.length), partX (xs.take (k + 1)) f c b = if (decide (xs[k].2.1.getD f 0 < c) == b) = true then partX (xs.take k) f c b ++ [xs[k]] else partX (xs.take k) f c b) := fun k hk => partX_more xs f c b hk
  have PL : Hid (∀ k, (partX (xs.take k) f c b).length ≤ 60) := fun k => Nat.le_trans (List.length_filter_le _ _) (by rw [List.length_take]; omega)
  have PA : Hid (partX (xs.take xs.length) f c b = partX xs f c b) := by unfold Hid; rw [List.take_length]
  have PR : Hid (∀ W, Below w.heap.size w W → ∀ x ∈ partX xs f c b, Rd W x.1 x.2.1) := fun W hW x hx => (h.2.1 x (partX_mem hx)).below hW
  clear h A hi
  generalize partX xs f c b = PX at *
  go_enter Tryz.func22, Tryz.ntmps22
  go_wp2
  go_loopw [9, 10] (fun v i wr => ∃ k : Nat, k ≤ xs.length ∧ i = .int .i64 k ∧ Hid (wr.ownsRow w.heap.size 45 2 v (partX (xs.take k) f c b).length (saCells (partX (xs.take k) f c b))) ∧ Hid (Below w.heap.size w wr)) (fun _ i _ => xs.length - (intOf i).toNat)
  case atStart => exact ⟨0, Nat.zero_le _, rfl, World.ownsRow_nil _ _ _ _, Below.refl _ _⟩
  case round =>
    obtain ⟨k, hk, rfl, HO, K⟩ := hrel
    have pl := PL.out k
    by_cases hlt : k < xs.length
    · obtain ⟨bl, ol, rfl, hbl, hcl⟩ := (HL.out.below K.out).2.2 (by intro e; rw [e] at hlt; simp at hlt)
      obtain ⟨q0, q1⟩ := hcl k hlt
      have hr := AA.out.row xs[k] (List.getElem_mem hlt)
      have fr : f < xs[k].2.1.length := by omega
      obtain ⟨bx, ox, ex, hbx, hcx⟩ := ((HL.out.below K.out).2.1 xs[k] (List.getElem_mem hlt)).2 (by intro e; rw [e] at fr; simp at fr)
      have hx := hcx f fr
      have pm := PM.out k hlt
      have PC : Hid (saCells (partX (xs.take k) f c b ++ [xs[k]]) = saCells (partX (xs.take k) f c b) ++ [.slice (some ⟨bx, ox, none⟩) xs[k].2.1.length xs[k].2.2.1, .int .i64 xs[k].2.2.2]) := by
        unfold Hid; rw [saCells_snoc]; unfold sxV; rw [ex]
      unfold sxV at q0
      rw [ex] at q0
      have kz : (k : Int) < (xs.length : Int) := by omega
      have fz : (f : Int) < (xs[k].2.1.length : Int) := by omega
      obtain ⟨va, vc, rfl⟩ := own_any HO.out
      have w0 := K.out.size
      cases hq : (decide (xs[k].2.1.getD f 0 < c) == b) with
      | true =>
        rw [if_pos hq] at pm
        have z1 := hide pm
        clear hcl hcx PM hr fr ex PA PR pm PL
        generalize xs[k].2.2.2 = t at *
        generalize xs[k].2.1.getD f 0 = x at *
        generalize xs[k].2.1.length = rl at *
        generalize xs[k].2.2.1 = rc at *
        generalize partX (xs.take k) f c b = P at *
        go_wp2_with (at_builtin; refine wpList_append_lies _ rfl (.tmp 29) (.tmp 34) 22 rfl w.heap.size 45 i0 (.agg #[.slice none 0 0, .int .i64 0]) 2 32 Tryz.underlying22 I0.out hz0 hz1 hz2 rfl (by omega) (.slice va P.length vc) P.length (saCells P) rfl (HO.out.alloc _) ⟨wr.heap.size, 0, none⟩ 1 1 [.slice (some ⟨bx, ox, none⟩) rl rc, .int .i64 t] rfl rfl (World.news_of_block (heap_alloc_new _ _)) (by simp [Value.oneCell']) (by omega) (by unfold maxLen; omega) (by omega) (by simp; omega) (wr.heap.size + 1) (by simp) ?_)
        intro g cap w5 hov5 hgrow hat hlt5
        have hb5 : Hid (Below w.heap.size w w5) := (K.out.alloc w0 _).grown hgrow (by simp; omega) (fun k hk => (HO.out.lt k hk).1)
        have HO5 : Hid (w5.ownsRow w.heap.size 45 2 (.slice (some ⟨g, 0, none⟩) (P.length + 1) cap) (partX (xs.take (k + 1)) f c b).length (saCells (partX (xs.take (k + 1)) f c b))) := by
          unfold Hid; rw [z1.out, PC.out, List.length_append]; exact hov5
        clear hov5 hgrow hat
        go_wp2
        go_roundw
        case rel => exact ⟨k + 1, by omega, by go_num, HO5, hb5⟩
        case measure => simp [intOf]; omega
      | false =>
        rw [if_neg (by rw [hq]; decide)] at pm
        have z1 : Hid (wr.ownsRow w.heap.size 45 2 (.slice va (partX (xs.take k) f c b).length vc) (partX (xs.take (k + 1)) f c b).length (saCells (partX (xs.take (k + 1)) f c b))) := by unfold Hid; rw [pm]; exact HO.out
        clear hcl hcx PM hr fr ex PA PR pm PL PC
        generalize xs[k].2.2.2 = t at *
        generalize xs[k].2.1.getD f 0 = x at *
        generalize xs[k].2.1.length = rl at *
        generalize xs[k].2.2.1 = rc at *
        generalize (partX (xs.take k) f c b).length = pn at *
        go_wp2
        go_roundw
        case rel => exact ⟨k + 1, by omega, by go_num, z1, K⟩
        case measure => simp [intOf]; omega
    · have ke : k = xs.length := by omega
      have ho := HO.out
      rw [ke, PA.out] at ho
      have pl2 : PX.length ≤ 60 := by rw [← PA.out, ← ke]; exact pl
      obtain ⟨ga, gc, ev, hr⟩ := own_rdL rfl (by unfold maxLen; omega) ho (PR.out _ K.out)
      subst ev
      have HR := hide hr
      have LT : Hid (∀ p, ga = some p → w.heap.size ≤ p.block) := fun p hp => by subst hp; exact (ho.lt p.block rfl).1
      clear ke ho HO PM PL PA PR HL AA hr pl
      go_wp2
      go_ret
      exact ⟨ga, gc, rfl, HR.out, K.out, LT.out⟩

end Go.Proofs.YthbeoaninipadafGreatDoor
