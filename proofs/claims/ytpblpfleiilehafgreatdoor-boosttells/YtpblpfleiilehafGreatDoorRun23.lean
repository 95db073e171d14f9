/-
  Several texts as one: GroMean, GroNum, GroLeaf, GroPart.
-/
import Derived.Test.YtpblpfleiilehafGreatDoorRun18
import Derived.Test.YtpblpfleiilehafGreatDoorRun17
import Derived.Deep.Cut
import Derived.Deep.CutRange
import Derived.Test.YtpblpfleiilehafGreatDoorRun16
import Derived.Deep.AppendLies
import Derived.OwnWalk
import Derived.RegionTactic
import Derived.BigQuiet
import Derived.Deep.QuietTactic
namespace Go.Proofs.YtpblpfleiilehafGreatDoor
open Go.ChangeShapes Go.WideShapes Go.ChangeAt Go.RowKit Go.Lib
set_option linter.unusedVariables false

theorem fit_far (n : Int) (w : World) (h1 : -1000000 ≤ n) (h2 : n ≤ 1000000) :
    Calls Tryz.prog 96 #[.int .i64 n] w fun e w' => e = .returned (.int .i64 n) ∧ w' = w := by
  go_enter Tryz.func96, Tryz.ntmps96
  go_wp2
  go_ret
  exact ⟨rfl, rfl⟩
theorem down_far (a b : Int) (w : World) (hb : 0 < b) (hb2 : b ≤ 9007199254740992) (ha : -9007199254740992 ≤ a) (ha2 : a ≤ 9007199254740992) :
    Calls Tryz.prog 106 #[.int .i64 a, .int .i64 b] w fun e w' => e = .returned (.int .i64 (a / b)) ∧ w' = w := by
  obtain ⟨q1, q2⟩ := M.tdiv_bd a b 9007199254740992 hb ha ha2
  have D := hide (M.down_eq a b hb)
  by_cases h : a.tmod b < 0
  · go_enter Tryz.func106, Tryz.ntmps106
    go_wp2
    go_ret
    exact ⟨ret_int (by rw [← D.out, if_pos h]), rfl⟩
  · go_enter Tryz.func106, Tryz.ntmps106
    go_wp2
    go_ret
    exact ⟨ret_int (by rw [← D.out, if_neg (by omega)]), rfl⟩

theorem fill_step {w wr : World} {B n k : Nat} {F : List Int} {x : Int} (hF : F.length = n) (hk : k < n) (hx : x = F[k])
    (hown : wr.ownsRow B 3 1 (.slice (some ⟨B, 0, none⟩) n n) n ((M.fillI F k).map (Value.int .i64))) (hbl : Below B w wr) :
    (wr.setCell ⟨B, k, none⟩ (.int .i64 x)).ownsRow B 3 1 (.slice (some ⟨B, 0, none⟩) n n) n ((M.fillI F (k + 1)).map (Value.int .i64)) ∧ Below B w (wr.setCell ⟨B, k, none⟩ (.int .i64 x)) := by
  subst hx
  refine ⟨?_, hbl.setCell (Nat.le_refl _) _⟩
  have := (hown.stored k (.int .i64 F[k])).1
  rw [← M.fill_set F k (by omega), List.map_set]
  exact this

set_option maxHeartbeats 1000000 in
theorem counted_far (a : Option Addr) (xs : List Int) (cap : Nat) (w : World) (h : Rd w a xs) (hn : xs.length ≤ 60) (h0 : 0 < xs.length) (hv : ∀ x ∈ xs, -1000000 ≤ x ∧ x ≤ 1000000) :
    Calls Tryz.prog 105 #[.slice a xs.length cap] w fun e w' => e = .returned (.slice (some ⟨w.heap.size, 0, none⟩) xs.length xs.length) ∧
      w'.ownsRow w.heap.size 3 1 (.slice (some ⟨w.heap.size, 0, none⟩) xs.length xs.length) xs.length (xs.map (Value.int .i64)) ∧ Below w.heap.size w w' := by
  obtain ⟨i0, hi, hz0, hz1, hz2⟩ := info_parts info3
  obtain ⟨b, off, rfl, hb, hc⟩ := h.2 (by intro e; rw [e] at h0; simp at h0)
  have HV := hide hv
  have HC := hide hc
  clear h hv hc h0
  have mn : min (xs.length : Int) 1000 = (xs.length : Int) := by omega
  obtain ⟨n, hn'⟩ : ∃ n, n = xs.length := ⟨_, rfl⟩
  have HN := hide hn'
  rw [← hn'] at hn mn ⊢
  have n1000 : ¬ (1000 : Int) < (n : Int) := by omega
  have nle : (n : Int) ≤ 1000 := by omega
  have FA : Hid (M.fillI xs n = xs) := by unfold Hid; rw [hn']; exact M.fill_all xs
  clear hn' mn
  go_enter Tryz.func105, Tryz.ntmps105
  go_wp2_with (at_make; refine wpList_make_full _ rfl (.tmp 7) (.tmp 7) 42 rfl w.heap.size 3 i0 (.int .i64 0) 1 Tryz.underlying42 hi hz0 hz1 .i64 .i64 _ _ n rfl rfl (by omega) (by omega) (by rw [hz2]; omega) (by unfold maxLen; omega) (Nat.le_refl _) ?_; intro w1 hown hgrow)
  rw [made] at hown
  have hB : Hid (Below w.heap.size w w1) := (Below.refl _ w).grown hgrow (Nat.le_refl _) (fun k hk => by cases hk)
  have ho : Hid (w1.ownsRow w.heap.size 3 1 (.slice (some ⟨w.heap.size, 0, none⟩) n n) n ((M.fillI xs 0).map (Value.int .i64))) := by
    unfold Hid; rw [M.fill_zero, ← HN.out]; exact hown
  clear hown hgrow hi hz0 hz1 hz2
  go_loopw [11] (fun i wr => ∃ k : Nat, k ≤ n ∧ i = .int .i64 k ∧ Hid (wr.ownsRow w.heap.size 3 1 (.slice (some ⟨w.heap.size, 0, none⟩) n n) n ((M.fillI xs k).map (Value.int .i64))) ∧ Hid (Below w.heap.size w wr)) (fun i _ => n - (intOf i).toNat)
  case atStart => exact ⟨0, Nat.zero_le _, rfl, ho, hB⟩
  case round =>
    obtain ⟨k, hk, rfl, HO, K⟩ := hrel
    clear ho hB
    by_cases hlt : k < n
    · have kl : k < xs.length := by rw [← HN.out]; exact hlt
      have hck := (K.out.cell (p := ⟨b, off + k, none⟩) hb).trans (Rd.at HC.out k kl)
      have hfz := HO.out.frozenAt k
      have hcell := HO.out.cellAt k (by omega)
      have hlen : k < ((M.fillI xs k).map (Value.int .i64)).length := by rw [List.length_map, M.fill_len _ _ (by omega)]; exact kl
      rw [List.getElem?_eq_getElem hlen] at hcell
      obtain ⟨v0, v1⟩ := HV.out xs[k] (List.getElem_mem kl)
      have HR := hide (fill_step (w := w) HN.out.symm hlt rfl HO.out K.out)
      have nz : xs.length = n := HN.out.symm
      have kz : (k : Int) < (n : Int) := by omega
      have NZ := hide nz
      have kz2 : (k : Int) < (xs.length : Int) := by omega
      clear HC HV HO nz
      generalize xs[k] = v at *
      clear kl
      go_wp2_with (go_at_call 96; refine (fit_far _ _ (by omega) (by omega)).mono ?_; rintro e w' ⟨rfl, rfl⟩)
      go_roundw
      case rel => exact ⟨k + 1, by omega, by go_num, HR.out.1, HR.out.2⟩
      case measure => simp [intOf]; omega
    · have ke : k = n := by omega
      have ho := HO.out
      rw [ke, FA.out] at ho
      have HO2 := hide ho
      clear ho HO ke HC HV
      go_wp2
      go_ret
      exact ⟨rfl, HO2.out, K.out⟩

theorem M.sumL_bd : ∀ {l : List Int}, (∀ x ∈ l, -1000000 ≤ x ∧ x ≤ 1000000) → -1000000 * (l.length : Nat) ≤ l.sum ∧ l.sum ≤ 1000000 * (l.length : Nat)
  | [], _ => by simp
  | x :: l, h => by
    have ih := M.sumL_bd (l := l) fun y hy => h y (List.mem_cons_of_mem _ hy)
    have h1 := h x (List.mem_cons_self ..)
    rw [List.sum_cons, List.length_cons]
    omega

set_option maxHeartbeats 1000000 in
theorem mean_far (a : Option Addr) (xs : List Int) (cap : Nat) (w : World) (h : Rd w a xs) (hn : xs.length ≤ 60) (h0 : 0 < xs.length) (hv : ∀ x ∈ xs, -1000000 ≤ x ∧ x ≤ 1000000) :
    Calls Tryz.prog 87 #[.slice a xs.length cap] w fun e w' => e = .returned (.int .i64 (xs.sum / (xs.length : Nat))) ∧ Below w.heap.size w w' := by
  have C := hide (counted_far a xs cap w h hn h0 hv)
  have SB : Hid (∀ k, -60000000 ≤ (xs.take k).sum ∧ (xs.take k).sum ≤ 60000000) := fun k => by
    have := M.sumL_bd (l := xs.take k) fun x hx => hv x (List.mem_of_mem_take hx)
    have l : (xs.take k).length ≤ 60 := by rw [List.length_take]; omega
    omega
  have SS : Hid (∀ k (hk : k < xs.length), (xs.take (k + 1)).sum = (xs.take k).sum + xs[k]) := fun k hk => by
    rw [List.take_succ_eq_append_getElem hk, List.sum_append]; simp
  have Z : Hid (xs.take xs.length = xs) := List.take_length
  have HV := hide hv
  have hz : ((xs.length : Int) == 0) = false := by rw [beq_eq_false_iff_ne]; omega
  clear h hv
  go_enter Tryz.func87, Tryz.ntmps87
  go_wp2_with (go_at_call 105; refine C.out.mono ?_; rintro e w1 ⟨rfl, hown, hbl⟩)
  have OA := hide (own_at hown rfl)
  have BL := hide hbl
  clear hown C hbl
  go_loop [4, 14] (fun t i => ∃ k : Nat, k ≤ xs.length ∧ i = .int .i64 k ∧ t = .int .i64 (xs.take k).sum) (fun _ i => xs.length - (intOf i).toNat)
  case atStart => exact ⟨0, Nat.zero_le _, rfl, rfl⟩
  case round =>
    obtain ⟨k, hk, rfl, rfl⟩ := hrel
    obtain ⟨s1, s2⟩ := SB.out k
    by_cases hlt : k < xs.length
    · have hck := OA.out k hlt
      have S := hide (SS.out k hlt)
      obtain ⟨v0, v1⟩ := HV.out xs[k] (List.getElem_mem hlt)
      have kz : (k : Int) < (xs.length : Int) := by omega
      clear SS SB OA HV Z
      generalize (xs.take k).sum = s at *
      generalize xs[k] = v at *
      go_wp2
      go_round
      case rel => exact ⟨k + 1, by omega, by go_num, by rw [S.out]⟩
      case measure => simp [intOf]; omega
    · have ke : k = xs.length := by omega
      have E : Hid ((xs.take k).sum = xs.sum) := by unfold Hid; rw [ke, Z.out]
      clear SS SB OA HV Z ke
      generalize (xs.take k).sum = s at *
      have dn := hide (down_far s (xs.length : Nat) w1 (by omega) (by omega) (by omega) (by omega))
      go_wp2_with (go_at_call 106; refine dn.out.mono ?_; rintro e w2 ⟨rfl, e2⟩; have e2' := e2.symm; subst e2')
      go_ret
      exact ⟨ret_int (by rw [E.out]), BL.out⟩

end Go.Proofs.YtpblpfleiilehafGreatDoor

namespace Go.Proofs.YtpblpfleiilehafGreatDoor
open Go.ChangeShapes Go.WideShapes Go.ChangeAt Go.RowKit Go.Lib
set_option linter.unusedVariables false

set_option maxHeartbeats 4000000 in
theorem more_any (a b c d : Int) (w : World) (h1 : IntKind.i64.wrap (a * d) = a * d) (h2 : IntKind.i64.wrap (c * b) = c * b) :
    Calls Tryz.prog 57 #[.agg #[.int .i64 a, .int .i64 b], .agg #[.int .i64 c, .int .i64 d]] w fun e w' => e = .returned (.bool (decide (c * b < a * d))) ∧ Below w.heap.size w w' := by
  have KA : Hid (∀ o p, Below w.heap.size w ((w.alloc o).alloc p)) := fun o p => ((Below.refl _ w).alloc (Nat.le_refl _) o).alloc (by simp) p
  go_enter Tryz.func57, Tryz.ntmps57
  go_wp2
  go_ret
  exact ⟨rfl, KA.out _ _⟩

set_option maxHeartbeats 4000000 in
theorem plus_any (a b c d : Int) (w : World) (h1 : IntKind.i64.wrap (a * d) = a * d) (h2 : IntKind.i64.wrap (c * b) = c * b) (h3 : IntKind.i64.wrap (a * d + c * b) = a * d + c * b) (h4 : IntKind.i64.wrap (b * d) = b * d) :
    Calls Tryz.prog 56 #[.agg #[.int .i64 a, .int .i64 b], .agg #[.int .i64 c, .int .i64 d]] w fun e w' => e = .returned (.agg #[.int .i64 (a * d + c * b), .int .i64 (b * d)]) ∧ Below w.heap.size w w' := by
  have KA : Hid (∀ o p q, Below w.heap.size w (((w.alloc o).alloc p).alloc q)) := fun o p q => (((Below.refl _ w).alloc (Nat.le_refl _) o).alloc (by simp) p).alloc (by simp; omega) q
  go_enter Tryz.func56, Tryz.ntmps56
  go_wp2
  refine bodyPost_ret (v := .agg #[.int .i64 (a * d + c * b), .int .i64 (b * d)]) (by simp [results, Tryz.results56, go_sem]) rfl ?_
  exact ⟨rfl, KA.out _ _ _⟩

set_option maxHeartbeats 4000000 in
set_option maxRecDepth 10000 in
theorem putright_any (a : Option Addr) (xs : List Sx) (ca m : Nat) (w : World) (h : RdL w a xs) (A : Ask xs m) :
    Calls Tryz.prog 53 #[.slice a xs.length ca] w fun e w' => e = .returned (.agg #[.int .i64 (M.sumT (sms xs) * M.sumT (sms xs)), .int .i64 (xs.length : Nat)]) ∧ Below w.heap.size w w' := by
  have HL := hide h
  have AA := hide A
  have l60 := A.le
  have SM : Hid (∀ k (hk : k < xs.length), M.sumT ((sms xs).take (k + 1)) = M.sumT ((sms xs).take k) + xs[k].2.2.2) := fun k hk => by
    rw [List.take_succ_eq_append_getElem (by rw [sms_len]; exact hk), M.sumT_app]
    have e : (sms xs)[k]'(by rw [sms_len]; exact hk) = sm xs[k] := by simp [sms]
    rw [e]
    show _ + (xs[k].2.2.2 + 0) = _
    omega
  have ME : Hid (M.sumT ((sms xs).take xs.length) = M.sumT (sms xs)) := by unfold Hid; rw [← sms_len xs, List.take_length]
  obtain ⟨w1, hw1⟩ : ∃ W, W = w.alloc (.cells #[.int .i64 0, .int .i64 0] 91) := ⟨_, rfl⟩
  have s1 : w1.heap.size = w.heap.size + 1 := by rw [hw1]; simp
  have K1 : Hid (Below w.heap.size w w1) := by unfold Hid; rw [hw1]; exact (Below.refl _ w).alloc (Nat.le_refl _) _
  have B1 : Hid (∀ W, Below w1.heap.size w1 W → W.cell? ⟨w.heap.size, 0, none⟩ = some (.int .i64 0) ∧ W.cell? ⟨w.heap.size, 1, none⟩ = some (.int .i64 0) ∧ ∀ j, W.frozen? ⟨w.heap.size, j, none⟩ = false) := fun W hW => by
    have lt : w.heap.size < w1.heap.size := by omega
    refine ⟨(hW.cell (p := ⟨w.heap.size, 0, none⟩) lt).trans (by rw [hw1]; exact World.cell?_alloc_at _ _ _ 0 rfl), (hW.cell (p := ⟨w.heap.size, 1, none⟩) lt).trans (by rw [hw1]; exact World.cell?_alloc_at _ _ _ 1 rfl), fun j => ?_⟩
    have f := frozen_new2 w #[.int .i64 0, .int .i64 0] 91 j
    rw [← hw1] at f
    rw [← f]
    unfold World.frozen?
    rw [hW.block _ lt]
  have S1 := hide s1
  have HW := hide hw1
  clear h A s1 hw1
  generalize M.sumT (sms xs) = TT at *
  go_enter Tryz.func53, Tryz.ntmps53
  go_upto_region 1 with fail
  rw [← HW.out]
  go_wp2
  go_loopw [3, 8] (fun s i wr => ∃ k : Nat, k ≤ xs.length ∧ i = .int .i64 k ∧ s = .int .i64 (M.sumT ((sms xs).take k)) ∧ Hid (Below w1.heap.size w1 wr)) (fun _ i _ => xs.length - (intOf i).toNat)
  case atStart => exact ⟨0, Nat.zero_le _, rfl, rfl, Below.refl _ _⟩
  case round =>
    obtain ⟨k, hk, rfl, rfl, K⟩ := hrel
    obtain ⟨b0, b1⟩ := AA.out.all k
    by_cases hlt : k < xs.length
    · obtain ⟨bl, ol, rfl, hbl, hcl⟩ := (HL.out.below (below_on K1.out K.out)).2.2 (by intro e; rw [e] at hlt; simp at hlt)
      obtain ⟨c0, c1⟩ := hcl k hlt
      obtain ⟨t0, t1⟩ := AA.out.tgt xs[k] (List.getElem_mem hlt)
      have S := hide (SM.out k hlt)
      have UA : Hid (∀ o, Below w1.heap.size w1 (wr.alloc o)) := fun o => below_on K.out ((Below.refl _ wr).alloc (Nat.le_refl _) o)
      have kz : (k : Int) < (xs.length : Int) := by omega
      unfold sxV at c0
      clear hcl SM ME HL AA B1 HW
      generalize xs[k].2.2.2 = t at *
      generalize xs[k].2.1.length = rl at *
      generalize xs[k].2.2.1 = rc at *
      generalize xs[k].1 = ra at *
      generalize M.sumT ((sms xs).take k) = s at *
      go_wp2
      go_roundw
      case rel => exact ⟨k + 1, by omega, by go_num, by rw [S.out], UA.out _⟩
      case measure => simp [intOf]; omega
    · have ke : k = xs.length := by omega
      have E : Hid (M.sumT ((sms xs).take k) = TT) := by unfold Hid; rw [ke]; exact ME.out
      obtain ⟨x0, x1, x2⟩ := B1.out wr K.out
      have f0 := x2 0
      have f1 := x2 1
      clear x2 SM ME HL AA ke B1 HW
      generalize M.sumT ((sms xs).take k) = s at *
      have q := M.sqR_in (s := s) (B := 60000) (by omega) (by omega)
      have x3 : IntKind.i64.wrap (s * s) = s * s := wrap_in5 _ (by omega) (by omega)
      clear q
      go_wp2
      obtain ⟨e0, e1⟩ := set2 (x0 := .int .i64 (s * s)) (x1 := .int .i64 (xs.length : Nat)) x0 x1
      refine bodyPost_ret (v := .agg #[.int .i64 (s * s), .int .i64 (xs.length : Nat)]) (by simp [results, Tryz.results53, go_sem, e0, e1]) rfl ?_
      exact ⟨by rw [E.out], below2 (below_on K1.out K.out) (by omega)⟩

end Go.Proofs.YtpblpfleiilehafGreatDoor

namespace Go.Proofs.YtpblpfleiilehafGreatDoor
open Go.ChangeShapes Go.WideShapes Go.ChangeAt Go.RowKit Go.Lib
set_option linter.unusedVariables false

def tgtL (xs : List Sx) : List Int := xs.map fun x => x.2.2.2
theorem tgtL_len (xs : List Sx) : (tgtL xs).length = xs.length := by simp [tgtL]
theorem tgtL_at (xs : List Sx) {k : Nat} (h : k < xs.length) : (tgtL xs)[k]'(by rw [tgtL_len]; exact h) = xs[k].2.2.2 := by simp [tgtL]
theorem tgtL_sum : ∀ xs : List Sx, (tgtL xs).sum = M.sumT (sms xs)
  | [] => rfl
  | x :: xs => by
    have ih := tgtL_sum xs
    show (x.2.2.2 :: tgtL xs).sum = x.2.2.2 + M.sumT (sms xs)
    rw [List.sum_cons, ih]
set_option maxHeartbeats 4000000 in
set_option maxRecDepth 10000 in
theorem leafof_any (a : Option Addr) (xs : List Sx) (ca m : Nat) (w : World) (h : RdL w a xs) (A : Ask xs m) (hp : 0 < xs.length) :
    Calls Tryz.prog 58 #[.slice a xs.length ca] w fun e w' => e = .returned (.agg #[.int .i64 (-1), .int .i64 0, .int .i64 0, .int .i64 0, .bool false, .int .i64 (M.meanS (sms xs))]) ∧ Below w.heap.size w w' := by
  have HL := hide h
  have AA := hide A
  have l60 := A.le
  obtain ⟨i0, hi, hz0, hz1, hz2⟩ := info_parts info3
  have TV : ∀ x ∈ tgtL xs, -1000000 ≤ x ∧ x ≤ 1000000 := fun x hx => by
    obtain ⟨y, hy, rfl⟩ := List.mem_map.1 hx
    have := A.tgt y hy
    omega
  have MF : Hid (∀ (g : Nat) W, Rd W (some ⟨g, 0, none⟩) (tgtL xs) → Calls Tryz.prog 87 #[.slice (some ⟨g, 0, none⟩) xs.length xs.length] W fun e w' => e = .returned (.int .i64 (M.meanS (sms xs))) ∧ Below W.heap.size W w') := fun g W hW => by
    have := mean_far (some ⟨g, 0, none⟩) (tgtL xs) xs.length W hW (by rw [tgtL_len]; exact l60) (by rw [tgtL_len]; exact hp) TV
    rw [tgtL_len, tgtL_sum] at this
    unfold M.meanS
    rw [sms_len]
    exact this
  obtain ⟨w1, hw1⟩ : ∃ W, W = w.alloc (.cells #[.int .i64 0, .int .i64 0, .int .i64 0, .int .i64 0, .bool false, .int .i64 0] 72) := ⟨_, rfl⟩
  have K1 : Hid (Below w.heap.size w w1) := by unfold Hid; rw [hw1]; exact (Below.refl _ w).alloc (Nat.le_refl _) _
  have B1 := hide (fun W (hW : Below w1.heap.size w1 W) => new_kept hw1 hW)
  have TA : Hid (∀ k (hk : k < xs.length) (hk' : k < (tgtL xs).length), (tgtL xs)[k]'hk' = xs[k].2.2.2) := fun k hk _ => tgtL_at xs hk
  have TL := hide (tgtL_len xs)
  have HW := hide hw1
  clear h A hw1 TV
  generalize M.meanS (sms xs) = mv at *
  generalize tgtL xs = F at *
  go_enter Tryz.func58, Tryz.ntmps58
  go_upto_region 1 with fail
  rw [← HW.out]
  go_wp2_with (at_make; refine wpList_make_full _ rfl (.tmp 7) (.tmp 7) 42 rfl w1.heap.size 3 i0 (.int .i64 0) 1 Tryz.underlying42 hi hz0 hz1 .i64 .i64 _ _ xs.length rfl rfl (by omega) (by omega) (by rw [hz2]; omega) (by unfold maxLen; omega) (Nat.le_refl _) ?_; intro w2 hown hgrow)
  rw [made] at hown
  have hB : Hid (Below w1.heap.size w1 w2) := (Below.refl _ w1).grown hgrow (Nat.le_refl _) (fun k hk => by cases hk)
  have ho : Hid (w2.ownsRow w1.heap.size 3 1 (.slice (some ⟨w1.heap.size, 0, none⟩) xs.length xs.length) xs.length ((M.fillI F 0).map (Value.int .i64))) := by
    unfold Hid; rw [M.fill_zero, TL.out]; exact hown
  clear hown hgrow hi hz0 hz1 hz2 HW
  go_loopw [11] (fun i wr => ∃ k : Nat, k ≤ xs.length ∧ i = .int .i64 k ∧ Hid (wr.ownsRow w1.heap.size 3 1 (.slice (some ⟨w1.heap.size, 0, none⟩) xs.length xs.length) xs.length ((M.fillI F k).map (Value.int .i64))) ∧ Hid (Below w1.heap.size w1 wr)) (fun i _ => xs.length - (intOf i).toNat)
  case atStart => exact ⟨0, Nat.zero_le _, rfl, ho, hB⟩
  case round =>
    obtain ⟨k, hk, rfl, HO, K⟩ := hrel
    clear ho hB
    by_cases hlt : k < xs.length
    · obtain ⟨bl, ol, rfl, hbl, hcl⟩ := (HL.out.below (below_on K1.out K.out)).2.2 (by intro e; rw [e] at hlt; simp at hlt)
      obtain ⟨c0, c1⟩ := hcl k hlt
      have kl : k < F.length := by rw [TL.out]; exact hlt
      have UA : Hid (∀ o, Below wr.heap.size wr (wr.alloc o)) := fun o => (Below.refl _ wr).alloc (Nat.le_refl _) o
      have OA : Hid (∀ o, (wr.alloc o).ownsRow w1.heap.size 3 1 (.slice (some ⟨w1.heap.size, 0, none⟩) xs.length xs.length) xs.length ((M.fillI F k).map (Value.int .i64))) := fun o => own_up HO.out (UA.out o)
      have hlen : k < ((M.fillI F k).map (Value.int .i64)).length := by rw [List.length_map, M.fill_len _ _ (by omega)]; exact kl
      have FZ : ∀ o, (wr.alloc o).frozen? ⟨w1.heap.size, k, none⟩ = false := fun o => (OA.out o).frozenAt k
      have CZ : ∀ o, (wr.alloc o).cell? ⟨w1.heap.size, k, none⟩ = some (((M.fillI F k).map (Value.int .i64))[k]'hlen) := fun o => by
        rw [(OA.out o).cellAt k (by omega), List.getElem?_eq_getElem hlen]
      have HR : Hid (∀ o, ((wr.alloc o).setCell ⟨w1.heap.size, k, none⟩ (.int .i64 xs[k].2.2.2)).ownsRow w1.heap.size 3 1 (.slice (some ⟨w1.heap.size, 0, none⟩) xs.length xs.length) xs.length ((M.fillI F (k + 1)).map (Value.int .i64)) ∧ Below w1.heap.size w1 ((wr.alloc o).setCell ⟨w1.heap.size, k, none⟩ (.int .i64 xs[k].2.2.2))) := fun o => by
        have := fill_step (w := w1) (x := xs[k].2.2.2) TL.out hlt (TA.out k hlt kl).symm (OA.out o) (below_on K.out (UA.out o))
        exact this
      have kz : (k : Int) < (xs.length : Int) := by omega
      unfold sxV at c0
      clear hcl HL AA B1 MF TA HO OA UA kl
      generalize xs[k].2.2.2 = t at *
      generalize xs[k].2.1.length = rl at *
      generalize xs[k].2.2.1 = rc at *
      generalize xs[k].1 = ra at *
      generalize ((M.fillI F k).map (Value.int .i64))[k]'hlen = z at *
      clear hlen
      go_wp2
      go_roundw
      case rel => exact ⟨k + 1, by omega, by go_num, (HR.out _).1, (HR.out _).2⟩
      case measure => simp [intOf]; omega
    · have ke : k = F.length := by rw [TL.out]; omega
      have ho := HO.out
      rw [ke, M.fill_all] at ho
      have RD : Hid (Rd wr (some ⟨w1.heap.size, 0, none⟩) F) := by
        rw [← TL.out] at ho
        obtain ⟨a2, c2, e2, hr, _⟩ := own_rd ho
        rw [Value.slice.injEq] at e2
        rw [e2.1]
        exact hr
      have MM := hide (MF.out w1.heap.size wr RD.out)
      clear HL AA MF TA ke ho RD HO
      go_upto_region 7 with fail
      go_wp2_with (go_at_call 87; refine MM.out.mono ?_; rintro e w3 ⟨rfl, hb3⟩; have K3 := hide (below_on K.out hb3); have y0 := (B1.out w3 K3.out).1 0 _ rfl; have y1 := (B1.out w3 K3.out).1 1 _ rfl; have y2 := (B1.out w3 K3.out).1 2 _ rfl; have y3 := (B1.out w3 K3.out).1 3 _ rfl; have y4 := (B1.out w3 K3.out).1 4 _ rfl; have y5 := (B1.out w3 K3.out).1 5 _ rfl; have f0 := (B1.out w3 K3.out).2 0; have f1 := (B1.out w3 K3.out).2 1; have f2 := (B1.out w3 K3.out).2 2; have f3 := (B1.out w3 K3.out).2 3; have f4 := (B1.out w3 K3.out).2 4; have f5 := (B1.out w3 K3.out).2 5; clear hb3)
      obtain ⟨e0, e1, e2, e3, e4, e5⟩ := set6 (x0 := .int .i64 (-1)) (x1 := .int .i64 0) (x2 := .int .i64 0) (x3 := .int .i64 0) (x4 := .bool false) (x5 := .int .i64 mv) y0 y1 y2 y3 y4 y5
      refine bodyPost_ret (v := .agg #[.int .i64 (-1), .int .i64 0, .int .i64 0, .int .i64 0, .bool false, .int .i64 mv]) (by simp [results, Tryz.results58, go_sem, e0, e1, e2, e3, e4, e5]) rfl ?_
      exact ⟨rfl, below6 (below_on K1.out K3.out) (by omega)⟩

end Go.Proofs.YtpblpfleiilehafGreatDoor

namespace Go.Proofs.YtpblpfleiilehafGreatDoor
open Go.ChangeShapes Go.WideShapes Go.ChangeAt Go.RowKit Go.Lib
set_option linter.unusedVariables false

/-- two rows of samples of our own that grow side by side -/
structure TwoS (w0 W : World) (x y : Value) (X Y : List Sx) : Prop where
  ox : W.ownsRow w0.heap.size 54 2 x X.length (saCells X)
  oy : W.ownsRow w0.heap.size 54 2 y Y.length (saCells Y)
  dj : x.ownBlock = none ∨ y.ownBlock = none ∨ x.ownBlock ≠ y.ownBlock
  b : Below w0.heap.size w0 W
theorem TwoS.begin (w0 : World) : TwoS w0 w0 (.slice none 0 0) (.slice none 0 0) [] [] := ⟨World.ownsRow_nil _ _ _ _, World.ownsRow_nil _ _ _ _, .inl rfl, Below.refl _ _⟩
theorem TwoS.up {w0 W W' : World} {x y : Value} {X Y : List Sx} (h : TwoS w0 W x y X Y) (hb : Below W.heap.size W W') : TwoS w0 W' x y X Y := ⟨own_up h.ox hb, own_up h.oy hb, h.dj, below_on h.b hb⟩
theorem TwoS.turn {w0 W : World} {x y : Value} {X Y : List Sx} (h : TwoS w0 W x y X Y) : TwoS w0 W y x Y X := ⟨h.oy, h.ox, by
    rcases h.dj with q | q | q
    · exact .inr (.inl q)
    · exact .inl q
    · exact .inr (.inr (fun e => q e.symm)), h.b⟩
theorem TwoS.first {w0 W w7 : World} {x y : Value} {X Y : List Sx} {o : Obj} {g c : Nat} {u : Sx} (h : TwoS w0 W x y X Y) (hg : (W.alloc o).grownBy w7 x.ownBlock) (ho : w7.ownsRow w0.heap.size 54 2 (.slice (some ⟨g, 0, none⟩) (X.length + 1) c) (X.length + 1) (saCells X ++ [sxV u, .int .i64 u.2.2.2])) (hat : x.ownBlock = some g ∨ g = W.heap.size + 1) :
    TwoS w0 w7 (.slice (some ⟨g, 0, none⟩) (X.length + 1) c) y (X ++ [u]) Y := by
  have hs := h.b.size
  have ne : y.ownBlock = none ∨ y.ownBlock ≠ x.ownBlock := by
    rcases h.dj with q | q | q
    · cases hy : y.ownBlock with
      | none => exact .inl rfl
      | some z => exact .inr (by rw [q]; simp)
    · exact .inl q
    · exact .inr (fun e => q e.symm)
  refine ⟨by rw [saCells_snoc, List.length_append]; exact ho, (h.oy.alloc _).kept hg ne, ?_, ?_⟩
  · rcases ne with q | q
    · exact .inr (.inl q)
    · refine .inr (.inr (fun e => ?_))
      have e' : some g = y.ownBlock := e
      rcases hat with p | p
      · exact q (by rw [p, e'])
      · have := (h.oy.lt g e'.symm).2; omega
  · exact (h.b.alloc (by omega) _).grown hg (by simp; omega) (fun k hk => (h.ox.lt k hk).1)

set_option maxHeartbeats 8000000 in
set_option maxRecDepth 10000 in
theorem part_any (a : Option Addr) (xs : List Sx) (ca m f : Nat) (c : Int) (w : World) (h : RdL w a xs) (A : Ask xs m) (hf : f < m) :
    Calls Tryz.prog 55 #[.agg #[.int .i64 (f : Nat), .int .i64 c], .slice a xs.length ca] w fun e w' => ∃ pa pac pb pbc, e = .returned (.tuple #[.slice pa (partX xs f c true).length pac, .slice pb (partX xs f c false).length pbc]) ∧ RdL w' pa (partX xs f c true) ∧ RdL w' pb (partX xs f c false) ∧ Below w.heap.size w w' ∧ (∀ p, pa = some p → w.heap.size ≤ p.block) ∧ (∀ p, pb = some p → w.heap.size ≤ p.block) := by
  have HL := hide h
  have AA := hide A
  have l60 := A.le
  obtain ⟨i0, hi, hz0, hz1, hz2⟩ := info_parts infoSam
  have I0 := hide hi
  have PM : Hid (∀ b k (hk : k < xs.length), partX (xs.take (k + 1)) f c b = if (decide (xs[k].2.1.getD f 0 < c) == b) = true then partX (xs.take k) f c b ++ [xs[k]] else partX (xs.take k) f c b) := fun b k hk => partX_more xs f c b hk
  have PL : Hid (∀ b k, (partX (xs.take k) f c b).length ≤ 60) := fun b k => Nat.le_trans (List.length_filter_le _ _) (by rw [List.length_take]; omega)
  have PA : Hid (∀ b, partX (xs.take xs.length) f c b = partX xs f c b) := fun b => by rw [List.take_length]
  have PR : Hid (∀ b W, Below w.heap.size w W → ∀ x ∈ partX xs f c b, Rd W x.1 x.2.1) := fun b W hW x hx => (h.2.1 x (partX_mem hx)).below hW
  obtain ⟨w1, hw1⟩ : ∃ W, W = w.alloc (.cells #[.int .i64 (f : Nat), .int .i64 c] 67) := ⟨_, rfl⟩
  have K1 : Hid (Below w.heap.size w w1) := by unfold Hid; rw [hw1]; exact (Below.refl _ w).alloc (Nat.le_refl _) _
  have B1 : Hid (∀ W, Below w1.heap.size w1 W → W.cell? ⟨w.heap.size, 0, none⟩ = some (.int .i64 (f : Nat)) ∧ W.cell? ⟨w.heap.size, 1, none⟩ = some (.int .i64 c)) := fun W hW => ⟨(new_kept hw1 hW).1 0 _ rfl, (new_kept hw1 hW).1 1 _ rfl⟩
  have W1 : Hid (w.heap.size ≤ w1.heap.size) := by unfold Hid; rw [hw1]; simp
  have HW := hide hw1
  clear h A hi hw1
  generalize hPT : partX xs f c true = PT at *
  generalize hPF : partX xs f c false = PF at *
  have PAT : Hid (partX (xs.take xs.length) f c true = PT) := by unfold Hid; rw [PA.out, hPT]
  have PAF : Hid (partX (xs.take xs.length) f c false = PF) := by unfold Hid; rw [PA.out, hPF]
  have PRT : Hid (∀ W, Below w.heap.size w W → ∀ x ∈ PT, Rd W x.1 x.2.1) := by have := PR.out true; rw [hPT] at this; exact this
  have PRF : Hid (∀ W, Below w.heap.size w W → ∀ x ∈ PF, Rd W x.1 x.2.1) := by have := PR.out false; rw [hPF] at this; exact this
  clear PA PR hPT hPF
  go_enter Tryz.func55, Tryz.ntmps55
  go_upto_region 1 with fail
  rw [← HW.out]
  go_wp2
  go_loopw [4, 5, 10] (fun v u i wr => ∃ k : Nat, k ≤ xs.length ∧ i = .int .i64 k ∧ Hid (TwoS w1 wr v u (partX (xs.take k) f c true) (partX (xs.take k) f c false))) (fun _ _ i _ => xs.length - (intOf i).toNat)
  case atStart => exact ⟨0, Nat.zero_le _, rfl, TwoS.begin w1⟩
  case round =>
    obtain ⟨k, hk, rfl, T⟩ := hrel
    have pl1 := PL.out true k
    have pl2 := PL.out false k
    by_cases hlt : k < xs.length
    · have K2 := hide (below_on K1.out T.out.b)
      obtain ⟨bl, ol, rfl, hbl, hcl⟩ := (HL.out.below K2.out).2.2 (by intro e; rw [e] at hlt; simp at hlt)
      obtain ⟨q0, q1⟩ := hcl k hlt
      have hr := AA.out.row xs[k] (List.getElem_mem hlt)
      have fr : f < xs[k].2.1.length := by omega
      obtain ⟨bx, ox, ex, hbx, hcx⟩ := ((HL.out.below K2.out).2.1 xs[k] (List.getElem_mem hlt)).2 (by intro e; rw [e] at fr; simp at fr)
      have hx := hcx f fr
      have pm1 := PM.out true k hlt
      have pm2 := PM.out false k hlt
      have SX : Hid (sxV xs[k] = .slice (some ⟨bx, ox, none⟩) xs[k].2.1.length xs[k].2.2.1) := by unfold Hid sxV; rw [ex]
      unfold sxV at q0
      rw [ex] at q0
      have kz : (k : Int) < (xs.length : Int) := by omega
      have fz : (f : Int) < (xs[k].2.1.length : Int) := by omega
      have f0 : (0 : Int) ≤ (f : Int) := by omega
      obtain ⟨va, vc, rfl⟩ := own_any T.out.ox
      obtain ⟨ua, uc, rfl⟩ := own_any T.out.oy
      have T2 : Hid (∀ o q, TwoS w1 ((wr.alloc o).drewN q) (.slice va (partX (xs.take k) f c true).length vc) (.slice ua (partX (xs.take k) f c false).length uc) (partX (xs.take k) f c true) (partX (xs.take k) f c false)) := fun o q => T.out.up (below_drew ((Below.refl _ wr).alloc (Nat.le_refl _) o) q (by simp))
      have UA : Hid (∀ o, Below wr.heap.size wr (wr.alloc o)) := fun o => (Below.refl _ wr).alloc (Nat.le_refl _) o
      have g0 : ∀ o, (wr.alloc o).cell? ⟨w.heap.size, 0, none⟩ = some (.int .i64 (f : Nat)) := fun o => (B1.out _ (below_on T.out.b (UA.out o))).1
      have g1 : ∀ o, (wr.alloc o).cell? ⟨w.heap.size, 1, none⟩ = some (.int .i64 c) := fun o => (B1.out _ (below_on T.out.b (UA.out o))).2
      have g2 : ∀ o, (wr.alloc o).cell? ⟨bx, ox + f, none⟩ = some (.int .i64 (xs[k].2.1.getD f 0)) := fun o => ((UA.out o).cell (p := ⟨bx, ox + f, none⟩) hbx).trans hx
      have RK := hide (show (some ⟨bx, ox, none⟩ : Option Addr) = xs[k].1 from ex.symm)
      obtain ⟨U, hU⟩ : ∃ U, U = xs[k] := ⟨_, rfl⟩
      rw [← hU] at q0 q1 fz pm1 pm2 SX
      simp only [← hU] at g2
      have sz1 := T.out.b.size
      have SZ := hide sz1
      clear hx UA hcl hcx PM hr fr ex PAT PAF PRT PRF PL HL AA B1 T RK hU sz1 HW
      generalize partX (xs.take k) f c true = P at *
      generalize partX (xs.take k) f c false = Q at *
      have sz := SZ.out
      obtain ⟨ra0, rr, rc, t⟩ := U
      dsimp only at q0 q1 g2 fz pm1 pm2 SX
      generalize hv : rr.getD f 0 = v at *
      generalize rr.length = rl at *
      go_upto_region 4 with fail
      go_quiet (fail)
      obtain ⟨w5, hw5⟩ : ∃ W, W = (wr.alloc (.cells #[.slice (some ⟨bx, ox, none⟩) rl rc, .int .i64 t] 54)).drewN nq := ⟨_, rfl⟩
      rw [← hw5]
      have N5 := hide (new_kept (w := wr) (W := w5) (cs := #[.slice (some ⟨bx, ox, none⟩) rl rc, .int .i64 t]) (t := 54) rfl (by rw [hw5]; exact below_drew (Below.refl _ _) nq (by simp)))
      have n0 := N5.out.1 0 _ rfl
      have n1 := N5.out.1 1 _ rfl
      have T5 : Hid (TwoS w1 w5 (.slice va P.length vc) (.slice ua Q.length uc) P Q) := by unfold Hid; rw [hw5]; exact T2.out _ _
      have sz5 := T5.out.b.size
      clear hw5 T2 N5 g0 g1 g2 q0 q1 sz hv
      cases hq : decide (v < c) with
      | true =>
        rw [hq, if_pos (by decide)] at pm1
        rw [hq, if_neg (by decide)] at pm2
        have PM1 := hide pm1
        have PM2 := hide pm2
        clear pm1 pm2
        go_wp2_with (at_builtin; refine wpList_append_lies _ rfl (.tmp 23) (.tmp 25) 22 rfl w1.heap.size 54 i0 (.agg #[.slice none 0 0, .int .i64 0]) 2 32 Tryz.underlying22 I0.out hz0 hz1 hz2 rfl (by omega) (.slice va P.length vc) P.length (saCells P) rfl (T5.out.ox.alloc _) ⟨w5.heap.size, 0, none⟩ 1 1 [.slice (some ⟨bx, ox, none⟩) rl rc, .int .i64 t] rfl rfl (World.news_of_block (heap_alloc_new _ _)) (by simp [Value.oneCell']) (by omega) (by unfold maxLen; omega) (by omega) (by simp; omega) (w5.heap.size + 1) (by simp) ?_)
        intro g cap w6 hov hgrow hat hlt6
        have T6 : Hid (TwoS w1 w6 (.slice (some ⟨g, 0, none⟩) (P.length + 1) cap) (.slice ua Q.length uc) (partX (xs.take (k + 1)) f c true) (partX (xs.take (k + 1)) f c false)) := by
          unfold Hid; rw [PM1.out, PM2.out]
          exact T5.out.first (u := (ra0, rr, rc, t)) hgrow (by rw [SX.out]; exact hov) hat
        clear hov hgrow hat
        go_wp2
        go_roundw
        case rel => exact ⟨k + 1, by omega, by go_num, T6⟩
        case measure => simp [intOf]; omega
      | false =>
        rw [hq, if_neg (by decide)] at pm1
        rw [hq, if_pos (by decide)] at pm2
        have PM1 := hide pm1
        have PM2 := hide pm2
        clear pm1 pm2
        go_wp2_with (at_builtin; refine wpList_append_lies _ rfl (.tmp 27) (.tmp 29) 22 rfl w1.heap.size 54 i0 (.agg #[.slice none 0 0, .int .i64 0]) 2 32 Tryz.underlying22 I0.out hz0 hz1 hz2 rfl (by omega) (.slice ua Q.length uc) Q.length (saCells Q) rfl (T5.out.oy.alloc _) ⟨w5.heap.size, 0, none⟩ 1 1 [.slice (some ⟨bx, ox, none⟩) rl rc, .int .i64 t] rfl rfl (World.news_of_block (heap_alloc_new _ _)) (by simp [Value.oneCell']) (by omega) (by unfold maxLen; omega) (by omega) (by simp; omega) (w5.heap.size + 1) (by simp) ?_)
        intro g cap w6 hov hgrow hat hlt6
        have T6 : Hid (TwoS w1 w6 (.slice va P.length vc) (.slice (some ⟨g, 0, none⟩) (Q.length + 1) cap) (partX (xs.take (k + 1)) f c true) (partX (xs.take (k + 1)) f c false)) := by
          unfold Hid; rw [PM1.out, PM2.out]
          exact (T5.out.turn.first (u := (ra0, rr, rc, t)) hgrow (by rw [SX.out]; exact hov) hat).turn
        clear hov hgrow hat
        go_wp2
        go_roundw
        case rel => exact ⟨k + 1, by omega, by go_num, T6⟩
        case measure => simp [intOf]; omega
    · have ke : k = xs.length := by omega
      have t := T.out
      rw [ke, PAT.out, PAF.out] at t
      rw [ke, PAT.out] at pl1
      rw [ke, PAF.out] at pl2
      have K2 := hide (below_on K1.out t.b)
      obtain ⟨ga, gc, ev, hr⟩ := own_rdL rfl (by unfold maxLen; omega) t.ox (PRT.out _ K2.out)
      obtain ⟨ha, hc, ev2, hr2⟩ := own_rdL rfl (by unfold maxLen; omega) t.oy (PRF.out _ K2.out)
      subst ev ev2
      have HR := hide hr
      have HR2 := hide hr2
      have L1 : Hid (∀ p, ga = some p → w.heap.size ≤ p.block) := fun p hp => by subst hp; exact Nat.le_trans W1.out (t.ox.lt p.block rfl).1
      have L2 : Hid (∀ p, ha = some p → w.heap.size ≤ p.block) := fun p hp => by subst hp; exact Nat.le_trans W1.out (t.oy.lt p.block rfl).1
      clear ke t T PM PL PAT PAF PRT PRF HL AA hr hr2 pl1 pl2 B1 HW
      go_wp2
      go_ret2
      exact ⟨ga, gc, ha, hc, rfl, HR.out, HR2.out, K2.out, L1.out, L2.out⟩

end Go.Proofs.YtpblpfleiilehafGreatDoor
