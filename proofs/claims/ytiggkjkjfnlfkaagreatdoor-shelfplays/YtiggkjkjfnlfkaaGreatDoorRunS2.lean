/-
  Several texts as one: CdGet, NewKept, Wraps, RefGet, AppInt, TakeR, Ints, OpenB.
-/
import Derived.Test.YtiggkjkjfnlfkaaGreatDoorRunS1
import Derived.Test.YtiggkjkjfnlfkaaGreatDoorRunS0
import Derived.Deep.Cut
import Derived.Deep.CutRange
import Derived.Deep.AppendLies
import Derived.OwnWalk
import Derived.Deep.RegionHeld3
import Derived.RegionTactic
import Derived.ChangeSlices
import Derived.SizedLaws
namespace Go.Proofs.YtiggkjkjfnlfkaaGreatDoor
open Go.ChangeShapes Go.WideShapes Go.ChangeAt Go.RowKit Go.Lib
set_option linter.unusedVariables false
theorem u64_in {n : Int} (h1 : 0 ≤ n) (h2 : n < 18446744073709551616) : IntKind.u64.wrap n = n := by
  rw [IntKind.wrap_u64]; omega
theorem i64_in {x : Int} (h1 : -9223372036854775808 ≤ x) (h2 : x ≤ 9223372036854775807) : IntKind.i64.wrap x = x := by
  simp [IntKind.wrap, IntKind.bits, IntKind.signed]
  split <;> omega
theorem M.pow_seven (k : Nat) : (2 : Nat) ^ (7 * k) = 128 ^ k := by rw [Nat.pow_mul]
/-- bits behind those that are there -/
theorem get_or {X m k : Nat} (hX : X < 128 ^ k) (h : X + m * 128 ^ k < 18446744073709551616) : bits .or .u64 (X : Int) ((m * 128 ^ k : Nat) : Int) = ((X + m * 128 ^ k : Nat) : Int) := by
  have p : 1 ≤ (128 : Nat) ^ k := M.pow_pos7 k
  rw [u64_or_nat X _ (by omega) (by omega), Nat.or_comm, nat_join (7 * k) _ _ (by rw [M.pow_seven, Nat.mul_mod_left]) (by rw [M.pow_seven]; exact hX), Nat.add_comm]
theorem get_shl {m k : Nat} (h : m * 128 ^ k < 18446744073709551616) : IntKind.u64.wrap ((m : Int) * 2 ^ (7 * k)) = ((m * 128 ^ k : Nat) : Int) := by
  have e : (2 : Int) ^ (7 * k) = ((128 ^ k : Nat) : Int) := by rw [← M.pow_seven]; simp
  have e2 : (m : Int) * (2 : Int) ^ (7 * k) = ((m * 128 ^ k : Nat) : Int) := by rw [e]; simp
  rw [e2, u64_in (by omega) (by omega)]

set_option maxHeartbeats 8000000 in
set_option maxRecDepth 10000 in
theorem cdget_same (a : Option Addr) (bs : List Nat) (ca : Nat) (w : World) (h : RdB w a bs) :
    Calls Tryz.prog 245 #[.slice a bs.length ca] w fun e w' => e = .returned (.tuple #[.int .i64 (M.getL bs).1, .int .i64 ((M.getL bs).2.1 : Nat), errV (M.getL bs).2.2]) ∧ w' = w := by
  have hm : bs.length ≤ 9223372036854775807 := h.1
  have G0 : Hid (M.getL bs = M.gtK (bs.drop 0) 0 0) := rfl
  have HB := hide h
  have GA : Hid (∀ i x, i < bs.length → M.gtK (bs.drop i) i x = if (i = 9 ∧ 1 < bs.getD i 0) ∨ (0 < i ∧ bs.getD i 0 = 0) then ((0 : Int), (0 : Nat), (2 : Int)) else if bs.getD i 0 < 128 then (M.unz (x + bs.getD i 0 % 128 * 128 ^ i), i + 1, 0) else M.gtK (bs.drop (i + 1)) (i + 1) (x + bs.getD i 0 % 128 * 128 ^ i)) := fun i x hi => M.gtK_at hi
  have GE : Hid (∀ x, M.gtK (bs.drop bs.length) bs.length x = (0, 0, 8)) := fun x => by rw [List.drop_length]; rfl
  have B8 : Hid (∀ i, i < bs.length → bs.getD i 0 < 256) := fun i hi => h.2.1 _ (by rw [show bs.getD i 0 = bs[i] by simp [List.getD, hi]]; exact List.getElem_mem hi)
  have HU := hide (fun x W hx => unfold_any x W hx)
  generalize hr : M.getL bs = R at *
  clear hr h
  go_enter Tryz.func245, Tryz.ntmps245
  go_wp2
  go_loopw [5, 10] (fun x i wr => ∃ k X : Nat, k ≤ bs.length ∧ i = .int .i64 k ∧ k ≤ 9 ∧ x = .int .u64 (X : Int) ∧ Hid (X < 128 ^ k) ∧ Hid (R = M.gtK (bs.drop k) k X) ∧ Hid (wr = w)) (fun _ i _ => bs.length - (intOf i).toNat)
  case atStart => exact ⟨0, 0, Nat.zero_le _, rfl, by omega, rfl, (by show 0 < 128 ^ 0; decide), G0, rfl⟩
  case round =>
    obtain ⟨k, X, hk, rfl, k9, rfl, hX, ER, EW⟩ := hrel
    have ew := EW.out
    subst ew
    by_cases hlt : k < bs.length
    · have kz : (k : Int) < (bs.length : Int) := by omega
      obtain ⟨b, off, rfl, hb, hc⟩ := HB.out.2.2 (by intro e; rw [e] at hlt; simp at hlt)
      have c0 := hc k hlt
      unfold byV at c0
      have ga := GA.out k X hlt
      have c8 := B8.out k hlt
      have E1 := hide (ER.out.trans ga)
      clear hc GA ga B8 ER G0 HB
      obtain ⟨c, hcc⟩ : ∃ c, c = bs.getD k 0 := ⟨_, rfl⟩
      rw [← hcc] at c0 c8 E1
      clear hcc
      have cm : Int.tmod (c : Int) 128 = ((c % 128 : Nat) : Int) := by rw [Int.tmod_eq_emod_of_nonneg (by omega)]; try omega
      by_cases bad : k = 9 ∧ 1 < c
      · have e1 := E1.out
        rw [if_pos (.inl bad)] at e1
        have ER := hide e1
        obtain ⟨q1, q2⟩ := bad
        have t1 : ((k : Int) == 9) = true := by rw [beq_iff_eq]; omega
        have t2 : decide ((1 : Int) < (c : Int)) = true := decide_eq_true (by omega)
        have t2' : decide (1 < c) = true := decide_eq_true q2
        clear q1 q2 e1 E1 GE
        go_wp2
        go_ret3
        exact ⟨by rw [ER.out]; rfl, rfl⟩
      · obtain ⟨m, hm'⟩ : ∃ m, m = c % 128 := ⟨_, rfl⟩
        rw [← hm'] at cm E1
        have m128 : m < 128 := by omega
        have fit : Hid (X + m * 128 ^ k < 18446744073709551616 ∧ X + m * 128 ^ k < 128 ^ (k + 1)) := by
          have hX := hX.out
          have a1 : m * 128 ^ k ≤ 127 * 128 ^ k := Nat.mul_le_mul_right _ (by omega)
          have a2 : (128 : Nat) ^ (k + 1) = 128 ^ k * 128 := Nat.pow_succ ..
          refine ⟨?_, by omega⟩
          by_cases q : k = 9
          · have : m * 128 ^ k ≤ 1 * 128 ^ k := Nat.mul_le_mul_right _ (by have : ¬ 1 < c := fun z => bad ⟨q, z⟩; omega)
            have p9 : (128 : Nat) ^ k = 9223372036854775808 := q ▸ M.pow9
            omega
          · have p8 : (128 : Nat) ^ k ≤ 128 ^ 8 := Nat.pow_le_pow_right (by omega) (by omega)
            have e8 : (128 : Nat) ^ 8 = 72057594037927936 := by decide
            omega
        have os := get_shl (m := m) (k := k) (by have := fit.out; omega)
        have oo := get_or (X := X) (m := m) (k := k) hX.out fit.out.1
        obtain ⟨Y, hY⟩ : ∃ Y, Y = m * 128 ^ k := ⟨_, rfl⟩
        obtain ⟨Z, hZ⟩ : ∃ Z, Z = X + m * 128 ^ k := ⟨_, rfl⟩
        rw [← hZ] at oo fit E1
        rw [← hY] at oo os
        have Z1 := fit.out.1
        have ZK : Hid (Z < 128 ^ (k + 1)) := fit.out.2
        have y0 : IntKind.u64.wrap (m : Int) = (m : Int) := u64_in (by omega) (by omega)
        have y7 : IntKind.i64.wrap (7 * (k : Int)) = 7 * (k : Int) := i64_in (by omega) (by omega)
        have t9 : ((k : Int) == 9 && decide ((1 : Int) < (c : Int))) = false := by
          by_cases q : k = 9
          · have c1 : ¬ 1 < c := fun z => bad ⟨q, z⟩
            rw [decide_eq_false (by omega), Bool.and_false]
          · rw [show ((k : Int) == 9) = false by rw [beq_eq_false_iff_ne]; omega, Bool.false_and]
        obtain ⟨b1, hb1⟩ : ∃ b1, b1 = ((k : Int) == 9) := ⟨_, rfl⟩
        obtain ⟨b2, hb2⟩ : ∃ b2, b2 = decide ((1 : Int) < (c : Int)) := ⟨_, rfl⟩
        rw [← hb1, ← hb2] at t9
        have t1 := hb1.symm
        have t2 := hb2.symm
        have t2' : decide (1 < c) = b2 := by rw [hb2]; exact decide_eq_decide.2 (by omega)
        have U1 := hide (fun W => HU.out Z W Z1)
        have NB : Hid (¬ (k = 9 ∧ 1 < c)) := bad
        clear hb1 hb2 hY hZ fit hX bad HU
        by_cases s1 : c < 128
        · have t6 : decide ((128 : Int) ≤ (c : Int)) = false := decide_eq_false (by omega)
          have t6' : decide (128 ≤ c) = false := decide_eq_false (by omega)
          by_cases z0 : 0 < k ∧ c = 0
          · have e1 := E1.out
            rw [if_pos (.inr z0)] at e1
            have ER := hide e1
            have t3 : decide ((0 : Int) < (k : Int)) = true := decide_eq_true (by omega)
            have t3' : decide (0 < k) = true := decide_eq_true z0.1
            have t4 : ((c : Int) == 0) = true := by rw [beq_iff_eq]; omega
            have t4' : (c == 0) = true := by rw [beq_iff_eq]; exact z0.2
            clear e1 E1 GE z0 hm' s1
            cases b1 <;> cases b2 <;> first
              | (cases t9; done)
              | (go_wp2
                 go_ret3
                 exact ⟨by rw [ER.out]; rfl, rfl⟩)
          · have e1 := E1.out
            rw [if_neg (fun q => q.elim NB.out z0), if_pos s1] at e1
            have ER := hide e1
            obtain ⟨b3, hb3⟩ : ∃ b3, b3 = decide ((0 : Int) < (k : Int)) := ⟨_, rfl⟩
            obtain ⟨b4, hb4⟩ : ∃ b4, b4 = ((c : Int) == 0) := ⟨_, rfl⟩
            have t34 : (b4 && b3) = false := by
              by_cases q : 0 < k
              · have c0' : ¬ c = 0 := fun z => z0 ⟨q, z⟩
                rw [hb4, show ((c : Int) == 0) = false by rw [beq_eq_false_iff_ne]; omega, Bool.false_and]
              · rw [hb3, decide_eq_false (by omega), Bool.and_false]
            have t3 := hb3.symm
            have t4 := hb4.symm
            have t3' : decide (0 < k) = b3 := by rw [hb3]; exact decide_eq_decide.2 (by omega)
            clear hb3 hb4 e1 E1 GE z0 hm' s1
            cases b1 <;> cases b2 <;> cases b3 <;> cases b4 <;> first
              | (cases t9; done)
              | (cases t34; done)
              | (go_wp2_with (go_at_call 280; refine (U1.out _).mono ?_; rintro e w1 ⟨rfl, rfl⟩)
                 go_ret3
                 exact ⟨by rw [ER.out]; rfl, rfl⟩)
        · have t6 : decide ((128 : Int) ≤ (c : Int)) = true := decide_eq_true (by omega)
          have t6' : decide (128 ≤ c) = true := decide_eq_true (by omega)
          have e1 := E1.out
          rw [if_neg (fun q => q.elim NB.out (fun z => by omega)), if_neg s1] at e1
          have E9 := hide e1
          have K9 : Hid (k + 1 ≤ 9) := by
            have : ¬ k = 9 := fun q => NB.out ⟨q, by omega⟩
            unfold Hid
            omega
          clear e1 E1 GE hm' s1 NB U1
          cases b1 <;> cases b2 <;> first
            | (cases t9; done)
            | (go_wp2
               go_roundw
               case rel => exact ⟨k + 1, Z, by omega, by go_num, K9.out, rfl, ZK, E9, (by first | rfl | trivial)⟩
               case measure => simp [intOf]; omega)
    · have ke : k = bs.length := by omega
      have kz : ¬ ((k : Int) < (bs.length : Int)) := by omega
      have ER2 : Hid (R = (0, 0, 8)) := by unfold Hid; rw [ER.out, ke]; exact GE.out X
      clear ke ER GE GA HB B8 G0
      go_wp2
      go_ret3
      exact ⟨by rw [ER2.out]; rfl, rfl⟩

theorem cdget_any : CdGetGives := fun a bs ca w h => (cdget_same a bs ca w h).mono fun e w' hh => ⟨hh.1, by rw [hh.2]; exact Below.refl _ _⟩
theorem set2 {W : World} {p : Nat} {x0 x1 y0 y1 : Value} (h0 : W.cell? ⟨p, 0, none⟩ = some y0) (h1 : W.cell? ⟨p, 1, none⟩ = some y1) :
    (W.setCell ⟨p, 0, none⟩ x0).cell? ⟨p, 0, none⟩ = some x0 ∧ ((W.setCell ⟨p, 0, none⟩ x0).setCell ⟨p, 1, none⟩ x1).cell? ⟨p, 1, none⟩ = some x1 := by
  refine ⟨World.cell?_setCell_same _ _ _ h0, World.cell?_setCell_same (u := y1) _ _ _ ?_⟩
  rw [World.cell?_setCell_other _ _ _ _ (by intro e; cases e)]; exact h1
theorem below2 {w W : World} {p : Nat} {x0 x1 : Value} (h : Below w.heap.size w W) (hp : w.heap.size ≤ p) : Below w.heap.size w ((W.setCell ⟨p, 0, none⟩ x0).setCell ⟨p, 1, none⟩ x1) :=
  (h.setCell (p := ⟨p, 0, none⟩) hp _).setCell (p := ⟨p, 1, none⟩) hp _
theorem frozen_new2 (V : World) (cs : Array Value) (t : TypeId) (j : Nat) : (V.alloc (.cells cs t)).frozen? ⟨V.heap.size, j, none⟩ = false := by
  unfold World.frozen?
  rw [show (V.alloc (.cells cs t)).heap[V.heap.size]? = some (.cells cs t) from (MapKept.heap_alloc V _).1]
  simp
theorem put4_at {W : World} {p : Nat} {x0 x1 x2 x3 y0 y1 y2 y3 : Value} (h0 : W.cell? ⟨p, 0, none⟩ = some y0) (h1 : W.cell? ⟨p, 1, none⟩ = some y1) (h2 : W.cell? ⟨p, 2, none⟩ = some y2) (h3 : W.cell? ⟨p, 3, none⟩ = some y3) :
    (W.setCell ⟨p, 0, none⟩ x0).cell? ⟨p, 0, none⟩ = some x0 ∧ ((W.setCell ⟨p, 0, none⟩ x0).setCell ⟨p, 1, none⟩ x1).cell? ⟨p, 1, none⟩ = some x1 ∧
    (((W.setCell ⟨p, 0, none⟩ x0).setCell ⟨p, 1, none⟩ x1).setCell ⟨p, 2, none⟩ x2).cell? ⟨p, 2, none⟩ = some x2 ∧
    ((((W.setCell ⟨p, 0, none⟩ x0).setCell ⟨p, 1, none⟩ x1).setCell ⟨p, 2, none⟩ x2).setCell ⟨p, 3, none⟩ x3).cell? ⟨p, 3, none⟩ = some x3 := by
  have o : ∀ (V : World) (i j : Nat) (v : Value), i ≠ j → (V.setCell ⟨p, i, none⟩ v).cell? ⟨p, j, none⟩ = V.cell? ⟨p, j, none⟩ := fun V i j v hij => World.cell?_setCell_other _ _ _ _ (by intro e; cases e; exact hij rfl)
  refine ⟨World.cell?_setCell_same _ _ _ h0, World.cell?_setCell_same (u := y1) _ _ _ ?_, World.cell?_setCell_same (u := y2) _ _ _ ?_, World.cell?_setCell_same (u := y3) _ _ _ ?_⟩
  · rw [o _ _ _ _ (by decide)]; exact h1
  · rw [o _ _ _ _ (by decide), o _ _ _ _ (by decide)]; exact h2
  · rw [o _ _ _ _ (by decide), o _ _ _ _ (by decide), o _ _ _ _ (by decide)]; exact h3
theorem lay4 {w W : World} {p : Nat} {x0 x1 x2 x3 : Value} (h : Below w.heap.size w W) (hp : w.heap.size ≤ p) : Below w.heap.size w ((((W.setCell ⟨p, 0, none⟩ x0).setCell ⟨p, 1, none⟩ x1).setCell ⟨p, 2, none⟩ x2).setCell ⟨p, 3, none⟩ x3) :=
  (((h.setCell (p := ⟨p, 0, none⟩) hp _).setCell (p := ⟨p, 1, none⟩) hp _).setCell (p := ⟨p, 2, none⟩) hp _).setCell (p := ⟨p, 3, none⟩) hp _
theorem set6 {W : World} {p : Nat} {x0 x1 x2 x3 x4 x5 y0 y1 y2 y3 y4 y5 : Value} (h0 : W.cell? ⟨p, 0, none⟩ = some y0) (h1 : W.cell? ⟨p, 1, none⟩ = some y1) (h2 : W.cell? ⟨p, 2, none⟩ = some y2) (h3 : W.cell? ⟨p, 3, none⟩ = some y3) (h4 : W.cell? ⟨p, 4, none⟩ = some y4) (h5 : W.cell? ⟨p, 5, none⟩ = some y5) :
    (W.setCell ⟨p, 0, none⟩ x0).cell? ⟨p, 0, none⟩ = some x0 ∧ ((W.setCell ⟨p, 0, none⟩ x0).setCell ⟨p, 1, none⟩ x1).cell? ⟨p, 1, none⟩ = some x1 ∧
    (((W.setCell ⟨p, 0, none⟩ x0).setCell ⟨p, 1, none⟩ x1).setCell ⟨p, 2, none⟩ x2).cell? ⟨p, 2, none⟩ = some x2 ∧
    ((((W.setCell ⟨p, 0, none⟩ x0).setCell ⟨p, 1, none⟩ x1).setCell ⟨p, 2, none⟩ x2).setCell ⟨p, 3, none⟩ x3).cell? ⟨p, 3, none⟩ = some x3 ∧
    (((((W.setCell ⟨p, 0, none⟩ x0).setCell ⟨p, 1, none⟩ x1).setCell ⟨p, 2, none⟩ x2).setCell ⟨p, 3, none⟩ x3).setCell ⟨p, 4, none⟩ x4).cell? ⟨p, 4, none⟩ = some x4 ∧
    ((((((W.setCell ⟨p, 0, none⟩ x0).setCell ⟨p, 1, none⟩ x1).setCell ⟨p, 2, none⟩ x2).setCell ⟨p, 3, none⟩ x3).setCell ⟨p, 4, none⟩ x4).setCell ⟨p, 5, none⟩ x5).cell? ⟨p, 5, none⟩ = some x5 := by
  have o : ∀ (V : World) (i j : Nat) (v : Value), i ≠ j → (V.setCell ⟨p, i, none⟩ v).cell? ⟨p, j, none⟩ = V.cell? ⟨p, j, none⟩ := fun V i j v hij => World.cell?_setCell_other _ _ _ _ (by intro e; cases e; exact hij rfl)
  refine ⟨World.cell?_setCell_same _ _ _ h0, World.cell?_setCell_same (u := y1) _ _ _ ?_, World.cell?_setCell_same (u := y2) _ _ _ ?_, World.cell?_setCell_same (u := y3) _ _ _ ?_, World.cell?_setCell_same (u := y4) _ _ _ ?_, World.cell?_setCell_same (u := y5) _ _ _ ?_⟩
  · rw [o _ _ _ _ (by decide)]; exact h1
  · rw [o _ _ _ _ (by decide), o _ _ _ _ (by decide)]; exact h2
  · rw [o _ _ _ _ (by decide), o _ _ _ _ (by decide), o _ _ _ _ (by decide)]; exact h3
  · rw [o _ _ _ _ (by decide), o _ _ _ _ (by decide), o _ _ _ _ (by decide), o _ _ _ _ (by decide)]; exact h4
  · rw [o _ _ _ _ (by decide), o _ _ _ _ (by decide), o _ _ _ _ (by decide), o _ _ _ _ (by decide), o _ _ _ _ (by decide)]; exact h5
theorem below6 {w W : World} {p : Nat} {x0 x1 x2 x3 x4 x5 : Value} (h : Below w.heap.size w W) (hp : w.heap.size ≤ p) : Below w.heap.size w ((((((W.setCell ⟨p, 0, none⟩ x0).setCell ⟨p, 1, none⟩ x1).setCell ⟨p, 2, none⟩ x2).setCell ⟨p, 3, none⟩ x3).setCell ⟨p, 4, none⟩ x4).setCell ⟨p, 5, none⟩ x5) :=
  (((((h.setCell (p := ⟨p, 0, none⟩) hp _).setCell (p := ⟨p, 1, none⟩) hp _).setCell (p := ⟨p, 2, none⟩) hp _).setCell (p := ⟨p, 3, none⟩) hp _).setCell (p := ⟨p, 4, none⟩) hp _).setCell (p := ⟨p, 5, none⟩) hp _
/-- a new block, and what lies there as long as all is as it was -/
theorem new_kept {w w1 : World} {cs : Array Value} {t : TypeId} (e : w1 = w.alloc (.cells cs t)) {W : World} (hW : Below w1.heap.size w1 W) : (∀ j v, cs[j]? = some v → W.cell? ⟨w.heap.size, j, none⟩ = some v) ∧ ∀ j, W.frozen? ⟨w.heap.size, j, none⟩ = false := by
  have lt : w.heap.size < w1.heap.size := by rw [e]; simp
  refine ⟨fun j v hv => (hW.cell (p := ⟨w.heap.size, j, none⟩) lt).trans (by rw [e, World.cell?_alloc_new]; exact hv), fun j => ?_⟩
  have f := frozen_new2 w cs t j
  rw [← e] at f
  rw [← f]
  unfold World.frozen?
  rw [hW.block _ lt]
theorem wrap_u64 {x : Int} (h0 : 0 ≤ x) (h1 : x < 18446744073709551616) : IntKind.u64.wrap x = x := by
  simp [IntKind.wrap, IntKind.bits, IntKind.signed]; omega
theorem wrap_i64n {x : Int} (h1 : -9223372036854775808 ≤ x) (h2 : x ≤ 9223372036854775807) : IntKind.i64.wrap x = x := by
  simp [IntKind.wrap, IntKind.bits, IntKind.signed]
  split <;> omega
set_option maxHeartbeats 8000000 in
set_option maxRecDepth 10000 in
theorem rget_any (a : Option Addr) (bs : List Nat) (ca : Nat) (w : World) (h : RdB w a bs) :
    Calls Tryz.prog 151 #[.slice a bs.length ca] w fun e w' => e = .returned (.tuple #[.int .i64 (M.getL bs).1, .int .i64 ((M.getL bs).2.1 : Nat), .int .i64 (M.getL bs).2.2]) ∧ w' = w := by
  have hm : bs.length ≤ 9223372036854775807 := h.1
  have G0 : Hid (M.getL bs = M.gtK (bs.drop 0) 0 0) := rfl
  have HB := hide h
  have GA : Hid (∀ i x, i < bs.length → M.gtK (bs.drop i) i x = if (i = 9 ∧ 1 < bs.getD i 0) ∨ (0 < i ∧ bs.getD i 0 = 0) then ((0 : Int), (0 : Nat), (2 : Int)) else if bs.getD i 0 < 128 then (M.unz (x + bs.getD i 0 % 128 * 128 ^ i), i + 1, 0) else M.gtK (bs.drop (i + 1)) (i + 1) (x + bs.getD i 0 % 128 * 128 ^ i)) := fun i x hi => M.gtK_at hi
  have GE : Hid (∀ x, M.gtK (bs.drop bs.length) bs.length x = (0, 0, 8)) := fun x => by rw [List.drop_length]; rfl
  have B8 : Hid (∀ i, i < bs.length → bs.getD i 0 < 256) := fun i hi => h.2.1 _ (by rw [show bs.getD i 0 = bs[i] by simp [List.getD, hi]]; exact List.getElem_mem hi)
  generalize hr : M.getL bs = R at *
  clear hr h
  go_enter Tryz.func151, Tryz.ntmps151
  go_wp2
  go_loopw [5, 6, 7] (fun x y i wr => ∃ k X : Nat, k ≤ bs.length ∧ i = .int .i64 k ∧ k ≤ 9 ∧ x = .int .u64 (X : Int) ∧ y = .int .u64 ((128 ^ k : Nat) : Int) ∧ X < 128 ^ k ∧ Hid (R = M.gtK (bs.drop k) k X) ∧ Hid (wr = w)) (fun _ _ i _ => bs.length - (intOf i).toNat)
  case atStart => exact ⟨0, 0, Nat.zero_le _, rfl, by omega, rfl, rfl, by decide, G0, rfl⟩
  case round =>
    obtain ⟨k, X, hk, rfl, k9, rfl, rfl, hX, ER, EW⟩ := hrel
    have ew := EW.out
    subst ew
    by_cases hlt : k < bs.length
    · have kz : (k : Int) < (bs.length : Int) := by omega
      obtain ⟨b, off, rfl, hb, hc⟩ := HB.out.2.2 (by intro e; rw [e] at hlt; simp at hlt)
      have c0 := hc k hlt
      unfold byV at c0
      have ga := GA.out k X hlt
      have c8 := B8.out k hlt
      have E1 := hide (ER.out.trans ga)
      clear hc GA ga B8 ER G0 HB
      obtain ⟨c, hcc⟩ : ∃ c, c = bs.getD k 0 := ⟨_, rfl⟩
      rw [← hcc] at c0 c8 E1
      clear hcc
      have p9 : (128 : Nat) ^ k ≤ 128 ^ 9 := Nat.pow_le_pow_right (by omega) k9
      have pp := M.pow_pos7 k
      have pk : Hid ((128 : Nat) ^ (k + 1) = 128 ^ k * 128) := Nat.pow_succ ..
      have p8 : Hid (k ≠ 9 → (128 : Nat) ^ k ≤ 128 ^ 8) := fun q => Nat.pow_le_pow_right (by omega) (by omega)
      have e8 : (128 : Nat) ^ 8 = 72057594037927936 := by decide
      have E8 := hide e8
      rw [M.pow9] at p9
      have k9' : Hid (k = 9 → (128 : Nat) ^ k = 9223372036854775808) := fun q => q ▸ M.pow9
      clear e8
      generalize hP : (128 : Nat) ^ k = P at *
      clear hP
      have w1 : IntKind.u64.wrap (c : Int) = (c : Int) := wrap_u64 (by omega) (by omega)
      have cm : Int.tmod (c : Int) 128 = ((c % 128 : Nat) : Int) := by rw [Int.tmod_eq_emod_of_nonneg (by omega)]; try omega
      by_cases bad : (k = 9 ∧ 1 < c) ∨ (0 < k ∧ c = 0)
      · have e1 := E1.out
        rw [if_pos bad] at e1
        have ER := hide e1
        clear e1 E1 pk p8 E8 k9' GE
        rcases bad with ⟨q1, q2⟩ | ⟨q1, q2⟩
        · have t1 : ((k : Int) == 9) = true := by rw [beq_iff_eq]; omega
          have t1' : (k == 9) = true := by rw [beq_iff_eq]; omega
          have t2 : decide ((1 : Int) < (c : Int)) = true := decide_eq_true (by omega)
          have t2' : decide (1 < c) = true := decide_eq_true q2
          clear q1 q2
          go_wp2
          go_ret3
          exact ⟨by rw [ER.out]; rfl, rfl⟩
        · have t3 : decide ((0 : Int) < (k : Int)) = true := decide_eq_true (by omega)
          have t3' : decide (0 < k) = true := decide_eq_true q1
          have t4 : ((c : Int) == 0) = true := by rw [beq_iff_eq]; omega
          have t4' : (c == 0) = true := by rw [beq_iff_eq]; exact q2
          have t2 : decide ((1 : Int) < (c : Int)) = false := decide_eq_false (by omega)
          have t2' : decide (1 < c) = false := decide_eq_false (by omega)
          clear q1 q2
          cases t1 : ((k : Int) == 9) with
          | true =>
            go_wp2
            go_ret3
            exact ⟨by rw [ER.out]; rfl, rfl⟩
          | false =>
            go_wp2
            go_ret3
            exact ⟨by rw [ER.out]; rfl, rfl⟩
      · have e1 := E1.out
        rw [if_neg bad] at e1
        obtain ⟨m, hm'⟩ : ∃ m, m = c % 128 := ⟨_, rfl⟩
        rw [← hm'] at cm e1
        have m128 : m < 128 := by omega
        have mp : m * P ≤ 18446744073709551616 - P := by
          by_cases q : k = 9
          · have c1 : c ≤ 1 := by
              by_cases z : 1 < c
              · exact absurd (.inl ⟨q, z⟩) bad
              · omega
            have : m * P ≤ 1 * P := Nat.mul_le_mul_right _ (by omega)
            have := k9'.out q
            omega
          · have := p8.out q
            have := E8.out
            have : m * P ≤ 127 * P := Nat.mul_le_mul_right _ (by omega)
            omega
        obtain ⟨Y, hY⟩ : ∃ Y, Y = m * P := ⟨_, rfl⟩
        obtain ⟨Z, hZ⟩ : ∃ Z, Z = X + Y := ⟨_, rfl⟩
        rw [← hY] at mp e1
        rw [← hZ] at e1
        have EY : Hid ((m : Int) * (P : Int) = (Y : Int)) := by unfold Hid; rw [hY]; rfl
        have EZ : Hid ((X : Int) + (m : Int) * (P : Int) = (Z : Int)) := by unfold Hid; rw [EY.out, hZ]; rfl
        have y1 : IntKind.u64.wrap ((m : Int) * (P : Int)) = (m : Int) * (P : Int) := by rw [EY.out]; exact wrap_u64 (by omega) (by omega)
        have y2 : IntKind.u64.wrap ((X : Int) + (m : Int) * (P : Int)) = (X : Int) + (m : Int) * (P : Int) := by rw [EZ.out]; exact wrap_u64 (by omega) (by omega)
        have y0 : IntKind.u64.wrap (m : Int) = (m : Int) := wrap_u64 (by omega) (by omega)
        have Zl : Z < 18446744073709551616 := by omega
        have ZP : Hid (Z < P * 128) := by
          have : m * P ≤ 127 * P := Nat.mul_le_mul_right _ (by omega)
          unfold Hid
          omega
        -- the test ahead
        have t9 : ((k : Int) == 9 && decide ((1 : Int) < (c : Int))) = false := by
          by_cases q : k = 9
          · have c1 : ¬ 1 < c := fun z => bad (.inl ⟨q, z⟩)
            rw [decide_eq_false (by omega), Bool.and_false]
          · rw [show ((k : Int) == 9) = false by rw [beq_eq_false_iff_ne]; omega, Bool.false_and]
        clear hm' hY hZ
        obtain ⟨b1, hb1⟩ : ∃ b1, b1 = ((k : Int) == 9) := ⟨_, rfl⟩
        obtain ⟨b2, hb2⟩ : ∃ b2, b2 = decide ((1 : Int) < (c : Int)) := ⟨_, rfl⟩
        obtain ⟨b3, hb3⟩ : ∃ b3, b3 = decide ((0 : Int) < (k : Int)) := ⟨_, rfl⟩
        obtain ⟨b4, hb4⟩ : ∃ b4, b4 = ((c : Int) == 0) := ⟨_, rfl⟩
        have t34 : (b3 && b4) = false := by
          by_cases q : 0 < k
          · have c0' : ¬ c = 0 := fun z => bad (.inr ⟨q, z⟩)
            rw [hb4, show ((c : Int) == 0) = false by rw [beq_eq_false_iff_ne]; omega, Bool.and_false]
          · rw [hb3, decide_eq_false (by omega), Bool.false_and]
        rw [← hb1, ← hb2] at t9
        have t1 := hb1.symm
        have t2 := hb2.symm
        have t3 := hb3.symm
        have t4 := hb4.symm
        have t2' : decide (1 < c) = b2 := by rw [hb2]; exact decide_eq_decide.2 (by omega)
        have t3' : decide (0 < k) = b3 := by rw [hb3]; exact decide_eq_decide.2 (by omega)
        clear hb1 hb2 hb3 hb4
        by_cases s1 : c < 128
        · rw [if_pos s1] at e1
          have ER := hide e1
          have t6 : decide ((c : Int) < 128) = true := decide_eq_true (by omega)
          have t6' : decide (c < 128) = true := decide_eq_true s1
          have z1 : IntKind.i64.wrap ((Z / 2 : Nat) : Int) = ((Z / 2 : Nat) : Int) := wrap_i64n (by omega) (by omega)
          have z2 : IntKind.i64.wrap (-((Z / 2 : Nat) : Int)) = -((Z / 2 : Nat) : Int) := wrap_i64n (by omega) (by omega)
          have z3 : IntKind.i64.wrap (-((Z / 2 : Nat) : Int) - 1) = -((Z / 2 : Nat) : Int) - 1 := wrap_i64n (by omega) (by omega)
          have z0 : IntKind.u64.wrap ((Z / 2 : Nat) : Int) = ((Z / 2 : Nat) : Int) := wrap_u64 (by omega) (by omega)
          have EU : Hid (M.unz Z = if Z % 2 = 1 then -((Z / 2 : Nat) : Int) - 1 else ((Z / 2 : Nat) : Int)) := rfl
          have zh : ((Z / 2 : Nat) : Int) = Int.tdiv (Z : Int) 2 := by rw [Int.tdiv_eq_ediv_of_nonneg (by omega)]; rfl
          rw [zh] at z0 z1 z2 z3 EU
          by_cases par : Z % 2 = 1
          · have zm : Int.tmod (Z : Int) 2 = 1 := by rw [Int.tmod_eq_emod_of_nonneg (by omega)]; omega
            have E9 : Hid (R = (-(Int.tdiv (Z : Int) 2) - 1, k + 1, 0)) := by unfold Hid; rw [ER.out, EU.out, if_pos par]
            clear ER e1 E1 pk p8 E8 k9' GE EU par zh bad s1 hX
            rw [← EZ.out] at z0 z1 z2 z3 zm E9
            cases b1 <;> cases b2 <;> cases b3 <;> cases b4 <;> first
              | (cases t9; done)
              | (cases t34; done)
              | (go_wp2
                 go_ret3
                 exact ⟨by rw [E9.out]; go_num, rfl⟩)
          · have zm : Int.tmod (Z : Int) 2 = 0 := by rw [Int.tmod_eq_emod_of_nonneg (by omega)]; omega
            have E9 : Hid (R = (Int.tdiv (Z : Int) 2, k + 1, 0)) := by unfold Hid; rw [ER.out, EU.out, if_neg par]
            clear ER e1 E1 pk p8 E8 k9' GE EU par zh bad s1 hX
            rw [← EZ.out] at z0 z1 z2 z3 zm E9
            cases b1 <;> cases b2 <;> cases b3 <;> cases b4 <;> first
              | (cases t9; done)
              | (cases t34; done)
              | (go_wp2
                 go_ret3
                 exact ⟨by rw [E9.out]; go_num, rfl⟩)
        · rw [if_neg s1] at e1
          have k9n : k ≠ 9 := fun q => bad (.inl ⟨q, by omega⟩)
          have P8 := p8.out k9n
          have := E8.out
          have t6 : decide ((c : Int) < 128) = false := decide_eq_false (by omega)
          have t6' : decide (c < 128) = false := decide_eq_false s1
          have y3 : IntKind.u64.wrap ((P : Int) * 128) = (P : Int) * 128 := wrap_u64 (by omega) (by omega)
          have E9 := hide e1
          have K9 : Hid (k + 1 ≤ 9) := by unfold Hid; omega
          have PK : Hid ((P : Int) * 128 = ((128 ^ (k + 1) : Nat) : Int)) := by unfold Hid; rw [pk.out]; rfl
          have ZK : Hid (Z < 128 ^ (k + 1)) := by unfold Hid; rw [pk.out]; exact ZP.out
          clear e1 E1 p8 E8 k9' GE bad s1 hX pk k9n P8 this
          cases b1 <;> cases b2 <;> cases b3 <;> cases b4 <;> first
            | (cases t9; done)
            | (cases t34; done)
            | (go_wp2
               go_roundw
               case rel => exact ⟨k + 1, Z, by omega, by go_num, K9.out, by rw [EZ.out], by rw [PK.out], ZK.out, E9, (by first | rfl | trivial)⟩
               case measure => simp [intOf]; omega)
    · have ke : k = bs.length := by omega
      have kz : ¬ ((k : Int) < (bs.length : Int)) := by omega
      have ER2 : Hid (R = (0, 0, 8)) := by unfold Hid; rw [ER.out, ke]; exact GE.out X
      clear ke ER GE GA HB B8 G0
      go_wp2
      go_ret3
      exact ⟨by rw [ER2.out]; rfl, rfl⟩
/-- a row of numbers of our own, in a block from B on -/
structure IR (B : Nat) (W : World) (g cap n : Nat) (L : List Int) : Prop where
  len : L.length = n
  own : W.ownsRow B 3 1 (.slice (some ⟨g, 0, none⟩) n cap) n (L.map (Value.int .i64))
theorem IR.alloc {B : Nat} {W : World} {g cap n : Nat} {L : List Int} (h : IR B W g cap n L) (o : Obj) : IR B (W.alloc o) g cap n L := ⟨h.len, h.own.alloc o⟩
theorem IR.lt {B : Nat} {W : World} {g cap n : Nat} {L : List Int} (h : IR B W g cap n L) : g < W.heap.size := (h.own.lt g rfl).2
/-- a literal of numbers -/
theorem ir_lit (W : World) (B : Nat) (L : List Int) (hB : B ≤ W.heap.size) (hl : L.length ≤ 1000000) : IR B (W.alloc (.cells (L.map (Value.int .i64)).toArray 3)) W.heap.size L.length L.length L := by
  refine ⟨rfl, ?_⟩
  have := World.ownsRow_lit (base := B) (e := 3) (size := 1) W (L.map (Value.int .i64)).toArray L.length hB (by unfold maxLen; omega) (by simp)
  simpa using this
theorem wpList_append_int {w : World} {ops : Array Oper} {rest : List Oper} {o : Oper} {act : Act} {Q : Exit → Act → World → Prop} (hgd : o.guard = none) (s x : Operand)
    (ho : o.op = .call { callee := .builtin .append, args := #[s, x], argTypes := #[50, 50] })
    (B g cap n : Nat) (L : List Int) (y : Int) (hs : act.eval s = .slice (some ⟨g, 0, none⟩) n cap) (h0 : IR B w g cap n L) (hx : act.eval x = .slice (some ⟨w.heap.size, 0, none⟩) 1 1) (hl : n ≤ 1000000) (hB : B ≤ w.heap.size)
    (h : ∀ g' cap' w', IR B w' g' cap' (n + 1) (L ++ [y]) → Below B w w' → (∀ p, p < w.heap.size → p ≠ g → w'.heap[p]? = w.heap[p]?) → (g' = g ∨ w.heap.size ≤ g') → wpList Tryz.prog ops Q rest (act.put o.dst (.slice (some ⟨g', 0, none⟩) (n + 1) cap')) w') : wpList Tryz.prog ops Q (o :: rest) act (w.alloc (.cells #[.int .i64 y] 3)) := by
  obtain ⟨i0, hi, hz0, hz1, hz2⟩ := info_parts info3
  have e := h0.len
  refine wpList_append_lies _ hgd s x 50 ho B 3 i0 (.int .i64 0) 1 8 Tryz.underlying50 hi hz0 hz1 hz2 rfl (by omega) _ n (L.map (Value.int .i64)) hs (h0.own.alloc _) ⟨w.heap.size, 0, none⟩ 1 1 [.int .i64 y] hx rfl (World.news_of_block (heap_alloc_new _ _)) (by simp [Value.oneCell']) (by omega) (by unfold maxLen; omega) (by omega) (by simp; omega) (w.heap.size + 1) (by simp) ?_
  intro g' cap' w' ho' hgr hg' hlt
  have hb1 : Below B w (w.alloc (.cells #[.int .i64 y] 3)) := (Below.refl _ w).alloc hB _
  refine h g' cap' w' ⟨by rw [List.length_append, e]; rfl, by rw [List.map_append]; exact ho'⟩ (hb1.trans ((Below.refl _ _).grown hgr (by simp; omega) (fun k hk => (h0.own.lt k hk).1))) (fun p hp hne => ?_) ?_
  · rw [hgr.block p (by simp; omega) (by intro q; exact hne (by have := q; simpa [Value.ownBlock] using this))]
    exact ((Below.refl w.heap.size w).alloc (Nat.le_refl _) _).block p hp
  · rcases hg' with hg' | hg'
    · exact .inl (by simpa [Value.ownBlock] using hg'.symm)
    · exact .inr (by omega)
/-- an operation that yields its value wherever a condition holds may be taken first; its slot is a letter -/
theorem take_lg {P : Program} {ops : Array Oper} {Q : Exit → Act → World → Prop} {md : Region.Mode} {S : World → Prop} {i : Nat} {d : Option Tmp} {oi : Oper} {v : Value} {fuel : Nat} {listed : Array Bool} {a : Act} {w : World} (hi : ops[i]? = some oi) (hd : oi.dst = d)
    (hs : Region.noSelect ops = true) (hf : Region.free md ops listed i = true) (hr : (Region.ready md ops listed).contains i = true)
    (hQ : ∀ c a w, Q (.panic c) (a.put d v) w → Q (.panic c) a w) (hy : YieldsIf P ops S oi v a) (hS : S w)
    (h : wpAnyH P md ops Q S fuel (listed.setIfInBounds i true) (a.put d v) w) : wpAnyH P md ops Q S (fuel + 1) listed a w := by
  subst hd
  exact wpAnyH_take hi hs hf hr hQ hy hS h
end Go.Proofs.YtiggkjkjfnlfkaaGreatDoor

namespace Go.Proofs.YtiggkjkjfnlfkaaGreatDoor
open Go.ChangeShapes Go.WideShapes Go.ChangeAt Go.RowKit
set_option linter.unusedVariables false
theorem same_end {xs ys : List Int} (hl : xs.length = ys.length) {k : Nat} (hk : xs.length ≤ k) (h : xs.take k = ys.take k) : decide (xs = ys) = true := by
  rw [List.take_of_length_le hk, List.take_of_length_le (by omega)] at h
  simp [h]
theorem same_next {xs ys : List Int} {k : Nat} (h1 : k < xs.length) (h2 : k < ys.length) (h : xs.take k = ys.take k) (he : xs[k] = ys[k]) : xs.take (k + 1) = ys.take (k + 1) := by
  rw [List.take_succ_eq_append_getElem h1, List.take_succ_eq_append_getElem h2, h, he]
theorem same_not {xs ys : List Int} {k : Nat} (h1 : k < xs.length) (h2 : k < ys.length) (he : xs[k] ≠ ys[k]) : decide (xs = ys) = false := by
  rw [decide_eq_false_iff_not]; intro h; subst h; exact he rfl

set_option maxHeartbeats 2000000 in
theorem ints_any (a b : Option Addr) (xs ys : List Int) (ca cb : Nat) (w : World) (ha : Rd w a xs) (hb : Rd w b ys) :
    Calls Tryz.prog 47 #[.slice a xs.length ca, .slice b ys.length cb] w fun e w' => e = .returned (.bool (decide (xs = ys))) ∧ Below w.heap.size w w' := by
  have hm : xs.length ≤ 9223372036854775807 := ha.1
  have hm2 : ys.length ≤ 9223372036854775807 := hb.1
  by_cases hl : xs.length = ys.length
  · have hn : ((xs.length : Int) != (ys.length : Int)) = false := by rw [bne_eq_false_iff_eq]; omega
    have HL := hide hl
    by_cases hx : xs = []
    · have hy : ys = [] := List.length_eq_zero_iff.1 (by rw [← hl, hx]; rfl)
      subst hx
      subst hy
      clear hl HL hn
      go_enter Tryz.func47, Tryz.ntmps47
      go_wp2
      refine wp_loop_rounds 1 ?_
      rw [rounds_succ]
      go_wp2
      go_ret
      exact ⟨by simp, Below.refl _ _⟩
    · have hy : ys ≠ [] := by intro e; subst e; exact hx (List.length_eq_zero_iff.1 hl)
      obtain ⟨ba, oa, rfl, hba, hca⟩ := ha.2 hx
      obtain ⟨bb, ob, rfl, hbb, hcb⟩ := hb.2 hy
      have HA := hide hca
      have HB := hide hcb
      have SE : Hid (∀ k, xs.length ≤ k → xs.take k = ys.take k → decide (xs = ys) = true) := fun k => same_end hl
      have SN : Hid (∀ k (h1 : k < xs.length) (h2 : k < ys.length), xs[k] ≠ ys[k] → decide (xs = ys) = false) := fun k h1 h2 => same_not h1 h2
      clear hca hcb ha hb hx hy hl
      generalize decide (xs = ys) = r at *
      go_enter Tryz.func47, Tryz.ntmps47
      go_wp2
      go_loopw [5] (fun i wr => ∃ k : Nat, k ≤ xs.length ∧ i = .int .i64 k ∧ Below w.heap.size w wr ∧ Hid (xs.take k = ys.take k)) (fun i _ => xs.length - (intOf i).toNat)
      case atStart => exact ⟨0, Nat.zero_le _, rfl, Below.refl _ _, by unfold Hid; simp⟩
      case round =>
        obtain ⟨k, hk, rfl, hbl, I⟩ := hrel
        by_cases hlt : k < xs.length
        · have hlt2 : k < ys.length := by have := HL.out; omega
          have c1 := (hbl.cell (p := ⟨ba, oa + k, none⟩) hba).trans (Rd.at HA.out k hlt)
          have c2 := (hbl.cell (p := ⟨bb, ob + k, none⟩) hbb).trans (Rd.at HB.out k hlt2)
          by_cases he : xs[k] = ys[k]
          · have N := hide (same_next hlt hlt2 I.out he)
            have q : (xs[k] != ys[k]) = false := by rw [bne_eq_false_iff_eq]; exact he
            clear he
            generalize xs[k] = x at *
            generalize ys[k] = y at *
            go_wp2
            go_region
            all_goals go_wp2
            all_goals go_roundw
            all_goals first | (case rel => exact ⟨k + 1, by omega, by go_num, hbl.drew, N⟩) | skip
            all_goals first | (case measure => simp [intOf]; omega) | skip
          · have E2 : Hid (false = r) := (SN.out k hlt hlt2 he).symm
            have q : (xs[k] != ys[k]) = true := by rw [bne_iff_ne]; exact he
            clear he
            generalize xs[k] = x at *
            generalize ys[k] = y at *
            go_wp2
            go_region
            all_goals go_wp2
            all_goals go_ret
            all_goals exact ⟨ret_bool E2.out, hbl.drew⟩
        · have E2 : Hid (true = r) := (SE.out k (by omega) I.out).symm
          go_wp2
          go_ret
          exact ⟨ret_bool E2.out, hbl⟩
  · have hn : ((xs.length : Int) != (ys.length : Int)) = true := by rw [bne_iff_ne]; omega
    have E : Hid (false = decide (xs = ys)) := by unfold Hid; symm; rw [decide_eq_false_iff_not]; intro e; exact hl (by rw [e])
    clear ha hb hl
    go_enter Tryz.func47, Tryz.ntmps47
    go_wp2
    go_ret
    exact ⟨ret_bool E.out, Below.refl _ _⟩
theorem int_wf {n : Int} (h : (Lit.int .i64 n).wf = true) : -9223372036854775808 ≤ n ∧ n ≤ 9223372036854775807 := by
  simp [Lit.wf, IntKind.min, IntKind.max, IntKind.bits, IntKind.signed] at h
  omega
theorem byte_wf {n : Int} (h : (Lit.int .u8 n).wf = true) : 0 ≤ n ∧ n < 256 := by
  simp [Lit.wf, IntKind.min, IntKind.max, IntKind.bits, IntKind.signed] at h
  omega
theorem open_bytes8 {H : Type} {enc : TypeId × Value → H} {W : World} {base : Nat} {held : Bool} {fuel : Nat} {a : Option Addr} {len cap : Nat} {x : DataW H × List MemPlace}
    (h : DataW.trod enc Tryz.prog W base (fun _ => true) held fuel 34 [.slice a len cap] = some x) : ∃ l : List Nat, l.length = len ∧ RdB W a l ∧ len ≤ cap ∧ cap ≤ 9223372036854775807 ∧ (a = none → cap = 0) ∧ ((x.1 = .nil ∧ len = 0) ∨ ∃ es sp, x.1 = .slice es sp ∧ es.length = len) := by
  rcases open_ints Tryz.underlying34 Tryz.underlying5 (by kernel_rfl) h with ⟨hcs, hx⟩ | ⟨p, l, c, zs, hcs, _, hl, hm, hz, hx, hcell, hwz⟩
  · cases hcs
    exact ⟨[], rfl, ⟨Nat.zero_le _, (fun x hx => by cases hx), fun hn => absurd rfl hn⟩, Nat.le_refl _, by omega, fun _ => rfl, .inl ⟨by rw [hx], rfl⟩⟩
  · cases hcs
    have hz' : zs.length = cap := by simpa using hz
    have tl : (zs.take len).length = len := by rw [List.length_take]; omega
    refine ⟨(zs.take len).map Int.toNat, by rw [List.length_map]; exact tl, ⟨by rw [List.length_map, tl]; omega, ?_, fun hn => ?_⟩, hl, hm, (fun e => by cases e), .inr ⟨_, _, by rw [hx], by simpa [lits] using tl⟩⟩
    · intro y hy
      obtain ⟨n, hn, rfl⟩ := List.mem_map.1 hy
      have := byte_wf (hwz n (List.mem_of_mem_take hn))
      omega
    · have hp : 0 < len := by
        rcases Nat.eq_zero_or_pos len with h0 | h0
        · subst h0; exact absurd rfl hn
        · exact h0
      obtain ⟨b, off, spot⟩ := p
      have hspot : spot = none := by
        have := World.cell?_spot (hcell 0 (by omega))
        simpa [Addr.add] using this
      subst hspot
      have add_flat : ∀ i, (⟨b, off, none⟩ : Addr).add i = ⟨b, off + i, none⟩ := fun i => by unfold Addr.add; simp
      refine ⟨b, off, rfl, ?_, fun i hi => ?_⟩
      · have := hcell 0 (by omega)
        rw [add_flat] at this
        exact block_lt_of_cell this
      · rw [List.length_map, tl] at hi
        have q := hcell i (by omega)
        rw [add_flat] at q
        rw [q]
        have e1 : zs.getD i 0 = zs[i]'(by omega) := by simp [List.getD, show i < zs.length by omega]
        have e2 : ((zs.take len).map Int.toNat).getD i 0 = (zs[i]'(by omega)).toNat := by simp [List.getD, hi, show i < zs.length by omega]
        have w8 := byte_wf (hwz (zs[i]'(by omega)) (List.getElem_mem _))
        rw [e1, e2]
        unfold byV
        rw [Int.toNat_of_nonneg w8.1]
end Go.Proofs.YtiggkjkjfnlfkaaGreatDoor
