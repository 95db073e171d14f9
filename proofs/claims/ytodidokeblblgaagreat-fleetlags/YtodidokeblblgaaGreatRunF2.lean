/-
  Several texts as one: CdGet, NewKept, Wraps, TakeR, CdFold, CdAdd, CdPN, OpenB.
-/
import Derived.Test.YtodidokeblblgaaGreatRunF1
import Derived.Deep.RegionHeld3
import Derived.Test.YtodidokeblblgaaGreatRunF0
import Derived.Laws.BitsAllLaws
import Derived.Laws.DeepNot64
import Derived.Deep.AppendLies
import Derived.Deep.Cut
import Derived.Deep.CutRange
import Derived.ChangeSlices
import Derived.SizedLaws
namespace Go.Proofs.YtodidokeblblgaaGreat
open Go.ChangeShapes Go.WideShapes Go.ChangeAt Go.RowKit Go.Lib
set_option linter.unusedVariables false
theorem u64_in {n : Int} (h1 : 0 ≤ n) (h2 : n < 18446744073709551616) : IntKind.u64.wrap n = n := by
  rw [IntKind.wrap_u64]; omega
theorem i64_in {x : Int} (h1 : -9223372036854775808 ≤ x) (h2 : x ≤ 9223372036854775807) : IntKind.i64.wrap x = x := by
  simp [IntKind.wrap, IntKind.bits, IntKind.signed]
  split <;> omega
theorem M.pow_seven (k : Nat) : (2 : Nat) ^ (7 * k) = 128 ^ k := by rw [Nat.pow_mul]
/-- bits behind those that are there -/
theorem get_or {X m k : Nat} (hX : X < 128 ^ k) (h : X + m * 128 ^ k < 18446744073709551616) : bits .or .u64 (X : Int) ((m * 128 ^ k : Nat) : Int) = ((X + m * 128 ^ k : Nat) : Int) := by
  have p : 1 ≤ (128 : Nat) ^ k := M.pow_pos7 k
  rw [u64_or_nat X _ (by omega) (by omega), Nat.or_comm, nat_join (7 * k) _ _ (by rw [M.pow_seven, Nat.mul_mod_left]) (by rw [M.pow_seven]; exact hX), Nat.add_comm]
theorem get_shl {m k : Nat} (h : m * 128 ^ k < 18446744073709551616) : IntKind.u64.wrap ((m : Int) * 2 ^ (7 * k)) = ((m * 128 ^ k : Nat) : Int) := by
  have e : (2 : Int) ^ (7 * k) = ((128 ^ k : Nat) : Int) := by rw [← M.pow_seven]; simp
  have e2 : (m : Int) * (2 : Int) ^ (7 * k) = ((m * 128 ^ k : Nat) : Int) := by rw [e]; simp
  rw [e2, u64_in (by omega) (by omega)]

set_option maxHeartbeats 8000000 in
set_option maxRecDepth 10000 in
theorem cdget_same (a : Option Addr) (bs : List Nat) (ca : Nat) (w : World) (h : RdB w a bs) :
    Calls Tryz.prog 44 #[.slice a bs.length ca] w fun e w' => e = .returned (.tuple #[.int .i64 (M.getL bs).1, .int .i64 ((M.getL bs).2.1 : Nat), errV (M.getL bs).2.2]) ∧ w' = w := by
  have hm : bs.length ≤ 9223372036854775807 := h.1
  have G0 : Hid (M.getL bs = M.gtK (bs.drop 0) 0 0) := rfl
  have HB := hide h
  have GA : Hid (∀ i x, i < bs.length → M.gtK (bs.drop i) i x = if (i = 9 ∧ 1 < bs.getD i 0) ∨ (0 < i ∧ bs.getD i 0 = 0) then ((0 : Int), (0 : Nat), (2 : Int)) else if bs.getD i 0 < 128 then (M.unz (x + bs.getD i 0 % 128 * 128 ^ i), i + 1, 0) else M.gtK (bs.drop (i + 1)) (i + 1) (x + bs.getD i 0 % 128 * 128 ^ i)) := fun i x hi => M.gtK_at hi
  have GE : Hid (∀ x, M.gtK (bs.drop bs.length) bs.length x = (0, 0, 8)) := fun x => by rw [List.drop_length]; rfl
  have B8 : Hid (∀ i, i < bs.length → bs.getD i 0 < 256) := fun i hi => h.2.1 _ (by rw [show bs.getD i 0 = bs[i] by simp [List.getD, hi]]; exact List.getElem_mem hi)
  have HU := hide (fun x W hx => unfold_any x W hx)
  generalize hr : M.getL bs = R at *
  clear hr h
  go_enter Tryz.func44, Tryz.ntmps44
  go_wp2
  go_loopw [5, 10] (fun x i wr => ∃ k X : Nat, k ≤ bs.length ∧ i = .int .i64 k ∧ k ≤ 9 ∧ x = .int .u64 (X : Int) ∧ Hid (X < 128 ^ k) ∧ Hid (R = M.gtK (bs.drop k) k X) ∧ Hid (wr = w)) (fun _ i _ => bs.length - (intOf i).toNat)
  case atStart => exact ⟨0, 0, Nat.zero_le _, rfl, by omega, rfl, (by show 0 < 128 ^ 0; decide), G0, rfl⟩
  case round =>
    obtain ⟨k, X, hk, rfl, k9, rfl, hX, ER, EW⟩ := hrel
    have ew := EW.out
    subst ew
    by_cases hlt : k < bs.length
    · have kz : (k : Int) < (bs.length : Int) := by omega
      obtain ⟨b, off, rfl, hb, hc⟩ := HB.out.2.2 (by intro e; rw [e] at hlt; simp at hlt)
      have c0 := hc k hlt
      unfold byV at c0
      have ga := GA.out k X hlt
      have c8 := B8.out k hlt
      have E1 := hide (ER.out.trans ga)
      clear hc GA ga B8 ER G0 HB
      obtain ⟨c, hcc⟩ : ∃ c, c = bs.getD k 0 := ⟨_, rfl⟩
      rw [← hcc] at c0 c8 E1
      clear hcc
      have cm : Int.tmod (c : Int) 128 = ((c % 128 : Nat) : Int) := by rw [Int.tmod_eq_emod_of_nonneg (by omega)]; try omega
      by_cases bad : k = 9 ∧ 1 < c
      · have e1 := E1.out
        rw [if_pos (.inl bad)] at e1
        have ER := hide e1
        obtain ⟨q1, q2⟩ := bad
        have t1 : ((k : Int) == 9) = true := by rw [beq_iff_eq]; omega
        have t2 : decide ((1 : Int) < (c : Int)) = true := decide_eq_true (by omega)
        have t2' : decide (1 < c) = true := decide_eq_true q2
        clear q1 q2 e1 E1 GE
        go_wp2
        go_ret3
        exact ⟨by rw [ER.out]; rfl, rfl⟩
      · obtain ⟨m, hm'⟩ : ∃ m, m = c % 128 := ⟨_, rfl⟩
        rw [← hm'] at cm E1
        have m128 : m < 128 := by omega
        have fit : Hid (X + m * 128 ^ k < 18446744073709551616 ∧ X + m * 128 ^ k < 128 ^ (k + 1)) := by
          have hX := hX.out
          have a1 : m * 128 ^ k ≤ 127 * 128 ^ k := Nat.mul_le_mul_right _ (by omega)
          have a2 : (128 : Nat) ^ (k + 1) = 128 ^ k * 128 := Nat.pow_succ ..
          refine ⟨?_, by omega⟩
          by_cases q : k = 9
          · have : m * 128 ^ k ≤ 1 * 128 ^ k := Nat.mul_le_mul_right _ (by have : ¬ 1 < c := fun z => bad ⟨q, z⟩; omega)
            have p9 : (128 : Nat) ^ k = 9223372036854775808 := q ▸ M.pow9
            omega
          · have p8 : (128 : Nat) ^ k ≤ 128 ^ 8 := Nat.pow_le_pow_right (by omega) (by omega)
            have e8 : (128 : Nat) ^ 8 = 72057594037927936 := by decide
            omega
        have os := get_shl (m := m) (k := k) (by have := fit.out; omega)
        have oo := get_or (X := X) (m := m) (k := k) hX.out fit.out.1
        obtain ⟨Y, hY⟩ : ∃ Y, Y = m * 128 ^ k := ⟨_, rfl⟩
        obtain ⟨Z, hZ⟩ : ∃ Z, Z = X + m * 128 ^ k := ⟨_, rfl⟩
        rw [← hZ] at oo fit E1
        rw [← hY] at oo os
        have Z1 := fit.out.1
        have ZK : Hid (Z < 128 ^ (k + 1)) := fit.out.2
        have y0 : IntKind.u64.wrap (m : Int) = (m : Int) := u64_in (by omega) (by omega)
        have y7 : IntKind.i64.wrap (7 * (k : Int)) = 7 * (k : Int) := i64_in (by omega) (by omega)
        have t9 : ((k : Int) == 9 && decide ((1 : Int) < (c : Int))) = false := by
          by_cases q : k = 9
          · have c1 : ¬ 1 < c := fun z => bad ⟨q, z⟩
            rw [decide_eq_false (by omega), Bool.and_false]
          · rw [show ((k : Int) == 9) = false by rw [beq_eq_false_iff_ne]; omega, Bool.false_and]
        obtain ⟨b1, hb1⟩ : ∃ b1, b1 = ((k : Int) == 9) := ⟨_, rfl⟩
        obtain ⟨b2, hb2⟩ : ∃ b2, b2 = decide ((1 : Int) < (c : Int)) := ⟨_, rfl⟩
        rw [← hb1, ← hb2] at t9
        have t1 := hb1.symm
        have t2 := hb2.symm
        have t2' : decide (1 < c) = b2 := by rw [hb2]; exact decide_eq_decide.2 (by omega)
        have U1 := hide (fun W => HU.out Z W Z1)
        have NB : Hid (¬ (k = 9 ∧ 1 < c)) := bad
        clear hb1 hb2 hY hZ fit hX bad HU
        by_cases s1 : c < 128
        · have t6 : decide ((128 : Int) ≤ (c : Int)) = false := decide_eq_false (by omega)
          have t6' : decide (128 ≤ c) = false := decide_eq_false (by omega)
          by_cases z0 : 0 < k ∧ c = 0
          · have e1 := E1.out
            rw [if_pos (.inr z0)] at e1
            have ER := hide e1
            have t3 : decide ((0 : Int) < (k : Int)) = true := decide_eq_true (by omega)
            have t3' : decide (0 < k) = true := decide_eq_true z0.1
            have t4 : ((c : Int) == 0) = true := by rw [beq_iff_eq]; omega
            have t4' : (c == 0) = true := by rw [beq_iff_eq]; exact z0.2
            clear e1 E1 GE z0 hm' s1
            cases b1 <;> cases b2 <;> first
              | (cases t9; done)
              | (go_wp2
                 go_ret3
                 exact ⟨by rw [ER.out]; rfl, rfl⟩)
          · have e1 := E1.out
            rw [if_neg (fun q => q.elim NB.out z0), if_pos s1] at e1
            have ER := hide e1
            obtain ⟨b3, hb3⟩ : ∃ b3, b3 = decide ((0 : Int) < (k : Int)) := ⟨_, rfl⟩
            obtain ⟨b4, hb4⟩ : ∃ b4, b4 = ((c : Int) == 0) := ⟨_, rfl⟩
            have t34 : (b4 && b3) = false := by
              by_cases q : 0 < k
              · have c0' : ¬ c = 0 := fun z => z0 ⟨q, z⟩
                rw [hb4, show ((c : Int) == 0) = false by rw [beq_eq_false_iff_ne]; omega, Bool.false_and]
              · rw [hb3, decide_eq_false (by omega), Bool.and_false]
            have t3 := hb3.symm
            have t4 := hb4.symm
            have t3' : decide (0 < k) = b3 := by rw [hb3]; exact decide_eq_decide.2 (by omega)
            clear hb3 hb4 e1 E1 GE z0 hm' s1
            cases b1 <;> cases b2 <;> cases b3 <;> cases b4 <;> first
              | (cases t9; done)
              | (cases t34; done)
              | (go_wp2_with (go_at_call 64; refine (U1.out _).mono ?_; rintro e w1 ⟨rfl, rfl⟩)
                 go_ret3
                 exact ⟨by rw [ER.out]; rfl, rfl⟩)
        · have t6 : decide ((128 : Int) ≤ (c : Int)) = true := decide_eq_true (by omega)
          have t6' : decide (128 ≤ c) = true := decide_eq_true (by omega)
          have e1 := E1.out
          rw [if_neg (fun q => q.elim NB.out (fun z => by omega)), if_neg s1] at e1
          have E9 := hide e1
          have K9 : Hid (k + 1 ≤ 9) := by
            have : ¬ k = 9 := fun q => NB.out ⟨q, by omega⟩
            unfold Hid
            omega
          clear e1 E1 GE hm' s1 NB U1
          cases b1 <;> cases b2 <;> first
            | (cases t9; done)
            | (go_wp2
               go_roundw
               case rel => exact ⟨k + 1, Z, by omega, by go_num, K9.out, rfl, ZK, E9, (by first | rfl | trivial)⟩
               case measure => simp [intOf]; omega)
    · have ke : k = bs.length := by omega
      have kz : ¬ ((k : Int) < (bs.length : Int)) := by omega
      have ER2 : Hid (R = (0, 0, 8)) := by unfold Hid; rw [ER.out, ke]; exact GE.out X
      clear ke ER GE GA HB B8 G0
      go_wp2
      go_ret3
      exact ⟨by rw [ER2.out]; rfl, rfl⟩

theorem cdget_any : CdGetGives := fun a bs ca w h => (cdget_same a bs ca w h).mono fun e w' hh => ⟨hh.1, by rw [hh.2]; exact Below.refl _ _⟩
theorem set2 {W : World} {p : Nat} {x0 x1 y0 y1 : Value} (h0 : W.cell? ⟨p, 0, none⟩ = some y0) (h1 : W.cell? ⟨p, 1, none⟩ = some y1) :
    (W.setCell ⟨p, 0, none⟩ x0).cell? ⟨p, 0, none⟩ = some x0 ∧ ((W.setCell ⟨p, 0, none⟩ x0).setCell ⟨p, 1, none⟩ x1).cell? ⟨p, 1, none⟩ = some x1 := by
  refine ⟨World.cell?_setCell_same _ _ _ h0, World.cell?_setCell_same (u := y1) _ _ _ ?_⟩
  rw [World.cell?_setCell_other _ _ _ _ (by intro e; cases e)]; exact h1
theorem below2 {w W : World} {p : Nat} {x0 x1 : Value} (h : Below w.heap.size w W) (hp : w.heap.size ≤ p) : Below w.heap.size w ((W.setCell ⟨p, 0, none⟩ x0).setCell ⟨p, 1, none⟩ x1) :=
  (h.setCell (p := ⟨p, 0, none⟩) hp _).setCell (p := ⟨p, 1, none⟩) hp _
theorem frozen_new2 (V : World) (cs : Array Value) (t : TypeId) (j : Nat) : (V.alloc (.cells cs t)).frozen? ⟨V.heap.size, j, none⟩ = false := by
  unfold World.frozen?
  rw [show (V.alloc (.cells cs t)).heap[V.heap.size]? = some (.cells cs t) from (MapKept.heap_alloc V _).1]
  simp
theorem put4_at {W : World} {p : Nat} {x0 x1 x2 x3 y0 y1 y2 y3 : Value} (h0 : W.cell? ⟨p, 0, none⟩ = some y0) (h1 : W.cell? ⟨p, 1, none⟩ = some y1) (h2 : W.cell? ⟨p, 2, none⟩ = some y2) (h3 : W.cell? ⟨p, 3, none⟩ = some y3) :
    (W.setCell ⟨p, 0, none⟩ x0).cell? ⟨p, 0, none⟩ = some x0 ∧ ((W.setCell ⟨p, 0, none⟩ x0).setCell ⟨p, 1, none⟩ x1).cell? ⟨p, 1, none⟩ = some x1 ∧
    (((W.setCell ⟨p, 0, none⟩ x0).setCell ⟨p, 1, none⟩ x1).setCell ⟨p, 2, none⟩ x2).cell? ⟨p, 2, none⟩ = some x2 ∧
    ((((W.setCell ⟨p, 0, none⟩ x0).setCell ⟨p, 1, none⟩ x1).setCell ⟨p, 2, none⟩ x2).setCell ⟨p, 3, none⟩ x3).cell? ⟨p, 3, none⟩ = some x3 := by
  have o : ∀ (V : World) (i j : Nat) (v : Value), i ≠ j → (V.setCell ⟨p, i, none⟩ v).cell? ⟨p, j, none⟩ = V.cell? ⟨p, j, none⟩ := fun V i j v hij => World.cell?_setCell_other _ _ _ _ (by intro e; cases e; exact hij rfl)
  refine ⟨World.cell?_setCell_same _ _ _ h0, World.cell?_setCell_same (u := y1) _ _ _ ?_, World.cell?_setCell_same (u := y2) _ _ _ ?_, World.cell?_setCell_same (u := y3) _ _ _ ?_⟩
  · rw [o _ _ _ _ (by decide)]; exact h1
  · rw [o _ _ _ _ (by decide), o _ _ _ _ (by decide)]; exact h2
  · rw [o _ _ _ _ (by decide), o _ _ _ _ (by decide), o _ _ _ _ (by decide)]; exact h3
theorem lay4 {w W : World} {p : Nat} {x0 x1 x2 x3 : Value} (h : Below w.heap.size w W) (hp : w.heap.size ≤ p) : Below w.heap.size w ((((W.setCell ⟨p, 0, none⟩ x0).setCell ⟨p, 1, none⟩ x1).setCell ⟨p, 2, none⟩ x2).setCell ⟨p, 3, none⟩ x3) :=
  (((h.setCell (p := ⟨p, 0, none⟩) hp _).setCell (p := ⟨p, 1, none⟩) hp _).setCell (p := ⟨p, 2, none⟩) hp _).setCell (p := ⟨p, 3, none⟩) hp _
theorem set6 {W : World} {p : Nat} {x0 x1 x2 x3 x4 x5 y0 y1 y2 y3 y4 y5 : Value} (h0 : W.cell? ⟨p, 0, none⟩ = some y0) (h1 : W.cell? ⟨p, 1, none⟩ = some y1) (h2 : W.cell? ⟨p, 2, none⟩ = some y2) (h3 : W.cell? ⟨p, 3, none⟩ = some y3) (h4 : W.cell? ⟨p, 4, none⟩ = some y4) (h5 : W.cell? ⟨p, 5, none⟩ = some y5) :
    (W.setCell ⟨p, 0, none⟩ x0).cell? ⟨p, 0, none⟩ = some x0 ∧ ((W.setCell ⟨p, 0, none⟩ x0).setCell ⟨p, 1, none⟩ x1).cell? ⟨p, 1, none⟩ = some x1 ∧
    (((W.setCell ⟨p, 0, none⟩ x0).setCell ⟨p, 1, none⟩ x1).setCell ⟨p, 2, none⟩ x2).cell? ⟨p, 2, none⟩ = some x2 ∧
    ((((W.setCell ⟨p, 0, none⟩ x0).setCell ⟨p, 1, none⟩ x1).setCell ⟨p, 2, none⟩ x2).setCell ⟨p, 3, none⟩ x3).cell? ⟨p, 3, none⟩ = some x3 ∧
    (((((W.setCell ⟨p, 0, none⟩ x0).setCell ⟨p, 1, none⟩ x1).setCell ⟨p, 2, none⟩ x2).setCell ⟨p, 3, none⟩ x3).setCell ⟨p, 4, none⟩ x4).cell? ⟨p, 4, none⟩ = some x4 ∧
    ((((((W.setCell ⟨p, 0, none⟩ x0).setCell ⟨p, 1, none⟩ x1).setCell ⟨p, 2, none⟩ x2).setCell ⟨p, 3, none⟩ x3).setCell ⟨p, 4, none⟩ x4).setCell ⟨p, 5, none⟩ x5).cell? ⟨p, 5, none⟩ = some x5 := by
  have o : ∀ (V : World) (i j : Nat) (v : Value), i ≠ j → (V.setCell ⟨p, i, none⟩ v).cell? ⟨p, j, none⟩ = V.cell? ⟨p, j, none⟩ := fun V i j v hij => World.cell?_setCell_other _ _ _ _ (by intro e; cases e; exact hij rfl)
  refine ⟨World.cell?_setCell_same _ _ _ h0, World.cell?_setCell_same (u := y1) _ _ _ ?_, World.cell?_setCell_same (u := y2) _ _ _ ?_, World.cell?_setCell_same (u := y3) _ _ _ ?_, World.cell?_setCell_same (u := y4) _ _ _ ?_, World.cell?_setCell_same (u := y5) _ _ _ ?_⟩
  · rw [o _ _ _ _ (by decide)]; exact h1
  · rw [o _ _ _ _ (by decide), o _ _ _ _ (by decide)]; exact h2
  · rw [o _ _ _ _ (by decide), o _ _ _ _ (by decide), o _ _ _ _ (by decide)]; exact h3
  · rw [o _ _ _ _ (by decide), o _ _ _ _ (by decide), o _ _ _ _ (by decide), o _ _ _ _ (by decide)]; exact h4
  · rw [o _ _ _ _ (by decide), o _ _ _ _ (by decide), o _ _ _ _ (by decide), o _ _ _ _ (by decide), o _ _ _ _ (by decide)]; exact h5
theorem below6 {w W : World} {p : Nat} {x0 x1 x2 x3 x4 x5 : Value} (h : Below w.heap.size w W) (hp : w.heap.size ≤ p) : Below w.heap.size w ((((((W.setCell ⟨p, 0, none⟩ x0).setCell ⟨p, 1, none⟩ x1).setCell ⟨p, 2, none⟩ x2).setCell ⟨p, 3, none⟩ x3).setCell ⟨p, 4, none⟩ x4).setCell ⟨p, 5, none⟩ x5) :=
  (((((h.setCell (p := ⟨p, 0, none⟩) hp _).setCell (p := ⟨p, 1, none⟩) hp _).setCell (p := ⟨p, 2, none⟩) hp _).setCell (p := ⟨p, 3, none⟩) hp _).setCell (p := ⟨p, 4, none⟩) hp _).setCell (p := ⟨p, 5, none⟩) hp _
/-- a new block, and what lies there as long as all is as it was -/
theorem new_kept {w w1 : World} {cs : Array Value} {t : TypeId} (e : w1 = w.alloc (.cells cs t)) {W : World} (hW : Below w1.heap.size w1 W) : (∀ j v, cs[j]? = some v → W.cell? ⟨w.heap.size, j, none⟩ = some v) ∧ ∀ j, W.frozen? ⟨w.heap.size, j, none⟩ = false := by
  have lt : w.heap.size < w1.heap.size := by rw [e]; simp
  refine ⟨fun j v hv => (hW.cell (p := ⟨w.heap.size, j, none⟩) lt).trans (by rw [e, World.cell?_alloc_new]; exact hv), fun j => ?_⟩
  have f := frozen_new2 w cs t j
  rw [← e] at f
  rw [← f]
  unfold World.frozen?
  rw [hW.block _ lt]
theorem wrap_u64 {x : Int} (h0 : 0 ≤ x) (h1 : x < 18446744073709551616) : IntKind.u64.wrap x = x := by
  simp [IntKind.wrap, IntKind.bits, IntKind.signed]; omega
theorem wrap_i64n {x : Int} (h1 : -9223372036854775808 ≤ x) (h2 : x ≤ 9223372036854775807) : IntKind.i64.wrap x = x := by
  simp [IntKind.wrap, IntKind.bits, IntKind.signed]
  split <;> omega
/-- an operation that yields its value wherever a condition holds may be taken first; its slot is a letter -/
theorem take_lg {P : Program} {ops : Array Oper} {Q : Exit → Act → World → Prop} {md : Region.Mode} {S : World → Prop} {i : Nat} {d : Option Tmp} {oi : Oper} {v : Value} {fuel : Nat} {listed : Array Bool} {a : Act} {w : World} (hi : ops[i]? = some oi) (hd : oi.dst = d)
    (hs : Region.noSelect ops = true) (hf : Region.free md ops listed i = true) (hr : (Region.ready md ops listed).contains i = true)
    (hQ : ∀ c a w, Q (.panic c) (a.put d v) w → Q (.panic c) a w) (hy : YieldsIf P ops S oi v a) (hS : S w)
    (h : wpAnyH P md ops Q S fuel (listed.setIfInBounds i true) (a.put d v) w) : wpAnyH P md ops Q S (fuel + 1) listed a w := by
  subst hd
  exact wpAnyH_take hi hs hf hr hQ hy hS h
theorem M.not_nat (x : Nat) (h : x < 18446744073709551616) : 18446744073709551615 ^^^ x = 18446744073709551615 - x := by
  have e := congrArg BitVec.toNat (BitVec.allOnes_xor (x := BitVec.ofNat 64 x))
  rw [BitVec.toNat_xor, BitVec.toNat_not, BitVec.toNat_allOnes, BitVec.toNat_ofNat, Nat.mod_eq_of_lt h] at e
  exact e
theorem u64_not (x : Nat) (h : x < 18446744073709551616) : bits .xor .u64 IntKind.u64.max (x : Int) = ((18446744073709551615 - x : Nat) : Int) := by
  have e : IntKind.u64.max = ((18446744073709551615 : Nat) : Int) := by decide
  rw [e, u64_xor_nat _ _ (by omega) h, M.not_nat x h]

theorem fold_any (n : Int) (w : World) (h1 : -9223372036854775808 ≤ n) (h2 : n ≤ 9223372036854775807) :
    Calls Tryz.prog 90 #[.int .i64 n] w fun e w' => e = .returned (.int .u64 (M.zz n : Nat)) ∧ w' = w := by
  by_cases hn : n < 0
  · have EZ : Hid (bits .xor .u64 IntKind.u64.max (IntKind.u64.wrap (IntKind.u64.wrap n * 2)) = (M.zz n : Int)) := by
      unfold Hid
      have e1 : IntKind.u64.wrap (IntKind.u64.wrap n * 2) = ((2 * n + 18446744073709551616).toNat : Int) := by
        simp [IntKind.wrap, IntKind.bits, IntKind.signed]; omega
      rw [e1, u64_not _ (by omega)]
      unfold M.zz; rw [if_pos hn]; omega
    go_enter Tryz.func90, Tryz.ntmps90
    go_wp2
    go_ret
    exact ⟨by rw [← EZ.out]; rfl, rfl⟩
  · have EZ : Hid (n * 2 = (M.zz n : Int)) := by unfold Hid M.zz; rw [if_neg hn]; omega
    go_enter Tryz.func90, Tryz.ntmps90
    go_wp2
    go_ret
    exact ⟨by rw [← EZ.out]; rfl, rfl⟩
/-- bytes in a row of our own that was there at w, or lies in a block that is new since; all else is as it was at w -/
structure BWy (B : Nat) (w : World) (r : Option Nat) (W : World) (va : Option Addr) (vc : Nat) (L : List Nat) : Prop where
  own : W.ownsRow B 5 1 (.slice va L.length vc) L.length (byCells L)
  gr : w.grownBy W r
  ob : (Value.slice va L.length vc).ownBlock = r ∨ ∀ q, (Value.slice va L.length vc).ownBlock = some q → w.heap.size ≤ q
  le : B ≤ w.heap.size
theorem BWy.alloc {B : Nat} {w : World} {r : Option Nat} {W : World} {va : Option Addr} {vc : Nat} {L : List Nat} (h : BWy B w r W va vc L) (o : Obj) : BWy B w r (W.alloc o) va vc L :=
  ⟨h.own.alloc o, grown_trans h.gr (grown_of ((Below.refl _ W).alloc (Nat.le_refl _) o) none) (.inr (fun q hq => by cases hq)), h.ob, h.le⟩
theorem wpList_append_b1 {W : World} {ops : Array Oper} {rest : List Oper} {o : Oper} {act : Act} {Q : Exit → Act → World → Prop} (hgd : o.guard = none) (s x : Operand)
    (ho : o.op = .call { callee := .builtin .append, args := #[s, x], argTypes := #[33, 33] })
    (B : Nat) (w : World) (r : Option Nat) (va : Option Addr) (vc : Nat) (L : List Nat) (y : Nat) (z : Int) (t : TypeId) (hz : z = (y : Int)) (hs : act.eval s = .slice va L.length vc) (h0 : BWy B w r W va vc L) (hx : act.eval x = .slice (some ⟨W.heap.size, 0, none⟩) 1 1) (hl : L.length + 1 ≤ 140737488355328)
    (h : ∀ g cap w', BWy B w r w' (some ⟨g, 0, none⟩) cap (L ++ [y]) → wpList Tryz.prog ops Q rest (act.put o.dst (.slice (some ⟨g, 0, none⟩) (L.length + 1) cap)) w') : wpList Tryz.prog ops Q (o :: rest) act (W.alloc (.cells #[.int .u8 z] t)) := by
  subst hz
  obtain ⟨i0, hi, hz0, hz1, hz2⟩ := info_parts info8
  have hA := h0.alloc (.cells #[.int .u8 (y : Int)] t)
  refine wpList_append_lies _ hgd s x 33 ho B 5 i0 (.int .u8 0) 1 1 Tryz.underlying33 hi hz0 hz1 hz2 rfl (by omega) _ L.length (byCells L) hs hA.own ⟨W.heap.size, 0, none⟩ 1 1 [.int .u8 (y : Int)] hx rfl (World.news_of_block (heap_alloc_new _ _)) (by simp [Value.oneCell']) (by omega) (by unfold maxLen; omega) (by omega) (Nat.le_trans hA.le hA.gr.size) (W.heap.size + 1) (by simp) ?_
  intro g cap w' ho' hgr hg' hlt
  have el : (L ++ [y]).length = L.length + 1 := by simp
  refine h g cap w' ⟨?_, grown_trans hA.gr hgr h0.ob, ?_, h0.le⟩
  · rw [el, byCells_app]; exact ho'
  · rw [el]
    have hob : (Value.slice (some ⟨g, 0, none⟩) (L.length + 1) cap).ownBlock = some g := by simp [Value.ownBlock]
    rw [hob]
    rcases hg' with hg' | hg'
    · rw [← hg']; exact h0.ob
    · refine .inr fun q hq => ?_
      have hs := h0.gr.size
      cases hq
      omega

set_option maxHeartbeats 4000000 in
set_option maxRecDepth 10000 in
theorem add_any (B : Nat) (va : Option Addr) (vc : Nat) (L : List Nat) (na : Option Addr) (ns : List Int) (nc : Nat) (w : World) (hB : B ≤ w.heap.size) (ho : w.ownsRow B 5 1 (.slice va L.length vc) L.length (byCells L)) (hn : Rd w na ns) (hi : ∀ x ∈ ns, -9223372036854775808 ≤ x ∧ x ≤ 9223372036854775807)
    (hne : ns ≠ [] → ∀ p, na = some p → (Value.slice va L.length vc).ownBlock ≠ some p.block) (hl : L.length + 10 * ns.length ≤ 140737488355328) :
    Calls Tryz.prog 77 #[.slice va L.length vc, .slice na ns.length nc] w fun e w' => ∃ va' vc', e = .returned (.slice va' (L ++ M.bysL ns).length vc') ∧ BWy B w (Value.slice va L.length vc).ownBlock w' va' vc' (L ++ M.bysL ns) := by
  have hm : ns.length ≤ 9223372036854775807 := by omega
  obtain ⟨r, hr⟩ : ∃ r, r = (Value.slice va L.length vc).ownBlock := ⟨_, rfl⟩
  rw [← hr] at hne
  have B0 : Hid (BWy B w r w va vc L) := ⟨ho, World.grownBy.refl _ _, .inl hr.symm, hB⟩
  have HN : Hid (∀ W, w.grownBy W r → Rd W na ns) := fun W hW => rd_grown hn hW (fun h p hp e => hne h p hp e.symm)
  have HI := hide hi
  have LL := hide hl
  have HF := hide (fun n W h1 h2 => fold_any n W h1 h2)
  rw [← hr]
  clear hr ho hn hi hne hl
  go_enter Tryz.func77, Tryz.ntmps77
  go_wp2
  go_loopw [0, 10] (fun v i wr => ∃ (k : Nat) (ua : Option Addr) (uc : Nat), k ≤ ns.length ∧ i = .int .i64 k ∧ v = .slice ua (L ++ M.bysL (ns.take k)).length uc ∧ Hid (BWy B w r wr ua uc (L ++ M.bysL (ns.take k)))) (fun _ i _ => ns.length - (intOf i).toNat)
  case atStart => exact ⟨0, va, vc, Nat.zero_le _, rfl, by simp [M.bysL], by unfold Hid; simpa [M.bysL] using B0.out⟩
  case round =>
    obtain ⟨k, ua, uc, hk, rfl, rfl, HB⟩ := hrel
    by_cases hlt : k < ns.length
    · have kz : (k : Int) < (ns.length : Int) := by omega
      obtain ⟨b, off, rfl, hb, hc⟩ := (HN.out wr HB.out.gr).2 (by intro e; rw [e] at hlt; simp at hlt)
      have c0 := hc k hlt
      have ee : ns.getD k 0 = ns[k] := by simp [List.getD, hlt]
      rw [ee] at c0
      have ei := HI.out ns[k] (List.getElem_mem hlt)
      have F1 := hide (fun W => HF.out ns[k] W ei.1 ei.2)
      have more : Hid (L ++ M.bysL (ns.take (k + 1)) = L ++ M.bysL (ns.take k) ++ M.sev (M.zz ns[k])) := by
        unfold Hid
        rw [List.take_succ_eq_append_getElem hlt, M.bys_app, ← List.append_assoc]
        congr 1
        rw [M.bys_cons]
        show M.numL _ ++ [] = _
        rw [List.append_nil]; rfl
      have zl := M.zz_lt ei.1 ei.2
      have bl : Hid ((L ++ M.bysL (ns.take k)).length ≤ L.length + 10 * k) := by
        have := M.bys_len (ns.take k) fun x hx => HI.out x (List.mem_of_mem_take hx)
        unfold Hid
        rw [List.length_append]
        rw [List.length_take] at this
        omega
      clear hc ee ei
      obtain ⟨P, hP⟩ : ∃ P, P = L ++ M.bysL (ns.take k) := ⟨_, rfl⟩
      rw [← hP] at HB more bl ⊢
      clear hP
      generalize ns[k] = x at *
      have SL : Hid (∀ Q u, Q ++ M.sev u = P ++ M.sev (M.zz x) → Q.length + 1 ≤ 140737488355328) := fun Q u e => by
        have e1 := congrArg List.length e
        rw [List.length_append, List.length_append] at e1
        have p1 : 1 ≤ (M.sev u).length := List.length_pos_iff.2 (M.sev_ne u)
        have p2 := M.sev_ten zl
        have := bl.out
        have := LL.out
        omega
      go_upto_region 5 with (go_at_call 90; refine (F1.out _).mono ?_; rintro e w1 ⟨rfl, rfl⟩)
      clear F1
      go_loopw [0, 7] (fun v x' wr => ∃ (u : Nat) (Q : List Nat) (ua : Option Addr) (uc : Nat), v = .slice ua Q.length uc ∧ x' = .int .u64 (u : Int) ∧ u < 18446744073709551616 ∧ Hid (Q ++ M.sev u = P ++ M.sev (M.zz x)) ∧ Hid (BWy B w r wr ua uc Q)) (fun _ x _ => (intOf x).toNat)
      case atStart => exact ⟨M.zz x, P, ua, uc, rfl, rfl, zl, rfl, HB⟩
      case round =>
        clear HB
        obtain ⟨u, Q, ua, uc, rfl, rfl, hu, EL, HB⟩ := hrel
        have ll := SL.out Q u EL.out
        by_cases hq : 127 < u
        · have q : decide ((128 : Int) ≤ (u : Int)) = true := decide_eq_true (by omega)
          have q2 : ((128 : Int) ≤ (u : Int)) := by omega
          obtain ⟨m, hm'⟩ : ∃ m, m = u % 128 := ⟨_, rfl⟩
          obtain ⟨d, hd⟩ : ∃ d, d = u / 128 := ⟨_, rfl⟩
          have r1 : (u : Int) % 128 = (m : Int) := by omega
          have r2 : Int.tmod (u : Int) 128 = (m : Int) := by rw [Int.tmod_eq_emod_of_nonneg (by omega)]; omega
          have d1 : (u : Int) / 128 = (d : Int) := by omega
          have E2 : Hid ((Q ++ [m + 128]) ++ M.sev d = P ++ M.sev (M.zz x)) := by
            unfold Hid
            rw [← EL.out, M.sev_more hq, ← hm', ← hd, List.append_assoc]
            rfl
          have m128 : m < 128 := by omega
          have dlt : d < u := by omega
          clear hm' hd EL
          go_wp2_with (at_builtin; refine wpList_append_b1 rfl (.tmp 20) (.tmp 25) rfl B w r ua uc Q (m + 128) _ _ (by omega) rfl HB.out rfl ll ?_; intro g cap w2 hb2; have B2 := hide hb2; clear hb2)
          go_roundw
          case rel => exact ⟨d, Q ++ [m + 128], _, _, by rw [List.length_append]; rfl, rfl, by omega, E2, B2⟩
          case measure => simp [intOf]; omega
        · have q : decide ((128 : Int) ≤ (u : Int)) = false := decide_eq_false (by omega)
          have q2 : ¬ ((128 : Int) ≤ (u : Int)) := by omega
          have E2 : Hid (Q ++ [u] = L ++ M.bysL (ns.take (k + 1))) := by unfold Hid; rw [more.out, ← EL.out, M.sev_last hq]
          clear EL
          go_wp2_with (at_builtin; refine wpList_append_b1 rfl (.tmp 27) (.tmp 30) rfl B w r ua uc Q u _ _ rfl rfl HB.out rfl ll ?_; intro g cap w2 hb2; have B2 := hide hb2; clear hb2)
          exact ⟨⟨k + 1, _, _, hlt, rfl, by rw [← E2.out, List.length_append]; rfl, by unfold Hid; rw [← E2.out]; exact B2.out⟩, by show ns.length - (((k : Int) + 1).toNat) < ns.length - ((k : Int).toNat); omega⟩
    · have ek : k = ns.length := by omega
      have kz : ¬ ((k : Int) < (ns.length : Int)) := by omega
      have B2 : Hid (BWy B w r wr ua uc (L ++ M.bysL ns)) := by have := HB.out; rw [ek, List.take_length] at this; exact this
      rw [show ns.take k = ns by rw [ek, List.take_length]]
      clear ek HB HN HI HF
      go_wp2
      go_ret
      exact ⟨_, _, rfl, B2.out⟩
def CdNumGives : Prop := ∀ (a : Option Addr) (bs : List Nat) (c : Nat) (n : Int) (W : World), RdB W a bs → (a = none → c = 0) → bs.length ≤ 140737488351232 → -9223372036854775808 ≤ n → n ≤ 9223372036854775807 → Calls Tryz.prog 56 #[.slice a bs.length c, .int .i64 n] W fun e w' => ∃ v, e = .returned v ∧ w'.ownsRow W.heap.size 5 1 v (bs ++ M.numL n).length (byCells (bs ++ M.numL n)) ∧ Below W.heap.size W w'
end Go.Proofs.YtodidokeblblgaaGreat

namespace Go.Proofs.YtodidokeblblgaaGreat
open Go.ChangeShapes Go.WideShapes Go.ChangeAt Go.RowKit
set_option linter.unusedVariables false
theorem int_wf {n : Int} (h : (Lit.int .i64 n).wf = true) : -9223372036854775808 ≤ n ∧ n ≤ 9223372036854775807 := by
  simp [Lit.wf, IntKind.min, IntKind.max, IntKind.bits, IntKind.signed] at h
  omega
theorem byte_wf {n : Int} (h : (Lit.int .u8 n).wf = true) : 0 ≤ n ∧ n < 256 := by
  simp [Lit.wf, IntKind.min, IntKind.max, IntKind.bits, IntKind.signed] at h
  omega
theorem open_bytes8 {H : Type} {enc : TypeId × Value → H} {W : World} {base : Nat} {held : Bool} {fuel : Nat} {a : Option Addr} {len cap : Nat} {x : DataW H × List MemPlace}
    (h : DataW.trod enc Tryz.prog W base (fun _ => true) held fuel 33 [.slice a len cap] = some x) : ∃ l : List Nat, l.length = len ∧ RdB W a l ∧ len ≤ cap ∧ cap ≤ 9223372036854775807 ∧ (a = none → cap = 0) ∧ ((x.1 = .nil ∧ len = 0) ∨ ∃ es sp, x.1 = .slice es sp ∧ es.length = len) := by
  rcases open_ints Tryz.underlying33 Tryz.underlying5 (by kernel_rfl) h with ⟨hcs, hx⟩ | ⟨p, l, c, zs, hcs, _, hl, hm, hz, hx, hcell, hwz⟩
  · cases hcs
    exact ⟨[], rfl, ⟨Nat.zero_le _, (fun x hx => by cases hx), fun hn => absurd rfl hn⟩, Nat.le_refl _, by omega, fun _ => rfl, .inl ⟨by rw [hx], rfl⟩⟩
  · cases hcs
    have hz' : zs.length = cap := by simpa using hz
    have tl : (zs.take len).length = len := by rw [List.length_take]; omega
    refine ⟨(zs.take len).map Int.toNat, by rw [List.length_map]; exact tl, ⟨by rw [List.length_map, tl]; omega, ?_, fun hn => ?_⟩, hl, hm, (fun e => by cases e), .inr ⟨_, _, by rw [hx], by simpa [lits] using tl⟩⟩
    · intro y hy
      obtain ⟨n, hn, rfl⟩ := List.mem_map.1 hy
      have := byte_wf (hwz n (List.mem_of_mem_take hn))
      omega
    · have hp : 0 < len := by
        rcases Nat.eq_zero_or_pos len with h0 | h0
        · subst h0; exact absurd rfl hn
        · exact h0
      obtain ⟨b, off, spot⟩ := p
      have hspot : spot = none := by
        have := World.cell?_spot (hcell 0 (by omega))
        simpa [Addr.add] using this
      subst hspot
      have add_flat : ∀ i, (⟨b, off, none⟩ : Addr).add i = ⟨b, off + i, none⟩ := fun i => by unfold Addr.add; simp
      refine ⟨b, off, rfl, ?_, fun i hi => ?_⟩
      · have := hcell 0 (by omega)
        rw [add_flat] at this
        exact block_lt_of_cell this
      · rw [List.length_map, tl] at hi
        have q := hcell i (by omega)
        rw [add_flat] at q
        rw [q]
        have e1 : zs.getD i 0 = zs[i]'(by omega) := by simp [List.getD, show i < zs.length by omega]
        have e2 : ((zs.take len).map Int.toNat).getD i 0 = (zs[i]'(by omega)).toNat := by simp [List.getD, hi, show i < zs.length by omega]
        have w8 := byte_wf (hwz (zs[i]'(by omega)) (List.getElem_mem _))
        rw [e1, e2]
        unfold byV
        rw [Int.toNat_of_nonneg w8.1]
end Go.Proofs.YtodidokeblblgaaGreat
