/-
  Several texts as one: Put6, TLeft, GFix.
-/
import Derived.Test.YtodidokeblblgaaGreatRunF10
import Derived.Test.YtodidokeblblgaaGreatRunF13
import Derived.Deep.RegionWith
import Derived.RegionTactic
import Derived.Test.YtodidokeblblgaaGreatRunF1
import Derived.Test.YtodidokeblblgaaGreatRunF11
namespace Go.Proofs.YtodidokeblblgaaGreat
open Go.ChangeShapes Go.WideShapes Go.ChangeAt Go.RowKit Go.Lib
set_option linter.unusedVariables false
/-- a node's block, written over -/
abbrev put6 (W : World) (p : Nat) (x0 x1 x2 x3 x4 x5 : Value) : World := (((((W.setCell ⟨p, 0, none⟩ x0).setCell ⟨p, 1, none⟩ x1).setCell ⟨p, 2, none⟩ x2).setCell ⟨p, 3, none⟩ x3).setCell ⟨p, 4, none⟩ x4).setCell ⟨p, 5, none⟩ x5
theorem put6_cells {W : World} {p : Nat} {x0 x1 x2 x3 x4 x5 y0 y1 y2 y3 y4 y5 : Value} (h : W.cell? ⟨p, 0, none⟩ = some y0 ∧ W.cell? ⟨p, 1, none⟩ = some y1 ∧ W.cell? ⟨p, 2, none⟩ = some y2 ∧ W.cell? ⟨p, 3, none⟩ = some y3 ∧ W.cell? ⟨p, 4, none⟩ = some y4 ∧ W.cell? ⟨p, 5, none⟩ = some y5) :
    (put6 W p x0 x1 x2 x3 x4 x5).cell? ⟨p, 0, none⟩ = some x0 ∧ (put6 W p x0 x1 x2 x3 x4 x5).cell? ⟨p, 1, none⟩ = some x1 ∧ (put6 W p x0 x1 x2 x3 x4 x5).cell? ⟨p, 2, none⟩ = some x2 ∧ (put6 W p x0 x1 x2 x3 x4 x5).cell? ⟨p, 3, none⟩ = some x3 ∧ (put6 W p x0 x1 x2 x3 x4 x5).cell? ⟨p, 4, none⟩ = some x4 ∧ (put6 W p x0 x1 x2 x3 x4 x5).cell? ⟨p, 5, none⟩ = some x5 := by
  obtain ⟨h0, h1, h2, h3, h4, h5⟩ := h
  have o : ∀ (V : World) (i j : Nat) (v : Value), i ≠ j → (V.setCell ⟨p, i, none⟩ v).cell? ⟨p, j, none⟩ = V.cell? ⟨p, j, none⟩ := fun V i j v hij => World.cell?_setCell_other _ _ _ _ (by intro e; cases e; exact hij rfl)
  have s : ∀ (V : World) (j : Nat) (v u : Value), V.cell? ⟨p, j, none⟩ = some u → (V.setCell ⟨p, j, none⟩ v).cell? ⟨p, j, none⟩ = some v := fun V j v u hu => World.cell?_setCell_same (u := u) _ _ _ hu
  refine ⟨?_, ?_, ?_, ?_, ?_, ?_⟩
  · rw [o _ _ _ _ (by decide), o _ _ _ _ (by decide), o _ _ _ _ (by decide), o _ _ _ _ (by decide), o _ _ _ _ (by decide), s _ _ _ y0 h0]
  · rw [o _ _ _ _ (by decide), o _ _ _ _ (by decide), o _ _ _ _ (by decide), o _ _ _ _ (by decide), s _ _ _ y1 (by rw [o _ _ _ _ (by decide)]; exact h1)]
  · rw [o _ _ _ _ (by decide), o _ _ _ _ (by decide), o _ _ _ _ (by decide), s _ _ _ y2 (by rw [o _ _ _ _ (by decide), o _ _ _ _ (by decide)]; exact h2)]
  · rw [o _ _ _ _ (by decide), o _ _ _ _ (by decide), s _ _ _ y3 (by rw [o _ _ _ _ (by decide), o _ _ _ _ (by decide), o _ _ _ _ (by decide)]; exact h3)]
  · rw [o _ _ _ _ (by decide), s _ _ _ y4 (by rw [o _ _ _ _ (by decide), o _ _ _ _ (by decide), o _ _ _ _ (by decide), o _ _ _ _ (by decide)]; exact h4)]
  · rw [s _ _ _ y5 (by rw [o _ _ _ _ (by decide), o _ _ _ _ (by decide), o _ _ _ _ (by decide), o _ _ _ _ (by decide), o _ _ _ _ (by decide)]; exact h5)]
theorem put6_below {B : Nat} {w W : World} {p : Nat} {x0 x1 x2 x3 x4 x5 : Value} (h : Below B w W) (hp : B ≤ p) : Below B w (put6 W p x0 x1 x2 x3 x4 x5) :=
  (((((h.setCell (p := ⟨p, 0, none⟩) hp _).setCell (p := ⟨p, 1, none⟩) hp _).setCell (p := ⟨p, 2, none⟩) hp _).setCell (p := ⟨p, 3, none⟩) hp _).setCell (p := ⟨p, 4, none⟩) hp _).setCell (p := ⟨p, 5, none⟩) hp _
theorem put6_frozen {W : World} {p j : Nat} {x0 x1 x2 x3 x4 x5 : Value} (h : W.frozen? ⟨p, j, none⟩ = false) : (put6 W p x0 x1 x2 x3 x4 x5).frozen? ⟨p, j, none⟩ = false := by simpa using h
theorem put6_size {W : World} {p : Nat} {x0 x1 x2 x3 x4 x5 : Value} : (put6 W p x0 x1 x2 x3 x4 x5).heap.size = W.heap.size := by simp

/-- the node in a block -/
def Six (W : World) (p : Nat) (n : M.Nd) : Prop := W.cell? ⟨p, 0, none⟩ = some (.int .i64 (M.nf n)) ∧ W.cell? ⟨p, 1, none⟩ = some (.int .i64 (M.nc n)) ∧ W.cell? ⟨p, 2, none⟩ = some (.int .i64 (M.nl n)) ∧ W.cell? ⟨p, 3, none⟩ = some (.int .i64 (M.nr n)) ∧ W.cell? ⟨p, 4, none⟩ = some (.bool (M.ns n)) ∧ W.cell? ⟨p, 5, none⟩ = some (.int .i64 (M.nv n))
theorem Six.below {W W' : World} {p : Nat} {n : M.Nd} (h : Six W p n) (hb : Below W.heap.size W W') (hp : p < W.heap.size) : Six W' p n :=
  ⟨(hb.cell (p := ⟨p, 0, none⟩) hp).trans h.1, (hb.cell (p := ⟨p, 1, none⟩) hp).trans h.2.1, (hb.cell (p := ⟨p, 2, none⟩) hp).trans h.2.2.1, (hb.cell (p := ⟨p, 3, none⟩) hp).trans h.2.2.2.1, (hb.cell (p := ⟨p, 4, none⟩) hp).trans h.2.2.2.2.1, (hb.cell (p := ⟨p, 5, none⟩) hp).trans h.2.2.2.2.2⟩
theorem Six.drew {W : World} {p : Nat} {n : M.Nd} (h : Six W p n) : Six W.drew p n := h
theorem froz_drew {W : World} {p j : Nat} (h : W.frozen? ⟨p, j, none⟩ = false) : W.drew.frozen? ⟨p, j, none⟩ = false := h
theorem size_drew {W : World} {n : Nat} (h : n < W.heap.size) : n < W.drew.heap.size := h
/-- how far the node in a block is from the end -/
def vFar (p : Nat) (W : World) : Nat :=
  if intOf ((W.cell? ⟨p, 0, none⟩).getD (.int .i64 0)) = -1 then 0 else 2000 - min (intOf ((W.cell? ⟨p, 2, none⟩).getD (.int .i64 0))).toNat (intOf ((W.cell? ⟨p, 3, none⟩).getD (.int .i64 0))).toNat
theorem vFar_six {W : World} {p : Nat} {n : M.Nd} (h : Six W p n) : vFar p W = if M.nf n = -1 then 0 else 2000 - min (M.nl n).toNat (M.nr n).toNat := by
  unfold vFar; rw [h.1, h.2.2.1, h.2.2.2.1]; rfl
theorem toleft_any (n : M.Nd) (x : Int) (w : World) :
    Calls Tryz.prog 73 #[ndV n, .int .i64 x] w fun e w' => e = .returned (.bool (M.lessC n x)) ∧ Below w.heap.size w w' := by
  have NX : Hid (M.lessC n x = if x = M.nilI then M.ns n else decide (x < M.nc n)) := rfl
  unfold ndV
  generalize M.lessC n x = o at *
  generalize M.nc n = c at *
  generalize M.ns n = s at *
  by_cases hn : x = M.nilI
  · have q : (x == -1125899906842624) = true := by rw [beq_iff_eq]; exact hn
    have E : Hid (s = o) := by have := NX.out; rw [if_pos hn] at this; exact this.symm
    clear NX hn
    go_enter Tryz.func73, Tryz.ntmps73
    go_wp2
    go_ret
    exact ⟨ret_bool E.out, (Below.refl _ _).alloc (Nat.le_refl _) _⟩
  · have q : (x == -1125899906842624) = false := by rw [beq_eq_false_iff_ne]; exact hn
    have E : Hid (decide (x < c) = o) := by have := NX.out; rw [if_neg hn] at this; exact this.symm
    clear NX hn
    go_enter Tryz.func73, Tryz.ntmps73
    go_wp2
    go_ret
    exact ⟨ret_bool E.out, (Below.refl _ _).alloc (Nat.le_refl _) _⟩
theorem fit_in (n : Int) (w : World) (h1 : -1099511627776 ≤ n) (h2 : n ≤ 1099511627776) :
    Calls Tryz.prog 104 #[.int .i64 n] w fun e w' => e = .returned (.int .i64 n) ∧ w' = w := by
  go_enter Tryz.func104, Tryz.ntmps104
  go_wp2
  go_ret
  exact ⟨rfl, rfl⟩

theorem size_pos (n : Int) (w : World) (h1 : 0 ≤ n) (h2 : n ≤ 1099511627776) :
    Calls Tryz.prog 105 #[.int .i64 n] w fun e w' => e = .returned (.int .i64 n) ∧ w' = w := by
  go_enter Tryz.func105, Tryz.ntmps105
  go_wp2
  go_ret
  exact ⟨rfl, rfl⟩

theorem size_neg (n X : Int) (w : World) (E : Hid (-n = X)) (h1 : -1099511627776 ≤ n) (h2 : n < 0) :
    Calls Tryz.prog 105 #[.int .i64 n] w fun e w' => e = .returned (.int .i64 X) ∧ w' = w := by
  go_enter Tryz.func105, Tryz.ntmps105
  go_wp2
  go_ret
  exact ⟨ret_int E.out, rfl⟩

theorem add_in (a b : Int) (w : World) (a1 : -549755813888 ≤ a) (a2 : a ≤ 549755813888) (b1 : -549755813888 ≤ b) (b2 : b ≤ 549755813888) :
    Calls Tryz.prog 97 #[.int .i64 a, .int .i64 b] w fun e w' => e = .returned (.int .i64 (a + b)) ∧ w' = w := by
  go_enter Tryz.func97, Tryz.ntmps97
  go_wp2_with (go_at_call 104; refine (fit_in _ _ (by omega) (by omega)).mono ?_; rintro e w' ⟨rfl, rfl⟩)
  go_ret
  exact ⟨rfl, rfl⟩

theorem M.mul_far {a b : Int} (a1 : -1000000 ≤ a) (a2 : a ≤ 1000000) (b1 : 1 ≤ b) (b2 : b ≤ 1000) : -1000000000 ≤ a * b ∧ a * b ≤ 1000000000 := by
  have h1 : a * b ≤ 1000000 * b := Int.mul_le_mul_of_nonneg_right a2 (by omega)
  have h2 : -1000000 * b ≤ a * b := Int.mul_le_mul_of_nonneg_right a1 (by omega)
  omega
theorem M.quo_far {x b : Int} (x1 : 0 < x) (x2 : x ≤ 1000000) (b1 : 1 ≤ b) (b2 : b ≤ 1000) : b ≤ 1099511627776 / x := by
  rw [Int.le_ediv_iff_mul_le x1]
  have h1 : x * b ≤ 1000000 * b := Int.mul_le_mul_of_nonneg_right x2 (by omega)
  rw [Int.mul_comm]
  omega

set_option maxHeartbeats 1000000 in
theorem mul_small (a b : Int) (w : World) (a1 : -1000000 ≤ a) (a2 : a ≤ 1000000) (b1 : 1 ≤ b) (b2 : b ≤ 1000) :
    Calls Tryz.prog 98 #[.int .i64 a, .int .i64 b] w fun e w' => e = .returned (.int .i64 (a * b)) ∧ w' = w := by
  obtain ⟨m1, m2⟩ := M.mul_far a1 a2 b1 b2
  rcases (show a = 0 ∨ 0 < a ∨ a < 0 from by omega) with h0 | h0 | h0
  · have E : Hid (0 = a * b) := by unfold Hid; rw [h0, Int.zero_mul]
    have hz : (a == 0) = true := by rw [h0]; rfl
    clear h0
    go_enter Tryz.func98, Tryz.ntmps98
    go_wp2_with (go_at_call 104; refine (fit_in _ _ (by omega) (by omega)).mono ?_; rintro e w' ⟨rfl, rfl⟩)
    go_ret
    exact ⟨rfl, rfl⟩
  · have hz : (a == 0) = false := by simp; omega
    have hq := M.quo_far h0 a2 b1 b2
    go_enter Tryz.func98, Tryz.ntmps98
    go_wp2_with (first | (go_at_call 104; refine (fit_in _ _ (by omega) (by omega)).mono ?_; rintro e w' ⟨rfl, rfl⟩) | (go_at_call 105; refine (size_pos _ _ (by omega) (by omega)).mono ?_; rintro e w' ⟨rfl, rfl⟩))
    go_ret
    exact ⟨rfl, rfl⟩
  · have hz : (a == 0) = false := by simp; omega
    obtain ⟨X, hX⟩ : ∃ X, -a = X := ⟨_, rfl⟩
    have x1 : 0 < X := by omega
    have x2 : X ≤ 1000000 := by omega
    have hq := M.quo_far x1 x2 b1 b2
    have HX := hide hX
    clear hX
    go_enter Tryz.func98, Tryz.ntmps98
    go_wp2_with (first | (go_at_call 104; refine (fit_in _ _ (by omega) (by omega)).mono ?_; rintro e w' ⟨rfl, rfl⟩) | (go_at_call 105; refine (size_pos _ _ (by omega) (by omega)).mono ?_; rintro e w' ⟨rfl, rfl⟩) | (go_at_call 105; refine (size_neg _ X _ HX (by omega) (by omega)).mono ?_; rintro e w' ⟨rfl, rfl⟩))
    go_ret
    exact ⟨rfl, rfl⟩

set_option maxHeartbeats 1000000 in
theorem total_in (a : Option Addr) (ws : List Int) (ca : Nat) (w : World) (h : Rd w a ws) (h0 : 0 < ws.length) (n12 : ws.length ≤ 12) (hx : ∀ i, i < ws.length → 1 ≤ ws.getD i 0 ∧ ws.getD i 0 ≤ 1000) :
    Calls Tryz.prog 88 #[.slice a ws.length ca] w fun e w' => e = .returned (.int .i64 (M.allK ws ws.length)) ∧ w' = w := by
  obtain ⟨ba, oa, rfl, hba, hca⟩ := h.2 (by intro e; rw [e] at h0; simp at h0)
  have HC := hide hca
  have HX := hide hx
  have SB := hide (fun k (hk : k ≤ ws.length) => M.all_pos (ws := ws) k (fun i hi => hx i (by omega)))
  clear h hca hx hba h0
  go_enter Tryz.func88, Tryz.ntmps88
  go_wp2
  go_loopw [3, 8] (fun s i wr => ∃ k : Nat, k ≤ ws.length ∧ s = .int .i64 (M.allK ws k) ∧ i = .int .i64 k ∧ wr = w) (fun _ i _ => ws.length - (intOf i).toNat)
  case atStart => exact ⟨0, Nat.zero_le _, rfl, rfl, rfl⟩
  case round =>
    obtain ⟨k, hk, rfl, rfl, ew⟩ := hrel
    subst wr
    by_cases hlt : k < ws.length
    · have c1 := HC.out k hlt
      obtain ⟨x1, x2⟩ := HX.out k hlt
      obtain ⟨s1, s2⟩ := SB.out k hk
      have SS : Hid (M.allK ws k + ws.getD k 0 = M.allK ws (k + 1)) := rfl
      have kz : (k : Int) < (ws.length : Int) := by omega
      clear HC HX SB
      generalize ws.getD k 0 = x at *
      go_wp2_with (go_at_call 97; refine (add_in _ _ _ (by omega) (by omega) (by omega) (by omega)).mono ?_; rintro e w1 ⟨rfl, e1⟩; subst w1)
      go_roundw
      case rel => exact ⟨k + 1, by omega, by rw [SS.out], by go_num, (by first | rfl | trivial)⟩
      case measure => simp [intOf]; omega
    · have ek : k = ws.length := by omega
      have EE := hide ek
      clear ek HC HX SB
      go_wp2
      go_ret
      exact ⟨ret_int (by rw [EE.out]), rfl⟩
end Go.Proofs.YtodidokeblblgaaGreat
