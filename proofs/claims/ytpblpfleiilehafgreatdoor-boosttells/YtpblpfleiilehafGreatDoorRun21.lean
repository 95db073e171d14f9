/-
  Several texts as one: GFix, FixAny, GFill, BooSq, BooLeft.
-/
import Derived.Test.YtpblpfleiilehafGreatDoorRun0
import Derived.Test.YtpblpfleiilehafGreatDoorRun8
import Derived.OwnWalk
import Derived.Test.YtpblpfleiilehafGreatDoorRun9
import Derived.Test.YtpblpfleiilehafGreatDoorRun7
import Derived.Test.YtpblpfleiilehafGreatDoorRun17
import Derived.Deep.Cut
import Derived.BigQuiet
import Derived.Deep.QuietTactic
namespace Go.Proofs.YtpblpfleiilehafGreatDoor
open Go.ChangeShapes Go.WideShapes Go.ChangeAt Go.RowKit Go.Lib
set_option linter.unusedVariables false

theorem fit_in (n : Int) (w : World) (h1 : -1099511627776 ≤ n) (h2 : n ≤ 1099511627776) :
    Calls Tryz.prog 96 #[.int .i64 n] w fun e w' => e = .returned (.int .i64 n) ∧ w' = w := by
  go_enter Tryz.func96, Tryz.ntmps96
  go_wp2
  go_ret
  exact ⟨rfl, rfl⟩

theorem size_pos (n : Int) (w : World) (h1 : 0 ≤ n) (h2 : n ≤ 1099511627776) :
    Calls Tryz.prog 97 #[.int .i64 n] w fun e w' => e = .returned (.int .i64 n) ∧ w' = w := by
  go_enter Tryz.func97, Tryz.ntmps97
  go_wp2
  go_ret
  exact ⟨rfl, rfl⟩

theorem size_neg (n X : Int) (w : World) (E : Hid (-n = X)) (h1 : -1099511627776 ≤ n) (h2 : n < 0) :
    Calls Tryz.prog 97 #[.int .i64 n] w fun e w' => e = .returned (.int .i64 X) ∧ w' = w := by
  go_enter Tryz.func97, Tryz.ntmps97
  go_wp2
  go_ret
  exact ⟨ret_int E.out, rfl⟩

theorem add_in (a b : Int) (w : World) (a1 : -549755813888 ≤ a) (a2 : a ≤ 549755813888) (b1 : -549755813888 ≤ b) (b2 : b ≤ 549755813888) :
    Calls Tryz.prog 98 #[.int .i64 a, .int .i64 b] w fun e w' => e = .returned (.int .i64 (a + b)) ∧ w' = w := by
  go_enter Tryz.func98, Tryz.ntmps98
  go_wp2_with (go_at_call 96; refine (fit_in _ _ (by omega) (by omega)).mono ?_; rintro e w' ⟨rfl, rfl⟩)
  go_ret
  exact ⟨rfl, rfl⟩

theorem M.mul_far {a b : Int} (a1 : -1000000 ≤ a) (a2 : a ≤ 1000000) (b1 : 1 ≤ b) (b2 : b ≤ 1000) : -1000000000 ≤ a * b ∧ a * b ≤ 1000000000 := by
  have h1 : a * b ≤ 1000000 * b := Int.mul_le_mul_of_nonneg_right a2 (by omega)
  have h2 : -1000000 * b ≤ a * b := Int.mul_le_mul_of_nonneg_right a1 (by omega)
  omega
theorem M.quo_far {x b : Int} (x1 : 0 < x) (x2 : x ≤ 1000000) (b1 : 1 ≤ b) (b2 : b ≤ 1000) : b ≤ 1099511627776 / x := by
  rw [Int.le_ediv_iff_mul_le x1]
  have h1 : x * b ≤ 1000000 * b := Int.mul_le_mul_of_nonneg_right x2 (by omega)
  rw [Int.mul_comm]
  omega

set_option maxHeartbeats 1000000 in
theorem mul_small (a b : Int) (w : World) (a1 : -1000000 ≤ a) (a2 : a ≤ 1000000) (b1 : 1 ≤ b) (b2 : b ≤ 1000) :
    Calls Tryz.prog 75 #[.int .i64 a, .int .i64 b] w fun e w' => e = .returned (.int .i64 (a * b)) ∧ w' = w := by
  obtain ⟨m1, m2⟩ := M.mul_far a1 a2 b1 b2
  rcases (show a = 0 ∨ 0 < a ∨ a < 0 from by omega) with h0 | h0 | h0
  · have E : Hid (0 = a * b) := by unfold Hid; rw [h0, Int.zero_mul]
    have hz : (a == 0) = true := by rw [h0]; rfl
    clear h0
    go_enter Tryz.func75, Tryz.ntmps75
    go_wp2_with (go_at_call 96; refine (fit_in _ _ (by omega) (by omega)).mono ?_; rintro e w' ⟨rfl, rfl⟩)
    go_ret
    exact ⟨rfl, rfl⟩
  · have hz : (a == 0) = false := by simp; omega
    have hq := M.quo_far h0 a2 b1 b2
    go_enter Tryz.func75, Tryz.ntmps75
    go_wp2_with (first | (go_at_call 96; refine (fit_in _ _ (by omega) (by omega)).mono ?_; rintro e w' ⟨rfl, rfl⟩) | (go_at_call 97; refine (size_pos _ _ (by omega) (by omega)).mono ?_; rintro e w' ⟨rfl, rfl⟩))
    go_ret
    exact ⟨rfl, rfl⟩
  · have hz : (a == 0) = false := by simp; omega
    obtain ⟨X, hX⟩ : ∃ X, -a = X := ⟨_, rfl⟩
    have x1 : 0 < X := by omega
    have x2 : X ≤ 1000000 := by omega
    have hq := M.quo_far x1 x2 b1 b2
    have HX := hide hX
    clear hX
    go_enter Tryz.func75, Tryz.ntmps75
    go_wp2_with (first | (go_at_call 96; refine (fit_in _ _ (by omega) (by omega)).mono ?_; rintro e w' ⟨rfl, rfl⟩) | (go_at_call 97; refine (size_pos _ _ (by omega) (by omega)).mono ?_; rintro e w' ⟨rfl, rfl⟩) | (go_at_call 97; refine (size_neg _ X _ HX (by omega) (by omega)).mono ?_; rintro e w' ⟨rfl, rfl⟩))
    go_ret
    exact ⟨rfl, rfl⟩

set_option maxHeartbeats 1000000 in
theorem total_in (a : Option Addr) (ws : List Int) (ca : Nat) (w : World) (h : Rd w a ws) (h0 : 0 < ws.length) (n12 : ws.length ≤ 12) (hx : ∀ i, i < ws.length → 1 ≤ ws.getD i 0 ∧ ws.getD i 0 ≤ 1000) :
    Calls Tryz.prog 76 #[.slice a ws.length ca] w fun e w' => e = .returned (.int .i64 (M.allK ws ws.length)) ∧ w' = w := by
  obtain ⟨ba, oa, rfl, hba, hca⟩ := h.2 (by intro e; rw [e] at h0; simp at h0)
  have HC := hide hca
  have HX := hide hx
  have SB := hide (fun k (hk : k ≤ ws.length) => M.all_pos (ws := ws) k (fun i hi => hx i (by omega)))
  clear h hca hx hba h0
  go_enter Tryz.func76, Tryz.ntmps76
  go_wp2
  go_loopw [3, 8] (fun s i wr => ∃ k : Nat, k ≤ ws.length ∧ s = .int .i64 (M.allK ws k) ∧ i = .int .i64 k ∧ wr = w) (fun _ i _ => ws.length - (intOf i).toNat)
  case atStart => exact ⟨0, Nat.zero_le _, rfl, rfl, rfl⟩
  case round =>
    obtain ⟨k, hk, rfl, rfl, ew⟩ := hrel
    subst wr
    by_cases hlt : k < ws.length
    · have c1 := HC.out k hlt
      obtain ⟨x1, x2⟩ := HX.out k hlt
      obtain ⟨s1, s2⟩ := SB.out k hk
      have SS : Hid (M.allK ws k + ws.getD k 0 = M.allK ws (k + 1)) := rfl
      have kz : (k : Int) < (ws.length : Int) := by omega
      clear HC HX SB
      generalize ws.getD k 0 = x at *
      go_wp2_with (go_at_call 98; refine (add_in _ _ _ (by omega) (by omega) (by omega) (by omega)).mono ?_; rintro e w1 ⟨rfl, e1⟩; subst w1)
      go_roundw
      case rel => exact ⟨k + 1, by omega, by rw [SS.out], by go_num, (by first | rfl | trivial)⟩
      case measure => simp [intOf]; omega
    · have ek : k = ws.length := by omega
      have EE := hide ek
      clear ek HC HX SB
      go_wp2
      go_ret
      exact ⟨ret_int (by rw [EE.out]), rfl⟩

end Go.Proofs.YtpblpfleiilehafGreatDoor

namespace Go.Proofs.YtpblpfleiilehafGreatDoor
open Go.ChangeShapes Go.WideShapes Go.ChangeAt Go.RowKit Go.Lib
set_option linter.unusedVariables false

theorem xfit_any (n : Int) (w : World) :
    Calls Tryz.prog 96 #[.int .i64 n] w fun e w' => e = .returned (.int .i64 (M.fitI n)) ∧ w' = w := by
  rcases (show 1099511627776 < n ∨ n < -1099511627776 ∨ (-1099511627776 ≤ n ∧ n ≤ 1099511627776) from by omega) with h | h | ⟨h1, h2⟩
  · have E : Hid (1099511627776 = M.fitI n) := by unfold M.fitI; rw [if_pos h]; exact rfl
    go_enter Tryz.func96, Tryz.ntmps96
    go_wp2
    go_ret
    exact ⟨ret_int E.out, rfl⟩
  · have E : Hid (-1099511627776 = M.fitI n) := by unfold M.fitI; rw [if_neg (by omega), if_pos h]; exact rfl
    go_enter Tryz.func96, Tryz.ntmps96
    go_wp2
    go_ret
    exact ⟨ret_int E.out, rfl⟩
  · have E : Hid (n = M.fitI n) := (M.fit_id ⟨h1, h2⟩).symm
    go_enter Tryz.func96, Tryz.ntmps96
    go_wp2
    go_ret
    exact ⟨ret_int E.out, rfl⟩

theorem xadd_any (a b : Int) (w : World) :
    Calls Tryz.prog 98 #[.int .i64 a, .int .i64 b] w fun e w' => e = .returned (.int .i64 (M.addI a b)) ∧ w' = w := by
  obtain ⟨a1, a2⟩ := M.fit_le a
  obtain ⟨b1, b2⟩ := M.fit_le b
  go_enter Tryz.func98, Tryz.ntmps98
  go_wp2_with (go_at_call 96; refine (xfit_any _ _).mono ?_; rintro e w' ⟨rfl, rfl⟩)
  go_ret
  exact ⟨rfl, rfl⟩

set_option maxHeartbeats 1000000 in
theorem xsq_any (a : Int) (w : World) :
    Calls Tryz.prog 75 #[.int .i64 a, .int .i64 a] w fun e w' => e = .returned (.int .i64 (M.mulI a a)) ∧ w' = w := by
  obtain ⟨a1, a2⟩ := M.fit_le a
  rcases (show M.fitI a = 0 ∨ 0 < M.fitI a ∨ M.fitI a < 0 from by omega) with h0 | h0 | h0
  · have Z := hide (M.mul_zl (b := a) h0)
    go_enter Tryz.func75, Tryz.ntmps75
    go_wp2_with (go_at_call 96; refine (xfit_any _ _).mono ?_; rintro e w' ⟨rfl, rfl⟩)
    go_ret
    exact ⟨ret_int (by simpa using Z.out), rfl⟩
  · have hz : (M.fitI a == 0) = false := by simp; omega
    have hsa : decide (M.fitI a < 0) = false := by simp; omega
    have hs := M.sg_pp (x := M.fitI a) (y := M.fitI a) (by omega) (by omega)
    have Q := hide (M.quo_pp (y := M.fitI a) h0)
    by_cases ht : M.fitI a ≤ 1099511627776 / M.fitI a
    · have hm : M.fitI a * M.fitI a ≤ 1099511627776 := Q.out ▸ ht
      go_enter Tryz.func75, Tryz.ntmps75
      go_wp2_with (first | (go_at_call 96; refine (xfit_any _ _).mono ?_; rintro e w' ⟨rfl, rfl⟩) | (go_at_call 97; refine (size_pos _ _ (by omega) (by omega)).mono ?_; rintro e w' ⟨rfl, rfl⟩))
      go_ret
      exact ⟨ret_int (M.mul_in (by omega) (by omega)), rfl⟩
    · have hm : ¬ M.fitI a * M.fitI a ≤ 1099511627776 := Q.out ▸ ht
      have hd : decide (M.fitI a ≤ 1099511627776 / M.fitI a) = false := by simpa using ht
      go_enter Tryz.func75, Tryz.ntmps75
      go_wp2_with (first | (go_at_call 96; refine (xfit_any _ _).mono ?_; rintro e w' ⟨rfl, rfl⟩) | (go_at_call 97; refine (size_pos _ _ (by omega) (by omega)).mono ?_; rintro e w' ⟨rfl, rfl⟩))
      go_ret
      exact ⟨ret_int (M.mul_hi (by omega)), rfl⟩
  · have hz : (M.fitI a == 0) = false := by simp; omega
    have hsa : decide (M.fitI a < 0) = true := by simp; omega
    obtain ⟨X, hX⟩ : ∃ X, -M.fitI a = X := ⟨_, rfl⟩
    have x1 : 0 < X := by omega
    have x2 : X ≤ 1099511627776 := by omega
    have hs := M.sg_nn (x := M.fitI a) (y := M.fitI a) (by omega) (by omega)
    have Q := hide (M.quo_nn (y := M.fitI a) h0)
    rw [hX] at Q
    have HX := hide hX
    clear hX
    by_cases ht : X ≤ 1099511627776 / X
    · have hm : M.fitI a * M.fitI a ≤ 1099511627776 := Q.out ▸ ht
      go_enter Tryz.func75, Tryz.ntmps75
      go_wp2_with (first | (go_at_call 96; refine (xfit_any _ _).mono ?_; rintro e w' ⟨rfl, rfl⟩) | (go_at_call 97; refine (size_neg _ X _ HX (by omega) (by omega)).mono ?_; rintro e w' ⟨rfl, rfl⟩))
      go_ret
      exact ⟨ret_int (M.mul_in (by omega) (by omega)), rfl⟩
    · have hm : ¬ M.fitI a * M.fitI a ≤ 1099511627776 := Q.out ▸ ht
      have hd : decide (X ≤ 1099511627776 / X) = false := by simpa using ht
      go_enter Tryz.func75, Tryz.ntmps75
      go_wp2_with (first | (go_at_call 96; refine (xfit_any _ _).mono ?_; rintro e w' ⟨rfl, rfl⟩) | (go_at_call 97; refine (size_neg _ X _ HX (by omega) (by omega)).mono ?_; rintro e w' ⟨rfl, rfl⟩))
      go_ret
      exact ⟨ret_int (M.mul_hi (by omega)), rfl⟩

theorem M.tot_step {L : List Int} {k : Nat} (hk : k < L.length) : M.totalI (L.take (k + 1)) = M.addI (M.totalI (L.take k)) (L.getD k 0) := by
  unfold M.totalI
  rw [List.take_succ_eq_append_getElem hk, List.foldl_append, M.getD_at hk]
  rfl

set_option maxHeartbeats 2000000 in
theorem xtotal_any (a : Option Addr) (xs : List Int) (ca : Nat) (w : World) (h : Rd w a xs) :
    Calls Tryz.prog 76 #[.slice a xs.length ca] w fun e w' => e = .returned (.int .i64 (M.totalI xs)) ∧ w' = w := by
  have hm : xs.length ≤ 9223372036854775807 := h.1
  have HR := hide h
  have TM : Hid (∀ k, k < xs.length → M.totalI (xs.take (k + 1)) = M.addI (M.totalI (xs.take k)) (xs.getD k 0)) := fun k hk => M.tot_step hk
  clear h
  go_enter Tryz.func76, Tryz.ntmps76
  go_wp2
  go_loopw [3, 8] (fun u i wr => ∃ k : Nat, k ≤ xs.length ∧ i = .int .i64 k ∧ u = .int .i64 (M.totalI (xs.take k)) ∧ Hid (wr = w)) (fun _ i _ => xs.length - (intOf i).toNat)
  case atStart => exact ⟨0, Nat.zero_le _, rfl, rfl, rfl⟩
  case round =>
    obtain ⟨k, hk, rfl, rfl, E⟩ := hrel
    have e := E.out
    subst e
    by_cases hlt : k < xs.length
    · obtain ⟨b, off, rfl, hb, hc⟩ := HR.out.2 (by intro e; rw [e] at hlt; simp at hlt)
      have hx := hc k hlt
      have kz : (k : Int) < (xs.length : Int) := by omega
      have N := hide (TM.out k hlt)
      clear hc TM
      generalize M.totalI (xs.take k) = t at *
      generalize xs.getD k 0 = x at *
      go_wp2_with (go_at_call 98; refine (xadd_any t x _).mono ?_; rintro e w1 ⟨rfl, e1⟩; have e2 := e1.symm; subst e2)
      go_roundw
      case rel => exact ⟨k + 1, by omega, by go_num, by rw [N.out], (by first | rfl | trivial)⟩
      case measure => simp [intOf]; omega
    · have tk : xs.take k = xs := List.take_of_length_le (by omega)
      have kz : ¬ ((k : Int) < (xs.length : Int)) := by omega
      rw [tk]
      clear TM tk
      go_wp2
      go_ret
      exact ⟨rfl, (by first | rfl | trivial)⟩

end Go.Proofs.YtpblpfleiilehafGreatDoor

namespace Go.Proofs.YtpblpfleiilehafGreatDoor
open Go.ChangeShapes Go.WideShapes Go.ChangeAt Go.RowKit Go.Lib
set_option linter.unusedVariables false

/-- the first k of a list, the rest still 0 -/
def M.fillK (l : List Int) (k : Nat) : List Int := l.take k ++ List.replicate (l.length - k) 0
theorem M.fillK_len (l : List Int) {k : Nat} (h : k ≤ l.length) : (M.fillK l k).length = l.length := by unfold M.fillK; simp; omega
theorem M.fillK_zero (l : List Int) : M.fillK l 0 = List.replicate l.length 0 := by unfold M.fillK; simp
theorem M.fillK_all (l : List Int) : M.fillK l l.length = l := by unfold M.fillK; simp
theorem M.fillK_set (l : List Int) {k : Nat} (h : k < l.length) : (M.fillK l k).set k (l.getD k 0) = M.fillK l (k + 1) := by
  apply List.ext_getElem?
  intro i
  rw [M.getD_at h]
  unfold M.fillK
  by_cases e : i = k
  · subst e
    rw [List.getElem?_set_self (by simp; omega), List.getElem?_append_left (by simp; omega), List.getElem?_take_of_lt (by omega), List.getElem?_eq_getElem h]
  · rw [List.getElem?_set_ne (fun c => e c.symm)]
    by_cases q : i < k
    · rw [List.getElem?_append_left (by simp; omega), List.getElem?_append_left (by simp; omega), List.getElem?_take_of_lt q, List.getElem?_take_of_lt (by omega)]
    · rw [List.getElem?_append_right (by simp; omega), List.getElem?_append_right (by simp; omega)]
      simp only [List.length_take, List.getElem?_replicate]
      rw [Nat.min_eq_left (by omega), Nat.min_eq_left (by omega)]
      by_cases q2 : i < l.length
      · rw [if_pos (by omega), if_pos (by omega)]
      · rw [if_neg (by omega), if_neg (by omega)]

theorem fillK_own {wr : World} {B g n : Nat} {F : List Int} {k : Nat} (hk : k < F.length)
    (hown : wr.ownsRow B 3 1 (.slice (some ⟨g, 0, none⟩) n n) n ((M.fillK F k).map (Value.int .i64))) :
    (wr.setCell ⟨g, k, none⟩ (.int .i64 (F.getD k 0))).ownsRow B 3 1 (.slice (some ⟨g, 0, none⟩) n n) n ((M.fillK F (k + 1)).map (Value.int .i64)) := by
  have := (hown.stored k (.int .i64 (F.getD k 0))).1
  rw [← M.fillK_set F hk, List.map_set]
  exact this
theorem fillK_cell {wr : World} {B g n : Nat} {F : List Int} {k : Nat} (hk : k < F.length) (hn : F.length = n)
    (hown : wr.ownsRow B 3 1 (.slice (some ⟨g, 0, none⟩) n n) n ((M.fillK F k).map (Value.int .i64))) : ∃ z, wr.cell? ⟨g, k, none⟩ = some (.int .i64 z) := by
  have hl : (M.fillK F k).length = n := by rw [M.fillK_len F (by omega), hn]
  exact ⟨_, own_at hown hl k (by omega)⟩

end Go.Proofs.YtpblpfleiilehafGreatDoor

namespace Go.Proofs.YtpblpfleiilehafGreatDoor
open Go.ChangeShapes Go.WideShapes Go.ChangeAt Go.RowKit Go.Lib
set_option linter.unusedVariables false

set_option maxHeartbeats 4000000 in
set_option maxRecDepth 10000 in
theorem bsq_any (a : Option Addr) (xs : List Int) (ca : Nat) (w : World) (h : Rd w a xs) (hl : xs.length ≤ 1000) :
    Calls Tryz.prog 47 #[.slice a xs.length ca] w fun e w' => e = .returned (.int .i64 (M.sqF xs)) ∧ Below w.heap.size w w' := by
  have HR := hide h
  obtain ⟨i0, hi, hz0, hz1, hz2⟩ := info_parts info3
  have I0 := hide hi
  have LL : Hid ((xs.map fun x => M.mulI x x).length = xs.length) := List.length_map ..
  have LA : Hid (∀ k, k < xs.length → (xs.map fun x => M.mulI x x).getD k 0 = M.mulI (xs.getD k 0) (xs.getD k 0)) := fun k hk => by
    rw [M.getD_at (by simpa using hk), List.getElem_map, M.getD_at hk]
  have E0 : Hid (M.sqF xs = M.totalI (xs.map fun x => M.mulI x x)) := rfl
  clear h hi
  rw [E0.out]
  generalize (xs.map fun x => M.mulI x x) = QS at *
  go_enter Tryz.func47, Tryz.ntmps47
  go_wp2_with (at_make; refine wpList_make_full _ rfl (.tmp 7) (.tmp 7) 42 rfl w.heap.size 3 i0 (.int .i64 0) 1 Tryz.underlying42 I0.out hz0 hz1 .i64 .i64 _ _ xs.length rfl rfl (by omega) (by omega) (by rw [hz2]; omega) (by unfold maxLen; omega) (Nat.le_refl _) ?_; intro w3 hown hgrow)
  rw [made] at hown
  have hb3 : Hid (Below w.heap.size w w3) := (Below.refl _ w).grown hgrow (Nat.le_refl _) (fun k hk => by cases hk)
  have HO : Hid (w3.ownsRow w.heap.size 3 1 (.slice (some ⟨w.heap.size, 0, none⟩) xs.length xs.length) xs.length ((M.fillK QS 0).map (Value.int .i64))) := by
    unfold Hid; rw [M.fillK_zero, LL.out]; exact hown
  clear hown hgrow I0 hz0 hz1 hz2
  go_loopw [11] (fun i wr => ∃ k : Nat, k ≤ xs.length ∧ i = .int .i64 k ∧ Hid (wr.ownsRow w.heap.size 3 1 (.slice (some ⟨w.heap.size, 0, none⟩) xs.length xs.length) xs.length ((M.fillK QS k).map (Value.int .i64))) ∧ Hid (Below w.heap.size w wr)) (fun i _ => xs.length - (intOf i).toNat)
  case atStart => exact ⟨0, Nat.zero_le _, rfl, HO, hb3⟩
  case round =>
    clear HO hb3
    obtain ⟨k, hk, rfl, HO, K⟩ := hrel
    by_cases hlt : k < xs.length
    · obtain ⟨b, off, rfl, hb, hc⟩ := (HR.out.below K.out).2 (by intro e; rw [e] at hlt; simp at hlt)
      have hx := hc k hlt
      have kz : (k : Int) < (xs.length : Int) := by omega
      have hkL : k < QS.length := by rw [LL.out]; exact hlt
      have RR := hide (fillK_own hkL HO.out)
      obtain ⟨zz, cc⟩ := fillK_cell hkL LL.out HO.out
      have fz := HO.out.frozenAt k
      rw [LA.out k hlt] at RR
      have MU := hide (xsq_any (xs.getD k 0))
      have KB : Hid (∀ v, Below w.heap.size w (wr.setCell ⟨w.heap.size, k, none⟩ v)) := fun v => K.out.setCell (p := ⟨w.heap.size, k, none⟩) (Nat.le_refl _) v
      clear hc HO LA
      generalize M.mulI (xs.getD k 0) (xs.getD k 0) = z at *
      generalize xs.getD k 0 = x at *
      go_wp2_with (go_at_call 75; refine (MU.out _).mono ?_; rintro e w1 ⟨rfl, e1⟩; have e2 := e1.symm; subst e2)
      go_roundw
      case rel => exact ⟨k + 1, by omega, by go_num, RR, KB.out _⟩
      case measure => simp [intOf]; omega
    · have ek : k = xs.length := by omega
      have kz : ¬ ((k : Int) < (xs.length : Int)) := by omega
      rw [show M.fillK QS k = QS by rw [ek, ← LL.out]; exact M.fillK_all QS] at HO
      have ho : wr.ownsRow w.heap.size 3 1 (.slice (some ⟨w.heap.size, 0, none⟩) QS.length QS.length) QS.length (QS.map (Value.int .i64)) := by rw [LL.out]; exact HO.out
      obtain ⟨pa, pc, hp1, hp2, _⟩ := own_rd ho
      cases hp1
      have T := xtotal_any (some ⟨w.heap.size, 0, none⟩) QS xs.length wr hp2
      rw [LL.out] at T
      have HT := hide T
      clear LA HO hp2 ek ho T
      go_wp2_with (go_at_call 76; refine HT.out.mono ?_; rintro e w1 ⟨rfl, e1⟩; have e2 := e1.symm; subst e2)
      go_ret
      exact ⟨rfl, K.out⟩

def tgs (xs : List Sx) : List Int := xs.map (·.2.2.2)
theorem tgs_len (xs : List Sx) : (tgs xs).length = xs.length := by simp [tgs]
theorem tgs_at (xs : List Sx) {k : Nat} (h : k < xs.length) : (tgs xs).getD k 0 = xs[k].2.2.2 := by
  rw [M.getD_at (by rw [tgs_len]; exact h)]; simp [tgs]

set_option maxHeartbeats 4000000 in
set_option maxRecDepth 10000 in
theorem btgt_any (a : Option Addr) (xs : List Sx) (ca : Nat) (w : World) (h : RdL w a xs) (hl : xs.length ≤ 1000) :
    Calls Tryz.prog 65 #[.slice a xs.length ca] w fun e w' => e = .returned (.slice (some ⟨w.heap.size, 0, none⟩) xs.length xs.length) ∧ Rd w' (some ⟨w.heap.size, 0, none⟩) (tgs xs) ∧ Below w.heap.size w w' := by
  have HR := hide h
  obtain ⟨i0, hi, hz0, hz1, hz2⟩ := info_parts info3
  have I0 := hide hi
  have LL : Hid ((tgs xs).length = xs.length) := tgs_len xs
  have LA : Hid (∀ k (hk : k < xs.length), (tgs xs).getD k 0 = xs[k].2.2.2) := fun k hk => tgs_at xs hk
  clear h hi
  generalize tgs xs = QS at *
  go_enter Tryz.func65, Tryz.ntmps65
  go_wp2_with (at_make; refine wpList_make_full _ rfl (.tmp 7) (.tmp 7) 42 rfl w.heap.size 3 i0 (.int .i64 0) 1 Tryz.underlying42 I0.out hz0 hz1 .i64 .i64 _ _ xs.length rfl rfl (by omega) (by omega) (by rw [hz2]; omega) (by unfold maxLen; omega) (Nat.le_refl _) ?_; intro w3 hown hgrow)
  rw [made] at hown
  have hb3 : Hid (Below w.heap.size w w3) := (Below.refl _ w).grown hgrow (Nat.le_refl _) (fun k hk => by cases hk)
  have HO : Hid (w3.ownsRow w.heap.size 3 1 (.slice (some ⟨w.heap.size, 0, none⟩) xs.length xs.length) xs.length ((M.fillK QS 0).map (Value.int .i64))) := by
    unfold Hid; rw [M.fillK_zero, LL.out]; exact hown
  clear hown hgrow I0 hz0 hz1 hz2
  go_loopw [11] (fun i wr => ∃ k : Nat, k ≤ xs.length ∧ i = .int .i64 k ∧ Hid (wr.ownsRow w.heap.size 3 1 (.slice (some ⟨w.heap.size, 0, none⟩) xs.length xs.length) xs.length ((M.fillK QS k).map (Value.int .i64))) ∧ Hid (Below w.heap.size w wr)) (fun i _ => xs.length - (intOf i).toNat)
  case atStart => exact ⟨0, Nat.zero_le _, rfl, HO, hb3⟩
  case round =>
    clear HO hb3
    obtain ⟨k, hk, rfl, HO, K⟩ := hrel
    by_cases hlt : k < xs.length
    · obtain ⟨b, off, rfl, hb, hc⟩ := (HR.out.below K.out).2.2 (by intro e; rw [e] at hlt; simp at hlt)
      obtain ⟨c0, c1⟩ := hc k hlt
      unfold sxV at c0
      have kz : (k : Int) < (xs.length : Int) := by omega
      have hkL : k < QS.length := by rw [LL.out]; exact hlt
      have UA : Below wr.heap.size wr wr := Below.refl _ wr
      have RR := hide (fun W (hW : Below wr.heap.size wr W) => fillK_own hkL (own_keep HO.out hW))
      have CC := hide (fun W (hW : Below wr.heap.size wr W) => fillK_cell hkL LL.out (own_keep HO.out hW))
      have FZ := hide (fun W (hW : Below wr.heap.size wr W) => (own_keep HO.out hW).frozenAt k)
      rw [LA.out k hlt] at RR
      have KB : Hid (∀ W v, Below wr.heap.size wr W → Below w.heap.size w (W.setCell ⟨w.heap.size, k, none⟩ v)) := fun W v hW => (below_on K.out hW).setCell (p := ⟨w.heap.size, k, none⟩) (Nat.le_refl _) v
      clear hc HO LA
      generalize xs[k].2.2.2 = t at *
      generalize xs[k].2.1.length = rl at *
      generalize xs[k].2.2.1 = rc at *
      generalize xs[k].1 = ra at *
      go_upto_region 5 with fail
      obtain ⟨w5, hw5⟩ : ∃ W, W = wr.alloc (.cells #[.slice ra rl rc, .int .i64 t] 54) := ⟨_, rfl⟩
      rw [← hw5]
      have B5 : Hid (Below wr.heap.size wr w5) := by unfold Hid; rw [hw5]; exact (Below.refl _ wr).alloc (Nat.le_refl _) _
      have y1 : w5.cell? ⟨wr.heap.size, 1, none⟩ = some (.int .i64 t) := (new_kept hw5 (Below.refl _ _)).1 1 _ rfl
      obtain ⟨zz, cc⟩ := CC.out w5 B5.out
      have fz := FZ.out w5 B5.out
      have R5 := hide (RR.out w5 B5.out)
      clear hw5 c0 c1 UA CC FZ RR
      go_wp2
      go_roundw
      case rel => exact ⟨k + 1, by omega, by go_num, R5, KB.out _ _ B5.out⟩
      case measure => simp [intOf]; omega
    · have ek : k = xs.length := by omega
      have kz : ¬ ((k : Int) < (xs.length : Int)) := by omega
      rw [show M.fillK QS k = QS by rw [ek, ← LL.out]; exact M.fillK_all QS] at HO
      have ho : wr.ownsRow w.heap.size 3 1 (.slice (some ⟨w.heap.size, 0, none⟩) QS.length QS.length) QS.length (QS.map (Value.int .i64)) := by rw [LL.out]; exact HO.out
      obtain ⟨pa, pc, hp1, hp2, _⟩ := own_rd ho
      cases hp1
      have HP := hide hp2
      clear LA HO hp2 ek ho
      go_wp2
      go_ret
      exact ⟨rfl, HP.out, K.out⟩

end Go.Proofs.YtpblpfleiilehafGreatDoor

namespace Go.Proofs.YtpblpfleiilehafGreatDoor
open Go.ChangeShapes Go.WideShapes Go.ChangeAt Go.RowKit Go.Lib
set_option linter.unusedVariables false

theorem fitto_t (n : Int) (w : World) :
    Calls Tryz.prog 67 #[.int .i64 n, .int .i64 1000] w fun e w' => e = .returned (.int .i64 (M.fitT n)) ∧ w' = w := by
  rcases (show 1000 < n ∨ n < -1000 ∨ (-1000 ≤ n ∧ n ≤ 1000) from by omega) with h | h | ⟨h1, h2⟩
  · have E : Hid (1000 = M.fitT n) := by unfold M.fitT; rw [if_pos h]; exact rfl
    go_enter Tryz.func67, Tryz.ntmps67
    go_wp2
    go_ret
    exact ⟨ret_int E.out, rfl⟩
  · have E : Hid (-1000 = M.fitT n) := by unfold M.fitT; rw [if_neg (by omega), if_pos h]; exact rfl
    go_enter Tryz.func67, Tryz.ntmps67
    go_wp2
    go_ret
    exact ⟨ret_int E.out, rfl⟩
  · have E : Hid (n = M.fitT n) := by unfold M.fitT; rw [if_neg (by omega), if_neg (by omega)]; exact rfl
    go_enter Tryz.func67, Tryz.ntmps67
    go_wp2
    go_ret
    exact ⟨ret_int E.out, rfl⟩
theorem fitto_in (n : Int) (w : World) (h1 : -1000000 ≤ n) (h2 : n ≤ 1000000) :
    Calls Tryz.prog 67 #[.int .i64 n, .int .i64 1000000] w fun e w' => e = .returned (.int .i64 n) ∧ w' = w := by
  go_enter Tryz.func67, Tryz.ntmps67
  go_wp2
  go_ret
  exact ⟨rfl, rfl⟩

set_option maxHeartbeats 4000000 in
set_option maxRecDepth 10000 in
theorem bleft_any (ta : Option Addr) (tn tc : Nat) (a ra : Option Addr) (xs : List Sx) (R V L : List Int) (ca rc : Nat) (w : World) (h : RdL w a xs) (hr : Rd w ra R) (hl : xs.length ≤ 1000) (hR : R.length = xs.length) (hL : L.length = xs.length)
    (hv : ∀ k, k < xs.length → L.getD k 0 = R.getD k 0 - V.getD k 0 ∧ -1000000 ≤ R.getD k 0 ∧ R.getD k 0 ≤ 1000000 ∧ -1000000 ≤ V.getD k 0 ∧ V.getD k 0 ≤ 1000000)
    (VC : ∀ k (hk : k < xs.length) W, Below w.heap.size w W → Calls Tryz.prog 38 #[.slice ta tn tc, .slice xs[k].1 xs[k].2.1.length xs[k].2.2.1] W fun e w' => e = .returned (.tuple #[.int .i64 (V.getD k 0), .nilIface]) ∧ Below W.heap.size W w') :
    Calls Tryz.prog 64 #[.slice ta tn tc, .slice a xs.length ca, .slice ra xs.length rc] w fun e w' => e = .returned (.tuple #[.slice (some ⟨w.heap.size, 0, none⟩) xs.length xs.length, .nilIface]) ∧ w'.ownsRow w.heap.size 3 1 (.slice (some ⟨w.heap.size, 0, none⟩) xs.length xs.length) xs.length (L.map (Value.int .i64)) ∧ Below w.heap.size w w' := by
  have HR := hide h
  have HQ := hide hr
  have HB := hide hv
  have VK := hide VC
  have RL := hide hR
  obtain ⟨i0, hi, hz0, hz1, hz2⟩ := info_parts info3
  have I0 := hide hi
  have LL := hide hL
  clear h hi hr hv VC hR hL
  go_enter Tryz.func64, Tryz.ntmps64
  go_wp2_with (at_make; refine wpList_make_full _ rfl (.tmp 14) (.tmp 14) 42 rfl w.heap.size 3 i0 (.int .i64 0) 1 Tryz.underlying42 I0.out hz0 hz1 .i64 .i64 _ _ xs.length rfl rfl (by omega) (by omega) (by rw [hz2]; omega) (by unfold maxLen; omega) (Nat.le_refl _) ?_; intro w3 hown hgrow)
  rw [made] at hown
  have hb3 : Hid (Below w.heap.size w w3) := (Below.refl _ w).grown hgrow (Nat.le_refl _) (fun k hk => by cases hk)
  have HO : Hid (w3.ownsRow w.heap.size 3 1 (.slice (some ⟨w.heap.size, 0, none⟩) xs.length xs.length) xs.length ((M.fillK L 0).map (Value.int .i64))) := by
    unfold Hid; rw [M.fillK_zero, LL.out]; exact hown
  clear hown hgrow I0 hz0 hz1 hz2
  go_loopw [18] (fun i wr => ∃ k : Nat, k ≤ xs.length ∧ i = .int .i64 k ∧ Hid (wr.ownsRow w.heap.size 3 1 (.slice (some ⟨w.heap.size, 0, none⟩) xs.length xs.length) xs.length ((M.fillK L k).map (Value.int .i64))) ∧ Hid (Below w.heap.size w wr)) (fun i _ => xs.length - (intOf i).toNat)
  case atStart => exact ⟨0, Nat.zero_le _, rfl, HO, hb3⟩
  case round =>
    clear HO hb3
    obtain ⟨k, hk, rfl, HO, K⟩ := hrel
    by_cases hlt : k < xs.length
    · obtain ⟨b, off, rfl, hb, hc⟩ := (HR.out.below K.out).2.2 (by intro e; rw [e] at hlt; simp at hlt)
      obtain ⟨c0, c1⟩ := hc k hlt
      obtain ⟨b2, off2, rfl, hb2, hc2⟩ := (HQ.out.below K.out).2 (by intro e; have := RL.out; rw [e] at this; simp at this; omega)
      have c2 := hc2 k (by rw [RL.out]; exact hlt)
      have C2 : Hid (∀ W, Below wr.heap.size wr W → W.cell? ⟨b2, off2 + k, none⟩ = some (.int .i64 (R.getD k 0))) := fun W hW => (hW.cell (p := ⟨b2, off2 + k, none⟩) hb2).trans c2
      unfold sxV at c0
      have kz : (k : Int) < (xs.length : Int) := by omega
      have hkL : k < L.length := by rw [LL.out]; exact hlt
      have RR := hide (fun W (hW : Below wr.heap.size wr W) => fillK_own hkL (own_keep HO.out hW))
      have CC := hide (fun W (hW : Below wr.heap.size wr W) => fillK_cell hkL LL.out (own_keep HO.out hW))
      have FZ := hide (fun W (hW : Below wr.heap.size wr W) => (own_keep HO.out hW).frozenAt k)
      obtain ⟨ee, v1, v2, v3, v4⟩ := HB.out k hlt
      rw [ee] at RR
      have KB : Hid (∀ W v, Below wr.heap.size wr W → Below w.heap.size w (W.setCell ⟨w.heap.size, k, none⟩ v)) := fun W v hW => (below_on K.out hW).setCell (p := ⟨w.heap.size, k, none⟩) (Nat.le_refl _) v
      have VV := hide (fun W (hW : Below wr.heap.size wr W) => VK.out k hlt W (below_on K.out hW))
      clear hc HO hc2 c2 ee hb2
      generalize xs[k].2.2.2 = t at *
      generalize xs[k].2.1.length = rl at *
      generalize xs[k].2.2.1 = rcc at *
      generalize xs[k].1 = raa at *
      generalize V.getD k 0 = z at *
      generalize R.getD k 0 = x at *
      go_upto_region 5 with fail
      obtain ⟨w5, hw5⟩ : ∃ W, W = wr.alloc (.cells #[.slice raa rl rcc, .int .i64 t] 54) := ⟨_, rfl⟩
      rw [← hw5]
      have B5 : Hid (Below wr.heap.size wr w5) := by unfold Hid; rw [hw5]; exact (Below.refl _ wr).alloc (Nat.le_refl _) _
      have y0 : w5.cell? ⟨wr.heap.size, 0, none⟩ = some (.slice raa rl rcc) := (new_kept hw5 (Below.refl _ _)).1 0 _ rfl
      have V5 := hide (VV.out w5 B5.out)
      clear hw5 c0 c1 VV
      go_wp2_with (go_at_call 38; refine V5.out.mono ?_; rintro e w6 ⟨rfl, hb6⟩; have B6 := hide (below_on B5.out hb6); obtain ⟨zz, cc⟩ := CC.out w6 B6.out; have fz := FZ.out w6 B6.out; have R6 := hide (RR.out w6 B6.out); have c6 := C2.out w6 B6.out; clear hb6)
      go_roundw
      case rel => exact ⟨k + 1, by omega, by go_num, R6, KB.out _ _ B6.out⟩
      case measure => simp [intOf]; omega
    · have ek : k = xs.length := by omega
      have kz : ¬ ((k : Int) < (xs.length : Int)) := by omega
      rw [show M.fillK L k = L by rw [ek, ← LL.out]; exact M.fillK_all L] at HO
      clear ek
      go_wp2
      go_ret2
      exact ⟨rfl, HO.out, K.out⟩

end Go.Proofs.YtpblpfleiilehafGreatDoor
