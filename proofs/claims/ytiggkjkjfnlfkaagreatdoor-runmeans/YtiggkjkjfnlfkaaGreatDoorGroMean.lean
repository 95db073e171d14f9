/-
  What fixed.counted and fixed.Mean answer of up to sixty numbers that are fit, and grow.leafOf of up to sixty samples.
-/
import Derived.Test.YtiggkjkjfnlfkaaGreatDoorSaPart
namespace Go.Proofs.YtiggkjkjfnlfkaaGreatDoor
open Go.ChangeShapes Go.WideShapes Go.ChangeAt Go.RowKit Go.Lib
set_option linter.unusedVariables false

theorem fit_far (n : Int) (w : World) (h1 : -1000000 ≤ n) (h2 : n ≤ 1000000) :
    Calls Tryz.prog 78 #[.int .i64 n] w fun e w' => e = .returned (.int .i64 n) ∧ w' = w := by
  go_enter Tryz.func78, Tryz.ntmps78
  go_wp2
  go_ret
  exact ⟨rfl, rfl⟩
theorem down_far (a b : Int) (w : World) (hb : 0 < b) (hb2 : b ≤ 9007199254740992) (ha : -9007199254740992 ≤ a) (ha2 : a ≤ 9007199254740992) :
    Calls Tryz.prog 77 #[.int .i64 a, .int .i64 b] w fun e w' => e = .returned (.int .i64 (a / b)) ∧ w' = w := by
  obtain ⟨q1, q2⟩ := M.tdiv_bd a b 9007199254740992 hb ha ha2
  have D := hide (M.down_eq a b hb)
  by_cases h : a.tmod b < 0
  · go_enter Tryz.func77, Tryz.ntmps77
    go_wp2
    go_ret
    exact ⟨ret_int (by rw [← D.out, if_pos h]), rfl⟩
  · go_enter Tryz.func77, Tryz.ntmps77
    go_wp2
    go_ret
    exact ⟨ret_int (by rw [← D.out, if_neg (by omega)]), rfl⟩

theorem fill_step {w wr : World} {B n k : Nat} {F : List Int} {x : Int} (hF : F.length = n) (hk : k < n) (hx : x = F[k])
    (hown : wr.ownsRow B 3 1 (.slice (some ⟨B, 0, none⟩) n n) n ((M.fillI F k).map (Value.int .i64))) (hbl : Below B w wr) :
    (wr.setCell ⟨B, k, none⟩ (.int .i64 x)).ownsRow B 3 1 (.slice (some ⟨B, 0, none⟩) n n) n ((M.fillI F (k + 1)).map (Value.int .i64)) ∧ Below B w (wr.setCell ⟨B, k, none⟩ (.int .i64 x)) := by
  subst hx
  refine ⟨?_, hbl.setCell (Nat.le_refl _) _⟩
  have := (hown.stored k (.int .i64 F[k])).1
  rw [← M.fill_set F k (by omega), List.map_set]
  exact this

set_option maxHeartbeats 1000000 in
theorem counted_far (a : Option Addr) (xs : List Int) (cap : Nat) (w : World) (h : Rd w a xs) (hn : xs.length ≤ 60) (h0 : 0 < xs.length) (hv : ∀ x ∈ xs, -1000000 ≤ x ∧ x ≤ 1000000) :
    Calls Tryz.prog 76 #[.slice a xs.length cap] w fun e w' => e = .returned (.slice (some ⟨w.heap.size, 0, none⟩) xs.length xs.length) ∧
      w'.ownsRow w.heap.size 3 1 (.slice (some ⟨w.heap.size, 0, none⟩) xs.length xs.length) xs.length (xs.map (Value.int .i64)) ∧ Below w.heap.size w w' := by
  obtain ⟨i0, hi, hz0, hz1, hz2⟩ := info_parts info3
  obtain ⟨b, off, rfl, hb, hc⟩ := h.2 (by intro e; rw [e] at h0; simp at h0)
  have HV := hide hv
  have HC := hide hc
  clear h hv hc h0
  have mn : min (xs.length : Int) 1000 = (xs.length : Int) := by omega
  obtain ⟨n, hn'⟩ : ∃ n, n = xs.length := ⟨_, rfl⟩
  have HN := hide hn'
  rw [← hn'] at hn mn ⊢
  have n1000 : ¬ (1000 : Int) < (n : Int) := by omega
  have nle : (n : Int) ≤ 1000 := by omega
  have FA : Hid (M.fillI xs n = xs) := by unfold Hid; rw [hn']; exact M.fill_all xs
  clear hn' mn
  go_enter Tryz.func76, Tryz.ntmps76
  go_wp2_with (at_make; refine wpList_make_full _ rfl (.tmp 7) (.tmp 7) 50 rfl w.heap.size 3 i0 (.int .i64 0) 1 Tryz.underlying50 hi hz0 hz1 .i64 .i64 _ _ n rfl rfl (by omega) (by omega) (by rw [hz2]; omega) (by unfold maxLen; omega) (Nat.le_refl _) ?_; intro w1 hown hgrow)
  rw [made] at hown
  have hB : Hid (Below w.heap.size w w1) := (Below.refl _ w).grown hgrow (Nat.le_refl _) (fun k hk => by cases hk)
  have ho : Hid (w1.ownsRow w.heap.size 3 1 (.slice (some ⟨w.heap.size, 0, none⟩) n n) n ((M.fillI xs 0).map (Value.int .i64))) := by
    unfold Hid; rw [M.fill_zero, ← HN.out]; exact hown
  clear hown hgrow hi hz0 hz1 hz2
  go_loopw [11] (fun i wr => ∃ k : Nat, k ≤ n ∧ i = .int .i64 k ∧ Hid (wr.ownsRow w.heap.size 3 1 (.slice (some ⟨w.heap.size, 0, none⟩) n n) n ((M.fillI xs k).map (Value.int .i64))) ∧ Hid (Below w.heap.size w wr)) (fun i _ => n - (intOf i).toNat)
  case atStart => exact ⟨0, Nat.zero_le _, rfl, ho, hB⟩
  case round =>
    obtain ⟨k, hk, rfl, HO, K⟩ := hrel
    clear ho hB
    by_cases hlt : k < n
    · have kl : k < xs.length := by rw [← HN.out]; exact hlt
      have hck := (K.out.cell (p := ⟨b, off + k, none⟩) hb).trans (Rd.at HC.out k kl)
      have hfz := HO.out.frozenAt k
      have hcell := HO.out.cellAt k (by omega)
      have hlen : k < ((M.fillI xs k).map (Value.int .i64)).length := by rw [List.length_map, M.fill_len _ _ (by omega)]; exact kl
      rw [List.getElem?_eq_getElem hlen] at hcell
      obtain ⟨v0, v1⟩ := HV.out xs[k] (List.getElem_mem kl)
      have HR := hide (fill_step (w := w) HN.out.symm hlt rfl HO.out K.out)
      have nz : xs.length = n := HN.out.symm
      have kz : (k : Int) < (n : Int) := by omega
      have NZ := hide nz
      have kz2 : (k : Int) < (xs.length : Int) := by omega
      clear HC HV HO nz
      generalize xs[k] = v at *
      clear kl
      go_wp2_with (go_at_call 78; refine (fit_far _ _ (by omega) (by omega)).mono ?_; rintro e w' ⟨rfl, rfl⟩)
      go_roundw
      case rel => exact ⟨k + 1, by omega, by go_num, HR.out.1, HR.out.2⟩
      case measure => simp [intOf]; omega
    · have ke : k = n := by omega
      have ho := HO.out
      rw [ke, FA.out] at ho
      have HO2 := hide ho
      clear ho HO ke HC HV
      go_wp2
      go_ret
      exact ⟨rfl, HO2.out, K.out⟩

theorem M.sumL_bd : ∀ {l : List Int}, (∀ x ∈ l, -1000000 ≤ x ∧ x ≤ 1000000) → -1000000 * (l.length : Nat) ≤ l.sum ∧ l.sum ≤ 1000000 * (l.length : Nat)
  | [], _ => by simp
  | x :: l, h => by
    have ih := M.sumL_bd (l := l) fun y hy => h y (List.mem_cons_of_mem _ hy)
    have h1 := h x (List.mem_cons_self ..)
    rw [List.sum_cons, List.length_cons]
    omega

set_option maxHeartbeats 1000000 in
theorem mean_far (a : Option Addr) (xs : List Int) (cap : Nat) (w : World) (h : Rd w a xs) (hn : xs.length ≤ 60) (h0 : 0 < xs.length) (hv : ∀ x ∈ xs, -1000000 ≤ x ∧ x ≤ 1000000) :
    Calls Tryz.prog 28 #[.slice a xs.length cap] w fun e w' => e = .returned (.int .i64 (xs.sum / (xs.length : Nat))) ∧ Below w.heap.size w w' := by
  have C := hide (counted_far a xs cap w h hn h0 hv)
  have SB : Hid (∀ k, -60000000 ≤ (xs.take k).sum ∧ (xs.take k).sum ≤ 60000000) := fun k => by
    have := M.sumL_bd (l := xs.take k) fun x hx => hv x (List.mem_of_mem_take hx)
    have l : (xs.take k).length ≤ 60 := by rw [List.length_take]; omega
    omega
  have SS : Hid (∀ k (hk : k < xs.length), (xs.take (k + 1)).sum = (xs.take k).sum + xs[k]) := fun k hk => by
    rw [List.take_succ_eq_append_getElem hk, List.sum_append]; simp
  have Z : Hid (xs.take xs.length = xs) := List.take_length
  have HV := hide hv
  have hz : ((xs.length : Int) == 0) = false := by rw [beq_eq_false_iff_ne]; omega
  clear h hv
  go_enter Tryz.func28, Tryz.ntmps28
  go_wp2_with (go_at_call 76; refine C.out.mono ?_; rintro e w1 ⟨rfl, hown, hbl⟩)
  have OA := hide (own_at hown rfl)
  have BL := hide hbl
  clear hown C hbl
  go_loop [4, 14] (fun t i => ∃ k : Nat, k ≤ xs.length ∧ i = .int .i64 k ∧ t = .int .i64 (xs.take k).sum) (fun _ i => xs.length - (intOf i).toNat)
  case atStart => exact ⟨0, Nat.zero_le _, rfl, rfl⟩
  case round =>
    obtain ⟨k, hk, rfl, rfl⟩ := hrel
    obtain ⟨s1, s2⟩ := SB.out k
    by_cases hlt : k < xs.length
    · have hck := OA.out k hlt
      have S := hide (SS.out k hlt)
      obtain ⟨v0, v1⟩ := HV.out xs[k] (List.getElem_mem hlt)
      have kz : (k : Int) < (xs.length : Int) := by omega
      clear SS SB OA HV Z
      generalize (xs.take k).sum = s at *
      generalize xs[k] = v at *
      go_wp2
      go_round
      case rel => exact ⟨k + 1, by omega, by go_num, by rw [S.out]⟩
      case measure => simp [intOf]; omega
    · have ke : k = xs.length := by omega
      have E : Hid ((xs.take k).sum = xs.sum) := by unfold Hid; rw [ke, Z.out]
      clear SS SB OA HV Z ke
      generalize (xs.take k).sum = s at *
      have dn := hide (down_far s (xs.length : Nat) w1 (by omega) (by omega) (by omega) (by omega))
      go_wp2_with (go_at_call 77; refine dn.out.mono ?_; rintro e w2 ⟨rfl, e2⟩; have e2' := e2.symm; subst e2')
      go_ret
      exact ⟨ret_int (by rw [E.out]), BL.out⟩

end Go.Proofs.YtiggkjkjfnlfkaaGreatDoor
