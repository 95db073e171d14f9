/-
  Several texts as one: PEnds, PHas.
-/
import Derived.Test.YtcaljnhdfbjpnaeDoorPSmall
namespace Go.Proofs.YtcaljnhdfbjpnaeDoor
open Go.ChangeShapes Go.WideShapes Go.ChangeAt Go.RowKit Go.Lib
set_option linter.unusedVariables false

theorem isend_any (x : Int) (w : World) : Calls Tryd.prog 77 #[.int .i64 x] w fun e w' => e = .returned (.bool (!M.outI x)) ∧ w' = w := by
  by_cases h1 : -1000000 ≤ x
  · have E : Hid (decide (x ≤ 1000000) = !M.outI x) := by
      unfold Hid M.outI
      rw [show decide (x < -1000000) = false from decide_eq_false (by omega), Bool.false_or]
      by_cases h2 : x ≤ 1000000
      · simp [h2]
      · simp [h2]; omega
    have h1' : decide (-1000000 ≤ x) = true := decide_eq_true h1
    clear h1
    go_enter Tryd.func77, Tryd.ntmps77
    go_wp2
    go_ret
    exact ⟨ret_bool E.out, rfl⟩
  · have E : Hid (false = !M.outI x) := by
      unfold Hid M.outI
      rw [show decide (x < -1000000) = true from decide_eq_true (by omega)]; rfl
    have h1' : decide (-1000000 ≤ x) = false := decide_eq_false h1
    clear h1
    go_enter Tryd.func77, Tryd.ntmps77
    go_wp2
    go_ret
    exact ⟨ret_bool E.out, rfl⟩

theorem firstof_any (s : M.Sp) (w : World) : Calls Tryd.prog 78 #[spV s] w fun e w' => e = .returned (.int .i64 (M.pickC s)) ∧ Below w.heap.size w w' := by
  have C := hide (nonum_any s)
  have B0 : Hid (∀ o W, Below (w.alloc o).heap.size (w.alloc o) W → Below w.heap.size w W) := fun o W hW => below_on ((Below.refl _ w).alloc (Nat.le_refl _) o) hW
  by_cases hd : s.2.1 < s.1
  · have E : Hid (M.nilI = M.pickC s) := by unfold Hid M.pickC; rw [if_neg (by omega)]
    rw [decide_eq_true hd] at C
    clear hd
    generalize M.pickC s = o at *
    obtain ⟨lo, hi, n⟩ := s
    unfold spV at C ⊢
    go_enter Tryd.func78, Tryd.ntmps78
    go_wp2_with (go_at_call 84; refine (C.out _).mono ?_; rintro e w1 ⟨rfl, hb1⟩)
    go_ret
    exact ⟨ret_int E.out, B0.out _ _ hb1⟩
  · have E : Hid (s.1 = M.pickC s) := by unfold Hid M.pickC; rw [if_pos (by omega)]
    rw [decide_eq_false hd] at C
    clear hd
    generalize M.pickC s = o at *
    obtain ⟨lo, hi, n⟩ := s
    unfold spV at C ⊢
    have CL : Hid (∀ O W, Below (w.alloc O).heap.size (w.alloc O) W → W.cell? ⟨w.heap.size, 0, none⟩ = (w.alloc O).cell? ⟨w.heap.size, 0, none⟩) := fun O W hW => hW.cell (p := ⟨w.heap.size, 0, none⟩) (by simp)
    go_enter Tryd.func78, Tryd.ntmps78
    go_wp2_with (go_at_call 84; refine (C.out _).mono ?_; rintro e w1 ⟨rfl, hb1⟩; have c1 := CL.out _ _ hb1; rw [World.cell?_alloc_at _ _ _ 0 rfl] at c1; simp at c1)
    go_ret
    exact ⟨ret_int E.out, B0.out _ _ hb1⟩

end Go.Proofs.YtcaljnhdfbjpnaeDoor

namespace Go.Proofs.YtcaljnhdfbjpnaeDoor
open Go.ChangeShapes Go.WideShapes Go.ChangeAt Go.RowKit Go.Lib
set_option linter.unusedVariables false

/-- whether one of the first k spans has nothing -/
def M.noneK (ss : List M.Sp) : Nat → Bool
  | 0 => false
  | k + 1 => M.noneK ss k || !M.hasS (ss.getD k (0, 0, false))
theorem M.noneK_all (ss : List M.Sp) : ∀ k, k ≤ ss.length → M.noneK ss k = !(ss.take k).all M.hasS
  | 0, _ => by simp [M.noneK]
  | k + 1, h => by
    have ih := M.noneK_all ss k (by omega)
    have e : ss.take (k + 1) = ss.take k ++ [ss.getD k (0, 0, false)] := by
      rw [M.getD_at (by omega), List.take_add_one, List.getElem?_eq_getElem (by omega)]; rfl
    rw [M.noneK, ih, e, List.all_append]
    simp
theorem M.noneK_end (ss : List M.Sp) : M.noneK ss ss.length = !M.anyS ss := by
  rw [M.noneK_all ss ss.length (Nat.le_refl _)]; simp [M.anyS]
theorem M.noneK_stop {ss : List M.Sp} : ∀ {k n : Nat}, k ≤ n → n ≤ ss.length → M.noneK ss k = true → M.noneK ss n = true
  | k, 0, h, _, e => by have : k = 0 := by omega
                        subst this; exact e
  | k, n + 1, h, hn, e => by
    by_cases q : k = n + 1
    · subst q; exact e
    · rw [M.noneK, M.noneK_stop (k := k) (n := n) (by omega) (by omega) e]; rfl

set_option maxHeartbeats 4000000 in
set_option maxRecDepth 10000 in
theorem index_any (a0 : Option Addr) (ss : List M.Sp) (ca : Nat) (w : World) (h : RdS w a0 ss) :
    Calls Tryd.prog 83 #[.slice a0 ss.length ca, .func (.func 71) #[] #[]] w fun e w' => ∃ x : Int, e = .returned (.int .i64 x) ∧ decide (0 ≤ x) = (!M.anyS ss) ∧ Below w.heap.size w w' := by
  have hm : ss.length ≤ 9223372036854775807 := h.1
  have HT := hide h
  have C := hide nothing_any
  unfold spV at C
  have EV := hide (M.noneK_end ss)
  clear h
  generalize (!M.anyS ss) = V at *
  go_enter Tryd.func83, Tryd.ntmps83
  go_wp2
  go_loopw [8] (fun i wr => ∃ k : Nat, k ≤ ss.length ∧ i = .int .i64 k ∧ Hid (M.noneK ss k = false) ∧ Below w.heap.size w wr) (fun i _ => ss.length - (intOf i).toNat)
  case atStart => exact ⟨0, Nat.zero_le _, rfl, rfl, Below.refl _ _⟩
  case round =>
    obtain ⟨k, hk, rfl, I, hbl⟩ := hrel
    by_cases hlt : k < ss.length
    · obtain ⟨b1, off, rfl, hb1, hc⟩ := (HT.out.below hbl).2 (by intro e; subst e; simp at hlt)
      obtain ⟨s0, s1, s2⟩ := hc k hlt
      have C1 := hide (C.out (ss.getD k (0, 0, false)))
      cases hh : M.hasS (ss.getD k (0, 0, false)) with
      | true =>
        have N : Hid (M.noneK ss (k + 1) = false) := by unfold Hid; rw [M.noneK, I.out, hh]; rfl
        simp only [hh] at C1
        clear hc hh C
        generalize (ss.getD k (0, 0, false)).1 = lo at *
        generalize (ss.getD k (0, 0, false)).2.1 = hi at *
        generalize (ss.getD k (0, 0, false)).2.2 = nl at *
        go_wp2_with (go_at_call 71; refine (C1.out _).mono ?_; rintro e w2 ⟨rfl, hb2⟩)
        go_roundw
        case rel => exact ⟨k + 1, by omega, by go_num, N, below_on hbl hb2⟩
        case measure => simp [intOf]; omega
      | false =>
        have N : Hid (true = V) := by
          unfold Hid
          rw [← EV.out]
          exact (M.noneK_stop (k := k + 1) (by omega) (Nat.le_refl _) (by rw [M.noneK, hh]; simp)).symm
        simp only [hh] at C1
        clear hc hh C
        generalize (ss.getD k (0, 0, false)).1 = lo at *
        generalize (ss.getD k (0, 0, false)).2.1 = hi at *
        generalize (ss.getD k (0, 0, false)).2.2 = nl at *
        go_wp2_with (go_at_call 71; refine (C1.out _).mono ?_; rintro e w2 ⟨rfl, hb2⟩)
        go_ret
        exact ⟨_, rfl, by rw [← N.out]; simp, below_on hbl hb2⟩
    · have N : Hid (false = V) := by unfold Hid; rw [← EV.out, show ss.length = k by omega, I.out]
      go_wp2
      go_ret
      exact ⟨_, rfl, by rw [← N.out]; simp, hbl⟩

theorem contains_any (a0 : Option Addr) (ss : List M.Sp) (ca : Nat) (w : World) (h : RdS w a0 ss) :
    Calls Tryd.prog 70 #[.slice a0 ss.length ca, .func (.func 71) #[] #[]] w fun e w' => e = .returned (.bool (!M.anyS ss)) ∧ Below w.heap.size w w' := by
  have C := hide (index_any a0 ss ca w h)
  clear h
  generalize (!M.anyS ss) = V at *
  go_enter Tryd.func70, Tryd.ntmps70
  go_wp2_with (go_at_call 83; refine C.out.mono ?_; rintro e w2 ⟨x, rfl, hx, hb2⟩; have HX := hide hx; clear hx)
  go_ret
  exact ⟨ret_bool HX.out, hb2⟩

theorem hasrow_any (a0 : Option Addr) (ss : List M.Sp) (ca : Nat) (w : World) (h : RdS w a0 ss) :
    Calls Tryd.prog 51 #[.slice a0 ss.length ca] w fun e w' => e = .returned (.bool (M.anyS ss)) ∧ Below w.heap.size w w' := by
  have C := hide (contains_any a0 ss ca w h)
  clear h
  cases hb : M.anyS ss <;> rw [hb] at C <;> clear hb <;>
    (go_enter Tryd.func51, Tryd.ntmps51
     go_wp2_with (go_at_call 70; refine C.out.mono ?_; rintro e w2 ⟨rfl, hb2⟩)
     go_ret
     exact ⟨rfl, hb2⟩)

end Go.Proofs.YtcaljnhdfbjpnaeDoor
