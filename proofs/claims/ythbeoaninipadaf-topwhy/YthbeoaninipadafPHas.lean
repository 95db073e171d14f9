/-
  What slices.IndexFunc and slices.ContainsFunc answer of spans that have nothing, and what package path's hasRow does.
-/
import Derived.Test.YthbeoaninipadafPSmall
namespace Go.Proofs.Ythbeoaninipadaf
open Go.ChangeShapes Go.WideShapes Go.ChangeAt Go.RowKit Go.Lib
set_option linter.unusedVariables false

/-- whether one of the first k spans has nothing -/
def M.noneK (ss : List M.Sp) : Nat → Bool
  | 0 => false
  | k + 1 => M.noneK ss k || !M.hasS (ss.getD k (0, 0, false))
theorem M.noneK_all (ss : List M.Sp) : ∀ k, k ≤ ss.length → M.noneK ss k = !(ss.take k).all M.hasS
  | 0, _ => by simp [M.noneK]
  | k + 1, h => by
    have ih := M.noneK_all ss k (by omega)
    have e : ss.take (k + 1) = ss.take k ++ [ss.getD k (0, 0, false)] := by
      rw [M.getD_at (by omega), List.take_add_one, List.getElem?_eq_getElem (by omega)]; rfl
    rw [M.noneK, ih, e, List.all_append]
    simp
theorem M.noneK_end (ss : List M.Sp) : M.noneK ss ss.length = !M.anyS ss := by
  rw [M.noneK_all ss ss.length (Nat.le_refl _)]; simp [M.anyS]
theorem M.noneK_stop {ss : List M.Sp} : ∀ {k n : Nat}, k ≤ n → n ≤ ss.length → M.noneK ss k = true → M.noneK ss n = true
  | k, 0, h, _, e => by have : k = 0 := by omega
                        subst this; exact e
  | k, n + 1, h, hn, e => by
    by_cases q : k = n + 1
    · subst q; exact e
    · rw [M.noneK, M.noneK_stop (k := k) (n := n) (by omega) (by omega) e]; rfl

set_option maxHeartbeats 4000000 in
set_option maxRecDepth 10000 in
theorem index_any (a0 : Option Addr) (ss : List M.Sp) (ca : Nat) (w : World) (h : RdS w a0 ss) :
    Calls Try.prog 68 #[.slice a0 ss.length ca, .func (.func 55) #[] #[]] w fun e w' => ∃ x : Int, e = .returned (.int .i64 x) ∧ decide (0 ≤ x) = (!M.anyS ss) ∧ Below w.heap.size w w' := by
  have hm : ss.length ≤ 9223372036854775807 := h.1
  have HT := hide h
  have C := hide nothing_any
  unfold spV at C
  have EV := hide (M.noneK_end ss)
  clear h
  generalize (!M.anyS ss) = V at *
  go_enter Try.func68, Try.ntmps68
  go_wp2
  go_loopw [8] (fun i wr => ∃ k : Nat, k ≤ ss.length ∧ i = .int .i64 k ∧ Hid (M.noneK ss k = false) ∧ Below w.heap.size w wr) (fun i _ => ss.length - (intOf i).toNat)
  case atStart => exact ⟨0, Nat.zero_le _, rfl, rfl, Below.refl _ _⟩
  case round =>
    obtain ⟨k, hk, rfl, I, hbl⟩ := hrel
    by_cases hlt : k < ss.length
    · obtain ⟨b1, off, rfl, hb1, hc⟩ := (HT.out.below hbl).2 (by intro e; subst e; simp at hlt)
      obtain ⟨s0, s1, s2⟩ := hc k hlt
      have C1 := hide (C.out (ss.getD k (0, 0, false)))
      cases hh : M.hasS (ss.getD k (0, 0, false)) with
      | true =>
        have N : Hid (M.noneK ss (k + 1) = false) := by unfold Hid; rw [M.noneK, I.out, hh]; rfl
        simp only [hh] at C1
        clear hc hh C
        generalize (ss.getD k (0, 0, false)).1 = lo at *
        generalize (ss.getD k (0, 0, false)).2.1 = hi at *
        generalize (ss.getD k (0, 0, false)).2.2 = nl at *
        go_wp2_with (go_at_call 55; refine (C1.out _).mono ?_; rintro e w2 ⟨rfl, hb2⟩)
        go_roundw
        case rel => exact ⟨k + 1, by omega, by go_num, N, below_on hbl hb2⟩
        case measure => simp [intOf]; omega
      | false =>
        have N : Hid (true = V) := by
          unfold Hid
          rw [← EV.out]
          exact (M.noneK_stop (k := k + 1) (by omega) (Nat.le_refl _) (by rw [M.noneK, hh]; simp)).symm
        simp only [hh] at C1
        clear hc hh C
        generalize (ss.getD k (0, 0, false)).1 = lo at *
        generalize (ss.getD k (0, 0, false)).2.1 = hi at *
        generalize (ss.getD k (0, 0, false)).2.2 = nl at *
        go_wp2_with (go_at_call 55; refine (C1.out _).mono ?_; rintro e w2 ⟨rfl, hb2⟩)
        go_ret
        exact ⟨_, rfl, by rw [← N.out]; simp, below_on hbl hb2⟩
    · have N : Hid (false = V) := by unfold Hid; rw [← EV.out, show ss.length = k by omega, I.out]
      go_wp2
      go_ret
      exact ⟨_, rfl, by rw [← N.out]; simp, hbl⟩

theorem contains_any (a0 : Option Addr) (ss : List M.Sp) (ca : Nat) (w : World) (h : RdS w a0 ss) :
    Calls Try.prog 54 #[.slice a0 ss.length ca, .func (.func 55) #[] #[]] w fun e w' => e = .returned (.bool (!M.anyS ss)) ∧ Below w.heap.size w w' := by
  have C := hide (index_any a0 ss ca w h)
  clear h
  generalize (!M.anyS ss) = V at *
  go_enter Try.func54, Try.ntmps54
  go_wp2_with (go_at_call 68; refine C.out.mono ?_; rintro e w2 ⟨x, rfl, hx, hb2⟩; have HX := hide hx; clear hx)
  go_ret
  exact ⟨ret_bool HX.out, hb2⟩

theorem hasrow_any (a0 : Option Addr) (ss : List M.Sp) (ca : Nat) (w : World) (h : RdS w a0 ss) :
    Calls Try.prog 32 #[.slice a0 ss.length ca] w fun e w' => e = .returned (.bool (M.anyS ss)) ∧ Below w.heap.size w w' := by
  have C := hide (contains_any a0 ss ca w h)
  clear h
  cases hb : M.anyS ss <;> rw [hb] at C <;> clear hb <;>
    (go_enter Try.func32, Try.ntmps32
     go_wp2_with (go_at_call 54; refine C.out.mono ?_; rintro e w2 ⟨rfl, hb2⟩)
     go_ret
     exact ⟨rfl, hb2⟩)

end Go.Proofs.Ythbeoaninipadaf
