/-
  What the reference's Depth answers at each place of a list of nodes each of which is right.
-/
import Derived.Test.YthbeoaninipadafGreatDoorNodes
import Derived.Test.YthbeoaninipadafGreatDoorRefCell
namespace Go.Proofs.YthbeoaninipadafGreatDoor
open Go.ChangeShapes Go.WideShapes Go.ChangeAt Go.RowKit
set_option linter.unusedVariables false

set_option maxHeartbeats 1000000 in
theorem rdepth_any (a0 : Option Addr) (ts : List M.Nd) (cap : Nat) (m : Int) (w : World) (h : RdN w a0 ts) (hl : ts.length ≤ 63) (hf : ∀ j, j < ts.length → M.nodeF (M.nAt ts j) j ts.length m = 0) :
    ∀ (f i : Nat), i < ts.length → ts.length ≤ f + i → Calls Tryz.prog 39 #[.slice a0 ts.length cap, .int .i64 (i : Nat)] w fun e w' => e = .returned (.int .i64 (M.depth ts i : Nat)) ∧ w' = w
  | 0, i, hi, hk => by omega
  | f + 1, i, hi, hk => by
    obtain ⟨b, off, rfl, hb, hc⟩ := h.2 (by intro e; subst e; simp at hi)
    obtain ⟨s0, s1, s2, s3, s4, s5⟩ := hc i hi
    have C : Hid (∀ j : Nat, i < j → j < ts.length → Calls Tryz.prog 39 #[.slice (some ⟨b, off, none⟩) ts.length cap, .int .i64 (j : Nat)] w fun e w' => e = .returned (.int .i64 (M.depth ts j : Nat)) ∧ w' = w) :=
      fun j h1 h2 => rdepth_any _ ts cap m w h hl hf f j h2 (by omega)
    have hm : ts.length ≤ 9223372036854775807 := h.1
    by_cases hn : M.nf (M.nAt ts i) = -1
    · have E : Hid (M.depth ts i = 0) := M.depth_leaf hi hn
      have q : (M.nf (M.nAt ts i) == -1) = true := by rw [beq_iff_eq]; exact hn
      clear hn hc h hf C
      generalize M.depth ts i = o at *
      generalize M.nf (M.nAt ts i) = f at *
      go_enter Tryz.func39, Tryz.ntmps39
      go_wp2
      go_ret
      exact ⟨ret_int (by rw [E.out]; rfl), rfl⟩
    · obtain ⟨a, c, ea, ec, h1, h2, h3, h4, hac⟩ := M.ask_at hf hi hn
      have q : (M.nf (M.nAt ts i) == -1) = false := by rw [beq_eq_false_iff_ne]; exact hn
      have E : Hid (M.depth ts i = max (M.depth ts a) (M.depth ts c) + 1) := M.depth_ask hf hi hn ea ec
      have da : M.depth ts a ≤ 63 := by have := M.depth_le hf ts.length a h2 (by omega); omega
      have dc : M.depth ts c ≤ 63 := by have := M.depth_le hf ts.length c h4 (by omega); omega
      rw [ea] at s2
      rw [ec] at s3
      by_cases hlt : M.depth ts a < M.depth ts c
      · have EE : Hid (M.depth ts i = M.depth ts c + 1) := by unfold Hid; rw [E.out]; omega
        clear hn hc h hf ea ec E hac
        generalize M.depth ts i = o at *
        generalize M.nf (M.nAt ts i) = f at *
        go_enter Tryz.func39, Tryz.ntmps39
        go_wp2_with (go_at_call 39; refine (C.out _ (by assumption) (by assumption)).mono ?_; rintro e w1 ⟨rfl, rfl⟩)
        go_ret
        exact ⟨ret_int (by rw [EE.out]; omega), rfl⟩
      · have EE : Hid (M.depth ts i = M.depth ts a + 1) := by unfold Hid; rw [E.out]; omega
        have hle : M.depth ts c ≤ M.depth ts a := by omega
        clear hn hc h hf ea ec E hac
        generalize M.depth ts i = o at *
        generalize M.nf (M.nAt ts i) = f at *
        go_enter Tryz.func39, Tryz.ntmps39
        go_wp2_with (go_at_call 39; refine (C.out _ (by assumption) (by assumption)).mono ?_; rintro e w1 ⟨rfl, rfl⟩)
        go_ret
        exact ⟨ret_int (by rw [EE.out]; omega), rfl⟩

end Go.Proofs.YthbeoaninipadafGreatDoor
