/-
  What the library's slices.Clone answers of bytes: a row of our own that holds the same.
-/
import Derived.Test.YtnnhpbnnombpmaaDoorByCells
import Derived.Lib.SliceRun
namespace Go.Proofs.YtnnhpbnnombpmaaDoor
open Go.ChangeShapes Go.WideShapes Go.ChangeAt Go.RowKit Go.Lib
set_option linter.unusedVariables false

set_option maxHeartbeats 4000000 in
theorem clone_by (a : Option Addr) (bs : List Nat) (c : Nat) (w : World) (h : RdB w a bs) (hc : a = none → c = 0) (hl : bs.length ≤ 140737488351232) :
    Calls Tryd.prog 36 #[.slice a bs.length c] w fun e w' => ∃ va vc, e = .returned (.slice va bs.length vc) ∧ w'.ownsRow w.heap.size 5 1 (.slice va bs.length vc) bs.length (byCells bs) ∧ Below w.heap.size w w' := by
  have q22 : ∀ (w : World) (a : Option Addr) (n c n' c' : Nat), (binOp .eql 23 (.slice a n c) (.slice none n' c')).run Tryd.prog w = .ok (.bool a.isNone) w := fun w a n c n' c' => Lib.run_eql_slice_nil w _ _ a n c n' c' Tryd.underlying23
  cases a with
  | none =>
    have e : bs = [] := by
      by_cases hy : bs = []
      · exact hy
      · obtain ⟨b, off, e, _⟩ := h.2.2 hy; cases e
    subst e
    have hc0 := hc rfl
    subst hc0
    go_enter Tryd.func36, Tryd.ntmps36
    go_wp2
    go_ret
    exact ⟨none, 0, rfl, World.ownsRow_nil _ _ _ _, Below.refl _ _⟩
  | some ad =>
    have HB := hide h
    have b0 : Hid (∀ o, Below w.heap.size w (w.alloc o)) := fun o => (Below.refl _ w).alloc (Nat.le_refl _) o
    have O0 : Hid ((w.alloc (.cells #[] 5)).ownsRow w.heap.size 5 1 (.slice (some ⟨w.heap.size, 0, none⟩) 0 0) 0 (byCells [])) := by
      have := World.ownsRow_lit (base := w.heap.size) (e := 5) (size := 1) w #[] 0 (Nat.le_refl _) (by unfold maxLen; omega) (by simp)
      unfold Hid; simpa [byCells] using this
    clear h hc
    go_enter Tryd.func36, Tryd.ntmps36
    go_wp2_with (at_builtin; refine wpList_append_by rfl (.tmp 5) (.tmp 6) rfl w.heap.size (.slice (some ⟨w.heap.size, 0, none⟩) 0 0) 0 [] rfl O0.out (some ad) bs bs.length c rfl rfl (HB.out.below (b0.out _)) (fun e => by cases e) (by omega) (by simp) ?_; intro va vc w1 ho1 hb1 hg1; rw [Nat.zero_add, List.nil_append] at ho1; have O1 := hide ho1; have K1 := hide ((b0.out _).trans hb1); clear ho1 hb1 hg1)
    go_ret
    exact ⟨va, vc, rfl, O1.out, K1.out⟩

end Go.Proofs.YtnnhpbnnombpmaaDoor
