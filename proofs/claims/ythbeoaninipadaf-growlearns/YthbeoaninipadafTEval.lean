/-
  What package tree's Eval answers, for every list of nodes and every row.
-/
import Derived.Test.YthbeoaninipadafTLeaf
namespace Go.Proofs.Ythbeoaninipadaf
open Go.ChangeShapes Go.WideShapes Go.ChangeAt Go.RowKit Go.Lib
set_option linter.unusedVariables false

theorem eval_any (a0 b0 : Option Addr) (ts : List M.Nd) (xs : List Int) (ca cb : Nat) (w : World) (ht : RdN w a0 ts) (hr : Rd w b0 xs) :
    Calls Try.prog 17 #[.slice a0 ts.length ca, .slice b0 xs.length cb] w fun e w' => e = .returned (.tuple #[.int .i64 (M.evalV ts xs), errV (M.readyF ts xs)]) ∧ Below w.heap.size w w' := by
  have hm : ts.length ≤ 9223372036854775807 := ht.1
  have L := hide (leaf_any a0 b0 ts xs ca cb w ht hr)
  by_cases h : M.readyF ts xs = 0
  · obtain ⟨hlt, hv⟩ := leaf_lt h
    have EV := hide hv
    obtain ⟨b1, off, rfl, hb, hc⟩ := ht.2 (by intro e; subst e; simp at hlt)
    have NS : Hid (∀ W, Below w.heap.size w W → W.cell? ⟨b1, off + M.leafV ts xs * 6 + 5, none⟩ = some (.int .i64 (M.nv (M.nAt ts (M.leafV ts xs))))) := fun W hW => ((hc _ hlt).below hW hb).2.2.2.2.2
    have ES : Hid (errV (M.readyF ts xs) = .nilIface) := err_nil h
    rw [err_nil h] at L
    clear h hv hc hr ht
    generalize M.nv (M.nAt ts (M.leafV ts xs)) = v at *
    generalize M.leafV ts xs = k at *
    generalize M.evalV ts xs = o at *
    generalize errV (M.readyF ts xs) = er at *
    go_enter Try.func17, Try.ntmps17
    go_wp2_with (go_at_call 9; refine L.out.mono ?_; rintro e w1 ⟨rfl, hb1⟩; have hcell := NS.out w1 hb1)
    go_ret2
    exact ⟨by rw [EV.out, ES.out]; rfl, hb1⟩
  · have EV : Hid (M.evalV ts xs = 0) := by unfold Hid M.evalV; rw [if_neg h]
    have ES := hide (err_some h)
    rw [err_some h] at L
    clear h hr ht
    generalize M.evalV ts xs = o at *
    generalize errV (M.readyF ts xs) = er at *
    generalize M.readyF ts xs = rf at *
    go_enter Try.func17, Try.ntmps17
    go_wp2_with (go_at_call 9; refine L.out.mono ?_; rintro e w1 ⟨rfl, hb1⟩)
    go_ret2
    exact ⟨by rw [EV.out, ES.out]; rfl, hb1⟩

end Go.Proofs.Ythbeoaninipadaf
