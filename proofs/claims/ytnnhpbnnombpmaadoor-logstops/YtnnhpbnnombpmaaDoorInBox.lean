/-
  How far a reader of numbers comes; a cell that is written, and bytes that stay. No condition beyond those named.
-/
import Derived.Test.YtnnhpbnnombpmaaDoorBySlice
import Derived.Test.YtnnhpbnnombpmaaDoorMathCb
import Derived.Test.YtnnhpbnnombpmaaDoorGrownW
namespace Go.Proofs.YtnnhpbnnombpmaaDoor
open Go.ChangeShapes Go.WideShapes Go.ChangeAt Go.RowKit Go.Lib
set_option linter.unusedVariables false

theorem M.gt_le : ∀ (b : List Nat) (i x : Nat), (M.gtK b i x).2.1 ≤ i + b.length
  | [], i, x => by show 0 ≤ i + 0; omega
  | c :: r, i, x => by
    have ih := M.gt_le r (i + 1) (x + c % 128 * 128 ^ i)
    show (if (i = 9 ∧ 1 < c) ∨ (0 < i ∧ c = 0) then ((0 : Int), (0 : Nat), (2 : Int)) else if c < 128 then (M.unz (x + c % 128 * 128 ^ i), i + 1, 0) else M.gtK r (i + 1) (x + c % 128 * 128 ^ i)).2.1 ≤ i + (r.length + 1)
    split
    · exact Nat.zero_le _
    · split
      · show i + 1 ≤ _; omega
      · omega
theorem M.get_le (b : List Nat) : (M.getL b).2.1 ≤ b.length := by
  have := M.gt_le b 0 0
  rw [Nat.zero_add] at this
  exact this
theorem M.rNum_fin {b : List Nat} {s : M.In} (h : s.fin ≤ b.length) : (M.rNum b s).2.fin ≤ b.length := by
  by_cases q : s.bad = 0
  · rw [M.rNum_go q]
    have := M.get_le (b.drop s.fin)
    rw [List.length_drop] at this
    show s.fin + _ ≤ _
    omega
  · rw [M.rNum_bad q]; exact h
theorem M.rMany_fin {b : List Nat} {s : M.In} {most : Int} (h : s.fin ≤ b.length) : (M.rMany b most s).2.fin ≤ b.length := by
  have := M.rNum_fin h
  unfold M.rMany
  split
  · exact this
  · split
    · exact this
    · exact this
/-- a cell is written -/
theorem cell_set_same {W : World} {g o : Nat} {u v : Value} (h : W.cell? ⟨g, o, none⟩ = some u) : (W.setCell ⟨g, o, none⟩ v).cell? ⟨g, o, none⟩ = some v := World.cell?_setCell_same _ _ _ h
theorem cell_set_other {W : World} {g o j : Nat} {u v : Value} (h : W.cell? ⟨g, j, none⟩ = some u) (hj : o ≠ j) : (W.setCell ⟨g, o, none⟩ v).cell? ⟨g, j, none⟩ = some u := (World.cell?_setCell_other _ _ _ _ (by intro e; cases e; exact hj rfl)).trans h
theorem frozen_set {W : World} {g o j : Nat} {v : Value} (h : W.frozen? ⟨g, j, none⟩ = false) : (W.setCell ⟨g, o, none⟩ v).frozen? ⟨g, j, none⟩ = false := by rw [World.frozen?_setCell]; exact h
theorem rdB_keep {W W' : World} {a : Option Addr} {xs : List Nat} (h : RdB W a xs) (hk : xs ≠ [] → ∀ p, a = some p → W'.heap[p.block]? = W.heap[p.block]?) (hz : W.heap.size ≤ W'.heap.size) : RdB W' a xs :=
  ⟨h.1, h.2.1, fun hn => by
    obtain ⟨b, off, e, hl, hc⟩ := h.2.2 hn
    have hb : W'.heap[b]? = W.heap[b]? := hk hn _ e
    exact ⟨b, off, e, Nat.lt_of_lt_of_le hl hz, fun i hi => (World.cell?_of_block (a := ⟨b, _, none⟩) hb).trans (hc i hi)⟩⟩

end Go.Proofs.YtnnhpbnnombpmaaDoor
