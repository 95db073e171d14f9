/-
  Plain mathematics of a tree's halves: a cell that no question asks for changes nothing; the leaf to which a row comes is among the leaves; one more are leaves than ask; no condition beyond those named.
-/
import Derived.Test.YtjnkkniefpmgdadDoorMathQ
namespace Go.Proofs.YtjnkkniefpmgdadDoor.M
set_option linter.unusedVariables false

/-- a cell that no question asks for, changed -/
theorem getD_set {r : List Int} {k j : Nat} {c : Int} (h : j ≠ k) : r.getD j 0 = (r.set k c).getD j 0 := by
  simp [List.getD, List.getElem?_set_ne (Ne.symm h)]
theorem ready_set {t : List Nd} {r : List Int} {k : Nat} {c : Int} (h : readyF t r = 0) (hc : outI c = false) : readyF t (r.set k c) = 0 := by
  obtain ⟨h1, h2⟩ := ready_ok h
  obtain ⟨g1, g2⟩ := (row_ok r).1 h1
  have h3 : rowF (r.set k c) = 0 := (row_ok _).2 ⟨by rw [List.length_set]; exact g1, fun x hx => by
    rcases List.mem_or_eq_of_mem_set hx with q | q
    · exact g2 x q
    · subst q; exact good_cell hc⟩
  rw [ready_tree h3, List.length_set]; exact h2
theorem leaf_set {t : List Nd} {r : List Int} {k : Nat} {c : Int} (h : readyF t r = 0) (hc : outI c = false) (hn : ∀ j, j < t.length → nf (nAt t j) ≠ (k : Int)) : leafV t (r.set k c) = leafV t r := by
  obtain ⟨F, _⟩ := tree_ok (ready_ok h).2
  unfold leafV
  rw [if_pos h, if_pos (ready_set h hc)]
  exact (go_same F.2.2.2.2.1 (fun j hj => getD_set hj) hn t.length 0 F.2.1).symm
theorem any_take {l : List Int} {x : Int} {k : Nat} (h : k < l.length) : (l.take (k + 1)).any (· == x) = ((l.take k).any (· == x) || l[k] == x) := by
  rw [List.take_succ_eq_append_getElem h, List.any_append]; simp
theorem leaf_among {t : List Nd} {r : List Int} (h : readyF t r = 0) (h8 : (treeF t 8).2 = 0) : (leavesV t).any (· == (leafV t r : Int)) = true := by
  obtain ⟨F, _⟩ := tree_ok (ready_ok h).2
  obtain ⟨h1, h2⟩ := to_end F.2.2.2.2.1 r t.length 0 F.2.1 (by omega)
  unfold leavesV leafV
  rw [if_pos h8, if_pos h, List.any_eq_true]
  exact ⟨_, lvs_mem t t.length _ h1 h2, by simp⟩
theorem leaves_half {t : List Nd} (h : (treeF t 8).2 = 0) : 2 * (leavesV t).length = t.length + 1 := by
  obtain ⟨F, _⟩ := tree_ok h
  unfold leavesV
  rw [if_pos h]; exact halves F
/-- the tree of one question -/
def oneT : List Nd := [(0, 5, 1, 2, false, 0), (-1, 0, 0, 0, false, 7), (-1, 0, 0, 0, false, 9)]
theorem one_ready (x : Int) (h : x = 4 ∨ x = 5) : readyF oneT [x] = 0 := by rcases h with rfl | rfl <;> decide +kernel
theorem one_four : evalV oneT [4] = 7 := by decide +kernel
theorem one_five : evalV oneT [5] = 9 := by decide +kernel

end Go.Proofs.YtjnkkniefpmgdadDoor.M
