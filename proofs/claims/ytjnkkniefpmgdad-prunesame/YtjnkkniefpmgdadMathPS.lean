/-
  A tree of two leaves alike; what is pruned, held against eight features; its leaves; no condition beyond those named.
-/
import Derived.Test.YtjnkkniefpmgdadMathO
namespace Go.Proofs.Ytjnkkniefpmgdad.M
set_option linter.unusedVariables false

def twoT : List Nd := [(0, 5, 1, 2, false, 0), (-1, 0, 0, 0, false, 7), (-1, 0, 0, 0, false, 7)]
theorem two_ok : (treeF twoT 1).2 = 0 := by decide +kernel
theorem two_one : prunV twoT 1 = [(-1, 0, 0, 0, false, 7)] := prun_one two_ok (fun i hi hf => by
  have hi' : i < 3 := hi
  rcases i with _ | _ | _ | i
  · exact absurd hf (by decide)
  · rfl
  · rfl
  · omega)
theorem okB_more {m n : Int} (h : m ≤ n) : ∀ {T : BT}, okB m T → okB n T
  | .lf _, q => q
  | .nd _ _ _ _ _, ⟨g0, g1, g2, g3, g4⟩ => ⟨g0, by omega, g2, okB_more h g3, okB_more h g4⟩
theorem prun_eight {t : List Nd} {m : Int} (h : (treeF t m).2 = 0) : (treeF (prunV t m) 8).2 = 0 := by
  have F := (tree_ok h).1
  have ok := bt_ok F.2.2.2.2.1 t.length 0 F.2.1 (by omega)
  have sz := prn_size (bt t 0) (vld m.toNat)
  have bs := bt_size F
  have l63 := F.1
  have dp := tree_deep h
  have bd := bt_deep F.2.2.2.2.1 t.length 0 F.2.1 (by omega)
  unfold prunV
  rw [if_pos h]
  exact lay_tree (okB_more F.2.2.2.1 (prn_ok _ _ ok)) (by omega) (by omega) (by omega) (by omega)
/-- each leaf of a pruned tree is reached -/
theorem prun_leaves {t : List Nd} {m : Int} (h : (treeF t m).2 = 0) : rchV (prunV t m) m = leavesV (prunV t m) := by
  unfold rchV leavesV
  rw [if_pos (prun_tree h).1, if_pos (prun_eight h)]
  exact rch_all _ (Nat.le_refl _) (fun i hi => prun_reached h hi)
/-- what the law asks of each node that asks -/
theorem prun_node {t : List Nd} {m : Int} (h : (treeF t m).2 = 0) {i : Nat} (hi : i < (prunV t m).length) (hf : nf (nAt (prunV t m) i) ≠ -1) : nl (nAt (prunV t m) i) = ((i + 1 : Nat) : Int) ∧ i + 1 < (prunV t m).length ∧ ∃ b : Nat, nr (nAt (prunV t m) i) = (b : Int) ∧ b < (prunV t m).length ∧ ¬ (nf (nAt (prunV t m) (i + 1)) = -1 ∧ nf (nAt (prunV t m) b) = -1 ∧ nv (nAt (prunV t m) (i + 1)) = nv (nAt (prunV t m) b)) := by
  have e := prun_left h hi hf
  obtain ⟨F, hb⟩ := prun_bare h
  obtain ⟨a, b, ea, eb, h1, h2, h3, h4, _⟩ := ask_at F.2.2.2.2.1 hi hf
  have ea' : a = i + 1 := by omega
  subst ea'
  exact ⟨e, h2, b, eb, h4, prun_apart h hi hf ea eb⟩

end Go.Proofs.Ytjnkkniefpmgdad.M
