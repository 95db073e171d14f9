/-
  A tree whose leaves are given one value.
-/
import Derived.Test.YtjnkkniefpmgdadMathO
namespace Go.Proofs.Ytjnkkniefpmgdad
namespace M
set_option linter.unusedVariables false

/-- a node, its value turned if it is a leaf -/
def reV (v : Int) (n : Nd) : Nd := if nf n = -1 then (nf n, nc n, nl n, nr n, ns n, v) else n
theorem rev_f (v : Int) (n : Nd) : nf (reV v n) = nf n := by unfold reV; split <;> rfl
theorem rev_c (v : Int) (n : Nd) : nc (reV v n) = nc n := by unfold reV; split <;> rfl
theorem rev_l (v : Int) (n : Nd) : nl (reV v n) = nl n := by unfold reV; split <;> rfl
theorem rev_r (v : Int) (n : Nd) : nr (reV v n) = nr n := by unfold reV; split <;> rfl
theorem rev_s (v : Int) (n : Nd) : ns (reV v n) = ns n := by unfold reV; split <;> rfl
theorem rev_v {v : Int} {n : Nd} (h : nf n = -1) : nv (reV v n) = v := by unfold reV; rw [if_pos h]; rfl
theorem rev_ask {v : Int} {n : Nd} (h : nf n ≠ -1) : reV v n = n := by unfold reV; rw [if_neg h]
theorem rev_at (v : Int) {t : List Nd} (i : Nat) : nAt (t.map (reV v)) i = reV v (nAt t i) := by
  unfold nAt
  by_cases h : i < t.length
  · simp [List.getD, List.getElem?_eq_getElem h]
  · have h' : t.length ≤ i := by omega
    simp [List.getD, List.getElem?_eq_none h']
    rfl
theorem rev_dep (v : Int) (t : List Nd) : ∀ (k i : Nat), dep (t.map (reV v)) k i = dep t k i
  | 0, i => rfl
  | k + 1, i => by
    unfold dep
    rw [rev_at, rev_f, rev_l, rev_r, rev_dep v t k, rev_dep v t k]
theorem rev_ups (v : Int) (t : List Nd) (i : Int) : ups (t.map (reV v)) i = ups t i := by
  unfold ups
  rw [List.map_map]
  congr 1
  apply List.map_congr_left
  intro n _
  show edge i (reV v n) = edge i n
  unfold edge
  rw [rev_f, rev_l, rev_r]
theorem rev_tree {t : List Nd} {m v : Int} (h : (treeF t m).2 = 0) (hv : -1000000 ≤ v ∧ v ≤ 1000000) : (treeF (t.map (reV v)) m).2 = 0 := by
  obtain ⟨F, e⟩ := tree_ok h
  have F' : Fair (t.map (reV v)) m := by
    obtain ⟨h1, h2, h3, h4, h5, h6⟩ := F
    refine ⟨by simpa using h1, by simpa using h2, h3, h4, fun j hj => ?_, fun j h0 hj => ?_⟩
    · rw [List.length_map] at hj ⊢
      have q := h5 j hj
      rw [rev_at]
      by_cases hf : nf (nAt t j) = -1
      · unfold nodeF at q ⊢
        rw [if_pos hf] at q
        rw [rev_f, if_pos hf]
        unfold lfF at q ⊢
        rw [rev_v hf, rev_c, rev_l, rev_r, rev_s]
        have hz : outI v = false := by unfold outI; simp; omega
        rw [if_neg (by rw [hz]; decide)]
        by_cases ho : outI (nv (nAt t j)) = true
        · rw [if_pos ho] at q; cases q
        · rw [if_neg ho] at q; exact q
      · rw [rev_ask hf]; exact q
    · rw [List.length_map] at hj
      rw [rev_ups]
      exact h6 j h0 hj
  have d : depth (t.map (reV v)) 0 = depth t 0 := by unfold depth; rw [List.length_map, rev_dep]
  rw [tree_fair F', d]
  rw [tree_fair F] at e
  by_cases q : 10 < depth t 0
  · rw [if_pos q] at e; cases e
  · rw [if_neg q]
theorem rev_one {t : List Nd} {m v : Int} (h : (treeF t m).2 = 0) (hv : -1000000 ≤ v ∧ v ≤ 1000000) : prunV (t.map (reV v)) m = [(-1, 0, 0, 0, false, v)] := by
  refine prun_one (rev_tree h hv) fun i hi hf => ?_
  rw [rev_at] at hf ⊢
  rw [rev_f] at hf
  exact rev_v hf

end M
end Go.Proofs.Ytjnkkniefpmgdad
