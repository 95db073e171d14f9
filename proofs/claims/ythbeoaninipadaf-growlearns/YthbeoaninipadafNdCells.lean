/-
  Nodes of a tree as cells one behind the other: rows of our own that hold them; no condition beyond those named.
-/
import Derived.Test.YthbeoaninipadafNodes
namespace Go.Proofs.Ythbeoaninipadaf
open Go.ChangeShapes Go.WideShapes Go.ChangeAt Go.RowKit
set_option linter.unusedVariables false

theorem infoN : (Try.prog.info? 32).map (fun i => (i.zero, i.size, i.bytes)) = some (some (.agg #[.int .i64 0, .int .i64 0, .int .i64 0, .int .i64 0, .bool false, .int .i64 0]), 6, 48) := by kernel_rfl
def ndCells (ts : List M.Nd) : List Value := ts.flatMap fun n => [.int .i64 (M.nf n), .int .i64 (M.nc n), .int .i64 (M.nl n), .int .i64 (M.nr n), .bool (M.ns n), .int .i64 (M.nv n)]
theorem ndCells_cons (n : M.Nd) (t : List M.Nd) : ndCells (n :: t) = .int .i64 (M.nf n) :: .int .i64 (M.nc n) :: .int .i64 (M.nl n) :: .int .i64 (M.nr n) :: .bool (M.ns n) :: .int .i64 (M.nv n) :: ndCells t := rfl
theorem ndCells_len (ts : List M.Nd) : (ndCells ts).length = ts.length * 6 := by
  induction ts with
  | nil => rfl
  | cons x t ih => rw [ndCells_cons]; simp only [List.length_cons, ih]; omega
theorem ndCells_one (ts : List M.Nd) : ∀ v ∈ ndCells ts, v.oneCell' = true := by
  intro v hv
  simp only [ndCells, List.mem_flatMap] at hv
  obtain ⟨s, _, hs⟩ := hv
  simp only [List.mem_cons, List.not_mem_nil, or_false] at hs
  rcases hs with rfl | rfl | rfl | rfl | rfl | rfl <;> rfl
theorem ndCells_at : ∀ (ts : List M.Nd) (i : Nat), i < ts.length → (ndCells ts)[i * 6]? = some (.int .i64 (M.nf (M.nAt ts i))) ∧ (ndCells ts)[i * 6 + 1]? = some (.int .i64 (M.nc (M.nAt ts i))) ∧ (ndCells ts)[i * 6 + 2]? = some (.int .i64 (M.nl (M.nAt ts i))) ∧ (ndCells ts)[i * 6 + 3]? = some (.int .i64 (M.nr (M.nAt ts i))) ∧ (ndCells ts)[i * 6 + 4]? = some (.bool (M.ns (M.nAt ts i))) ∧ (ndCells ts)[i * 6 + 5]? = some (.int .i64 (M.nv (M.nAt ts i)))
  | [], i, h => by simp at h
  | s :: t, 0, h => ⟨rfl, rfl, rfl, rfl, rfl, rfl⟩
  | s :: t, i + 1, h => by
    have := ndCells_at t i (by simpa using h)
    have e : M.nAt (s :: t) (i + 1) = M.nAt t i := by simp [M.nAt]
    rw [ndCells_cons, e, show (i + 1) * 6 = i * 6 + 1 + 1 + 1 + 1 + 1 + 1 by omega]
    simpa using this
theorem nd_src {w : World} {b off : Nat} {ts : List M.Nd} (hc : ∀ i, i < ts.length → SixAt w b (off + i * 6) (M.nAt ts i)) : ∀ j u, (ndCells ts)[j]? = some u → w.cell? ((⟨b, off, none⟩ : Addr).add j) = some u := by
  intro j u hj
  have hl : j < ts.length * 6 := by
    have := (List.getElem?_eq_some_iff.1 hj).1
    rwa [ndCells_len] at this
  have hi : j / 6 < ts.length := by omega
  obtain ⟨h0, h1, h2, h3, h4, h5⟩ := hc _ hi
  obtain ⟨q0, q1, q2, q3, q4, q5⟩ := ndCells_at ts _ hi
  rw [add_flat]
  rcases (show j = j / 6 * 6 ∨ j = j / 6 * 6 + 1 ∨ j = j / 6 * 6 + 2 ∨ j = j / 6 * 6 + 3 ∨ j = j / 6 * 6 + 4 ∨ j = j / 6 * 6 + 5 by omega) with e | e | e | e | e | e
  · rw [e] at hj ⊢; rw [q0] at hj; rw [← hj]; simpa [Nat.mul_div_cancel] using h0
  · rw [e] at hj ⊢; rw [show (j / 6 * 6 + 1) = j / 6 * 6 + 1 from rfl] at hj; rw [q1] at hj; rw [← hj, ← Nat.add_assoc]; exact h1
  · rw [e] at hj ⊢; rw [q2] at hj; rw [← hj, ← Nat.add_assoc]; exact h2
  · rw [e] at hj ⊢; rw [q3] at hj; rw [← hj, ← Nat.add_assoc]; exact h3
  · rw [e] at hj ⊢; rw [q4] at hj; rw [← hj, ← Nat.add_assoc]; exact h4
  · rw [e] at hj ⊢; rw [q5] at hj; rw [← hj, ← Nat.add_assoc]; exact h5
theorem own_rdN {w : World} {base n : Nat} {v : Value} {ts : List M.Nd} (hn : ts.length = n) (hm : n ≤ maxLen) (h : w.ownsRow base 32 6 v n (ndCells ts)) : ∃ a cap, v = .slice a n cap ∧ RdN w a ts ∧ (∀ p, a = some p → base ≤ p.block) := by
  subst hn
  rcases h.2 with ⟨hv, h0⟩ | ⟨g, cap, cur, hv, hb, hg, h1, h2, h3, h4⟩
  · have e : ts = [] := List.length_eq_zero_iff.1 h0
    subst e
    exact ⟨none, 0, hv, ⟨Nat.zero_le _, fun h => absurd rfl h⟩, fun p hp => by cases hp⟩
  · subst hv
    refine ⟨_, cap, rfl, ⟨hm, fun _ => ⟨g, 0, rfl, (Array.getElem?_eq_some_iff.1 hg).1, fun i hi => ?_⟩⟩, fun p hp => by cases hp; exact hb⟩
    obtain ⟨q0, q1, q2, q3, q4, q5⟩ := ndCells_at ts i hi
    rw [Nat.zero_add]
    exact ⟨(h.cellAt (i * 6) (by omega)).trans q0, (h.cellAt (i * 6 + 1) (by omega)).trans q1, (h.cellAt (i * 6 + 2) (by omega)).trans q2, (h.cellAt (i * 6 + 3) (by omega)).trans q3, (h.cellAt (i * 6 + 4) (by omega)).trans q4, (h.cellAt (i * 6 + 5) (by omega)).trans q5⟩

end Go.Proofs.Ythbeoaninipadaf
