/-
  Plain mathematics of the law RowFits: a row's own spans have it and no other; its bins are bins; and rows of spans and of lists that a call makes; no condition beyond those named.
-/
import Derived.Test.YtihaphicidjooabRowBins
import Derived.Test.YtihaphicidjooabInts
import Derived.Deep.AppendLies
namespace Go.Proofs.Ytihaphicidjooab
open Go.ChangeShapes Go.WideShapes Go.ChangeAt Go.RowKit Go.Shelf Go.Lib Go.Sort
set_option linter.unusedVariables false

/-- just a cell's span -/
def M.spOf (y : Int) : M.Sp := if y = M.nilI then (1, 0, true) else (y, y, false)
theorem M.in_own (x y : Int) : M.inS y (M.spOf x) = decide (y = x) := by
  unfold M.spOf
  by_cases hx : x = M.nilI
  · rw [if_pos hx]
    by_cases hy : y = M.nilI
    · rw [M.in_nil hy, hx, hy]; simp
    · rw [M.in_num hy, hx]
      have : ¬ y = M.nilI := hy
      simp [this]; omega
  · rw [if_neg hx]
    by_cases hy : y = M.nilI
    · rw [M.in_nil hy, hy]
      have : ¬ M.nilI = x := fun e => hx e.symm
      simp [this]
    · rw [M.in_num hy]
      by_cases e : y = x
      · subst e; simp
      · simp [e]; omega
theorem M.own_at (xs ys : List Int) (i : Nat) (h : i < xs.length) (h2 : i < ys.length) : M.outAt ys (xs.map M.spOf) i = !decide (ys[i] = xs[i]) := by
  unfold M.outAt
  rw [show ys.getD i 0 = ys[i] by simp [List.getD, List.getElem?_eq_getElem h2], show (xs.map M.spOf).getD i (0, 0, false) = M.spOf xs[i] by simp [List.getD, List.getElem?_eq_getElem h], M.in_own]
theorem M.fit_same (xs ys : List Int) (hr : M.rowF ys = 0) (hl : ys.length = xs.length) : M.fitF ys (xs.map M.spOf) = 0 ∧ M.fitV ys (xs.map M.spOf) = decide (ys = xs) := by
  obtain ⟨e1, e2⟩ := M.fit_ok (ss := xs.map M.spOf) hr (by simp [hl])
  refine ⟨e1, ?_⟩
  rw [e2]
  by_cases h : ys = xs
  · subst h
    rw [M.any_miss fun i hi => by rw [M.own_at ys ys i hi hi]; simp]
    simp
  · rw [decide_eq_false h]
    have : ∃ i, ∃ h1 : i < ys.length, ∃ h2 : i < xs.length, ys[i] ≠ xs[i] := by
      apply Classical.byContradiction
      intro hn
      apply h
      apply List.ext_getElem hl
      intro i h1 h2
      apply Classical.byContradiction
      intro he
      exact hn ⟨i, h1, h2, he⟩
    obtain ⟨i, h1, h2, h3⟩ := this
    rw [M.any_hit h1 (by rw [M.own_at xs ys i h2 h1]; simp [h3])]
    rfl
theorem M.faultC_rep (c : List Int) (n : Nat) : M.faultC (List.replicate n c) = if n = 0 then 0 else M.cutsI c := by
  induction n with
  | zero => rfl
  | succ n ih =>
    rw [List.replicate_succ]
    unfold M.faultC
    by_cases h : M.cutsI c ≠ 0
    · rw [if_pos h]; simp
    · rw [if_neg h, ih]
      have : M.cutsI c = 0 := by simpa using h
      simp [this]
theorem M.bins_rep {xs c : List Int} (h : M.rowF xs = 0) : M.binsF xs (List.replicate xs.length c) = (if xs.length = 0 then 0 else M.cutsI c) := by
  rw [M.bins_some h (by simp), M.faultC_rep]
theorem M.bins_rep_at (xs c : List Int) (k : Nat) (h : k < xs.length) (h' : k < (M.bins xs (List.replicate xs.length c)).length) : (M.bins xs (List.replicate xs.length c))[k] = M.binC xs[k] c := by
  rw [M.bins_at xs _ k h h']
  congr 1
  simp [List.getD, h]
theorem M.binC_is {x : Int} {c : List Int} (h : M.cutsI c = 0) : (x = M.nilI ∧ M.binC x c = M.nilI) ∨ (x ≠ M.nilI ∧ 0 ≤ M.binC x c ∧ M.binC x c ≤ c.length) := by
  by_cases hx : x = M.nilI
  · exact .inl ⟨hx, M.binC_nil h hx⟩
  · refine .inr ⟨hx, ?_⟩
    rw [M.binC_num h hx]
    have := M.bin_le c x
    omega

/-! ### rows that a call makes -/

def spCells (ss : List M.Sp) : List Value := ss.flatMap fun s => [.int .i64 s.1, .int .i64 s.2.1, .bool s.2.2]
theorem spCells_snoc (ss : List M.Sp) (s : M.Sp) : spCells (ss ++ [s]) = spCells ss ++ [.int .i64 s.1, .int .i64 s.2.1, .bool s.2.2] := by simp [spCells]
theorem spCells_at : ∀ (ss : List M.Sp) (i : Nat), i < ss.length → (spCells ss)[i * 3]? = some (.int .i64 (ss.getD i (0, 0, false)).1) ∧ (spCells ss)[i * 3 + 1]? = some (.int .i64 (ss.getD i (0, 0, false)).2.1) ∧ (spCells ss)[i * 3 + 2]? = some (.bool (ss.getD i (0, 0, false)).2.2)
  | [], i, h => by simp at h
  | s :: t, 0, h => ⟨rfl, rfl, rfl⟩
  | s :: t, i + 1, h => by
    have := spCells_at t i (by simpa using h)
    have e : spCells (s :: t) = .int .i64 s.1 :: .int .i64 s.2.1 :: .bool s.2.2 :: spCells t := rfl
    rw [e, show (i + 1) * 3 = i * 3 + 1 + 1 + 1 by omega]
    simpa using this
theorem own_rdS {w : World} {base n : Nat} {v : Value} {ss : List M.Sp} (hn : ss.length = n) (hm : n ≤ maxLen) (h : w.ownsRow base 33 3 v n (spCells ss)) : ∃ a cap, v = .slice a n cap ∧ RdS w a ss := by
  subst hn
  rcases h.2 with ⟨hv, h0⟩ | ⟨g, cap, cur, hv, hb, hg, h1, h2, h3, h4⟩
  · have e : ss = [] := List.length_eq_zero_iff.1 h0
    subst e
    exact ⟨none, 0, hv, ⟨Nat.zero_le _, fun h => absurd rfl h⟩⟩
  · subst hv
    refine ⟨_, cap, rfl, ⟨hm, fun _ => ⟨g, 0, rfl, (Array.getElem?_eq_some_iff.1 hg).1, fun i hi => ?_⟩⟩⟩
    obtain ⟨q0, q1, q2⟩ := spCells_at ss i hi
    rw [Nat.zero_add]
    exact ⟨(h.cellAt (i * 3) (by omega)).trans q0, (h.cellAt (i * 3 + 1) (by omega)).trans q1, (h.cellAt (i * 3 + 2) (by omega)).trans q2⟩
theorem own_rdK {w : World} {base n : Nat} {v : Value} {ks : List Kc} (hn : ks.length = n) (hm : n ≤ maxLen) (hr : ∀ k ∈ ks, Rd w k.1 k.2.1) (h : w.ownsRow base 22 1 v n (ks.map kV)) : ∃ a cap, v = .slice a n cap ∧ RdK w a ks := by
  subst hn
  rcases h.2 with ⟨hv, h0⟩ | ⟨g, cap, cur, hv, hb, hg, h1, h2, h3, h4⟩
  · have e : ks = [] := List.length_eq_zero_iff.1 h0
    subst e
    exact ⟨none, 0, hv, ⟨Nat.zero_le _, hr, fun h => absurd rfl h⟩⟩
  · subst hv
    refine ⟨_, cap, rfl, ⟨hm, hr, fun _ => ⟨g, 0, rfl, (Array.getElem?_eq_some_iff.1 hg).1, fun i hi => ?_⟩⟩⟩
    rw [Nat.zero_add, h.cellAt i (by omega)]
    simp [hi]
theorem info33 : (Try.prog.info? 33).map (fun i => (i.zero, i.size, i.bytes)) = some (some (.agg #[.int .i64 0, .int .i64 0, .bool false]), 3, 24) := by kernel_rfl
theorem info22 : (Try.prog.info? 22).map (fun i => (i.zero, i.size, i.bytes)) = some (some (.slice none 0 0), 1, 24) := by kernel_rfl

end Go.Proofs.Ytihaphicidjooab
