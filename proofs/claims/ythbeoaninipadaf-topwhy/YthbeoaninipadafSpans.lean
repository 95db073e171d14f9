/-
  Spans, where they lie, and rows of spans that a call makes; no condition beyond those named.
-/
import Derived.Test.YthbeoaninipadafBase
import Derived.Test.YthbeoaninipadafLMathA
namespace Go.Proofs.Ythbeoaninipadaf
open Go.ChangeShapes Go.WideShapes Go.ChangeAt Go.RowKit
set_option linter.unusedVariables false

def spV (s : M.Sp) : Value := .agg #[.int .i64 s.1, .int .i64 s.2.1, .bool s.2.2]
/-- spans, where they lie -/
def RdS (w : World) (a : Option Addr) (ss : List M.Sp) : Prop :=
  ss.length ≤ maxLen ∧ (ss ≠ [] → ∃ b off, a = some ⟨b, off, none⟩ ∧ b < w.heap.size ∧ ∀ i, i < ss.length →
    w.cell? ⟨b, off + i * 3, none⟩ = some (.int .i64 (ss.getD i (0, 0, false)).1) ∧ w.cell? ⟨b, off + i * 3 + 1, none⟩ = some (.int .i64 (ss.getD i (0, 0, false)).2.1) ∧ w.cell? ⟨b, off + i * 3 + 2, none⟩ = some (.bool (ss.getD i (0, 0, false)).2.2))
theorem RdS.below {w w' : World} {a : Option Addr} {ss : List M.Sp} (h : RdS w a ss) (hb : Below w.heap.size w w') : RdS w' a ss :=
  ⟨h.1, fun hn => by
    obtain ⟨b, off, e, hl, hc⟩ := h.2 hn
    refine ⟨b, off, e, Nat.lt_of_lt_of_le hl hb.size, fun i hi => ?_⟩
    obtain ⟨h1, h2, h3⟩ := hc i hi
    exact ⟨(hb.cell (p := ⟨b, off + i * 3, none⟩) hl).trans h1, (hb.cell (p := ⟨b, off + i * 3 + 1, none⟩) hl).trans h2, (hb.cell (p := ⟨b, off + i * 3 + 2, none⟩) hl).trans h3⟩⟩

def spCells (ss : List M.Sp) : List Value := ss.flatMap fun s => [.int .i64 s.1, .int .i64 s.2.1, .bool s.2.2]
theorem spCells_snoc (ss : List M.Sp) (s : M.Sp) : spCells (ss ++ [s]) = spCells ss ++ [.int .i64 s.1, .int .i64 s.2.1, .bool s.2.2] := by simp [spCells]
theorem spCells_at : ∀ (ss : List M.Sp) (i : Nat), i < ss.length → (spCells ss)[i * 3]? = some (.int .i64 (ss.getD i (0, 0, false)).1) ∧ (spCells ss)[i * 3 + 1]? = some (.int .i64 (ss.getD i (0, 0, false)).2.1) ∧ (spCells ss)[i * 3 + 2]? = some (.bool (ss.getD i (0, 0, false)).2.2)
  | [], i, h => by simp at h
  | s :: t, 0, h => ⟨rfl, rfl, rfl⟩
  | s :: t, i + 1, h => by
    have := spCells_at t i (by simpa using h)
    have e : spCells (s :: t) = .int .i64 s.1 :: .int .i64 s.2.1 :: .bool s.2.2 :: spCells t := rfl
    rw [e, show (i + 1) * 3 = i * 3 + 1 + 1 + 1 by omega]
    simpa using this
theorem own_rdS {w : World} {base n : Nat} {v : Value} {ss : List M.Sp} (hn : ss.length = n) (hm : n ≤ maxLen) (h : w.ownsRow base 77 3 v n (spCells ss)) : ∃ a cap, v = .slice a n cap ∧ RdS w a ss := by
  subst hn
  rcases h.2 with ⟨hv, h0⟩ | ⟨g, cap, cur, hv, hb, hg, h1, h2, h3, h4⟩
  · have e : ss = [] := List.length_eq_zero_iff.1 h0
    subst e
    exact ⟨none, 0, hv, ⟨Nat.zero_le _, fun h => absurd rfl h⟩⟩
  · subst hv
    refine ⟨_, cap, rfl, ⟨hm, fun _ => ⟨g, 0, rfl, (Array.getElem?_eq_some_iff.1 hg).1, fun i hi => ?_⟩⟩⟩
    obtain ⟨q0, q1, q2⟩ := spCells_at ss i hi
    rw [Nat.zero_add]
    exact ⟨(h.cellAt (i * 3) (by omega)).trans q0, (h.cellAt (i * 3 + 1) (by omega)).trans q1, (h.cellAt (i * 3 + 2) (by omega)).trans q2⟩
theorem info33 : (Try.prog.info? 77).map (fun i => (i.zero, i.size, i.bytes)) = some (some (.agg #[.int .i64 0, .int .i64 0, .bool false]), 3, 24) := by kernel_rfl

/-- a span of such a row, changed -/
theorem spCells_set : ∀ (ss : List M.Sp) (i : Nat) (s : M.Sp), (((spCells ss).set (i * 3) (.int .i64 s.1)).set (i * 3 + 1) (.int .i64 s.2.1)).set (i * 3 + 2) (.bool s.2.2) = spCells (ss.set i s)
  | [], i, s => by simp [spCells]
  | x :: t, 0, s => rfl
  | x :: t, i + 1, s => by
    have e : spCells (x :: t) = .int .i64 x.1 :: .int .i64 x.2.1 :: .bool x.2.2 :: spCells t := rfl
    have e2 : spCells ((x :: t).set (i + 1) s) = .int .i64 x.1 :: .int .i64 x.2.1 :: .bool x.2.2 :: spCells (t.set i s) := rfl
    rw [e, e2, ← spCells_set t i s, show (i + 1) * 3 = i * 3 + 1 + 1 + 1 by omega]
    rfl
theorem own_setS {w : World} {base n g cap : Nat} {ss : List M.Sp} (h : w.ownsRow base 77 3 (.slice (some ⟨g, 0, none⟩) n cap) n (spCells ss)) (i : Nat) (s : M.Sp) :
    (((w.setCell ⟨g, i * 3, none⟩ (.int .i64 s.1)).setCell ⟨g, i * 3 + 1, none⟩ (.int .i64 s.2.1)).setCell ⟨g, i * 3 + 2, none⟩ (.bool s.2.2)).ownsRow base 77 3 (.slice (some ⟨g, 0, none⟩) n cap) n (spCells (ss.set i s)) := by
  have h1 := (h.stored (i * 3) (.int .i64 s.1)).1
  have h2 := (h1.stored (i * 3 + 1) (.int .i64 s.2.1)).1
  have h3 := (h2.stored (i * 3 + 2) (.bool s.2.2)).1
  rw [spCells_set] at h3
  exact h3

end Go.Proofs.Ythbeoaninipadaf
