/-
  Samples as cells; no condition beyond those named.
-/
import Derived.Test.YthbeoaninipadafSams
namespace Go.Proofs.Ythbeoaninipadaf
open Go.ChangeShapes Go.WideShapes Go.ChangeAt Go.RowKit Go.Lib
set_option linter.unusedVariables false

/-! ### samples as cells -/
def saCells (xs : List Sx) : List Value := xs.flatMap fun x => [sxV x, .int .i64 x.2.2.2]
theorem saCells_snoc (xs : List Sx) (x : Sx) : saCells (xs ++ [x]) = saCells xs ++ [sxV x, .int .i64 x.2.2.2] := by simp [saCells]
theorem saCells_at : ∀ (xs : List Sx) (i : Nat) (h : i < xs.length), (saCells xs)[i * 2]? = some (sxV xs[i]) ∧ (saCells xs)[i * 2 + 1]? = some (.int .i64 xs[i].2.2.2)
  | [], i, h => by simp at h
  | x :: t, 0, h => ⟨rfl, rfl⟩
  | x :: t, i + 1, h => by
    have := saCells_at t i (by simpa using h)
    have e : saCells (x :: t) = sxV x :: .int .i64 x.2.2.2 :: saCells t := rfl
    rw [e, show (i + 1) * 2 = i * 2 + 1 + 1 by omega]
    simpa using this
theorem own_rdL {w : World} {base n : Nat} {v : Value} {xs : List Sx} (hn : xs.length = n) (hm : n ≤ maxLen) (h : w.ownsRow base 25 2 v n (saCells xs)) (hr : ∀ x ∈ xs, Rd w x.1 x.2.1) : ∃ a cap, v = .slice a n cap ∧ RdL w a xs := by
  subst hn
  rcases h.2 with ⟨hv, h0⟩ | ⟨g, cap, cur, hv, hb, hg, h1, h2, h3, h4⟩
  · have e : xs = [] := List.length_eq_zero_iff.1 h0
    subst e
    exact ⟨none, 0, hv, ⟨Nat.zero_le _, hr, fun h => absurd rfl h⟩⟩
  · subst hv
    refine ⟨_, cap, rfl, ⟨hm, hr, fun _ => ⟨g, 0, rfl, (Array.getElem?_eq_some_iff.1 hg).1, fun i hi => ?_⟩⟩⟩
    obtain ⟨q0, q1⟩ := saCells_at xs i hi
    rw [Nat.zero_add]
    exact ⟨(h.cellAt (i * 2) (by omega)).trans q0, (h.cellAt (i * 2 + 1) (by omega)).trans q1⟩
theorem own_any {w : World} {base n e size : Nat} {v : Value} {l : List Value} (h : w.ownsRow base e size v n l) : ∃ va vc, v = .slice va n vc := by
  rcases h.2 with ⟨hv, h0⟩ | ⟨g, cap, cur, hv, _⟩
  · exact ⟨none, 0, by rw [hv, h0]⟩
  · exact ⟨some ⟨g, 0, none⟩, cap, hv⟩
theorem infoSam : (Try.prog.info? 25).map (fun i => (i.zero, i.size, i.bytes)) = some (some (.agg #[.slice none 0 0, .int .i64 0]), 2, 32) := by kernel_rfl

end Go.Proofs.Ythbeoaninipadaf
