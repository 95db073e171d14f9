/-
  Parts, where they lie, and as cells; parts that came in. No condition beyond those named.
-/
import Derived.Test.YtelncekgjfpogahBase
import Derived.Test.YtelncekgjfpogahMathKa
import Derived.ChangeSame
import Derived.Deep.AppendLies
import Derived.Lib.SmallJoins
namespace Go.Proofs.Ytelncekgjfpogah
open Go.ChangeShapes Go.WideShapes Go.ChangeAt Go.RowKit Go.Lib Go.Deep
set_option linter.unusedVariables false

def ptCells (l : List M.Pt) : List Value := l.flatMap fun p => [.int .i64 p.1, .int .i64 p.2]
theorem ptCells_snoc (l : List M.Pt) (p : M.Pt) : ptCells (l ++ [p]) = ptCells l ++ [.int .i64 p.1, .int .i64 p.2] := by simp [ptCells]
theorem ptCells_at : ∀ (l : List M.Pt) (i : Nat), i < l.length → (ptCells l)[i * 2]? = some (.int .i64 (l.getD i (0, 0)).1) ∧ (ptCells l)[i * 2 + 1]? = some (.int .i64 (l.getD i (0, 0)).2)
  | [], i, h => by simp at h
  | x :: t, 0, h => ⟨rfl, rfl⟩
  | x :: t, i + 1, h => by
    have := ptCells_at t i (by simpa using h)
    have e : ptCells (x :: t) = .int .i64 x.1 :: .int .i64 x.2 :: ptCells t := rfl
    rw [e, show (i + 1) * 2 = i * 2 + 1 + 1 by omega]
    simpa using this
theorem infoP : (Try.prog.info? 34).map (fun i => (i.zero, i.size, i.bytes)) = some (some (.agg #[.int .i64 0, .int .i64 0]), 2, 16) := by kernel_rfl
/-- parts, where they lie -/
def RdP (w : World) (a : Option Addr) (l : List M.Pt) : Prop :=
  l.length ≤ maxLen ∧ (l ≠ [] → ∃ b off, a = some ⟨b, off, none⟩ ∧ b < w.heap.size ∧ ∀ i, i < l.length → w.cell? ⟨b, off + i * 2, none⟩ = some (.int .i64 (l.getD i (0, 0)).1) ∧ w.cell? ⟨b, off + i * 2 + 1, none⟩ = some (.int .i64 (l.getD i (0, 0)).2))
theorem RdP.below {w w' : World} {a : Option Addr} {l : List M.Pt} (h : RdP w a l) (hb : Below w.heap.size w w') : RdP w' a l :=
  ⟨h.1, fun hn => by
    obtain ⟨b, off, e, hl, hc⟩ := h.2 hn
    exact ⟨b, off, e, Nat.lt_of_lt_of_le hl hb.size, fun i hi => ⟨(hb.cell (p := ⟨b, off + i * 2, none⟩) hl).trans (hc i hi).1, (hb.cell (p := ⟨b, off + i * 2 + 1, none⟩) hl).trans (hc i hi).2⟩⟩⟩
theorem own_rdP {w : World} {base n : Nat} {v : Value} {l : List M.Pt} (hn : l.length = n) (hm : n ≤ maxLen) (h : w.ownsRow base 34 2 v n (ptCells l)) : ∃ a cap, v = .slice a n cap ∧ RdP w a l ∧ (∀ p, a = some p → base ≤ p.block) ∧ (a = none → cap = 0) := by
  subst hn
  rcases h.2 with ⟨hv, h0⟩ | ⟨g, cap, cur, hv, hb, hg, h1, h2, h3, h4⟩
  · have e : l = [] := List.length_eq_zero_iff.1 h0
    subst e
    exact ⟨none, 0, hv, ⟨Nat.zero_le _, fun h => absurd rfl h⟩, (fun p hp => by cases hp), fun _ => rfl⟩
  · subst hv
    refine ⟨_, cap, rfl, ⟨hm, fun _ => ⟨g, 0, rfl, (Array.getElem?_eq_some_iff.1 hg).1, fun i hi => ?_⟩⟩, (fun p hp => by cases hp; exact hb), (fun e => by cases e)⟩
    obtain ⟨q0, q1⟩ := ptCells_at l i hi
    rw [Nat.zero_add]
    exact ⟨(h.cellAt (i * 2) (by omega)).trans q0, (h.cellAt (i * 2 + 1) (by omega)).trans q1⟩

theorem cellsPt : Try.prog.cellsOf 34 = 2 := by kernel_rfl
theorem cellsPi : Try.prog.cellsOf 3 = 1 := by kernel_rfl
theorem open_parts {H : Type} {enc : TypeId × Value → H} {W : World} {base : Nat} {spare : Nat → Bool} {held : Bool} {fuel : Nat} {a : Option Addr} {len cap : Nat} {x : DataW H × List MemPlace}
    (h : DataW.trod enc Try.prog W base spare held fuel 30 [.slice a len cap] = some x) : ∃ l : List M.Pt, l.length = len ∧ RdP W a l := by
  rcases open_slice Try.underlying30 h with ⟨hcs, _⟩ | ⟨a', len', cap', m, n, D, Pl, hcs, _, hl, hm, hmm, _, hx⟩
  · cases hcs
    exact ⟨[], rfl, ⟨Nat.zero_le _, fun h => absurd rfl h⟩⟩
  · cases hcs
    have hlm : len ≤ m := by rw [hmm]; split <;> omega
    have each : ∀ i, i < len → ∃ p : M.Pt, W.cell? (a'.add (i * 2)) = some (.int .i64 p.1) ∧ W.cell? (a'.add (i * 2 + 1)) = some (.int .i64 p.2) := by
      intro i hi
      obtain ⟨cs, h1, h2⟩ := hx i (by omega)
      rw [cellsPt] at h1
      obtain ⟨_, hlen, hcell⟩ := World.cells?_some h1
      obtain ⟨y0, y1, k, _, _, g0, g1⟩ := trod_struct2 Try.underlying34 h2
      rw [cellsPi] at g0 g1
      match cs, hlen with
      | [c0, c1], _ =>
        obtain ⟨n0, e0, _⟩ := DataW.trod_int Try.underlying3 g0
        obtain ⟨n1, e1, _⟩ := DataW.trod_int Try.underlying3 g1
        simp at e0 e1
        have d0 := hcell 0 (by omega)
        have d1 := hcell 1 (by omega)
        rw [add_add] at d0 d1
        exact ⟨(n0, n1), by simpa [e0] using d0, by simpa [e1] using d1⟩
    obtain ⟨f, hf⟩ := choose_lt each
    refine ⟨(List.range len).map f, by simp, ⟨by simp; omega, fun hne => ?_⟩⟩
    have hp : 0 < len := by
      rcases Nat.eq_zero_or_pos len with h0 | h0
      · subst h0; exact absurd rfl hne
      · exact h0
    obtain ⟨b, off, spot⟩ := a'
    have hspot : spot = none := by
      have := World.cell?_spot (hf 0 hp).1
      simpa [Addr.add] using this
    subst hspot
    have add_flat : ∀ i, (⟨b, off, none⟩ : Addr).add i = ⟨b, off + i, none⟩ := fun i => by unfold Addr.add; simp
    refine ⟨b, off, rfl, ?_, fun i hi => ?_⟩
    · have := (hf 0 hp).1
      rw [add_flat] at this
      exact block_lt_of_cell this
    · have hi' : i < len := by simpa using hi
      have q0 := (hf i hi').1
      have q1 := (hf i hi').2
      rw [add_flat] at q0 q1
      have e : ((List.range len).map f).getD i (0, 0) = f i := by simp [List.getD, hi']
      rw [e]
      exact ⟨q0, q1⟩

end Go.Proofs.Ytelncekgjfpogah
