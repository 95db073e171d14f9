/-
  Spans that came in, where they lie; no condition beyond those named.
-/
import Derived.Test.YtcaljnhdfbjpnaeSpans
import Derived.Test.YtcaljnhdfbjpnaeNodes
namespace Go.Proofs.Ytcaljnhdfbjpnae
open Go.ChangeShapes Go.WideShapes Go.ChangeAt Go.RowKit Go.Deep
set_option linter.unusedVariables false

theorem cellsSpan : Try.prog.cellsOf 35 = 3 := by kernel_rfl
theorem open_spans {H : Type} {enc : TypeId × Value → H} {W : World} {base : Nat} {spare : Nat → Bool} {held : Bool} {fuel : Nat} {a : Option Addr} {len cap : Nat} {x : DataW H × List MemPlace}
    (h : DataW.trod enc Try.prog W base spare held fuel 27 [.slice a len cap] = some x) : ∃ ss : List M.Sp, ss.length = len ∧ RdS W a ss := by
  rcases open_slice Try.underlying27 h with ⟨hcs, _⟩ | ⟨a', len', cap', m, n, D, Pl, hcs, _, hl, hm, hmm, _, hx⟩
  · cases hcs
    exact ⟨[], rfl, ⟨Nat.zero_le _, fun h => absurd rfl h⟩⟩
  · cases hcs
    have hlm : len ≤ m := by rw [hmm]; split <;> omega
    have each : ∀ i, i < len → ∃ sp : M.Sp, W.cell? (a'.add (i * 3)) = some (.int .i64 sp.1) ∧ W.cell? (a'.add (i * 3 + 1)) = some (.int .i64 sp.2.1) ∧ W.cell? (a'.add (i * 3 + 2)) = some (.bool sp.2.2) := by
      intro i hi
      obtain ⟨cs, h1, h2⟩ := hx i (by omega)
      rw [cellsSpan] at h1
      obtain ⟨_, hlen, hcell⟩ := World.cells?_some h1
      obtain ⟨y0, y1, y2, k, _, _, g0, g1, g2⟩ := trod_struct3 Try.underlying35 h2
      rw [cellsInt] at g0 g1
      rw [cellsBool] at g2
      match cs, hlen with
      | [c0, c1, c2], _ =>
        obtain ⟨n0, e0, _⟩ := DataW.trod_int Try.underlying3 g0
        obtain ⟨n1, e1, _⟩ := DataW.trod_int Try.underlying3 g1
        obtain ⟨n2, e2, _⟩ := DataW.trod_bool Try.underlying4 g2
        simp at e0 e1 e2
        have d0 := hcell 0 (by omega)
        have d1 := hcell 1 (by omega)
        have d2 := hcell 2 (by omega)
        rw [add_add] at d0 d1 d2
        refine ⟨(n0, n1, n2), ?_, ?_, ?_⟩
        · simpa [e0] using d0
        · simpa [e1] using d1
        · simpa [e2] using d2
    obtain ⟨f, hf⟩ := choose_lt each
    refine ⟨(List.range len).map f, by simp, ⟨by simp; omega, fun hne => ?_⟩⟩
    have hp : 0 < len := by
      rcases Nat.eq_zero_or_pos len with h0 | h0
      · subst h0; exact absurd rfl hne
      · exact h0
    obtain ⟨b, off, spot⟩ := a'
    have hspot : spot = none := by
      have := World.cell?_spot (hf 0 hp).1
      simpa [Addr.add] using this
    subst hspot
    refine ⟨b, off, rfl, ?_, fun i hi => ?_⟩
    · have := (hf 0 hp).1
      rw [add_flat] at this
      exact block_lt_of_cell this
    · have hi' : i < len := by simpa using hi
      obtain ⟨q0, q1, q2⟩ := hf i hi'
      rw [add_flat] at q0 q1 q2
      have e : ((List.range len).map f).getD i (0, 0, false) = f i := by simp [List.getD, hi']
      rw [e]
      exact ⟨q0, by rw [Nat.add_assoc]; exact q1, by rw [Nat.add_assoc]; exact q2⟩

end Go.Proofs.Ytcaljnhdfbjpnae
