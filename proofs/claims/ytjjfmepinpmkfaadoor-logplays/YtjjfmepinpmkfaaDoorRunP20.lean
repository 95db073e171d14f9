/-
  Several texts as one: RwIn.
-/
import Derived.Test.YtjjfmepinpmkfaaDoorRunP1
import Derived.Lib.SmallJoins
import Derived.Deep.Matrix
namespace Go.Proofs.YtjjfmepinpmkfaaDoor
open Go.ChangeShapes Go.WideShapes Go.ChangeAt Go.RowKit Go.Deep
set_option linter.unusedVariables false
theorem cellsInt : Tryd.prog.cellsOf 3 = 1 := by kernel_rfl
theorem cellsRow : Tryd.prog.cellsOf 31 = 1 := by kernel_rfl
theorem add_flat (b off i : Nat) : (⟨b, off, none⟩ : Addr).add i = ⟨b, off + i, none⟩ := by unfold Addr.add; simp
/-- rows, where they lie -/
abbrev Kc := Option Addr × List Int × Nat
def kV (k : Kc) : Value := .slice k.1 k.2.1.length k.2.2
def RdK (w : World) (a : Option Addr) (ks : List Kc) : Prop :=
  ks.length ≤ maxLen ∧ (∀ k ∈ ks, Rd w k.1 k.2.1) ∧ (ks ≠ [] → ∃ b off, a = some ⟨b, off, none⟩ ∧ b < w.heap.size ∧ ∀ i (h : i < ks.length), w.cell? ⟨b, off + i, none⟩ = some (kV ks[i]))
theorem RdK.below {w w' : World} {a : Option Addr} {ks : List Kc} (h : RdK w a ks) (hb : Below w.heap.size w w') : RdK w' a ks :=
  ⟨h.1, fun k hk => (h.2.1 k hk).below hb, fun hn => by
    obtain ⟨b, off, e, hl, hc⟩ := h.2.2 hn
    exact ⟨b, off, e, Nat.lt_of_lt_of_le hl hb.size, fun i hi => (hb.cell (p := ⟨b, off + i, none⟩) hl).trans (hc i hi)⟩⟩
def kl (ks : List Kc) : List (List Int) := ks.map (·.2.1)
theorem kl_len (ks : List Kc) : (kl ks).length = ks.length := by simp [kl]
theorem kl_at (ks : List Kc) (k : Nat) (h : k < ks.length) (h' : k < (kl ks).length) : (kl ks)[k] = ks[k].2.1 := by simp [kl]

theorem open_rows {H : Type} {enc : TypeId × Value → H} {W : World} {base : Nat} {held : Bool} {fuel : Nat} {a : Option Addr} {len cap : Nat} {x : DataW H × List MemPlace}
    (h : DataW.trod enc Tryd.prog W base (fun _ => true) held fuel 23 [.slice a len cap] = some x) : ∃ ks : List Kc, ks.length = len ∧ RdK W a ks ∧ ∀ k ∈ ks, ∀ z ∈ k.2.1, (Lit.int .i64 z).wf = true := by
  rcases open_int_rows Tryd.underlying23 Tryd.underlying31 Tryd.underlying3 cellsRow cellsInt h with ⟨hcs, _⟩ | ⟨a', len', cap', A, L, C, Z, hcs, _, hl, hm, _, hx⟩
  · cases hcs
    exact ⟨[], rfl, ⟨Nat.zero_le _, (fun k hk => by cases hk), fun h => absurd rfl h⟩, fun k hk => by cases hk⟩
  · cases hcs
    have row : ∀ r, r < len → IsRow .i64 W (A r) (L r) (C r) (Z r) := by
      intro r hr
      obtain ⟨_, h1, h2, h3, h4, h5, h6⟩ := hx r (by omega)
      cases hA : A r with
      | none =>
        have hc := h5 hA
        exact .inl ⟨rfl, by omega, hc, List.length_eq_zero_iff.1 (by omega)⟩
      | some q => exact .inr ⟨q, rfl, h1, h2, h3, fun i hi => (h6 q hA).2 i (by omega), h4⟩
    refine ⟨(List.range len).map fun r => (A r, (Z r).take (L r), C r), by simp, ⟨by simp; omega, ?_, fun hne => ?_⟩, fun k hk z hz => ?_⟩
    · intro k hk
      rw [List.mem_map] at hk
      obtain ⟨r, hr, rfl⟩ := hk
      exact (rd_of (row r (List.mem_range.1 hr))).1
    · have hp : 0 < len := by
        rcases Nat.eq_zero_or_pos len with h0 | h0
        · subst h0; exact absurd rfl hne
        · exact h0
      obtain ⟨b, off, spot⟩ := a'
      have hspot : spot = none := by
        have := World.cell?_spot (hx 0 (by omega)).1
        simpa [Addr.add] using this
      subst hspot
      refine ⟨b, off, rfl, ?_, fun i hi => ?_⟩
      · have := (hx 0 (by omega)).1
        rw [add_flat] at this
        exact block_lt_of_cell this
      · have hi' : i < len := by simpa using hi
        have q := (hx i (by omega)).1
        rw [add_flat] at q
        rw [q]
        have e := (rd_of (row i hi')).2
        simp [kV, e]
    · rw [List.mem_map] at hk
      obtain ⟨r, hr, rfl⟩ := hk
      rcases row r (List.mem_range.1 hr) with ⟨_, _, _, e⟩ | ⟨_, _, _, _, _, _, wf⟩
      · rw [e] at hz; simp at hz
      · exact wf z (List.mem_of_mem_take hz)
end Go.Proofs.YtjjfmepinpmkfaaDoor
