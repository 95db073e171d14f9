/-
  Lists of bytes that came in, where they lie. No condition beyond those named.
-/
import Derived.Test.YtelncekgjfpogahDoorOpenB
import Derived.Deep.Matrix
namespace Go.Proofs.YtelncekgjfpogahDoor
open Go.ChangeShapes Go.WideShapes Go.ChangeAt Go.RowKit Go.Deep
set_option linter.unusedVariables false

/-- bytes, where they lie, and how much room there is -/
abbrev Bc := Option Addr × List Nat × Nat
def bV (c : Bc) : Value := .slice c.1 c.2.1.length c.2.2
def RdY (w : World) (a : Option Addr) (ks : List Bc) : Prop :=
  ks.length ≤ maxLen ∧ (∀ k ∈ ks, RdB w k.1 k.2.1 ∧ k.2.1.length ≤ k.2.2 ∧ k.2.2 ≤ 9223372036854775807 ∧ (k.1 = none → k.2.2 = 0)) ∧ (ks ≠ [] → ∃ b off, a = some ⟨b, off, none⟩ ∧ b < w.heap.size ∧ ∀ i (h : i < ks.length), w.cell? ⟨b, off + i, none⟩ = some (bV ks[i]))
theorem RdY.below {w w' : World} {a : Option Addr} {ks : List Bc} (h : RdY w a ks) (hb : Below w.heap.size w w') : RdY w' a ks :=
  ⟨h.1, fun k hk => ⟨(h.2.1 k hk).1.below hb, (h.2.1 k hk).2⟩, fun hn => by
    obtain ⟨b, off, e, hl, hc⟩ := h.2.2 hn
    exact ⟨b, off, e, Nat.lt_of_lt_of_le hl hb.size, fun i hi => (hb.cell (p := ⟨b, off + i, none⟩) hl).trans (hc i hi)⟩⟩
theorem rdB_of {w : World} {a : Option Addr} {len cap : Nat} {zs : List Int} (h : IsRow .u8 w a len cap zs) : RdB w a ((zs.take len).map Int.toNat) ∧ ((zs.take len).map Int.toNat).length = len := by
  rcases h with ⟨rfl, rfl, rfl, rfl⟩ | ⟨p, rfl, hl, hm, hz, hcell, hwz⟩
  · exact ⟨⟨Nat.zero_le _, (fun x hx => by cases hx), fun hn => absurd rfl hn⟩, rfl⟩
  · have tl : (zs.take len).length = len := by rw [List.length_take]; omega
    refine ⟨⟨by rw [List.length_map, tl]; unfold maxLen at *; omega, ?_, fun hn => ?_⟩, by rw [List.length_map]; exact tl⟩
    · intro y hy
      obtain ⟨n, hn, rfl⟩ := List.mem_map.1 hy
      have := byte_wf (hwz n (List.mem_of_mem_take hn))
      omega
    · have hp : 0 < len := by
        rcases Nat.eq_zero_or_pos len with h0 | h0
        · subst h0; exact absurd rfl hn
        · exact h0
      obtain ⟨b, off, spot⟩ := p
      have hspot : spot = none := by
        have := World.cell?_spot (hcell 0 (by omega))
        simpa [Addr.add] using this
      subst hspot
      have add_flat : ∀ i, (⟨b, off, none⟩ : Addr).add i = ⟨b, off + i, none⟩ := fun i => by unfold Addr.add; simp
      refine ⟨b, off, rfl, ?_, fun i hi => ?_⟩
      · have := hcell 0 (by omega)
        rw [add_flat] at this
        exact block_lt_of_cell this
      · rw [List.length_map, tl] at hi
        have q := hcell i (by omega)
        rw [add_flat] at q
        rw [q]
        have e1 : zs.getD i 0 = zs[i]'(by omega) := by simp [List.getD, show i < zs.length by omega]
        have e2 : ((zs.take len).map Int.toNat).getD i 0 = (zs[i]'(by omega)).toNat := by simp [List.getD, hi, show i < zs.length by omega]
        have w8 := byte_wf (hwz (zs[i]'(by omega)) (List.getElem_mem _))
        rw [e1, e2]
        unfold byV
        rw [Int.toNat_of_nonneg w8.1]
theorem open_byrows {H : Type} {enc : TypeId × Value → H} {W : World} {base : Nat} {held : Bool} {fuel : Nat} {a : Option Addr} {len cap : Nat} {x : DataW H × List MemPlace}
    (h : DataW.trod enc Tryd.prog W base (fun _ => true) held fuel 53 [.slice a len cap] = some x) : ∃ ks : List Bc, ks.length = len ∧ RdY W a ks := by
  rcases open_int_rows Tryd.underlying53 Tryd.underlying26 Tryd.underlying5 (by kernel_rfl) (by kernel_rfl) h with ⟨hcs, _⟩ | ⟨a', len', cap', A, L, C, Z, hcs, _, hl, hm, _, hx⟩
  · cases hcs
    exact ⟨[], rfl, ⟨Nat.zero_le _, (fun k hk => by cases hk), fun h => absurd rfl h⟩⟩
  · cases hcs
    have row : ∀ r, r < len → IsRow .u8 W (A r) (L r) (C r) (Z r) := by
      intro r hr
      obtain ⟨_, h1, h2, h3, h4, h5, h6⟩ := hx r (by omega)
      cases hA : A r with
      | none =>
        have hc := h5 hA
        exact .inl ⟨rfl, by omega, hc, List.length_eq_zero_iff.1 (by omega)⟩
      | some q => exact .inr ⟨q, rfl, h1, h2, h3, fun i hi => (h6 q hA).2 i (by omega), h4⟩
    refine ⟨(List.range len).map fun r => (A r, ((Z r).take (L r)).map Int.toNat, C r), by simp, ⟨by simp; omega, ?_, fun hne => ?_⟩⟩
    · intro k hk
      rw [List.mem_map] at hk
      obtain ⟨r, hr, rfl⟩ := hk
      have hr' := List.mem_range.1 hr
      obtain ⟨_, h1, h2, h3, h4, h5, h6⟩ := hx r (by omega)
      have e := rdB_of (row r hr')
      exact ⟨e.1, by rw [e.2]; exact h1, h2, h5⟩
    · have hp : 0 < len := by
        rcases Nat.eq_zero_or_pos len with h0 | h0
        · subst h0; exact absurd rfl hne
        · exact h0
      obtain ⟨b, off, spot⟩ := a'
      have hspot : spot = none := by
        have := World.cell?_spot (hx 0 (by omega)).1
        simpa [Addr.add] using this
      subst hspot
      have add_flat : ∀ i, (⟨b, off, none⟩ : Addr).add i = ⟨b, off + i, none⟩ := fun i => by unfold Addr.add; simp
      refine ⟨b, off, rfl, ?_, fun i hi => ?_⟩
      · have := (hx 0 (by omega)).1
        rw [add_flat] at this
        exact block_lt_of_cell this
      · have hi' : i < len := by simpa using hi
        have q := (hx i (by omega)).1
        rw [add_flat] at q
        rw [q]
        have e := (rdB_of (row i hi')).2
        rw [List.length_map, List.length_take] at e
        simp [bV]
        omega

end Go.Proofs.YtelncekgjfpogahDoor
