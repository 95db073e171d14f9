/-
  Bytes that came in, where they lie, and how many there are. No condition beyond those named.
-/
import Derived.Test.YtnnhpbnnombpmaaDoorByCells
import Derived.ChangeSlices
import Derived.SizedLaws
namespace Go.Proofs.YtnnhpbnnombpmaaDoor
open Go.ChangeShapes Go.WideShapes Go.ChangeAt Go.RowKit
set_option linter.unusedVariables false

theorem int_wf {n : Int} (h : (Lit.int .i64 n).wf = true) : -9223372036854775808 ≤ n ∧ n ≤ 9223372036854775807 := by
  simp [Lit.wf, IntKind.min, IntKind.max, IntKind.bits, IntKind.signed] at h
  omega
theorem byte_wf {n : Int} (h : (Lit.int .u8 n).wf = true) : 0 ≤ n ∧ n < 256 := by
  simp [Lit.wf, IntKind.min, IntKind.max, IntKind.bits, IntKind.signed] at h
  omega
theorem open_bytes8 {H : Type} {enc : TypeId × Value → H} {W : World} {base : Nat} {held : Bool} {fuel : Nat} {a : Option Addr} {len cap : Nat} {x : DataW H × List MemPlace}
    (h : DataW.trod enc Tryd.prog W base (fun _ => true) held fuel 23 [.slice a len cap] = some x) : ∃ l : List Nat, l.length = len ∧ RdB W a l ∧ len ≤ cap ∧ cap ≤ 9223372036854775807 ∧ (a = none → cap = 0) ∧ ((x.1 = .nil ∧ len = 0) ∨ ∃ es sp, x.1 = .slice es sp ∧ es.length = len) := by
  rcases open_ints Tryd.underlying23 Tryd.underlying5 (by kernel_rfl) h with ⟨hcs, hx⟩ | ⟨p, l, c, zs, hcs, _, hl, hm, hz, hx, hcell, hwz⟩
  · cases hcs
    exact ⟨[], rfl, ⟨Nat.zero_le _, (fun x hx => by cases hx), fun hn => absurd rfl hn⟩, Nat.le_refl _, by omega, fun _ => rfl, .inl ⟨by rw [hx], rfl⟩⟩
  · cases hcs
    have hz' : zs.length = cap := by simpa using hz
    have tl : (zs.take len).length = len := by rw [List.length_take]; omega
    refine ⟨(zs.take len).map Int.toNat, by rw [List.length_map]; exact tl, ⟨by rw [List.length_map, tl]; omega, ?_, fun hn => ?_⟩, hl, hm, (fun e => by cases e), .inr ⟨_, _, by rw [hx], by simpa [lits] using tl⟩⟩
    · intro y hy
      obtain ⟨n, hn, rfl⟩ := List.mem_map.1 hy
      have := byte_wf (hwz n (List.mem_of_mem_take hn))
      omega
    · have hp : 0 < len := by
        rcases Nat.eq_zero_or_pos len with h0 | h0
        · subst h0; exact absurd rfl hn
        · exact h0
      obtain ⟨b, off, spot⟩ := p
      have hspot : spot = none := by
        have := World.cell?_spot (hcell 0 (by omega))
        simpa [Addr.add] using this
      subst hspot
      have add_flat : ∀ i, (⟨b, off, none⟩ : Addr).add i = ⟨b, off + i, none⟩ := fun i => by unfold Addr.add; simp
      refine ⟨b, off, rfl, ?_, fun i hi => ?_⟩
      · have := hcell 0 (by omega)
        rw [add_flat] at this
        exact block_lt_of_cell this
      · rw [List.length_map, tl] at hi
        have q := hcell i (by omega)
        rw [add_flat] at q
        rw [q]
        have e1 : zs.getD i 0 = zs[i]'(by omega) := by simp [List.getD, show i < zs.length by omega]
        have e2 : ((zs.take len).map Int.toNat).getD i 0 = (zs[i]'(by omega)).toNat := by simp [List.getD, hi, show i < zs.length by omega]
        have w8 := byte_wf (hwz (zs[i]'(by omega)) (List.getElem_mem _))
        rw [e1, e2]
        unfold byV
        rw [Int.toNat_of_nonneg w8.1]

end Go.Proofs.YtnnhpbnnombpmaaDoor
