/-
  Several texts as one: CaCells.
-/
import Derived.Test.YtnnhpbnnombpmaaGreatDoorRunK29
import Derived.Test.YtnnhpbnnombpmaaGreatDoorRunK32
import Derived.Test.YtnnhpbnnombpmaaGreatDoorRunK26
namespace Go.Proofs.YtnnhpbnnombpmaaGreatDoor
open Go.ChangeShapes Go.WideShapes Go.ChangeAt Go.RowKit Go.Lib Go.Maps
set_option linter.unusedVariables false
/-- a shelf between calls, its blocks all new since a world -/
structure Has (W0 w : World) (f : Nat) (T : Nat → Nat) (S : M.Sh) : Prop where
  sa : SA w f T S
  bl : Below W0.heap.size W0 w
  tn : ∀ q, T q ≠ 0 → W0.heap.size ≤ q
theorem SA.lt {w : World} {f : Nat} {T : Nat → Nat} {S : M.Sh} (h : SA w f T S) {q : Nat} (hq : w.heap.size ≤ q) : T q = 0 := by
  obtain ⟨mm, ml, D, E, kb, mb, va, vc, G, h⟩ := h
  by_cases z : T q = 0
  · exact z
  · have := h.tlt q z; omega
theorem Has.up {W0 w w' : World} {f : Nat} {T : Nat → Nat} {S : M.Sh} (h : Has W0 w f T S) (hb : Below w.heap.size w w') : Has W0 w' f T S :=
  ⟨h.sa.up (fun q hq => hb.block q (by
    by_cases z : q < w.heap.size
    · exact z
    · exact absurd (h.sa.lt (by omega)) hq)) hb.size, below_on h.bl hb, h.tn⟩
theorem Has.left {W0 w w' : World} {f : Nat} {T : Nat → Nat} {S S' : M.Sh} (h : Has W0 w f T S) (hl : Left w f T S' w') : ∃ T', Has W0 w' f T' S' ∧ (∀ q, q < w.heap.size → T q = 0 → T' q = 0 ∧ w'.heap[q]? = w.heap[q]?) ∧ w.heap.size ≤ w'.heap.size := by
  obtain ⟨T', a, b, c⟩ := hl
  have z := h.bl.size
  refine ⟨T', ⟨a, ⟨b.os.trans h.bl.os, b.tape.trans h.bl.tape, b.output.trans h.bl.output, Nat.le_trans z b.size, fun q hq => ?_⟩, fun q hq => ?_⟩, fun q hq ht => ⟨?_, b.block q hq (fun y => y ht)⟩, b.size⟩
  · rw [b.block q (by omega) (fun y => by have := h.tn q y; omega)]
    exact h.bl.block q hq
  · rcases c q hq with y | y
    · exact h.tn q y
    · omega
  · by_cases y : T' q = 0
    · exact y
    · rcases c q y with x | x
      · exact absurd ht x
      · omega
theorem Has.doIt {W0 w : World} {f : Nat} {T : Nat → Nat} {S : M.Sh} (h : Has W0 w f T S) {k : CaC} (hc : CaIn W0 k.1 k.2.1 k.2.2) (hi : S.idx ≤ 900) :
    Calls Tryz.prog 7 #[.pointer (some ⟨f, 0, none⟩), caV k.1 k.2.1 k.2.2] w fun e w' => e = .returned (.tuple #[anV (M.shDo S k.1).1, errV (M.shDo S k.1).2.1]) ∧ ∃ T', Has W0 w' f T' (M.shDo S k.1).2.2 ∧ (∀ q, q < w.heap.size → T q = 0 → T' q = 0 ∧ w'.heap[q]? = w.heap[q]?) ∧ w.heap.size ≤ w'.heap.size := by
  refine (sh_Do h.sa (hc.below h.bl) (fun hne p hp => ?_) (by omega)).mono ?_
  · obtain ⟨b, off, e, hl, _⟩ := hc.rd.2.2 hne
    rw [e] at hp
    cases hp
    by_cases z : T b = 0
    · exact z
    · have : W0.heap.size ≤ b := h.tn b z
      omega
  · rintro e w' ⟨rfl, hl⟩
    exact ⟨rfl, h.left hl⟩
end Go.Proofs.YtnnhpbnnombpmaaGreatDoor
