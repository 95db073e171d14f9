/-
  A log between calls, its blocks all new since a world; what each of its methods answers and leaves then.
-/
import Derived.Test.YtnnhpbnnombpmaaDoorLgF
import Derived.Test.YtnnhpbnnombpmaaDoorLgG
namespace Go.Proofs.YtnnhpbnnombpmaaDoor
open Go.ChangeShapes Go.WideShapes Go.ChangeAt Go.RowKit Go.Lib
set_option linter.unusedVariables false

structure HL (W w : World) (f : Nat) (va : Option Addr) (L : M.Lg) : Prop where
  la : ∃ vc, LA w f va vc L
  bl : Below W.heap.size W w
  tn : ∀ q, LB f va q → W.heap.size ≤ q
/-- what stays of all else -/
def KeptL (w : World) (f : Nat) (va va' : Option Addr) (w' : World) : Prop := w.heap.size ≤ w'.heap.size ∧ ∀ q, q < w.heap.size → ¬ LB f va q → ¬ LB f va' q ∧ w'.heap[q]? = w.heap[q]?
theorem HL.ok {W w : World} {f : Nat} {va : Option Addr} {L : M.Lg} (h : HL W w f va L) : M.LgOk L := by
  obtain ⟨vc, h1⟩ := h.la
  exact h1.ok
theorem HL.lt {W w : World} {f : Nat} {va : Option Addr} {L : M.Lg} (h : HL W w f va L) {q : Nat} (hq : LB f va q) : q < w.heap.size := by
  obtain ⟨vc, h1⟩ := h.la
  exact h1.lt hq
theorem HL.up {W w w' : World} {f : Nat} {va : Option Addr} {L : M.Lg} (h : HL W w f va L) (hb : Below w.heap.size w w') : HL W w' f va L := by
  obtain ⟨vc, h1⟩ := h.la
  exact ⟨⟨vc, h1.below hb⟩, below_on h.bl hb, h.tn⟩
theorem HL.left {W w w' : World} {f : Nat} {va : Option Addr} {L L' : M.Lg} (h : HL W w f va L) (hl : LeftL w f va L' w') : ∃ va', HL W w' f va' L' ∧ KeptL w f va va' w' := by
  obtain ⟨va', vc', a, b, c⟩ := hl
  have z := h.bl.size
  refine ⟨va', ⟨⟨vc', a⟩, ⟨b.os.trans h.bl.os, b.tape.trans h.bl.tape, b.output.trans h.bl.output, Nat.le_trans z b.size, fun q hq => ?_⟩, fun q hq => ?_⟩, b.size, fun q hq ht => ⟨fun y => ?_, b.block q hq ht⟩⟩
  · rw [b.block q (by omega) (fun y => by have := h.tn q y; omega)]
    exact h.bl.block q hq
  · rcases c q hq with y | y
    · exact h.tn q y
    · omega
  · rcases c q y with x | x
    · exact ht x
    · omega
theorem HL.stay {W w w' : World} {f : Nat} {va : Option Addr} {vc : Nat} {L L' : M.Lg} (h : HL W w f va L) (h1 : LA w' f va vc L') (hs : StayBut (fun q => q = f) w w') : HL W w' f va L' ∧ KeptL w f va va w' := by
  obtain ⟨va', a, b⟩ := h.left (L' := L') ⟨va, vc, h1, hs.low, fun q hq => .inl hq⟩
  exact ⟨⟨⟨vc, h1⟩, a.bl, h.tn⟩, hs.size, fun q hq hk => ⟨hk, hs.low.block q hq hk⟩⟩
theorem HL.new {W w : World} (hb : Below W.heap.size W w) : Calls Tryd.prog 5 #[] w fun e w' => ∃ f, e = .returned (.pointer (some ⟨f, 0, none⟩)) ∧ HL W w' f none M.lg0 ∧ Below w.heap.size w w' ∧ f = w.heap.size := (lg_New w).mono (by
  rintro e w' ⟨f, rfl, h1, h2, h3⟩
  refine ⟨f, rfl, ⟨⟨0, h1⟩, below_on hb h2, fun q hq => ?_⟩, h2, h3⟩
  rcases hq with z | ⟨p, z, _⟩
  · rw [z, h3]; exact hb.size
  · cases z)
theorem HL.fail {W w : World} {f : Nat} {va : Option Addr} {L : M.Lg} (h : HL W w f va L) (n : Int) (hn : M.I64 n) :
    Calls Tryd.prog 6 #[.pointer (some ⟨f, 0, none⟩), .int .i64 n] w fun e w' => e = .returned (.tuple #[]) ∧ HL W w' f va ⟨L.calls, L.tail, L.safe, n, L.stop⟩ ∧ KeptL w f va va w' := by
  obtain ⟨vc, h1⟩ := h.la
  refine (lg_Fail h1 n hn).mono ?_
  rintro e w' ⟨rfl, a, b⟩
  exact ⟨rfl, h.stay a b⟩
theorem HL.sync {W w : World} {f : Nat} {va : Option Addr} {L : M.Lg} (h : HL W w f va L) :
    Calls Tryd.prog 11 #[.pointer (some ⟨f, 0, none⟩)] w fun e w' => e = .returned (errV (M.syF L)) ∧ HL W w' f va (M.syL L) ∧ KeptL w f va va w' := by
  obtain ⟨vc, h1⟩ := h.la
  refine (lg_Sync h1).mono ?_
  rintro e w' ⟨rfl, a, b⟩
  exact ⟨rfl, h.stay a b⟩
theorem HL.crash {W w : World} {f : Nat} {va : Option Addr} {L : M.Lg} (h : HL W w f va L) (keep : Int) (hk : M.I64 keep) :
    Calls Tryd.prog 13 #[.pointer (some ⟨f, 0, none⟩), .int .i64 keep] w fun e w' => e = .returned (.tuple #[]) ∧ HL W w' f va (M.crL L keep) ∧ KeptL w f va va w' := by
  obtain ⟨vc, h1⟩ := h.la
  refine (lg_Crash h1 keep hk).mono ?_
  rintro e w' ⟨rfl, a, b⟩
  exact ⟨rfl, h.stay a b⟩
theorem HL.safe {W w : World} {f : Nat} {va : Option Addr} {L : M.Lg} (h : HL W w f va L) :
    Calls Tryd.prog 12 #[.pointer (some ⟨f, 0, none⟩)] w fun e w' => e = .returned (.int .i64 (L.safe : Int)) ∧ w' = w := by
  obtain ⟨vc, h1⟩ := h.la
  exact lg_Safe h1
theorem HL.append {W w : World} {f : Nat} {va : Option Addr} {L : M.Lg} (h : HL W w f va L) {c : M.Ca} {a : Option Addr} {cap : Nat} (hi : CaIn w c a cap) :
    Calls Tryd.prog 7 #[.pointer (some ⟨f, 0, none⟩), caV c a cap] w fun e w' => e = .returned (errV (M.apF L c)) ∧ ∃ va', HL W w' f va' (M.apL L c) ∧ KeptL w f va va' w' := by
  obtain ⟨vc, h1⟩ := h.la
  refine (lg_Append h1 hi).mono ?_
  rintro e w' ⟨rfl, a⟩
  exact ⟨rfl, h.left a⟩
theorem HL.callsG {W w : World} {f : Nat} {va : Option Addr} {L : M.Lg} (h : HL W w f va L) :
    Calls Tryd.prog 9 #[.pointer (some ⟨f, 0, none⟩)] w fun e w' => ∃ a c l, e = .returned (.slice a L.calls.length c) ∧ l.map (·.1) = L.calls ∧ CW w w' a c l ∧ Below w.heap.size w w' := by
  obtain ⟨vc, h1⟩ := h.la
  exact lg_Calls h1
theorem HL.bytesG {W w : World} {f : Nat} {va : Option Addr} {L : M.Lg} (h : HL W w f va L) :
    Calls Tryd.prog 10 #[.pointer (some ⟨f, 0, none⟩)] w fun e w' => ∃ a c, e = .returned (.slice a L.bytes.length c) ∧ w'.ownsRow w.heap.size 5 1 (.slice a L.bytes.length c) L.bytes.length (byCells L.bytes) ∧ Below w.heap.size w w' := by
  obtain ⟨vc, h1⟩ := h.la
  exact lg_Bytes h1

end Go.Proofs.YtnnhpbnnombpmaaDoor
