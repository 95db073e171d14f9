/-
  Samples that lie apart from a block that turns; no condition beyond those named.
-/
import Derived.Test.YthbeoaninipadafSaPart
import Derived.Test.YthbeoaninipadafGrown
namespace Go.Proofs.Ythbeoaninipadaf
open Go.ChangeShapes Go.WideShapes Go.ChangeAt Go.RowKit Go.Lib
set_option linter.unusedVariables false

/-- samples lie apart from a block -/
def Away (o : Option Nat) (a : Option Addr) (xs : List Sx) : Prop := (∀ p, a = some p → o ≠ some p.block) ∧ ∀ x ∈ xs, ∀ p, x.1 = some p → o ≠ some p.block
theorem Rd.grown {w w' : World} {o : Option Nat} {a : Option Addr} {xs : List Int} (h : Rd w a xs) (ha : ∀ p, a = some p → o ≠ some p.block) (hg : w.grownBy w' o) : Rd w' a xs :=
  ⟨h.1, fun hn => by
    obtain ⟨b, off, rfl, hb, hc⟩ := h.2 hn
    exact ⟨b, off, rfl, Nat.lt_of_lt_of_le hb hg.size, fun i hi => hg.cell (hc i hi) (fun e => ha _ rfl e.symm)⟩⟩
theorem RdL.grown {w w' : World} {o : Option Nat} {a : Option Addr} {xs : List Sx} (h : RdL w a xs) (ha : Away o a xs) (hg : w.grownBy w' o) : RdL w' a xs :=
  ⟨h.1, fun x hx => (h.2.1 x hx).grown (ha.2 x hx) hg, fun hn => by
    obtain ⟨b, off, rfl, hb, hc⟩ := h.2.2 hn
    exact ⟨b, off, rfl, Nat.lt_of_lt_of_le hb hg.size, fun i hi => ⟨hg.cell (hc i hi).1 (fun e => ha.1 _ rfl e.symm), hg.cell (hc i hi).2 (fun e => ha.1 _ rfl e.symm)⟩⟩⟩
theorem partX_len (xs : List Sx) (f : Nat) (c : Int) (b : Bool) : ((partX xs f c b).length : Int) = M.nB (sms xs) f c b := by
  unfold M.nB; rw [← partX_sms, sms_len]

theorem away_new {w : World} {a : Option Addr} {xs : List Sx} {m : Nat} (h : RdL w a xs) (A : Ask xs m) (hm : 0 < m) (hp : 0 < xs.length) {g : Nat} (hg : w.heap.size ≤ g) : Away (some g) a xs := by
  refine ⟨fun p hp' => ?_, fun x hx p hp' => ?_⟩
  · obtain ⟨b, off, rfl, hb, _⟩ := h.2.2 (by intro e; rw [e] at hp; simp at hp)
    cases hp'
    intro e
    have e' : g = b := Option.some.inj e
    omega
  · have hl := A.row x hx
    obtain ⟨b, off, e0, hb, _⟩ := (h.2.1 x hx).2 (by intro e; rw [e] at hl; simp at hl; omega)
    rw [e0] at hp'
    cases hp'
    intro e
    have e' : g = b := Option.some.inj e
    omega
theorem away_part {w : World} {o : Option Nat} {a ag : Option Addr} {xs : List Sx} {f : Nat} {c : Int} {b : Bool} (h : Away o a xs) (ho : ∀ q, o = some q → q < w.heap.size) (hf : ∀ p, ag = some p → w.heap.size ≤ p.block) : Away o ag (partX xs f c b) := by
  refine ⟨fun p hp e => ?_, fun x hx p hp => h.2 x (partX_mem hx) p hp⟩
  have h1 := hf p hp
  have h2 := ho p.block e
  omega

end Go.Proofs.Ythbeoaninipadaf
