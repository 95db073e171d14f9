/-
  Calls, where they lie, and as a value. No condition beyond those named.
-/
import Derived.Test.YtnnhpbnnombpmaaDoorByStr
import Derived.Test.YtnnhpbnnombpmaaDoorMathHa
namespace Go.Proofs.YtnnhpbnnombpmaaDoor
open Go.ChangeShapes Go.WideShapes Go.ChangeAt Go.RowKit Go.Lib
set_option linter.unusedVariables false

def isB (n : List Nat) : Prop := ∀ x ∈ n, x < 256
def caV (c : M.Ca) (a : Option Addr) (cap : Nat) : Value := .agg #[.int .i64 c.what, .int .i64 c.ses, .int .i64 c.seq, .string (byStr c.name), .int .i64 c.num, .int .i64 c.share, .slice a c.bys.length cap]
def I64 (x : Int) : Prop := -9223372036854775808 ≤ x ∧ x ≤ 9223372036854775807
/-- a call as it comes: its bytes lie where they can be read -/
structure CaIn (W : World) (c : M.Ca) (a : Option Addr) (cap : Nat) : Prop where
  nb : isB c.name
  nl : c.name.length ≤ 9223372036854775807
  rd : RdB W a c.bys
  le : c.bys.length ≤ cap
  cp : cap ≤ 9223372036854775807
  num : I64 c.num
  shr : I64 c.share
  nil : a = none → cap = 0
abbrev CaC := M.Ca × Option Addr × Nat
def ca0 : CaC := (⟨0, 0, 0, [], 0, 0, []⟩, none, 0)
def SevenAt (w : World) (b off : Nat) (k : CaC) : Prop := w.cell? ⟨b, off, none⟩ = some (.int .i64 k.1.what) ∧ w.cell? ⟨b, off + 1, none⟩ = some (.int .i64 k.1.ses) ∧ w.cell? ⟨b, off + 2, none⟩ = some (.int .i64 k.1.seq) ∧ w.cell? ⟨b, off + 3, none⟩ = some (.string (byStr k.1.name)) ∧ w.cell? ⟨b, off + 4, none⟩ = some (.int .i64 k.1.num) ∧ w.cell? ⟨b, off + 5, none⟩ = some (.int .i64 k.1.share) ∧ w.cell? ⟨b, off + 6, none⟩ = some (.slice k.2.1 k.1.bys.length k.2.2)
/-- calls, where they lie -/
def RdC (w : World) (a : Option Addr) (l : List CaC) : Prop :=
  l.length ≤ maxLen ∧ (∀ k ∈ l, CaIn w k.1 k.2.1 k.2.2) ∧ (l ≠ [] → ∃ b off, a = some ⟨b, off, none⟩ ∧ b < w.heap.size ∧ ∀ i, i < l.length → SevenAt w b (off + i * 7) (l.getD i ca0))
theorem CaIn.below {w w' : World} {c : M.Ca} {a : Option Addr} {cap : Nat} (h : CaIn w c a cap) (hb : Below w.heap.size w w') : CaIn w' c a cap := ⟨h.nb, h.nl, h.rd.below hb, h.le, h.cp, h.num, h.shr, h.nil⟩
theorem RdC.below {w w' : World} {a : Option Addr} {l : List CaC} (h : RdC w a l) (hb : Below w.heap.size w w') : RdC w' a l :=
  ⟨h.1, fun k hk => (h.2.1 k hk).below hb, fun hn => by
    obtain ⟨b, off, e, hl, hc⟩ := h.2.2 hn
    have k : ∀ j v, w.cell? ⟨b, j, none⟩ = some v → w'.cell? ⟨b, j, none⟩ = some v := fun j v hv => (hb.cell (p := ⟨b, j, none⟩) hl).trans hv
    exact ⟨b, off, e, Nat.lt_of_lt_of_le hl hb.size, fun i hi => ⟨k _ _ (hc i hi).1, k _ _ (hc i hi).2.1, k _ _ (hc i hi).2.2.1, k _ _ (hc i hi).2.2.2.1, k _ _ (hc i hi).2.2.2.2.1, k _ _ (hc i hi).2.2.2.2.2.1, k _ _ (hc i hi).2.2.2.2.2.2⟩⟩⟩

end Go.Proofs.YtnnhpbnnombpmaaDoor
