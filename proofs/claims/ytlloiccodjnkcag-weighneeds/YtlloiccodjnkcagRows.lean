/-
  No cell of these rows narrows 'for every input' (looked for: loops, veiled, ifaces, maps, wideKeys, modest, calm, conditions, laid).
  DERIVED. THE GIVEN ROWS OF THIS SEAT. 3 by the template 'for every input the law returns true; each argument reads behind the call as it read before'; 0 by the template 'total and deterministic' (their statements: YtlloiccodjnkcagTotals.lean).
  GIVEN WITH THE SEED: the statements are not yours to turn. If you find one false, say at which input.
  Laid BY PROGRAM, IN A SANDBOX (cutbox-rows.mjs): the forced cells as the released guide's own fill.sh prints them over the translation 0928b7a8c1e659f4… (all of the seat's roots in one cut). By AI agents, Wed Nov 11 2026. No macro, syntax, notation, axiom, sorry.
-/
import Derived.Test.YtlloiccodjnkcagChecked
import GoSem.Claim
import GoSem.ClaimJoined
import GoSem.ClaimMapViews
import Derived.JoinedTies
import Derived.KernelRfl
namespace Go.Proofs.Ytlloiccodjnkcag
/- THE CELL 'sum', in the pinned program and in every row, IS THE sha256 OF THE DUMP (.gsa) THAT YtlloiccodjnkcagProg.lean LOADS. Nothing in Lean hashes anything: it is a label: what it is worth is what the hold of that sum in a sandbox is worth. -/
noncomputable def Try.pinned : Pinned := { name := "ytlloiccodjnkcag", sum := "0928b7a8c1e659f4d42c66b4dab6e042f8a63e85f54d83363f17a75b8971fd84", checked := Try.checked }
namespace Rows
def none {H : Type} : Left H := { results := [], args := [] }

/-- 'orchlaw4.BoostFirst': WHATEVER THE INPUT: true; the input reads as it did. -/
def boostFirstSpec : ChangeSpec := { name := "boostFirst", fn := fun _ => fun
  | [d1, d2, d3, d4] => { results := [.lit (.bool true)], args := [d1, d2, d3, d4] }
  | _ => none }
def boostFirstRow : OpenClaim := { program := "ytlloiccodjnkcag", sum := "0928b7a8c1e659f4d42c66b4dab6e042f8a63e85f54d83363f17a75b8971fd84", func := "orchardry/orchlaw4.BoostFirst", spec := "boostFirst", unfollowed := true, recurses := true, apart := false }
def BoostFirstSaid : Prop := boostFirstRow.holds Try.pinned (OpenSpec.ofChange boostFirstSpec)

/-- ITS FALSE NEIGHBOUR: 'it returns false'. Refute it at one input. -/
def boostFirstWrong : ChangeSpec := { name := "boostFirst", fn := fun _ => fun
  | [d1, d2, d3, d4] => { results := [.lit (.bool false)], args := [d1, d2, d3, d4] }
  | _ => none }
def BoostFirstWrongFalsely : Prop := boostFirstRow.holds Try.pinned (OpenSpec.ofChange boostFirstWrong)

/-- 'orchlaw2.WeighNeeds': WHATEVER THE INPUT: true; the input reads as it did. -/
def weighNeedsSpec : ChangeSpec := { name := "weighNeeds", fn := fun _ => fun
  | [d1, d2, d3, d4, d5] => { results := [.lit (.bool true)], args := [d1, d2, d3, d4, d5] }
  | _ => none }
def weighNeedsRow : OpenClaim := { program := "ytlloiccodjnkcag", sum := "0928b7a8c1e659f4d42c66b4dab6e042f8a63e85f54d83363f17a75b8971fd84", func := "orchardry/orchlaw2.WeighNeeds", spec := "weighNeeds", unfollowed := true, recurses := true, apart := false }
def WeighNeedsSaid : Prop := weighNeedsRow.holds Try.pinned (OpenSpec.ofChange weighNeedsSpec)

/-- ITS FALSE NEIGHBOUR: 'it returns false'. Refute it at one input. -/
def weighNeedsWrong : ChangeSpec := { name := "weighNeeds", fn := fun _ => fun
  | [d1, d2, d3, d4, d5] => { results := [.lit (.bool false)], args := [d1, d2, d3, d4, d5] }
  | _ => none }
def WeighNeedsWrongFalsely : Prop := weighNeedsRow.holds Try.pinned (OpenSpec.ofChange weighNeedsWrong)

/-- 'orchlaw4.WeighSame': WHATEVER THE INPUT: true; the input reads as it did. -/
def weighSameSpec : ChangeSpec := { name := "weighSame", fn := fun _ => fun
  | [d1, d2, d3] => { results := [.lit (.bool true)], args := [d1, d2, d3] }
  | _ => none }
def weighSameRow : OpenClaim := { program := "ytlloiccodjnkcag", sum := "0928b7a8c1e659f4d42c66b4dab6e042f8a63e85f54d83363f17a75b8971fd84", func := "orchardry/orchlaw4.WeighSame", spec := "weighSame", unfollowed := true, recurses := true, apart := false }
def WeighSameSaid : Prop := weighSameRow.holds Try.pinned (OpenSpec.ofChange weighSameSpec)

/-- ITS FALSE NEIGHBOUR: 'it returns false'. Refute it at one input. -/
def weighSameWrong : ChangeSpec := { name := "weighSame", fn := fun _ => fun
  | [d1, d2, d3] => { results := [.lit (.bool false)], args := [d1, d2, d3] }
  | _ => none }
def WeighSameWrongFalsely : Prop := weighSameRow.holds Try.pinned (OpenSpec.ofChange weighSameWrong)

/- THE SECOND FORM. 'bulk': how many values and letters a reading holds, each counted each time it is reached (what is shared counts as often as it is met; a slice's spare places count too). A statement '..UptoSaid' is the law's where the arguments, and the package variables that the reading takes, are together of bulk at most 1048576: NARROWER than '..Said'. Prove '..Said' where nothing that the law and all that it calls make is longer than what came in: it says more and counts as full. Else prove '..UptoSaid'. A law counts once. -/
mutual
def uptoBulk {H : Type} : DataW H → Nat
  | .lit (.string bytes) => bytes.length + 1
  | .lit _ => 1
  | .nil => 1
  | .ptr d => uptoBulk d + 1
  | .slice elems spare => uptoBulkAll elems + uptoBulkAll spare + 1
  | .agg parts => uptoBulkAll parts + 1
  | .iface _ d => uptoBulk d + 1
  | .map entries => uptoBulkEntries entries + 1
  | .held _ => 1
def uptoBulkAll {H : Type} : List (DataW H) → Nat
  | [] => 0
  | d :: r => uptoBulk d + uptoBulkAll r
def uptoBulkEntries {H : Type} : List (Lit × DataW H) → Nat
  | [] => 0
  | x :: r => uptoBulkEntry x + uptoBulkEntries r
def uptoBulkEntry {H : Type} : Lit × DataW H → Nat
  | (.string bytes, d) => bytes.length + uptoBulk d + 1
  | (_, d) => uptoBulk d + 1
 end
def uptoSmall : (H : Type) → List (DataW H) → Bool := fun _ ds => decide (uptoBulkAll ds ≤ 1048576)
def OpenSpec.upto (s : _root_.Go.ChangeSpec) : _root_.Go.OpenSpec := { _root_.Go.OpenSpec.ofChange s with cond := some uptoSmall }

/-- 'orchlaw4.BoostFirst', WHERE WHAT IT READS IS OF BULK AT MOST 1048576: true; the input reads as it did. -/
def boostFirstUptoRow : OpenClaim := { program := "ytlloiccodjnkcag", sum := "0928b7a8c1e659f4d42c66b4dab6e042f8a63e85f54d83363f17a75b8971fd84", func := "orchardry/orchlaw4.BoostFirst", spec := "boostFirst", unfollowed := true, recurses := true, apart := false, narrowed := true }
def BoostFirstUptoSaid : Prop := boostFirstUptoRow.holds Try.pinned (OpenSpec.upto boostFirstSpec)

/-- 'orchlaw2.WeighNeeds', WHERE WHAT IT READS IS OF BULK AT MOST 1048576: true; the input reads as it did. -/
def weighNeedsUptoRow : OpenClaim := { program := "ytlloiccodjnkcag", sum := "0928b7a8c1e659f4d42c66b4dab6e042f8a63e85f54d83363f17a75b8971fd84", func := "orchardry/orchlaw2.WeighNeeds", spec := "weighNeeds", unfollowed := true, recurses := true, apart := false, narrowed := true }
def WeighNeedsUptoSaid : Prop := weighNeedsUptoRow.holds Try.pinned (OpenSpec.upto weighNeedsSpec)

/-- 'orchlaw4.WeighSame', WHERE WHAT IT READS IS OF BULK AT MOST 1048576: true; the input reads as it did. -/
def weighSameUptoRow : OpenClaim := { program := "ytlloiccodjnkcag", sum := "0928b7a8c1e659f4d42c66b4dab6e042f8a63e85f54d83363f17a75b8971fd84", func := "orchardry/orchlaw4.WeighSame", spec := "weighSame", unfollowed := true, recurses := true, apart := false, narrowed := true }
def WeighSameUptoSaid : Prop := weighSameUptoRow.holds Try.pinned (OpenSpec.upto weighSameSpec)

end Rows
end Go.Proofs.Ytlloiccodjnkcag
