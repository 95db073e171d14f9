/-
  No cell of these rows narrows 'for every input' (looked for: loops, veiled, ifaces, maps, wideKeys, modest, calm, conditions, laid).
  DERIVED. THE GIVEN ROWS OF THIS SEAT. 4 by the template 'for every input the law returns true; each argument reads behind the call as it read before'; 0 by the template 'total and deterministic' (their statements: YtpblpfleiilehafTotals.lean).
  GIVEN WITH THE SEED: the statements are not yours to turn. If you find one false, say at which input.
  Laid BY PROGRAM, IN A SANDBOX (cutbox-rows.mjs): the forced cells as the released guide's own fill.sh prints them over the translation f2d06486cff9a0e8… (all of the seat's roots in one cut). By AI agents, Wed Nov 11 2026. No macro, syntax, notation, axiom, sorry.
-/
import Derived.Test.YtpblpfleiilehafChecked
import GoSem.Claim
import GoSem.ClaimJoined
import GoSem.ClaimMapViews
import Derived.JoinedTies
import Derived.KernelRfl
namespace Go.Proofs.Ytpblpfleiilehaf
/- THE CELL 'sum', in the pinned program and in every row, IS THE sha256 OF THE DUMP (.gsa) THAT YtpblpfleiilehafProg.lean LOADS. Nothing in Lean hashes anything: it is a label: what it is worth is what the hold of that sum in a sandbox is worth. -/
noncomputable def Try.pinned : Pinned := { name := "ytpblpfleiilehaf", sum := "f2d06486cff9a0e824d38abccbaf3aac4259c455249d7e79019a9774f0c4177e", checked := Try.checked }
namespace Rows
def none {H : Type} : Left H := { results := [], args := [] }

/-- 'orchlaw2.GrowLearns': WHATEVER THE INPUT: true; the input reads as it did. -/
def growLearnsSpec : ChangeSpec := { name := "growLearns", fn := fun _ => fun
  | [d1, d2, d3, d4, d5, d6] => { results := [.lit (.bool true)], args := [d1, d2, d3, d4, d5, d6] }
  | _ => none }
def growLearnsRow : OpenClaim := { program := "ytpblpfleiilehaf", sum := "f2d06486cff9a0e824d38abccbaf3aac4259c455249d7e79019a9774f0c4177e", func := "orchardry/orchlaw2.GrowLearns", spec := "growLearns", unfollowed := true, recurses := true, apart := false }
def GrowLearnsSaid : Prop := growLearnsRow.holds Try.pinned (OpenSpec.ofChange growLearnsSpec)

/-- ITS FALSE NEIGHBOUR: 'it returns false'. Refute it at one input. -/
def growLearnsWrong : ChangeSpec := { name := "growLearns", fn := fun _ => fun
  | [d1, d2, d3, d4, d5, d6] => { results := [.lit (.bool false)], args := [d1, d2, d3, d4, d5, d6] }
  | _ => none }
def GrowLearnsWrongFalsely : Prop := growLearnsRow.holds Try.pinned (OpenSpec.ofChange growLearnsWrong)

/-- 'orchlaw4.GrowShifts': WHATEVER THE INPUT: true; the input reads as it did. -/
def growShiftsSpec : ChangeSpec := { name := "growShifts", fn := fun _ => fun
  | [d1, d2, d3, d4, d5] => { results := [.lit (.bool true)], args := [d1, d2, d3, d4, d5] }
  | _ => none }
def growShiftsRow : OpenClaim := { program := "ytpblpfleiilehaf", sum := "f2d06486cff9a0e824d38abccbaf3aac4259c455249d7e79019a9774f0c4177e", func := "orchardry/orchlaw4.GrowShifts", spec := "growShifts", unfollowed := true, recurses := true, apart := false }
def GrowShiftsSaid : Prop := growShiftsRow.holds Try.pinned (OpenSpec.ofChange growShiftsSpec)

/-- ITS FALSE NEIGHBOUR: 'it returns false'. Refute it at one input. -/
def growShiftsWrong : ChangeSpec := { name := "growShifts", fn := fun _ => fun
  | [d1, d2, d3, d4, d5] => { results := [.lit (.bool false)], args := [d1, d2, d3, d4, d5] }
  | _ => none }
def GrowShiftsWrongFalsely : Prop := growShiftsRow.holds Try.pinned (OpenSpec.ofChange growShiftsWrong)

/-- 'orchtop.TopWhy': WHATEVER THE INPUT: true; the input reads as it did. -/
def topWhySpec : ChangeSpec := { name := "topWhy", fn := fun _ => fun
  | [d1, d2, d3, d4] => { results := [.lit (.bool true)], args := [d1, d2, d3, d4] }
  | _ => none }
def topWhyRow : OpenClaim := { program := "ytpblpfleiilehaf", sum := "f2d06486cff9a0e824d38abccbaf3aac4259c455249d7e79019a9774f0c4177e", func := "orchardry/orchtop.TopWhy", spec := "topWhy", unfollowed := true, recurses := true, apart := false }
def TopWhySaid : Prop := topWhyRow.holds Try.pinned (OpenSpec.ofChange topWhySpec)

/-- ITS FALSE NEIGHBOUR: 'it returns false'. Refute it at one input. -/
def topWhyWrong : ChangeSpec := { name := "topWhy", fn := fun _ => fun
  | [d1, d2, d3, d4] => { results := [.lit (.bool false)], args := [d1, d2, d3, d4] }
  | _ => none }
def TopWhyWrongFalsely : Prop := topWhyRow.holds Try.pinned (OpenSpec.ofChange topWhyWrong)

/-- 'orchlaw2.BoostLearns': WHATEVER THE INPUT: true; the input reads as it did. -/
def boostLearnsSpec : ChangeSpec := { name := "boostLearns", fn := fun _ => fun
  | [d1, d2, d3, d4, d5] => { results := [.lit (.bool true)], args := [d1, d2, d3, d4, d5] }
  | _ => none }
def boostLearnsRow : OpenClaim := { program := "ytpblpfleiilehaf", sum := "f2d06486cff9a0e824d38abccbaf3aac4259c455249d7e79019a9774f0c4177e", func := "orchardry/orchlaw2.BoostLearns", spec := "boostLearns", unfollowed := true, recurses := true, apart := false }
def BoostLearnsSaid : Prop := boostLearnsRow.holds Try.pinned (OpenSpec.ofChange boostLearnsSpec)

/-- ITS FALSE NEIGHBOUR: 'it returns false'. Refute it at one input. -/
def boostLearnsWrong : ChangeSpec := { name := "boostLearns", fn := fun _ => fun
  | [d1, d2, d3, d4, d5] => { results := [.lit (.bool false)], args := [d1, d2, d3, d4, d5] }
  | _ => none }
def BoostLearnsWrongFalsely : Prop := boostLearnsRow.holds Try.pinned (OpenSpec.ofChange boostLearnsWrong)

/- THE SECOND FORM. 'bulk': how many values and letters a reading holds, each counted each time it is reached (what is shared counts as often as it is met; a slice's spare places count too). A statement '..UptoSaid' is the law's where the arguments, and the package variables that the reading takes, are together of bulk at most 1048576: NARROWER than '..Said'. Prove '..Said' where nothing that the law and all that it calls make is longer than what came in: it says more and counts as full. Else prove '..UptoSaid'. A law counts once. -/
mutual
def uptoBulk {H : Type} : DataW H → Nat
  | .lit (.string bytes) => bytes.length + 1
  | .lit _ => 1
  | .nil => 1
  | .ptr d => uptoBulk d + 1
  | .slice elems spare => uptoBulkAll elems + uptoBulkAll spare + 1
  | .agg parts => uptoBulkAll parts + 1
  | .iface _ d => uptoBulk d + 1
  | .map entries => uptoBulkEntries entries + 1
  | .held _ => 1
def uptoBulkAll {H : Type} : List (DataW H) → Nat
  | [] => 0
  | d :: r => uptoBulk d + uptoBulkAll r
def uptoBulkEntries {H : Type} : List (Lit × DataW H) → Nat
  | [] => 0
  | x :: r => uptoBulkEntry x + uptoBulkEntries r
def uptoBulkEntry {H : Type} : Lit × DataW H → Nat
  | (.string bytes, d) => bytes.length + uptoBulk d + 1
  | (_, d) => uptoBulk d + 1
 end
def uptoSmall : (H : Type) → List (DataW H) → Bool := fun _ ds => decide (uptoBulkAll ds ≤ 1048576)
def OpenSpec.upto (s : _root_.Go.ChangeSpec) : _root_.Go.OpenSpec := { _root_.Go.OpenSpec.ofChange s with cond := some uptoSmall }

/-- 'orchlaw2.GrowLearns', WHERE WHAT IT READS IS OF BULK AT MOST 1048576: true; the input reads as it did. -/
def growLearnsUptoRow : OpenClaim := { program := "ytpblpfleiilehaf", sum := "f2d06486cff9a0e824d38abccbaf3aac4259c455249d7e79019a9774f0c4177e", func := "orchardry/orchlaw2.GrowLearns", spec := "growLearns", unfollowed := true, recurses := true, apart := false, narrowed := true }
def GrowLearnsUptoSaid : Prop := growLearnsUptoRow.holds Try.pinned (OpenSpec.upto growLearnsSpec)

/-- 'orchlaw4.GrowShifts', WHERE WHAT IT READS IS OF BULK AT MOST 1048576: true; the input reads as it did. -/
def growShiftsUptoRow : OpenClaim := { program := "ytpblpfleiilehaf", sum := "f2d06486cff9a0e824d38abccbaf3aac4259c455249d7e79019a9774f0c4177e", func := "orchardry/orchlaw4.GrowShifts", spec := "growShifts", unfollowed := true, recurses := true, apart := false, narrowed := true }
def GrowShiftsUptoSaid : Prop := growShiftsUptoRow.holds Try.pinned (OpenSpec.upto growShiftsSpec)

/-- 'orchtop.TopWhy', WHERE WHAT IT READS IS OF BULK AT MOST 1048576: true; the input reads as it did. -/
def topWhyUptoRow : OpenClaim := { program := "ytpblpfleiilehaf", sum := "f2d06486cff9a0e824d38abccbaf3aac4259c455249d7e79019a9774f0c4177e", func := "orchardry/orchtop.TopWhy", spec := "topWhy", unfollowed := true, recurses := true, apart := false, narrowed := true }
def TopWhyUptoSaid : Prop := topWhyUptoRow.holds Try.pinned (OpenSpec.upto topWhySpec)

/-- 'orchlaw2.BoostLearns', WHERE WHAT IT READS IS OF BULK AT MOST 1048576: true; the input reads as it did. -/
def boostLearnsUptoRow : OpenClaim := { program := "ytpblpfleiilehaf", sum := "f2d06486cff9a0e824d38abccbaf3aac4259c455249d7e79019a9774f0c4177e", func := "orchardry/orchlaw2.BoostLearns", spec := "boostLearns", unfollowed := true, recurses := true, apart := false, narrowed := true }
def BoostLearnsUptoSaid : Prop := boostLearnsUptoRow.holds Try.pinned (OpenSpec.upto boostLearnsSpec)

end Rows
end Go.Proofs.Ytpblpfleiilehaf
