/-
  Worlds in which all blocks stay but some, and those that are new.
-/
import Derived.Test.YtnnhpbnnombpmaaDoorGrownW
namespace Go.Proofs.YtnnhpbnnombpmaaDoor
open Go.ChangeShapes Go.WideShapes Go.ChangeAt Go.RowKit Go.Lib
set_option linter.unusedVariables false

/-- all blocks stay but some, and those that are new -/
structure StayBut (K : Nat → Prop) (W W' : World) : Prop where
  os : W'.os = W.os
  tape : W'.tape = W.tape
  output : W'.output = W.output
  size : W.heap.size ≤ W'.heap.size
  block : ∀ q, q < W.heap.size → ¬ K q → W'.heap[q]? = W.heap[q]?

end Go.Proofs.YtnnhpbnnombpmaaDoor
