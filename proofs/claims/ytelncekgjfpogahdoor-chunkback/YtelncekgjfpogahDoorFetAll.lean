/-
  A Fetch gives what the laws' walks take of it.
-/
import Derived.Test.YtelncekgjfpogahDoorChF
import Derived.Test.YtelncekgjfpogahDoorFetNew
import Derived.Test.YtelncekgjfpogahDoorFetLck
import Derived.Test.YtelncekgjfpogahDoorFetPut
import Derived.Test.YtelncekgjfpogahDoorFetByt
namespace Go.Proofs.YtelncekgjfpogahDoor
open Go.ChangeShapes Go.WideShapes Go.ChangeAt Go.RowKit Go.Lib
set_option linter.unusedVariables false

theorem fch_gives : FchGives FA where
  lt := fun h q hq => by obtain ⟨_, _, _, _, F⟩ := h; exact F.lt q hq
  up := fun h hk hz => by obtain ⟨a, c, m, D, F⟩ := h; exact ⟨a, c, m, D, F.up hk hz⟩
  new := fet_new
  bad := fet_bad
  put := fun i a bs c h hr hl hc hz hn hk i1 i2 => fet_put i a bs c h hr hl hc hn i1 i2
  lacks := fet_lacks
  bytes := fet_bytes

end Go.Proofs.YtelncekgjfpogahDoor
