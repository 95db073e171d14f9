/-
  Texts of bytes; no condition beyond those named.
-/
import Derived.Test.YtiggkjkjfnlfkaaGreatDoorBase
import Derived.Lib.Strings
namespace Go.Proofs.YtiggkjkjfnlfkaaGreatDoor
open Go.ChangeShapes Go.WideShapes Go.ChangeAt Go.RowKit Go.Lib
set_option linter.unusedVariables false

/-- a text of these bytes -/
def bs (l : List UInt8) : ByteArray := ⟨l.toArray⟩
theorem bs_list (l : List UInt8) : (bs l).data.toList = l := by simp [bs]
theorem bs_self (s : ByteArray) : bs s.data.toList = s := mk_data s
theorem bs_size (l : List UInt8) : (bs l).size = l.length := by rw [size_eq, bs_list]
theorem bs_take (s : ByteArray) (i : Nat) (h : i ≤ s.size) : bs (s.data.toList.take i) = s.extract 0 i := by
  rw [extract_eq]; simp [bs]
theorem bs_drop (s : ByteArray) (i : Nat) : bs (s.data.toList.drop i) = s.extract i s.size := by
  rw [extract_eq, List.take_of_length_le (by rw [List.length_drop, ← size_eq]; exact Nat.le_refl _)]; rfl
theorem bs_eq {s t : ByteArray} (h : s.data.toList = t.data.toList) : s = t := by rw [← bs_self s, ← bs_self t, h]

theorem bs_app (a b : List UInt8) : bs a ++ bs b = bs (a ++ b) := by
  apply bs_eq
  rw [bs_list]
  simp [bs]

end Go.Proofs.YtiggkjkjfnlfkaaGreatDoor
