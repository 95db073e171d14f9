/-
  Plain facts of the words of a reason, and of texts with one sign more.
-/
import Derived.Test.YtandimbpealclacDoorRefDig
import Derived.Test.YtandimbpealclacDoorMathX
namespace Go.Proofs.YtandimbpealclacDoor
open Go.ChangeShapes Go.WideShapes Go.ChangeAt Go.RowKit Go.Lib
set_option linter.unusedVariables false

theorem M.node_leaf {n : M.Nd} {i len : Nat} {m : Int} (h : M.nodeF n i len m = 0) (hf : M.nf n = -1) : M.outI (M.nv n) = false := by
  unfold M.nodeF at h
  rw [if_pos hf] at h
  unfold M.lfF at h
  cases e : M.outI (M.nv n) with
  | false => rfl
  | true => rw [if_pos e] at h; cases h
theorem whyW_len {n : M.Nd} {c : Int} (h1 : M.outI (M.nf n) = false) (h2 : M.outI (M.nc n) = false) : (M.whyW n c).length ≤ 20 := by
  have a := M.itoa_len h1
  have b := M.itoa_len h2
  unfold M.whyW
  split
  · simp; omega
  · split
    · simp; omega
    · simp; omega
theorem bs_cons (c : UInt8) (l : List UInt8) : (⟨#[c]⟩ : ByteArray) ++ bs l = bs (c :: l) := bs_app [c] l
theorem bs_snoc (l : List UInt8) (c : UInt8) : bs l ++ (⟨#[c]⟩ : ByteArray) = bs (l ++ [c]) := bs_app l [c]
theorem bs_snoc2 (l : List UInt8) (c d : UInt8) : bs l ++ (⟨#[c, d]⟩ : ByteArray) = bs (l ++ [c, d]) := bs_app l [c, d]

theorem M.why_len {t : List M.Nd} {m : Nat} (h : M.Right t (m : Int)) (hm : m ≤ 8) (r : List Int) : ∀ (f i : Nat), i < t.length → t.length ≤ f + i → (M.why t r i).length ≤ 21 * (M.way t r i).length
  | 0, i, hi, hf => by omega
  | f + 1, i, hi, hf => by
    by_cases hl : M.nf (M.nAt t i) = -1
    · rw [M.why_leaf hi hl, M.way_leaf hi hl]
      have := M.itoa_len (M.node_leaf (h i hi) hl)
      simp; omega
    · obtain ⟨k, e, h1, h2⟩ := M.next_in h r hi hl
      have na := M.node_ask (h i hi) hl
      have w := whyW_len (c := r.getD (M.nf (M.nAt t i)).toNat 0) (M.out_in (by have := na.1; omega) (by have := na.2.1; omega)) na.2.2.1
      rw [M.why_next h hi hl e, M.way_next h hi hl e, List.length_append, List.length_cons, List.length_cons]
      have ih := M.why_len h hm r f k h2 (by omega)
      omega

end Go.Proofs.YtandimbpealclacDoor
