/-
  Bytes, where they lie, as a string; two strings are the same where the bytes are.
-/
import Derived.Test.YtnnhpbnnombpmaaDoorByCells
import Derived.Laws.BytesString
import Derived.Laws.Cells
namespace Go.Proofs.YtnnhpbnnombpmaaDoor
open Go.ChangeShapes Go.WideShapes Go.ChangeAt Go.RowKit Go.Lib
set_option linter.unusedVariables false

/-- bytes as a string -/
def byStr (xs : List Nat) : ByteArray := (xs.map Int.ofNat).foldl (fun r n => r.push (UInt8.ofNat n.toNat)) ByteArray.empty
theorem push_list : ∀ (xs : List Nat) (s : ByteArray), ((xs.map Int.ofNat).foldl (fun r n => r.push (UInt8.ofNat n.toNat)) s).data.toList = s.data.toList ++ xs.map UInt8.ofNat
  | [], s => by simp
  | x :: xs, s => by
    have := push_list xs (s.push (UInt8.ofNat x))
    simp only [List.map_cons, List.foldl_cons]
    rw [show (Int.ofNat x).toNat = x from rfl, this]
    simp [ByteArray.push]
theorem byStr_list (xs : List Nat) : (byStr xs).data.toList = xs.map UInt8.ofNat := by
  have := push_list xs ByteArray.empty
  simpa [byStr] using this
theorem of_inj {x y : Nat} (hx : x < 256) (hy : y < 256) (h : UInt8.ofNat x = UInt8.ofNat y) : x = y := by
  have := congrArg UInt8.toNat h
  simp at this
  omega
theorem ofs_inj : ∀ xs ys : List Nat, (∀ x ∈ xs, x < 256) → (∀ y ∈ ys, y < 256) → xs.map UInt8.ofNat = ys.map UInt8.ofNat → xs = ys
  | [], [], _, _, _ => rfl
  | [], y :: ys, _, _, h => by simp at h
  | x :: xs, [], _, _, h => by simp at h
  | x :: xs, y :: ys, h1, h2, h => by
    simp only [List.map_cons, List.cons.injEq] at h
    rw [of_inj (h1 x (List.mem_cons_self ..)) (h2 y (List.mem_cons_self ..)) h.1, ofs_inj xs ys (fun z hz => h1 z (List.mem_cons_of_mem _ hz)) (fun z hz => h2 z (List.mem_cons_of_mem _ hz)) h.2]
theorem byStr_inj {xs ys : List Nat} (h1 : ∀ x ∈ xs, x < 256) (h2 : ∀ y ∈ ys, y < 256) (h : byStr xs = byStr ys) : xs = ys :=
  ofs_inj xs ys h1 h2 (by rw [← byStr_list, ← byStr_list, h])
theorem conv_by {W : World} {a : Option Addr} {xs : List Nat} (h : RdB W a xs) (c : Nat) : (convert 23 9 (.slice a xs.length c)).run Tryd.prog W = .ok (.string (byStr xs)) W := by
  rw [run_convert_bytes_string W 23 9 5 a xs.length c Tryd.underlying23 Tryd.underlying5 Tryd.underlying9]
  cases a with
  | none =>
    have e : xs = [] := by
      by_cases hx : xs = []
      · exact hx
      · obtain ⟨b, off, e, _⟩ := h.2.2 hx; cases e
    subst e
    unfold Conv.bytesToString
    simp [Sem.run_pure, byStr]
  | some ad =>
    refine run_bytesToString W ad xs.length c (xs.map Int.ofNat) ?_
    have e : (xs.map Int.ofNat).map (Value.int .u8) = byCells xs := by unfold byCells; rw [List.map_map]; rfl
    rw [e, ← byCells_len xs]
    refine run_loadCells_list W ad (byCells xs) fun j u hj => ?_
    by_cases hx : xs = []
    · subst hx; simp [byCells] at hj
    · obtain ⟨b, off, e', _, hc⟩ := h.2.2 hx
      cases e'
      exact by_src hc j u hj

end Go.Proofs.YtnnhpbnnombpmaaDoor
