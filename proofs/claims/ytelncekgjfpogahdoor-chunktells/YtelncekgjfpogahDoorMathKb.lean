/-
  Pieces that are put, whichever and however often, and what they are together; no condition beyond those named.
-/
import Derived.Test.YtelncekgjfpogahDoorMathKa
namespace Go.Proofs.YtelncekgjfpogahDoor.M
set_option linter.unusedVariables false

/-! ### what is there: of each part its bytes, or none -/
abbrev Has := List (Option (List Nat))
def has0 (l : List Pt) : Has := l.map fun _ => none
/-- is it a piece of these parts? -/
def ptIs (l : List Pt) (i : Nat) (b : List Nat) : Bool := decide ((b.length : Int) = (l.getD i (0, 0)).1 ∧ (sumF b : Int) = (l.getD i (0, 0)).2)
def putF (l : List Pt) (i : Int) (b : List Nat) : Int := if i < 0 ∨ (l.length : Int) ≤ i then 1 else if ptIs l i.toNat b then 0 else 3
def putN (l : List Pt) (h : Has) (i : Int) (b : List Nat) : Bool := decide (putF l i b = 0) && (h.getD i.toNat none).isNone
def putH (l : List Pt) (h : Has) (i : Int) (b : List Nat) : Has := if putN l h i b then h.set i.toNat (some b) else h
theorem putH_len (l : List Pt) (h : Has) (i : Int) (b : List Nat) : (putH l h i b).length = h.length := by
  unfold putH; split
  · rw [List.length_set]
  · rfl
/-- which are not there, rising -/
def lackL (h : Has) : List Int := ((List.range h.length).filter fun i => (h.getD i none).isNone).map fun i : Nat => (i : Int)
def bytF (h : Has) : Int := if h.any (·.isNone) then 5 else 0
def bytV (h : Has) : List Nat := if bytF h = 0 then h.flatMap fun x => x.getD [] else []

/-! ### bytes in pieces, put again -/
def pieceAt (b : List Nat) (size i : Nat) : List Nat := (b.drop (i * size)).take size
theorem piece_len (b : List Nat) (size i : Nat) : (pieceAt b size i).length = min size (b.length - i * size) := by unfold pieceAt; rw [List.length_take, List.length_drop]
/-- a piece of the plan is one -/
theorem piece_is {size : Nat} (hs : 1 ≤ size) (b : List Nat) {i : Nat} (hi : i < (planL b size).length) : ptIs (planL b size) i (pieceAt b size i) = true := by
  have h1 := plan_in hs b hi
  unfold ptIs
  rw [plan_at hs i b h1, decide_eq_true_iff, piece_len]
  exact ⟨rfl, rfl⟩
/-- one byte turned it is none -/
theorem piece_not {size : Nat} (hs : 1 ≤ size) (b : List Nat) (h8 : ∀ c ∈ b, c < 256) {i : Nat} (hi : i < (planL b size).length) {at' y : Nat} (ha : at' < (pieceAt b size i).length) (hy : y < 256) (hne : (pieceAt b size i).getD at' 0 ≠ y) : ptIs (planL b size) i ((pieceAt b size i).set at' y) = false := by
  have h1 := plan_in hs b hi
  have h2 := sum_set (b := pieceAt b size i) (fun c hc => h8 c (List.mem_of_mem_drop (List.mem_of_mem_take hc))) ha hy hne
  unfold ptIs
  rw [plan_at hs i b h1, decide_eq_false_iff_not]
  rintro ⟨_, e⟩
  exact h2 (by
    have e : (sumF ((pieceAt b size i).set at' y) : Int) = (sumF (pieceAt b size i) : Int) := e
    omega)
/-- from a place on: all pieces one behind the other are the bytes -/
theorem pieces_join {size : Nat} (hs : 1 ≤ size) (b : List Nat) : ∀ (n k : Nat), (planL b size).length - k = n → k ≤ (planL b size).length → (((List.range (planL b size).length).drop k).flatMap fun i => pieceAt b size i) = b.drop (k * size) := by
  intro n
  induction n with
  | zero =>
    intro k hn hk
    have e : k = (planL b size).length := by omega
    rw [List.drop_eq_nil_of_le (by rw [List.length_range]; omega)]
    rw [List.drop_eq_nil_of_le]
    · rfl
    · have := plan_len hs b.length b (Nat.le_refl _)
      rw [e, this]
      have h2 := Nat.div_add_mod (b.length + size - 1) size
      have h3 := Nat.mod_lt (b.length + size - 1) (show 0 < size by omega)
      rw [Nat.mul_comm] at h2
      omega
  | succ n ih =>
    intro k hn hk
    have hlt : k < (planL b size).length := by omega
    have hr : k < (List.range (planL b size).length).length := by rw [List.length_range]; exact hlt
    rw [List.drop_eq_getElem_cons hr, List.flatMap_cons, ih (k + 1) (by omega) (by omega), List.getElem_range]
    unfold pieceAt
    rw [Nat.succ_mul, ← List.drop_drop, List.take_append_drop]
theorem pieces_all {size : Nat} (hs : 1 ≤ size) (b : List Nat) : ((List.range (planL b size).length).flatMap fun i => pieceAt b size i) = b := by
  have := pieces_join hs b _ 0 rfl (Nat.zero_le _)
  rwa [List.drop_zero, Nat.zero_mul, List.drop_zero] at this

/-- the state while right pieces are put: those that were seen are there -/
def seenH (b : List Nat) (size : Nat) (seen : List Bool) : Has := (List.range seen.length).map fun i => if seen.getD i false then some (pieceAt b size i) else none
theorem seenH_len (b : List Nat) (size : Nat) (seen : List Bool) : (seenH b size seen).length = seen.length := by unfold seenH; simp
theorem seenH_at (b : List Nat) (size : Nat) (seen : List Bool) {i : Nat} (h : i < seen.length) : (seenH b size seen).getD i none = if seen.getD i false then some (pieceAt b size i) else none := by
  unfold seenH
  simp [List.getD, h]
theorem seenH_zero (b : List Nat) (size : Nat) (l : List Pt) : has0 l = seenH b size (List.replicate l.length false) := by
  unfold has0 seenH
  refine List.ext_getElem (by simp) fun i h1 h2 => ?_
  have : i < l.length := by simpa using h1
  simp [List.getD, this]
/-- a right piece is put: it is new just if it was not seen, and it is seen then -/
theorem seenH_put {size : Nat} (hs : 1 ≤ size) (b : List Nat) {seen : List Bool} (hl : seen.length = (planL b size).length) {i : Nat} (hi : i < (planL b size).length) : putF (planL b size) (i : Int) (pieceAt b size i) = 0 ∧ putN (planL b size) (seenH b size seen) (i : Int) (pieceAt b size i) = !seen.getD i false ∧ putH (planL b size) (seenH b size seen) (i : Int) (pieceAt b size i) = seenH b size (seen.set i true) := by
  have e1 : putF (planL b size) (i : Int) (pieceAt b size i) = 0 := by
    unfold putF
    rw [if_neg (by omega), Int.toNat_natCast, piece_is hs b hi]
    rfl
  have e2 : putN (planL b size) (seenH b size seen) (i : Int) (pieceAt b size i) = !seen.getD i false := by
    unfold putN
    rw [e1, Int.toNat_natCast, seenH_at b size seen (by omega)]
    cases seen.getD i false <;> rfl
  refine ⟨e1, e2, ?_⟩
  unfold putH
  rw [e2, Int.toNat_natCast]
  cases hb : seen.getD i false with
  | true =>
    rw [if_neg (by simp)]
    have e : seen.set i true = seen := by
      refine List.ext_getElem (by simp) fun j h1 h2 => ?_
      by_cases q : i = j
      · subst q
        rw [List.getElem_set_self]
        have : seen.getD i false = seen[i] := by simp [List.getD, h2]
        rw [← this, hb]
      · rw [List.getElem_set_ne q]
    rw [e]
  | false =>
    rw [if_pos (by simp)]
    refine List.ext_getElem (by simp [seenH]) fun j h1 h2 => ?_
    have hj : j < seen.length := by rw [seenH_len, List.length_set] at h2; exact h2
    have hj' : j < (seen.set i true).length := by rw [List.length_set]; exact hj
    by_cases q : i = j
    · subst q
      rw [List.getElem_set_self]
      unfold seenH
      simp [List.getD, hj]
    · rw [List.getElem_set_ne q]
      have g1 := seenH_at b size seen hj
      have g2 := seenH_at b size (seen.set i true) hj'
      have k1 : j < (seenH b size seen).length := by rw [seenH_len]; exact hj
      have e3 : (seen.set i true).getD j false = seen.getD j false := by simp [List.getD, List.getElem?_set_ne q]
      have e4 : (seenH b size seen).getD j none = (seenH b size seen)[j] := by simp [List.getD, k1]
      have e5 : (seenH b size (seen.set i true)).getD j none = (seenH b size (seen.set i true))[j] := by simp [List.getD, h2]
      rw [← e4, ← e5, g1, g2, e3]
/-- all seen: nothing lacks, and together they are the bytes -/
theorem seenH_all {size : Nat} (hs : 1 ≤ size) (b : List Nat) {seen : List Bool} (hl : seen.length = (planL b size).length) (ha : ∀ i, i < seen.length → seen.getD i false = true) : bytF (seenH b size seen) = 0 ∧ bytV (seenH b size seen) = b ∧ lackL (seenH b size seen) = [] := by
  have e : seenH b size seen = (List.range (planL b size).length).map fun i => some (pieceAt b size i) := by
    unfold seenH
    rw [hl]
    refine List.map_congr_left fun i hi => ?_
    rw [if_pos (ha i (by rw [hl]; exact List.mem_range.1 hi))]
  have e1 : bytF (seenH b size seen) = 0 := by
    unfold bytF
    rw [e, if_neg]
    simp
  refine ⟨e1, ?_, ?_⟩
  · unfold bytV
    rw [if_pos e1, e, List.flatMap_map]
    exact pieces_all hs b
  · unfold lackL
    rw [List.filter_eq_nil_iff.2]
    · rfl
    · intro i hi
      have hi' : i < seen.length := by have := List.mem_range.1 hi; rwa [seenH_len] at this
      rw [seenH_at b size seen hi', if_pos (ha i hi')]
      simp

end Go.Proofs.YtelncekgjfpogahDoor.M
