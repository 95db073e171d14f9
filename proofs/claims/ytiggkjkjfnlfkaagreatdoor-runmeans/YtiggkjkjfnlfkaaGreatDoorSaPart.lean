/-
  Samples on both sides of a cut, where they lie; how great what is reckoned of them may be. No condition beyond those named.
-/
import Derived.Test.YtiggkjkjfnlfkaaGreatDoorSams
namespace Go.Proofs.YtiggkjkjfnlfkaaGreatDoor
open Go.ChangeShapes Go.WideShapes Go.ChangeAt Go.RowKit Go.Lib
set_option linter.unusedVariables false

theorem M.part_more (l : List M.Sa) (f : Nat) (c : Int) (b : Bool) {k : Nat} (hk : k < l.length) : M.partS (l.take (k + 1)) f c b = if (decide (M.colA (M.sAt l k) f < c) == b) = true then M.partS (l.take k) f c b ++ [M.sAt l k] else M.partS (l.take k) f c b := by
  have e : M.sAt l k = l[k] := by unfold M.sAt; rw [M.getD_at hk]
  unfold M.partS
  rw [List.take_succ_eq_append_getElem hk, List.filter_append, e]
  by_cases q : (decide (M.colA l[k] f < c) == b) = true
  · rw [if_pos q, List.filter_cons_of_pos (by exact q)]; rfl
  · rw [if_neg q, List.filter_cons_of_neg (by exact q)]; simp
theorem M.sum_more (l : List M.Sa) (f : Nat) (c : Int) (b : Bool) {k : Nat} (hk : k < l.length) : M.sumT (M.partS (l.take (k + 1)) f c b) = (if (decide (M.colA (M.sAt l k) f < c) == b) = true then M.sumT (M.partS (l.take k) f c b) + (M.sAt l k).2 else M.sumT (M.partS (l.take k) f c b)) ∧ (M.partS (l.take (k + 1)) f c b).length = (if (decide (M.colA (M.sAt l k) f < c) == b) = true then (M.partS (l.take k) f c b).length + 1 else (M.partS (l.take k) f c b).length) := by
  rw [M.part_more l f c b hk]
  split
  · refine ⟨?_, by simp⟩
    rw [M.sumT_app]
    show _ + ((M.sAt l k).2 + 0) = _
    omega
  · exact ⟨rfl, rfl⟩

/-- samples that may be asked for a feature -/
structure Ask (xs : List Sx) (m : Nat) : Prop where
  le : xs.length ≤ 60
  row : ∀ x ∈ xs, x.2.1.length = m
  tgt : ∀ x ∈ xs, -1000 ≤ x.2.2.2 ∧ x.2.2.2 ≤ 1000
theorem Ask.of {xs : List Sx} {m : Nat} (h : M.GoodS (sms xs) m) : Ask xs m :=
  ⟨by have := h.le; rw [sms_len] at this; exact this, fun x hx => (h.each (sm x) (List.mem_map.2 ⟨x, hx, rfl⟩)).2.1, fun x hx => (h.each (sm x) (List.mem_map.2 ⟨x, hx, rfl⟩)).2.2.1⟩
theorem Ask.in {xs : List Sx} {m : Nat} (h : Ask xs m) (f : Nat) (c : Int) (b : Bool) (k : Nat) : -60000 ≤ M.sumT (M.partS ((sms xs).take k) f c b) ∧ M.sumT (M.partS ((sms xs).take k) f c b) ≤ 60000 ∧ (M.partS ((sms xs).take k) f c b).length ≤ 60 := by
  have l1 : (M.partS ((sms xs).take k) f c b).length ≤ 60 := by
    refine Nat.le_trans (List.length_filter_le _ _) ?_
    rw [List.length_take, sms_len]
    have := h.le
    omega
  have := M.sum_in (l := M.partS ((sms xs).take k) f c b) fun s hs => by
    have h1 := List.mem_of_mem_take (List.mem_filter.1 hs).1
    obtain ⟨x, hx, rfl⟩ := List.mem_map.1 h1
    exact h.tgt x hx
  omega

/-- the samples of one side, where their rows lie -/
def partX (xs : List Sx) (f : Nat) (c : Int) (b : Bool) : List Sx := xs.filter fun x => decide (x.2.1.getD f 0 < c) == b
theorem partX_sms (xs : List Sx) (f : Nat) (c : Int) (b : Bool) : sms (partX xs f c b) = M.partS (sms xs) f c b := by
  unfold sms partX M.partS
  rw [List.filter_map]
  rfl
theorem partX_more (xs : List Sx) (f : Nat) (c : Int) (b : Bool) {k : Nat} (hk : k < xs.length) : partX (xs.take (k + 1)) f c b = if (decide (xs[k].2.1.getD f 0 < c) == b) = true then partX (xs.take k) f c b ++ [xs[k]] else partX (xs.take k) f c b := by
  unfold partX
  rw [List.take_succ_eq_append_getElem hk, List.filter_append]
  by_cases q : (decide (xs[k].2.1.getD f 0 < c) == b) = true
  · rw [if_pos q, List.filter_cons_of_pos (by exact q)]; rfl
  · rw [if_neg q, List.filter_cons_of_neg (by exact q)]; simp
theorem partX_mem {xs : List Sx} {f : Nat} {c : Int} {b : Bool} {x : Sx} (h : x ∈ partX xs f c b) : x ∈ xs := (List.mem_filter.1 h).1
theorem Ask.part {xs : List Sx} {m : Nat} (h : Ask xs m) (f : Nat) (c : Int) (b : Bool) : Ask (partX xs f c b) m :=
  ⟨Nat.le_trans (List.length_filter_le _ _) h.le, fun x hx => h.row x (partX_mem hx), fun x hx => h.tgt x (partX_mem hx)⟩

theorem wrap_in5 (x : Int) (h1 : -9223372036854775808 ≤ x) (h2 : x ≤ 9223372036854775807) : IntKind.i64.wrap x = x := by
  simp [IntKind.wrap, IntKind.bits, IntKind.signed]
  split <;> omega
theorem M.sqR_in {s B : Int} (h1 : -B ≤ s) (h2 : s ≤ B) : 0 ≤ s * s ∧ s * s ≤ B * B := by
  by_cases h : 0 ≤ s
  · exact ⟨Int.mul_nonneg h h, Int.mul_le_mul h2 h2 h (by omega)⟩
  · have e : s * s = (-s) * (-s) := by grind
    rw [e]
    exact ⟨Int.mul_nonneg (by omega) (by omega), Int.mul_le_mul (by omega) (by omega) (by omega) (by omega)⟩
theorem M.mulp_in {a b A B : Int} (h1 : 0 ≤ a) (h2 : a ≤ A) (h3 : 0 ≤ b) (h4 : b ≤ B) : 0 ≤ a * b ∧ a * b ≤ A * B := ⟨Int.mul_nonneg h1 h3, Int.mul_le_mul h2 h4 h3 (by omega)⟩
theorem Ask.two {xs : List Sx} {m : Nat} (h : Ask xs m) (f : Nat) (c : Int) (b : Bool) : -60000 ≤ M.tB (sms xs) f c b ∧ M.tB (sms xs) f c b ≤ 60000 ∧ 0 ≤ M.nB (sms xs) f c b ∧ M.nB (sms xs) f c b ≤ 60 := by
  have := h.in f c b xs.length
  rw [← sms_len xs, List.take_length] at this
  unfold M.tB M.nB
  omega
theorem Ask.all {xs : List Sx} {m : Nat} (h : Ask xs m) (k : Nat) : -60000 ≤ M.sumT ((sms xs).take k) ∧ M.sumT ((sms xs).take k) ≤ 60000 := by
  have l1 : ((sms xs).take k).length ≤ 60 := by
    rw [List.length_take, sms_len]
    have := h.le
    omega
  have := M.sum_in (l := (sms xs).take k) fun s hs => by
    obtain ⟨x, hx, rfl⟩ := List.mem_map.1 (List.mem_of_mem_take hs)
    exact h.tgt x hx
  omega
theorem Ask.ud {xs : List Sx} {m : Nat} (h : Ask xs m) (f : Nat) (c : Int) : (0 ≤ M.spU (sms xs) f c ∧ M.spU (sms xs) f c ≤ 432000000000) ∧ (0 ≤ M.spD (sms xs) f c ∧ M.spD (sms xs) f c ≤ 3600) := by
  obtain ⟨a1, a2, a3, a4⟩ := h.two f c true
  obtain ⟨b1, b2, b3, b4⟩ := h.two f c false
  have s1 := M.sqR_in a1 a2
  have s2 := M.sqR_in b1 b2
  have u1 := M.mulp_in s1.1 s1.2 b3 b4
  have u2 := M.mulp_in s2.1 s2.2 a3 a4
  have d := M.mulp_in a3 a4 b3 b4
  unfold M.spU M.spD
  omega
theorem Ask.st {xs : List Sx} {m : Nat} (h : Ask xs m) (least : Int) : (0 ≤ (M.sp0 (sms xs)).1 ∧ (M.sp0 (sms xs)).1 ≤ 432000000000) ∧ (0 ≤ (M.sp0 (sms xs)).2.1 ∧ (M.sp0 (sms xs)).2.1 ≤ 3600) := by
  have := h.all xs.length
  rw [← sms_len xs, List.take_length] at this
  have s := M.sqR_in this.1 this.2
  have := h.le
  have e : (M.sp0 (sms xs)).2.1 = (xs.length : Nat) := by show (((sms xs).length : Nat) : Int) = _; rw [sms_len]
  rw [e]
  refine ⟨⟨s.1, ?_⟩, by omega, by omega⟩
  show M.sumT (sms xs) * M.sumT (sms xs) ≤ _
  omega
def StIn (st : M.SpS) : Prop := (0 ≤ st.1 ∧ st.1 ≤ 432000000000) ∧ (0 ≤ st.2.1 ∧ st.2.1 ≤ 3600)
theorem Ask.step {xs : List Sx} {m : Nat} (h : Ask xs m) (least : Int) {st : M.SpS} (hs : StIn st) (f : Nat) (c : Int) : StIn (M.spN (sms xs) least st f c) := by
  unfold M.spN
  split
  · split
    · exact h.ud f c
    · exact hs
  · exact hs
theorem Ask.inner {xs : List Sx} {m : Nat} (h : Ask xs m) (least : Int) {st : M.SpS} (hs : StIn st) (f : Nat) : ∀ k, StIn (M.spI (sms xs) least f st k)
  | 0 => hs
  | k + 1 => h.step least (h.inner least hs f k) f _
theorem Ask.outer {xs : List Sx} {m : Nat} (h : Ask xs m) (least : Int) : ∀ f, StIn (M.spA (sms xs) least f)
  | 0 => h.st least
  | f + 1 => h.inner least (h.outer least f) f _

end Go.Proofs.YtiggkjkjfnlfkaaGreatDoor
