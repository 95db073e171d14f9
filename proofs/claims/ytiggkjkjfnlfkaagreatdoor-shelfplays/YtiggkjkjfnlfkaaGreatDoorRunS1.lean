/-
  Several texts as one: MathC, Base, GrownW, StayB, ByCells, ByStr, BySlice, CdUnf, CdP.
-/
import Derived.Test.YtiggkjkjfnlfkaaGreatDoorRunS0
import Derived.Lib.SlicesCompact
import Derived.Test.YtiggkjkjfnlfkaaGreatDoorProg
import Derived.WalkKit
import Derived.ProofKit
import Derived.OpenShut
import Derived.Below
import Derived.Laws.OwnMore
import Derived.Deep.Draws
import Derived.OwnWalk
import Derived.Laws.AppendOwnNone
import Derived.Laws.BytesString
import Derived.Laws.Cells
import Derived.Laws.BitsAllLaws
import Derived.Laws.DeepNot64
namespace Go.Proofs.YtiggkjkjfnlfkaaGreatDoor.M
set_option linter.unusedVariables false
/-- no number of a cell -/
def outI (x : Int) : Bool := decide (x < -1000000) || decide (1000000 < x)
theorem out_false {x : Int} (h : outI x = false) : -1000000 ≤ x ∧ x ≤ 1000000 := by unfold outI at h; simp at h; omega
theorem out_true {x : Int} (h : outI x = true) : x < -1000000 ∨ 1000000 < x := by unfold outI at h; simpa using h
theorem out_of {x : Int} (h1 : -1000000 ≤ x) (h2 : x ≤ 1000000) : outI x = false := by unfold outI; simp; omega

/-- the fault of cuts, behind one -/
def badI : Option Int → List Int → Int
  | _, [] => 0
  | none, x :: t => if outI x then 1 else badI (some x) t
  | some y, x :: t => if outI x then 1 else if x ≤ y then 3 else badI (some x) t
def cutsI (l : List Int) : Int := if 60 < l.length then 4 else badI none l
def prevI (l : List Int) (k : Nat) : Option Int := if k = 0 then none else some (l.getD (k - 1) 0)
def badFrom (l : List Int) (k : Nat) : Int := badI (prevI l k) (l.drop k)

theorem bad_out (p : Option Int) (x : Int) (t : List Int) (h : outI x = true) : badI p (x :: t) = 1 := by cases p <;> simp [badI, h]
theorem badFrom_out (l : List Int) (k : Nat) (h : k < l.length) (ho : outI l[k] = true) : badFrom l k = 1 := by
  unfold badFrom; rw [List.drop_eq_getElem_cons h]; exact bad_out _ _ _ ho
theorem prev_succ (l : List Int) (k : Nat) (h : k < l.length) : prevI l (k + 1) = some l[k] := by
  unfold prevI; rw [if_neg (by omega)]; simp [List.getD, List.getElem?_eq_getElem h]
theorem badFrom_fall (l : List Int) (j : Nat) (h : j + 1 < l.length) (ho : outI l[j + 1] = false) (hf : l[j + 1] ≤ l[j]) : badFrom l (j + 1) = 3 := by
  unfold badFrom; rw [List.drop_eq_getElem_cons h, prev_succ l j (by omega)]; simp [badI, ho, hf]
theorem badFrom_next (l : List Int) (j : Nat) (h : j + 1 < l.length) (ho : outI l[j + 1] = false) (hf : l[j] < l[j + 1]) : badFrom l (j + 1) = badFrom l (j + 1 + 1) := by
  unfold badFrom; rw [List.drop_eq_getElem_cons h, prev_succ l j (by omega), prev_succ l (j + 1) h]; simp [badI, ho, show ¬ l[j + 1] ≤ l[j] by omega]
theorem badFrom_first (l : List Int) (h : 0 < l.length) (ho : outI l[0] = false) : badFrom l 0 = badFrom l (0 + 1) := by
  unfold badFrom; rw [List.drop_eq_getElem_cons h, prev_succ l 0 h]; simp [badI, ho, prevI]
theorem badFrom_end (l : List Int) (k : Nat) (h : l.length ≤ k) : badFrom l k = 0 := by
  unfold badFrom; rw [List.drop_of_length_le h]; cases prevI l k <;> rfl
theorem badFrom_zero (l : List Int) (h : l.length ≤ 60) : badFrom l 0 = cutsI l := by
  rw [show cutsI l = badI none l from if_neg (by omega)]; rfl
theorem cuts_many (l : List Int) (h : 60 < l.length) : cutsI l = 4 := by unfold cutsI; rw [if_pos h]

theorem bad_zero (l : List Int) : ∀ p, badI p l = 0 ↔ (∀ x ∈ l, outI x = false) ∧ l.Pairwise (fun a b => a < b) ∧ (∀ y, p = some y → ∀ x ∈ l, y < x) := by
  induction l with
  | nil => intro p; cases p <;> simp [badI]
  | cons x t ih =>
    intro p
    cases ho : outI x with
    | true => rw [bad_out p x t ho]; simp [ho]
    | false =>
      have ih' := ih (some x)
      cases p with
      | none =>
        simp only [badI, ho]
        rw [if_neg (by simp), ih', List.pairwise_cons]
        simp only [List.mem_cons, forall_eq_or_imp]
        constructor
        · rintro ⟨h1, h2, h3⟩; exact ⟨⟨ho, h1⟩, ⟨fun z hz => h3 x rfl z hz, h2⟩, fun y hy => by cases hy⟩
        · rintro ⟨⟨_, h1⟩, ⟨h4, h2⟩, _⟩; exact ⟨h1, h2, fun y hy z hz => by cases hy; exact h4 z hz⟩
      | some q =>
        simp only [badI, ho]
        rw [if_neg (by simp)]
        by_cases hq : x ≤ q
        · rw [if_pos hq]
          constructor
          · intro h; cases h
          · rintro ⟨_, _, h3⟩; have := h3 q rfl x (by simp); omega
        · rw [if_neg hq, ih', List.pairwise_cons]
          constructor
          · rintro ⟨h1, h2, h3⟩
            refine ⟨?_, ⟨fun z hz => h3 x rfl z hz, h2⟩, ?_⟩
            · intro z hz; rcases List.mem_cons.1 hz with rfl | hz; exact ho; exact h1 z hz
            · intro y hy z hz
              cases hy
              rcases List.mem_cons.1 hz with rfl | hz
              · omega
              · have := h3 x rfl z hz; omega
          · rintro ⟨h1, ⟨h4, h2⟩, _⟩
            exact ⟨fun z hz => h1 z (by simp [hz]), h2, fun y hy z hz => by cases hy; exact h4 z hz⟩

theorem cuts_ok (l : List Int) : cutsI l = 0 ↔ l.length ≤ 60 ∧ (∀ x ∈ l, outI x = false) ∧ l.Pairwise (fun a b => a < b) := by
  unfold cutsI
  by_cases h : 60 < l.length
  · rw [if_pos h]; constructor
    · intro h; cases h
    · rintro ⟨h1, _⟩; omega
  · rw [if_neg h, bad_zero]
    constructor
    · rintro ⟨h1, h2, _⟩; exact ⟨by omega, h1, h2⟩
    · rintro ⟨_, h1, h2⟩; exact ⟨h1, h2, fun y hy => by cases hy⟩
theorem bad_codes (l : List Int) : ∀ p, badI p l = 0 ∨ badI p l = 1 ∨ badI p l = 3 := by
  induction l with
  | nil => intro p; cases p <;> simp [badI]
  | cons x t ih =>
    intro p
    cases p with
    | none => simp only [badI]; split <;> simp [ih]
    | some q =>
      simp only [badI]
      split
      · simp
      · split
        · simp
        · exact ih _
theorem cuts_codes (l : List Int) : cutsI l = 0 ∨ cutsI l = 1 ∨ cutsI l = 3 ∨ cutsI l = 4 := by
  unfold cutsI
  split
  · simp
  · rcases bad_codes l none with h | h | h <;> simp [h]

/-- in which bin a number is -/
def binI (l : List Int) (x : Int) : Nat := l.countP (fun c => decide (c ≤ x))
theorem bin_le (l : List Int) (x : Int) : binI l x ≤ l.length := List.countP_le_length
theorem bin_range (l : List Int) (x : Int) : (List.range l.length).countP (fun i => !decide (x < l.getD i 0)) = binI l x := by
  unfold binI
  have h : l = (List.range l.length).map (fun i => l.getD i 0) := by
    apply List.ext_getElem
    · simp
    · intro i h1 h2
      simp [List.getD, List.getElem?_eq_getElem h1]
  conv => rhs; rw [h]
  rw [List.countP_map]
  congr 1
  funext i
  simp only [Function.comp]
  by_cases hx : x < l.getD i 0
  · rw [decide_eq_true hx, decide_eq_false (by omega)]; rfl
  · rw [decide_eq_false hx, decide_eq_true (by omega)]; rfl
theorem bin_low (l : List Int) (x : Int) (h : l.Pairwise (fun a b => a < b)) : ∀ i (hi : i < l.length), i < binI l x → l[i] ≤ x := by
  induction l with
  | nil => intro i hi; simp at hi
  | cons c t ih =>
    rw [List.pairwise_cons] at h
    intro i hi hb
    unfold binI at hb
    rw [List.countP_cons] at hb
    by_cases hc : c ≤ x
    · cases i with
      | zero => exact hc
      | succ i =>
        have := ih h.2 i (by simpa using hi) (by unfold binI; simp [hc] at hb; omega)
        simpa using this
    · have : t.countP (fun c => decide (c ≤ x)) = 0 := by
        rw [List.countP_eq_zero]; intro z hz; have := h.1 z hz; simp; omega
      rw [this] at hb; simp [hc] at hb
theorem bin_high (l : List Int) (x : Int) (h : l.Pairwise (fun a b => a < b)) : ∀ i (hi : i < l.length), binI l x ≤ i → x < l[i] := by
  induction l with
  | nil => intro i hi; simp at hi
  | cons c t ih =>
    rw [List.pairwise_cons] at h
    intro i hi hb
    unfold binI at hb
    rw [List.countP_cons] at hb
    by_cases hc : c ≤ x
    · cases i with
      | zero => simp [hc] at hb
      | succ i =>
        have := ih h.2 i (by simpa using hi) (by unfold binI; simp [hc] at hb; omega)
        simpa using this
    · cases i with
      | zero => simp; omega
      | succ i =>
        have hi' : i < t.length := by simpa using hi
        have := h.1 t[i] (List.getElem_mem hi')
        simp; omega
theorem bin_mono (l : List Int) {x y : Int} (h : x ≤ y) : binI l x ≤ binI l y := by
  unfold binI
  exact List.countP_mono_left (fun c _ hc => by simp at *; omega)
theorem bin_same (l : List Int) {x y : Int} (h : x ≤ y) : binI l x = binI l y ↔ ∀ c ∈ l, ¬ (x < c ∧ c ≤ y) := by
  induction l with
  | nil => simp [binI]
  | cons c t ih =>
    have hm := bin_mono t h
    unfold binI at *
    rw [List.countP_cons, List.countP_cons]
    simp only [List.mem_cons, forall_eq_or_imp]
    by_cases h1 : c ≤ x
    · simp only [h1, show c ≤ y by omega, decide_true, if_true]
      rw [← ih]
      constructor
      · intro e; exact ⟨by omega, by omega⟩
      · rintro ⟨_, e⟩; omega
    · by_cases h2 : c ≤ y
      · simp only [h1, h2, decide_true, decide_false, if_true]
        constructor
        · intro e; simp only [Bool.false_eq_true, if_false] at e; omega
        · rintro ⟨e, _⟩; exact absurd ⟨by omega, trivial⟩ e
      · simp only [h1, h2, decide_false]
        simp only [Bool.false_eq_true, if_false, Nat.add_zero]
        rw [← ih]
        constructor
        · intro e; exact ⟨fun hh => hh.2, e⟩
        · rintro ⟨_, e⟩; exact e

/-- cuts together -/
def mergeI (a b : List Int) : List Int := Lib.compact (sortI (a ++ b))
theorem uniq_inv (d : Array Int) (hs : ∀ i, i + 1 < d.size → d[i]! ≤ d[i + 1]!) : ∀ m, m ≤ d.size →
    (Lib.compactUpTo d m).Pairwise (fun a b => a < b) ∧ (∀ x ∈ Lib.compactUpTo d m, 0 < m ∧ x ≤ d[m - 1]!) ∧ (∀ j, j < m → d[j]! ∈ Lib.compactUpTo d m) ∧ (∀ x ∈ Lib.compactUpTo d m, ∃ j, j < m ∧ x = d[j]!) := by
  intro m
  induction m with
  | zero => intro _; simp [Lib.compactUpTo]
  | succ m ih =>
    intro hm
    obtain ⟨h1, h2, h3, h4⟩ := ih (by omega)
    rw [Lib.compactUpTo_succ]
    cases hk : Lib.keeps d m with
    | false =>
      have hk' : ¬ (m = 0 ∨ d[m]! ≠ d[m - 1]!) := by simpa [Lib.keeps] using hk
      have hm0 : 0 < m := by omega
      have he : d[m]! = d[m - 1]! := by
        by_cases h : d[m]! = d[m - 1]!
        · exact h
        · exact absurd (Or.inr h) hk'
      simp only [Bool.false_eq_true, if_false, List.append_nil, Nat.add_sub_cancel]
      refine ⟨h1, fun x hx => ⟨by omega, by rw [he]; exact (h2 x hx).2⟩, fun j hj => ?_, fun x hx => ?_⟩
      · by_cases hjm : j < m
        · exact h3 j hjm
        · have : j = m := by omega
          subst this; rw [he]; exact h3 (j - 1) (by omega)
      · obtain ⟨j, hj, e⟩ := h4 x hx; exact ⟨j, by omega, e⟩
    | true =>
      have hk' : m = 0 ∨ d[m]! ≠ d[m - 1]! := by simpa [Lib.keeps] using hk
      have hlt : ∀ x ∈ Lib.compactUpTo d m, x < d[m]! := by
        intro x hx
        obtain ⟨hp, hle⟩ := h2 x hx
        have h5 := hs (m - 1) (by omega)
        rw [show m - 1 + 1 = m by omega] at h5
        rcases hk' with h | h
        · omega
        · omega
      simp only [if_true, Nat.add_sub_cancel]
      refine ⟨?_, ?_, ?_, ?_⟩
      · rw [List.pairwise_append]
        exact ⟨h1, by simp, fun x hx y hy => by simp at hy; subst hy; exact hlt x hx⟩
      · intro x hx
        rw [List.mem_append] at hx
        rcases hx with hx | hx
        · have := hlt x hx; exact ⟨by omega, by omega⟩
        · simp at hx; subst hx; exact ⟨by omega, Int.le_refl _⟩
      · intro j hj
        rw [List.mem_append]
        by_cases hjm : j < m
        · exact Or.inl (h3 j hjm)
        · have : j = m := by omega
          subst this; exact Or.inr (by simp)
      · intro x hx
        rw [List.mem_append] at hx
        rcases hx with hx | hx
        · obtain ⟨j, hj, e⟩ := h4 x hx; exact ⟨j, by omega, e⟩
        · simp at hx; exact ⟨m, by omega, hx⟩
theorem at_toArray (l : List Int) (i : Nat) (h : i < l.length) : l.toArray[i]! = l[i] := by
  rw [getElem!_pos l.toArray i (by simpa using h)]; simp
theorem sorted_next (l : List Int) (i : Nat) (h : i + 1 < l.toArray.size) (hp : l.Pairwise (fun a b => a ≤ b)) : l.toArray[i]! ≤ l.toArray[i + 1]! := by
  have h' : i + 1 < l.length := by simpa using h
  rw [at_toArray l i (by omega), at_toArray l (i + 1) h']
  exact List.pairwise_iff_getElem.1 hp i (i + 1) (by omega) h' (by omega)
theorem uniq_pw (l : List Int) (hp : l.Pairwise (fun a b => a ≤ b)) : (Lib.compact l).Pairwise (fun a b => a < b) := by
  have := uniq_inv l.toArray (fun i hi => sorted_next l i hi hp) l.length (by simp)
  exact this.1
theorem uniq_mem (l : List Int) (hp : l.Pairwise (fun a b => a ≤ b)) (x : Int) : x ∈ Lib.compact l ↔ x ∈ l := by
  have := uniq_inv l.toArray (fun i hi => sorted_next l i hi hp) l.length (by simp)
  obtain ⟨_, _, h3, h4⟩ := this
  constructor
  · intro h
    obtain ⟨j, hj, e⟩ := h4 x h
    rw [e, at_toArray l j hj]; exact List.getElem_mem _
  · intro h
    obtain ⟨j, hj, e⟩ := List.mem_iff_getElem.1 h
    have := h3 j hj
    rw [at_toArray l j hj, e] at this; exact this
theorem merge_pw (a b : List Int) : (mergeI a b).Pairwise (fun a b => a < b) := uniq_pw _ (sort_pw _)
theorem merge_mem (a b : List Int) (x : Int) : x ∈ mergeI a b ↔ x ∈ a ∨ x ∈ b := by
  unfold mergeI
  rw [uniq_mem _ (sort_pw _), (sort_perm _).mem_iff, List.mem_append]
theorem merge_le (a b : List Int) : (mergeI a b).length ≤ a.length + b.length := by
  unfold mergeI Lib.compact Lib.compactUpTo
  rw [List.length_map]
  refine Nat.le_trans (List.length_filter_le _ _) ?_
  rw [List.length_range, sort_length, List.length_append]
  exact Nat.le_refl _
theorem merge_ok {a b : List Int} (ha : cutsI a = 0) (hb : cutsI b = 0) (hl : (mergeI a b).length ≤ 60) : cutsI (mergeI a b) = 0 := by
  rw [cuts_ok] at *
  refine ⟨hl, fun x hx => ?_, merge_pw a b⟩
  rcases (merge_mem a b x).1 hx with h | h
  · exact ha.2.1 x h
  · exact hb.2.1 x h

/-- more cuts, finer bins -/
theorem finer_le (a b : List Int) {x y : Int} (h : x ≤ y) : (binI (mergeI a b) x = binI (mergeI a b) y) ↔ (binI a x = binI a y ∧ binI b x = binI b y) := by
  rw [bin_same _ h, bin_same _ h, bin_same _ h]
  constructor
  · intro e; exact ⟨fun c hc => e c ((merge_mem a b c).2 (Or.inl hc)), fun c hc => e c ((merge_mem a b c).2 (Or.inr hc))⟩
  · rintro ⟨e1, e2⟩ c hc
    rcases (merge_mem a b c).1 hc with h | h
    · exact e1 c h
    · exact e2 c h
theorem finer (a b : List Int) (x y : Int) : (binI (mergeI a b) x = binI (mergeI a b) y) ↔ (binI a x = binI a y ∧ binI b x = binI b y) := by
  by_cases h : x ≤ y
  · exact finer_le a b h
  · have := finer_le a b (show y ≤ x by omega)
    constructor
    · intro e; obtain ⟨h1, h2⟩ := this.1 e.symm; exact ⟨h1.symm, h2.symm⟩
    · rintro ⟨e1, e2⟩; exact (this.2 ⟨e1.symm, e2.symm⟩).symm
end Go.Proofs.YtiggkjkjfnlfkaaGreatDoor.M

namespace Go.Proofs.YtiggkjkjfnlfkaaGreatDoor
open Go.ChangeShapes Go.WideShapes Go.ChangeAt Go.RowKit
set_option linter.unusedVariables false
theorem hide {p : Prop} (h : p) : Hid p := h
theorem ret_int {k : IntKind} {a b : Int} (h : a = b) : Ending.returned (.int k a) = .returned (.int k b) := by rw [h]

theorem ret_bool {a b : Bool} (h : a = b) : Ending.returned (.bool a) = .returned (.bool b) := by rw [h]
theorem ret_val {a b : Value} (h : a = b) : Ending.returned a = .returned b := by rw [h]

/-- a slice's elements, where they lie -/
def Rd (w : World) (a : Option Addr) (xs : List Int) : Prop :=
  xs.length ≤ maxLen ∧ (xs ≠ [] → ∃ b off, a = some ⟨b, off, none⟩ ∧ b < w.heap.size ∧ ∀ i, i < xs.length → w.cell? ⟨b, off + i, none⟩ = some (.int .i64 (xs.getD i 0)))

theorem Rd.below {w w' : World} {a : Option Addr} {xs : List Int} (h : Rd w a xs) (hb : Below w.heap.size w w') : Rd w' a xs :=
  ⟨h.1, fun hn => by
    obtain ⟨b, off, e, hl, hc⟩ := h.2 hn
    exact ⟨b, off, e, Nat.lt_of_lt_of_le hl hb.size, fun i hi => (hb.cell (p := ⟨b, off + i, none⟩) hl).trans (hc i hi)⟩⟩
theorem Rd.at {w : World} {b off : Nat} {xs : List Int} (hc : ∀ i, i < xs.length → w.cell? ⟨b, off + i, none⟩ = some (.int .i64 (xs.getD i 0))) (k : Nat) (hk : k < xs.length) :
    w.cell? ⟨b, off + k, none⟩ = some (.int .i64 xs[k]) := by
  rw [hc k hk]; simp [List.getD, List.getElem?_eq_getElem hk]

def IsRow (k : IntKind) (w : World) (a : Option Addr) (len cap : Nat) (zs : List Int) : Prop :=
  (a = none ∧ len = 0 ∧ cap = 0 ∧ zs = []) ∨
  ∃ x, a = some x ∧ len ≤ cap ∧ cap ≤ maxLen ∧ zs.length = cap ∧ (∀ i, i < zs.length → w.cell? (x.add i) = some (.int k (zs.getD i 0))) ∧ ∀ n ∈ zs, (Lit.int k n).wf = true

theorem rd_of {w : World} {a : Option Addr} {len cap : Nat} {zs : List Int} (h : IsRow .i64 w a len cap zs) : Rd w a (zs.take len) ∧ (zs.take len).length = len := by
  rcases h with ⟨rfl, rfl, rfl, rfl⟩ | ⟨x, rfl, hl, hm, hz, hcell, hwz⟩
  · exact ⟨⟨Nat.zero_le _, fun h => absurd rfl h⟩, rfl⟩
  · have hlen : (zs.take len).length = len := by rw [List.length_take]; omega
    refine ⟨⟨by omega, fun hne => ?_⟩, hlen⟩
    have hp : 0 < len := by rw [← hlen]; exact List.length_pos_iff.2 hne
    obtain ⟨b, off, spot⟩ := x
    have hc0 := hcell 0 (by omega)
    have hspot : spot = none := by simpa [Addr.add] using World.cell?_spot hc0
    subst hspot
    have ea : ∀ i, (⟨b, off, none⟩ : Addr).add i = ⟨b, off + i, none⟩ := fun i => by unfold Addr.add; simp
    refine ⟨b, off, rfl, ?_, fun i hi => ?_⟩
    · rw [ea] at hc0
      exact block_lt_of_cell hc0
    · have := hcell i (by omega)
      rw [ea] at this
      rw [this]
      have h1 : i < len := by omega
      simp [List.getD, h1]

/-- an error: nil, or the program's own -/
def errV (c : Int) : Value := if c = 0 then .nilIface else .iface 90 (.int .i64 c)
theorem err_nil {c : Int} (h : c = 0) : errV c = .nilIface := by unfold errV; rw [if_pos h]
theorem err_some {c : Int} (h : c ≠ 0) : errV c = .iface 90 (.int .i64 c) := by unfold errV; rw [if_neg h]

theorem info3 : (Tryz.prog.info? 3).map (fun i => (i.zero, i.size, i.bytes)) = some (some (.int .i64 0), 1, 8) := by kernel_rfl

theorem own_at {w : World} {base g n cap : Nat} {F : List Int} (h : w.ownsRow base 3 1 (.slice (some ⟨g, 0, none⟩) n cap) n (F.map (Value.int .i64))) (hn : F.length = n) (k : Nat) (hk : k < F.length) :
    w.cell? ⟨g, k, none⟩ = some (.int .i64 F[k]) := by
  rw [h.cellAt k (by omega)]
  simp [hk]
theorem own_shape {w : World} {base n : Nat} {v : Value} {l : List Value} (h : w.ownsRow base 3 1 v n l) (hn : 0 < n) : ∃ g cap, v = .slice (some ⟨g, 0, none⟩) n cap ∧ base ≤ g ∧ g < w.heap.size := by
  rcases h.2 with ⟨_, h0⟩ | ⟨g, cap, cur, hv, hb, hg, _⟩
  · omega
  · exact ⟨g, cap, hv, hb, (Array.getElem?_eq_some_iff.1 hg).1⟩
theorem below_on {w w1 w2 : World} (h : Below w.heap.size w w1) (k : Below w1.heap.size w1 w2) : Below w.heap.size w w2 := h.trans (k.mono h.size)
/-- a new slice of one number -/
theorem one_rd (w : World) (x : Int) (t : TypeId) : Rd (w.alloc (.cells #[.int .i64 x] t)) (some ⟨w.heap.size, 0, none⟩) [x] :=
  ⟨by show 1 ≤ maxLen; unfold maxLen; decide, fun _ => ⟨w.heap.size, 0, rfl, by simp, fun i hi => by
    have : i = 0 := by simp at hi; exact hi
    subst this
    simp⟩⟩
/-- a row of our own, read -/
theorem own_rd {w : World} {base : Nat} {v : Value} {F : List Int} (h : w.ownsRow base 3 1 v F.length (F.map (Value.int .i64))) :
    ∃ a cap, v = .slice a F.length cap ∧ Rd w a F ∧ F.length ≤ cap := by
  rcases h.2 with ⟨hv, h0⟩ | ⟨g, cap, cur, hv, hb, hg, h1, h2, h3, h4⟩
  · have e : F = [] := List.length_eq_zero_iff.1 h0
    subst e
    exact ⟨none, 0, hv, ⟨Nat.zero_le _, fun h => absurd rfl h⟩, Nat.le_refl _⟩
  · subst hv
    refine ⟨_, cap, rfl, ⟨by omega, fun _ => ⟨g, 0, rfl, (Array.getElem?_eq_some_iff.1 hg).1, fun i hi => ?_⟩⟩, h1⟩
    rw [Nat.zero_add, own_at h rfl i hi]
    simp [List.getD, List.getElem?_eq_getElem hi]

theorem src_cells {w : World} {b off : Nat} {xs : List Int} (hc : ∀ i, i < xs.length → w.cell? ⟨b, off + i, none⟩ = some (.int .i64 (xs.getD i 0))) :
    ∀ (j : Nat) (u : Value), (xs.map (Value.int .i64))[j]? = some u → w.cell? ((⟨b, off, none⟩ : Addr).add j) = some u := by
  intro j u hu
  rw [List.getElem?_eq_some_iff] at hu
  obtain ⟨hj, rfl⟩ := hu
  have hj' : j < xs.length := by simpa using hj
  have ea : (⟨b, off, none⟩ : Addr).add j = ⟨b, off + j, none⟩ := by unfold Addr.add; simp
  rw [ea]
  rw [Rd.at hc j hj']
  simp
theorem one_cells (xs : List Int) : ∀ u ∈ xs.map (Value.int .i64), u.oneCell' = true := by
  intro u hu
  rw [List.mem_map] at hu
  obtain ⟨x, _, rfl⟩ := hu
  rfl
theorem made (n : Nat) : (madeCells (Value.cells (.int .i64 0)) (n * 1)).toList = (List.replicate n (0 : Int)).map (Value.int .i64) := by
  rw [Nat.mul_one]
  show (madeCells #[Value.int .i64 0] n).toList = _
  rw [toList_madeCells_one]; simp

theorem below_drew {B : Nat} {w w1 : World} (h : Below B w w1) (q : Nat) (hB : B ≤ w1.heap.size) : Below B w (w1.drewN q) := h.trans ⟨rfl, rfl, rfl, Nat.le_refl _, fun _ _ => rfl⟩
theorem getD_bang (xs : List Int) (j : Nat) : xs[j]! = xs.getD j 0 := by
  simp [List.getD, List.getElem!_eq_getElem?_getD]

theorem own_keep {w w' : World} {base n : Nat} {v : Value} {l : List Value} (h : w.ownsRow base 3 1 v n l) (hb : Below w.heap.size w w') : w'.ownsRow base 3 1 v n l := by
  refine ⟨h.1, ?_⟩
  rcases h.2 with h0 | ⟨g, cap, cur, hv, h1, h2, h3⟩
  · exact .inl h0
  · exact .inr ⟨g, cap, cur, hv, h1, (hb.block g (Array.getElem?_eq_some_iff.1 h2).1).trans h2, h3⟩
theorem own_up {w w' : World} {base n e size : Nat} {v : Value} {l : List Value} (h : w.ownsRow base e size v n l) (hb : Below w.heap.size w w') : w'.ownsRow base e size v n l := by
  refine ⟨h.1, ?_⟩
  rcases h.2 with h0 | ⟨g, cap, cur, hv, h1, h2, h3⟩
  · exact .inl h0
  · exact .inr ⟨g, cap, cur, hv, h1, (hb.block g (Array.getElem?_eq_some_iff.1 h2).1).trans h2, h3⟩
theorem grown_trans {a b c : World} {r s : Option Nat} (h : a.grownBy b r) (k : b.grownBy c s) (hs : s = r ∨ ∀ q, s = some q → a.heap.size ≤ q) : a.grownBy c r :=
  ⟨k.os.trans h.os, k.tape.trans h.tape, k.output.trans h.output, Nat.le_trans h.size k.size, fun q hq hn => (k.block q (Nat.lt_of_lt_of_le hq h.size) (fun e => by
    rcases hs with q1 | q1
    · exact hn (by rw [e, q1])
    · have := q1 q e.symm; omega)).trans (h.block q hq hn)⟩
theorem grown_drew {a b : World} {r : Option Nat} (h : a.grownBy b r) : a.grownBy b.drew r := ⟨h.os, h.tape, h.output, h.size, h.block⟩
theorem grown_set {W : World} {g o : Nat} {u : Value} : W.grownBy (W.setCell ⟨g, o, none⟩ u) (some g) :=
  ⟨rfl, rfl, rfl, by simp, fun q hq hn => Below.heap_setCell _ _ _ _ (fun e => hn (by rw [e]))⟩
theorem grown_undrew {a b : World} {r : Option Nat} (h : a.drew.grownBy b r) : a.grownBy b r := ⟨h.os, h.tape, h.output, h.size, h.block⟩
theorem grown_of {a b : World} (h : Below a.heap.size a b) (r : Option Nat) : a.grownBy b r := ⟨h.os, h.tape, h.output, h.size, fun k hk _ => h.block k hk⟩
theorem rd_grown {w w' : World} {o : Option Nat} {a : Option Addr} {xs : List Int} (h : Rd w a xs) (hg : w.grownBy w' o) (ha : xs ≠ [] → ∀ p, a = some p → some p.block ≠ o) : Rd w' a xs :=
  ⟨h.1, fun hn => by
    obtain ⟨b, off, rfl, hb, hc⟩ := h.2 hn
    exact ⟨b, off, rfl, Nat.lt_of_lt_of_le hb hg.size, fun i hi => hg.cell (hc i hi) (fun e => ha hn _ rfl e)⟩⟩
end Go.Proofs.YtiggkjkjfnlfkaaGreatDoor

namespace Go.Proofs.YtiggkjkjfnlfkaaGreatDoor
open Go.ChangeShapes Go.WideShapes Go.ChangeAt Go.RowKit Go.Lib
set_option linter.unusedVariables false
/-- all blocks stay but some, and those that are new -/
structure StayBut (K : Nat → Prop) (W W' : World) : Prop where
  os : W'.os = W.os
  tape : W'.tape = W.tape
  output : W'.output = W.output
  size : W.heap.size ≤ W'.heap.size
  block : ∀ q, q < W.heap.size → ¬ K q → W'.heap[q]? = W.heap[q]?
theorem info8 : (Tryz.prog.info? 5).map (fun i => (i.zero, i.size, i.bytes)) = some (some (.int .u8 0), 1, 1) := by kernel_rfl
def byV (x : Nat) : Value := .int .u8 (x : Int)
def byCells (xs : List Nat) : List Value := xs.map byV
theorem byCells_app (a b : List Nat) : byCells (a ++ b) = byCells a ++ byCells b := by unfold byCells; rw [List.map_append]
theorem byCells_len (xs : List Nat) : (byCells xs).length = xs.length := by simp [byCells]
theorem byCells_one (xs : List Nat) : ∀ v ∈ byCells xs, v.oneCell' = true := by
  intro v hv
  obtain ⟨x, _, rfl⟩ := List.mem_map.1 hv
  rfl
/-- bytes, where they lie -/
def RdB (w : World) (a : Option Addr) (xs : List Nat) : Prop :=
  xs.length ≤ maxLen ∧ (∀ x ∈ xs, x < 256) ∧ (xs ≠ [] → ∃ b off, a = some ⟨b, off, none⟩ ∧ b < w.heap.size ∧ ∀ i, i < xs.length → w.cell? ⟨b, off + i, none⟩ = some (byV (xs.getD i 0)))
theorem RdB.below {w w' : World} {a : Option Addr} {xs : List Nat} (h : RdB w a xs) (hb : Below w.heap.size w w') : RdB w' a xs :=
  ⟨h.1, h.2.1, fun hn => by
    obtain ⟨b, off, e, hl, hc⟩ := h.2.2 hn
    exact ⟨b, off, e, Nat.lt_of_lt_of_le hl hb.size, fun i hi => (hb.cell (p := ⟨b, off + i, none⟩) hl).trans (hc i hi)⟩⟩
theorem own_rdB {w : World} {base n : Nat} {v : Value} {xs : List Nat} (hn : xs.length = n) (hm : n ≤ maxLen) (h8 : ∀ x ∈ xs, x < 256) (h : w.ownsRow base 5 1 v n (byCells xs)) : ∃ a cap, v = .slice a n cap ∧ RdB w a xs ∧ (∀ p, a = some p → base ≤ p.block) := by
  subst hn
  rcases h.2 with ⟨hv, h0⟩ | ⟨g, cap, cur, hv, hb, hg, h1, h2, h3, h4⟩
  · have e : xs = [] := List.length_eq_zero_iff.1 h0
    subst e
    exact ⟨none, 0, hv, ⟨Nat.zero_le _, h8, fun h => absurd rfl h⟩, fun p hp => by cases hp⟩
  · subst hv
    refine ⟨_, cap, rfl, ⟨hm, h8, fun _ => ⟨g, 0, rfl, (Array.getElem?_eq_some_iff.1 hg).1, fun i hi => ?_⟩⟩, fun p hp => by cases hp; exact hb⟩
    rw [Nat.zero_add, h.cellAt i (by omega)]
    simp [byCells, List.getD, hi]
/-- behind the first of them -/
theorem RdB.drop {w : World} {b off : Nat} {xs : List Nat} (h : RdB w (some ⟨b, off, none⟩) xs) (k : Nat) : RdB w (some ⟨b, off + k, none⟩) (xs.drop k) := by
  refine ⟨by rw [List.length_drop]; exact Nat.le_trans (Nat.sub_le _ _) h.1, fun x hx => h.2.1 x (List.mem_of_mem_drop hx), fun hn => ?_⟩
  have hk : k < xs.length := by
    by_cases q : k < xs.length
    · exact q
    · exact absurd (List.drop_eq_nil_of_le (by omega)) hn
  obtain ⟨b', off', e, hl, hc⟩ := h.2.2 (by intro e; rw [e] at hk; simp at hk)
  cases e
  refine ⟨b, off + k, rfl, hl, fun i hi => ?_⟩
  rw [List.length_drop] at hi
  have := hc (k + i) (by omega)
  rw [show off + k + i = off + (k + i) by omega, this]
  congr 2
  simp [List.getD]
theorem RdB.take {w : World} {a : Option Addr} {xs : List Nat} (h : RdB w a xs) (k : Nat) : RdB w a (xs.take k) := by
  refine ⟨by rw [List.length_take]; exact Nat.le_trans (Nat.min_le_right ..) h.1, fun x hx => h.2.1 x (List.mem_of_mem_take hx), fun hn => ?_⟩
  obtain ⟨b, off, e, hl, hc⟩ := h.2.2 (by intro e; rw [e] at hn; simp at hn)
  refine ⟨b, off, e, hl, fun i hi => ?_⟩
  rw [List.length_take] at hi
  rw [hc i (by omega)]
  congr 2
  have : i < k := by omega
  simp [List.getD, this]
theorem by_src {w : World} {b off : Nat} {xs : List Nat} (hc : ∀ i, i < xs.length → w.cell? ⟨b, off + i, none⟩ = some (byV (xs.getD i 0))) : ∀ j u, (byCells xs)[j]? = some u → w.cell? ((⟨b, off, none⟩ : Addr).add j) = some u := by
  intro j u hj
  have hl : j < xs.length := by
    have := (List.getElem?_eq_some_iff.1 hj).1
    rwa [byCells_len] at this
  have add_flat : (⟨b, off, none⟩ : Addr).add j = ⟨b, off + j, none⟩ := by unfold Addr.add; simp
  rw [add_flat, hc j hl, ← hj]
  simp [byCells, List.getD, hl]
theorem wpList_append_by {w : World} {ops : Array Oper} {rest : List Oper} {o : Oper} {act : Act} {Q : Exit → Act → World → Prop} (hgd : o.guard = none) (s x : Operand)
    (ho : o.op = .call { callee := .builtin .append, args := #[s, x], argTypes := #[34, 34] })
    (base : Nat) (v : Value) (n : Nat) (zs : List Nat) (hs : act.eval s = v) (hown : w.ownsRow base 5 1 v n (byCells zs))
    (a : Option Addr) (ys : List Nat) (m cap : Nat) (hm : ys.length = m) (hx : act.eval x = .slice a m cap) (hr : RdB w a ys) (hnil : a = none → cap = 0) (hlen : n + ys.length ≤ 140737488355328) (hbase : base ≤ w.heap.size)
    (h : ∀ va vc w', w'.ownsRow base 5 1 (.slice va (n + m) vc) (n + m) (byCells (zs ++ ys)) → Below base w w' → w.grownBy w' v.ownBlock → wpList Tryz.prog ops Q rest (act.put o.dst (.slice va (n + m) vc)) w') : wpList Tryz.prog ops Q (o :: rest) act w := by
  subst hm
  obtain ⟨i0, hi, hz0, hz1, hz2⟩ := info_parts info8
  cases a with
  | none =>
    have e : ys = [] := by
      by_cases hy : ys = []
      · exact hy
      · obtain ⟨b, off, e, _⟩ := hr.2.2 hy; cases e
    subst e
    have hc := hnil rfl
    subst hc
    refine wpList_append_own_none hgd s x 34 ho base 5 i0 1 Tryz.underlying34 hi v n (byCells zs) hs hown hx ?_
    obtain ⟨va, vc, e⟩ : ∃ va vc, v = .slice va n vc := by
      rcases hown.2 with ⟨hv, h0⟩ | ⟨g, cap, cur, hv, _⟩
      · exact ⟨none, 0, by rw [hv, h0]⟩
      · exact ⟨some ⟨g, 0, none⟩, cap, hv⟩
    subst e
    have := h va vc w (by simpa using hown) (Below.refl _ _) ⟨rfl, rfl, rfl, Nat.le_refl _, fun _ _ _ => rfl⟩
    simpa using this
  | some ad =>
    have hnews : ∀ j u, (byCells ys)[j]? = some u → w.cell? (ad.add j) = some u := by
      by_cases hy : ys = []
      · subst hy; intro j u hj; simp [byCells] at hj
      · obtain ⟨b, off, e, _, hc⟩ := hr.2.2 hy
        cases e
        exact by_src hc
    refine wpList_append_own _ hgd s x 34 ho base 5 i0 (.int .u8 0) 1 1 Tryz.underlying34 hi hz0 hz1 hz2 rfl (by decide) v n (byCells zs) hs hown ad ys.length cap (byCells ys) hx (by rw [byCells_len]; omega) hnews (byCells_one ys) (by unfold maxLen; omega) (by omega) hbase ?_
    intro v' w' hown' hgrow _
    obtain ⟨va, vc, e⟩ : ∃ va vc, v' = .slice va (n + ys.length) vc := by
      rcases hown'.2 with ⟨hv, h0⟩ | ⟨g, cap, cur, hv, _⟩
      · exact ⟨none, 0, by rw [hv, h0]⟩
      · exact ⟨some ⟨g, 0, none⟩, cap, hv⟩
    subst e
    exact h va vc w' (by rw [byCells_app]; exact hown') ((Below.refl _ w).grown hgrow hbase (fun k hk => (hown.lt k hk).1)) hgrow
/-- one byte in a new block -/
theorem rdB_one (w : World) (x : Nat) (hx : x < 256) (t : TypeId) : RdB (w.alloc (.cells #[.int .u8 (x : Int)] t)) (some ⟨w.heap.size, 0, none⟩) [x] :=
  ⟨by unfold maxLen; simp, fun y hy => by rw [List.mem_singleton] at hy; omega, fun _ => ⟨w.heap.size, 0, rfl, by simp, fun i hi => by
    have : i = 0 := by simpa using hi
    subst this
    exact World.cell?_alloc_at _ _ _ 0 rfl⟩⟩
/-- bytes as a string -/
def byStr (xs : List Nat) : ByteArray := (xs.map Int.ofNat).foldl (fun r n => r.push (UInt8.ofNat n.toNat)) ByteArray.empty
theorem push_list : ∀ (xs : List Nat) (s : ByteArray), ((xs.map Int.ofNat).foldl (fun r n => r.push (UInt8.ofNat n.toNat)) s).data.toList = s.data.toList ++ xs.map UInt8.ofNat
  | [], s => by simp
  | x :: xs, s => by
    have := push_list xs (s.push (UInt8.ofNat x))
    simp only [List.map_cons, List.foldl_cons]
    rw [show (Int.ofNat x).toNat = x from rfl, this]
    simp [ByteArray.push]
theorem byStr_list (xs : List Nat) : (byStr xs).data.toList = xs.map UInt8.ofNat := by
  have := push_list xs ByteArray.empty
  simpa [byStr] using this
theorem of_inj {x y : Nat} (hx : x < 256) (hy : y < 256) (h : UInt8.ofNat x = UInt8.ofNat y) : x = y := by
  have := congrArg UInt8.toNat h
  simp at this
  omega
theorem ofs_inj : ∀ xs ys : List Nat, (∀ x ∈ xs, x < 256) → (∀ y ∈ ys, y < 256) → xs.map UInt8.ofNat = ys.map UInt8.ofNat → xs = ys
  | [], [], _, _, _ => rfl
  | [], y :: ys, _, _, h => by simp at h
  | x :: xs, [], _, _, h => by simp at h
  | x :: xs, y :: ys, h1, h2, h => by
    simp only [List.map_cons, List.cons.injEq] at h
    rw [of_inj (h1 x (List.mem_cons_self ..)) (h2 y (List.mem_cons_self ..)) h.1, ofs_inj xs ys (fun z hz => h1 z (List.mem_cons_of_mem _ hz)) (fun z hz => h2 z (List.mem_cons_of_mem _ hz)) h.2]
theorem byStr_inj {xs ys : List Nat} (h1 : ∀ x ∈ xs, x < 256) (h2 : ∀ y ∈ ys, y < 256) (h : byStr xs = byStr ys) : xs = ys :=
  ofs_inj xs ys h1 h2 (by rw [← byStr_list, ← byStr_list, h])
theorem conv_by {W : World} {a : Option Addr} {xs : List Nat} (h : RdB W a xs) (c : Nat) : (convert 34 9 (.slice a xs.length c)).run Tryz.prog W = .ok (.string (byStr xs)) W := by
  rw [run_convert_bytes_string W 34 9 5 a xs.length c Tryz.underlying34 Tryz.underlying5 Tryz.underlying9]
  cases a with
  | none =>
    have e : xs = [] := by
      by_cases hx : xs = []
      · exact hx
      · obtain ⟨b, off, e, _⟩ := h.2.2 hx; cases e
    subst e
    unfold Conv.bytesToString
    simp [Sem.run_pure, byStr]
  | some ad =>
    refine run_bytesToString W ad xs.length c (xs.map Int.ofNat) ?_
    have e : (xs.map Int.ofNat).map (Value.int .u8) = byCells xs := by unfold byCells; rw [List.map_map]; rfl
    rw [e, ← byCells_len xs]
    refine run_loadCells_list W ad (byCells xs) fun j u hj => ?_
    by_cases hx : xs = []
    · subst hx; simp [byCells] at hj
    · obtain ⟨b, off, e', _, hc⟩ := h.2.2 hx
      cases e'
      exact by_src hc j u hj
theorem rdB_slice {W : World} {a : Option Addr} {bs : List Nat} {c k : Nat} (h : RdB W a bs) (hc : bs.length ≤ c) : RdB W (if c = k then a else Option.map (fun x => x.add k) a) (bs.drop k) := by
  by_cases hk : k < bs.length
  · obtain ⟨b, off, rfl, hl, hcc⟩ := h.2.2 (by intro e; rw [e] at hk; simp at hk)
    rw [if_neg (by omega)]
    have add_flat : (⟨b, off, none⟩ : Addr).add k = ⟨b, off + k, none⟩ := by unfold Addr.add; simp
    show RdB W (some ((⟨b, off, none⟩ : Addr).add k)) _
    rw [add_flat]
    exact h.drop k
  · have e : bs.drop k = [] := List.drop_eq_nil_of_le (by omega)
    rw [e]
    exact ⟨Nat.zero_le _, (fun x hx => by cases hx), fun hn => absurd rfl hn⟩

/-- bytes in a row of our own, and a row that is none has no room -/
theorem own_rdB0 {w : World} {base n : Nat} {v : Value} {xs : List Nat} (hn : xs.length = n) (hm : n ≤ maxLen) (h8 : ∀ x ∈ xs, x < 256) (h : w.ownsRow base 5 1 v n (byCells xs)) : ∃ a cap, v = .slice a n cap ∧ RdB w a xs ∧ (a = none → cap = 0) ∧ n ≤ cap := by
  subst hn
  rcases h.2 with ⟨hv, h0⟩ | ⟨g, cap, cur, hv, hb, hg, h1, h2, h3, h4⟩
  · have e : xs = [] := List.length_eq_zero_iff.1 h0
    subst e
    exact ⟨none, 0, hv, ⟨Nat.zero_le _, h8, fun h => absurd rfl h⟩, fun _ => rfl, Nat.le_refl _⟩
  · subst hv
    refine ⟨_, cap, rfl, ⟨hm, h8, fun _ => ⟨g, 0, rfl, (Array.getElem?_eq_some_iff.1 hg).1, fun i hi => ?_⟩⟩, (fun hp => by cases hp), ?_⟩
    · rw [Nat.zero_add, h.cellAt i (by omega)]
      simp [byCells, List.getD, hi]
    · first | exact h1 | exact h2 | omega

/-- bytes in a row of our own: how much room there is -/
theorem own_rdB1 {w : World} {base n : Nat} {v : Value} {xs : List Nat} (hn : xs.length = n) (hm : n ≤ maxLen) (h8 : ∀ x ∈ xs, x < 256) (h : w.ownsRow base 5 1 v n (byCells xs)) : ∃ a cap, v = .slice a n cap ∧ RdB w a xs ∧ (a = none → cap = 0) ∧ n ≤ cap ∧ cap ≤ 9223372036854775807 := by
  subst hn
  rcases h.2 with ⟨hv, h0⟩ | ⟨g, cap, cur, hv, hb, hg, h1, h2, h3, h4⟩
  · have e : xs = [] := List.length_eq_zero_iff.1 h0
    subst e
    exact ⟨none, 0, hv, ⟨Nat.zero_le _, h8, fun h => absurd rfl h⟩, fun _ => rfl, Nat.le_refl _, by omega⟩
  · subst hv
    refine ⟨_, cap, rfl, ⟨hm, h8, fun _ => ⟨g, 0, rfl, (Array.getElem?_eq_some_iff.1 hg).1, fun i hi => ?_⟩⟩, (fun hp => by cases hp), h1, h2⟩
    rw [Nat.zero_add, h.cellAt i (by omega)]
    simp [byCells, List.getD, hi]
theorem unfold_any (x : Nat) (w : World) (h : x < 18446744073709551616) :
    Calls Tryz.prog 280 #[.int .u64 (x : Nat)] w fun e w' => e = .returned (.int .i64 (M.unz x)) ∧ w' = w := by
  by_cases hn : x % 2 = 1
  · have EZ : Hid (bits .xor .i64 (-1) ((x : Int) / 2) = M.unz x) := by
      unfold Hid
      have e1 : ((x : Int) / 2) = ((x / 2 : Nat) : Int) := by omega
      rw [e1, i64_not _ (by omega)]
      unfold M.unz; rw [if_pos hn]; omega
    go_enter Tryz.func280, Tryz.ntmps280
    go_wp2
    go_ret
    exact ⟨by rw [← EZ.out]; rfl, rfl⟩
  · have EZ : Hid (((x : Int) / 2) = M.unz x) := by unfold Hid M.unz; rw [if_neg hn]; omega
    go_enter Tryz.func280, Tryz.ntmps280
    go_wp2
    go_ret
    exact ⟨by rw [← EZ.out]; rfl, rfl⟩
def CdGetGives : Prop := ∀ (a : Option Addr) (bs : List Nat) (c : Nat) (W : World), RdB W a bs → Calls Tryz.prog 245 #[.slice a bs.length c] W fun e w' => e = .returned (.tuple #[.int .i64 (M.getL bs).1, .int .i64 ((M.getL bs).2.1 : Nat), errV (M.getL bs).2.2]) ∧ Below W.heap.size W w'
end Go.Proofs.YtiggkjkjfnlfkaaGreatDoor
