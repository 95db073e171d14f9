/-
  Several texts as one: MathC, Base, NewKept, GroIn.
-/
import Derived.Test.YtlloiccodjnkcagGreatDoorRunC0
import Derived.Lib.SlicesCompact
import Derived.Test.YtlloiccodjnkcagGreatDoorProg
import Derived.WalkKit
import Derived.ProofKit
import Derived.OpenShut
import Derived.Below
import Derived.Laws.OwnMore
import Derived.Deep.Draws
namespace Go.Proofs.YtlloiccodjnkcagGreatDoor.M
set_option linter.unusedVariables false

/-- no number of a cell -/
def outI (x : Int) : Bool := decide (x < -1000000) || decide (1000000 < x)
theorem out_false {x : Int} (h : outI x = false) : -1000000 ≤ x ∧ x ≤ 1000000 := by unfold outI at h; simp at h; omega
theorem out_true {x : Int} (h : outI x = true) : x < -1000000 ∨ 1000000 < x := by unfold outI at h; simpa using h
theorem out_of {x : Int} (h1 : -1000000 ≤ x) (h2 : x ≤ 1000000) : outI x = false := by unfold outI; simp; omega

/-- the fault of cuts, behind one -/
def badI : Option Int → List Int → Int
  | _, [] => 0
  | none, x :: t => if outI x then 1 else badI (some x) t
  | some y, x :: t => if outI x then 1 else if x ≤ y then 3 else badI (some x) t
def cutsI (l : List Int) : Int := if 60 < l.length then 4 else badI none l
def prevI (l : List Int) (k : Nat) : Option Int := if k = 0 then none else some (l.getD (k - 1) 0)
def badFrom (l : List Int) (k : Nat) : Int := badI (prevI l k) (l.drop k)

theorem bad_out (p : Option Int) (x : Int) (t : List Int) (h : outI x = true) : badI p (x :: t) = 1 := by cases p <;> simp [badI, h]
theorem badFrom_out (l : List Int) (k : Nat) (h : k < l.length) (ho : outI l[k] = true) : badFrom l k = 1 := by
  unfold badFrom; rw [List.drop_eq_getElem_cons h]; exact bad_out _ _ _ ho
theorem prev_succ (l : List Int) (k : Nat) (h : k < l.length) : prevI l (k + 1) = some l[k] := by
  unfold prevI; rw [if_neg (by omega)]; simp [List.getD, List.getElem?_eq_getElem h]
theorem badFrom_fall (l : List Int) (j : Nat) (h : j + 1 < l.length) (ho : outI l[j + 1] = false) (hf : l[j + 1] ≤ l[j]) : badFrom l (j + 1) = 3 := by
  unfold badFrom; rw [List.drop_eq_getElem_cons h, prev_succ l j (by omega)]; simp [badI, ho, hf]
theorem badFrom_next (l : List Int) (j : Nat) (h : j + 1 < l.length) (ho : outI l[j + 1] = false) (hf : l[j] < l[j + 1]) : badFrom l (j + 1) = badFrom l (j + 1 + 1) := by
  unfold badFrom; rw [List.drop_eq_getElem_cons h, prev_succ l j (by omega), prev_succ l (j + 1) h]; simp [badI, ho, show ¬ l[j + 1] ≤ l[j] by omega]
theorem badFrom_first (l : List Int) (h : 0 < l.length) (ho : outI l[0] = false) : badFrom l 0 = badFrom l (0 + 1) := by
  unfold badFrom; rw [List.drop_eq_getElem_cons h, prev_succ l 0 h]; simp [badI, ho, prevI]
theorem badFrom_end (l : List Int) (k : Nat) (h : l.length ≤ k) : badFrom l k = 0 := by
  unfold badFrom; rw [List.drop_of_length_le h]; cases prevI l k <;> rfl
theorem badFrom_zero (l : List Int) (h : l.length ≤ 60) : badFrom l 0 = cutsI l := by
  rw [show cutsI l = badI none l from if_neg (by omega)]; rfl
theorem cuts_many (l : List Int) (h : 60 < l.length) : cutsI l = 4 := by unfold cutsI; rw [if_pos h]

theorem bad_zero (l : List Int) : ∀ p, badI p l = 0 ↔ (∀ x ∈ l, outI x = false) ∧ l.Pairwise (fun a b => a < b) ∧ (∀ y, p = some y → ∀ x ∈ l, y < x) := by
  induction l with
  | nil => intro p; cases p <;> simp [badI]
  | cons x t ih =>
    intro p
    cases ho : outI x with
    | true => rw [bad_out p x t ho]; simp [ho]
    | false =>
      have ih' := ih (some x)
      cases p with
      | none =>
        simp only [badI, ho]
        rw [if_neg (by simp), ih', List.pairwise_cons]
        simp only [List.mem_cons, forall_eq_or_imp]
        constructor
        · rintro ⟨h1, h2, h3⟩; exact ⟨⟨ho, h1⟩, ⟨fun z hz => h3 x rfl z hz, h2⟩, fun y hy => by cases hy⟩
        · rintro ⟨⟨_, h1⟩, ⟨h4, h2⟩, _⟩; exact ⟨h1, h2, fun y hy z hz => by cases hy; exact h4 z hz⟩
      | some q =>
        simp only [badI, ho]
        rw [if_neg (by simp)]
        by_cases hq : x ≤ q
        · rw [if_pos hq]
          constructor
          · intro h; cases h
          · rintro ⟨_, _, h3⟩; have := h3 q rfl x (by simp); omega
        · rw [if_neg hq, ih', List.pairwise_cons]
          constructor
          · rintro ⟨h1, h2, h3⟩
            refine ⟨?_, ⟨fun z hz => h3 x rfl z hz, h2⟩, ?_⟩
            · intro z hz; rcases List.mem_cons.1 hz with rfl | hz; exact ho; exact h1 z hz
            · intro y hy z hz
              cases hy
              rcases List.mem_cons.1 hz with rfl | hz
              · omega
              · have := h3 x rfl z hz; omega
          · rintro ⟨h1, ⟨h4, h2⟩, _⟩
            exact ⟨fun z hz => h1 z (by simp [hz]), h2, fun y hy z hz => by cases hy; exact h4 z hz⟩

theorem cuts_ok (l : List Int) : cutsI l = 0 ↔ l.length ≤ 60 ∧ (∀ x ∈ l, outI x = false) ∧ l.Pairwise (fun a b => a < b) := by
  unfold cutsI
  by_cases h : 60 < l.length
  · rw [if_pos h]; constructor
    · intro h; cases h
    · rintro ⟨h1, _⟩; omega
  · rw [if_neg h, bad_zero]
    constructor
    · rintro ⟨h1, h2, _⟩; exact ⟨by omega, h1, h2⟩
    · rintro ⟨_, h1, h2⟩; exact ⟨h1, h2, fun y hy => by cases hy⟩
theorem bad_codes (l : List Int) : ∀ p, badI p l = 0 ∨ badI p l = 1 ∨ badI p l = 3 := by
  induction l with
  | nil => intro p; cases p <;> simp [badI]
  | cons x t ih =>
    intro p
    cases p with
    | none => simp only [badI]; split <;> simp [ih]
    | some q =>
      simp only [badI]
      split
      · simp
      · split
        · simp
        · exact ih _
theorem cuts_codes (l : List Int) : cutsI l = 0 ∨ cutsI l = 1 ∨ cutsI l = 3 ∨ cutsI l = 4 := by
  unfold cutsI
  split
  · simp
  · rcases bad_codes l none with h | h | h <;> simp [h]

/-- in which bin a number is -/
def binI (l : List Int) (x : Int) : Nat := l.countP (fun c => decide (c ≤ x))
theorem bin_le (l : List Int) (x : Int) : binI l x ≤ l.length := List.countP_le_length
theorem bin_range (l : List Int) (x : Int) : (List.range l.length).countP (fun i => !decide (x < l.getD i 0)) = binI l x := by
  unfold binI
  have h : l = (List.range l.length).map (fun i => l.getD i 0) := by
    apply List.ext_getElem
    · simp
    · intro i h1 h2
      simp [List.getD, List.getElem?_eq_getElem h1]
  conv => rhs; rw [h]
  rw [List.countP_map]
  congr 1
  funext i
  simp only [Function.comp]
  by_cases hx : x < l.getD i 0
  · rw [decide_eq_true hx, decide_eq_false (by omega)]; rfl
  · rw [decide_eq_false hx, decide_eq_true (by omega)]; rfl
theorem bin_low (l : List Int) (x : Int) (h : l.Pairwise (fun a b => a < b)) : ∀ i (hi : i < l.length), i < binI l x → l[i] ≤ x := by
  induction l with
  | nil => intro i hi; simp at hi
  | cons c t ih =>
    rw [List.pairwise_cons] at h
    intro i hi hb
    unfold binI at hb
    rw [List.countP_cons] at hb
    by_cases hc : c ≤ x
    · cases i with
      | zero => exact hc
      | succ i =>
        have := ih h.2 i (by simpa using hi) (by unfold binI; simp [hc] at hb; omega)
        simpa using this
    · have : t.countP (fun c => decide (c ≤ x)) = 0 := by
        rw [List.countP_eq_zero]; intro z hz; have := h.1 z hz; simp; omega
      rw [this] at hb; simp [hc] at hb
theorem bin_high (l : List Int) (x : Int) (h : l.Pairwise (fun a b => a < b)) : ∀ i (hi : i < l.length), binI l x ≤ i → x < l[i] := by
  induction l with
  | nil => intro i hi; simp at hi
  | cons c t ih =>
    rw [List.pairwise_cons] at h
    intro i hi hb
    unfold binI at hb
    rw [List.countP_cons] at hb
    by_cases hc : c ≤ x
    · cases i with
      | zero => simp [hc] at hb
      | succ i =>
        have := ih h.2 i (by simpa using hi) (by unfold binI; simp [hc] at hb; omega)
        simpa using this
    · cases i with
      | zero => simp; omega
      | succ i =>
        have hi' : i < t.length := by simpa using hi
        have := h.1 t[i] (List.getElem_mem hi')
        simp; omega
theorem bin_mono (l : List Int) {x y : Int} (h : x ≤ y) : binI l x ≤ binI l y := by
  unfold binI
  exact List.countP_mono_left (fun c _ hc => by simp at *; omega)
theorem bin_same (l : List Int) {x y : Int} (h : x ≤ y) : binI l x = binI l y ↔ ∀ c ∈ l, ¬ (x < c ∧ c ≤ y) := by
  induction l with
  | nil => simp [binI]
  | cons c t ih =>
    have hm := bin_mono t h
    unfold binI at *
    rw [List.countP_cons, List.countP_cons]
    simp only [List.mem_cons, forall_eq_or_imp]
    by_cases h1 : c ≤ x
    · simp only [h1, show c ≤ y by omega, decide_true, if_true]
      rw [← ih]
      constructor
      · intro e; exact ⟨by omega, by omega⟩
      · rintro ⟨_, e⟩; omega
    · by_cases h2 : c ≤ y
      · simp only [h1, h2, decide_true, decide_false, if_true]
        constructor
        · intro e; simp only [Bool.false_eq_true, if_false] at e; omega
        · rintro ⟨e, _⟩; exact absurd ⟨by omega, trivial⟩ e
      · simp only [h1, h2, decide_false]
        simp only [Bool.false_eq_true, if_false, Nat.add_zero]
        rw [← ih]
        constructor
        · intro e; exact ⟨fun hh => hh.2, e⟩
        · rintro ⟨_, e⟩; exact e

/-- cuts together -/
def mergeI (a b : List Int) : List Int := Lib.compact (sortI (a ++ b))
theorem uniq_inv (d : Array Int) (hs : ∀ i, i + 1 < d.size → d[i]! ≤ d[i + 1]!) : ∀ m, m ≤ d.size →
    (Lib.compactUpTo d m).Pairwise (fun a b => a < b) ∧ (∀ x ∈ Lib.compactUpTo d m, 0 < m ∧ x ≤ d[m - 1]!) ∧ (∀ j, j < m → d[j]! ∈ Lib.compactUpTo d m) ∧ (∀ x ∈ Lib.compactUpTo d m, ∃ j, j < m ∧ x = d[j]!) := by
  intro m
  induction m with
  | zero => intro _; simp [Lib.compactUpTo]
  | succ m ih =>
    intro hm
    obtain ⟨h1, h2, h3, h4⟩ := ih (by omega)
    rw [Lib.compactUpTo_succ]
    cases hk : Lib.keeps d m with
    | false =>
      have hk' : ¬ (m = 0 ∨ d[m]! ≠ d[m - 1]!) := by simpa [Lib.keeps] using hk
      have hm0 : 0 < m := by omega
      have he : d[m]! = d[m - 1]! := by
        by_cases h : d[m]! = d[m - 1]!
        · exact h
        · exact absurd (Or.inr h) hk'
      simp only [Bool.false_eq_true, if_false, List.append_nil, Nat.add_sub_cancel]
      refine ⟨h1, fun x hx => ⟨by omega, by rw [he]; exact (h2 x hx).2⟩, fun j hj => ?_, fun x hx => ?_⟩
      · by_cases hjm : j < m
        · exact h3 j hjm
        · have : j = m := by omega
          subst this; rw [he]; exact h3 (j - 1) (by omega)
      · obtain ⟨j, hj, e⟩ := h4 x hx; exact ⟨j, by omega, e⟩
    | true =>
      have hk' : m = 0 ∨ d[m]! ≠ d[m - 1]! := by simpa [Lib.keeps] using hk
      have hlt : ∀ x ∈ Lib.compactUpTo d m, x < d[m]! := by
        intro x hx
        obtain ⟨hp, hle⟩ := h2 x hx
        have h5 := hs (m - 1) (by omega)
        rw [show m - 1 + 1 = m by omega] at h5
        rcases hk' with h | h
        · omega
        · omega
      simp only [if_true, Nat.add_sub_cancel]
      refine ⟨?_, ?_, ?_, ?_⟩
      · rw [List.pairwise_append]
        exact ⟨h1, by simp, fun x hx y hy => by simp at hy; subst hy; exact hlt x hx⟩
      · intro x hx
        rw [List.mem_append] at hx
        rcases hx with hx | hx
        · have := hlt x hx; exact ⟨by omega, by omega⟩
        · simp at hx; subst hx; exact ⟨by omega, Int.le_refl _⟩
      · intro j hj
        rw [List.mem_append]
        by_cases hjm : j < m
        · exact Or.inl (h3 j hjm)
        · have : j = m := by omega
          subst this; exact Or.inr (by simp)
      · intro x hx
        rw [List.mem_append] at hx
        rcases hx with hx | hx
        · obtain ⟨j, hj, e⟩ := h4 x hx; exact ⟨j, by omega, e⟩
        · simp at hx; exact ⟨m, by omega, hx⟩
theorem at_toArray (l : List Int) (i : Nat) (h : i < l.length) : l.toArray[i]! = l[i] := by
  rw [getElem!_pos l.toArray i (by simpa using h)]; simp
theorem sorted_next (l : List Int) (i : Nat) (h : i + 1 < l.toArray.size) (hp : l.Pairwise (fun a b => a ≤ b)) : l.toArray[i]! ≤ l.toArray[i + 1]! := by
  have h' : i + 1 < l.length := by simpa using h
  rw [at_toArray l i (by omega), at_toArray l (i + 1) h']
  exact List.pairwise_iff_getElem.1 hp i (i + 1) (by omega) h' (by omega)
theorem uniq_pw (l : List Int) (hp : l.Pairwise (fun a b => a ≤ b)) : (Lib.compact l).Pairwise (fun a b => a < b) := by
  have := uniq_inv l.toArray (fun i hi => sorted_next l i hi hp) l.length (by simp)
  exact this.1
theorem uniq_mem (l : List Int) (hp : l.Pairwise (fun a b => a ≤ b)) (x : Int) : x ∈ Lib.compact l ↔ x ∈ l := by
  have := uniq_inv l.toArray (fun i hi => sorted_next l i hi hp) l.length (by simp)
  obtain ⟨_, _, h3, h4⟩ := this
  constructor
  · intro h
    obtain ⟨j, hj, e⟩ := h4 x h
    rw [e, at_toArray l j hj]; exact List.getElem_mem _
  · intro h
    obtain ⟨j, hj, e⟩ := List.mem_iff_getElem.1 h
    have := h3 j hj
    rw [at_toArray l j hj, e] at this; exact this
theorem merge_pw (a b : List Int) : (mergeI a b).Pairwise (fun a b => a < b) := uniq_pw _ (sort_pw _)
theorem merge_mem (a b : List Int) (x : Int) : x ∈ mergeI a b ↔ x ∈ a ∨ x ∈ b := by
  unfold mergeI
  rw [uniq_mem _ (sort_pw _), (sort_perm _).mem_iff, List.mem_append]
theorem merge_le (a b : List Int) : (mergeI a b).length ≤ a.length + b.length := by
  unfold mergeI Lib.compact Lib.compactUpTo
  rw [List.length_map]
  refine Nat.le_trans (List.length_filter_le _ _) ?_
  rw [List.length_range, sort_length, List.length_append]
  exact Nat.le_refl _
theorem merge_ok {a b : List Int} (ha : cutsI a = 0) (hb : cutsI b = 0) (hl : (mergeI a b).length ≤ 60) : cutsI (mergeI a b) = 0 := by
  rw [cuts_ok] at *
  refine ⟨hl, fun x hx => ?_, merge_pw a b⟩
  rcases (merge_mem a b x).1 hx with h | h
  · exact ha.2.1 x h
  · exact hb.2.1 x h

/-- more cuts, finer bins -/
theorem finer_le (a b : List Int) {x y : Int} (h : x ≤ y) : (binI (mergeI a b) x = binI (mergeI a b) y) ↔ (binI a x = binI a y ∧ binI b x = binI b y) := by
  rw [bin_same _ h, bin_same _ h, bin_same _ h]
  constructor
  · intro e; exact ⟨fun c hc => e c ((merge_mem a b c).2 (Or.inl hc)), fun c hc => e c ((merge_mem a b c).2 (Or.inr hc))⟩
  · rintro ⟨e1, e2⟩ c hc
    rcases (merge_mem a b c).1 hc with h | h
    · exact e1 c h
    · exact e2 c h
theorem finer (a b : List Int) (x y : Int) : (binI (mergeI a b) x = binI (mergeI a b) y) ↔ (binI a x = binI a y ∧ binI b x = binI b y) := by
  by_cases h : x ≤ y
  · exact finer_le a b h
  · have := finer_le a b (show y ≤ x by omega)
    constructor
    · intro e; obtain ⟨h1, h2⟩ := this.1 e.symm; exact ⟨h1.symm, h2.symm⟩
    · rintro ⟨e1, e2⟩; exact (this.2 ⟨e1.symm, e2.symm⟩).symm

end Go.Proofs.YtlloiccodjnkcagGreatDoor.M

namespace Go.Proofs.YtlloiccodjnkcagGreatDoor
open Go.ChangeShapes Go.WideShapes Go.ChangeAt Go.RowKit
set_option linter.unusedVariables false

theorem hide {p : Prop} (h : p) : Hid p := h
theorem ret_int {k : IntKind} {a b : Int} (h : a = b) : Ending.returned (.int k a) = .returned (.int k b) := by rw [h]

theorem ret_bool {a b : Bool} (h : a = b) : Ending.returned (.bool a) = .returned (.bool b) := by rw [h]
theorem ret_val {a b : Value} (h : a = b) : Ending.returned a = .returned b := by rw [h]

/-- a slice's elements, where they lie -/
def Rd (w : World) (a : Option Addr) (xs : List Int) : Prop :=
  xs.length ≤ maxLen ∧ (xs ≠ [] → ∃ b off, a = some ⟨b, off, none⟩ ∧ b < w.heap.size ∧ ∀ i, i < xs.length → w.cell? ⟨b, off + i, none⟩ = some (.int .i64 (xs.getD i 0)))

theorem Rd.below {w w' : World} {a : Option Addr} {xs : List Int} (h : Rd w a xs) (hb : Below w.heap.size w w') : Rd w' a xs :=
  ⟨h.1, fun hn => by
    obtain ⟨b, off, e, hl, hc⟩ := h.2 hn
    exact ⟨b, off, e, Nat.lt_of_lt_of_le hl hb.size, fun i hi => (hb.cell (p := ⟨b, off + i, none⟩) hl).trans (hc i hi)⟩⟩
theorem Rd.at {w : World} {b off : Nat} {xs : List Int} (hc : ∀ i, i < xs.length → w.cell? ⟨b, off + i, none⟩ = some (.int .i64 (xs.getD i 0))) (k : Nat) (hk : k < xs.length) :
    w.cell? ⟨b, off + k, none⟩ = some (.int .i64 xs[k]) := by
  rw [hc k hk]; simp [List.getD, List.getElem?_eq_getElem hk]

def IsRow (k : IntKind) (w : World) (a : Option Addr) (len cap : Nat) (zs : List Int) : Prop :=
  (a = none ∧ len = 0 ∧ cap = 0 ∧ zs = []) ∨
  ∃ x, a = some x ∧ len ≤ cap ∧ cap ≤ maxLen ∧ zs.length = cap ∧ (∀ i, i < zs.length → w.cell? (x.add i) = some (.int k (zs.getD i 0))) ∧ ∀ n ∈ zs, (Lit.int k n).wf = true

theorem rd_of {w : World} {a : Option Addr} {len cap : Nat} {zs : List Int} (h : IsRow .i64 w a len cap zs) : Rd w a (zs.take len) ∧ (zs.take len).length = len := by
  rcases h with ⟨rfl, rfl, rfl, rfl⟩ | ⟨x, rfl, hl, hm, hz, hcell, hwz⟩
  · exact ⟨⟨Nat.zero_le _, fun h => absurd rfl h⟩, rfl⟩
  · have hlen : (zs.take len).length = len := by rw [List.length_take]; omega
    refine ⟨⟨by omega, fun hne => ?_⟩, hlen⟩
    have hp : 0 < len := by rw [← hlen]; exact List.length_pos_iff.2 hne
    obtain ⟨b, off, spot⟩ := x
    have hc0 := hcell 0 (by omega)
    have hspot : spot = none := by simpa [Addr.add] using World.cell?_spot hc0
    subst hspot
    have ea : ∀ i, (⟨b, off, none⟩ : Addr).add i = ⟨b, off + i, none⟩ := fun i => by unfold Addr.add; simp
    refine ⟨b, off, rfl, ?_, fun i hi => ?_⟩
    · rw [ea] at hc0
      exact block_lt_of_cell hc0
    · have := hcell i (by omega)
      rw [ea] at this
      rw [this]
      have h1 : i < len := by omega
      simp [List.getD, h1]

/-- an error: nil, or the program's own -/
def errV (c : Int) : Value := if c = 0 then .nilIface else .iface 68 (.int .i64 c)
theorem err_nil {c : Int} (h : c = 0) : errV c = .nilIface := by unfold errV; rw [if_pos h]
theorem err_some {c : Int} (h : c ≠ 0) : errV c = .iface 68 (.int .i64 c) := by unfold errV; rw [if_neg h]

theorem info3 : (Tryz.prog.info? 3).map (fun i => (i.zero, i.size, i.bytes)) = some (some (.int .i64 0), 1, 8) := by kernel_rfl

theorem own_at {w : World} {base g n cap : Nat} {F : List Int} (h : w.ownsRow base 3 1 (.slice (some ⟨g, 0, none⟩) n cap) n (F.map (Value.int .i64))) (hn : F.length = n) (k : Nat) (hk : k < F.length) :
    w.cell? ⟨g, k, none⟩ = some (.int .i64 F[k]) := by
  rw [h.cellAt k (by omega)]
  simp [hk]
theorem own_shape {w : World} {base n : Nat} {v : Value} {l : List Value} (h : w.ownsRow base 3 1 v n l) (hn : 0 < n) : ∃ g cap, v = .slice (some ⟨g, 0, none⟩) n cap ∧ base ≤ g ∧ g < w.heap.size := by
  rcases h.2 with ⟨_, h0⟩ | ⟨g, cap, cur, hv, hb, hg, _⟩
  · omega
  · exact ⟨g, cap, hv, hb, (Array.getElem?_eq_some_iff.1 hg).1⟩
theorem below_on {w w1 w2 : World} (h : Below w.heap.size w w1) (k : Below w1.heap.size w1 w2) : Below w.heap.size w w2 := h.trans (k.mono h.size)
/-- a new slice of one number -/
theorem one_rd (w : World) (x : Int) (t : TypeId) : Rd (w.alloc (.cells #[.int .i64 x] t)) (some ⟨w.heap.size, 0, none⟩) [x] :=
  ⟨by show 1 ≤ maxLen; unfold maxLen; decide, fun _ => ⟨w.heap.size, 0, rfl, by simp, fun i hi => by
    have : i = 0 := by simp at hi; exact hi
    subst this
    simp⟩⟩
/-- a row of our own, read -/
theorem own_rd {w : World} {base : Nat} {v : Value} {F : List Int} (h : w.ownsRow base 3 1 v F.length (F.map (Value.int .i64))) :
    ∃ a cap, v = .slice a F.length cap ∧ Rd w a F ∧ F.length ≤ cap := by
  rcases h.2 with ⟨hv, h0⟩ | ⟨g, cap, cur, hv, hb, hg, h1, h2, h3, h4⟩
  · have e : F = [] := List.length_eq_zero_iff.1 h0
    subst e
    exact ⟨none, 0, hv, ⟨Nat.zero_le _, fun h => absurd rfl h⟩, Nat.le_refl _⟩
  · subst hv
    refine ⟨_, cap, rfl, ⟨by omega, fun _ => ⟨g, 0, rfl, (Array.getElem?_eq_some_iff.1 hg).1, fun i hi => ?_⟩⟩, h1⟩
    rw [Nat.zero_add, own_at h rfl i hi]
    simp [List.getD, List.getElem?_eq_getElem hi]

theorem src_cells {w : World} {b off : Nat} {xs : List Int} (hc : ∀ i, i < xs.length → w.cell? ⟨b, off + i, none⟩ = some (.int .i64 (xs.getD i 0))) :
    ∀ (j : Nat) (u : Value), (xs.map (Value.int .i64))[j]? = some u → w.cell? ((⟨b, off, none⟩ : Addr).add j) = some u := by
  intro j u hu
  rw [List.getElem?_eq_some_iff] at hu
  obtain ⟨hj, rfl⟩ := hu
  have hj' : j < xs.length := by simpa using hj
  have ea : (⟨b, off, none⟩ : Addr).add j = ⟨b, off + j, none⟩ := by unfold Addr.add; simp
  rw [ea]
  rw [Rd.at hc j hj']
  simp
theorem one_cells (xs : List Int) : ∀ u ∈ xs.map (Value.int .i64), u.oneCell' = true := by
  intro u hu
  rw [List.mem_map] at hu
  obtain ⟨x, _, rfl⟩ := hu
  rfl
theorem made (n : Nat) : (madeCells (Value.cells (.int .i64 0)) (n * 1)).toList = (List.replicate n (0 : Int)).map (Value.int .i64) := by
  rw [Nat.mul_one]
  show (madeCells #[Value.int .i64 0] n).toList = _
  rw [toList_madeCells_one]; simp

theorem below_drew {B : Nat} {w w1 : World} (h : Below B w w1) (q : Nat) (hB : B ≤ w1.heap.size) : Below B w (w1.drewN q) := h.trans ⟨rfl, rfl, rfl, Nat.le_refl _, fun _ _ => rfl⟩
theorem getD_bang (xs : List Int) (j : Nat) : xs[j]! = xs.getD j 0 := by
  simp [List.getD, List.getElem!_eq_getElem?_getD]

theorem own_keep {w w' : World} {base n : Nat} {v : Value} {l : List Value} (h : w.ownsRow base 3 1 v n l) (hb : Below w.heap.size w w') : w'.ownsRow base 3 1 v n l := by
  refine ⟨h.1, ?_⟩
  rcases h.2 with h0 | ⟨g, cap, cur, hv, h1, h2, h3⟩
  · exact .inl h0
  · exact .inr ⟨g, cap, cur, hv, h1, (hb.block g (Array.getElem?_eq_some_iff.1 h2).1).trans h2, h3⟩
theorem own_up {w w' : World} {base n e size : Nat} {v : Value} {l : List Value} (h : w.ownsRow base e size v n l) (hb : Below w.heap.size w w') : w'.ownsRow base e size v n l := by
  refine ⟨h.1, ?_⟩
  rcases h.2 with h0 | ⟨g, cap, cur, hv, h1, h2, h3⟩
  · exact .inl h0
  · exact .inr ⟨g, cap, cur, hv, h1, (hb.block g (Array.getElem?_eq_some_iff.1 h2).1).trans h2, h3⟩

end Go.Proofs.YtlloiccodjnkcagGreatDoor

namespace Go.Proofs.YtlloiccodjnkcagGreatDoor
open Go.ChangeShapes Go.WideShapes Go.ChangeAt Go.RowKit Go.Lib
set_option linter.unusedVariables false

theorem set2 {W : World} {p : Nat} {x0 x1 y0 y1 : Value} (h0 : W.cell? ⟨p, 0, none⟩ = some y0) (h1 : W.cell? ⟨p, 1, none⟩ = some y1) :
    (W.setCell ⟨p, 0, none⟩ x0).cell? ⟨p, 0, none⟩ = some x0 ∧ ((W.setCell ⟨p, 0, none⟩ x0).setCell ⟨p, 1, none⟩ x1).cell? ⟨p, 1, none⟩ = some x1 := by
  refine ⟨World.cell?_setCell_same _ _ _ h0, World.cell?_setCell_same (u := y1) _ _ _ ?_⟩
  rw [World.cell?_setCell_other _ _ _ _ (by intro e; cases e)]; exact h1
theorem below2 {w W : World} {p : Nat} {x0 x1 : Value} (h : Below w.heap.size w W) (hp : w.heap.size ≤ p) : Below w.heap.size w ((W.setCell ⟨p, 0, none⟩ x0).setCell ⟨p, 1, none⟩ x1) :=
  (h.setCell (p := ⟨p, 0, none⟩) hp _).setCell (p := ⟨p, 1, none⟩) hp _
theorem frozen_new2 (V : World) (cs : Array Value) (t : TypeId) (j : Nat) : (V.alloc (.cells cs t)).frozen? ⟨V.heap.size, j, none⟩ = false := by
  unfold World.frozen?
  rw [show (V.alloc (.cells cs t)).heap[V.heap.size]? = some (.cells cs t) from (MapKept.heap_alloc V _).1]
  simp
theorem put4_at {W : World} {p : Nat} {x0 x1 x2 x3 y0 y1 y2 y3 : Value} (h0 : W.cell? ⟨p, 0, none⟩ = some y0) (h1 : W.cell? ⟨p, 1, none⟩ = some y1) (h2 : W.cell? ⟨p, 2, none⟩ = some y2) (h3 : W.cell? ⟨p, 3, none⟩ = some y3) :
    (W.setCell ⟨p, 0, none⟩ x0).cell? ⟨p, 0, none⟩ = some x0 ∧ ((W.setCell ⟨p, 0, none⟩ x0).setCell ⟨p, 1, none⟩ x1).cell? ⟨p, 1, none⟩ = some x1 ∧
    (((W.setCell ⟨p, 0, none⟩ x0).setCell ⟨p, 1, none⟩ x1).setCell ⟨p, 2, none⟩ x2).cell? ⟨p, 2, none⟩ = some x2 ∧
    ((((W.setCell ⟨p, 0, none⟩ x0).setCell ⟨p, 1, none⟩ x1).setCell ⟨p, 2, none⟩ x2).setCell ⟨p, 3, none⟩ x3).cell? ⟨p, 3, none⟩ = some x3 := by
  have o : ∀ (V : World) (i j : Nat) (v : Value), i ≠ j → (V.setCell ⟨p, i, none⟩ v).cell? ⟨p, j, none⟩ = V.cell? ⟨p, j, none⟩ := fun V i j v hij => World.cell?_setCell_other _ _ _ _ (by intro e; cases e; exact hij rfl)
  refine ⟨World.cell?_setCell_same _ _ _ h0, World.cell?_setCell_same (u := y1) _ _ _ ?_, World.cell?_setCell_same (u := y2) _ _ _ ?_, World.cell?_setCell_same (u := y3) _ _ _ ?_⟩
  · rw [o _ _ _ _ (by decide)]; exact h1
  · rw [o _ _ _ _ (by decide), o _ _ _ _ (by decide)]; exact h2
  · rw [o _ _ _ _ (by decide), o _ _ _ _ (by decide), o _ _ _ _ (by decide)]; exact h3
theorem lay4 {w W : World} {p : Nat} {x0 x1 x2 x3 : Value} (h : Below w.heap.size w W) (hp : w.heap.size ≤ p) : Below w.heap.size w ((((W.setCell ⟨p, 0, none⟩ x0).setCell ⟨p, 1, none⟩ x1).setCell ⟨p, 2, none⟩ x2).setCell ⟨p, 3, none⟩ x3) :=
  (((h.setCell (p := ⟨p, 0, none⟩) hp _).setCell (p := ⟨p, 1, none⟩) hp _).setCell (p := ⟨p, 2, none⟩) hp _).setCell (p := ⟨p, 3, none⟩) hp _
theorem set6 {W : World} {p : Nat} {x0 x1 x2 x3 x4 x5 y0 y1 y2 y3 y4 y5 : Value} (h0 : W.cell? ⟨p, 0, none⟩ = some y0) (h1 : W.cell? ⟨p, 1, none⟩ = some y1) (h2 : W.cell? ⟨p, 2, none⟩ = some y2) (h3 : W.cell? ⟨p, 3, none⟩ = some y3) (h4 : W.cell? ⟨p, 4, none⟩ = some y4) (h5 : W.cell? ⟨p, 5, none⟩ = some y5) :
    (W.setCell ⟨p, 0, none⟩ x0).cell? ⟨p, 0, none⟩ = some x0 ∧ ((W.setCell ⟨p, 0, none⟩ x0).setCell ⟨p, 1, none⟩ x1).cell? ⟨p, 1, none⟩ = some x1 ∧
    (((W.setCell ⟨p, 0, none⟩ x0).setCell ⟨p, 1, none⟩ x1).setCell ⟨p, 2, none⟩ x2).cell? ⟨p, 2, none⟩ = some x2 ∧
    ((((W.setCell ⟨p, 0, none⟩ x0).setCell ⟨p, 1, none⟩ x1).setCell ⟨p, 2, none⟩ x2).setCell ⟨p, 3, none⟩ x3).cell? ⟨p, 3, none⟩ = some x3 ∧
    (((((W.setCell ⟨p, 0, none⟩ x0).setCell ⟨p, 1, none⟩ x1).setCell ⟨p, 2, none⟩ x2).setCell ⟨p, 3, none⟩ x3).setCell ⟨p, 4, none⟩ x4).cell? ⟨p, 4, none⟩ = some x4 ∧
    ((((((W.setCell ⟨p, 0, none⟩ x0).setCell ⟨p, 1, none⟩ x1).setCell ⟨p, 2, none⟩ x2).setCell ⟨p, 3, none⟩ x3).setCell ⟨p, 4, none⟩ x4).setCell ⟨p, 5, none⟩ x5).cell? ⟨p, 5, none⟩ = some x5 := by
  have o : ∀ (V : World) (i j : Nat) (v : Value), i ≠ j → (V.setCell ⟨p, i, none⟩ v).cell? ⟨p, j, none⟩ = V.cell? ⟨p, j, none⟩ := fun V i j v hij => World.cell?_setCell_other _ _ _ _ (by intro e; cases e; exact hij rfl)
  refine ⟨World.cell?_setCell_same _ _ _ h0, World.cell?_setCell_same (u := y1) _ _ _ ?_, World.cell?_setCell_same (u := y2) _ _ _ ?_, World.cell?_setCell_same (u := y3) _ _ _ ?_, World.cell?_setCell_same (u := y4) _ _ _ ?_, World.cell?_setCell_same (u := y5) _ _ _ ?_⟩
  · rw [o _ _ _ _ (by decide)]; exact h1
  · rw [o _ _ _ _ (by decide), o _ _ _ _ (by decide)]; exact h2
  · rw [o _ _ _ _ (by decide), o _ _ _ _ (by decide), o _ _ _ _ (by decide)]; exact h3
  · rw [o _ _ _ _ (by decide), o _ _ _ _ (by decide), o _ _ _ _ (by decide), o _ _ _ _ (by decide)]; exact h4
  · rw [o _ _ _ _ (by decide), o _ _ _ _ (by decide), o _ _ _ _ (by decide), o _ _ _ _ (by decide), o _ _ _ _ (by decide)]; exact h5
theorem below6 {w W : World} {p : Nat} {x0 x1 x2 x3 x4 x5 : Value} (h : Below w.heap.size w W) (hp : w.heap.size ≤ p) : Below w.heap.size w ((((((W.setCell ⟨p, 0, none⟩ x0).setCell ⟨p, 1, none⟩ x1).setCell ⟨p, 2, none⟩ x2).setCell ⟨p, 3, none⟩ x3).setCell ⟨p, 4, none⟩ x4).setCell ⟨p, 5, none⟩ x5) :=
  (((((h.setCell (p := ⟨p, 0, none⟩) hp _).setCell (p := ⟨p, 1, none⟩) hp _).setCell (p := ⟨p, 2, none⟩) hp _).setCell (p := ⟨p, 3, none⟩) hp _).setCell (p := ⟨p, 4, none⟩) hp _).setCell (p := ⟨p, 5, none⟩) hp _
/-- a new block, and what lies there as long as all is as it was -/
theorem new_kept {w w1 : World} {cs : Array Value} {t : TypeId} (e : w1 = w.alloc (.cells cs t)) {W : World} (hW : Below w1.heap.size w1 W) : (∀ j v, cs[j]? = some v → W.cell? ⟨w.heap.size, j, none⟩ = some v) ∧ ∀ j, W.frozen? ⟨w.heap.size, j, none⟩ = false := by
  have lt : w.heap.size < w1.heap.size := by rw [e]; simp
  refine ⟨fun j v hv => (hW.cell (p := ⟨w.heap.size, j, none⟩) lt).trans (by rw [e, World.cell?_alloc_new]; exact hv), fun j => ?_⟩
  have f := frozen_new2 w cs t j
  rw [← e] at f
  rw [← f]
  unfold World.frozen?
  rw [hW.block _ lt]

end Go.Proofs.YtlloiccodjnkcagGreatDoor

namespace Go.Proofs.YtlloiccodjnkcagGreatDoor
open Go.ChangeShapes Go.WideShapes Go.ChangeAt Go.RowKit Go.Lib
set_option linter.unusedVariables false

theorem getD_in (xs : List Int) {k : Nat} (h : k < xs.length) : xs.getD k 0 = xs[k] := by simp [List.getD, List.getElem?_eq_getElem h]

set_option maxHeartbeats 1000000 in
theorem gindex_any (a : Option Addr) (xs : List Int) (ca : Nat) (x : Int) (w : World) (h : Rd w a xs) :
    Calls Tryz.prog 124 #[.slice a xs.length ca, .int .i64 x] w fun e w' => ∃ n : Int, e = .returned (.int .i64 n) ∧ (0 ≤ n ↔ x ∈ xs) ∧ w' = w := by
  have hm : xs.length ≤ 9223372036854775807 := h.1
  have H := hide h
  clear h
  go_enter Tryz.func124, Tryz.ntmps124
  go_wp2
  go_loopw [5, 8] (fun _ i wr => ∃ k : Nat, k ≤ xs.length ∧ i = .int .i64 k ∧ Hid (∀ j, j < k → xs.getD j 0 ≠ x) ∧ Hid (wr = w)) (fun _ i _ => xs.length - (intOf i).toNat)
  case atStart => exact ⟨0, Nat.zero_le _, rfl, fun j hj => absurd hj (Nat.not_lt_zero _), rfl⟩
  case round =>
    obtain ⟨k, hk, rfl, HJ, W⟩ := hrel
    have we := W.out.symm
    subst we
    by_cases hlt : k < xs.length
    · obtain ⟨b, off, rfl, hb, hc⟩ := H.out.2 (by intro e; rw [e] at hlt; simp at hlt)
      have hck := hc k hlt
      have kz : (k : Int) < (xs.length : Int) := by omega
      by_cases he : x = xs.getD k 0
      · have q : (x == xs.getD k 0) = true := by rw [beq_iff_eq]; exact he
        have IN : Hid (x ∈ xs) := by unfold Hid; rw [he, getD_in xs hlt]; exact List.getElem_mem _
        clear hc he HJ H
        generalize xs.getD k 0 = v at *
        go_wp2
        go_ret
        exact ⟨_, rfl, ⟨fun _ => IN.out, fun _ => by omega⟩, rfl⟩
      · have q : (x == xs.getD k 0) = false := by rw [beq_eq_false_iff_ne]; exact he
        have HK : Hid (∀ j, j < k + 1 → xs.getD j 0 ≠ x) := fun j hj => by
          by_cases e : j = k
          · subst e; exact fun z => he z.symm
          · exact HJ.out j (by omega)
        clear hc he HJ H
        generalize xs.getD k 0 = v at *
        go_wp2
        go_roundw
        case rel => exact ⟨k + 1, by omega, by go_num, HK, (by first | rfl | trivial)⟩
        case measure => simp [intOf]; omega
    · have NI : Hid (x ∉ xs) := fun hx => by
        obtain ⟨j, hj, e⟩ := List.getElem_of_mem hx
        exact HJ.out j (by omega) (by rw [getD_in xs hj]; exact e)
      clear HJ H
      go_wp2
      go_ret
      exact ⟨_, rfl, ⟨fun q => absurd q (by decide), fun q => absurd q NI.out⟩, rfl⟩

theorem gcontains_any (a : Option Addr) (xs : List Int) (ca : Nat) (x : Int) (w : World) (h : Rd w a xs) :
    Calls Tryz.prog 94 #[.slice a xs.length ca, .int .i64 x] w fun e w' => e = .returned (.bool (decide (x ∈ xs))) ∧ w' = w := by
  have C := hide (gindex_any a xs ca x w h)
  clear h
  go_enter Tryz.func94, Tryz.ntmps94
  go_wp2_with (go_at_call 124; refine C.out.mono ?_; rintro e w1 ⟨n, rfl, hn, e1⟩; have HN := hide hn; clear hn; have e1' := e1.symm; subst e1')
  go_ret
  exact ⟨ret_bool (by rw [Bool.eq_iff_iff, decide_eq_true_eq, decide_eq_true_eq]; exact HN.out), rfl⟩

end Go.Proofs.YtlloiccodjnkcagGreatDoor
