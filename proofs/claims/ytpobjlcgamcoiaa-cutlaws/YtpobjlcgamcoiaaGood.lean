/-
  What the law CutLaws leans on: cuts of values that are right, whatever the list; and the cut of four numbers.
-/
import Derived.Test.YtpobjlcgamcoiaaCuts
import Derived.Test.YtpobjlcgamcoiaaCount
import Derived.Test.YtpobjlcgamcoiaaInts
namespace Go.Proofs.Ytpobjlcgamcoiaa
open Go.ChangeShapes Go.WideShapes Go.ChangeAt Go.RowKit Go.Shelf Go.Lib Go.Sort
set_option linter.unusedVariables false

theorem nil_cap {k : IntKind} {w : World} {a : Option Addr} {len cap : Nat} {zs : List Int} (h : IsRow k w a len cap zs) : a = none → cap = 0 := by
  rcases h with ⟨_, _, h, _⟩ | ⟨x, rfl, _⟩
  · exact fun _ => h
  · intro h; cases h

/-- a row of our own, read; nil has no room -/
theorem own_rd0 {w : World} {base : Nat} {v : Value} {F : List Int} (h : w.ownsRow base 3 1 v F.length (F.map (Value.int .i64))) :
    ∃ a cap, v = .slice a F.length cap ∧ Rd w a F ∧ (a = none → cap = 0) := by
  rcases h.2 with ⟨hv, h0⟩ | ⟨g, cap, cur, hv, hb, hg, h1, h2, h3, h4⟩
  · have e : F = [] := List.length_eq_zero_iff.1 h0
    subst e
    exact ⟨none, 0, hv, ⟨Nat.zero_le _, fun h => absurd rfl h⟩, fun _ => rfl⟩
  · obtain ⟨a, c, e1, e2, e3⟩ := own_rd h
    refine ⟨a, c, e1, e2, fun ha => ?_⟩
    rw [hv] at e1
    cases e1
    cases ha

theorem cutsOf_nil (m : Nat) : M.cutsOfI [] m = [] := by
  have : ∀ k, M.stepI (M.sortI []) m k = ([], 0) := by
    intro k
    have e : M.sortI [] = [] := by simp [M.sortI]
    rw [e]
    induction k with
    | zero => rfl
    | succ k ih => rw [M.step_stay _ _ _ (by rw [ih]; simp)]; exact ih
  unfold M.cutsOfI
  rw [this]

theorem Cuts_good (a : Option Addr) (xs : List Int) (ca m : Nat) (w : World) (ha : Rd w a xs) (hm1 : 1 ≤ m) (hm : m ≤ 60) (hv : M.valsI xs = 0) :
    Calls Try.prog 21 #[.slice a xs.length ca, .int .i64 m] w fun e w' => ∃ ac cc, e = .returned (.tuple #[.slice ac (M.cutsOfI xs m).length cc, .nilIface]) ∧
      Rd w' ac (M.cutsOfI xs m) ∧ (ac = none → cc = 0) ∧ Below w.heap.size w w' := by
  by_cases hx : xs = []
  · subst hx
    rw [cutsOf_nil]
    refine (Cuts_none a ca m w ha (by omega) (by omega)).mono ?_
    rintro e w' ⟨rfl, hb⟩
    exact ⟨none, 0, rfl, ⟨Nat.zero_le _, fun h => absurd rfl h⟩, fun _ => rfl, hb⟩
  · obtain ⟨b, off, rfl, hb, hc⟩ := ha.2 hx
    refine (Cuts_ok b off xs ca m w hb hc (List.length_pos_iff.2 hx) hm1 hm hv).mono ?_
    rintro e w' ⟨v, rfl, hown, hb2⟩
    obtain ⟨ac, cc, rfl, h1, h2⟩ := own_rd0 hown
    exact ⟨ac, cc, rfl, h1, h2, hb2⟩

theorem four_rd (w : World) (x y z u : Int) (t : TypeId) : Rd (w.alloc (.cells #[.int .i64 x, .int .i64 y, .int .i64 z, .int .i64 u] t)) (some ⟨w.heap.size, 0, none⟩) [x, y, z, u] :=
  ⟨by show 4 ≤ maxLen; unfold maxLen; decide, fun _ => ⟨w.heap.size, 0, rfl, by simp, fun i hi => by
    rcases (show i = 0 ∨ i = 1 ∨ i = 2 ∨ i = 3 by simp at hi; omega) with rfl | rfl | rfl | rfl
    all_goals (rw [World.cell?_alloc_at _ _ _ _ (by simp)]; rfl)⟩⟩

theorem four_cuts : M.cutsOfI [1, 2, 3, 4] 1 = [3] := by
  have e : M.sortI [1, 2, 3, 4] = [1, 2, 3, 4] := (M.sort_unique (List.Perm.refl _) (by decide)).symm
  unfold M.cutsOfI
  rw [e]
  rfl

theorem fact_cuts (w : World) : Calls Try.prog 21 #[.slice (some ⟨w.heap.size, 0, none⟩) 4 4, .int .i64 1] (w.alloc (.cells #[.int .i64 1, .int .i64 2, .int .i64 3, .int .i64 4] 3)) fun e w' => ∃ g og cg, e = .returned (.tuple #[.slice (some ⟨g, og, none⟩) 1 cg, .nilIface]) ∧ w'.cell? ⟨g, og, none⟩ = some (.int .i64 3) ∧ Below w.heap.size w w' := by
  have := Cuts_good (some ⟨w.heap.size, 0, none⟩) [1, 2, 3, 4] 4 1 _ (four_rd w 1 2 3 4 3) (Nat.le_refl _) (by decide) (by decide)
  rw [four_cuts] at this
  refine this.mono ?_
  rintro e w' ⟨ac, cc, rfl, h1, _, hb⟩
  obtain ⟨g, og, rfl, _, hc⟩ := h1.2 (by simp)
  exact ⟨g, og, cc, rfl, hc 0 (by simp), ((Below.refl _ w).alloc (Nat.le_refl _) _).trans (hb.mono (by simp))⟩

theorem Merge_self (a : Option Addr) (C : List Int) (ca : Nat) (w : World) (ha : Rd w a C) (na : a = none → ca = 0) (hc : M.cutsI C = 0) :
    Calls Try.prog 26 #[.slice a C.length ca, .slice a C.length ca] w fun e w' => ∃ am cm, e = .returned (.tuple #[.slice am C.length cm, .nilIface]) ∧ Rd w' am C ∧ Below w.heap.size w w' := by
  have h := Merge_core a a C C ca ca w ha ha na na hc hc
  rw [M.merge_self C ((M.cuts_ok C).1 hc).2.2] at h
  refine h.mono ?_
  rintro e w' ⟨hb, ⟨h60, _⟩ | ⟨_, v, rfl, hown⟩⟩
  · have := ((M.cuts_ok C).1 hc).1; omega
  · obtain ⟨am, cm, rfl, hr, _⟩ := own_rd hown
    exact ⟨am, cm, rfl, hr, hb⟩
theorem Ints_same (a b : Option Addr) (C : List Int) (ca cb : Nat) (w : World) (ha : Rd w a C) (hb : Rd w b C) :
    Calls Try.prog 27 #[.slice a C.length ca, .slice b C.length cb] w fun e w' => e = .returned (.bool true) ∧ Below w.heap.size w w' := by
  have h := ints_any a b C C ca cb w ha hb
  rw [decide_eq_true rfl] at h
  exact h

/-- whether one of the first so many is such -/
def anyTo (f : Int → Bool) (l : List Int) (k : Nat) : Bool := (l.take k).any f
theorem any_succ (f : Int → Bool) (l : List Int) (k : Nat) (h : k < l.length) : anyTo f l (k + 1) = (anyTo f l k || f l[k]) := by
  unfold anyTo; rw [List.take_succ_eq_append_getElem h, List.any_append]; simp
theorem any_end (f : Int → Bool) (l : List Int) (k : Nat) (h : l.length ≤ k) : anyTo f l k = l.any f := by
  unfold anyTo; rw [List.take_of_length_le h]

end Go.Proofs.Ytpobjlcgamcoiaa
