/-
  Plain mathematics of what package path's calls answer: regions, leaves that are reached, witnesses; and what PathRegions asks of them; no condition beyond those named.
-/
import Derived.Test.YtjnkkniefpmgdadDoorMathX
import Derived.Test.YtjnkkniefpmgdadDoorMathH
namespace Go.Proofs.YtjnkkniefpmgdadDoor.M
set_option linter.unusedVariables false

def isLf (t : List Nd) (k : Int) : Bool := decide (0 ≤ k) && decide (k < (t.length : Int)) && leafB (nAt t k.toNat)
def regF (t : List Nd) (m k : Int) : Int := if (treeF t m).2 ≠ 0 then (treeF t m).2 else if isLf t k = false then 1 else 0
def regV (t : List Nd) (m k : Int) : List Sp := if regF t m k = 0 then (region t m.toNat k.toNat).map norm else []
def regB (t : List Nd) (m k : Int) : Bool := if regF t m k = 0 then anyS (region t m.toNat k.toNat) else false
def rchV (t : List Nd) (m : Int) : List Int := if (treeF t m).2 = 0 then rch t m.toNat t.length else []
def witV (l : List Sp) : List Int := if spF l = 0 then pick l else []

theorem within_norm {r : List Int} {l : List Sp} : within r (l.map norm) ↔ within r l := by
  unfold within
  rw [List.length_map]
  constructor
  · intro h j hj
    have := h j hj
    rw [getD_at (l := l.map norm) (by rw [List.length_map]; exact hj), List.getElem_map, in_norm] at this
    rw [getD_at (l := l) hj]; exact this
  · intro h j hj
    have := h j hj
    rw [getD_at (l := l) hj] at this
    rw [getD_at (l := l.map norm) (by rw [List.length_map]; exact hj), List.getElem_map, in_norm]; exact this
theorem fit_within {xs : List Int} {ss : List Sp} (h : rowF xs = 0) (hl : ss.length = xs.length) : fitV xs ss = true ↔ within xs ss := by
  rw [(fit_ok h hl).2]
  unfold within outAt
  rw [Bool.not_eq_true', List.any_eq_false, hl]
  constructor
  · intro q j hj
    have := q j (List.mem_range.2 hj)
    simpa using this
  · intro q j hj
    have := q j (List.mem_range.1 hj)
    rw [this]; simp

/-- what a leaf's place gives -/
theorem leaf_place {t : List Nd} {r : List Int} (h : readyF t r = 0) {k : Nat} (hk : k < t.length) (hl : nf (nAt t k) = -1) :
    regF t (r.length : Int) (k : Int) = 0 ∧ fitF r (regV t (r.length : Int) (k : Int)) = 0 ∧ fitV r (regV t (r.length : Int) (k : Int)) = decide (k = leafV t r) ∧
    regB t (r.length : Int) (k : Int) = (rchV t (r.length : Int)).any (· == (k : Int)) ∧ (k = leafV t r → regB t (r.length : Int) (k : Int) = true) := by
  obtain ⟨h1, h2⟩ := ready_ok h
  obtain ⟨F, _⟩ := tree_ok h2
  have e0 : regF t (r.length : Int) (k : Int) = 0 := by
    unfold regF isLf
    rw [if_neg (by simp [h2]), if_neg]
    rw [decide_eq_true (show (0 : Int) ≤ (k : Int) by omega), decide_eq_true (show (k : Int) < (t.length : Int) by omega), Int.toNat_natCast]
    unfold leafB
    rw [decide_eq_true hl]; simp
  have eV : regV t (r.length : Int) (k : Int) = (region t r.length k).map norm := by unfold regV; rw [if_pos e0, Int.toNat_natCast, Int.toNat_natCast]
  have eB : regB t (r.length : Int) (k : Int) = anyS (region t r.length k) := by unfold regB; rw [if_pos e0, Int.toNat_natCast, Int.toNat_natCast]
  have eL : leafV t r = toD t r 0 := by unfold leafV; rw [if_pos h]
  have eR : rchV t (r.length : Int) = rch t r.length t.length := by unfold rchV; rw [if_pos h2, Int.toNat_natCast]
  have hlen : ((region t r.length k).map norm).length = r.length := by rw [List.length_map, region_len]
  have hw := region_leaf F h1 rfl hk hl
  refine ⟨e0, by rw [eV]; exact (fit_ok h1 hlen).1, ?_, ?_, ?_⟩
  · rw [eV, eL]
    have : fitV r ((region t r.length k).map norm) = true ↔ k = toD t r 0 := by rw [fit_within h1 hlen, within_norm, hw]
    by_cases q : k = toD t r 0
    · rw [this.2 q, decide_eq_true q]
    · rw [decide_eq_false q]
      cases e : fitV r ((region t r.length k).map norm) with
      | false => rfl
      | true => exact absurd (this.1 e) q
  · rw [eB, eR]
    cases ha : anyS (region t r.length k) with
    | true =>
      symm
      rw [List.any_eq_true]
      exact ⟨(k : Int), (rch_mem t r.length t.length _).2 ⟨k, rfl, hk, by unfold leafB; exact decide_eq_true hl, ha⟩, by simp⟩
    | false =>
      symm
      rw [List.any_eq_false]
      intro x hx hq
      obtain ⟨j, e, _, _, hj⟩ := (rch_mem t r.length t.length _).1 hx
      have : x = (k : Int) := by simpa using hq
      have : j = k := by omega
      subst this
      rw [ha] at hj; cases hj
  · intro q
    rw [eB]
    exact any_within (hw.2 (by rw [q, eL]))
theorem wit_place {t : List Nd} {r : List Int} (h : readyF t r = 0) {k : Nat} (hk : k < t.length) (hl : nf (nAt t k) = -1) (hb : regB t (r.length : Int) (k : Int) = true) :
    spF (regV t (r.length : Int) (k : Int)) = 0 ∧ readyF t (witV (regV t (r.length : Int) (k : Int))) = 0 ∧ leafV t (witV (regV t (r.length : Int) (k : Int))) = k := by
  obtain ⟨h1, h2⟩ := ready_ok h
  obtain ⟨F, _⟩ := tree_ok h2
  have e0 := (leaf_place h hk hl).1
  have eV : regV t (r.length : Int) (k : Int) = (region t r.length k).map norm := by unfold regV; rw [if_pos e0, Int.toNat_natCast, Int.toNat_natCast]
  have eB : regB t (r.length : Int) (k : Int) = anyS (region t r.length k) := by unfold regB; rw [if_pos e0, Int.toNat_natCast, Int.toNat_natCast]
  rw [eB] at hb
  obtain ⟨g1, g2, g3⟩ := witness F hk hl hb
  rw [eV]
  have eW : witV ((region t r.length k).map norm) = pick ((region t r.length k).map norm) := by unfold witV; rw [if_pos g1]
  have hp : (pick ((region t r.length k).map norm)).length = r.length := by unfold pick; rw [List.length_map, List.length_map, region_len]
  have hready : readyF t (pick ((region t r.length k).map norm)) = 0 := by rw [ready_tree g2, hp]; exact h2
  refine ⟨g1, by rw [eW]; exact hready, ?_⟩
  rw [eW]; unfold leafV; rw [if_pos hready]; exact g3
theorem one_region : regF oneT 1 2 = 0 ∧ regV oneT 1 2 = [(5, 1000000, true)] ∧ regB oneT 1 2 = true := by decide +kernel
theorem leafV_leaf {t : List Nd} {r : List Int} (h : readyF t r = 0) : leafV t r < t.length ∧ nf (nAt t (leafV t r)) = -1 := by
  obtain ⟨F, _⟩ := tree_ok (ready_ok h).2
  unfold leafV
  rw [if_pos h]
  exact to_end F.2.2.2.2.1 r t.length 0 F.2.1 (by omega)

end Go.Proofs.YtjnkkniefpmgdadDoor.M
