/-
  A log that is to stop behind so many steps: which step is lost; no condition beyond those named.
-/
import Derived.Test.YtnnhpbnnombpmaaDoorLgMb
namespace Go.Proofs.YtnnhpbnnombpmaaDoor.M
set_option linter.unusedVariables false

def JS (after : Int) (L : Lg) (n : Nat) : Prop := L.stop = false → (after < 0 ∧ L.ahead = after) ∨ (0 ≤ after ∧ (n : Int) ≤ after ∧ L.ahead = after - n)
theorem JS.lost {after : Int} {L : Lg} {n : Nat} (h : JS after L n) : stpF L = (L.stop || (decide (0 ≤ after) && decide ((n : Int) = after))) := by
  unfold stpF
  cases hs : L.stop with
  | true => rfl
  | false =>
    rw [Bool.false_or, Bool.false_or]
    rcases h hs with ⟨a, b⟩ | ⟨a, b, c⟩
    · rw [decide_eq_false (by omega : ¬ L.ahead = 0), decide_eq_false (by omega : ¬ 0 ≤ after), Bool.false_and]
    · rw [decide_eq_true a, Bool.true_and]
      exact decide_eq_decide.2 (by omega)
theorem JS.ways {after : Int} {L : Lg} {n : Nat} (h : JS after L n) : (L.stop = true ∧ stpF L = true) ∨ (L.stop = false ∧ decide (0 ≤ after) = false ∧ stpF L = false) ∨ (L.stop = false ∧ decide (0 ≤ after) = true ∧ ((n : Int) == after) = true ∧ stpF L = true) ∨ (L.stop = false ∧ decide (0 ≤ after) = true ∧ ((n : Int) == after) = false ∧ stpF L = false) := by
  have e := h.lost
  cases hs : L.stop with
  | true => exact .inl ⟨rfl, by rw [e, hs]; rfl⟩
  | false =>
    rw [hs, Bool.false_or] at e
    by_cases q : 0 ≤ after
    · rw [decide_eq_true q, Bool.true_and] at e
      by_cases z : (n : Int) = after
      · exact .inr (.inr (.inl ⟨rfl, decide_eq_true q, beq_iff_eq.2 z, by rw [e]; exact decide_eq_true z⟩))
      · exact .inr (.inr (.inr ⟨rfl, decide_eq_true q, beq_eq_false_iff_ne.2 z, by rw [e]; exact decide_eq_false z⟩))
    · exact .inr (.inl ⟨rfl, decide_eq_false q, by rw [e, decide_eq_false q]; rfl⟩)
theorem JS.step {after : Int} {L L' : Lg} {n : Nat} (h : JS after L n) (h1 : L'.stop = stpF L) (h2 : stpF L = false → L'.ahead = (stpL L).ahead) : JS after L' (n + 1) := fun hs => by
  have e : stpF L = false := h1.symm.trans hs
  have e2 := h2 e
  unfold stpL at e2
  simp only [e, Bool.false_eq_true, if_false] at e2
  have st : L.stop = false ∧ ¬ L.ahead = 0 := by
    unfold stpF at e
    rw [Bool.or_eq_false_iff, decide_eq_false_iff_not] at e
    exact e
  rcases h st.1 with ⟨a, b⟩ | ⟨a, b, c⟩
  · left
    rw [if_neg (by omega)] at e2
    exact ⟨a, by omega⟩
  · right
    rw [if_pos (by omega)] at e2
    exact ⟨a, by omega, by omega⟩
theorem ap_step {L : Lg} {c : Ca} (h1 : apF L c ≠ 1) (h4 : apF L c ≠ 4) : (apF L c = if stpF L = true then 9 else 0) ∧ (apL L c).stop = stpF L ∧ (stpF L = false → (apL L c).ahead = (stpL L).ahead) := by
  have e : apF L c = if stpF L = true then 9 else 0 := by
    unfold apF at *
    by_cases q : rngF c = false
    · rw [if_pos q] at h1; exact absurd rfl h1
    · rw [if_neg q] at h4 ⊢
      by_cases z : 100 < c.name.length ∨ 6000 < c.bys.length ∨ 100000 < L.whole + (recL c).length
      · rw [if_pos z] at h4; exact absurd rfl h4
      · rw [if_neg z]
  refine ⟨e, ?_⟩
  unfold apL
  by_cases hs : L.stop = true
  · rw [if_pos (.inr (.inr hs))]
    have : stpF L = true := by unfold stpF; rw [hs]; rfl
    exact ⟨hs.trans this.symm, fun z => by rw [this] at z; cases z⟩
  · have hs' : L.stop = false := by simpa using hs
    rw [if_neg (fun z => z.elim h1 (fun y => y.elim h4 hs))]
    by_cases a0 : L.ahead = 0
    · rw [if_pos a0]
      have : stpF L = true := by unfold stpF; rw [decide_eq_true a0, Bool.or_true]
      exact ⟨this.symm, fun z => by rw [this] at z; cases z⟩
    · rw [if_neg a0]
      have : stpF L = false := by unfold stpF; rw [hs', decide_eq_false a0]; rfl
      refine ⟨hs'.trans this.symm, fun _ => ?_⟩
      unfold stpL
      simp only [this, Bool.false_eq_true, if_false]
theorem sy_step (L : Lg) : (syL L).stop = stpF L ∧ (stpF L = false → (syL L).ahead = (stpL L).ahead) := by
  unfold syL
  by_cases q : stpF L = true
  · rw [if_pos q]
    exact ⟨rfl, fun _ => rfl⟩
  · rw [if_neg q]
    exact ⟨by simpa using q, fun _ => rfl⟩
theorem ap_same {L : Lg} {c : Ca} (h : apF L c = 1 ∨ apF L c = 4) : apL L c = L := by
  unfold apL
  rw [if_pos (h.elim .inl (fun z => .inr (.inl z)))]
/-- which numbers of faults there are -/
theorem ap_faults (L : Lg) (c : Ca) : apF L c = 1 ∨ apF L c = 4 ∨ (apF L c ≠ 1 ∧ apF L c ≠ 4) := by omega

end Go.Proofs.YtnnhpbnnombpmaaDoor.M
