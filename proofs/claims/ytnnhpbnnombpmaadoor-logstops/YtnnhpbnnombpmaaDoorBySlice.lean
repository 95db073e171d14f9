/-
  Bytes behind a place, and bytes in a new row.
-/
import Derived.Test.YtnnhpbnnombpmaaDoorByCells
namespace Go.Proofs.YtnnhpbnnombpmaaDoor
open Go.ChangeShapes Go.WideShapes Go.ChangeAt Go.RowKit Go.Lib
set_option linter.unusedVariables false

theorem rdB_slice {W : World} {a : Option Addr} {bs : List Nat} {c k : Nat} (h : RdB W a bs) (hc : bs.length ≤ c) : RdB W (if c = k then a else Option.map (fun x => x.add k) a) (bs.drop k) := by
  by_cases hk : k < bs.length
  · obtain ⟨b, off, rfl, hl, hcc⟩ := h.2.2 (by intro e; rw [e] at hk; simp at hk)
    rw [if_neg (by omega)]
    have add_flat : (⟨b, off, none⟩ : Addr).add k = ⟨b, off + k, none⟩ := by unfold Addr.add; simp
    show RdB W (some ((⟨b, off, none⟩ : Addr).add k)) _
    rw [add_flat]
    exact h.drop k
  · have e : bs.drop k = [] := List.drop_eq_nil_of_le (by omega)
    rw [e]
    exact ⟨Nat.zero_le _, (fun x hx => by cases hx), fun hn => absurd rfl hn⟩

/-- bytes in a row of our own, and a row that is none has no room -/
theorem own_rdB0 {w : World} {base n : Nat} {v : Value} {xs : List Nat} (hn : xs.length = n) (hm : n ≤ maxLen) (h8 : ∀ x ∈ xs, x < 256) (h : w.ownsRow base 5 1 v n (byCells xs)) : ∃ a cap, v = .slice a n cap ∧ RdB w a xs ∧ (a = none → cap = 0) ∧ n ≤ cap := by
  subst hn
  rcases h.2 with ⟨hv, h0⟩ | ⟨g, cap, cur, hv, hb, hg, h1, h2, h3, h4⟩
  · have e : xs = [] := List.length_eq_zero_iff.1 h0
    subst e
    exact ⟨none, 0, hv, ⟨Nat.zero_le _, h8, fun h => absurd rfl h⟩, fun _ => rfl, Nat.le_refl _⟩
  · subst hv
    refine ⟨_, cap, rfl, ⟨hm, h8, fun _ => ⟨g, 0, rfl, (Array.getElem?_eq_some_iff.1 hg).1, fun i hi => ?_⟩⟩, (fun hp => by cases hp), ?_⟩
    · rw [Nat.zero_add, h.cellAt i (by omega)]
      simp [byCells, List.getD, hi]
    · first | exact h1 | exact h2 | omega

/-- bytes in a row of our own: how much room there is -/
theorem own_rdB1 {w : World} {base n : Nat} {v : Value} {xs : List Nat} (hn : xs.length = n) (hm : n ≤ maxLen) (h8 : ∀ x ∈ xs, x < 256) (h : w.ownsRow base 5 1 v n (byCells xs)) : ∃ a cap, v = .slice a n cap ∧ RdB w a xs ∧ (a = none → cap = 0) ∧ n ≤ cap ∧ cap ≤ 9223372036854775807 := by
  subst hn
  rcases h.2 with ⟨hv, h0⟩ | ⟨g, cap, cur, hv, hb, hg, h1, h2, h3, h4⟩
  · have e : xs = [] := List.length_eq_zero_iff.1 h0
    subst e
    exact ⟨none, 0, hv, ⟨Nat.zero_le _, h8, fun h => absurd rfl h⟩, fun _ => rfl, Nat.le_refl _, by omega⟩
  · subst hv
    refine ⟨_, cap, rfl, ⟨hm, h8, fun _ => ⟨g, 0, rfl, (Array.getElem?_eq_some_iff.1 hg).1, fun i hi => ?_⟩⟩, (fun hp => by cases hp), h1, h2⟩
    rw [Nat.zero_add, h.cellAt i (by omega)]
    simp [byCells, List.getD, hi]

end Go.Proofs.YtnnhpbnnombpmaaDoor
