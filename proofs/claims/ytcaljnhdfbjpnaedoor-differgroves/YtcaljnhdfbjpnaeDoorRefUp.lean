/-
  What the reference's Up, Any, Spans and Pick answer, for every list of nodes and all spans.
-/
import Derived.Test.YtcaljnhdfbjpnaeDoorNodes
import Derived.Test.YtcaljnhdfbjpnaeDoorLMathB
import Derived.Deep.AppendLies
import Derived.BigQuiet
import Derived.Deep.QuietTactic
namespace Go.Proofs.YtcaljnhdfbjpnaeDoor
open Go.ChangeShapes Go.WideShapes Go.ChangeAt Go.RowKit
set_option linter.unusedVariables false

/-- the node above a place, as a number -/
def M.upI (t : List M.Nd) (k : Nat) : Int := match M.abv t k with
  | none => -1
  | some u => (u : Int)
def M.upP (t : List M.Nd) (k : Nat) (i : Nat) : Bool := decide (M.nf (M.nAt t i) ≠ -1) && (decide (M.nl (M.nAt t i) = (k : Int)) || decide (M.nr (M.nAt t i) = (k : Int)))
theorem M.up_hit {t : List M.Nd} {k i : Nat} (hi : i < t.length) (hp : M.upP t k i = true) (hj : ∀ j, j < i → M.upP t k j = false) : M.upI t k = (i : Int) := by
  unfold M.upI
  have : M.abv t k = some i := M.first_hit (p := M.upP t k) hp hj hi
  rw [this]
theorem M.up_miss {t : List M.Nd} {k : Nat} (hj : ∀ j, j < t.length → M.upP t k j = false) : M.upI t k = -1 := by
  unfold M.upI
  have : M.abv t k = none := M.first_miss (p := M.upP t k) hj
  rw [this]

set_option maxHeartbeats 2000000 in
theorem up_any (a0 : Option Addr) (ts : List M.Nd) (cap k : Nat) (w : World) (h : RdN w a0 ts) :
    Calls Tryd.prog 56 #[.slice a0 ts.length cap, .int .i64 (k : Nat)] w fun e w' => e = .returned (.int .i64 (M.upI ts k)) ∧ w' = w := by
  have hm : ts.length ≤ 9223372036854775807 := h.1
  have HR := hide h.2
  have UH : Hid (∀ i, i < ts.length → M.upP ts k i = true → (∀ j, j < i → M.upP ts k j = false) → M.upI ts k = (i : Int)) := fun i => M.up_hit
  have UM : Hid ((∀ j, j < ts.length → M.upP ts k j = false) → M.upI ts k = -1) := M.up_miss
  clear h
  generalize M.upI ts k = o at *
  go_enter Tryd.func56, Tryd.ntmps56
  go_wp2
  go_loop [5] (fun i => ∃ j : Nat, j ≤ ts.length ∧ i = .int .i64 j ∧ Hid (∀ p, p < j → M.upP ts k p = false)) (fun i => ts.length - (intOf i).toNat)
  case atStart => exact ⟨0, Nat.zero_le _, rfl, fun p hp => by omega⟩
  case round =>
    obtain ⟨j, hj, rfl, I⟩ := hrel
    by_cases hlt : j < ts.length
    · obtain ⟨b, off, rfl, hb, hc⟩ := HR.out (by intro e; subst e; simp at hlt)
      obtain ⟨s0, s1, s2, s3, s4, s5⟩ := hc j hlt
      have N : Hid (M.upP ts k j = false → ∀ p, p < j + 1 → M.upP ts k p = false) := fun hf p hp => by
        by_cases e : p = j
        · subst e; exact hf
        · exact I.out p (by omega)
      have HT : Hid (M.upP ts k j = true → o = (j : Int)) := fun ht => UH.out j hlt ht I.out
      have PE : Hid (M.upP ts k j = (decide (M.nf (M.nAt ts j) ≠ -1) && (decide (M.nl (M.nAt ts j) = (k : Int)) || decide (M.nr (M.nAt ts j) = (k : Int))))) := rfl
      clear hc UH UM
      generalize M.upP ts k j = pp at *
      generalize M.nf (M.nAt ts j) = f at *
      generalize M.nl (M.nAt ts j) = l at *
      generalize M.nr (M.nAt ts j) = r at *
      by_cases hf : f = -1
      · have q : (f != -1) = false := by rw [bne_eq_false_iff_eq]; exact hf
        have E := hide (N.out (by rw [PE.out]; simp [hf]))
        clear hf N HT PE
        go_wp2
        go_round
        case rel => exact ⟨j + 1, by omega, by go_num, E⟩
        case measure => simp [intOf]; omega
      · have q : (f != -1) = true := by rw [bne_iff_ne]; exact hf
        by_cases h1 : l = (k : Int)
        · have q1 : (l == (k : Int)) = true := by rw [beq_iff_eq]; exact h1
          have E := hide (HT.out (by rw [PE.out]; simp [hf, h1]))
          clear hf h1 N HT PE
          go_wp2
          go_ret
          exact ⟨ret_int E.out.symm, rfl⟩
        · have q1 : (l == (k : Int)) = false := by rw [beq_eq_false_iff_ne]; exact h1
          by_cases h2 : r = (k : Int)
          · have q2 : (r == (k : Int)) = true := by rw [beq_iff_eq]; exact h2
            have E := hide (HT.out (by rw [PE.out]; simp [hf, h2]))
            clear hf h1 h2 N HT PE
            go_wp2
            go_ret
            exact ⟨ret_int E.out.symm, rfl⟩
          · have q2 : (r == (k : Int)) = false := by rw [beq_eq_false_iff_ne]; exact h2
            have E := hide (N.out (by rw [PE.out]; simp [h1, h2]))
            clear hf h1 h2 N HT PE
            go_wp2
            go_round
            case rel => exact ⟨j + 1, by omega, by go_num, E⟩
            case measure => simp [intOf]; omega
    · have E := hide (UM.out fun p hp => I.out p (by omega))
      go_wp2
      go_ret
      exact ⟨ret_int E.out.symm, rfl⟩

end Go.Proofs.YtcaljnhdfbjpnaeDoor
