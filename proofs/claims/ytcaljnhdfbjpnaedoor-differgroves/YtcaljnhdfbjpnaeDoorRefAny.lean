/-
  What the reference's Any answers, for all spans.
-/
import Derived.Test.YtcaljnhdfbjpnaeDoorSpans
import Derived.Test.YtcaljnhdfbjpnaeDoorRefCell
import Derived.Test.YtcaljnhdfbjpnaeDoorLMathB
import Derived.Deep.AppendLies
import Derived.BigQuiet
import Derived.Deep.QuietTactic
namespace Go.Proofs.YtcaljnhdfbjpnaeDoor
open Go.ChangeShapes Go.WideShapes Go.ChangeAt Go.RowKit
set_option linter.unusedVariables false

theorem RdS.at {w : World} {b off : Nat} {ss : List M.Sp} (hc : ∀ i, i < ss.length → w.cell? ⟨b, off + i * 3, none⟩ = some (.int .i64 (ss.getD i (0, 0, false)).1) ∧ w.cell? ⟨b, off + i * 3 + 1, none⟩ = some (.int .i64 (ss.getD i (0, 0, false)).2.1) ∧ w.cell? ⟨b, off + i * 3 + 2, none⟩ = some (.bool (ss.getD i (0, 0, false)).2.2)) (k : Nat) (hk : k < ss.length) :
    w.cell? ⟨b, off + k * 3, none⟩ = some (.int .i64 ss[k].1) ∧ w.cell? ⟨b, off + k * 3 + 1, none⟩ = some (.int .i64 ss[k].2.1) ∧ w.cell? ⟨b, off + k * 3 + 2, none⟩ = some (.bool ss[k].2.2) := by
  have := hc k hk
  rw [M.getD_at hk] at this
  exact this
theorem M.any_no {ss : List M.Sp} {k : Nat} (hk : k < ss.length) (h : M.hasS ss[k] = false) : M.anyS ss = false := by
  unfold M.anyS
  rw [List.all_eq_false]
  exact ⟨_, List.getElem_mem hk, by simp [h]⟩
theorem M.any_yes {ss : List M.Sp} {k : Nat} (hk : ss.length ≤ k) (h : (ss.take k).all M.hasS = true) : M.anyS ss = true := by
  rw [List.take_of_length_le hk] at h; exact h
theorem M.all_next {ss : List M.Sp} {k : Nat} (hk : k < ss.length) (h : (ss.take k).all M.hasS = true) (hb : M.hasS ss[k] = true) : (ss.take (k + 1)).all M.hasS = true := by
  rw [List.take_succ_eq_append_getElem hk, List.all_append, h]; simp [hb]

set_option maxHeartbeats 2000000 in
theorem any_any (a : Option Addr) (ss : List M.Sp) (cap : Nat) (w : World) (h : RdS w a ss) :
    Calls Tryd.prog 30 #[.slice a ss.length cap] w fun e w' => e = .returned (.bool (M.anyS ss)) ∧ Below w.heap.size w w' := by
  have hm : ss.length ≤ 9223372036854775807 := h.1
  have HR := hide h.2
  have AN : Hid (∀ k (hk : k < ss.length), M.hasS ss[k] = false → M.anyS ss = false) := fun k => M.any_no
  have AY : Hid (∀ k, ss.length ≤ k → (ss.take k).all M.hasS = true → M.anyS ss = true) := fun k => M.any_yes
  clear h
  generalize M.anyS ss = o at *
  go_enter Tryd.func30, Tryd.ntmps30
  go_wp2
  go_loopw [3] (fun i wr => ∃ k : Nat, k ≤ ss.length ∧ i = .int .i64 k ∧ Hid ((ss.take k).all M.hasS = true) ∧ Below w.heap.size w wr) (fun i _ => ss.length - (intOf i).toNat)
  case atStart => exact ⟨0, Nat.zero_le _, rfl, by unfold Hid; simp, Below.refl _ _⟩
  case round =>
    obtain ⟨k, hk, rfl, I, hbl⟩ := hrel
    by_cases hlt : k < ss.length
    · obtain ⟨b, off, rfl, hb, hc0⟩ := HR.out (by intro e; subst e; simp at hlt)
      obtain ⟨c0, c1, c2⟩ := RdS.at hc0 k hlt
      have s0 := (hbl.cell (p := ⟨b, off + k * 3, none⟩) hb).trans c0
      have s1 := (hbl.cell (p := ⟨b, off + k * 3 + 1, none⟩) hb).trans c1
      have s2 := (hbl.cell (p := ⟨b, off + k * 3 + 2, none⟩) hb).trans c2
      have NX : Hid (M.hasS ss[k] = true → (ss.take (k + 1)).all M.hasS = true) := fun q => M.all_next hlt I.out q
      have HN : Hid (M.hasS ss[k] = false → o = false) := AN.out k hlt
      have HE : Hid (M.hasS ss[k] = (decide (ss[k].1 ≤ ss[k].2.1) || ss[k].2.2)) := rfl
      clear hc0 c0 c1 c2 AN AY I
      generalize M.hasS ss[k] = hs at *
      generalize ss[k].1 = lo at *
      generalize ss[k].2.1 = hi at *
      generalize ss[k].2.2 = nl at *
      by_cases hg : hi < lo
      · have q : decide (hi < lo) = true := decide_eq_true hg
        cases nl with
        | true =>
          have E := hide (NX.out (by rw [HE.out]; simp))
          clear hg NX HN HE
          go_wp2
          go_quiet (fail)
          go_wp2
          go_roundw
          case rel => exact ⟨k + 1, by omega, by go_num, E, below_drew hbl _ hbl.size⟩
          case measure => simp [intOf]; omega
        | false =>
          have E := hide (HN.out (by rw [HE.out, decide_eq_false (by omega)]; rfl))
          clear hg NX HN HE
          go_wp2
          go_quiet (fail)
          go_wp2
          go_ret
          exact ⟨ret_bool E.out.symm, below_drew hbl _ hbl.size⟩
      · have q : decide (hi < lo) = false := decide_eq_false hg
        have E := hide (NX.out (by rw [HE.out, decide_eq_true (by omega)]; rfl))
        clear hg NX HN HE
        go_wp2
        go_quiet (fail)
        go_wp2
        go_roundw
        case rel => exact ⟨k + 1, by omega, by go_num, E, below_drew hbl _ hbl.size⟩
        case measure => simp [intOf]; omega
    · have E := hide (AY.out k (by omega) I.out)
      go_wp2
      go_ret
      exact ⟨ret_bool E.out.symm, hbl⟩

end Go.Proofs.YtcaljnhdfbjpnaeDoor
