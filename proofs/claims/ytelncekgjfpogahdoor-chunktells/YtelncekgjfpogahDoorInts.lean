/-
  What orchsame's Ints answers, for every two lists: whether they are one.
-/
import Derived.Test.YtelncekgjfpogahDoorBase
import Derived.RegionTactic
namespace Go.Proofs.YtelncekgjfpogahDoor
open Go.ChangeShapes Go.WideShapes Go.ChangeAt Go.RowKit
set_option linter.unusedVariables false

theorem same_end {xs ys : List Int} (hl : xs.length = ys.length) {k : Nat} (hk : xs.length ≤ k) (h : xs.take k = ys.take k) : decide (xs = ys) = true := by
  rw [List.take_of_length_le hk, List.take_of_length_le (by omega)] at h
  simp [h]
theorem same_next {xs ys : List Int} {k : Nat} (h1 : k < xs.length) (h2 : k < ys.length) (h : xs.take k = ys.take k) (he : xs[k] = ys[k]) : xs.take (k + 1) = ys.take (k + 1) := by
  rw [List.take_succ_eq_append_getElem h1, List.take_succ_eq_append_getElem h2, h, he]
theorem same_not {xs ys : List Int} {k : Nat} (h1 : k < xs.length) (h2 : k < ys.length) (he : xs[k] ≠ ys[k]) : decide (xs = ys) = false := by
  rw [decide_eq_false_iff_not]; intro h; subst h; exact he rfl

set_option maxHeartbeats 2000000 in
theorem ints_any (a b : Option Addr) (xs ys : List Int) (ca cb : Nat) (w : World) (ha : Rd w a xs) (hb : Rd w b ys) :
    Calls Tryd.prog 23 #[.slice a xs.length ca, .slice b ys.length cb] w fun e w' => e = .returned (.bool (decide (xs = ys))) ∧ Below w.heap.size w w' := by
  have hm : xs.length ≤ 9223372036854775807 := ha.1
  have hm2 : ys.length ≤ 9223372036854775807 := hb.1
  by_cases hl : xs.length = ys.length
  · have hn : ((xs.length : Int) != (ys.length : Int)) = false := by rw [bne_eq_false_iff_eq]; omega
    have HL := hide hl
    by_cases hx : xs = []
    · have hy : ys = [] := List.length_eq_zero_iff.1 (by rw [← hl, hx]; rfl)
      subst hx
      subst hy
      clear hl HL hn
      go_enter Tryd.func23, Tryd.ntmps23
      go_wp2
      refine wp_loop_rounds 1 ?_
      rw [rounds_succ]
      go_wp2
      go_ret
      exact ⟨by simp, Below.refl _ _⟩
    · have hy : ys ≠ [] := by intro e; subst e; exact hx (List.length_eq_zero_iff.1 hl)
      obtain ⟨ba, oa, rfl, hba, hca⟩ := ha.2 hx
      obtain ⟨bb, ob, rfl, hbb, hcb⟩ := hb.2 hy
      have HA := hide hca
      have HB := hide hcb
      have SE : Hid (∀ k, xs.length ≤ k → xs.take k = ys.take k → decide (xs = ys) = true) := fun k => same_end hl
      have SN : Hid (∀ k (h1 : k < xs.length) (h2 : k < ys.length), xs[k] ≠ ys[k] → decide (xs = ys) = false) := fun k h1 h2 => same_not h1 h2
      clear hca hcb ha hb hx hy hl
      generalize decide (xs = ys) = r at *
      go_enter Tryd.func23, Tryd.ntmps23
      go_wp2
      go_loopw [5] (fun i wr => ∃ k : Nat, k ≤ xs.length ∧ i = .int .i64 k ∧ Below w.heap.size w wr ∧ Hid (xs.take k = ys.take k)) (fun i _ => xs.length - (intOf i).toNat)
      case atStart => exact ⟨0, Nat.zero_le _, rfl, Below.refl _ _, by unfold Hid; simp⟩
      case round =>
        obtain ⟨k, hk, rfl, hbl, I⟩ := hrel
        by_cases hlt : k < xs.length
        · have hlt2 : k < ys.length := by have := HL.out; omega
          have c1 := (hbl.cell (p := ⟨ba, oa + k, none⟩) hba).trans (Rd.at HA.out k hlt)
          have c2 := (hbl.cell (p := ⟨bb, ob + k, none⟩) hbb).trans (Rd.at HB.out k hlt2)
          by_cases he : xs[k] = ys[k]
          · have N := hide (same_next hlt hlt2 I.out he)
            have q : (xs[k] != ys[k]) = false := by rw [bne_eq_false_iff_eq]; exact he
            clear he
            generalize xs[k] = x at *
            generalize ys[k] = y at *
            go_wp2
            go_region
            all_goals go_wp2
            all_goals go_roundw
            all_goals first | (case rel => exact ⟨k + 1, by omega, by go_num, hbl.drew, N⟩) | skip
            all_goals first | (case measure => simp [intOf]; omega) | skip
          · have E2 : Hid (false = r) := (SN.out k hlt hlt2 he).symm
            have q : (xs[k] != ys[k]) = true := by rw [bne_iff_ne]; exact he
            clear he
            generalize xs[k] = x at *
            generalize ys[k] = y at *
            go_wp2
            go_region
            all_goals go_wp2
            all_goals go_ret
            all_goals exact ⟨ret_bool E2.out, hbl.drew⟩
        · have E2 : Hid (true = r) := (SE.out k (by omega) I.out).symm
          go_wp2
          go_ret
          exact ⟨ret_bool E2.out, hbl⟩
  · have hn : ((xs.length : Int) != (ys.length : Int)) = true := by rw [bne_iff_ne]; omega
    have E : Hid (false = decide (xs = ys)) := by unfold Hid; symm; rw [decide_eq_false_iff_not]; intro e; exact hl (by rw [e])
    clear ha hb hl
    go_enter Tryd.func23, Tryd.ntmps23
    go_wp2
    go_ret
    exact ⟨ret_bool E.out, Below.refl _ _⟩

end Go.Proofs.YtelncekgjfpogahDoor
