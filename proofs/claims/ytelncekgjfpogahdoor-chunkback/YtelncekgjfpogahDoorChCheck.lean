/-
  What package chunk's Check answers, for all parts.
-/
import Derived.Test.YtelncekgjfpogahDoorChSmall
import Derived.Test.YtelncekgjfpogahDoorChP
import Derived.Deep.Cut
import Derived.Deep.CutRange
namespace Go.Proofs.YtelncekgjfpogahDoor
open Go.ChangeShapes Go.WideShapes Go.ChangeAt Go.RowKit Go.Lib
set_option linter.unusedVariables false

theorem M.ptc_take {l : List M.Pt} {k : Nat} (h : k < l.length) : M.ptSum (l.take (k + 1)) = M.ptSum (l.take k) + (l.getD k (0, 0)).1 ∧ (l.take (k + 1)).any M.ptBad = ((l.take k).any M.ptBad || M.ptBad (l.getD k (0, 0))) := by
  have e : l.getD k (0, 0) = l[k] := by simp [List.getD, h]
  rw [List.take_succ_eq_append_getElem h, M.ptSum_app, e]
  refine ⟨?_, by simp only [List.any_append, List.any_cons, List.any_nil, Bool.or_false]⟩
  show _ + (l[k].1 + 0) = _
  omega
theorem M.ptc_in : ∀ (l : List M.Pt), l.any M.ptBad = false → 0 ≤ M.ptSum l ∧ M.ptSum l ≤ 6000 * (l.length : Int)
  | [], _ => ⟨Int.le_refl _, Int.le_refl _⟩
  | p :: l, h => by
    rw [List.any_cons, Bool.or_eq_false_iff] at h
    have a := M.ptc_in l h.2
    have b : ¬ (p.1 < 1 ∨ 6000 < p.1 ∨ p.2 < 0 ∨ 1000002 < p.2) := of_decide_eq_false h.1
    rw [M.ptSum_cons, List.length_cons]
    constructor <;> omega

set_option maxHeartbeats 8000000 in
set_option maxRecDepth 10000 in
theorem chcheck_any : ChCheckGives := by
  intro a l ca w h
  have hm : l.length ≤ 9223372036854775807 := h.1
  by_cases big : 100 < l.length
  · have E : Hid (M.partsF l = 4) := by unfold Hid M.partsF; rw [if_pos big]
    have t1 : decide ((100 : Int) < (l.length : Int)) = true := decide_eq_true (by omega)
    have t1' : decide (100 < l.length) = true := decide_eq_true big
    clear h big
    go_enter Tryd.func22, Tryd.ntmps22
    go_wp2
    go_ret
    exact ⟨by rw [E.out]; rfl, Below.refl _ _⟩
  · have t1 : decide ((100 : Int) < (l.length : Int)) = false := decide_eq_false (by omega)
    have t1' : decide (100 < l.length) = false := decide_eq_false big
    have EP : Hid (M.partsF l = if l.any M.ptBad then 1 else if 6000 < M.ptSum l then 4 else 0) := by unfold Hid M.partsF; rw [if_neg big]
    have l100 : l.length ≤ 100 := by omega
    have HP := hide h
    have ST := hide (fun k (hk : k < l.length) => M.ptc_take (l := l) hk)
    clear h big
    go_enter Tryd.func22, Tryd.ntmps22
    go_wp2
    go_loopw [3, 12] (fun v i wr => ∃ k : Nat, k ≤ l.length ∧ i = .int .i64 k ∧ v = .int .i64 (M.ptSum (l.take k)) ∧ Hid ((l.take k).any M.ptBad = false) ∧ Hid (Below w.heap.size w wr)) (fun _ i _ => l.length - (intOf i).toNat)
    case atStart => exact ⟨0, Nat.zero_le _, rfl, rfl, rfl, Below.refl _ _⟩
    case round =>
      obtain ⟨k, hk, rfl, rfl, OK, KK⟩ := hrel
      have sb := M.ptc_in _ OK.out
      rw [List.length_take] at sb
      have S1 : 0 ≤ M.ptSum (l.take k) := sb.1
      have S2 : M.ptSum (l.take k) ≤ 600000 := by omega
      clear sb
      by_cases hlt : k < l.length
      · have kz : (k : Int) < (l.length : Int) := by omega
        have KZ := KK.out.size
        obtain ⟨b, off, rfl, hb, hc⟩ := (HP.out.below KK.out).2 (by intro e; rw [e] at hlt; simp at hlt)
        obtain ⟨c0, c1⟩ := hc k hlt
        have st := hide (ST.out k hlt)
        have KN : Hid (∀ o, Below w.heap.size w (wr.alloc o)) := fun o => KK.out.alloc KZ _
        by_cases bad : M.ptBad (l.getD k (0, 0)) = true
        · have E : Hid (M.partsF l = 1) := by
            unfold Hid
            rw [EP.out, if_pos]
            rw [List.any_eq_true]
            exact ⟨l.getD k (0, 0), by rw [show l.getD k (0, 0) = l[k] by simp [List.getD, hlt]]; exact List.getElem_mem hlt, bad⟩
          have bd : (l.getD k (0, 0)).1 < 1 ∨ 6000 < (l.getD k (0, 0)).1 ∨ (l.getD k (0, 0)).2 < 0 ∨ 1000002 < (l.getD k (0, 0)).2 := of_decide_eq_true bad
          clear bad st ST EP HP hc OK
          generalize M.ptSum (l.take k) = S at *
          generalize (l.getD k (0, 0)).1 = x at *
          generalize (l.getD k (0, 0)).2 = y at *
          have ways : (Hid (decide (1 ≤ x ∧ x ≤ 6000) = false)) ∨ (Hid (decide (1 ≤ x ∧ x ≤ 6000) = true) ∧ decide (y < 0) = true) ∨ (Hid (decide (1 ≤ x ∧ x ≤ 6000) = true) ∧ decide (y < 0) = false ∧ decide (1000003 ≤ y) = true) := by
            unfold Hid
            simp only [decide_eq_true_iff, decide_eq_false_iff_not]
            omega
          clear bd
          rcases ways with g1 | ⟨g1, g2⟩ | ⟨g1, g2, g3⟩
          all_goals (
            go_wp2_with (go_at_call 33; refine (chsize_any _ _).mono ?_; rintro e w2 ⟨rfl, ew⟩; have ew2 := ew.symm; subst ew2; rw [g1.out])
            go_ret
            exact ⟨by rw [E.out]; rfl, KN.out _⟩)
        · have bf : M.ptBad (l.getD k (0, 0)) = false := by simpa using bad
          have bd : ¬ ((l.getD k (0, 0)).1 < 1 ∨ 6000 < (l.getD k (0, 0)).1 ∨ (l.getD k (0, 0)).2 < 0 ∨ 1000002 < (l.getD k (0, 0)).2) := of_decide_eq_false bf
          have OK2 : Hid ((l.take (k + 1)).any M.ptBad = false) := by unfold Hid; rw [st.out.2, OK.out, bf]; rfl
          have SE : Hid (M.ptSum (l.take (k + 1)) = M.ptSum (l.take k) + (l.getD k (0, 0)).1) := st.out.1
          clear bad bf st ST EP HP hc OK
          generalize M.ptSum (l.take k) = S at *
          generalize (l.getD k (0, 0)).1 = x at *
          generalize (l.getD k (0, 0)).2 = y at *
          have g1 : Hid (decide (1 ≤ x ∧ x ≤ 6000) = true) := decide_eq_true (by omega)
          have g3 : decide (y < 0) = false := decide_eq_false (by omega)
          have g4 : decide (1000003 ≤ y) = false := decide_eq_false (by omega)
          have x1 : 1 ≤ x := by omega
          have x2 : x ≤ 6000 := by omega
          clear bd
          go_wp2_with (go_at_call 33; refine (chsize_any _ _).mono ?_; rintro e w2 ⟨rfl, ew⟩; have ew2 := ew.symm; subst ew2; rw [g1.out])
          go_roundw
          case rel => exact ⟨k + 1, by omega, by go_num, by rw [SE.out], OK2, KN.out _⟩
          case measure => simp [intOf]; omega
      · have ek : k = l.length := by omega
        have kz : ¬ ((k : Int) < (l.length : Int)) := by omega
        have et : l.take k = l := by rw [ek, List.take_length]
        rw [et] at S1 S2 OK ⊢
        rw [OK.out, if_neg (by simp)] at EP
        clear ek et ST HP OK
        by_cases q : 6000 < M.ptSum l
        · have g1 : decide (6000 < M.ptSum l) = true := decide_eq_true q
          rw [if_pos q] at EP
          clear q
          go_wp2
          go_ret
          exact ⟨by rw [EP.out]; rfl, KK.out⟩
        · have g1 : decide (6000 < M.ptSum l) = false := decide_eq_false q
          rw [if_neg q] at EP
          clear q
          go_wp2
          go_ret
          exact ⟨by rw [EP.out]; rfl, KK.out⟩

end Go.Proofs.YtelncekgjfpogahDoor
