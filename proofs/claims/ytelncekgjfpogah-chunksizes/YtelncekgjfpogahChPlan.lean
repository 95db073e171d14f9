/-
  What package chunk's Plan answers, for all bytes and all sizes.
-/
import Derived.Test.YtelncekgjfpogahChSmall
import Derived.Test.YtelncekgjfpogahPtCells
import Derived.Test.YtelncekgjfpogahBySlice
import Derived.Test.YtelncekgjfpogahChP
import Derived.Deep.Cut
import Derived.Deep.CutRange
namespace Go.Proofs.Ytelncekgjfpogah
open Go.ChangeShapes Go.WideShapes Go.ChangeAt Go.RowKit Go.Lib
set_option linter.unusedVariables false

theorem chsum_any : ChSumGives := fun a bs c W h => (chsum_same a bs c W h).mono fun e w' he => ⟨he.1, by rw [he.2]; exact Below.refl _ _⟩

set_option maxHeartbeats 8000000 in
set_option maxRecDepth 10000 in
theorem chplan_any : ChPlanGives := by
  intro a bs ca size w h hl hca s1 s2
  have bl : bs.length ≤ 9223372036854775807 := h.1
  by_cases q2 : 6000 < bs.length
  · have E : Hid (M.planF bs size = 4) := by unfold Hid M.planF; rw [if_pos q2]
    have E2 : Hid (M.planV bs size = []) := by unfold Hid M.planV; rw [E.out]; rfl
    have t3 : decide ((6000 : Int) < (bs.length : Int)) = true := decide_eq_true (by omega)
    have t3' : decide (6000 < bs.length) = true := decide_eq_true q2
    clear q2 h
    go_enter Try.func7, Try.ntmps7
    go_wp2
    go_ret2
    exact ⟨.slice none 0 0, by rw [E.out]; rfl, by rw [E2.out]; exact World.ownsRow_nil _ _ _ _, Below.refl _ _⟩
  have t3 : decide ((6000 : Int) < (bs.length : Int)) = false := decide_eq_false (by omega)
  have t3' : decide (6000 < bs.length) = false := decide_eq_false q2
  by_cases q0 : 1 ≤ size ∧ size ≤ 6000
  case neg =>
    have E : Hid (M.planF bs size = 1) := by unfold Hid M.planF; rw [if_neg q2, if_pos (by omega)]
    have E2 : Hid (M.planV bs size = []) := by unfold Hid M.planV; rw [E.out]; rfl
    have E3 : Hid (decide (1 ≤ size ∧ size ≤ 6000) = false) := decide_eq_false q0
    clear q2 q0 h
    go_enter Try.func7, Try.ntmps7
    go_wp2_with (go_at_call 13; refine (chsize_any _ _).mono ?_; rintro e w2 ⟨rfl, ew⟩; have ew2 := ew.symm; subst ew2; rw [E3.out])
    go_ret2
    exact ⟨.slice none 0 0, by rw [E.out]; rfl, by rw [E2.out]; exact World.ownsRow_nil _ _ _ _, Below.refl _ _⟩
  have E3 : Hid (decide (1 ≤ size ∧ size ≤ 6000) = true) := decide_eq_true q0
  obtain ⟨s, rfl⟩ : ∃ s : Nat, size = (s : Int) := ⟨size.toNat, by omega⟩
  have sp : 1 ≤ s := by omega
  have EP : Hid (M.planF bs (s : Int) = if 100 < (M.planL bs s).length then 4 else 0) := by
    unfold Hid M.planF; rw [if_neg q2, if_neg (by omega), Int.toNat_natCast]
  have EV : Hid (M.planV bs (s : Int) = if M.planF bs (s : Int) = 0 then M.planL bs s else []) := by unfold Hid M.planV; rw [Int.toNat_natCast]
  have PG : Hid (∀ b : List Nat, b ≠ [] → M.planL b s = (((min s b.length : Nat) : Int), (M.sumF (b.take s) : Int)) :: M.planL (b.drop s) s) := fun b hb => M.plan_go sp hb
  have L6 : bs.length ≤ 6000 := by omega
  have S6 : s ≤ 6000 := by omega
  have HB := hide h
  obtain ⟨i0, hi0, hz0, hz1, hz2⟩ := info_parts infoP
  have J0 := hide hi0
  clear h q0 q2 hi0
  generalize M.planF bs (s : Int) = pF at *
  generalize M.planV bs (s : Int) = pV at *
  obtain ⟨PP, hPP⟩ : ∃ P, P = M.planL bs s := ⟨_, rfl⟩
  rw [← hPP] at EP EV
  have P0 : Hid (PP = [] ++ M.planL bs s) := by unfold Hid; rw [hPP]; rfl
  clear hPP
  go_enter Try.func7, Try.ntmps7
  go_wp2_with (go_at_call 13; refine (chsize_any _ _).mono ?_; rintro e w2 ⟨rfl, ew⟩; have ew2 := ew.symm; subst ew2; rw [E3.out])
  go_loopw [0, 6] (fun u v wr => ∃ (k m : Nat) (B : List Nat) (L : List M.Pt) (ba : Option Addr) (bc : Nat) (va : Option Addr) (vc : Nat), u = .slice ba m bc ∧ m ≤ 6000 ∧ k + m ≤ 6000 ∧ v = .slice va k vc ∧ Hid (L.length = k) ∧ Hid (B.length = m) ∧ Hid (RdB w ba B) ∧ m ≤ bc ∧ bc ≤ 9223372036854775807 ∧ Hid (PP = L ++ M.planL B s) ∧ Hid (wr.ownsRow w.heap.size 34 2 (.slice va k vc) k (ptCells L)) ∧ Hid (Below w.heap.size w wr)) (fun u _ _ => match u with | .slice _ m _ => m | _ => 0)
  case atStart => exact ⟨0, bs.length, bs, [], a, ca, none, 0, rfl, L6, by omega, rfl, rfl, rfl, HB, hl, hca, P0, World.ownsRow_nil _ _ _ _, Below.refl _ _⟩
  case round =>
    obtain ⟨k, m, B, L, ba, bc, va, vc, rfl, m6, km, rfl, LK, LB, RB, mb, bx, EE, OO, K⟩ := hrel
    by_cases hlt : 0 < m
    · have mz : (0 : Int) < (m : Int) := by omega
      have ne : B ≠ [] := fun e => by have := LB.out; rw [e] at this; simp at this; omega
      have ee := EE.out
      rw [PG.out _ ne, LB.out] at ee
      obtain ⟨n, hn⟩ : ∃ n, n = min s m := ⟨_, rfl⟩
      rw [← hn] at ee
      have n1 : 1 ≤ n := by omega
      have n2 : n ≤ m := by omega
      have n3 : n ≤ s := by omega
      have tk : B.take n = B.take s := by
        rw [hn]
        by_cases q : s ≤ m
        · rw [Nat.min_eq_left q]
        · rw [Nat.min_eq_right (by omega), List.take_of_length_le (by rw [LB.out]; omega), List.take_of_length_le (by rw [LB.out]; omega)]
      have dk : B.drop n = B.drop s := by
        rw [hn]
        by_cases q : s ≤ m
        · rw [Nat.min_eq_left q]
        · rw [Nat.min_eq_right (by omega), List.drop_eq_nil_of_le (by rw [LB.out]; omega), List.drop_eq_nil_of_le (by rw [LB.out]; omega)]
      rw [← tk, ← dk] at ee
      have tl : (B.take n).length = n := by rw [List.length_take, LB.out]; omega
      have SS : Hid (∀ c', Calls Try.prog 14 #[.slice ba n c'] wr fun e w' => e = .returned (.agg #[.int .i64 (n : Nat), .int .i64 (M.sumF (B.take n) : Nat)]) ∧ Below wr.heap.size wr w') := fun c' => by
        have := chpart_any ba (B.take n) c' wr ((RB.out.below K.out).take n)
        rw [tl] at this
        exact this
      have RD : Hid (RdB w (if bc = n then ba else Option.map (fun x => x.add n) ba) (B.drop n)) := rdB_slice RB.out (by rw [LB.out]; exact mb)
      have LD : Hid ((B.drop n).length = m - n) := by unfold Hid; rw [List.length_drop, LB.out]
      have E2 : Hid (PP = (L ++ [((n : Int), (M.sumF (B.take n) : Int))]) ++ M.planL (B.drop n) s) := by
        unfold Hid; rw [ee, List.append_assoc]; rfl
      have L2 : Hid ((L ++ [((n : Int), (M.sumF (B.take n) : Int))]).length = k + 1) := by unfold Hid; rw [List.length_append, LK.out]; rfl
      have NC := hide (ptCells_snoc L ((n : Int), (M.sumF (B.take n) : Int)))
      have sl := M.sum_lt (B.take n)
      have nz : (n : Int) ≤ (m : Int) := by omega
      have nz2 : (n : Int) ≤ (bc : Int) := by omega
      have mi : (if m < s then (m : Int) else (s : Int)) = (n : Int) := by split <;> omega
      have K0 := K.out.size
      clear ee tk dk tl ne EE PG HB RB hn EP EV P0 E3 t3 t3'
      generalize M.sumF (B.take n) = sm at *
      go_wp2_with (first
        | (go_at_call 14; refine (SS.out _).mono ?_; rintro e w2 ⟨rfl, hw2⟩; have K2 := hide (below_on K.out hw2); have O2 := hide (own_up OO.out hw2); have Z2 := K2.out.size)
        | (at_builtin; refine wpList_append_lies _ rfl (.tmp 23) (.tmp 28) 30 rfl w.heap.size 34 i0 (.agg #[.int .i64 0, .int .i64 0]) 2 16 Try.underlying30 J0.out hz0 hz1 hz2 rfl (by omega) (.slice va k vc) k (ptCells L) rfl (O2.out.alloc _) ⟨w2.heap.size, 0, none⟩ 1 1 [.int .i64 (n : Int), .int .i64 (sm : Int)] rfl rfl (World.news_of_block (heap_alloc_new _ _)) (by simp [Value.oneCell']) (by omega) (by unfold maxLen; omega) (by omega) (by simp; omega) (w2.heap.size + 1) (by simp) ?_; intro g3 cap3 w3 ho3 hg3 _ _; have O3 := hide ho3; have K3 := hide ((K2.out.alloc Z2 _).grown hg3 (by simp; omega) (fun q hq => (O2.out.lt q hq).1)); clear ho3 hg3))
      exact ⟨⟨k + 1, m - n, B.drop n, L ++ [((n : Int), (sm : Int))], _, bc - n, _, _, by first | rfl | (congr 1; omega), by omega, by omega, rfl, L2, LD, RD, by omega, by omega, E2, (by unfold Hid; rw [NC.out]; exact O3.out), K3⟩, by show m - n < m; omega⟩
    · have m0 : m = 0 := by omega
      subst m0
      have bn : B = [] := List.length_eq_zero_iff.1 LB.out
      have ee : PP = L := by
        have := EE.out
        rw [bn, M.plan_nil, List.append_nil] at this
        exact this
      subst ee
      have lk := LK.out
      subst lk
      clear EE PG HB LK P0 bn LB RB E3
      by_cases q : 100 < PP.length
      · have g1 : decide ((100 : Int) < (PP.length : Int)) = true := decide_eq_true (by omega)
        have g1' : decide (100 < PP.length) = true := decide_eq_true q
        rw [if_pos q] at EP
        have E2 : Hid (pV = []) := by unfold Hid; rw [EV.out, EP.out]; rfl
        clear q EV
        go_wp2
        go_ret2
        exact ⟨.slice none 0 0, by rw [EP.out]; rfl, by rw [E2.out]; exact World.ownsRow_nil _ _ _ _, K.out⟩
      · have g1 : decide ((100 : Int) < (PP.length : Int)) = false := decide_eq_false (by omega)
        have g1' : decide (100 < PP.length) = false := decide_eq_false q
        rw [if_neg q] at EP
        have E2 : Hid (pV = PP) := by unfold Hid; rw [EV.out, EP.out]; rfl
        clear q EV
        go_wp2
        go_ret2
        exact ⟨_, by rw [EP.out]; rfl, by rw [E2.out]; exact OO.out, K.out⟩

end Go.Proofs.Ytelncekgjfpogah
