/-
  ChunkSizes' own walk, with what package chunk's Sum, Plan and Check answer as premises.
-/
import Derived.Test.YtelncekgjfpogahChP
import Derived.Deep.Cut
import Derived.Deep.CutRange
namespace Go.Proofs.Ytelncekgjfpogah
open Go.ChangeShapes Go.WideShapes Go.ChangeAt Go.RowKit Go.Lib
set_option linter.unusedVariables false

theorem M.ptSum_take {l : List M.Pt} {k : Nat} (h : k < l.length) : M.ptSum (l.take (k + 1)) = M.ptSum (l.take k) + (l.getD k (0, 0)).1 := by
  rw [List.take_succ_eq_append_getElem h, M.ptSum_app]
  have e : l.getD k (0, 0) = l[k] := by simp [List.getD, h]
  rw [e]
  show _ + (l[k].1 + 0) = _
  omega
theorem M.ptSum_in : ∀ (l : List M.Pt), (∀ p ∈ l, 0 ≤ p.1 ∧ p.1 ≤ 6000) → 0 ≤ M.ptSum l ∧ M.ptSum l ≤ 6000 * (l.length : Int)
  | [], _ => ⟨Int.le_refl _, Int.le_refl _⟩
  | p :: l, h => by
    have a := M.ptSum_in l fun q hq => h q (List.mem_cons_of_mem _ hq)
    have b := h p (List.mem_cons_self ..)
    rw [M.ptSum_cons, List.length_cons]
    constructor <;> omega
theorem tdiv_nat (a b : Nat) : Int.tdiv (a : Int) (b : Int) = ((a / b : Nat) : Int) := by rw [Int.tdiv_eq_ediv_of_nonneg (by omega)]; rfl

set_option maxHeartbeats 8000000 in
set_option maxRecDepth 10000 in
theorem sizes_walk (hS : ChSumGives) (hP : ChPlanGives) (hC : ChCheckGives) (a : Option Addr) (bs : List Nat) (ca : Nat) (size : Int) (w : World) (h : RdB w a bs) (hl : bs.length ≤ ca) (hca : ca ≤ 9223372036854775807) (s1 : -9223372036854775808 ≤ size) (s2 : size ≤ 9223372036854775807) :
    Calls Try.prog 4 #[.slice a bs.length ca, .int .i64 size] w fun e w' => e = .returned (.bool true) ∧ Below w.heap.size w w' := by
  have bl : bs.length ≤ 9223372036854775807 := h.1
  have PG := hide (hP a bs ca size w h hl hca s1 s2)
  by_cases q0 : size < 1
  · have pf : M.planF bs size ≠ 0 := by unfold M.planF; split; decide; rw [if_pos (.inl q0)]; decide
    rw [err_some pf] at PG
    have t1 : decide (size < 1) = true := decide_eq_true q0
    clear pf q0 h hS hC hP
    generalize M.planF bs size = pf at *
    go_enter Try.func4, Try.ntmps4
    go_wp2_with (go_at_call 7; refine PG.out.mono ?_; rintro e w1 ⟨v, rfl, _, hb⟩; have K := hide hb; clear hb)
    go_ret
    exact ⟨rfl, K.out⟩
  by_cases q1 : 6000 < size
  · have pf : M.planF bs size ≠ 0 := by unfold M.planF; split; decide; rw [if_pos (.inr q1)]; decide
    rw [err_some pf] at PG
    have t1 : decide (size < 1) = false := decide_eq_false q0
    have t2 : decide (6000 < size) = true := decide_eq_true q1
    clear pf q0 q1 h hS hC hP
    generalize M.planF bs size = pf at *
    go_enter Try.func4, Try.ntmps4
    go_wp2_with (go_at_call 7; refine PG.out.mono ?_; rintro e w1 ⟨v, rfl, _, hb⟩; have K := hide hb; clear hb)
    go_ret
    exact ⟨rfl, K.out⟩
  have t1 : decide (size < 1) = false := decide_eq_false q0
  have t2 : decide (6000 < size) = false := decide_eq_false q1
  by_cases q2 : 6000 < bs.length
  · have pf : M.planF bs size ≠ 0 := by unfold M.planF; rw [if_pos q2]; decide
    rw [err_some pf] at PG
    have t3 : decide ((6000 : Int) < (bs.length : Int)) = true := decide_eq_true (by omega)
    have t3' : decide (6000 < bs.length) = true := decide_eq_true q2
    clear pf q0 q1 q2 h hS hC hP
    generalize M.planF bs size = pf at *
    go_enter Try.func4, Try.ntmps4
    go_wp2_with (go_at_call 7; refine PG.out.mono ?_; rintro e w1 ⟨v, rfl, _, hb⟩; have K := hide hb; clear hb)
    go_ret
    exact ⟨rfl, K.out⟩
  have t3 : decide ((6000 : Int) < (bs.length : Int)) = false := decide_eq_false (by omega)
  have t3' : decide (6000 < bs.length) = false := decide_eq_false q2
  obtain ⟨s, rfl⟩ : ∃ s : Nat, size = (s : Int) := ⟨size.toNat, by omega⟩
  have sp : 1 ≤ s := by omega
  have EP : M.planF bs (s : Int) = if 100 < (M.planL bs s).length then 4 else 0 := by
    unfold M.planF; rw [if_neg q2, if_neg (by omega), Int.toNat_natCast]
  have PL := M.plan_len sp bs.length bs (Nat.le_refl _)
  have dv : Int.tdiv ((bs.length : Int) + (s : Int) - 1) (s : Int) = (((M.planL bs s).length : Nat) : Int) := by
    rw [show (bs.length : Int) + (s : Int) - 1 = ((bs.length + s - 1 : Nat) : Int) by omega, tdiv_nat, PL]
  have s0 : ((s : Int) == 0) = false := by rw [beq_eq_false_iff_ne]; omega
  have s0' : (s == 0) = false := by rw [beq_eq_false_iff_ne]; omega
  by_cases q3 : 100 < (M.planL bs s).length
  · have pf : M.planF bs (s : Int) ≠ 0 := by rw [EP, if_pos q3]; decide
    rw [err_some pf] at PG
    have t4 : decide ((100 : Int) < (((M.planL bs s).length : Nat) : Int)) = true := decide_eq_true (by omega)
    have t4' : decide (100 < (M.planL bs s).length) = true := decide_eq_true q3
    have L6 : bs.length ≤ 6000 := by omega
    have S6 : s ≤ 6000 := by omega
    have mb : (M.planL bs s).length ≤ 12000 := by rw [PL]; exact Nat.le_trans (Nat.div_le_self _ _) (by omega)
    clear pf q0 q1 q2 q3 h hS hC hP EP PL
    generalize M.planF bs (s : Int) = pf at *
    generalize (M.planL bs s).length = m at *
    go_enter Try.func4, Try.ntmps4
    go_wp2_with (go_at_call 7; refine PG.out.mono ?_; rintro e w1 ⟨v, rfl, _, hb⟩; have K := hide hb; clear hb)
    go_ret
    exact ⟨rfl, K.out⟩
  · have pf : M.planF bs (s : Int) = 0 := by rw [EP, if_neg q3]
    have pv : M.planV bs (s : Int) = M.planL bs s := by unfold M.planV; rw [if_pos pf, Int.toNat_natCast]
    rw [err_nil pf, pv] at PG
    have PR := M.plan_right sp bs (by omega) (by omega)
    have PS := M.plan_sum sp bs.length bs (Nat.le_refl _)
    have PA := hide (fun i (hi : i < (M.planL bs s).length) => M.plan_at sp i bs (M.plan_in sp bs hi))
    have PI := hide (fun i (hi : i < (M.planL bs s).length) => M.plan_in sp bs hi)
    have L6 : bs.length ≤ 6000 := by omega
    have S6 : s ≤ 6000 := by omega
    have HC := hide (fun a c W (hW : RdP W a (M.planL bs s)) => hC a (M.planL bs s) c W hW)
    rw [PR, err_nil rfl] at HC
    have HS0 := hide (fun W => hS none [] 0 W ⟨Nat.zero_le _, (fun x hx => by cases hx), fun hn => absurd rfl hn⟩)
    have e7 : M.sumF [] = 7 := rfl
    rw [e7] at HS0
    simp only [List.length_nil] at HS0
    have m100 : (M.planL bs s).length ≤ 100 := by omega
    have PSH := hide PS
    clear pf pv q0 q1 q2 q3 h hS hC hP EP PL PR e7 PS
    generalize M.planL bs s = P at *
    go_enter Try.func4, Try.ntmps4
    go_upto_region 4 with (go_at_call 7; refine PG.out.mono ?_; rintro e w1 ⟨v, rfl, ho, hb⟩; have K := hide hb; have OO := hide ho; clear hb ho)
    obtain ⟨pa, pc, ev, rp, _⟩ := own_rdP rfl (by unfold maxLen; omega) OO.out
    subst ev
    have RP := hide rp
    clear rp OO PG
    go_wp2
    go_loopw [7, 8] (fun v i wr => ∃ k : Nat, k ≤ P.length ∧ i = .int .i64 k ∧ v = .int .i64 (M.ptSum (P.take k)) ∧ Hid (wr = w1)) (fun _ i _ => P.length - (intOf i).toNat)
    case atStart => exact ⟨0, Nat.zero_le _, rfl, rfl, rfl⟩
    case round =>
      obtain ⟨k, hk, rfl, rfl, EW⟩ := hrel
      have ew := EW.out
      subst ew
      by_cases hlt : k < P.length
      · have kz : (k : Int) < (P.length : Int) := by omega
        obtain ⟨b, off, rfl, hb, hc⟩ := RP.out.2 (by intro e; rw [e] at hlt; simp at hlt)
        have c0 := (hc k hlt).1
        have pa := PA.out k hlt
        have pi := PI.out k hlt
        have px : (P.getD k (0, 0)).1 = ((min s (bs.length - k * s) : Nat) : Int) := by rw [pa]
        have nx : k + 1 < P.length → (P.getD k (0, 0)).1 = (s : Int) := fun hn => by
          have := PI.out (k + 1) hn
          rw [Nat.succ_mul] at this
          rw [px]; omega
        have ST := hide (M.ptSum_take hlt)
        have bd : ∀ p ∈ P.take k, 0 ≤ p.1 ∧ p.1 ≤ 6000 := fun p hp => by
          obtain ⟨i, hi, rfl⟩ := List.getElem_of_mem (List.mem_of_mem_take hp)
          have h2 := PA.out i hi
          have e : P.getD i (0, 0) = P[i] := by simp [List.getD, hi]
          rw [e] at h2
          rw [h2]
          show 0 ≤ ((min s (bs.length - i * s) : Nat) : Int) ∧ ((min s (bs.length - i * s) : Nat) : Int) ≤ 6000
          omega
        have sb := M.ptSum_in _ bd
        rw [List.length_take] at sb
        have x1 : (P.getD k (0, 0)).1 ≤ (s : Int) := by rw [px]; omega
        have x2 : 1 ≤ (P.getD k (0, 0)).1 := by rw [px]; omega
        generalize (P.getD k (0, 0)).1 = x at *
        generalize M.ptSum (P.take k) = S at *
        have S1 : 0 ≤ S := sb.1
        have S2 : S ≤ 600000 := by omega
        have g1 : decide ((s : Int) < x) = false := decide_eq_false (by omega)
        have g2 : decide (x < 1) = false := decide_eq_false (by omega)
        have x3 : x ≤ 6000 := by omega
        clear hc pa pi px bd sb PA PI HC HS0 PSH x1 t1 t2 t3 t3' dv
        by_cases hn : k + 1 < P.length
        · have g3 : decide ((k : Int) + 1 < (P.length : Int)) = true := decide_eq_true (by omega)
          have g3' : decide (k + 1 < P.length) = true := decide_eq_true hn
          have g4 : (x != (s : Int)) = false := by rw [bne_eq_false_iff_eq]; exact nx hn
          clear nx hn
          go_wp2
          go_roundw
          case rel => exact ⟨k + 1, by omega, by go_num, by rw [ST.out], (by first | rfl | trivial)⟩
          case measure => simp [intOf]; omega
        · have g3 : decide ((k : Int) + 1 < (P.length : Int)) = false := decide_eq_false (by omega)
          have g3' : decide (k + 1 < P.length) = false := decide_eq_false hn
          clear nx hn
          go_wp2
          go_roundw
          case rel => exact ⟨k + 1, by omega, by go_num, by rw [ST.out], (by first | rfl | trivial)⟩
          case measure => simp [intOf]; omega
      · have ek : k = P.length := by omega
        have kz : ¬ ((k : Int) < (P.length : Int)) := by omega
        have es : M.ptSum (P.take k) = (bs.length : Int) := by rw [ek, List.take_length]; exact PSH.out
        rw [es]
        clear ek es PSH PA PI
        go_wp2_with (first
          | (go_at_call 8; refine (HC.out _ _ _ RP.out).mono ?_; rintro e w2 ⟨rfl, hb2⟩; have K2 := hide (below_on K.out hb2); clear hb2)
          | (go_at_call 9; refine (HS0.out _).mono ?_; rintro e w3 ⟨rfl, hb3⟩; have K3 := hide (below_on K2.out hb3); clear hb3))
        go_ret
        exact ⟨rfl, K3.out⟩

end Go.Proofs.Ytelncekgjfpogah
