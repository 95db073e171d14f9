/-
  CodeRow's own walk, with what package code answers as premises.
-/
import Derived.Test.YtdadjppdonephahCdP
import Derived.Test.YtdadjppdonephahBySlice
import Derived.RegionTactic
import Derived.Deep.Cut
import Derived.Deep.CutRange
import Derived.BigQuiet
import Derived.Deep.QuietTactic
namespace Go.Proofs.Ytdadjppdonephah
open Go.ChangeShapes Go.WideShapes Go.ChangeAt Go.RowKit Go.Lib
set_option linter.unusedVariables false

/-- each number of a list that was handed over is one of 64 bits -/
theorem ints_in {w : World} {a : Option Addr} {len cap : Nat} {zs : List Int} (h : IsRow .i64 w a len cap zs) : ∀ x ∈ zs.take len, -9223372036854775808 ≤ x ∧ x ≤ 9223372036854775807 := by
  intro x hx
  rcases h with ⟨rfl, rfl, rfl, rfl⟩ | ⟨_, rfl, hl, hm, hz, hcell, hwz⟩
  · cases hx
  · have := hwz x (List.mem_of_mem_take hx)
    simp [Lit.wf, IntKind.min, IntKind.max, IntKind.bits, IntKind.signed] at this
    omega
/-- numbers behind one another -/
def M.numsL : List Int → List Nat
  | [] => []
  | n :: l => M.numL n ++ M.numsL l
theorem M.nums_app : ∀ a b : List Int, M.numsL (a ++ b) = M.numsL a ++ M.numsL b
  | [], b => rfl
  | n :: a, b => by show M.numL n ++ M.numsL (a ++ b) = (M.numL n ++ M.numsL a) ++ M.numsL b; rw [M.nums_app a b, List.append_assoc]
theorem M.nums_one (n : Int) : M.numsL [n] = M.numL n := List.append_nil _
theorem M.nums_more {l : List Int} {k : Nat} (hk : k < l.length) : M.numsL (l.take (k + 1)) = M.numsL (l.take k) ++ M.numL l[k] := by
  rw [List.take_succ_eq_append_getElem hk, M.nums_app, M.nums_one]
theorem M.nums_byte : ∀ l : List Int, ∀ c ∈ M.numsL l, c < 256
  | [], c, h => by cases h
  | n :: l, c, h => by
    rcases List.mem_append.1 (show c ∈ M.numL n ++ M.numsL l from h) with h | h
    · exact M.sev_byte _ c h
    · exact M.nums_byte l c h
theorem M.nums_len : ∀ l : List Int, (∀ x ∈ l, -9223372036854775808 ≤ x ∧ x ≤ 9223372036854775807) → (M.numsL l).length ≤ 10 * l.length
  | [], _ => Nat.le_refl _
  | n :: l, h => by
    have a := M.nums_len l fun x hx => h x (List.mem_cons_of_mem _ hx)
    have b := (M.num_len (h n (List.mem_cons_self ..)).1 (h n (List.mem_cons_self ..)).2).2
    show (M.numL n ++ M.numsL l).length ≤ 10 * (l.length + 1)
    rw [List.length_append]
    omega

theorem M.nums_front (l : List Int) (k j : Nat) (hj : j < k) (hk : k ≤ l.length) : M.numsL ((l.take k).drop j) = M.numL (l[j]'(by omega)) ++ M.numsL ((l.take k).drop (j + 1)) := by
  have hl : j < (l.take k).length := by rw [List.length_take]; omega
  rw [List.drop_eq_getElem_cons hl]
  have e : (l.take k)[j] = l[j]'(by omega) := List.getElem_take ..
  rw [e]
  rfl

set_option maxHeartbeats 8000000 in
set_option maxRecDepth 10000 in
theorem coderow_walk (hN : CdNumGives) (hG : CdGetGives) (a : Option Addr) (l : List Int) (ca : Nat) (w : World) (h : Rd w a l) (hi : ∀ x ∈ l, -9223372036854775808 ≤ x ∧ x ≤ 9223372036854775807) :
    Calls Try.prog 3 #[.slice a l.length ca] w fun e w' => e = .returned (.bool true) ∧ Below w.heap.size w w' := by
  have F0 := hide (fun t => hG (some ⟨w.heap.size, 0, none⟩) [4] 1 _ (rdB_one w 4 (by omega) t))
  have e0 : M.getL [4] = (2, 1, 0) := by decide
  have z0 : errV 0 = .nilIface := if_pos rfl
  simp only [e0, z0] at F0
  have B0 : Hid (∀ o, Below w.heap.size w (w.alloc o)) := fun o => (Below.refl _ w).alloc (Nat.le_refl _) o
  have HN := hide hN
  have HG := hide hG
  have HL := hide h
  have HI := hide hi
  have hm : l.length ≤ 9223372036854775807 := h.1
  clear hN hG h hi e0 z0
  go_enter Try.func3, Try.ntmps3
  go_wp2_with (go_at_call 4; refine (F0.out _).mono ?_; rintro e w1 ⟨rfl, hb⟩; have k1 := hide (below_on (B0.out _) hb); clear hb)
  clear F0 B0
  go_loopw [6, 7] (fun v i wr => ∃ k : Nat, k ≤ l.length ∧ k ≤ 60 ∧ i = .int .i64 k ∧ ∃ va vc, v = .slice va (M.numsL (l.take k)).length vc ∧ Hid (RdB wr va (M.numsL (l.take k)) ∧ (va = none → vc = 0) ∧ (M.numsL (l.take k)).length ≤ vc) ∧ Hid (Below w.heap.size w wr)) (fun _ i _ => l.length - (intOf i).toNat)
  case atStart => exact ⟨0, Nat.zero_le _, by omega, rfl, none, 0, rfl, ⟨⟨Nat.zero_le _, (fun x hx => by cases hx), fun hn => absurd rfl hn⟩, fun _ => rfl, Nat.le_refl _⟩, k1.out⟩
  case round =>
    obtain ⟨k, hk, k60, rfl, va, vc, rfl, HV, K⟩ := hrel
    by_cases hlt : k < l.length ∧ k < 60
    · obtain ⟨hlt, h60⟩ := hlt
      obtain ⟨b, off, rfl, hb, hc⟩ := (HL.out.below K.out).2 (by intro e; rw [e] at hlt; simp at hlt)
      have c0 := hc k hlt
      have kz : (k : Int) < (l.length : Int) := by omega
      have kz6 : (k : Int) < 60 := by omega
      have t1 : decide ((k : Int) < (l.length : Int)) = true := decide_eq_true kz
      have t2 : decide ((k : Int) < 60) = true := decide_eq_true kz6
      have ee : l.getD k 0 = l[k] := by simp [List.getD, hlt]
      have ei := HI.out l[k] (List.getElem_mem hlt)
      have more := M.nums_more hlt
      rw [ee] at c0
      have nl := M.num_len ei.1 ei.2
      have tl := M.nums_len (l.take k) fun x hx => HI.out x (List.mem_of_mem_take hx)
      rw [List.length_take] at tl
      have by1 := hide (M.nums_byte (l.take (k + 1)))
      have F1 := hide (HN.out va (M.numsL (l.take k)) vc l[k] wr HV.out.1 HV.out.2.1 (by omega) ei.1 ei.2)
      rw [← more] at F1
      have ml : (M.numsL (l.take (k + 1))).length = (M.numsL (l.take k)).length + (M.numL l[k]).length := by rw [more, List.length_append]
      clear hc HL ee ei more HI HG HV
      obtain ⟨B1, eB⟩ : ∃ B, B = M.numsL (l.take (k + 1)) := ⟨_, rfl⟩
      rw [← eB] at by1 F1 ml
      have EB := hide eB
      clear eB
      generalize M.numsL (l.take k) = B0 at *
      generalize (M.numL l[k]).length = nn at *
      generalize l[k] = x at *
      have g1 : decide ((B1.length : Int) ≤ (B0.length : Int)) = false := decide_eq_false (by omega)
      have g2 : decide ((B0.length : Int) + 10 < (B1.length : Int)) = false := decide_eq_false (by omega)
      have bl : B1.length ≤ 9223372036854775807 := by omega
      have bl0 : B0.length ≤ 9223372036854775000 := by omega
      have ML := hide ml
      have g3 : B0.length < B1.length := by omega
      have g4 : ¬ B0.length + 10 < B1.length := by omega
      clear nl tl ml
      go_wp2_with (go_at_call 5; refine F1.out.mono ?_; rintro e w2 ⟨vv, rfl, ho, hb⟩; have k2 := hide (below_on K.out hb); obtain ⟨oa, oc, rfl, ho2⟩ := own_rdB0 rfl bl by1.out ho; have HO := hide ho2; clear ho ho2 hb)
      have eB := EB.out
      subst eB
      exact ⟨⟨k + 1, hlt, h60, rfl, oa, oc, rfl, HO.out, k2.out⟩, by show l.length - (((k : Int) + 1).toNat) < l.length - ((k : Int).toNat); omega⟩
    · have ex : ¬ k < l.length ∨ (k < l.length ∧ k = 60) := by omega
      have LK : Hid (l.take k = l.take k) := rfl
      clear hlt k1
      rcases ex with q | ⟨q, q2⟩
      case' inl => have t1 : decide ((k : Int) < (l.length : Int)) = false := decide_eq_false (by omega)
      case' inl => have kd : Hid (k = l.length ∨ k = 60) := .inl (by omega)
      case' inr => have kd : Hid (k = l.length ∨ k = 60) := .inr q2
      case' inr => have t1 : decide ((k : Int) < (l.length : Int)) = true := decide_eq_true (by omega)
      case' inr => have t2 : decide ((k : Int) < 60) = false := decide_eq_false (by omega)
      case' inr => have q6 : ¬ k < 60 := by omega
      case' inr => clear q2
      all_goals (
        have V0 := hide (HV.out)
        clear HN HV
        go_wp2
        go_loopw [6, 9] (fun v i wr => ∃ j : Nat, j ≤ k ∧ i = .int .i64 j ∧ ∃ ua uc, v = .slice ua (M.numsL ((l.take k).drop j)).length uc ∧ Hid (RdB wr ua (M.numsL ((l.take k).drop j)) ∧ (M.numsL ((l.take k).drop j)).length ≤ uc) ∧ Hid (Below w.heap.size w wr)) (fun _ i _ => k - (intOf i).toNat)
        case atStart => exact ⟨0, Nat.zero_le _, rfl, va, vc, rfl, ⟨V0.out.1, V0.out.2.2⟩, K.out⟩
        case round =>
          obtain ⟨j, hj, rfl, ua, uc, rfl, HU, K2⟩ := hrel
          by_cases hjk : j < k
          · have jl : j < l.length := by omega
            obtain ⟨b, off, rfl, hb, hc⟩ := (HL.out.below K2.out).2 (by intro e; rw [e] at jl; simp at jl)
            have c0 := hc j jl
            have kd' := kd.out
            have s1 : decide ((j : Int) < (l.length : Int)) = true := decide_eq_true (by omega)
            have s2 : decide ((j : Int) < 60) = true := decide_eq_true (by omega)
            have jz : (j : Int) < (l.length : Int) := by omega
            have jz6 : (j : Int) < 60 := by omega
            have ee : l.getD j 0 = l[j] := by simp [List.getD, jl]
            rw [ee] at c0
            have ei := HI.out l[j] (List.getElem_mem jl)
            have sp := M.nums_front l k j hjk (by omega)
            obtain ⟨Bt, eBt⟩ : ∃ B, B = M.numsL ((l.take k).drop j) := ⟨_, rfl⟩
            obtain ⟨Br, eBr⟩ : ∃ B, B = M.numsL ((l.take k).drop (j + 1)) := ⟨_, rfl⟩
            have hl' : Bt.length = (M.numL l[j]).length + Br.length := by rw [eBt, sp, List.length_append, eBr]
            have G1 := hide (HG.out ua Bt uc wr (by rw [eBt]; exact HU.out.1))
            rw [show M.getL Bt = (l[j], (M.numL l[j]).length, 0) by rw [eBt, sp]; exact M.get_num ei.1 ei.2 _] at G1
            have zn : errV 0 = .nilIface := if_pos rfl
            simp only [zn] at G1
            have dr : Bt.drop (M.numL l[j]).length = Br := by rw [eBt, sp, List.drop_left, eBr]
            have HU2 : Hid (RdB wr ua Bt ∧ Bt.length ≤ uc) := by rw [eBt]; exact HU.out
            have DR := hide dr
            have EB := hide eBr
            rw [← eBt]
            have HUl := HU2.out.2
            clear hc HL ee ei HI HG HU V0 sp eBt eBr zn dr kd'
            clear hk k60
            generalize (M.numL l[j]).length = nn at *
            generalize l[j] = x at *
            have z0 : (0 : Int) ≤ (nn : Int) := by omega
            have z1 : (nn : Int) ≤ (Bt.length : Int) := by omega
            have z2 : (nn : Int) ≤ (uc : Int) := by omega
            have HL' := hide hl'
            have HB := hide HUl
            clear hl' HUl
            clear kd t1 q
            try clear t2 q6
            go_upto_region 16 with (go_at_call 4; refine G1.out.mono ?_; rintro e w3 ⟨rfl, hb3⟩; have k3 := hide (below_on K2.out hb3); have HW : Hid (RdB w3 ua Bt) := HU2.out.1.below hb3; have d0 := (hb3.cell (p := ⟨b, off + j, none⟩) hb).trans c0; clear hb3)
            clear G1 c0 HU2
            go_wp2
            have e1 := EB.out
            subst e1
            have e2 := DR.out
            have s3 := rdB_slice (k := nn) HW.out HB.out
            rw [e2] at s3
            have hl := HL'.out
            have hb4 := HB.out
            exact ⟨⟨j + 1, hjk, rfl, _, _, by rw [show Bt.length - nn = (M.numsL ((l.take k).drop (j + 1))).length by omega], ⟨s3, by omega⟩, k3.out⟩, by show k - (((j : Int) + 1).toNat) < k - ((j : Int).toNat); omega⟩
          · have ej : j = k := by omega
            subst ej
            have en : M.numsL ((l.take j).drop j) = [] := by rw [List.drop_eq_nil_of_le (by rw [List.length_take]; omega)]; rfl
            rw [en]
            clear en HU V0 HG HI HL kd
            go_wp2
            go_ret
            exact ⟨rfl, K2.out⟩)

end Go.Proofs.Ytdadjppdonephah
