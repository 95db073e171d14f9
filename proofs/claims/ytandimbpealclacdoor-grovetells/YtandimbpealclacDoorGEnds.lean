/-
  What package grove's ends and the library's slices.Min and Max answer: the least and the greatest leaf of a tree that is right, the least and the greatest of a list.
-/
import Derived.Test.YtandimbpealclacDoorGroves
import Derived.RegionTactic
import Derived.Deep.Cut
import Derived.Deep.CutRange
namespace Go.Proofs.YtandimbpealclacDoor
open Go.ChangeShapes Go.WideShapes Go.ChangeAt Go.RowKit Go.Lib
set_option linter.unusedVariables false

def M.loK (t : List M.Nd) : Nat → Int
  | 0 => 1000000
  | k + 1 => if M.leafB (M.nAt t k) = true ∧ M.nv (M.nAt t k) < M.loK t k then M.nv (M.nAt t k) else M.loK t k
def M.hiK (t : List M.Nd) : Nat → Int
  | 0 => -1000000
  | k + 1 => if M.leafB (M.nAt t k) = true ∧ M.hiK t k < M.nv (M.nAt t k) then M.nv (M.nAt t k) else M.hiK t k
theorem M.lo_spec (t : List M.Nd) : ∀ k, M.loK t k ≤ 1000000 ∧ (∀ x ∈ M.lvK t k, M.loK t k ≤ x) ∧ (M.loK t k = 1000000 ∨ M.loK t k ∈ M.lvK t k)
  | 0 => ⟨Int.le_refl _, (fun x hx => by cases hx), .inl rfl⟩
  | k + 1 => by
    obtain ⟨h1, h2, h3⟩ := M.lo_spec t k
    unfold M.loK M.lvK
    by_cases hl : M.leafB (M.nAt t k) = true
    · rw [if_pos hl]
      by_cases hv : M.nv (M.nAt t k) < M.loK t k
      · rw [if_pos ⟨hl, hv⟩]
        refine ⟨by omega, fun x hx => ?_, .inr (by simp)⟩
        rcases List.mem_append.1 hx with q | q
        · have := h2 x q; omega
        · rw [List.mem_singleton.1 q]; exact Int.le_refl _
      · rw [if_neg (fun c => hv c.2)]
        refine ⟨h1, fun x hx => ?_, h3.imp id (fun q => List.mem_append.2 (.inl q))⟩
        rcases List.mem_append.1 hx with q | q
        · exact h2 x q
        · rw [List.mem_singleton.1 q]; omega
    · rw [if_neg hl, if_neg (fun c => hl c.1)]
      exact ⟨h1, h2, h3⟩
theorem M.hi_spec (t : List M.Nd) : ∀ k, -1000000 ≤ M.hiK t k ∧ (∀ x ∈ M.lvK t k, x ≤ M.hiK t k) ∧ (M.hiK t k = -1000000 ∨ M.hiK t k ∈ M.lvK t k)
  | 0 => ⟨Int.le_refl _, (fun x hx => by cases hx), .inl rfl⟩
  | k + 1 => by
    obtain ⟨h1, h2, h3⟩ := M.hi_spec t k
    unfold M.hiK M.lvK
    by_cases hl : M.leafB (M.nAt t k) = true
    · rw [if_pos hl]
      by_cases hv : M.hiK t k < M.nv (M.nAt t k)
      · rw [if_pos ⟨hl, hv⟩]
        refine ⟨by omega, fun x hx => ?_, .inr (by simp)⟩
        rcases List.mem_append.1 hx with q | q
        · have := h2 x q; omega
        · rw [List.mem_singleton.1 q]; exact Int.le_refl _
      · rw [if_neg (fun c => hv c.2)]
        refine ⟨h1, fun x hx => ?_, h3.imp id (fun q => List.mem_append.2 (.inl q))⟩
        rcases List.mem_append.1 hx with q | q
        · exact h2 x q
        · rw [List.mem_singleton.1 q]; omega
    · rw [if_neg hl, if_neg (fun c => hl c.1)]
      exact ⟨h1, h2, h3⟩
theorem M.lo_low {t : List M.Nd} {m : Int} (F : M.Fair t m) : M.lowT t = M.loK t t.length := by
  obtain ⟨h1, h2, h3⟩ := M.lo_spec t t.length
  have hp := M.lv_some F
  refine M.low_unique ?_ h2
  rcases h3 with h3 | h3
  · have hx := List.getElem_mem hp
    have a := h2 _ hx
    have b := (M.lv_in F _ hx).2
    rw [show M.loK t t.length = (M.lvK t t.length)[0] by omega]
    exact hx
  · exact h3
theorem M.hi_high {t : List M.Nd} {m : Int} (F : M.Fair t m) : M.highT t = M.hiK t t.length := by
  obtain ⟨h1, h2, h3⟩ := M.hi_spec t t.length
  have hp := M.lv_some F
  refine M.high_unique ?_ h2
  rcases h3 with h3 | h3
  · have hx := List.getElem_mem hp
    have a := h2 _ hx
    have b := (M.lv_in F _ hx).1
    rw [show M.hiK t t.length = (M.lvK t t.length)[0] by omega]
    exact hx
  · exact h3

theorem two_ret {a b c d : Int} (h1 : a = b) (h2 : c = d) : Ending.returned (.tuple #[.int .i64 a, .int .i64 c]) = .returned (.tuple #[.int .i64 b, .int .i64 d]) := by rw [h1, h2]

set_option maxHeartbeats 4000000 in
theorem ends_in (a0 : Option Addr) (ts : List M.Nd) (ca : Nat) (m : Int) (w : World) (ht : RdN w a0 ts) (F : M.Fair ts m) :
    Calls Tryd.prog 37 #[.slice a0 ts.length ca] w fun e w' => e = .returned (.tuple #[.int .i64 (M.lowT ts), .int .i64 (M.highT ts)]) ∧ Below w.heap.size w w' := by
  have hm : ts.length ≤ 9223372036854775807 := ht.1
  have EL := hide (M.lo_low F)
  have EH := hide (M.hi_high F)
  have n0 : 0 < ts.length := F.2.1
  obtain ⟨b1, off, rfl, hb, hc⟩ := ht.2 (by intro e; subst e; simp at n0)
  have NS : Hid (∀ W, Below w.heap.size w W → ∀ k, k < ts.length → SixAt W b1 (off + k * 6) (M.nAt ts k)) := fun W hW k hk => (hc k hk).below hW hb
  have SP : Hid (∀ k, M.loK ts k ≤ 1000000 ∧ -1000000 ≤ M.hiK ts k) := fun k => ⟨(M.lo_spec ts k).1, (M.hi_spec ts k).1⟩
  clear ht hc F
  generalize M.lowT ts = LT at *
  generalize M.highT ts = HT at *
  go_enter Tryd.func37, Tryd.ntmps37
  go_wp2
  go_loopw [2, 3, 8] (fun lo hi i wr => ∃ k : Nat, k ≤ ts.length ∧ lo = .int .i64 (M.loK ts k) ∧ hi = .int .i64 (M.hiK ts k) ∧ i = .int .i64 k ∧ Below w.heap.size w wr) (fun _ _ i _ => ts.length - (intOf i).toNat)
  case atStart => exact ⟨0, Nat.zero_le _, rfl, rfl, rfl, Below.refl _ _⟩
  case round =>
    obtain ⟨k, hk, rfl, rfl, rfl, hbl⟩ := hrel
    by_cases hlt : k < ts.length
    · obtain ⟨c0, c1, c2, c3, c4, c5⟩ := NS.out wr hbl k hlt
      have kz : (k : Int) < (ts.length : Int) := by omega
      have B2 : Hid (∀ o, Below w.heap.size w (wr.alloc o)) := fun o => hbl.alloc hbl.size o
      have B3 : Hid (∀ o, Below w.heap.size w (wr.alloc o).drew) := fun o => (hbl.alloc hbl.size o).drew
      have lE : M.leafB (M.nAt ts k) = decide (M.nf (M.nAt ts k) = -1) := rfl
      have SL : Hid (M.loK ts (k + 1) = if M.leafB (M.nAt ts k) = true ∧ M.nv (M.nAt ts k) < M.loK ts k then M.nv (M.nAt ts k) else M.loK ts k) := rfl
      have SH : Hid (M.hiK ts (k + 1) = if M.leafB (M.nAt ts k) = true ∧ M.hiK ts k < M.nv (M.nAt ts k) then M.nv (M.nAt ts k) else M.hiK ts k) := rfl
      clear NS SP EL EH
      generalize hlo : M.loK ts k = lo at *
      generalize hhi : M.hiK ts k = hi at *
      clear hlo hhi
      by_cases hf : M.nf (M.nAt ts k) = -1
      · have qf : (M.nf (M.nAt ts k) == -1) = true := by rw [beq_iff_eq]; exact hf
        have lT : Hid (M.leafB (M.nAt ts k) = true) := by unfold Hid; rw [lE, decide_eq_true hf]
        clear hf lE
        generalize M.nv (M.nAt ts k) = v at *
        generalize M.nf (M.nAt ts k) = ff at *
        generalize M.nc (M.nAt ts k) = fc at *
        generalize M.nl (M.nAt ts k) = fl at *
        generalize M.nr (M.nAt ts k) = fr at *
        generalize M.ns (M.nAt ts k) = fs at *
        by_cases h1 : v < lo
        · have E1 : Hid (M.loK ts (k + 1) = v) := by unfold Hid; rw [SL.out, if_pos ⟨lT.out, h1⟩]
          by_cases h2 : hi < v
          · have E2 : Hid (M.hiK ts (k + 1) = v) := by unfold Hid; rw [SH.out, if_pos ⟨lT.out, h2⟩]
            go_upto_region 6 with fail
            go_region
            all_goals (
              go_wp2
              go_roundw
              case rel => exact ⟨k + 1, by omega, by rw [E1.out], by rw [E2.out], by go_num, B3.out _⟩
              case measure => simp [intOf]; omega)
          · have E2 : Hid (M.hiK ts (k + 1) = hi) := by unfold Hid; rw [SH.out, if_neg (fun c => h2 c.2)]
            go_upto_region 6 with fail
            go_region
            all_goals (
              go_wp2
              go_roundw
              case rel => exact ⟨k + 1, by omega, by rw [E1.out], by rw [E2.out], by go_num, B3.out _⟩
              case measure => simp [intOf]; omega)
        · have E1 : Hid (M.loK ts (k + 1) = lo) := by unfold Hid; rw [SL.out, if_neg (fun c => h1 c.2)]
          by_cases h2 : hi < v
          · have E2 : Hid (M.hiK ts (k + 1) = v) := by unfold Hid; rw [SH.out, if_pos ⟨lT.out, h2⟩]
            go_upto_region 6 with fail
            go_region
            all_goals (
              go_wp2
              go_roundw
              case rel => exact ⟨k + 1, by omega, by rw [E1.out], by rw [E2.out], by go_num, B3.out _⟩
              case measure => simp [intOf]; omega)
          · have E2 : Hid (M.hiK ts (k + 1) = hi) := by unfold Hid; rw [SH.out, if_neg (fun c => h2 c.2)]
            go_upto_region 6 with fail
            go_region
            all_goals (
              go_wp2
              go_roundw
              case rel => exact ⟨k + 1, by omega, by rw [E1.out], by rw [E2.out], by go_num, B3.out _⟩
              case measure => simp [intOf]; omega)
      · have qf : (M.nf (M.nAt ts k) == -1) = false := by rw [beq_eq_false_iff_ne]; exact hf
        have lT : Hid (¬ M.leafB (M.nAt ts k) = true) := by unfold Hid; rw [lE, decide_eq_false hf]; decide
        have E1 : Hid (M.loK ts (k + 1) = lo) := by unfold Hid; rw [SL.out, if_neg (fun c => lT.out c.1)]
        have E2 : Hid (M.hiK ts (k + 1) = hi) := by unfold Hid; rw [SH.out, if_neg (fun c => lT.out c.1)]
        clear hf lE SL SH
        generalize M.nv (M.nAt ts k) = v at *
        generalize M.nf (M.nAt ts k) = ff at *
        generalize M.nc (M.nAt ts k) = fc at *
        generalize M.nl (M.nAt ts k) = fl at *
        generalize M.nr (M.nAt ts k) = fr at *
        generalize M.ns (M.nAt ts k) = fs at *
        go_wp2
        go_roundw
        case rel => exact ⟨k + 1, by omega, by rw [E1.out], by rw [E2.out], by go_num, B2.out _⟩
        case measure => simp [intOf]; omega
    · have ek : k = ts.length := by omega
      have L1 : Hid (M.loK ts k = LT) := by unfold Hid; rw [ek, EL.out]
      have L2 : Hid (M.hiK ts k = HT) := by unfold Hid; rw [ek, EH.out]
      clear NS SP EL EH ek
      go_wp2
      go_ret2
      exact ⟨two_ret L1.out L2.out, hbl⟩

end Go.Proofs.YtandimbpealclacDoor
