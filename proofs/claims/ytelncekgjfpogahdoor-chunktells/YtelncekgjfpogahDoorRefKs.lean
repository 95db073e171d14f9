/-
  What the reference's Sum answers, for all bytes.
-/
import Derived.Test.YtelncekgjfpogahDoorByCells
import Derived.Test.YtelncekgjfpogahDoorMathKa
namespace Go.Proofs.YtelncekgjfpogahDoor
open Go.ChangeShapes Go.WideShapes Go.ChangeAt Go.RowKit Go.Lib
set_option linter.unusedVariables false

theorem M.bsmK_take {b : List Nat} {k : Nat} (h : k < b.length) : M.bsmK 7 (b.take (k + 1)) = (M.bsmK 7 (b.take k) * 31 + b.getD k 0 + 1) % 1000003 := by
  have e : b.getD k 0 = b[k] := by simp [List.getD, h]
  rw [List.take_succ_eq_append_getElem h, M.bsmK_more, e]

set_option maxHeartbeats 4000000 in
set_option maxRecDepth 10000 in
theorem rsum_any (a : Option Addr) (bs : List Nat) (ca : Nat) (w : World) (h : RdB w a bs) :
    Calls Tryd.prog 18 #[.slice a bs.length ca] w fun e w' => e = .returned (.int .i64 (M.sumF bs : Nat)) ∧ w' = w := by
  have hm : bs.length ≤ 9223372036854775807 := h.1
  have HB := hide h
  have E0 : Hid (M.sumF bs = M.bsmK 7 bs) := rfl
  have ST := hide (fun k (hk : k < bs.length) => M.bsmK_take (b := bs) hk)
  have LT := hide (fun k => M.bsmK_lt (bs.take k) 7 (by decide))
  have B8 : Hid (∀ i, i < bs.length → bs.getD i 0 < 256) := fun i hi => h.2.1 _ (by rw [show bs.getD i 0 = bs[i] by simp [List.getD, hi]]; exact List.getElem_mem hi)
  clear h
  go_enter Tryd.func18, Tryd.ntmps18
  go_wp2
  go_loopw [3, 4] (fun v i wr => ∃ k : Nat, k ≤ bs.length ∧ i = .int .i64 k ∧ v = .int .i64 (M.bsmK 7 (bs.take k) : Nat) ∧ Hid (wr = w)) (fun _ i _ => bs.length - (intOf i).toNat)
  case atStart => exact ⟨0, Nat.zero_le _, rfl, rfl, rfl⟩
  case round =>
    obtain ⟨k, hk, rfl, rfl, EW⟩ := hrel
    have ew := EW.out
    subst ew
    by_cases hlt : k < bs.length
    · have kz : (k : Int) < (bs.length : Int) := by omega
      obtain ⟨b, off, rfl, hb, hc⟩ := HB.out.2.2 (by intro e; rw [e] at hlt; simp at hlt)
      have c0 := hc k hlt
      unfold byV at c0
      have c8 := B8.out k hlt
      have nl := LT.out k
      have st := hide (ST.out k hlt)
      generalize bs.getD k 0 = c at *
      generalize M.bsmK 7 (bs.take k) = n at *
      have rm : Int.tmod ((n : Int) * 31 + (c : Int) + 1) 1000003 = (((n * 31 + c + 1) % 1000003 : Nat) : Int) := by rw [Int.tmod_eq_emod_of_nonneg (by omega)]; omega
      clear hc HB E0 ST LT B8
      go_wp2
      go_roundw
      case rel => exact ⟨k + 1, by omega, by go_num, by rw [st.out]; exact congrArg _ (by omega), (by first | rfl | trivial)⟩
      case measure => simp [intOf]; omega
    · have ek : k = bs.length := by omega
      have kz : ¬ ((k : Int) < (bs.length : Int)) := by omega
      have es : M.bsmK 7 (bs.take k) = M.sumF bs := by rw [ek, List.take_length]; rfl
      rw [es]
      clear ek es ST LT B8 HB E0
      go_wp2
      go_ret
      exact ⟨rfl, rfl⟩

end Go.Proofs.YtelncekgjfpogahDoor
