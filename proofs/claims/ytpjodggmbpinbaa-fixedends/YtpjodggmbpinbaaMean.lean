/-
  What Mean of package fixed answers, for every list.
-/
import Derived.Test.YtpjodggmbpinbaaCount
namespace Go.Proofs.Ytpjodggmbpinbaa
open Go.ChangeShapes Go.WideShapes Go.ChangeAt Go.RowKit
set_option linter.unusedVariables false

theorem own_at {w : World} {base g n cap : Nat} {F : List Int} (h : w.ownsRow base 3 1 (.slice (some ⟨g, 0, none⟩) n cap) n (F.map (Value.int .i64))) (hn : F.length = n) (k : Nat) (hk : k < F.length) :
    w.cell? ⟨g, k, none⟩ = some (.int .i64 F[k]) := by
  rw [h.cellAt k (by omega)]
  simp [hk]

set_option maxHeartbeats 1000000 in
theorem mean_any (a : Option Addr) (xs : List Int) (cap : Nat) (w : World) (h : Rd w a xs) :
    Calls Try.prog 16 #[.slice a xs.length cap] w fun e w' => e = .returned (.int .i64 (M.meanI xs)) ∧ Below w.heap.size w w' := by
  by_cases hx : xs = []
  · have Z := hide (M.mean_zero hx)
    have hz : (((M.firstI xs).length : Int) == 0) = true := by rw [hx]; rfl
    have C := hide (counted_any a xs cap w h)
    clear hx h
    go_enter Try.func16, Try.ntmps16
    go_wp2_with (go_at_call 25; refine C.out.mono ?_; rintro e w1 ⟨rfl, hown, hbl⟩)
    go_ret
    exact ⟨ret_int Z.out, hbl⟩
  · have Z := hide (M.mean_some hx)
    have hp := M.first_pos hx
    have hl : (M.firstI xs).length ≤ 1000 := by rw [M.first_len]; omega
    have hz : (((M.firstI xs).length : Int) == 0) = false := by rw [beq_eq_false_iff_ne]; omega
    have C := hide (counted_any a xs cap w h)
    have SB := hide (M.sum_take_bd xs)
    have SS := hide (M.sum_succ (M.firstI xs))
    clear hx h
    generalize M.firstI xs = F at *
    go_enter Try.func16, Try.ntmps16
    go_wp2_with (go_at_call 25; refine C.out.mono ?_; rintro e w1 ⟨rfl, hown, hbl⟩)
    have OA := hide (own_at hown rfl)
    clear hown C
    go_loop [4, 14] (fun t i => ∃ k : Nat, k ≤ F.length ∧ i = .int .i64 k ∧ t = .int .i64 (F.take k).sum) (fun _ i => F.length - (intOf i).toNat)
    case atStart => exact ⟨0, Nat.zero_le _, rfl, rfl⟩
    case round =>
      obtain ⟨k, hk, rfl, rfl⟩ := hrel
      obtain ⟨s1, s2⟩ := SB.out k hk
      by_cases hlt : k < F.length
      · have hck := OA.out k hlt
        have S := hide (SS.out k hlt)
        obtain ⟨s3, s4⟩ := SB.out (k + 1) hlt
        rw [← S.out] at s3 s4
        go_wp2
        go_round
        case rel => exact ⟨k + 1, by omega, by go_num, by rw [← S.out]⟩
        case measure => simp [intOf]; omega
      · have hke : F.take k = F := List.take_of_length_le (by omega)
        rw [hke] at s1 s2
        have HK := hide hke
        clear hke
        have e1 : (F.take k).sum = F.sum := by rw [HK.out]
        go_wp2_with (go_at_call 23; refine (down_any _ _ _ (by omega) (by omega) (by omega) (by omega)).mono ?_; rintro e w' ⟨rfl, rfl⟩)
        go_ret
        exact ⟨ret_int Z.out, hbl⟩
end Go.Proofs.Ytpjodggmbpinbaa
