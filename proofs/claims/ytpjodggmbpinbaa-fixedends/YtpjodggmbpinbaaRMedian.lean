/-
  What package orchref1's Median answers, for every list.
-/
import Derived.Test.YtpjodggmbpinbaaSorted
namespace Go.Proofs.Ytpjodggmbpinbaa
open Go.ChangeShapes Go.WideShapes Go.ChangeAt Go.RowKit
set_option linter.unusedVariables false

theorem own_rd {w : World} {base g n cap : Nat} {F : List Int} (h : w.ownsRow base 3 1 (.slice (some ⟨g, 0, none⟩) n cap) n (F.map (Value.int .i64))) (hn : F.length = n) :
    ∀ i, i < F.length → w.cell? ⟨g, 0 + i, none⟩ = some (.int .i64 (F.getD i 0)) := by
  intro i hi
  rw [Nat.zero_add, own_at h hn i hi]
  simp [List.getD, hi]

set_option maxHeartbeats 1000000 in
theorem rmedian_any (a : Option Addr) (xs : List Int) (cap : Nat) (w : World) (h : Rd w a xs) :
    Calls Try.prog 19 #[.slice a xs.length cap] w fun e w' => e = .returned (.int .i64 (M.midI xs)) ∧ Below w.heap.size w w' := by
  by_cases hx : xs = []
  · have Z : Hid (0 = M.midI xs) := by subst hx; simp [Hid, M.midI, M.sortI, M.firstI]
    have C := hide (firsts_none a xs cap w h hx)
    clear hx h
    go_enter Try.func19, Try.ntmps19
    go_wp2_with (go_at_call 26; refine C.out.mono ?_; rintro e w1 ⟨a', cap', rfl, hbl⟩)
    go_ret
    exact ⟨ret_int Z.out, hbl⟩
  · have hp := M.first_pos hx
    have hl : (M.firstI xs).length ≤ 1000 := by rw [M.first_len]; omega
    have hz : (((M.firstI xs).length : Int) == 0) = false := by rw [beq_eq_false_iff_ne]; omega
    have C := hide (firsts_some a xs cap w h hx)
    have Z : Hid ((M.sortI (M.firstI xs)).getD ((M.firstI xs).length / 2) 0 = M.midI xs) := rfl
    clear hx h
    generalize M.firstI xs = F at *
    have hk : F.length / 2 < F.length := by omega
    go_enter Try.func19, Try.ntmps19
    go_wp2_with (first | (go_at_call 26; refine C.out.mono ?_; rintro e w1 ⟨g, cap', rfl, hg1, hg2, hown, hbl⟩) | (go_at_call 28; refine (sorted_some g 0 F cap' _ hp (by omega) hg2 (own_rd hown rfl)).mono ?_; rintro e w2 ⟨g', cap2, rfl, hg3, hg4, hown2, hbl2⟩; have hck := own_at hown2 (M.sort_length F) (F.length / 2) (by rw [M.sort_length]; omega)))
    go_ret
    exact ⟨ret_int (by rw [← Z.out, List.getD, List.getElem?_eq_getElem (by rw [M.sort_length]; exact hk)]; rfl), hbl.trans (hbl2.mono hbl.size)⟩
end Go.Proofs.Ytpjodggmbpinbaa
