/-
  What Median of package fixed answers, for every list: it sorts by the library, whose contract is laid in YtpjodggmbpinbaaShelf.
-/
import Derived.Test.YtpjodggmbpinbaaMean
import Derived.Test.YtpjodggmbpinbaaShelf
import Derived.Sort.OwnSortedInts
namespace Go.Proofs.Ytpjodggmbpinbaa
open Go.ChangeShapes Go.WideShapes Go.ChangeAt Go.RowKit
set_option linter.unusedVariables false

theorem sort_any (base g cap : Nat) (F : List Int) (w : World) (hown : w.ownsRow base 3 1 (.slice (some ⟨g, 0, none⟩) F.length cap) F.length (F.map (Value.int .i64))) (hsz : F.length < 4611686018427387904) :
    Calls Try.prog 27 #[.slice (some ⟨g, 0, none⟩) F.length cap] w fun e w' => e = .returned (.tuple #[]) ∧
      w'.ownsRow base 3 1 (.slice (some ⟨g, 0, none⟩) F.length cap) F.length ((M.sortI F).map (Value.int .i64)) ∧ Below g w w' := by
  rcases hown.2 with ⟨h0, _⟩ | ⟨g', cap', cur, hv, hbase, hb, h1, h2, h3, h4⟩
  · cases h0
  cases hv
  have hg : g < w.heap.size := (Array.getElem?_eq_some_iff.1 hb).1
  refine (Try.slices_Sort_int g 0 cap F w (holds_of_blockI hb (by simpa using h4)) hg hsz).mono ?_
  rintro e w' ⟨rfl, n, os, rfl⟩
  refine ⟨rfl, ownsRow_sortedI (by simp) hbase hb h1 h2 h3, ?_⟩
  exact (Below.refl _ w).grown (grownBy_sortedI _) (Nat.le_of_lt hg) (fun k hk => by cases hk; exact Nat.le_refl _)

theorem sort_len (F : List Int) : (M.sortI F).length = F.length := by unfold M.sortI; simp

set_option maxHeartbeats 1000000 in
theorem median_any (a : Option Addr) (xs : List Int) (cap : Nat) (w : World) (h : Rd w a xs) :
    Calls Try.prog 18 #[.slice a xs.length cap] w fun e w' => e = .returned (.int .i64 (M.midI xs)) ∧ Below w.heap.size w w' := by
  by_cases hx : xs = []
  · have Z : Hid (0 = M.midI xs) := by subst hx; simp [Hid, M.midI, M.sortI, M.firstI]
    have hz : (((M.firstI xs).length : Int) == 0) = true := by rw [hx]; rfl
    have C := hide (counted_any a xs cap w h)
    clear hx h
    go_enter Try.func18, Try.ntmps18
    go_wp2_with (go_at_call 25; refine C.out.mono ?_; rintro e w1 ⟨rfl, hown, hbl⟩)
    go_ret
    exact ⟨ret_int Z.out, hbl⟩
  · have hp := M.first_pos hx
    have hl : (M.firstI xs).length ≤ 1000 := by rw [M.first_len]; omega
    have hz : (((M.firstI xs).length : Int) == 0) = false := by rw [beq_eq_false_iff_ne]; omega
    have C := hide (counted_any a xs cap w h)
    have Z : Hid ((M.sortI (M.firstI xs)).getD ((M.firstI xs).length / 2) 0 = M.midI xs) := rfl
    clear hx h
    generalize M.firstI xs = F at *
    have hk : F.length / 2 < F.length := by omega
    go_enter Try.func18, Try.ntmps18
    go_wp2_with (first | (go_at_call 25; refine C.out.mono ?_; rintro e w1 ⟨rfl, hown, hbl⟩) | (go_at_call 27; refine (sort_any w.heap.size w.heap.size F.length F _ hown (by omega)).mono ?_; rintro e w2 ⟨rfl, hown2, hbl2⟩; have hck := own_at hown2 (sort_len F) (F.length / 2) (by rw [sort_len]; omega)))
    go_ret
    exact ⟨ret_int (by rw [← Z.out, List.getD, List.getElem?_eq_getElem (by rw [sort_len]; exact hk)]; rfl), hbl.trans hbl2⟩
end Go.Proofs.Ytpjodggmbpinbaa
