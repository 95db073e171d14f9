/-
  What package fixed's counted answers: a new row that holds the list's first thousand, made fit; for every list.
-/
import Derived.Test.YtpjodggmbpinbaaRead
import Derived.Test.YtpjodggmbpinbaaMathL
import Derived.Laws.OwnMore
namespace Go.Proofs.Ytpjodggmbpinbaa
open Go.ChangeShapes Go.WideShapes Go.ChangeAt Go.RowKit
set_option linter.unusedVariables false

theorem info3 : (Try.prog.info? 3).map (fun i => (i.zero, i.size, i.bytes)) = some (some (.int .i64 0), 1, 8) := by kernel_rfl

theorem made (n : Nat) : (madeCells (Value.cells (.int .i64 0)) (n * 1)).toList = (List.replicate n (0 : Int)).map (Value.int .i64) := by
  rw [Nat.mul_one]
  show (madeCells #[Value.int .i64 0] n).toList = _
  rw [toList_madeCells_one]; simp

theorem count_step {w wr : World} {B n k : Nat} {F : List Int} {x : Int} (hF : F.length = n) (hk : k < n) (hx : x = F[k])
    (hown : wr.ownsRow B 3 1 (.slice (some ⟨B, 0, none⟩) n n) n ((M.fillI F k).map (Value.int .i64))) (hbl : Below B w wr) :
    (wr.setCell ⟨B, k, none⟩ (.int .i64 x)).ownsRow B 3 1 (.slice (some ⟨B, 0, none⟩) n n) n ((M.fillI F (k + 1)).map (Value.int .i64)) ∧ Below B w (wr.setCell ⟨B, k, none⟩ (.int .i64 x)) := by
  subst hx
  refine ⟨?_, hbl.setCell (Nat.le_refl _) _⟩
  have := (hown.stored k (.int .i64 F[k])).1
  rw [← M.fill_set F k (by omega), List.map_set]
  exact this

set_option maxHeartbeats 1000000 in
theorem counted_core (b off : Nat) (xs : List Int) (cap n : Nat) (w : World) (hm : xs.length ≤ 9223372036854775807) (hb : b < w.heap.size)
    (hc : ∀ i, i < xs.length → w.cell? ⟨b, off + i, none⟩ = some (.int .i64 (xs.getD i 0))) (hn : (M.firstI xs).length = n)
    (hcase : (xs.length ≤ 1000 ∧ n = xs.length) ∨ (1000 < xs.length ∧ n = 1000)) :
    Calls Try.prog 25 #[.slice (some ⟨b, off, none⟩) xs.length cap] w fun e w' => e = .returned (.slice (some ⟨w.heap.size, 0, none⟩) n n) ∧
      w'.ownsRow w.heap.size 3 1 (.slice (some ⟨w.heap.size, 0, none⟩) n n) n ((M.firstI xs).map (Value.int .i64)) ∧ Below w.heap.size w w' := by
  obtain ⟨i0, hi, hz0, hz1, hz2⟩ := info_parts info3
  have HN := hide hn
  clear hn
  obtain ⟨g1, g2⟩ : n ≤ xs.length ∧ n ≤ 1000 := by omega
  rcases hcase with ⟨h1, h2⟩ | ⟨h1, h2⟩
  all_goals
    have H2 := hide h2
    clear h2
    go_enter Try.func25, Try.ntmps25
    go_wp2_with (at_make; refine wpList_make_full _ rfl (.tmp 7) (.tmp 7) 26 rfl w.heap.size 3 i0 (.int .i64 0) 1 Try.underlying26 hi hz0 hz1 .i64 .i64 _ _ n rfl rfl (by have := H2.out; omega) (by have := H2.out; omega) (by rw [hz2]; have := H2.out; omega) (by have := H2.out; unfold maxLen; omega) (Nat.le_refl _) ?_; intro w1 hown hgrow)
    rw [made] at hown
    have hB : Below w.heap.size w w1 := (Below.refl _ w).grown hgrow (Nat.le_refl _) (fun k hk => by cases hk)
    have ho : w1.ownsRow w.heap.size 3 1 (.slice (some ⟨w.heap.size, 0, none⟩) n n) n ((M.fillI (M.firstI xs) 0).map (Value.int .i64)) := by
      rw [M.fill_zero, HN.out]; exact hown
    clear hown hgrow hi hz0 hz1 hz2
    go_loopw [11] (fun i wr => ∃ k : Nat, k ≤ n ∧ i = .int .i64 k ∧ wr.ownsRow w.heap.size 3 1 (.slice (some ⟨w.heap.size, 0, none⟩) n n) n ((M.fillI (M.firstI xs) k).map (Value.int .i64)) ∧ Below w.heap.size w wr) (fun i _ => n - (intOf i).toNat)
    case atStart => exact ⟨0, Nat.zero_le _, rfl, ho, hB⟩
    case round =>
      obtain ⟨k, hk, rfl, hown, hbl⟩ := hrel
      clear ho hB
      by_cases hlt : k < n
      · have hck := (hbl.cell (p := ⟨b, off + k, none⟩) hb).trans (Rd.at hc k (by omega))
        have hfz := hown.frozenAt k
        have hcell := hown.cellAt k (by omega)
        have hkl : k < xs.length := by omega
        have HA := hide (M.first_at xs k (by rw [HN.out]; exact hlt) hkl).symm
        have hlen : k < ((M.fillI (M.firstI xs) k).map (Value.int .i64)).length := by rw [List.length_map, M.fill_len _ _ (by rw [HN.out]; omega), HN.out]; exact hlt
        rw [List.getElem?_eq_getElem hlen] at hcell
        have R := fun x (hx : x = (M.firstI xs)[k]'(by rw [HN.out]; exact hlt)) => count_step (x := x) HN.out hlt hx hown hbl
        have HR := hide R
        clear R hown hc
        go_wp2_with (go_at_call 20; refine (fit_any _ _).mono ?_; rintro e w' ⟨rfl, rfl⟩)
        have R := HR.out (M.fitI xs[k]) HA.out
        go_roundw
        case rel => exact ⟨k + 1, by omega, by go_num, R.1, R.2⟩
        case measure => simp [intOf]; omega
      · have hke : k = (M.firstI xs).length := by rw [HN.out]; omega
        have HK := hide hke
        clear hke hc
        go_wp2
        go_ret
        refine ⟨rfl, ?_, hbl⟩
        rw [HK.out, M.fill_all] at hown
        exact hown

theorem counted_any (a : Option Addr) (xs : List Int) (cap : Nat) (w : World) (h : Rd w a xs) :
    Calls Try.prog 25 #[.slice a xs.length cap] w fun e w' => e = .returned (.slice (some ⟨w.heap.size, 0, none⟩) (M.firstI xs).length (M.firstI xs).length) ∧
      w'.ownsRow w.heap.size 3 1 (.slice (some ⟨w.heap.size, 0, none⟩) (M.firstI xs).length (M.firstI xs).length) (M.firstI xs).length ((M.firstI xs).map (Value.int .i64)) ∧ Below w.heap.size w w' := by
  obtain ⟨hm, hr⟩ := h
  unfold maxLen at hm
  by_cases hx : xs = []
  · subst hx
    obtain ⟨i0, hi, hz0, hz1, hz2⟩ := info_parts info3
    go_enter Try.func25, Try.ntmps25
    go_wp2_with (at_make; refine wpList_make_full _ rfl (.tmp 7) (.tmp 7) 26 rfl w.heap.size 3 i0 (.int .i64 0) 1 Try.underlying26 hi hz0 hz1 .i64 .i64 _ _ 0 rfl rfl (by simp) (by simp) (by rw [hz2]; omega) (by unfold maxLen; omega) (Nat.le_refl _) ?_; intro w1 hown hgrow)
    rw [made] at hown
    have hB : Below w.heap.size w w1 := (Below.refl _ w).grown hgrow (Nat.le_refl _) (fun k hk => by cases hk)
    clear hgrow hi hz0 hz1 hz2
    refine wp_loop_rounds 1 ?_
    rw [rounds_succ]
    go_wp2
    go_ret
    exact ⟨rfl, hown, hB⟩
  · obtain ⟨b, off, rfl, hb, hc⟩ := hr hx
    refine counted_core b off xs cap _ w hm hb hc rfl ?_
    rw [M.first_len]; omega
end Go.Proofs.Ytpjodggmbpinbaa
