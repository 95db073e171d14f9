/-
  What package orchref1's Sorted answers: a new row that holds the list in order; for every list that is not empty, of at most a million.
-/
import Derived.Test.YtandimbpealclacDoorBase
import Derived.OwnWalk
import Derived.Test.YtandimbpealclacDoorMathS
namespace Go.Proofs.YtandimbpealclacDoor
open Go.ChangeShapes Go.WideShapes Go.ChangeAt Go.RowKit
set_option linter.unusedVariables false

theorem gap_store {wr : World} {B g n cap k : Nat} {S R : List Int} {c : Int} (y : Int) (hk : k ≤ S.length)
    (h : wr.ownsRow B 3 1 (.slice (some ⟨g, 0, none⟩) n cap) n ((M.gapI S R c k).map (Value.int .i64))) :
    (wr.setCell ⟨g, k, none⟩ (.int .i64 y)).ownsRow B 3 1 (.slice (some ⟨g, 0, none⟩) n cap) n ((M.gapI S R y k).map (Value.int .i64)) := by
  have := (h.stored k (.int .i64 y)).1
  rw [← M.gap_set S R c y k hk, List.map_set]
  exact this

theorem gap_cell {wr : World} {B g n cap k : Nat} {S R : List Int} {c : Int} (hk : k ≤ S.length) (hn : S.length + 1 + R.length = n)
    (h : wr.ownsRow B 3 1 (.slice (some ⟨g, 0, none⟩) n cap) n ((M.gapI S R c k).map (Value.int .i64))) :
    ∃ u, wr.cell? ⟨g, k, none⟩ = some u :=
  ⟨_, own_at h (by rw [M.gap_len _ _ _ _ hk]; exact hn) k (by rw [M.gap_len _ _ _ _ hk]; omega)⟩

set_option maxHeartbeats 2000000 in
set_option maxRecDepth 10000 in
theorem sorted_some (b off : Nat) (xs : List Int) (cap : Nat) (w : World) (hp : 0 < xs.length) (hl : xs.length ≤ 1000000) (hb : b < w.heap.size)
    (hc : ∀ i, i < xs.length → w.cell? ⟨b, off + i, none⟩ = some (.int .i64 (xs.getD i 0))) :
    Calls Tryd.prog 18 #[.slice (some ⟨b, off, none⟩) xs.length cap] w fun e w' => ∃ g cap', e = .returned (.slice (some ⟨g, 0, none⟩) xs.length cap') ∧ w.heap.size ≤ g ∧ g < w'.heap.size ∧
      w'.ownsRow w.heap.size 3 1 (.slice (some ⟨g, 0, none⟩) xs.length cap') xs.length ((M.sortI xs).map (Value.int .i64)) ∧ Below w.heap.size w w' := by
  obtain ⟨i0, hi, hz0, hz1, hz2⟩ := info_parts info3
  have HC := hide (src_cells hc)
  clear hc
  go_enter Tryd.func18, Tryd.ntmps18
  go_wp2_with (at_builtin; refine wpList_append_own _ rfl (.tmp 7) (.tmp 8) 23 rfl w.heap.size 3 i0 (.int .i64 0) 1 8 Tryd.underlying23 hi hz0 hz1 hz2 rfl (by decide) _ _ _ rfl (World.ownsRow_nil _ _ _ _) ⟨b, off, none⟩ xs.length cap (xs.map (Value.int .i64)) rfl (by simp) HC.out (one_cells xs) (by unfold maxLen; omega) (by omega) (Nat.le_refl _) ?_)
  intro v' w1 hown' hgrow hnil
  have hown : w1.ownsRow w.heap.size 3 1 v' xs.length ((M.rowI xs 1).map (Value.int .i64)) := by rw [M.row_one xs hp]; simpa using hown'
  have hbl1 : Below w.heap.size w w1 := (Below.refl _ w).grown hgrow (Nat.le_refl _) (fun k hk => by cases hk)
  clear hown' hgrow hnil HC hi hz0 hz1 hz2
  obtain ⟨g, cap', rfl, hg1, hg2⟩ := own_shape hown hp
  go_wp2
  go_loopw [4] (fun i wr => ∃ k : Nat, 1 ≤ k ∧ k ≤ xs.length ∧ i = .int .i64 k ∧ wr.ownsRow w.heap.size 3 1 (.slice (some ⟨g, 0, none⟩) xs.length cap') xs.length ((M.rowI xs k).map (Value.int .i64)) ∧ g < wr.heap.size ∧ Below w.heap.size w wr) (fun i _ => xs.length - (intOf i).toNat)
  case atStart => exact ⟨1, by omega, by omega, rfl, hown, hg2, hbl1⟩
  case round =>
    clear hown hg2 hbl1
    obtain ⟨i, hi1, hi2, rfl, hown, hg2, hbl1⟩ := hrel
    by_cases hlt : i < xs.length
    · have hck := own_at hown (M.row_len xs i hi2) i (by rw [M.row_len _ _ hi2]; exact hlt)
      rw [M.row_at xs i hlt] at hck
      rw [M.row_gap xs i hlt] at hown
      have SL : Hid ((M.sortI (xs.take i)).length = i) := by rw [M.sort_length, List.length_take]; exact Nat.min_eq_left hi2
      have RL : Hid ((xs.drop (i + 1)).length = xs.length - (i + 1)) := by rw [List.length_drop]; exact rfl
      have GR := hide (fun k => M.gap_row xs i k hlt)
      have LOW := hide (M.sort_low (xs.take i) xs[i])
      have hSl := SL.out
      have NL : Hid ((M.sortI (xs.take i)).length + 1 + (xs.drop (i + 1)).length = xs.length) := by unfold Hid; rw [hSl, RL.out]; omega
      clear hSl RL
      generalize M.sortI (xs.take i) = S at *
      generalize xs.drop (i + 1) = R at *
      generalize xs[i] = x at *
      go_wp2
      go_loopw [6] (fun kk wt => ∃ (k : Nat) (c : Int), k ≤ i ∧ kk = .int .i64 k ∧ wt.ownsRow w.heap.size 3 1 (.slice (some ⟨g, 0, none⟩) xs.length cap') xs.length ((M.gapI S R c k).map (Value.int .i64)) ∧ Hid (∀ y ∈ S.drop k, x < y) ∧ g < wt.heap.size ∧ Below w.heap.size w wt) (fun kk _ => (intOf kk).toNat)
      case atStart => exact ⟨i, x, Nat.le_refl _, rfl, hown, M.drop_none (Nat.le_of_eq SL.out), hg2, hbl1⟩
      case round =>
        clear hown hg2 hbl1 hck
        obtain ⟨k, c, hk, rfl, hown, hhi, hg2, hbl⟩ := hrel
        have hks : k ≤ S.length := by rw [SL.out]; exact hk
        have hfz := hown.frozenAt k
        obtain ⟨u, hcu⟩ := gap_cell hks NL.out hown
        rcases k with _ | j
        · have R1 := hide (gap_store x hks hown)
          have hdn : decide ((0 : Int) < ((0 : Nat) : Int)) = false := by simp
          have GR0 := hide (GR.out 0 (by simp) hhi.out)
          clear hks hown
          go_wp2
          go_roundw
          case rel => exact ⟨i + 1, by omega, by omega, by go_num, by rw [← GR0.out]; exact R1.out, by simpa using hg2, hbl.setCell hg1 _⟩
          case measure => simp [intOf]; omega
        · have hjs : j < S.length := hks
          have hcj := own_at hown (by rw [M.gap_len _ _ _ _ hks]; exact NL.out) j (by rw [M.gap_len _ _ _ _ hks]; omega)
          rw [M.gap_low S R c j hjs] at hcj
          by_cases hgt : x < S[j]
          · have R1 := hide (gap_store S[j] hks hown)
            have GD := hide (M.gap_down S R j hjs)
            have DM : Hid (∀ y ∈ S.drop j, x < y) := M.drop_more hjs hgt hhi.out
            clear hks hown
            go_wp2
            go_roundw
            case rel => exact ⟨j, S[j], by omega, by go_num, by rw [← GD.out]; exact R1.out, DM, by simpa using hg2, hbl.setCell hg1 _⟩
            case measure => simp [intOf]
          · have hdn : decide (x < S[j]) = false := by simpa using hgt
            have R1 := hide (gap_store x hks hown)
            have GR0 := hide (GR.out (j + 1) (LOW.out j hjs (by omega)) hhi.out)
            clear hks hown
            go_wp2
            go_roundw
            case rel => exact ⟨i + 1, by omega, by omega, by go_num, by rw [← GR0.out]; exact R1.out, by simpa using hg2, hbl.setCell hg1 _⟩
            case measure => simp [intOf]; omega
    · have hie : xs.length ≤ i := by omega
      rw [M.row_all xs i hie] at hown
      go_wp2
      go_ret
      exact ⟨g, cap', rfl, hg1, hg2, hown, hbl1⟩

end Go.Proofs.YtandimbpealclacDoor
