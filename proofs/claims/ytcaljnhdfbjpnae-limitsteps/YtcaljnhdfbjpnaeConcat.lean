/-
  What the library's slices.Concat answers of two lists of ints: a new row that holds both; of at most a thousand each.
-/
import Derived.Test.YtcaljnhdfbjpnaeBase
import Derived.Test.YtcaljnhdfbjpnaeAppendRd
import Derived.Test.YtcaljnhdfbjpnaeShelf
import Derived.Laws.AppendOwnNone
import Derived.RegionTactic
namespace Go.Proofs.Ytcaljnhdfbjpnae
open Go.ChangeShapes Go.WideShapes Go.ChangeAt Go.RowKit Go.Shelf Go.Lib Go.Sort
set_option linter.unusedVariables false

theorem zero_cells (k : Nat) : (Builtin.zeroCells (Value.int .i64 0).cells k).size = k := by
  unfold Builtin.zeroCells
  rw [Array.size_map, Array.size_range]
  exact Nat.mul_one k

theorem grow_nil (z : Int) (n : Nat) (w : World) (hz : z = n) (hn : n ≤ 1000000) :
    Calls Try.prog 60 #[.slice none 0 0, .int .i64 z] w fun e w' => ∃ v, e = .returned v ∧ w'.ownsRow w.heap.size 3 1 v 0 [] ∧ Below w.heap.size w w' := by
  obtain ⟨i0, hi, hz0, hz1, hz2⟩ := info_parts info3
  subst hz
  by_cases h0 : n = 0
  · subst h0
    refine (Try.slices_Grow_room none 0 0 0 w (Nat.le_refl _) (by omega) (by omega) (Nat.le_refl _)).mono ?_
    rintro e w' ⟨rfl, rfl⟩
    exact ⟨_, rfl, World.ownsRow_nil _ _ _ _, Below.refl _ _⟩
  · refine (Try.slices_Grow_grow i0 (.int .i64 0) hi hz0 (by rw [hz1]; decide) none 0 0 n [] w (Nat.le_refl _) (by omega) (by rw [hz2]; omega) (by omega) (by simp) (fun _ => rfl) (fun a ha => by cases ha)).mono ?_
    rintro e w' ⟨rfl, rfl⟩
    refine ⟨_, rfl, ?_, (Below.refl _ w).drew.alloc (Nat.le_refl _) _⟩
    have hge : 0 + n ≤ grownCap w (0 + n) 0 3 := grownCap_ge w _ _ _
    have hle := grownCap_le_maxLen w (0 + n) 0 3 (by unfold maxLen; omega)
    exact World.ownsRow_made w.drew _ _ (Nat.le_refl _) hle (by rw [Array.size_append, Array.size_append, zero_cells, zero_cells]; show 0 + (0 + n - 0) + _ = _; omega)

set_option maxHeartbeats 2000000 in
set_option maxRecDepth 10000 in
theorem concat_two (B : Nat) (a b : Option Addr) (xs ys : List Int) (ca cb : Nat) (w : World) (hB : B < w.heap.size)
    (h0 : w.cell? ⟨B, 0, none⟩ = some (.slice a xs.length ca)) (h1 : w.cell? ⟨B, 1, none⟩ = some (.slice b ys.length cb))
    (ha : Rd w a xs) (hb : Rd w b ys) (na : a = none → ca = 0) (nb : b = none → cb = 0) (la : xs.length ≤ 1000) (lb : ys.length ≤ 1000) :
    Calls Try.prog 32 #[.slice (some ⟨B, 0, none⟩) 2 2] w fun e w' => ∃ v, e = .returned v ∧ w'.ownsRow w.heap.size 3 1 v (xs ++ ys).length ((xs ++ ys).map (Value.int .i64)) ∧ Below w.heap.size w w' := by
  have HA := hide ha
  have HB := hide hb
  have NA := hide na
  have NB := hide nb
  clear ha hb na nb
  have g0 : ¬ ((xs.length : Int) < 0) := by omega
  have g1 : ¬ ((xs.length : Int) + (ys.length : Int) < 0) := by omega
  go_enter Try.func32, Try.ntmps32
  go_wp2
  refine wp_loop_rounds 3 ?_
  rw [rounds_succ]
  go_wp2
  rw [rounds_succ]
  go_wp2
  rw [rounds_succ]
  go_wp2_with (go_at_call 60; refine (grow_nil _ (xs.length + ys.length) _ (by omega) (by omega)).mono ?_; rintro e w1 ⟨v, rfl, hown, hb1⟩)
  have c0 := (hb1.cell (p := ⟨B, 0, none⟩) hB).trans h0
  have c1 := (hb1.cell (p := ⟨B, 1, none⟩) hB).trans h1
  have HO := hide hown
  clear h0 h1 hown
  refine wp_loop_rounds 3 ?_
  rw [rounds_succ]
  go_wp2_with (at_builtin; refine wpList_append_rd rfl (.tmp 31) (.tmp 32) rfl w.heap.size v 0 [] rfl HO.out a xs ca rfl (HA.out.below hb1) NA.out (by omega) hb1.size ?_)
  intro v2 w2 hown hb2
  have c2 := (hb2.cell (p := ⟨B, 1, none⟩) hB).trans c1
  have HO2 := hide hown
  have hb2' := hb1.trans hb2
  clear c0 c1 hown hb2
  go_wp2
  rw [rounds_succ]
  go_wp2_with (at_builtin; refine wpList_append_rd rfl (.tmp 31) (.tmp 32) rfl w.heap.size v2 xs.length xs rfl HO2.out b ys cb rfl (HB.out.below hb2') NB.out (by omega) hb2'.size ?_)
  intro v3 w3 hown hb3
  have HO3 := hide hown
  clear c2 hown
  go_wp2
  rw [rounds_succ]
  go_wp2
  go_ret
  refine ⟨v3, rfl, ?_, hb2'.trans hb3⟩
  rw [List.map_append, List.length_append]
  exact HO3.out

end Go.Proofs.Ytcaljnhdfbjpnae
