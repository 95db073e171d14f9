/-
  Several texts as one: ShCmp.
-/
import Derived.Test.YtiggkjkjfnlfkaaGreatDoorRunS13
import Derived.Test.YtiggkjkjfnlfkaaGreatDoorRunS8
import Derived.RegionTactic
import Derived.Deep.RegionHeld3
import Derived.Deep.Cut
import Derived.Deep.CutRange
import Derived.Sort.Grow
import Derived.Shelf.Abstract
import Derived.Lib.Small
import Derived.Lib.AppendIntMem
import Derived.Shelf.SlSorted.Search
namespace Go.Proofs.YtiggkjkjfnlfkaaGreatDoor
open Go.ChangeShapes Go.WideShapes Go.ChangeAt Go.RowKit Go.Lib Go.Sort
set_option linter.unusedVariables false
/-- draws, and new blocks, and nothing else -/
def Gro (w w' : World) : Prop := ∃ q os, w' = grow (w.drewN q) os
theorem Gro.refl (w : World) : Gro w w := ⟨0, #[], by rw [grow_empty]; rfl⟩
theorem Gro.trans {a b c : World} (h : Gro a b) (k : Gro b c) : Gro a c := by
  obtain ⟨q, os, rfl⟩ := h
  obtain ⟨q', os', rfl⟩ := k
  exact ⟨q + q', os ++ os', by show grow (grow ((a.drewN q).drewN q') os) os' = _; rw [grow_grow, World.drewN_drewN]⟩
theorem Gro.alloc (w : World) (o : Obj) : Gro w (w.alloc o) := ⟨0, #[o], by rw [alloc_eq_grow]; rfl⟩
theorem Gro.drew (w : World) : Gro w w.drew := ⟨1, #[], by rw [grow_empty]; rfl⟩
theorem Gro.below {w w' : World} (h : Gro w w') {B : Nat} (hB : B ≤ w.heap.size) : RowKit.Below B w w' := by
  obtain ⟨q, os, rfl⟩ := h
  exact below_grow B w hB q os

def M.orI (x y : Int) : Int := if x = 0 then y else x
def M.cmpB (x y : List UInt8) : Int := if Op.bytesLess x y = true then -1 else if x = y then 0 else 1
/-- versions by their names, then by their numbers -/
def M.cmpV (a b : M.Vn) : Int := M.orI (M.cmpB (a.name.map UInt8.ofNat) (b.name.map UInt8.ofNat)) (Lib.compareInt a.num b.num)

set_option maxHeartbeats 2000000 in
theorem cor_any (b c : Nat) (x y : Int) (w : World) (h0 : w.cell? ⟨b, 0, none⟩ = some (.int .i64 x)) (h1 : w.cell? ⟨b, 1, none⟩ = some (.int .i64 y)) :
    Calls Tryz.prog 39 #[.slice (some ⟨b, 0, none⟩) 2 c] w fun e w' => e = .returned (.int .i64 (M.orI x y)) ∧ w' = w := by
  unfold M.orI
  by_cases hx : x = 0
  · rw [if_pos hx]
    have q : (x != 0) = false := by rw [bne_eq_false_iff_eq]; exact hx
    by_cases hy : y = 0
    · have q2 : (y != 0) = false := by rw [bne_eq_false_iff_eq]; exact hy
      rw [hy]
      clear hx hy
      go_enter Tryz.func39, Tryz.ntmps39
      go_wp2
      refine wp_loop_rounds 3 ?_
      rw [rounds_succ]
      go_wp2
      rw [rounds_succ]
      go_wp2
      rw [rounds_succ]
      go_wp2
      go_ret
      exact ⟨rfl, rfl⟩
    · have q2 : (y != 0) = true := by rw [bne_iff_ne]; exact hy
      clear hx hy
      go_enter Tryz.func39, Tryz.ntmps39
      go_wp2
      refine wp_loop_rounds 2 ?_
      rw [rounds_succ]
      go_wp2
      rw [rounds_succ]
      go_wp2
      go_ret
      exact ⟨rfl, rfl⟩
  · rw [if_neg hx]
    have q : (x != 0) = true := by rw [bne_iff_ne]; exact hx
    clear hx
    go_enter Tryz.func39, Tryz.ntmps39
    go_wp2
    refine wp_loop_rounds 1 ?_
    rw [rounds_succ]
    go_wp2
    go_ret
    exact ⟨rfl, rfl⟩

theorem nanS (a : ByteArray) (W : World) : Calls Tryz.prog 86 #[.string a] W fun e w' => e = .returned (.bool false) ∧ w' = W := by
  go_enter Tryz.func86, Tryz.ntmps86
  go_wp2
  go_ret
  exact ⟨by simp, rfl⟩
set_option maxHeartbeats 2000000 in
theorem cmpS_any (a b : ByteArray) (W : World) : Calls Tryz.prog 40 #[.string a, .string b] W fun e w' => e = .returned (.int .i64 (M.cmpB a.toList b.toList)) ∧ w' = W := by
  have N := hide nanS
  unfold M.cmpB
  by_cases h1 : Op.bytesLess a.toList b.toList = true
  · rw [if_pos h1]
    go_enter Tryz.func40, Tryz.ntmps40
    go_wp2_with (go_at_call 86; refine (N.out _ _).mono ?_; rintro e w1 ⟨rfl, ew⟩; have ew2 := ew.symm; subst ew2)
    go_ret
    exact ⟨rfl, rfl⟩
  · have h1' : Op.bytesLess a.toList b.toList = false := by simpa using h1
    rw [if_neg h1]
    by_cases h2 : a.toList = b.toList
    · have h2' : (a.toList == b.toList) = true := by rw [beq_iff_eq]; exact h2
      rw [if_pos h2]
      have H2 := hide h2
      clear h1 h2
      go_enter Tryz.func40, Tryz.ntmps40
      go_wp2_with (go_at_call 86; refine (N.out _ _).mono ?_; rintro e w1 ⟨rfl, ew⟩; have ew2 := ew.symm; subst ew2)
      go_ret
      exact ⟨rfl, rfl⟩
    · have h2' : (a.toList == b.toList) = false := by rw [beq_eq_false_iff_ne]; exact h2
      rw [if_neg h2]
      clear h1
      go_enter Tryz.func40, Tryz.ntmps40
      go_wp2_with (go_at_call 86; refine (N.out _ _).mono ?_; rintro e w1 ⟨rfl, ew⟩; have ew2 := ew.symm; subst ew2)
      go_ret
      exact ⟨rfl, rfl⟩
end Go.Proofs.YtiggkjkjfnlfkaaGreatDoor
