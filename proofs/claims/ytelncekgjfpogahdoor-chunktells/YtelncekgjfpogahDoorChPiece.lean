/-
  What package chunk's isPiece answers, for all bytes and all parts.
-/
import Derived.Test.YtelncekgjfpogahDoorChSmall
import Derived.RegionTactic
import Derived.BigQuiet
import Derived.Deep.QuietTactic
namespace Go.Proofs.YtelncekgjfpogahDoor
open Go.ChangeShapes Go.WideShapes Go.ChangeAt Go.RowKit Go.Lib
set_option linter.unusedVariables false

theorem rdB_heap {W W' : World} {a : Option Addr} {xs : List Nat} (h : RdB W a xs) (hk : W'.heap = W.heap) : RdB W' a xs :=
  ⟨h.1, h.2.1, fun hn => by
    obtain ⟨b, off, e, hl, hc⟩ := h.2.2 hn
    have hb : W'.heap[b]? = W.heap[b]? := by rw [hk]
    exact ⟨b, off, e, by rw [hk]; exact hl, fun i hi => (World.cell?_of_block (a := ⟨b, _, none⟩) hb).trans (hc i hi)⟩⟩
set_option maxHeartbeats 4000000 in
theorem chpiece_any (a : Option Addr) (bs : List Nat) (ca : Nat) (x y : Int) (w : World) (h : RdB w a bs) :
    Calls Tryd.prog 36 #[.slice a bs.length ca, .agg #[.int .i64 x, .int .i64 y]] w fun e w' => e = .returned (.bool (decide ((bs.length : Int) = x ∧ (M.sumF bs : Int) = y))) ∧ Below w.heap.size w w' := by
  have hm : bs.length ≤ 9223372036854775807 := h.1
  have QQ : Hid (∀ W o, W.heap = (w.alloc o).heap → Calls Tryd.prog 17 #[.slice a bs.length ca] W fun e w' => e = .returned (.int .i64 (M.sumF bs : Nat)) ∧ w' = W) := fun W o hW => chsum_same a bs ca W (rdB_heap (h.below ((Below.refl _ _).alloc (Nat.le_refl _) o)) hW)
  have B0 : Hid (∀ o q, Below w.heap.size w ((w.alloc o).drewN q)) := fun o q => below_drew ((Below.refl _ _).alloc (Nat.le_refl _) _) q (by simp)
  have sl := M.sum_lt bs
  clear h
  generalize M.sumF bs = sm at *
  have SQ : Hid (∀ o W, W.heap = (w.alloc o).heap → Calls Tryd.prog 17 #[.slice a bs.length ca] W fun e w' => e = .returned (.int .i64 (sm : Nat)) ∧ w' = W) := fun o W hW => QQ.out W o hW
  clear QQ
  by_cases q1 : (bs.length : Int) = x
  · subst q1
    by_cases q2 : (sm : Int) = y
    · subst q2
      have E : Hid (decide ((bs.length : Int) = (bs.length : Int) ∧ (sm : Int) = (sm : Int)) = true) := decide_eq_true ⟨rfl, rfl⟩
      rw [E.out]
      go_enter Tryd.func36, Tryd.ntmps36
      go_wp2
      go_quiet ((go_at_call 17; exact Calls.quiet_of_same (SQ.out _ _ rfl)))
      go_wp2
      go_ret
      exact ⟨rfl, B0.out _ _⟩
    · have t2 : ((sm : Int) == y) = false := by simpa using q2
      have E : Hid (decide ((bs.length : Int) = (bs.length : Int) ∧ (sm : Int) = y) = false) := decide_eq_false (fun h => q2 h.2)
      rw [E.out]
      go_enter Tryd.func36, Tryd.ntmps36
      go_wp2
      go_quiet ((go_at_call 17; exact Calls.quiet_of_same (SQ.out _ _ rfl)))
      go_wp2
      go_ret
      exact ⟨rfl, B0.out _ _⟩
  · have E : Hid (decide ((bs.length : Int) = x ∧ (sm : Int) = y) = false) := decide_eq_false (fun h => q1 h.1)
    rw [E.out]
    have t1 : ((bs.length : Int) == x) = false := by simpa using q1
    clear q1
    go_enter Tryd.func36, Tryd.ntmps36
    go_wp2
    go_quiet (fail)
    go_wp2
    go_ret
    exact ⟨rfl, B0.out _ _⟩

end Go.Proofs.YtelncekgjfpogahDoor
