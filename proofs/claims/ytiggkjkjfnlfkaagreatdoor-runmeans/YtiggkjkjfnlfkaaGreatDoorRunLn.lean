/-
  What package run's lines gives to a loop's body, line by line, for every text.
-/
import Derived.Test.YtiggkjkjfnlfkaaGreatDoorRunMb
import Derived.Test.YtiggkjkjfnlfkaaGreatDoorAtoi
import Derived.RangeFuncNested
import Derived.RangeFuncBound
import Derived.RangeFuncCalls
import Derived.RangeFuncLeaves
import Derived.Shelf.Abstract
import Derived.Shelf.RegionOpen
import Derived.WalkKit
import Derived.OwnWalkIn
import Derived.TacticsInMore
import Derived.LoopNIn
import Derived.LoopIn
namespace Go.Proofs.YtiggkjkjfnlfkaaGreatDoor
open Go.RowKit Go.Shelf Go.Lib
set_option linter.unusedVariables false
attribute [local go_sem] Oper.semAt_some

def strLen : Value → Nat
  | .string t => t.size
  | _ => 0
set_option maxRecDepth 100000 in
set_option maxHeartbeats 4000000 in
theorem lines_stops {α : Type} (enc : α → ByteArray) (xs : List α) (s : ByteArray) (hx : xs.map enc = (M.lnR s.data.toList).map bs) (hs : s.size < 4294967281) (B n₀ : Nat) (m : Int) (w : World) (hB : w.cell? ⟨B, 0, none⟩ = some (.string s)) (hBl : B < w.heap.size) (hm : w.cell? ⟨2, 0, none⟩ = some (.int .i64 m)) (h0 : 2 < n₀) (hn0 : n₀ ≤ w.heap.size) (n : Nat) (hn : 1 ≤ n) :
    SeqStopsK Fence.wide n Tryz.prog 90 #[.pointer (some ⟨B, 0, none⟩)] (fun x => #[Value.string (enc x)]) (Below n₀) (fun ys => ys = xs) (fun pre => pre <+: xs) xs.length w := fun l J Jx W hW hJ hJx hY hJ0 => by
  have hB2 : W.cell? ⟨B, 0, none⟩ = some (.string s) := (hW.cell (p := ⟨B, 0, none⟩) hBl).trans hB
  have hm2 : W.cell? ⟨2, 0, none⟩ = some (.int .i64 m) := (hW.cell (p := ⟨2, 0, none⟩) (by show 2 < w.heap.size; omega)).trans hm
  refine callsIn_of_wp Tryz.func90 rfl trivial ?_ rfl
  simp only [Tryz.ntmps90, List.size_toArray, List.length_cons, List.length_nil, Nat.reduceAdd, Nat.reduceSub, Array.replicate_succ, Array.replicate_zero, List.push_toArray, List.append_toArray, List.nil_append, List.cons_append]
  gi_wp2
  gi_loopw [3, 4] (fun p _ wr => ∃ (pre rest : List α) (t : ByteArray), p = .string t ∧ xs = pre ++ rest ∧ rest.map enc = (M.lnR t.data.toList).map bs ∧ t.size ≤ s.size ∧ wr.cell? ⟨2, 0, none⟩ = some (.int .i64 m) ∧ J pre wr) (fun p _ wr => strLen p)
  case atStart => exact ⟨[], xs, s, rfl, rfl, hx, Nat.le_refl _, hm2, hJ0⟩
  case round =>
    obtain ⟨pre, rest, t, rfl, hx', hr, hts, hmr, hJs⟩ := hrel
    cases rest with
    | nil =>
      have ht : t.data.toList = [] := by
        apply M.lnR_nil
        have := hr.symm
        simpa using this
      have et : t = ⟨#[]⟩ := bs_eq ht
      subst et
      gi_wp2
      go_end0
      exact ⟨⟨_, rfl⟩, .inl (by first | exact hJs | exact ⟨pre, by simp [hx'], hJs⟩)⟩
    | cons x rest =>
      have ht : t.data.toList ≠ [] := fun e => by rw [e] at hr; simp [M.lnR] at hr
      obtain ⟨c1, c2⟩ := M.ln_cut t.data.toList ht
      rw [c1, List.map_cons, List.map_cons] at hr
      injection hr with hr1 hr2
      have q1 : (t.toList == []) = false := by rw [beq_eq_false_iff_ne, toList_data]; exact ht
      have CUT := hide (Tryz.strings_Cut t ⟨#[10]⟩ m wr (by omega) hmr)
      have AB : Hid (∀ k, J pre (wr.drewN k)) := fun k => hJ pre wr (wr.drewN k) none hJs ⟨rfl, rfl, rfl, Nat.le_refl _, fun _ _ _ => rfl⟩ (fun r e => by cases e)
      have PL : pre.length < xs.length := by rw [hx']; simp
      have e1 : bs (Lib.cut t.data.toList [10]).1 = enc x := hr1.symm
      have e2 : (bs (Lib.cut t.data.toList [10]).2.1).data.toList = (Lib.cut t.data.toList [10]).2.1 := bs_list _
      have HR2 : Hid (rest.map enc = (M.lnR (bs (Lib.cut t.data.toList [10]).2.1).data.toList).map bs) := by unfold Hid; rw [e2]; exact hr2
      have HT2 : Hid ((bs (Lib.cut t.data.toList [10]).2.1).size < t.size) := by unfold Hid; rw [bs_size, size_eq]; exact c2
      have CUT2 : Hid (Calls Tryz.prog 91 #[.string t, .string ⟨#[10]⟩] wr fun e w' => e = .returned (.tuple #[.string (enc x), .string (bs (Lib.cut t.data.toList [10]).2.1), .bool (Lib.cut t.data.toList [10]).2.2]) ∧ ∃ n, w' = wr.drewN n) := by
        have := CUT.out
        rw [← e1]
        exact this
      clear CUT hr1 hr2 c1 c2 e1 e2 ht
      generalize bs (Lib.cut t.data.toList [10]).2.1 = t2 at *
      generalize (Lib.cut t.data.toList [10]).2.2 = fd at *
      gi_wp2_with (refine ⟨trivial, ?_⟩; gi_at_call 91; refine (callsIn_wide.2 CUT2.out).mono ?_; rintro e w2 ⟨rfl, k, rfl⟩; obtain ⟨fn, tmps, assign, body, hy, hR⟩ := hY pre x (wr.drewN k) (AB.out k) PL)
      refine hR.mono ?_
      rintro e W3 (⟨rfl, hJ3, hk3⟩ | ⟨rfl, hJx3⟩)
      · have hm3 : W3.cell? ⟨2, 0, none⟩ = some (.int .i64 m) := (hk3.cell (p := ⟨2, 0, none⟩) h0).trans hmr
        gi_wp2
        go_roundw
        case rel => exact ⟨pre ++ [x], rest, t2, rfl, by simp [hx'], HR2.out, by have := HT2.out; omega, hm3, hJ3⟩
        case measure => simp [strLen]; exact HT2.out
      · gi_wp2
        refine bodyPost_ret (results_none rfl _ _ _) rfl ?_
        exact ⟨⟨_, rfl⟩, .inr ⟨pre ++ [x], ⟨rest, by simp [hx']⟩, hJx3⟩⟩

end Go.Proofs.YtiggkjkjfnlfkaaGreatDoor
