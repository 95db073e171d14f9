/-
  Several texts as one: IntClone, NdClone.
-/
import Derived.Test.YtiggkjkjfnlfkaaGreatDoorRunS10
import Derived.Lib.SliceRun
import Derived.OwnWalk
import Derived.Deep.AppendLies
namespace Go.Proofs.YtiggkjkjfnlfkaaGreatDoor
open Go.ChangeShapes Go.WideShapes Go.ChangeAt Go.RowKit Go.Lib
set_option linter.unusedVariables false
set_option maxHeartbeats 1000000 in
set_option maxRecDepth 10000 in
theorem clone_new (b off c : Nat) (xs : List Int) (w : World) (hc : ∀ i, i < xs.length → w.cell? ⟨b, off + i, none⟩ = some (.int .i64 (xs.getD i 0))) (h63 : xs.length ≤ 1000000) (hb : b < w.heap.size) :
    Calls Tryz.prog 88 #[.slice (some ⟨b, off, none⟩) xs.length c] w fun e w' => ∃ v, e = .returned v ∧ w'.ownsRow w.heap.size 3 1 v xs.length (xs.map (Value.int .i64)) ∧ Below w.heap.size w w' := by
  obtain ⟨i0, hi, hz0, hz1, hz2⟩ := info_parts info3
  have SR := hide (src_cells hc)
  have S2 : Hid (∀ o, ∀ j u, (xs.map (Value.int .i64))[j]? = some u → (w.alloc o).cell? ((⟨b, off, none⟩ : Addr).add j) = some u) := fun o j u hj => by
    have := SR.out j u hj
    rw [add_flat] at this ⊢
    exact (((Below.refl w.heap.size w).alloc (Nat.le_refl _) o).cell (p := ⟨b, off + j, none⟩) hb).trans this
  have q22 : ∀ (w : World) (a : Option Addr) (n c n' c' : Nat), (binOp .eql 50 (.slice a n c) (.slice none n' c')).run Tryz.prog w = .ok (.bool a.isNone) w := fun w a n c n' c' => Lib.run_eql_slice_nil w _ _ a n c n' c' Tryz.underlying50
  clear hc SR
  go_enter Tryz.func88, Tryz.ntmps88
  go_wp2_with (at_builtin; (refine wpList_append_own _ rfl (.tmp 5) (.tmp 6) 50 rfl w.heap.size 3 i0 (.int .i64 0) 1 8 Tryz.underlying50 hi hz0 hz1 hz2 rfl (by decide) _ 0 [] rfl (World.ownsRow_made w #[] 0 (Nat.le_refl _) (Nat.zero_le _) (by simp)) ⟨b, off, none⟩ xs.length c (xs.map (Value.int .i64)) rfl (by simp) (S2.out _) (one_cells xs) (by unfold maxLen; omega) (by omega) (by simp) ?_); intro v' w1 hown hgrow hnil)
  have hb1 : Below w.heap.size w w1 := ((RowKit.Below.refl _ w).alloc (Nat.le_refl _) _).grown hgrow (by simp) (fun k hk => by cases hk; exact Nat.le_refl _)
  have HO := hide hown
  clear hown hgrow hnil
  go_wp2
  go_ret
  have h := HO.out
  rw [Nat.zero_add, List.nil_append] at h
  exact ⟨_, rfl, h, hb1⟩
theorem clone_ints (b off c : Nat) (xs : List Int) (w : World) (hc : ∀ i, i < xs.length → w.cell? ⟨b, off + i, none⟩ = some (.int .i64 (xs.getD i 0))) (h63 : xs.length ≤ 1000000) (hb : b < w.heap.size) :
    Calls Tryz.prog 88 #[.slice (some ⟨b, off, none⟩) xs.length c] w fun e w' => ∃ a cap, e = .returned (.slice a xs.length cap) ∧ Rd w' a xs ∧ (∀ p, a = some p → w.heap.size ≤ p.block) ∧ Below w.heap.size w w' := by
  refine (clone_new b off c xs w hc h63 hb).mono ?_
  rintro e w' ⟨v, rfl, h, hb1⟩
  obtain ⟨a, cap, e, hr, _⟩ := own_rd h
  subst e
  refine ⟨a, cap, rfl, hr, fun p hp => ?_, hb1⟩
  subst hp
  exact (h.lt p.block rfl).1
set_option maxHeartbeats 1000000 in
set_option maxRecDepth 10000 in
theorem clone_nodes (b off c : Nat) (ts : List M.Nd) (w : World) (hc : ∀ i, i < ts.length → SixAt w b (off + i * 6) (M.nAt ts i)) (h63 : ts.length ≤ 63) (hb : b < w.heap.size) :
    Calls Tryz.prog 89 #[.slice (some ⟨b, off, none⟩) ts.length c] w fun e w' => ∃ a cap, e = .returned (.slice a ts.length cap) ∧ RdN w' a ts ∧ (∀ p, a = some p → w.heap.size ≤ p.block) ∧ Below w.heap.size w w' := by
  obtain ⟨i0, hi, hz0, hz1, hz2⟩ := info_parts infoN
  have SR := hide (nd_src hc)
  have S2 : Hid (∀ o, ∀ j u, (ndCells ts)[j]? = some u → (w.alloc o).cell? ((⟨b, off, none⟩ : Addr).add j) = some u) := fun o j u hj => by
    have := SR.out j u hj
    rw [add_flat] at this ⊢
    exact (((Below.refl w.heap.size w).alloc (Nat.le_refl _) o).cell (p := ⟨b, off + j, none⟩) hb).trans this
  have q22 : ∀ (w : World) (a : Option Addr) (n c n' c' : Nat), (binOp .eql 110 (.slice a n c) (.slice none n' c')).run Tryz.prog w = .ok (.bool a.isNone) w := fun w a n c n' c' => Lib.run_eql_slice_nil w _ _ a n c n' c' Tryz.underlying110
  clear hc SR
  go_enter Tryz.func89, Tryz.ntmps89
  go_wp2_with (at_builtin; (refine wpList_append_own _ rfl (.tmp 5) (.tmp 6) 110 rfl w.heap.size 113 i0 (.agg #[.int .i64 0, .int .i64 0, .int .i64 0, .int .i64 0, .bool false, .int .i64 0]) 6 48 Tryz.underlying110 hi hz0 hz1 hz2 (by simp [Value.cells]) (by decide) _ 0 [] rfl (World.ownsRow_made w #[] 0 (Nat.le_refl _) (Nat.zero_le _) (by simp)) ⟨b, off, none⟩ ts.length c (ndCells ts) rfl (ndCells_len ts) (S2.out _) (ndCells_one ts) (by unfold maxLen; omega) (by omega) (by simp) ?_); intro v' w1 hown hgrow hnil)
  have hb1 : Below w.heap.size w w1 := ((RowKit.Below.refl _ w).alloc (Nat.le_refl _) _).grown hgrow (by simp) (fun k hk => by cases hk; exact Nat.le_refl _)
  have HO := hide hown
  clear hown hgrow hnil
  go_wp2
  go_ret
  have h := HO.out
  rw [Nat.zero_add, List.nil_append] at h
  obtain ⟨a, cap, e, hr, hp⟩ := own_rdN rfl (by unfold maxLen; omega) h
  subst e
  exact ⟨a, cap, rfl, hr, hp, hb1⟩

set_option maxHeartbeats 1000000 in
set_option maxRecDepth 10000 in
/-- a tree's nodes, copied: a row of our own -/
theorem clone_own (b off c : Nat) (ts : List M.Nd) (w : World) (hc : ∀ i, i < ts.length → SixAt w b (off + i * 6) (M.nAt ts i)) (h63 : ts.length ≤ 63) (h0 : 0 < ts.length) (hb : b < w.heap.size) :
    Calls Tryz.prog 89 #[.slice (some ⟨b, off, none⟩) ts.length c] w fun e w' => ∃ g cap, e = .returned (.slice (some ⟨g, 0, none⟩) ts.length cap) ∧ w'.ownsRow w.heap.size 113 6 (.slice (some ⟨g, 0, none⟩) ts.length cap) ts.length (ndCells ts) ∧ Below w.heap.size w w' := by
  obtain ⟨i0, hi, hz0, hz1, hz2⟩ := info_parts infoN
  have SR := hide (nd_src hc)
  have S2 : Hid (∀ o, ∀ j u, (ndCells ts)[j]? = some u → (w.alloc o).cell? ((⟨b, off, none⟩ : Addr).add j) = some u) := fun o j u hj => by
    have := SR.out j u hj
    rw [add_flat] at this ⊢
    exact (((Below.refl w.heap.size w).alloc (Nat.le_refl _) o).cell (p := ⟨b, off + j, none⟩) hb).trans this
  have q22 : ∀ (w : World) (a : Option Addr) (n c n' c' : Nat), (binOp .eql 110 (.slice a n c) (.slice none n' c')).run Tryz.prog w = .ok (.bool a.isNone) w := fun w a n c n' c' => Lib.run_eql_slice_nil w _ _ a n c n' c' Tryz.underlying110
  clear hc SR
  go_enter Tryz.func89, Tryz.ntmps89
  go_wp2_with (at_builtin; (refine wpList_append_own _ rfl (.tmp 5) (.tmp 6) 110 rfl w.heap.size 113 i0 (.agg #[.int .i64 0, .int .i64 0, .int .i64 0, .int .i64 0, .bool false, .int .i64 0]) 6 48 Tryz.underlying110 hi hz0 hz1 hz2 (by simp [Value.cells]) (by decide) _ 0 [] rfl (World.ownsRow_made w #[] 0 (Nat.le_refl _) (Nat.zero_le _) (by simp)) ⟨b, off, none⟩ ts.length c (ndCells ts) rfl (ndCells_len ts) (S2.out _) (ndCells_one ts) (by unfold maxLen; omega) (by omega) (by simp) ?_); intro v' w1 hown hgrow hnil)
  have hb1 : Below w.heap.size w w1 := ((RowKit.Below.refl _ w).alloc (Nat.le_refl _) _).grown hgrow (by simp) (fun k hk => by cases hk; exact Nat.le_refl _)
  have HO := hide hown
  clear hown hgrow hnil
  go_wp2
  go_ret
  have h := HO.out
  rw [Nat.zero_add, List.nil_append] at h
  obtain ⟨g, cap, e, _, _⟩ := h.form h0
  subst e
  exact ⟨g, cap, rfl, h, hb1⟩
end Go.Proofs.YtiggkjkjfnlfkaaGreatDoor
