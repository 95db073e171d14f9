/-
  Several texts as one: PtClone.
-/
import Derived.Test.YtelncekgjfpogahGreatDoorRunT22
import Derived.Lib.SliceRun
import Derived.OwnWalk
namespace Go.Proofs.YtelncekgjfpogahGreatDoor
open Go.ChangeShapes Go.WideShapes Go.ChangeAt Go.RowKit Go.Lib
set_option linter.unusedVariables false
theorem ptCells_len (l : List M.Pt) : (ptCells l).length = l.length * 2 := by
 induction l with
 | nil => rfl
 | cons p l ih =>
   have e : ptCells (p :: l) = .int .i64 p.1 :: .int .i64 p.2 :: ptCells l := rfl
   rw [e, List.length_cons, List.length_cons, ih, List.length_cons]
   omega
theorem ptCells_one (l : List M.Pt) : ∀ v ∈ ptCells l, v.oneCell' = true := by
 intro v hv
 obtain ⟨p, _, h⟩ := List.mem_flatMap.1 hv
 simp at h
 rcases h with rfl | rfl <;> rfl
theorem pt_src {w : World} {b off : Nat} {l : List M.Pt} (hc : ∀ i, i < l.length → w.cell? ⟨b, off + i * 2, none⟩ = some (.int .i64 (l.getD i (0, 0)).1) ∧ w.cell? ⟨b, off + i * 2 + 1, none⟩ = some (.int .i64 (l.getD i (0, 0)).2)) : ∀ j u, (ptCells l)[j]? = some u → w.cell? ((⟨b, off, none⟩ : Addr).add j) = some u := by
 intro j u hj
 have hl : j < l.length * 2 := by
  have := (List.getElem?_eq_some_iff.1 hj).1
  rwa [ptCells_len] at this
 have add_flat : (⟨b, off, none⟩ : Addr).add j = ⟨b, off + j, none⟩ := by unfold Addr.add; simp
 rw [add_flat]
 have hi : j / 2 < l.length := by omega
 obtain ⟨q0, q1⟩ := ptCells_at l (j / 2) hi
 obtain ⟨d0, d1⟩ := hc (j / 2) hi
 by_cases e : j % 2 = 0
 · have ej : j / 2 * 2 = j := by omega
   rw [ej] at q0 d0
   rw [d0, ← q0, hj]
 · have ej : j / 2 * 2 + 1 = j := by omega
   rw [ej] at q1
   rw [show off + j / 2 * 2 + 1 = off + j by omega] at d1
   rw [d1, ← q1, hj]
set_option maxHeartbeats 1000000 in
set_option maxRecDepth 10000 in
theorem clone_pt (a : Option Addr) (l : List M.Pt) (c : Nat) (w : World) (h : RdP w a l) (h100 : l.length ≤ 100) :
 Calls Tryz.prog 42 #[.slice a l.length c] w fun e w' => ∃ va vc, e = .returned (.slice va l.length vc) ∧ RdP w' va l ∧ (∀ p, va = some p → w.heap.size ≤ p.block ∧ p.block < w'.heap.size) ∧ Below w.heap.size w w' := by
 have q22 : ∀ (w : World) (a : Option Addr) (n c n' c' : Nat), (binOp .eql 43 (.slice a n c) (.slice none n' c')).run Tryz.prog w = .ok (.bool a.isNone) w := fun w a n c n' c' => Lib.run_eql_slice_nil w _ _ a n c n' c' Tryz.underlying43
 cases a with
 | none =>
   have e : l = [] := by
    by_cases hy : l = []
    · exact hy
    · obtain ⟨b, off, e, _⟩ := h.2 hy; cases e
   subst e
   go_enter Tryz.func42, Tryz.ntmps42
   go_wp2
   go_ret
   exact ⟨none, 0, rfl, ⟨Nat.zero_le _, fun h => absurd rfl h⟩, (fun p hp => by cases hp), Below.refl _ _⟩
 | some ad =>
   obtain ⟨i0, hi, hz0, hz1, hz2⟩ := info_parts infoP
   have b0 : Hid (∀ o, Below w.heap.size w (w.alloc o)) := fun o => (Below.refl _ w).alloc (Nat.le_refl _) o
   have S2 : Hid (∀ o, ∀ j u, (ptCells l)[j]? = some u → (w.alloc o).cell? (ad.add j) = some u) := fun o j u hj => by
    by_cases hy : l = []
    · subst hy; simp [ptCells] at hj
    · obtain ⟨b, off, e, hb, hc⟩ := (h.below (b0.out o)).2 hy
      cases e
      exact pt_src hc j u hj
   clear h
   go_enter Tryz.func42, Tryz.ntmps42
   go_wp2_with (at_builtin; (refine wpList_append_own _ rfl (.tmp 5) (.tmp 6) 43 rfl w.heap.size 52 i0 (.agg #[.int .i64 0, .int .i64 0]) 2 16 Tryz.underlying43 hi hz0 hz1 hz2 (by simp [Value.cells]) (by decide) _ 0 [] rfl (World.ownsRow_made w #[] 0 (Nat.le_refl _) (Nat.zero_le _) (by simp)) ad l.length c (ptCells l) rfl (ptCells_len l) (S2.out _) (ptCells_one l) (by unfold maxLen; omega) (by omega) (by simp) ?_); intro v' w1 hown hgrow hnil)
   have hb1 : Below w.heap.size w w1 := ((RowKit.Below.refl _ w).alloc (Nat.le_refl _) _).grown hgrow (by simp) (fun k hk => by cases hk; exact Nat.le_refl _)
   have HO := hide hown
   clear hown hgrow hnil
   go_wp2
   go_ret
   have h := HO.out
   rw [Nat.zero_add, List.nil_append] at h
   obtain ⟨va, vc, e, hr, hp, _⟩ := own_rdP rfl (by unfold maxLen; omega) h
   subst e
   exact ⟨va, vc, rfl, hr, (fun p e => by subst e; exact h.lt p.block rfl), hb1⟩
end Go.Proofs.YtelncekgjfpogahGreatDoor
