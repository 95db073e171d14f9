/-
  Several texts as one: LimTree.
-/
import Derived.Test.YtelncekgjfpogahGreatDoorRunT14
import Derived.Test.YtelncekgjfpogahGreatDoorRunT20
namespace Go.Proofs.YtelncekgjfpogahGreatDoor
open Go.ChangeShapes Go.WideShapes Go.ChangeAt Go.RowKit Go.Lib
set_option linter.unusedVariables false
theorem M.lim_at {ts : List M.Nd} {ss : List M.Sp} (h : M.limF ts ss = 0) : M.loS (M.endsK ts ss ts.length) = M.limLo ts ss ∧ M.hiS (M.endsK ts ss ts.length) = M.limHi ts ss ∧ (M.endsK ts ss ts.length).2.2.2.1 = M.limA ts ss ∧ (M.endsK ts ss ts.length).2.2.2.2 = M.limB ts ss := by
 have e : M.limV ts ss = M.endsK ts ss ts.length := by unfold M.limV; rw [if_pos h]
 unfold M.loS M.hiS M.limLo M.limHi M.limA M.limB
 rw [e, if_pos (M.lim_some h), if_pos (M.lim_some h)]
 exact ⟨rfl, rfl, rfl, rfl⟩
theorem M.lim_no {ts : List M.Nd} {ss : List M.Sp} (h : M.limF ts ss ≠ 0) : M.limLo ts ss = 0 ∧ M.limHi ts ss = 0 ∧ M.limA ts ss = [] ∧ M.limB ts ss = [] := by
 have e : M.limV ts ss = M.ends0 := by unfold M.limV; rw [if_neg h]
 unfold M.limLo M.limHi M.limA M.limB
 rw [e]
 exact ⟨rfl, rfl, rfl, rfl⟩
theorem ti_start (W : World) (t : TypeId) : TI W (W.heap.size + 1 + 1) W.heap.size (W.heap.size + 1) M.ends0 ((W.alloc (.cells #[.int .i64 1000001] t)).alloc (.cells #[.int .i64 (-1000001)] t)) := by
 have b2 := ((Below.refl W.heap.size W).alloc (Nat.le_refl _) (.cells #[.int .i64 1000001] t)).alloc (by simp) (.cells #[.int .i64 (-1000001)] t)
 have fr : ∀ (V : World) (cs : Array Value), (V.alloc (.cells cs t)).frozen? ⟨V.heap.size, 0, none⟩ = false := fun V cs => by
  unfold World.frozen?
  rw [show (V.alloc (.cells cs t)).heap[V.heap.size]? = some (.cells cs t) from heap_alloc_new V _]
  simp
 refine ⟨?_, ?_, ?_, ?_, by simp, b2⟩
 · refine (((Below.refl _ (W.alloc (.cells #[.int .i64 1000001] t))).alloc (Nat.le_refl _) _).cell (p := ⟨W.heap.size, 0, none⟩) (by simp)).trans ?_
   exact World.cell?_alloc_at _ _ _ 0 rfl
 · exact World.cell?_alloc_at _ _ _ 0 (by simp)
 · refine (((Below.refl _ (W.alloc (.cells #[.int .i64 1000001] t))).alloc (Nat.le_refl _) _).frozen (p := ⟨W.heap.size, 0, none⟩) (by simp)).trans (fr _ _)
 · simp
theorem below_two (W : World) (o1 o2 : Obj) : Below W.heap.size W ((W.alloc o1).alloc o2) := ((Below.refl W.heap.size W).alloc (Nat.le_refl _) o1).alloc (by simp) o2
theorem two_kept {W W' : World} {v1 v2 : Value} {t : TypeId} (h : Below ((W.alloc (.cells #[v1] t)).alloc (.cells #[v2] t)).heap.size ((W.alloc (.cells #[v1] t)).alloc (.cells #[v2] t)) W') : W'.cell? ⟨W.heap.size, 0, none⟩ = some v1 ∧ W'.cell? ⟨W.heap.size + 1, 0, none⟩ = some v2 ∧ W'.frozen? ⟨W.heap.size, 0, none⟩ = false ∧ W'.frozen? ⟨W.heap.size + 1, 0, none⟩ = false := by
 have fr : ∀ (V : World) (cs : Array Value), (V.alloc (.cells cs t)).frozen? ⟨V.heap.size, 0, none⟩ = false := fun V cs => by
  unfold World.frozen?
  rw [show (V.alloc (.cells cs t)).heap[V.heap.size]? = some (.cells cs t) from heap_alloc_new V _]
  simp
 refine ⟨(h.cell (p := ⟨W.heap.size, 0, none⟩) (by simp; omega)).trans ?_, (h.cell (p := ⟨W.heap.size + 1, 0, none⟩) (by simp)).trans ?_, (h.frozen (p := ⟨W.heap.size, 0, none⟩) (by simp; omega)).trans ?_, (h.frozen (p := ⟨W.heap.size + 1, 0, none⟩) (by simp)).trans ?_⟩
 · refine (((Below.refl _ (W.alloc (.cells #[v1] t))).alloc (Nat.le_refl _) _).cell (p := ⟨W.heap.size, 0, none⟩) (by simp)).trans ?_
   exact World.cell?_alloc_at _ _ _ 0 rfl
 · exact World.cell?_alloc_at _ _ _ 0 (by simp)
 · exact (((Below.refl _ (W.alloc (.cells #[v1] t))).alloc (Nat.le_refl _) _).frozen (p := ⟨W.heap.size, 0, none⟩) (by simp)).trans (fr _ _)
 · simp
set_option maxHeartbeats 4000000 in
set_option maxRecDepth 10000 in
theorem limtree_any : LimTreeGives := by
 intro a bl ts ss ca cl W ht hs
 by_cases h : M.limF ts ss = 0
 · obtain ⟨e1, e2, _⟩ := M.lim_at h
   rw [err_nil h, ← e1, ← e2]
   have EL := hide (fun B p q W0 h0 lp lq pq gp gq => each_tree a bl ts ss ca cl W B p q W0 ht hs h h0 lp lq pq gp gq)
   have ST := hide (ti_start W 3)
   clear ht hs h e1 e2
   generalize M.endsK ts ss ts.length = EN at *
   go_enter Tryz.func57, Tryz.ntmps57
   go_wp2_with (go_at_call 89; refine (EL.out (W.heap.size + 1 + 1) W.heap.size (W.heap.size + 1) _ ST.out (by omega) (by omega) (by omega) (by omega) (by omega)).mono ?_; rintro e w1 ⟨rfl, hs1⟩; have S1 := hide hs1; have c0 := hs1.c0; have c1 := hs1.c1; have f0 := hs1.f0; have f1 := hs1.f1; clear hs1)
   have MO := hide (S1.out.more (s' := EN) (by omega) (by omega) (by omega))
   have m0 := MO.out.c0
   have m1 := MO.out.c1
   go_region
   go_wp2
   refine bodyPost_ret (v := .tuple #[.int .i64 (M.loS EN), .int .i64 (M.hiS EN), .nilIface]) (by simp [results, Tryz.results57, go_sem, m0, m1]) rfl ⟨rfl, MO.out.drew.below⟩
 · obtain ⟨e1, e2, _⟩ := M.lim_no h
   rw [err_some h, e1, e2]
   have EB := hide (fun fv W' (hW : Below W.heap.size W W') => each_bad a bl ts ss ca cl fv W' (ht.below hW) (hs.below hW) h)
   have B2 := hide (below_two W)
   clear ht hs h e1 e2
   generalize M.limF ts ss = lf at *
   go_enter Tryz.func57, Tryz.ntmps57
   go_wp2_with (go_at_call 89; refine (EB.out _ _ (B2.out _ _)).mono ?_; rintro e w1 ⟨rfl, hb1⟩; have tk := two_kept hb1; have c0 := tk.1; have c1 := tk.2.1; have f0 := tk.2.2.1; have f1 := tk.2.2.2; have k1 := hide (below_on (B2.out _ _) hb1); clear hb1 tk)
   have BB : Hid (∀ v1 v2, Below W.heap.size W ((w1.setCell ⟨W.heap.size, 0, none⟩ v1).setCell ⟨W.heap.size + 1, 0, none⟩ v2)) := fun v1 v2 => (k1.out.setCell (p := ⟨W.heap.size, 0, none⟩) (Nat.le_refl _) v1).setCell (p := ⟨W.heap.size + 1, 0, none⟩) (Nat.le_succ _) v2
   refine bodyPost_ret (v := .tuple #[.int .i64 0, .int .i64 0, .iface 74 (.int .i64 lf)]) (by simp [results, Tryz.results57, go_sem, c0, c1]) rfl ⟨rfl, BB.out _ _⟩
end Go.Proofs.YtelncekgjfpogahGreatDoor
