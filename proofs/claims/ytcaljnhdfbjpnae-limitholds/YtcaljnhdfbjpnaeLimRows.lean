/-
  What limit.Rows answers, for every list of nodes and all spans.
-/
import Derived.Test.YtcaljnhdfbjpnaeLimTree
namespace Go.Proofs.Ytcaljnhdfbjpnae
open Go.ChangeShapes Go.WideShapes Go.ChangeAt Go.RowKit Go.Lib
set_option linter.unusedVariables false

theorem new_one (V : World) (v : Value) (t : TypeId) {n : Nat} (hn : n = V.heap.size) : (V.alloc (.cells #[v] t)).cell? ⟨n, 0, none⟩ = some v ∧ (V.alloc (.cells #[v] t)).frozen? ⟨n, 0, none⟩ = false := by
  subst hn
  refine ⟨World.cell?_alloc_at _ _ _ 0 rfl, ?_⟩
  unfold World.frozen?
  rw [show (V.alloc (.cells #[v] t)).heap[V.heap.size]? = some (.cells #[v] t) from heap_alloc_new V _]
  simp
theorem old_one (V : World) (o : Obj) {b : Nat} (hb : b < V.heap.size) {v : Value} (h : V.cell? ⟨b, 0, none⟩ = some v ∧ V.frozen? ⟨b, 0, none⟩ = false) : (V.alloc o).cell? ⟨b, 0, none⟩ = some v ∧ (V.alloc o).frozen? ⟨b, 0, none⟩ = false := by
  have k := (Below.refl V.heap.size V).alloc (Nat.le_refl _) o
  exact ⟨(k.cell (p := ⟨b, 0, none⟩) hb).trans h.1, (k.frozen (p := ⟨b, 0, none⟩) hb).trans h.2⟩
/-- four blocks of one cell each -/
abbrev four (W : World) (v0 v1 v2 v3 : Value) (t u : TypeId) : World := (((W.alloc (.cells #[v0] t)).alloc (.cells #[v1] t)).alloc (.cells #[v2] u)).alloc (.cells #[v3] u)
theorem four_at (W : World) (v0 v1 v2 v3 : Value) (t u : TypeId) :
    ((four W v0 v1 v2 v3 t u).cell? ⟨W.heap.size, 0, none⟩ = some v0 ∧ (four W v0 v1 v2 v3 t u).frozen? ⟨W.heap.size, 0, none⟩ = false) ∧ ((four W v0 v1 v2 v3 t u).cell? ⟨W.heap.size + 1, 0, none⟩ = some v1 ∧ (four W v0 v1 v2 v3 t u).frozen? ⟨W.heap.size + 1, 0, none⟩ = false) ∧
    ((four W v0 v1 v2 v3 t u).cell? ⟨W.heap.size + 1 + 1, 0, none⟩ = some v2 ∧ (four W v0 v1 v2 v3 t u).frozen? ⟨W.heap.size + 1 + 1, 0, none⟩ = false) ∧ ((four W v0 v1 v2 v3 t u).cell? ⟨W.heap.size + 1 + 1 + 1, 0, none⟩ = some v3 ∧ (four W v0 v1 v2 v3 t u).frozen? ⟨W.heap.size + 1 + 1 + 1, 0, none⟩ = false) :=
  ⟨old_one _ _ (by simp <;> omega) (old_one _ _ (by simp <;> omega) (old_one _ _ (by simp) (new_one _ _ _ rfl))), old_one _ _ (by simp <;> omega) (old_one _ _ (by simp) (new_one _ _ _ (by simp))), old_one _ _ (by simp) (new_one _ _ _ (by simp)), new_one _ _ _ (by simp)⟩
theorem four_below (W : World) (o0 o1 o2 o3 : Obj) : Below W.heap.size W ((((W.alloc o0).alloc o1).alloc o2).alloc o3) := ((((Below.refl W.heap.size W).alloc (Nat.le_refl _) o0).alloc (by simp) o1).alloc (by simp <;> omega) o2).alloc (by simp <;> omega) o3
theorem ri_start (W : World) (t u : TypeId) : RI W (W.heap.size + 1 + 1 + 1 + 1) (W.heap.size + 1 + 1) W.heap.size (W.heap.size + 1 + 1 + 1) (W.heap.size + 1) M.ends0 (four W (.slice none 0 0) (.slice none 0 0) (.int .i64 1000001) (.int .i64 (-1000001)) t u) := by
  obtain ⟨a0, a1, a2, a3⟩ := four_at W (.slice none 0 0) (.slice none 0 0) (.int .i64 1000001) (.int .i64 (-1000001)) t u
  have nil : ∀ V, Rd V none [] := fun V => ⟨Nat.zero_le _, fun h => absurd rfl h⟩
  exact ⟨a2.1, a3.1, ⟨none, 0, a0.1, nil _, fun x hx => by cases hx⟩, ⟨none, 0, a1.1, nil _, fun x hx => by cases hx⟩, a2.2, a3.2, a0.2, a1.2, by simp, four_below W _ _ _ _⟩
theorem four_apart (n : Nat) : Apart n (n + 1 + 1 + 1 + 1) (n + 1 + 1) n (n + 1 + 1 + 1) (n + 1) := by constructor <;> omega
theorem four_kept {W W' : World} {v0 v1 v2 v3 : Value} {t u : TypeId} (h : Below (four W v0 v1 v2 v3 t u).heap.size (four W v0 v1 v2 v3 t u) W') : W'.cell? ⟨W.heap.size, 0, none⟩ = some v0 ∧ W'.cell? ⟨W.heap.size + 1, 0, none⟩ = some v1 ∧ W'.frozen? ⟨W.heap.size, 0, none⟩ = false ∧ W'.frozen? ⟨W.heap.size + 1, 0, none⟩ = false := by
  obtain ⟨a0, a1, a2, a3⟩ := four_at W v0 v1 v2 v3 t u
  exact ⟨(h.cell (p := ⟨W.heap.size, 0, none⟩) (by simp <;> omega)).trans a0.1, (h.cell (p := ⟨W.heap.size + 1, 0, none⟩) (by simp <;> omega)).trans a1.1, (h.frozen (p := ⟨W.heap.size, 0, none⟩) (by simp <;> omega)).trans a0.2, (h.frozen (p := ⟨W.heap.size + 1, 0, none⟩) (by simp <;> omega)).trans a1.2⟩
/-- what is handed out is stored where it was -/
theorem same_two {W V : World} {B n : Nat} {pa qa : Option Addr} {A C : List Int} {u0 u1 : Value} (h0 : V.cell? ⟨n, 0, none⟩ = some u0) (h1 : V.cell? ⟨n + 1, 0, none⟩ = some u1) (ra : Rd V pa A) (rb : Rd V qa C) (ba : ∀ x, pa = some x → B ≤ x.block) (bb : ∀ x, qa = some x → B ≤ x.block) (hn : n + 1 < B) (hw : W.heap.size ≤ n) (hb : Below W.heap.size W V) (v0 v1 : Value) :
    ((V.setCell ⟨n, 0, none⟩ v0).setCell ⟨n + 1, 0, none⟩ v1).drew.cell? ⟨n, 0, none⟩ = some v0 ∧ ((V.setCell ⟨n, 0, none⟩ v0).setCell ⟨n + 1, 0, none⟩ v1).drew.cell? ⟨n + 1, 0, none⟩ = some v1 ∧ Rd ((V.setCell ⟨n, 0, none⟩ v0).setCell ⟨n + 1, 0, none⟩ v1).drew pa A ∧ Rd ((V.setCell ⟨n, 0, none⟩ v0).setCell ⟨n + 1, 0, none⟩ v1).drew qa C ∧ Below W.heap.size W ((V.setCell ⟨n, 0, none⟩ v0).setCell ⟨n + 1, 0, none⟩ v1).drew := by
  refine ⟨?_, ?_, ?_, ?_, ((hb.setCell (p := ⟨n, 0, none⟩) hw _).setCell (p := ⟨n + 1, 0, none⟩) (show W.heap.size ≤ n + 1 by omega) _).drew⟩
  · show ((V.setCell ⟨n, 0, none⟩ v0).setCell ⟨n + 1, 0, none⟩ v1).cell? ⟨n, 0, none⟩ = some v0
    rw [far_cell' (by omega)]; exact World.cell?_setCell_same _ _ _ h0
  · show ((V.setCell ⟨n, 0, none⟩ v0).setCell ⟨n + 1, 0, none⟩ v1).cell? ⟨n + 1, 0, none⟩ = some v1
    exact World.cell?_setCell_same (u := u1) _ _ _ (by rw [far_cell' (by omega)]; exact h1)
  · exact rd_far (rd_far ra ba (show n < B by omega)) ba hn
  · exact rd_far (rd_far rb bb (show n < B by omega)) bb hn

set_option maxHeartbeats 4000000 in
set_option maxRecDepth 10000 in
theorem limrows_any : LimRowsGives := by
  intro a bl ts ss ca cl W ht hs
  by_cases h : M.limF ts ss = 0
  · obtain ⟨_, _, e1, e2⟩ := M.lim_at h
    rw [err_nil h, ← e1, ← e2]
    have EL := hide (fun B p a' q b' W0 h0 K => each_rows a bl ts ss ca cl W B p a' q b' W0 ht hs h h0 K)
    have ST := hide (ri_start W 23 3)
    have AP := hide (four_apart W.heap.size)
    clear ht hs h e1 e2
    generalize M.endsK ts ss ts.length = EN at *
    go_enter Try.func7, Try.ntmps7
    go_wp2_with (go_at_call 16; refine (EL.out (W.heap.size + 1 + 1 + 1 + 1) (W.heap.size + 1 + 1) W.heap.size (W.heap.size + 1 + 1 + 1) (W.heap.size + 1) _ ST.out AP.out).mono ?_; rintro e w1 ⟨rfl, hs1⟩; have S1 := hide hs1; obtain ⟨pa, pc, c0, r0, b0⟩ := hs1.c2; obtain ⟨qa, qc, c1, r1, b1⟩ := hs1.c3; have R0 := hide r0; have B0 := hide b0; have R1 := hide r1; have B1 := hide b1; have f0 := hs1.f2; have f1 := hs1.f3; clear hs1 r0 b0 r1 b1)
    have FI := hide (same_two c0 c1 R0.out R1.out B0.out B1.out (by omega) (Nat.le_refl _) S1.out.below (.slice pa EN.2.2.2.1.length pc) (.slice qa EN.2.2.2.2.length qc))
    have m0 := FI.out.1
    have m1 := FI.out.2.1
    go_region
    go_wp2
    refine bodyPost_ret (v := .tuple #[.slice pa EN.2.2.2.1.length pc, .slice qa EN.2.2.2.2.length qc, .nilIface]) (by simp [results, Try.results7, go_sem, m0, m1]) rfl ⟨pa, pc, qa, qc, rfl, FI.out.2.2.1, FI.out.2.2.2.1, FI.out.2.2.2.2⟩
  · obtain ⟨_, _, e1, e2⟩ := M.lim_no h
    rw [err_some h, e1, e2]
    have EB := hide (fun fv W' (hW : Below W.heap.size W W') => each_bad a bl ts ss ca cl fv W' (ht.below hW) (hs.below hW) h)
    have B4 := hide (four_below W)
    have NIL : Hid (∀ V, Rd V none []) := fun V => ⟨Nat.zero_le _, fun h => absurd rfl h⟩
    clear ht hs h e1 e2
    generalize M.limF ts ss = lf at *
    go_enter Try.func7, Try.ntmps7
    go_wp2_with (go_at_call 16; refine (EB.out _ _ (B4.out _ _ _ _)).mono ?_; rintro e w1 ⟨rfl, hb1⟩; have tk := four_kept hb1; have c0 := tk.1; have c1 := tk.2.1; have f0 := tk.2.2.1; have f1 := tk.2.2.2; have k1 := hide (below_on (B4.out _ _ _ _) hb1); clear hb1 tk)
    have BB : Hid (∀ v1 v2, Below W.heap.size W ((w1.setCell ⟨W.heap.size, 0, none⟩ v1).setCell ⟨W.heap.size + 1, 0, none⟩ v2)) := fun v1 v2 => (k1.out.setCell (p := ⟨W.heap.size, 0, none⟩) (Nat.le_refl _) v1).setCell (p := ⟨W.heap.size + 1, 0, none⟩) (Nat.le_succ _) v2
    refine bodyPost_ret (v := .tuple #[.slice none 0 0, .slice none 0 0, .iface 56 (.int .i64 lf)]) (by simp [results, Try.results7, go_sem, c0, c1]) rfl ⟨none, 0, none, 0, rfl, NIL.out _, NIL.out _, BB.out _ _⟩

end Go.Proofs.Ytcaljnhdfbjpnae
