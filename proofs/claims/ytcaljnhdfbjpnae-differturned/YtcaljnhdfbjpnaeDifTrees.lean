/-
  What package differ's Moved and Trees answer, for all lists of nodes and numbers of features.
-/
import Derived.Test.YtcaljnhdfbjpnaeDifMove
import Derived.Test.YtcaljnhdfbjpnaeDifP
namespace Go.Proofs.Ytcaljnhdfbjpnae
open Go.ChangeShapes Go.WideShapes Go.ChangeAt Go.RowKit Go.Lib
set_option linter.unusedVariables false

theorem one_box (W : World) (v : Value) (t : TypeId) : Below W.heap.size W (W.alloc (.cells #[v] t)) ∧ (W.alloc (.cells #[v] t)).cell? ⟨W.heap.size, 0, none⟩ = some v ∧ (W.alloc (.cells #[v] t)).frozen? ⟨W.heap.size, 0, none⟩ = false ∧ (W.alloc (.cells #[v] t)).heap.size = W.heap.size + 1 :=
  ⟨(Below.refl W.heap.size W).alloc (Nat.le_refl _) _, World.cell?_alloc_at _ _ _ 0 rfl, by simp, by simp⟩

set_option maxHeartbeats 4000000 in
theorem difmoved_any : DifMovedGives := by
  intro a b ts us ca cb m W ha hb
  have OB := hide (one_box W (.int .i64 0) 3)
  have EM := hide (emoved_any a b ts us ca cb m 38 W.heap.size W (W.alloc (.cells #[.int .i64 0] 3)) (MV W W.heap.size) (mv_doer W W.heap.size) (moved1_any W W.heap.size (ShowsM ts us m)) (enters_of Try.func38 (by kernel_rfl) rfl) ha hb ⟨OB.out.2.1, OB.out.2.2.1, by rw [OB.out.2.2.2]; omega, Nat.le_refl _, fun h => h, fun b h => h.elim, OB.out.1⟩)
  clear ha hb
  by_cases h : M.difF ts us m = 0
  · rw [err_nil h]
    rw [err_nil h] at EM
    have H := hide h
    clear h
    generalize M.difF ts us m = df at *
    generalize M.movedV ts us m = mv at *
    go_enter Try.func14, Try.ntmps14
    go_wp2_with (go_at_call 37; refine EM.out.mono ?_; rintro e w1 ⟨rfl, K, s, hi, hs⟩; have es := hs H.out; subst es; have c1 := hi.cell; have B1 := hide hi.below; clear hi hs)
    go_ret2
    exact ⟨rfl, B1.out⟩
  · have z : M.movedV ts us m = 0 := by unfold M.movedV; rw [if_neg h]
    rw [err_some h, z]
    rw [err_some h] at EM
    clear h z
    generalize M.movedV ts us m = mv at *
    generalize M.difF ts us m = df at *
    go_enter Try.func14, Try.ntmps14
    go_wp2_with (go_at_call 37; refine EM.out.mono ?_; rintro e w1 ⟨rfl, K, s, hi, _⟩; have B1 := hide hi.below; clear hi)
    go_ret2
    exact ⟨rfl, B1.out⟩

set_option maxHeartbeats 4000000 in
theorem diftrees_any : DifTreesGives := by
  intro a b ts us ca cb m W ha hb
  have OB := hide (one_box W (.slice none 0 0) 72)
  have EM := hide (emoved_any a b ts us ca cb m 39 W.heap.size W (W.alloc (.cells #[.slice none 0 0] 72)) (TV W (ShowsM ts us m) W.heap.size) (tv_doer W (ShowsM ts us m) W.heap.size) (trees1_any W W.heap.size (ShowsM ts us m)) (enters_of Try.func39 (by kernel_rfl) rfl) ha hb ⟨by rw [OB.out.2.2.2]; omega, Nat.le_refl _, fun h => h, fun b h => h.elim, OB.out.2.2.1, OB.out.1, ⟨_, [], OB.out.2.1, World.ownsRow_nil _ _ _ _, fun g hg => (by cases hg), fun h0 => absurd h0 (by omega)⟩⟩)
  have NIL : Hid (∀ V, Rd V none []) := fun V => ⟨Nat.zero_le _, fun h => absurd rfl h⟩
  clear ha hb
  by_cases h : M.difF ts us m = 0
  · rw [err_nil h] at EM
    have H := hide h
    by_cases hz : M.movedV ts us m = 0
    · have e5 := M.dift_same h hz
      rw [e5, err_some (show (5 : Int) ≠ 0 by decide)]
      have HZ := hide hz
      clear h hz e5
      generalize M.movedV ts us m = mv at *
      generalize M.difF ts us m = df at *
      go_enter Try.func15, Try.ntmps15
      go_wp2_with (go_at_call 37; refine EM.out.mono ?_; rintro e w1 ⟨rfl, K, s, hi, hs⟩; have es : s = 0 := (hs H.out).trans HZ.out; subst es; obtain ⟨v, Vs, c1, o1, _, _⟩ := hi.rows; obtain ⟨va, vc, rfl⟩ : ∃ va vc, v = .slice va 0 vc := (by rcases o1.2 with ⟨e, _⟩ | ⟨g, cap, cur, e, _⟩ <;> exact ⟨_, _, e⟩); have B1 := hide hi.below; clear hi hs o1)
      go_ret2
      exact ⟨[], none, 0, rfl, NIL.out _, fun e => absurd e (by decide), B1.out⟩
    · have e0 := M.dift_not h hz
      rw [e0, err_nil rfl]
      have pz : 0 < M.movedV ts us m := by omega
      clear h hz e0
      generalize M.movedV ts us m = mv at *
      generalize M.difF ts us m = df at *
      have q1 : ((mv : Int) == 0) = false := by rw [beq_eq_false_iff_ne]; omega
      have pzi : (0 : Int) < (mv : Int) := by omega
      go_enter Try.func15, Try.ntmps15
      go_wp2_with (go_at_call 37; refine EM.out.mono ?_; rintro e w1 ⟨rfl, K, s, hi, hs⟩; have es := hs H.out; subst es; obtain ⟨v, Vs, c1, o1, _, f1⟩ := hi.rows; obtain ⟨pb, pc, L, l1, l2, l3, _⟩ := f1 pz; obtain ⟨g, cap, rfl, _, _⟩ := o1.form pz; have c2 : w1.cell? ⟨g, 0, none⟩ = some (.slice (some ⟨pb, 0, none⟩) L.length pc) := (o1.cellAt 0 (by omega)).trans l1; have R1 := hide l2; have S1 := hide l3; have B1 := hide hi.below; clear hi hs o1 f1 l1 l2 l3)
      go_ret2
      exact ⟨L, some ⟨pb, 0, none⟩, pc, rfl, R1.out, fun _ => S1.out, B1.out⟩
  · have eb := M.dift_bad h
    rw [eb, err_some h]
    rw [err_some h] at EM
    have H := hide h
    clear h eb
    generalize M.movedV ts us m = mv at *
    generalize M.difF ts us m = df at *
    go_enter Try.func15, Try.ntmps15
    go_wp2_with (go_at_call 37; refine EM.out.mono ?_; rintro e w1 ⟨rfl, K, s, hi, _⟩; have B1 := hide hi.below; clear hi)
    go_ret2
    exact ⟨[], none, 0, rfl, NIL.out _, fun e => absurd e H.out, B1.out⟩

end Go.Proofs.Ytcaljnhdfbjpnae
