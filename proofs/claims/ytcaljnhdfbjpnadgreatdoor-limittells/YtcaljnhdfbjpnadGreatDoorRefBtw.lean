/-
  What the reference's Between answers, for a grove that is right and as many values each.
-/
import Derived.Test.YtcaljnhdfbjpnadGreatDoorRefTJ
import Derived.Test.YtcaljnhdfbjpnadGreatDoorSortJ
namespace Go.Proofs.YtcaljnhdfbjpnadGreatDoor
open Go.ChangeShapes Go.WideShapes Go.ChangeAt Go.RowKit Go.Lib
set_option linter.unusedVariables false

set_option maxHeartbeats 8000000 in
set_option maxRecDepth 10000 in
theorem rbtw_any (G : Gr) (a b : Option Addr) (l m : List Int) (ca cb : Nat) (w : World) (h : RdG w G) (ha : Rd w a l) (hb : Rd w b m) (Gd : M.Good G.m) (hl : l.length = G.ks.length) (hm : m.length = G.ks.length)
    (hv : ∀ i, i < l.length → -1000000 ≤ l.getD i 0 ∧ l.getD i 0 ≤ 1000000) (hu : ∀ i, i < m.length → -1000000 ≤ m.getD i 0 ∧ m.getD i 0 ≤ 1000000) :
    Calls Tryz.prog 12 #[G.v, .slice a l.length ca, .slice b m.length cb] w fun e w' => e = .returned (.tuple #[.int .i64 (M.between G.w G.ws l m).1, .int .i64 (M.between G.w G.ws l m).2]) ∧ Below w.heap.size w w' := by
  have tlen : (M.gt G.m).length = G.ks.length := tl_len G.ks
  have n12 : l.length ≤ 12 := by rw [hl, ← tlen]; exact Gd.t12
  have n0 : 0 < l.length := by rw [hl, ← tlen]; exact Gd.t0
  have m12 : m.length ≤ 12 := by rw [hm, ← hl]; exact n12
  have m0 : 0 < m.length := by rw [hm, ← hl]; exact n0
  have T1 := hide (fun W (hW : Below w.heap.size w W) => rtog_any G a l ca W (h.below hW) (ha.below hW) Gd hl hv)
  have T2 := hide (fun W (hW : Below w.heap.size w W) => rtog_any G b m cb W (h.below hW) (hb.below hW) Gd hm hu)
  have S1 : Hid (∀ W, Below w.heap.size w W → Calls Tryz.prog 15 #[.slice a l.length ca] W fun e w' => ∃ g cap, e = .returned (.slice (some ⟨g, 0, none⟩) l.length cap) ∧ w'.cell? ⟨g, 0, none⟩ = some (.int .i64 (M.lowL l)) ∧ Below W.heap.size W w' ∧ g < w'.heap.size) := fun W hW => by
    obtain ⟨ba, oa, rfl, hba, hca⟩ := (ha.below hW).2 (by intro e; rw [e] at n0; simp at n0)
    refine (sorted_some ba oa l ca W n0 (by omega) hba hca).mono ?_
    rintro e w' ⟨g, cap, rfl, _, hg, hown, hbl⟩
    refine ⟨g, cap, rfl, ?_, hbl, hg⟩
    rw [own_at hown (M.sort_length l) 0 (by rw [M.sort_length]; exact n0)]
    unfold M.lowL
    rw [M.getD_at (by rw [M.sort_length]; exact n0)]
  have S2 : Hid (∀ W, Below w.heap.size w W → Calls Tryz.prog 15 #[.slice b m.length cb] W fun e w' => ∃ g cap, e = .returned (.slice (some ⟨g, 0, none⟩) m.length cap) ∧ w'.cell? ⟨g, m.length - 1, none⟩ = some (.int .i64 (M.highL m)) ∧ Below W.heap.size W w' ∧ g < w'.heap.size) := fun W hW => by
    obtain ⟨ba, oa, rfl, hba, hca⟩ := (hb.below hW).2 (by intro e; rw [e] at m0; simp at m0)
    refine (sorted_some ba oa m cb W m0 (by omega) hba hca).mono ?_
    rintro e w' ⟨g, cap, rfl, _, hg, hown, hbl⟩
    refine ⟨g, cap, rfl, ?_, hbl, hg⟩
    rw [own_at hown (M.sort_length m) (m.length - 1) (by rw [M.sort_length]; omega)]
    unfold M.highL
    rw [M.getD_at (by rw [M.sort_length]; omega)]
  have B0 : Hid (∀ o, Below w.heap.size w (w.alloc o)) := fun o => (Below.refl _ w).alloc (Nat.le_refl _) o
  have RB : Hid (M.between G.w G.ws l m = if G.w ≠ 3 then (M.together G.w G.ws l, M.together G.w G.ws m) else (M.lowL l, M.highL m)) := rfl
  unfold Gr.v at T1 T2 ⊢
  clear h ha hb Gd hl hm hv hu tlen
  by_cases hw : G.w = 3
  · have q : (G.w != 3) = false := by rw [bne_eq_false_iff_eq]; exact hw
    have E1 : Hid ((M.between G.w G.ws l m).1 = M.lowL l ∧ (M.between G.w G.ws l m).2 = M.highL m) := by unfold Hid; rw [RB.out, if_neg (by simp [hw])]; exact ⟨rfl, rfl⟩
    rw [E1.out.1, E1.out.2]
    clear RB E1 hw T1 T2
    generalize M.lowL l = lo at *
    generalize M.highL m = hi at *
    have mz : ((m.length : Int) - 1) < (m.length : Int) := by omega
    go_enter Tryz.func12, Tryz.ntmps12
    go_wp2_with (first
      | (go_at_call 15; refine (S2.out _ k1).mono ?_; rintro e w2 ⟨g2, cap2, rfl, x2, hb2, hg2⟩; have y1 := (hb2.cell (p := ⟨g1, 0, none⟩) hg1).trans x1; have y1d : w2.drew.cell? ⟨g1, 0, none⟩ = some (.int .i64 lo) := y1; have x2d : w2.drew.cell? ⟨g2, m.length - 1, none⟩ = some (.int .i64 hi) := x2)
      | (go_at_call 15; refine (S1.out _ (B0.out _)).mono ?_; rintro e w1 ⟨g1, cap1, rfl, x1, hb1, hg1⟩; have k1 := below_on (B0.out _) hb1))
    go_region
    all_goals go_wp2
    all_goals go_ret2
    all_goals exact ⟨rfl, (below_on k1 hb2).drew⟩
  · have q : (G.w != 3) = true := by rw [bne_iff_ne]; exact hw
    have E1 : Hid ((M.between G.w G.ws l m).1 = M.together G.w G.ws l ∧ (M.between G.w G.ws l m).2 = M.together G.w G.ws m) := by unfold Hid; rw [RB.out, if_pos hw]; exact ⟨rfl, rfl⟩
    rw [E1.out.1, E1.out.2]
    clear RB E1 hw S1 S2
    generalize hT1 : M.together G.w G.ws l = t1 at *
    generalize hT2 : M.together G.w G.ws m = t2 at *
    have TT : Hid (∀ (a' : Option Addr) (n' ca' : Nat) (t' : Int), (a' = a ∧ n' = l.length ∧ ca' = ca ∧ t' = t1) ∨ (a' = b ∧ n' = m.length ∧ ca' = cb ∧ t' = t2) → ∀ W, Below w.heap.size w W → Calls Tryz.prog 29 #[.agg #[.int .i64 G.f, .int .i64 G.w, .slice G.wa G.ws.length G.wc, .slice G.ta G.ks.length G.tc], .slice a' n' ca'] W fun e w' => e = .returned (.int .i64 t') ∧ Below W.heap.size W w') := by
      rintro a' n' ca' t' (⟨rfl, rfl, rfl, rfl⟩ | ⟨rfl, rfl, rfl, rfl⟩) W hW
      · exact T1.out W hW
      · exact T2.out W hW
    clear hT1 hT2 T1 T2
    go_enter Tryz.func12, Tryz.ntmps12
    go_wp2_with fail
    go_region_with (go_at_call 29; refine (TT.out _ _ _ _ (by first | exact .inl ⟨rfl, rfl, rfl, rfl⟩ | exact .inr ⟨rfl, rfl, rfl, rfl⟩) _ (by first | exact (B0.out _).drew | exact k1)).mono ?_; rintro e w5 ⟨rfl, hb5⟩; have g1 := below_on (by first | exact (Below.refl _ _).drew | exact g1) hb5; have k1 := below_on (B0.out _) g1; have z := kept_grove g1; have z0 := z.1; have z1 := z.2.1; have z2 := z.2.2.1; have z3 := z.2.2.2; clear z hb5)
    all_goals go_wp2
    all_goals go_ret2
    all_goals exact ⟨rfl, k1⟩

end Go.Proofs.YtcaljnhdfbjpnadGreatDoor
