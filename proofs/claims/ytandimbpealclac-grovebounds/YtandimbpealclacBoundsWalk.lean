/-
  GroveBounds' own walk: at any two groves and any row it answers true, where grove.Eval, Each, Bounds and Join answer what the chapter says.
-/
import Derived.Test.YtandimbpealclacGroveQ
namespace Go.Proofs.Ytandimbpealclac
open Go.ChangeShapes Go.WideShapes Go.ChangeAt Go.RowKit Go.Lib
set_option linter.unusedVariables false

def BoundsGives : Prop := ∀ (G : Gr) (W : World), RdG W G → Calls Try.prog 16 #[G.v] W fun e w' => e = .returned (.tuple #[.int .i64 (M.boundsV G.m).1, .int .i64 (M.boundsV G.m).2, errV (M.groveF G.m)]) ∧ Below W.heap.size W w'

theorem wrap_in3 (x : Int) (h1 : -9223372036854775808 ≤ x) (h2 : x ≤ 9223372036854775807) : IntKind.i64.wrap x = x := by
  simp [IntKind.wrap, IntKind.bits, IntKind.signed]
  split <;> omega
/-- the cells of two groves that were handed in -/
theorem kept_eight {w W : World} {a0 a1 a2 a3 b0 b1 b2 b3 : Value} {t u : TypeId} (h : Below ((w.alloc (.cells #[a0, a1, a2, a3] t)).alloc (.cells #[b0, b1, b2, b3] u)).heap.size ((w.alloc (.cells #[a0, a1, a2, a3] t)).alloc (.cells #[b0, b1, b2, b3] u)) W) :
    (W.cell? ⟨w.heap.size, 0, none⟩ = some a0 ∧ W.cell? ⟨w.heap.size, 1, none⟩ = some a1 ∧ W.cell? ⟨w.heap.size, 2, none⟩ = some a2 ∧ W.cell? ⟨w.heap.size, 3, none⟩ = some a3) ∧
    (W.cell? ⟨w.heap.size + 1, 0, none⟩ = some b0 ∧ W.cell? ⟨w.heap.size + 1, 1, none⟩ = some b1 ∧ W.cell? ⟨w.heap.size + 1, 2, none⟩ = some b2 ∧ W.cell? ⟨w.heap.size + 1, 3, none⟩ = some b3) := by
  have e : (w.alloc (.cells #[a0, a1, a2, a3] t)).heap.size = w.heap.size + 1 := by simp
  have h2 : Below (w.alloc (.cells #[a0, a1, a2, a3] t)).heap.size (w.alloc (.cells #[a0, a1, a2, a3] t)) W := below_on ((Below.refl _ _).alloc (Nat.le_refl _) _) h
  have := kept_four h
  rw [e] at this
  exact ⟨kept_four h2, this⟩
/-- the grove of two leaves that say 7 -/
abbrev two7W (w : World) (n : Nat) : World := ((w.alloc leaf7Obj).alloc (.cells #[.int .i64 1, .int .i64 3] 3)).alloc (.cells #[.slice (some ⟨n, 0, none⟩) 1 1, .slice (some ⟨n, 0, none⟩) 1 1] 22)
def two7G (n : Nat) : Gr := ⟨0, 2, some ⟨n + 1, 0, none⟩, [1, 3], 2, some ⟨n + 1 + 1, 0, none⟩, [(some ⟨n, 0, none⟩, [(-1, 0, 0, 0, false, 7)], 1), (some ⟨n, 0, none⟩, [(-1, 0, 0, 0, false, 7)], 1)], 2⟩
theorem two7_rdg (w : World) (n : Nat) (hn : n = w.heap.size) : RdG (two7W w n) (two7G n) := by
  subst hn
  have b1 : Below (w.alloc leaf7Obj).heap.size (w.alloc leaf7Obj) (two7W w w.heap.size) := (((Below.refl _ (w.alloc leaf7Obj)).alloc (Nat.le_refl _) _).alloc (by simp) _)
  have b2 : Below ((w.alloc leaf7Obj).alloc (.cells #[.int .i64 1, .int .i64 3] 3)).heap.size ((w.alloc leaf7Obj).alloc (.cells #[.int .i64 1, .int .i64 3] 3)) (two7W w w.heap.size) := (Below.refl _ _).alloc (Nat.le_refl _) _
  refine ⟨?_, by show 2 ≤ maxLen; unfold maxLen; decide, ?_, fun _ => ⟨w.heap.size + 1 + 1, 0, rfl, by simp, fun i hi => ?_⟩⟩
  · refine ⟨by show 2 ≤ maxLen; unfold maxLen; decide, fun _ => ⟨w.heap.size + 1, 0, rfl, by simp, fun i hi => ?_⟩⟩
    have c : ∀ j, ((w.alloc leaf7Obj).alloc (.cells #[.int .i64 1, .int .i64 3] 3)).cell? ⟨w.heap.size + 1, j, none⟩ = (#[Value.int .i64 1, .int .i64 3] : Array Value)[j]? := fun j => World.cell?_alloc_at _ _ _ j (by simp)
    have hi' : i < 2 := hi
    refine (b2.cell (p := ⟨w.heap.size + 1, 0 + i, none⟩) (by simp)).trans ?_
    rw [Nat.zero_add, c]
    rcases i with _ | _ | i
    · rfl
    · rfl
    · omega
  · intro k hk
    have e : k = (some ⟨w.heap.size, 0, none⟩, [(-1, 0, 0, 0, false, 7)], 1) := by simpa [two7G] using hk
    subst e
    exact (leaf7_rdn w).below b1
  · have hi' : i < 2 := hi
    rcases i with _ | _ | i
    · exact World.cell?_alloc_at _ _ _ 0 (by simp)
    · exact World.cell?_alloc_at _ _ _ 1 (by simp)
    · omega
/-- whether a number is among the first k -/
def M.hasK (l : List Int) (v : Int) : Nat → Bool
  | 0 => false
  | k + 1 => M.hasK l v k || (l.getD k 0 == v)
theorem M.hasK_yes {l : List Int} {v : Int} {j : Nat} (e : l.getD j 0 = v) : ∀ n, j < n → M.hasK l v n = true
  | 0, h => by omega
  | n + 1, h => by
    rw [M.hasK]
    by_cases q : j = n
    · subst q; rw [e]; simp
    · rw [M.hasK_yes e n (by omega)]; rfl

set_option maxHeartbeats 16000000 in
set_option maxRecDepth 10000 in
theorem bounds_walk (hE : EvalGives) (hH : EachGives) (hB : BoundsGives) (hJ : JoinGives) (G O : Gr) (b : Option Addr) (xs : List Int) (cb : Nat) (w : World) (hg : RdG w G) (ho : RdG w O) (hr : Rd w b xs) :
    Calls Try.prog 5 #[G.v, O.v, .slice b xs.length cb] w fun e w' => e = .returned (.bool true) ∧ Below w.heap.size w w' := by
  have hm1 : G.ks.length ≤ 9223372036854775807 := hg.2.1
  obtain ⟨gO, hgO⟩ : ∃ o : Obj, o = .cells #[.int .i64 G.f, .int .i64 G.w, .slice G.wa G.ws.length G.wc, .slice G.ta G.ks.length G.tc] 46 := ⟨_, rfl⟩
  obtain ⟨oO, hoO⟩ : ∃ o : Obj, o = .cells #[.int .i64 O.f, .int .i64 O.w, .slice O.wa O.ws.length O.wc, .slice O.ta O.ks.length O.tc] 46 := ⟨_, rfl⟩
  have B0 : Hid (∀ W, Below ((w.alloc gO).alloc oO).heap.size ((w.alloc gO).alloc oO) W → Below w.heap.size w W) := fun W hW => below_on (((Below.refl _ w).alloc (Nat.le_refl _) gO).alloc (by simp) oO) hW
  have CG : Hid (∀ W, Below ((w.alloc gO).alloc oO).heap.size ((w.alloc gO).alloc oO) W → (W.cell? ⟨w.heap.size, 0, none⟩ = some (.int .i64 G.f) ∧ W.cell? ⟨w.heap.size, 1, none⟩ = some (.int .i64 G.w) ∧ W.cell? ⟨w.heap.size, 2, none⟩ = some (.slice G.wa G.ws.length G.wc) ∧ W.cell? ⟨w.heap.size, 3, none⟩ = some (.slice G.ta G.ks.length G.tc)) ∧
      (W.cell? ⟨w.heap.size + 1, 0, none⟩ = some (.int .i64 O.f) ∧ W.cell? ⟨w.heap.size + 1, 1, none⟩ = some (.int .i64 O.w) ∧ W.cell? ⟨w.heap.size + 1, 2, none⟩ = some (.slice O.wa O.ws.length O.wc) ∧ W.cell? ⟨w.heap.size + 1, 3, none⟩ = some (.slice O.ta O.ks.length O.tc))) := fun W hW => by rw [hgO, hoO] at hW; exact kept_eight hW
  have E1 : Hid (Calls Try.prog 14 #[.agg #[.int .i64 0, .int .i64 2, .slice (some ⟨w.heap.size + 1 + 1 + 1, 0, none⟩) 2 2, .slice (some ⟨w.heap.size + 1 + 1 + 1 + 1, 0, none⟩) 2 2], .slice none 0 0] (two7W ((w.alloc gO).alloc oO) (w.heap.size + 1 + 1)) fun e w' => e = .returned (.tuple #[.int .i64 7, .nilIface]) ∧ Below ((w.alloc gO).alloc oO).heap.size ((w.alloc gO).alloc oO) w') := by
    have h := hE (two7G (w.heap.size + 1 + 1)) none [] 0 (two7W ((w.alloc gO).alloc oO) (w.heap.size + 1 + 1)) (two7_rdg _ _ (by simp)) ⟨Nat.zero_le _, fun h => absurd rfl h⟩
    have em : (two7G (w.heap.size + 1 + 1)).m = M.two7 := rfl
    rw [em, M.two7_eval, err_nil M.two7_stand] at h
    refine h.mono ?_
    rintro e w' ⟨rfl, hb⟩
    exact ⟨rfl, below_on ((((Below.refl _ ((w.alloc gO).alloc oO)).alloc (Nat.le_refl _) _).alloc (by simp) _).alloc (by simp) _) hb⟩
  have CE := hide (fun W (hW : Below w.heap.size w W) => hE G b xs cb W (hg.below hW) (hr.below hW))
  have CO := hide (fun W (hW : Below w.heap.size w W) => hE O b xs cb W (ho.below hW) (hr.below hW))
  have CH := hide (fun W (hW : Below w.heap.size w W) => hH G b xs cb W (hg.below hW) (hr.below hW))
  have CB := hide (fun W (hW : Below w.heap.size w W) => hB G W (hg.below hW))
  have CJ := hide (fun W (hW : Below w.heap.size w W) => hJ G O W (hg.below hW) (ho.below hW))
  have CEJ := hide (fun J W (hW : Below w.heap.size w W) (hj : RdG W J) => hE J b xs cb W hj (hr.below hW))
  unfold Gr.v at CE CO CH CB CJ CEJ ⊢
  clear hE hH hB hJ hg ho hr
  by_cases h0 : M.standF G.m xs = 0
  · obtain ⟨Gd, _, _⟩ := M.stand_ok h0
    have EVe : M.eachV G.m xs = M.eachL G.m xs := by unfold M.eachV; rw [if_pos h0]
    have tlen : (M.gt G.m).length = G.ks.length := tl_len G.ks
    have LL : (M.eachV G.m xs).length = G.ks.length := by rw [EVe, M.each_len, tlen]
    have n12 : G.ks.length ≤ 12 := by rw [← tlen]; exact Gd.t12
    have g0 : M.groveF G.m = 0 := (M.good_iff _).2 Gd
    have bd := M.eval_bounds h0
    have q1 : decide (M.evalG G.m xs < (M.boundsV G.m).1) = false := decide_eq_false (by omega)
    have q2 : decide ((M.boundsV G.m).2 < M.evalG G.m xs) = false := decide_eq_false (by omega)
    rw [err_nil h0] at CE CH
    rw [err_nil g0] at CB
    rw [LL] at CH
    have ways : G.w = 1 ∨ G.w = 2 ∨ G.w = 3 := by
      have h1 : 1 ≤ G.w := Gd.w1
      have h3 : G.w ≤ 3 := Gd.w3
      omega
    have VI : G.w = 3 → ∃ j, j < G.ks.length ∧ (M.eachV G.m xs).getD j 0 = M.evalG G.m xs := fun h => by
      have := M.vote_in h0 h
      rw [← EVe, LL] at this
      exact this

    by_cases hj : M.joinF G.m O.m = 0
    · have JV : M.joinV G.m O.m = M.joinG G.m O.m := by unfold M.joinV; rw [if_pos hj]
      have hjo := M.join_ok hj
      rw [err_nil hj, JV] at CJ
      rcases ways with hw | hw | hw
      · have w1 : (G.w == 3) = false := by rw [hw]; decide
        have w2 : (G.w != 1) = false := by rw [hw]; decide
        have ow : O.w = 1 := by have e := hjo.2.2.2.1; have e' : G.w = O.w := e; omega
        have SS := M.join_stand hj h0
        have YS : M.evalG (M.joinG G.m O.m) xs = M.evalG G.m xs + M.evalG O.m xs := M.join_sum hj h0 hw
        have r1 := M.eval_range h0 hw
        have r2 := M.eval_range SS.1 ow
        have wr2 : IntKind.i64.wrap (M.evalG G.m xs + M.evalG O.m xs) = M.evalG G.m xs + M.evalG O.m xs := wrap_in3 _ (by omega) (by omega)
        rw [err_nil SS.1] at CO
        have EJ : Hid (∀ J : Gr, J.m = M.joinG G.m O.m → ∀ W, Below w.heap.size w W → RdG W J → Calls Try.prog 14 #[.agg #[.int .i64 J.f, .int .i64 J.w, .slice J.wa J.ws.length J.wc, .slice J.ta J.ks.length J.tc], .slice b xs.length cb] W fun e w' => e = .returned (.tuple #[.int .i64 (M.evalG G.m xs + M.evalG O.m xs), .nilIface]) ∧ Below W.heap.size W w') := fun J hm W hW hj2 => by
          have := CEJ.out J W hW hj2
          rw [hm, YS, err_nil SS.2] at this
          exact this
        rw [hgO, hoO] at E1 CG B0
        have LLn := LL
        clear hgO hoO h0 Gd EVe tlen CEJ hj g0 bd VI hw JV hjo ow SS YS LL
        obtain ⟨r11, r12⟩ := r1
        obtain ⟨r21, r22⟩ := r2
        generalize M.evalG G.m xs = ev at *
        generalize M.evalG O.m xs = eo at *
        generalize M.eachV G.m xs = L at *
        generalize (M.boundsV G.m).1 = lo at *
        generalize (M.boundsV G.m).2 = hi at *
        generalize M.joinG G.m O.m = JM at *
        go_enter Try.func5, Try.ntmps5
        go_wp2_with (first
          | (go_at_call 14; refine (EJ.out _ HM.out _ k7 (HRG.out.below j7)).mono ?_; rintro e w8 ⟨rfl, hb8⟩)
          | (go_at_call 14; refine (CO.out _ (k6.alloc k6.size _)).mono ?_; rintro e w7 ⟨rfl, hb7⟩; have k7 := below_on (k6.alloc k6.size _) hb7; have j7 := below_on ((Below.refl _ _).alloc (Nat.le_refl _) _) hb7; have z7 := kept_four hb7; have z0 := z7.1; have z1 := z7.2.1; have z2 := z7.2.2.1; have z3 := z7.2.2.2; clear z7)
          | (go_at_call 17; refine (CJ.out _ k4).mono ?_; rintro e w6 ⟨JJ, rfl, hm6, hr6, hb6⟩; have g6 := below_on g4 hb6; have q6 := CG.out _ g6; have f1 := q6.1.2.1; have o0 := q6.2.1; have o1 := q6.2.2.1; have o2 := q6.2.2.2.1; have o3 := q6.2.2.2.2; have k6 := B0.out _ g6; have HM := hide hm6; have HRG := hide hr6; have lt6 : w.heap.size < w6.heap.size := (by have := g6.size; simp at this; omega); have lt7 : w.heap.size + 1 < w6.heap.size := (by have := g6.size; simp at this; omega); clear q6 hm6 hr6)
          | (go_at_call 16; refine (CB.out _ k3).mono ?_; rintro e w4 ⟨rfl, hb4⟩; have g4 := below_on g3 hb4; have q4 := CG.out _ g4; have e0 := q4.1.1; have e1 := q4.1.2.1; have e2 := q4.1.2.2.1; have e3 := q4.1.2.2.2; have p0 := q4.2.1; have p1 := q4.2.2.1; have p2 := q4.2.2.2.1; have p3 := q4.2.2.2.2; have k4 := B0.out _ g4; clear q4)
          | (go_at_call 15; refine (CH.out _ k2).mono ?_; rintro e w3 ⟨ag, cg, rfl, hrd, hb3⟩; have g3 := below_on g2 hb3; have q3 := CG.out _ g3; have s0 := q3.1.1; have s1 := q3.1.2.1; have s2 := q3.1.2.2.1; have s3 := q3.1.2.2.2; have k3 := B0.out _ g3; have HL := hide hrd; clear q3 hrd)
          | (go_at_call 14; refine (CE.out _ k1).mono ?_; rintro e w2 ⟨rfl, hb2⟩; have g2 := below_on g1 hb2; have q2 := CG.out _ g2; have d0 := q2.1.1; have d1 := q2.1.2.1; have d2 := q2.1.2.2.1; have d3 := q2.1.2.2.2; have k2 := B0.out _ g2; clear q2)
          | (go_at_call 14; refine E1.out.mono ?_; rintro e w1 ⟨rfl, hb1⟩; have q1 := CG.out _ hb1; have c0 := q1.1.1; have c1 := q1.1.2.1; have c2 := q1.1.2.2.1; have c3 := q1.1.2.2.2; have k1 := B0.out _ hb1; have g1 := hb1; clear q1))
        go_ret
        exact ⟨rfl, below_on k7 hb8⟩
      · have w1 : (G.w == 3) = false := by rw [hw]; decide
        have w2 : (G.w != 1) = true := by rw [hw]; decide
        rw [hgO, hoO] at E1 CG B0
        have LLn := LL
        clear hgO hoO h0 Gd EVe tlen CEJ hj g0 bd VI hw JV hjo CO LL
        generalize M.evalG G.m xs = ev at *
        generalize M.eachV G.m xs = L at *
        generalize (M.boundsV G.m).1 = lo at *
        generalize (M.boundsV G.m).2 = hi at *
        generalize M.joinG G.m O.m = JM at *
        go_enter Try.func5, Try.ntmps5
        go_wp2_with (first
          | (go_at_call 17; refine (CJ.out _ k4).mono ?_; rintro e w6 ⟨JJ, rfl, hm6, hr6, hb6⟩; have g6 := below_on g4 hb6; have q6 := CG.out _ g6; have f1 := q6.1.2.1; have o0 := q6.2.1; have o1 := q6.2.2.1; have o2 := q6.2.2.2.1; have o3 := q6.2.2.2.2; have k6 := B0.out _ g6; have HM := hide hm6; have HRG := hide hr6; have lt6 : w.heap.size < w6.heap.size := (by have := g6.size; simp at this; omega); have lt7 : w.heap.size + 1 < w6.heap.size := (by have := g6.size; simp at this; omega); clear q6 hm6 hr6)
          | (go_at_call 16; refine (CB.out _ k3).mono ?_; rintro e w4 ⟨rfl, hb4⟩; have g4 := below_on g3 hb4; have q4 := CG.out _ g4; have e0 := q4.1.1; have e1 := q4.1.2.1; have e2 := q4.1.2.2.1; have e3 := q4.1.2.2.2; have p0 := q4.2.1; have p1 := q4.2.2.1; have p2 := q4.2.2.2.1; have p3 := q4.2.2.2.2; have k4 := B0.out _ g4; clear q4)
          | (go_at_call 15; refine (CH.out _ k2).mono ?_; rintro e w3 ⟨ag, cg, rfl, hrd, hb3⟩; have g3 := below_on g2 hb3; have q3 := CG.out _ g3; have s0 := q3.1.1; have s1 := q3.1.2.1; have s2 := q3.1.2.2.1; have s3 := q3.1.2.2.2; have k3 := B0.out _ g3; have HL := hide hrd; clear q3 hrd)
          | (go_at_call 14; refine (CE.out _ k1).mono ?_; rintro e w2 ⟨rfl, hb2⟩; have g2 := below_on g1 hb2; have q2 := CG.out _ g2; have d0 := q2.1.1; have d1 := q2.1.2.1; have d2 := q2.1.2.2.1; have d3 := q2.1.2.2.2; have k2 := B0.out _ g2; clear q2)
          | (go_at_call 14; refine E1.out.mono ?_; rintro e w1 ⟨rfl, hb1⟩; have q1 := CG.out _ hb1; have c0 := q1.1.1; have c1 := q1.1.2.1; have c2 := q1.1.2.2.1; have c3 := q1.1.2.2.2; have k1 := B0.out _ hb1; have g1 := hb1; clear q1))
        go_ret
        exact ⟨rfl, k6.alloc k6.size _⟩
      · have w1 : (G.w == 3) = true := by rw [hw]; decide
        have w2 : (G.w != 1) = true := by rw [hw]; decide
        obtain ⟨vj, vj1, vj2⟩ := VI hw
        have HK := hide (M.hasK_yes vj2 G.ks.length vj1)
        rw [hgO, hoO] at E1 CG B0
        have LLn := LL
        clear hgO hoO h0 Gd EVe tlen CEJ hj g0 bd VI hw JV hjo CO vj1 vj2 LL
        generalize M.evalG G.m xs = ev at *
        generalize M.eachV G.m xs = L at *
        generalize (M.boundsV G.m).1 = lo at *
        generalize (M.boundsV G.m).2 = hi at *
        generalize M.joinG G.m O.m = JM at *
        go_enter Try.func5, Try.ntmps5
        go_wp2_with (first
          | (go_at_call 16; refine (CB.out _ k3).mono ?_; rintro e w4 ⟨rfl, hb4⟩; have g4 := below_on g3 hb4; have q4 := CG.out _ g4; have e0 := q4.1.1; have e1 := q4.1.2.1; have e2 := q4.1.2.2.1; have e3 := q4.1.2.2.2; have p0 := q4.2.1; have p1 := q4.2.2.1; have p2 := q4.2.2.2.1; have p3 := q4.2.2.2.2; have k4 := B0.out _ g4; clear q4)
          | (go_at_call 15; refine (CH.out _ k2).mono ?_; rintro e w3 ⟨ag, cg, rfl, hrd, hb3⟩; have g3 := below_on g2 hb3; have q3 := CG.out _ g3; have s0 := q3.1.1; have s1 := q3.1.2.1; have s2 := q3.1.2.2.1; have s3 := q3.1.2.2.2; have k3 := B0.out _ g3; have HL := hide hrd; clear q3 hrd)
          | (go_at_call 14; refine (CE.out _ k1).mono ?_; rintro e w2 ⟨rfl, hb2⟩; have g2 := below_on g1 hb2; have q2 := CG.out _ g2; have d0 := q2.1.1; have d1 := q2.1.2.1; have d2 := q2.1.2.2.1; have d3 := q2.1.2.2.2; have k2 := B0.out _ g2; clear q2)
          | (go_at_call 14; refine E1.out.mono ?_; rintro e w1 ⟨rfl, hb1⟩; have q1 := CG.out _ hb1; have c0 := q1.1.1; have c1 := q1.1.2.1; have c2 := q1.1.2.2.1; have c3 := q1.1.2.2.2; have k1 := B0.out _ hb1; have g1 := hb1; clear q1))
        clear E1 CE CH CB hb1 hb2 g1 g2 g3 k1 k2 k3 c0 c1 c2 c3 d0 d1 d2 d3 s0 s1 s2 s3
        have HL4 := hide (HL.out.below hb4)
        clear HL
        go_loop [17, 18] (fun u i => ∃ k : Nat, k ≤ G.ks.length ∧ i = .int .i64 k ∧ u = .bool (M.hasK L ev k)) (fun _ i => G.ks.length - (intOf i).toNat)
        case atStart => exact ⟨0, Nat.zero_le _, rfl, rfl⟩
        case round =>
          obtain ⟨k, hk, rfl, rfl⟩ := hrel
          by_cases hlt : k < G.ks.length
          · obtain ⟨bl, ol, rfl, hbl2, hcl⟩ := HL4.out.2 (by intro e; rw [e] at LLn; simp at LLn; omega)
            have cl := hcl k (by rw [LLn]; exact hlt)
            have NX : Hid (M.hasK L ev (k + 1) = (M.hasK L ev k || (L.getD k 0 == ev))) := rfl
            have kz : (k : Int) < (G.ks.length : Int) := by omega
            clear hcl
            generalize L.getD k 0 = z at *
            cases hh : M.hasK L ev k with
            | true =>
              rw [hh] at NX
              clear hh
              go_wp2
              go_round
              case rel => exact ⟨k + 1, by omega, by go_num, by rw [NX.out]; rfl⟩
              case measure => simp [intOf]; omega
            | false =>
              rw [hh] at NX
              clear hh
              go_wp2
              go_round
              case rel => exact ⟨k + 1, by omega, by go_num, by rw [NX.out]; rfl⟩
              case measure => simp [intOf]; omega
          · have E : Hid (M.hasK L ev k = true) := by unfold Hid; rw [show k = G.ks.length by omega]; exact HK.out
            rw [E.out]
            clear HK HL4
            go_wp2_with (go_at_call 17; refine (CJ.out _ k4).mono ?_; rintro e w6 ⟨JJ, rfl, hm6, hr6, hb6⟩; have g6 := below_on g4 hb6; have q6 := CG.out _ g6; have f1 := q6.1.2.1; have k6 := B0.out _ g6; have lt6 : w.heap.size < w6.heap.size := (by have := g6.size; simp at this; omega); clear q6 hm6 hr6)
            go_ret
            exact ⟨rfl, k6.alloc k6.size _⟩
    · rw [err_some hj] at CJ
      rcases ways with hw | hw | hw
      · have w1 : (G.w == 3) = false := by rw [hw]; decide
        have w2 : (G.w != 1) = false := by rw [hw]; decide
        rw [hgO, hoO] at E1 CG B0
        have LLn := LL
        clear hgO hoO h0 Gd EVe tlen CEJ hj g0 bd VI hw CO LL
        generalize M.evalG G.m xs = ev at *
        generalize M.eachV G.m xs = L at *
        generalize (M.boundsV G.m).1 = lo at *
        generalize (M.boundsV G.m).2 = hi at *
        generalize M.joinV G.m O.m = JM at *
        generalize M.joinF G.m O.m = jf at *
        go_enter Try.func5, Try.ntmps5
        go_wp2_with (first
          | (go_at_call 17; refine (CJ.out _ k4).mono ?_; rintro e w6 ⟨JJ, rfl, hm6, hr6, hb6⟩; have g6 := below_on g4 hb6; have q6 := CG.out _ g6; have f1 := q6.1.2.1; have o0 := q6.2.1; have o1 := q6.2.2.1; have o2 := q6.2.2.2.1; have o3 := q6.2.2.2.2; have k6 := B0.out _ g6; have HM := hide hm6; have HRG := hide hr6; have lt6 : w.heap.size < w6.heap.size := (by have := g6.size; simp at this; omega); have lt7 : w.heap.size + 1 < w6.heap.size := (by have := g6.size; simp at this; omega); clear q6 hm6 hr6)
          | (go_at_call 16; refine (CB.out _ k3).mono ?_; rintro e w4 ⟨rfl, hb4⟩; have g4 := below_on g3 hb4; have q4 := CG.out _ g4; have e0 := q4.1.1; have e1 := q4.1.2.1; have e2 := q4.1.2.2.1; have e3 := q4.1.2.2.2; have p0 := q4.2.1; have p1 := q4.2.2.1; have p2 := q4.2.2.2.1; have p3 := q4.2.2.2.2; have k4 := B0.out _ g4; clear q4)
          | (go_at_call 15; refine (CH.out _ k2).mono ?_; rintro e w3 ⟨ag, cg, rfl, hrd, hb3⟩; have g3 := below_on g2 hb3; have q3 := CG.out _ g3; have s0 := q3.1.1; have s1 := q3.1.2.1; have s2 := q3.1.2.2.1; have s3 := q3.1.2.2.2; have k3 := B0.out _ g3; have HL := hide hrd; clear q3 hrd)
          | (go_at_call 14; refine (CE.out _ k1).mono ?_; rintro e w2 ⟨rfl, hb2⟩; have g2 := below_on g1 hb2; have q2 := CG.out _ g2; have d0 := q2.1.1; have d1 := q2.1.2.1; have d2 := q2.1.2.2.1; have d3 := q2.1.2.2.2; have k2 := B0.out _ g2; clear q2)
          | (go_at_call 14; refine E1.out.mono ?_; rintro e w1 ⟨rfl, hb1⟩; have q1 := CG.out _ hb1; have c0 := q1.1.1; have c1 := q1.1.2.1; have c2 := q1.1.2.2.1; have c3 := q1.1.2.2.2; have k1 := B0.out _ hb1; have g1 := hb1; clear q1))
        go_ret
        exact ⟨rfl, k6.alloc k6.size _⟩
      · have w1 : (G.w == 3) = false := by rw [hw]; decide
        have w2 : (G.w != 1) = true := by rw [hw]; decide
        rw [hgO, hoO] at E1 CG B0
        have LLn := LL
        clear hgO hoO h0 Gd EVe tlen CEJ hj g0 bd VI hw CO LL
        generalize M.evalG G.m xs = ev at *
        generalize M.eachV G.m xs = L at *
        generalize (M.boundsV G.m).1 = lo at *
        generalize (M.boundsV G.m).2 = hi at *
        generalize M.joinV G.m O.m = JM at *
        generalize M.joinF G.m O.m = jf at *
        go_enter Try.func5, Try.ntmps5
        go_wp2_with (first
          | (go_at_call 17; refine (CJ.out _ k4).mono ?_; rintro e w6 ⟨JJ, rfl, hm6, hr6, hb6⟩; have g6 := below_on g4 hb6; have q6 := CG.out _ g6; have f1 := q6.1.2.1; have o0 := q6.2.1; have o1 := q6.2.2.1; have o2 := q6.2.2.2.1; have o3 := q6.2.2.2.2; have k6 := B0.out _ g6; have HM := hide hm6; have HRG := hide hr6; have lt6 : w.heap.size < w6.heap.size := (by have := g6.size; simp at this; omega); have lt7 : w.heap.size + 1 < w6.heap.size := (by have := g6.size; simp at this; omega); clear q6 hm6 hr6)
          | (go_at_call 16; refine (CB.out _ k3).mono ?_; rintro e w4 ⟨rfl, hb4⟩; have g4 := below_on g3 hb4; have q4 := CG.out _ g4; have e0 := q4.1.1; have e1 := q4.1.2.1; have e2 := q4.1.2.2.1; have e3 := q4.1.2.2.2; have p0 := q4.2.1; have p1 := q4.2.2.1; have p2 := q4.2.2.2.1; have p3 := q4.2.2.2.2; have k4 := B0.out _ g4; clear q4)
          | (go_at_call 15; refine (CH.out _ k2).mono ?_; rintro e w3 ⟨ag, cg, rfl, hrd, hb3⟩; have g3 := below_on g2 hb3; have q3 := CG.out _ g3; have s0 := q3.1.1; have s1 := q3.1.2.1; have s2 := q3.1.2.2.1; have s3 := q3.1.2.2.2; have k3 := B0.out _ g3; have HL := hide hrd; clear q3 hrd)
          | (go_at_call 14; refine (CE.out _ k1).mono ?_; rintro e w2 ⟨rfl, hb2⟩; have g2 := below_on g1 hb2; have q2 := CG.out _ g2; have d0 := q2.1.1; have d1 := q2.1.2.1; have d2 := q2.1.2.2.1; have d3 := q2.1.2.2.2; have k2 := B0.out _ g2; clear q2)
          | (go_at_call 14; refine E1.out.mono ?_; rintro e w1 ⟨rfl, hb1⟩; have q1 := CG.out _ hb1; have c0 := q1.1.1; have c1 := q1.1.2.1; have c2 := q1.1.2.2.1; have c3 := q1.1.2.2.2; have k1 := B0.out _ hb1; have g1 := hb1; clear q1))
        go_ret
        exact ⟨rfl, k6.alloc k6.size _⟩
      · have w1 : (G.w == 3) = true := by rw [hw]; decide
        have w2 : (G.w != 1) = true := by rw [hw]; decide
        obtain ⟨vj, vj1, vj2⟩ := VI hw
        have HK := hide (M.hasK_yes vj2 G.ks.length vj1)
        rw [hgO, hoO] at E1 CG B0
        have LLn := LL
        clear hgO hoO h0 Gd EVe tlen CEJ hj g0 bd VI hw CO vj1 vj2 LL
        generalize M.evalG G.m xs = ev at *
        generalize M.eachV G.m xs = L at *
        generalize (M.boundsV G.m).1 = lo at *
        generalize (M.boundsV G.m).2 = hi at *
        generalize M.joinV G.m O.m = JM at *
        generalize M.joinF G.m O.m = jf at *
        go_enter Try.func5, Try.ntmps5
        go_wp2_with (first
          | (go_at_call 16; refine (CB.out _ k3).mono ?_; rintro e w4 ⟨rfl, hb4⟩; have g4 := below_on g3 hb4; have q4 := CG.out _ g4; have e0 := q4.1.1; have e1 := q4.1.2.1; have e2 := q4.1.2.2.1; have e3 := q4.1.2.2.2; have p0 := q4.2.1; have p1 := q4.2.2.1; have p2 := q4.2.2.2.1; have p3 := q4.2.2.2.2; have k4 := B0.out _ g4; clear q4)
          | (go_at_call 15; refine (CH.out _ k2).mono ?_; rintro e w3 ⟨ag, cg, rfl, hrd, hb3⟩; have g3 := below_on g2 hb3; have q3 := CG.out _ g3; have s0 := q3.1.1; have s1 := q3.1.2.1; have s2 := q3.1.2.2.1; have s3 := q3.1.2.2.2; have k3 := B0.out _ g3; have HL := hide hrd; clear q3 hrd)
          | (go_at_call 14; refine (CE.out _ k1).mono ?_; rintro e w2 ⟨rfl, hb2⟩; have g2 := below_on g1 hb2; have q2 := CG.out _ g2; have d0 := q2.1.1; have d1 := q2.1.2.1; have d2 := q2.1.2.2.1; have d3 := q2.1.2.2.2; have k2 := B0.out _ g2; clear q2)
          | (go_at_call 14; refine E1.out.mono ?_; rintro e w1 ⟨rfl, hb1⟩; have q1 := CG.out _ hb1; have c0 := q1.1.1; have c1 := q1.1.2.1; have c2 := q1.1.2.2.1; have c3 := q1.1.2.2.2; have k1 := B0.out _ hb1; have g1 := hb1; clear q1))
        clear E1 CE CH CB hb1 hb2 g1 g2 g3 k1 k2 k3 c0 c1 c2 c3 d0 d1 d2 d3 s0 s1 s2 s3
        have HL4 := hide (HL.out.below hb4)
        clear HL
        go_loop [17, 18] (fun u i => ∃ k : Nat, k ≤ G.ks.length ∧ i = .int .i64 k ∧ u = .bool (M.hasK L ev k)) (fun _ i => G.ks.length - (intOf i).toNat)
        case atStart => exact ⟨0, Nat.zero_le _, rfl, rfl⟩
        case round =>
          obtain ⟨k, hk, rfl, rfl⟩ := hrel
          by_cases hlt : k < G.ks.length
          · obtain ⟨bl, ol, rfl, hbl2, hcl⟩ := HL4.out.2 (by intro e; rw [e] at LLn; simp at LLn; omega)
            have cl := hcl k (by rw [LLn]; exact hlt)
            have NX : Hid (M.hasK L ev (k + 1) = (M.hasK L ev k || (L.getD k 0 == ev))) := rfl
            have kz : (k : Int) < (G.ks.length : Int) := by omega
            clear hcl
            generalize L.getD k 0 = z at *
            cases hh : M.hasK L ev k with
            | true =>
              rw [hh] at NX
              clear hh
              go_wp2
              go_round
              case rel => exact ⟨k + 1, by omega, by go_num, by rw [NX.out]; rfl⟩
              case measure => simp [intOf]; omega
            | false =>
              rw [hh] at NX
              clear hh
              go_wp2
              go_round
              case rel => exact ⟨k + 1, by omega, by go_num, by rw [NX.out]; rfl⟩
              case measure => simp [intOf]; omega
          · have E : Hid (M.hasK L ev k = true) := by unfold Hid; rw [show k = G.ks.length by omega]; exact HK.out
            rw [E.out]
            clear HK HL4
            go_wp2_with (go_at_call 17; refine (CJ.out _ k4).mono ?_; rintro e w6 ⟨JJ, rfl, hm6, hr6, hb6⟩; have g6 := below_on g4 hb6; have q6 := CG.out _ g6; have f1 := q6.1.2.1; have k6 := B0.out _ g6; have lt6 : w.heap.size < w6.heap.size := (by have := g6.size; simp at this; omega); clear q6 hm6 hr6)
            go_ret
            exact ⟨rfl, k6.alloc k6.size _⟩
  · rw [err_some h0] at CE
    clear CH CJ CEJ CB CO
    rw [hgO, hoO] at E1 CG B0
    clear hgO hoO
    generalize M.standF G.m xs = sf at *
    generalize M.evalG G.m xs = ev at *
    go_enter Try.func5, Try.ntmps5
    go_wp2_with (first
      | (go_at_call 14; refine (CE.out _ k1).mono ?_; rintro e w2 ⟨rfl, hb2⟩)
      | (go_at_call 14; refine E1.out.mono ?_; rintro e w1 ⟨rfl, hb1⟩; have q1 := CG.out _ hb1; have c0 := q1.1.1; have c1 := q1.1.2.1; have c2 := q1.1.2.2.1; have c3 := q1.1.2.2.2; have k1 := B0.out _ hb1; clear q1))
    go_ret
    exact ⟨rfl, below_on k1 hb2⟩

end Go.Proofs.Ytandimbpealclac
