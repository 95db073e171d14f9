/-
  Several texts as one: RefUses, RefGrove, GrSame.
-/
import Derived.Test.YtlloiccodjnkcagGreatDoorRunW11
import Derived.Test.YtlloiccodjnkcagGreatDoorRunW16
import Derived.Test.YtlloiccodjnkcagGreatDoorRunW1
import Derived.Test.YtlloiccodjnkcagGreatDoorRunW9
import Derived.Deep.Cut
import Derived.Deep.CutRange
import Derived.Deep.RegionWith
import Derived.RegionTactic
namespace Go.Proofs.YtlloiccodjnkcagGreatDoor
open Go.ChangeShapes Go.WideShapes Go.ChangeAt Go.RowKit Go.Lib
set_option linter.unusedVariables false

theorem M.cntG_more (f : Int) (l : List (List M.Nd)) {k : Nat} (hk : k < l.length) : M.cntG f (l.take (k + 1)) = M.cntG f (l.take k) + M.cntN f (l.getD k []) := by
  have app : ∀ a b : List (List M.Nd), M.cntG f (a ++ b) = M.cntG f a + M.cntG f b := by
    intro a b
    induction a with
    | nil => show M.cntG f b = 0 + M.cntG f b; omega
    | cons t a ih => show M.cntN f t + M.cntG f (a ++ b) = M.cntN f t + M.cntG f a + M.cntG f b; rw [ih]; omega
  rw [List.take_succ_eq_append_getElem hk, app, M.getD_at hk]
  rfl
theorem M.cntG_le (f : Int) : ∀ l : List (List M.Nd), (∀ t ∈ l, t.length ≤ 63) → M.cntG f l ≤ 63 * l.length
  | [], _ => Nat.le_refl _
  | t :: l, h => by
    have ih := M.cntG_le f l fun x hx => h x (List.mem_cons_of_mem _ hx)
    have ht := h t (List.mem_cons_self ..)
    have := M.cnt_le f t
    show M.cntN f t + M.cntG f l ≤ 63 * (l.length + 1)
    omega

set_option maxHeartbeats 8000000 in
set_option maxRecDepth 10000 in
theorem rusesG_any (G : Gr) (w : World) (h : RdG w G) (hg : M.Good G.m) :
    Calls Tryz.prog 6 #[G.v] w fun e w' => ∃ ag cg, e = .returned (.slice ag (M.usesV (M.gt G.m)).length cg) ∧ RdU w' ag (M.usesV (M.gt G.m)) ∧ (∀ p, ag = some p → w.heap.size ≤ p.block) ∧ Below w.heap.size w w' := by
  have hm2 : G.ks.length ≤ 9223372036854775807 := h.2.1
  have tg : (M.gt G.m).length = G.ks.length := tl_len G.ks
  have g12 : G.ks.length ≤ 12 := by rw [← tg]; exact hg.t12
  have f8 := hg.f8
  have FT : ∀ k (hk : k < G.ks.length), M.Fair G.ks[k].2.1 (M.gf G.m) := fun k hk => by
    have hm : G.ks[k].2.1 ∈ M.gt G.m := List.mem_map.2 ⟨_, List.getElem_mem hk, rfl⟩
    exact (M.tree_ok (hg.trees _ hm)).1
  have T63 : ∀ t ∈ M.gt G.m, t.length ≤ 63 := fun t ht => (M.tree_ok (hg.trees _ ht)).1.1
  have NF : Hid (∀ k (hk : k < G.ks.length) j, j < G.ks[k].2.1.length → M.nf (M.nAt G.ks[k].2.1 j) = -1 ∨ (0 ≤ M.nf (M.nAt G.ks[k].2.1 j) ∧ M.nf (M.nAt G.ks[k].2.1 j) < 8)) := fun k hk j hj => by
    by_cases z : M.nf (M.nAt G.ks[k].2.1 j) = -1
    · exact .inl z
    · have := M.node_ask ((FT k hk).2.2.2.2.1 j hj) z
      exact .inr (by omega)
  have CB : Hid (∀ k i, (0 : Int) ≤ ((M.cntG (i : Nat) ((M.gt G.m).take k) : Nat) : Int) ∧ ((M.cntG (i : Nat) ((M.gt G.m).take k) : Nat) : Int) ≤ 1000) := fun k i => by
    have := M.cntG_le (i : Nat) ((M.gt G.m).take k) (fun t ht => T63 t (List.mem_of_mem_take ht))
    rw [List.length_take, tg] at this
    omega
  have CM : Hid (∀ k (hk : k < G.ks.length), M.useF (fun i => ((M.cntG (i : Nat) ((M.gt G.m).take k) : Nat) : Int) + (M.cntN (i : Nat) G.ks[k].2.1 : Nat)) (fun _ => 0) 8 = M.useF (fun i => ((M.cntG (i : Nat) ((M.gt G.m).take (k + 1)) : Nat) : Int)) (fun _ => 0) 8) := fun k hk => by
    congr 1
    funext i
    rw [M.cntG_more _ _ (by rw [tg]; exact hk), show (M.gt G.m).getD k [] = G.ks[k].2.1 from tl_at G.ks hk]
    omega
  have C0 : Hid (M.useF (fun _ => 0) (fun _ => 0) 8 = M.useF (fun i => ((M.cntG (i : Nat) ((M.gt G.m).take 0) : Nat) : Int)) (fun _ => 0) 8) := by unfold Hid; simp [M.cntG]
  have CE : Hid (M.useF (fun i => ((M.cntG (i : Nat) ((M.gt G.m).take G.ks.length) : Nat) : Int)) (fun _ => 0) 8 = M.useL (M.gt G.m)) := by
    unfold Hid; rw [← tg, List.take_length]; rfl
  have HT := hide h.2
  have L63 : Hid (∀ k (hk : k < G.ks.length), G.ks[k].2.1.length ≤ 63 ∧ 0 < G.ks[k].2.1.length) := fun k hk => ⟨(FT k hk).1, (FT k hk).2.1⟩
  have UV : Hid (M.rankU false (M.useL (M.gt G.m)) = M.usesV (M.gt G.m)) := rfl
  have UL : Hid ((M.useL (M.gt G.m)).length = 8) := by unfold Hid M.useL; simp
  obtain ⟨w1, hw1⟩ : ∃ W, W = w.alloc (.cells #[.int .i64 G.f, .int .i64 G.w, .slice G.wa G.ws.length G.wc, .slice G.ta G.ks.length G.tc] 25) := ⟨_, rfl⟩
  have K1 : Hid (Below w.heap.size w w1) := by unfold Hid; rw [hw1]; exact (Below.refl _ w).alloc (Nat.le_refl _) _
  have s1 : w1.heap.size = w.heap.size + 1 := by rw [hw1]; simp
  have S1 := hide s1
  have N1 : Hid (∀ W, Below w1.heap.size w1 W → W.cell? ⟨w.heap.size, 3, none⟩ = some (.slice G.ta G.ks.length G.tc)) := fun W hW => (new_kept hw1 hW).1 3 _ rfl
  have HW := hide hw1
  have BL := hide (rblank_any w1)
  obtain ⟨V, hV⟩ : ∃ V, V = M.usesV (M.gt G.m) := ⟨_, rfl⟩
  rw [← hV] at UV ⊢
  clear h hg hV hw1 s1 T63 FT tg
  unfold Gr.v
  go_enter Tryz.func6, Tryz.ntmps6
  go_upto_region 1 with fail
  rw [← HW.out]
  go_wp2_with (go_at_call 21; refine BL.out.mono ?_; rintro e w2 ⟨g, c, rfl, ho2, hb2⟩; have O2 := hide ho2; have K2 := hide hb2; clear ho2 hb2)
  rw [C0.out] at O2
  clear BL HW C0
  go_loopw [4] (fun i wq => ∃ k : Nat, k ≤ G.ks.length ∧ i = .int .i64 k ∧ Hid (wq.ownsRow w1.heap.size 50 3 (.slice (some ⟨g, 0, none⟩) 8 c) 8 (usCells (M.useF (fun i => ((M.cntG (i : Nat) ((M.gt G.m).take k) : Nat) : Int)) (fun _ => 0) 8))) ∧ Hid (Below w1.heap.size w1 wq)) (fun i _ => G.ks.length - (intOf i).toNat)
  case atStart => exact ⟨0, Nat.zero_le _, rfl, O2, K2⟩
  case round =>
    clear O2 K2
    obtain ⟨k, hk, rfl, HO, K⟩ := hrel
    have bx := N1.out wr K.out
    by_cases hlt : k < G.ks.length
    · have kz : (k : Int) < (G.ks.length : Int) := by omega
      have KW := hide (below_on K1.out K.out)
      obtain ⟨bt, ot, ea, hbt, hct⟩ := (HT.out.below KW.out).2.2 (by intro e; rw [e] at hlt; simp at hlt)
      have ct := hct k hlt
      have nd := HT.out.2.1 G.ks[k] (List.getElem_mem hlt)
      have gl := (HO.out.lt g rfl).1
      have US := hide (ruses_any w1.heap.size G.ks[k].1 G.ks[k].2.1 G.ks[k].2.2 _ (fun _ => 0) g c wr (nd.below KW.out) (L63.out k hlt).1 (NF.out k hlt) HO.out (CB.out k) (fun p hp e => by
        have l0 := (L63.out k hlt).2
        obtain ⟨b, off, e2, hb, _⟩ := nd.2 (by intro z; rw [z] at l0; simp at l0)
        rw [e2] at hp
        cases hp
        have e' : b = g := e
        have := S1.out
        omega))
      rw [CM.out k hlt] at US
      unfold tV at ct
      rw [ea] at bx
      clear hct HO NF CB CM CE HT L63 UV UL N1 ea
      generalize G.ks[k].2.1.length = tn at *
      generalize G.ks[k].2.2 = tc' at *
      generalize G.ks[k].1 = ta' at *
      go_wp2_with (go_at_call 22; refine US.out.mono ?_; rintro e w3 ⟨rfl, ho3, hg3⟩; have O3 := hide ho3; have K3 : Hid (Below w1.heap.size w1 w3) := (K.out.grown hg3 K.out.size (fun q hq => by cases hq; exact gl)); clear ho3 hg3)
      go_roundw
      case rel => exact ⟨k + 1, by omega, by go_num, O3, K3⟩
      case measure => simp [intOf]; omega
    · have ke : k = G.ks.length := by omega
      have kz : ¬ ((k : Int) < (G.ks.length : Int)) := by omega
      have ho := HO.out
      rw [ke, CE.out] at ho
      obtain ⟨ra, rc, re, hr, _⟩ := own_rdU UL.out (by unfold maxLen; omega) ho
      have RU : Hid (RdU wr (some ⟨g, 0, none⟩) (M.useL (M.gt G.m))) := by rw [Value.slice.injEq] at re; rw [re.1]; exact hr
      have RK := hide (rranked_any (some ⟨g, 0, none⟩) (M.useL (M.gt G.m)) c false wr RU.out (by rw [UL.out]; exact Nat.le_refl _))
      rw [UV.out, UL.out] at RK
      have KW := hide (below_on K1.out K.out)
      clear ho hr re ke HO NF CB CM CE HT L63 UV UL N1 RU
      go_wp2_with (go_at_call 23; refine RK.out.mono ?_; rintro e w4 ⟨ag, cg, rfl, hr4, hf4, hb4⟩; have R4 := hide hr4; have K4 := hide (below_on KW.out hb4); have F4 : Hid (∀ p, ag = some p → w.heap.size ≤ p.block) := (fun p hp => Nat.le_trans KW.out.size (hf4 p hp)); clear hr4 hf4 hb4)
      go_ret
      exact ⟨ag, cg, rfl, R4.out, F4.out, K4.out⟩

end Go.Proofs.YtlloiccodjnkcagGreatDoor

namespace Go.Proofs.YtlloiccodjnkcagGreatDoor
open Go.ChangeShapes Go.WideShapes Go.ChangeAt Go.RowKit Go.Lib
set_option linter.unusedVariables false

theorem kept_grove {w W : World} {a0 a1 a2 a3 : Value} {t : TypeId} (h : Below (w.alloc (.cells #[a0, a1, a2, a3] t)).heap.size (w.alloc (.cells #[a0, a1, a2, a3] t)) W) :
    W.cell? ⟨w.heap.size, 0, none⟩ = some a0 ∧ W.cell? ⟨w.heap.size, 1, none⟩ = some a1 ∧ W.cell? ⟨w.heap.size, 2, none⟩ = some a2 ∧ W.cell? ⟨w.heap.size, 3, none⟩ = some a3 := by
  have hs : w.heap.size < (w.alloc (.cells #[a0, a1, a2, a3] t)).heap.size := by simp
  exact ⟨(h.cell (p := ⟨w.heap.size, 0, none⟩) hs).trans (World.cell?_alloc_at _ _ _ 0 rfl), (h.cell (p := ⟨w.heap.size, 1, none⟩) hs).trans (World.cell?_alloc_at _ _ _ 1 rfl), (h.cell (p := ⟨w.heap.size, 2, none⟩) hs).trans (World.cell?_alloc_at _ _ _ 2 rfl), (h.cell (p := ⟨w.heap.size, 3, none⟩) hs).trans (World.cell?_alloc_at _ _ _ 3 rfl)⟩

theorem M.grove_range {g : M.Gv} (h : M.gf g < 0 ∨ 8 < M.gf g ∨ M.gw g < 1 ∨ 3 < M.gw g) : M.groveF g = 1 := by unfold M.groveF; rw [if_pos h]

set_option maxHeartbeats 16000000 in
set_option maxRecDepth 10000 in
theorem rgrove_any (G : Gr) (w : World) (h : RdG w G) :
    Calls Tryz.prog 5 #[G.v] w fun e w' => e = .returned (.int .i64 (M.groveF G.m)) ∧ Below w.heap.size w w' := by
  have hm1 : G.ks.length ≤ 9223372036854775807 := h.2.1
  have hm2 : G.ws.length ≤ 9223372036854775807 := h.1.1
  have HG := hide h
  have tlen : (M.gt G.m).length = G.ks.length := tl_len G.ks
  have B0 : Hid (∀ o, Below w.heap.size w (w.alloc o)) := fun o => (Below.refl _ w).alloc (Nat.le_refl _) o
  clear h
  obtain ⟨gO, hgO⟩ : ∃ o : Obj, o = .cells #[.int .i64 G.f, .int .i64 G.w, .slice G.wa G.ws.length G.wc, .slice G.ta G.ks.length G.tc] 25 := ⟨_, rfl⟩
  have HGO := hide hgO
  clear hgO
  unfold Gr.v
  by_cases hR : M.gf G.m < 0 ∨ 8 < M.gf G.m ∨ M.gw G.m < 1 ∨ 3 < M.gw G.m
  · rw [M.grove_range hR]
    have hR' : G.f < 0 ∨ 8 < G.f ∨ G.w < 1 ∨ 3 < G.w := hR
    clear hR tlen HG

    by_cases c0 : G.f < 0
    · have q0 : decide (G.f < 0) = true := decide_eq_true (by omega)
      clear hR' c0
      go_enter Tryz.func5, Tryz.ntmps5
      go_wp2
      go_ret
      exact ⟨rfl, B0.out _⟩
    · by_cases c1 : 8 < G.f
      · have q0 : decide (G.f < 0) = false := decide_eq_false (by omega)
        have q1 : decide (8 < G.f) = true := decide_eq_true (by omega)
        clear hR' c0 c1
        go_enter Tryz.func5, Tryz.ntmps5
        go_wp2
        go_ret
        exact ⟨rfl, B0.out _⟩
      · by_cases c2 : G.w < 1
        · have q0 : decide (G.f < 0) = false := decide_eq_false (by omega)
          have q1 : decide (8 < G.f) = false := decide_eq_false (by omega)
          have q2 : decide (G.w < 1) = true := decide_eq_true (by omega)
          clear hR' c0 c1 c2
          go_enter Tryz.func5, Tryz.ntmps5
          go_wp2
          go_ret
          exact ⟨rfl, B0.out _⟩
        · have q0 : decide (G.f < 0) = false := decide_eq_false (by omega)
          have q1 : decide (8 < G.f) = false := decide_eq_false (by omega)
          have q2 : decide (G.w < 1) = false := decide_eq_false (by omega)
          have q3 : decide (3 < G.w) = true := decide_eq_true (by omega)
          clear hR' c0 c1 c2
          go_enter Tryz.func5, Tryz.ntmps5
          go_wp2
          go_ret
          exact ⟨rfl, B0.out _⟩
  · have q0 : decide (G.f < 0) = false := decide_eq_false (fun c => hR (.inl c))
    have q1 : decide (8 < G.f) = false := decide_eq_false (fun c => hR (.inr (.inl c)))
    have q2 : decide (G.w < 1) = false := decide_eq_false (fun c => hR (.inr (.inr (.inl c))))
    have q3 : decide (3 < G.w) = false := decide_eq_false (fun c => hR (.inr (.inr (.inr c))))
    have E0 : M.groveF G.m = if G.ks.length = 0 then 5 else if 12 < G.ks.length then 4 else if G.ws.length ≠ G.ks.length then 3 else if G.ws.any M.wBad = true then 1 else M.treesF G.f (tl G.ks) := by
      rw [← tlen]; unfold M.groveF; rw [if_neg hR]; rfl
    rw [E0]
    clear hR E0
    by_cases t0 : G.ks.length = 0
    · rw [if_pos t0]
      rw [t0]
      clear tlen HG t0 hm1
      go_enter Tryz.func5, Tryz.ntmps5
      go_wp2
      go_ret
      exact ⟨rfl, B0.out _⟩
    · rw [if_neg t0]
      have q4 : ((G.ks.length : Int) == 0) = false := by rw [beq_eq_false_iff_ne]; omega
      have t0' : 0 < G.ks.length := by omega
      by_cases t12 : 12 < G.ks.length
      · rw [if_pos t12]
        have q5 : decide (12 < (G.ks.length : Int)) = true := decide_eq_true (by omega)
        clear tlen HG t0 t12
        go_enter Tryz.func5, Tryz.ntmps5
        go_wp2
        go_ret
        exact ⟨rfl, B0.out _⟩
      · rw [if_neg t12]
        have q5 : decide (12 < (G.ks.length : Int)) = false := decide_eq_false (by omega)
        by_cases tw : G.ws.length ≠ G.ks.length
        · rw [if_pos tw]
          have q6 : ((G.ws.length : Int) != (G.ks.length : Int)) = true := by rw [bne_iff_ne]; omega
          clear tlen HG t0 t12 tw
          go_enter Tryz.func5, Tryz.ntmps5
          go_wp2
          go_ret
          exact ⟨rfl, B0.out _⟩
        · rw [if_neg tw]
          have tw' : G.ws.length = G.ks.length := by omega
          have n12 : G.ks.length ≤ 12 := by omega
          have WB : Hid (∀ k (h : k < G.ws.length), M.wBad (G.ws.getD k 0) = true → G.ws.any M.wBad = true) := fun k h e => List.any_eq_true.2 ⟨_, by rw [M.getD_at h]; exact List.getElem_mem h, e⟩
          have WN : Hid ((∀ k, k < G.ws.length → M.wBad (G.ws.getD k 0) = false) → G.ws.any M.wBad = false) := fun h => by
            cases e : G.ws.any M.wBad with
            | false => rfl
            | true =>
              obtain ⟨x, hx, e2⟩ := List.any_eq_true.1 e
              obtain ⟨i, hi, rfl⟩ := List.getElem_of_mem hx
              have := h i hi
              rw [M.getD_at hi, e2] at this
              cases this
          have TA : Hid (∀ k, k < G.ks.length → (∀ j, j < k → (M.treeF ((tl G.ks).getD j []) G.f).2 = 0) → (M.treeF ((tl G.ks).getD k []) G.f).2 ≠ 0 → M.treesF G.f (tl G.ks) = (M.treeF ((tl G.ks).getD k []) G.f).2) := fun k hk h hn => M.trees_at (by rw [tl_len]; exact hk) h hn
          have TN : Hid ((∀ j, j < G.ks.length → (M.treeF ((tl G.ks).getD j []) G.f).2 = 0) → M.treesF G.f (tl G.ks) = 0) := fun h => M.trees_all (fun j hj => h j (by rw [tl_len] at hj; exact hj))
          have TL : Hid (∀ k (h : k < G.ks.length), (tl G.ks).getD k [] = G.ks[k].2.1) := fun k h => tl_at G.ks h
          have RW : Hid (∀ W, Below w.heap.size w W → Rd W G.wa G.ws) := fun W hW => (HG.out.below hW).1
          have RT : Hid (∀ W, Below w.heap.size w W → RdT W G.ta G.ks) := fun W hW => (HG.out.below hW).2
          have LW := hide tw'
          have q6 : ((G.ws.length : Int) != (G.ks.length : Int)) = false := by rw [bne_eq_false_iff_eq]; omega
          clear tlen HG t0 t12 tw tw'
          generalize hAB : G.ws.any M.wBad = AB at *
          have HAB := hide hAB
          clear hAB
          generalize M.treesF G.f (tl G.ks) = TF at *
          generalize hRV : (if AB = true then (1 : Int) else TF) = RV
          have HRV := hide hRV
          clear hRV
          have KG : Hid (∀ W, Below (w.alloc gO).heap.size (w.alloc gO) W → Below w.heap.size w W ∧ W.cell? ⟨w.heap.size, 0, none⟩ = some (.int .i64 G.f) ∧ W.cell? ⟨w.heap.size, 2, none⟩ = some (.slice G.wa G.ws.length G.wc) ∧ W.cell? ⟨w.heap.size, 3, none⟩ = some (.slice G.ta G.ks.length G.tc)) := fun W hW => by
            refine ⟨below_on ((Below.refl _ w).alloc (Nat.le_refl _) gO) hW, ?_⟩
            rw [HGO.out] at hW
            exact ⟨(kept_grove hW).1, (kept_grove hW).2.2.1, (kept_grove hW).2.2.2⟩
          rw [HGO.out] at KG
          go_enter Tryz.func5, Tryz.ntmps5
          go_wp2
          go_loopw [3] (fun i wr => ∃ k : Nat, k ≤ G.ws.length ∧ i = .int .i64 k ∧ Hid (∀ j, j < k → M.wBad (G.ws.getD j 0) = false) ∧ Hid (Below (w.alloc (.cells #[.int .i64 G.f, .int .i64 G.w, .slice G.wa G.ws.length G.wc, .slice G.ta G.ks.length G.tc] 25)).heap.size (w.alloc (.cells #[.int .i64 G.f, .int .i64 G.w, .slice G.wa G.ws.length G.wc, .slice G.ta G.ks.length G.tc] 25)) wr)) (fun i _ => G.ws.length - (intOf i).toNat)
          case atStart => exact ⟨0, Nat.zero_le _, rfl, fun j hj => by omega, Below.refl _ _⟩
          case round =>
            obtain ⟨k, hk, rfl, I, KK⟩ := hrel
            obtain ⟨kw1, c0, c2, c3⟩ := KG.out wr KK.out
            by_cases hlt : k < G.ws.length
            · obtain ⟨bw, ow, ewa, hbw, hcw⟩ := (RW.out wr kw1).2 (by intro e; rw [e] at hlt; simp at hlt)
              have HWA := hide ewa
              have cw := hcw k hlt
              have kz : (k : Int) < (G.ws.length : Int) := by omega
              rw [HWA.out] at c2
              have wb : M.wBad (G.ws.getD k 0) = (decide (G.ws.getD k 0 < 1) || decide (1000 < G.ws.getD k 0)) := rfl
              by_cases b1 : G.ws.getD k 0 < 1
              · have E : Hid (AB = true) := WB.out k hlt (by rw [wb, decide_eq_true b1]; rfl)
                have p1 : decide (G.ws.getD k 0 < 1) = true := decide_eq_true b1
                have RE : Hid ((1 : Int) = RV) := by unfold Hid; rw [← HRV.out, if_pos E.out]
                clear WB WN TA TN TL RT wb b1 E hcw I ewa
                generalize G.ws.getD k 0 = z at *
                go_wp2
                go_ret
                exact ⟨ret_int RE.out, kw1⟩
              · by_cases b2 : 1000 < G.ws.getD k 0
                · have E : Hid (AB = true) := WB.out k hlt (by rw [wb, decide_eq_true b2]; simp)
                  have p1 : decide (G.ws.getD k 0 < 1) = false := decide_eq_false b1
                  have p2 : decide (1000 < G.ws.getD k 0) = true := decide_eq_true b2
                  have RE : Hid ((1 : Int) = RV) := by unfold Hid; rw [← HRV.out, if_pos E.out]
                  clear WB WN TA TN TL RT wb b1 b2 E hcw I ewa
                  generalize G.ws.getD k 0 = z at *
                  go_wp2
                  go_ret
                  exact ⟨ret_int RE.out, kw1⟩
                · have p1 : decide (G.ws.getD k 0 < 1) = false := decide_eq_false b1
                  have p2 : decide (1000 < G.ws.getD k 0) = false := decide_eq_false b2
                  have N : Hid (∀ j, j < k + 1 → M.wBad (G.ws.getD j 0) = false) := fun j hj => by
                    by_cases e : j = k
                    · rw [e, wb, p1, p2]; rfl
                    · exact I.out j (by omega)
                  clear WB WN TA TN TL RT wb b1 b2 hcw I ewa
                  generalize G.ws.getD k 0 = z at *
                  go_wp2
                  go_roundw
                  case rel => exact ⟨k + 1, by omega, by go_num, N, KK⟩
                  case measure => simp [intOf]; omega
            · have E : Hid (AB = false) := WN.out (fun j hj => I.out j (by omega))
              have RE : Hid (TF = RV) := by unfold Hid; rw [← HRV.out, E.out]; rfl
              clear WB WN I E RW LW HAB
              go_wp2
              go_loopw [4] (fun i wr => ∃ k : Nat, k ≤ G.ks.length ∧ i = .int .i64 k ∧ Hid (∀ j, j < k → (M.treeF ((tl G.ks).getD j []) G.f).2 = 0) ∧ Hid (Below (w.alloc (.cells #[.int .i64 G.f, .int .i64 G.w, .slice G.wa G.ws.length G.wc, .slice G.ta G.ks.length G.tc] 25)).heap.size (w.alloc (.cells #[.int .i64 G.f, .int .i64 G.w, .slice G.wa G.ws.length G.wc, .slice G.ta G.ks.length G.tc] 25)) wr)) (fun i _ => G.ks.length - (intOf i).toNat)
              case atStart => exact ⟨0, Nat.zero_le _, rfl, fun j hj => by omega, KK⟩
              case round =>
                clear KK kw1 c0 c2 c3
                obtain ⟨k, hk, rfl, I, K⟩ := hrel
                obtain ⟨kw, c0, c2, c3⟩ := KG.out _ K.out
                by_cases hlt : k < G.ks.length
                · obtain ⟨hk1, hk2, hk3⟩ := RT.out wr kw
                  obtain ⟨bt, ot, eta, hbt, hct⟩ := hk3 (by intro e; rw [e] at hlt; simp at hlt)
                  have ct := hct k hlt
                  have rk := hk2 _ (List.getElem_mem hlt)
                  have HTA := hide eta
                  have TE := TL.out k hlt
                  have TR := hide (rtree_any G.ks[k].1 G.ks[k].2.1 G.ks[k].2.2 G.f wr.drew (rk.below (Below.refl _ wr).drew))
                  have TAK := hide (TA.out k hlt I.out)
                  rw [TE] at TAK
                  have kz : (k : Int) < (G.ks.length : Int) := by omega
                  have c0d : wr.drew.cell? ⟨w.heap.size, 0, none⟩ = some (.int .i64 G.f) := c0
                  have c3d : wr.drew.cell? ⟨w.heap.size, 3, none⟩ = some (.slice (some ⟨bt, ot, none⟩) G.ks.length G.tc) := by rw [← HTA.out]; exact c3
                  unfold tV at ct
                  have ctd : wr.drew.cell? ⟨bt, ot + k, none⟩ = some (.slice G.ks[k].1 G.ks[k].2.1.length G.ks[k].2.2) := ct
                  have N : Hid ((M.treeF G.ks[k].2.1 G.f).2 = 0 → ∀ j, j < k + 1 → (M.treeF ((tl G.ks).getD j []) G.f).2 = 0) := fun hz j hj => by
                    by_cases e : j = k
                    · rw [e, TE]; exact hz
                    · exact I.out j (by omega)
                  clear hk1 hk2 hk3 hct rk eta TE TA TN TL RT I
                  generalize (M.treeF G.ks[k].2.1 G.f).2 = te at *
                  generalize (M.treeF G.ks[k].2.1 G.f).1 = tp at *
                  generalize G.ks[k].2.1.length = tn at *
                  generalize G.ks[k].2.2 = tcc at *
                  generalize G.ks[k].1 = ta at *
                  go_upto_region 17 with fail
                  go_cut [5, 6] from 68 to 78 (fun p e wx => p = .int .i64 (tp : Nat) ∧ e = .int .i64 te ∧ Hid (Below wr.heap.size wr wx))
                  case first =>
                    go_region_with (go_at_call 20; refine TR.out.mono ?_; rintro e w5 ⟨rfl, hb5⟩)
                    all_goals go_wp2
                    all_goals go_meet
                    all_goals (case rel => exact ⟨rfl, rfl, (Below.refl wr.heap.size wr).drew.trans hb5⟩)
                  case rest =>
                    obtain ⟨rfl, rfl, K5⟩ := hcut
                    have K6 := hide (below_on K.out K5.out)
                    have kw6 := below_on kw K5.out
                    by_cases hz : te = 0
                    · have qz : (te != 0) = false := by rw [bne_eq_false_iff_eq]; exact hz
                      have NN := hide (N.out hz)
                      clear hz N TAK
                      go_wp2
                      go_roundw
                      case rel => exact ⟨k + 1, by omega, by go_num, NN, K6⟩
                      case measure => simp [intOf]; omega
                    · have qz : (te != 0) = true := by rw [bne_iff_ne]; exact hz
                      have TE2 := hide (TAK.out hz)
                      clear hz N TAK
                      go_wp2
                      go_ret
                      exact ⟨ret_int (by rw [← RE.out, TE2.out]), kw6⟩
                · have TZ : Hid (TF = 0) := TN.out (fun j hj => I.out j (by omega))
                  clear TA TN TL RT I
                  go_wp2
                  go_ret
                  exact ⟨ret_int (by rw [← RE.out, TZ.out]), kw⟩

end Go.Proofs.YtlloiccodjnkcagGreatDoor

namespace Go.Proofs.YtlloiccodjnkcagGreatDoor
open Go.ChangeShapes Go.WideShapes Go.ChangeAt Go.RowKit Go.Lib
set_option linter.unusedVariables false

theorem kept_both {w W : World} {a0 a1 a2 a3 b0 b1 b2 b3 : Value} {t u : TypeId} (h : Below ((w.alloc (.cells #[a0, a1, a2, a3] t)).alloc (.cells #[b0, b1, b2, b3] u)).heap.size ((w.alloc (.cells #[a0, a1, a2, a3] t)).alloc (.cells #[b0, b1, b2, b3] u)) W) :
    (W.cell? ⟨w.heap.size, 0, none⟩ = some a0 ∧ W.cell? ⟨w.heap.size, 1, none⟩ = some a1 ∧ W.cell? ⟨w.heap.size, 3, none⟩ = some a3) ∧
    (W.cell? ⟨w.heap.size + 1, 0, none⟩ = some b0 ∧ W.cell? ⟨w.heap.size + 1, 1, none⟩ = some b1 ∧ W.cell? ⟨w.heap.size + 1, 3, none⟩ = some b3) := by
  have e : (w.alloc (.cells #[a0, a1, a2, a3] t)).heap.size = w.heap.size + 1 := by simp
  have h2 : Below (w.alloc (.cells #[a0, a1, a2, a3] t)).heap.size (w.alloc (.cells #[a0, a1, a2, a3] t)) W := below_on ((Below.refl _ _).alloc (Nat.le_refl _) _) h
  have hs : w.heap.size < (w.alloc (.cells #[a0, a1, a2, a3] t)).heap.size := by simp
  have hs2 : w.heap.size + 1 < ((w.alloc (.cells #[a0, a1, a2, a3] t)).alloc (.cells #[b0, b1, b2, b3] u)).heap.size := by simp
  have c : ∀ j, (w.alloc (.cells #[a0, a1, a2, a3] t)).cell? ⟨w.heap.size, j, none⟩ = _ := fun j => World.cell?_alloc_at _ _ _ j rfl
  have d : ∀ j, ((w.alloc (.cells #[a0, a1, a2, a3] t)).alloc (.cells #[b0, b1, b2, b3] u)).cell? ⟨w.heap.size + 1, j, none⟩ = _ := fun j => World.cell?_alloc_at _ _ _ j (by simp)
  exact ⟨⟨(h2.cell (p := ⟨w.heap.size, 0, none⟩) hs).trans (c 0), (h2.cell (p := ⟨w.heap.size, 1, none⟩) hs).trans (c 1), (h2.cell (p := ⟨w.heap.size, 3, none⟩) hs).trans (c 3)⟩,
    ⟨(h.cell (p := ⟨w.heap.size + 1, 0, none⟩) hs2).trans (d 0), (h.cell (p := ⟨w.heap.size + 1, 1, none⟩) hs2).trans (d 1), (h.cell (p := ⟨w.heap.size + 1, 3, none⟩) hs2).trans (d 3)⟩⟩

set_option maxHeartbeats 8000000 in
set_option maxRecDepth 10000 in
theorem grovesame_any (G O : Gr) (w : World) (hg : RdG w G) (ho : RdG w O) (hm : G.m = O.m) :
    Calls Tryz.prog 12 #[G.v, O.v] w fun e w' => e = .returned (.bool true) ∧ Below w.heap.size w w' := by
  obtain ⟨f, wy, wa, ws, wc, ta, ks, tc⟩ := G
  obtain ⟨f', wy', wa', ws', wc', ta', ks', tc'⟩ := O
  simp only [Gr.m, Prod.mk.injEq] at hm
  obtain ⟨rfl, rfl, rfl, ht⟩ := hm
  have kl : ks'.length = ks.length := by rw [← tl_len ks', ← ht, tl_len]
  have he : ∀ k (h : k < ks.length) (h' : k < ks'.length), ks'[k].2.1 = ks[k].2.1 := fun k h h' => by rw [← tl_at ks' h', ← tl_at ks h, ht]
  have HE := hide he
  have KL := hide kl
  have hl : ks.length ≤ 9223372036854775807 := hg.2.1
  show Calls Tryz.prog 12 #[.agg #[.int .i64 f, .int .i64 wy, .slice wa ws.length wc, .slice ta ks.length tc], .agg #[.int .i64 f, .int .i64 wy, .slice wa' ws.length wc', .slice ta' ks'.length tc']] w fun e w' => e = .returned (.bool true) ∧ Below w.heap.size w w'
  rw [kl]
  have CI := hide (fun W (hW : Below w.heap.size w W) => ints_any wa wa' ws ws wc wc' W (hg.1.below hW) (ho.1.below hW))
  simp only [decide_true] at CI
  have HG : Hid (∀ W, Below w.heap.size w W → RdT W ta ks) := fun W hW => hg.2.below hW
  have HO : Hid (∀ W, Below w.heap.size w W → RdT W ta' ks') := fun W hW => ho.2.below hW
  obtain ⟨gO, hgO⟩ : ∃ o : Obj, o = .cells #[.int .i64 f, .int .i64 wy, .slice wa ws.length wc, .slice ta ks.length tc] 25 := ⟨_, rfl⟩
  obtain ⟨oO, hoO⟩ : ∃ o : Obj, o = .cells #[.int .i64 f, .int .i64 wy, .slice wa' ws.length wc', .slice ta' ks.length tc'] 25 := ⟨_, rfl⟩
  have B0 : Hid (∀ W, Below ((w.alloc gO).alloc oO).heap.size ((w.alloc gO).alloc oO) W → Below w.heap.size w W) := fun W hW => below_on (((Below.refl _ w).alloc (Nat.le_refl _) gO).alloc (by simp) oO) hW
  have CG : Hid (∀ W, Below ((w.alloc gO).alloc oO).heap.size ((w.alloc gO).alloc oO) W → (W.cell? ⟨w.heap.size, 0, none⟩ = some (.int .i64 f) ∧ W.cell? ⟨w.heap.size, 1, none⟩ = some (.int .i64 wy) ∧ W.cell? ⟨w.heap.size, 3, none⟩ = some (.slice ta ks.length tc)) ∧ (W.cell? ⟨w.heap.size + 1, 0, none⟩ = some (.int .i64 f) ∧ W.cell? ⟨w.heap.size + 1, 1, none⟩ = some (.int .i64 wy) ∧ W.cell? ⟨w.heap.size + 1, 3, none⟩ = some (.slice ta' ks.length tc'))) := fun W hW => by rw [hgO, hoO] at hW; exact kept_both hW
  have R0 : Hid (Below w.heap.size w ((w.alloc gO).alloc oO)) := ((Below.refl _ w).alloc (Nat.le_refl _) gO).alloc (by simp) oO
  rw [hgO, hoO] at B0 CG R0
  clear hg ho ht kl he hgO hoO
  go_enter Tryz.func12, Tryz.ntmps12
  go_wp2_with (go_at_call 33; refine (CI.out _ R0.out).mono ?_; rintro e w1 ⟨rfl, hb1⟩; have q := CG.out _ hb1; have c0 := q.1.1; have c1 := q.1.2.1; have c3 := q.1.2.2; have d0 := q.2.1; have d1 := q.2.2.1; have d3 := q.2.2.2; clear q)
  have G1 := hide hb1
  clear CI c0 c1 c3 d0 d1 d3 hb1
  go_loopw [6] (fun i wr => ∃ k : Nat, k ≤ ks.length ∧ i = .int .i64 k ∧ Hid (Below w1.heap.size w1 wr)) (fun i _ => ks.length - (intOf i).toNat)
  case atStart => exact ⟨0, Nat.zero_le _, rfl, Below.refl _ _⟩
  case round =>
    obtain ⟨k, hk, rfl, K⟩ := hrel
    have g2 := below_on G1.out K.out
    have kw := B0.out _ g2
    obtain ⟨⟨c0, c1, c3⟩, d0, d1, d3⟩ := CG.out _ g2
    by_cases hlt : k < ks.length
    · have hlt' : k < ks'.length := by rw [KL.out]; exact hlt
      have kz : (k : Int) < (ks.length : Int) := by omega
      obtain ⟨b1, o1, e1, h1, hc1⟩ := (HG.out wr kw).2.2 (by intro e; rw [e] at hlt; simp at hlt)
      obtain ⟨b2, o2, e2, h2, hc2⟩ := (HO.out wr kw).2.2 (by intro e; rw [e] at hlt'; simp at hlt')
      have s1 := hc1 k hlt
      have s2 := hc2 k hlt'
      have r1 := (HG.out wr kw).2.1 _ (List.getElem_mem hlt)
      have r2 := (HO.out wr kw).2.1 _ (List.getElem_mem hlt')
      have ee := HE.out k hlt hlt'
      unfold tV at s1 s2
      rw [ee] at s2 r2
      rw [e1] at c3
      rw [e2] at d3
      have NS := hide (nodesame_any ks[k].1 ks'[k].1 ks[k].2.1 ks[k].2.2 ks'[k].2.2 wr.drew (r1.below (Below.refl _ wr).drew) (r2.below (Below.refl _ wr).drew))
      have c3d : wr.drew.cell? ⟨w.heap.size, 3, none⟩ = some (.slice (some ⟨b1, o1, none⟩) ks.length tc) := c3
      have d3d : wr.drew.cell? ⟨w.heap.size + 1, 3, none⟩ = some (.slice (some ⟨b2, o2, none⟩) ks.length tc') := d3
      have s1d : wr.drew.cell? ⟨b1, o1 + k, none⟩ = some (.slice ks[k].1 ks[k].2.1.length ks[k].2.2) := s1
      have s2d : wr.drew.cell? ⟨b2, o2 + k, none⟩ = some (.slice ks'[k].1 ks[k].2.1.length ks'[k].2.2) := s2
      clear hc1 hc2 r1 r2 ee HG HO HE e1 e2
      generalize ks[k].2.1.length = tn at *
      generalize ks[k].1 = a1 at *
      generalize ks'[k].1 = a2 at *
      generalize ks[k].2.2 = x1 at *
      generalize ks'[k].2.2 = x2 at *
      go_upto_region 7 with fail
      go_cut [7] from 45 to 55 (fun t wx => t = .bool true ∧ Hid (Below wr.heap.size wr wx))
      case first =>
        go_region_with (go_at_call 34; refine NS.out.mono ?_; rintro e w5 ⟨rfl, hb5⟩)
        all_goals go_wp2
        all_goals go_meet
        all_goals (case rel => exact ⟨rfl, (Below.refl wr.heap.size wr).drew.trans hb5⟩)
      case rest =>
        obtain ⟨rfl, K6⟩ := hcut
        have K7 := hide (below_on K.out K6.out)
        go_wp2
        go_roundw
        case rel => exact ⟨k + 1, by omega, by go_num, K7⟩
        case measure => simp [intOf]; omega
    · go_wp2
      go_ret
      exact ⟨rfl, kw⟩

end Go.Proofs.YtlloiccodjnkcagGreatDoor
