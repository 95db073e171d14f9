/-
  Several texts as one: RefGrove, RefLeft, RefWay, RefEach, RefFloor.
-/
import Derived.Test.YtpblpfleiilehafGreatDoorRun8
import Derived.Test.YtpblpfleiilehafGreatDoorRefTree
import Derived.Deep.Cut
import Derived.Deep.CutRange
import Derived.Deep.RegionWith
import Derived.RegionTactic
import Derived.Test.YtpblpfleiilehafGreatDoorRun12
import Derived.Test.YtpblpfleiilehafGreatDoorMathX
import Derived.Deep.AppendLies
import Derived.Test.YtpblpfleiilehafGreatDoorRun3
import Derived.Test.YtpblpfleiilehafGreatDoorRun0
namespace Go.Proofs.YtpblpfleiilehafGreatDoor
open Go.ChangeShapes Go.WideShapes Go.ChangeAt Go.RowKit Go.Lib
set_option linter.unusedVariables false

theorem kept_grove {w W : World} {a0 a1 a2 a3 : Value} {t : TypeId} (h : Below (w.alloc (.cells #[a0, a1, a2, a3] t)).heap.size (w.alloc (.cells #[a0, a1, a2, a3] t)) W) :
    W.cell? ⟨w.heap.size, 0, none⟩ = some a0 ∧ W.cell? ⟨w.heap.size, 1, none⟩ = some a1 ∧ W.cell? ⟨w.heap.size, 2, none⟩ = some a2 ∧ W.cell? ⟨w.heap.size, 3, none⟩ = some a3 := by
  have hs : w.heap.size < (w.alloc (.cells #[a0, a1, a2, a3] t)).heap.size := by simp
  exact ⟨(h.cell (p := ⟨w.heap.size, 0, none⟩) hs).trans (World.cell?_alloc_at _ _ _ 0 rfl), (h.cell (p := ⟨w.heap.size, 1, none⟩) hs).trans (World.cell?_alloc_at _ _ _ 1 rfl), (h.cell (p := ⟨w.heap.size, 2, none⟩) hs).trans (World.cell?_alloc_at _ _ _ 2 rfl), (h.cell (p := ⟨w.heap.size, 3, none⟩) hs).trans (World.cell?_alloc_at _ _ _ 3 rfl)⟩

theorem M.grove_range {g : M.Gv} (h : M.gf g < 0 ∨ 8 < M.gf g ∨ M.gw g < 1 ∨ 3 < M.gw g) : M.groveF g = 1 := by unfold M.groveF; rw [if_pos h]

set_option maxHeartbeats 16000000 in
set_option maxRecDepth 10000 in
theorem rgrove_any (G : Gr) (w : World) (h : RdG w G) :
    Calls Tryz.prog 19 #[G.v] w fun e w' => e = .returned (.int .i64 (M.groveF G.m)) ∧ Below w.heap.size w w' := by
  have hm1 : G.ks.length ≤ 9223372036854775807 := h.2.1
  have hm2 : G.ws.length ≤ 9223372036854775807 := h.1.1
  have HG := hide h
  have tlen : (M.gt G.m).length = G.ks.length := tl_len G.ks
  have B0 : Hid (∀ o, Below w.heap.size w (w.alloc o)) := fun o => (Below.refl _ w).alloc (Nat.le_refl _) o
  clear h
  obtain ⟨gO, hgO⟩ : ∃ o : Obj, o = .cells #[.int .i64 G.f, .int .i64 G.w, .slice G.wa G.ws.length G.wc, .slice G.ta G.ks.length G.tc] 45 := ⟨_, rfl⟩
  have HGO := hide hgO
  clear hgO
  unfold Gr.v
  by_cases hR : M.gf G.m < 0 ∨ 8 < M.gf G.m ∨ M.gw G.m < 1 ∨ 3 < M.gw G.m
  · rw [M.grove_range hR]
    have hR' : G.f < 0 ∨ 8 < G.f ∨ G.w < 1 ∨ 3 < G.w := hR
    clear hR tlen HG

    by_cases c0 : G.f < 0
    · have q0 : decide (G.f < 0) = true := decide_eq_true (by omega)
      clear hR' c0
      go_enter Tryz.func19, Tryz.ntmps19
      go_wp2
      go_ret
      exact ⟨rfl, B0.out _⟩
    · by_cases c1 : 8 < G.f
      · have q0 : decide (G.f < 0) = false := decide_eq_false (by omega)
        have q1 : decide (8 < G.f) = true := decide_eq_true (by omega)
        clear hR' c0 c1
        go_enter Tryz.func19, Tryz.ntmps19
        go_wp2
        go_ret
        exact ⟨rfl, B0.out _⟩
      · by_cases c2 : G.w < 1
        · have q0 : decide (G.f < 0) = false := decide_eq_false (by omega)
          have q1 : decide (8 < G.f) = false := decide_eq_false (by omega)
          have q2 : decide (G.w < 1) = true := decide_eq_true (by omega)
          clear hR' c0 c1 c2
          go_enter Tryz.func19, Tryz.ntmps19
          go_wp2
          go_ret
          exact ⟨rfl, B0.out _⟩
        · have q0 : decide (G.f < 0) = false := decide_eq_false (by omega)
          have q1 : decide (8 < G.f) = false := decide_eq_false (by omega)
          have q2 : decide (G.w < 1) = false := decide_eq_false (by omega)
          have q3 : decide (3 < G.w) = true := decide_eq_true (by omega)
          clear hR' c0 c1 c2
          go_enter Tryz.func19, Tryz.ntmps19
          go_wp2
          go_ret
          exact ⟨rfl, B0.out _⟩
  · have q0 : decide (G.f < 0) = false := decide_eq_false (fun c => hR (.inl c))
    have q1 : decide (8 < G.f) = false := decide_eq_false (fun c => hR (.inr (.inl c)))
    have q2 : decide (G.w < 1) = false := decide_eq_false (fun c => hR (.inr (.inr (.inl c))))
    have q3 : decide (3 < G.w) = false := decide_eq_false (fun c => hR (.inr (.inr (.inr c))))
    have E0 : M.groveF G.m = if G.ks.length = 0 then 5 else if 12 < G.ks.length then 4 else if G.ws.length ≠ G.ks.length then 3 else if G.ws.any M.wBad = true then 1 else M.treesF G.f (tl G.ks) := by
      rw [← tlen]; unfold M.groveF; rw [if_neg hR]; rfl
    rw [E0]
    clear hR E0
    by_cases t0 : G.ks.length = 0
    · rw [if_pos t0]
      rw [t0]
      clear tlen HG t0 hm1
      go_enter Tryz.func19, Tryz.ntmps19
      go_wp2
      go_ret
      exact ⟨rfl, B0.out _⟩
    · rw [if_neg t0]
      have q4 : ((G.ks.length : Int) == 0) = false := by rw [beq_eq_false_iff_ne]; omega
      have t0' : 0 < G.ks.length := by omega
      by_cases t12 : 12 < G.ks.length
      · rw [if_pos t12]
        have q5 : decide (12 < (G.ks.length : Int)) = true := decide_eq_true (by omega)
        clear tlen HG t0 t12
        go_enter Tryz.func19, Tryz.ntmps19
        go_wp2
        go_ret
        exact ⟨rfl, B0.out _⟩
      · rw [if_neg t12]
        have q5 : decide (12 < (G.ks.length : Int)) = false := decide_eq_false (by omega)
        by_cases tw : G.ws.length ≠ G.ks.length
        · rw [if_pos tw]
          have q6 : ((G.ws.length : Int) != (G.ks.length : Int)) = true := by rw [bne_iff_ne]; omega
          clear tlen HG t0 t12 tw
          go_enter Tryz.func19, Tryz.ntmps19
          go_wp2
          go_ret
          exact ⟨rfl, B0.out _⟩
        · rw [if_neg tw]
          have tw' : G.ws.length = G.ks.length := by omega
          have n12 : G.ks.length ≤ 12 := by omega
          have WB : Hid (∀ k (h : k < G.ws.length), M.wBad (G.ws.getD k 0) = true → G.ws.any M.wBad = true) := fun k h e => List.any_eq_true.2 ⟨_, by rw [M.getD_at h]; exact List.getElem_mem h, e⟩
          have WN : Hid ((∀ k, k < G.ws.length → M.wBad (G.ws.getD k 0) = false) → G.ws.any M.wBad = false) := fun h => by
            cases e : G.ws.any M.wBad with
            | false => rfl
            | true =>
              obtain ⟨x, hx, e2⟩ := List.any_eq_true.1 e
              obtain ⟨i, hi, rfl⟩ := List.getElem_of_mem hx
              have := h i hi
              rw [M.getD_at hi, e2] at this
              cases this
          have TA : Hid (∀ k, k < G.ks.length → (∀ j, j < k → (M.treeF ((tl G.ks).getD j []) G.f).2 = 0) → (M.treeF ((tl G.ks).getD k []) G.f).2 ≠ 0 → M.treesF G.f (tl G.ks) = (M.treeF ((tl G.ks).getD k []) G.f).2) := fun k hk h hn => M.trees_at (by rw [tl_len]; exact hk) h hn
          have TN : Hid ((∀ j, j < G.ks.length → (M.treeF ((tl G.ks).getD j []) G.f).2 = 0) → M.treesF G.f (tl G.ks) = 0) := fun h => M.trees_all (fun j hj => h j (by rw [tl_len] at hj; exact hj))
          have TL : Hid (∀ k (h : k < G.ks.length), (tl G.ks).getD k [] = G.ks[k].2.1) := fun k h => tl_at G.ks h
          have RW : Hid (∀ W, Below w.heap.size w W → Rd W G.wa G.ws) := fun W hW => (HG.out.below hW).1
          have RT : Hid (∀ W, Below w.heap.size w W → RdT W G.ta G.ks) := fun W hW => (HG.out.below hW).2
          have LW := hide tw'
          have q6 : ((G.ws.length : Int) != (G.ks.length : Int)) = false := by rw [bne_eq_false_iff_eq]; omega
          clear tlen HG t0 t12 tw tw'
          generalize hAB : G.ws.any M.wBad = AB at *
          have HAB := hide hAB
          clear hAB
          generalize M.treesF G.f (tl G.ks) = TF at *
          generalize hRV : (if AB = true then (1 : Int) else TF) = RV
          have HRV := hide hRV
          clear hRV
          have KG : Hid (∀ W, Below (w.alloc gO).heap.size (w.alloc gO) W → Below w.heap.size w W ∧ W.cell? ⟨w.heap.size, 0, none⟩ = some (.int .i64 G.f) ∧ W.cell? ⟨w.heap.size, 2, none⟩ = some (.slice G.wa G.ws.length G.wc) ∧ W.cell? ⟨w.heap.size, 3, none⟩ = some (.slice G.ta G.ks.length G.tc)) := fun W hW => by
            refine ⟨below_on ((Below.refl _ w).alloc (Nat.le_refl _) gO) hW, ?_⟩
            rw [HGO.out] at hW
            exact ⟨(kept_grove hW).1, (kept_grove hW).2.2.1, (kept_grove hW).2.2.2⟩
          rw [HGO.out] at KG
          go_enter Tryz.func19, Tryz.ntmps19
          go_wp2
          go_loopw [3] (fun i wr => ∃ k : Nat, k ≤ G.ws.length ∧ i = .int .i64 k ∧ Hid (∀ j, j < k → M.wBad (G.ws.getD j 0) = false) ∧ Hid (Below (w.alloc (.cells #[.int .i64 G.f, .int .i64 G.w, .slice G.wa G.ws.length G.wc, .slice G.ta G.ks.length G.tc] 45)).heap.size (w.alloc (.cells #[.int .i64 G.f, .int .i64 G.w, .slice G.wa G.ws.length G.wc, .slice G.ta G.ks.length G.tc] 45)) wr)) (fun i _ => G.ws.length - (intOf i).toNat)
          case atStart => exact ⟨0, Nat.zero_le _, rfl, fun j hj => by omega, Below.refl _ _⟩
          case round =>
            obtain ⟨k, hk, rfl, I, KK⟩ := hrel
            obtain ⟨kw1, c0, c2, c3⟩ := KG.out wr KK.out
            by_cases hlt : k < G.ws.length
            · obtain ⟨bw, ow, ewa, hbw, hcw⟩ := (RW.out wr kw1).2 (by intro e; rw [e] at hlt; simp at hlt)
              have HWA := hide ewa
              have cw := hcw k hlt
              have kz : (k : Int) < (G.ws.length : Int) := by omega
              rw [HWA.out] at c2
              have wb : M.wBad (G.ws.getD k 0) = (decide (G.ws.getD k 0 < 1) || decide (1000 < G.ws.getD k 0)) := rfl
              by_cases b1 : G.ws.getD k 0 < 1
              · have E : Hid (AB = true) := WB.out k hlt (by rw [wb, decide_eq_true b1]; rfl)
                have p1 : decide (G.ws.getD k 0 < 1) = true := decide_eq_true b1
                have RE : Hid ((1 : Int) = RV) := by unfold Hid; rw [← HRV.out, if_pos E.out]
                clear WB WN TA TN TL RT wb b1 E hcw I ewa
                generalize G.ws.getD k 0 = z at *
                go_wp2
                go_ret
                exact ⟨ret_int RE.out, kw1⟩
              · by_cases b2 : 1000 < G.ws.getD k 0
                · have E : Hid (AB = true) := WB.out k hlt (by rw [wb, decide_eq_true b2]; simp)
                  have p1 : decide (G.ws.getD k 0 < 1) = false := decide_eq_false b1
                  have p2 : decide (1000 < G.ws.getD k 0) = true := decide_eq_true b2
                  have RE : Hid ((1 : Int) = RV) := by unfold Hid; rw [← HRV.out, if_pos E.out]
                  clear WB WN TA TN TL RT wb b1 b2 E hcw I ewa
                  generalize G.ws.getD k 0 = z at *
                  go_wp2
                  go_ret
                  exact ⟨ret_int RE.out, kw1⟩
                · have p1 : decide (G.ws.getD k 0 < 1) = false := decide_eq_false b1
                  have p2 : decide (1000 < G.ws.getD k 0) = false := decide_eq_false b2
                  have N : Hid (∀ j, j < k + 1 → M.wBad (G.ws.getD j 0) = false) := fun j hj => by
                    by_cases e : j = k
                    · rw [e, wb, p1, p2]; rfl
                    · exact I.out j (by omega)
                  clear WB WN TA TN TL RT wb b1 b2 hcw I ewa
                  generalize G.ws.getD k 0 = z at *
                  go_wp2
                  go_roundw
                  case rel => exact ⟨k + 1, by omega, by go_num, N, KK⟩
                  case measure => simp [intOf]; omega
            · have E : Hid (AB = false) := WN.out (fun j hj => I.out j (by omega))
              have RE : Hid (TF = RV) := by unfold Hid; rw [← HRV.out, E.out]; rfl
              clear WB WN I E RW LW HAB
              go_wp2
              go_loopw [4] (fun i wr => ∃ k : Nat, k ≤ G.ks.length ∧ i = .int .i64 k ∧ Hid (∀ j, j < k → (M.treeF ((tl G.ks).getD j []) G.f).2 = 0) ∧ Hid (Below (w.alloc (.cells #[.int .i64 G.f, .int .i64 G.w, .slice G.wa G.ws.length G.wc, .slice G.ta G.ks.length G.tc] 45)).heap.size (w.alloc (.cells #[.int .i64 G.f, .int .i64 G.w, .slice G.wa G.ws.length G.wc, .slice G.ta G.ks.length G.tc] 45)) wr)) (fun i _ => G.ks.length - (intOf i).toNat)
              case atStart => exact ⟨0, Nat.zero_le _, rfl, fun j hj => by omega, KK⟩
              case round =>
                clear KK kw1 c0 c2 c3
                obtain ⟨k, hk, rfl, I, K⟩ := hrel
                obtain ⟨kw, c0, c2, c3⟩ := KG.out _ K.out
                by_cases hlt : k < G.ks.length
                · obtain ⟨hk1, hk2, hk3⟩ := RT.out wr kw
                  obtain ⟨bt, ot, eta, hbt, hct⟩ := hk3 (by intro e; rw [e] at hlt; simp at hlt)
                  have ct := hct k hlt
                  have rk := hk2 _ (List.getElem_mem hlt)
                  have HTA := hide eta
                  have TE := TL.out k hlt
                  have TR := hide (rtree_any G.ks[k].1 G.ks[k].2.1 G.ks[k].2.2 G.f wr.drew (rk.below (Below.refl _ wr).drew))
                  have TAK := hide (TA.out k hlt I.out)
                  rw [TE] at TAK
                  have kz : (k : Int) < (G.ks.length : Int) := by omega
                  have c0d : wr.drew.cell? ⟨w.heap.size, 0, none⟩ = some (.int .i64 G.f) := c0
                  have c3d : wr.drew.cell? ⟨w.heap.size, 3, none⟩ = some (.slice (some ⟨bt, ot, none⟩) G.ks.length G.tc) := by rw [← HTA.out]; exact c3
                  unfold tV at ct
                  have ctd : wr.drew.cell? ⟨bt, ot + k, none⟩ = some (.slice G.ks[k].1 G.ks[k].2.1.length G.ks[k].2.2) := ct
                  have N : Hid ((M.treeF G.ks[k].2.1 G.f).2 = 0 → ∀ j, j < k + 1 → (M.treeF ((tl G.ks).getD j []) G.f).2 = 0) := fun hz j hj => by
                    by_cases e : j = k
                    · rw [e, TE]; exact hz
                    · exact I.out j (by omega)
                  clear hk1 hk2 hk3 hct rk eta TE TA TN TL RT I
                  generalize (M.treeF G.ks[k].2.1 G.f).2 = te at *
                  generalize (M.treeF G.ks[k].2.1 G.f).1 = tp at *
                  generalize G.ks[k].2.1.length = tn at *
                  generalize G.ks[k].2.2 = tcc at *
                  generalize G.ks[k].1 = ta at *
                  go_upto_region 17 with fail
                  go_cut [5, 6] from 68 to 78 (fun p e wx => p = .int .i64 (tp : Nat) ∧ e = .int .i64 te ∧ Hid (Below wr.heap.size wr wx))
                  case first =>
                    go_region_with (go_at_call 35; refine TR.out.mono ?_; rintro e w5 ⟨rfl, hb5⟩)
                    all_goals go_wp2
                    all_goals go_meet
                    all_goals (case rel => exact ⟨rfl, rfl, (Below.refl wr.heap.size wr).drew.trans hb5⟩)
                  case rest =>
                    obtain ⟨rfl, rfl, K5⟩ := hcut
                    have K6 := hide (below_on K.out K5.out)
                    have kw6 := below_on kw K5.out
                    by_cases hz : te = 0
                    · have qz : (te != 0) = false := by rw [bne_eq_false_iff_eq]; exact hz
                      have NN := hide (N.out hz)
                      clear hz N TAK
                      go_wp2
                      go_roundw
                      case rel => exact ⟨k + 1, by omega, by go_num, NN, K6⟩
                      case measure => simp [intOf]; omega
                    · have qz : (te != 0) = true := by rw [bne_iff_ne]; exact hz
                      have TE2 := hide (TAK.out hz)
                      clear hz N TAK
                      go_wp2
                      go_ret
                      exact ⟨ret_int (by rw [← RE.out, TE2.out]), kw6⟩
                · have TZ : Hid (TF = 0) := TN.out (fun j hj => I.out j (by omega))
                  clear TA TN TL RT I
                  go_wp2
                  go_ret
                  exact ⟨ret_int (by rw [← RE.out, TZ.out]), kw⟩

end Go.Proofs.YtpblpfleiilehafGreatDoor

namespace Go.Proofs.YtpblpfleiilehafGreatDoor
open Go.ChangeShapes Go.WideShapes Go.ChangeAt Go.RowKit
set_option linter.unusedVariables false

theorem left_any (n : M.Nd) (c : Int) (w : World) : Calls Tryz.prog 68 #[ndV n, .int .i64 c] w fun e w' => e = .returned (.bool (M.lessC n c)) ∧ Below w.heap.size w w' := by
  have C := hide (none_any c)
  by_cases h : c = M.nilI
  · have E : Hid (M.ns n = M.lessC n c) := by unfold Hid M.lessC; rw [if_pos h]
    rw [decide_eq_true h] at C
    unfold ndV
    clear h
    generalize M.lessC n c = o at *
    generalize M.nf n = f at *
    generalize M.nc n = cc at *
    generalize M.nl n = l at *
    generalize M.nr n = r at *
    generalize M.ns n = s at *
    generalize M.nv n = v at *
    go_enter Tryz.func68, Tryz.ntmps68
    go_wp2_with (go_at_call 49; refine (C.out _).mono ?_; rintro e w1 ⟨rfl, rfl⟩)
    go_ret
    exact ⟨ret_bool E.out, (Below.refl _ _).alloc (Nat.le_refl _) _⟩
  · have E : Hid (decide (c < M.nc n) = M.lessC n c) := by unfold Hid M.lessC; rw [if_neg h]
    rw [decide_eq_false h] at C
    unfold ndV
    clear h
    generalize M.lessC n c = o at *
    generalize M.nf n = f at *
    generalize M.nc n = cc at *
    generalize M.nl n = l at *
    generalize M.nr n = r at *
    generalize M.ns n = s at *
    generalize M.nv n = v at *
    go_enter Tryz.func68, Tryz.ntmps68
    go_wp2_with (go_at_call 49; refine (C.out _).mono ?_; rintro e w1 ⟨rfl, rfl⟩)
    go_ret
    exact ⟨ret_bool E.out, (Below.refl _ _).alloc (Nat.le_refl _) _⟩

end Go.Proofs.YtpblpfleiilehafGreatDoor

namespace Go.Proofs.YtpblpfleiilehafGreatDoor
open Go.ChangeShapes Go.WideShapes Go.ChangeAt Go.RowKit
set_option linter.unusedVariables false

set_option maxHeartbeats 4000000 in
set_option maxRecDepth 10000 in
theorem rway_any (a0 b0 : Option Addr) (ts : List M.Nd) (xs : List Int) (ca cb : Nat) (w : World) (ht : RdN w a0 ts) (hr : Rd w b0 xs) (h0 : M.readyF ts xs = 0) :
    Calls Tryz.prog 42 #[.slice a0 ts.length ca, .slice b0 xs.length cb] w fun e w' => ∃ ag cg, e = .returned (.tuple #[.int .i64 (M.leafV ts xs : Nat), .slice ag (M.pathV ts xs).length cg]) ∧ Rd w' ag (M.pathV ts xs) ∧ Below w.heap.size w w' := by
  have hm : ts.length ≤ 9223372036854775807 := ht.1
  have hm2 : xs.length ≤ 9223372036854775807 := hr.1
  obtain ⟨F, _⟩ := M.tree_ok (M.ready_ok h0).2
  have EV : Hid (M.leafV ts xs = M.toD ts xs 0) := by unfold Hid M.leafV; rw [if_pos h0]
  have PV : Hid (M.pathV ts xs = (M.way ts xs 0).map Int.ofNat) := by unfold Hid M.pathV; rw [if_pos h0]
  have W0 := hide (M.way_ne F.2.2.2.2.1 xs F.2.1)
  have FN := hide F.2.2.2.2.1
  have l0 := F.2.1
  have l63 := F.1
  have HT := hide ht
  have HX := hide hr
  obtain ⟨i0, hi, hz0, hz1, hz2⟩ := info_parts info3
  have I0 := hide hi
  have O0 : Hid ((w.alloc (.cells #[.int .i64 0] 3)).ownsRow w.heap.size 3 1 (.slice (some ⟨w.heap.size, 0, none⟩) 1 1) 1 ([(0 : Int)].map (Value.int .i64))) := by
    have := World.ownsRow_lit (base := w.heap.size) (e := 3) (size := 1) w #[.int .i64 0] 1 (Nat.le_refl _) (by unfold maxLen; omega) (by simp)
    exact this
  clear F ht hr h0 hi
  generalize M.leafV ts xs = o at *
  generalize M.pathV ts xs = P at *
  go_enter Tryz.func42, Tryz.ntmps42
  go_wp2
  go_loopw [6, 7] (fun i v wr => ∃ (k : Nat) (L : List Int), k < ts.length ∧ L.length ≤ k + 1 ∧ i = .int .i64 k ∧ wr.ownsRow w.heap.size 3 1 v L.length (L.map (Value.int .i64)) ∧ Below w.heap.size w wr ∧ Hid (M.toD ts xs k = M.toD ts xs 0) ∧ Hid (L ++ ((M.way ts xs k).map Int.ofNat).drop 1 = (M.way ts xs 0).map Int.ofNat)) (fun i _ _ => ts.length - (intOf i).toNat)
  case atStart => exact ⟨0, [0], l0, by simp, rfl, O0.out, (Below.refl _ w).alloc (Nat.le_refl _) _, rfl, by
    obtain ⟨l, e⟩ := W0.out
    unfold Hid
    rw [e]; simp⟩
  case round =>
    clear O0
    obtain ⟨k, L, hlt, hL, rfl, hown, hbl, I, J⟩ := hrel
    obtain ⟨va, vc, rfl, RV, _⟩ := own_rd hown
    have HO := hide hown
    have HV := hide RV
    clear hown RV
    obtain ⟨b1, off, rfl, hb1, hc⟩ := HT.out.2 (by intro e; subst e; simp at hlt)
    obtain ⟨s0, s1, s2, s3, s4, s5⟩ := (hc k hlt).below hbl hb1
    have NS : Hid (∀ W, Below wr.heap.size wr W → SixAt W b1 (off + k * 6) (M.nAt ts k)) := fun W hW => (hc k hlt).below (below_on hbl hW) hb1
    by_cases hf : M.nf (M.nAt ts k) = -1
    · have q : (M.nf (M.nAt ts k) != -1) = false := by rw [bne_eq_false_iff_eq]; exact hf
      have E : Hid (k = o) := by unfold Hid; rw [EV.out, ← I.out, M.to_leaf hlt hf]
      have EP : Hid (P = L) := by unfold Hid; rw [PV.out, ← J.out, M.way_leaf hlt hf]; simp
      clear hc hf NS
      generalize M.nf (M.nAt ts k) = f at *
      go_wp2
      go_ret2
      exact ⟨va, vc, by rw [E.out, EP.out]; rfl, by rw [EP.out]; exact HV.out, hbl⟩
    · have q : (M.nf (M.nAt ts k) != -1) = true := by rw [bne_iff_ne]; exact hf
      have g0 := (M.node_ask (FN.out k hlt) hf).1
      have g1 := (M.node_ask (FN.out k hlt) hf).2.1
      obtain ⟨fi, hfi⟩ : ∃ fi : Nat, M.nf (M.nAt ts k) = fi := ⟨(M.nf (M.nAt ts k)).toNat, by omega⟩
      have hfl : fi < xs.length := by omega
      obtain ⟨bx, ox, rfl, hbx, hcx⟩ := HX.out.2 (by intro e; subst e; simp at hfl)
      have hx := (hbl.cell (p := ⟨bx, ox + fi, none⟩) hbx).trans (hcx fi hfl)
      have CL := hide (left_any (M.nAt ts k) (xs.getD fi 0))
      obtain ⟨j, ej, j1, j2⟩ := M.next_in FN.out xs hlt hf
      have N : Hid (M.toD ts xs j = M.toD ts xs 0) := by unfold Hid; rw [← M.to_next FN.out hlt hf ej]; exact I.out
      have NJ : Hid ((L ++ [(j : Int)]) ++ ((M.way ts xs j).map Int.ofNat).drop 1 = (M.way ts xs 0).map Int.ofNat) := by
        unfold Hid
        rw [← J.out, M.way_next FN.out hlt hf ej]
        obtain ⟨l, e⟩ := M.way_ne FN.out xs j2
        rw [e]; simp
      have NX : Hid ((if M.lessC (M.nAt ts k) (xs.getD fi 0) = true then M.nl (M.nAt ts k) else M.nr (M.nAt ts k)) = (j : Int)) := by
        unfold Hid; rw [← ej]; unfold M.nextI; rw [hfi, Int.toNat_natCast]
      rw [hfi] at s0 q
      unfold ndV at CL
      rw [hfi] at CL
      unfold SixAt at NS
      rw [hfi] at NS
      clear hc hf g0 g1 ej hcx hfi
      generalize M.lessC (M.nAt ts k) (xs.getD fi 0) = bb at *
      generalize xs.getD fi 0 = x at *
      generalize M.nc (M.nAt ts k) = c at *
      generalize M.nl (M.nAt ts k) = l at *
      generalize M.nr (M.nAt ts k) = r at *
      generalize M.ns (M.nAt ts k) = sl at *
      generalize M.nv (M.nAt ts k) = v at *
      go_upto_region 4 with fail
      go_cut [8] from 16 to 28 (fun u wx => u = .bool bb ∧ Hid (Below wr.heap.size wr wx))
      case first =>
        go_region_with (go_at_call 68; refine (CL.out _).mono ?_; rintro e w1 ⟨rfl, hb1⟩)
        all_goals go_wp2
        all_goals go_meet
        all_goals (case rel => exact ⟨rfl, (Below.refl wr.heap.size wr).drew.trans hb1⟩)
      case rest =>
        obtain ⟨rfl, K⟩ := hcut
        obtain ⟨z0, z1, z2, z3, z4, z5⟩ := NS.out wc K.out
        have k4 := below_on hbl K.out
        have kw4 := k4.size
        clear NS CL
        cases bb with
        | true =>
          have e : l = (j : Int) := by have := NX.out; simpa using this
          rw [e] at z2
          clear e NX
          go_wp2_with (at_builtin; refine wpList_append_lies _ rfl (.tmp 40) (.tmp 42) 42 rfl w.heap.size 3 i0 (.int .i64 0) 1 8 Tryz.underlying42 I0.out hz0 hz1 hz2 rfl (by omega) (.slice va L.length vc) L.length (L.map (Value.int .i64)) rfl ((own_up HO.out K.out).alloc _) ⟨wc.heap.size, 0, none⟩ 1 1 [.int .i64 (j : Int)] rfl rfl (World.news_of_block (heap_alloc_new _ _)) (by simp [Value.oneCell']) (by omega) (by unfold maxLen; omega) (by omega) (by simp; omega) (wc.heap.size + 1) (by simp) ?_)
          intro g cap w5 hov5 hgrow hat hlt5
          have hb5 : Below w.heap.size w w5 := (k4.alloc k4.size _).grown hgrow (by simp; omega) (fun k hk => (HO.out.lt k hk).1)
          have HO5 : Hid (w5.ownsRow w.heap.size 3 1 (.slice (some ⟨g, 0, none⟩) (L.length + 1) cap) (L ++ [(j : Int)]).length ((L ++ [(j : Int)]).map (Value.int .i64))) := by
            unfold Hid; rw [List.map_append, List.length_append]; exact hov5
          clear hov5 hgrow hat
          go_wp2
          go_roundw
          case rel => exact ⟨j, L ++ [(j : Int)], j2, by simp; omega, rfl, HO5.out, hb5, N, NJ⟩
          case measure => simp [intOf]; omega
        | false =>
          have e : r = (j : Int) := by have := NX.out; simpa using this
          rw [e] at z3
          clear e NX
          go_wp2_with (at_builtin; refine wpList_append_lies _ rfl (.tmp 40) (.tmp 42) 42 rfl w.heap.size 3 i0 (.int .i64 0) 1 8 Tryz.underlying42 I0.out hz0 hz1 hz2 rfl (by omega) (.slice va L.length vc) L.length (L.map (Value.int .i64)) rfl ((own_up HO.out K.out).alloc _) ⟨wc.heap.size, 0, none⟩ 1 1 [.int .i64 (j : Int)] rfl rfl (World.news_of_block (heap_alloc_new _ _)) (by simp [Value.oneCell']) (by omega) (by unfold maxLen; omega) (by omega) (by simp; omega) (wc.heap.size + 1) (by simp) ?_)
          intro g cap w5 hov5 hgrow hat hlt5
          have hb5 : Below w.heap.size w w5 := (k4.alloc k4.size _).grown hgrow (by simp; omega) (fun k hk => (HO.out.lt k hk).1)
          have HO5 : Hid (w5.ownsRow w.heap.size 3 1 (.slice (some ⟨g, 0, none⟩) (L.length + 1) cap) (L ++ [(j : Int)]).length ((L ++ [(j : Int)]).map (Value.int .i64))) := by
            unfold Hid; rw [List.map_append, List.length_append]; exact hov5
          clear hov5 hgrow hat
          go_wp2
          go_roundw
          case rel => exact ⟨j, L ++ [(j : Int)], j2, by simp; omega, rfl, HO5.out, hb5, N, NJ⟩
          case measure => simp [intOf]; omega

end Go.Proofs.YtpblpfleiilehafGreatDoor

namespace Go.Proofs.YtpblpfleiilehafGreatDoor
open Go.ChangeShapes Go.WideShapes Go.ChangeAt Go.RowKit Go.Lib
set_option linter.unusedVariables false

theorem M.eval_nv {t : List M.Nd} {r : List Int} (h : M.readyF t r = 0) : M.evalV t r = M.nv (M.nAt t (M.leafV t r)) := by
  unfold M.evalV M.leafV; rw [if_pos h, if_pos h]
theorem M.leafV_leaf2 {t : List M.Nd} {r : List Int} (h : M.readyF t r = 0) : M.leafV t r < t.length := by
  unfold M.leafV; rw [if_pos h]; exact (M.leafV_leaf' h).1
theorem M.each_snoc (g : M.Gv) (r : List Int) {k : Nat} (hk : k < (M.gt g).length) : (M.eachL g r).take (k + 1) = (M.eachL g r).take k ++ [M.evalV ((M.gt g).getD k []) r] := by
  have hl : k < (M.eachL g r).length := by rw [M.each_len]; exact hk
  rw [List.take_add_one, List.getElem?_eq_getElem hl, ← M.each_at g r hk, M.getD_at hl]; rfl

set_option maxHeartbeats 8000000 in
set_option maxRecDepth 10000 in
theorem reachg_any (G : Gr) (b : Option Addr) (xs : List Int) (cb : Nat) (w : World) (h : RdG w G) (hr : Rd w b xs) (h0 : M.standF G.m xs = 0) :
    Calls Tryz.prog 21 #[G.v, .slice b xs.length cb] w fun e w' => ∃ ag cg, e = .returned (.slice ag (M.eachL G.m xs).length cg) ∧ Rd w' ag (M.eachL G.m xs) ∧ Below w.heap.size w w' := by
  obtain ⟨Gd, _, _⟩ := M.stand_ok h0
  have tlen : (M.gt G.m).length = G.ks.length := tl_len G.ks
  have n12 : G.ks.length ≤ 12 := by rw [← tlen]; exact Gd.t12
  have HG := hide h
  have CL := hide (fun a ts ca W (hW : Below w.heap.size w W) (ha : RdN W a ts) (hz : M.readyF ts xs = 0) => rway_any a b ts xs ca cb W ha (hr.below hW) hz)
  have SN : Hid (∀ k (hk : k < G.ks.length), (M.eachL G.m xs).take (k + 1) = (M.eachL G.m xs).take k ++ [M.evalV G.ks[k].2.1 xs] ∧ M.readyF G.ks[k].2.1 xs = 0) := fun k hk => by
    have e : (M.gt G.m).getD k [] = G.ks[k].2.1 := tl_at G.ks hk
    rw [M.each_snoc G.m xs (by rw [tlen]; exact hk), e]
    refine ⟨rfl, M.stand_ready h0 ?_⟩
    rw [← e, M.getD_at (by rw [tlen]; exact hk)]
    exact List.getElem_mem _
  have EN : Hid ((M.eachL G.m xs).length = G.ks.length) := by unfold Hid; rw [M.each_len, tlen]
  obtain ⟨gO, hgO⟩ : ∃ o : Obj, o = .cells #[.int .i64 G.f, .int .i64 G.w, .slice G.wa G.ws.length G.wc, .slice G.ta G.ks.length G.tc] 45 := ⟨_, rfl⟩
  have KG : Hid (∀ W, Below (w.heap.size + 1) (w.alloc gO) W → Below w.heap.size w W ∧ W.cell? ⟨w.heap.size, 3, none⟩ = some (.slice G.ta G.ks.length G.tc)) := fun W hW => by
    have e : (w.alloc gO).heap.size = w.heap.size + 1 := by simp
    rw [← e] at hW
    refine ⟨below_on ((Below.refl _ w).alloc (Nat.le_refl _) gO) hW, ?_⟩
    rw [hgO] at hW
    exact (kept_grove hW).2.2.2
  rw [hgO] at KG
  obtain ⟨i0, hi, hz0, hz1, hz2⟩ := info_parts info3
  have I0 := hide hi
  unfold Gr.v
  clear h hr h0 Gd tlen hgO hi
  generalize M.eachL G.m xs = EL at *
  go_enter Tryz.func21, Tryz.ntmps21
  go_wp2
  go_loopw [5, 6] (fun v i wr => ∃ (k : Nat) (X : List Int), k ≤ G.ks.length ∧ i = .int .i64 k ∧ Hid (X = EL.take k) ∧ Hid (X.length = k) ∧ wr.ownsRow (w.heap.size + 1) 3 1 v X.length (X.map (Value.int .i64)) ∧ Hid (Below (w.heap.size + 1) (w.alloc (.cells #[.int .i64 G.f, .int .i64 G.w, .slice G.wa G.ws.length G.wc, .slice G.ta G.ks.length G.tc] 45)) wr)) (fun _ i _ => G.ks.length - (intOf i).toNat)
  case atStart => exact ⟨0, [], Nat.zero_le _, rfl, rfl, rfl, World.ownsRow_nil _ _ _ _, Below.refl _ _⟩
  case round =>
    obtain ⟨k, X, hk, rfl, HX, hXl, hown, K⟩ := hrel
    obtain ⟨kw, c3⟩ := KG.out wr K.out
    have kks : w.heap.size + 1 ≤ wr.heap.size := by have := K.out.size; simpa using this
    by_cases hlt : k < G.ks.length
    · have hT := (HG.out.below kw).2
      obtain ⟨bt, ot, eta, hbt, hct⟩ := hT.2.2 (by intro e; rw [e] at hlt; simp at hlt)
      have rk := hT.2.1 _ (List.getElem_mem hlt)
      have ct := hct k hlt
      unfold tV at ct
      obtain ⟨sn, hz⟩ := SN.out k hlt
      have C1 := hide (CL.out _ _ G.ks[k].2.2 wr kw rk hz)
      have lv := M.leafV_leaf2 hz
      have N : Hid (X ++ [M.evalV G.ks[k].2.1 xs] = EL.take (k + 1)) := by unfold Hid; rw [HX.out, sn]
      rw [M.eval_nv hz] at N
      obtain ⟨b1, off, e1, hb1, hc⟩ := rk.2 (by intro e; rw [e] at lv; simp at lv)
      have s5 := (hc _ lv).2.2.2.2.2
      have kz : (k : Int) < (G.ks.length : Int) := by omega
      have lz : ((M.leafV G.ks[k].2.1 xs : Nat) : Int) < (G.ks[k].2.1.length : Int) := by omega
      obtain ⟨va, vc, rfl, RV, _⟩ := own_rd hown
      have HO := hide hown
      rw [eta] at c3
      rw [e1] at ct C1
      have UP : Hid (∀ W, Below wr.heap.size wr W → W.cell? ⟨w.heap.size, 3, none⟩ = some (.slice (some ⟨bt, ot, none⟩) G.ks.length G.tc) ∧ W.cell? ⟨bt, ot + k, none⟩ = some (.slice (some ⟨b1, off, none⟩) G.ks[k].2.1.length G.ks[k].2.2) ∧ W.cell? ⟨b1, off + M.leafV G.ks[k].2.1 xs * 6 + 5, none⟩ = some (.int .i64 (M.nv (M.nAt G.ks[k].2.1 (M.leafV G.ks[k].2.1 xs))))) := fun W hW => by
        refine ⟨?_, (hW.cell (p := ⟨bt, ot + k, none⟩) hbt).trans ct, (hW.cell (p := ⟨b1, off + M.leafV G.ks[k].2.1 xs * 6 + 5, none⟩) hb1).trans s5⟩
        have := (KG.out W (K.out.trans (hW.mono kks))).2
        rw [eta] at this
        exact this
      have k63 : X.length ≤ 12 := by have := hXl.out; omega
      clear hT hct rk sn hz lv hc s5 RV hown CL SN eta e1
      generalize M.nv (M.nAt G.ks[k].2.1 (M.leafV G.ks[k].2.1 xs)) = z at *
      generalize M.leafV G.ks[k].2.1 xs = lf at *
      generalize M.pathV G.ks[k].2.1 xs = pv at *
      generalize G.ks[k].2.1.length = tn at *
      generalize G.ks[k].2.2 = tcc at *
      go_wp2_with (first
        | (go_at_call 42; refine C1.out.mono ?_; rintro e w1 ⟨ag, cg, rfl, hrd, hb1'⟩; have u := UP.out w1 hb1'; have y0 := u.1; have y1 := u.2.1; have y2 := u.2.2; have g1 := K.out.trans (hb1'.mono kks); have kk1 : w.heap.size + 1 ≤ w1.heap.size := Nat.le_trans kks hb1'.size; have HO1 := hide (own_up HO.out hb1'); clear u hrd)
        | (at_builtin; refine wpList_append_lies _ rfl (.tmp 26) (.tmp 36) 42 rfl (w.heap.size + 1) 3 i0 (.int .i64 0) 1 8 Tryz.underlying42 I0.out hz0 hz1 hz2 rfl (by omega) (.slice va X.length vc) X.length (X.map (Value.int .i64)) rfl (HO1.out.alloc _) ⟨w1.heap.size, 0, none⟩ 1 1 [.int .i64 z] rfl rfl (World.news_of_block (heap_alloc_new _ _)) (by simp [Value.oneCell']) (by omega) (by unfold maxLen; omega) (by omega) (by simp; omega) (w1.heap.size + 1) (by simp) ?_))
      intro g cap w5 hov5 hgrow hat hlt5
      have hb5 : Below (w.heap.size + 1) (w.alloc (.cells #[.int .i64 G.f, .int .i64 G.w, .slice G.wa G.ws.length G.wc, .slice G.ta G.ks.length G.tc] 45)) w5 := (g1.alloc kk1 _).grown hgrow (by simp; omega) (fun k hk => (HO1.out.lt k hk).1)
      have HO5 : Hid (w5.ownsRow (w.heap.size + 1) 3 1 (.slice (some ⟨g, 0, none⟩) (X.length + 1) cap) (X ++ [z]).length ((X ++ [z]).map (Value.int .i64))) := by
        unfold Hid; rw [List.map_append, List.length_append]; exact hov5
      have HB5 := hide hb5
      clear hov5 hgrow hat hb5
      go_wp2
      go_roundw
      case rel => exact ⟨k + 1, X ++ [z], by omega, by go_num, N, by unfold Hid; rw [List.length_append, hXl.out]; rfl, HO5.out, HB5⟩
      case measure => simp [intOf]; omega
    · have E : Hid (X = EL) := by
        unfold Hid
        rw [HX.out, List.take_of_length_le (by rw [EN.out]; omega)]
      obtain ⟨va, vc, rfl, RV, _⟩ := own_rd hown
      have HR := hide RV
      clear RV hown CL SN
      go_wp2
      go_ret
      exact ⟨va, vc, by rw [E.out]; rfl, by rw [← E.out]; exact HR.out, kw⟩

end Go.Proofs.YtpblpfleiilehafGreatDoor

namespace Go.Proofs.YtpblpfleiilehafGreatDoor
open Go.ChangeShapes Go.WideShapes Go.ChangeAt Go.RowKit Go.Lib
set_option linter.unusedVariables false

theorem rfloor_any (a b : Int) (w : World) (hb : 0 < b) (hb2 : b ≤ 9007199254740992) (ha : -9007199254740992 ≤ a) (ha2 : a ≤ 9007199254740992) :
    Calls Tryz.prog 32 #[.int .i64 a, .int .i64 b] w fun e w' => e = .returned (.int .i64 (a / b)) ∧ w' = w := by
  have D := hide (M.floor_eq a b hb)
  by_cases h : a < 0
  · obtain ⟨q1, q2⟩ := M.ediv_bd (b - 1 - a) b 18014398509481984 hb (by omega) (by omega) (by omega)
    go_enter Tryz.func32, Tryz.ntmps32
    go_wp2
    go_ret
    exact ⟨ret_int (by rw [← D.out, if_pos h]), rfl⟩
  · go_enter Tryz.func32, Tryz.ntmps32
    go_wp2
    go_ret
    exact ⟨ret_int rfl, rfl⟩

end Go.Proofs.YtpblpfleiilehafGreatDoor
