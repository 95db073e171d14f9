/-
  Several texts as one: GCheck, GwDone, WeiSame.
-/
import Derived.Test.YtlloiccodjnkcagGreatDoorRunW16
import Derived.Test.YtlloiccodjnkcagGreatDoorRunW13
import Derived.Deep.Cut
import Derived.Deep.CutRange
import Derived.Deep.AppendLies
namespace Go.Proofs.YtlloiccodjnkcagGreatDoor
open Go.ChangeShapes Go.WideShapes Go.ChangeAt Go.RowKit Go.Lib
set_option linter.unusedVariables false

theorem isway_any (x : Int) (w : World) (iw : Bool) (h : Hid (iw = decide (1 ≤ x ∧ x ≤ 3))) :
    Calls Tryz.prog 52 #[.int .i64 x] w fun e w' => e = .returned (.bool iw) ∧ w' = w := by
  rcases (show x = 1 ∨ x = 2 ∨ x = 3 ∨ (x ≠ 1 ∧ x ≠ 2 ∧ x ≠ 3) from by omega) with c | c | c | ⟨c1, c2, c3⟩
  · have q1 : (x == 1) = true := by rw [beq_iff_eq]; exact c
    have E : Hid (true = iw) := by unfold Hid; rw [h.out, decide_eq_true (by omega)]
    clear c h
    go_enter Tryz.func52, Tryz.ntmps52
    go_wp2
    go_ret
    exact ⟨ret_bool E.out, rfl⟩
  · have q1 : (x == 1) = false := by rw [beq_eq_false_iff_ne]; omega
    have q2 : (x == 2) = true := by rw [beq_iff_eq]; exact c
    have E : Hid (true = iw) := by unfold Hid; rw [h.out, decide_eq_true (by omega)]
    clear c h
    go_enter Tryz.func52, Tryz.ntmps52
    go_wp2
    go_ret
    exact ⟨ret_bool E.out, rfl⟩
  · have q1 : (x == 1) = false := by rw [beq_eq_false_iff_ne]; omega
    have q2 : (x == 2) = false := by rw [beq_eq_false_iff_ne]; omega
    have q3 : (x == 3) = true := by rw [beq_iff_eq]; exact c
    have E : Hid (true = iw) := by unfold Hid; rw [h.out, decide_eq_true (by omega)]
    clear c h
    go_enter Tryz.func52, Tryz.ntmps52
    go_wp2
    go_ret
    exact ⟨ret_bool E.out, rfl⟩
  · have q1 : (x == 1) = false := by rw [beq_eq_false_iff_ne]; omega
    have q2 : (x == 2) = false := by rw [beq_eq_false_iff_ne]; omega
    have q3 : (x == 3) = false := by rw [beq_eq_false_iff_ne]; omega
    have E : Hid (false = iw) := by unfold Hid; rw [h.out, decide_eq_false (by omega)]
    clear c1 c2 c3 h
    go_enter Tryz.func52, Tryz.ntmps52
    go_wp2
    go_ret
    exact ⟨ret_bool E.out, rfl⟩

theorem kept_box {w W : World} {a0 a1 a2 a3 : Value} {t : TypeId} (h : Below (w.alloc (.cells #[a0, a1, a2, a3] t)).heap.size (w.alloc (.cells #[a0, a1, a2, a3] t)) W) :
    W.cell? ⟨w.heap.size, 0, none⟩ = some a0 ∧ W.cell? ⟨w.heap.size, 1, none⟩ = some a1 ∧ W.cell? ⟨w.heap.size, 2, none⟩ = some a2 ∧ W.cell? ⟨w.heap.size, 3, none⟩ = some a3 := by
  have hs : w.heap.size < (w.alloc (.cells #[a0, a1, a2, a3] t)).heap.size := by simp
  exact ⟨(h.cell (p := ⟨w.heap.size, 0, none⟩) hs).trans (World.cell?_alloc_at _ _ _ 0 rfl), (h.cell (p := ⟨w.heap.size, 1, none⟩) hs).trans (World.cell?_alloc_at _ _ _ 1 rfl), (h.cell (p := ⟨w.heap.size, 2, none⟩) hs).trans (World.cell?_alloc_at _ _ _ 2 rfl), (h.cell (p := ⟨w.heap.size, 3, none⟩) hs).trans (World.cell?_alloc_at _ _ _ 3 rfl)⟩
theorem M.grove_rng {g : M.Gv} (h : M.gf g < 0 ∨ 8 < M.gf g ∨ M.gw g < 1 ∨ 3 < M.gw g) : M.groveF g = 1 := by unfold M.groveF; rw [if_pos h]
theorem err_num (c : Int) (h : c ≠ 0) : Ending.returned (.iface 68 (.int .i64 c)) = .returned (errV c) := by rw [err_some h]
theorem err_is {c d : Int} (h : c = d) (h0 : c ≠ 0) : Ending.returned (.iface 68 (.int .i64 c)) = .returned (errV d) := by rw [← h, err_some h0]
theorem err_none {d : Int} (h : d = 0) : Ending.returned .nilIface = .returned (errV d) := by rw [err_nil h]

/-- what is wrong with how many trees there are, or with their weights -/
def M.wtsF (ws : List Int) (n : Nat) : Int := if n = 0 then 5 else if 12 < n then 4 else if ws.length ≠ n then 3 else if ws.any M.wBad = true then 1 else 0
theorem err_go {c d : Int} (h : c = d) : Ending.returned (errV c) = .returned (errV d) := by rw [h]

set_option maxHeartbeats 4000000 in
theorem gwts_any (a : Option Addr) (ws : List Int) (ca n : Nat) (w : World) (h : Rd w a ws) :
    Calls Tryz.prog 53 #[.slice a ws.length ca, .int .i64 (n : Nat)] w fun e w' => e = .returned (errV (M.wtsF ws n)) ∧ w' = w := by
  have hm2 : ws.length ≤ 9223372036854775807 := h.1
  have HR := hide h
  clear h
  unfold M.wtsF
  by_cases t0 : n = 0
  · rw [if_pos t0]
    have q4 : ((n : Int) == 0) = true := by rw [beq_iff_eq]; omega
    clear t0
    go_enter Tryz.func53, Tryz.ntmps53
    go_wp2
    go_ret
    exact ⟨err_num 5 (by decide), rfl⟩
  · rw [if_neg t0]
    have q4 : ((n : Int) == 0) = false := by rw [beq_eq_false_iff_ne]; omega
    have t0' : 0 < n := by omega
    by_cases t12 : 12 < n
    · rw [if_pos t12]
      have q5 : decide (12 < (n : Int)) = true := decide_eq_true (by omega)
      clear t0 t12 t0'
      go_enter Tryz.func53, Tryz.ntmps53
      go_wp2
      go_ret
      exact ⟨err_num 4 (by decide), rfl⟩
    · rw [if_neg t12]
      have q5 : decide (12 < (n : Int)) = false := decide_eq_false (by omega)
      by_cases tw : ws.length ≠ n
      · rw [if_pos tw]
        have q6 : ((ws.length : Int) != (n : Int)) = true := by rw [bne_iff_ne]; omega
        clear t0 t12 t0' tw
        go_enter Tryz.func53, Tryz.ntmps53
        go_wp2
        go_ret
        exact ⟨err_num 3 (by decide), rfl⟩
      · rw [if_neg tw]
        have WB : Hid (∀ k (h : k < ws.length), M.wBad (ws.getD k 0) = true → ws.any M.wBad = true) := fun k h e => List.any_eq_true.2 ⟨_, by rw [M.getD_at h]; exact List.getElem_mem h, e⟩
        have WN : Hid ((∀ k, k < ws.length → M.wBad (ws.getD k 0) = false) → ws.any M.wBad = false) := fun h => by
          cases e : ws.any M.wBad with
          | false => rfl
          | true =>
            obtain ⟨x, hx, e2⟩ := List.any_eq_true.1 e
            obtain ⟨i, hi, rfl⟩ := List.getElem_of_mem hx
            have := h i hi
            rw [M.getD_at hi, e2] at this
            cases this
        have q6 : ((ws.length : Int) != (n : Int)) = false := by rw [bne_eq_false_iff_eq]; omega
        obtain ⟨bw, ow, ewa, hbw, hcw0⟩ := HR.out.2 (by intro e; rw [e] at tw; simp at tw; omega)
        have HCW := hide hcw0
        subst ewa
        clear HR t0 t12 tw t0' hcw0
        generalize hAB : ws.any M.wBad = AB at *
        have HAB := hide hAB
        clear hAB
        generalize hRV : (if AB = true then (1 : Int) else 0) = RV
        have HRV := hide hRV
        clear hRV
        go_enter Tryz.func53, Tryz.ntmps53
        go_wp2
        go_loopw [20] (fun i wr => ∃ k : Nat, k ≤ ws.length ∧ i = .int .i64 k ∧ Hid (∀ j, j < k → M.wBad (ws.getD j 0) = false) ∧ wr = w) (fun i _ => ws.length - (intOf i).toNat)
        case atStart => exact ⟨0, Nat.zero_le _, rfl, fun j hj => by omega, rfl⟩
        case round =>
          obtain ⟨k, hk, rfl, I, ew⟩ := hrel
          subst ew
          by_cases hlt : k < ws.length
          · have cw := HCW.out k hlt
            have kz : (k : Int) < (ws.length : Int) := by omega
            have wb : M.wBad (ws.getD k 0) = (decide (ws.getD k 0 < 1) || decide (1000 < ws.getD k 0)) := rfl
            by_cases b1 : ws.getD k 0 < 1
            · have E : Hid (AB = true) := WB.out k hlt (by rw [wb, decide_eq_true b1]; rfl)
              have p1 : decide (ws.getD k 0 < 1) = true := decide_eq_true b1
              have RE : Hid ((1 : Int) = RV) := by unfold Hid; rw [← HRV.out, if_pos E.out]
              clear WB WN wb b1 E HCW I
              generalize ws.getD k 0 = z at *
              go_wp2
              go_ret
              exact ⟨err_is RE.out (by decide), rfl⟩
            · by_cases b2 : 1000 < ws.getD k 0
              · have E : Hid (AB = true) := WB.out k hlt (by rw [wb, decide_eq_true b2]; simp)
                have p1 : decide (ws.getD k 0 < 1) = false := decide_eq_false b1
                have p2 : decide (1000 < ws.getD k 0) = true := decide_eq_true b2
                have RE : Hid ((1 : Int) = RV) := by unfold Hid; rw [← HRV.out, if_pos E.out]
                clear WB WN wb b1 b2 E HCW I
                generalize ws.getD k 0 = z at *
                go_wp2
                go_ret
                exact ⟨err_is RE.out (by decide), rfl⟩
              · have p1 : decide (ws.getD k 0 < 1) = false := decide_eq_false b1
                have p2 : decide (1000 < ws.getD k 0) = false := decide_eq_false b2
                have N : Hid (∀ j, j < k + 1 → M.wBad (ws.getD j 0) = false) := fun j hj => by
                  by_cases e : j = k
                  · rw [e, wb, p1, p2]; rfl
                  · exact I.out j (by omega)
                clear WB WN wb b1 b2 HCW I
                generalize ws.getD k 0 = z at *
                go_wp2
                go_roundw
                case rel => exact ⟨k + 1, by omega, by go_num, N, trivial⟩
                case measure => simp [intOf]; omega
          · have E : Hid (AB = false) := WN.out (fun j hj => I.out j (by omega))
            have RE : Hid (RV = 0) := by unfold Hid; rw [← HRV.out, E.out]; rfl
            clear WB WN I E HAB HCW
            go_wp2
            go_ret
            exact ⟨err_none RE.out, rfl⟩

theorem M.grove_wts {g : M.Gv} (h : ¬ (M.gf g < 0 ∨ 8 < M.gf g ∨ M.gw g < 1 ∨ 3 < M.gw g)) : M.groveF g = if M.wtsF (M.gs g) (M.gt g).length ≠ 0 then M.wtsF (M.gs g) (M.gt g).length else M.treesF (M.gf g) (M.gt g) := by
  unfold M.groveF M.wtsF
  rw [if_neg h]
  repeat' split
  all_goals first | rfl | omega | simp_all

set_option maxHeartbeats 16000000 in
set_option maxRecDepth 10000 in
theorem gcheck_any (G : Gr) (w : World) (h : RdG w G) :
    Calls Tryz.prog 24 #[G.v] w fun e w' => e = .returned (errV (M.groveF G.m)) ∧ Below w.heap.size w w' := by
  have hm1 : G.ks.length ≤ 9223372036854775807 := h.2.1
  have hm2 : G.ws.length ≤ 9223372036854775807 := h.1.1
  have HG := hide h
  have tlen : (M.gt G.m).length = G.ks.length := tl_len G.ks
  have B0 : Hid (∀ o, Below w.heap.size w (w.alloc o)) := fun o => (Below.refl _ w).alloc (Nat.le_refl _) o
  obtain ⟨iw, hiw⟩ : ∃ iw : Bool, iw = decide (1 ≤ G.w ∧ G.w ≤ 3) := ⟨_, rfl⟩
  have IW := hide (fun W => isway_any G.w W iw hiw)
  have CW := hide (fun W (hW : Below w.heap.size w W) => gwts_any G.wa G.ws G.wc G.ks.length W (HG.out.below hW).1)
  clear h
  unfold Gr.v
  by_cases hR : M.gf G.m < 0 ∨ 8 < M.gf G.m ∨ M.gw G.m < 1 ∨ 3 < M.gw G.m
  · rw [M.grove_rng hR]
    have hR' : G.f < 0 ∨ 8 < G.f ∨ G.w < 1 ∨ 3 < G.w := hR
    clear hR tlen HG CW
    by_cases c0 : G.f < 0
    · have q0 : decide (G.f < 0) = true := decide_eq_true (by omega)
      clear hR' c0 hiw
      go_enter Tryz.func24, Tryz.ntmps24
      go_wp2
      go_ret
      exact ⟨err_num 1 (by decide), B0.out _⟩
    · by_cases c1 : 8 < G.f
      · have q0 : decide (G.f < 0) = false := decide_eq_false (by omega)
        have q1 : decide (8 < G.f) = true := decide_eq_true (by omega)
        clear hR' c0 c1 hiw
        go_enter Tryz.func24, Tryz.ntmps24
        go_wp2
        go_ret
        exact ⟨err_num 1 (by decide), B0.out _⟩
      · have q0 : decide (G.f < 0) = false := decide_eq_false (by omega)
        have q1 : decide (8 < G.f) = false := decide_eq_false (by omega)
        have e : iw = false := by rw [hiw, decide_eq_false (by omega)]
        subst e
        clear hR' c0 c1 hiw
        go_enter Tryz.func24, Tryz.ntmps24
        go_wp2_with (go_at_call 52; refine (IW.out _).mono ?_; rintro e w1 ⟨rfl, e1⟩; subst w1)
        go_ret
        exact ⟨err_num 1 (by decide), B0.out _⟩
  · have hR' : ¬ (G.f < 0 ∨ 8 < G.f ∨ G.w < 1 ∨ 3 < G.w) := hR
    have q0 : decide (G.f < 0) = false := decide_eq_false (by omega)
    have q1 : decide (8 < G.f) = false := decide_eq_false (by omega)
    have e : iw = true := by rw [hiw, decide_eq_true (by omega)]
    subst e
    have E0 : M.groveF G.m = if M.wtsF G.ws G.ks.length ≠ 0 then M.wtsF G.ws G.ks.length else M.treesF G.f (tl G.ks) := by
      rw [← tlen]; exact M.grove_wts hR
    rw [E0]
    clear hR E0 hiw hR'
    by_cases hw : M.wtsF G.ws G.ks.length ≠ 0
    · rw [if_pos hw]
      have HW := hide hw
      rw [err_some hw] at CW
      clear tlen HG hw
      generalize M.wtsF G.ws G.ks.length = wf at *
      go_enter Tryz.func24, Tryz.ntmps24
      go_wp2_with (first
        | (go_at_call 52; refine (IW.out _).mono ?_; rintro e w1 ⟨rfl, e1⟩; subst w1)
        | (go_at_call 53; refine (CW.out _ (B0.out _)).mono ?_; rintro e w2 ⟨rfl, e2⟩; subst w2))
      go_ret
      exact ⟨err_num _ HW.out, B0.out _⟩
    · rw [if_neg hw]
      have w0 : M.wtsF G.ws G.ks.length = 0 := by omega
      rw [w0, err_nil rfl] at CW
      have t0' : 0 < G.ks.length := by
        rcases Nat.eq_zero_or_pos G.ks.length with q | q
        · unfold M.wtsF at w0; rw [if_pos q] at w0; cases w0
        · exact q
      have n12 : G.ks.length ≤ 12 := by
        unfold M.wtsF at w0; rw [if_neg (by omega)] at w0
        by_cases q : 12 < G.ks.length
        · rw [if_pos q] at w0; cases w0
        · omega
      have TA : Hid (∀ k, k < G.ks.length → (∀ j, j < k → (M.treeF ((tl G.ks).getD j []) G.f).2 = 0) → (M.treeF ((tl G.ks).getD k []) G.f).2 ≠ 0 → M.treesF G.f (tl G.ks) = (M.treeF ((tl G.ks).getD k []) G.f).2) := fun k hk h hn => M.trees_at (by rw [tl_len]; exact hk) h hn
      have TN : Hid ((∀ j, j < G.ks.length → (M.treeF ((tl G.ks).getD j []) G.f).2 = 0) → M.treesF G.f (tl G.ks) = 0) := fun h => M.trees_all (fun j hj => h j (by rw [tl_len] at hj; exact hj))
      have TL : Hid (∀ k (h : k < G.ks.length), (tl G.ks).getD k [] = G.ks[k].2.1) := fun k h => tl_at G.ks h
      have RT : Hid (∀ W, Below w.heap.size w W → RdT W G.ta G.ks) := fun W hW => (HG.out.below hW).2
      obtain ⟨bt, ot, eta, hbt, hct0⟩ := HG.out.2.2.2 (by intro e; rw [e] at t0'; simp at t0')
      have HCT : Hid (∀ W, Below w.heap.size w W → ∀ i (hi : i < G.ks.length), W.cell? ⟨bt, ot + i, none⟩ = some (tV G.ks[i])) := fun W hW i hi => (hW.cell (p := ⟨bt, ot + i, none⟩) hbt).trans (hct0 i hi)
      rw [eta]
      clear tlen HG hw w0 hct0 hbt eta
      generalize M.treesF G.f (tl G.ks) = TF at *
      have KG : Hid (∀ W, Below (w.alloc (.cells #[.int .i64 G.f, .int .i64 G.w, .slice G.wa G.ws.length G.wc, .slice (some ⟨bt, ot, none⟩) G.ks.length G.tc] 25)).heap.size (w.alloc (.cells #[.int .i64 G.f, .int .i64 G.w, .slice G.wa G.ws.length G.wc, .slice (some ⟨bt, ot, none⟩) G.ks.length G.tc] 25)) W → Below w.heap.size w W ∧ W.cell? ⟨w.heap.size, 0, none⟩ = some (.int .i64 G.f) ∧ W.cell? ⟨w.heap.size, 3, none⟩ = some (.slice (some ⟨bt, ot, none⟩) G.ks.length G.tc)) := fun W hW =>
        ⟨below_on ((Below.refl _ w).alloc (Nat.le_refl _) _) hW, (kept_box hW).1, (kept_box hW).2.2.2⟩
      go_enter Tryz.func24, Tryz.ntmps24
      go_wp2_with (first
        | (go_at_call 52; refine (IW.out _).mono ?_; rintro e w1 ⟨rfl, e1⟩; subst w1)
        | (go_at_call 53; refine (CW.out _ (B0.out _)).mono ?_; rintro e w2 ⟨rfl, e2⟩; subst w2))
      go_loopw [35] (fun i wr => ∃ k : Nat, k ≤ G.ks.length ∧ i = .int .i64 k ∧ Hid (∀ j, j < k → (M.treeF ((tl G.ks).getD j []) G.f).2 = 0) ∧ Hid (Below (w.alloc (.cells #[.int .i64 G.f, .int .i64 G.w, .slice G.wa G.ws.length G.wc, .slice (some ⟨bt, ot, none⟩) G.ks.length G.tc] 25)).heap.size (w.alloc (.cells #[.int .i64 G.f, .int .i64 G.w, .slice G.wa G.ws.length G.wc, .slice (some ⟨bt, ot, none⟩) G.ks.length G.tc] 25)) wr)) (fun i _ => G.ks.length - (intOf i).toNat)
      case atStart => exact ⟨0, Nat.zero_le _, rfl, fun j hj => by omega, Below.refl _ _⟩
      case round =>
        obtain ⟨k, hk, rfl, I, K⟩ := hrel
        obtain ⟨kw, c0, c3⟩ := KG.out _ K.out
        by_cases hlt : k < G.ks.length
        · obtain ⟨hk1, hk2, hk3⟩ := RT.out wr kw
          have ct := HCT.out wr kw k hlt
          have rk := hk2 _ (List.getElem_mem hlt)
          have TE := TL.out k hlt
          have TR := hide (tcheck_any G.ks[k].1 G.ks[k].2.1 G.ks[k].2.2 G.f wr rk)
          have TAK := hide (TA.out k hlt I.out)
          rw [TE] at TAK
          have kz : (k : Int) < (G.ks.length : Int) := by omega
          unfold tV at ct
          have N : Hid ((M.treeF G.ks[k].2.1 G.f).2 = 0 → ∀ j, j < k + 1 → (M.treeF ((tl G.ks).getD j []) G.f).2 = 0) := fun hz j hj => by
            by_cases e : j = k
            · rw [e, TE]; exact hz
            · exact I.out j (by omega)
          clear hk1 hk2 hk3 HCT rk TE TA TN TL RT I
          generalize (M.treeF G.ks[k].2.1 G.f).2 = te at *
          generalize (M.treeF G.ks[k].2.1 G.f).1 = tp at *
          generalize G.ks[k].2.1.length = tn at *
          generalize G.ks[k].2.2 = tcc at *
          generalize G.ks[k].1 = ta at *
          by_cases hz : te = 0
          · rw [err_nil hz] at TR
            have NN := hide (N.out hz)
            clear hz N TAK
            go_wp2_with (go_at_call 54; refine TR.out.mono ?_; rintro e w5 ⟨rfl, hb5⟩; have K6 := hide (below_on K.out hb5))
            go_roundw
            case rel => exact ⟨k + 1, by omega, by go_num, NN, K6⟩
            case measure => simp [intOf]; omega
          · rw [err_some hz] at TR
            have TE2 := hide (TAK.out hz)
            have HZ := hide hz
            clear hz N TAK
            go_wp2_with (go_at_call 54; refine TR.out.mono ?_; rintro e w5 ⟨rfl, hb5⟩; have kw6 := below_on kw hb5)
            go_ret
            exact ⟨err_is (by rw [TE2.out]) HZ.out, kw6⟩
        · have TZ : Hid (TF = 0) := TN.out (fun j hj => I.out j (by omega))
          clear TA TN TL RT I HCT
          go_wp2
          go_ret
          exact ⟨err_none TZ.out, kw⟩

end Go.Proofs.YtlloiccodjnkcagGreatDoor

namespace Go.Proofs.YtlloiccodjnkcagGreatDoor
open Go.ChangeShapes Go.WideShapes Go.ChangeAt Go.RowKit Go.Lib
set_option linter.unusedVariables false

abbrev nilG : Obj := .cells #[.int .i64 0, .int .i64 0, .slice none 0 0, .slice none 0 0] 25
/-- a block of nothing -/
structure Zf (V : World) (p : Nat) : Prop where
  c0 : V.cell? ⟨p, 0, none⟩ = some (.int .i64 0)
  c1 : V.cell? ⟨p, 1, none⟩ = some (.int .i64 0)
  c2 : V.cell? ⟨p, 2, none⟩ = some (.slice none 0 0)
  c3 : V.cell? ⟨p, 3, none⟩ = some (.slice none 0 0)
  fr : ∀ j, V.frozen? ⟨p, j, none⟩ = false
  sz : p < V.heap.size
theorem zf_made (W : World) : Zf (W.alloc nilG) W.heap.size :=
  ⟨World.cell?_alloc_at _ _ _ 0 rfl, World.cell?_alloc_at _ _ _ 1 rfl, World.cell?_alloc_at _ _ _ 2 rfl, World.cell?_alloc_at _ _ _ 3 rfl, fun j => by
    unfold World.frozen?
    rw [heap_alloc_new W _]
    simp, by simp⟩
theorem Zf.same {V V' : World} {p : Nat} (h : Zf V p) (hs : V'.heap[p]? = V.heap[p]?) (hz : V.heap.size ≤ V'.heap.size) : Zf V' p :=
  ⟨(World.cell?_of_block (a := ⟨p, 0, none⟩) hs).trans h.c0, (World.cell?_of_block (a := ⟨p, 1, none⟩) hs).trans h.c1, (World.cell?_of_block (a := ⟨p, 2, none⟩) hs).trans h.c2, (World.cell?_of_block (a := ⟨p, 3, none⟩) hs).trans h.c3, fun j => (World.frozen?_of_block (a := ⟨p, j, none⟩) hs).trans (h.fr j), Nat.lt_of_lt_of_le h.sz hz⟩
theorem Zf.up {V V' : World} {p : Nat} (h : Zf V p) (hb : Below V.heap.size V V') : Zf V' p := h.same (hb.block p h.sz) hb.size
abbrev put4 (W : World) (p : Nat) (x0 x1 x2 x3 : Value) : World := (((W.setCell ⟨p, 0, none⟩ x0).setCell ⟨p, 1, none⟩ x1).setCell ⟨p, 2, none⟩ x2).setCell ⟨p, 3, none⟩ x3
theorem put4_far {W : World} {p q : Nat} {x0 x1 x2 x3 : Value} (h : q ≠ p) : (put4 W p x0 x1 x2 x3).heap[q]? = W.heap[q]? := by
  unfold put4
  rw [Below.heap_setCell _ _ _ _ h, Below.heap_setCell _ _ _ _ h, Below.heap_setCell _ _ _ _ h, Below.heap_setCell _ _ _ _ h]
theorem put4_size {W : World} {p : Nat} {x0 x1 x2 x3 : Value} : (put4 W p x0 x1 x2 x3).heap.size = W.heap.size := by simp
theorem put4_below {B : Nat} {w W : World} {p : Nat} {x0 x1 x2 x3 : Value} (h : Below B w W) (hp : B ≤ p) : Below B w (put4 W p x0 x1 x2 x3) :=
  (((h.setCell (p := ⟨p, 0, none⟩) hp _).setCell (p := ⟨p, 1, none⟩) hp _).setCell (p := ⟨p, 2, none⟩) hp _).setCell (p := ⟨p, 3, none⟩) hp _
theorem put4_cells {W : World} {p : Nat} {x0 x1 x2 x3 : Value} (z : Zf W p) :
    (put4 W p x0 x1 x2 x3).cell? ⟨p, 0, none⟩ = some x0 ∧ (put4 W p x0 x1 x2 x3).cell? ⟨p, 1, none⟩ = some x1 ∧ (put4 W p x0 x1 x2 x3).cell? ⟨p, 2, none⟩ = some x2 ∧ (put4 W p x0 x1 x2 x3).cell? ⟨p, 3, none⟩ = some x3 ∧ ∀ j, (put4 W p x0 x1 x2 x3).frozen? ⟨p, j, none⟩ = false := by
  have o : ∀ (V : World) (i j : Nat) (v : Value), i ≠ j → (V.setCell ⟨p, i, none⟩ v).cell? ⟨p, j, none⟩ = V.cell? ⟨p, j, none⟩ := fun V i j v hij => World.cell?_setCell_other _ _ _ _ (by intro e; cases e; exact hij rfl)
  have s : ∀ (V : World) (j : Nat) (v u : Value), V.cell? ⟨p, j, none⟩ = some u → (V.setCell ⟨p, j, none⟩ v).cell? ⟨p, j, none⟩ = some v := fun V j v u hu => World.cell?_setCell_same (u := u) _ _ _ hu
  refine ⟨?_, ?_, ?_, ?_, fun j => ?_⟩
  · rw [o _ _ _ _ (by decide), o _ _ _ _ (by decide), o _ _ _ _ (by decide), s _ _ _ _ z.c0]
  · rw [o _ _ _ _ (by decide), o _ _ _ _ (by decide), s _ _ _ (.int .i64 0) (by rw [o _ _ _ _ (by decide)]; exact z.c1)]
  · rw [o _ _ _ _ (by decide), s _ _ _ (.slice none 0 0) (by rw [o _ _ _ _ (by decide), o _ _ _ _ (by decide)]; exact z.c2)]
  · rw [s _ _ _ (.slice none 0 0) (by rw [o _ _ _ _ (by decide), o _ _ _ _ (by decide), o _ _ _ _ (by decide)]; exact z.c3)]
  · have := z.fr j
    simpa using this

theorem set4f {W : World} {p : Nat} {x0 x1 x2 x3 y0 y1 y2 y3 : Value} (h0 : W.cell? ⟨p, 0, none⟩ = some y0) (h1 : W.cell? ⟨p, 1, none⟩ = some y1) (h2 : W.cell? ⟨p, 2, none⟩ = some y2) (h3 : W.cell? ⟨p, 3, none⟩ = some y3) :
    (W.setCell ⟨p, 0, none⟩ x0).cell? ⟨p, 0, none⟩ = some x0 ∧ ((W.setCell ⟨p, 0, none⟩ x0).setCell ⟨p, 1, none⟩ x1).cell? ⟨p, 1, none⟩ = some x1 ∧
    (((W.setCell ⟨p, 0, none⟩ x0).setCell ⟨p, 1, none⟩ x1).setCell ⟨p, 2, none⟩ x2).cell? ⟨p, 2, none⟩ = some x2 ∧
    ((((W.setCell ⟨p, 0, none⟩ x0).setCell ⟨p, 1, none⟩ x1).setCell ⟨p, 2, none⟩ x2).setCell ⟨p, 3, none⟩ x3).cell? ⟨p, 3, none⟩ = some x3 := by
  have o : ∀ (V : World) (i j : Nat) (v : Value), i ≠ j → (V.setCell ⟨p, i, none⟩ v).cell? ⟨p, j, none⟩ = V.cell? ⟨p, j, none⟩ := fun V i j v hij => World.cell?_setCell_other _ _ _ _ (by intro e; cases e; exact hij rfl)
  refine ⟨World.cell?_setCell_same _ _ _ h0, World.cell?_setCell_same (u := y1) _ _ _ ?_, World.cell?_setCell_same (u := y2) _ _ _ ?_, World.cell?_setCell_same (u := y3) _ _ _ ?_⟩
  · rw [o _ _ _ _ (by decide)]; exact h1
  · rw [o _ _ _ _ (by decide), o _ _ _ _ (by decide)]; exact h2
  · rw [o _ _ _ _ (by decide), o _ _ _ _ (by decide), o _ _ _ _ (by decide)]; exact h3
/-- the first part of the work: the grove's block with all but its trees -/
structure Gs (w wx : World) (gb : Nat) (f wy : Int) (ws : List Int) (wa : Option Addr) (wc : Nat) : Prop where
  gw : Gw wx wx gb f wy (.slice wa ws.length wc) [] (.slice none 0 0)
  rw : Rd wx wa ws
  ne : ∀ p, wa = some p → p.block ≠ gb ∧ p.block ≠ w.heap.size
  gn : w.heap.size < gb
  z : Zf wx w.heap.size
  b : Below w.heap.size w wx
theorem gs_a {w w3 : World} {f wy : Int} {ws : List Int} {wa : Option Addr} {wc : Nat} (h0 : 0 < ws.length) (hb : Below ((w.alloc nilG).alloc nilG).drew.heap.size ((w.alloc nilG).alloc nilG).drew w3) (hr : Rd w3 wa ws) (ha : ∀ p, wa = some p → ((w.alloc nilG).alloc nilG).drew.heap.size ≤ p.block) :
    Zf w3 (w.heap.size + 1) ∧ Gs w (put4 w3 (w.heap.size + 1) (.int .i64 f) (.int .i64 wy) (.slice wa ws.length wc) (.slice none 0 0)) (w.heap.size + 1) f wy ws wa wc := by
  have e1 : (w.alloc nilG).heap.size = w.heap.size + 1 := by simp
  have e2 : ((w.alloc nilG).alloc nilG).drew.heap.size = w.heap.size + 1 + 1 := by
    show ((w.alloc nilG).alloc nilG).heap.size = _
    simp
  have z1 : Zf w3 (w.heap.size + 1) := by
    have := ((zf_made (w.alloc nilG)).up (Below.refl _ _).drew).up hb
    rw [e1] at this
    exact this
  have z0 : Zf w3 w.heap.size := ((zf_made w).up (((Below.refl _ _).alloc (Nat.le_refl _) _).drew)).up hb
  have b0 : Below w.heap.size w w3 := below_on ((((Below.refl _ w).alloc (Nat.le_refl _) _).alloc (by simp) _).drew) hb
  have s3 := hb.size
  rw [e2] at s3
  have fresh : ∀ p, wa = some p → p.block ≠ w.heap.size + 1 ∧ p.block ≠ w.heap.size := fun p hp => by
    have := ha p hp
    rw [e2] at this
    omega
  obtain ⟨p0, p1, p2, p3, pf⟩ := put4_cells (x0 := .int .i64 f) (x1 := .int .i64 wy) (x2 := .slice wa ws.length wc) (x3 := .slice none 0 0) z1
  refine ⟨z1, ⟨⟨World.grownBy.refl _ _, p0, p1, p2, p3, pf, by rw [put4_size]; omega, World.ownsRow_nil _ _ _ _, (fun c hc => by cases hc), (fun c hc => by cases hc)⟩, rd_keep hr (fun p hp => put4_far (fresh p hp).1) (by rw [put4_size]; exact Nat.le_refl _), fresh, by omega, z0.same (put4_far (by omega)) (by rw [put4_size]; exact Nat.le_refl _), put4_below b0 (by omega)⟩⟩
theorem gs_b {w w3 : World} {f wy : Int} {ws : List Int} {wa : Option Addr} {wc : Nat} (h0 : 0 < ws.length) (hb : Below (w.alloc nilG).drew.heap.size (w.alloc nilG).drew w3) (hr : Rd w3 wa ws) (ha : ∀ p, wa = some p → (w.alloc nilG).drew.heap.size ≤ p.block) :
    Gs w (w3.alloc (.cells #[.int .i64 f, .int .i64 wy, .slice wa ws.length wc, .slice none 0 0] 25)) w3.heap.size f wy ws wa wc := by
  have e1 : (w.alloc nilG).drew.heap.size = w.heap.size + 1 := by
    show (w.alloc nilG).heap.size = _
    simp
  have z0 : Zf w3 w.heap.size := ((zf_made w).up ((Below.refl _ _).drew)).up hb
  have b0 : Below w.heap.size w w3 := below_on (((Below.refl _ w).alloc (Nat.le_refl _) _).drew) hb
  have s3 := hb.size
  rw [e1] at s3
  have ba : Below w3.heap.size w3 (w3.alloc (.cells #[.int .i64 f, .int .i64 wy, .slice wa ws.length wc, .slice none 0 0] 25)) := (Below.refl _ _).alloc (Nat.le_refl _) _
  refine ⟨⟨World.grownBy.refl _ _, World.cell?_alloc_at _ _ _ 0 rfl, World.cell?_alloc_at _ _ _ 1 rfl, World.cell?_alloc_at _ _ _ 2 rfl, World.cell?_alloc_at _ _ _ 3 rfl, fun j => ?_, by simp, World.ownsRow_nil _ _ _ _, (fun c hc => by cases hc), (fun c hc => by cases hc)⟩, hr.below ba, fun p hp => ?_, by omega, z0.up ba, below_on b0 ba⟩
  · unfold World.frozen?
    rw [heap_alloc_new w3 _]
    simp
  · obtain ⟨b, off, e, hl, _⟩ := hr.2 (by intro e; rw [e] at h0; simp at h0)
    have q := ha p hp
    rw [e1] at q
    rw [hp] at e
    cases e
    have q' : w.heap.size + 1 ≤ b := q
    exact ⟨Nat.ne_of_lt hl, show b ≠ w.heap.size by omega⟩

/-- .. where something was done between -/
theorem gs_a2 {w W1 w3 : World} {f wy : Int} {ws : List Int} {wa : Option Addr} {wc : Nat} (z : Zf W1 w.heap.size) (b : Below w.heap.size w W1) (hb : Below (W1.alloc nilG).drew.heap.size (W1.alloc nilG).drew w3) (hr : Rd w3 wa ws) (ha : ∀ p, wa = some p → (W1.alloc nilG).drew.heap.size ≤ p.block) :
    Zf w3 W1.heap.size ∧ Gs w (put4 w3 W1.heap.size (.int .i64 f) (.int .i64 wy) (.slice wa ws.length wc) (.slice none 0 0)) W1.heap.size f wy ws wa wc := by
  have e2 : (W1.alloc nilG).drew.heap.size = W1.heap.size + 1 := by
    show (W1.alloc nilG).heap.size = _
    simp
  have z1 : Zf w3 W1.heap.size := ((zf_made W1).up (Below.refl _ _).drew).up hb
  have z0 : Zf w3 w.heap.size := (z.up (((Below.refl _ _).alloc (Nat.le_refl _) _).drew)).up hb
  have zz := z.sz
  have b0 : Below w.heap.size w w3 := below_on b (below_on (((Below.refl _ W1).alloc (Nat.le_refl _) _).drew) hb)
  have s3 := hb.size
  rw [e2] at s3
  have fresh : ∀ p, wa = some p → p.block ≠ W1.heap.size ∧ p.block ≠ w.heap.size := fun p hp => by
    have := ha p hp
    rw [e2] at this
    omega
  obtain ⟨p0, p1, p2, p3, pf⟩ := put4_cells (x0 := .int .i64 f) (x1 := .int .i64 wy) (x2 := .slice wa ws.length wc) (x3 := .slice none 0 0) z1
  refine ⟨z1, ⟨⟨World.grownBy.refl _ _, p0, p1, p2, p3, pf, by rw [put4_size]; omega, World.ownsRow_nil _ _ _ _, (fun c hc => by cases hc), (fun c hc => by cases hc)⟩, rd_keep hr (fun p hp => put4_far (fresh p hp).1) (by rw [put4_size]; exact Nat.le_refl _), fresh, by omega, z0.same (put4_far (by omega)) (by rw [put4_size]; exact Nat.le_refl _), put4_below b0 (by omega)⟩⟩
theorem gs_b2 {w W1 w3 : World} {f wy : Int} {ws : List Int} {wa : Option Addr} {wc : Nat} (h0 : 0 < ws.length) (z : Zf W1 w.heap.size) (b : Below w.heap.size w W1) (hb : Below W1.drew.heap.size W1.drew w3) (hr : Rd w3 wa ws) (ha : ∀ p, wa = some p → W1.drew.heap.size ≤ p.block) :
    Gs w (w3.alloc (.cells #[.int .i64 f, .int .i64 wy, .slice wa ws.length wc, .slice none 0 0] 25)) w3.heap.size f wy ws wa wc := by
  have e1 : W1.drew.heap.size = W1.heap.size := rfl
  have z0 : Zf w3 w.heap.size := (z.up ((Below.refl _ _).drew)).up hb
  have zz := z.sz
  have b0 : Below w.heap.size w w3 := below_on b (below_on ((Below.refl _ W1).drew) hb)
  have s3 := hb.size
  rw [e1] at s3
  have ba : Below w3.heap.size w3 (w3.alloc (.cells #[.int .i64 f, .int .i64 wy, .slice wa ws.length wc, .slice none 0 0] 25)) := (Below.refl _ _).alloc (Nat.le_refl _) _
  refine ⟨⟨World.grownBy.refl _ _, World.cell?_alloc_at _ _ _ 0 rfl, World.cell?_alloc_at _ _ _ 1 rfl, World.cell?_alloc_at _ _ _ 2 rfl, World.cell?_alloc_at _ _ _ 3 rfl, fun j => ?_, by simp, World.ownsRow_nil _ _ _ _, (fun c hc => by cases hc), (fun c hc => by cases hc)⟩, hr.below ba, fun p hp => ?_, by omega, z0.up ba, below_on b0 ba⟩
  · unfold World.frozen?
    rw [heap_alloc_new w3 _]
    simp
  · obtain ⟨b, off, e, hl, _⟩ := hr.2 (by intro e; rw [e] at h0; simp at h0)
    have q := ha p hp
    rw [e1] at q
    rw [hp] at e
    cases e
    have q' : W1.heap.size ≤ b := q
    exact ⟨Nat.ne_of_lt hl, show b ≠ w.heap.size by omega⟩

/-- the grove, as it is handed back -/
theorem gw_done {w wx wr : World} {gb : Nat} {f wy : Int} {ws : List Int} {wa : Option Addr} {wc : Nat} {C : List Tc} {x : Value} (s : Gs w wx gb f wy ws wa wc) (h : Gw wx wr gb f wy (.slice wa ws.length wc) C x) (h0 : 0 < C.length) (h12 : C.length ≤ 12) (hw0 : 0 < ws.length) (y0 y1 y2 y3 : Value) :
    ∃ g c, x = .slice (some ⟨g, 0, none⟩) C.length c ∧ Zf wr w.heap.size ∧ RdG (put4 wr w.heap.size y0 y1 y2 y3) ⟨f, wy, wa, ws, wc, some ⟨g, 0, none⟩, C, c⟩ ∧ Below w.heap.size w (put4 wr w.heap.size y0 y1 y2 y3) := by
  have gs := h.gr.size
  have rz := s.z.sz
  obtain ⟨g, c, e, hg1, hg2⟩ := h.ox.form h0
  subst e
  have far : ∀ q, q ≠ w.heap.size → (put4 wr w.heap.size y0 y1 y2 y3).heap[q]? = wr.heap[q]? := fun q hq => put4_far hq
  refine ⟨g, c, rfl, s.z.same (h.gr.block _ rz (fun e => by have := s.gn; cases e; omega)) gs, ⟨rd_keep s.rw (fun p hp => ?_) (by rw [put4_size]; exact gs), ?_, ?_, fun _ => ⟨g, 0, rfl, by rw [put4_size]; exact hg2, fun i hi => ?_⟩⟩, put4_below (s.b.grown h.gr s.b.size (fun k hk => by cases hk; have := s.gn; omega)) (Nat.le_refl _)⟩
  · obtain ⟨n1, n2⟩ := s.ne p hp
    have hp' : wa = some p := hp
    obtain ⟨b, off, e, hl, _⟩ := s.rw.2 (by intro e; rw [e] at hw0; simp at hw0)
    rw [hp'] at e
    cases e
    exact (far _ n2).trans (h.gr.block _ hl (fun e => n1 (by cases e; rfl)))
  · show C.length ≤ maxLen
    unfold maxLen; omega
  · intro c' hc
    have hc' : c' ∈ C := hc
    exact rdn_keep (h.rd c' hc') (fun p hp => far _ (by have := (h.ap c' hc' p hp).1; omega)) (by rw [put4_size]; exact Nat.le_refl _)
  · have hi' : i < C.length := hi
    rw [Nat.zero_add]
    refine (World.cell?_of_block (a := ⟨g, i, none⟩) (far g (by omega))).trans ((h.ox.cellAt i (by omega)).trans ?_)
    rw [List.getElem?_map, List.getElem?_eq_getElem hi']
    rfl

end Go.Proofs.YtlloiccodjnkcagGreatDoor

namespace Go.Proofs.YtlloiccodjnkcagGreatDoor
open Go.ChangeShapes Go.WideShapes Go.ChangeAt Go.RowKit Go.Lib
set_option linter.unusedVariables false

set_option maxHeartbeats 4000000 in
set_option maxRecDepth 10000 in
theorem weisame_any : WgSameGives := by
  intro a b xs ys ca cb w ha hb
  have hm : xs.length ≤ 9223372036854775807 := ha.1
  have hm2 : ys.length ≤ 9223372036854775807 := hb.1
  by_cases hl : xs.length = ys.length
  · have q1 : ((xs.length : Int) != (ys.length : Int)) = false := by rw [bne_eq_false_iff_eq]; omega
    by_cases hk : 1000 < xs.length
    · have EF : M.sameF xs ys = 4 := by unfold M.sameF; rw [if_neg (by simpa using hl), if_pos hk]
      have EV : M.sameV xs ys = 0 := by unfold M.sameV; rw [EF]; rfl
      rw [EF, EV, err_some (by decide)]
      have q2 : decide ((1000 : Int) < (xs.length : Int)) = true := decide_eq_true (by omega)
      have q3 : decide (1000 < xs.length) = true := decide_eq_true (by omega)
      clear ha hb EF EV hl hk
      generalize xs.length = n at *
      generalize ys.length = m at *
      go_enter Tryz.func16, Tryz.ntmps16
      go_wp2
      go_ret2
      exact ⟨rfl, Below.refl _ _⟩
    · have EF : M.sameF xs ys = 0 := by unfold M.sameF; rw [if_neg (by simpa using hl), if_neg hk]
      have EV : M.sameV xs ys = (M.sameN xs ys : Nat) := by unfold M.sameV; rw [if_pos EF]
      rw [EF, EV, err_nil rfl]
      have q2 : decide ((1000 : Int) < (xs.length : Int)) = false := decide_eq_false (by omega)
      have q3 : decide (1000 < xs.length) = false := decide_eq_false (by omega)
      have HL := hide hl
      have HA := hide ha
      have HB := hide hb
      have SM : Hid (∀ k, k < xs.length → M.sameN (xs.take (k + 1)) (ys.take (k + 1)) = M.sameN (xs.take k) (ys.take k) + (if xs.getD k 0 = ys.getD k 0 then 1 else 0)) := fun k hk => M.same_more hl hk
      have SL : Hid (∀ k, M.sameN (xs.take k) (ys.take k) ≤ 1000) := fun k => by
        have := M.same_le (xs.take k) (ys.take k)
        rw [List.length_take] at this
        omega
      have SE : Hid (M.sameN (xs.take xs.length) (ys.take xs.length) = M.sameN xs ys) := by unfold Hid; rw [List.take_length, hl, List.take_length]
      generalize M.sameN xs ys = o at *
      clear ha hb EF EV hl hk
      go_enter Tryz.func16, Tryz.ntmps16
      go_wp2
      go_loopw [6, 21] (fun s i wr => ∃ k : Nat, k ≤ xs.length ∧ i = .int .i64 k ∧ s = .int .i64 (M.sameN (xs.take k) (ys.take k) : Nat) ∧ Hid (Below w.heap.size w wr)) (fun _ i _ => xs.length - (intOf i).toNat)
      case atStart => exact ⟨0, Nat.zero_le _, rfl, rfl, Below.refl _ _⟩
      case round =>
        obtain ⟨k, hk, rfl, rfl, K⟩ := hrel
        by_cases hlt : k < xs.length
        · have hlt2 : k < ys.length := by have := HL.out; omega
          obtain ⟨ba, oa, rfl, hba, hca⟩ := HA.out.2 (by intro e; rw [e] at hlt; simp at hlt)
          obtain ⟨bb, ob, rfl, hbb, hcb⟩ := HB.out.2 (by intro e; rw [e] at hlt2; simp at hlt2)
          have c1 := (K.out.cell (p := ⟨ba, oa + k, none⟩) hba).trans (hca k hlt)
          have c2 := (K.out.cell (p := ⟨bb, ob + k, none⟩) hbb).trans (hcb k hlt2)
          have S1 := hide (SM.out k hlt)
          have s0 := SL.out k
          have kz : (k : Int) < (xs.length : Int) := by omega
          have kz2 : (k : Int) < (ys.length : Int) := by omega
          clear hca hcb SM SL SE HA HB
          generalize hx : xs.getD k 0 = x at *
          generalize hy : ys.getD k 0 = y at *
          clear hx hy
          generalize M.sameN (xs.take k) (ys.take k) = s at *
          by_cases he : x = y
          · have q : (x == y) = true := by rw [beq_iff_eq]; exact he
            have E1 : Hid (M.sameN (xs.take (k + 1)) (ys.take (k + 1)) = s + 1) := by unfold Hid; rw [S1.out, if_pos he]
            clear he S1
            go_wp2
            go_roundw
            case rel => exact ⟨k + 1, by omega, by go_num, by rw [E1.out]; go_num, K⟩
            case measure => simp [intOf]; omega
          · have q : (x == y) = false := by rw [beq_eq_false_iff_ne]; exact he
            have E1 : Hid (M.sameN (xs.take (k + 1)) (ys.take (k + 1)) = s) := by unfold Hid; rw [S1.out, if_neg he]; omega
            clear he S1
            go_wp2
            go_roundw
            case rel => exact ⟨k + 1, by omega, by go_num, by rw [E1.out], K⟩
            case measure => simp [intOf]; omega
        · have ke : k = xs.length := by omega
          have E1 : Hid (M.sameN (xs.take k) (ys.take k) = o) := by unfold Hid; rw [ke]; exact SE.out
          clear SM SL SE HA HB ke
          generalize M.sameN (xs.take k) (ys.take k) = s at *
          go_wp2
          go_ret2
          exact ⟨by rw [E1.out]; rfl, K.out⟩
  · have EF : M.sameF xs ys = 3 := by unfold M.sameF; rw [if_pos hl]
    have EV : M.sameV xs ys = 0 := by unfold M.sameV; rw [EF]; rfl
    rw [EF, EV, err_some (by decide)]
    have q1 : ((xs.length : Int) != (ys.length : Int)) = true := by rw [bne_iff_ne]; omega
    clear ha hb EF EV hl
    generalize xs.length = n at *
    generalize ys.length = m at *
    go_enter Tryz.func16, Tryz.ntmps16
    go_wp2
    go_ret2
    exact ⟨rfl, Below.refl _ _⟩

end Go.Proofs.YtlloiccodjnkcagGreatDoor
