/-
  What package grove's isWay, checkWeights and Check answer, for every grove and every row.
-/
import Derived.Test.YtcaljnhdfbjpnaeDoorGroves
import Derived.Test.YtcaljnhdfbjpnaeDoorTCheck
import Derived.Deep.Cut
import Derived.Deep.CutRange
namespace Go.Proofs.YtcaljnhdfbjpnaeDoor
open Go.ChangeShapes Go.WideShapes Go.ChangeAt Go.RowKit Go.Lib
set_option linter.unusedVariables false

theorem isway_any (x : Int) (w : World) (iw : Bool) (h : Hid (iw = decide (1 ≤ x ∧ x ≤ 3))) :
    Calls Tryd.prog 35 #[.int .i64 x] w fun e w' => e = .returned (.bool iw) ∧ w' = w := by
  rcases (show x = 1 ∨ x = 2 ∨ x = 3 ∨ (x ≠ 1 ∧ x ≠ 2 ∧ x ≠ 3) from by omega) with c | c | c | ⟨c1, c2, c3⟩
  · have q1 : (x == 1) = true := by rw [beq_iff_eq]; exact c
    have E : Hid (true = iw) := by unfold Hid; rw [h.out, decide_eq_true (by omega)]
    clear c h
    go_enter Tryd.func35, Tryd.ntmps35
    go_wp2
    go_ret
    exact ⟨ret_bool E.out, rfl⟩
  · have q1 : (x == 1) = false := by rw [beq_eq_false_iff_ne]; omega
    have q2 : (x == 2) = true := by rw [beq_iff_eq]; exact c
    have E : Hid (true = iw) := by unfold Hid; rw [h.out, decide_eq_true (by omega)]
    clear c h
    go_enter Tryd.func35, Tryd.ntmps35
    go_wp2
    go_ret
    exact ⟨ret_bool E.out, rfl⟩
  · have q1 : (x == 1) = false := by rw [beq_eq_false_iff_ne]; omega
    have q2 : (x == 2) = false := by rw [beq_eq_false_iff_ne]; omega
    have q3 : (x == 3) = true := by rw [beq_iff_eq]; exact c
    have E : Hid (true = iw) := by unfold Hid; rw [h.out, decide_eq_true (by omega)]
    clear c h
    go_enter Tryd.func35, Tryd.ntmps35
    go_wp2
    go_ret
    exact ⟨ret_bool E.out, rfl⟩
  · have q1 : (x == 1) = false := by rw [beq_eq_false_iff_ne]; omega
    have q2 : (x == 2) = false := by rw [beq_eq_false_iff_ne]; omega
    have q3 : (x == 3) = false := by rw [beq_eq_false_iff_ne]; omega
    have E : Hid (false = iw) := by unfold Hid; rw [h.out, decide_eq_false (by omega)]
    clear c1 c2 c3 h
    go_enter Tryd.func35, Tryd.ntmps35
    go_wp2
    go_ret
    exact ⟨ret_bool E.out, rfl⟩

theorem kept_box {w W : World} {a0 a1 a2 a3 : Value} {t : TypeId} (h : Below (w.alloc (.cells #[a0, a1, a2, a3] t)).heap.size (w.alloc (.cells #[a0, a1, a2, a3] t)) W) :
    W.cell? ⟨w.heap.size, 0, none⟩ = some a0 ∧ W.cell? ⟨w.heap.size, 1, none⟩ = some a1 ∧ W.cell? ⟨w.heap.size, 2, none⟩ = some a2 ∧ W.cell? ⟨w.heap.size, 3, none⟩ = some a3 := by
  have hs : w.heap.size < (w.alloc (.cells #[a0, a1, a2, a3] t)).heap.size := by simp
  exact ⟨(h.cell (p := ⟨w.heap.size, 0, none⟩) hs).trans (World.cell?_alloc_at _ _ _ 0 rfl), (h.cell (p := ⟨w.heap.size, 1, none⟩) hs).trans (World.cell?_alloc_at _ _ _ 1 rfl), (h.cell (p := ⟨w.heap.size, 2, none⟩) hs).trans (World.cell?_alloc_at _ _ _ 2 rfl), (h.cell (p := ⟨w.heap.size, 3, none⟩) hs).trans (World.cell?_alloc_at _ _ _ 3 rfl)⟩
theorem M.grove_rng {g : M.Gv} (h : M.gf g < 0 ∨ 8 < M.gf g ∨ M.gw g < 1 ∨ 3 < M.gw g) : M.groveF g = 1 := by unfold M.groveF; rw [if_pos h]
theorem err_num (c : Int) (h : c ≠ 0) : Ending.returned (.iface 57 (.int .i64 c)) = .returned (errV c) := by rw [err_some h]
theorem err_is {c d : Int} (h : c = d) (h0 : c ≠ 0) : Ending.returned (.iface 57 (.int .i64 c)) = .returned (errV d) := by rw [← h, err_some h0]
theorem err_none {d : Int} (h : d = 0) : Ending.returned .nilIface = .returned (errV d) := by rw [err_nil h]

/-- what is wrong with how many trees there are, or with their weights -/
def M.wtsF (ws : List Int) (n : Nat) : Int := if n = 0 then 5 else if 12 < n then 4 else if ws.length ≠ n then 3 else if ws.any M.wBad = true then 1 else 0
theorem err_go {c d : Int} (h : c = d) : Ending.returned (errV c) = .returned (errV d) := by rw [h]

set_option maxHeartbeats 4000000 in
theorem gwts_any (a : Option Addr) (ws : List Int) (ca n : Nat) (w : World) (h : Rd w a ws) :
    Calls Tryd.prog 36 #[.slice a ws.length ca, .int .i64 (n : Nat)] w fun e w' => e = .returned (errV (M.wtsF ws n)) ∧ w' = w := by
  have hm2 : ws.length ≤ 9223372036854775807 := h.1
  have HR := hide h
  clear h
  unfold M.wtsF
  by_cases t0 : n = 0
  · rw [if_pos t0]
    have q4 : ((n : Int) == 0) = true := by rw [beq_iff_eq]; omega
    clear t0
    go_enter Tryd.func36, Tryd.ntmps36
    go_wp2
    go_ret
    exact ⟨err_num 5 (by decide), rfl⟩
  · rw [if_neg t0]
    have q4 : ((n : Int) == 0) = false := by rw [beq_eq_false_iff_ne]; omega
    have t0' : 0 < n := by omega
    by_cases t12 : 12 < n
    · rw [if_pos t12]
      have q5 : decide (12 < (n : Int)) = true := decide_eq_true (by omega)
      clear t0 t12 t0'
      go_enter Tryd.func36, Tryd.ntmps36
      go_wp2
      go_ret
      exact ⟨err_num 4 (by decide), rfl⟩
    · rw [if_neg t12]
      have q5 : decide (12 < (n : Int)) = false := decide_eq_false (by omega)
      by_cases tw : ws.length ≠ n
      · rw [if_pos tw]
        have q6 : ((ws.length : Int) != (n : Int)) = true := by rw [bne_iff_ne]; omega
        clear t0 t12 t0' tw
        go_enter Tryd.func36, Tryd.ntmps36
        go_wp2
        go_ret
        exact ⟨err_num 3 (by decide), rfl⟩
      · rw [if_neg tw]
        have WB : Hid (∀ k (h : k < ws.length), M.wBad (ws.getD k 0) = true → ws.any M.wBad = true) := fun k h e => List.any_eq_true.2 ⟨_, by rw [M.getD_at h]; exact List.getElem_mem h, e⟩
        have WN : Hid ((∀ k, k < ws.length → M.wBad (ws.getD k 0) = false) → ws.any M.wBad = false) := fun h => by
          cases e : ws.any M.wBad with
          | false => rfl
          | true =>
            obtain ⟨x, hx, e2⟩ := List.any_eq_true.1 e
            obtain ⟨i, hi, rfl⟩ := List.getElem_of_mem hx
            have := h i hi
            rw [M.getD_at hi, e2] at this
            cases this
        have q6 : ((ws.length : Int) != (n : Int)) = false := by rw [bne_eq_false_iff_eq]; omega
        obtain ⟨bw, ow, ewa, hbw, hcw0⟩ := HR.out.2 (by intro e; rw [e] at tw; simp at tw; omega)
        have HCW := hide hcw0
        subst ewa
        clear HR t0 t12 tw t0' hcw0
        generalize hAB : ws.any M.wBad = AB at *
        have HAB := hide hAB
        clear hAB
        generalize hRV : (if AB = true then (1 : Int) else 0) = RV
        have HRV := hide hRV
        clear hRV
        go_enter Tryd.func36, Tryd.ntmps36
        go_wp2
        go_loopw [20] (fun i wr => ∃ k : Nat, k ≤ ws.length ∧ i = .int .i64 k ∧ Hid (∀ j, j < k → M.wBad (ws.getD j 0) = false) ∧ wr = w) (fun i _ => ws.length - (intOf i).toNat)
        case atStart => exact ⟨0, Nat.zero_le _, rfl, fun j hj => by omega, rfl⟩
        case round =>
          obtain ⟨k, hk, rfl, I, ew⟩ := hrel
          subst ew
          by_cases hlt : k < ws.length
          · have cw := HCW.out k hlt
            have kz : (k : Int) < (ws.length : Int) := by omega
            have wb : M.wBad (ws.getD k 0) = (decide (ws.getD k 0 < 1) || decide (1000 < ws.getD k 0)) := rfl
            by_cases b1 : ws.getD k 0 < 1
            · have E : Hid (AB = true) := WB.out k hlt (by rw [wb, decide_eq_true b1]; rfl)
              have p1 : decide (ws.getD k 0 < 1) = true := decide_eq_true b1
              have RE : Hid ((1 : Int) = RV) := by unfold Hid; rw [← HRV.out, if_pos E.out]
              clear WB WN wb b1 E HCW I
              generalize ws.getD k 0 = z at *
              go_wp2
              go_ret
              exact ⟨err_is RE.out (by decide), rfl⟩
            · by_cases b2 : 1000 < ws.getD k 0
              · have E : Hid (AB = true) := WB.out k hlt (by rw [wb, decide_eq_true b2]; simp)
                have p1 : decide (ws.getD k 0 < 1) = false := decide_eq_false b1
                have p2 : decide (1000 < ws.getD k 0) = true := decide_eq_true b2
                have RE : Hid ((1 : Int) = RV) := by unfold Hid; rw [← HRV.out, if_pos E.out]
                clear WB WN wb b1 b2 E HCW I
                generalize ws.getD k 0 = z at *
                go_wp2
                go_ret
                exact ⟨err_is RE.out (by decide), rfl⟩
              · have p1 : decide (ws.getD k 0 < 1) = false := decide_eq_false b1
                have p2 : decide (1000 < ws.getD k 0) = false := decide_eq_false b2
                have N : Hid (∀ j, j < k + 1 → M.wBad (ws.getD j 0) = false) := fun j hj => by
                  by_cases e : j = k
                  · rw [e, wb, p1, p2]; rfl
                  · exact I.out j (by omega)
                clear WB WN wb b1 b2 HCW I
                generalize ws.getD k 0 = z at *
                go_wp2
                go_roundw
                case rel => exact ⟨k + 1, by omega, by go_num, N, trivial⟩
                case measure => simp [intOf]; omega
          · have E : Hid (AB = false) := WN.out (fun j hj => I.out j (by omega))
            have RE : Hid (RV = 0) := by unfold Hid; rw [← HRV.out, E.out]; rfl
            clear WB WN I E HAB HCW
            go_wp2
            go_ret
            exact ⟨err_none RE.out, rfl⟩

theorem M.grove_wts {g : M.Gv} (h : ¬ (M.gf g < 0 ∨ 8 < M.gf g ∨ M.gw g < 1 ∨ 3 < M.gw g)) : M.groveF g = if M.wtsF (M.gs g) (M.gt g).length ≠ 0 then M.wtsF (M.gs g) (M.gt g).length else M.treesF (M.gf g) (M.gt g) := by
  unfold M.groveF M.wtsF
  rw [if_neg h]
  repeat' split
  all_goals first | rfl | omega | simp_all

set_option maxHeartbeats 16000000 in
set_option maxRecDepth 10000 in
theorem gcheck_any (G : Gr) (w : World) (h : RdG w G) :
    Calls Tryd.prog 16 #[G.v] w fun e w' => e = .returned (errV (M.groveF G.m)) ∧ Below w.heap.size w w' := by
  have hm1 : G.ks.length ≤ 9223372036854775807 := h.2.1
  have hm2 : G.ws.length ≤ 9223372036854775807 := h.1.1
  have HG := hide h
  have tlen : (M.gt G.m).length = G.ks.length := tl_len G.ks
  have B0 : Hid (∀ o, Below w.heap.size w (w.alloc o)) := fun o => (Below.refl _ w).alloc (Nat.le_refl _) o
  obtain ⟨iw, hiw⟩ : ∃ iw : Bool, iw = decide (1 ≤ G.w ∧ G.w ≤ 3) := ⟨_, rfl⟩
  have IW := hide (fun W => isway_any G.w W iw hiw)
  have CW := hide (fun W (hW : Below w.heap.size w W) => gwts_any G.wa G.ws G.wc G.ks.length W (HG.out.below hW).1)
  clear h
  unfold Gr.v
  by_cases hR : M.gf G.m < 0 ∨ 8 < M.gf G.m ∨ M.gw G.m < 1 ∨ 3 < M.gw G.m
  · rw [M.grove_rng hR]
    have hR' : G.f < 0 ∨ 8 < G.f ∨ G.w < 1 ∨ 3 < G.w := hR
    clear hR tlen HG CW
    by_cases c0 : G.f < 0
    · have q0 : decide (G.f < 0) = true := decide_eq_true (by omega)
      clear hR' c0 hiw
      go_enter Tryd.func16, Tryd.ntmps16
      go_wp2
      go_ret
      exact ⟨err_num 1 (by decide), B0.out _⟩
    · by_cases c1 : 8 < G.f
      · have q0 : decide (G.f < 0) = false := decide_eq_false (by omega)
        have q1 : decide (8 < G.f) = true := decide_eq_true (by omega)
        clear hR' c0 c1 hiw
        go_enter Tryd.func16, Tryd.ntmps16
        go_wp2
        go_ret
        exact ⟨err_num 1 (by decide), B0.out _⟩
      · have q0 : decide (G.f < 0) = false := decide_eq_false (by omega)
        have q1 : decide (8 < G.f) = false := decide_eq_false (by omega)
        have e : iw = false := by rw [hiw, decide_eq_false (by omega)]
        subst e
        clear hR' c0 c1 hiw
        go_enter Tryd.func16, Tryd.ntmps16
        go_wp2_with (go_at_call 35; refine (IW.out _).mono ?_; rintro e w1 ⟨rfl, e1⟩; subst w1)
        go_ret
        exact ⟨err_num 1 (by decide), B0.out _⟩
  · have hR' : ¬ (G.f < 0 ∨ 8 < G.f ∨ G.w < 1 ∨ 3 < G.w) := hR
    have q0 : decide (G.f < 0) = false := decide_eq_false (by omega)
    have q1 : decide (8 < G.f) = false := decide_eq_false (by omega)
    have e : iw = true := by rw [hiw, decide_eq_true (by omega)]
    subst e
    have E0 : M.groveF G.m = if M.wtsF G.ws G.ks.length ≠ 0 then M.wtsF G.ws G.ks.length else M.treesF G.f (tl G.ks) := by
      rw [← tlen]; exact M.grove_wts hR
    rw [E0]
    clear hR E0 hiw hR'
    by_cases hw : M.wtsF G.ws G.ks.length ≠ 0
    · rw [if_pos hw]
      have HW := hide hw
      rw [err_some hw] at CW
      clear tlen HG hw
      generalize M.wtsF G.ws G.ks.length = wf at *
      go_enter Tryd.func16, Tryd.ntmps16
      go_wp2_with (first
        | (go_at_call 35; refine (IW.out _).mono ?_; rintro e w1 ⟨rfl, e1⟩; subst w1)
        | (go_at_call 36; refine (CW.out _ (B0.out _)).mono ?_; rintro e w2 ⟨rfl, e2⟩; subst w2))
      go_ret
      exact ⟨err_num _ HW.out, B0.out _⟩
    · rw [if_neg hw]
      have w0 : M.wtsF G.ws G.ks.length = 0 := by omega
      rw [w0, err_nil rfl] at CW
      have t0' : 0 < G.ks.length := by
        rcases Nat.eq_zero_or_pos G.ks.length with q | q
        · unfold M.wtsF at w0; rw [if_pos q] at w0; cases w0
        · exact q
      have n12 : G.ks.length ≤ 12 := by
        unfold M.wtsF at w0; rw [if_neg (by omega)] at w0
        by_cases q : 12 < G.ks.length
        · rw [if_pos q] at w0; cases w0
        · omega
      have TA : Hid (∀ k, k < G.ks.length → (∀ j, j < k → (M.treeF ((tl G.ks).getD j []) G.f).2 = 0) → (M.treeF ((tl G.ks).getD k []) G.f).2 ≠ 0 → M.treesF G.f (tl G.ks) = (M.treeF ((tl G.ks).getD k []) G.f).2) := fun k hk h hn => M.trees_at (by rw [tl_len]; exact hk) h hn
      have TN : Hid ((∀ j, j < G.ks.length → (M.treeF ((tl G.ks).getD j []) G.f).2 = 0) → M.treesF G.f (tl G.ks) = 0) := fun h => M.trees_all (fun j hj => h j (by rw [tl_len] at hj; exact hj))
      have TL : Hid (∀ k (h : k < G.ks.length), (tl G.ks).getD k [] = G.ks[k].2.1) := fun k h => tl_at G.ks h
      have RT : Hid (∀ W, Below w.heap.size w W → RdT W G.ta G.ks) := fun W hW => (HG.out.below hW).2
      obtain ⟨bt, ot, eta, hbt, hct0⟩ := HG.out.2.2.2 (by intro e; rw [e] at t0'; simp at t0')
      have HCT : Hid (∀ W, Below w.heap.size w W → ∀ i (hi : i < G.ks.length), W.cell? ⟨bt, ot + i, none⟩ = some (tV G.ks[i])) := fun W hW i hi => (hW.cell (p := ⟨bt, ot + i, none⟩) hbt).trans (hct0 i hi)
      rw [eta]
      clear tlen HG hw w0 hct0 hbt eta
      generalize M.treesF G.f (tl G.ks) = TF at *
      have KG : Hid (∀ W, Below (w.alloc (.cells #[.int .i64 G.f, .int .i64 G.w, .slice G.wa G.ws.length G.wc, .slice (some ⟨bt, ot, none⟩) G.ks.length G.tc] 40)).heap.size (w.alloc (.cells #[.int .i64 G.f, .int .i64 G.w, .slice G.wa G.ws.length G.wc, .slice (some ⟨bt, ot, none⟩) G.ks.length G.tc] 40)) W → Below w.heap.size w W ∧ W.cell? ⟨w.heap.size, 0, none⟩ = some (.int .i64 G.f) ∧ W.cell? ⟨w.heap.size, 3, none⟩ = some (.slice (some ⟨bt, ot, none⟩) G.ks.length G.tc)) := fun W hW =>
        ⟨below_on ((Below.refl _ w).alloc (Nat.le_refl _) _) hW, (kept_box hW).1, (kept_box hW).2.2.2⟩
      go_enter Tryd.func16, Tryd.ntmps16
      go_wp2_with (first
        | (go_at_call 35; refine (IW.out _).mono ?_; rintro e w1 ⟨rfl, e1⟩; subst w1)
        | (go_at_call 36; refine (CW.out _ (B0.out _)).mono ?_; rintro e w2 ⟨rfl, e2⟩; subst w2))
      go_loopw [35] (fun i wr => ∃ k : Nat, k ≤ G.ks.length ∧ i = .int .i64 k ∧ Hid (∀ j, j < k → (M.treeF ((tl G.ks).getD j []) G.f).2 = 0) ∧ Hid (Below (w.alloc (.cells #[.int .i64 G.f, .int .i64 G.w, .slice G.wa G.ws.length G.wc, .slice (some ⟨bt, ot, none⟩) G.ks.length G.tc] 40)).heap.size (w.alloc (.cells #[.int .i64 G.f, .int .i64 G.w, .slice G.wa G.ws.length G.wc, .slice (some ⟨bt, ot, none⟩) G.ks.length G.tc] 40)) wr)) (fun i _ => G.ks.length - (intOf i).toNat)
      case atStart => exact ⟨0, Nat.zero_le _, rfl, fun j hj => by omega, Below.refl _ _⟩
      case round =>
        obtain ⟨k, hk, rfl, I, K⟩ := hrel
        obtain ⟨kw, c0, c3⟩ := KG.out _ K.out
        by_cases hlt : k < G.ks.length
        · obtain ⟨hk1, hk2, hk3⟩ := RT.out wr kw
          have ct := HCT.out wr kw k hlt
          have rk := hk2 _ (List.getElem_mem hlt)
          have TE := TL.out k hlt
          have TR := hide (tcheck_any G.ks[k].1 G.ks[k].2.1 G.ks[k].2.2 G.f wr rk)
          have TAK := hide (TA.out k hlt I.out)
          rw [TE] at TAK
          have kz : (k : Int) < (G.ks.length : Int) := by omega
          unfold tV at ct
          have N : Hid ((M.treeF G.ks[k].2.1 G.f).2 = 0 → ∀ j, j < k + 1 → (M.treeF ((tl G.ks).getD j []) G.f).2 = 0) := fun hz j hj => by
            by_cases e : j = k
            · rw [e, TE]; exact hz
            · exact I.out j (by omega)
          clear hk1 hk2 hk3 HCT rk TE TA TN TL RT I
          generalize (M.treeF G.ks[k].2.1 G.f).2 = te at *
          generalize (M.treeF G.ks[k].2.1 G.f).1 = tp at *
          generalize G.ks[k].2.1.length = tn at *
          generalize G.ks[k].2.2 = tcc at *
          generalize G.ks[k].1 = ta at *
          by_cases hz : te = 0
          · rw [err_nil hz] at TR
            have NN := hide (N.out hz)
            clear hz N TAK
            go_wp2_with (go_at_call 37; refine TR.out.mono ?_; rintro e w5 ⟨rfl, hb5⟩; have K6 := hide (below_on K.out hb5))
            go_roundw
            case rel => exact ⟨k + 1, by omega, by go_num, NN, K6⟩
            case measure => simp [intOf]; omega
          · rw [err_some hz] at TR
            have TE2 := hide (TAK.out hz)
            have HZ := hide hz
            clear hz N TAK
            go_wp2_with (go_at_call 37; refine TR.out.mono ?_; rintro e w5 ⟨rfl, hb5⟩; have kw6 := below_on kw hb5)
            go_ret
            exact ⟨err_is (by rw [TE2.out]) HZ.out, kw6⟩
        · have TZ : Hid (TF = 0) := TN.out (fun j hj => I.out j (by omega))
          clear TA TN TL RT I HCT
          go_wp2
          go_ret
          exact ⟨err_none TZ.out, kw⟩

end Go.Proofs.YtcaljnhdfbjpnaeDoor
