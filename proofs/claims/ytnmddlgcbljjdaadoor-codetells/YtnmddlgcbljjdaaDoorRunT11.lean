/-
  Several texts as one: GCheck, CdEnc, CdLay.
-/
import Derived.Test.YtnmddlgcbljjdaaDoorRunT10
import Derived.Test.YtnmddlgcbljjdaaDoorRunT7
import Derived.Deep.Cut
import Derived.Deep.CutRange
import Derived.Test.YtnmddlgcbljjdaaDoorRunT8
namespace Go.Proofs.YtnmddlgcbljjdaaDoor
open Go.ChangeShapes Go.WideShapes Go.ChangeAt Go.RowKit Go.Lib
set_option linter.unusedVariables false

theorem isway_any (x : Int) (w : World) (iw : Bool) (h : Hid (iw = decide (1 ≤ x ∧ x ≤ 3))) :
    Calls Tryd.prog 29 #[.int .i64 x] w fun e w' => e = .returned (.bool iw) ∧ w' = w := by
  rcases (show x = 1 ∨ x = 2 ∨ x = 3 ∨ (x ≠ 1 ∧ x ≠ 2 ∧ x ≠ 3) from by omega) with c | c | c | ⟨c1, c2, c3⟩
  · have q1 : (x == 1) = true := by rw [beq_iff_eq]; exact c
    have E : Hid (true = iw) := by unfold Hid; rw [h.out, decide_eq_true (by omega)]
    clear c h
    go_enter Tryd.func29, Tryd.ntmps29
    go_wp2
    go_ret
    exact ⟨ret_bool E.out, rfl⟩
  · have q1 : (x == 1) = false := by rw [beq_eq_false_iff_ne]; omega
    have q2 : (x == 2) = true := by rw [beq_iff_eq]; exact c
    have E : Hid (true = iw) := by unfold Hid; rw [h.out, decide_eq_true (by omega)]
    clear c h
    go_enter Tryd.func29, Tryd.ntmps29
    go_wp2
    go_ret
    exact ⟨ret_bool E.out, rfl⟩
  · have q1 : (x == 1) = false := by rw [beq_eq_false_iff_ne]; omega
    have q2 : (x == 2) = false := by rw [beq_eq_false_iff_ne]; omega
    have q3 : (x == 3) = true := by rw [beq_iff_eq]; exact c
    have E : Hid (true = iw) := by unfold Hid; rw [h.out, decide_eq_true (by omega)]
    clear c h
    go_enter Tryd.func29, Tryd.ntmps29
    go_wp2
    go_ret
    exact ⟨ret_bool E.out, rfl⟩
  · have q1 : (x == 1) = false := by rw [beq_eq_false_iff_ne]; omega
    have q2 : (x == 2) = false := by rw [beq_eq_false_iff_ne]; omega
    have q3 : (x == 3) = false := by rw [beq_eq_false_iff_ne]; omega
    have E : Hid (false = iw) := by unfold Hid; rw [h.out, decide_eq_false (by omega)]
    clear c1 c2 c3 h
    go_enter Tryd.func29, Tryd.ntmps29
    go_wp2
    go_ret
    exact ⟨ret_bool E.out, rfl⟩

theorem kept_box {w W : World} {a0 a1 a2 a3 : Value} {t : TypeId} (h : Below (w.alloc (.cells #[a0, a1, a2, a3] t)).heap.size (w.alloc (.cells #[a0, a1, a2, a3] t)) W) :
    W.cell? ⟨w.heap.size, 0, none⟩ = some a0 ∧ W.cell? ⟨w.heap.size, 1, none⟩ = some a1 ∧ W.cell? ⟨w.heap.size, 2, none⟩ = some a2 ∧ W.cell? ⟨w.heap.size, 3, none⟩ = some a3 := by
  have hs : w.heap.size < (w.alloc (.cells #[a0, a1, a2, a3] t)).heap.size := by simp
  exact ⟨(h.cell (p := ⟨w.heap.size, 0, none⟩) hs).trans (World.cell?_alloc_at _ _ _ 0 rfl), (h.cell (p := ⟨w.heap.size, 1, none⟩) hs).trans (World.cell?_alloc_at _ _ _ 1 rfl), (h.cell (p := ⟨w.heap.size, 2, none⟩) hs).trans (World.cell?_alloc_at _ _ _ 2 rfl), (h.cell (p := ⟨w.heap.size, 3, none⟩) hs).trans (World.cell?_alloc_at _ _ _ 3 rfl)⟩
theorem M.grove_rng {g : M.Gv} (h : M.gf g < 0 ∨ 8 < M.gf g ∨ M.gw g < 1 ∨ 3 < M.gw g) : M.groveF g = 1 := by unfold M.groveF; rw [if_pos h]
theorem err_num (c : Int) (h : c ≠ 0) : Ending.returned (.iface 53 (.int .i64 c)) = .returned (errV c) := by rw [err_some h]
theorem err_is {c d : Int} (h : c = d) (h0 : c ≠ 0) : Ending.returned (.iface 53 (.int .i64 c)) = .returned (errV d) := by rw [← h, err_some h0]
theorem err_none {d : Int} (h : d = 0) : Ending.returned .nilIface = .returned (errV d) := by rw [err_nil h]

/-- what is wrong with how many trees there are, or with their weights -/
def M.wtsF (ws : List Int) (n : Nat) : Int := if n = 0 then 5 else if 12 < n then 4 else if ws.length ≠ n then 3 else if ws.any M.wBad = true then 1 else 0
theorem err_go {c d : Int} (h : c = d) : Ending.returned (errV c) = .returned (errV d) := by rw [h]

set_option maxHeartbeats 4000000 in
theorem gwts_any (a : Option Addr) (ws : List Int) (ca n : Nat) (w : World) (h : Rd w a ws) :
    Calls Tryd.prog 30 #[.slice a ws.length ca, .int .i64 (n : Nat)] w fun e w' => e = .returned (errV (M.wtsF ws n)) ∧ w' = w := by
  have hm2 : ws.length ≤ 9223372036854775807 := h.1
  have HR := hide h
  clear h
  unfold M.wtsF
  by_cases t0 : n = 0
  · rw [if_pos t0]
    have q4 : ((n : Int) == 0) = true := by rw [beq_iff_eq]; omega
    clear t0
    go_enter Tryd.func30, Tryd.ntmps30
    go_wp2
    go_ret
    exact ⟨err_num 5 (by decide), rfl⟩
  · rw [if_neg t0]
    have q4 : ((n : Int) == 0) = false := by rw [beq_eq_false_iff_ne]; omega
    have t0' : 0 < n := by omega
    by_cases t12 : 12 < n
    · rw [if_pos t12]
      have q5 : decide (12 < (n : Int)) = true := decide_eq_true (by omega)
      clear t0 t12 t0'
      go_enter Tryd.func30, Tryd.ntmps30
      go_wp2
      go_ret
      exact ⟨err_num 4 (by decide), rfl⟩
    · rw [if_neg t12]
      have q5 : decide (12 < (n : Int)) = false := decide_eq_false (by omega)
      by_cases tw : ws.length ≠ n
      · rw [if_pos tw]
        have q6 : ((ws.length : Int) != (n : Int)) = true := by rw [bne_iff_ne]; omega
        clear t0 t12 t0' tw
        go_enter Tryd.func30, Tryd.ntmps30
        go_wp2
        go_ret
        exact ⟨err_num 3 (by decide), rfl⟩
      · rw [if_neg tw]
        have WB : Hid (∀ k (h : k < ws.length), M.wBad (ws.getD k 0) = true → ws.any M.wBad = true) := fun k h e => List.any_eq_true.2 ⟨_, by rw [M.getD_at h]; exact List.getElem_mem h, e⟩
        have WN : Hid ((∀ k, k < ws.length → M.wBad (ws.getD k 0) = false) → ws.any M.wBad = false) := fun h => by
          cases e : ws.any M.wBad with
          | false => rfl
          | true =>
            obtain ⟨x, hx, e2⟩ := List.any_eq_true.1 e
            obtain ⟨i, hi, rfl⟩ := List.getElem_of_mem hx
            have := h i hi
            rw [M.getD_at hi, e2] at this
            cases this
        have q6 : ((ws.length : Int) != (n : Int)) = false := by rw [bne_eq_false_iff_eq]; omega
        obtain ⟨bw, ow, ewa, hbw, hcw0⟩ := HR.out.2 (by intro e; rw [e] at tw; simp at tw; omega)
        have HCW := hide hcw0
        subst ewa
        clear HR t0 t12 tw t0' hcw0
        generalize hAB : ws.any M.wBad = AB at *
        have HAB := hide hAB
        clear hAB
        generalize hRV : (if AB = true then (1 : Int) else 0) = RV
        have HRV := hide hRV
        clear hRV
        go_enter Tryd.func30, Tryd.ntmps30
        go_wp2
        go_loopw [20] (fun i wr => ∃ k : Nat, k ≤ ws.length ∧ i = .int .i64 k ∧ Hid (∀ j, j < k → M.wBad (ws.getD j 0) = false) ∧ wr = w) (fun i _ => ws.length - (intOf i).toNat)
        case atStart => exact ⟨0, Nat.zero_le _, rfl, fun j hj => by omega, rfl⟩
        case round =>
          obtain ⟨k, hk, rfl, I, ew⟩ := hrel
          subst ew
          by_cases hlt : k < ws.length
          · have cw := HCW.out k hlt
            have kz : (k : Int) < (ws.length : Int) := by omega
            have wb : M.wBad (ws.getD k 0) = (decide (ws.getD k 0 < 1) || decide (1000 < ws.getD k 0)) := rfl
            by_cases b1 : ws.getD k 0 < 1
            · have E : Hid (AB = true) := WB.out k hlt (by rw [wb, decide_eq_true b1]; rfl)
              have p1 : decide (ws.getD k 0 < 1) = true := decide_eq_true b1
              have RE : Hid ((1 : Int) = RV) := by unfold Hid; rw [← HRV.out, if_pos E.out]
              clear WB WN wb b1 E HCW I
              generalize ws.getD k 0 = z at *
              go_wp2
              go_ret
              exact ⟨err_is RE.out (by decide), rfl⟩
            · by_cases b2 : 1000 < ws.getD k 0
              · have E : Hid (AB = true) := WB.out k hlt (by rw [wb, decide_eq_true b2]; simp)
                have p1 : decide (ws.getD k 0 < 1) = false := decide_eq_false b1
                have p2 : decide (1000 < ws.getD k 0) = true := decide_eq_true b2
                have RE : Hid ((1 : Int) = RV) := by unfold Hid; rw [← HRV.out, if_pos E.out]
                clear WB WN wb b1 b2 E HCW I
                generalize ws.getD k 0 = z at *
                go_wp2
                go_ret
                exact ⟨err_is RE.out (by decide), rfl⟩
              · have p1 : decide (ws.getD k 0 < 1) = false := decide_eq_false b1
                have p2 : decide (1000 < ws.getD k 0) = false := decide_eq_false b2
                have N : Hid (∀ j, j < k + 1 → M.wBad (ws.getD j 0) = false) := fun j hj => by
                  by_cases e : j = k
                  · rw [e, wb, p1, p2]; rfl
                  · exact I.out j (by omega)
                clear WB WN wb b1 b2 HCW I
                generalize ws.getD k 0 = z at *
                go_wp2
                go_roundw
                case rel => exact ⟨k + 1, by omega, by go_num, N, trivial⟩
                case measure => simp [intOf]; omega
          · have E : Hid (AB = false) := WN.out (fun j hj => I.out j (by omega))
            have RE : Hid (RV = 0) := by unfold Hid; rw [← HRV.out, E.out]; rfl
            clear WB WN I E HAB HCW
            go_wp2
            go_ret
            exact ⟨err_none RE.out, rfl⟩

theorem M.grove_wts {g : M.Gv} (h : ¬ (M.gf g < 0 ∨ 8 < M.gf g ∨ M.gw g < 1 ∨ 3 < M.gw g)) : M.groveF g = if M.wtsF (M.gs g) (M.gt g).length ≠ 0 then M.wtsF (M.gs g) (M.gt g).length else M.treesF (M.gf g) (M.gt g) := by
  unfold M.groveF M.wtsF
  rw [if_neg h]
  repeat' split
  all_goals first | rfl | omega | simp_all

set_option maxHeartbeats 16000000 in
set_option maxRecDepth 10000 in
theorem gcheck_any (G : Gr) (w : World) (h : RdG w G) :
    Calls Tryd.prog 16 #[G.v] w fun e w' => e = .returned (errV (M.groveF G.m)) ∧ Below w.heap.size w w' := by
  have hm1 : G.ks.length ≤ 9223372036854775807 := h.2.1
  have hm2 : G.ws.length ≤ 9223372036854775807 := h.1.1
  have HG := hide h
  have tlen : (M.gt G.m).length = G.ks.length := tl_len G.ks
  have B0 : Hid (∀ o, Below w.heap.size w (w.alloc o)) := fun o => (Below.refl _ w).alloc (Nat.le_refl _) o
  obtain ⟨iw, hiw⟩ : ∃ iw : Bool, iw = decide (1 ≤ G.w ∧ G.w ≤ 3) := ⟨_, rfl⟩
  have IW := hide (fun W => isway_any G.w W iw hiw)
  have CW := hide (fun W (hW : Below w.heap.size w W) => gwts_any G.wa G.ws G.wc G.ks.length W (HG.out.below hW).1)
  clear h
  unfold Gr.v
  by_cases hR : M.gf G.m < 0 ∨ 8 < M.gf G.m ∨ M.gw G.m < 1 ∨ 3 < M.gw G.m
  · rw [M.grove_rng hR]
    have hR' : G.f < 0 ∨ 8 < G.f ∨ G.w < 1 ∨ 3 < G.w := hR
    clear hR tlen HG CW
    by_cases c0 : G.f < 0
    · have q0 : decide (G.f < 0) = true := decide_eq_true (by omega)
      clear hR' c0 hiw
      go_enter Tryd.func16, Tryd.ntmps16
      go_wp2
      go_ret
      exact ⟨err_num 1 (by decide), B0.out _⟩
    · by_cases c1 : 8 < G.f
      · have q0 : decide (G.f < 0) = false := decide_eq_false (by omega)
        have q1 : decide (8 < G.f) = true := decide_eq_true (by omega)
        clear hR' c0 c1 hiw
        go_enter Tryd.func16, Tryd.ntmps16
        go_wp2
        go_ret
        exact ⟨err_num 1 (by decide), B0.out _⟩
      · have q0 : decide (G.f < 0) = false := decide_eq_false (by omega)
        have q1 : decide (8 < G.f) = false := decide_eq_false (by omega)
        have e : iw = false := by rw [hiw, decide_eq_false (by omega)]
        subst e
        clear hR' c0 c1 hiw
        go_enter Tryd.func16, Tryd.ntmps16
        go_wp2_with (go_at_call 29; refine (IW.out _).mono ?_; rintro e w1 ⟨rfl, e1⟩; subst w1)
        go_ret
        exact ⟨err_num 1 (by decide), B0.out _⟩
  · have hR' : ¬ (G.f < 0 ∨ 8 < G.f ∨ G.w < 1 ∨ 3 < G.w) := hR
    have q0 : decide (G.f < 0) = false := decide_eq_false (by omega)
    have q1 : decide (8 < G.f) = false := decide_eq_false (by omega)
    have e : iw = true := by rw [hiw, decide_eq_true (by omega)]
    subst e
    have E0 : M.groveF G.m = if M.wtsF G.ws G.ks.length ≠ 0 then M.wtsF G.ws G.ks.length else M.treesF G.f (tl G.ks) := by
      rw [← tlen]; exact M.grove_wts hR
    rw [E0]
    clear hR E0 hiw hR'
    by_cases hw : M.wtsF G.ws G.ks.length ≠ 0
    · rw [if_pos hw]
      have HW := hide hw
      rw [err_some hw] at CW
      clear tlen HG hw
      generalize M.wtsF G.ws G.ks.length = wf at *
      go_enter Tryd.func16, Tryd.ntmps16
      go_wp2_with (first
        | (go_at_call 29; refine (IW.out _).mono ?_; rintro e w1 ⟨rfl, e1⟩; subst w1)
        | (go_at_call 30; refine (CW.out _ (B0.out _)).mono ?_; rintro e w2 ⟨rfl, e2⟩; subst w2))
      go_ret
      exact ⟨err_num _ HW.out, B0.out _⟩
    · rw [if_neg hw]
      have w0 : M.wtsF G.ws G.ks.length = 0 := by omega
      rw [w0, err_nil rfl] at CW
      have t0' : 0 < G.ks.length := by
        rcases Nat.eq_zero_or_pos G.ks.length with q | q
        · unfold M.wtsF at w0; rw [if_pos q] at w0; cases w0
        · exact q
      have n12 : G.ks.length ≤ 12 := by
        unfold M.wtsF at w0; rw [if_neg (by omega)] at w0
        by_cases q : 12 < G.ks.length
        · rw [if_pos q] at w0; cases w0
        · omega
      have TA : Hid (∀ k, k < G.ks.length → (∀ j, j < k → (M.treeF ((tl G.ks).getD j []) G.f).2 = 0) → (M.treeF ((tl G.ks).getD k []) G.f).2 ≠ 0 → M.treesF G.f (tl G.ks) = (M.treeF ((tl G.ks).getD k []) G.f).2) := fun k hk h hn => M.trees_at (by rw [tl_len]; exact hk) h hn
      have TN : Hid ((∀ j, j < G.ks.length → (M.treeF ((tl G.ks).getD j []) G.f).2 = 0) → M.treesF G.f (tl G.ks) = 0) := fun h => M.trees_all (fun j hj => h j (by rw [tl_len] at hj; exact hj))
      have TL : Hid (∀ k (h : k < G.ks.length), (tl G.ks).getD k [] = G.ks[k].2.1) := fun k h => tl_at G.ks h
      have RT : Hid (∀ W, Below w.heap.size w W → RdT W G.ta G.ks) := fun W hW => (HG.out.below hW).2
      obtain ⟨bt, ot, eta, hbt, hct0⟩ := HG.out.2.2.2 (by intro e; rw [e] at t0'; simp at t0')
      have HCT : Hid (∀ W, Below w.heap.size w W → ∀ i (hi : i < G.ks.length), W.cell? ⟨bt, ot + i, none⟩ = some (tV G.ks[i])) := fun W hW i hi => (hW.cell (p := ⟨bt, ot + i, none⟩) hbt).trans (hct0 i hi)
      rw [eta]
      clear tlen HG hw w0 hct0 hbt eta
      generalize M.treesF G.f (tl G.ks) = TF at *
      have KG : Hid (∀ W, Below (w.alloc (.cells #[.int .i64 G.f, .int .i64 G.w, .slice G.wa G.ws.length G.wc, .slice (some ⟨bt, ot, none⟩) G.ks.length G.tc] 25)).heap.size (w.alloc (.cells #[.int .i64 G.f, .int .i64 G.w, .slice G.wa G.ws.length G.wc, .slice (some ⟨bt, ot, none⟩) G.ks.length G.tc] 25)) W → Below w.heap.size w W ∧ W.cell? ⟨w.heap.size, 0, none⟩ = some (.int .i64 G.f) ∧ W.cell? ⟨w.heap.size, 3, none⟩ = some (.slice (some ⟨bt, ot, none⟩) G.ks.length G.tc)) := fun W hW =>
        ⟨below_on ((Below.refl _ w).alloc (Nat.le_refl _) _) hW, (kept_box hW).1, (kept_box hW).2.2.2⟩
      go_enter Tryd.func16, Tryd.ntmps16
      go_wp2_with (first
        | (go_at_call 29; refine (IW.out _).mono ?_; rintro e w1 ⟨rfl, e1⟩; subst w1)
        | (go_at_call 30; refine (CW.out _ (B0.out _)).mono ?_; rintro e w2 ⟨rfl, e2⟩; subst w2))
      go_loopw [35] (fun i wr => ∃ k : Nat, k ≤ G.ks.length ∧ i = .int .i64 k ∧ Hid (∀ j, j < k → (M.treeF ((tl G.ks).getD j []) G.f).2 = 0) ∧ Hid (Below (w.alloc (.cells #[.int .i64 G.f, .int .i64 G.w, .slice G.wa G.ws.length G.wc, .slice (some ⟨bt, ot, none⟩) G.ks.length G.tc] 25)).heap.size (w.alloc (.cells #[.int .i64 G.f, .int .i64 G.w, .slice G.wa G.ws.length G.wc, .slice (some ⟨bt, ot, none⟩) G.ks.length G.tc] 25)) wr)) (fun i _ => G.ks.length - (intOf i).toNat)
      case atStart => exact ⟨0, Nat.zero_le _, rfl, fun j hj => by omega, Below.refl _ _⟩
      case round =>
        obtain ⟨k, hk, rfl, I, K⟩ := hrel
        obtain ⟨kw, c0, c3⟩ := KG.out _ K.out
        by_cases hlt : k < G.ks.length
        · obtain ⟨hk1, hk2, hk3⟩ := RT.out wr kw
          have ct := HCT.out wr kw k hlt
          have rk := hk2 _ (List.getElem_mem hlt)
          have TE := TL.out k hlt
          have TR := hide (tcheck_any G.ks[k].1 G.ks[k].2.1 G.ks[k].2.2 G.f wr rk)
          have TAK := hide (TA.out k hlt I.out)
          rw [TE] at TAK
          have kz : (k : Int) < (G.ks.length : Int) := by omega
          unfold tV at ct
          have N : Hid ((M.treeF G.ks[k].2.1 G.f).2 = 0 → ∀ j, j < k + 1 → (M.treeF ((tl G.ks).getD j []) G.f).2 = 0) := fun hz j hj => by
            by_cases e : j = k
            · rw [e, TE]; exact hz
            · exact I.out j (by omega)
          clear hk1 hk2 hk3 HCT rk TE TA TN TL RT I
          generalize (M.treeF G.ks[k].2.1 G.f).2 = te at *
          generalize (M.treeF G.ks[k].2.1 G.f).1 = tp at *
          generalize G.ks[k].2.1.length = tn at *
          generalize G.ks[k].2.2 = tcc at *
          generalize G.ks[k].1 = ta at *
          by_cases hz : te = 0
          · rw [err_nil hz] at TR
            have NN := hide (N.out hz)
            clear hz N TAK
            go_wp2_with (go_at_call 31; refine TR.out.mono ?_; rintro e w5 ⟨rfl, hb5⟩; have K6 := hide (below_on K.out hb5))
            go_roundw
            case rel => exact ⟨k + 1, by omega, by go_num, NN, K6⟩
            case measure => simp [intOf]; omega
          · rw [err_some hz] at TR
            have TE2 := hide (TAK.out hz)
            have HZ := hide hz
            clear hz N TAK
            go_wp2_with (go_at_call 31; refine TR.out.mono ?_; rintro e w5 ⟨rfl, hb5⟩; have kw6 := below_on kw hb5)
            go_ret
            exact ⟨err_is (by rw [TE2.out]) HZ.out, kw6⟩
        · have TZ : Hid (TF = 0) := TN.out (fun j hj => I.out j (by omega))
          clear TA TN TL RT I HCT
          go_wp2
          go_ret
          exact ⟨err_none TZ.out, kw⟩

end Go.Proofs.YtnmddlgcbljjdaaDoor

namespace Go.Proofs.YtnmddlgcbljjdaaDoor
open Go.ChangeShapes Go.WideShapes Go.ChangeAt Go.RowKit Go.Lib
set_option linter.unusedVariables false

theorem M.enc_le {g : M.Gv} (h : M.Good g) (k : Nat) : (M.bysL (M.preL g k)).length ≤ 50000 := by
  have zo := M.zip_ok h
  have zl := M.zip_len h
  have t12 := h.t12
  have hi : ∀ x ∈ M.preL g k, M.I64 x := fun x hx => by
    refine M.gr_in (by have := h.f0; have := h.f8; have := h.w1; have := h.w3; unfold M.I64; omega) zo t12 x ?_
    unfold M.preL at hx
    unfold M.grL
    rcases List.mem_cons.1 hx with e | hx
    · rw [e]; exact List.mem_cons_self ..
    rcases List.mem_cons.1 hx with e | hx
    · rw [e]; exact List.mem_cons_of_mem _ (List.mem_cons_self ..)
    rcases List.mem_cons.1 hx with e | hx
    · rw [e]; exact List.mem_cons_of_mem _ (List.mem_cons_of_mem _ (List.mem_cons_self ..))
    obtain ⟨y, hy, hx⟩ := List.mem_flatMap.1 hx
    exact List.mem_cons_of_mem _ (List.mem_cons_of_mem _ (List.mem_cons_of_mem _ (List.mem_flatMap.2 ⟨y, List.mem_of_mem_take hy, hx⟩)))
  have a := M.bys_len _ hi
  have b := M.trs_len (((M.gs g).zip (M.gt g)).take k) fun x hx => (zo x (List.mem_of_mem_take hx)).2.2.1
  have c : (((M.gs g).zip (M.gt g)).take k).length ≤ 12 := by rw [List.length_take, zl]; omega
  have e : (M.preL g k).length = ((((M.gs g).zip (M.gt g)).take k).flatMap M.trL).length + 1 + 1 + 1 := rfl
  omega

theorem M.pre_tr (G : Gr) {k : Nat} (hk : k < G.ks.length) {x : Int} (hx : x = G.ws.getD k 0) (hz : ((M.gs G.m).zip (M.gt G.m)).length = G.ks.length) (ho : ∀ y ∈ (M.gs G.m).zip (M.gt G.m), M.TrOk y) :
    M.I64 x ∧ 1 ≤ (G.ks[k]'hk).2.1.length ∧ ∀ n ∈ (G.ks[k]'hk).2.1, M.NdOk n := by
  have hz' : k < ((M.gs G.m).zip (M.gt G.m)).length := by rw [hz]; exact hk
  have hw : k < G.ws.length := by have := List.length_zip (l₁ := M.gs G.m) (l₂ := M.gt G.m); rw [hz] at this; have e : (M.gs G.m).length = G.ws.length := rfl; omega
  have e : ((M.gs G.m).zip (M.gt G.m))[k] = (x, (G.ks[k]'hk).2.1) := by
    rw [List.getElem_zip]
    refine Prod.ext ?_ ?_
    · show G.ws[k] = x
      rw [hx]; simp [List.getD, hw]
    · show (tl G.ks)[k]'_ = _
      simp [tl]
  have o := ho _ (List.getElem_mem hz')
  rw [e] at o
  exact ⟨o.1, o.2.1, o.2.2.2⟩

set_option maxHeartbeats 16000000 in
set_option maxRecDepth 10000 in
theorem cdenc_any : CdEncGives := by
  intro G w h
  have hm1 : G.ks.length ≤ 9223372036854775807 := h.2.1
  have hm2 : G.ws.length ≤ 9223372036854775807 := h.1.1
  have B0 : Hid (∀ o, Below w.heap.size w (w.alloc o)) := fun o => (Below.refl _ w).alloc (Nat.le_refl _) o
  have HR := hide (fun o => gcheck_any G (w.alloc o) (h.below (B0.out o)))
  unfold Gr.v at HR ⊢
  by_cases h0 : M.groveF G.m = 0
  · have Gd := (M.good_iff G.m).1 h0
    have len12 : G.ks.length ≤ 12 := by have := Gd.t12; rwa [show (M.gt G.m).length = G.ks.length from tl_len G.ks] at this
    have WL : Hid (G.ws.length = G.ks.length) := Gd.len.trans (tl_len G.ks)
    have ZO := hide (M.zip_ok Gd)
    have ZL : Hid (((M.gs G.m).zip (M.gt G.m)).length = G.ks.length) := (M.zip_len Gd).trans (tl_len G.ks)
    have FW : Hid (M.I64 G.f ∧ M.I64 G.w) := by have := Gd.f0; have := Gd.f8; have := Gd.w1; have := Gd.w3; unfold Hid M.I64; exact ⟨⟨by show _ ≤ M.gf G.m; omega, by show M.gf G.m ≤ _; omega⟩, ⟨by show _ ≤ M.gw G.m; omega, by show M.gw G.m ≤ _; omega⟩⟩
    have LE := hide (M.enc_le Gd)
    have HG := hide h
    have P0 : Hid (M.preL G.m 0 = [G.f, G.w, (G.ks.length : Int)]) := by
      unfold Hid
      rw [M.pre_zero, show (M.gt G.m).length = G.ks.length from tl_len G.ks]
      rfl
    have PE : Hid (M.bysL (M.preL G.m G.ks.length) = M.encB G.m) := by
      unfold Hid M.preL M.encB M.grL
      rw [List.take_of_length_le (by rw [ZL.out]; exact Nat.le_refl _)]
    have EF : Hid (M.encF G.m = if 6000 < (M.encB G.m).length then 4 else 0) := by unfold Hid M.encF; rw [if_neg (by simp [h0])]
    have EV : Hid (M.encV G.m = if M.encF G.m = 0 then M.encB G.m else []) := rfl
    have K1L : Hid (1 ≤ G.ks.length) := by have := Gd.t0; rwa [show (M.gt G.m).length = G.ks.length from tl_len G.ks] at this
    rw [h0, err_nil rfl] at HR
    clear h Gd h0
    generalize M.encF G.m = eF at *
    generalize M.encV G.m = eV at *
    generalize M.encB G.m = eB at *
    go_enter Tryd.func6, Tryd.ntmps6
    go_upto_region 4 with (go_at_call 16; refine (HR.out _).mono ?_; rintro e w1 ⟨rfl, hb⟩; have k1 := hide (below_on (B0.out _) hb); have KB := hide hb; clear hb)
    have GC : Hid (∀ W, Below w1.heap.size w1 W → W.cell? ⟨w.heap.size, 0, none⟩ = some (.int .i64 G.f) ∧ W.cell? ⟨w.heap.size, 1, none⟩ = some (.int .i64 G.w) ∧ W.cell? ⟨w.heap.size, 2, none⟩ = some (.slice G.wa G.ws.length G.wc) ∧ W.cell? ⟨w.heap.size, 3, none⟩ = some (.slice G.ta G.ks.length G.tc)) := fun W hW => by
      have k2 := below_on KB.out hW
      have r := (new_kept rfl k2).1
      exact ⟨r 0 _ rfl, r 1 _ rfl, r 2 _ rfl, r 3 _ rfl⟩
    have HG1 : Hid (∀ W, Below w1.heap.size w1 W → RdG W G) := fun W hW => HG.out.below (below_on k1.out hW)
    clear HR KB HG
    obtain ⟨c0, c1, c2, c3⟩ := GC.out w1 (Below.refl _ _)
    have A0 := hide (add_below (w1 := w1) (W := w1) [G.f, G.w, (G.ks.length : Int)] none 0 [] (Below.refl _ _) (World.ownsRow_nil _ _ _ _) (by
      intro x hx
      rcases List.mem_cons.1 hx with rfl | hx
      · exact FW.out.1
      rcases List.mem_cons.1 hx with rfl | hx
      · exact FW.out.2
      rw [List.mem_singleton] at hx
      rw [hx]; unfold M.I64; omega) (by show 0 + 30 ≤ _; omega) (by show 3 ≤ 1000; omega) _ rfl)
    have PB : Hid ([] ++ M.bysL [G.f, G.w, (G.ks.length : Int)] = M.bysL (M.preL G.m 0)) := by unfold Hid; rw [P0.out]; rfl
    rw [PB.out] at A0
    simp only [List.length_cons, List.length_nil, List.map_cons, List.map_nil, Nat.zero_add] at A0
    clear PB P0
    generalize hL0 : M.bysL (M.preL G.m 0) = L0 at A0
    have HL0 := hide hL0
    clear hL0
    go_upto_region 5 with (go_at_call 17; refine A0.out.mono ?_; rintro e w2 ⟨ua, uc, rfl, o2, k2⟩; have O2 := hide o2; have K2 := hide k2; clear o2 k2)
    clear c0 c1 c2 c3 A0
    obtain ⟨c0, c1, c2, c3⟩ := GC.out w2 K2.out
    obtain ⟨tb, to', eta, htb, htc⟩ := (HG1.out w1 (Below.refl _ _)).2.2.2 (by intro e; have := K1L.out; rw [e] at this; simp at this)
    obtain ⟨wb, wo, ewa, hwb, hwc⟩ := (HG1.out w1 (Below.refl _ _)).1.2 (by intro e; have a := WL.out; have b := K1L.out; rw [e] at a; have c : 0 = G.ks.length := a; omega)
    have EWA := hide ewa
    have HWC := hide hwc
    have HTC := hide htc
    have HTB := hide htb
    have HWB := hide hwb
    have ETA := hide eta
    clear hwc htc htb hwb ewa eta
    go_wp2
    rw [ETA.out]
    clear c0 c1 c2 c3
    go_loopw [5, 27] (fun v i wr => ∃ (k : Nat) (ua : Option Addr) (uc : Nat) (L : List Nat), k ≤ G.ks.length ∧ i = .int .i64 k ∧ v = .slice ua L.length uc ∧ Hid (L = M.bysL (M.preL G.m k)) ∧ Hid (wr.ownsRow w1.heap.size 5 1 (.slice ua L.length uc) L.length (byCells L)) ∧ Hid (Below w1.heap.size w1 wr)) (fun _ i _ => G.ks.length - (intOf i).toNat)
    case atStart => exact ⟨0, ua, uc, L0, Nat.zero_le _, rfl, rfl, HL0.out.symm, O2, K2⟩
    case round =>
      clear O2 K2 HL0
      obtain ⟨k, ua, uc, L, hk, rfl, rfl, EL, OO, K⟩ := hrel
      by_cases hlt : k < G.ks.length
      · have kz : (k : Int) < (G.ks.length : Int) := by omega
        have c2 := (GC.out wr K.out).2.2.1
        rw [EWA.out] at c2
        have wcr := (K.out.cell (p := ⟨wb, wo + k, none⟩) HWB.out).trans (HWC.out k (by rw [WL.out]; exact hlt))
        have tcr := (K.out.cell (p := ⟨tb, to' + k, none⟩) HTB.out).trans (HTC.out k hlt)
        have kw : (k : Int) < (G.ws.length : Int) := by rw [WL.out]; exact kz
        have RN := hide ((HG1.out w1 (Below.refl _ _)).2.2.1 G.ks[k] (List.getElem_mem hlt))
        obtain ⟨x, hx⟩ : ∃ x, x = G.ws.getD k 0 := ⟨_, rfl⟩
        obtain ⟨ZM, l63⟩ : Hid (M.preL G.m (k + 1) = M.preL G.m k ++ [x] ++ [(G.ks[k].2.1.length : Int)] ++ G.ks[k].2.1.flatMap M.ndL) ∧ G.ks[k].2.1.length ≤ 63 := M.pre_more G hlt hx ZL.out ZO.out
        have TK : Hid (M.I64 x ∧ 1 ≤ G.ks[k].2.1.length ∧ ∀ n ∈ G.ks[k].2.1, M.NdOk n) := M.pre_tr G hlt hx ZL.out ZO.out
        rw [← hx] at wcr
        unfold tV at tcr
        have LK := LE.out k
        have LK1 := hide (LE.out (k + 1))
        rw [← EL.out] at LK
        clear hx
        generalize G.ks[k].2.1 = ts at *
        generalize G.ks[k].2.2 = tcap at *
        generalize G.ks[k].1 = tad at *
        have tm : ts.length ≤ 9223372036854775807 := by omega
        obtain ⟨nb, no, etad, hnb, hnc⟩ := RN.out.2 (by intro e; have := TK.out.2.1; rw [e] at this; simp at this)
        subst etad
        have HNB := hide hnb
        have HNC := hide hnc
        have A1 := hide (add_below (w1 := w1) (W := wr) [x, (ts.length : Int)] ua uc L K.out OO.out (by
          intro y hy
          rcases List.mem_cons.1 hy with rfl | hy
          · exact TK.out.1
          rw [List.mem_singleton] at hy
          rw [hy]; unfold M.I64; omega) (by show L.length + 20 ≤ _; omega) (by show 2 ≤ 1000; omega) _ rfl)
        simp only [List.length_cons, List.length_nil, List.map_cons, List.map_nil, Nat.zero_add] at A1
        obtain ⟨L1, hL1⟩ : ∃ L1, L1 = L ++ M.bysL [x, (ts.length : Int)] := ⟨_, rfl⟩
        rw [← hL1] at A1
        have ZB : Hid (M.bysL (M.preL G.m (k + 1)) = L1 ++ M.bysL (ts.flatMap M.ndL)) := by
          unfold Hid
          rw [ZM.out, hL1, EL.out, M.bys_app, M.bys_app, M.bys_app, show M.bysL [x, (ts.length : Int)] = M.bysL [x] ++ M.bysL [(ts.length : Int)] from M.bys_app [x] [(ts.length : Int)]]
          simp only [List.append_assoc]
        have L1L : Hid (L1.length ≤ 50020) := by
          unfold Hid
          rw [hL1, List.length_append]
          have := M.bys_len [x, (ts.length : Int)] (by
            intro y hy
            rcases List.mem_cons.1 hy with rfl | hy
            · exact TK.out.1
            rw [List.mem_singleton] at hy
            rw [hy]; unfold M.I64; omega)
          have e2 : [x, (ts.length : Int)].length = 2 := rfl
          omega
        clear hL1 hnb hnc RN EL ZM OO
        go_upto_region 9 with (go_at_call 17; refine A1.out.mono ?_; rintro e w3 ⟨ua3, uc3, rfl, o3, k3⟩; have O3 := hide o3; have K3 := hide k3; clear o3 k3)
        clear c2 wcr tcr A1 K
        go_wp2
        go_loopw [5, 44] (fun v i wr => ∃ (j : Nat) (ua : Option Addr) (uc : Nat) (L : List Nat), j ≤ ts.length ∧ i = .int .i64 j ∧ v = .slice ua L.length uc ∧ Hid (L = L1 ++ M.bysL ((ts.take j).flatMap M.ndL)) ∧ Hid (wr.ownsRow w1.heap.size 5 1 (.slice ua L.length uc) L.length (byCells L)) ∧ Hid (Below w1.heap.size w1 wr)) (fun _ i _ => ts.length - (intOf i).toNat)
        case atStart => exact ⟨0, ua3, uc3, L1, Nat.zero_le _, rfl, rfl, (by unfold Hid; show L1 = L1 ++ []; rw [List.append_nil]), O3, K3⟩
        case round =>
          clear O3 K3
          obtain ⟨j, ua4, uc4, L4, hj, rfl, rfl, EL4, O4, K4⟩ := hrel
          by_cases jlt : j < ts.length
          · have jz : (j : Int) < (ts.length : Int) := by omega
            obtain ⟨s0, s1, s2, s3, s4, s5⟩ := (HNC.out j jlt).below K4.out HNB.out
            have okn := TK.out.2.2 (M.nAt ts j) (by unfold M.nAt; rw [M.getD_at jlt]; exact List.getElem_mem jlt)
            have L4L : L4.length ≤ 60000 := by
              rw [EL4.out, List.length_append]
              have a := M.bys_len ((ts.take j).flatMap M.ndL) (fun y hy => by
                obtain ⟨n, hn, hy⟩ := List.mem_flatMap.1 hy
                exact M.nd_in (TK.out.2.2 n (List.mem_of_mem_take hn)) y hy)
              have b := M.nds_len (ts.take j)
              rw [List.length_take] at b
              have := L1L.out
              omega
            have EL5 : Hid (L4 ++ M.bysL (M.ndL (M.nAt ts j)) = L1 ++ M.bysL ((ts.take (j + 1)).flatMap M.ndL)) := by
              have := M.nds_more [] (ts := ts) jlt
              rw [List.nil_append, List.nil_append] at this
              unfold Hid
              rw [this, M.bys_app, EL4.out, List.append_assoc]
            generalize M.nAt ts j = N at *
            have K5 := hide (K4.out.alloc K4.out.size (.cells #[.int .i64 (M.nf N), .int .i64 (M.nc N), .int .i64 (M.nl N), .int .i64 (M.nr N), .bool (M.ns N), .int .i64 (M.nv N)] 49))
            have O5 := hide (O4.out.alloc (.cells #[.int .i64 (M.nf N), .int .i64 (M.nc N), .int .i64 (M.nl N), .int .i64 (M.nr N), .bool (M.ns N), .int .i64 (M.nv N)] 49))
            have A2 := hide (addnode_below N ua4 uc4 L4 K5.out O5.out okn (by omega))
            have nv : ndV N = .agg #[.int .i64 (M.nf N), .int .i64 (M.nc N), .int .i64 (M.nl N), .int .i64 (M.nr N), .bool (M.ns N), .int .i64 (M.nv N)] := rfl
            rw [nv] at A2
            generalize L4 ++ M.bysL (M.ndL N) = L5 at *
            clear nv okn EL4 O4 K5 O5
            go_wp2_with (go_at_call 18; refine A2.out.mono ?_; rintro e w6 ⟨ua6, uc6, rfl, o6, k6⟩; have O6 := hide o6; have K6 := hide k6; clear o6 k6)
            go_roundw
            case rel => exact ⟨j + 1, ua6, uc6, L5, by omega, by go_num, rfl, EL5, O6, K6⟩
            case measure => simp [intOf]; omega
          · have ej : j = ts.length := by omega
            have jz : ¬ ((j : Int) < (ts.length : Int)) := by omega
            have EL5 : Hid (L4 = M.bysL (M.preL G.m (k + 1))) := by unfold Hid; rw [ZB.out, EL4.out, ej, List.take_length]
            clear ej EL4 ZB
            go_wp2
            exact ⟨⟨k + 1, ua4, uc4, L4, hlt, rfl, rfl, EL5, O4, K4⟩, by show G.ks.length - (((k : Int) + 1).toNat) < G.ks.length - ((k : Int).toNat); omega⟩
      · have ek : k = G.ks.length := by omega
        have kz : ¬ ((k : Int) < (G.ks.length : Int)) := by omega
        have EB : Hid (L = eB) := by unfold Hid; rw [EL.out, ek]; exact PE.out
        have LK := LE.out k
        rw [← EL.out] at LK
        clear ek EL PE
        by_cases big : 6000 < L.length
        · have t1 : decide ((6000 : Int) < (L.length : Int)) = true := decide_eq_true (by omega)
          have t2 : decide (6000 < L.length) = true := decide_eq_true big
          have E1 : Hid (eF = 4) := by unfold Hid; rw [EF.out, ← EB.out, if_pos big]
          have E2 : Hid (eV = []) := by unfold Hid; rw [EV.out, E1.out]; rfl
          clear big EF EV
          go_wp2
          go_ret2
          exact ⟨.slice none 0 0, by rw [E1.out]; rfl, by rw [E2.out]; exact World.ownsRow_nil _ _ _ _, below_on k1.out K.out⟩
        · have t1 : decide ((6000 : Int) < (L.length : Int)) = false := decide_eq_false (by omega)
          have t2 : decide (6000 < L.length) = false := decide_eq_false big
          have E1 : Hid (eF = 0) := by unfold Hid; rw [EF.out, ← EB.out, if_neg big]
          have E2 : Hid (eV = L) := by unfold Hid; rw [EV.out, E1.out, if_pos rfl, EB.out]
          clear big EF EV
          go_wp2
          go_ret2
          exact ⟨_, by rw [E1.out]; rfl, by rw [E2.out]; exact own_low k1.out.size OO.out, below_on k1.out K.out⟩
  · have EF : Hid (M.encF G.m = M.groveF G.m) := by unfold Hid M.encF; rw [if_pos h0]
    have EV : Hid (M.encV G.m = []) := by unfold Hid M.encV; rw [EF.out, if_neg h0]
    rw [err_some h0] at HR
    have H0 := hide h0
    clear h h0
    go_enter Tryd.func6, Tryd.ntmps6
    go_wp2_with (go_at_call 16; refine (HR.out _).mono ?_; rintro e w1 ⟨rfl, hb⟩; have k1 := hide (below_on (B0.out _) hb); clear hb)
    go_ret2
    exact ⟨.slice none 0 0, by rw [EF.out, err_some H0.out]; rfl, by rw [EV.out]; exact World.ownsRow_nil _ _ _ _, k1.out⟩

end Go.Proofs.YtnmddlgcbljjdaaDoor

namespace Go.Proofs.YtnmddlgcbljjdaaDoor
open Go.ChangeShapes Go.WideShapes Go.ChangeAt Go.RowKit Go.Lib
set_option linter.unusedVariables false

theorem rdN_same {W W' : World} {a : Option Addr} {ts : List M.Nd} (h : RdN W a ts) (hs : W.heap.size ≤ W'.heap.size) (he : ∀ p, a = some p → W'.heap[p.block]? = W.heap[p.block]?) : RdN W' a ts :=
  ⟨h.1, fun hn => by
    obtain ⟨b, off, e, hl, hc⟩ := h.2 hn
    have hb : W'.heap[b]? = W.heap[b]? := he _ e
    have k : ∀ j v, W.cell? ⟨b, j, none⟩ = some v → W'.cell? ⟨b, j, none⟩ = some v := fun j v hv => (World.cell?_of_block (a := ⟨b, j, none⟩) hb).trans hv
    exact ⟨b, off, e, Nat.lt_of_lt_of_le hl hs, fun i hi => ⟨k _ _ (hc i hi).1, k _ _ (hc i hi).2.1, k _ _ (hc i hi).2.2.1, k _ _ (hc i hi).2.2.2.1, k _ _ (hc i hi).2.2.2.2.1, k _ _ (hc i hi).2.2.2.2.2⟩⟩⟩

structure GW (w : World) (g rb gb : Nat) (f m : Int) (kw : Nat) (ya : Option Addr) (yc : Nat) (ws : List Int) (kt : Nat) (xa : Option Addr) (xc : Nat) (D : List Tc) (W : World) : Prop where
  gr : w.grownBy W (some g)
  r : ∀ j, j < 4 → ∃ v, W.cell? ⟨rb, j, none⟩ = some v
  rf : ∀ j, W.frozen? ⟨rb, j, none⟩ = false
  c0 : W.cell? ⟨gb, 0, none⟩ = some (.int .i64 f)
  c1 : W.cell? ⟨gb, 1, none⟩ = some (.int .i64 m)
  c2 : W.cell? ⟨gb, 2, none⟩ = some (.slice ya kw yc)
  c3 : W.cell? ⟨gb, 3, none⟩ = some (.slice xa kt xc)
  fr : ∀ j, W.frozen? ⟨gb, j, none⟩ = false
  lt : gb < W.heap.size
  ge : rb < gb
  wr : w.heap.size ≤ rb
  gn : g ≠ rb ∧ g < gb
  ow : W.ownsRow (gb + 1) 3 1 (.slice ya kw yc) kw (ws.map (Value.int .i64))
  ox : W.ownsRow (gb + 1) 47 1 (.slice xa kt xc) kt (D.map tV)
  xy : ∀ q, (Value.slice ya kw yc).ownBlock = some q → (Value.slice xa kt xc).ownBlock ≠ some q
  tr : ∀ t ∈ D, RdN W t.1 t.2.1 ∧ ∀ p, t.1 = some p → gb < p.block ∧ p.block < W.heap.size ∧ (Value.slice ya kw yc).ownBlock ≠ some p.block ∧ (Value.slice xa kt xc).ownBlock ≠ some p.block
theorem kept_not {W : World} {e size n B : Nat} {v : Value} {l : List Value} {r : Option Nat} {W' : World} (ho : W.ownsRow B e size v n l) (hg : W.grownBy W' r) (hr : ∀ q, v.ownBlock = some q → r ≠ some q) : W'.ownsRow B e size v n l := by
  refine ho.kept hg ?_
  cases hv : v.ownBlock with
  | none => exact .inl rfl
  | some q => exact .inr fun e => hr q hv e.symm
/-- it is empty at first -/
theorem GW.new {w : World} {g : Nat} {f : Int} {m : Int} {w2 : World} (hg : (w.alloc (.cells #[.int .i64 0, .int .i64 0, .slice none 0 0, .slice none 0 0] 25)).grownBy w2 (some g)) (gl : g < w.heap.size) : GW w g w.heap.size w2.heap.size f m 0 none 0 [] 0 none 0 [] (w2.alloc (.cells #[.int .i64 f, .int .i64 m, .slice none 0 0, .slice none 0 0] 25)) := by
  have n := new_grown hg gl
  have z : w.heap.size < w2.heap.size := by have := hg.size; simp at this; omega
  have bl := (Below.refl w2.heap.size w2).alloc (Nat.le_refl _) (.cells #[.int .i64 f, .int .i64 m, .slice none 0 0, .slice none 0 0] 25)
  have k := new_kept (w := w2) (cs := #[.int .i64 f, .int .i64 m, .slice none 0 0, .slice none 0 0]) (t := 25) rfl (Below.refl _ _)
  refine ⟨grown_trans (grown_new hg) (World.grownBy_alloc w2 _ (some g)) (.inl rfl), fun j hj => ?_, fun j => (bl.frozen (p := ⟨w.heap.size, j, none⟩) z).trans (n.2 j), k.1 0 _ rfl, k.1 1 _ rfl, k.1 2 _ rfl, k.1 3 _ rfl, k.2, by simp, z, Nat.le_refl _, ⟨by omega, by omega⟩, World.ownsRow_nil _ _ _ _, World.ownsRow_nil _ _ _ _, (fun q hq => by cases hq), (fun t ht => by cases ht)⟩
  rw [show (w2.alloc (.cells #[.int .i64 f, .int .i64 m, .slice none 0 0, .slice none 0 0] 25)).cell? ⟨w.heap.size, j, none⟩ = w2.cell? ⟨w.heap.size, j, none⟩ from bl.cell (p := ⟨w.heap.size, j, none⟩) z]
  match j, hj with
  | 0, _ => exact ⟨_, n.1 0 _ rfl⟩
  | 1, _ => exact ⟨_, n.1 1 _ rfl⟩
  | 2, _ => exact ⟨_, n.1 2 _ rfl⟩
  | 3, _ => exact ⟨_, n.1 3 _ rfl⟩
/-- the reader goes on -/
theorem GW.rdr {w : World} {g : Nat} {rb : Nat} {gb : Nat} {f : Int} {m : Int} {kw : Nat} {ya : Option Addr} {yc : Nat} {ws : List Int} {kt : Nat} {xa : Option Addr} {xc : Nat} {D : List Tc} {W : World} (h : GW w g rb gb f m kw ya yc ws kt xa xc D W) {W' : World} (hg : W.grownBy W' (some g)) : GW w g rb gb f m kw ya yc ws kt xa xc D W' := by
  have hge := h.ge
  have hlt := h.lt
  have hgn := h.gn
  have b : ∀ q, (q = rb ∨ gb ≤ q) → q < W.heap.size → W'.heap[q]? = W.heap[q]? := fun q h1 h2 => hg.block q h2 (fun e => by cases e; omega)
  have cc : ∀ q j, (q = rb ∨ gb ≤ q) → q < W.heap.size → W'.cell? ⟨q, j, none⟩ = W.cell? ⟨q, j, none⟩ := fun q j h1 h2 => World.cell?_of_block (a := ⟨q, j, none⟩) (b q h1 h2)
  have ff : ∀ q j, (q = rb ∨ gb ≤ q) → q < W.heap.size → W'.frozen? ⟨q, j, none⟩ = W.frozen? ⟨q, j, none⟩ := fun q j h1 h2 => World.frozen?_of_block (a := ⟨q, j, none⟩) (b q h1 h2)
  refine ⟨grown_trans h.gr hg (.inl rfl), fun j hj => ?_, fun j => (ff _ j (.inl rfl) (by omega)).trans (h.rf j), (cc _ 0 (.inr (Nat.le_refl _)) hlt).trans h.c0, (cc _ 1 (.inr (Nat.le_refl _)) hlt).trans h.c1, (cc _ 2 (.inr (Nat.le_refl _)) hlt).trans h.c2, (cc _ 3 (.inr (Nat.le_refl _)) hlt).trans h.c3, fun j => (ff _ j (.inr (Nat.le_refl _)) hlt).trans (h.fr j), Nat.lt_of_lt_of_le hlt hg.size, hge, h.wr, hgn, kept_not h.ow hg (fun q hq e => by cases e; have := (h.ow.lt _ hq).1; omega), kept_not h.ox hg (fun q hq e => by cases e; have := (h.ox.lt _ hq).1; omega), h.xy, fun t ht => ?_⟩
  · rw [cc _ j (.inl rfl) (by omega)]; exact h.r j hj
  · obtain ⟨t1, t2⟩ := h.tr t ht
    exact ⟨rdN_same t1 hg.size (fun p hp => b _ (.inr (by have := (t2 p hp).1; omega)) (t2 p hp).2.1), fun p hp => ⟨(t2 p hp).1, Nat.lt_of_lt_of_le (t2 p hp).2.1 hg.size, (t2 p hp).2.2⟩⟩
/-- one weight more, and its slice stored -/
theorem GW.weight {w : World} {g : Nat} {rb : Nat} {gb : Nat} {f : Int} {m : Int} {kw : Nat} {ya : Option Addr} {yc : Nat} {ws : List Int} {kt : Nat} {xa : Option Addr} {xc : Nat} {D : List Tc} {W : World} (h : GW w g rb gb f m kw ya yc ws kt xa xc D W) {n : Int} {o : Obj} {w5 : World} {g2 cap : Nat}
    (hown : w5.ownsRow (gb + 1) 3 1 (.slice (some ⟨g2, 0, none⟩) (kw + 1) cap) (kw + 1) (ws.map (Value.int .i64) ++ [.int .i64 n])) (hgrow : (W.alloc o).grownBy w5 (Value.slice ya kw yc).ownBlock) (hat : (Value.slice ya kw yc).ownBlock = some g2 ∨ g2 = W.heap.size + 1) :
    (w5.cell? ⟨gb, 2, none⟩ = some (.slice ya kw yc) ∧ w5.frozen? ⟨gb, 2, none⟩ = false) ∧ W.grownBy w5 (Value.slice ya kw yc).ownBlock ∧ GW w g rb gb f m (kw + 1) (some ⟨g2, 0, none⟩) cap (ws ++ [n]) kt xa xc D (w5.setCell ⟨gb, 2, none⟩ (.slice (some ⟨g2, 0, none⟩) (kw + 1) cap)) := by
  have hge := h.ge
  have hlt := h.lt
  have hwr := h.wr
  have hgr : W.grownBy w5 (Value.slice ya kw yc).ownBlock := grown_new hgrow
  have yb : ∀ q, (Value.slice ya kw yc).ownBlock = some q → gb + 1 ≤ q ∧ q < W.heap.size := fun q e => h.ow.lt q e
  have b5 : ∀ q, q < W.heap.size → (Value.slice ya kw yc).ownBlock ≠ some q → w5.heap[q]? = W.heap[q]? := fun q h1 h2 => hgr.block q h1 (fun e => h2 e.symm)
  have cf : ∀ j, w5.cell? ⟨gb, j, none⟩ = W.cell? ⟨gb, j, none⟩ := fun j => World.cell?_of_block (a := ⟨gb, j, none⟩) (b5 gb hlt (fun e => by have := (yb _ e).1; omega))
  have ff : ∀ j, w5.frozen? ⟨gb, j, none⟩ = W.frozen? ⟨gb, j, none⟩ := fun j => World.frozen?_of_block (a := ⟨gb, j, none⟩) (b5 gb hlt (fun e => by have := (yb _ e).1; omega))
  have gs : w5.grownBy (w5.setCell ⟨gb, 2, none⟩ (.slice (some ⟨g2, 0, none⟩) (kw + 1) cap)) (some gb) := grown_set
  have b6 : ∀ q, q < W.heap.size → (Value.slice ya kw yc).ownBlock ≠ some q → q ≠ gb → (w5.setCell ⟨gb, 2, none⟩ (.slice (some ⟨g2, 0, none⟩) (kw + 1) cap)).heap[q]? = W.heap[q]? := fun q h1 h2 h3 => (gs.block q (Nat.lt_of_lt_of_le h1 hgr.size) (fun e => h3 (by cases e; rfl))).trans (b5 q h1 h2)
  have rbl : rb < W.heap.size := by omega
  have rq : (Value.slice ya kw yc).ownBlock ≠ some rb := fun e => by have := (yb _ e).1; omega
  have ob : (Value.slice (some ⟨g2, 0, none⟩) (kw + 1) cap).ownBlock = some g2 := rfl
  have gn : ∀ q, q < W.heap.size → (Value.slice ya kw yc).ownBlock ≠ some q → g2 ≠ q := fun q h1 h2 e => by
    rcases hat with z | z
    · exact h2 (by rw [z, e])
    · omega
  refine ⟨⟨(cf 2).trans h.c2, (ff 2).trans (h.fr 2)⟩, hgr, ⟨grown_trans (grown_trans h.gr hgr (.inr (fun q hq => by have := (yb q hq).1; omega))) gs (.inr (fun q hq => by cases hq; omega)), fun j hj => ?_, fun j => ?_, ?_, ?_, ?_, ?_, fun j => ?_, ?_, hge, hwr, h.gn, ?_, ?_, fun q hq => ?_, fun t ht => ?_⟩⟩
  · rw [World.cell?_of_block (a := ⟨rb, j, none⟩) (b6 rb rbl rq (by omega))]; exact h.r j hj
  · rw [World.frozen?_of_block (a := ⟨rb, j, none⟩) (b6 rb rbl rq (by omega))]; exact h.rf j
  · rw [World.cell?_setCell_other _ _ _ _ (by intro e; cases e)]; exact (cf 0).trans h.c0
  · rw [World.cell?_setCell_other _ _ _ _ (by intro e; cases e)]; exact (cf 1).trans h.c1
  · exact World.cell?_setCell_same (u := .slice ya kw yc) _ _ _ ((cf 2).trans h.c2)
  · rw [World.cell?_setCell_other _ _ _ _ (by intro e; cases e)]; exact (cf 3).trans h.c3
  · rw [World.frozen?_setCell]; exact (ff j).trans (h.fr j)
  · have := gs.size; have := hgr.size; omega
  · rw [List.map_append]
    exact kept_not hown gs (fun q hq e => by cases e; have := (hown.lt _ hq).1; omega)
  · exact kept_not (kept_not h.ox hgr (fun q hq e => h.xy q e hq)) gs (fun q hq e => by cases e; have := (h.ox.lt _ hq).1; omega)
  · intro e
    rw [ob] at hq
    cases hq
    exact gn _ (h.ox.lt _ e).2 (fun z => h.xy _ z e) rfl
  · obtain ⟨t1, t2⟩ := h.tr t ht
    refine ⟨rdN_same t1 (by have := gs.size; have := hgr.size; omega) (fun p hp => b6 _ (t2 p hp).2.1 (t2 p hp).2.2.1 (by have := (t2 p hp).1; omega)), fun p hp => ⟨(t2 p hp).1, by have := gs.size; have := hgr.size; have := (t2 p hp).2.1; omega, fun e => ?_, (t2 p hp).2.2.2⟩⟩
    rw [ob] at e
    cases e
    exact gn _ (t2 p hp).2.1 (t2 p hp).2.2.1 rfl
/-- one tree more, and its slice stored -/
theorem GW.tree {w : World} {g : Nat} {rb : Nat} {gb : Nat} {f : Int} {m : Int} {kw : Nat} {ya : Option Addr} {yc : Nat} {ws : List Int} {kt : Nat} {xa : Option Addr} {xc : Nat} {D : List Tc} {W : World} (h : GW w g rb gb f m kw ya yc ws kt xa xc D W) {t : Tc} (ht : RdN W t.1 t.2.1) (hp : ∀ p, t.1 = some p → gb < p.block ∧ p.block < W.heap.size ∧ (Value.slice ya kw yc).ownBlock ≠ some p.block ∧ (Value.slice xa kt xc).ownBlock ≠ some p.block) {o : Obj} {w5 : World} {g2 cap : Nat}
    (hown : w5.ownsRow (gb + 1) 47 1 (.slice (some ⟨g2, 0, none⟩) (kt + 1) cap) (kt + 1) (D.map tV ++ [tV t])) (hgrow : (W.alloc o).grownBy w5 (Value.slice xa kt xc).ownBlock) (hat : (Value.slice xa kt xc).ownBlock = some g2 ∨ g2 = W.heap.size + 1) :
    (w5.cell? ⟨gb, 3, none⟩ = some (.slice xa kt xc) ∧ w5.frozen? ⟨gb, 3, none⟩ = false) ∧ W.grownBy w5 (Value.slice xa kt xc).ownBlock ∧ GW w g rb gb f m kw ya yc ws (kt + 1) (some ⟨g2, 0, none⟩) cap (D ++ [t]) (w5.setCell ⟨gb, 3, none⟩ (.slice (some ⟨g2, 0, none⟩) (kt + 1) cap)) := by
  have hge := h.ge
  have hlt := h.lt
  have hwr := h.wr
  have hgr : W.grownBy w5 (Value.slice xa kt xc).ownBlock := grown_new hgrow
  have yb : ∀ q, (Value.slice xa kt xc).ownBlock = some q → gb + 1 ≤ q ∧ q < W.heap.size := fun q e => h.ox.lt q e
  have b5 : ∀ q, q < W.heap.size → (Value.slice xa kt xc).ownBlock ≠ some q → w5.heap[q]? = W.heap[q]? := fun q h1 h2 => hgr.block q h1 (fun e => h2 e.symm)
  have cf : ∀ j, w5.cell? ⟨gb, j, none⟩ = W.cell? ⟨gb, j, none⟩ := fun j => World.cell?_of_block (a := ⟨gb, j, none⟩) (b5 gb hlt (fun e => by have := (yb _ e).1; omega))
  have ff : ∀ j, w5.frozen? ⟨gb, j, none⟩ = W.frozen? ⟨gb, j, none⟩ := fun j => World.frozen?_of_block (a := ⟨gb, j, none⟩) (b5 gb hlt (fun e => by have := (yb _ e).1; omega))
  have gs : w5.grownBy (w5.setCell ⟨gb, 3, none⟩ (.slice (some ⟨g2, 0, none⟩) (kt + 1) cap)) (some gb) := grown_set
  have b6 : ∀ q, q < W.heap.size → (Value.slice xa kt xc).ownBlock ≠ some q → q ≠ gb → (w5.setCell ⟨gb, 3, none⟩ (.slice (some ⟨g2, 0, none⟩) (kt + 1) cap)).heap[q]? = W.heap[q]? := fun q h1 h2 h3 => (gs.block q (Nat.lt_of_lt_of_le h1 hgr.size) (fun e => h3 (by cases e; rfl))).trans (b5 q h1 h2)
  have rbl : rb < W.heap.size := by omega
  have rq : (Value.slice xa kt xc).ownBlock ≠ some rb := fun e => by have := (yb _ e).1; omega
  have ob : (Value.slice (some ⟨g2, 0, none⟩) (kt + 1) cap).ownBlock = some g2 := rfl
  have gn : ∀ q, q < W.heap.size → (Value.slice xa kt xc).ownBlock ≠ some q → g2 ≠ q := fun q h1 h2 e => by
    rcases hat with z | z
    · exact h2 (by rw [z, e])
    · omega
  refine ⟨⟨(cf 3).trans h.c3, (ff 3).trans (h.fr 3)⟩, hgr, ⟨grown_trans (grown_trans h.gr hgr (.inr (fun q hq => by have := (yb q hq).1; omega))) gs (.inr (fun q hq => by cases hq; omega)), fun j hj => ?_, fun j => ?_, ?_, ?_, ?_, ?_, fun j => ?_, ?_, hge, hwr, h.gn, ?_, ?_, fun q hq e => ?_, fun t' ht' => ?_⟩⟩
  · rw [World.cell?_of_block (a := ⟨rb, j, none⟩) (b6 rb rbl rq (by omega))]; exact h.r j hj
  · rw [World.frozen?_of_block (a := ⟨rb, j, none⟩) (b6 rb rbl rq (by omega))]; exact h.rf j
  · rw [World.cell?_setCell_other _ _ _ _ (by intro e; cases e)]; exact (cf 0).trans h.c0
  · rw [World.cell?_setCell_other _ _ _ _ (by intro e; cases e)]; exact (cf 1).trans h.c1
  · rw [World.cell?_setCell_other _ _ _ _ (by intro e; cases e)]; exact (cf 2).trans h.c2
  · exact World.cell?_setCell_same (u := .slice xa kt xc) _ _ _ ((cf 3).trans h.c3)
  · rw [World.frozen?_setCell]; exact (ff j).trans (h.fr j)
  · have := gs.size; have := hgr.size; omega
  · exact kept_not (kept_not h.ow hgr (fun q hq e => h.xy q hq e)) gs (fun q hq e => by cases e; have := (h.ow.lt _ hq).1; omega)
  · rw [List.map_append]
    exact kept_not hown gs (fun q hq e => by cases e; have := (hown.lt _ hq).1; omega)
  · rw [ob] at e
    cases e
    exact gn _ (h.ow.lt _ hq).2 (fun z => h.xy _ hq z) rfl
  · have one : ∀ t : Tc, RdN W t.1 t.2.1 → (∀ p, t.1 = some p → gb < p.block ∧ p.block < W.heap.size ∧ (Value.slice ya kw yc).ownBlock ≠ some p.block ∧ (Value.slice xa kt xc).ownBlock ≠ some p.block) → RdN (w5.setCell ⟨gb, 3, none⟩ (.slice (some ⟨g2, 0, none⟩) (kt + 1) cap)) t.1 t.2.1 ∧ ∀ p, t.1 = some p → gb < p.block ∧ p.block < (w5.setCell ⟨gb, 3, none⟩ (.slice (some ⟨g2, 0, none⟩) (kt + 1) cap)).heap.size ∧ (Value.slice ya kw yc).ownBlock ≠ some p.block ∧ (Value.slice (some ⟨g2, 0, none⟩) (kt + 1) cap).ownBlock ≠ some p.block := fun t t1 t2 => by
      refine ⟨rdN_same t1 (by have := gs.size; have := hgr.size; omega) (fun p hp => b6 _ (t2 p hp).2.1 (t2 p hp).2.2.2 (by have := (t2 p hp).1; omega)), fun p hp => ⟨(t2 p hp).1, by have := gs.size; have := hgr.size; have := (t2 p hp).2.1; omega, (t2 p hp).2.2.1, fun e => ?_⟩⟩
      rw [ob] at e
      cases e
      exact gn _ (t2 p hp).2.1 (t2 p hp).2.2.2 rfl
    rcases List.mem_append.1 ht' with z | z
    · exact one t' (h.tr t' z).1 (h.tr t' z).2
    · rw [List.mem_singleton] at z
      subst z
      exact one _ ht hp
/-- its first two numbers, written -/
theorem GW.setF {w : World} {g : Nat} {rb : Nat} {gb : Nat} {f : Int} {m : Int} {kw : Nat} {ya : Option Addr} {yc : Nat} {ws : List Int} {kt : Nat} {xa : Option Addr} {xc : Nat} {D : List Tc} {W : World} (h : GW w g rb gb f m kw ya yc ws kt xa xc D W) (x : Int) : GW w g rb gb x m kw ya yc ws kt xa xc D (W.setCell ⟨gb, 0, none⟩ (.int .i64 x)) := by
  have hge := h.ge
  have hlt := h.lt
  have hwr := h.wr
  have gs : W.grownBy (W.setCell ⟨gb, 0, none⟩ (.int .i64 x)) (some gb) := grown_set
  have b6 : ∀ q, q < W.heap.size → q ≠ gb → (W.setCell ⟨gb, 0, none⟩ (.int .i64 x)).heap[q]? = W.heap[q]? := fun q h1 h3 => gs.block q h1 (fun e => h3 (by cases e; rfl))
  have o : ∀ j u, j ≠ 0 → W.cell? ⟨gb, j, none⟩ = some u → (W.setCell ⟨gb, 0, none⟩ (.int .i64 x)).cell? ⟨gb, j, none⟩ = some u := fun j u hj hu => cell_set_other hu (fun e => hj e.symm)
  refine ⟨grown_trans h.gr gs (.inr (fun q hq => by cases hq; omega)), fun j hj => ?_, fun j => ?_, cell_set_same h.c0, o _ _ (by decide) h.c1, o _ _ (by decide) h.c2, o _ _ (by decide) h.c3, fun j => frozen_set (h.fr j), by simpa using hlt, hge, hwr, h.gn, kept_not h.ow gs (fun q hq e => by cases e; have := (h.ow.lt _ hq).1; omega), kept_not h.ox gs (fun q hq e => by cases e; have := (h.ox.lt _ hq).1; omega), h.xy, fun t ht => ?_⟩
  · rw [World.cell?_of_block (a := ⟨rb, j, none⟩) (b6 rb (by omega) (by omega))]; exact h.r j hj
  · rw [World.frozen?_of_block (a := ⟨rb, j, none⟩) (b6 rb (by omega) (by omega))]; exact h.rf j
  · obtain ⟨t1, t2⟩ := h.tr t ht
    exact ⟨rdN_same t1 gs.size (fun p hp => b6 _ (t2 p hp).2.1 (by have := (t2 p hp).1; omega)), fun p hp => ⟨(t2 p hp).1, Nat.lt_of_lt_of_le (t2 p hp).2.1 gs.size, (t2 p hp).2.2⟩⟩
theorem GW.setM {w : World} {g : Nat} {rb : Nat} {gb : Nat} {f : Int} {m : Int} {kw : Nat} {ya : Option Addr} {yc : Nat} {ws : List Int} {kt : Nat} {xa : Option Addr} {xc : Nat} {D : List Tc} {W : World} (h : GW w g rb gb f m kw ya yc ws kt xa xc D W) (x : Int) : GW w g rb gb f x kw ya yc ws kt xa xc D (W.setCell ⟨gb, 1, none⟩ (.int .i64 x)) := by
  have hge := h.ge
  have hlt := h.lt
  have hwr := h.wr
  have gs : W.grownBy (W.setCell ⟨gb, 1, none⟩ (.int .i64 x)) (some gb) := grown_set
  have b6 : ∀ q, q < W.heap.size → q ≠ gb → (W.setCell ⟨gb, 1, none⟩ (.int .i64 x)).heap[q]? = W.heap[q]? := fun q h1 h3 => gs.block q h1 (fun e => h3 (by cases e; rfl))
  have o : ∀ j u, j ≠ 1 → W.cell? ⟨gb, j, none⟩ = some u → (W.setCell ⟨gb, 1, none⟩ (.int .i64 x)).cell? ⟨gb, j, none⟩ = some u := fun j u hj hu => cell_set_other hu (fun e => hj e.symm)
  refine ⟨grown_trans h.gr gs (.inr (fun q hq => by cases hq; omega)), fun j hj => ?_, fun j => ?_, o _ _ (by decide) h.c0, cell_set_same h.c1, o _ _ (by decide) h.c2, o _ _ (by decide) h.c3, fun j => frozen_set (h.fr j), by simpa using hlt, hge, hwr, h.gn, kept_not h.ow gs (fun q hq e => by cases e; have := (h.ow.lt _ hq).1; omega), kept_not h.ox gs (fun q hq e => by cases e; have := (h.ox.lt _ hq).1; omega), h.xy, fun t ht => ?_⟩
  · rw [World.cell?_of_block (a := ⟨rb, j, none⟩) (b6 rb (by omega) (by omega))]; exact h.r j hj
  · rw [World.frozen?_of_block (a := ⟨rb, j, none⟩) (b6 rb (by omega) (by omega))]; exact h.rf j
  · obtain ⟨t1, t2⟩ := h.tr t ht
    exact ⟨rdN_same t1 gs.size (fun p hp => b6 _ (t2 p hp).2.1 (by have := (t2 p hp).1; omega)), fun p hp => ⟨(t2 p hp).1, Nat.lt_of_lt_of_le (t2 p hp).2.1 gs.size, (t2 p hp).2.2⟩⟩
/-- a tree that is new lies apart -/
theorem GW.fresh {w : World} {g : Nat} {rb : Nat} {gb : Nat} {f : Int} {m : Int} {kw : Nat} {ya : Option Addr} {yc : Nat} {ws : List Int} {kt : Nat} {xa : Option Addr} {xc : Nat} {D : List Tc} {W : World} (h : GW w g rb gb f m kw ya yc ws kt xa xc D W) {W' : World} {va : Option Addr} {vc : Nat} {TS : List M.Nd} (ho : W'.ownsRow W.heap.size 49 6 (.slice va TS.length vc) TS.length (ndCells TS)) (hl : TS.length ≤ 1000) : RdN W' va TS ∧ ∀ p, va = some p → gb < p.block ∧ p.block < W'.heap.size ∧ (Value.slice ya kw yc).ownBlock ≠ some p.block ∧ (Value.slice xa kt xc).ownBlock ≠ some p.block := by
  obtain ⟨a2, c2, e2, hr, hp⟩ := own_rdN rfl (by unfold maxLen; omega) ho
  rw [Value.slice.injEq] at e2
  have ea := e2.1
  subst ea
  refine ⟨hr, fun p hp' => ?_⟩
  have b1 := hp p hp'
  have b2 := h.lt
  refine ⟨by omega, ?_, fun e => by have := (h.ow.lt _ e).2; omega, fun e => by have := (h.ox.lt _ e).2; omega⟩
  subst hp'
  exact (ho.lt p.block rfl).2
theorem grown4_at {W : World} {p : Nat} {x0 x1 x2 x3 : Value} : W.grownBy ((((W.setCell ⟨p, 0, none⟩ x0).setCell ⟨p, 1, none⟩ x1).setCell ⟨p, 2, none⟩ x2).setCell ⟨p, 3, none⟩ x3) (some p) :=
  grown_trans (grown_trans (grown_trans grown_set grown_set (.inl rfl)) grown_set (.inl rfl)) grown_set (.inl rfl)
theorem M.lTree_len (b : List Nat) (s : M.In) : (M.lTree b s).1.length ≤ 63 := by
  have := M.rMany_in (b := b) (s := s) (most := 63) (by decide)
  unfold M.lTree
  rw [M.lNodes_len]
  omega
/-- a grove whose weights and trees lie in blocks that are new, and are read as long as these stay -/
def NewH (W w' : World) (J : Gr) : Prop := ∀ W'' : World, w'.heap.size ≤ W''.heap.size → (∀ b, W.heap.size ≤ b → b < w'.heap.size → W''.heap[b]? = w'.heap[b]?) → RdG W'' J
/-- what is handed out, written: a grove in new blocks -/
theorem GW.out_at {w : World} {g : Nat} {rb : Nat} {gb : Nat} {f : Int} {m : Int} {kw : Nat} {ya : Option Addr} {yc : Nat} {ws : List Int} {kt : Nat} {xa : Option Addr} {xc : Nat} {D : List Tc} {W : World} (h : GW w g rb gb f m kw ya yc ws kt xa xc D W) (hw : ws.length = kw) (hD : D.length = kt) (hk : kt ≤ 1000) (W'' : World) (hz : W.heap.size ≤ W''.heap.size) (hb : ∀ q, gb < q → q < W.heap.size → W''.heap[q]? = W.heap[q]?) : RdG W'' ⟨f, m, ya, ws, yc, xa, D, xc⟩ := by
  have cc : ∀ q j, gb < q → q < W.heap.size → W''.cell? ⟨q, j, none⟩ = W.cell? ⟨q, j, none⟩ := fun q j h1 h2 => World.cell?_of_block (a := ⟨q, j, none⟩) (hb q h1 h2)
  subst hw
  subst hD
  refine ⟨?_, ⟨by unfold maxLen; show D.length ≤ _; omega, fun t ht => ?_, fun hn => ?_⟩⟩
  · obtain ⟨a2, c2, e2, hr, _⟩ := own_rd h.ow
    refine ⟨hr.1, fun hn => ?_⟩
    rcases h.ow.2 with ⟨_, h0⟩ | ⟨q, cap, cur, hv, hbq, hgq, _⟩
    · exact absurd (List.length_eq_zero_iff.1 h0) hn
    · rw [Value.slice.injEq] at hv
      have ql := (Array.getElem?_eq_some_iff.1 hgq).1
      refine ⟨q, 0, hv.1, by omega, fun i hi => ?_⟩
      have hi' : i < ws.length := hi
      rw [cc q _ (by omega) ql, Nat.zero_add]
      have ho := h.ow
      rw [hv.1] at ho
      rw [ho.cellAt i (by omega), List.getElem?_map, List.getElem?_eq_getElem hi']
      simp [List.getD, hi']
  · obtain ⟨t1, t2⟩ := h.tr t ht
    refine ⟨t1.1, fun hn => ?_⟩
    obtain ⟨b, off, e, hl, hcc⟩ := t1.2 hn
    have k : ∀ j v, W.cell? ⟨b, j, none⟩ = some v → W''.cell? ⟨b, j, none⟩ = some v := fun j v hv => (cc b j (t2 _ e).1 hl).trans hv
    exact ⟨b, off, e, by omega, fun i hi => ⟨k _ _ (hcc i hi).1, k _ _ (hcc i hi).2.1, k _ _ (hcc i hi).2.2.1, k _ _ (hcc i hi).2.2.2.1, k _ _ (hcc i hi).2.2.2.2.1, k _ _ (hcc i hi).2.2.2.2.2⟩⟩
  · rcases h.ox.2 with ⟨_, h0⟩ | ⟨q, cap, cur, hv, hbq, hgq, _⟩
    · exact absurd (List.length_eq_zero_iff.1 h0) hn
    · rw [Value.slice.injEq] at hv
      have ql := (Array.getElem?_eq_some_iff.1 hgq).1
      refine ⟨q, 0, hv.1, by omega, fun i hi => ?_⟩
      have hi' : i < D.length := hi
      rw [cc q _ (by omega) ql, Nat.zero_add]
      have ho := h.ox
      rw [hv.1] at ho
      rw [ho.cellAt i (by omega), List.getElem?_map, List.getElem?_eq_getElem hi']
      rfl
theorem GW.out {w : World} {g : Nat} {rb : Nat} {gb : Nat} {f : Int} {m : Int} {kw : Nat} {ya : Option Addr} {yc : Nat} {ws : List Int} {kt : Nat} {xa : Option Addr} {xc : Nat} {D : List Tc} {W : World} (h : GW w g rb gb f m kw ya yc ws kt xa xc D W) (hw : ws.length = kw) (hD : D.length = kt) (hk : kt ≤ 1000) {W' : World} (hs : W'.grownBy W' none → W.heap.size ≤ W'.heap.size) (hb : ∀ q, gb < q → q < W.heap.size → W'.heap[q]? = W.heap[q]?) : NewH w W' ⟨f, m, ya, ws, yc, xa, D, xc⟩ := by
  have hz := hs (World.grownBy.refl _ _)
  have hge := h.ge
  have hwr := h.wr
  intro W'' hs'' hc''
  exact h.out_at hw hD hk W'' (by omega) (fun q h1 h2 => (hc'' q (by omega) (by omega)).trans (hb q h1 h2))

end Go.Proofs.YtnmddlgcbljjdaaDoor
