/-
  Several texts as one: WeiUses.
-/
import Derived.Test.YtlloiccodjnkcagGreatDoorRunW16
import Derived.Test.YtlloiccodjnkcagGreatDoorRunW22
import Derived.Test.YtlloiccodjnkcagGreatDoorRunW23
import Derived.Test.YtlloiccodjnkcagGreatDoorRunW19
namespace Go.Proofs.YtlloiccodjnkcagGreatDoor
open Go.ChangeShapes Go.WideShapes Go.ChangeAt Go.RowKit Go.Lib
set_option linter.unusedVariables false

set_option maxHeartbeats 1000000 in
theorem wnodes_any : MuchGives 27 (M.keyU false) := by
  refine ⟨enters_of Tryz.func27 (by kernel_rfl) rfl, fun u W => ?_⟩
  show Calls Tryz.prog 27 #[.agg #[.int .i64 u.1, .int .i64 u.2.1, .int .i64 u.2.2]] W fun e w' => e = .returned (.int .i64 u.2.1) ∧ Gro W w'
  go_enter Tryz.func27, Tryz.ntmps27
  go_wp2
  go_ret
  exact ⟨rfl, Gro.alloc _ _⟩

theorem M.uses_mid (l : List (List M.Nd)) (k j : Nat) {t : List M.Nd} (ht : l.getD k [] = t) (hj : j < t.length) {f : Nat} (hf : f < 8) (e : M.nf (M.nAt t j) = (f : Int)) :
    (M.bU (M.cK l k j) (fun _ => 0)).set f ((f : Int), (M.uAt (M.bU (M.cK l k j) (fun _ => 0)) f).2.1 + 1, (M.uAt (M.bU (M.cK l k j) (fun _ => 0)) f).2.2 + 0) = M.bU (M.cK l k (j + 1)) (fun _ => 0) := by
  refine M.bU_add hf (fun _ => rfl) (fun i hi => ?_) (fun i hi => by split <;> rfl)
  rw [M.cK_node (by rw [ht]; exact hj), ht, e]
  by_cases q : i = f
  · subst q; rw [if_pos rfl, if_pos rfl]
  · rw [if_neg q, if_neg (by omega)]; rfl
theorem M.uses_leaf (l : List (List M.Nd)) (k j : Nat) {t : List M.Nd} (ht : l.getD k [] = t) (hj : j < t.length) (e : M.nf (M.nAt t j) = -1) : M.bU (M.cK l k (j + 1)) (fun _ => 0) = M.bU (M.cK l k j) (fun _ => 0) := by
  refine M.bU_same (fun i hi => ?_) (fun i hi => rfl)
  rw [M.cK_node (by rw [ht]; exact hj), ht, e, if_neg (by omega)]; rfl
theorem M.bU_bd {c : Nat → Nat} {b : Nat} (h : ∀ i, c i ≤ b) {f : Nat} (hf : f < 8) : 0 ≤ (M.uAt (M.bU c (fun _ => 0)) f).2.1 ∧ (M.uAt (M.bU c (fun _ => 0)) f).2.1 ≤ (b : Int) ∧ (M.uAt (M.bU c (fun _ => 0)) f).2.2 = 0 := by
  have e : M.uAt (M.bU c (fun _ => 0)) f = if c f = 0 then ((0 : Int), (0 : Int), (0 : Int)) else ((f : Int), ((c f : Nat) : Int), 0) := M.bU_at hf
  have := h f
  rw [e]
  split
  · exact ⟨Int.le_refl _, by show (0 : Int) ≤ _; omega, rfl⟩
  · exact ⟨by show (0 : Int) ≤ ((c f : Nat) : Int); omega, by show ((c f : Nat) : Int) ≤ _; omega, rfl⟩

set_option maxHeartbeats 16000000 in
set_option maxRecDepth 10000 in
theorem weiuses_any : WgUsesGives := by
  intro G w h
  have CK := hide (fun W (hW : Below w.heap.size w W) => gcheck_any G W (h.below hW))
  have HG := hide h
  unfold Gr.v at CK ⊢
  obtain ⟨wb, hwb⟩ : ∃ W, W = w.alloc (.cells #[.int .i64 G.f, .int .i64 G.w, .slice G.wa G.ws.length G.wc, .slice G.ta G.ks.length G.tc] 25) := ⟨_, rfl⟩
  have BB : Hid (Below w.heap.size w wb) := by rw [hwb]; exact (Below.refl _ w).alloc (Nat.le_refl _) _
  have BX : Hid (∀ W, Below wb.heap.size wb W → Below w.heap.size w W ∧ W.cell? ⟨w.heap.size, 0, none⟩ = some (.int .i64 G.f) ∧ W.cell? ⟨w.heap.size, 1, none⟩ = some (.int .i64 G.w) ∧ W.cell? ⟨w.heap.size, 2, none⟩ = some (.slice G.wa G.ws.length G.wc) ∧ W.cell? ⟨w.heap.size, 3, none⟩ = some (.slice G.ta G.ks.length G.tc)) := fun W hW => ⟨below_on BB.out hW, by rw [hwb] at hW; exact kept_box hW⟩
  by_cases he : M.groveF G.m = 0
  · have K := (M.good_iff G.m).1 he
    have tlen : (M.gt G.m).length = G.ks.length := tl_len G.ks
    have g0 : 0 < G.ks.length := by rw [← tlen]; exact K.t0
    have g12 : G.ks.length ≤ 12 := by rw [← tlen]; exact K.t12
    have EV : M.usV G.m = M.rankU false (M.cU (fun i => M.cntG (i : Int) (tl G.ks)) (fun _ => 0)) := by unfold M.usV; rw [if_pos he]; rfl
    have TK : ∀ k (hk : k < G.ks.length), (tl G.ks).getD k [] = G.ks[k].2.1 := fun k hk => by
      simp [tl, List.getD, hk]
    have TF : ∀ k (hk : k < G.ks.length), M.Fair G.ks[k].2.1 G.f := fun k hk => (M.tree_ok (K.trees G.ks[k].2.1 (List.mem_map.2 ⟨_, List.getElem_mem hk, rfl⟩))).1
    have L63 : ∀ t ∈ tl G.ks, t.length ≤ 63 := fun t ht => by
      obtain ⟨x, hx, rfl⟩ := List.mem_map.1 ht
      obtain ⟨i, hi, rfl⟩ := List.getElem_of_mem hx
      exact (TF i hi).1
    obtain ⟨bt2, ot2, eta, hbt2, hct2⟩ := HG.out.2.2.2 (by intro e; rw [e] at g0; simp at g0)
    have HT : Hid (∀ W, Below w.heap.size w W → ∀ k (hk : k < G.ks.length), W.cell? ⟨bt2, ot2 + k, none⟩ = some (.slice G.ks[k].1 G.ks[k].2.1.length G.ks[k].2.2)) := fun W hW k hk => (hW.cell (p := ⟨bt2, ot2 + k, none⟩) hbt2).trans (hct2 k hk)
    have HN : Hid (∀ W, Below w.heap.size w W → ∀ k (hk : k < G.ks.length), RdN W G.ks[k].1 G.ks[k].2.1) := fun W hW k hk => (HG.out.below hW).2.2.1 _ (List.getElem_mem hk)
    have T63 : Hid (∀ k (hk : k < G.ks.length), G.ks[k].2.1.length ≤ 63) := fun k hk => (TF k hk).1
    have NF : Hid (∀ k (hk : k < G.ks.length) j, j < G.ks[k].2.1.length → M.nf (M.nAt G.ks[k].2.1 j) ≠ -1 → ∃ f : Nat, M.nf (M.nAt G.ks[k].2.1 j) = (f : Int) ∧ f < 8) := fun k hk j hj hn => by
      obtain ⟨q1, q2, _⟩ := M.node_ask ((TF k hk).2.2.2.2.1 j hj) hn
      have := (TF k hk).2.2.2.1
      exact ⟨(M.nf (M.nAt G.ks[k].2.1 j)).toNat, by omega, by omega⟩
    obtain ⟨A, hA⟩ : ∃ A : Nat → Nat → List M.Us, A = fun k j => M.bU (M.cK (tl G.ks) k j) (fun _ => 0) := ⟨_, rfl⟩
    have UM : Hid (∀ k (hk : k < G.ks.length) j, j < G.ks[k].2.1.length → ∀ f : Nat, f < 8 → M.nf (M.nAt G.ks[k].2.1 j) = (f : Int) → (A k j).set f ((f : Int), (M.uAt (A k j) f).2.1 + 1, (M.uAt (A k j) f).2.2 + 0) = A k (j + 1)) := fun k hk j hj f hf e => by rw [hA]; exact M.uses_mid _ k j (TK k hk) hj hf e
    have UL : Hid (∀ k (hk : k < G.ks.length) j, j < G.ks[k].2.1.length → M.nf (M.nAt G.ks[k].2.1 j) = -1 → A k (j + 1) = A k j) := fun k hk j hj e => by rw [hA]; exact M.uses_leaf _ k j (TK k hk) hj e
    have UB : Hid (∀ k j f, f < 8 → 0 ≤ (M.uAt (A k j) f).2.1 ∧ (M.uAt (A k j) f).2.1 ≤ 1000 ∧ (M.uAt (A k j) f).2.2 = 0) := fun k j f hf => by rw [hA]; exact M.bU_bd (b := 1000) (fun i => M.cK_le L63 (by rw [tl_len]; exact g12) k j i) hf
    have UT : Hid (∀ k (hk : k < G.ks.length), A k G.ks[k].2.1.length = A (k + 1) 0) := fun k hk => by
      rw [hA]
      refine M.bU_same (fun i _ => ?_) (fun i _ => rfl)
      rw [← TK k hk]
      exact M.cK_tree (by rw [tl_len]; exact hk) i
    have U0 : Hid (A 0 0 = List.replicate 8 (0, 0, 0)) := by unfold Hid; rw [hA]; exact M.bU_zero _ (fun i _ => M.cK_none _ i)
    have UE : Hid (A G.ks.length 0 = M.bU (fun i => M.cntG (i : Int) (tl G.ks)) (fun _ => 0)) := by
      unfold Hid
      rw [hA]
      refine M.bU_same (fun i _ => ?_) (fun i _ => rfl)
      have := M.cK_all (tl G.ks) i
      rw [tl_len] at this
      exact this
    have MF := hide (most_any sortU_own false _ wnodes_any (fun i => M.cntG (i : Int) (tl G.ks)) (fun _ => 0))
    rw [← UE.out] at MF
    rw [EV]
    obtain ⟨Z, hZ⟩ : ∃ Z, Z = M.rankU false (M.cU (fun i => M.cntG (i : Int) (tl G.ks)) (fun _ => 0)) := ⟨_, rfl⟩
    rw [← hZ] at MF ⊢
    rw [err_nil he] at CK ⊢
    rw [eta] at CK BX hwb ⊢
    clear he K tlen EV TK TF L63 eta hbt2 hct2 h HG hA hZ UE
    go_enter Tryz.func7, Tryz.ntmps7
    go_upto_region 1 with fail
    rw [← hwb]
    obtain ⟨_, a0, a1, a2, a3⟩ := BX.out _ (Below.refl _ _)
    clear hwb
    go_upto_region 5 with (go_at_call 24; refine (CK.out _ (BX.out _ (Below.refl _ _)).1).mono ?_; rintro r w1 ⟨rfl, h1⟩; have H1 := hide h1; clear h1)
    clear a0 a1 a2 a3 CK
    obtain ⟨wz, hwz⟩ : ∃ W, W = w1.alloc (.cells (usCells (List.replicate 8 (0, 0, 0))).toArray 62) := ⟨_, rfl⟩
    have hwz' := hwz
    rw [show (usCells (List.replicate 8 (0, 0, 0))).toArray = #[.int .i64 0, .int .i64 0, .int .i64 0, .int .i64 0, .int .i64 0, .int .i64 0, .int .i64 0, .int .i64 0, .int .i64 0, .int .i64 0, .int .i64 0, .int .i64 0, .int .i64 0, .int .i64 0, .int .i64 0, .int .i64 0, .int .i64 0, .int .i64 0, .int .i64 0, .int .i64 0, .int .i64 0, .int .i64 0, .int .i64 0, .int .i64 0] from rfl] at hwz'
    rw [← hwz']
    clear hwz'
    obtain ⟨gB, hgB⟩ : ∃ n, n = w1.heap.size := ⟨_, rfl⟩
    rw [← hgB]
    have gl : w.heap.size ≤ gB := by rw [hgB]; exact (below_on BB.out H1.out).size
    have AZ : Hid (ArrU wz w.heap.size gB (A 0 0)) := by unfold Hid; rw [U0.out, hwz, hgB]; exact ArrU.new w1 w.heap.size (by rw [← hgB]; exact gl)
    have KZ : Hid (Below wb.heap.size wb wz) := by rw [hwz]; exact H1.out.alloc H1.out.size _
    obtain ⟨KW, a0, a1, a2, a3⟩ := BX.out wz KZ.out
    have KW2 := hide KW
    clear hwz hgB H1 U0 KW a0 a1 a2
    go_wp2
    clear a3
    go_loopw [18] (fun i wr => ∃ k : Nat, k ≤ G.ks.length ∧ i = .int .i64 k ∧ Hid (ArrU wr w.heap.size gB (A k 0)) ∧ Hid (Below w.heap.size w wr)) (fun i _ => G.ks.length - (intOf i).toNat)
    case atStart => exact ⟨0, Nat.zero_le _, rfl, AZ, KW2⟩
    case round =>
      obtain ⟨k, hk, rfl, AU, KB⟩ := hrel
      obtain ⟨wm, hwm⟩ : ∃ W, W = wr := ⟨_, rfl⟩
      subst hwm
      by_cases hlt : k < G.ks.length
      · have ct := HT.out wm KB.out k hlt
        have kz : (k : Int) < (G.ks.length : Int) := by omega
        have N1 := hide (fun W hW => HN.out W hW k hlt)
        have t63 := T63.out k hlt
        have F1 := hide (NF.out k hlt)
        have M1 := hide (UM.out k hlt)
        have L1 := hide (UL.out k hlt)
        have E1 := hide (UT.out k hlt)
        have B1 := hide (UB.out k)
        clear HT HN T63 NF UM UL UB UT MF AZ KZ BX BB
        generalize G.ks[k].2.2 = tc at *
        generalize G.ks[k].1 = ta at *
        generalize hts : G.ks[k].2.1 = ts at *
        clear hts
        go_wp2
        go_loopw [24] (fun i wr => ∃ j : Nat, j ≤ ts.length ∧ i = .int .i64 j ∧ Hid (ArrU wr w.heap.size gB (A k j)) ∧ Hid (Below w.heap.size w wr)) (fun i _ => ts.length - (intOf i).toNat)
        case atStart => exact ⟨0, Nat.zero_le _, rfl, AU, KB⟩
        case round =>
          clear AU KB ct
          obtain ⟨j, hj, rfl, AU, KB⟩ := hrel
          by_cases hlj : j < ts.length
          · have jz : (j : Int) < (ts.length : Int) := by omega
            obtain ⟨bt, ot, rfl, hbt, hct⟩ := (N1.out wr KB.out).2 (by intro e; rw [e] at hlj; simp at hlj)
            obtain ⟨s0, s1, s2, s3, s4, s5⟩ := hct j hlj
            have F2 := hide (F1.out j hlj)
            have M2 := hide (M1.out j hlj)
            have L2 := hide (L1.out j hlj)
            have B2 := hide (B1.out j)
            clear hct N1 F1 M1 L1 B1 E1
            have sz := KB.out.size
            have UA : Hid (∀ o, ArrU (wr.alloc o) w.heap.size gB (A k j) ∧ Below w.heap.size w (wr.alloc o)) := fun o => ⟨AU.out.up ((Below.refl _ _).alloc (Nat.le_refl _) o), KB.out.alloc sz o⟩
            generalize M.nc (M.nAt ts j) = nc at *
            generalize M.nl (M.nAt ts j) = nl at *
            generalize M.nr (M.nAt ts j) = nr at *
            generalize M.ns (M.nAt ts j) = ns at *
            generalize M.nv (M.nAt ts j) = nv at *
            by_cases hf : M.nf (M.nAt ts j) = -1
            · have E2 := hide (L2.out hf)
              rw [hf] at s0
              have A2 : Hid (∀ o, ArrU (wr.alloc o) w.heap.size gB (A k (j + 1)) ∧ Below w.heap.size w (wr.alloc o)) := fun o => by rw [E2.out]; exact UA.out o
              clear hf F2 M2 L2 B2 UA AU
              go_wp2
              go_roundw
              case rel => exact ⟨j + 1, by omega, by go_num, (A2.out _).1, (A2.out _).2⟩
              case measure => simp [intOf]; omega
            · obtain ⟨f, ef, f8⟩ := F2.out hf
              have E2 := hide (M2.out f f8 ef)
              obtain ⟨b1, b2, b3⟩ := B2.out f f8
              have q : ((f : Int) != -1) = true := by rw [bne_iff_ne]; omega
              rw [ef] at s0
              have AD : Hid (∀ o, Calls Tryz.prog 25 #[.pointer (some ⟨gB, 0, none⟩), .int .i64 f, .int .i64 0] (wr.alloc o) fun e w' => e = .returned (.tuple #[]) ∧ ArrU w' w.heap.size gB (A k (j + 1)) ∧ Below w.heap.size w w') := fun o => by
                refine (wadd_any w.heap.size gB f (A k j) 0 (wr.alloc o) (UA.out o).1 f8 b1 (by omega) (by omega) (by omega) (Int.le_refl _) (by omega)).mono ?_
                rintro e w' ⟨rfl, q1, q2⟩
                rw [E2.out] at q1
                exact ⟨rfl, q1, (UA.out o).2.grown q2 (UA.out o).2.size (fun z hz => by cases hz; exact gl)⟩
              clear hf ef F2 M2 L2 B2 E2 UA AU b1 b2 b3
              go_wp2_with (go_at_call 25; refine (AD.out _).mono ?_; rintro e w5 ⟨rfl, q1, q2⟩; have A5 := hide q1; have K5 := hide q2; clear q1 q2)
              go_roundw
              case rel => exact ⟨j + 1, by omega, by go_num, A5, K5⟩
              case measure => simp [intOf]; omega
          · have je : j = ts.length := by omega
            have jz : ¬ ((j : Int) < (ts.length : Int)) := by omega
            have A2 : Hid (ArrU wr w.heap.size gB (A (k + 1) 0)) := by unfold Hid; rw [← E1.out, ← je]; exact AU.out
            clear je N1 F1 M1 L1 B1 E1 AU
            go_wp2
            go_roundw
            case rel => exact ⟨k + 1, by omega, by go_num, A2, KB⟩
            case measure => simp [intOf]; omega
      · have ke : k = G.ks.length := by omega
        have kz : ¬ ((k : Int) < (G.ks.length : Int)) := by omega
        have A2 : ArrU wm w.heap.size gB (A G.ks.length 0) := by rw [← ke]; exact AU.out
        have bk := A2.block
        have E24 : Hid ((Tryz.prog.info? 62).map (·.size) = some (usCells (A G.ks.length 0)).toArray.size) := by unfold Hid; rw [infoCnt, List.size_toArray, usCells_len, A2.1]
        have MC := hide (MF.out wm)
        clear HT HN T63 NF UM UL UB UT MF AZ KZ BX BB AU A2 ke
        go_wp2_with (first
          | (refine wpList_load_row rfl 62 (.tmp 5) rfl gB rfl 62 _ (0, 0) _ bk Tryz.underlying62 rfl E24.out ?_)
          | (go_at_call 26; refine MC.out.mono ?_; rintro e w6 ⟨a, cp, rfl, hr, hb⟩; have R6 := hide hr; have K6 := hide (below_on KB.out hb); clear hr hb))
        go_ret2
        exact ⟨a, cp, rfl, R6.out, K6.out⟩
  · have EV : M.usV G.m = [] := by unfold M.usV; rw [if_neg he]
    rw [EV]
    rw [err_some he] at CK ⊢
    clear h EV HG
    generalize M.groveF G.m = gf at *
    go_enter Tryz.func7, Tryz.ntmps7
    go_upto_region 1 with fail
    rw [← hwb]
    obtain ⟨_, a0, a1, a2, a3⟩ := BX.out _ (Below.refl _ _)
    clear hwb
    go_wp2_with (go_at_call 24; refine (CK.out _ (BX.out _ (Below.refl _ _)).1).mono ?_; rintro r w1 ⟨rfl, h1⟩; have H1 := hide (below_on BB.out h1); clear h1)
    go_ret2
    exact ⟨none, 0, rfl, ⟨Nat.zero_le _, fun h => absurd rfl h⟩, H1.out⟩

end Go.Proofs.YtlloiccodjnkcagGreatDoor
