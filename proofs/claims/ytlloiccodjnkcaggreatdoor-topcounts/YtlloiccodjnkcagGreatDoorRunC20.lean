/-
  Several texts as one: DifGroves.
-/
import Derived.Test.YtlloiccodjnkcagGreatDoorRunC13
import Derived.Test.YtlloiccodjnkcagGreatDoorRunC17
import Derived.Test.YtlloiccodjnkcagGreatDoorRunC19
import Derived.Deep.Cut
import Derived.Deep.CutRange
import Derived.Deep.RegionWith
import Derived.Deep.RegionHeld3
import Derived.RegionTactic
import Derived.BigQuiet
import Derived.Deep.QuietTactic
namespace Go.Proofs.YtlloiccodjnkcagGreatDoor
open Go.ChangeShapes Go.WideShapes Go.ChangeAt Go.RowKit Go.Lib
set_option linter.unusedVariables false

theorem dif_ret {a b c : Int} {v : Value} (h : a = b) (e : v = errV c) : Ending.returned (.tuple #[.int .i64 a, v]) = .returned (.tuple #[.int .i64 b, errV c]) := by rw [h, e]

set_option maxHeartbeats 16000000 in
set_option maxRecDepth 10000 in
theorem difgroves_bad (G O : Gr) (w : World) (hg : RdG w G) (ho : RdG w O) (hbad : M.gdF G.m O.m ≠ 0) : Calls Tryz.prog 19 #[G.v, O.v] w fun e w' => e = .returned (.tuple #[.int .i64 (M.difGV G.m O.m : Nat), errV (M.difGF G.m O.m)]) ∧ Below w.heap.size w w' := by
  have hmg : G.ks.length ≤ 9223372036854775807 := hg.2.1
  have hmo : O.ks.length ≤ 9223372036854775807 := ho.2.1
  have GG := hide (fun W (hW : Below w.heap.size w W) => gcheck_any G W (hg.below hW))
  have GO := hide (fun W (hW : Below w.heap.size w W) => gcheck_any O W (ho.below hW))
  have C0 := hide (Cx.new w G O)
  obtain ⟨q1, q2⟩ := M.gd_bad hbad
  rw [q1, q2]
  clear q1 q2
  by_cases h0 : M.groveF G.m = 0
  · by_cases h1 : M.groveF O.m = 0
    · have he : G.f ≠ O.f ∨ G.w ≠ O.w ∨ G.ks.length ≠ O.ks.length := by
        unfold M.gdF at hbad
        rw [if_neg (by simp [h0]), if_neg (by simp [h1])] at hbad
        have : M.gf G.m ≠ M.gf O.m ∨ M.gw G.m ≠ M.gw O.m ∨ (M.gt G.m).length ≠ (M.gt O.m).length := Decidable.not_not.1 (fun q => hbad (if_neg q))
        rw [show (M.gt G.m).length = G.ks.length from tl_len G.ks, show (M.gt O.m).length = O.ks.length from tl_len O.ks] at this
        exact this
      have ed : M.gdF G.m O.m = 3 := by
        unfold M.gdF
        rw [if_neg (by simp [h0]), if_neg (by simp [h1]), if_pos]
        rcases he with h | h | h
        · exact .inl h
        · exact .inr (.inl h)
        · refine .inr (.inr ?_)
          show (tl G.ks).length ≠ (tl O.ks).length
          rw [tl_len, tl_len]
          exact h
      rw [ed, err_some (show (3 : Int) ≠ 0 by decide)]
      rw [err_nil h0] at GG
      rw [err_nil h1] at GO
      clear hg ho ed h0 h1 hbad
      unfold Gr.v at GG GO ⊢
      by_cases d1 : G.f = O.f
      · have t1 : (G.f != O.f) = false := by rw [bne_eq_false_iff_eq]; exact d1
        by_cases d2 : G.w = O.w
        · have t2 : (G.w != O.w) = false := by rw [bne_eq_false_iff_eq]; exact d2
          have d3 : G.ks.length ≠ O.ks.length := he.elim (fun q => absurd d1 q) (fun q => q.elim (fun q => absurd d2 q) id)
          have t3 : ((G.ks.length : Int) != (O.ks.length : Int)) = true := by rw [bne_iff_ne]; omega
          clear he d1 d2 d3
          go_enter Tryz.func19, Tryz.ntmps19
          go_wp2_with (first
            | (go_at_call 24; have lean := c1; refine (GO.out _ c1.out.k).mono ?_; rintro e w2 ⟨rfl, h⟩; have c2 := hide (c1.out.up h); obtain ⟨_, x0, x1, x2, x3, y0, y1, y2, y3, _⟩ := c2.out; clear h)
            | (go_at_call 24; refine (GG.out _ C0.out.k).mono ?_; rintro e w1 ⟨rfl, h⟩; have c1 := hide (C0.out.up h); obtain ⟨_, x0, x1, x2, x3, y0, y1, y2, y3, _⟩ := c1.out; clear h))
          go_ret2
          exact ⟨rfl, c2.out.k⟩
        · have t2 : (G.w != O.w) = true := by rw [bne_iff_ne]; exact d2
          clear he d1 d2
          go_enter Tryz.func19, Tryz.ntmps19
          go_wp2_with (first
            | (go_at_call 24; have lean := c1; refine (GO.out _ c1.out.k).mono ?_; rintro e w2 ⟨rfl, h⟩; have c2 := hide (c1.out.up h); obtain ⟨_, x0, x1, x2, x3, y0, y1, y2, y3, _⟩ := c2.out; clear h)
            | (go_at_call 24; refine (GG.out _ C0.out.k).mono ?_; rintro e w1 ⟨rfl, h⟩; have c1 := hide (C0.out.up h); obtain ⟨_, x0, x1, x2, x3, y0, y1, y2, y3, _⟩ := c1.out; clear h))
          go_ret2
          exact ⟨rfl, c2.out.k⟩
      · have t1 : (G.f != O.f) = true := by rw [bne_iff_ne]; exact d1
        clear he d1
        go_enter Tryz.func19, Tryz.ntmps19
        go_wp2_with (first
          | (go_at_call 24; have lean := c1; refine (GO.out _ c1.out.k).mono ?_; rintro e w2 ⟨rfl, h⟩; have c2 := hide (c1.out.up h); obtain ⟨_, x0, x1, x2, x3, y0, y1, y2, y3, _⟩ := c2.out; clear h)
          | (go_at_call 24; refine (GG.out _ C0.out.k).mono ?_; rintro e w1 ⟨rfl, h⟩; have c1 := hide (C0.out.up h); obtain ⟨_, x0, x1, x2, x3, y0, y1, y2, y3, _⟩ := c1.out; clear h))
        go_ret2
        exact ⟨rfl, c2.out.k⟩
    · have ed : M.gdF G.m O.m = M.groveF O.m := by
        unfold M.gdF
        rw [if_neg (by simp [h0]), if_pos h1]
      rw [ed, err_some h1]
      rw [err_nil h0] at GG
      rw [err_some h1] at GO
      clear hg ho ed h0 h1 hbad
      generalize M.groveF O.m = gf at *
      unfold Gr.v at GG GO ⊢
      go_enter Tryz.func19, Tryz.ntmps19
      go_wp2_with (first
        | (go_at_call 24; have lean := c1; refine (GO.out _ c1.out.k).mono ?_; rintro e w2 ⟨rfl, h⟩; have c2 := hide (c1.out.up h); clear h)
        | (go_at_call 24; refine (GG.out _ C0.out.k).mono ?_; rintro e w1 ⟨rfl, h⟩; have c1 := hide (C0.out.up h); obtain ⟨_, x0, x1, x2, x3, y0, y1, y2, y3, _⟩ := c1.out; clear h))
      go_ret2
      exact ⟨rfl, c2.out.k⟩
  · have ed : M.gdF G.m O.m = M.groveF G.m := by
      unfold M.gdF
      rw [if_pos h0]
    rw [ed, err_some h0]
    rw [err_some h0] at GG
    clear hg ho ed h0 hbad GO
    generalize M.groveF G.m = gf at *
    unfold Gr.v at GG ⊢
    go_enter Tryz.func19, Tryz.ntmps19
    go_wp2_with (go_at_call 24; refine (GG.out _ C0.out.k).mono ?_; rintro e w1 ⟨rfl, h⟩; have c1 := hide (C0.out.up h); clear h)
    go_ret2
    exact ⟨rfl, c1.out.k⟩

set_option maxHeartbeats 32000000 in
set_option maxRecDepth 10000 in
theorem difgroves_ok (hT : DifTreesGives) (G O : Gr) (w : World) (hg : RdG w G) (ho : RdG w O) (gd0 : M.gdF G.m O.m = 0) : Calls Tryz.prog 19 #[G.v, O.v] w fun e w' => e = .returned (.tuple #[.int .i64 (M.difGV G.m O.m : Nat), errV (M.difGF G.m O.m)]) ∧ Below w.heap.size w w' := by
  have hmg : G.ks.length ≤ 9223372036854775807 := hg.2.1
  have hmo : O.ks.length ≤ 9223372036854775807 := ho.2.1
  obtain ⟨KG, KO, e1, e2, e3⟩ := M.gd_ok gd0
  have d1 : G.f = O.f := e1
  have d2 : G.w = O.w := e2
  have d3 : G.ks.length = O.ks.length := by rw [← tl_len G.ks, ← tl_len O.ks]; exact e3
  have h0 := (M.good_iff G.m).2 KG
  have h1 := (M.good_iff O.m).2 KO
  have GG := hide (fun W (hW : Below w.heap.size w W) => gcheck_any G W (hg.below hW))
  have GO := hide (fun W (hW : Below w.heap.size w W) => gcheck_any O W (ho.below hW))
  have C0 := hide (Cx.new w G O)
  have gl : G.ws.length = G.ks.length := KG.len.trans (tl_len G.ks)
  have ol : O.ws.length = O.ks.length := KO.len.trans (tl_len O.ks)
  have g0 : 0 < G.ks.length := by have := KG.t0; rw [show (M.gt G.m).length = G.ks.length from tl_len G.ks] at this; exact this
  have tG : ∀ k (hk : k < G.ks.length), (M.treeF G.ks[k].2.1 G.f).2 = 0 := fun k hk => KG.trees G.ks[k].2.1 (List.mem_map.2 ⟨_, List.getElem_mem hk, rfl⟩)
  have tO : ∀ k (hk : k < O.ks.length), (M.treeF O.ks[k].2.1 G.f).2 = 0 := fun k hk => by rw [d1]; exact KO.trees O.ks[k].2.1 (List.mem_map.2 ⟨_, List.getElem_mem hk, rfl⟩)
  have TRK : Hid (∀ k (hk : k < G.ks.length) (hk2 : k < O.ks.length) W, Below w.heap.size w W → Calls Tryz.prog 49 #[.slice G.ks[k].1 G.ks[k].2.1.length G.ks[k].2.2, .slice O.ks[k].1 O.ks[k].2.1.length O.ks[k].2.2, .int .i64 G.f] W fun e w' => ∃ (n : Nat) (wa : Option Addr) (wc : Nat), e = .returned (.tuple #[.slice wa n wc, errV (if M.movedV G.ks[k].2.1 O.ks[k].2.1 G.f = 0 then 5 else 0)]) ∧ Below W.heap.size W w') := fun k hk hk2 W hW => by
    refine (hT _ _ _ _ G.ks[k].2.2 O.ks[k].2.2 G.f W ((hg.below hW).2.2.1 _ (List.getElem_mem hk)) ((ho.below hW).2.2.1 _ (List.getElem_mem hk2))).mono ?_
    rintro e w' ⟨L, wa, wc, rfl, _, _, hb⟩
    refine ⟨L.length, wa, wc, ?_, hb⟩
    unfold M.difTF
    rw [if_neg (by rw [M.dif_of (tG k hk) (tO k hk2)]; simp)]
  have PD : Hid (∀ k (hk : k < G.ks.length) (hk2 : k < O.ks.length), M.gdP G.m O.m k = (decide (0 < M.movedV G.ks[k].2.1 O.ks[k].2.1 G.f) || !decide (G.ws.getD k 0 = O.ws.getD k 0))) := fun k hk hk2 => by
    unfold M.gdP
    rw [show (M.gt G.m).getD k [] = G.ks[k].2.1 from tl_at G.ks hk, show (M.gt O.m).getD k [] = O.ks[k].2.1 from tl_at O.ks hk2]
    rfl
  have HIT : Hid (∀ p, p < G.ks.length → M.gdP G.m O.m p = true → (∀ j, j < p → M.gdP G.m O.m j = false) → M.difGF G.m O.m = 0 ∧ M.difGV G.m O.m = p) := fun p hp h2 h3 => M.gd_hit gd0 (by show p < (tl G.ks).length; rw [tl_len]; exact hp) h2 h3
  have MISS : Hid ((∀ j, j < G.ks.length → M.gdP G.m O.m j = false) → M.difGF G.m O.m = 5 ∧ M.difGV G.m O.m = 0) := fun h => M.gd_miss gd0 (fun j hj => h j (by rw [← tl_len G.ks]; exact hj))
  obtain ⟨gb, gq, gta, hgb, hgc⟩ := hg.2.2.2 (by intro e; rw [e] at g0; simp at g0)
  obtain ⟨ob, oq, ota, hob, hoc⟩ := ho.2.2.2 (by intro e; rw [e] at d3; rw [d3] at g0; simp at g0)
  obtain ⟨xb, xq, gwa, hxb, hxc⟩ := hg.1.2 (by intro e; rw [e] at gl; simp at gl; omega)
  obtain ⟨yb, yq, owa, hyb, hyc⟩ := ho.1.2 (by intro e; rw [e] at ol; simp at ol; omega)
  have HT : Hid (∀ W, Below w.heap.size w W → ∀ k (hk : k < G.ks.length) (hk2 : k < O.ks.length), W.cell? ⟨gb, gq + k, none⟩ = some (.slice G.ks[k].1 G.ks[k].2.1.length G.ks[k].2.2) ∧ W.cell? ⟨ob, oq + k, none⟩ = some (.slice O.ks[k].1 O.ks[k].2.1.length O.ks[k].2.2) ∧ W.cell? ⟨xb, xq + k, none⟩ = some (.int .i64 (G.ws.getD k 0)) ∧ W.cell? ⟨yb, yq + k, none⟩ = some (.int .i64 (O.ws.getD k 0))) := fun W hW k hk hk2 =>
    ⟨(hW.cell (p := ⟨gb, gq + k, none⟩) hgb).trans (hgc k hk), (hW.cell (p := ⟨ob, oq + k, none⟩) hob).trans (hoc k hk2), (hW.cell (p := ⟨xb, xq + k, none⟩) hxb).trans (hxc k (by omega)), (hW.cell (p := ⟨yb, yq + k, none⟩) hyb).trans (hyc k (by omega))⟩
  have GTA := hide gta
  have OTA := hide ota
  have GWA := hide gwa
  have OWA := hide owa
  rw [err_nil h0] at GG
  rw [err_nil h1] at GO
  have t1 : (G.f != O.f) = false := by rw [bne_eq_false_iff_eq]; exact d1
  have t2 : (G.w != O.w) = false := by rw [bne_eq_false_iff_eq]; exact d2
  have t3 : ((G.ks.length : Int) != (O.ks.length : Int)) = false := by rw [bne_eq_false_iff_eq]; omega
  clear hg ho hT h0 h1 KG KO gd0 tG tO hgc hoc hxc hyc gta ota gwa owa hgb hob hxb hyb d1 d2 e1 e2 e3
  have D3 := hide d3
  have GL := hide gl
  have OL := hide ol
  clear d3 gl ol
  have FIN : Hid (∀ (p : Nat) (c : Int), M.difGF G.m O.m = c ∧ M.difGV G.m O.m = p → ∀ v, v = errV c → Ending.returned (.tuple #[.int .i64 (p : Nat), v]) = .returned (.tuple #[.int .i64 (M.difGV G.m O.m : Nat), errV (M.difGF G.m O.m)])) := fun p c h v hv => by rw [h.1, h.2, hv]
  generalize M.difGF G.m O.m = gF at *
  generalize M.difGV G.m O.m = gV at *
  generalize M.gdP G.m O.m = gP at *
  generalize errV gF = eF at *
  unfold Gr.v at GG GO ⊢
  go_enter Tryz.func19, Tryz.ntmps19
  go_wp2_with (first
    | (go_at_call 24; have lean := c1; refine (GO.out _ c1.out.k).mono ?_; rintro e w2 ⟨rfl, h⟩; have c2 := hide (c1.out.up h); obtain ⟨_, x0, x1, x2, x3, y0, y1, y2, y3, _⟩ := c2.out; clear h)
    | (go_at_call 24; refine (GG.out _ C0.out.k).mono ?_; rintro e w1 ⟨rfl, h⟩; have c1 := hide (C0.out.up h); obtain ⟨_, x0, x1, x2, x3, y0, y1, y2, y3, _⟩ := c1.out; clear h))
  clear x0 x1 x2 x3 y0 y1 y2 y3 t1 t2
  go_loopw [46] (fun i wr => ∃ k : Nat, k ≤ G.ks.length ∧ i = .int .i64 k ∧ Hid (∀ j, j < k → gP j = false) ∧ Hid (Cx w G O wr)) (fun i _ => G.ks.length - (intOf i).toNat)
  case atStart => exact ⟨0, Nat.zero_le _, rfl, fun j hj => absurd hj (Nat.not_lt_zero _), c2⟩
  case round =>
    obtain ⟨k, hk, rfl, HJ, K⟩ := hrel
    clear c1 c2 C0 GG GO
    by_cases hlt : k < G.ks.length
    · have hlt2 : k < O.ks.length := by have := D3.out; omega
      have kz : (k : Int) < (G.ks.length : Int) := by omega
      have kz2 : (k : Int) < (O.ks.length : Int) := by omega
      have kz3 : (k : Int) < (G.ws.length : Int) := by have := GL.out; omega
      have kz4 : (k : Int) < (O.ws.length : Int) := by have := OL.out; omega
      obtain ⟨_, x0, x1, x2, x3, y0, y1, y2, y3, _⟩ := K.out
      obtain ⟨r1, r2, r3, r4⟩ := HT.out _ K.out.k k hlt hlt2
      rw [GTA.out] at x3
      rw [OTA.out] at y3
      rw [GWA.out] at x2
      rw [OWA.out] at y2
      have TK := hide (TRK.out k hlt hlt2)
      have pd := PD.out k hlt hlt2
      have HK := hide (HIT.out k hlt)
      have CB : Hid (∀ W, Cx w G O W → W.cell? ⟨w.heap.size, 3, none⟩ = some (.slice (some ⟨gb, gq, none⟩) G.ks.length G.tc) ∧ W.cell? ⟨w.heap.size + 1, 3, none⟩ = some (.slice (some ⟨ob, oq, none⟩) O.ks.length O.tc) ∧ W.cell? ⟨w.heap.size, 0, none⟩ = some (.int .i64 G.f) ∧ W.cell? ⟨gb, gq + k, none⟩ = some (.slice G.ks[k].1 G.ks[k].2.1.length G.ks[k].2.2) ∧ W.cell? ⟨ob, oq + k, none⟩ = some (.slice O.ks[k].1 O.ks[k].2.1.length O.ks[k].2.2)) := fun W hW => by
        have z3 := hW.x3
        have v3 := hW.y3
        rw [GTA.out] at z3
        rw [OTA.out] at v3
        exact ⟨z3, v3, hW.x0, (HT.out W hW.k k hlt hlt2).1, (HT.out W hW.k k hlt hlt2).2.1⟩
      clear TRK PD HT HIT MISS
      generalize hmv : M.movedV G.ks[k].2.1 O.ks[k].2.1 G.f = mv at *
      clear hmv
      generalize G.ws.getD k 0 = wg at *
      generalize O.ws.getD k 0 = wo at *
      generalize G.ks[k].2.1.length = gtn at *
      generalize G.ks[k].2.2 = gtc at *
      generalize G.ks[k].1 = gta1 at *
      generalize O.ks[k].2.1.length = otn at *
      generalize O.ks[k].2.2 = otc at *
      generalize O.ks[k].1 = ota1 at *
      have k0 : (0 : Int) ≤ (k : Int) := by omega
      by_cases hw : wg = wo
      · have s2 : (wg != wo) = false := by rw [bne_eq_false_iff_eq]; exact hw
        rw [decide_eq_true hw] at pd
        have PDH := hide pd
        clear pd hw
        go_upto_region 12 with fail
        go_quiet (fail)
        go_upto_region 14 with fail
        obtain ⟨wd, hwd⟩ : ∃ V, V = wr.drewN nq := ⟨_, rfl⟩
        have K2 : Hid (Cx w G O wd) := by rw [hwd]; exact K.out.up (below_drew (Below.refl _ _) _ (Nat.le_refl _))
        rw [← hwd]
        clear hwd x0 x1 x2 x3 y0 y1 y2 y3 r1 r2 r3 r4 K
        obtain ⟨s1, s3, s4, s5, s6⟩ := CB.out wd K2.out
        go_cut [9, 10] from 61 to 76 (fun _ v wx => v = errV (if mv = 0 then 5 else 0) ∧ Hid (Cx w G O wx))
        case first =>
          have KD := hide (K2.out.up ((Below.refl _ _).drew))
          generalize errV (if mv = 0 then 5 else 0) = ev at *
          go_region_held3 (fun V => V.cell? ⟨w.heap.size, 3, none⟩ = some (.slice (some ⟨gb, gq, none⟩) G.ks.length G.tc) ∧ V.cell? ⟨w.heap.size + 1, 3, none⟩ = some (.slice (some ⟨ob, oq, none⟩) O.ks.length O.tc) ∧ V.cell? ⟨w.heap.size, 0, none⟩ = some (.int .i64 G.f) ∧ V.cell? ⟨gb, gq + k, none⟩ = some (.slice gta1 gtn gtc) ∧ V.cell? ⟨ob, oq + k, none⟩ = some (.slice ota1 otn otc)) (go_keep) ((go_at_call 49; refine (TK.out _ KD.out.k).mono ?_; rintro e w5 ⟨ln, la, lc, rfl, h5⟩; have H5 := hide (KD.out.up h5); obtain ⟨s1, s3, s4, s5, s6⟩ := CB.out w5 H5.out; clear h5))
          all_goals (
            go_wp2
            go_meet
            case rel => exact ⟨rfl, H5⟩)
        case rest =>
          obtain ⟨rfl, K3⟩ := hcut
          clear s1 s3 s4 s5 s6 TK CB K2
          by_cases hm : mv = 0
          · have P := hide (show gP k = false by rw [PDH.out, hm]; rfl)
            rw [if_pos hm, err_some (show (5 : Int) ≠ 0 by decide)]
            clear PDH hm
            go_wp2
            go_roundw
            case rel => exact ⟨k + 1, by omega, by go_num, fun j q => (Nat.lt_succ_iff_lt_or_eq.1 q).elim (HJ.out j) (fun z => by rw [z]; exact P.out), K3⟩
            case measure => simp [intOf]; omega
          · have P := hide (show gP k = true by rw [PDH.out, decide_eq_true (show 0 < mv by omega)]; rfl)
            rw [if_neg hm, err_nil rfl]
            clear PDH hm
            go_wp2
            go_ret2
            exact ⟨FIN.out k 0 (HK.out P.out HJ.out) _ (err_nil rfl).symm, K3.out.k⟩
      · have s2 : (wg != wo) = true := by rw [bne_iff_ne]; exact hw
        rw [decide_eq_false hw] at pd
        have P := hide (show gP k = true by rw [pd]; simp)
        clear pd hw
        go_upto_region 12 with fail
        go_quiet (fail)
        go_wp2
        go_ret2
        exact ⟨FIN.out k 0 (HK.out P.out HJ.out) _ (err_nil rfl).symm, (K.out.up (below_drew (Below.refl _ _) _ (Nat.le_refl _))).k⟩
    · have ek : k = G.ks.length := by omega
      have MI := MISS.out (by rw [← ek]; exact HJ.out)
      clear ek
      go_wp2
      go_ret2
      exact ⟨FIN.out 0 5 MI _ (err_some (by decide)).symm, K.out.k⟩

theorem difgroves_any (hT : DifTreesGives) : DifGrovesGives := by
  intro G O W hg ho
  by_cases h : M.gdF G.m O.m = 0
  · exact difgroves_ok hT G O W hg ho h
  · exact difgroves_bad G O W hg ho h

end Go.Proofs.YtlloiccodjnkcagGreatDoor
