/-
  DifferGroves' own walk: two groves of one shape.
-/
import Derived.Test.YtcaljnhdfbjpnaeDoorDGroves
import Derived.Deep.RegionHeld3
import Derived.BigQuiet
import Derived.Deep.QuietTactic
namespace Go.Proofs.YtcaljnhdfbjpnaeDoor
open Go.ChangeShapes Go.WideShapes Go.ChangeAt Go.RowKit Go.Lib
set_option linter.unusedVariables false

set_option maxHeartbeats 32000000 in
set_option maxRecDepth 10000 in
theorem dg_d (hG : DifGrovesGives) (hM : DifMovedGives) (G O : Gr) (a b : Option Addr) (ts us : List M.Nd) (ca cb : Nat) (m : Int) (w : World) (hg : RdG w G) (ho : RdG w O) (ha : RdN w a ts) (hb : RdN w b us) (hl : Lays w) (h0 : M.groveF G.m = 0) (h1 : M.groveF O.m = 0) (d1 : G.f = O.f) (d2 : G.w = O.w) (d3 : G.ks.length = O.ks.length) :
    Calls Tryd.prog 4 #[G.v, O.v, .slice a ts.length ca, .slice b us.length cb, .int .i64 m] w fun e w' => e = .returned (.bool true) ∧ Below w.heap.size w w' := by
  have hma : ts.length ≤ 9223372036854775807 := ha.1
  have hmb : us.length ≤ 9223372036854775807 := hb.1
  have hmg : G.ks.length ≤ 9223372036854775807 := hg.2.1
  have hmo : O.ks.length ≤ 9223372036854775807 := ho.2.1
  have ER := hide (fun c W (hW : Below w.heap.size w W) => (error_any c c W (hl.below hW)).mono (R' := fun r w' => r = .returned (.bool true) ∧ Below W.heap.size W w') fun r w' h => ⟨by rw [h.1, beq_self_eq_true], h.2⟩)
  have RA := hide (fun W (hW : Below w.heap.size w W) => rtree_any a ts ca m W (ha.below hW))
  have RB := hide (fun W (hW : Below w.heap.size w W) => rtree_any b us cb m W (hb.below hW))
  have GG := hide (fun W (hW : Below w.heap.size w W) => rgrove_any G W (hg.below hW))
  have GO := hide (fun W (hW : Below w.heap.size w W) => rgrove_any O W (ho.below hW))
  have DM := hide (fun W (hW : Below w.heap.size w W) => hM a b ts us ca cb m W (ha.below hW) (hb.below hW))
  have DG := hide (fun W (hW : Below w.heap.size w W) => hG G O W (hg.below hW) (ho.below hW))
  have RM := hide (fun h1 h2 W (hW : Below w.heap.size w W) => rmoved_two a b ts us ca cb m W (ha.below hW) (hb.below hW) h1 h2)
  have F1 : Hid ((M.treeF ts m).2 ≠ 0 → M.difF ts us m = (M.treeF ts m).2 ∧ M.movedV ts us m = 0) := fun h => by
    have q : M.difF ts us m = (M.treeF ts m).2 := by unfold M.difF; rw [if_pos h]
    exact ⟨q, by unfold M.movedV; rw [if_neg (by rw [q]; exact h)]⟩
  have F2 : Hid ((M.treeF ts m).2 = 0 → (M.treeF us m).2 ≠ 0 → M.difF ts us m = (M.treeF us m).2 ∧ M.movedV ts us m = 0) := fun h h2 => by
    have q : M.difF ts us m = (M.treeF us m).2 := by unfold M.difF; rw [if_neg (by simp [h])]
    exact ⟨q, by unfold M.movedV; rw [if_neg (by rw [q]; exact h2)]⟩
  have F3 : Hid ((M.treeF ts m).2 = 0 → (M.treeF us m).2 = 0 → M.difF ts us m = 0) := fun h h2 => M.dif_of h h2
  have C0 := hide (Cx.new w G O)
  have KG := (M.good_iff G.m).1 h0
  have KO := (M.good_iff O.m).1 h1
  have gl : G.ws.length = G.ks.length := KG.len.trans (tl_len G.ks)
  have ol : O.ws.length = O.ks.length := KO.len.trans (tl_len O.ks)
  have g0 : 0 < G.ks.length := by have := KG.t0; rw [show (M.gt G.m).length = G.ks.length from tl_len G.ks] at this; exact this
  have gd0 : M.gdF G.m O.m = 0 := M.gd_of KG KO d1 d2 (by show (tl G.ks).length = (tl O.ks).length; rw [tl_len, tl_len, d3])
  have tG : ∀ k (hk : k < G.ks.length), (M.treeF G.ks[k].2.1 G.f).2 = 0 := fun k hk => KG.trees G.ks[k].2.1 (List.mem_map.2 ⟨_, List.getElem_mem hk, rfl⟩)
  have tO : ∀ k (hk : k < O.ks.length), (M.treeF O.ks[k].2.1 G.f).2 = 0 := fun k hk => by rw [d1]; exact KO.trees O.ks[k].2.1 (List.mem_map.2 ⟨_, List.getElem_mem hk, rfl⟩)
  have MVK : Hid (∀ k (hk : k < G.ks.length) (hk2 : k < O.ks.length) W, Below w.heap.size w W → Calls Tryd.prog 12 #[.slice G.ks[k].1 G.ks[k].2.1.length G.ks[k].2.2, .slice O.ks[k].1 O.ks[k].2.1.length O.ks[k].2.2, .int .i64 G.f] W fun e w' => e = .returned (.int .i64 (M.movedV G.ks[k].2.1 O.ks[k].2.1 G.f : Nat)) ∧ Below W.heap.size W w') := fun k hk hk2 W hW =>
    rmoved_two _ _ _ _ _ _ _ W ((hg.below hW).2.2.1 _ (List.getElem_mem hk)) ((ho.below hW).2.2.1 _ (List.getElem_mem hk2)) (tG k hk) (tO k hk2)
  have PD : Hid (∀ k (hk : k < G.ks.length) (hk2 : k < O.ks.length), M.gdP G.m O.m k = (decide (0 < M.movedV G.ks[k].2.1 O.ks[k].2.1 G.f) || !decide (G.ws.getD k 0 = O.ws.getD k 0))) := fun k hk hk2 => by
    unfold M.gdP
    rw [show (M.gt G.m).getD k [] = G.ks[k].2.1 from tl_at G.ks hk, show (M.gt O.m).getD k [] = O.ks[k].2.1 from tl_at O.ks hk2]
    rfl
  have HIT : Hid (∀ p, p < G.ks.length → M.gdP G.m O.m p = true → (∀ j, j < p → M.gdP G.m O.m j = false) → M.difGF G.m O.m = 0 ∧ M.difGV G.m O.m = p) := fun p hp h2 h3 => M.gd_hit gd0 (by show p < (tl G.ks).length; rw [tl_len]; exact hp) h2 h3
  have MISS : Hid ((∀ j, j < G.ks.length → M.gdP G.m O.m j = false) → M.difGF G.m O.m = 5 ∧ M.difGV G.m O.m = 0) := fun h => M.gd_miss gd0 (fun j hj => h j (by rw [← tl_len G.ks]; exact hj))
  obtain ⟨gb, gq, gta, hgb, hgc⟩ := hg.2.2.2 (by intro e; rw [e] at g0; simp at g0)
  obtain ⟨ob, oq, ota, hob, hoc⟩ := ho.2.2.2 (by intro e; rw [e] at d3; rw [d3] at g0; simp at g0)
  obtain ⟨xb, xq, gwa, hxb, hxc⟩ := hg.1.2 (by intro e; rw [e] at gl; simp at gl; omega)
  obtain ⟨yb, yq, owa, hyb, hyc⟩ := ho.1.2 (by intro e; rw [e] at ol; simp at ol; omega)
  have HT : Hid (∀ W, Below w.heap.size w W → ∀ k (hk : k < G.ks.length) (hk2 : k < O.ks.length), W.cell? ⟨gb, gq + k, none⟩ = some (.slice G.ks[k].1 G.ks[k].2.1.length G.ks[k].2.2) ∧ W.cell? ⟨ob, oq + k, none⟩ = some (.slice O.ks[k].1 O.ks[k].2.1.length O.ks[k].2.2) ∧ W.cell? ⟨xb, xq + k, none⟩ = some (.int .i64 (G.ws.getD k 0)) ∧ W.cell? ⟨yb, yq + k, none⟩ = some (.int .i64 (O.ws.getD k 0))) := fun W hW k hk hk2 =>
    ⟨(hW.cell (p := ⟨gb, gq + k, none⟩) hgb).trans (hgc k hk), (hW.cell (p := ⟨ob, oq + k, none⟩) hob).trans (hoc k hk2), (hW.cell (p := ⟨xb, xq + k, none⟩) hxb).trans (hxc k (by omega)), (hW.cell (p := ⟨yb, yq + k, none⟩) hyb).trans (hyc k (by omega))⟩
  have GTA := hide gta
  have OTA := hide ota
  have GWA := hide gwa
  have OWA := hide owa
  rw [h0] at GG
  rw [h1] at GO
  have t1 : (G.f != O.f) = false := by rw [bne_eq_false_iff_eq]; exact d1
  have t2 : (G.w != O.w) = false := by rw [bne_eq_false_iff_eq]; exact d2
  have t3 : ((G.ks.length : Int) != (O.ks.length : Int)) = false := by rw [bne_eq_false_iff_eq]; omega
  clear hg ho ha hb hl hG hM h0 h1 KG KO gd0 tG tO hgc hoc hxc hyc gta ota gwa owa hgb hob hxb hyb d1 d2
  have D3 := hide d3
  have GL := hide gl
  have OL := hide ol
  clear d3 gl ol
  generalize (M.treeF ts m).2 = ea at *
  generalize (M.treeF us m).2 = eb at *
  generalize (M.treeF ts m).1 = na at *
  generalize (M.treeF us m).1 = nb at *
  generalize M.difF ts us m = dF at *
  generalize M.movedV ts us m = mV at *
  generalize M.difGF G.m O.m = gF at *
  generalize M.difGV G.m O.m = gV at *
  generalize M.gdP G.m O.m = gP at *
  unfold Gr.v at GG GO DG ⊢
  go_enter Tryd.func4, Tryd.ntmps4
  go_wp2_with (first
    | (go_at_call 11; have lean := c1; refine (GO.out _ c1.out.k).mono ?_; rintro e w2 ⟨rfl, h⟩; have c2 := hide (c1.out.up h); obtain ⟨_, x0, x1, x2, x3, y0, y1, y2, y3, _⟩ := c2.out; clear h)
    | (go_at_call 11; refine (GG.out _ C0.out.k).mono ?_; rintro e w1 ⟨rfl, h⟩; have c1 := hide (C0.out.up h); obtain ⟨_, x0, x1, x2, x3, y0, y1, y2, y3, _⟩ := c1.out; clear h))
  clear x0 x1 x2 x3 y0 y1 y2 y3 t1 t2
  go_loopw [11, 12, 13, 14] (fun e at' i _ wr => ∃ (k : Nat) (c : Int) (p : Nat), k ≤ G.ks.length ∧ i = .int .i64 k ∧ e = .int .i64 c ∧ at' = .int .i64 p ∧ Hid ((c = 5 ∧ p = 0 ∧ ∀ j, j < k → gP j = false) ∨ (c = 0 ∧ p < G.ks.length ∧ gP p = true ∧ ∀ j, j < p → gP j = false)) ∧ Hid (Cx w G O wr)) (fun _ _ i _ _ => G.ks.length - (intOf i).toNat)
  case atStart => exact ⟨0, 5, 0, Nat.zero_le _, rfl, rfl, rfl, .inl ⟨rfl, rfl, fun j hj => absurd hj (Nat.not_lt_zero _)⟩, c2⟩
  case round =>
    obtain ⟨k, c, p, hk, rfl, rfl, rfl, HC, K⟩ := hrel
    clear c1 c2 C0
    rcases HC.out with ⟨rfl, rfl, hj⟩ | ⟨rfl, hp, hq, hj⟩
    · have HJ := hide hj
      clear hj HC
      by_cases hlt : k < G.ks.length
      · have hlt2 : k < O.ks.length := by have := D3.out; omega
        have kz : (k : Int) < (G.ks.length : Int) := by omega
        have kz1 : decide ((k : Int) < (G.ks.length : Int)) = true := decide_eq_true kz
        have kz2 : (k : Int) < (O.ks.length : Int) := by omega
        have kz3 : (k : Int) < (G.ws.length : Int) := by have := GL.out; omega
        have kz4 : (k : Int) < (O.ws.length : Int) := by have := OL.out; omega
        obtain ⟨_, x0, x1, x2, x3, y0, y1, y2, y3, _⟩ := K.out
        obtain ⟨r1, r2, r3, r4⟩ := HT.out _ K.out.k k hlt hlt2
        have R34 := hide (fun W (hW : Below w.heap.size w W) => (HT.out W hW k hlt hlt2).2.2)
        have CB0 : Hid (∀ W, Cx w G O W → W.cell? ⟨w.heap.size, 3, none⟩ = some (.slice (some ⟨gb, gq, none⟩) G.ks.length G.tc) ∧ W.cell? ⟨w.heap.size + 1, 3, none⟩ = some (.slice (some ⟨ob, oq, none⟩) O.ks.length O.tc) ∧ W.cell? ⟨w.heap.size, 0, none⟩ = some (.int .i64 G.f) ∧ W.cell? ⟨gb, gq + k, none⟩ = some (.slice G.ks[k].1 G.ks[k].2.1.length G.ks[k].2.2) ∧ W.cell? ⟨ob, oq + k, none⟩ = some (.slice O.ks[k].1 O.ks[k].2.1.length O.ks[k].2.2)) := fun W hW => by
          have z3 := hW.x3
          have v3 := hW.y3
          rw [GTA.out] at z3
          rw [OTA.out] at v3
          exact ⟨z3, v3, hW.x0, (HT.out W hW.k k hlt hlt2).1, (HT.out W hW.k k hlt hlt2).2.1⟩
        have CB := CB0
        clear CB0
        rw [GTA.out] at x3
        rw [OTA.out] at y3
        have MV1 := hide (MVK.out k hlt hlt2)
        have pd := PD.out k hlt hlt2
        clear MVK PD HT HIT MISS ER RA RB GG GO DM DG RM F1 F2 F3 r3 r4
        have pz : decide (0 < M.movedV G.ks[k].2.1 O.ks[k].2.1 G.f) = decide ((0 : Int) < ((M.movedV G.ks[k].2.1 O.ks[k].2.1 G.f : Nat) : Int)) := by rw [Bool.eq_iff_iff, decide_eq_true_eq, decide_eq_true_eq]; omega
        rw [pz] at pd
        clear pz
        generalize ((M.movedV G.ks[k].2.1 O.ks[k].2.1 G.f : Nat) : Int) = mv at *
        generalize G.ws.getD k 0 = wg at *
        generalize O.ws.getD k 0 = wo at *
        generalize G.ks[k].2.1.length = gtn at *
        generalize G.ks[k].2.2 = gtc at *
        generalize G.ks[k].1 = gta1 at *
        generalize O.ks[k].2.1.length = otn at *
        generalize O.ks[k].2.2 = otc at *
        generalize O.ks[k].1 = ota1 at *
        have k0 : (0 : Int) ≤ (k : Int) := by omega
        go_upto_region 12 with fail
        go_cut [14] from 65 to 77 (fun v wx => v = .int .i64 mv ∧ Hid (Cx w G O wx))
        case first =>
          have KD := hide (K.out.up ((Below.refl _ _).drew))
          clear pd R34
          go_region_held3 (fun V => V.cell? ⟨w.heap.size, 3, none⟩ = some (.slice (some ⟨gb, gq, none⟩) G.ks.length G.tc) ∧ V.cell? ⟨w.heap.size + 1, 3, none⟩ = some (.slice (some ⟨ob, oq, none⟩) O.ks.length O.tc) ∧ V.cell? ⟨w.heap.size, 0, none⟩ = some (.int .i64 G.f) ∧ V.cell? ⟨gb, gq + k, none⟩ = some (.slice gta1 gtn gtc) ∧ V.cell? ⟨ob, oq + k, none⟩ = some (.slice ota1 otn otc)) (go_keep) ((go_at_call 12; refine (MV1.out _ KD.out.k).mono ?_; rintro e w5 ⟨rfl, h5⟩; have H5 := hide (KD.out.up h5); obtain ⟨s1, s2, s3, s4, s5⟩ := CB.out w5 H5.out; clear h5))
          all_goals (
            go_wp2
            go_meet
            case rel => exact ⟨rfl, H5⟩)
        case rest =>
          obtain ⟨rfl, K2⟩ := hcut
          clear x0 x1 x2 x3 y0 y1 y2 y3 r1 r2 K MV1
          obtain ⟨_, x0, x1, x2, x3, y0, y1, y2, y3, _⟩ := K2.out
          obtain ⟨r3, r4⟩ := R34.out _ K2.out.k
          rw [GWA.out] at x2
          rw [OWA.out] at y2
          have KN := hide (fun q => K2.out.up (below_drew (Below.refl _ _) q (Nat.le_refl _)))
          clear R34
          by_cases hm : 0 < mv
          · have s1 : decide ((0 : Int) < mv) = true := decide_eq_true hm
            have P := hide (show gP k = true by rw [pd, decide_eq_true hm]; rfl)
            clear pd hm
            go_upto_region 13 with fail
            go_quiet (fail)
            go_wp2
            go_roundw
            case rel => exact ⟨k + 1, 0, k, by omega, by go_num, rfl, rfl, .inr ⟨rfl, hlt, P.out, HJ.out⟩, KN.out _⟩
            case measure => simp [intOf]; omega
          · have s1 : decide ((0 : Int) < mv) = false := decide_eq_false hm
            by_cases hw : wg = wo
            · have s2 : (wg != wo) = false := by rw [bne_eq_false_iff_eq]; exact hw
              have P := hide (show gP k = false by rw [pd, decide_eq_false hm, decide_eq_true hw]; rfl)
              clear pd hm hw
              go_upto_region 13 with fail
              go_quiet (fail)
              go_wp2
              go_roundw
              case rel => exact ⟨k + 1, 5, 0, by omega, by go_num, rfl, rfl, .inl ⟨rfl, rfl, fun j q => (Nat.lt_succ_iff_lt_or_eq.1 q).elim (HJ.out j) (fun z => by rw [z]; exact P.out)⟩, KN.out _⟩
              case measure => simp [intOf]; omega
            · have s2 : (wg != wo) = true := by rw [bne_iff_ne]; exact hw
              have P := hide (show gP k = true by rw [pd, decide_eq_false hm, decide_eq_false hw]; rfl)
              clear pd hm hw
              go_upto_region 13 with fail
              go_quiet (fail)
              go_wp2
              go_roundw
              case rel => exact ⟨k + 1, 0, k, by omega, by go_num, rfl, rfl, .inr ⟨rfl, hlt, P.out, HJ.out⟩, KN.out _⟩
              case measure => simp [intOf]; omega
      · have ke : k = G.ks.length := by omega
        have kz1 : decide ((k : Int) < (G.ks.length : Int)) = false := decide_eq_false (by omega)
        obtain ⟨q1, q2⟩ := MISS.out (fun j q => HJ.out j (by omega))
        rw [q1, q2] at DG
        clear MVK PD HT HIT MISS HJ q1 q2 ke
        have E1 := hide (ER.out (5))
        obtain ⟨_, x0, x1, x2, x3, y0, y1, y2, y3, _⟩ := K.out
        go_upto_region 18 with (first
          | (go_at_call 8; refine (E1.out _ j1.out.k).mono ?_; rintro e v2 ⟨rfl, h⟩; have j2 := hide (below_on j1.out.k h); clear h)
          | (go_at_call 13; refine (DG.out _ K.out.k).mono ?_; rintro e v1 ⟨rfl, h⟩; have j1 := hide (K.out.up h); clear h))
        clear x0 x1 x2 x3 y0 y1 y2 y3 DG E1 GG GO
        by_cases ta : ea = 0
        · by_cases tb : eb = 0
          · have d := F3.out ta tb
            have RM1 := hide (RM.out ta tb)
            subst d ta tb
            have E2 := hide (ER.out 0)
            clear F1 F2 F3 RM ER
            go_wp2_with (first
              | (go_at_call 8; refine (E2.out _ j6.out).mono ?_; rintro e v7 ⟨rfl, h⟩; have j7 := hide (below_on j6.out h); clear h)
              | (go_at_call 14; refine (DM.out _ j5.out).mono ?_; rintro e v6 ⟨rfl, h⟩; have j6 := hide (below_on j5.out h); clear h)
              | (go_at_call 12; refine (RM1.out _ j4.out).mono ?_; rintro e v5 ⟨rfl, h⟩; have j5 := hide (below_on j4.out h); clear h)
              | (go_at_call 7; have lean := j3; refine (RB.out _ j3.out).mono ?_; rintro e v4 ⟨rfl, h⟩; have j4 := hide (below_on j3.out h); clear h)
              | (go_at_call 7; refine (RA.out _ j2.out).mono ?_; rintro e v3 ⟨rfl, h⟩; have j3 := hide (below_on j2.out h); clear h))
            go_ret
            exact ⟨rfl, j7.out⟩
          · have d := F2.out ta tb
            have t1 : (eb == 0) = false := by rw [beq_eq_false_iff_ne]; exact tb
            obtain ⟨d1, d2⟩ := d
            subst d1 d2 ta
            have E2 := hide (ER.out dF)
            clear F1 F2 F3 RM ER tb
            go_wp2_with (first
              | (go_at_call 8; refine (E2.out _ j6.out).mono ?_; rintro e v7 ⟨rfl, h⟩; have j7 := hide (below_on j6.out h); clear h)
              | (go_at_call 14; refine (DM.out _ j4.out).mono ?_; rintro e v6 ⟨rfl, h⟩; have j6 := hide (below_on j4.out h); clear h)
              | (go_at_call 7; have lean := j3; refine (RB.out _ j3.out).mono ?_; rintro e v4 ⟨rfl, h⟩; have j4 := hide (below_on j3.out h); clear h)
              | (go_at_call 7; refine (RA.out _ j2.out).mono ?_; rintro e v3 ⟨rfl, h⟩; have j3 := hide (below_on j2.out h); clear h))
            go_ret
            exact ⟨rfl, j7.out⟩
        · have d := F1.out ta
          have t1 : (ea == 0) = false := by rw [beq_eq_false_iff_ne]; exact ta
          obtain ⟨d1, d2⟩ := d
          subst d1 d2
          have E2 := hide (ER.out dF)
          clear F1 F2 F3 RM ER ta
          go_wp2_with (first
            | (go_at_call 8; refine (E2.out _ j6.out).mono ?_; rintro e v7 ⟨rfl, h⟩; have j7 := hide (below_on j6.out h); clear h)
            | (go_at_call 14; refine (DM.out _ j3.out).mono ?_; rintro e v6 ⟨rfl, h⟩; have j6 := hide (below_on j3.out h); clear h)
            | (go_at_call 7; refine (RA.out _ j2.out).mono ?_; rintro e v3 ⟨rfl, h⟩; have j3 := hide (below_on j2.out h); clear h))
          go_ret
          exact ⟨rfl, j7.out⟩
    · obtain ⟨q1, q2⟩ := HIT.out p hp hq hj
      rw [q1, q2] at DG
      clear MVK PD HT HIT MISS HC hj hq q1 q2
      by_cases hlt : k < G.ks.length
      · have kz1 : decide ((k : Int) < (G.ks.length : Int)) = true := decide_eq_true (by omega)
        have E1 := hide (ER.out (0))
        obtain ⟨_, x0, x1, x2, x3, y0, y1, y2, y3, _⟩ := K.out
        go_upto_region 18 with (first
          | (go_at_call 8; refine (E1.out _ j1.out.k).mono ?_; rintro e v2 ⟨rfl, h⟩; have j2 := hide (below_on j1.out.k h); clear h)
          | (go_at_call 13; refine (DG.out _ K.out.k).mono ?_; rintro e v1 ⟨rfl, h⟩; have j1 := hide (K.out.up h); clear h))
        clear x0 x1 x2 x3 y0 y1 y2 y3 DG E1 GG GO
        by_cases ta : ea = 0
        · by_cases tb : eb = 0
          · have d := F3.out ta tb
            have RM1 := hide (RM.out ta tb)
            subst d ta tb
            have E2 := hide (ER.out 0)
            clear F1 F2 F3 RM ER
            go_wp2_with (first
              | (go_at_call 8; refine (E2.out _ j6.out).mono ?_; rintro e v7 ⟨rfl, h⟩; have j7 := hide (below_on j6.out h); clear h)
              | (go_at_call 14; refine (DM.out _ j5.out).mono ?_; rintro e v6 ⟨rfl, h⟩; have j6 := hide (below_on j5.out h); clear h)
              | (go_at_call 12; refine (RM1.out _ j4.out).mono ?_; rintro e v5 ⟨rfl, h⟩; have j5 := hide (below_on j4.out h); clear h)
              | (go_at_call 7; have lean := j3; refine (RB.out _ j3.out).mono ?_; rintro e v4 ⟨rfl, h⟩; have j4 := hide (below_on j3.out h); clear h)
              | (go_at_call 7; refine (RA.out _ j2.out).mono ?_; rintro e v3 ⟨rfl, h⟩; have j3 := hide (below_on j2.out h); clear h))
            go_ret
            exact ⟨rfl, j7.out⟩
          · have d := F2.out ta tb
            have t1 : (eb == 0) = false := by rw [beq_eq_false_iff_ne]; exact tb
            obtain ⟨d1, d2⟩ := d
            subst d1 d2 ta
            have E2 := hide (ER.out dF)
            clear F1 F2 F3 RM ER tb
            go_wp2_with (first
              | (go_at_call 8; refine (E2.out _ j6.out).mono ?_; rintro e v7 ⟨rfl, h⟩; have j7 := hide (below_on j6.out h); clear h)
              | (go_at_call 14; refine (DM.out _ j4.out).mono ?_; rintro e v6 ⟨rfl, h⟩; have j6 := hide (below_on j4.out h); clear h)
              | (go_at_call 7; have lean := j3; refine (RB.out _ j3.out).mono ?_; rintro e v4 ⟨rfl, h⟩; have j4 := hide (below_on j3.out h); clear h)
              | (go_at_call 7; refine (RA.out _ j2.out).mono ?_; rintro e v3 ⟨rfl, h⟩; have j3 := hide (below_on j2.out h); clear h))
            go_ret
            exact ⟨rfl, j7.out⟩
        · have d := F1.out ta
          have t1 : (ea == 0) = false := by rw [beq_eq_false_iff_ne]; exact ta
          obtain ⟨d1, d2⟩ := d
          subst d1 d2
          have E2 := hide (ER.out dF)
          clear F1 F2 F3 RM ER ta
          go_wp2_with (first
            | (go_at_call 8; refine (E2.out _ j6.out).mono ?_; rintro e v7 ⟨rfl, h⟩; have j7 := hide (below_on j6.out h); clear h)
            | (go_at_call 14; refine (DM.out _ j3.out).mono ?_; rintro e v6 ⟨rfl, h⟩; have j6 := hide (below_on j3.out h); clear h)
            | (go_at_call 7; refine (RA.out _ j2.out).mono ?_; rintro e v3 ⟨rfl, h⟩; have j3 := hide (below_on j2.out h); clear h))
          go_ret
          exact ⟨rfl, j7.out⟩
      · have kz1 : decide ((k : Int) < (G.ks.length : Int)) = false := decide_eq_false (by omega)
        have E1 := hide (ER.out (0))
        obtain ⟨_, x0, x1, x2, x3, y0, y1, y2, y3, _⟩ := K.out
        go_upto_region 18 with (first
          | (go_at_call 8; refine (E1.out _ j1.out.k).mono ?_; rintro e v2 ⟨rfl, h⟩; have j2 := hide (below_on j1.out.k h); clear h)
          | (go_at_call 13; refine (DG.out _ K.out.k).mono ?_; rintro e v1 ⟨rfl, h⟩; have j1 := hide (K.out.up h); clear h))
        clear x0 x1 x2 x3 y0 y1 y2 y3 DG E1 GG GO
        by_cases ta : ea = 0
        · by_cases tb : eb = 0
          · have d := F3.out ta tb
            have RM1 := hide (RM.out ta tb)
            subst d ta tb
            have E2 := hide (ER.out 0)
            clear F1 F2 F3 RM ER
            go_wp2_with (first
              | (go_at_call 8; refine (E2.out _ j6.out).mono ?_; rintro e v7 ⟨rfl, h⟩; have j7 := hide (below_on j6.out h); clear h)
              | (go_at_call 14; refine (DM.out _ j5.out).mono ?_; rintro e v6 ⟨rfl, h⟩; have j6 := hide (below_on j5.out h); clear h)
              | (go_at_call 12; refine (RM1.out _ j4.out).mono ?_; rintro e v5 ⟨rfl, h⟩; have j5 := hide (below_on j4.out h); clear h)
              | (go_at_call 7; have lean := j3; refine (RB.out _ j3.out).mono ?_; rintro e v4 ⟨rfl, h⟩; have j4 := hide (below_on j3.out h); clear h)
              | (go_at_call 7; refine (RA.out _ j2.out).mono ?_; rintro e v3 ⟨rfl, h⟩; have j3 := hide (below_on j2.out h); clear h))
            go_ret
            exact ⟨rfl, j7.out⟩
          · have d := F2.out ta tb
            have t1 : (eb == 0) = false := by rw [beq_eq_false_iff_ne]; exact tb
            obtain ⟨d1, d2⟩ := d
            subst d1 d2 ta
            have E2 := hide (ER.out dF)
            clear F1 F2 F3 RM ER tb
            go_wp2_with (first
              | (go_at_call 8; refine (E2.out _ j6.out).mono ?_; rintro e v7 ⟨rfl, h⟩; have j7 := hide (below_on j6.out h); clear h)
              | (go_at_call 14; refine (DM.out _ j4.out).mono ?_; rintro e v6 ⟨rfl, h⟩; have j6 := hide (below_on j4.out h); clear h)
              | (go_at_call 7; have lean := j3; refine (RB.out _ j3.out).mono ?_; rintro e v4 ⟨rfl, h⟩; have j4 := hide (below_on j3.out h); clear h)
              | (go_at_call 7; refine (RA.out _ j2.out).mono ?_; rintro e v3 ⟨rfl, h⟩; have j3 := hide (below_on j2.out h); clear h))
            go_ret
            exact ⟨rfl, j7.out⟩
        · have d := F1.out ta
          have t1 : (ea == 0) = false := by rw [beq_eq_false_iff_ne]; exact ta
          obtain ⟨d1, d2⟩ := d
          subst d1 d2
          have E2 := hide (ER.out dF)
          clear F1 F2 F3 RM ER ta
          go_wp2_with (first
            | (go_at_call 8; refine (E2.out _ j6.out).mono ?_; rintro e v7 ⟨rfl, h⟩; have j7 := hide (below_on j6.out h); clear h)
            | (go_at_call 14; refine (DM.out _ j3.out).mono ?_; rintro e v6 ⟨rfl, h⟩; have j6 := hide (below_on j3.out h); clear h)
            | (go_at_call 7; refine (RA.out _ j2.out).mono ?_; rintro e v3 ⟨rfl, h⟩; have j3 := hide (below_on j2.out h); clear h))
          go_ret
          exact ⟨rfl, j7.out⟩

theorem dgroves_walk (hG : DifGrovesGives) (hM : DifMovedGives) (G O : Gr) (a b : Option Addr) (ts us : List M.Nd) (ca cb : Nat) (m : Int) (w : World) (hg : RdG w G) (ho : RdG w O) (ha : RdN w a ts) (hb : RdN w b us) (hl : Lays w) :
    Calls Tryd.prog 4 #[G.v, O.v, .slice a ts.length ca, .slice b us.length cb, .int .i64 m] w fun e w' => e = .returned (.bool true) ∧ Below w.heap.size w w' := by
  by_cases h0 : M.groveF G.m = 0
  · by_cases h1 : M.groveF O.m = 0
    · by_cases d : G.f = O.f ∧ G.w = O.w ∧ G.ks.length = O.ks.length
      · exact dg_d hG hM G O a b ts us ca cb m w hg ho ha hb hl h0 h1 d.1 d.2.1 d.2.2
      · refine dg_c hG hM G O a b ts us ca cb m w hg ho ha hb hl h0 h1 ?_
        by_cases e1 : G.f = O.f
        · by_cases e2 : G.w = O.w
          · exact .inr (.inr (fun e3 => d ⟨e1, e2, e3⟩))
          · exact .inr (.inl e2)
        · exact .inl e1
    · exact dg_b hG hM G O a b ts us ca cb m w hg ho ha hb hl h0 h1
  · exact dg_a hG hM G O a b ts us ca cb m w hg ho ha hb hl h0

end Go.Proofs.YtcaljnhdfbjpnaeDoor
