/-
  Several texts as one: BooRest, BooWrong, BTellAll.
-/
import Derived.Test.YtpblpfleiilehafGreatDoorRun21
import Derived.Test.YtpblpfleiilehafGreatDoorRun9
import Derived.Test.YtpblpfleiilehafGreatDoorRun16
import Derived.Test.YtpblpfleiilehafGreatDoorRun25
import Derived.Test.YtpblpfleiilehafGreatDoorRun31
import Derived.Test.YtpblpfleiilehafGreatDoorRefBoost
import Derived.Test.YtpblpfleiilehafGreatDoorRun30
namespace Go.Proofs.YtpblpfleiilehafGreatDoor
open Go.ChangeShapes Go.WideShapes Go.ChangeAt Go.RowKit Go.Lib
set_option linter.unusedVariables false

theorem nil_rd (w : World) : Rd w none [] := ⟨Nat.zero_le _, fun h => absurd rfl h⟩
theorem M.rest_gro {g : M.Gv} {l : List M.Sa} (h : M.groveF g ≠ 0) : M.restF g l = M.groveF g ∧ M.restV g l = [] := by
  have e : M.restF g l = M.groveF g := by unfold M.restF; rw [if_pos h]
  exact ⟨e, by unfold M.restV; rw [if_neg (by rw [e]; exact h)]⟩
theorem M.rest_sam {g : M.Gv} {l : List M.Sa} (h : M.groveF g = 0) (h2 : (M.samF l (M.gf g)).2 ≠ 0) : M.restF g l = (M.samF l (M.gf g)).2 ∧ M.restV g l = [] := by
  have e : M.restF g l = (M.samF l (M.gf g)).2 := by unfold M.restF; rw [if_neg (by simp [h])]
  exact ⟨e, by unfold M.restV; rw [if_neg (by rw [e]; exact h2)]⟩
theorem M.rest_ok {g : M.Gv} {l : List M.Sa} (h : M.groveF g = 0) (h2 : (M.samF l (M.gf g)).2 = 0) : M.restF g l = 0 ∧ M.restV g l = l.map (fun s => s.2 - M.evalG g s.1) := by
  have e : M.restF g l = 0 := by unfold M.restF; rw [if_neg (by simp [h])]; exact h2
  exact ⟨e, by unfold M.restV; rw [if_pos e]⟩

set_option maxHeartbeats 8000000 in
set_option maxRecDepth 10000 in
theorem boorest_any : BooRestGives := by
  intro G a xs ca w hg h
  have C1 := hide (fun W (hW : Below w.heap.size w W) => gcheck_any G W (hg.below hW))
  have C2 := hide (fun W (hW : Below w.heap.size w W) => grochk_any a xs ca G.f W (h.below hW))
  have B0 : Hid (∀ o, Below w.heap.size w (w.alloc o)) := fun o => (Below.refl _ w).alloc (Nat.le_refl _) o
  have hmx : xs.length ≤ 9223372036854775807 := h.1
  have gfe : M.gf G.m = G.f := rfl
  by_cases h1 : M.groveF G.m = 0
  · by_cases h2 : (M.samF (sms xs) G.f).2 = 0
    · obtain ⟨ef, ev⟩ := M.rest_ok (l := sms xs) h1 (by rw [gfe]; exact h2)
      obtain ⟨GS, hl, hm, _⟩ := M.sam_ok h2
      have x60 : xs.length ≤ 60 := by have := GS.le; rw [sms_len] at this; exact this
      have x0 : 0 < xs.length := by rw [sms_len] at hl; exact hl
      have gd := (M.good_iff _).1 h1
      have SD : ∀ k (hk : k < xs.length), M.standF G.m xs[k].2.1 = 0 := fun k hk => by
        have g := GS.each (sm xs[k]) (List.mem_map.2 ⟨_, List.getElem_mem hk, rfl⟩)
        have g2 : xs[k].2.1.length = G.f.toNat := g.2.1
        exact M.stand_of gd g.1 (by rw [gfe]; omega)
      have LL : Hid ((M.restV G.m (sms xs)).length = xs.length) := by unfold Hid; rw [ev, List.length_map, sms_len]
      have LA : Hid (∀ k (hk : k < xs.length), (M.restV G.m (sms xs)).getD k 0 = xs[k].2.2.2 - M.evalG G.m xs[k].2.1) := fun k hk => by
        rw [ev, M.getD_at (by rw [List.length_map, sms_len]; exact hk), List.getElem_map]
        have e : (sms xs)[k]'(by rw [sms_len]; exact hk) = sm xs[k] := by unfold sms; rw [List.getElem_map]
        rw [e]; rfl
      have EC : Hid (∀ k (hk : k < xs.length) W, Below w.heap.size w W → Calls Tryz.prog 46 #[G.v, .slice xs[k].1 xs[k].2.1.length xs[k].2.2.1] W fun e w' => e = .returned (.tuple #[.int .i64 (M.evalG G.m xs[k].2.1), .nilIface]) ∧ Below W.heap.size W w') := fun k hk W hW => by
        have := geval_any G xs[k].1 xs[k].2.1 xs[k].2.2.1 W (hg.below hW) ((h.2.1 _ (List.getElem_mem hk)).below hW)
        rw [SD k hk, err_nil rfl] at this
        exact this
      have EB : Hid (∀ k (hk : k < xs.length), -12000000000 ≤ M.evalG G.m xs[k].2.1 ∧ M.evalG G.m xs[k].2.1 ≤ 12000000000 ∧ -1000 ≤ xs[k].2.2.2 ∧ xs[k].2.2.2 ≤ 1000) := fun k hk => by
        have g := (GS.each (sm xs[k]) (List.mem_map.2 ⟨_, List.getElem_mem hk, rfl⟩)).2.2.1
        exact ⟨(M.evalG_in (SD k hk)).1, (M.evalG_in (SD k hk)).2, g.1, g.2⟩
      have HL := hide h
      obtain ⟨i0, hi, hz0, hz1, hz2⟩ := info_parts info3
      have I0 := hide hi
      rw [ef, err_nil rfl]
      rw [h1, err_nil rfl] at C1
      rw [h2, err_nil rfl] at C2
      have RF : Hid (errV 0 = .nilIface) := err_nil rfl
      rw [LL.out]
      unfold Gr.v at C1 EC ⊢
      clear h hg h1 h2 ef ev GS hl hm gd SD gfe hi
      generalize M.restV G.m (sms xs) = QS at *
      generalize (M.samF (sms xs) G.f).1 = sp at *
      go_enter Tryz.func23, Tryz.ntmps23
      go_upto_region 1 with fail
      obtain ⟨w1, hw1⟩ : ∃ V, V = w.alloc (.cells #[.int .i64 G.f, .int .i64 G.w, .slice G.wa G.ws.length G.wc, .slice G.ta G.ks.length G.tc] 45) := ⟨_, rfl⟩
      rw [← hw1]
      have K1 : Hid (Below w.heap.size w w1) := by unfold Hid; rw [hw1]; exact B0.out _
      have KC : Hid (∀ W, Below w1.heap.size w1 W → W.cell? ⟨w.heap.size, 0, none⟩ = some (.int .i64 G.f) ∧ W.cell? ⟨w.heap.size, 1, none⟩ = some (.int .i64 G.w) ∧ W.cell? ⟨w.heap.size, 2, none⟩ = some (.slice G.wa G.ws.length G.wc) ∧ W.cell? ⟨w.heap.size, 3, none⟩ = some (.slice G.ta G.ks.length G.tc)) := fun W hW => by
        rw [hw1] at hW; exact kept_box hW
      obtain ⟨c0, c1, c2, c3⟩ := KC.out w1 (Below.refl _ _)
      clear hw1 B0
      go_upto_region 8 with (first
        | (go_at_call 45; refine (C1.out _ K1.out).mono ?_; rintro e w2 ⟨rfl, hb2⟩; have J2 := hide hb2; obtain ⟨d0, d1, d2, d3⟩ := KC.out w2 J2.out; clear hb2)
        | (go_at_call 6; refine (C2.out _ (below_on K1.out J2.out)).mono ?_; rintro e w3 ⟨rfl, hb3⟩; have J3 := hide (below_on J2.out hb3); have s3 : Hid (w.heap.size ≤ w3.heap.size) := (below_on K1.out J3.out).size; clear hb3)
        | (at_make; refine wpList_make_full _ rfl (.tmp 30) (.tmp 30) 42 rfl w.heap.size 3 i0 (.int .i64 0) 1 Tryz.underlying42 I0.out hz0 hz1 .i64 .i64 _ _ xs.length rfl rfl (by omega) (by omega) (by rw [hz2]; omega) (by unfold maxLen; omega) s3.out ?_; intro w4 hown hgrow))
      rw [made] at hown
      have J4 : Hid (Below w1.heap.size w1 w4) := J3.out.grown hgrow J3.out.size (fun k hk => by cases hk)
      have HO : Hid (w4.ownsRow w.heap.size 3 1 (.slice (some ⟨w3.heap.size, 0, none⟩) xs.length xs.length) xs.length ((M.fillK QS 0).map (Value.int .i64))) := by
        unfold Hid; rw [M.fillK_zero, LL.out]; exact hown
      have gw : Hid (w1.heap.size ≤ w3.heap.size) := J3.out.size
      clear hown hgrow I0 hz0 hz1 hz2 C1 C2 J2 J3 d0 d1 d2 d3 c0 c1 c2 c3 s3
      generalize w3.heap.size = gg at *
      go_wp2
      go_loopw [34] (fun i wr => ∃ k : Nat, k ≤ xs.length ∧ i = .int .i64 k ∧ Hid (wr.ownsRow w.heap.size 3 1 (.slice (some ⟨gg, 0, none⟩) xs.length xs.length) xs.length ((M.fillK QS k).map (Value.int .i64))) ∧ Hid (Below w1.heap.size w1 wr)) (fun i _ => xs.length - (intOf i).toNat)
      case atStart => exact ⟨0, Nat.zero_le _, rfl, HO, J4⟩
      case round =>
        clear HO J4
        obtain ⟨k, hk, rfl, HO, K⟩ := hrel
        have KW := hide (below_on K1.out K.out)
        by_cases hlt : k < xs.length
        · obtain ⟨b, off, rfl, hb, hc⟩ := (HL.out.below KW.out).2.2 (by intro e; rw [e] at hlt; simp at hlt)
          obtain ⟨c0, c1⟩ := hc k hlt
          unfold sxV at c0
          have kz : (k : Int) < (xs.length : Int) := by omega
          have hkL : k < QS.length := by rw [LL.out]; exact hlt
          have RR := hide (fun W (hW : Below wr.heap.size wr W) => fillK_own hkL (own_keep HO.out hW))
          have CC := hide (fun W (hW : Below wr.heap.size wr W) => fillK_cell hkL LL.out (own_keep HO.out hW))
          have FZ := hide (fun W (hW : Below wr.heap.size wr W) => (own_keep HO.out hW).frozenAt k)
          obtain ⟨v1, v2, v3, v4⟩ := EB.out k hlt
          rw [LA.out k hlt] at RR
          have KB : Hid (∀ W v, Below wr.heap.size wr W → Below w1.heap.size w1 (W.setCell ⟨gg, k, none⟩ v)) := fun W v hW => (below_on K.out hW).setCell (p := ⟨gg, k, none⟩) gw.out v
          have VV := hide (fun W (hW : Below wr.heap.size wr W) => EC.out k hlt W (below_on KW.out hW))
          have KD := hide (fun W (hW : Below wr.heap.size wr W) => KC.out W (below_on K.out hW))
          clear hc HO EC EB LA KC K KW HL
          generalize xs[k].2.2.2 = t at *
          generalize M.evalG G.m xs[k].2.1 = z at *
          generalize xs[k].2.1.length = rl at *
          generalize xs[k].2.2.1 = rcc at *
          generalize xs[k].1 = raa at *
          go_upto_region 11 with fail
          obtain ⟨w5, hw5⟩ : ∃ W, W = wr.alloc (.cells #[.slice raa rl rcc, .int .i64 t] 54) := ⟨_, rfl⟩
          rw [← hw5]
          have B5 : Hid (Below wr.heap.size wr w5) := by unfold Hid; rw [hw5]; exact (Below.refl _ wr).alloc (Nat.le_refl _) _
          have N5 : Hid (∀ W, Below w5.heap.size w5 W → W.cell? ⟨wr.heap.size, 1, none⟩ = some (.int .i64 t)) := fun W hW => (new_kept hw5 hW).1 1 _ rfl
          have y0 : w5.cell? ⟨wr.heap.size, 0, none⟩ = some (.slice raa rl rcc) := (new_kept hw5 (Below.refl _ _)).1 0 _ rfl
          obtain ⟨d0, d1, d2, d3⟩ := KD.out w5 B5.out
          have V5 := hide (VV.out w5 B5.out)
          clear hw5 c0 c1 VV KD
          go_wp2_with (go_at_call 46; refine V5.out.mono ?_; rintro e w6 ⟨rfl, hb6⟩; have y1 := N5.out w6 hb6; have B6 := hide (below_on B5.out hb6); obtain ⟨zz, cc⟩ := CC.out w6 B6.out; have fz := FZ.out w6 B6.out; have R6 := hide (RR.out w6 B6.out); clear hb6)
          go_roundw
          case rel => exact ⟨k + 1, by omega, by go_num, R6, KB.out _ _ B6.out⟩
          case measure => simp [intOf]; omega
        · have ek : k = xs.length := by omega
          have kz : ¬ ((k : Int) < (xs.length : Int)) := by omega
          rw [show M.fillK QS k = QS by rw [ek, ← LL.out]; exact M.fillK_all QS] at HO
          have ho : wr.ownsRow w.heap.size 3 1 (.slice (some ⟨gg, 0, none⟩) QS.length QS.length) QS.length (QS.map (Value.int .i64)) := by rw [LL.out]; exact HO.out
          obtain ⟨pa, pc, hp1, hp2, _⟩ := own_rd ho
          cases hp1
          have HP := hide hp2
          clear LA HO hp2 ek ho EC EB KC
          go_wp2
          go_ret2
          first
            | exact ⟨_, _, rfl, HP.out, KW.out⟩
            | exact ⟨_, ⟨_, rfl⟩, HP.out, KW.out⟩
            | exact ⟨_, HP.out, KW.out⟩
            | exact ⟨_, _, HP.out, KW.out⟩
    · obtain ⟨ef, ev⟩ := M.rest_sam (l := sms xs) h1 (by rw [gfe]; exact h2)
      rw [gfe] at ef
      rw [ef, ev, err_some h2]
      rw [h1, err_nil rfl] at C1
      rw [err_some h2] at C2
      unfold Gr.v at C1 ⊢
      clear h hg h1 h2 ef ev gfe
      generalize (M.samF (sms xs) G.f).1 = sp at *
      generalize (M.samF (sms xs) G.f).2 = sf at *
      go_enter Tryz.func23, Tryz.ntmps23
      go_wp2_with (first
        | (go_at_call 45; refine (C1.out _ (B0.out _)).mono ?_; rintro e w1 ⟨rfl, hb1⟩; have K1 := hide (below_on (B0.out _) hb1); have z0 := (kept_box hb1).1; clear hb1)
        | (go_at_call 6; refine (C2.out _ K1.out).mono ?_; rintro e w2 ⟨rfl, hb2⟩; have K2 := hide (below_on K1.out hb2); clear hb2))
      go_ret2
      exact ⟨none, 0, rfl, nil_rd _, K2.out⟩
  · obtain ⟨ef, ev⟩ := M.rest_gro (l := sms xs) h1
    rw [ef, ev, err_some h1]
    rw [err_some h1] at C1
    unfold Gr.v at C1 ⊢
    clear h hg h1 ef ev gfe C2
    generalize M.groveF G.m = gF at *
    go_enter Tryz.func23, Tryz.ntmps23
    go_wp2_with (go_at_call 45; refine (C1.out _ (B0.out _)).mono ?_; rintro e w1 ⟨rfl, hb1⟩; have K1 := hide (below_on (B0.out _) hb1); clear hb1)
    go_ret2
    exact ⟨none, 0, rfl, nil_rd _, K1.out⟩

end Go.Proofs.YtpblpfleiilehafGreatDoor

namespace Go.Proofs.YtpblpfleiilehafGreatDoor
open Go.ChangeShapes Go.WideShapes Go.ChangeAt Go.RowKit Go.Lib
set_option linter.unusedVariables false

set_option maxHeartbeats 4000000 in
set_option maxRecDepth 10000 in
theorem boowrong_any : BooWrongGives := by
  intro G a xs ca w hg h
  have C1 := hide (fun W (hW : Below w.heap.size w W) => boorest_any G a xs ca W (hg.below hW) (h.below hW))
  have B0 : Hid (∀ o, Below w.heap.size w (w.alloc o)) := fun o => (Below.refl _ w).alloc (Nat.le_refl _) o
  by_cases h1 : M.restF G.m (sms xs) = 0
  · have EW : Hid (M.sqF (M.restV G.m (sms xs)) = M.wrgG G.m (sms xs)) := by unfold Hid M.wrgG; rw [if_pos h1]
    have ln : (M.restV G.m (sms xs)).length ≤ 1000 := by
      unfold M.restV
      rw [if_pos h1, List.length_map]
      have q : (M.samF (sms xs) (M.gf G.m)).2 = 0 := by
        unfold M.restF at h1
        by_cases c : M.groveF G.m = 0
        · rw [if_neg (by simp [c])] at h1; exact h1
        · rw [if_pos c] at h1; exact absurd h1 c
      have := (M.sam_ok q).1.le
      omega
    have SQ := hide (fun W pa pc (hW : Rd W pa (M.restV G.m (sms xs))) => bsq_any pa (M.restV G.m (sms xs)) pc W hW ln)
    rw [h1, err_nil rfl] at C1
    rw [h1, err_nil rfl, ← EW.out]
    unfold Gr.v at C1 ⊢
    clear h hg h1 EW
    generalize M.sqF (M.restV G.m (sms xs)) = q at *
    generalize M.restV G.m (sms xs) = V at *
    go_enter Tryz.func24, Tryz.ntmps24
    go_wp2_with (first
      | (go_at_call 23; refine (C1.out _ (B0.out _)).mono ?_; rintro e w1 ⟨pa, pc, rfl, hr1, hb1⟩; have R1 := hide hr1; have K1 := hide (below_on (B0.out _) hb1); clear hr1 hb1)
      | (go_at_call 47; refine (SQ.out _ pa pc R1.out).mono ?_; rintro e w2 ⟨rfl, hb2⟩; have K2 := hide (below_on K1.out hb2); clear hb2))
    go_ret2
    exact ⟨rfl, K2.out⟩
  · have EW : M.wrgG G.m (sms xs) = 0 := by unfold M.wrgG; rw [if_neg h1]
    have ES := hide (err_some h1)
    rw [err_some h1] at C1
    rw [EW, err_some h1]
    unfold Gr.v at C1 ⊢
    clear h hg h1 EW
    generalize M.restF G.m (sms xs) = f at *
    generalize M.restV G.m (sms xs) = V at *
    go_enter Tryz.func24, Tryz.ntmps24
    go_wp2_with (go_at_call 23; refine (C1.out _ (B0.out _)).mono ?_; rintro e w1 ⟨pa, pc, rfl, hr1, hb1⟩; have K1 := hide (below_on (B0.out _) hb1); clear hr1 hb1)
    go_ret2
    exact ⟨rfl, K1.out⟩

end Go.Proofs.YtpblpfleiilehafGreatDoor

namespace Go.Proofs.YtpblpfleiilehafGreatDoor
open Go.RowKit

theorem btell_all (G : Gr) (a : Option Addr) (xs : List Sx) (ca : Nat) (m r d s : Int) (w : World) (hg : RdG w G) (h : RdL w a xs) (hl : Lays w) :
    Calls Tryz.prog 4 #[.slice a xs.length ca, .int .i64 m, .int .i64 r, .int .i64 d, .int .i64 s, G.v] w fun r w' => r = .returned (.bool true) ∧ RowKit.Below w.heap.size w w' := btells_walk boofit_any boorest_any boowrong_any rboost_any a xs ca m r d s G w h hg hl

end Go.Proofs.YtpblpfleiilehafGreatDoor
