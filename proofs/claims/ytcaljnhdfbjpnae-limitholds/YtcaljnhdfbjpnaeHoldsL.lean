/-
  LimitHolds' own walk, with what the packages answer as premises.
-/
import Derived.Test.YtcaljnhdfbjpnaeStepsWalk
import Derived.Test.YtcaljnhdfbjpnaeLimPJ
namespace Go.Proofs.Ytcaljnhdfbjpnae
open Go.ChangeShapes Go.WideShapes Go.ChangeAt Go.RowKit Go.Lib
set_option linter.unusedVariables false

def FitsGives : Prop := ∀ (a b : Option Addr) (xs : List Int) (ss : List M.Sp) (ca cb : Nat) (w : World), Rd w a xs → RdS w b ss → Calls Try.prog 9 #[.slice a xs.length ca, .slice b ss.length cb] w fun e w' => e = .returned (.tuple #[.bool (M.fitV xs ss), errV (M.fitF xs ss)]) ∧ Below w.heap.size w w'
def GEvalGives : Prop := ∀ (G : Gr) (b : Option Addr) (xs : List Int) (cb : Nat) (W : World), RdG W G → Rd W b xs → Calls Try.prog 11 #[G.v, .slice b xs.length cb] W fun e w' => e = .returned (.tuple #[.int .i64 (M.evalG G.m xs), errV (M.standF G.m xs)]) ∧ Below W.heap.size W w'

theorem M.ex_lim : M.limF M.exT [(5, 6, false)] = 0 ∧ M.limLo M.exT [(5, 6, false)] = 9 ∧ M.limHi M.exT [(5, 6, false)] = 9 := by decide +kernel
abbrev exSp : Obj := .cells #[.int .i64 5, .int .i64 6, .bool false] 35
theorem ex_span (w : World) : RdS (w.alloc exSp) (some ⟨w.heap.size, 0, none⟩) [(5, 6, false)] := by
  refine ⟨by show 1 ≤ maxLen; unfold maxLen; decide, fun _ => ⟨w.heap.size, 0, rfl, by simp, fun i hi => ?_⟩⟩
  have hi' : i < 1 := hi
  obtain rfl : i = 0 := by omega
  exact ⟨World.cell?_alloc_at _ _ _ 0 rfl, World.cell?_alloc_at _ _ _ 1 rfl, World.cell?_alloc_at _ _ _ 2 rfl⟩
theorem ex_limit (hT : LimTreeGives) (w : World) : Calls Try.prog 6 #[.slice (some ⟨w.heap.size, 0, none⟩) 3 3, .slice (some ⟨w.heap.size + 1, 0, none⟩) 1 1] ((w.alloc exObj).alloc exSp) fun e w' =>
    e = .returned (.tuple #[.int .i64 9, .int .i64 9, .nilIface]) ∧ Below w.heap.size w w' := by
  have r1 := ex_span (w.alloc exObj)
  rw [show (w.alloc exObj).heap.size = w.heap.size + 1 by simp] at r1
  have h := hT (some ⟨w.heap.size, 0, none⟩) (some ⟨w.heap.size + 1, 0, none⟩) M.exT [(5, 6, false)] 3 1 _ ((ex_rdn w).below ((Below.refl _ _).alloc (Nat.le_refl _) _)) r1
  rw [M.ex_lim.2.1, M.ex_lim.2.2, err_nil M.ex_lim.1] at h
  refine h.mono ?_
  rintro e w' ⟨rfl, hb⟩
  exact ⟨rfl, below_on (((Below.refl _ w).alloc (Nat.le_refl _) _).alloc (by simp) _) hb⟩
theorem kept_box' {w W : World} {a0 a1 a2 a3 : Value} {t : TypeId} (h : Below (w.alloc (.cells #[a0, a1, a2, a3] t)).heap.size (w.alloc (.cells #[a0, a1, a2, a3] t)) W) :
    W.cell? ⟨w.heap.size, 0, none⟩ = some a0 ∧ W.cell? ⟨w.heap.size, 1, none⟩ = some a1 ∧ W.cell? ⟨w.heap.size, 2, none⟩ = some a2 ∧ W.cell? ⟨w.heap.size, 3, none⟩ = some a3 :=
  ⟨(h.cell (p := ⟨w.heap.size, 0, none⟩) (by simp)).trans (World.cell?_alloc_at _ _ _ 0 rfl), (h.cell (p := ⟨w.heap.size, 1, none⟩) (by simp)).trans (World.cell?_alloc_at _ _ _ 1 rfl), (h.cell (p := ⟨w.heap.size, 2, none⟩) (by simp)).trans (World.cell?_alloc_at _ _ _ 2 rfl), (h.cell (p := ⟨w.heap.size, 3, none⟩) (by simp)).trans (World.cell?_alloc_at _ _ _ 3 rfl)⟩

set_option maxHeartbeats 32000000 in
set_option maxRecDepth 10000 in
theorem holds_walk (hT : LimTreeGives) (hR : LimRowsGives) (hG : LimGroveGives) (hE : TEvalGives) (hF : FitsGives) (hV : GEvalGives) (G : Gr) (a bl b : Option Addr) (ts : List M.Nd) (ss : List M.Sp) (xs : List Int) (ca cl cb : Nat) (w : World) (hg : RdG w G) (ht : RdN w a ts) (hs : RdS w bl ss) (hr : Rd w b xs) :
    Calls Try.prog 3 #[.slice a ts.length ca, G.v, .slice bl ss.length cl, .slice b xs.length cb] w fun e w' => e = .returned (.bool true) ∧ Below w.heap.size w w' := by
  have hm : ts.length ≤ 9223372036854775807 := ht.1
  have hm2 : xs.length ≤ 9223372036854775807 := hr.1
  have hm3 : ss.length ≤ 9223372036854775807 := hs.1
  have C1 := hide (fun W (hW : Below w.heap.size w W) => hT a bl ts ss ca cl W (ht.below hW) (hs.below hW))
  have CR := hide (fun W (hW : Below w.heap.size w W) => hR a bl ts ss ca cl W (ht.below hW) (hs.below hW))
  have CF := hide (fun W (hW : Below w.heap.size w W) => hF b bl xs ss cb cl W (hr.below hW) (hs.below hW))
  have CE := hide (fun W (hW : Below w.heap.size w W) => hE a b ts xs ca cb W (ht.below hW) (hr.below hW))
  have CG := hide (fun W (hW : Below w.heap.size w W) => hG G bl ss cl W (hg.below hW) (hs.below hW))
  have CV := hide (fun W (hW : Below w.heap.size w W) => hV G b xs cb W (hg.below hW) (hr.below hW))
  unfold Gr.v at CG CV ⊢
  obtain ⟨wb, hwb⟩ : ∃ W, W = w.alloc (.cells #[.int .i64 G.f, .int .i64 G.w, .slice G.wa G.ws.length G.wc, .slice G.ta G.ks.length G.tc] 26) := ⟨_, rfl⟩
  have BB : Hid (Below w.heap.size w wb) := by rw [hwb]; exact (Below.refl _ w).alloc (Nat.le_refl _) _
  have BX : Hid (∀ W, Below wb.heap.size wb W → Below w.heap.size w W ∧ W.cell? ⟨w.heap.size, 0, none⟩ = some (.int .i64 G.f) ∧ W.cell? ⟨w.heap.size, 1, none⟩ = some (.int .i64 G.w) ∧ W.cell? ⟨w.heap.size, 2, none⟩ = some (.slice G.wa G.ws.length G.wc) ∧ W.cell? ⟨w.heap.size, 3, none⟩ = some (.slice G.ta G.ks.length G.tc)) := fun W hW => ⟨below_on BB.out hW, by rw [hwb] at hW; exact kept_box' hW⟩
  have E1 := hide (ex_limit hT wb)
  by_cases he : M.limF ts ss = 0
  · have LL := M.lim_least he
    have LM := M.lim_most he
    have EA : Hid (∀ pa pc W, Below w.heap.size w W → Rd W pa (M.limA ts ss) → Calls Try.prog 8 #[.slice a ts.length ca, .slice pa (M.limA ts ss).length pc] W fun e w' => e = .returned (.tuple #[.int .i64 (M.limLo ts ss), .nilIface]) ∧ Below W.heap.size W w') := fun pa pc W hW h => by
      have := hE a pa ts (M.limA ts ss) ca pc W (ht.below hW) h
      rw [LL.2.1, err_nil LL.1] at this
      exact this
    have EB : Hid (∀ pa pc W, Below w.heap.size w W → Rd W pa (M.limB ts ss) → Calls Try.prog 8 #[.slice a ts.length ca, .slice pa (M.limB ts ss).length pc] W fun e w' => e = .returned (.tuple #[.int .i64 (M.limHi ts ss), .nilIface]) ∧ Below W.heap.size W w') := fun pa pc W hW h => by
      have := hE a pa ts (M.limB ts ss) ca pc W (ht.below hW) h
      rw [LM.2.1, err_nil LM.1] at this
      exact this
    have FA : Hid (∀ pa pc W, Below w.heap.size w W → Rd W pa (M.limA ts ss) → Calls Try.prog 9 #[.slice pa (M.limA ts ss).length pc, .slice bl ss.length cl] W fun e w' => e = .returned (.tuple #[.bool true, .nilIface]) ∧ Below W.heap.size W w') := fun pa pc W hW h => by
      have := hF pa bl (M.limA ts ss) ss pc cl W h (hs.below hW)
      rw [LL.2.2.2, err_nil LL.2.2.1] at this
      exact this
    have FB : Hid (∀ pa pc W, Below w.heap.size w W → Rd W pa (M.limB ts ss) → Calls Try.prog 9 #[.slice pa (M.limB ts ss).length pc, .slice bl ss.length cl] W fun e w' => e = .returned (.tuple #[.bool true, .nilIface]) ∧ Below W.heap.size W w') := fun pa pc W hW h => by
      have := hF pa bl (M.limB ts ss) ss pc cl W h (hs.below hW)
      rw [LM.2.2.2, err_nil LM.2.2.1] at this
      exact this
    have BT : Hid (M.fitF xs ss = 0 → M.fitV xs ss = true → M.readyF ts xs = 0 ∧ M.limLo ts ss ≤ M.evalV ts xs ∧ M.evalV ts xs ≤ M.limHi ts ss) := fun h1 h2 => M.lim_between he h1 h2
    have BG : Hid (M.limGF G.m ss = 0 → M.fitF xs ss = 0 → M.fitV xs ss = true → M.standF G.m xs = 0 ∧ (M.limGV G.m ss).1 ≤ M.evalG G.m xs ∧ M.evalG G.m xs ≤ (M.limGV G.m ss).2) := fun h0 h1 h2 => M.lim_grove h0 h1 h2
    rw [err_nil he] at C1 CR
    clear LL LM he ht hr hs hg hT hR hG hE hF hV
    generalize M.limA ts ss = LA at *
    generalize M.limB ts ss = LB at *
    generalize M.limLo ts ss = lo at *
    generalize M.limHi ts ss = hi at *
    generalize M.evalV ts xs = ev at *
    generalize M.readyF ts xs = rf at *
    generalize M.fitF xs ss = ff at *
    generalize M.fitV xs ss = fv at *
    generalize M.limGF G.m ss = gf at *
    generalize M.limGV G.m ss = gv at *
    generalize M.evalG G.m xs = eg at *
    generalize M.standF G.m xs = sf at *
    go_enter Try.func3, Try.ntmps3
    go_upto_region 1 with fail
    rw [← hwb]
    clear hwb
    go_upto_region 15 with (first
      | (go_at_call 9; have lean := k6; refine (FB.out _ _ _ (BX.out _ k6).1 HB6.out).mono ?_; rintro e w7 ⟨rfl, h7⟩; have k7 := below_on k6 h7; clear h7)
      | (go_at_call 9; refine (FA.out _ _ _ (BX.out _ k5).1 HA5.out).mono ?_; rintro e w6 ⟨rfl, h6⟩; have k6 := below_on k5 h6; have HB6 := hide (HB5.out.below h6); clear h6)
      | (go_at_call 8; have lean := k4; refine (EB.out _ _ _ (BX.out _ k4).1 HB4.out).mono ?_; rintro e w5 ⟨rfl, h5⟩; have k5 := below_on k4 h5; have HA5 := hide (HA4.out.below h5); have HB5 := hide (HB4.out.below h5); clear h5)
      | (go_at_call 8; refine (EA.out _ _ _ (BX.out _ k3).1 HA3.out).mono ?_; rintro e w4 ⟨rfl, h4⟩; have k4 := below_on k3 h4; have HA4 := hide (HA3.out.below h4); have HB4 := hide (HB3.out.below h4); clear h4)
      | (go_at_call 7; refine (CR.out _ (BX.out _ k2).1).mono ?_; rintro e w3 ⟨pa, pc, qa, qc, rfl, hp3, hq3, h3⟩; have k3 := below_on k2 h3; have HA3 := hide hp3; have HB3 := hide hq3; clear hp3 hq3 h3)
      | (go_at_call 6; refine (C1.out _ (BX.out _ k1).1).mono ?_; rintro e w2 ⟨rfl, h2⟩; have k2 := below_on k1 h2; clear h2)
      | (go_at_call 6; refine E1.out.mono ?_; rintro e w1 ⟨rfl, k1⟩))
    have K7 := hide k7
    clear k1 k2 k3 k4 k5 k6 k7 HA3 HA4 HA5 HB3 HB4 HB5 HB6 EA EB FA FB E1 C1 CR lean
    by_cases hff : ff = 0
    · rw [err_nil hff] at CF
      cases fv with
      | false =>
        clear BT BG hff
        go_wp2_with (go_at_call 9; refine (CF.out _ (BX.out _ K7.out).1).mono ?_; rintro e w8 ⟨rfl, h8⟩; have k8 := hide (below_on K7.out h8))
        go_ret
        exact ⟨rfl, (BX.out _ k8.out).1⟩
      | true =>
        obtain ⟨b1, b2, b3⟩ := BT.out hff rfl
        rw [err_nil b1] at CE
        have t1 : ¬ (ev < lo) := by omega
        have t2 : ¬ (hi < ev) := by omega
        by_cases hgf : gf = 0
        · obtain ⟨d1, d2, d3⟩ := BG.out hgf hff rfl
          rw [err_nil hgf] at CG
          rw [err_nil d1] at CV
          have u1 : decide (gv.1 ≤ eg) = true := decide_eq_true d2
          have u2 : decide (eg ≤ gv.2) = true := decide_eq_true d3
          clear BT BG hff hgf b1 b2 b3 d1 d2 d3
          go_wp2_with (first
            | (go_at_call 11; refine (CV.out _ (BX.out _ k10.out).1).mono ?_; rintro e w11 ⟨rfl, h11⟩; have k11 := hide (below_on k10.out h11))
            | (go_at_call 10; refine (CG.out _ (BX.out _ k9.out).1).mono ?_; rintro e w10 ⟨rfl, h10⟩; have k10 := hide (below_on k9.out h10); obtain ⟨_, y0, y1, y2, y3⟩ := BX.out _ k10.out)
            | (go_at_call 8; refine (CE.out _ (BX.out _ k8.out).1).mono ?_; rintro e w9 ⟨rfl, h9⟩; have k9 := hide (below_on k8.out h9); obtain ⟨_, z0, z1, z2, z3⟩ := BX.out _ k9.out)
            | (go_at_call 9; refine (CF.out _ (BX.out _ K7.out).1).mono ?_; rintro e w8 ⟨rfl, h8⟩; have k8 := hide (below_on K7.out h8)))
          go_ret
          exact ⟨rfl, (BX.out _ k11.out).1⟩
        · rw [err_some hgf] at CG
          clear BT BG hff hgf b1 b2 b3
          go_wp2_with (first
            | (go_at_call 10; refine (CG.out _ (BX.out _ k9.out).1).mono ?_; rintro e w10 ⟨rfl, h10⟩; have k10 := hide (below_on k9.out h10))
            | (go_at_call 8; refine (CE.out _ (BX.out _ k8.out).1).mono ?_; rintro e w9 ⟨rfl, h9⟩; have k9 := hide (below_on k8.out h9); obtain ⟨_, z0, z1, z2, z3⟩ := BX.out _ k9.out)
            | (go_at_call 9; refine (CF.out _ (BX.out _ K7.out).1).mono ?_; rintro e w8 ⟨rfl, h8⟩; have k8 := hide (below_on K7.out h8)))
          go_ret
          exact ⟨rfl, (BX.out _ k10.out).1⟩
    · rw [err_some hff] at CF
      clear BT BG hff
      go_wp2_with (go_at_call 9; refine (CF.out _ (BX.out _ K7.out).1).mono ?_; rintro e w8 ⟨rfl, h8⟩; have k8 := hide (below_on K7.out h8))
      go_ret
      exact ⟨rfl, (BX.out _ k8.out).1⟩
  · rw [err_some he] at C1
    clear he ht hr hs hg hT hR hG hE hF hV
    generalize M.limF ts ss = te at *
    generalize M.limLo ts ss = lo at *
    generalize M.limHi ts ss = hi at *
    go_enter Try.func3, Try.ntmps3
    go_upto_region 1 with fail
    rw [← hwb]
    clear hwb
    go_wp2_with (first
      | (go_at_call 6; refine (C1.out _ (BX.out _ k1).1).mono ?_; rintro e w2 ⟨rfl, h2⟩; have k2 := below_on k1 h2; clear h2)
      | (go_at_call 6; refine E1.out.mono ?_; rintro e w1 ⟨rfl, k1⟩))
    go_ret
    exact ⟨rfl, (BX.out _ k2).1⟩

end Go.Proofs.Ytcaljnhdfbjpnae
