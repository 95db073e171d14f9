/-
  GrowShifts' own walk, with what package grow answers as premises.
-/
import Derived.Test.YthbeoaninipadafTwoX
import Derived.Test.YthbeoaninipadafSaCells
import Derived.Test.YthbeoaninipadafSMath
import Derived.Deep.AppendLies
import Derived.Deep.Cut
import Derived.Deep.CutRange
import Derived.Deep.RegionLaw
import Derived.RegionTactic
import Derived.OwnWalk
namespace Go.Proofs.Ythbeoaninipadaf
open Go.ChangeShapes Go.WideShapes Go.ChangeAt Go.RowKit Go.Lib
set_option linter.unusedVariables false

theorem wrap_in8 (x : Int) (h1 : -9223372036854775808 ≤ x) (h2 : x ≤ 9223372036854775807) : IntKind.i64.wrap x = x := by
  simp [IntKind.wrap, IntKind.bits, IntKind.signed]
  split <;> omega
def shX (b : Int) (x : Sx) : Sx := (x.1, x.2.1, x.2.2.1, x.2.2.2 + b)
theorem shX_sms (b : Int) (xs : List Sx) : sms (xs.map (shX b)) = M.shiftL b (sms xs) := by
  unfold sms M.shiftL
  rw [List.map_map, List.map_map]
  rfl
theorem shX_more (b : Int) (xs : List Sx) {k : Nat} (hk : k < xs.length) : (xs.take (k + 1)).map (shX b) = (xs.take k).map (shX b) ++ [shX b xs[k]] := by
  rw [List.take_succ_eq_append_getElem hk, List.map_append]; rfl

set_option maxHeartbeats 16000000 in
set_option maxRecDepth 10000 in
theorem shifts_walk (hF : GroFitGives) (hK : GroCheckGives) (a : Option Addr) (xs : List Sx) (ca : Nat) (m d l b : Int) (w : World) (h : RdL w a xs) :
    Calls Try.prog 4 #[.slice a xs.length ca, .int .i64 m, .int .i64 d, .int .i64 l, .int .i64 b] w fun e w' => e = .returned (.bool true) ∧ Below w.heap.size w w' := by
  have F0 := hide (fun (n : Nat) (W : World) (h : RdL W (some ⟨n + 1 + 1, 0, none⟩) (twoX n)) => hF (some ⟨n + 1 + 1, 0, none⟩) (twoX n) 2 1 1 1 W h)
  have es : ∀ n, sms (twoX n) = [([1], 5), ([2], 9)] := fun n => rfl
  simp only [es, M.two_fit1.1, M.two_fit1.2] at F0
  rw [err_nil rfl] at F0
  have R0 := hide (two_rd w 3 25)
  have B3 : Hid (∀ o1 o2 o3, Below w.heap.size w (((w.alloc o1).alloc o2).alloc o3)) := fun o1 o2 o3 => (((Below.refl _ w).alloc (Nat.le_refl _) o1).alloc (by simp) o2).alloc (by simp; omega) o3
  have C5 : Hid (∀ W pa, RdN W pa [(0, 2, 1, 2, false, 0), (-1, 0, 0, 0, false, 5), (-1, 0, 0, 0, false, 9)] → ∃ pb po, pa = some ⟨pb, po, none⟩ ∧ W.cell? ⟨pb, po + 6 + 5, none⟩ = some (.int .i64 5)) := fun W pa hp => by
    obtain ⟨pb, po, e, _, hc⟩ := hp.2 (by simp)
    exact ⟨pb, po, e, (hc 1 (by simp)).2.2.2.2.2⟩
  have F1 := hide (fun W (hW : Below w.heap.size w W) => hF a xs ca m d l W (h.below hW))
  have HL := hide h
  by_cases hg : M.grwF (sms xs) m d l = 0
  · obtain ⟨g1, g2⟩ := M.shift_fit b hg
    rw [err_nil hg] at F1
    have l60 : xs.length ≤ 60 := by have := (M.sam_ok (M.grw_ok hg).1).1.le; rw [sms_len] at this; exact this
    have tg : ∀ x ∈ xs, -1000 ≤ x.2.2.2 ∧ x.2.2.2 ≤ 1000 := fun x hx => ((M.sam_ok (M.grw_ok hg).1).1.each (sm x) (List.mem_map.2 ⟨x, hx, rfl⟩)).2.2.1
    have t63 := (M.grw_tree hg).2.2
    have tin := M.grw_in hg
    by_cases hb : b < -2000 ∨ 2000 < b
    · by_cases hb1 : b < -2000
      · have t1 : decide (b < -2000) = true := decide_eq_true hb1
        clear h hF hK es hg g1 g2 hb hb1 tg tin HL
        generalize M.grwT (sms xs) m d l = T at *
        go_enter Try.func4, Try.ntmps4
        go_upto_region 3 with (go_at_call 6; refine (F0.out w.heap.size _ R0.out).mono ?_; rintro e w1 ⟨pa, pc, rfl, hr, hb⟩; have k1 := hide (below_on (B3.out _ _ _) hb); obtain ⟨pb, po, rfl, hc5⟩ := C5.out _ _ hr; clear hr hb)
        go_wp2_with (go_at_call 6; refine (F1.out _ k1.out).mono ?_; rintro e w2 ⟨ta, tc, rfl, hr, hb⟩; have k2 := hide (below_on k1.out hb); clear hr hb)
        go_ret
        exact ⟨rfl, k2.out⟩
      · have t1 : decide (b < -2000) = false := decide_eq_false hb1
        have t2 : decide (2000 < b) = true := decide_eq_true (by omega)
        clear h hF hK es hg g1 g2 hb hb1 tg tin HL
        generalize M.grwT (sms xs) m d l = T at *
        go_enter Try.func4, Try.ntmps4
        go_upto_region 3 with (go_at_call 6; refine (F0.out w.heap.size _ R0.out).mono ?_; rintro e w1 ⟨pa, pc, rfl, hr, hb⟩; have k1 := hide (below_on (B3.out _ _ _) hb); obtain ⟨pb, po, rfl, hc5⟩ := C5.out _ _ hr; clear hr hb)
        go_wp2_with (go_at_call 6; refine (F1.out _ k1.out).mono ?_; rintro e w2 ⟨ta, tc, rfl, hr, hb⟩; have k2 := hide (below_on k1.out hb); clear hr hb)
        go_ret
        exact ⟨rfl, k2.out⟩
    · have t1 : decide (b < -2000) = false := decide_eq_false (by omega)
      have t2 : decide (2000 < b) = false := decide_eq_false (by omega)
      have b0 : -2000 ≤ b := by omega
      have b1 : b ≤ 2000 := by omega
      obtain ⟨i0, hi, hz0, hz1, hz2⟩ := info_parts infoSam
      have I0 := hide hi
      have ML : Hid ((xs.map (shX b)).length = xs.length) := List.length_map _
      have F2 := hide (fun ma mc W (hm : RdL W ma (xs.map (shX b))) => hF ma (xs.map (shX b)) mc m d l W hm)
      have C2 := hide (fun ma mc W (hm : RdL W ma (xs.map (shX b))) => hK ma (xs.map (shX b)) mc m W hm)
      rw [shX_sms, ML.out] at F2 C2
      have SM : Hid (∀ k (hk : k < xs.length), saCells ((xs.take (k + 1)).map (shX b)) = saCells ((xs.take k).map (shX b)) ++ [.slice xs[k].1 xs[k].2.1.length xs[k].2.2.1, .int .i64 (xs[k].2.2.2 + b)]) := fun k hk => by
        rw [shX_more b xs hk, saCells_snoc]; rfl
      have SA : Hid ((xs.take xs.length).map (shX b) = xs.map (shX b)) := by unfold Hid; rw [List.take_length]
      have TG := hide tg
      have TI := hide tin
      have MR : Hid (∀ W, Below w.heap.size w W → ∀ x ∈ xs.map (shX b), Rd W x.1 x.2.1) := fun W hW x hx => by
        obtain ⟨y, hy, rfl⟩ := List.mem_map.1 hx
        exact ((HL.out.below hW).2.1 y hy)
      have G1 := hide g1
      have G2 := hide g2
      have SN : Hid (∀ (T : List M.Nd) k, k < T.length → M.nAt (T.map (M.shN b)) k = M.shN b (M.nAt T k)) := fun T k hk => M.shN_at b hk
      clear h hF hK es hg g1 g2 hb tg tin hi
      generalize M.grwT (sms xs) m d l = T at *
      go_enter Try.func4, Try.ntmps4
      go_upto_region 3 with (go_at_call 6; refine (F0.out w.heap.size _ R0.out).mono ?_; rintro e w1 ⟨pa, pc, rfl, hr, hb⟩; have k1 := hide (below_on (B3.out _ _ _) hb); obtain ⟨pb, po, rfl, hc5⟩ := C5.out _ _ hr; clear hr hb)
      go_wp2_with (go_at_call 6; refine (F1.out _ k1.out).mono ?_; rintro e w2 ⟨ta, tc, rfl, hr, hb⟩; have k2 := hide (below_on k1.out hb); have RT := hide hr; clear hr hb)
      clear t1 t2 hc5 F0 F1 R0 B3 C5
      go_loopw [16, 17] (fun v i wr => ∃ k : Nat, k ≤ xs.length ∧ i = .int .i64 k ∧ Hid (wr.ownsRow w2.heap.size 25 2 v k (saCells ((xs.take k).map (shX b)))) ∧ Hid (Below w2.heap.size w2 wr)) (fun _ i _ => xs.length - (intOf i).toNat)
      case atStart => exact ⟨0, Nat.zero_le _, rfl, World.ownsRow_nil _ _ _ _, Below.refl _ _⟩
      case round =>
        obtain ⟨k, hk, rfl, HO, K⟩ := hrel
        obtain ⟨va, vc, rfl⟩ := own_any HO.out
        by_cases hlt : k < xs.length
        · obtain ⟨bl, ol, rfl, hbl, hcl⟩ := (HL.out.below (below_on k2.out K.out)).2.2 (by intro e; rw [e] at hlt; simp at hlt)
          obtain ⟨q0, q1⟩ := hcl k hlt
          obtain ⟨u0, u1⟩ := TG.out xs[k] (List.getElem_mem hlt)
          have sm1 := hide (SM.out k hlt)
          have kz : (k : Int) < (xs.length : Int) := by omega
          have w0 := K.out.size
          unfold sxV at q0
          clear hcl SM TG TI SA MR G1 G2 SN F2 C2 RT
          generalize xs[k].2.2.2 = t at *
          generalize xs[k].2.1.length = rl at *
          generalize xs[k].2.2.1 = rc at *
          generalize xs[k].1 = ra at *
          go_upto_region 12 with fail
          have bl2 : bl < wr.heap.size := hbl
          have z0 : ∀ o, (wr.alloc o).cell? ⟨bl, ol + k * 2, none⟩ = some (.slice ra rl rc) := fun o => (((Below.refl wr.heap.size wr).alloc (Nat.le_refl _) o).cell (p := ⟨bl, ol + k * 2, none⟩) bl2).trans q0
          have z1 : ∀ o, (wr.alloc o).cell? ⟨bl, ol + k * 2 + 1, none⟩ = some (.int .i64 t) := fun o => (((Below.refl wr.heap.size wr).alloc (Nat.le_refl _) o).cell (p := ⟨bl, ol + k * 2 + 1, none⟩) bl2).trans q1
          have wb : IntKind.i64.wrap (t + b) = t + b := wrap_in8 _ (by omega) (by omega)
          go_region_law (refine step_append_lies _ rfl (.tmp 72) (.tmp 86) 22 rfl w2.heap.size 25 i0 (.agg #[.slice none 0 0, .int .i64 0]) 2 32 Try.underlying22 I0.out hz0 hz1 hz2 rfl (by omega) (.slice va k vc) k (saCells ((xs.take k).map (shX b))) rfl (by first | exact HO.out.alloc _ | exact HO.out.drew.alloc _ | exact (HO.out.alloc _).drew) ⟨wr.heap.size, 0, none⟩ 1 1 [.slice ra rl rc, .int .i64 (t + b)] rfl rfl (World.news_of_block (by first | exact heap_alloc_new _ _ | (simp; done))) (by simp [Value.oneCell']) (by omega) (by unfold maxLen; omega) (by omega) (by simp; omega) (wr.heap.size + 1) (by simp) ?_; intro g7 c7 w7 hov7 hgrow7 hat7 hlt7)
          all_goals (
            have O7 : Hid (w7.ownsRow w2.heap.size 25 2 (.slice (some ⟨g7, 0, none⟩) (k + 1) c7) (k + 1) (saCells ((xs.take (k + 1)).map (shX b)))) := by unfold Hid; rw [sm1.out]; exact hov7
            have B7 : Hid (Below w2.heap.size w2 w7) := by first | exact ((K.out.alloc w0 _).drew).grown hgrow7 (by simp; omega) (fun k hk => (HO.out.lt k hk).1) | exact ((K.out.drew).alloc w0 _).grown hgrow7 (by simp; omega) (fun k hk => (HO.out.lt k hk).1)
            clear hov7 hgrow7 hat7
            go_wp2
            go_roundw
            case rel => exact ⟨k + 1, by omega, by go_num, O7, B7⟩
            case measure => simp [intOf]; omega)
        · have ke : k = xs.length := by omega
          have ho := HO.out
          rw [ke, SA.out] at ho
          obtain ⟨ma, mc, ev, hrl⟩ := own_rdL ML.out (by unfold maxLen; omega) ho (MR.out _ (below_on k2.out K.out))
          have k3 := hide (below_on k2.out K.out)
          have RM := hide hrl
          have RT3 := hide (RT.out.below K.out)
          rw [Value.slice.injEq] at ev
          obtain ⟨e1, _, e2⟩ := ev
          subst e1
          subst e2
          subst ke
          clear ho HO SM SA MR TG RT hrl K k1 k2 hlt hk HL
          by_cases hs : M.grwF (M.shiftL b (sms xs)) m d l = 0
          · have gt := G2.out hs
            rw [err_nil hs, gt, List.length_map] at F2
            have RT4 := RT3
            clear G1 G2 gt C2 ML
            generalize M.grwF (M.shiftL b (sms xs)) m d l = gs at *
            go_wp2_with (go_at_call 6; refine (F2.out _ _ _ RM.out).mono ?_; rintro e w3 ⟨sa, sc, rfl, hr, hb⟩; have k4 := hide (below_on k3.out hb); have RS := hide hr; have RT5 := hide (RT4.out.below hb); clear hr hb)
            clear RT3 RT4 RM F2 k3 hs
            go_loopw [22] (fun i wq => ∃ k : Nat, k ≤ T.length ∧ i = .int .i64 k ∧ Hid (Below w3.heap.size w3 wq)) (fun i _ => T.length - (intOf i).toNat)
            case atStart => exact ⟨0, Nat.zero_le _, rfl, Below.refl _ _⟩
            case round =>
              obtain ⟨k, hk, rfl, K⟩ := hrel
              by_cases hlt : k < T.length
              · have kz : (k : Int) < (T.length : Int) := by omega
                obtain ⟨b1, o1, rfl, h1, hc1⟩ := (RT5.out.below K.out).2 (by intro e; rw [e] at hlt; simp at hlt)
                obtain ⟨b2, o2, rfl, h2, hc2⟩ := (RS.out.below K.out).2 (by intro e; have := congrArg List.length e; simp at this; rw [this] at hlt; simp at hlt)
                obtain ⟨s0, s1, s2, s3, s4, s5⟩ := hc1 k hlt
                have hu := hc2 k (by simpa using hlt)
                rw [SN.out T k hlt] at hu
                have b2l : b2 < wr.heap.size := h2
                have b1l : b1 < wr.heap.size := h1
                by_cases hf : M.nf (M.nAt T k) = -1
                · obtain ⟨v0, v1⟩ := TI.out k hlt hf
                  unfold M.shN at hu
                  rw [if_pos hf] at hu
                  obtain ⟨u0, u1, u2, u3, u4, u5⟩ := hu
                  change wr.cell? _ = some (.int .i64 (M.nf (M.nAt T k))) at u0
                  change wr.cell? _ = some (.int .i64 (M.nc (M.nAt T k))) at u1
                  change wr.cell? _ = some (.int .i64 (M.nl (M.nAt T k))) at u2
                  change wr.cell? _ = some (.int .i64 (M.nr (M.nAt T k))) at u3
                  change wr.cell? _ = some (.bool (M.ns (M.nAt T k))) at u4
                  change wr.cell? _ = some (.int .i64 (M.nv (M.nAt T k) + b)) at u5
                  clear hc1 hc2 RT5 RS SN TI
                  rw [hf] at s0 u0
                  clear hf
                  generalize M.nc (M.nAt T k) = c at *
                  generalize M.nl (M.nAt T k) = lf at *
                  generalize M.nr (M.nAt T k) = rg at *
                  generalize M.ns (M.nAt T k) = sl at *
                  generalize M.nv (M.nAt T k) = v at *
                  go_upto_region 25 with fail
                  have ba : ∀ o, Below wr.heap.size wr (wr.alloc o) := fun o => (Below.refl wr.heap.size wr).alloc (Nat.le_refl _) o
                  have z0 : ∀ o, (wr.alloc o).cell? _ = _ := fun o => ((ba o).cell b2l).trans u0
                  have z1 : ∀ o, (wr.alloc o).cell? _ = _ := fun o => ((ba o).cell b2l).trans u1
                  have z2 : ∀ o, (wr.alloc o).cell? _ = _ := fun o => ((ba o).cell b2l).trans u2
                  have z3 : ∀ o, (wr.alloc o).cell? _ = _ := fun o => ((ba o).cell b2l).trans u3
                  have z4 : ∀ o, (wr.alloc o).cell? _ = _ := fun o => ((ba o).cell b2l).trans u4
                  have z5 : ∀ o, (wr.alloc o).cell? _ = _ := fun o => ((ba o).cell b2l).trans u5
                  have BA := hide ba
                  clear ba u0 u1 u2 u3 u4 u5 s0 s1 s2 s3 s4 s5
                  go_cut [134] from 129 to 134 (fun t wx => t = .bool false ∧ Hid (Below wr.heap.size wr wx))
                  case first =>
                    go_region
                    all_goals go_wp2
                    all_goals go_meet
                    all_goals (case rel => exact ⟨by simp, (BA.out _).drew⟩)
                  case rest =>
                    obtain ⟨rfl, K6⟩ := hcut
                    have K7 := hide (below_on K.out K6.out)
                    go_wp2
                    go_roundw
                    case rel => exact ⟨k + 1, by omega, by go_num, K7⟩
                    case measure => simp [intOf]; omega
                · unfold M.shN at hu
                  rw [if_neg hf] at hu
                  obtain ⟨u0, u1, u2, u3, u4, u5⟩ := hu
                  have fz : (M.nf (M.nAt T k) == -1) = false := by simpa using hf
                  clear hc1 hc2 RT5 RS SN TI
                  generalize M.nf (M.nAt T k) = f at *
                  generalize M.nc (M.nAt T k) = c at *
                  generalize M.nl (M.nAt T k) = lf at *
                  generalize M.nr (M.nAt T k) = rg at *
                  generalize M.ns (M.nAt T k) = sl at *
                  generalize M.nv (M.nAt T k) = v at *
                  go_upto_region 25 with fail
                  have ba : ∀ o, Below wr.heap.size wr (wr.alloc o) := fun o => (Below.refl wr.heap.size wr).alloc (Nat.le_refl _) o
                  have z0 : ∀ o, (wr.alloc o).cell? _ = _ := fun o => ((ba o).cell b2l).trans u0
                  have z1 : ∀ o, (wr.alloc o).cell? _ = _ := fun o => ((ba o).cell b2l).trans u1
                  have z2 : ∀ o, (wr.alloc o).cell? _ = _ := fun o => ((ba o).cell b2l).trans u2
                  have z3 : ∀ o, (wr.alloc o).cell? _ = _ := fun o => ((ba o).cell b2l).trans u3
                  have z4 : ∀ o, (wr.alloc o).cell? _ = _ := fun o => ((ba o).cell b2l).trans u4
                  have z5 : ∀ o, (wr.alloc o).cell? _ = _ := fun o => ((ba o).cell b2l).trans u5
                  have BA := hide ba
                  clear ba u0 u1 u2 u3 u4 u5 s0 s1 s2 s3 s4 s5
                  go_cut [134] from 129 to 134 (fun t wx => t = .bool false ∧ Hid (Below wr.heap.size wr wx))
                  case first =>
                    go_region
                    all_goals go_wp2
                    all_goals go_meet
                    all_goals (case rel => exact ⟨by simp, (BA.out _).drew⟩)
                  case rest =>
                    obtain ⟨rfl, K6⟩ := hcut
                    have K7 := hide (below_on K.out K6.out)
                    go_wp2
                    go_roundw
                    case rel => exact ⟨k + 1, by omega, by go_num, K7⟩
                    case measure => simp [intOf]; omega
              · have kz : ¬ ((k : Int) < (T.length : Int)) := by omega
                have k6 := hide (below_on k4.out K.out)
                clear RS RT5 SN TI
                go_wp2
                go_ret
                exact ⟨rfl, k6.out⟩
          · have gc := G1.out hs
            rw [err_some hs] at F2
            rw [err_some gc] at C2
            clear G1 G2 ML RT3 SN TI
            generalize (M.grwT (M.shiftL b (sms xs)) m d l).length = tl at *
            generalize M.grwF (M.shiftL b (sms xs)) m d l = gs at *
            go_wp2_with (first
              | (go_at_call 6; refine (F2.out _ _ _ RM.out).mono ?_; rintro e w3 ⟨sa, sc, rfl, hr, hb⟩; have k4 := hide (below_on k3.out hb); have RM4 := hide (RM.out.below hb); clear hr hb)
              | (go_at_call 13; refine (C2.out _ _ _ RM4.out).mono ?_; rintro e w4 ⟨rfl, hb⟩; have k5 := hide (below_on k4.out hb); clear hb))
            go_ret
            exact ⟨by simp, k5.out⟩
  · rw [err_some hg] at F1
    clear h hF hK es hg HL
    generalize M.grwT (sms xs) m d l = T at *
    generalize M.grwF (sms xs) m d l = gf at *
    go_enter Try.func4, Try.ntmps4
    go_upto_region 3 with (go_at_call 6; refine (F0.out w.heap.size _ R0.out).mono ?_; rintro e w1 ⟨pa, pc, rfl, hr, hb⟩; have k1 := hide (below_on (B3.out _ _ _) hb); obtain ⟨pb, po, rfl, hc5⟩ := C5.out _ _ hr; clear hr hb)
    go_wp2_with (go_at_call 6; refine (F1.out _ k1.out).mono ?_; rintro e w2 ⟨ta, tc, rfl, hr, hb⟩; have k2 := hide (below_on k1.out hb); clear hr hb)
    go_ret
    exact ⟨rfl, k2.out⟩

end Go.Proofs.Ythbeoaninipadaf
