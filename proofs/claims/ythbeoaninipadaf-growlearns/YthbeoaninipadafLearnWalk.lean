/-
  GrowLearns' own walk, with what packages grow and tree answer as premises.
-/
import Derived.Test.YthbeoaninipadafFourX
import Derived.Test.YthbeoaninipadafGroQ
import Derived.Test.YthbeoaninipadafSMath
import Derived.Test.YthbeoaninipadafRight
import Derived.Test.YthbeoaninipadafArrI
import Derived.Deep.Cut
import Derived.Deep.CutRange
import Derived.RegionTactic
namespace Go.Proofs.Ythbeoaninipadaf
open Go.ChangeShapes Go.WideShapes Go.ChangeAt Go.RowKit Go.Lib
set_option linter.unusedVariables false

theorem M.mul_in9 {v : Int} (h0 : -1000001 ≤ v) (h1 : v ≤ 1000001) {n : Nat} (hn : n ≤ 60) : -60000060 ≤ v * (n : Int) ∧ v * (n : Int) ≤ 60000060 := by
  have a := Int.mul_le_mul_of_nonneg_right h1 (Int.natCast_nonneg n)
  have b := Int.mul_le_mul_of_nonneg_right h0 (Int.natCast_nonneg n)
  omega

theorem M.rgt_in {xs : List Sx} {m : Nat} (A : Ask xs m) (f : Nat) (c l : Int) : 0 ≤ (M.rgtS (sms xs) f c l).1 ∧ (M.rgtS (sms xs) f c l).1 ≤ 432000000000 ∧ 0 ≤ (M.rgtS (sms xs) f c l).2 ∧ (M.rgtS (sms xs) f c l).2 ≤ 3600 := by
  have a1 := A.in f c true xs.length
  have a2 := A.in f c false xs.length
  rw [show (sms xs).take xs.length = sms xs by rw [← sms_len xs, List.take_length]] at a1 a2
  unfold M.rgtS
  by_cases z : l = 0
  · rw [if_pos z]
    unfold M.tB M.nB
    have q := M.sq_in2 (s := M.sumT (M.partS (sms xs) f c true) + M.sumT (M.partS (sms xs) f c false)) (by omega) (by omega)
    dsimp only
    omega
  · rw [if_neg z]
    by_cases y : M.nB (sms xs) f c true < l ∨ M.nB (sms xs) f c false < l
    · rw [if_pos y]; decide
    · rw [if_neg y]
      unfold M.spU M.spD M.tB M.nB
      have q1 := M.sqn_in (s := M.sumT (M.partS (sms xs) f c true)) a1.1 a1.2.1 a2.2.2
      have q2 := M.sqn_in (s := M.sumT (M.partS (sms xs) f c false)) a2.1 a2.2.1 a1.2.2
      have q3 := Nat.mul_le_mul a1.2.2 a2.2.2
      have q4 : (((M.partS (sms xs) f c true).length * (M.partS (sms xs) f c false).length : Nat) : Int) = ((M.partS (sms xs) f c true).length : Int) * ((M.partS (sms xs) f c false).length : Int) := by simp
      dsimp only
      omega
theorem M.prod_in {a b : Int} (a0 : 0 ≤ a) (a1 : a ≤ 432000000000) (b0 : 0 ≤ b) (b1 : b ≤ 3600) : 0 ≤ a * b ∧ a * b ≤ 1555200000000000 := by
  have h1 := Int.mul_nonneg a0 b0
  have h2 : a * b ≤ 432000000000 * 3600 := Int.mul_le_mul a1 b1 b0 (by omega)
  omega

set_option maxHeartbeats 16000000 in
set_option maxRecDepth 10000 in
theorem learns_walk (hF : GroFitGives) (hS : GroSplitGives) (hW : GroWrongGives) (hC : LTreeGives) (hD : LDepthGives) (hL : LLeafGives) (a : Option Addr) (xs : List Sx) (ca : Nat) (m d l f c : Int) (w : World) (h : RdL w a xs) :
    Calls Try.prog 3 #[.slice a xs.length ca, .int .i64 m, .int .i64 d, .int .i64 l, .int .i64 f, .int .i64 c] w fun e w' => e = .returned (.bool true) ∧ Below w.heap.size w w' := by
  have F0 := hide (fun (n : Nat) (W : World) (h : RdL W (some ⟨n + 1 + 1 + 1 + 1, 0, none⟩) (fourX n)) => hF (some ⟨n + 1 + 1 + 1 + 1, 0, none⟩) (fourX n) 4 1 1 1 W h)
  have es : ∀ n, sms (fourX n) = [([1], 0), ([2], 0), ([3], 9), ([4], 9)] := fun n => rfl
  simp only [es, M.four_fit.1, M.four_fit.2] at F0
  rw [err_nil rfl] at F0
  have R0 := hide (four_rd w 3 25)
  have B3 := hide (four_below w 3 25)
  unfold fourW at R0 B3
  have C5 : Hid (∀ W pa, RdN W pa [(0, 3, 1, 2, false, 0), (-1, 0, 0, 0, false, 0), (-1, 0, 0, 0, false, 9)] → ∃ pb po, pa = some ⟨pb, po, none⟩ ∧ W.cell? ⟨pb, po + 1, none⟩ = some (.int .i64 3) ∧ W.cell? ⟨pb, po + 12 + 5, none⟩ = some (.int .i64 9)) := fun W pa hp => by
    obtain ⟨pb, po, e, _, hc⟩ := hp.2 (by simp)
    exact ⟨pb, po, e, (hc 0 (by simp)).2.1, (hc 2 (by simp)).2.2.2.2.2⟩
  have F1 := hide (fun W (hW : Below w.heap.size w W) => hF a xs ca m d l W (h.below hW))
  have HL := hide h
  by_cases hg : M.grwF (sms xs) m d l = 0
  · obtain ⟨gk1, d0, d5, l1, l60⟩ := M.grw_ok hg
    rw [err_nil hg] at F1
    have x60 : xs.length ≤ 60 := by have := (M.sam_ok gk1).1.le; rw [sms_len] at this; exact this
    have t63 := (M.grw_tree hg).2.2
    have T1 := (M.grw_tree hg).1
    obtain ⟨T8, TD⟩ := M.grw_eight hg
    have CK := hide (fun pa pc W (hp : RdN W pa (M.grwT (sms xs) m d l)) => hC pa _ pc m W hp)
    rw [err_nil T1] at CK
    have DP := hide (fun pa pc W (hp : RdN W pa (M.grwT (sms xs) m d l)) => hD pa _ pc W hp)
    rw [err_nil T8] at DP
    have LF := hide (fun pa pc b r cb W (hp : RdN W pa (M.grwT (sms xs) m d l)) (hr : Rd W b r) => hL pa b _ r pc cb W hp hr)
    have RW := hide (M.grw_row hg)
    have TI := hide (M.grw_in hg)
    have LV : Hid (∀ p, p < (M.grwT (sms xs) m d l).length → M.nf (M.nAt (M.grwT (sms xs) m d l) p) = -1 → _) := fun p hp hf => M.grw_leaf hg hp hf
    have WR := hide (fun pa pc W (hp : RdN W pa (M.grwT (sms xs) m d l)) (hx : RdL W a xs) => hW pa a _ xs pc ca W hp hx)
    rw [err_nil (M.grw_wrong hg).1] at WR
    have WL := hide (fun h0 => M.grw_less hg h0)
    have F3 : Hid (0 < d → ∀ W, Below w.heap.size w W → Calls Try.prog 6 #[.slice a xs.length ca, .int .i64 m, .int .i64 (d - 1), .int .i64 l] W fun e w' => ∃ pa pc, e = .returned (.tuple #[.slice pa (M.grwT (sms xs) m (d - 1) l).length pc, .nilIface]) ∧ RdN w' pa (M.grwT (sms xs) m (d - 1) l) ∧ Below W.heap.size W w') := fun h0 W hb => by
      have := hF a xs ca m (d - 1) l W (h.below hb)
      rw [err_nil (M.grw_less hg h0).1] at this
      exact this
    have W3 : Hid (0 < d → ∀ pa pc W, RdN W pa (M.grwT (sms xs) m (d - 1) l) → RdL W a xs → Calls Try.prog 10 #[.slice pa (M.grwT (sms xs) m (d - 1) l).length pc, .slice a xs.length ca] W fun e w' => e = .returned (.tuple #[.int .i64 (M.wrgV (M.grwT (sms xs) m (d - 1) l) (sms xs)), .nilIface]) ∧ Below W.heap.size W w') := fun h0 pa pc W hp hx => by
      have := hW pa a _ xs pc ca W hp hx
      rw [err_nil (M.grw_wrong (M.grw_less hg h0).1).1] at this
      exact this
    have WB := hide (M.grw_in60 hg)
    have WB3 : Hid (0 < d → 0 ≤ M.wrgV (M.grwT (sms xs) m (d - 1) l) (sms xs) ∧ M.wrgV (M.grwT (sms xs) m (d - 1) l) (sms xs) ≤ 60120060000000) := fun h0 => M.grw_in60 (M.grw_less hg h0).1
    have SPL := hide (fun W (hb : Below w.heap.size w W) => hS a xs ca m l W (h.below hb))
    have AK := hide (Ask.of (M.sam_ok gk1).1)
    have RG := hide (fun f' (hf : f' < m.toNat) c' l' W (hb : Below w.heap.size w W) => right_any a xs ca m.toNat f' c' l' W (h.below hb) AK.out hf)
    have RNN := hide (fun f' (hf : f' < m.toNat) (q : M.splF (sms xs) m l ≠ 0) => M.rgt_none gk1 l1 l60 hf c q)
    have RBB := hide (fun f' (hf : f' < m.toNat) (q : M.splF (sms xs) m l = 0) => M.rgt_best gk1 l1 l60 hf c q)
    have RIN := hide (fun f' c' l' => M.rgt_in (Ask.of (M.sam_ok gk1).1) f' c' l')
    clear hF h es T1 T8
    generalize M.grwT (sms xs) m d l = T at *
    go_enter Try.func3, Try.ntmps3
    go_upto_region 3 with (go_at_call 6; refine (F0.out w.heap.size _ R0.out).mono ?_; rintro e w1 ⟨pa, pc, rfl, hr, hb⟩; have k1 := hide (below_on B3.out hb); obtain ⟨pb, po, rfl, hc3, hc5⟩ := C5.out _ _ hr; clear hr hb)
    go_wp2_with (first
      | (go_at_call 6; refine (F1.out _ k1.out).mono ?_; rintro e w2 ⟨ta, tc, rfl, hr, hb⟩; have k2 := hide (below_on k1.out hb); have RT := hide hr; clear hr hb)
      | (go_at_call 7; refine (CK.out _ _ _ RT.out).mono ?_; rintro e w3 ⟨rfl, hb⟩; have k3 := hide (below_on k2.out hb); have RT3 := hide (RT.out.below hb); clear hb)
      | (go_at_call 8; refine (DP.out _ _ _ RT3.out).mono ?_; rintro e w4 ⟨rfl, hb⟩; have k4 := hide (below_on k3.out hb); have RT4 := hide (RT3.out.below hb); clear hb))
    clear F0 F1 R0 B3 C5 CK DP hc3 hc5 RT RT3
    have AM : Hid (∀ k p, k < xs.length → (((M.atL T ((sms xs).take (k + 1)) p).length : Nat) : Int) = if M.leafV T (M.sAt (sms xs) k).1 = p then ((M.atL T ((sms xs).take k) p).length : Nat) + 1 else ((M.atL T ((sms xs).take k) p).length : Nat)) := fun k p hk => by
      rw [(M.atL_more T (sms xs) p (by rw [sms_len]; exact hk)).1]
    have AS : Hid (∀ k p, k < xs.length → M.sumT (M.atL T ((sms xs).take (k + 1)) p) = if M.leafV T (M.sAt (sms xs) k).1 = p then M.sumT (M.atL T ((sms xs).take k) p) + (M.sAt (sms xs) k).2 else M.sumT (M.atL T ((sms xs).take k) p)) := fun k p hk => (M.atL_more T (sms xs) p (by rw [sms_len]; exact hk)).2
    have AB : Hid (∀ k p, (M.atL T ((sms xs).take k) p).length ≤ 60 ∧ -60000 ≤ M.sumT (M.atL T ((sms xs).take k) p) ∧ M.sumT (M.atL T ((sms xs).take k) p) ≤ 60000) := fun k p => by
      have A := Ask.of (M.sam_ok gk1).1
      have l1 : (M.atL T ((sms xs).take k) p).length ≤ 60 := by
        refine Nat.le_trans (List.length_filter_le _ _) ?_
        rw [List.length_take, sms_len]
        omega
      have := M.sum_in (l := M.atL T ((sms xs).take k) p) fun s hs => by
        have h1 := List.mem_of_mem_take (List.mem_filter.1 hs).1
        obtain ⟨x, hx, rfl⟩ := List.mem_map.1 h1
        exact A.tgt x hx
      omega
    go_loopw [24] (fun i wr => ∃ k : Nat, k ≤ xs.length ∧ i = .int .i64 k ∧ Hid (ArrI wr w4.heap.size w4.heap.size (M.tab fun p => ((M.atL T ((sms xs).take k) p).length : Nat))) ∧ Hid (ArrI wr w4.heap.size (w4.heap.size + 1) (M.tab fun p => M.sumT (M.atL T ((sms xs).take k) p))) ∧ Hid (Below w4.heap.size w4 wr)) (fun i _ => xs.length - (intOf i).toNat)
    case atStart =>
      have z := ArrI.two w4 w4.heap.size (Nat.le_refl _)
      refine ⟨0, Nat.zero_le _, rfl, ?_, ?_, ?_⟩
      · unfold Hid
        rw [show (fun p => (((M.atL T ((sms xs).take 0) p).length : Nat) : Int)) = fun _ => 0 from rfl, M.tab_zero]
        exact z.1
      · unfold Hid
        rw [show (fun p => M.sumT (M.atL T ((sms xs).take 0) p)) = fun _ => 0 from rfl, M.tab_zero]
        exact z.2
      · exact ((Below.refl _ w4).alloc (Nat.le_refl _) _).alloc (by simp) _
    case round =>
      obtain ⟨k, hk, rfl, HM, HS, K⟩ := hrel
      by_cases hlt : k < xs.length
      · have sa := sms_at xs hlt
        have ms : sm xs[k] ∈ sms xs := List.mem_map.2 ⟨xs[k], List.getElem_mem hlt, rfl⟩
        obtain ⟨r1, r2, r3, r4⟩ := RW.out (sm xs[k]) ms
        have e1 : (M.sAt (sms xs) k).1 = xs[k].2.1 := by rw [sa]; rfl
        have e2 : (M.sAt (sms xs) k).2 = xs[k].2.2.2 := by rw [sa]; rfl
        have e3 : (sm xs[k]).1 = xs[k].2.1 := rfl
        rw [e3] at r1 r3
        have RX := (HL.out.below (below_on k4.out K.out))
        obtain ⟨bl, ol, rfl, hbl, hcl⟩ := HL.out.2.2 (by intro e; rw [e] at hlt; simp at hlt)
        have KW := below_on k4.out K.out
        have q0 := (KW.cell (p := ⟨bl, ol + k * 2, none⟩) hbl).trans (hcl k hlt).1
        have q1 : Hid (∀ W, Below w.heap.size w W → W.cell? ⟨bl, ol + k * 2 + 1, none⟩ = some (.int .i64 xs[k].2.2.2)) := fun W hW => (hW.cell (p := ⟨bl, ol + k * 2 + 1, none⟩) hbl).trans (hcl k hlt).2
        have lf1 := hide (LF.out ta tc xs[k].1 xs[k].2.1 xs[k].2.2.1 wr (RT4.out.below K.out) (RX.2.1 xs[k] (List.getElem_mem hlt)))
        rw [err_nil r1] at lf1
        have tg := (Ask.of (M.sam_ok gk1).1).tgt xs[k] (List.getElem_mem hlt)
        obtain ⟨c1, c2, c3⟩ := AB.out k (M.leafV T xs[k].2.1)
        have kz : (k : Int) < (xs.length : Int) := by omega
        have j63 : M.leafV T xs[k].2.1 < 63 := by omega
        have NM : Hid (∀ W, ArrI W w4.heap.size w4.heap.size (M.tab fun p => ((M.atL T ((sms xs).take k) p).length : Nat)) → ∀ x, ArrI ((W.setCell ⟨w4.heap.size, M.leafV T xs[k].2.1, none⟩ (.int .i64 (((M.atL T ((sms xs).take k) (M.leafV T xs[k].2.1)).length : Nat) + 1))).drew.setCell ⟨w4.heap.size + 1, M.leafV T xs[k].2.1, none⟩ x) w4.heap.size w4.heap.size (M.tab fun p => ((M.atL T ((sms xs).take (k + 1)) p).length : Nat))) := fun W hW x => by
          have := (hW.set (M.leafV T xs[k].2.1) ((((M.atL T ((sms xs).take k) (M.leafV T xs[k].2.1)).length : Nat) : Int) + 1)).drew.beside (p := w4.heap.size + 1) (by omega) (M.leafV T xs[k].2.1) x
          rw [M.tab_set (g' := fun p => ((M.atL T ((sms xs).take (k + 1)) p).length : Nat)) (fun j hj => by
            show (((M.atL T ((sms xs).take (k + 1)) j).length : Nat) : Int) = _
            rw [AM.out k j hlt, e1]
            by_cases z : M.leafV T xs[k].2.1 = j
            · subst z; rw [if_pos rfl, if_pos rfl]; omega
            · rw [if_neg z, if_neg z])] at this
          exact this
        have NS : Hid (∀ W, ArrI W w4.heap.size (w4.heap.size + 1) (M.tab fun p => M.sumT (M.atL T ((sms xs).take k) p)) → ∀ x, ArrI ((W.setCell ⟨w4.heap.size, M.leafV T xs[k].2.1, none⟩ x).drew.setCell ⟨w4.heap.size + 1, M.leafV T xs[k].2.1, none⟩ (.int .i64 (M.sumT (M.atL T ((sms xs).take k) (M.leafV T xs[k].2.1)) + xs[k].2.2.2))) w4.heap.size (w4.heap.size + 1) (M.tab fun p => M.sumT (M.atL T ((sms xs).take (k + 1)) p))) := fun W hW x => by
          have := (hW.beside (p := w4.heap.size) (by omega) (M.leafV T xs[k].2.1) x).drew.set (M.leafV T xs[k].2.1) (M.sumT (M.atL T ((sms xs).take k) (M.leafV T xs[k].2.1)) + xs[k].2.2.2)
          rw [M.tab_set (g' := fun p => M.sumT (M.atL T ((sms xs).take (k + 1)) p)) (fun j hj => by
            show M.sumT (M.atL T ((sms xs).take (k + 1)) j) = _
            rw [AS.out k j hlt, e1, e2]
            by_cases z : M.leafV T xs[k].2.1 = j
            · subst z; rw [if_pos rfl]
            · rw [if_neg z, if_neg z])] at this
          exact this
        have UM : Hid (∀ W, Below wr.heap.size wr W → ArrI W w4.heap.size w4.heap.size (M.tab fun p => ((M.atL T ((sms xs).take k) p).length : Nat))) := fun W hW => HM.out.up hW
        have US : Hid (∀ W, Below wr.heap.size wr W → ArrI W w4.heap.size (w4.heap.size + 1) (M.tab fun p => M.sumT (M.atL T ((sms xs).take k) p))) := fun W hW => HS.out.up hW
        have CM : Hid (∀ W, ArrI W w4.heap.size w4.heap.size (M.tab fun p => ((M.atL T ((sms xs).take k) p).length : Nat)) → W.cell? ⟨w4.heap.size, M.leafV T xs[k].2.1, none⟩ = some (.int .i64 ((M.atL T ((sms xs).take k) (M.leafV T xs[k].2.1)).length : Nat)) ∧ W.frozen? ⟨w4.heap.size, M.leafV T xs[k].2.1, none⟩ = false) := fun W hW => ⟨by rw [hW.cell j63, M.tab_at _ j63], hW.frozen _⟩
        have CS : Hid (∀ W, ArrI W w4.heap.size (w4.heap.size + 1) (M.tab fun p => M.sumT (M.atL T ((sms xs).take k) p)) → (∀ x, (W.setCell ⟨w4.heap.size, M.leafV T xs[k].2.1, none⟩ x).cell? ⟨w4.heap.size + 1, M.leafV T xs[k].2.1, none⟩ = some (.int .i64 (M.sumT (M.atL T ((sms xs).take k) (M.leafV T xs[k].2.1))))) ∧ ∀ x, (W.setCell ⟨w4.heap.size, M.leafV T xs[k].2.1, none⟩ x).frozen? ⟨w4.heap.size + 1, M.leafV T xs[k].2.1, none⟩ = false) := fun W hW => ⟨fun x => by rw [(hW.beside (p := w4.heap.size) (by omega) _ x).cell j63, M.tab_at _ j63], fun x => (hW.beside (p := w4.heap.size) (by omega) _ x).frozen _⟩
        have g4 : w.heap.size ≤ w4.heap.size := k4.out.size
        have gr := K.out.size
        unfold sxV at q0
        clear RX KW sa ms e1 e2 e3 r1 r2 r4 hcl HL RW LV WR WL AM AS AB LF HM HS RT4 hS hW hC hD hL hg
        generalize M.leafV T xs[k].2.1 = j at *
        generalize (M.atL T ((sms xs).take k) j).length = n at *
        generalize M.sumT (M.atL T ((sms xs).take k) j) = s at *
        generalize xs[k].2.2.2 = t at *
        generalize xs[k].2.1.length = rl at *
        generalize xs[k].2.2.1 = rc at *
        generalize xs[k].1 = ra at *
        obtain ⟨t0, t1⟩ := tg
        go_upto_region 21 with (go_at_call 9; refine lf1.out.mono ?_; rintro e w5 ⟨rfl, hb⟩; have um := hide (UM.out _ hb); have us := hide (US.out _ hb); have k5 := hide (below_on K.out hb); obtain ⟨y0, y1⟩ := CM.out _ um.out; obtain ⟨y2, y3⟩ := CS.out _ us.out; clear hb)
        have y4 : ∀ x, (w5.setCell ⟨w4.heap.size, j, none⟩ x).cell? ⟨bl, ol + k * 2 + 1, none⟩ = some (.int .i64 t) := fun x => q1.out _ (below_on k4.out (k5.out.setCell (p := ⟨w4.heap.size, j, none⟩) (Nat.le_refl _) x))
        have N1 := hide (fun x => NM.out _ um.out x)
        have N2 := hide (fun x => NS.out _ us.out x)
        have KB : Hid (∀ x y, Below w4.heap.size w4 ((w5.setCell ⟨w4.heap.size, j, none⟩ x).drew.setCell ⟨w4.heap.size + 1, j, none⟩ y)) := fun x y => (k5.out.setCell (p := ⟨w4.heap.size, j, none⟩) (Nat.le_refl _) x).drew.setCell (p := ⟨w4.heap.size + 1, j, none⟩) (Nat.le_succ _) y
        clear NM NS UM US CM CS um us lf1 q1 y0 y1 K
        go_region
        all_goals go_wp2
        all_goals go_roundw
        all_goals first
          | (case rel => exact ⟨k + 1, by omega, by go_num, N1.out _, N2.out _, KB.out _ _⟩)
          | (case measure => simp [intOf]; omega)
      · have ke : k = xs.length := by omega
        have kz : ¬ ((k : Int) < (xs.length : Int)) := by omega
        have tk : (sms xs).take k = sms xs := by rw [ke, ← sms_len xs, List.take_length]
        have hm := HM.out
        have hs := HS.out
        rw [tk] at hm hs
        have k6 := hide (below_on k4.out K.out)
        have RT6 := hide (RT4.out.below K.out)
        have AB2 := hide (fun p => AB.out k p)
        rw [tk] at AB2
        have HM2 := hide hm
        have HS2 := hide hs
        subst ke
        clear hm hs HM HS K k1 k2 k3 k4 RT4 AM AS AB LF tk RW hlt hk
        go_wp2
        go_loopw [27] (fun i wq => ∃ k : Nat, k ≤ T.length ∧ i = .int .i64 k ∧ Hid (wq = wr)) (fun i _ => T.length - (intOf i).toNat)
        case atStart => exact ⟨0, Nat.zero_le _, rfl, rfl⟩
        case round =>
          obtain ⟨k, hk, rfl, W⟩ := hrel
          have we := W.out
          subst we
          by_cases hlt : k < T.length
          · have kz2 : (k : Int) < (T.length : Int) := by omega
            have k63 : k < 63 := by omega
            obtain ⟨b1, o1, rfl, h1, hc1⟩ := RT6.out.2 (by intro e; rw [e] at hlt; simp at hlt)
            obtain ⟨s0, s1, s2, s3, s4, s5⟩ := hc1 k hlt
            by_cases hf : M.nf (M.nAt T k) = -1
            · obtain ⟨v0, v1⟩ := TI.out k hlt hf
              obtain ⟨n0, n1, n2, n3⟩ := LV.out k hlt hf
              obtain ⟨a1, a2, a3⟩ := AB2.out k
              have y0 := HM2.out.cell k63
              have y1 := HS2.out.cell k63
              rw [M.tab_at _ k63] at y0 y1
              rw [hf] at s0
              clear hf hc1 TI LV AB2 WR WL RT6 HM2 HS2 hS hW hC hD hL hg s1 s2 s3 s4 h1
              generalize M.nv (M.nAt T k) = v at *
              generalize (M.atL T (sms xs) k).length = n at *
              generalize M.sumT (M.atL T (sms xs) k) = s at *
              obtain ⟨p0, p1⟩ := M.mul_in9 (v := v) (n := n) (by omega) (by omega) a1
              obtain ⟨p2, p3⟩ := M.mul_in9 (v := v + 1) (n := n) (by omega) (by omega) a1
              have x1 : IntKind.i64.wrap (v * (n : Int)) = v * (n : Int) := wrap_in7 _ (by omega) (by omega)
              have x2 : IntKind.i64.wrap ((v + 1) * (n : Int)) = (v + 1) * (n : Int) := wrap_in7 _ (by omega) (by omega)
              have x3 : IntKind.i64.wrap (v + 1) = v + 1 := wrap_in7 _ (by omega) (by omega)
              have g0 : ((n : Int) == 0) = false := by rw [beq_eq_false_iff_ne]; omega
              have g2 : decide (s < v * (n : Int)) = false := decide_eq_false (by omega)
              have g3 : decide ((v + 1) * (n : Int) ≤ s) = false := decide_eq_false (by omega)
              by_cases q1 : 1 < T.length
              · have g4 : decide ((1 : Int) < (T.length : Int)) = true := decide_eq_true (by omega)
                have g5 : decide ((n : Int) < l) = false := decide_eq_false (by have := n1 q1; omega)
                clear n1 n2 n3 p0 p1 p2 p3
                go_wp2
                go_roundw
                case rel => exact ⟨k + 1, by omega, by go_num, (by first | rfl | trivial)⟩
                case measure => simp [intOf]; omega
              · have g4 : decide ((1 : Int) < (T.length : Int)) = false := decide_eq_false (by omega)
                clear n1 n2 n3 p0 p1 p2 p3
                go_wp2
                go_roundw
                case rel => exact ⟨k + 1, by omega, by go_num, (by first | rfl | trivial)⟩
                case measure => simp [intOf]; omega
            · have fz : (M.nf (M.nAt T k) == -1) = false := by simpa using hf
              clear hc1 TI LV AB2 WR WL RT6 HM2 HS2 hS hW hC hD hL hg s1 s2 s3 s4 s5 h1
              generalize M.nf (M.nAt T k) = f1 at *
              go_wp2
              go_roundw
              case rel => exact ⟨k + 1, by omega, by go_num, (by first | rfl | trivial)⟩
              case measure => simp [intOf]; omega
          · have kz2 : ¬ ((k : Int) < (T.length : Int)) := by omega
            clear TI LV AB2 HM2 HS2 hlt hk
            have wb := WB.out
            have wle := hide (fun h0 => (WL.out h0).2)
            clear WB WL
            have w1 := hide (WR.out ta tc wr RT6.out (HL.out.below k6.out))
            clear WR
            generalize M.wrgV T (sms xs) = wt at *
            by_cases hd : 0 < d
            · have q1 : decide (0 < d) = true := decide_eq_true hd
              have f3 := hide (F3.out hd)
              have w3 := hide (W3.out hd)
              have le := wle.out hd
              have b3 := WB3.out hd
              rw [sms_len] at le
              clear F3 W3 WB3 wle
              generalize M.grwT (sms xs) m (d - 1) l = S at *
              generalize M.wrgV S (sms xs) = wu at *
              have q2 : decide (wu + (xs.length : Int) < wt) = false := decide_eq_false (by omega)
              clear le hd
              go_upto_region 40 with (first
                | (go_at_call 10; refine (w3.out _ _ _ R8.out (HL.out.below k8.out)).mono ?_; rintro e w9 ⟨rfl, hb⟩; have k9 := hide (below_on k8.out hb); clear hb)
                | (go_at_call 6; refine (f3.out _ k7.out).mono ?_; rintro e w8 ⟨sa, sc, rfl, hr, hb⟩; have k8 := hide (below_on k7.out hb); have R8 := hide hr; clear hr hb)
                | (go_at_call 10; refine w1.out.mono ?_; rintro e w7 ⟨rfl, hb⟩; have k7 := hide (below_on k6.out hb); clear hb))
              have K8 := k9
              clear q1 q2 wb b3 k7 k8 R8 f3 w3 w1 k6 RT6
              by_cases hf0 : f < 0
              · have z1 : decide (f < 0) = true := decide_eq_true hf0
                clear hf0
                go_wp2_with (go_at_call 11; refine (SPL.out _ K8.out).mono ?_; rintro e w10 ⟨rfl, hb⟩; have k10 := hide (below_on K8.out hb); clear hb)
                go_ret
                exact ⟨rfl, k10.out⟩
              · have z1 : decide (f < 0) = false := decide_eq_false hf0
                by_cases hfm : m ≤ f
                · have z2 : decide (m ≤ f) = true := decide_eq_true hfm
                  clear hf0 hfm
                  go_wp2_with (go_at_call 11; refine (SPL.out _ K8.out).mono ?_; rintro e w10 ⟨rfl, hb⟩; have k10 := hide (below_on K8.out hb); clear hb)
                  go_ret
                  exact ⟨rfl, k10.out⟩
                · have z2 : decide (m ≤ f) = false := decide_eq_false hfm
                  obtain ⟨fN, rfl⟩ : ∃ n : Nat, f = (n : Int) := ⟨f.toNat, by omega⟩
                  have fl : fN < m.toNat := by omega
                  have rg1 := hide (RG.out fN fl c l)
                  have i1 := RIN.out fN c l
                  by_cases hz : M.splF (sms xs) m l = 0
                  · obtain ⟨x, ex, xl, bp, ble⟩ := RBB.out fN fl hz
                    have rg2 := hide (RG.out x xl (M.splC (sms xs) m l) l)
                    have i2 := RIN.out x (M.splC (sms xs) m l) l
                    rw [err_nil hz, ex] at SPL
                    clear RG RIN RNN RBB hz ex hf0 hfm xl fl
                    generalize M.splC (sms xs) m l = y at *
                    generalize (M.rgtS (sms xs) fN c l).1 = r1 at *
                    generalize (M.rgtS (sms xs) fN c l).2 = r2 at *
                    generalize (M.rgtS (sms xs) x y l).1 = b1 at *
                    generalize (M.rgtS (sms xs) x y l).2 = b2 at *
                    obtain ⟨p1, p2⟩ := M.prod_in i1.1 i1.2.1 i2.2.2.1 i2.2.2.2
                    obtain ⟨p3, p4⟩ := M.prod_in i2.1 i2.2.1 i1.2.2.1 i1.2.2.2
                    have x1 : IntKind.i64.wrap (r1 * b2) = r1 * b2 := wrap_in7 _ (by omega) (by omega)
                    have x2 : IntKind.i64.wrap (b1 * r2) = b1 * r2 := wrap_in7 _ (by omega) (by omega)
                    have g1 : decide (0 < b2) = true := decide_eq_true bp
                    have g2 : decide (r1 * b2 ≤ b1 * r2) = true := decide_eq_true ble
                    clear p1 p2 p3 p4 i1 i2 bp ble
                    go_upto_region 44 with (first
                      | (go_at_call 12; refine (rg1.out _ k10.out).mono ?_; rintro e w11 ⟨rfl, hb⟩; have k11 := hide (below_on k10.out hb); clear hb)
                      | (go_at_call 11; refine (SPL.out _ K8.out).mono ?_; rintro e w10 ⟨rfl, hb⟩; have k10 := hide (below_on K8.out hb); clear hb))
                    obtain ⟨w12, hw12⟩ : ∃ V, V = w11.alloc (.cells #[.int .i64 r1, .int .i64 r2] 41) := ⟨_, rfl⟩
                    have k12 : Hid (Below w.heap.size w w12) := by rw [hw12]; exact below_on k11.out ((Below.refl _ w11).alloc (Nat.le_refl _) _)
                    have l12 : w11.heap.size < w12.heap.size := by rw [hw12]; simp
                    have c0 : w12.cell? ⟨w11.heap.size, 0, none⟩ = some (.int .i64 r1) := by rw [hw12]; exact World.cell?_alloc_at _ _ _ 0 rfl
                    have c1 : w12.cell? ⟨w11.heap.size, 1, none⟩ = some (.int .i64 r2) := by rw [hw12]; exact World.cell?_alloc_at _ _ _ 1 rfl
                    rw [← hw12]
                    clear hw12 k11 k10 SPL rg1
                    go_upto_region 48 with (go_at_call 12; refine (rg2.out _ k12.out).mono ?_; rintro e w13 ⟨rfl, hb⟩; have k13 := hide (below_on k12.out hb); have d0 := (hb.cell (p := ⟨w11.heap.size, 0, none⟩) l12).trans c0; have d1 := (hb.cell (p := ⟨w11.heap.size, 1, none⟩) l12).trans c1; have l13 := Nat.lt_of_lt_of_le l12 hb.size; clear hb)
                    obtain ⟨w14, hw14⟩ : ∃ V, V = w13.alloc (.cells #[.int .i64 b1, .int .i64 b2] 41) := ⟨_, rfl⟩
                    have B14 : Hid (Below w13.heap.size w13 w14) := by rw [hw14]; exact (Below.refl _ w13).alloc (Nat.le_refl _) _
                    have e0 : w14.cell? ⟨w13.heap.size, 0, none⟩ = some (.int .i64 b1) := by rw [hw14]; exact World.cell?_alloc_at _ _ _ 0 rfl
                    have e1 : w14.cell? ⟨w13.heap.size, 1, none⟩ = some (.int .i64 b2) := by rw [hw14]; exact World.cell?_alloc_at _ _ _ 1 rfl
                    have e2 := (B14.out.cell (p := ⟨w11.heap.size, 0, none⟩) l13).trans d0
                    have e3 := (B14.out.cell (p := ⟨w11.heap.size, 1, none⟩) l13).trans d1
                    rw [← hw14]
                    clear hw14 d0 d1 c0 c1 rg2
                    go_wp2
                    go_ret
                    exact ⟨rfl, below_on k13.out B14.out⟩
                  · have no := RNN.out fN fl hz
                    have rg2 := hide (RG.out 0 (show 0 < m.toNat by omega) (-2000000) 0)
                    have i2 := RIN.out 0 (-2000000) 0
                    rw [M.rgt_all] at rg2 i2
                    rw [err_some hz] at SPL
                    clear RG RIN RNN RBB hf0 hfm fl
                    rw [sms_len] at no rg2 i2
                    generalize M.splF (sms xs) m l = sf at *
                    generalize M.splX (sms xs) m l = x at *
                    generalize M.splC (sms xs) m l = y at *
                    generalize (M.rgtS (sms xs) fN c l).1 = r1 at *
                    generalize (M.rgtS (sms xs) fN c l).2 = r2 at *
                    generalize hb1 : M.sumT (sms xs) * M.sumT (sms xs) = b1 at *
                    clear hb1
                    have i3 : 0 ≤ b1 ∧ b1 ≤ 432000000000 ∧ (0 : Int) ≤ (xs.length : Int) ∧ (xs.length : Int) ≤ 3600 := i2
                    obtain ⟨p1, p2⟩ := M.prod_in i1.1 i1.2.1 i3.2.2.1 i3.2.2.2
                    obtain ⟨p3, p4⟩ := M.prod_in i3.1 i3.2.1 i1.2.2.1 i1.2.2.2
                    have rg3 : Hid (∀ W, Below w.heap.size w W → Calls Try.prog 12 #[.slice a xs.length ca, .int .i64 0, .int .i64 (-2000000), .int .i64 0] W fun e w' => e = .returned (.agg #[.int .i64 b1, .int .i64 (xs.length : Nat)]) ∧ Below W.heap.size W w') := fun W hb => rg2.out W hb
                    clear rg2 i2
                    have rg2 := rg3
                    clear rg3
                    have x1 : IntKind.i64.wrap (r1 * (xs.length : Int)) = r1 * (xs.length : Int) := wrap_in7 _ (by omega) (by omega)
                    have x2 : IntKind.i64.wrap (b1 * r2) = b1 * r2 := wrap_in7 _ (by omega) (by omega)
                    clear p1 p2 p3 p4 i1 i3
                    by_cases r20 : r2 = 0
                    · have g1 : (r2 == 0) = true := by rw [beq_iff_eq]; exact r20
                      clear no r20 hz
                      go_upto_region 44 with (first
                        | (go_at_call 12; refine (rg1.out _ k10.out).mono ?_; rintro e w11 ⟨rfl, hb⟩; have k11 := hide (below_on k10.out hb); clear hb)
                        | (go_at_call 11; refine (SPL.out _ K8.out).mono ?_; rintro e w10 ⟨rfl, hb⟩; have k10 := hide (below_on K8.out hb); clear hb))
                      obtain ⟨w12, hw12⟩ : ∃ V, V = w11.alloc (.cells #[.int .i64 r1, .int .i64 r2] 41) := ⟨_, rfl⟩
                      have k12 : Hid (Below w.heap.size w w12) := by rw [hw12]; exact below_on k11.out ((Below.refl _ w11).alloc (Nat.le_refl _) _)
                      have l12 : w11.heap.size < w12.heap.size := by rw [hw12]; simp
                      have c0 : w12.cell? ⟨w11.heap.size, 0, none⟩ = some (.int .i64 r1) := by rw [hw12]; exact World.cell?_alloc_at _ _ _ 0 rfl
                      have c1 : w12.cell? ⟨w11.heap.size, 1, none⟩ = some (.int .i64 r2) := by rw [hw12]; exact World.cell?_alloc_at _ _ _ 1 rfl
                      rw [← hw12]
                      clear hw12 k11 k10 SPL rg1
                      go_upto_region 46 with (go_at_call 12; refine (rg2.out _ k12.out).mono ?_; rintro e w13 ⟨rfl, hb⟩; have k13 := hide (below_on k12.out hb); have d0 := (hb.cell (p := ⟨w11.heap.size, 0, none⟩) l12).trans c0; have d1 := (hb.cell (p := ⟨w11.heap.size, 1, none⟩) l12).trans c1; have l13 := Nat.lt_of_lt_of_le l12 hb.size; clear hb)
                      obtain ⟨w14, hw14⟩ : ∃ V, V = w13.alloc (.cells #[.int .i64 b1, .int .i64 (xs.length : Nat)] 41) := ⟨_, rfl⟩
                      have B14 : Hid (Below w13.heap.size w13 w14) := by rw [hw14]; exact (Below.refl _ w13).alloc (Nat.le_refl _) _
                      have e0 : w14.cell? ⟨w13.heap.size, 0, none⟩ = some (.int .i64 b1) := by rw [hw14]; exact World.cell?_alloc_at _ _ _ 0 rfl
                      have e1 : w14.cell? ⟨w13.heap.size, 1, none⟩ = some (.int .i64 (xs.length : Nat)) := by rw [hw14]; exact World.cell?_alloc_at _ _ _ 1 rfl
                      have e2 := (B14.out.cell (p := ⟨w11.heap.size, 0, none⟩) l13).trans d0
                      have e3 := (B14.out.cell (p := ⟨w11.heap.size, 1, none⟩) l13).trans d1
                      rw [← hw14]
                      clear hw14 d0 d1 c0 c1 rg2
                      go_wp2
                      go_ret
                      exact ⟨rfl, below_on k13.out B14.out⟩
                    · have g1 : (r2 == 0) = false := by rw [beq_eq_false_iff_ne]; exact r20
                      have g2 : decide (r1 * (xs.length : Int) ≤ b1 * r2) = true := decide_eq_true (no.resolve_left r20)
                      clear no r20 hz
                      go_upto_region 44 with (first
                        | (go_at_call 12; refine (rg1.out _ k10.out).mono ?_; rintro e w11 ⟨rfl, hb⟩; have k11 := hide (below_on k10.out hb); clear hb)
                        | (go_at_call 11; refine (SPL.out _ K8.out).mono ?_; rintro e w10 ⟨rfl, hb⟩; have k10 := hide (below_on K8.out hb); clear hb))
                      obtain ⟨w12, hw12⟩ : ∃ V, V = w11.alloc (.cells #[.int .i64 r1, .int .i64 r2] 41) := ⟨_, rfl⟩
                      have k12 : Hid (Below w.heap.size w w12) := by rw [hw12]; exact below_on k11.out ((Below.refl _ w11).alloc (Nat.le_refl _) _)
                      have l12 : w11.heap.size < w12.heap.size := by rw [hw12]; simp
                      have c0 : w12.cell? ⟨w11.heap.size, 0, none⟩ = some (.int .i64 r1) := by rw [hw12]; exact World.cell?_alloc_at _ _ _ 0 rfl
                      have c1 : w12.cell? ⟨w11.heap.size, 1, none⟩ = some (.int .i64 r2) := by rw [hw12]; exact World.cell?_alloc_at _ _ _ 1 rfl
                      rw [← hw12]
                      clear hw12 k11 k10 SPL rg1
                      go_upto_region 46 with (go_at_call 12; refine (rg2.out _ k12.out).mono ?_; rintro e w13 ⟨rfl, hb⟩; have k13 := hide (below_on k12.out hb); have d0 := (hb.cell (p := ⟨w11.heap.size, 0, none⟩) l12).trans c0; have d1 := (hb.cell (p := ⟨w11.heap.size, 1, none⟩) l12).trans c1; have l13 := Nat.lt_of_lt_of_le l12 hb.size; clear hb)
                      obtain ⟨w14, hw14⟩ : ∃ V, V = w13.alloc (.cells #[.int .i64 b1, .int .i64 (xs.length : Nat)] 41) := ⟨_, rfl⟩
                      have B14 : Hid (Below w13.heap.size w13 w14) := by rw [hw14]; exact (Below.refl _ w13).alloc (Nat.le_refl _) _
                      have e0 : w14.cell? ⟨w13.heap.size, 0, none⟩ = some (.int .i64 b1) := by rw [hw14]; exact World.cell?_alloc_at _ _ _ 0 rfl
                      have e1 : w14.cell? ⟨w13.heap.size, 1, none⟩ = some (.int .i64 (xs.length : Nat)) := by rw [hw14]; exact World.cell?_alloc_at _ _ _ 1 rfl
                      have e2 := (B14.out.cell (p := ⟨w11.heap.size, 0, none⟩) l13).trans d0
                      have e3 := (B14.out.cell (p := ⟨w11.heap.size, 1, none⟩) l13).trans d1
                      rw [← hw14]
                      clear hw14 d0 d1 c0 c1 rg2
                      go_wp2
                      go_ret
                      exact ⟨rfl, below_on k13.out B14.out⟩
            · have q1 : decide (0 < d) = false := decide_eq_false hd
              clear hd F3 W3 WB3 wle
              go_upto_region 40 with (go_at_call 10; refine w1.out.mono ?_; rintro e w7 ⟨rfl, hb⟩; have k7 := hide (below_on k6.out hb); clear hb)
              have K8 := k7
              clear q1 wb w1 k6 RT6
              by_cases hf0 : f < 0
              · have z1 : decide (f < 0) = true := decide_eq_true hf0
                clear hf0
                go_wp2_with (go_at_call 11; refine (SPL.out _ K8.out).mono ?_; rintro e w10 ⟨rfl, hb⟩; have k10 := hide (below_on K8.out hb); clear hb)
                go_ret
                exact ⟨rfl, k10.out⟩
              · have z1 : decide (f < 0) = false := decide_eq_false hf0
                by_cases hfm : m ≤ f
                · have z2 : decide (m ≤ f) = true := decide_eq_true hfm
                  clear hf0 hfm
                  go_wp2_with (go_at_call 11; refine (SPL.out _ K8.out).mono ?_; rintro e w10 ⟨rfl, hb⟩; have k10 := hide (below_on K8.out hb); clear hb)
                  go_ret
                  exact ⟨rfl, k10.out⟩
                · have z2 : decide (m ≤ f) = false := decide_eq_false hfm
                  obtain ⟨fN, rfl⟩ : ∃ n : Nat, f = (n : Int) := ⟨f.toNat, by omega⟩
                  have fl : fN < m.toNat := by omega
                  have rg1 := hide (RG.out fN fl c l)
                  have i1 := RIN.out fN c l
                  by_cases hz : M.splF (sms xs) m l = 0
                  · obtain ⟨x, ex, xl, bp, ble⟩ := RBB.out fN fl hz
                    have rg2 := hide (RG.out x xl (M.splC (sms xs) m l) l)
                    have i2 := RIN.out x (M.splC (sms xs) m l) l
                    rw [err_nil hz, ex] at SPL
                    clear RG RIN RNN RBB hz ex hf0 hfm xl fl
                    generalize M.splC (sms xs) m l = y at *
                    generalize (M.rgtS (sms xs) fN c l).1 = r1 at *
                    generalize (M.rgtS (sms xs) fN c l).2 = r2 at *
                    generalize (M.rgtS (sms xs) x y l).1 = b1 at *
                    generalize (M.rgtS (sms xs) x y l).2 = b2 at *
                    obtain ⟨p1, p2⟩ := M.prod_in i1.1 i1.2.1 i2.2.2.1 i2.2.2.2
                    obtain ⟨p3, p4⟩ := M.prod_in i2.1 i2.2.1 i1.2.2.1 i1.2.2.2
                    have x1 : IntKind.i64.wrap (r1 * b2) = r1 * b2 := wrap_in7 _ (by omega) (by omega)
                    have x2 : IntKind.i64.wrap (b1 * r2) = b1 * r2 := wrap_in7 _ (by omega) (by omega)
                    have g1 : decide (0 < b2) = true := decide_eq_true bp
                    have g2 : decide (r1 * b2 ≤ b1 * r2) = true := decide_eq_true ble
                    clear p1 p2 p3 p4 i1 i2 bp ble
                    go_upto_region 44 with (first
                      | (go_at_call 12; refine (rg1.out _ k10.out).mono ?_; rintro e w11 ⟨rfl, hb⟩; have k11 := hide (below_on k10.out hb); clear hb)
                      | (go_at_call 11; refine (SPL.out _ K8.out).mono ?_; rintro e w10 ⟨rfl, hb⟩; have k10 := hide (below_on K8.out hb); clear hb))
                    obtain ⟨w12, hw12⟩ : ∃ V, V = w11.alloc (.cells #[.int .i64 r1, .int .i64 r2] 41) := ⟨_, rfl⟩
                    have k12 : Hid (Below w.heap.size w w12) := by rw [hw12]; exact below_on k11.out ((Below.refl _ w11).alloc (Nat.le_refl _) _)
                    have l12 : w11.heap.size < w12.heap.size := by rw [hw12]; simp
                    have c0 : w12.cell? ⟨w11.heap.size, 0, none⟩ = some (.int .i64 r1) := by rw [hw12]; exact World.cell?_alloc_at _ _ _ 0 rfl
                    have c1 : w12.cell? ⟨w11.heap.size, 1, none⟩ = some (.int .i64 r2) := by rw [hw12]; exact World.cell?_alloc_at _ _ _ 1 rfl
                    rw [← hw12]
                    clear hw12 k11 k10 SPL rg1
                    go_upto_region 48 with (go_at_call 12; refine (rg2.out _ k12.out).mono ?_; rintro e w13 ⟨rfl, hb⟩; have k13 := hide (below_on k12.out hb); have d0 := (hb.cell (p := ⟨w11.heap.size, 0, none⟩) l12).trans c0; have d1 := (hb.cell (p := ⟨w11.heap.size, 1, none⟩) l12).trans c1; have l13 := Nat.lt_of_lt_of_le l12 hb.size; clear hb)
                    obtain ⟨w14, hw14⟩ : ∃ V, V = w13.alloc (.cells #[.int .i64 b1, .int .i64 b2] 41) := ⟨_, rfl⟩
                    have B14 : Hid (Below w13.heap.size w13 w14) := by rw [hw14]; exact (Below.refl _ w13).alloc (Nat.le_refl _) _
                    have e0 : w14.cell? ⟨w13.heap.size, 0, none⟩ = some (.int .i64 b1) := by rw [hw14]; exact World.cell?_alloc_at _ _ _ 0 rfl
                    have e1 : w14.cell? ⟨w13.heap.size, 1, none⟩ = some (.int .i64 b2) := by rw [hw14]; exact World.cell?_alloc_at _ _ _ 1 rfl
                    have e2 := (B14.out.cell (p := ⟨w11.heap.size, 0, none⟩) l13).trans d0
                    have e3 := (B14.out.cell (p := ⟨w11.heap.size, 1, none⟩) l13).trans d1
                    rw [← hw14]
                    clear hw14 d0 d1 c0 c1 rg2
                    go_wp2
                    go_ret
                    exact ⟨rfl, below_on k13.out B14.out⟩
                  · have no := RNN.out fN fl hz
                    have rg2 := hide (RG.out 0 (show 0 < m.toNat by omega) (-2000000) 0)
                    have i2 := RIN.out 0 (-2000000) 0
                    rw [M.rgt_all] at rg2 i2
                    rw [err_some hz] at SPL
                    clear RG RIN RNN RBB hf0 hfm fl
                    rw [sms_len] at no rg2 i2
                    generalize M.splF (sms xs) m l = sf at *
                    generalize M.splX (sms xs) m l = x at *
                    generalize M.splC (sms xs) m l = y at *
                    generalize (M.rgtS (sms xs) fN c l).1 = r1 at *
                    generalize (M.rgtS (sms xs) fN c l).2 = r2 at *
                    generalize hb1 : M.sumT (sms xs) * M.sumT (sms xs) = b1 at *
                    clear hb1
                    have i3 : 0 ≤ b1 ∧ b1 ≤ 432000000000 ∧ (0 : Int) ≤ (xs.length : Int) ∧ (xs.length : Int) ≤ 3600 := i2
                    obtain ⟨p1, p2⟩ := M.prod_in i1.1 i1.2.1 i3.2.2.1 i3.2.2.2
                    obtain ⟨p3, p4⟩ := M.prod_in i3.1 i3.2.1 i1.2.2.1 i1.2.2.2
                    have rg3 : Hid (∀ W, Below w.heap.size w W → Calls Try.prog 12 #[.slice a xs.length ca, .int .i64 0, .int .i64 (-2000000), .int .i64 0] W fun e w' => e = .returned (.agg #[.int .i64 b1, .int .i64 (xs.length : Nat)]) ∧ Below W.heap.size W w') := fun W hb => rg2.out W hb
                    clear rg2 i2
                    have rg2 := rg3
                    clear rg3
                    have x1 : IntKind.i64.wrap (r1 * (xs.length : Int)) = r1 * (xs.length : Int) := wrap_in7 _ (by omega) (by omega)
                    have x2 : IntKind.i64.wrap (b1 * r2) = b1 * r2 := wrap_in7 _ (by omega) (by omega)
                    clear p1 p2 p3 p4 i1 i3
                    by_cases r20 : r2 = 0
                    · have g1 : (r2 == 0) = true := by rw [beq_iff_eq]; exact r20
                      clear no r20 hz
                      go_upto_region 44 with (first
                        | (go_at_call 12; refine (rg1.out _ k10.out).mono ?_; rintro e w11 ⟨rfl, hb⟩; have k11 := hide (below_on k10.out hb); clear hb)
                        | (go_at_call 11; refine (SPL.out _ K8.out).mono ?_; rintro e w10 ⟨rfl, hb⟩; have k10 := hide (below_on K8.out hb); clear hb))
                      obtain ⟨w12, hw12⟩ : ∃ V, V = w11.alloc (.cells #[.int .i64 r1, .int .i64 r2] 41) := ⟨_, rfl⟩
                      have k12 : Hid (Below w.heap.size w w12) := by rw [hw12]; exact below_on k11.out ((Below.refl _ w11).alloc (Nat.le_refl _) _)
                      have l12 : w11.heap.size < w12.heap.size := by rw [hw12]; simp
                      have c0 : w12.cell? ⟨w11.heap.size, 0, none⟩ = some (.int .i64 r1) := by rw [hw12]; exact World.cell?_alloc_at _ _ _ 0 rfl
                      have c1 : w12.cell? ⟨w11.heap.size, 1, none⟩ = some (.int .i64 r2) := by rw [hw12]; exact World.cell?_alloc_at _ _ _ 1 rfl
                      rw [← hw12]
                      clear hw12 k11 k10 SPL rg1
                      go_upto_region 46 with (go_at_call 12; refine (rg2.out _ k12.out).mono ?_; rintro e w13 ⟨rfl, hb⟩; have k13 := hide (below_on k12.out hb); have d0 := (hb.cell (p := ⟨w11.heap.size, 0, none⟩) l12).trans c0; have d1 := (hb.cell (p := ⟨w11.heap.size, 1, none⟩) l12).trans c1; have l13 := Nat.lt_of_lt_of_le l12 hb.size; clear hb)
                      obtain ⟨w14, hw14⟩ : ∃ V, V = w13.alloc (.cells #[.int .i64 b1, .int .i64 (xs.length : Nat)] 41) := ⟨_, rfl⟩
                      have B14 : Hid (Below w13.heap.size w13 w14) := by rw [hw14]; exact (Below.refl _ w13).alloc (Nat.le_refl _) _
                      have e0 : w14.cell? ⟨w13.heap.size, 0, none⟩ = some (.int .i64 b1) := by rw [hw14]; exact World.cell?_alloc_at _ _ _ 0 rfl
                      have e1 : w14.cell? ⟨w13.heap.size, 1, none⟩ = some (.int .i64 (xs.length : Nat)) := by rw [hw14]; exact World.cell?_alloc_at _ _ _ 1 rfl
                      have e2 := (B14.out.cell (p := ⟨w11.heap.size, 0, none⟩) l13).trans d0
                      have e3 := (B14.out.cell (p := ⟨w11.heap.size, 1, none⟩) l13).trans d1
                      rw [← hw14]
                      clear hw14 d0 d1 c0 c1 rg2
                      go_wp2
                      go_ret
                      exact ⟨rfl, below_on k13.out B14.out⟩
                    · have g1 : (r2 == 0) = false := by rw [beq_eq_false_iff_ne]; exact r20
                      have g2 : decide (r1 * (xs.length : Int) ≤ b1 * r2) = true := decide_eq_true (no.resolve_left r20)
                      clear no r20 hz
                      go_upto_region 44 with (first
                        | (go_at_call 12; refine (rg1.out _ k10.out).mono ?_; rintro e w11 ⟨rfl, hb⟩; have k11 := hide (below_on k10.out hb); clear hb)
                        | (go_at_call 11; refine (SPL.out _ K8.out).mono ?_; rintro e w10 ⟨rfl, hb⟩; have k10 := hide (below_on K8.out hb); clear hb))
                      obtain ⟨w12, hw12⟩ : ∃ V, V = w11.alloc (.cells #[.int .i64 r1, .int .i64 r2] 41) := ⟨_, rfl⟩
                      have k12 : Hid (Below w.heap.size w w12) := by rw [hw12]; exact below_on k11.out ((Below.refl _ w11).alloc (Nat.le_refl _) _)
                      have l12 : w11.heap.size < w12.heap.size := by rw [hw12]; simp
                      have c0 : w12.cell? ⟨w11.heap.size, 0, none⟩ = some (.int .i64 r1) := by rw [hw12]; exact World.cell?_alloc_at _ _ _ 0 rfl
                      have c1 : w12.cell? ⟨w11.heap.size, 1, none⟩ = some (.int .i64 r2) := by rw [hw12]; exact World.cell?_alloc_at _ _ _ 1 rfl
                      rw [← hw12]
                      clear hw12 k11 k10 SPL rg1
                      go_upto_region 46 with (go_at_call 12; refine (rg2.out _ k12.out).mono ?_; rintro e w13 ⟨rfl, hb⟩; have k13 := hide (below_on k12.out hb); have d0 := (hb.cell (p := ⟨w11.heap.size, 0, none⟩) l12).trans c0; have d1 := (hb.cell (p := ⟨w11.heap.size, 1, none⟩) l12).trans c1; have l13 := Nat.lt_of_lt_of_le l12 hb.size; clear hb)
                      obtain ⟨w14, hw14⟩ : ∃ V, V = w13.alloc (.cells #[.int .i64 b1, .int .i64 (xs.length : Nat)] 41) := ⟨_, rfl⟩
                      have B14 : Hid (Below w13.heap.size w13 w14) := by rw [hw14]; exact (Below.refl _ w13).alloc (Nat.le_refl _) _
                      have e0 : w14.cell? ⟨w13.heap.size, 0, none⟩ = some (.int .i64 b1) := by rw [hw14]; exact World.cell?_alloc_at _ _ _ 0 rfl
                      have e1 : w14.cell? ⟨w13.heap.size, 1, none⟩ = some (.int .i64 (xs.length : Nat)) := by rw [hw14]; exact World.cell?_alloc_at _ _ _ 1 rfl
                      have e2 := (B14.out.cell (p := ⟨w11.heap.size, 0, none⟩) l13).trans d0
                      have e3 := (B14.out.cell (p := ⟨w11.heap.size, 1, none⟩) l13).trans d1
                      rw [← hw14]
                      clear hw14 d0 d1 c0 c1 rg2
                      go_wp2
                      go_ret
                      exact ⟨rfl, below_on k13.out B14.out⟩
  · rw [err_some hg] at F1
    clear hF hS hW hC hD hL h es hg HL
    generalize M.grwT (sms xs) m d l = T at *
    generalize M.grwF (sms xs) m d l = gf at *
    go_enter Try.func3, Try.ntmps3
    go_upto_region 3 with (go_at_call 6; refine (F0.out w.heap.size _ R0.out).mono ?_; rintro e w1 ⟨pa, pc, rfl, hr, hb⟩; have k1 := hide (below_on B3.out hb); obtain ⟨pb, po, rfl, hc3, hc5⟩ := C5.out _ _ hr; clear hr hb)
    go_wp2_with (go_at_call 6; refine (F1.out _ k1.out).mono ?_; rintro e w2 ⟨ta, tc, rfl, hr, hb⟩; have k2 := hide (below_on k1.out hb); clear hr hb)
    go_ret
    exact ⟨rfl, k2.out⟩

end Go.Proofs.Ythbeoaninipadaf
