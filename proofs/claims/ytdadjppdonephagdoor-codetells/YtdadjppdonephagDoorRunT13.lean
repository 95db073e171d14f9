/-
  Several texts as one: RefEnc.
-/
import Derived.Test.YtdadjppdonephagDoorRunT1
import Derived.Test.YtdadjppdonephagDoorRunT10
import Derived.Test.YtdadjppdonephagDoorRunT2
import Derived.Test.YtdadjppdonephagDoorRunT8
import Derived.Test.YtdadjppdonephagDoorRunT7
import Derived.RegionTactic
import Derived.Deep.Cut
import Derived.Deep.CutRange
import Derived.Deep.RegionWith
namespace Go.Proofs.YtdadjppdonephagDoor
open Go.ChangeShapes Go.WideShapes Go.ChangeAt Go.RowKit Go.Lib
set_option linter.unusedVariables false

def RGrvGives : Prop := ∀ (G : Gr) (W : World), RdG W G → Calls Tryd.prog 14 #[G.v] W fun e w' => e = .returned (.int .i64 (M.groveF G.m)) ∧ Below W.heap.size W w'
theorem Six.heap {W W' : World} {p : Nat} {n : M.Nd} (h : Six W p n) (e : W'.heap[p]? = W.heap[p]?) : Six W' p n :=
  ⟨(World.cell?_of_block (a := ⟨p, 0, none⟩) e).trans h.1, (World.cell?_of_block (a := ⟨p, 1, none⟩) e).trans h.2.1, (World.cell?_of_block (a := ⟨p, 2, none⟩) e).trans h.2.2.1, (World.cell?_of_block (a := ⟨p, 3, none⟩) e).trans h.2.2.2.1, (World.cell?_of_block (a := ⟨p, 4, none⟩) e).trans h.2.2.2.2.1, (World.cell?_of_block (a := ⟨p, 5, none⟩) e).trans h.2.2.2.2.2⟩
theorem app_ne {g g' p m : Nat} (h : g' = g ∨ m ≤ g') (hne : g ≠ p) (hp : p < m) : g' ≠ p := by omega
set_option maxHeartbeats 16000000 in
set_option maxRecDepth 10000 in
theorem renc_any (hR : RGrvGives) (G : Gr) (w : World) (h : RdG w G) :
    Calls Tryd.prog 4 #[G.v] w fun e w' => ∃ v, e = .returned (.tuple #[v, .int .i64 (M.encF G.m)]) ∧ w'.ownsRow w.heap.size 5 1 v (M.encV G.m).length (byCells (M.encV G.m)) ∧ Below w.heap.size w w' := by
  have hm1 : G.ks.length ≤ 9223372036854775807 := h.2.1
  have hm2 : G.ws.length ≤ 9223372036854775807 := h.1.1
  have B0 : Hid (∀ o, Below w.heap.size w (w.alloc o)) := fun o => (Below.refl _ w).alloc (Nat.le_refl _) o
  have HR := hide (fun o => hR G (w.alloc o) (h.below (B0.out o)))
  unfold Gr.v at HR
  by_cases h0 : M.groveF G.m = 0
  · have Gd := (M.good_iff G.m).1 h0
    have len12 : G.ks.length ≤ 12 := by have := Gd.t12; rwa [show (M.gt G.m).length = G.ks.length from tl_len G.ks] at this
    have WL : Hid (G.ws.length = G.ks.length) := Gd.len.trans (tl_len G.ks)
    have ZO := hide (M.zip_ok Gd)
    have ZL : Hid (((M.gs G.m).zip (M.gt G.m)).length = G.ks.length) := (M.zip_len Gd).trans (tl_len G.ks)
    have FW : Hid (M.I64 (M.gf G.m) ∧ M.I64 (M.gw G.m)) := by have := Gd.f0; have := Gd.f8; have := Gd.w1; have := Gd.w3; unfold Hid M.I64; omega
    have T12 : Hid ((M.gt G.m).length ≤ 12) := Gd.t12
    have HG := hide h
    have q1 : (M.groveF G.m != 0) = false := by rw [bne_eq_false_iff_eq]; exact h0
    have P0 : Hid (M.preL G.m 0 = [G.f, G.w, (G.ks.length : Int)]) := by
      unfold Hid
      rw [M.pre_zero, show (M.gt G.m).length = G.ks.length from tl_len G.ks]
      rfl
    unfold Gr.v
    rw [h0] at HR
    have H0 := hide h0
    clear h Gd h0 q1 hR
    obtain ⟨gO, hgO⟩ : ∃ o : Obj, o = .cells #[.int .i64 G.f, .int .i64 G.w, .slice G.wa G.ws.length G.wc, .slice G.ta G.ks.length G.tc] 25 := ⟨_, rfl⟩
    go_enter Tryd.func4, Tryd.ntmps4
    go_upto_region 2 with (go_at_call 14; refine (HR.out _).mono ?_; rintro e w1 ⟨rfl, hb⟩; have k1 := hide (below_on (B0.out _) hb); have KB := hide hb; clear hb)
    have GC : Hid (∀ W, Below w1.heap.size w1 W → W.cell? ⟨w.heap.size, 0, none⟩ = some (.int .i64 G.f) ∧ W.cell? ⟨w.heap.size, 1, none⟩ = some (.int .i64 G.w) ∧ W.cell? ⟨w.heap.size, 2, none⟩ = some (.slice G.wa G.ws.length G.wc) ∧ W.cell? ⟨w.heap.size, 3, none⟩ = some (.slice G.ta G.ks.length G.tc)) := fun W hW => by
      have k2 := below_on KB.out hW
      have r := (new_kept rfl k2).1
      exact ⟨r 0 _ rfl, r 1 _ rfl, r 2 _ rfl, r 3 _ rfl⟩
    have LT : w.heap.size < w1.heap.size := by have := KB.out.size; simp at this; omega
    have HG1 : Hid (∀ W, Below w1.heap.size w1 W → RdG W G) := fun W hW => HG.out.below (below_on k1.out hW)
    clear HR hgO gO KB HG
    obtain ⟨c0, c1, c2, c3⟩ := GC.out w1 (Below.refl _ _)
    go_wp2
    clear c0 c1 c2 c3
    go_loopw [5, 6] (fun v i wr => ∃ k g cap n : Nat, k ≤ G.ks.length ∧ i = .int .i64 k ∧ v = .slice (some ⟨g, 0, none⟩) n cap ∧ Hid (IR w1.heap.size wr g cap n (M.preL G.m k)) ∧ Hid (Below w1.heap.size w1 wr)) (fun _ i _ => G.ks.length - (intOf i).toNat)
    case atStart => exact ⟨0, w1.heap.size, 3, 3, Nat.zero_le _, rfl, rfl, by rw [P0.out]; exact ir_lit w1 _ [G.f, G.w, (G.ks.length : Int)] (Nat.le_refl _) (by simp), (Below.refl _ _).alloc (Nat.le_refl _) _⟩
    case round =>
      obtain ⟨k, g, cap, n, hk, rfl, rfl, HI, K⟩ := hrel
      by_cases hlt : k < G.ks.length
      · have kz : (k : Int) < (G.ks.length : Int) := by omega
        obtain ⟨c0, c1, c2, c3⟩ := GC.out wr K.out
        obtain ⟨wb, wo, ewa, hwb, hwc⟩ := (HG1.out w1 (Below.refl _ _)).1.2 (by intro e; have := WL.out; rw [e] at this; simp at this; omega)
        have wcell := hwc k (by rw [WL.out]; exact hlt)
        have wcr := (K.out.cell (p := ⟨wb, wo + k, none⟩) hwb).trans wcell
        obtain ⟨tb, to', eta, htb, htc⟩ := (HG1.out w1 (Below.refl _ _)).2.2.2 (by intro e; rw [e] at hlt; simp at hlt)
        have tcell := htc k hlt
        have kw : (k : Int) < (G.ws.length : Int) := by rw [WL.out]; exact kz
        have n5 : n ≤ 5000 := by
          rw [← HI.out.len]
          have := M.trs_len (((M.gs G.m).zip (M.gt G.m)).take k) fun x hx => (ZO.out x (List.mem_of_mem_take hx)).2.2.1
          rw [List.length_take] at this
          show _ + 1 + 1 + 1 ≤ 5000
          omega
        rw [ewa] at c2
        rw [eta] at c3
        have EA := hide eta
        clear ewa eta
        obtain ⟨x, hx⟩ : ∃ x, x = G.ws.getD k 0 := ⟨_, rfl⟩
        rw [← hx] at wcr
        have HX := hide hx
        clear hwc htc wcell hx
        go_upto_region 9 with (at_builtin; refine wpList_append_int rfl (.tmp 31) (.tmp 37) rfl w1.heap.size g cap n (M.preL G.m k) x rfl HI.out rfl (by omega) K.out.size ?_; intro g2 cap2 w2 hi2 hb2 hs2 hg2; have I2 := hide hi2; have K2 := hide (K.out.trans hb2); clear hi2 hb2 hs2 hg2)
        obtain ⟨a0, a1, a2, a3⟩ := GC.out w2 K2.out
        rw [EA.out] at a3
        have tcr := (K2.out.cell (p := ⟨tb, to' + k, none⟩) htb).trans tcell
        unfold tV at tcr
        have RN := hide ((HG1.out w1 (Below.refl _ _)).2.2.1 G.ks[k] (List.getElem_mem hlt))
        obtain ⟨ZM, l63⟩ : Hid (M.preL G.m (k + 1) = M.preL G.m k ++ [x] ++ [(G.ks[k].2.1.length : Int)] ++ G.ks[k].2.1.flatMap M.ndL) ∧ G.ks[k].2.1.length ≤ 63 := M.pre_more G hlt HX.out ZL.out ZO.out
        unfold tV at tcell
        clear wcr c0 c1 c2 c3 HI HX
        generalize G.ks[k].2.1 = ts at *
        generalize G.ks[k].2.2 = tcap at *
        generalize G.ks[k].1 = tad at *
        have tm : ts.length ≤ 9223372036854775807 := by omega
        go_upto_region 10 with (at_builtin; refine wpList_append_int rfl (.tmp 39) (.tmp 46) rfl w1.heap.size g2 cap2 (n + 1) (M.preL G.m k ++ [x]) (ts.length : Int) rfl I2.out rfl (by omega) K2.out.size ?_; intro g3 cap3 w3 hi2 hb2 hs2 hg2; have I3 := hide hi2; have K3 := hide (K2.out.trans hb2); clear hi2 hb2 hs2 hg2)
        clear I2 K2 tcr a0 a1 a2 a3
        obtain ⟨P, hP⟩ : ∃ P, P = M.preL G.m k ++ [x] ++ [(ts.length : Int)] := ⟨_, rfl⟩
        rw [← hP] at I3 ZM
        have pl : P.length = n + 1 + 1 := I3.out.len
        have PL := hide pl
        clear hP pl
        go_wp2
        go_loopw [5, 7] (fun v i wr => ∃ j g cap n : Nat, j ≤ ts.length ∧ i = .int .i64 j ∧ v = .slice (some ⟨g, 0, none⟩) n cap ∧ Hid (IR w1.heap.size wr g cap n (P ++ (ts.take j).flatMap M.ndL)) ∧ Hid (Below w1.heap.size w1 wr)) (fun _ i _ => ts.length - (intOf i).toNat)
        case atStart => exact ⟨0, g3, cap3, n + 1 + 1, Nat.zero_le _, rfl, rfl, by unfold Hid; simpa using I3.out, K3.out⟩
        case round =>
          clear I3 K3
          obtain ⟨j, g4, cap4, n4, hj, rfl, rfl, I4, K4⟩ := hrel
          obtain ⟨a0, a1, a2, a3⟩ := GC.out wr K4.out
          rw [EA.out] at a3
          have tcr := (K4.out.cell (p := ⟨tb, to' + k, none⟩) htb).trans tcell
          by_cases jlt : j < ts.length
          · have jz : (j : Int) < (ts.length : Int) := by omega
            obtain ⟨nb, no, rfl, hnb, hnc⟩ := RN.out.2 (by intro e; rw [e] at jlt; simp at jlt)
            obtain ⟨s0, s1, s2, s3, s4, s5⟩ := (hnc j jlt).below K4.out hnb
            clear hnc
            go_upto_region 14 with fail
            have nb5 : n4 ≤ 5500 := by
              rw [← I4.out.len, List.length_append]
              have := M.nds_len (ts.take j)
              rw [List.length_take] at this
              have := PL.out
              omega
            have MO := hide (M.nds_more P jlt)
            obtain ⟨w5, hw5⟩ : ∃ X, X = wr.alloc (.cells #[.int .i64 (M.nf (M.nAt ts j)), .int .i64 (M.nc (M.nAt ts j)), .int .i64 (M.nl (M.nAt ts j)), .int .i64 (M.nr (M.nAt ts j)), .bool (M.ns (M.nAt ts j)), .int .i64 (M.nv (M.nAt ts j))] 48) := ⟨_, rfl⟩
            rw [← hw5]
            have S5 : Hid (Six w5 wr.heap.size (M.nAt ts j)) := by rw [hw5]; exact ⟨World.cell?_alloc_at _ _ _ 0 rfl, World.cell?_alloc_at _ _ _ 1 rfl, World.cell?_alloc_at _ _ _ 2 rfl, World.cell?_alloc_at _ _ _ 3 rfl, World.cell?_alloc_at _ _ _ 4 rfl, World.cell?_alloc_at _ _ _ 5 rfl⟩
            have Z5 : Hid (wr.heap.size < w5.heap.size) := by rw [hw5]; unfold Hid; simp
            have E5 : Hid (g4 ≠ wr.heap.size) := by have := I4.out.lt; unfold Hid; omega
            have I5 : Hid (IR w1.heap.size w5 g4 cap4 n4 (P ++ (ts.take j).flatMap M.ndL)) := by rw [hw5]; exact I4.out.alloc _
            have K5 : Hid (Below w1.heap.size w1 w5) := by rw [hw5]; exact K4.out.alloc K4.out.size _
            clear hw5 I4 K4 tcr a0 a1 a2 a3 s0 s1 s2 s3 s4 s5
            obtain ⟨N, hN⟩ : ∃ N, N = M.nAt ts j := ⟨_, rfl⟩
            rw [← hN] at MO S5
            rw [← hN]
            clear hN
            generalize (ts.take j).flatMap M.ndL = F at *
            generalize hQ : P ++ F = Q at *
            clear hQ
            obtain ⟨g5, hg5⟩ : ∃ m, m = g4 := ⟨_, rfl⟩
            obtain ⟨cap5, hc5⟩ : ∃ m, m = cap4 := ⟨_, rfl⟩
            obtain ⟨n5x, hn5⟩ : ∃ m, m = n4 := ⟨_, rfl⟩
            rw [← hg5, ← hc5, ← hn5] at I5 ⊢
            rw [← hg5] at E5
            rw [← hn5] at nb5
            clear hg5 hc5 hn5
            have n5x' := nb5
            obtain ⟨d0, d1, d2, d3, d4, d5⟩ := S5.out
            go_upto_region 15 with (at_builtin; refine wpList_append_int rfl (.tmp 66) (.tmp 69) rfl w1.heap.size g5 cap5 n5x (Q) (M.nf N) rfl I5.out rfl (by omega) K5.out.size ?_; intro g6 cap6 w6 hi2 hb2 hs2 hg2; have I6 := hide hi2; have K6 := hide (K5.out.trans hb2); have S6 : Hid (Six w6 wr.heap.size N) := S5.out.heap (hs2 _ Z5.out (fun e => E5.out e.symm)); have Z6 : Hid (wr.heap.size < w6.heap.size) := Nat.lt_of_lt_of_le Z5.out hb2.size; have E6 : Hid (g6 ≠ wr.heap.size) := app_ne hg2 E5.out Z5.out; clear hi2 hb2 hs2 hg2)
            clear d0 d1 d2 d3 d4 d5 I5 K5 S5 Z5 E5
            obtain ⟨n6, en6⟩ : ∃ m, m = n5x + 1 := ⟨_, rfl⟩
            have nb6 : n6 ≤ 5506 := by omega
            rw [← en6] at I6 ⊢
            clear en6
            obtain ⟨d0, d1, d2, d3, d4, d5⟩ := S6.out
            by_cases hf : M.nf N = -1
            · have q1 : (M.nf N == -1) = true := by rw [beq_iff_eq]; exact hf
              have MF : Hid (M.ndL N = [M.nf N, M.nv N]) := by unfold Hid M.ndL; rw [if_pos hf]
              clear hf
              go_upto_region 16 with fail
              clear d0 d1 d2 d3 d4 d5
              obtain ⟨d0, d1, d2, d3, d4, d5⟩ := S6.out
              go_wp2_with (at_builtin; refine wpList_append_int rfl (.tmp 74) (.tmp 77) rfl w1.heap.size g6 cap6 n6 (Q ++ [M.nf N]) (M.nv N) rfl I6.out rfl (by omega) K6.out.size ?_; intro g7 cap7 w7 hi2 hb2 hs2 hg2; have I7 := hide hi2; have K7 := hide (K6.out.trans hb2); have S7 : Hid (Six w7 wr.heap.size N) := S6.out.heap (hs2 _ Z6.out (fun e => E6.out e.symm)); have Z7 : Hid (wr.heap.size < w7.heap.size) := Nat.lt_of_lt_of_le Z6.out hb2.size; have E7 : Hid (g7 ≠ wr.heap.size) := app_ne hg2 E6.out Z6.out; clear hi2 hb2 hs2 hg2)
              have mo := MO.out
              rw [MF.out] at mo
              exact ⟨⟨j + 1, g7, cap7, n6 + 1, jlt, rfl, rfl, by unfold Hid; rw [mo]; simpa [List.append_assoc] using I7.out, K7.out⟩, by show ts.length - (((j : Int) + 1).toNat) < ts.length - ((j : Int).toNat); omega⟩
            · have q1 : (M.nf N == -1) = false := by rw [beq_eq_false_iff_ne]; exact hf
              have MF : Hid (M.ndL N = [M.nf N, M.nc N, M.nl N, M.nr N, if M.ns N = true then 1 else 0]) := by unfold Hid M.ndL; rw [if_neg hf]
              clear hf
              go_upto_region 17 with fail
              clear d0 d1 d2 d3 d4 d5
              obtain ⟨d0, d1, d2, d3, d4, d5⟩ := S6.out
              go_upto_region 18 with (at_builtin; refine wpList_append_int rfl (.tmp 79) (.tmp 82) rfl w1.heap.size g6 cap6 n6 (Q ++ [M.nf N]) (M.nc N) rfl I6.out rfl (by omega) K6.out.size ?_; intro g7 cap7 w7 hi2 hb2 hs2 hg2; have I7 := hide hi2; have K7 := hide (K6.out.trans hb2); have S7 : Hid (Six w7 wr.heap.size N) := S6.out.heap (hs2 _ Z6.out (fun e => E6.out e.symm)); have Z7 : Hid (wr.heap.size < w7.heap.size) := Nat.lt_of_lt_of_le Z6.out hb2.size; have E7 : Hid (g7 ≠ wr.heap.size) := app_ne hg2 E6.out Z6.out; clear hi2 hb2 hs2 hg2)
              clear d0 d1 d2 d3 d4 d5 I6 K6 S6 Z6 E6
              obtain ⟨n7, en7⟩ : ∃ m, m = n6 + 1 := ⟨_, rfl⟩
              have nb7 : n7 ≤ 5507 := by omega
              rw [← en7] at I7 ⊢
              clear en7
              obtain ⟨d0, d1, d2, d3, d4, d5⟩ := S7.out
              go_upto_region 19 with (at_builtin; refine wpList_append_int rfl (.tmp 84) (.tmp 87) rfl w1.heap.size g7 cap7 n7 (Q ++ [M.nf N] ++ [M.nc N]) (M.nl N) rfl I7.out rfl (by omega) K7.out.size ?_; intro g8 cap8 w8 hi2 hb2 hs2 hg2; have I8 := hide hi2; have K8 := hide (K7.out.trans hb2); have S8 : Hid (Six w8 wr.heap.size N) := S7.out.heap (hs2 _ Z7.out (fun e => E7.out e.symm)); have Z8 : Hid (wr.heap.size < w8.heap.size) := Nat.lt_of_lt_of_le Z7.out hb2.size; have E8 : Hid (g8 ≠ wr.heap.size) := app_ne hg2 E7.out Z7.out; clear hi2 hb2 hs2 hg2)
              clear d0 d1 d2 d3 d4 d5 I7 K7 S7 Z7 E7
              obtain ⟨n8, en8⟩ : ∃ m, m = n7 + 1 := ⟨_, rfl⟩
              have nb8 : n8 ≤ 5508 := by omega
              rw [← en8] at I8 ⊢
              clear en8
              obtain ⟨d0, d1, d2, d3, d4, d5⟩ := S8.out
              go_upto_region 20 with (at_builtin; refine wpList_append_int rfl (.tmp 89) (.tmp 92) rfl w1.heap.size g8 cap8 n8 (Q ++ [M.nf N] ++ [M.nc N] ++ [M.nl N]) (M.nr N) rfl I8.out rfl (by omega) K8.out.size ?_; intro g9 cap9 w9 hi2 hb2 hs2 hg2; have I9 := hide hi2; have K9 := hide (K8.out.trans hb2); have S9 : Hid (Six w9 wr.heap.size N) := S8.out.heap (hs2 _ Z8.out (fun e => E8.out e.symm)); have Z9 : Hid (wr.heap.size < w9.heap.size) := Nat.lt_of_lt_of_le Z8.out hb2.size; have E9 : Hid (g9 ≠ wr.heap.size) := app_ne hg2 E8.out Z8.out; clear hi2 hb2 hs2 hg2)
              clear d0 d1 d2 d3 d4 d5 I8 K8 S8 Z8 E8
              obtain ⟨n9, en9⟩ : ∃ m, m = n8 + 1 := ⟨_, rfl⟩
              have nb9 : n9 ≤ 5509 := by omega
              rw [← en9] at I9 ⊢
              clear en9
              obtain ⟨d0, d1, d2, d3, d4, d5⟩ := S9.out
              cases hs : M.ns N with
              | true =>
                rw [hs] at d4
                go_upto_region 21 with fail
                clear d0 d1 d2 d3 d4 d5
                obtain ⟨d0, d1, d2, d3, d4, d5⟩ := S9.out
                go_wp2_with (at_builtin; refine wpList_append_int rfl (.tmp 96) (.tmp 97) rfl w1.heap.size g9 cap9 n9 (Q ++ [M.nf N] ++ [M.nc N] ++ [M.nl N] ++ [M.nr N]) (1) rfl I9.out rfl (by omega) K9.out.size ?_; intro g10 cap10 w10 hi2 hb2 hs2 hg2; have I10 := hide hi2; have K10 := hide (K9.out.trans hb2); have S10 : Hid (Six w10 wr.heap.size N) := S9.out.heap (hs2 _ Z9.out (fun e => E9.out e.symm)); have Z10 : Hid (wr.heap.size < w10.heap.size) := Nat.lt_of_lt_of_le Z9.out hb2.size; have E10 : Hid (g10 ≠ wr.heap.size) := app_ne hg2 E9.out Z9.out; clear hi2 hb2 hs2 hg2)
                have mo := MO.out
                rw [MF.out, hs] at mo
                exact ⟨⟨j + 1, g10, cap10, n9 + 1, jlt, rfl, rfl, by unfold Hid; rw [mo]; simpa [List.append_assoc] using I10.out, K10.out⟩, by show ts.length - (((j : Int) + 1).toNat) < ts.length - ((j : Int).toNat); omega⟩
              | false =>
                rw [hs] at d4
                go_upto_region 22 with fail
                clear d0 d1 d2 d3 d4 d5
                obtain ⟨d0, d1, d2, d3, d4, d5⟩ := S9.out
                go_wp2_with (at_builtin; refine wpList_append_int rfl (.tmp 99) (.tmp 100) rfl w1.heap.size g9 cap9 n9 (Q ++ [M.nf N] ++ [M.nc N] ++ [M.nl N] ++ [M.nr N]) (0) rfl I9.out rfl (by omega) K9.out.size ?_; intro g10 cap10 w10 hi2 hb2 hs2 hg2; have I10 := hide hi2; have K10 := hide (K9.out.trans hb2); have S10 : Hid (Six w10 wr.heap.size N) := S9.out.heap (hs2 _ Z9.out (fun e => E9.out e.symm)); have Z10 : Hid (wr.heap.size < w10.heap.size) := Nat.lt_of_lt_of_le Z9.out hb2.size; have E10 : Hid (g10 ≠ wr.heap.size) := app_ne hg2 E9.out Z9.out; clear hi2 hb2 hs2 hg2)
                have mo := MO.out
                rw [MF.out, hs] at mo
                exact ⟨⟨j + 1, g10, cap10, n9 + 1, jlt, rfl, rfl, by unfold Hid; rw [mo]; simpa [List.append_assoc] using I10.out, K10.out⟩, by show ts.length - (((j : Int) + 1).toNat) < ts.length - ((j : Int).toNat); omega⟩
          · have ej : j = ts.length := by omega
            have I5 : Hid (IR w1.heap.size wr g4 cap4 n4 (M.preL G.m (k + 1))) := by rw [ZM.out]; rw [ej, List.take_length] at I4; exact I4.out
            have jz : ¬ j < ts.length := jlt
            clear I4 ZM RN ej
            go_wp2
            go_roundw
            case rel => exact ⟨k + 1, g4, cap4, n4, hlt, rfl, rfl, I5.out, K4.out⟩
            case measure => show G.ks.length - (((k : Int) + 1).toNat) < G.ks.length - ((k : Int).toNat); omega
      · have ek : k = G.ks.length := by omega
        have GL : Hid (M.preL G.m k = M.grL G.m) := by unfold Hid M.preL M.grL; rw [ek, ← ZL.out, List.take_length]
        have LI : Hid (∀ x ∈ M.grL G.m, M.I64 x) := M.gr_in (g := G.m) FW.out ZO.out T12.out
        obtain ⟨a0, a1, a2, a3⟩ := GC.out wr K.out
        obtain ⟨L, hL⟩ : ∃ L, L = M.grL G.m := ⟨_, rfl⟩
        have I5 : Hid (IR w1.heap.size wr g cap n L) := by rw [hL, ← GL.out]; exact HI.out
        rw [← hL] at LI
        have EB : Hid (M.encB G.m = M.bysL L) := by unfold Hid M.encB; rw [hL]
        have n5 : n ≤ 5000 := by
          rw [← HI.out.len]
          have := M.trs_len (((M.gs G.m).zip (M.gt G.m)).take k) fun x hx => (ZO.out x (List.mem_of_mem_take hx)).2.2.1
          rw [List.length_take] at this
          show _ + 1 + 1 + 1 ≤ 5000
          omega
        have ln := I5.out.len
        subst ln
        have RL : Hid (Rd wr (some ⟨g, 0, none⟩) L) := by
          obtain ⟨a', c', e', r', _⟩ := own_rd I5.out.own
          cases e'
          exact r'
        have KW : Hid (Below w.heap.size w wr) := below_on k1.out K.out
        have klt : ¬ k < G.ks.length := hlt
        clear hL GL HI ZO ZL HG1 ek I5 P0 FW T12
        go_wp2
        clear a0 a1 a2 a3 GC
        have OE : Hid (0 ≤ (6000 : Nat)) := Nat.zero_le _
        have BI : Hid (∀ j (hj : j < L.length), M.bysL (L.take (j + 1)) = M.bysL (L.take j) ++ M.numL L[j]) := fun j hj => by rw [List.take_succ_eq_append_getElem hj, M.bys_app]; unfold M.bysL; simp
        have BL : Hid (∀ j, j ≤ L.length → (M.bysL (L.take j)).length ≤ 10 * j) := fun j hj => by
          have := M.bys_len (L.take j) fun x hx => LI.out x (List.mem_of_mem_take hx)
          rw [List.length_take] at this
          omega
        have B8 : Hid (∀ j, ∀ c ∈ M.bysL (L.take j), c < 256) := fun j => M.bys_byte _
        obtain ⟨wl, hwl⟩ : ∃ X, X = wr := ⟨_, rfl⟩
        rw [← hwl] at RL KW ⊢
        clear hwl K
        go_loopw [9, 10] (fun v i wz => ∃ (j : Nat) (va : Option Addr) (vc : Nat), j ≤ L.length ∧ i = .int .i64 j ∧ v = .slice va (M.bysL (L.take j)).length vc ∧ Hid (wz.ownsRow wl.heap.size 5 1 (.slice va (M.bysL (L.take j)).length vc) (M.bysL (L.take j)).length (byCells (M.bysL (L.take j)))) ∧ Hid (Below wl.heap.size wl wz)) (fun _ i _ => L.length - (intOf i).toNat)
        case atStart => exact ⟨0, none, 0, Nat.zero_le _, rfl, rfl, World.ownsRow_nil _ _ _ _, Below.refl _ _⟩
        case round =>
          obtain ⟨j, va, vc, hj, rfl, rfl, HO, KZ⟩ := hrel
          by_cases jlt : j < L.length
          · have jz : (j : Int) < (L.length : Int) := by omega
            have bl := BL.out j hj
            have bi := BI.out j jlt
            have li := LI.out L[j] (List.getElem_mem jlt)
            have nl := M.num_len li.1 li.2
            obtain ⟨b', o', e', hb', hc'⟩ := (RL.out.below KZ.out).2 (by intro e; rw [e] at jlt; simp at jlt)
            have cj := hc' j jlt
            cases e'
            rw [show L.getD j 0 = L[j] by simp [List.getD, jlt], Nat.zero_add] at cj
            have NU := hide (rnum_any none [] 0 L[j] wr ⟨Nat.zero_le _, (fun x hx => by cases hx), fun hn => absurd rfl hn⟩ (fun _ => rfl) (by simp) li.1 li.2)
            simp only [List.nil_append, List.length_nil] at NU
            have b8 := hide (B8.out (j + 1))
            have BE := hide bi
            have NB : Hid (∀ c ∈ M.numL L[j], c < 256) := M.sev_byte _
            have hle := KZ.out.size
            clear hc' BI BL B8 bi li EB
            generalize M.numL L[j] = Y at *
            generalize L[j] = x at *
            generalize M.bysL (L.take j) = B at *
            have yl : Y.length ≤ 10 := nl.2
            clear nl
            go_wp2_with (first | (go_at_call 13; refine NU.out.mono ?_; rintro e w6 ⟨vv, rfl, ho, hb⟩; obtain ⟨oa, oc, rfl, ho2⟩ := own_rdB0 rfl (by unfold maxLen; omega) NB.out ho; have RO := hide ho2; have O6 : Hid (w6.ownsRow wl.heap.size 5 1 (.slice va B.length vc) B.length (byCells B)) := own_up HO.out hb; have K7 := hide (below_on KZ.out hb); clear ho ho2 hb) | (at_builtin; refine wpList_append_by rfl (.tmp 108) (.tmp 113) rfl wl.heap.size (.slice va B.length vc) B.length B rfl O6.out oa Y Y.length oc rfl rfl RO.out.1 RO.out.2.1 (by omega) K7.out.size ?_; intro va2 vc2 w8 ho8 hb8 _; have O8 := hide ho8; have K8 := hide (K7.out.trans hb8); clear ho8 hb8))
            have O9 : Hid (w8.ownsRow wl.heap.size 5 1 (.slice va2 (M.bysL (L.take (j + 1))).length vc2) (M.bysL (L.take (j + 1))).length (byCells (M.bysL (L.take (j + 1))))) := by rw [BE.out, List.length_append]; exact O8.out
            go_roundw
            case rel => exact ⟨j + 1, va2, vc2, jlt, rfl, by rw [BE.out, List.length_append], O9.out, K8.out⟩
            case measure => show L.length - (((j : Int) + 1).toNat) < L.length - ((j : Int).toNat); omega
          · have ej : j = L.length := by omega
            have BF : Hid (M.bysL (L.take j) = M.encB G.m) := by unfold Hid; rw [ej, List.take_length, EB.out]
            rw [BF.out] at HO ⊢
            have bl := BL.out j hj
            rw [BF.out] at bl
            have f0 : M.encF G.m = if 6000 < (M.encB G.m).length then 4 else 0 := by unfold M.encF; rw [if_neg (by rw [H0.out]; simp)]
            have OM : Hid (wr.ownsRow w.heap.size 5 1 (.slice va (M.encB G.m).length vc) (M.encB G.m).length (byCells (M.encB G.m))) := own_low KW.out.size HO.out
            have KE := hide (below_on KW.out KZ.out)
            by_cases big : 6000 < (M.encB G.m).length
            · rw [if_pos big] at f0
              have ev : M.encV G.m = [] := by unfold M.encV; rw [if_neg (by rw [f0]; decide)]
              have F0 := hide f0
              have EV := hide ev
              clear f0 ev BF BL BI B8 EB LI RL ej HO
              generalize M.encB G.m = E at *
              have bz : (6000 : Int) < (E.length : Int) := by omega
              go_wp2
              go_ret2
              exact ⟨.slice none 0 0, by rw [F0.out]; rfl, by rw [EV.out]; exact World.ownsRow_nil _ _ _ _, KE.out⟩
            · rw [if_neg big] at f0
              have ev : M.encV G.m = M.encB G.m := by unfold M.encV; rw [if_pos f0]
              have F0 := hide f0
              have EV := hide ev
              clear f0 ev BF BL BI B8 EB LI RL ej HO
              generalize M.encB G.m = E at *
              have bz : ¬ (6000 : Int) < (E.length : Int) := by omega
              go_wp2
              go_ret2
              exact ⟨.slice va E.length vc, by rw [F0.out]; rfl, by rw [EV.out]; exact OM.out, KE.out⟩
  · have e1 : M.encF G.m = M.groveF G.m := by unfold M.encF; rw [if_pos h0]
    have e2 : M.encV G.m = [] := by unfold M.encV; rw [if_neg (by rw [e1]; exact h0)]
    rw [e1, e2]
    unfold Gr.v
    have q1 : (M.groveF G.m != 0) = true := by rw [bne_iff_ne]; exact h0
    clear h e1 e2 h0
    generalize M.groveF G.m = e0 at *
    go_enter Tryd.func4, Tryd.ntmps4
    go_wp2_with (go_at_call 14; refine (HR.out _).mono ?_; rintro e w1 ⟨rfl, hb⟩; have k1 := hide (below_on (B0.out _) hb); clear hb)
    go_ret2
    exact ⟨_, rfl, World.ownsRow_nil _ _ _ _, k1.out⟩

end Go.Proofs.YtdadjppdonephagDoor
