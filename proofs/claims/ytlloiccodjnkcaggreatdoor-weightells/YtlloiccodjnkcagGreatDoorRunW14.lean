/-
  Several texts as one: WeiCome, WeiSqr, MathWn, GroC, GroW, MathO.
-/
import Derived.Test.YtlloiccodjnkcagGreatDoorRunW13
import Derived.Test.YtlloiccodjnkcagGreatDoorRunW1
import Derived.Deep.AppendLies
import Derived.Deep.RegionLaw
import Derived.Deep.RegionWith
import Derived.Deep.RegionHeld3
import Derived.OwnWalk
import Derived.Laws.OwnMore
import Derived.RegionTactic
import Derived.Deep.Cut
import Derived.Deep.CutRange
import Derived.Test.YtlloiccodjnkcagGreatDoorRunW11
import Derived.Test.YtlloiccodjnkcagGreatDoorRunW7
import Derived.BigQuiet
import Derived.Deep.QuietTactic
import Derived.Test.YtlloiccodjnkcagGreatDoorRunW12
import Derived.Test.YtlloiccodjnkcagGreatDoorRunW8
import Derived.Test.YtlloiccodjnkcagGreatDoorRunW4
import Derived.Test.YtlloiccodjnkcagGreatDoorRunW10
namespace Go.Proofs.YtlloiccodjnkcagGreatDoor
open Go.ChangeShapes Go.WideShapes Go.ChangeAt Go.RowKit Go.Lib
set_option linter.unusedVariables false

theorem infoSl : (Tryz.prog.info? 27).map (fun i => (i.zero, i.size, i.bytes)) = some (some (.slice none 0 0), 1, 24) := by kernel_rfl
theorem made_sl (n : Nat) : (madeCells (Value.cells (.slice none 0 0)) (n * 1)).toList = (List.range n).map fun _ => Value.slice none 0 0 := by
  rw [Nat.mul_one, show Value.cells (.slice none 0 0) = #[Value.slice none 0 0] from rfl, toList_madeCells_one]
  rw [List.map_const', List.length_range]
theorem cmI_len {t : List M.Nd} {xs : List Sx} {k a b f : Nat} {c : Int} {n j : Nat} : (cmI t xs k a b f c n j).length ≤ xs.length := by
  have h1 : ∀ i, (hX t xs i).length ≤ xs.length := hX_len t xs
  have h2 : ∀ bb, (partX ((hX t xs k).take n) f c bb).length ≤ xs.length := fun bb => Nat.le_trans (List.length_filter_le _ _) (Nat.le_trans (by rw [List.length_take]; exact Nat.min_le_right ..) (h1 k))
  unfold cmI
  split
  · exact h2 true
  · split
    · exact h2 false
    · unfold cmL
      split
      · exact h1 _
      · split
        · exact h1 _
        · exact Nat.zero_le _
theorem cmL_mem {t : List M.Nd} {xs : List Sx} {k j : Nat} {x : Sx} (h : x ∈ cmL t xs k j) : x ∈ xs := by
  unfold cmL at h
  split at h
  · exact hX_mem h
  · split at h
    · exact hX_mem h
    · cases h

set_option maxHeartbeats 16000000 in
set_option maxRecDepth 10000 in
theorem wcome_any (a b : Option Addr) (ts : List M.Nd) (xs : List Sx) (ca cb m : Nat) (w : World) (ht : RdN w a ts) (hx : RdL w b xs) (D : Dwn ts xs m) :
    Calls Tryz.prog 40 #[.slice a ts.length ca, .slice b xs.length cb] w fun e w' => ∃ g V, e = .returned (.slice (some ⟨g, 0, none⟩) ts.length ts.length) ∧ V 0 = .slice b xs.length cb ∧ Cm w.heap.size w' g ts.length V (hX ts xs) ∧ Below w.heap.size w w' := by
  have F := D.fair
  have l63 := F.1
  have l0 := F.2.1
  obtain ⟨bt, ot, rfl, hbt, hct⟩ := ht.2 (by intro e; rw [e] at l0; simp at l0)
  have HN : Hid (∀ W, Below w.heap.size w W → ∀ j, j < ts.length → SixAt W bt (ot + j * 6) (M.nAt ts j)) := fun W hW j hj => (hct j hj).below hW hbt
  have HX := hide hx
  have AK : Hid (∀ k, k < ts.length → M.nf (M.nAt ts k) ≠ -1 → ∃ p q f : Nat, M.nl (M.nAt ts k) = (p : Int) ∧ M.nr (M.nAt ts k) = (q : Int) ∧ M.nf (M.nAt ts k) = (f : Int) ∧ k < p ∧ p < ts.length ∧ k < q ∧ q < ts.length ∧ p ≠ q ∧ f < m ∧ (∀ j, cmI ts xs k p q f (M.nc (M.nAt ts k)) 0 j = cmL ts xs k j) ∧ (∀ j, j < ts.length → cmI ts xs k p q f (M.nc (M.nAt ts k)) (hX ts xs k).length j = cmL ts xs (k + 1) j)) := fun k hk hn => by
    obtain ⟨p, q, ep, eq, h1, h2, h3, h4, h5⟩ := M.ask_at F.2.2.2.2.1 hk hn
    obtain ⟨q1, q2, _⟩ := M.node_ask (F.2.2.2.2.1 k hk) hn
    refine ⟨p, q, (M.nf (M.nAt ts k)).toNat, ep, eq, by omega, h1, h2, h3, h4, h5, by omega, cmI_start F hk hn ep eq _ _, fun j hj => cmI_end D hk hn ep eq hj⟩
  have RM : Hid (∀ x ∈ xs, x.2.1.length = m) := fun x hx => (D.row x hx).1
  have LC : Hid (∀ k, ∀ x ∈ xs, ∀ f, f < m → M.lessC (M.nAt ts k) (x.2.1.getD f 0) = decide (x.2.1.getD f 0 < M.nc (M.nAt ts k))) := fun k x hx f hf => by
    obtain ⟨r1, r2⟩ := D.row x hx
    have hl : f < x.2.1.length := by omega
    unfold M.lessC
    rw [if_neg]
    intro e
    apply r2
    rw [← e, M.getD_at hl]
    exact List.getElem_mem hl
  have TL := hide (fun k x W => toleft_any (M.nAt ts k) x W)
  have L60 : Hid (∀ k p q f c n j, (cmI ts xs k p q f c n j).length ≤ 60) := fun k p q f c n j => Nat.le_trans cmI_len D.le
  have HL : Hid (∀ k, (hX ts xs k).length ≤ 60) := fun k => Nat.le_trans (hX_len _ _ _) D.le
  have CZ : Hid (∀ j, 0 < j → j < ts.length → cmL ts xs 0 j = []) := fun j h0 hj => cmL_zero F hj h0
  have CF : Hid (∀ k, k < ts.length → M.nf (M.nAt ts k) = -1 → ∀ j, j < ts.length → cmL ts xs (k + 1) j = cmL ts xs k j) := fun k hk hl j hj => cmL_leaf F hk hl hj
  have CH : Hid (∀ k, k < ts.length → cmL ts xs k k = hX ts xs k) := fun k hk => cmL_here F hk
  have C0 : Hid (hX ts xs 0 = xs) := hX_root D
  have CE : Hid (∀ j, j < ts.length → cmL ts xs ts.length j = hX ts xs j) := fun j hj => cmL_all F hj
  obtain ⟨i1, hi1, hs0, hs1, hs2⟩ := info_parts infoSl
  have I1 := hide hi1
  obtain ⟨i0, hi, hz0, hz1, hz2⟩ := info_parts infoSam
  have I0 := hide hi
  have tz : (0 : Int) < (ts.length : Int) := by omega
  have MX : Hid (ts.length ≤ maxLen) := by unfold Hid maxLen; omega
  clear ht hx D F hct hi hi1
  go_enter Tryz.func40, Tryz.ntmps40
  go_upto_region 2 with (at_make; refine wpList_make_full _ rfl (.tmp 12) (.tmp 12) 82 rfl w.heap.size 27 i1 (.slice none 0 0) 1 Tryz.underlying82 I1.out hs0 hs1 .i64 .i64 _ _ ts.length rfl rfl rfl rfl (by rw [hs2]; omega) MX.out (Nat.le_refl _) ?_; intro w1 hown hgrow; rw [made_sl] at hown; have O1 := hide hown; have K1 : Hid (Below w.heap.size w w1) := ((Below.refl _ w).grown hgrow (Nat.le_refl _) (fun k hk => by cases hk)); clear hown hgrow)
  have M1 : Hid (Cm w.heap.size w1 w.heap.size ts.length (fun _ => .slice none 0 0) (cmL ts xs 0)) := ⟨O1.out, fun i h0 hi => by rw [CZ.out i h0 hi]; exact World.ownsRow_nil _ _ _ _, fun i j _ _ _ _ _ => .inl rfl, fun i _ _ e => by cases e⟩
  have c1 := M1.out.cell l0
  have f1 := M1.out.frozen 0
  go_upto_region 3 with fail
  obtain ⟨w2, hw2⟩ : ∃ X, X = w1.setCell ⟨w.heap.size, 0, none⟩ (.slice b xs.length cb) := ⟨_, rfl⟩
  rw [← hw2]
  have M2 : Hid (Cm w.heap.size w2 w.heap.size ts.length (fun j => if j = 0 then .slice b xs.length cb else .slice none 0 0) (cmL ts xs 0)) := by
    unfold Hid
    rw [hw2]
    refine ⟨by rw [← map_upd ts.length (fun _ => .slice none 0 0)]; exact (O1.out.stored 0 _).1, fun i h0 hi => by rw [CZ.out i h0 hi]; simp only [if_neg (Nat.ne_of_gt h0)]; exact World.ownsRow_nil _ _ _ _, fun i j h0 _ _ _ _ => by simp only [if_neg (Nat.ne_of_gt h0)]; exact .inl rfl, fun i h0 _ e => by simp only [if_neg (Nat.ne_of_gt h0)] at e; cases e⟩
  have K2 : Hid (Below w.heap.size w w2) := by rw [hw2]; exact K1.out.setCell (p := ⟨w.heap.size, 0, none⟩) (Nat.le_refl _) _
  clear hw2 M1 O1 K1 c1 f1 CZ
  go_wp2
  go_loopw [19] (fun i wr => ∃ (k : Nat) (V : Nat → Value), k ≤ ts.length ∧ i = .int .i64 k ∧ Hid (Cm w.heap.size wr w.heap.size ts.length V (cmL ts xs k)) ∧ Hid (V 0 = .slice b xs.length cb) ∧ Hid (Below w.heap.size w wr)) (fun i _ => ts.length - (intOf i).toNat)
  case atStart => exact ⟨0, _, Nat.zero_le _, rfl, M2, rfl, K2⟩
  case round =>
    clear M2 K2
    obtain ⟨k, V, hk, rfl, CM, V0, KB⟩ := hrel
    obtain ⟨wm, hwm⟩ : ∃ X, X = wr := ⟨_, rfl⟩
    subst hwm
    by_cases hlt : k < ts.length
    · have kz : (k : Int) < (ts.length : Int) := by omega
      obtain ⟨s0, s1, s2, s3, s4, s5⟩ := HN.out wm KB.out k hlt
      have CA : Hid (∀ o, Cm w.heap.size (wm.alloc o) w.heap.size ts.length V (cmL ts xs k) ∧ Below w.heap.size w (wm.alloc o)) := fun o => ⟨CM.out.up ((Below.refl _ _).alloc (Nat.le_refl _) o), KB.out.alloc KB.out.size o⟩
      by_cases hf : M.nf (M.nAt ts k) = -1
      · have q : (M.nf (M.nAt ts k) == -1) = true := by rw [beq_iff_eq]; exact hf
        have C2 : Hid (∀ o, Cm w.heap.size (wm.alloc o) w.heap.size ts.length V (cmL ts xs (k + 1)) ∧ Below w.heap.size w (wm.alloc o)) := fun o => ⟨(CA.out o).1.same (fun i _ hi => CF.out k hlt hf i hi), (CA.out o).2⟩
        clear HN AK RM LC TL L60 HL CF CH C0 CE CA hf CM KB HX
        generalize M.nf (M.nAt ts k) = nf at *
        generalize M.nc (M.nAt ts k) = nc at *
        generalize M.nl (M.nAt ts k) = nl at *
        generalize M.nr (M.nAt ts k) = nr at *
        generalize M.ns (M.nAt ts k) = ns at *
        generalize M.nv (M.nAt ts k) = nv at *
        go_wp2
        go_roundw
        case rel => exact ⟨k + 1, V, by omega, by go_num, (C2.out _).1, V0, (C2.out _).2⟩
        case measure => simp [intOf]; omega
      · obtain ⟨p, q, f, ep, eq, ef, h1, h2, h3, h4, h5, fm, I0', IE⟩ := AK.out k hlt hf
        have qf : ((f : Int) == -1) = false := by rw [beq_eq_false_iff_ne]; omega
        have TL0 := hide (TL.out k)
        have LC0 := hide (fun x hx => LC.out k x hx f fm)
        unfold ndV at TL0
        rw [ep] at s2 TL0
        rw [eq] at s3 TL0
        rw [ef] at s0 TL0
        have MI : Hid (∀ n (hn : n < (hX ts xs k).length) j, cmI ts xs k p q f (M.nc (M.nAt ts k)) (n + 1) j = if j = (if (hX ts xs k)[n].2.1.getD f 0 < M.nc (M.nAt ts k) then p else q) then cmI ts xs k p q f (M.nc (M.nAt ts k)) n j ++ [(hX ts xs k)[n]] else cmI ts xs k p q f (M.nc (M.nAt ts k)) n j) := fun n hn j => cmI_more h5 hn j
        have IK : Hid (∀ n, cmI ts xs k p q f (M.nc (M.nAt ts k)) n k = hX ts xs k) := fun n => by
          rw [cmI_stay (by omega) (by omega)]; exact CH.out k hlt
        have IS := hide I0'
        have IL := hide IE
        have IN := hide (fun n j => L60.out k p q f (M.nc (M.nAt ts k)) n j)
        have HK := HL.out k
        have HM : Hid (∀ n (hn : n < (hX ts xs k).length), (hX ts xs k)[n] ∈ xs) := fun n hn => hX_mem (List.getElem_mem hn)
        have k0 : Hid (k = 0 → hX ts xs k = xs) := fun e => by rw [e]; exact C0.out
        -- where those lie that come here
        obtain ⟨va, vc, EV, RV⟩ : ∃ va vc, V k = .slice va (hX ts xs k).length vc ∧ Hid (∀ (W : World) (V' : Nat → Value) (n : Nat), Cm w.heap.size W w.heap.size ts.length V' (cmI ts xs k p q f (M.nc (M.nAt ts k)) n) → V' k = V k → Below w.heap.size w W → RdL W va (hX ts xs k)) := by
          rcases Nat.eq_zero_or_pos k with z | z
          · subst z
            refine ⟨b, cb, by rw [C0.out]; exact V0.out, fun W V' n _ _ hW => by rw [C0.out]; exact HX.out.below hW⟩
          · have r := CM.out.rd z hlt (by rw [CH.out k hlt]; unfold maxLen; omega) (fun x hx => (HX.out.2.1 x (cmL_mem hx)).below KB.out)
            rw [CH.out k hlt] at r
            obtain ⟨va, vc, e, _⟩ := r
            refine ⟨va, vc, e, fun W V' n hC hV hW => ?_⟩
            have r2 := hC.rd z hlt (by rw [IK.out n]; unfold maxLen; omega) (fun x hx => by rw [IK.out n] at hx; exact (HX.out.2.1 x (hX_mem hx)).below hW)
            rw [IK.out n] at r2
            obtain ⟨vb, vd, e2, r3⟩ := r2
            rw [hV, e] at e2
            cases e2
            exact r3
        have RR : Hid (∀ W, Below w.heap.size w W → ∀ n (hn : n < (hX ts xs k).length), Rd W (hX ts xs k)[n].1 (hX ts xs k)[n].2.1) := fun W hW n hn => (HX.out.2.1 _ (HM.out n hn)).below hW
        have RL : Hid (∀ n (hn : n < (hX ts xs k).length), (hX ts xs k)[n].2.1.length = m) := fun n hn => RM.out _ (HM.out n hn)
        have LD : Hid (∀ n (hn : n < (hX ts xs k).length), M.lessC (M.nAt ts k) ((hX ts xs k)[n].2.1.getD f 0) = decide ((hX ts xs k)[n].2.1.getD f 0 < M.nc (M.nAt ts k))) := fun n hn => LC0.out _ (HM.out n hn)
        have cv := (CA.out (.cells #[.int .i64 (f : Nat), .int .i64 (M.nc (M.nAt ts k)), .int .i64 (p : Nat), .int .i64 (q : Nat), .bool (M.ns (M.nAt ts k)), .int .i64 (M.nv (M.nAt ts k))] 64)).1.cell hlt
        rw [EV] at cv
        have EV2 := hide EV
        clear HN AK RM LC TL L60 HL CF CH C0 CE hf I0' IE HM k0 LC0 ep eq ef EV HX
        generalize hls : M.lessC (M.nAt ts k) = less at *
        clear hls
        generalize M.nc (M.nAt ts k) = nc at *
        generalize M.ns (M.nAt ts k) = ns at *
        generalize M.nv (M.nAt ts k) = nv at *
        generalize hX ts xs k = H at *
        obtain ⟨W5, hW5⟩ : ∃ X, X = wm.alloc (.cells #[.int .i64 (f : Nat), .int .i64 nc, .int .i64 (p : Nat), .int .i64 (q : Nat), .bool ns, .int .i64 nv] 64) := ⟨_, rfl⟩
        have C5 : Hid (Cm w.heap.size W5 w.heap.size ts.length V (cmI ts xs k p q f nc 0)) := by
          unfold Hid; rw [hW5]; exact (CA.out _).1.same (fun i _ _ => IS.out i)
        have K5 : Hid (Below w.heap.size w W5) := by rw [hW5]; exact (CA.out _).2
        have X5 : Hid (SixAt W5 wm.heap.size 0 ((f : Int), nc, (p : Int), (q : Int), ns, nv)) := by
          unfold Hid; rw [hW5]; exact ⟨World.cell?_alloc_at _ _ _ 0 rfl, World.cell?_alloc_at _ _ _ 1 rfl, World.cell?_alloc_at _ _ _ 2 rfl, World.cell?_alloc_at _ _ _ 3 rfl, World.cell?_alloc_at _ _ _ 4 rfl, World.cell?_alloc_at _ _ _ 5 rfl⟩
        have Z5 : Hid (W5.heap.size = wm.heap.size + 1) := by rw [hW5]; simp [Hid]
        have NB : Hid (∀ i, 0 < i → i < ts.length → (V i).ownBlock ≠ some wm.heap.size) := fun i i0 hi e => by have := ((CM.out.own i i0 hi).lt _ e).2; omega
        have GB : Hid (w.heap.size < wm.heap.size) := CM.out.lt.2
        rw [← hW5] at cv
        go_upto_region 6 with fail
        rw [← hW5]
        obtain ⟨n0, n1, n2, n3, n4, n5⟩ := X5.out
        have n0' : W5.cell? ⟨wm.heap.size, 0, none⟩ = some (.int .i64 (f : Nat)) := n0
        clear hW5 CA IS CM KB s0 s1 s2 s3 s4 s5 n0 n1 n2 n3 n4 n5
        go_wp2
        clear n0' cv
        go_loopw [32] (fun i wr => ∃ (n : Nat) (V' : Nat → Value), n ≤ H.length ∧ i = .int .i64 n ∧ Hid (Cm w.heap.size wr w.heap.size ts.length V' (cmI ts xs k p q f nc n)) ∧ Hid (V' k = V k ∧ V' 0 = V 0 ∧ (∀ i, 0 < i → i < ts.length → (V' i).ownBlock ≠ some wm.heap.size) ∧ wm.heap.size < wr.heap.size) ∧ Hid (SixAt wr wm.heap.size 0 ((f : Int), nc, (p : Int), (q : Int), ns, nv)) ∧ Hid (Below w.heap.size w wr)) (fun i _ => H.length - (intOf i).toNat)
        case atStart => exact ⟨0, V, Nat.zero_le _, rfl, C5, ⟨rfl, rfl, NB.out, by rw [Z5.out]; omega⟩, X5, K5⟩
        case round =>
          clear C5 K5 X5 Z5 NB
          obtain ⟨n, V', hn, rfl, CI, VI, XI, KI⟩ := hrel
          obtain ⟨wj, hwj⟩ : ∃ X, X = wr := ⟨_, rfl⟩
          subst hwj
          by_cases hln : n < H.length
          · have nz : (n : Int) < (H.length : Int) := by omega
            obtain ⟨bl, ol, rfl, hbl, hcl⟩ := (RV.out wj V' n CI.out VI.out.1 KI.out).2.2 (by intro e; rw [e] at hln; simp at hln)
            obtain ⟨q0, q1⟩ := hcl n hln
            have rl := RL.out n hln
            have fr : f < H[n].2.1.length := by omega
            obtain ⟨bx, ox, ex, hbx, hcx⟩ := (RR.out wj KI.out n hln).2 (by intro e; rw [e] at fr; simp at fr)
            have hv := hcx f fr
            have MN := hide (MI.out n hln)
            have LN := LD.out n hln
            have TV := hide (TL0.out (H[n].2.1.getD f 0))
            rw [LN] at TV
            have SX : Hid (sxV H[n] = .slice (some ⟨bx, ox, none⟩) H[n].2.1.length H[n].2.2.1) := by unfold Hid sxV; rw [ex]
            unfold sxV at q0
            rw [ex] at q0
            have fz : (f : Int) < (H[n].2.1.length : Int) := by omega
            have f0 : (0 : Int) ≤ (f : Int) := by omega
            have lp := hide (fun j => IN.out n j)
            obtain ⟨U, hU⟩ : ∃ U, U = H[n] := ⟨_, rfl⟩
            rw [← hU] at q0 q1 fz SX MN TV
            simp only [← hU] at hv
            clear hcl hcx ex fr rl MI IN IL RR RL LD TL0 LN hU IK RV
            obtain ⟨ra0, rr, rc, tt⟩ := U
            dsimp only at q0 q1 hv fz SX MN TV
            generalize rr.getD f 0 = v at *
            generalize hrl : rr.length = rl at *
            clear hrl
            obtain ⟨W6, hW6⟩ : ∃ X, X = wj.alloc (.cells #[.slice (some ⟨bx, ox, none⟩) rl rc, .int .i64 tt] 52) := ⟨_, rfl⟩
            have B60 : Hid (Below wj.heap.size wj W6) := by rw [hW6]; exact (Below.refl _ _).alloc (Nat.le_refl _) _
            have S6 : Hid (W6.heap.size = wj.heap.size + 1) := by rw [hW6]; simp [Hid]
            have C6 := hide (CI.out.up B60.out)
            have K6 := hide (below_on KI.out B60.out)
            have N6 : Hid (∀ X, Below W6.heap.size W6 X → X.cell? ⟨wj.heap.size, 0, none⟩ = some (.slice (some ⟨bx, ox, none⟩) rl rc) ∧ X.cell? ⟨wj.heap.size, 1, none⟩ = some (.int .i64 tt)) := fun X hX => ⟨(new_kept hW6 hX).1 0 _ rfl, (new_kept hW6 hX).1 1 _ rfl⟩
            have B6 : Hid (∀ X, Below W6.heap.size W6 X → SixAt X wm.heap.size 0 ((f : Int), nc, (p : Int), (q : Int), ns, nv)) := fun X hX => XI.out.below (below_on B60.out hX) VI.out.2.2.2
            have R6 : Hid (∀ X, Below W6.heap.size W6 X → X.cell? ⟨bx, ox + f, none⟩ = some (.int .i64 v)) := fun X hX => ((below_on B60.out hX).cell (p := ⟨bx, ox + f, none⟩) hbx).trans hv
            have NBL := VI.out.2.2.2
            go_upto_region 10 with fail
            rw [← hW6]
            obtain ⟨x0, x1, x2, x3, x4, x5⟩ := B6.out W6 (Below.refl _ _)
            have b0 : W6.cell? ⟨wm.heap.size, 0, none⟩ = some (.int .i64 (f : Nat)) := x0
            have b1 : W6.cell? ⟨wm.heap.size, 1, none⟩ = some (.int .i64 nc) := x1
            have b2 : W6.cell? ⟨wm.heap.size, 2, none⟩ = some (.int .i64 (p : Nat)) := x2
            have b3 : W6.cell? ⟨wm.heap.size, 3, none⟩ = some (.int .i64 (q : Nat)) := x3
            have b4 : W6.cell? ⟨wm.heap.size, 4, none⟩ = some (.bool ns) := x4
            have b5 : W6.cell? ⟨wm.heap.size, 5, none⟩ = some (.int .i64 nv) := x5
            obtain ⟨y0, y1⟩ := N6.out W6 (Below.refl _ _)
            have r6 := R6.out W6 (Below.refl _ _)
            have DR : Hid (Below W6.heap.size W6 W6.drew) := (Below.refl _ _).drew
            clear hW6 q0 q1 hv x0 x1 x2 x3 x4 x5 XI CI KI
            go_upto_region 11 with fail
            go_region_held3 (fun X => X.cell? ⟨wm.heap.size, 0, none⟩ = some (.int .i64 (f : Nat)) ∧ X.cell? ⟨wm.heap.size, 1, none⟩ = some (.int .i64 nc) ∧ X.cell? ⟨wm.heap.size, 2, none⟩ = some (.int .i64 (p : Nat)) ∧ X.cell? ⟨wm.heap.size, 3, none⟩ = some (.int .i64 (q : Nat)) ∧ X.cell? ⟨wm.heap.size, 4, none⟩ = some (.bool ns) ∧ X.cell? ⟨wm.heap.size, 5, none⟩ = some (.int .i64 nv) ∧ X.cell? ⟨wj.heap.size, 0, none⟩ = some (.slice (some ⟨bx, ox, none⟩) rl rc) ∧ X.cell? ⟨bx, ox + f, none⟩ = some (.int .i64 v)) (go_keep) ((go_at_call 65; refine (TV.out _).mono ?_; rintro e w7 ⟨rfl, hb7⟩; have H7 := hide (below_on DR.out hb7); have X70 := B6.out w7 H7.out; have k70 : w7.cell? ⟨wm.heap.size, 0, none⟩ = some (.int .i64 (f : Nat)) := X70.1; have k71 : w7.cell? ⟨wm.heap.size, 1, none⟩ = some (.int .i64 nc) := X70.2.1; have k72 : w7.cell? ⟨wm.heap.size, 2, none⟩ = some (.int .i64 (p : Nat)) := X70.2.2.1; have k73 : w7.cell? ⟨wm.heap.size, 3, none⟩ = some (.int .i64 (q : Nat)) := X70.2.2.2.1; have k74 : w7.cell? ⟨wm.heap.size, 4, none⟩ = some (.bool ns) := X70.2.2.2.2.1; have k75 : w7.cell? ⟨wm.heap.size, 5, none⟩ = some (.int .i64 nv) := X70.2.2.2.2.2; have k76 := (N6.out w7 H7.out).1; have k77 := R6.out w7 H7.out; clear hb7 X70))
            clear k70 k71 k72 k73 k74 k75 k76 k77
            have K7 := hide (below_on K6.out H7.out)
            have C7 := hide (C6.out.up H7.out)
            have S7 : Hid (wm.heap.size < w7.heap.size ∧ w.heap.size < wm.heap.size) := ⟨by have := H7.out.size; have := S6.out; omega, GB.out⟩
            clear y0 y1 r6 b0 b1 b2 b3 b4 b5 C6 K6
            obtain ⟨y0, y1⟩ := N6.out w7 H7.out
            have X7 := hide (B6.out w7 H7.out)
            have b2 : w7.cell? ⟨wm.heap.size, 2, none⟩ = some (.int .i64 (p : Nat)) := X7.out.2.2.1
            have AL : Hid (∀ o, Below w7.heap.size w7 (w7.alloc o)) := fun o => (Below.refl _ _).alloc (Nat.le_refl _) o
            have y0a : ∀ o, (w7.alloc o).cell? ⟨wj.heap.size, 0, none⟩ = some (.slice (some ⟨bx, ox, none⟩) rl rc) := fun o => (N6.out _ (below_on H7.out (AL.out o))).1
            have y1a : ∀ o, (w7.alloc o).cell? ⟨wj.heap.size, 1, none⟩ = some (.int .i64 tt) := fun o => (N6.out _ (below_on H7.out (AL.out o))).2
            -- one more at a node
            have PU : Hid (∀ t : Nat, k < t → t < ts.length → (∀ j, cmI ts xs k p q f nc (n + 1) j = if j = t then cmI ts xs k p q f nc n j ++ [(ra0, rr, rc, tt)] else cmI ts xs k p q f nc n j) → ∀ (w9 : World) (o : Obj) (g7 c7 : Nat), (w7.alloc o).grownBy w9 (V' t).ownBlock → w9.ownsRow w.heap.size 52 2 (.slice (some ⟨g7, 0, none⟩) ((cmI ts xs k p q f nc n t).length + 1) c7) ((cmI ts xs k p q f nc n t).length + 1) (saCells (cmI ts xs k p q f nc n t) ++ [.slice (some ⟨bx, ox, none⟩) rl rc, .int .i64 tt]) → ((V' t).ownBlock = some g7 ∨ g7 = w7.heap.size + 1) → (w9.cell? ⟨w.heap.size, t, none⟩ = some (V' t) ∧ w9.frozen? ⟨w.heap.size, t, none⟩ = false) ∧ Hid (Cm w.heap.size (w9.setCell ⟨w.heap.size, t, none⟩ (.slice (some ⟨g7, 0, none⟩) ((cmI ts xs k p q f nc n t).length + 1) c7)) w.heap.size ts.length (fun j => if j = t then .slice (some ⟨g7, 0, none⟩) ((cmI ts xs k p q f nc n t).length + 1) c7 else V' j) (cmI ts xs k p q f nc (n + 1))) ∧ Hid ((if k = t then .slice (some ⟨g7, 0, none⟩) ((cmI ts xs k p q f nc n t).length + 1) c7 else V' k) = V k ∧ (if 0 = t then .slice (some ⟨g7, 0, none⟩) ((cmI ts xs k p q f nc n t).length + 1) c7 else V' 0) = V 0 ∧ (∀ i, 0 < i → i < ts.length → (if i = t then .slice (some ⟨g7, 0, none⟩) ((cmI ts xs k p q f nc n t).length + 1) c7 else V' i : Value).ownBlock ≠ some wm.heap.size) ∧ wm.heap.size < (w9.setCell ⟨w.heap.size, t, none⟩ (.slice (some ⟨g7, 0, none⟩) ((cmI ts xs k p q f nc n t).length + 1) c7)).heap.size) ∧ Hid (SixAt (w9.setCell ⟨w.heap.size, t, none⟩ (.slice (some ⟨g7, 0, none⟩) ((cmI ts xs k p q f nc n t).length + 1) c7)) wm.heap.size 0 ((f : Int), nc, (p : Int), (q : Int), ns, nv)) ∧ Hid (Below w.heap.size w (w9.setCell ⟨w.heap.size, t, none⟩ (.slice (some ⟨g7, 0, none⟩) ((cmI ts xs k p q f nc n t).length + 1) c7)))) := fun t kt htl hm w9 o g7 c7 hg ho hat => by
              have t0 : 0 < t := by omega
              have s7 := S7.out
              have kb := K7.out.size
              have hl7 := C7.out.lt
              have P := C7.out.push kb t0 htl (u := (ra0, rr, rc, tt)) hg (by rw [SX.out]; exact ho) hat
              have nb := VI.out.2.2.1 t t0 htl
              have bw : w9.heap[wm.heap.size]? = w7.heap[wm.heap.size]? := (hg.block _ (by simp; omega) (fun e => nb e.symm)).trans (Below.heap_alloc _ _ _ (by omega))
              have sz9 := hg.size
              refine ⟨⟨P.1, P.2.1⟩, P.2.2.same (fun i _ _ => hm i), ⟨?_, ?_, fun i i0 hi => ?_, ?_⟩, ?_, ?_⟩
              · rw [if_neg (by omega)]; exact VI.out.1
              · rw [if_neg (by omega)]; exact VI.out.2.1
              · by_cases e : i = t
                · subst e
                  simp only [if_pos]
                  intro z
                  have z' : g7 = wm.heap.size := by simpa [Value.ownBlock] using z
                  rcases hat with y | y
                  · exact nb (by rw [y, z'])
                  · omega
                · simp only [if_neg e]; exact VI.out.2.2.1 i i0 hi
              · simp at sz9 ⊢; omega
              · exact six_keep ((Below.heap_setCell _ _ _ _ (show wm.heap.size ≠ w.heap.size by omega)).trans bw) X7.out
              · refine Below.setCell (p := ⟨w.heap.size, t, none⟩) ?_ (Nat.le_refl _) _
                exact (K7.out.alloc kb o).grown hg (by simp; omega) (fun z hz => (C7.out.own t t0 htl |>.lt z hz).1)
            have OW : Hid (∀ t : Nat, k < t → t < ts.length → (w7.cell? ⟨w.heap.size, t, none⟩ = some (V' t) ∧ ∀ o, (w7.alloc o).cell? ⟨w.heap.size, t, none⟩ = some (V' t)) ∧ w7.ownsRow w.heap.size 52 2 (V' t) (cmI ts xs k p q f nc n t).length (saCells (cmI ts xs k p q f nc n t)) ∧ ∃ ta tc, V' t = .slice ta (cmI ts xs k p q f nc n t).length tc) := fun t kt htl => ⟨⟨C7.out.cell htl, fun o => (C7.out.up (AL.out o)).cell htl⟩, C7.out.own t (by omega) htl, own_any (C7.out.own t (by omega) htl)⟩
            have SZ7 : w.heap.size ≤ w7.heap.size := K7.out.size
            clear N6 B6 R6 B60 C7 K7 H7 TV AL VI DR S6 S7 X7 GB EV2 SX
            clear fz
            cases hq : decide (v < nc) with
            | true =>
              have lt : v < nc := of_decide_eq_true hq
              have PT := hide (PU.out p h1 h2 (fun j => by have := MN.out j; rw [if_pos lt] at this; exact this))
              obtain ⟨⟨v1, v2⟩, o7, ta, tc, eT⟩ := OW.out p h1 h2
              rw [eT] at v1 v2 o7 PT
              have O7 := hide o7
              have ln := lp.out p
              have tz2 : ((p : Nat) : Int) < (ts.length : Int) := by omega
              have tz3 : (0 : Int) ≤ ((p : Nat) : Int) := by omega
              clear PU OW MN lt hq eT o7 lp
              generalize hcl : cmI ts xs k p q f nc n p = LT at *
              clear hcl
              go_upto_region 13 with fail
              go_region_law (refine step_append_lies _ rfl (.tmp 53) (.tmp 55) 27 rfl w.heap.size 52 i0 (.agg #[.slice none 0 0, .int .i64 0]) 2 32 Tryz.underlying27 I0.out hz0 hz1 hz2 rfl (by omega) (.slice ta LT.length tc) LT.length (saCells LT) rfl (by first | exact O7.out.alloc _ | exact (O7.out.alloc _).drew) ⟨w7.heap.size, 0, none⟩ 1 1 [.slice (some ⟨bx, ox, none⟩) rl rc, .int .i64 tt] rfl rfl (World.news_of_block (by first | exact heap_alloc_new _ _ | (simp; done))) (by simp [Value.oneCell']) (by omega) (by unfold maxLen; omega) (by omega) (by simp; omega) (w7.heap.size + 1) (by simp) ?_; intro g7 c7 w9 hov7 hgrow7 hat7 hlt7; have P9 := PT.out w9 _ g7 c7 (by first | exact hgrow7 | exact grown_undrew hgrow7) hov7 hat7; have v3 := P9.1.1; have vf := P9.1.2; have Q9 := hide P9.2; clear P9 hov7 hgrow7 hat7)
              all_goals (
                go_wp2
                go_roundw
                case rel => exact ⟨n + 1, _, by omega, by go_num, Q9.out.1, Q9.out.2.1, Q9.out.2.2.1, Q9.out.2.2.2⟩
                case measure => simp [intOf]; omega)
            | false =>
              have lt : ¬ v < nc := of_decide_eq_false hq
              have PT := hide (PU.out q h3 h4 (fun j => by have := MN.out j; rw [if_neg lt] at this; exact this))
              obtain ⟨⟨v1, v2⟩, o7, ta, tc, eT⟩ := OW.out q h3 h4
              rw [eT] at v1 v2 o7 PT
              have O7 := hide o7
              have ln := lp.out q
              have tz2 : ((q : Nat) : Int) < (ts.length : Int) := by omega
              have tz3 : (0 : Int) ≤ ((q : Nat) : Int) := by omega
              clear PU OW MN lt hq eT o7 lp
              generalize hcl : cmI ts xs k p q f nc n q = LT at *
              clear hcl
              go_upto_region 13 with fail
              go_region_law (refine step_append_lies _ rfl (.tmp 53) (.tmp 55) 27 rfl w.heap.size 52 i0 (.agg #[.slice none 0 0, .int .i64 0]) 2 32 Tryz.underlying27 I0.out hz0 hz1 hz2 rfl (by omega) (.slice ta LT.length tc) LT.length (saCells LT) rfl (by first | exact O7.out.alloc _ | exact (O7.out.alloc _).drew) ⟨w7.heap.size, 0, none⟩ 1 1 [.slice (some ⟨bx, ox, none⟩) rl rc, .int .i64 tt] rfl rfl (World.news_of_block (by first | exact heap_alloc_new _ _ | (simp; done))) (by simp [Value.oneCell']) (by omega) (by unfold maxLen; omega) (by omega) (by simp; omega) (w7.heap.size + 1) (by simp) ?_; intro g7 c7 w9 hov7 hgrow7 hat7 hlt7; have P9 := PT.out w9 _ g7 c7 (by first | exact hgrow7 | exact grown_undrew hgrow7) hov7 hat7; have v3 := P9.1.1; have vf := P9.1.2; have Q9 := hide P9.2; clear P9 hov7 hgrow7 hat7)
              all_goals (
                go_wp2
                go_roundw
                case rel => exact ⟨n + 1, _, by omega, by go_num, Q9.out.1, Q9.out.2.1, Q9.out.2.2.1, Q9.out.2.2.2⟩
                case measure => simp [intOf]; omega)
          · have ne : n = H.length := by omega
            have nz : ¬ ((n : Int) < (H.length : Int)) := by omega
            have C6 : Hid (Cm w.heap.size wj w.heap.size ts.length V' (cmL ts xs (k + 1))) := by
              have := CI.out
              rw [ne] at this
              exact this.same (fun i _ hi => (IL.out i hi).symm)
            have V6 : Hid (V' 0 = .slice b xs.length cb) := VI.out.2.1.trans V0.out
            clear ne CI MI IK IN IL RV RR RL LD TL0
            go_wp2
            go_roundw
            case rel => exact ⟨k + 1, V', by omega, by go_num, C6, V6, KI⟩
            case measure => simp [intOf]; omega
    · have ke : k = ts.length := by omega
      have kz : ¬ ((k : Int) < (ts.length : Int)) := by omega
      have C6 : Hid (Cm w.heap.size wm w.heap.size ts.length V (hX ts xs)) := by
        have := CM.out
        rw [ke] at this
        exact this.same (fun i _ hi => (CE.out i hi).symm)
      clear ke CM HN AK RM LC TL L60 HL CF CH C0 CE
      go_wp2
      go_ret
      first
        | exact ⟨w.heap.size, V, rfl, V0.out, C6.out, KB.out⟩
        | exact ⟨w.heap.size, rfl, V, V0.out, C6.out, KB.out⟩

end Go.Proofs.YtlloiccodjnkcagGreatDoor

namespace Go.Proofs.YtlloiccodjnkcagGreatDoor
open Go.ChangeShapes Go.WideShapes Go.ChangeAt Go.RowKit Go.Lib
set_option linter.unusedVariables false

set_option maxHeartbeats 4000000 in
set_option maxRecDepth 10000 in
theorem squares_any (a : Option Addr) (xs : List Sx) (ca m : Nat) (w : World) (h : RdL w a xs) (A : Ask xs m) :
    Calls Tryz.prog 41 #[.slice a xs.length ca] w fun e w' => e = .returned (.int .i64 (M.sprd (sms xs))) ∧ Below w.heap.size w w' := by
  have l60 := A.le
  by_cases h0 : xs.length = 0
  · have E : Hid ((0 : Int) = M.sprd (sms xs)) := (M.sprd_none (by rw [sms_len]; exact h0)).symm
    have q : ((xs.length : Int) == 0) = true := by rw [beq_iff_eq]; omega
    clear h A h0
    generalize xs.length = n at *
    go_enter Tryz.func41, Tryz.ntmps41
    go_wp2
    go_ret
    exact ⟨ret_int E.out, Below.refl _ _⟩
  · have q : ((xs.length : Int) == 0) = false := by rw [beq_eq_false_iff_ne]; omega
    have hp : 0 < xs.length := by omega
    have HL := hide h
    have AA := hide A
    have SM : Hid (∀ k (hk : k < xs.length), M.sumT ((sms xs).take (k + 1)) = M.sumT ((sms xs).take k) + xs[k].2.2.2 ∧ M.sqT ((sms xs).take (k + 1)) = M.sqT ((sms xs).take k) + xs[k].2.2.2 * xs[k].2.2.2) := fun k hk => by
      rw [List.take_succ_eq_append_getElem (by rw [sms_len]; exact hk), M.sumT_app, M.sqT_app]
      have e : (sms xs)[k]'(by rw [sms_len]; exact hk) = sm xs[k] := by simp [sms]
      rw [e]
      refine ⟨?_, ?_⟩
      · show _ + (xs[k].2.2.2 + 0) = _; omega
      · show _ + (xs[k].2.2.2 * xs[k].2.2.2 + 0) = _; omega
    have BQ : Hid (∀ k, 0 ≤ M.sqT ((sms xs).take k) ∧ M.sqT ((sms xs).take k) ≤ 60000000) := fun k => by
      have := M.sqT_bd (l := (sms xs).take k) fun s hs => by
        obtain ⟨x, hx, rfl⟩ := List.mem_map.1 (List.mem_of_mem_take hs)
        exact A.tgt x hx
      have l : ((sms xs).take k).length ≤ 60 := by rw [List.length_take, sms_len]; omega
      omega
    have ES : Hid (M.sprd (sms xs) = ((xs.length : Nat) * M.sqT ((sms xs).take xs.length) - M.sumT ((sms xs).take xs.length) * M.sumT ((sms xs).take xs.length)) / (xs.length : Nat)) := by
      unfold Hid
      rw [M.sprd_some (by rw [sms_len]; exact hp), sms_len, ← sms_len xs, List.take_length]
    clear h A h0
    generalize M.sprd (sms xs) = o at *
    go_enter Tryz.func41, Tryz.ntmps41
    go_wp2
    go_loopw [3, 4, 12] (fun s q i wr => ∃ k : Nat, k ≤ xs.length ∧ i = .int .i64 k ∧ s = .int .i64 (M.sumT ((sms xs).take k)) ∧ q = .int .i64 (M.sqT ((sms xs).take k)) ∧ Hid (Below w.heap.size w wr)) (fun _ _ i _ => xs.length - (intOf i).toNat)
    case atStart => exact ⟨0, Nat.zero_le _, rfl, rfl, rfl, Below.refl _ _⟩
    case round =>
      obtain ⟨k, hk, rfl, rfl, rfl, K⟩ := hrel
      obtain ⟨b0, b1⟩ := AA.out.all k
      obtain ⟨c0, c1⟩ := BQ.out k
      by_cases hlt : k < xs.length
      · obtain ⟨bl, ol, rfl, hbl, hcl⟩ := (HL.out.below K.out).2.2 (by intro e; rw [e] at hlt; simp at hlt)
        obtain ⟨q0, q1⟩ := hcl k hlt
        unfold sxV at q0
        have KA : Hid (∀ o, Below w.heap.size w (wr.alloc o)) := fun o => K.out.alloc K.out.size o
        obtain ⟨t0, t1⟩ := AA.out.tgt xs[k] (List.getElem_mem hlt)
        have S1 := hide (SM.out k hlt)
        have kz : (k : Int) < (xs.length : Int) := by omega
        clear hcl SM ES BQ HL AA
        generalize xs[k].2.2.2 = t at *
        generalize M.sumT ((sms xs).take k) = s at *
        generalize M.sqT ((sms xs).take k) = qq at *
        have sq := M.sqR_in t0 t1
        have x1 : IntKind.i64.wrap (t * t) = t * t := wrap_in5 _ (by omega) (by omega)
        have x2 : IntKind.i64.wrap (qq + t * t) = qq + t * t := wrap_in5 _ (by omega) (by omega)
        clear sq
        generalize xs[k].2.1.length = rl at *
        generalize xs[k].2.2.1 = rc at *
        generalize xs[k].1 = ra at *
        go_wp2
        go_roundw
        case rel => exact ⟨k + 1, by omega, by go_num, by rw [S1.out.1], by rw [S1.out.2], KA.out _⟩
        case measure => simp [intOf]; omega
      · have ke : k = xs.length := by omega
        have kz : ¬ ((k : Int) < (xs.length : Int)) := by omega
        subst ke
        have sq := M.sqR_in b0 b1
        have mq := M.mulp_in (a := (xs.length : Int)) (b := M.sqT ((sms xs).take xs.length)) (A := 60) (B := 60000000) (by omega) (by omega) c0 c1
        have nn : 0 ≤ (xs.length : Nat) * M.sqT ((sms xs).take xs.length) - M.sumT ((sms xs).take xs.length) * M.sumT ((sms xs).take xs.length) := by
          have := M.sum_sq ((sms xs).take xs.length)
          rw [List.length_take, sms_len, Nat.min_self] at this
          omega
        have ED : Hid (Int.tdiv ((xs.length : Nat) * M.sqT ((sms xs).take xs.length) - M.sumT ((sms xs).take xs.length) * M.sumT ((sms xs).take xs.length)) (xs.length : Nat) = o) := by unfold Hid; rw [ES.out]; exact Int.tdiv_eq_ediv_of_nonneg nn
        clear SM ES BQ HL AA
        generalize M.sumT ((sms xs).take xs.length) = s at *
        generalize M.sqT ((sms xs).take xs.length) = qq at *
        have x1 : IntKind.i64.wrap (s * s) = s * s := wrap_in5 _ (by omega) (by omega)
        have x2 : IntKind.i64.wrap ((xs.length : Int) * qq) = (xs.length : Int) * qq := wrap_in5 _ (by omega) (by omega)
        have x3 : IntKind.i64.wrap ((xs.length : Int) * qq - s * s) = (xs.length : Int) * qq - s * s := wrap_in5 _ (by omega) (by omega)
        have dd : 0 ≤ Int.tdiv ((xs.length : Int) * qq - s * s) (xs.length : Int) ∧ Int.tdiv ((xs.length : Int) * qq - s * s) (xs.length : Int) ≤ (xs.length : Int) * qq - s * s := ⟨Int.tdiv_nonneg nn (by omega), by
          rw [Int.tdiv_eq_ediv_of_nonneg nn]
          exact Int.ediv_le_self _ nn⟩
        have x4 : IntKind.i64.wrap (Int.tdiv ((xs.length : Int) * qq - s * s) (xs.length : Int)) = Int.tdiv ((xs.length : Int) * qq - s * s) (xs.length : Int) := wrap_in5 _ (by omega) (by omega)
        have nz : ¬ (xs.length : Int) = 0 := by omega
        clear sq mq dd nn
        go_wp2
        go_ret
        exact ⟨by rw [← ED.out]; rfl, K.out⟩

end Go.Proofs.YtlloiccodjnkcagGreatDoor

namespace Go.Proofs.YtlloiccodjnkcagGreatDoor.M
set_option linter.unusedVariables false

/-- of k nodes -/
def gA (t : List Nd) (l : List Sa) (k : Nat) : List Us := bU (fun i => cntN (i : Int) (t.take k)) (fun i => gnK t l (i : Int) k)
theorem gA_none (t : List Nd) (l : List Sa) : gA t l 0 = List.replicate 8 (0, 0, 0) := bU_zero _ (fun i _ => by rw [List.take_zero]; rfl)
theorem gA_all (t : List Nd) (l : List Sa) : gA t l t.length = bU (fun i => cntN (i : Int) t) (fun i => gnK t l (i : Int) t.length) := by unfold gA; rw [List.take_length]
theorem gnK_none {t : List Nd} {l : List Sa} {f : Int} : ∀ {k : Nat}, k ≤ t.length → cntN f (t.take k) = 0 → gnK t l f k = 0
  | 0, _, _ => rfl
  | k + 1, hk, h => by
    rw [cntN_more f (show k < t.length by omega)] at h
    have h1 : cntN f (t.take k) = 0 := by omega
    have h2 : ¬ nf (nAt t k) = f := fun e => by rw [if_pos e] at h; omega
    show (if nf (nAt t k) = f then _ else _) = _
    rw [if_neg h2]
    exact gnK_none (by omega) h1
theorem gA_leaf {t : List Nd} {l : List Sa} {k : Nat} (hk : k < t.length) (e : nf (nAt t k) = -1) : gA t l (k + 1) = gA t l k := by
  unfold gA
  refine bU_same (fun i _ => ?_) (fun i _ => ?_)
  · rw [cntN_more _ hk, e, if_neg (by omega)]; rfl
  · show (if nf (nAt t k) = (i : Int) then _ else _) = _
    rw [e, if_neg (by omega)]
theorem gA_ask {t : List Nd} {l : List Sa} {k f : Nat} (hk : k < t.length) (hf : f < 8) (e : nf (nAt t k) = (f : Int)) :
    (gA t l k).set f ((f : Int), ((gA t l k).getD f (0, 0, 0)).2.1 + 1, ((gA t l k).getD f (0, 0, 0)).2.2 + gainN t l k) = gA t l (k + 1) := by
  unfold gA
  refine bU_add hf (fun h => gnK_none (by omega) h) (fun i hi => ?_) (fun i hi => ?_)
  · rw [cntN_more _ hk, e]
    by_cases q : i = f
    · subst q; rw [if_pos rfl, if_pos rfl]
    · rw [if_neg q, if_neg (by omega)]; rfl
  · show (if nf (nAt t k) = (i : Int) then _ else _) = _
    rw [e]
    by_cases q : i = f
    · subst q; rw [if_pos rfl, if_pos rfl]
    · rw [if_neg q, if_neg (by omega)]
theorem gA_bd {t : List Nd} {l : List Sa} (h : ∀ s ∈ l, -1000 ≤ s.2 ∧ s.2 ≤ 1000) (hl : l.length ≤ 60) (ht : t.length ≤ 63) {k f : Nat} (hk : k ≤ t.length) (hf : f < 8) :
    0 ≤ ((gA t l k).getD f (0, 0, 0)).2.1 ∧ ((gA t l k).getD f (0, 0, 0)).2.1 ≤ 63 ∧ 0 ≤ ((gA t l k).getD f (0, 0, 0)).2.2 ∧ ((gA t l k).getD f (0, 0, 0)).2.2 ≤ 3780000000 := by
  unfold gA
  rw [bU_at hf]
  have c1 := cntN_le (f : Int) (t.take k)
  have c2 : (t.take k).length ≤ k := by rw [List.length_take]; exact Nat.min_le_left ..
  have g0 := gnK_pos t l (f : Int) k
  have g1 := gnK_le (t := t) h hl (f : Int) k
  split
  · exact ⟨Int.le_refl _, by show (0 : Int) ≤ _; omega, Int.le_refl _, by show (0 : Int) ≤ _; omega⟩
  · refine ⟨?_, ?_, ?_, ?_⟩
    · show (0 : Int) ≤ ((cntN (f : Int) (t.take k) : Nat) : Int); omega
    · show ((cntN (f : Int) (t.take k) : Nat) : Int) ≤ 63; omega
    · exact g0
    · show gnK t l (f : Int) k ≤ _; omega

end Go.Proofs.YtlloiccodjnkcagGreatDoor.M

namespace Go.Proofs.YtlloiccodjnkcagGreatDoor
open Go.ChangeShapes Go.WideShapes Go.ChangeAt Go.RowKit Go.Lib
set_option linter.unusedVariables false

def GroCheckGives : Prop := ∀ (a : Option Addr) (xs : List Sx) (ca : Nat) (m : Int) (W : World), RdL W a xs → Calls Tryz.prog 45 #[.slice a xs.length ca, .int .i64 m] W fun e w' => e = .returned (.tuple #[.int .i64 ((M.samF (sms xs) m).1 : Nat), errV (M.samF (sms xs) m).2]) ∧ Below W.heap.size W w'

end Go.Proofs.YtlloiccodjnkcagGreatDoor

namespace Go.Proofs.YtlloiccodjnkcagGreatDoor
open Go.ChangeShapes Go.WideShapes Go.ChangeAt Go.RowKit Go.Lib
set_option linter.unusedVariables false

def GroWrongGives : Prop := ∀ (a b : Option Addr) (ts : List M.Nd) (xs : List Sx) (ca cb : Nat) (W : World), RdN W a ts → RdL W b xs → Calls Tryz.prog 39 #[.slice a ts.length ca, .slice b xs.length cb] W fun e w' => e = .returned (.tuple #[.int .i64 (M.wrgV ts (sms xs)), errV (M.rdyF ts (sms xs))]) ∧ Below W.heap.size W w'

end Go.Proofs.YtlloiccodjnkcagGreatDoor

namespace Go.Proofs.YtlloiccodjnkcagGreatDoor.M
set_option linter.unusedVariables false

theorem vld_some {m : Nat} (h : m ≤ 8) : ∃ x, vld m x := by
  refine ⟨List.replicate m 0, (row_ok _).2 ⟨by simpa using h, fun x hx => ?_⟩, by simp⟩
  rw [(List.mem_replicate.1 hx).2]
  exact good_cell (out_in (by omega) (by omega))
/-- bare as a whole, it is so below each place, and each place has a row -/
theorem bare_at {t : List Nd} {m : Nat} (F : Fair t (m : Int)) (hb : Bare (vld m) (bt t 0)) : ∀ (k i : Nat), i < k → i < t.length → Bare (Pw t m i) (bt t i) ∧ ∃ x, Pw t m i x
  | 0, i, hk, hi => by omega
  | k + 1, i, hk, hi => by
    have hR := F.2.2.2.2.1
    rcases Nat.eq_zero_or_pos i with h0 | h0
    · subst h0
      rw [pw_root F]
      exact ⟨hb, vld_some (by have := F.2.2.2.1; omega)⟩
    · obtain ⟨u, hu, c⟩ := up_some (F.2.2.2.2.2 i h0 hi)
      have lu := ch_lt hR hu c
      obtain ⟨b1, _⟩ := bare_at F hb k u (by omega) hu
      obtain ⟨a, b, ea, eb, h1, h2, h3, h4, _⟩ := ask_at hR hu c.1
      obtain ⟨p1, p2⟩ := pw_sides F hu c.1 ea eb
      rw [bt_ask hR hu c.1 ea eb] at b1
      obtain ⟨x1, x2, _, y1, y2⟩ := b1
      rw [p1] at y1
      rw [p2] at y2
      rcases c.2 with q | q
      · have e : a = i := by omega
        subst e
        refine ⟨y1, ?_⟩
        rw [← p1]
        exact x1
      · have e : b = i := by omega
        subst e
        refine ⟨y2, ?_⟩
        rw [← p2]
        exact x2
/-- what is pruned is bare -/
theorem prun_bare {t : List Nd} {m : Int} (h : (treeF t m).2 = 0) : Fair (prunV t m) ((m.toNat : Nat) : Int) ∧ Bare (vld m.toNat) (bt (prunV t m) 0) := by
  have F := (tree_ok h).1
  have ok := bt_ok F.2.2.2.2.1 t.length 0 F.2.1 (by omega)
  have pt := (prun_tree h).1
  refine ⟨(fair_nat pt).1, ?_⟩
  have e : prunV t m = lay (prn (vld m.toNat) (bt t 0)) 0 := by unfold prunV; rw [if_pos h]
  rw [e, bt_of_lay (prn_ok _ _ ok)]
  exact bare_prn _ _
theorem prun_reached {t : List Nd} {m : Int} (h : (treeF t m).2 = 0) {i : Nat} (hi : i < (prunV t m).length) : anyS (region (prunV t m) m.toNat i) = true := by
  obtain ⟨F, hb⟩ := prun_bare h
  exact (reach_iff F hi).2 (bare_at F hb (i + 1) i (by omega) hi).2
/-- all leaves are reached -/
theorem rch_all {t : List Nd} {m : Nat} : ∀ k, k ≤ t.length → (∀ i, i < t.length → anyS (region t m i) = true) → rch t m k = lvs t k
  | 0, _, _ => rfl
  | k + 1, hk, h => by
    unfold rch lvs
    rw [rch_all k (by omega) h, h k (by omega)]
    simp
/-- no two leaves side by side are alike -/
theorem prun_apart {t : List Nd} {m : Int} (h : (treeF t m).2 = 0) {i a b : Nat} (hi : i < (prunV t m).length) (hf : nf (nAt (prunV t m) i) ≠ -1) (ea : nl (nAt (prunV t m) i) = a) (eb : nr (nAt (prunV t m) i) = b) : ¬ (nf (nAt (prunV t m) a) = -1 ∧ nf (nAt (prunV t m) b) = -1 ∧ nv (nAt (prunV t m) a) = nv (nAt (prunV t m) b)) := by
  obtain ⟨F, hb⟩ := prun_bare h
  have hR := F.2.2.2.2.1
  rintro ⟨l1, l2, l3⟩
  obtain ⟨a', b', ea', eb', h1, h2, h3, h4, _⟩ := ask_at hR hi hf
  have e1 : a' = a := by omega
  have e2 : b' = b := by omega
  subst e1
  subst e2
  have bi := (bare_at F hb (i + 1) i (by omega) hi).1
  rw [bt_ask hR hi hf ea eb] at bi
  exact bi.2.2.1 (nv (nAt (prunV t m) a')) ⟨bt_leaf h2 l1, by rw [bt_leaf h4 l2, l3]⟩
/-- in order each Left is right behind its node -/
theorem lay_left {m : Int} : ∀ (T : BT) (k j : Nat), okB m T → j < T.size → nf (nAt (lay T k) j) ≠ -1 → nl (nAt (lay T k) j) = ((k + j + 1 : Nat) : Int)
  | .lf v, k, j, h, hj, hf => by
    have hj' : j < 1 := hj
    obtain rfl : j = 0 := by omega
    exact absurd rfl hf
  | .nd f c s l r, k, j, ⟨g0, g1, g2, g3, g4⟩, hj, hf => by
    have es : (BT.nd f c s l r).size = 1 + l.size + r.size := rfl
    rw [es] at hj
    have e : lay (.nd f c s l r) k = (f, c, ((k + 1 : Nat) : Int), ((k + 1 + l.size : Nat) : Int), s, 0) :: (lay l (k + 1) ++ lay r (k + 1 + l.size)) := rfl
    rw [e] at hf ⊢
    rcases j with _ | j
    · rfl
    · have e2 : nAt ((f, c, ((k + 1 : Nat) : Int), ((k + 1 + l.size : Nat) : Int), s, (0 : Int)) :: (lay l (k + 1) ++ lay r (k + 1 + l.size))) (j + 1) = nAt (lay l (k + 1) ++ lay r (k + 1 + l.size)) j := by simp [nAt]
      rw [e2] at hf ⊢
      by_cases hl : j < l.size
      · have e3 : nAt (lay l (k + 1) ++ lay r (k + 1 + l.size)) j = nAt (lay l (k + 1)) j := by
          unfold nAt; simp [List.getD, List.getElem?_append_left (show j < (lay l (k + 1)).length by rw [lay_len]; exact hl)]
        rw [e3] at hf ⊢
        rw [lay_left l (k + 1) j g3 hl hf]
        omega
      · have e3 : nAt (lay l (k + 1) ++ lay r (k + 1 + l.size)) j = nAt (lay r (k + 1 + l.size)) (j - l.size) := by
          unfold nAt
          simp only [List.getD]
          rw [List.getElem?_append_right (by rw [lay_len]; omega), lay_len]
        rw [e3] at hf ⊢
        rw [lay_left r (k + 1 + l.size) (j - l.size) g4 (by omega) hf]
        omega
theorem prun_left {t : List Nd} {m : Int} (h : (treeF t m).2 = 0) {i : Nat} (hi : i < (prunV t m).length) (hf : nf (nAt (prunV t m) i) ≠ -1) : nl (nAt (prunV t m) i) = ((i + 1 : Nat) : Int) := by
  have F := (tree_ok h).1
  have ok := bt_ok F.2.2.2.2.1 t.length 0 F.2.1 (by omega)
  have e : prunV t m = lay (prn (vld m.toNat) (bt t 0)) 0 := by unfold prunV; rw [if_pos h]
  rw [e] at hi hf ⊢
  rw [lay_len] at hi
  rw [lay_left _ 0 i (prn_ok _ _ ok) hi hf]
  omega

/-! ### one value -/
theorem bt_all {t : List Nd} {m : Int} (h : Right t m) {v : Int} (hv : ∀ i, i < t.length → nf (nAt t i) = -1 → nv (nAt t i) = v) : ∀ (k i : Nat), i < t.length → t.length ≤ k + i → allV v (bt t i)
  | 0, i, hi, hk => by omega
  | k + 1, i, hi, hk => by
    by_cases hl : nf (nAt t i) = -1
    · rw [bt_leaf hi hl]; exact hv i hi hl
    · obtain ⟨a, b, ea, eb, h1, h2, h3, h4, _⟩ := ask_at h hi hl
      rw [bt_ask h hi hl ea eb]
      exact ⟨bt_all h hv k a h2 (by omega), bt_all h hv k b h4 (by omega)⟩
/-- where all leaves say one thing nothing is asked -/
theorem prun_one {t : List Nd} {m v : Int} (h : (treeF t m).2 = 0) (hv : ∀ i, i < t.length → nf (nAt t i) = -1 → nv (nAt t i) = v) : prunV t m = [(-1, 0, 0, 0, false, v)] := by
  have F := (tree_ok h).1
  unfold prunV
  rw [if_pos h, prn_one _ _ v (bt_all F.2.2.2.2.1 hv t.length 0 F.2.1 (by omega))]
  rfl

/-! ### no question twice on a way -/
/-- does a place stand below another one? -/
def ancB (t : List Nd) (i : Nat) : Nat → Nat → Bool
  | 0, j => decide (j = i)
  | f + 1, j => if j ≤ i then decide (j = i) else match abv t j with
    | none => false
    | some u => ancB t i f u
/-- who comes to a place below another one came by there, and all went one way -/
theorem anc_side {t : List Nd} {m : Nat} (F : Fair t (m : Int)) {i : Nat} (hi : i < t.length) : ∀ (f j : Nat), ancB t i f j = true → i < j → j < t.length → ∃ s : Bool, ∀ x, j ∈ way t x 0 → i ∈ way t x 0 ∧ lessC (nAt t i) (x.getD (nf (nAt t i)).toNat 0) = s
  | 0, j, h, hij, hj => by
    unfold ancB at h
    have := of_decide_eq_true h
    omega
  | f + 1, j, h, hij, hj => by
    have hR := F.2.2.2.2.1
    unfold ancB at h
    rw [if_neg (by omega)] at h
    obtain ⟨u, hu⟩ := abv_some F hj (by omega)
    rw [hu] at h
    obtain ⟨hul, c⟩ := (abv_iff F hj).1 hu
    have lu := ch_lt hR hul c
    obtain ⟨a, b, ea, eb, h1, h2, h3, h4, h5⟩ := ask_at hR hul c.1
    have up : ∀ x, j ∈ way t x 0 → u ∈ way t x 0 ∧ lessC (nAt t u) (x.getD (nf (nAt t u)).toNat 0) = decide (nl (nAt t u) = (j : Int)) := fun x hx => by
      have wl := way_left F x hul c.1 ea eb
      rcases c.2 with q | q
      · have e : a = j := by omega
        subst e
        rw [decide_eq_true ea]
        exact wl.1.1 hx
      · have e : b = j := by omega
        subst e
        rw [decide_eq_false (by rw [ea]; omega)]
        exact wl.2.1 hx
    rcases Nat.lt_trichotomy u i with q | q | q
    · have h' : ancB t i f u = true := h
      have : ancB t i f u = decide (u = i) := by
        cases f with
        | zero => rfl
        | succ f => unfold ancB; rw [if_pos (by omega)]
      rw [this] at h'
      have := of_decide_eq_true h'
      omega
    · subst q
      exact ⟨_, fun x hx => up x hx⟩
    · obtain ⟨s, hs⟩ := anc_side F hi f u h q hul
      exact ⟨s, fun x hx => hs x (up x hx).1⟩
/-- on no way a question stands twice -/
theorem prun_twice {t : List Nd} {m : Int} (h : (treeF t m).2 = 0) {i k f : Nat} (hik : i < k) (hk : k < (prunV t m).length) (hf : nf (nAt (prunV t m) k) ≠ -1) (e1 : nf (nAt (prunV t m) k) = nf (nAt (prunV t m) i)) (e2 : nc (nAt (prunV t m) k) = nc (nAt (prunV t m) i)) (e3 : ns (nAt (prunV t m) k) = ns (nAt (prunV t m) i)) : ancB (prunV t m) i f k = false := by
  obtain ⟨F, hb⟩ := prun_bare h
  have hR := F.2.2.2.2.1
  cases q : ancB (prunV t m) i f k with
  | false => rfl
  | true =>
    obtain ⟨s, hs⟩ := anc_side F (show i < (prunV t m).length by omega) f k q hik hk
    obtain ⟨a, b, ea, eb, _⟩ := ask_at hR hk hf
    have bk := (bare_at F hb (k + 1) k (by omega) hk).1
    rw [bt_ask hR hk hf ea eb] at bk
    obtain ⟨⟨x, px, gx⟩, ⟨y, py, gy⟩, _⟩ := bk
    have same : ∀ z, goes (nf (nAt (prunV t m) k)) (nc (nAt (prunV t m) k)) (ns (nAt (prunV t m) k)) z = lessC (nAt (prunV t m) i) (z.getD (nf (nAt (prunV t m) i)).toNat 0) := fun z => by rw [e1, e2, e3]; rfl
    rw [same] at gx gy
    have h1 := (hs x px.2).2
    have h2 := (hs y py.2).2
    rw [gx] at h1
    rw [gy] at h2
    rw [← h1] at h2
    cases h2

end Go.Proofs.YtlloiccodjnkcagGreatDoor.M
