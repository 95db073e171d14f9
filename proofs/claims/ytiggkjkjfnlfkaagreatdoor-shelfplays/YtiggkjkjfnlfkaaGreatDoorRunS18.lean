/-
  Several texts as one: RefDec.
-/
import Derived.Test.YtiggkjkjfnlfkaaGreatDoorRunS14
import Derived.Test.YtiggkjkjfnlfkaaGreatDoorRunS17
import Derived.Test.YtiggkjkjfnlfkaaGreatDoorRunS2
import Derived.Test.YtiggkjkjfnlfkaaGreatDoorRunS11
import Derived.Test.YtiggkjkjfnlfkaaGreatDoorRunS1
import Derived.Test.YtiggkjkjfnlfkaaGreatDoorRunS15
import Derived.RegionTactic
import Derived.Deep.Cut
import Derived.Deep.CutRange
import Derived.Deep.RegionWith
namespace Go.Proofs.YtiggkjkjfnlfkaaGreatDoor
open Go.ChangeShapes Go.WideShapes Go.ChangeAt Go.RowKit Go.Lib
set_option linter.unusedVariables false
def Gr.none' : Gr := ⟨0, 0, none, [], 0, none, [], 0⟩
/-- Decode's grove lies in blocks that are new -/
def RDecNew : Prop := ∀ (a : Option Addr) (bs : List Nat) (c : Nat) (W : World), RdB W a bs → bs.length ≤ c → c ≤ 9223372036854775807 → Calls Tryz.prog 79 #[.slice a bs.length c] W fun e w' => ∃ O : Gr, e = .returned (.tuple #[O.v, .int .i64 ((M.decF bs).1 : Nat), .int .i64 (M.decF bs).2]) ∧ O.m = M.decV bs ∧ NewH W w' O ∧ Below W.heap.size W w'
theorem Gr.none_rd (W : World) : RdG W Gr.none' := ⟨⟨Nat.zero_le _, fun h => absurd rfl h⟩, ⟨Nat.zero_le _, (fun k hk => by cases hk), fun h => absurd rfl h⟩⟩
theorem infoTr2 : (Tryz.prog.info? 110).map (fun i => (i.zero, i.size, i.bytes)) = some (some (.slice none 0 0), 1, 24) := by kernel_rfl
theorem M.nodes_bad {b : List Nat} {s : M.In} (h : s.bad ≠ 0) (k : Nat) : M.rNodes b k s = ([], s) := by
  cases k with
  | zero => rfl
  | succ k => show (if _ then _ else _) = _; rw [if_pos h]
theorem M.trees_bad {b : List Nat} {s : M.In} (h : s.bad ≠ 0) (k : Nat) : M.rTrees b k s = ([], s) := by
  cases k with
  | zero => rfl
  | succ k => show (if _ then _ else _) = _; rw [if_pos h]
theorem M.nodes_go {b : List Nat} {s : M.In} (h : s.bad = 0) (k : Nat) : M.rNodes b (k + 1) s = ((M.rNode b s).1 :: (M.rNodes b k (M.rNode b s).2).1, (M.rNodes b k (M.rNode b s).2).2) := by
  show (if _ then _ else _) = _; rw [if_neg (by simp [h])]
theorem M.trees_go {b : List Nat} {s : M.In} (h : s.bad = 0) (k : Nat) : M.rTrees b (k + 1) s = ((M.rTree b s).1 :: (M.rTrees b k (M.rTree b s).2).1, (M.rTrees b k (M.rTree b s).2).2) := by
  show (if _ then _ else _) = _; rw [if_neg (by simp [h])]
theorem M.nodes_len {b : List Nat} : ∀ (k : Nat) (s : M.In), (M.rNodes b k s).1.length ≤ k
  | 0, s => Nat.le_refl _
  | k + 1, s => by
    by_cases q : s.bad = 0
    · rw [M.nodes_go q]
      have := M.nodes_len (b := b) k (M.rNode b s).2
      show _ + 1 ≤ k + 1
      omega
    · rw [M.nodes_bad q]; exact Nat.zero_le _
theorem M.many_in {b : List Nat} {most : Int} {s : M.In} (h : 0 ≤ most) : 0 ≤ (M.rMany b most s).1 ∧ (M.rMany b most s).1 ≤ most := by
  unfold M.rMany
  split
  · exact ⟨Int.le_refl _, h⟩
  · next q =>
    split
    · exact ⟨Int.le_refl _, h⟩
    · next q2 =>
      have z : (M.rNum b s).2.bad = 0 := by by_cases y : (M.rNum b s).2.bad = 0; exact y; exact absurd y q2
      have : ¬ ((M.rNum b s).1 < 1 ∨ most < (M.rNum b s).1) := fun y => q ⟨z, y⟩
      omega
theorem box_four {w W : World} {t : TypeId} {x0 x1 x2 x3 : Value} (hb : Below (w.alloc (.cells #[x0, x1, x2, x3] t)).heap.size (w.alloc (.cells #[x0, x1, x2, x3] t)) W) : (W.cell? ⟨w.heap.size, 0, none⟩ = some x0 ∧ W.cell? ⟨w.heap.size, 1, none⟩ = some x1 ∧ W.cell? ⟨w.heap.size, 2, none⟩ = some x2 ∧ W.cell? ⟨w.heap.size, 3, none⟩ = some x3) ∧ ∀ j, W.frozen? ⟨w.heap.size, j, none⟩ = false := by
  have k := new_kept rfl hb
  exact ⟨⟨k.1 0 _ rfl, k.1 1 _ rfl, k.1 2 _ rfl, k.1 3 _ rfl⟩, k.2⟩

set_option maxHeartbeats 32000000 in
set_option maxRecDepth 10000 in
theorem rdec_new (hR : RGrvGives) : RDecNew := by
  intro a bs c w h hc h63
  have bl : bs.length ≤ 9223372036854775807 := h.1
  by_cases big : 6000 < bs.length
  · have E1 : Hid (M.decF bs = (0, 4)) := by unfold Hid M.decF; rw [if_pos big]
    have E2 : Hid (M.decV bs = (0, 0, [], [])) := by unfold Hid M.decV; rw [E1.out]; rfl
    have t1 : decide ((6000 : Int) < (bs.length : Int)) = true := decide_eq_true (by omega)
    have t2 : decide (6000 < bs.length) = true := decide_eq_true big
    obtain ⟨⟨y0, y1, y2, y3⟩, yf⟩ := box_four (w := w) (t := 53) (x0 := .int .i64 0) (x1 := .int .i64 0) (x2 := .slice none 0 0) (x3 := .slice none 0 0) (Below.refl _ _)
    clear h hc big
    go_enter Tryz.func79, Tryz.ntmps79
    go_wp2
    refine bodyPost_ret (v := .tuple #[.agg #[.int .i64 0, .int .i64 0, .slice none 0 0, .slice none 0 0], .int .i64 0, .int .i64 4]) (by simp [results, Tryz.results79, go_sem, y0, y1, y2, y3]) rfl ?_
    exact ⟨Gr.none', by rw [E1.out]; rfl, by rw [E2.out]; rfl, (fun _ _ _ => Gr.none_rd _), (Below.refl _ w).alloc (Nat.le_refl _) _⟩
  · have t1 : decide ((6000 : Int) < (bs.length : Int)) = false := decide_eq_false (by omega)
    have t2 : decide (6000 < bs.length) = false := decide_eq_false big
    obtain ⟨W0, hW0⟩ : ∃ X, X = (w.alloc (.cells #[.int .i64 0, .int .i64 0, .slice none 0 0, .slice none 0 0] 53)).alloc (.cells #[.slice a bs.length c, .int .i64 0, .int .i64 0, .int .i64 0] 176) := ⟨_, rfl⟩
    have z0 : W0.heap.size = w.heap.size + 1 + 1 := by rw [hW0]; simp
    have bw0 : Below w.heap.size w W0 := by rw [hW0]; exact ((Below.refl _ w).alloc (Nat.le_refl _) _).alloc (by simp) _
    have R0 : Hid (Rdi W0 (w.heap.size + 1) a bs c M.in0) := by
      have k := new_kept (w := w.alloc (.cells #[.int .i64 0, .int .i64 0, .slice none 0 0, .slice none 0 0] 53)) (cs := #[.slice a bs.length c, .int .i64 0, .int .i64 0, .int .i64 0]) (t := 176) rfl (Below.refl _ _)
      rw [← hW0] at k
      have es : (w.alloc (.cells #[.int .i64 0, .int .i64 0, .slice none 0 0, .slice none 0 0] 53)).heap.size = w.heap.size + 1 := by simp
      rw [es] at k
      refine ⟨⟨k.1 0 _ rfl, k.1 1 _ rfl, k.1 2 _ rfl, k.1 3 _ rfl, k.2⟩, h.below bw0, hc, h63, Nat.zero_le _, fun hn p hp e => ?_⟩
      obtain ⟨b, off, e2, hl, _⟩ := h.2.2 hn
      rw [hp] at e2
      cases e2
      simp at e
      omega
    obtain ⟨W1, hW1⟩ : ∃ X, X = W0.alloc (.cells #[.int .i64 0, .int .i64 0, .slice none 0 0, .slice none 0 0] 53) := ⟨_, rfl⟩
    have R1 : Hid (Rdi W1 (w.heap.size + 1) a bs c M.in0) := by rw [hW1]; exact R0.out.alloc _
    obtain ⟨gb, hgb⟩ : ∃ gb, gb = w.heap.size + 1 + 1 := ⟨_, rfl⟩
    have GW1 : Hid (GW w (w.heap.size + 1) w.heap.size gb 0 0 0 none 0 [] 0 none 0 [] W1) := by
      have kg := box_four (w := W0) (t := 53) (x0 := .int .i64 0) (x1 := .int .i64 0) (x2 := .slice none 0 0) (x3 := .slice none 0 0) (Below.refl _ _)
      rw [z0, ← hgb, ← hW1] at kg
      have kr : (W1.cell? ⟨w.heap.size, 0, none⟩ = some (.int .i64 0) ∧ W1.cell? ⟨w.heap.size, 1, none⟩ = some (.int .i64 0) ∧ W1.cell? ⟨w.heap.size, 2, none⟩ = some (.slice none 0 0) ∧ W1.cell? ⟨w.heap.size, 3, none⟩ = some (.slice none 0 0)) ∧ ∀ j, W1.frozen? ⟨w.heap.size, j, none⟩ = false := by
        rw [hW1, hW0]; exact box_four (((Below.refl _ _).alloc (Nat.le_refl _) _).alloc (by simp) _)
      have gz : gb < W1.heap.size := by rw [hW1]; simp; omega
      refine ⟨?_, fun j hj => ?_, kr.2, kg.1.1, kg.1.2.1, kg.1.2.2.1, kg.1.2.2.2, kg.2, gz, by omega, Nat.le_refl _, ⟨by omega, by omega⟩, World.ownsRow_nil _ _ _ _, World.ownsRow_nil _ _ _ _, (fun q hq => by cases hq), (fun t ht => by cases ht)⟩
      · rw [hW1]; exact grown_of ((bw0.alloc bw0.size _)) _
      · match j, hj with
        | 0, _ => exact ⟨_, kr.1.1⟩
        | 1, _ => exact ⟨_, kr.1.2.1⟩
        | 2, _ => exact ⟨_, kr.1.2.2.1⟩
        | 3, _ => exact ⟨_, kr.1.2.2.2⟩
    have HW1 : Hid (((w.alloc (.cells #[.int .i64 0, .int .i64 0, .slice none 0 0, .slice none 0 0] 53)).alloc (.cells #[.slice a bs.length c, .int .i64 0, .int .i64 0, .int .i64 0] 176)).alloc (.cells #[.int .i64 0, .int .i64 0, .slice none 0 0, .slice none 0 0] 53) = W1) := by unfold Hid; rw [hW1, hW0]
    have HGB := hide hgb
    have Z0 := hide z0
    -- the numbers
    obtain ⟨⟨n1, s1⟩, h1⟩ : ∃ R, M.rNum bs M.in0 = R := ⟨_, rfl⟩
    obtain ⟨⟨n2, s2⟩, h2⟩ : ∃ R, M.rNum bs s1 = R := ⟨_, rfl⟩
    obtain ⟨⟨m3, s3⟩, h3⟩ : ∃ R, M.rMany bs 12 s2 = R := ⟨_, rfl⟩
    have N1 := hide (fun (W : World) (h : Rdi W (w.heap.size + 1) a bs c M.in0) => numI h)
    have N2 := hide (fun (W : World) (h : Rdi W (w.heap.size + 1) a bs c s1) => numI h)
    have C3 := hide (fun (W : World) (h : Rdi W (w.heap.size + 1) a bs c s2) => manyI 12 h)
    have mi := M.many_in (b := bs) (s := s2) (most := 12) (by decide)
    rw [h1] at N1
    rw [h2] at N2
    rw [h3] at C3 mi
    have EH : Hid (M.rHead bs = ((n1, n2, m3), s3)) := by
      unfold Hid M.rHead
      rw [h1]
      simp only
      rw [h2]
      simp only
      rw [h3]
    obtain ⟨n, rfl⟩ : ∃ n : Nat, m3 = (n : Int) := ⟨m3.toNat, by simp only at mi; omega⟩
    have n12 : n ≤ 12 := by simp only at mi; omega
    have EA : Hid (M.rAll bs = M.rTrees bs n s3) := by
      unfold Hid M.rAll
      rw [EH.out]
      simp only [Int.toNat_natCast]
    have EG : Hid (M.rGrove bs = (n1, n2, (M.rAll bs).1.map (·.1), (M.rAll bs).1.map (·.2))) := by
      unfold Hid M.rGrove
      rw [EH.out]
    have DF : Hid (M.decF bs = if (M.rAll bs).2.bad ≠ 0 then ((M.rAll bs).2.at', (M.rAll bs).2.bad) else if (M.rAll bs).2.fin ≠ bs.length then ((M.rAll bs).2.fin, 2) else if M.groveF (M.rGrove bs) ≠ 0 then ((M.rAll bs).2.fin, M.groveF (M.rGrove bs)) else (0, 0)) := by unfold Hid M.decF; rw [if_neg big]
    have DV : Hid (M.decV bs = if (M.decF bs).2 = 0 then M.rGrove bs else (0, 0, [], [])) := rfl
    have HR := hide (fun (G : Gr) (W : World) (h : RdG W G) => hR G W h)
    unfold Gr.v at HR
    clear h hc big h1 h2 h3 mi EH bw0 z0 hW0 hW1 hgb bl hR
    generalize M.rAll bs = Z at *
    generalize M.rGrove bs = G at *
    generalize M.decF bs = dF at *
    generalize M.decV bs = dV at *
    obtain ⟨g, hg⟩ : ∃ g, g = w.heap.size + 1 := ⟨_, rfl⟩
    rw [← hg] at N1 N2 C3 R0 R1 GW1
    have HGe := hide hg
    clear hg
    simp only at N1 N2 C3
    have GL : Hid (g < W0.heap.size) := R0.out.lt
    go_enter Tryz.func79, Tryz.ntmps79
    go_upto_region 5 with fail
    rw [HW1.out, show w.heap.size + 1 + 1 = gb from HGB.out.symm, show w.heap.size + 1 = g from HGe.out.symm]
    clear HW1
    have GBZ : Hid (∀ q, some gb = some q → W0.heap.size ≤ q) := fun q hq => by cases hq; rw [Z0.out, HGB.out]; exact Nat.le_refl _
    go_upto_region 6 with (go_at_call 109; refine (N1.out _ R1.out).mono ?_; rintro e w2 ⟨rfl, i2, g2⟩; have I2 := hide i2; have G2 := hide (GW1.out.rdr g2); have x0 := G2.out.c0; have xf := G2.out.fr 0; clear i2 g2)
    obtain ⟨w2b, hw2b⟩ : ∃ X, X = w2.setCell ⟨gb, 0, none⟩ (.int .i64 n1) := ⟨_, rfl⟩
    rw [← hw2b]
    have G2b : Hid (GW w g w.heap.size gb n1 0 0 none 0 [] 0 none 0 [] w2b) := by rw [hw2b]; exact G2.out.setF n1
    have I2b : Hid (Rdi w2b g a bs c s1) := by rw [hw2b]; exact R0.out.far I2.out grown_set GBZ.out
    clear hw2b x0 xf G2 I2 GW1 R1 N1
    go_upto_region 7 with (go_at_call 109; refine (N2.out _ I2b.out).mono ?_; rintro e w3 ⟨rfl, i3, g3⟩; have I3 := hide i3; have G3 := hide (G2b.out.rdr g3); have x1 := G3.out.c1; have xf := G3.out.fr 1; clear i3 g3)
    obtain ⟨w3b, hw3b⟩ : ∃ X, X = w3.setCell ⟨gb, 1, none⟩ (.int .i64 n2) := ⟨_, rfl⟩
    rw [← hw3b]
    have G3b : Hid (GW w g w.heap.size gb n1 n2 0 none 0 [] 0 none 0 [] w3b) := by rw [hw3b]; exact G3.out.setM n2
    have I3b : Hid (Rdi w3b g a bs c s2) := by rw [hw3b]; exact R0.out.far I3.out grown_set GBZ.out
    clear hw3b x1 xf G3 I3 G2b I2b N2
    go_upto_region 8 with (go_at_call 110; refine (C3.out _ I3b.out).mono ?_; rintro e w4 ⟨rfl, i4, g4⟩; have I4 := hide i4; have G4 := hide (G3b.out.rdr g4); clear i4 g4)
    clear C3 G3b I3b
    obtain ⟨i0, hi0, hz0, hz1, hz2⟩ := info_parts info3
    have J0 := hide hi0
    obtain ⟨t0, ht0, hy0, hy1, hy2⟩ := info_parts infoTr2
    have J1 := hide ht0
    obtain ⟨j0, hj0, hv0, hv1, hv2⟩ := info_parts infoN
    have J2 := hide hj0
    have NN := hide (fun (W : World) (s : M.In) (h : Rdi W g a bs c s) => numI h)
    have MM := hide (fun (W : World) (s : M.In) (h : Rdi W g a bs c s) => manyI 63 h)
    clear hi0 ht0 hj0
    go_wp2
    go_loopw [8] (fun i wr => ∃ (k : Nat) (ya : Option Addr) (yc : Nat) (xa : Option Addr) (xc : Nat) (P : List (Int × List M.Nd)) (D : List Tc) (s' : M.In), k ≤ n ∧ i = .int .i64 k ∧ Hid (P.length = k ∧ D.length = k ∧ tl D = P.map (·.2)) ∧ Hid (Z = (P ++ (M.rTrees bs (n - k) s').1, (M.rTrees bs (n - k) s').2)) ∧ Hid (Rdi wr g a bs c s') ∧ Hid (GW w g w.heap.size gb n1 n2 k ya yc (P.map (·.1)) k xa xc D wr)) (fun i _ => n - (intOf i).toNat)
    case atStart => exact ⟨0, none, 0, none, 0, [], [], s3, Nat.zero_le _, rfl, ⟨rfl, rfl, rfl⟩, by rw [Nat.sub_zero]; exact EA, I4, G4⟩
    case round =>
      clear I4 G4
      obtain ⟨k, ya, yc, xa, xc, P, D, s', hk, rfl, LK, EZ, RR, GG⟩ := hrel
      by_cases on : k < n ∧ s'.bad = 0
      · obtain ⟨hlt, ok⟩ := on
        have kz : (k : Int) < (n : Int) := by omega
        have q1 : (s'.bad == 0) = true := by rw [beq_iff_eq]; exact ok
        have bc := RR.out.box.c3
        have ez := EZ.out
        rw [show n - k = (n - (k + 1)) + 1 by omega, M.trees_go ok] at ez
        have M1 := hide (NN.out wr s' RR.out)
        obtain ⟨⟨x1, t1⟩, e1⟩ : ∃ R, M.rNum bs s' = R := ⟨_, rfl⟩
        have M2 := hide (fun (W : World) (h : Rdi W g a bs c t1) => MM.out W t1 h)
        have mi := M.many_in (b := bs) (s := t1) (most := 63) (by decide)
        obtain ⟨⟨m, u1⟩, e2⟩ : ∃ R, M.rMany bs 63 t1 = R := ⟨_, rfl⟩
        rw [e1] at M1
        rw [e2] at M2 mi
        obtain ⟨nn, rfl⟩ : ∃ nn : Nat, m = (nn : Int) := ⟨m.toNat, by simp only at mi; omega⟩
        have n63 : nn ≤ 63 := by simp only at mi; omega
        have ET : Hid (M.rTree bs s' = ((x1, (M.rNodes bs nn u1).1), (M.rNodes bs nn u1).2)) := by
          unfold Hid M.rTree
          rw [e1]
          simp only
          rw [e2]
          simp only [Int.toNat_natCast]
        rw [ET.out] at ez
        have TL := hide (M.nodes_len (b := bs) nn u1)
        obtain ⟨⟨T1, T2⟩, hT⟩ : ∃ T, M.rNodes bs nn u1 = T := ⟨_, rfl⟩
        have TT0 : Hid ((T1, T2) = ([] ++ (M.rNodes bs nn u1).1, (M.rNodes bs nn u1).2)) := by unfold Hid; rw [hT]; rfl
        rw [hT] at ez TL ET
        clear hT
        simp only at ez M1 M2 TL
        have ZZ := hide ez
        clear mi e1 e2 ez EZ ok NN MM
        go_upto_region 11 with fail
        go_upto_region 12 with (go_at_call 109; refine M1.out.mono ?_; rintro e w5 ⟨rfl, i5, g5⟩; have I5 := hide i5; have G5 := hide (GG.out.rdr g5); have c2 := G5.out.c2; clear i5 g5)
        clear M1 RR GG bc
        go_upto_region 13 with (at_builtin; refine wpList_append_lies _ rfl (.tmp 46) (.tmp 48) 50 rfl (gb + 1) 3 i0 (.int .i64 0) 1 8 Tryz.underlying50 J0.out hz0 hz1 hz2 rfl (by omega) (.slice ya k yc) k ((P.map (·.1)).map (Value.int .i64)) rfl (G5.out.ow.alloc _) ⟨w5.heap.size, 0, none⟩ 1 1 [.int .i64 x1] rfl rfl (World.news_of_block (heap_alloc_new _ _)) (by simp [Value.oneCell']) (by omega) (by unfold maxLen; omega) (by omega) (by have := G5.out.lt; simp; omega) (w5.heap.size + 1) (by simp) ?_; intro g7 c7 w7 hov7 hgrow7 hat7 hlt7; have K7 := G5.out.weight hov7 hgrow7 hat7; have z2 := K7.1.1; have zf := K7.1.2; have G7 := hide K7.2.2; have R7 := hide (R0.out.far (R0.out.far I5.out K7.2.1 (fun q hq => by have := (G5.out.ow.lt q hq).1; have := Z0.out; have := HGB.out; omega)) (grown_set (g := gb) (o := 2) (u := .slice (some ⟨g7, 0, none⟩) (k + 1) c7)) GBZ.out); clear hov7 hgrow7 hat7 hlt7 K7)
        obtain ⟨w8, hw8⟩ : ∃ X, X = w7.setCell ⟨gb, 2, none⟩ (.slice (some ⟨g7, 0, none⟩) (k + 1) c7) := ⟨_, rfl⟩
        rw [← hw8] at G7 R7 ⊢
        clear hw8 z2 zf c2 G5 I5
        go_upto_region 14 with (go_at_call 110; refine (M2.out _ R7.out).mono ?_; rintro e w9 ⟨rfl, i9, g9⟩; have I9 := hide i9; have G9 := hide (G7.out.rdr g9); clear i9 g9)
        clear M2 G7 R7
        have GL9 := hide I9.out.lt
        go_wp2
        go_loopw [11, 12] (fun v i wr => ∃ (j : Nat) (L : List M.Nd) (va : Option Addr) (vc : Nat) (s'' : M.In), j ≤ nn ∧ i = .int .i64 j ∧ v = .slice va j vc ∧ Hid (L.length = j) ∧ Hid ((T1, T2) = (L ++ (M.rNodes bs (nn - j) s'').1, (M.rNodes bs (nn - j) s'').2)) ∧ Hid (Rdi wr g a bs c s'') ∧ Hid (wr.ownsRow w9.heap.size 113 6 (.slice va j vc) j (ndCells L)) ∧ Hid (w9.grownBy wr (some g))) (fun _ i _ => nn - (intOf i).toNat)
        case atStart => exact ⟨0, [], none, 0, u1, Nat.zero_le _, rfl, rfl, rfl, by rw [Nat.sub_zero]; exact TT0, I9, World.ownsRow_nil _ _ _ _, World.grownBy.refl _ _⟩
        case round =>
          obtain ⟨j, L, va, vc, s'', hj, rfl, rfl, LL, EL, RI, OO, GI⟩ := hrel
          by_cases on2 : j < nn ∧ s''.bad = 0
          · obtain ⟨jlt, ok2⟩ := on2
            have jz : (j : Int) < (nn : Int) := by omega
            have q2 : (s''.bad == 0) = true := by rw [beq_iff_eq]; exact ok2
            have bc := RI.out.box.c3
            have el := EL.out
            rw [show nn - j = (nn - (j + 1)) + 1 by omega, M.nodes_go ok2] at el
            have EL2 := hide el
            have NS0 := hide (NS.new RI.out)
            obtain ⟨⟨x1, t1⟩, e1⟩ : ∃ R, M.rNum bs s'' = R := ⟨_, rfl⟩
            have Q1 := hide (fun (W : World) (nb : Nat) (nd : M.Nd) (h : NS wr g a bs c s'' nb nd W) => h.num)
            rw [e1] at Q1
            simp only at Q1
            have E1 := hide e1
            obtain ⟨⟨x2, t2⟩, e2⟩ : ∃ R, M.rNum bs t1 = R := ⟨_, rfl⟩
            have Q2 := hide (fun (W : World) (nb : Nat) (nd : M.Nd) (h : NS wr g a bs c t1 nb nd W) => h.num)
            rw [e2] at Q2
            simp only at Q2
            have E2 := hide e2
            have GIz := GI.out.size
            clear el EL ok2 e1 e2 LK ZZ ET TL G9 TT0
            obtain ⟨nb, hnb⟩ : ∃ nb, nb = wr.heap.size := ⟨_, rfl⟩
            rw [← hnb] at NS0
            have HNB := hide hnb
            clear hnb
            go_upto_region 18 with fail
            go_upto_region 19 with fail
            rw [show wr.heap.size = nb from HNB.out.symm]
            clear bc
            obtain ⟨wn, hwn⟩ : ∃ X, X = wr.alloc (.cells #[.int .i64 0, .int .i64 0, .int .i64 0, .int .i64 0, .bool false, .int .i64 0] 113) := ⟨_, rfl⟩
            rw [← hwn] at NS0 ⊢
            clear hwn
            go_upto_region 20 with (go_at_call 109; refine (Q1.out _ _ _ NS0.out).mono ?_; rintro e w2 ⟨rfl, n2'⟩; have N2 := hide n2'; have k0 := n2'.c0; have kf := n2'.fr 0; clear n2')
            obtain ⟨w2b, hw2b⟩ : ∃ X, X = w2.setCell ⟨nb, 0, none⟩ (.int .i64 x1) := ⟨_, rfl⟩
            rw [← hw2b]
            have N2b : Hid (NS wr g a bs c t1 nb (x1, 0, 0, 0, false, 0) w2b) := by rw [hw2b]; exact N2.out.put0 RI.out x1
            clear hw2b k0 kf N2 NS0 Q1
            have b3 := N2b.out.rdi.box.c3
            have b0 : w2b.cell? ⟨nb, 0, none⟩ = some (.int .i64 x1) := N2b.out.c0
            by_cases leaf : t1.bad = 0 ∧ x1 = -1
            · have p1 : (t1.bad == 0) = true := by rw [beq_iff_eq]; exact leaf.1
              have p2 : (x1 == -1) = true := by rw [beq_iff_eq]; exact leaf.2
              have EN : Hid (M.rNode bs s'' = ((x1, 0, 0, 0, false, x2), t2)) := by
                unfold Hid M.rNode
                rw [E1.out, if_pos leaf]
                show ((x1, 0, 0, 0, false, (M.rNum bs t1).1), (M.rNum bs t1).2) = _
                rw [E2.out]
              clear leaf
              go_upto_region 21 with fail
              clear b3 b0
              go_upto_region 29 with (go_at_call 109; refine (Q2.out _ _ _ N2b.out).mono ?_; rintro e w3 ⟨rfl, n3'⟩; have N3 := hide n3'; have k0 := n3'.c5; have kf := n3'.fr 5; clear n3')
              obtain ⟨w3b, hw3b⟩ : ∃ X, X = w3.setCell ⟨nb, 5, none⟩ (.int .i64 x2) := ⟨_, rfl⟩
              rw [← hw3b]
              have NZ : Hid (NS wr g a bs c t2 nb (x1, 0, 0, 0, false, x2) w3b) := by rw [hw3b]; exact N3.out.put5 RI.out x2
              clear hw3b k0 kf N3 N2b Q2
              have c0 : w3b.cell? ⟨nb, 0, none⟩ = some (.int .i64 x1) := NZ.out.c0
              have c1 : w3b.cell? ⟨nb, 1, none⟩ = some (.int .i64 0) := NZ.out.c1
              have c2 : w3b.cell? ⟨nb, 2, none⟩ = some (.int .i64 0) := NZ.out.c2
              have c3 : w3b.cell? ⟨nb, 3, none⟩ = some (.int .i64 0) := NZ.out.c3
              have c4 : w3b.cell? ⟨nb, 4, none⟩ = some (.bool false) := NZ.out.c4
              have c5 : w3b.cell? ⟨nb, 5, none⟩ = some (.int .i64 x2) := NZ.out.c5
              have O2 := hide (kept_not OO.out NZ.out.gr (fun q hq e => by cases e; have := (OO.out.lt _ hq).1; have := GL9.out; omega))
              have zz := NZ.out.gr.size
              have E9 : Hid ((T1, T2) = ((L ++ [(x1, 0, 0, 0, false, x2)]) ++ (M.rNodes bs (nn - (j + 1)) t2).1, (M.rNodes bs (nn - (j + 1)) t2).2)) := by
                unfold Hid; rw [EL2.out, EN.out, List.append_assoc]; rfl
              have NC : Hid (ndCells (L ++ [(x1, 0, 0, 0, false, x2)]) = ndCells L ++ [.int .i64 x1, .int .i64 0, .int .i64 0, .int .i64 0, .bool false, .int .i64 x2]) := by unfold Hid; rw [ndCells_app]; rfl
              have L9 : Hid ((L ++ [(x1, 0, 0, 0, false, x2)]).length = j + 1) := by unfold Hid; rw [List.length_append, LL.out]; rfl
              clear EL2 EN
              go_wp2_with (at_builtin; refine wpList_append_lies _ rfl (.tmp 111) (.tmp 113) 110 rfl w9.heap.size 113 j0 (.agg #[.int .i64 0, .int .i64 0, .int .i64 0, .int .i64 0, .bool false, .int .i64 0]) 6 48 Tryz.underlying110 J2.out hv0 hv1 hv2 rfl (by omega) (.slice va j vc) j (ndCells L) rfl (O2.out.alloc _) ⟨w3b.heap.size, 0, none⟩ 1 1 [.int .i64 x1, .int .i64 0, .int .i64 0, .int .i64 0, .bool false, .int .i64 x2] rfl rfl (World.news_of_block (heap_alloc_new _ _)) (by simp [Value.oneCell']) (by omega) (by unfold maxLen; omega) (by omega) (by simp; omega) (w3b.heap.size + 1) (by simp) ?_; intro g3 cap3 w12 ho3 hg3 _ _; have O3 := hide ho3; have R3 := hide (I9.out.far (NZ.out.rdi.alloc _) hg3 (fun q hq => (OO.out.lt q hq).1)); have G3 := hide (grown_trans (grown_trans (grown_trans GI.out NZ.out.gr (.inl rfl)) (World.grownBy_alloc w3b _ (some g)) (.inl rfl)) hg3 (.inr (fun q hq => (OO.out.lt q hq).1))); clear ho3 hg3)
              go_roundw
              case rel => exact ⟨j + 1, L ++ [(x1, 0, 0, 0, false, x2)], _, _, t2, by omega, by go_num, rfl, L9, E9, R3, by unfold Hid; rw [NC.out]; exact O3.out, G3⟩
              case measure => simp [intOf]; omega
            · have p2 : (x1 == -1) = false := by
                rw [beq_eq_false_iff_ne]
                intro z
                by_cases y : t1.bad = 0
                · exact leaf ⟨y, z⟩
                · have := M.rNum_zero (b := bs) (s := s'') (by rw [E1.out]; exact y)
                  rw [E1.out] at this
                  have this : x1 = 0 := this
                  omega
              obtain ⟨⟨x3, t3⟩, e3⟩ : ∃ R, M.rNum bs t2 = R := ⟨_, rfl⟩
              have Q3 := hide (fun (W : World) (nb : Nat) (nd : M.Nd) (h : NS wr g a bs c t2 nb nd W) => h.num)
              rw [e3] at Q3
              obtain ⟨⟨x4, t4⟩, e4⟩ : ∃ R, M.rNum bs t3 = R := ⟨_, rfl⟩
              have Q4 := hide (fun (W : World) (nb : Nat) (nd : M.Nd) (h : NS wr g a bs c t3 nb nd W) => h.num)
              rw [e4] at Q4
              obtain ⟨⟨x5, t5⟩, e5⟩ : ∃ R, M.rNum bs t4 = R := ⟨_, rfl⟩
              have Q5 := hide (fun (W : World) (nb : Nat) (nd : M.Nd) (h : NS wr g a bs c t4 nb nd W) => h.num)
              rw [e5] at Q5
              simp only at Q3 Q4 Q5
              obtain ⟨bb, hbb⟩ : ∃ bb, decide (x5 = 1) = bb := ⟨_, rfl⟩
              have p5 : (x5 == 1) = bb := hbb
              have EN : Hid (M.rNode bs s'' = ((x1, x2, x3, x4, bb, 0), if t5.bad = 0 ∧ x5 ≠ 0 ∧ x5 ≠ 1 then { t5 with bad := 2 } else t5)) := by
                unfold Hid M.rNode
                rw [E1.out, if_neg leaf]
                show M.rAsk bs x1 t1 = _
                unfold M.rAsk
                simp only
                rw [E2.out]
                simp only
                rw [e3]
                simp only
                rw [e4]
                simp only
                rw [e5]
                simp only
                rw [hbb]
              have cs : (t1.bad == 0) = true ∨ (t1.bad == 0) = false := by cases (t1.bad == 0) <;> simp
              clear leaf e3 e4 e5 hbb
              rcases cs with p1 | p1
              all_goals (
                go_upto_region 22 with fail
                clear b3 b0
                go_upto_region 23 with (go_at_call 109; refine (Q2.out _ _ _ N2b.out).mono ?_; rintro e w3 ⟨rfl, na⟩; have NA := hide na; have k0 := na.c1; have kf := na.fr 1; clear na)
                obtain ⟨w3b, hwB⟩ : ∃ X, X = w3.setCell ⟨nb, 1, none⟩ (.int .i64 x2) := ⟨_, rfl⟩
                rw [← hwB]
                have N3b : Hid (NS wr g a bs c t2 nb (x1, x2, 0, 0, false, 0) w3b) := by rw [hwB]; exact NA.out.put1 RI.out x2
                clear hwB k0 kf NA N2b Q2
                go_upto_region 24 with (go_at_call 109; refine (Q3.out _ _ _ N3b.out).mono ?_; rintro e w4 ⟨rfl, na⟩; have NA := hide na; have k0 := na.c2; have kf := na.fr 2; clear na)
                obtain ⟨w4b, hwB⟩ : ∃ X, X = w4.setCell ⟨nb, 2, none⟩ (.int .i64 x3) := ⟨_, rfl⟩
                rw [← hwB]
                have N4b : Hid (NS wr g a bs c t3 nb (x1, x2, x3, 0, false, 0) w4b) := by rw [hwB]; exact NA.out.put2 RI.out x3
                clear hwB k0 kf NA N3b Q3
                go_upto_region 25 with (go_at_call 109; refine (Q4.out _ _ _ N4b.out).mono ?_; rintro e w5 ⟨rfl, na⟩; have NA := hide na; have k0 := na.c3; have kf := na.fr 3; clear na)
                obtain ⟨w5b, hwB⟩ : ∃ X, X = w5.setCell ⟨nb, 3, none⟩ (.int .i64 x4) := ⟨_, rfl⟩
                rw [← hwB]
                have N5b : Hid (NS wr g a bs c t4 nb (x1, x2, x3, x4, false, 0) w5b) := by rw [hwB]; exact NA.out.put3 RI.out x4
                clear hwB k0 kf NA N4b Q4
                go_upto_region 26 with (go_at_call 109; refine (Q5.out _ _ _ N5b.out).mono ?_; rintro e w6 ⟨rfl, n6'⟩; have N6 := hide n6'; clear n6')
                clear N5b Q5
                have b3 := N6.out.rdi.box.c3
                have f3 := N6.out.rdi.box.fr 3
                have b4 : w6.cell? ⟨nb, 4, none⟩ = some (.bool false) := N6.out.c4
                have f4 := N6.out.fr 4
                by_cases two : t5.bad = 0 ∧ x5 ≠ 0 ∧ x5 ≠ 1
                · have r1 : (t5.bad == 0) = true := by rw [beq_iff_eq]; exact two.1
                  have r2 : (x5 != 0) = true := by rw [bne_iff_ne]; exact two.2.1
                  have r3 : (x5 != 1) = true := by rw [bne_iff_ne]; exact two.2.2
                  rw [if_pos two] at EN
                  clear two
                  go_upto_region 27 with fail
                  go_upto_region 28 with fail
                  obtain ⟨w7, hw7⟩ : ∃ X, X = w6.setCell ⟨g, 3, none⟩ (.int .i64 2) := ⟨_, rfl⟩
                  rw [← hw7]
                  have N7 : Hid (NS wr g a bs c { t5 with bad := 2 } nb (x1, x2, x3, x4, false, 0) w7) := by rw [hw7]; exact N6.out.bad 2
                  clear hw7 b3 f3 b4 f4 N6
                  have b4 : w7.cell? ⟨nb, 4, none⟩ = some (.bool false) := N7.out.c4
                  have f4 := N7.out.fr 4
                  go_upto_region 29 with fail
                  obtain ⟨w8b, hw8b⟩ : ∃ X, X = w7.setCell ⟨nb, 4, none⟩ (.bool bb) := ⟨_, rfl⟩
                  rw [← hw8b]
                  have NZ : Hid (NS wr g a bs c { t5 with bad := 2 } nb (x1, x2, x3, x4, bb, 0) w8b) := by rw [hw8b]; exact N7.out.put4 RI.out bb
                  clear hw8b b4 f4 N7
                  have c0 : w8b.cell? ⟨nb, 0, none⟩ = some (.int .i64 x1) := NZ.out.c0
                  have c1 : w8b.cell? ⟨nb, 1, none⟩ = some (.int .i64 x2) := NZ.out.c1
                  have c2 : w8b.cell? ⟨nb, 2, none⟩ = some (.int .i64 x3) := NZ.out.c2
                  have c3 : w8b.cell? ⟨nb, 3, none⟩ = some (.int .i64 x4) := NZ.out.c3
                  have c4 : w8b.cell? ⟨nb, 4, none⟩ = some (.bool bb) := NZ.out.c4
                  have c5 : w8b.cell? ⟨nb, 5, none⟩ = some (.int .i64 0) := NZ.out.c5
                  have O2 := hide (kept_not OO.out NZ.out.gr (fun q hq e => by cases e; have := (OO.out.lt _ hq).1; have := GL9.out; omega))
                  have zz := NZ.out.gr.size
                  have E9 : Hid ((T1, T2) = ((L ++ [(x1, x2, x3, x4, bb, 0)]) ++ (M.rNodes bs (nn - (j + 1)) { t5 with bad := 2 }).1, (M.rNodes bs (nn - (j + 1)) { t5 with bad := 2 }).2)) := by
                    unfold Hid; rw [EL2.out, EN.out, List.append_assoc]; rfl
                  have NC : Hid (ndCells (L ++ [(x1, x2, x3, x4, bb, 0)]) = ndCells L ++ [.int .i64 x1, .int .i64 x2, .int .i64 x3, .int .i64 x4, .bool bb, .int .i64 0]) := by unfold Hid; rw [ndCells_app]; rfl
                  have L9 : Hid ((L ++ [(x1, x2, x3, x4, bb, 0)]).length = j + 1) := by unfold Hid; rw [List.length_append, LL.out]; rfl
                  clear EL2 EN
                  go_wp2_with (at_builtin; refine wpList_append_lies _ rfl (.tmp 111) (.tmp 113) 110 rfl w9.heap.size 113 j0 (.agg #[.int .i64 0, .int .i64 0, .int .i64 0, .int .i64 0, .bool false, .int .i64 0]) 6 48 Tryz.underlying110 J2.out hv0 hv1 hv2 rfl (by omega) (.slice va j vc) j (ndCells L) rfl (O2.out.alloc _) ⟨w8b.heap.size, 0, none⟩ 1 1 [.int .i64 x1, .int .i64 x2, .int .i64 x3, .int .i64 x4, .bool bb, .int .i64 0] rfl rfl (World.news_of_block (heap_alloc_new _ _)) (by simp [Value.oneCell']) (by omega) (by unfold maxLen; omega) (by omega) (by simp; omega) (w8b.heap.size + 1) (by simp) ?_; intro g3 cap3 w12 ho3 hg3 _ _; have O3 := hide ho3; have R3 := hide (I9.out.far (NZ.out.rdi.alloc _) hg3 (fun q hq => (OO.out.lt q hq).1)); have G3 := hide (grown_trans (grown_trans (grown_trans GI.out NZ.out.gr (.inl rfl)) (World.grownBy_alloc w8b _ (some g)) (.inl rfl)) hg3 (.inr (fun q hq => (OO.out.lt q hq).1))); clear ho3 hg3)
                  go_roundw
                  case rel => exact ⟨j + 1, L ++ [(x1, x2, x3, x4, bb, 0)], _, _, { t5 with bad := 2 }, by omega, by go_num, rfl, L9, E9, R3, by unfold Hid; rw [NC.out]; exact O3.out, G3⟩
                  case measure => simp [intOf]; omega
                · rw [if_neg two] at EN
                  have ways : ((t5.bad == 0) = false) ∨ ((t5.bad == 0) = true ∧ (x5 != 0) = false) ∨ ((t5.bad == 0) = true ∧ (x5 != 0) = true ∧ (x5 != 1) = false) := by
                    by_cases y1 : t5.bad = 0
                    · by_cases y2 : x5 = 0
                      · exact .inr (.inl ⟨by rw [beq_iff_eq]; exact y1, by rw [bne_eq_false_iff_eq]; exact y2⟩)
                      · by_cases y3 : x5 = 1
                        · exact .inr (.inr ⟨by rw [beq_iff_eq]; exact y1, by rw [bne_iff_ne]; exact y2, by rw [bne_eq_false_iff_eq]; exact y3⟩)
                        · exact absurd ⟨y1, y2, y3⟩ two
                    · exact .inl (by rw [beq_eq_false_iff_ne]; exact y1)
                  clear two
                  rcases ways with r1 | ⟨r1, r2⟩ | ⟨r1, r2, r3⟩
                  all_goals (
                    go_upto_region 28 with fail
                    clear b3 f3
                    go_upto_region 29 with fail
                    obtain ⟨w8b, hw8b⟩ : ∃ X, X = w6.setCell ⟨nb, 4, none⟩ (.bool bb) := ⟨_, rfl⟩
                    rw [← hw8b]
                    have NZ : Hid (NS wr g a bs c t5 nb (x1, x2, x3, x4, bb, 0) w8b) := by rw [hw8b]; exact N6.out.put4 RI.out bb
                    clear hw8b b4 f4 N6
                    have c0 : w8b.cell? ⟨nb, 0, none⟩ = some (.int .i64 x1) := NZ.out.c0
                    have c1 : w8b.cell? ⟨nb, 1, none⟩ = some (.int .i64 x2) := NZ.out.c1
                    have c2 : w8b.cell? ⟨nb, 2, none⟩ = some (.int .i64 x3) := NZ.out.c2
                    have c3 : w8b.cell? ⟨nb, 3, none⟩ = some (.int .i64 x4) := NZ.out.c3
                    have c4 : w8b.cell? ⟨nb, 4, none⟩ = some (.bool bb) := NZ.out.c4
                    have c5 : w8b.cell? ⟨nb, 5, none⟩ = some (.int .i64 0) := NZ.out.c5
                    have O2 := hide (kept_not OO.out NZ.out.gr (fun q hq e => by cases e; have := (OO.out.lt _ hq).1; have := GL9.out; omega))
                    have zz := NZ.out.gr.size
                    have E9 : Hid ((T1, T2) = ((L ++ [(x1, x2, x3, x4, bb, 0)]) ++ (M.rNodes bs (nn - (j + 1)) t5).1, (M.rNodes bs (nn - (j + 1)) t5).2)) := by
                      unfold Hid; rw [EL2.out, EN.out, List.append_assoc]; rfl
                    have NC : Hid (ndCells (L ++ [(x1, x2, x3, x4, bb, 0)]) = ndCells L ++ [.int .i64 x1, .int .i64 x2, .int .i64 x3, .int .i64 x4, .bool bb, .int .i64 0]) := by unfold Hid; rw [ndCells_app]; rfl
                    have L9 : Hid ((L ++ [(x1, x2, x3, x4, bb, 0)]).length = j + 1) := by unfold Hid; rw [List.length_append, LL.out]; rfl
                    clear EL2 EN
                    go_wp2_with (at_builtin; refine wpList_append_lies _ rfl (.tmp 111) (.tmp 113) 110 rfl w9.heap.size 113 j0 (.agg #[.int .i64 0, .int .i64 0, .int .i64 0, .int .i64 0, .bool false, .int .i64 0]) 6 48 Tryz.underlying110 J2.out hv0 hv1 hv2 rfl (by omega) (.slice va j vc) j (ndCells L) rfl (O2.out.alloc _) ⟨w8b.heap.size, 0, none⟩ 1 1 [.int .i64 x1, .int .i64 x2, .int .i64 x3, .int .i64 x4, .bool bb, .int .i64 0] rfl rfl (World.news_of_block (heap_alloc_new _ _)) (by simp [Value.oneCell']) (by omega) (by unfold maxLen; omega) (by omega) (by simp; omega) (w8b.heap.size + 1) (by simp) ?_; intro g3 cap3 w12 ho3 hg3 _ _; have O3 := hide ho3; have R3 := hide (I9.out.far (NZ.out.rdi.alloc _) hg3 (fun q hq => (OO.out.lt q hq).1)); have G3 := hide (grown_trans (grown_trans (grown_trans GI.out NZ.out.gr (.inl rfl)) (World.grownBy_alloc w8b _ (some g)) (.inl rfl)) hg3 (.inr (fun q hq => (OO.out.lt q hq).1))); clear ho3 hg3)
                    go_roundw
                    case rel => exact ⟨j + 1, L ++ [(x1, x2, x3, x4, bb, 0)], _, _, t5, by omega, by go_num, rfl, L9, E9, R3, by unfold Hid; rw [NC.out]; exact O3.out, G3⟩
                    case measure => simp [intOf]; omega))
          · have ex : (¬ j < nn) ∨ (j < nn ∧ s''.bad ≠ 0) := by
              by_cases y : j < nn
              · exact .inr ⟨y, fun z => on2 ⟨y, z⟩⟩
              · exact .inl y
            have ET2 : T1 = L ∧ T2 = s'' := by
              have el := EL.out
              rcases ex with y | ⟨y, z⟩
              · rw [show nn - j = 0 by omega] at el
                have el : (T1, T2) = (L ++ [], s'') := el
                rw [List.append_nil, Prod.mk.injEq] at el
                exact el
              · rw [M.nodes_bad z, List.append_nil, Prod.mk.injEq] at el
                exact el
            obtain ⟨eT1, eT2⟩ := ET2
            subst eT1
            subst eT2
            have lj := LL.out
            subst lj
            have bc := RI.out.box.c3
            have GR := hide (G9.out.rdr GI.out)
            have FR := hide (GW.fresh G9.out OO.out (by omega))
            have FR2 := hide (show RdN wr va T1 ∧ ∀ p, va = some p → gb < p.block ∧ p.block < wr.heap.size ∧ (Value.slice (some ⟨g7, 0, none⟩) (k + 1) c7).ownBlock ≠ some p.block ∧ (Value.slice xa k xc).ownBlock ≠ some p.block from FR.out)
            have d3 := GR.out.c3
            have gbz := GR.out.lt
            have E2 : Hid (Z = ((P ++ [(x1, T1)]) ++ (M.rTrees bs (n - (k + 1)) T2).1, (M.rTrees bs (n - (k + 1)) T2).2)) := by
              unfold Hid; rw [ZZ.out, List.append_assoc]; rfl
            have LK2 : Hid ((P ++ [(x1, T1)]).length = k + 1 ∧ (D ++ [(va, T1, vc)]).length = k + 1 ∧ tl (D ++ [(va, T1, vc)]) = (P ++ [(x1, T1)]).map (·.2)) := by
              obtain ⟨l1, l2, l3⟩ := LK.out
              refine ⟨by rw [List.length_append, l1]; rfl, by rw [List.length_append, l2]; rfl, ?_⟩
              unfold tl at l3 ⊢
              rw [List.map_append, List.map_append, l3]
              rfl
            have PM : Hid ((P ++ [(x1, T1)]).map (·.1) = P.map (·.1) ++ [x1]) := by unfold Hid; rw [List.map_append]; rfl
            clear ET TT0 EL LL FR LK ZZ on2
            rcases ex with y | ⟨y, z⟩
            case' inl => have jz : ¬ ((T1.length : Int) < (nn : Int)) := by omega
            case' inr => have jz : ((T1.length : Int) < (nn : Int)) := by omega
            case' inr => have q2 : (T2.bad == 0) = false := by rw [beq_eq_false_iff_ne]; exact z
            case' inr => clear z
            all_goals (
              go_upto_region 30 with fail
              go_wp2_with (at_builtin; refine wpList_append_lies _ rfl (.tmp 116) (.tmp 118) 51 rfl (gb + 1) 110 t0 (.slice none 0 0) 1 24 Tryz.underlying51 J1.out hy0 hy1 hy2 rfl (by omega) (.slice xa k xc) k (D.map tV) rfl (GR.out.ox.alloc _) ⟨wr.heap.size, 0, none⟩ 1 1 [.slice va T1.length vc] rfl rfl (World.news_of_block (heap_alloc_new _ _)) (by intro u hu; rw [List.mem_singleton] at hu; subst hu; rfl) (by omega) (by unfold maxLen; omega) (by omega) (by simp; omega) (wr.heap.size + 1) (by simp) ?_; intro g12 c12 w12 hov hgrow hat hlt12; have K12 := GR.out.tree (t := (va, T1, vc)) FR2.out.1 FR2.out.2 hov hgrow hat; have z2 := K12.1.1; have zf := K12.1.2; have G12 := hide K12.2.2; have R12 := hide (R0.out.far (R0.out.far RI.out K12.2.1 (fun q hq => by have := (GR.out.ox.lt q hq).1; have := Z0.out; have := HGB.out; omega)) (grown_set (g := gb) (o := 3) (u := .slice (some ⟨g12, 0, none⟩) (k + 1) c12)) GBZ.out); clear hov hgrow hat hlt12 K12)
              exact ⟨⟨k + 1, _, _, _, _, P ++ [(x1, T1)], D ++ [(va, T1, vc)], T2, hlt, rfl, LK2, E2, R12, by unfold Hid; rw [PM.out]; exact G12.out⟩, by show n - (((k : Int) + 1).toNat) < n - ((k : Int).toNat); omega⟩)
      · have ex : (¬ k < n) ∨ (k < n ∧ s'.bad ≠ 0) := by
          by_cases y : k < n
          · exact .inr ⟨y, fun z => on ⟨y, z⟩⟩
          · exact .inl y
        have EZ2 : Hid (Z = (P, s')) := by
          have ez := EZ.out
          unfold Hid
          rcases ex with y | ⟨y, z⟩
          · rw [show n - k = 0 by omega] at ez
            have ez : Z = (P ++ [], s') := ez
            rw [List.append_nil] at ez
            exact ez
          · rw [M.trees_bad z, List.append_nil] at ez
            exact ez
        obtain ⟨l1, l2, l3⟩ := LK.out
        have OM : Hid ((⟨n1, n2, ya, P.map (·.1), yc, xa, D, xc⟩ : Gr).m = G) := by
          unfold Hid; rw [EG.out, EZ2.out]; unfold Gr.m; rw [l3]
        have NH : Hid (∀ W'' : World, wr.heap.size ≤ W''.heap.size → (∀ q, gb < q → q < wr.heap.size → W''.heap[q]? = wr.heap[q]?) → RdG W'' ⟨n1, n2, ya, P.map (·.1), yc, xa, D, xc⟩) := fun W'' => GG.out.out_at (by rw [List.length_map]; exact l1) l2 (by omega) W''
        have OV : Hid ((⟨n1, n2, ya, P.map (·.1), yc, xa, D, xc⟩ : Gr).v = .agg #[.int .i64 n1, .int .i64 n2, .slice ya k yc, .slice xa k xc]) := by unfold Hid Gr.v; simp only [List.length_map, l1, l2]
        have HRO := hide (HR.out ⟨n1, n2, ya, P.map (·.1), yc, xa, D, xc⟩ wr (NH.out wr (Nat.le_refl _) (fun _ _ _ => rfl)))
        rw [OM.out] at HRO
        simp only [List.length_map, l1, l2] at HRO
        have KB : Hid (Below w.heap.size w wr) := (Below.refl _ w).grown GG.out.gr (Nat.le_refl _) (fun q hq => by cases hq; rw [HGe.out]; omega)
        have y0 := GG.out.c0
        have y1 := GG.out.c1
        have y2 := GG.out.c2
        have y3 := GG.out.c3
        obtain ⟨v0, x0⟩ := GG.out.r 0 (by omega)
        obtain ⟨v1, x1⟩ := GG.out.r 1 (by omega)
        obtain ⟨v2, x2⟩ := GG.out.r 2 (by omega)
        obtain ⟨v3, x3⟩ := GG.out.r 3 (by omega)
        have f0 := GG.out.rf 0
        have f1 := GG.out.rf 1
        have f2 := GG.out.rf 2
        have f3 := GG.out.rf 3
        have a1 := RR.out.box.c1
        have a2 := RR.out.box.c2
        have a3 := RR.out.box.c3
        have UP : Hid (∀ w5, Below wr.heap.size wr w5 → (∀ q j, (q = w.heap.size ∨ q = gb ∨ q = g) → w5.cell? ⟨q, j, none⟩ = wr.cell? ⟨q, j, none⟩) ∧ ∀ j, w5.frozen? ⟨w.heap.size, j, none⟩ = false) := fun w5 hb => by
          have q1 := GG.out.ge
          have q2 := GG.out.lt
          have q3 := RR.out.lt
          exact ⟨fun q j hq => hb.cell (p := ⟨q, j, none⟩) (by simp; omega), fun j => (hb.frozen (p := ⟨w.heap.size, j, none⟩) (by simp; omega)).trans (GG.out.rf j)⟩
        have HGW : Hid (w.heap.size < gb) := GG.out.ge
        have gw1 : ¬ g = w.heap.size := by rw [HGe.out]; omega
        have gw2 : ¬ w.heap.size = g := by rw [HGe.out]; omega
        clear EZ EA EG NN MM HR l1 l2 l3 LK J0 J1 J2 GG RR on
        rcases ex with y | ⟨y, z⟩
        · have kz : ¬ ((k : Int) < (n : Int)) := by omega
          by_cases b1 : s'.bad = 0
          · have p1 : (s'.bad != 0) = false := by rw [bne_eq_false_iff_eq]; exact b1
            by_cases b2 : s'.fin = bs.length
            · have p2 : ((s'.fin : Int) != (bs.length : Int)) = false := by rw [bne_eq_false_iff_eq]; omega
              have p2' : (s'.fin != bs.length) = false := by rw [bne_eq_false_iff_eq]; exact b2
              by_cases b3 : M.groveF G = 0
              · have p3 : (M.groveF G != 0) = false := by rw [bne_eq_false_iff_eq]; exact b3
                have E1 : Hid (dF = (0, 0)) := by unfold Hid; rw [DF.out, EZ2.out, if_neg (by simp [b1]), if_neg (by simp [b2]), if_neg (by simp [b3])]
                have E9 : Hid (dV = G) := by unfold Hid; rw [DV.out, E1.out, if_pos rfl]
                clear b1 b2 b3 DF DV EZ2
                generalize M.groveF G = gf at *
                go_upto_region 36 with (go_at_call 107; refine HRO.out.mono ?_; rintro e w5 ⟨rfl, hb5⟩; have B5 := hide hb5; clear hb5)
                have u := UP.out w5 B5.out
                have KB5 := hide (below_on KB.out B5.out)
                have y0 := (u.1 gb 0 (.inr (.inl rfl))).trans y0
                have y1 := (u.1 gb 1 (.inr (.inl rfl))).trans y1
                have y2 := (u.1 gb 2 (.inr (.inl rfl))).trans y2
                have y3 := (u.1 gb 3 (.inr (.inl rfl))).trans y3
                have x0 := (u.1 w.heap.size 0 (.inl rfl)).trans x0
                have x1 := (u.1 w.heap.size 1 (.inl rfl)).trans x1
                have x2 := (u.1 w.heap.size 2 (.inl rfl)).trans x2
                have x3 := (u.1 w.heap.size 3 (.inl rfl)).trans x3
                have f0 := u.2 0
                have f1 := u.2 1
                have f2 := u.2 2
                have f3 := u.2 3
                clear u HRO a1 a2 a3 UP
                go_wp2
                obtain ⟨e0, e1, e2, e3⟩ := put4_at (x0 := .int .i64 n1) (x1 := .int .i64 n2) (x2 := .slice ya k yc) (x3 := .slice xa k xc) x0 x1 x2 x3
                refine bodyPost_ret (v := .tuple #[.agg #[.int .i64 n1, .int .i64 n2, .slice ya k yc, .slice xa k xc], .int .i64 0, .int .i64 0]) (by simp [results, Tryz.results79, go_sem, e0, e1, e2, e3]) rfl ?_
                refine ⟨⟨n1, n2, ya, P.map (·.1), yc, xa, D, xc⟩, by rw [E1.out, OV.out]; rfl, by rw [E9.out]; exact OM.out, ?_, lay4 KB5.out (Nat.le_refl _)⟩
                have gs := grown4_at (W := w5) (p := w.heap.size) (x0 := .int .i64 n1) (x1 := .int .i64 n2) (x2 := .slice ya k yc) (x3 := .slice xa k xc)
                intro W'' hz'' hc''
                exact NH.out W'' (Nat.le_trans (Nat.le_trans B5.out.size gs.size) hz'') (fun b h1 h2 => (hc'' b (by have := HGW.out; omega) (Nat.lt_of_lt_of_le h2 (Nat.le_trans B5.out.size gs.size))).trans ((gs.block b (Nat.lt_of_lt_of_le h2 B5.out.size) (fun e => by cases e; have := HGW.out; omega)).trans (B5.out.block b h2)))
              · have p3 : (M.groveF G != 0) = true := by rw [bne_iff_ne]; exact b3
                have E1 : Hid (dF = (s'.fin, M.groveF G)) := by unfold Hid; rw [DF.out, EZ2.out, if_neg (by simp [b1]), if_neg (by simp [b2]), if_pos b3]
                have E9 : Hid (dV = (0, 0, [], [])) := by unfold Hid; rw [DV.out, E1.out, if_neg b3]
                clear b1 b2 b3 DF DV EZ2
                generalize M.groveF G = gf at *
                go_upto_region 36 with (go_at_call 107; refine HRO.out.mono ?_; rintro e w5 ⟨rfl, hb5⟩; have B5 := hide hb5; clear hb5)
                have u := UP.out w5 B5.out
                have KB5 := hide (below_on KB.out B5.out)
                have a2 := (u.1 g 2 (.inr (.inr rfl))).trans a2
                have x0 := (u.1 w.heap.size 0 (.inl rfl)).trans x0
                have x1 := (u.1 w.heap.size 1 (.inl rfl)).trans x1
                have x2 := (u.1 w.heap.size 2 (.inl rfl)).trans x2
                have x3 := (u.1 w.heap.size 3 (.inl rfl)).trans x3
                have f0 := u.2 0
                have f1 := u.2 1
                have f2 := u.2 2
                have f3 := u.2 3
                clear u HRO a1 a3 UP y0 y1 y2 y3
                go_upto_region 37 with fail
                go_region_with (fail)
                all_goals (
                  go_simp
                  go_wp2
                  obtain ⟨e0, e1, e2, e3⟩ := put4_at (x0 := .int .i64 0) (x1 := .int .i64 0) (x2 := .slice none 0 0) (x3 := .slice none 0 0) x0 x1 x2 x3
                  refine bodyPost_ret (v := .tuple #[.agg #[.int .i64 0, .int .i64 0, .slice none 0 0, .slice none 0 0], .int .i64 (s'.fin : Nat), .int .i64 gf]) (by simp [results, Tryz.results79, go_sem, e0, e1, e2, e3]) rfl ?_
                  exact ⟨Gr.none', by rw [E1.out]; rfl, by rw [E9.out]; rfl, (fun _ _ _ => Gr.none_rd _), (lay4 KB5.out (Nat.le_refl _)).drew⟩)
            · have p2 : ((s'.fin : Int) != (bs.length : Int)) = true := by rw [bne_iff_ne]; omega
              have p2' : (s'.fin != bs.length) = true := by rw [bne_iff_ne]; exact b2
              have E1 : Hid (dF = (s'.fin, 2)) := by unfold Hid; rw [DF.out, EZ2.out, if_neg (by simp [b1]), if_pos b2]
              have E9 : Hid (dV = (0, 0, [], [])) := by unfold Hid; rw [DV.out, E1.out]; rfl
              clear b1 b2 DF DV EZ2 HRO UP
              go_upto_region 34 with fail
              go_region_with (fail)
              all_goals (
                go_simp
                go_wp2
                obtain ⟨e0, e1, e2, e3⟩ := put4_at (x0 := .int .i64 0) (x1 := .int .i64 0) (x2 := .slice none 0 0) (x3 := .slice none 0 0) x0 x1 x2 x3
                refine bodyPost_ret (v := .tuple #[.agg #[.int .i64 0, .int .i64 0, .slice none 0 0, .slice none 0 0], .int .i64 (s'.fin : Nat), .int .i64 2]) (by simp [results, Tryz.results79, go_sem, e0, e1, e2, e3]) rfl ?_
                exact ⟨Gr.none', by rw [E1.out]; rfl, by rw [E9.out]; rfl, (fun _ _ _ => Gr.none_rd _), (lay4 KB.out (Nat.le_refl _)).drew⟩)
          · clear HRO UP
            have p1 : (s'.bad != 0) = true := by rw [bne_iff_ne]; exact b1
            have E1 : Hid (dF = (s'.at', s'.bad)) := by unfold Hid; rw [DF.out, EZ2.out, if_pos b1]
            have E9 : Hid (dV = (0, 0, [], [])) := by unfold Hid; rw [DV.out, E1.out, if_neg b1]
            clear b1 DF DV
            go_upto_region 32 with fail
            go_region_with (fail)
            all_goals (
              go_simp
              go_wp2
              obtain ⟨e0, e1, e2, e3⟩ := put4_at (x0 := .int .i64 0) (x1 := .int .i64 0) (x2 := .slice none 0 0) (x3 := .slice none 0 0) x0 x1 x2 x3
              refine bodyPost_ret (v := .tuple #[.agg #[.int .i64 0, .int .i64 0, .slice none 0 0, .slice none 0 0], .int .i64 (s'.at' : Nat), .int .i64 s'.bad]) (by simp [results, Tryz.results79, go_sem, e0, e1, e2, e3]) rfl ?_
              exact ⟨Gr.none', by rw [E1.out]; rfl, by rw [E9.out]; rfl, (fun _ _ _ => Gr.none_rd _), (lay4 KB.out (Nat.le_refl _)).drew⟩)
        · have kz : ((k : Int) < (n : Int)) := by omega
          have q1 : (s'.bad == 0) = false := by rw [beq_eq_false_iff_ne]; exact z
          have b1 := z
          clear z HRO UP
          have p1 : (s'.bad != 0) = true := by rw [bne_iff_ne]; exact b1
          have E1 : Hid (dF = (s'.at', s'.bad)) := by unfold Hid; rw [DF.out, EZ2.out, if_pos b1]
          have E9 : Hid (dV = (0, 0, [], [])) := by unfold Hid; rw [DV.out, E1.out, if_neg b1]
          clear b1 DF DV
          go_upto_region 32 with fail
          go_region_with (fail)
          all_goals (
            go_simp
            go_wp2
            obtain ⟨e0, e1, e2, e3⟩ := put4_at (x0 := .int .i64 0) (x1 := .int .i64 0) (x2 := .slice none 0 0) (x3 := .slice none 0 0) x0 x1 x2 x3
            refine bodyPost_ret (v := .tuple #[.agg #[.int .i64 0, .int .i64 0, .slice none 0 0, .slice none 0 0], .int .i64 (s'.at' : Nat), .int .i64 s'.bad]) (by simp [results, Tryz.results79, go_sem, e0, e1, e2, e3]) rfl ?_
            exact ⟨Gr.none', by rw [E1.out]; rfl, by rw [E9.out]; rfl, (fun _ _ _ => Gr.none_rd _), (lay4 KB.out (Nat.le_refl _)).drew⟩)

theorem rdec_any (hR : RGrvGives) : RDecGives := fun a bs c W h1 h2 h3 => (rdec_new hR a bs c W h1 h2 h3).mono (by
  rintro e w' ⟨O, g1, g2, g3, g4⟩
  exact ⟨O, g1, g2, g3 w' (Nat.le_refl _) (fun _ _ _ => rfl), g4⟩)
end Go.Proofs.YtiggkjkjfnlfkaaGreatDoor
