/-
  What package path's region answers, for every place of a tree that is right.
-/
import Derived.Test.YthbeoaninipadafPWay
import Derived.Test.YthbeoaninipadafPRepeat
import Derived.Test.YthbeoaninipadafPHas
namespace Go.Proofs.Ythbeoaninipadaf
open Go.ChangeShapes Go.WideShapes Go.ChangeAt Go.RowKit Go.Lib
set_option linter.unusedVariables false

theorem far_cell {w : World} {g o b p : Nat} {v : Value} (h : g ≠ b) : (w.setCell ⟨g, o, none⟩ v).cell? ⟨b, p, none⟩ = w.cell? ⟨b, p, none⟩ := by
  apply World.cell?_setCell_other
  intro e
  exact h (congrArg Addr.block e)
theorem own_shapeS {w : World} {base n e size : Nat} {v : Value} {l : List Value} (h : w.ownsRow base e size v n l) (hn : 0 < n) : ∃ g cap, v = .slice (some ⟨g, 0, none⟩) n cap ∧ base ≤ g ∧ g < w.heap.size := by
  rcases h.2 with ⟨_, h0⟩ | ⟨g, cap, cur, hv, hb, hg, _⟩
  · omega
  · exact ⟨g, cap, hv, hb, (Array.getElem?_eq_some_iff.1 hg).1⟩
/-- the cells of a span in such a row -/
theorem own_spAt {w : World} {base n g cap : Nat} {ss : List M.Sp} (h : w.ownsRow base 77 3 (.slice (some ⟨g, 0, none⟩) n cap) n (spCells ss)) (hn : ss.length = n) {i : Nat} (hi : i < ss.length) :
    w.cell? ⟨g, i * 3, none⟩ = some (.int .i64 (ss.getD i (0, 0, false)).1) ∧ w.cell? ⟨g, i * 3 + 1, none⟩ = some (.int .i64 (ss.getD i (0, 0, false)).2.1) ∧ w.cell? ⟨g, i * 3 + 2, none⟩ = some (.bool (ss.getD i (0, 0, false)).2.2) := by
  obtain ⟨q0, q1, q2⟩ := spCells_at ss i hi
  exact ⟨(h.cellAt (i * 3) (by omega)).trans q0, (h.cellAt (i * 3 + 1) (by omega)).trans q1, (h.cellAt (i * 3 + 2) (by omega)).trans q2⟩

set_option maxHeartbeats 16000000 in
set_option maxRecDepth 10000 in
theorem region_any (a0 : Option Addr) (ts : List M.Nd) (ca m k : Nat) (w : World) (ht : RdN w a0 ts) (F : M.Fair ts (m : Int)) (hk : k < ts.length) :
    Calls Try.prog 31 #[.slice a0 ts.length ca, .int .i64 (m : Nat), .int .i64 (k : Nat)] w fun e w' => ∃ v, e = .returned v ∧ w'.ownsRow w.heap.size 77 3 v m (spCells ((M.region ts m k).map M.norm)) ∧ Below w.heap.size w w' := by
  have m8 : m ≤ 8 := by have := F.2.2.2.1; omega
  have l63 := F.1
  have HF := hide F
  have HT := hide ht
  have C1 : Hid (∀ o : Obj, o = .cells #[.int .i64 (-1000000), .int .i64 1000000, .bool true] 77 → Calls Try.prog 52 #[.slice (some ⟨w.heap.size, 0, none⟩) 1 1, .int .i64 m] (w.alloc o) fun e w' => ∃ v, e = .returned v ∧ w'.ownsRow w.heap.size 77 3 v m (spCells ((M.region ts m ((M.upL ts k).getD 0 0)).map M.norm)) ∧ Below w.heap.size w w') := by
    intro o ho
    have hcell : ∀ j, (w.alloc o).cell? ⟨w.heap.size, j, none⟩ = (#[Value.int .i64 (-1000000), .int .i64 1000000, .bool true] : Array Value)[j]? := fun j => by rw [ho]; exact World.cell?_alloc_at _ _ _ j rfl
    refine (repeat_any w.heap.size 0 1 m M.all0 (w.alloc o) (by simp) (hcell 0) (hcell 1) (hcell 2) m8).mono ?_
    rintro e w' ⟨v, rfl, h1, h2⟩
    rw [M.upL_first F hk, M.region_root F, M.all_norm]
    have bb := (Below.refl _ w).alloc (Nat.le_refl _) o
    refine ⟨v, rfl, ⟨h1.1, ?_⟩, below_on bb h2⟩
    rcases h1.2 with q | ⟨g, cap, cur, hv, hb, r⟩
    · exact .inl q
    · exact .inr ⟨g, cap, cur, hv, Nat.le_trans bb.size hb, r⟩
  have C2 := hide (fun W (hW : Below w.heap.size w W) => wayto_any a0 ts ca k W (ht.below hW) l63 hk)
  have PL := M.upL_len ts k
  have WA := hide (fun i h => M.wayN_at ts k i h)
  have WL := hide (M.wayN_len ts k)
  have UP : Hid (∀ i, i + 1 < (M.upL ts k).length → (M.upL ts k).getD i 0 < ts.length ∧ (M.upL ts k).getD (i + 1) 0 < ts.length ∧ M.chL (M.nAt ts ((M.upL ts k).getD i 0)) ((M.upL ts k).getD (i + 1) 0)) := fun i h => M.upL_pair F hk h
  have EE : Hid (M.region ts m k = M.region ts m ((M.upL ts k).getD ((M.upL ts k).length - 1) 0)) := by unfold Hid; rw [M.upL_end]
  clear ht F
  generalize M.region ts m k = V at *
  generalize M.wayN ts k = WN at *
  generalize M.upL ts k = U at *
  obtain ⟨pl1, pl2⟩ := PL
  have wl1 : 1 ≤ WN.length := by rw [WL.out]; exact pl1
  have wl2 : WN.length ≤ 63 := by rw [WL.out]; omega
  go_enter Try.func31, Try.ntmps31
  go_upto_region 3 with (first
    | (go_at_call 52; refine (C1.out _ rfl).mono ?_; rintro e w1 ⟨v, rfl, hown1, hb1⟩; have HO1 := hide hown1; clear hown1)
    | (go_at_call 30; refine (C2.out _ hb1).mono ?_; rintro e w2 ⟨ag, cg, rfl, hcg, hnew, hrd, hb2⟩; obtain ⟨bx, ox, rfl, hbx, hcx⟩ := hrd.2 (by intro e; rw [e] at wl1; simp at wl1); have hnb := hnew bx ox rfl; clear hnew; have HC := hide hcx; have HO2 := hide (own_up HO1.out hb2); have hb3 := below_on hb1 hb2; have hcg1 : 1 ≤ cg := Nat.le_trans wl1 hcg; clear hcx))
  have HB2 := hide hb2
  have kw := hb3.size
  clear hrd hb2 hb1 C1 C2
  by_cases hc1 : cg = 1
  · have WL1 : WN.length = 1 := by omega
    have E : Hid (V = M.region ts m (U.getD 0 0)) := by unfold Hid; rw [EE.out, show U.length - 1 = 0 by rw [← WL.out, WL1]]
    subst hc1
    clear UP EE HO1
    go_wp2
    refine wp_loop_rounds 1 ?_
    rw [rounds_succ]
    go_wp2
    go_ret
    exact ⟨v, rfl, by rw [E.out]; exact HO2.out, hb3⟩
  · have hc2 : ¬ 1 = cg := fun h => hc1 h.symm
    go_wp2
    have NG : Hid (∀ g cap, v = .slice (some ⟨g, 0, none⟩) m cap → 0 < m → g < w1.heap.size) := by
      intro g cap e hm
      obtain ⟨g', cap', e', _, hl⟩ := own_shapeS HO1.out hm
      rw [e] at e'
      cases e'
      exact hl
    clear HO1
    go_loopw [22] (fun i wr => ∃ i' : Nat, i' + 1 ≤ WN.length ∧ i = .int .i64 i' ∧ Hid (wr.ownsRow w.heap.size 77 3 v m (spCells ((M.region ts m (U.getD i' 0)).map M.norm))) ∧ Hid (∀ j, j < WN.length → wr.cell? ⟨bx, ox + j, none⟩ = some (.int .i64 (WN.getD j 0))) ∧ Hid (bx < wr.heap.size) ∧ Below w.heap.size w wr) (fun i _ => WN.length - (intOf i).toNat)
    case atStart => exact ⟨0, by omega, rfl, HO2, HC, hbx, hb3⟩
    case round =>
      clear HO2 HC hb3 kw
      obtain ⟨i, hi, rfl, HO, HC, HX, hbl⟩ := hrel
      have kw := hbl.size
      by_cases hlt : i + 1 < WN.length
      · obtain ⟨hu, hk2, hch⟩ := UP.out i (by rw [← WL.out]; exact hlt)
        have x1 := HC.out i (by omega)
        have x2 := HC.out (i + 1) hlt
        rw [WA.out i (by rw [← WL.out]; omega)] at x1
        rw [WA.out (i + 1) (by rw [← WL.out]; omega)] at x2
        have NR := hide (M.region_norm HF.out hu hk2 hch)
        have na := M.node_ask (HF.out.2.2.2.2.1 _ hu) hch.1
        obtain ⟨fi, hfi⟩ : ∃ fi : Nat, M.nf (M.nAt ts (U.getD i 0)) = fi := ⟨(M.nf (M.nAt ts (U.getD i 0))).toNat, by have := na.1; omega⟩
        have hfm : fi < m := by have := na.2.1; omega
        have LN : Hid (((M.region ts m (U.getD i 0)).map M.norm).length = m) := by unfold Hid; rw [List.length_map, M.region_len]
        have CN := hide (fun s tt W => narrow_any s (M.nAt ts (U.getD i 0)) tt W na.2.2.1)
        rw [hfi, Int.toNat_natCast] at NR
        obtain ⟨b0, off, rfl, hb0, hc6⟩ := (HT.out.below hbl).2 (by intro e; subst e; simp at hu)
        obtain ⟨s0, s1, s2, s3, s4, s5⟩ := hc6 (U.getD i 0) hu
        rw [hfi] at s0
        unfold ndV at CN
        rw [hfi] at CN
        rw [show ox + (i + 1) = ox + 1 + i by omega] at x2
        obtain ⟨g, cap2, rfl, hg1, hg2⟩ := own_shapeS HO.out (by omega)
        have hgx : g ≠ bx := by have := NG.out g cap2 rfl (by omega); omega
        have p := own_spAt HO.out LN.out (i := fi) (by rw [LN.out]; exact hfm)
        have p0 := p.1
        have p1 := p.2.1
        have p2 := p.2.2
        have KP : Hid (∀ (O : Obj) W, Below (wr.alloc O).drew.heap.size (wr.alloc O).drew W → Hid (W.ownsRow w.heap.size 77 3 (.slice (some ⟨g, 0, none⟩) m cap2) m (spCells ((M.region ts m (U.getD i 0)).map M.norm))) ∧ Hid (∀ j, j < WN.length → W.cell? ⟨bx, ox + j, none⟩ = some (.int .i64 (WN.getD j 0))) ∧ Hid (bx < W.heap.size) ∧ Hid (Below w.heap.size w W)) := by
          intro O W hW
          have hW2 : Below wr.heap.size wr W := below_on (((Below.refl _ wr).alloc (Nat.le_refl _) O).drew) hW
          exact ⟨own_up HO.out hW2, fun j hj => (hW2.cell (p := ⟨bx, ox + j, none⟩) HX.out).trans (HC.out j hj), Nat.lt_of_lt_of_le HX.out hW2.size, below_on hbl hW2⟩
        have FZ : Hid (∀ W : World, Hid (W.ownsRow w.heap.size 77 3 (.slice (some ⟨g, 0, none⟩) m cap2) m (spCells ((M.region ts m (U.getD i 0)).map M.norm))) → (W.cell? ⟨g, fi * 3, none⟩ = some (.int .i64 (((M.region ts m (U.getD i 0)).map M.norm).getD fi (0, 0, false)).1) ∧ W.cell? ⟨g, fi * 3 + 1, none⟩ = some (.int .i64 (((M.region ts m (U.getD i 0)).map M.norm).getD fi (0, 0, false)).2.1) ∧ W.cell? ⟨g, fi * 3 + 2, none⟩ = some (.bool (((M.region ts m (U.getD i 0)).map M.norm).getD fi (0, 0, false)).2.2)) ∧ W.frozen? ⟨g, fi * 3, none⟩ = false ∧ W.frozen? ⟨g, fi * 3 + 1, none⟩ = false ∧ W.frozen? ⟨g, fi * 3 + 2, none⟩ = false) := fun W hW => ⟨own_spAt hW.out LN.out (i := fi) (by rw [LN.out]; exact hfm), hW.out.frozenAt _, hW.out.frozenAt _, hW.out.frozenAt _⟩
        have ST : Hid (∀ W : World, Hid (W.ownsRow w.heap.size 77 3 (.slice (some ⟨g, 0, none⟩) m cap2) m (spCells ((M.region ts m (U.getD i 0)).map M.norm))) → ∀ s : M.Sp, Hid ((((W.setCell ⟨g, fi * 3, none⟩ (.int .i64 s.1)).setCell ⟨g, fi * 3 + 1, none⟩ (.int .i64 s.2.1)).setCell ⟨g, fi * 3 + 2, none⟩ (.bool s.2.2)).ownsRow w.heap.size 77 3 (.slice (some ⟨g, 0, none⟩) m cap2) m (spCells (((M.region ts m (U.getD i 0)).map M.norm).set fi s)))) := fun W hW s => own_setS hW.out fi s
        have SX : Hid (∀ W : World, Hid (∀ j, j < WN.length → W.cell? ⟨bx, ox + j, none⟩ = some (.int .i64 (WN.getD j 0))) → ∀ v0 v1 v2 : Value, Hid (∀ j, j < WN.length → (((W.setCell ⟨g, fi * 3, none⟩ v0).setCell ⟨g, fi * 3 + 1, none⟩ v1).setCell ⟨g, fi * 3 + 2, none⟩ v2).cell? ⟨bx, ox + j, none⟩ = some (.int .i64 (WN.getD j 0)))) := by
          intro W hW v0 v1 v2 j hj
          rw [far_cell hgx, far_cell hgx, far_cell hgx]
          exact hW.out j hj
        have SB : Hid (∀ W : World, Hid (Below w.heap.size w W) → ∀ v0 v1 v2 : Value, Below w.heap.size w (((W.setCell ⟨g, fi * 3, none⟩ v0).setCell ⟨g, fi * 3 + 1, none⟩ v1).setCell ⟨g, fi * 3 + 2, none⟩ v2)) := fun W hW v0 v1 v2 => ((hW.out.setCell (p := ⟨g, fi * 3, none⟩) hg1 v0).setCell (p := ⟨g, fi * 3 + 1, none⟩) hg1 v1).setCell (p := ⟨g, fi * 3 + 2, none⟩) hg1 v2
        have fz : (fi : Int) < (m : Int) := by omega
        have NXT := hide (show i + 1 + 1 ≤ WN.length from hlt)
        clear na hc6 hfi HF HT HC HO HX LN p UP EE hch NG HB2 WA
        generalize ((M.region ts m (U.getD i 0)).map M.norm).getD fi (0, 0, false) = sp at *
        generalize hL2 : (M.region ts m (U.getD (i + 1) 0)).map M.norm = L2 at *
        have HL2 := hide hL2
        clear hL2
        generalize (M.region ts m (U.getD i 0)).map M.norm = L1 at *
        generalize hK2 : U.getD (i + 1) 0 = k2 at *
        have HK2 := hide hK2
        clear hK2
        generalize U.getD i 0 = u at *
        obtain ⟨lo, hi2, nl⟩ := sp
        unfold spV at CN
        generalize M.nc (M.nAt ts u) = c at *
        generalize M.nr (M.nAt ts u) = rr at *
        generalize M.ns (M.nAt ts u) = sl at *
        generalize M.nv (M.nAt ts u) = vv at *
        generalize M.nl (M.nAt ts u) = ll at *
        have d : ∀ (W : World) (o : Obj), g < W.heap.size → ∀ j, (W.alloc o).drew.cell? ⟨g, j, none⟩ = W.cell? ⟨g, j, none⟩ := fun W o h j => ((Below.refl _ W).alloc (Nat.le_refl _) o).cell (p := ⟨g, j, none⟩) h
        have o0 : (wr.alloc (.cells #[.int .i64 fi, .int .i64 c, .int .i64 ll, .int .i64 rr, .bool sl, .int .i64 vv] 32)).drew.cell? ⟨wr.heap.size, 0, none⟩ = some (.int .i64 fi) := World.cell?_alloc_at _ _ _ 0 rfl
        have o1 : (wr.alloc (.cells #[.int .i64 fi, .int .i64 c, .int .i64 ll, .int .i64 rr, .bool sl, .int .i64 vv] 32)).drew.cell? ⟨wr.heap.size, 1, none⟩ = some (.int .i64 c) := World.cell?_alloc_at _ _ _ 1 rfl
        have o2 : (wr.alloc (.cells #[.int .i64 fi, .int .i64 c, .int .i64 ll, .int .i64 rr, .bool sl, .int .i64 vv] 32)).drew.cell? ⟨wr.heap.size, 2, none⟩ = some (.int .i64 ll) := World.cell?_alloc_at _ _ _ 2 rfl
        have o3 : (wr.alloc (.cells #[.int .i64 fi, .int .i64 c, .int .i64 ll, .int .i64 rr, .bool sl, .int .i64 vv] 32)).drew.cell? ⟨wr.heap.size, 3, none⟩ = some (.int .i64 rr) := World.cell?_alloc_at _ _ _ 3 rfl
        have o4 : (wr.alloc (.cells #[.int .i64 fi, .int .i64 c, .int .i64 ll, .int .i64 rr, .bool sl, .int .i64 vv] 32)).drew.cell? ⟨wr.heap.size, 4, none⟩ = some (.bool sl) := World.cell?_alloc_at _ _ _ 4 rfl
        have o5 : (wr.alloc (.cells #[.int .i64 fi, .int .i64 c, .int .i64 ll, .int .i64 rr, .bool sl, .int .i64 vv] 32)).drew.cell? ⟨wr.heap.size, 5, none⟩ = some (.int .i64 vv) := World.cell?_alloc_at _ _ _ 5 rfl
        have q0 : (wr.alloc (.cells #[.int .i64 fi, .int .i64 c, .int .i64 ll, .int .i64 rr, .bool sl, .int .i64 vv] 32)).drew.cell? ⟨g, fi * 3, none⟩ = some (.int .i64 lo) := (d wr _ hg2 _).trans p0
        have q1 : (wr.alloc (.cells #[.int .i64 fi, .int .i64 c, .int .i64 ll, .int .i64 rr, .bool sl, .int .i64 vv] 32)).drew.cell? ⟨g, fi * 3 + 1, none⟩ = some (.int .i64 hi2) := (d wr _ hg2 _).trans p1
        have q2 : (wr.alloc (.cells #[.int .i64 fi, .int .i64 c, .int .i64 ll, .int .i64 rr, .bool sl, .int .i64 vv] 32)).drew.cell? ⟨g, fi * 3 + 2, none⟩ = some (.bool nl) := (d wr _ hg2 _).trans p2
        have KO : Hid (∀ W, Below (wr.alloc (.cells #[.int .i64 fi, .int .i64 c, .int .i64 ll, .int .i64 rr, .bool sl, .int .i64 vv] 32)).drew.heap.size (wr.alloc (.cells #[.int .i64 fi, .int .i64 c, .int .i64 ll, .int .i64 rr, .bool sl, .int .i64 vv] 32)).drew W → W.cell? ⟨wr.heap.size, 0, none⟩ = some (.int .i64 fi)) := fun W hW => (hW.cell (p := ⟨wr.heap.size, 0, none⟩) (by show wr.heap.size < (wr.alloc _).heap.size; simp)).trans o0
        clear d
        go_upto_region 7 with fail
        go_region_with (go_at_call 53; refine (CN.out (lo, hi2, nl) _ _).mono ?_; rintro e w5 ⟨rfl, hb5⟩; have K5 := KP.out _ _ hb5; have ko := KO.out _ hb5; have z := FZ.out _ K5.1; have z0 := z.1.1; have z1 := z.1.2.1; have z2 := z.1.2.2; have y0 := z.2.1; have y1 := z.2.2.1; have y2 := z.2.2.2; clear z hb5)
        all_goals (
          go_wp2
          go_roundw
          case rel => exact ⟨i + 1, NXT.out, by go_num, by rw [HK2.out, HL2.out, NR.out]; exact ST.out _ K5.1 _, SX.out _ K5.2.1 _ _ _, by unfold Hid; simpa using K5.2.2.1.out, SB.out _ K5.2.2.2 _ _ _⟩
          case measure => simp [intOf]; omega)
      · have E : Hid (V = M.region ts m (U.getD i 0)) := by unfold Hid; rw [EE.out, show U.length - 1 = i by have := WL.out; omega]
        clear UP EE HC HX NG HB2 WA HT HF
        generalize M.region ts m (U.getD i 0) = R at *
        go_wp2
        go_ret
        exact ⟨v, rfl, by rw [E.out]; exact HO.out, hbl⟩

end Go.Proofs.Ythbeoaninipadaf
