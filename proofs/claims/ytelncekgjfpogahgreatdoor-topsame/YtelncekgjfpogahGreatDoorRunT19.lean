/-
  Several texts as one: PWay, PRegion, PReach, PRegions.
-/
import Derived.Test.YtelncekgjfpogahGreatDoorRunT4
import Derived.Test.YtelncekgjfpogahGreatDoorRunT10
import Derived.Test.YtelncekgjfpogahGreatDoorShelf
import Derived.Deep.AppendLies
import Derived.Lib.LazyBuf
import Derived.Test.YtelncekgjfpogahGreatDoorRunT16
import Derived.Test.YtelncekgjfpogahGreatDoorRunT11
import Derived.Test.YtelncekgjfpogahGreatDoorRunT9
namespace Go.Proofs.YtelncekgjfpogahGreatDoor
open Go.ChangeShapes Go.WideShapes Go.ChangeAt Go.RowKit Go.Lib
set_option linter.unusedVariables false
theorem reverse_own {w W : World} {L : List Int} {v : Value} (h : W.ownsRow w.heap.size 3 1 v L.length (L.map (Value.int .i64))) (hb : Below w.heap.size w W) (hL : L.length ≤ 9223372036854775807) (hp : 0 < L.length) :
 Calls Tryz.prog 150 #[v] W fun e w' => e = .returned (.tuple #[]) ∧ (∃ a cap, v = .slice a L.length cap ∧ L.length ≤ cap ∧ (∀ b o, a = some ⟨b, o, none⟩ → w.heap.size ≤ b) ∧ Rd w' a L.reverse) ∧ Below w.heap.size w w' := by
 obtain ⟨g, cap, rfl, hg, hlt⟩ := own_shape h hp
 have hcap : L.length ≤ cap := by
  obtain ⟨a, c, e, _, hq⟩ := own_rd h
  cases e
  exact hq
 have hc : ∀ j, j < L.length → W.cell? ⟨g, 0 + j, none⟩ = some (.int .i64 (L.getD j 0)) := fun j hj => by
  rw [Nat.zero_add, own_at h rfl j hj]; simp [List.getD, List.getElem?_eq_getElem hj]
 have hf : ∀ j, j < L.length → W.frozen? ⟨g, 0 + j, none⟩ = false := fun j hj => h.frozenAt (0 + j)
 refine (Tryz.slices_Reverse_int_cells g 0 L.length cap L W (Nat.le_refl _) hL hc hf).mono ?_
 rintro e w' ⟨rfl, q, rfl⟩
 refine ⟨rfl, ⟨_, cap, rfl, hcap, fun b o e => by cases e; exact hg, ⟨by rw [List.length_reverse]; exact (own_rd h).choose_spec.choose_spec.2.1.1, fun _ => ⟨g, 0, rfl, ?_, fun i hi => ?_⟩⟩⟩, ?_⟩
 · exact Nat.lt_of_lt_of_le hlt (below_setCells (B := g) (b := g) (a := W) (Nat.le_refl _) ((L.take L.length).reverse.map (Value.int .i64)) 0 (W.drewN q) (below_drew (Below.refl g W) q (Nat.le_of_lt hlt))).size
 · have hi' : i < L.length := by simpa using hi
   have := World.cell?_setCells_in g ((L.take L.length).reverse.map (Value.int .i64)) 0 (W.drewN q) (fun j hj => by
    have hj' : j < L.length := by simpa using hj
    have := hc j hj'
    have e : (W.drewN q).cell? ⟨g, 0 + j, none⟩ = W.cell? ⟨g, 0 + j, none⟩ := rfl
    rw [e, this]; rfl) i (by simpa using hi')
   rw [this]
   simp [List.getD, List.getElem?_eq_getElem hi]
 · exact below_setCells hg _ _ _ (below_drew hb q hb.size)
theorem M.wayN_rev {t : List M.Nd} {k : Nat} {L : List Nat} (h : L = M.upW t k) : (L.map Int.ofNat).reverse = M.wayN t k := by rw [h]; unfold M.wayN; rw [List.map_reverse]
set_option maxHeartbeats 8000000 in
set_option maxRecDepth 10000 in
theorem wayto_any (a0 : Option Addr) (ts : List M.Nd) (ca k : Nat) (w : World) (ht : RdN w a0 ts) (l63 : ts.length ≤ 63) (hk : k < ts.length) :
 Calls Tryz.prog 132 #[.slice a0 ts.length ca, .int .i64 k] w fun e w' => ∃ ag cg, e = .returned (.slice ag (M.wayN ts k).length cg) ∧ (M.wayN ts k).length ≤ cg ∧ (∀ b o, ag = some ⟨b, o, none⟩ → w.heap.size ≤ b) ∧ Rd w' ag (M.wayN ts k) ∧ Below w.heap.size w w' := by
 have HT := hide ht
 obtain ⟨i0, hi, hz0, hz1, hz2⟩ := info_parts info3
 have I0 := hide hi
 have O0 : Hid ((w.alloc (.cells #[.int .i64 k] 3)).ownsRow w.heap.size 3 1 (.slice (some ⟨w.heap.size, 0, none⟩) 1 1) 1 (([k].map Int.ofNat).map (Value.int .i64))) := by
  have := World.ownsRow_lit (base := w.heap.size) (e := 3) (size := 1) w #[.int .i64 k] 1 (Nat.le_refl _) (by unfold maxLen; omega) (by simp)
  exact this
 have UL := hide (M.upW_len ts k)
 have WN : Hid (∀ L : List Nat, L = M.upW ts k → (L.map Int.ofNat).reverse = M.wayN ts k) := fun L h => M.wayN_rev h
 clear ht hi
 generalize M.wayN ts k = V at *
 go_enter Tryz.func132, Tryz.ntmps132
 go_wp2
 go_loopw [1, 5, 6] (fun nv v i wr => ∃ (n q : Nat) (L : List Nat) (X : List Int), Hid (X = L.map Int.ofNat) ∧ q ≤ k ∧ nv = .int .i64 n ∧ i = .int .i64 ((q : Int) - 1) ∧ 0 < L.length ∧ Hid (L ++ M.upD ts n q = M.upW ts k) ∧ wr.ownsRow w.heap.size 3 1 v X.length (X.map (Value.int .i64)) ∧ Below w.heap.size w wr) (fun _ _ i _ => ((intOf i) + 1).toNat)
 case atStart => exact ⟨k, k, [k], [k].map Int.ofNat, rfl, Nat.le_refl _, rfl, rfl, by simp, rfl, O0.out, (Below.refl _ w).alloc (Nat.le_refl _) _⟩
 case round =>
  clear O0
  obtain ⟨n, q, L, X, HX, hq, rfl, rfl, hL0, I, hown, hbl⟩ := hrel
  have L64 : L.length ≤ 63 := by
   have e := congrArg List.length I.out
   rw [List.length_append] at e
   have := UL.out
   omega
  have LM : Hid (X.length = L.length) := by unfold Hid; rw [HX.out]; simp
  have X64 : X.length ≤ 63 := by rw [LM.out]; exact L64
  rcases q with _ | j
  · have E : Hid (X.reverse = V) := by
     unfold Hid
     rw [HX.out]
     apply WN.out
     have := I.out
     rw [M.upD_zero, List.append_nil] at this
     exact this
    have R := hide (reverse_own hown hbl (by omega) (by rw [LM.out]; omega))
    rw [show ((0 : Nat) : Int) - 1 = -1 by rfl]
    clear hown I UL WN
    go_wp2_with (go_at_call 150; refine R.out.mono ?_; rintro e w1 ⟨rfl, ex, hb1⟩; have EX := hide ex; clear ex)
    go_ret
    obtain ⟨ag, cg, rfl, hcg, hnew, hrd⟩ := EX.out
    rw [E.out] at hrd
    have ln : V.length = X.length := by rw [← E.out]; simp
    exact ⟨ag, cg, by rw [ln]; rfl, by rw [ln]; exact hcg, hnew, hrd, hb1⟩
  · have hlt : j < ts.length := by omega
    obtain ⟨b1, off, rfl, hb1, hc⟩ := HT.out.2 (by intro e; subst e; simp at hlt)
    obtain ⟨s0, s1, s2, s3, s4, s5⟩ := (hc j hlt).below hbl hb1
    have kw := hbl.size
    obtain ⟨va, vc, rfl, RV, _⟩ := own_rd hown
    have HO := hide hown
    clear RV
    rw [show ((j + 1 : Nat) : Int) - 1 = (j : Int) by omega]
    by_cases hy : M.nl (M.nAt ts j) = (n : Int) ∨ M.nr (M.nAt ts j) = (n : Int)
    · have N : Hid ((L ++ [j]) ++ M.upD ts j j = M.upW ts k) := by
       unfold Hid; rw [← I.out, M.upD_yes hy]; simp
      have IM : Hid (X ++ [(j : Int)] = (L ++ [j]).map Int.ofNat) := by
       unfold Hid; rw [HX.out]; simp
      by_cases hl : M.nl (M.nAt ts j) = (n : Int)
      · have q1 : (M.nl (M.nAt ts j) == (n : Int)) = true := by rw [beq_iff_eq]; exact hl
        clear hl
        clear hc hown I hy UL WN
        generalize M.nl (M.nAt ts j) = l at *
        generalize M.nr (M.nAt ts j) = r at *
        go_wp2_with (at_builtin; refine wpList_append_lies _ rfl (.tmp 31) (.tmp 33) 23 rfl w.heap.size 3 i0 (.int .i64 0) 1 8 Tryz.underlying23 I0.out hz0 hz1 hz2 rfl (by omega) (.slice va X.length vc) X.length (X.map (Value.int .i64)) rfl (HO.out.alloc _) ⟨wr.heap.size, 0, none⟩ 1 1 [.int .i64 (j : Int)] rfl rfl (World.news_of_block (heap_alloc_new _ _)) (by simp [Value.oneCell']) (by omega) (by unfold maxLen; omega) (by omega) (by simp; omega) (wr.heap.size + 1) (by simp) ?_)
        intro g cap w5 hov5 hgrow hat hlt5
        have hb5 : Below w.heap.size w w5 := (hbl.alloc hbl.size _).grown hgrow (by simp; omega) (fun k hk => (HO.out.lt k hk).1)
        have HO5 : Hid (w5.ownsRow w.heap.size 3 1 (.slice (some ⟨g, 0, none⟩) (X.length + 1) cap) (X ++ [(j : Int)]).length ((X ++ [(j : Int)]).map (Value.int .i64))) := by
         unfold Hid; rw [List.map_append, List.length_append]; exact hov5
        clear hov5 hgrow hat
        go_wp2
        go_roundw
        case rel => exact ⟨j, j, L ++ [j], X ++ [(j : Int)], IM, by omega, rfl, rfl, by simp, N, HO5.out, hb5⟩
        case measure => simp [intOf]
      · have q1 : (M.nl (M.nAt ts j) == (n : Int)) = false := by rw [beq_eq_false_iff_ne]; exact hl
        have q2 : (M.nr (M.nAt ts j) == (n : Int)) = true := by rw [beq_iff_eq]; exact hy.resolve_left hl
        clear hl
        clear hc hown I hy UL WN
        generalize M.nl (M.nAt ts j) = l at *
        generalize M.nr (M.nAt ts j) = r at *
        go_wp2_with (at_builtin; refine wpList_append_lies _ rfl (.tmp 31) (.tmp 33) 23 rfl w.heap.size 3 i0 (.int .i64 0) 1 8 Tryz.underlying23 I0.out hz0 hz1 hz2 rfl (by omega) (.slice va X.length vc) X.length (X.map (Value.int .i64)) rfl (HO.out.alloc _) ⟨wr.heap.size, 0, none⟩ 1 1 [.int .i64 (j : Int)] rfl rfl (World.news_of_block (heap_alloc_new _ _)) (by simp [Value.oneCell']) (by omega) (by unfold maxLen; omega) (by omega) (by simp; omega) (wr.heap.size + 1) (by simp) ?_)
        intro g cap w5 hov5 hgrow hat hlt5
        have hb5 : Below w.heap.size w w5 := (hbl.alloc hbl.size _).grown hgrow (by simp; omega) (fun k hk => (HO.out.lt k hk).1)
        have HO5 : Hid (w5.ownsRow w.heap.size 3 1 (.slice (some ⟨g, 0, none⟩) (X.length + 1) cap) (X ++ [(j : Int)]).length ((X ++ [(j : Int)]).map (Value.int .i64))) := by
         unfold Hid; rw [List.map_append, List.length_append]; exact hov5
        clear hov5 hgrow hat
        go_wp2
        go_roundw
        case rel => exact ⟨j, j, L ++ [j], X ++ [(j : Int)], IM, by omega, rfl, rfl, by simp, N, HO5.out, hb5⟩
        case measure => simp [intOf]
    · have N : Hid (L ++ M.upD ts n j = M.upW ts k) := by
       unfold Hid; rw [← I.out, M.upD_no hy]
      have q1 : (M.nl (M.nAt ts j) == (n : Int)) = false := by rw [beq_eq_false_iff_ne]; exact fun h => hy (.inl h)
      have q2 : (M.nr (M.nAt ts j) == (n : Int)) = false := by rw [beq_eq_false_iff_ne]; exact fun h => hy (.inr h)
      clear hc hown I hy UL WN
      generalize M.nl (M.nAt ts j) = l at *
      generalize M.nr (M.nAt ts j) = r at *
      go_wp2
      go_roundw
      case rel => exact ⟨n, j, L, X, HX, by omega, rfl, rfl, hL0, N, HO.out, hbl⟩
      case measure => simp [intOf]
theorem far_cell {w : World} {g o b p : Nat} {v : Value} (h : g ≠ b) : (w.setCell ⟨g, o, none⟩ v).cell? ⟨b, p, none⟩ = w.cell? ⟨b, p, none⟩ := by
 apply World.cell?_setCell_other
 intro e
 exact h (congrArg Addr.block e)
theorem own_shapeS {w : World} {base n e size : Nat} {v : Value} {l : List Value} (h : w.ownsRow base e size v n l) (hn : 0 < n) : ∃ g cap, v = .slice (some ⟨g, 0, none⟩) n cap ∧ base ≤ g ∧ g < w.heap.size := by
 rcases h.2 with ⟨_, h0⟩ | ⟨g, cap, cur, hv, hb, hg, _⟩
 · omega
 · exact ⟨g, cap, hv, hb, (Array.getElem?_eq_some_iff.1 hg).1⟩
theorem own_spAt {w : World} {base n g cap : Nat} {ss : List M.Sp} (h : w.ownsRow base 63 3 (.slice (some ⟨g, 0, none⟩) n cap) n (spCells ss)) (hn : ss.length = n) {i : Nat} (hi : i < ss.length) :
 w.cell? ⟨g, i * 3, none⟩ = some (.int .i64 (ss.getD i (0, 0, false)).1) ∧ w.cell? ⟨g, i * 3 + 1, none⟩ = some (.int .i64 (ss.getD i (0, 0, false)).2.1) ∧ w.cell? ⟨g, i * 3 + 2, none⟩ = some (.bool (ss.getD i (0, 0, false)).2.2) := by
 obtain ⟨q0, q1, q2⟩ := spCells_at ss i hi
 exact ⟨(h.cellAt (i * 3) (by omega)).trans q0, (h.cellAt (i * 3 + 1) (by omega)).trans q1, (h.cellAt (i * 3 + 2) (by omega)).trans q2⟩
set_option maxHeartbeats 16000000 in
set_option maxRecDepth 10000 in
theorem region_any (a0 : Option Addr) (ts : List M.Nd) (ca m k : Nat) (w : World) (ht : RdN w a0 ts) (F : M.Fair ts (m : Int)) (hk : k < ts.length) :
 Calls Tryz.prog 104 #[.slice a0 ts.length ca, .int .i64 (m : Nat), .int .i64 (k : Nat)] w fun e w' => ∃ v, e = .returned v ∧ w'.ownsRow w.heap.size 63 3 v m (spCells ((M.region ts m k).map M.norm)) ∧ Below w.heap.size w w' := by
 have m8 : m ≤ 8 := by have := F.2.2.2.1; omega
 have l63 := F.1
 have HF := hide F
 have HT := hide ht
 have C1 : Hid (∀ o : Obj, o = .cells #[.int .i64 (-1000000), .int .i64 1000000, .bool true] 63 → Calls Tryz.prog 131 #[.slice (some ⟨w.heap.size, 0, none⟩) 1 1, .int .i64 m] (w.alloc o) fun e w' => ∃ v, e = .returned v ∧ w'.ownsRow w.heap.size 63 3 v m (spCells ((M.region ts m ((M.upL ts k).getD 0 0)).map M.norm)) ∧ Below w.heap.size w w') := by
  intro o ho
  have hcell : ∀ j, (w.alloc o).cell? ⟨w.heap.size, j, none⟩ = (#[Value.int .i64 (-1000000), .int .i64 1000000, .bool true] : Array Value)[j]? := fun j => by rw [ho]; exact World.cell?_alloc_at _ _ _ j rfl
  refine (repeat_any w.heap.size 0 1 m M.all0 (w.alloc o) (by simp) (hcell 0) (hcell 1) (hcell 2) m8).mono ?_
  rintro e w' ⟨v, rfl, h1, h2⟩
  rw [M.upL_first F hk, M.region_root F, M.all_norm]
  have bb := (Below.refl _ w).alloc (Nat.le_refl _) o
  refine ⟨v, rfl, ⟨h1.1, ?_⟩, below_on bb h2⟩
  rcases h1.2 with q | ⟨g, cap, cur, hv, hb, r⟩
  · exact .inl q
  · exact .inr ⟨g, cap, cur, hv, Nat.le_trans bb.size hb, r⟩
 have C2 := hide (fun W (hW : Below w.heap.size w W) => wayto_any a0 ts ca k W (ht.below hW) l63 hk)
 have PL := M.upL_len ts k
 have WA := hide (fun i h => M.wayN_at ts k i h)
 have WL := hide (M.wayN_len ts k)
 have UP : Hid (∀ i, i + 1 < (M.upL ts k).length → (M.upL ts k).getD i 0 < ts.length ∧ (M.upL ts k).getD (i + 1) 0 < ts.length ∧ M.chL (M.nAt ts ((M.upL ts k).getD i 0)) ((M.upL ts k).getD (i + 1) 0)) := fun i h => M.upL_pair F hk h
 have EE : Hid (M.region ts m k = M.region ts m ((M.upL ts k).getD ((M.upL ts k).length - 1) 0)) := by unfold Hid; rw [M.upL_end]
 clear ht F
 generalize M.region ts m k = V at *
 generalize M.wayN ts k = WN at *
 generalize M.upL ts k = U at *
 obtain ⟨pl1, pl2⟩ := PL
 have wl1 : 1 ≤ WN.length := by rw [WL.out]; exact pl1
 have wl2 : WN.length ≤ 63 := by rw [WL.out]; omega
 go_enter Tryz.func104, Tryz.ntmps104
 go_upto_region 3 with (first
  | (go_at_call 131; refine (C1.out _ rfl).mono ?_; rintro e w1 ⟨v, rfl, hown1, hb1⟩; have HO1 := hide hown1; clear hown1)
  | (go_at_call 132; refine (C2.out _ hb1).mono ?_; rintro e w2 ⟨ag, cg, rfl, hcg, hnew, hrd, hb2⟩; obtain ⟨bx, ox, rfl, hbx, hcx⟩ := hrd.2 (by intro e; rw [e] at wl1; simp at wl1); have hnb := hnew bx ox rfl; clear hnew; have HC := hide hcx; have HO2 := hide (own_up HO1.out hb2); have hb3 := below_on hb1 hb2; have hcg1 : 1 ≤ cg := Nat.le_trans wl1 hcg; clear hcx))
 have HB2 := hide hb2
 have kw := hb3.size
 clear hrd hb2 hb1 C1 C2
 by_cases hc1 : cg = 1
 · have WL1 : WN.length = 1 := by omega
   have E : Hid (V = M.region ts m (U.getD 0 0)) := by unfold Hid; rw [EE.out, show U.length - 1 = 0 by rw [← WL.out, WL1]]
   subst hc1
   clear UP EE HO1
   go_wp2
   refine wp_loop_rounds 1 ?_
   rw [rounds_succ]
   go_wp2
   go_ret
   exact ⟨v, rfl, by rw [E.out]; exact HO2.out, hb3⟩
 · have hc2 : ¬ 1 = cg := fun h => hc1 h.symm
   go_wp2
   have NG : Hid (∀ g cap, v = .slice (some ⟨g, 0, none⟩) m cap → 0 < m → g < w1.heap.size) := by
    intro g cap e hm
    obtain ⟨g', cap', e', _, hl⟩ := own_shapeS HO1.out hm
    rw [e] at e'
    cases e'
    exact hl
   clear HO1
   go_loopw [22] (fun i wr => ∃ i' : Nat, i' + 1 ≤ WN.length ∧ i = .int .i64 i' ∧ Hid (wr.ownsRow w.heap.size 63 3 v m (spCells ((M.region ts m (U.getD i' 0)).map M.norm))) ∧ Hid (∀ j, j < WN.length → wr.cell? ⟨bx, ox + j, none⟩ = some (.int .i64 (WN.getD j 0))) ∧ Hid (bx < wr.heap.size) ∧ Below w.heap.size w wr) (fun i _ => WN.length - (intOf i).toNat)
   case atStart => exact ⟨0, by omega, rfl, HO2, HC, hbx, hb3⟩
   case round =>
    clear HO2 HC hb3 kw
    obtain ⟨i, hi, rfl, HO, HC, HX, hbl⟩ := hrel
    have kw := hbl.size
    by_cases hlt : i + 1 < WN.length
    · obtain ⟨hu, hk2, hch⟩ := UP.out i (by rw [← WL.out]; exact hlt)
      have x1 := HC.out i (by omega)
      have x2 := HC.out (i + 1) hlt
      rw [WA.out i (by rw [← WL.out]; omega)] at x1
      rw [WA.out (i + 1) (by rw [← WL.out]; omega)] at x2
      have NR := hide (M.region_norm HF.out hu hk2 hch)
      have na := M.node_ask (HF.out.2.2.2.2.1 _ hu) hch.1
      obtain ⟨fi, hfi⟩ : ∃ fi : Nat, M.nf (M.nAt ts (U.getD i 0)) = fi := ⟨(M.nf (M.nAt ts (U.getD i 0))).toNat, by have := na.1; omega⟩
      have hfm : fi < m := by have := na.2.1; omega
      have LN : Hid (((M.region ts m (U.getD i 0)).map M.norm).length = m) := by unfold Hid; rw [List.length_map, M.region_len]
      have CN := hide (fun s tt W => narrow_any s (M.nAt ts (U.getD i 0)) tt W na.2.2.1)
      rw [hfi, Int.toNat_natCast] at NR
      obtain ⟨b0, off, rfl, hb0, hc6⟩ := (HT.out.below hbl).2 (by intro e; subst e; simp at hu)
      obtain ⟨s0, s1, s2, s3, s4, s5⟩ := hc6 (U.getD i 0) hu
      rw [hfi] at s0
      unfold ndV at CN
      rw [hfi] at CN
      rw [show ox + (i + 1) = ox + 1 + i by omega] at x2
      obtain ⟨g, cap2, rfl, hg1, hg2⟩ := own_shapeS HO.out (by omega)
      have hgx : g ≠ bx := by have := NG.out g cap2 rfl (by omega); omega
      have p := own_spAt HO.out LN.out (i := fi) (by rw [LN.out]; exact hfm)
      have p0 := p.1
      have p1 := p.2.1
      have p2 := p.2.2
      have KP : Hid (∀ (O : Obj) W, Below (wr.alloc O).drew.heap.size (wr.alloc O).drew W → Hid (W.ownsRow w.heap.size 63 3 (.slice (some ⟨g, 0, none⟩) m cap2) m (spCells ((M.region ts m (U.getD i 0)).map M.norm))) ∧ Hid (∀ j, j < WN.length → W.cell? ⟨bx, ox + j, none⟩ = some (.int .i64 (WN.getD j 0))) ∧ Hid (bx < W.heap.size) ∧ Hid (Below w.heap.size w W)) := by
       intro O W hW
       have hW2 : Below wr.heap.size wr W := below_on (((Below.refl _ wr).alloc (Nat.le_refl _) O).drew) hW
       exact ⟨own_up HO.out hW2, fun j hj => (hW2.cell (p := ⟨bx, ox + j, none⟩) HX.out).trans (HC.out j hj), Nat.lt_of_lt_of_le HX.out hW2.size, below_on hbl hW2⟩
      have FZ : Hid (∀ W : World, Hid (W.ownsRow w.heap.size 63 3 (.slice (some ⟨g, 0, none⟩) m cap2) m (spCells ((M.region ts m (U.getD i 0)).map M.norm))) → (W.cell? ⟨g, fi * 3, none⟩ = some (.int .i64 (((M.region ts m (U.getD i 0)).map M.norm).getD fi (0, 0, false)).1) ∧ W.cell? ⟨g, fi * 3 + 1, none⟩ = some (.int .i64 (((M.region ts m (U.getD i 0)).map M.norm).getD fi (0, 0, false)).2.1) ∧ W.cell? ⟨g, fi * 3 + 2, none⟩ = some (.bool (((M.region ts m (U.getD i 0)).map M.norm).getD fi (0, 0, false)).2.2)) ∧ W.frozen? ⟨g, fi * 3, none⟩ = false ∧ W.frozen? ⟨g, fi * 3 + 1, none⟩ = false ∧ W.frozen? ⟨g, fi * 3 + 2, none⟩ = false) := fun W hW => ⟨own_spAt hW.out LN.out (i := fi) (by rw [LN.out]; exact hfm), hW.out.frozenAt _, hW.out.frozenAt _, hW.out.frozenAt _⟩
      have ST : Hid (∀ W : World, Hid (W.ownsRow w.heap.size 63 3 (.slice (some ⟨g, 0, none⟩) m cap2) m (spCells ((M.region ts m (U.getD i 0)).map M.norm))) → ∀ s : M.Sp, Hid ((((W.setCell ⟨g, fi * 3, none⟩ (.int .i64 s.1)).setCell ⟨g, fi * 3 + 1, none⟩ (.int .i64 s.2.1)).setCell ⟨g, fi * 3 + 2, none⟩ (.bool s.2.2)).ownsRow w.heap.size 63 3 (.slice (some ⟨g, 0, none⟩) m cap2) m (spCells (((M.region ts m (U.getD i 0)).map M.norm).set fi s)))) := fun W hW s => own_setS hW.out fi s
      have SX : Hid (∀ W : World, Hid (∀ j, j < WN.length → W.cell? ⟨bx, ox + j, none⟩ = some (.int .i64 (WN.getD j 0))) → ∀ v0 v1 v2 : Value, Hid (∀ j, j < WN.length → (((W.setCell ⟨g, fi * 3, none⟩ v0).setCell ⟨g, fi * 3 + 1, none⟩ v1).setCell ⟨g, fi * 3 + 2, none⟩ v2).cell? ⟨bx, ox + j, none⟩ = some (.int .i64 (WN.getD j 0)))) := by
       intro W hW v0 v1 v2 j hj
       rw [far_cell hgx, far_cell hgx, far_cell hgx]
       exact hW.out j hj
      have SB : Hid (∀ W : World, Hid (Below w.heap.size w W) → ∀ v0 v1 v2 : Value, Below w.heap.size w (((W.setCell ⟨g, fi * 3, none⟩ v0).setCell ⟨g, fi * 3 + 1, none⟩ v1).setCell ⟨g, fi * 3 + 2, none⟩ v2)) := fun W hW v0 v1 v2 => ((hW.out.setCell (p := ⟨g, fi * 3, none⟩) hg1 v0).setCell (p := ⟨g, fi * 3 + 1, none⟩) hg1 v1).setCell (p := ⟨g, fi * 3 + 2, none⟩) hg1 v2
      have fz : (fi : Int) < (m : Int) := by omega
      have NXT := hide (show i + 1 + 1 ≤ WN.length from hlt)
      clear na hc6 hfi HF HT HC HO HX LN p UP EE hch NG HB2 WA
      generalize ((M.region ts m (U.getD i 0)).map M.norm).getD fi (0, 0, false) = sp at *
      generalize hL2 : (M.region ts m (U.getD (i + 1) 0)).map M.norm = L2 at *
      have HL2 := hide hL2
      clear hL2
      generalize (M.region ts m (U.getD i 0)).map M.norm = L1 at *
      generalize hK2 : U.getD (i + 1) 0 = k2 at *
      have HK2 := hide hK2
      clear hK2
      generalize U.getD i 0 = u at *
      obtain ⟨lo, hi2, nl⟩ := sp
      unfold spV at CN
      generalize M.nc (M.nAt ts u) = c at *
      generalize M.nr (M.nAt ts u) = rr at *
      generalize M.ns (M.nAt ts u) = sl at *
      generalize M.nv (M.nAt ts u) = vv at *
      generalize M.nl (M.nAt ts u) = ll at *
      have d : ∀ (W : World) (o : Obj), g < W.heap.size → ∀ j, (W.alloc o).drew.cell? ⟨g, j, none⟩ = W.cell? ⟨g, j, none⟩ := fun W o h j => ((Below.refl _ W).alloc (Nat.le_refl _) o).cell (p := ⟨g, j, none⟩) h
      have o0 : (wr.alloc (.cells #[.int .i64 fi, .int .i64 c, .int .i64 ll, .int .i64 rr, .bool sl, .int .i64 vv] 86)).drew.cell? ⟨wr.heap.size, 0, none⟩ = some (.int .i64 fi) := World.cell?_alloc_at _ _ _ 0 rfl
      have o1 : (wr.alloc (.cells #[.int .i64 fi, .int .i64 c, .int .i64 ll, .int .i64 rr, .bool sl, .int .i64 vv] 86)).drew.cell? ⟨wr.heap.size, 1, none⟩ = some (.int .i64 c) := World.cell?_alloc_at _ _ _ 1 rfl
      have o2 : (wr.alloc (.cells #[.int .i64 fi, .int .i64 c, .int .i64 ll, .int .i64 rr, .bool sl, .int .i64 vv] 86)).drew.cell? ⟨wr.heap.size, 2, none⟩ = some (.int .i64 ll) := World.cell?_alloc_at _ _ _ 2 rfl
      have o3 : (wr.alloc (.cells #[.int .i64 fi, .int .i64 c, .int .i64 ll, .int .i64 rr, .bool sl, .int .i64 vv] 86)).drew.cell? ⟨wr.heap.size, 3, none⟩ = some (.int .i64 rr) := World.cell?_alloc_at _ _ _ 3 rfl
      have o4 : (wr.alloc (.cells #[.int .i64 fi, .int .i64 c, .int .i64 ll, .int .i64 rr, .bool sl, .int .i64 vv] 86)).drew.cell? ⟨wr.heap.size, 4, none⟩ = some (.bool sl) := World.cell?_alloc_at _ _ _ 4 rfl
      have o5 : (wr.alloc (.cells #[.int .i64 fi, .int .i64 c, .int .i64 ll, .int .i64 rr, .bool sl, .int .i64 vv] 86)).drew.cell? ⟨wr.heap.size, 5, none⟩ = some (.int .i64 vv) := World.cell?_alloc_at _ _ _ 5 rfl
      have q0 : (wr.alloc (.cells #[.int .i64 fi, .int .i64 c, .int .i64 ll, .int .i64 rr, .bool sl, .int .i64 vv] 86)).drew.cell? ⟨g, fi * 3, none⟩ = some (.int .i64 lo) := (d wr _ hg2 _).trans p0
      have q1 : (wr.alloc (.cells #[.int .i64 fi, .int .i64 c, .int .i64 ll, .int .i64 rr, .bool sl, .int .i64 vv] 86)).drew.cell? ⟨g, fi * 3 + 1, none⟩ = some (.int .i64 hi2) := (d wr _ hg2 _).trans p1
      have q2 : (wr.alloc (.cells #[.int .i64 fi, .int .i64 c, .int .i64 ll, .int .i64 rr, .bool sl, .int .i64 vv] 86)).drew.cell? ⟨g, fi * 3 + 2, none⟩ = some (.bool nl) := (d wr _ hg2 _).trans p2
      have KO : Hid (∀ W, Below (wr.alloc (.cells #[.int .i64 fi, .int .i64 c, .int .i64 ll, .int .i64 rr, .bool sl, .int .i64 vv] 86)).drew.heap.size (wr.alloc (.cells #[.int .i64 fi, .int .i64 c, .int .i64 ll, .int .i64 rr, .bool sl, .int .i64 vv] 86)).drew W → W.cell? ⟨wr.heap.size, 0, none⟩ = some (.int .i64 fi)) := fun W hW => (hW.cell (p := ⟨wr.heap.size, 0, none⟩) (by show wr.heap.size < (wr.alloc _).heap.size; simp)).trans o0
      clear d
      go_upto_region 7 with fail
      go_region_with (go_at_call 133; refine (CN.out (lo, hi2, nl) _ _).mono ?_; rintro e w5 ⟨rfl, hb5⟩; have K5 := KP.out _ _ hb5; have ko := KO.out _ hb5; have z := FZ.out _ K5.1; have z0 := z.1.1; have z1 := z.1.2.1; have z2 := z.1.2.2; have y0 := z.2.1; have y1 := z.2.2.1; have y2 := z.2.2.2; clear z hb5)
      all_goals (
       go_wp2
       go_roundw
       case rel => exact ⟨i + 1, NXT.out, by go_num, by rw [HK2.out, HL2.out, NR.out]; exact ST.out _ K5.1 _, SX.out _ K5.2.1 _ _ _, by unfold Hid; simpa using K5.2.2.1.out, SB.out _ K5.2.2.2 _ _ _⟩
       case measure => simp [intOf]; omega)
    · have E : Hid (V = M.region ts m (U.getD i 0)) := by unfold Hid; rw [EE.out, show U.length - 1 = i by have := WL.out; omega]
      clear UP EE HC HX NG HB2 WA HT HF
      generalize M.region ts m (U.getD i 0) = R at *
      go_wp2
      go_ret
      exact ⟨v, rfl, by rw [E.out]; exact HO.out, hbl⟩
theorem own_far {w : World} {base n e size p o : Nat} {v x : Value} {l : List Value} (h : w.ownsRow base e size v n l) (hp : p < base) : (w.setCell ⟨p, o, none⟩ x).ownsRow base e size v n l := by
 refine ⟨h.1, ?_⟩
 rcases h.2 with h0 | ⟨g, cap, cur, hv, h1, h2, h3⟩
 · exact .inl h0
 · refine .inr ⟨g, cap, cur, hv, h1, ?_, h3⟩
   rw [← h2]
   have : ¬ p = g := by omega
   simp [World.setCell, Array.getElem?_modify, this]
structure Sees (a : Option Addr) (ts : List M.Nd) (ca m : Nat) (w : World) (B bt bf br : Nat) (L : List Int) (W : World) (v : Value) : Prop where
 ct : W.cell? ⟨bt, 0, none⟩ = some (.slice a ts.length ca)
 cf : W.cell? ⟨bf, 0, none⟩ = some (.int .i64 (m : Nat))
 cr : W.cell? ⟨br, 0, none⟩ = some v
 fr : W.frozen? ⟨br, 0, none⟩ = false
 own : W.ownsRow B 3 1 v L.length (L.map (Value.int .i64))
 size : B ≤ W.heap.size
 below : Below w.heap.size w W
theorem Sees.up {a : Option Addr} {ts : List M.Nd} {ca m : Nat} {w : World} {B bt bf br : Nat} {L : List Int} {W W' : World} {v : Value} (h : Sees a ts ca m w B bt bf br L W v) (ht : bt < B) (hf : bf < B) (hr : br < B) (hb : Below W.heap.size W W') : Sees a ts ca m w B bt bf br L W' v := by
 have hs := h.size
 refine ⟨(hb.cell (p := ⟨bt, 0, none⟩) (show bt < _ by omega)).trans h.ct, (hb.cell (p := ⟨bf, 0, none⟩) (show bf < _ by omega)).trans h.cf, (hb.cell (p := ⟨br, 0, none⟩) (show br < _ by omega)).trans h.cr, ?_, own_up h.own hb, Nat.le_trans hs hb.size, below_on h.below hb⟩
 rw [← h.fr]
 show World.frozen? _ _ = World.frozen? _ _
 unfold World.frozen?
 rw [hb.block br (by omega)]
theorem Sees.more {a : Option Addr} {ts : List M.Nd} {ca m : Nat} {w : World} {B bt bf br : Nat} {L L2 : List Int} {W W' : World} {v v' : Value} (h : Sees a ts ca m w B bt bf br L W v) (ht : bt < B) (hf : bf < B) (hr : br < B) (htr : bt ≠ br) (hfr : bf ≠ br) (hw : w.heap.size ≤ br) (hb : Below B W W') (ho : W'.ownsRow B 3 1 v' L2.length (L2.map (Value.int .i64))) : Sees a ts ca m w B bt bf br L2 (W'.setCell ⟨br, 0, none⟩ v') v' := by
 have hs := h.size
 have hfz : W'.frozen? ⟨br, 0, none⟩ = false := by
  rw [← h.fr]
  unfold World.frozen?
  rw [hb.block br hr]
 have hcr : W'.cell? ⟨br, 0, none⟩ = some v := (hb.cell (p := ⟨br, 0, none⟩) hr).trans h.cr
 refine ⟨?_, ?_, ?_, ?_, own_far ho hr, ?_, ?_⟩
 · rw [far_cell (fun e => htr e.symm)]; exact (hb.cell (p := ⟨bt, 0, none⟩) ht).trans h.ct
 · rw [far_cell (fun e => hfr e.symm)]; exact (hb.cell (p := ⟨bf, 0, none⟩) hf).trans h.cf
 · exact World.cell?_setCell_same _ _ _ hcr
 · simpa using hfz
 · have := hb.size; simp; omega
 · exact (h.below.trans (hb.mono (by omega))).setCell (p := ⟨br, 0, none⟩) hw v'
set_option maxHeartbeats 4000000 in
set_option maxRecDepth 10000 in
theorem reach1_any (a : Option Addr) (ts : List M.Nd) (ca m k : Nat) (w : World) (B bt bf br : Nat) (L : List Int) (W : World) (v : Value) (hn : RdN w a ts) (F : M.Fair ts (m : Int)) (hk : k < ts.length) (hL : L.length ≤ 63) (h : Sees a ts ca m w B bt bf br L W v)
 (ht : bt < B) (hf : bf < B) (hr : br < B) (htr : bt ≠ br) (hfr : bf ≠ br) (hw : w.heap.size ≤ br) :
 Calls Tryz.prog 102 #[.int .i64 (k : Nat), .pointer (some ⟨bt, 0, none⟩), .pointer (some ⟨bf, 0, none⟩), .pointer (some ⟨br, 0, none⟩)] W fun e w' => e = .returned (.tuple #[]) ∧ ∃ v', Sees a ts ca m w B bt bf br (if M.anyS (M.region ts m k) = true then L ++ [(k : Int)] else L) w' v' := by
 have R := hide (fun W' (hW : Below w.heap.size w W') => region_any a ts ca m k W' (hn.below hW) F hk)
 have LN : Hid (((M.region ts m k).map M.norm).length = m) := by unfold Hid; rw [List.length_map, M.region_len]
 have m8 : m ≤ 8 := by have := F.2.2.2.1; omega
 have l63 := F.1
 have HH := hide hasrow_any
 have S0 := hide h
 have UP : Hid (∀ W', Below W.heap.size W W' → Sees a ts ca m w B bt bf br L W' v) := fun W' hb => h.up ht hf hr hb
 have MO : Hid (∀ W' v' L2, Below B W W' → W'.ownsRow B 3 1 v' L2.length (L2.map (Value.int .i64)) → Sees a ts ca m w B bt bf br L2 (W'.setCell ⟨br, 0, none⟩ v') v') := fun W' v' L2 hb ho => h.more ht hf hr htr hfr hw hb ho
 obtain ⟨i0, hi, hz0, hz1, hz2⟩ := info_parts info3
 have I0 := hide hi
 have c0 := h.ct
 have c1 := h.cf
 have hbl := hide h.below
 have bs := h.size
 cases hA : M.anyS (M.region ts m k) with
 | false =>
   rw [← M.any_norm] at hA
   have HA := hide hA
   clear h hi F hn hA
   generalize (M.region ts m k).map M.norm = Q at *
   go_enter Tryz.func102, Tryz.ntmps102
   go_wp2_with (first
    | (go_at_call 104; refine (R.out _ hbl.out).mono ?_; rintro e w2 ⟨q, rfl, hown, hb2⟩; obtain ⟨ag, cg, rfl, hrd⟩ := own_rdS LN.out (by unfold maxLen; omega) hown; have hw2 := HH.out ag Q cg w2 hrd; rw [LN.out, HA.out] at hw2; have HW := hide hw2; have HB2 := hide hb2; clear hown hw2 hrd)
    | (go_at_call 103; refine HW.out.mono ?_; rintro e w3 ⟨rfl, hb3⟩; have HB3 := hide hb3; clear hb3))
   go_end0
   exact ⟨rfl, v, UP.out _ (below_on HB2.out HB3.out)⟩
 | true =>
   rw [← M.any_norm] at hA
   have HA := hide hA
   clear h hi F hn hA
   obtain ⟨va, vc, rfl, RV, hvc⟩ := own_rd S0.out.own
   clear RV hvc
   generalize (M.region ts m k).map M.norm = Q at *
   go_enter Tryz.func102, Tryz.ntmps102
   go_wp2_with (first
    | (go_at_call 104; refine (R.out _ hbl.out).mono ?_; rintro e w2 ⟨q, rfl, hown, hb2⟩; obtain ⟨ag, cg, rfl, hrd⟩ := own_rdS LN.out (by unfold maxLen; omega) hown; have hw2 := HH.out ag Q cg w2 hrd; rw [LN.out, HA.out] at hw2; have HW := hide hw2; have HB2 := hide hb2; clear hown hw2 hrd)
    | (go_at_call 103; refine HW.out.mono ?_; rintro e w3 ⟨rfl, hb3⟩; have k3 := below_on HB2.out hb3; have S3 := hide (UP.out _ k3); have c3 := S3.out.cr; have f3 := S3.out.fr; have bs3 := S3.out.size; clear hb3)
    | (at_builtin; refine wpList_append_lies _ rfl (.tmp 10) (.tmp 12) 23 rfl B 3 i0 (.int .i64 0) 1 8 Tryz.underlying23 I0.out hz0 hz1 hz2 rfl (by omega) (.slice va L.length vc) L.length (L.map (Value.int .i64)) rfl (S3.out.own.alloc _) ⟨w3.heap.size, 0, none⟩ 1 1 [.int .i64 (k : Int)] rfl rfl (World.news_of_block (heap_alloc_new _ _)) (by simp [Value.oneCell']) (by omega) (by unfold maxLen; omega) (by omega) (by simp; omega) (w3.heap.size + 1) (by simp) ?_))
   intro g cap w5 hov5 hgrow hat hlt5
   have kB : Below B W w5 := ((k3.mono bs).alloc bs3 _).grown hgrow (by simp; omega) (fun k hk => (S3.out.own.lt k hk).1)
   have c5 : w5.cell? ⟨br, 0, none⟩ = _ := (kB.cell (p := ⟨br, 0, none⟩) hr).trans S0.out.cr
   have f5 : w5.frozen? ⟨br, 0, none⟩ = false := by
    rw [← S0.out.fr]
    unfold World.frozen?
    rw [kB.block br hr]
   have HO5 : Hid (w5.ownsRow B 3 1 (.slice (some ⟨g, 0, none⟩) (L.length + 1) cap) (L ++ [(k : Int)]).length ((L ++ [(k : Int)]).map (Value.int .i64))) := by
    unfold Hid; rw [List.map_append, List.length_append]; exact hov5
   have KB := hide kB
   clear hov5 hgrow hat kB
   go_wp2
   go_end0
   exact ⟨rfl, _, MO.out _ _ _ KB.out HO5.out⟩
theorem M.rch_yes {t : List M.Nd} {m k : Nat} (h : M.leafB (M.nAt t k) = true) : M.rch t m (k + 1) = if M.anyS (M.region t m k) = true then M.rch t m k ++ [(k : Int)] else M.rch t m k := by
 rw [M.rch, h]; simp
theorem M.rch_no {t : List M.Nd} {m k : Nat} (h : M.leafB (M.nAt t k) = false) : M.rch t m (k + 1) = M.rch t m k := by
 rw [M.rch, h]; simp
set_option maxHeartbeats 4000000 in
set_option maxRecDepth 10000 in
theorem eachleaf_any (a : Option Addr) (ts : List M.Nd) (ca m : Nat) (w : World) (B bt bf br : Nat) (W : World) (v : Value) (hn : RdN w a ts) (F : M.Fair ts (m : Int)) (h : Sees a ts ca m w B bt bf br [] W v)
 (ht : bt < B) (hf : bf < B) (hr : br < B) (htr : bt ≠ br) (hfr : bf ≠ br) (hw : w.heap.size ≤ br) :
 Calls Tryz.prog 101 #[.slice a ts.length ca, .func (.func 102) #[] #[.pointer (some ⟨bt, 0, none⟩), .pointer (some ⟨bf, 0, none⟩), .pointer (some ⟨br, 0, none⟩)]] W fun e w' => e = .returned (.tuple #[]) ∧ ∃ v', Sees a ts ca m w B bt bf br (M.rch ts m ts.length) w' v' := by
 have l63 := F.1
 have HN := hide hn
 have HS := hide h
 have C := hide (fun k L W v (hk : k < ts.length) (hL : L.length ≤ 63) (h : Sees a ts ca m w B bt bf br L W v) => reach1_any a ts ca m k w B bt bf br L W v hn F hk hL h ht hf hr htr hfr hw)
 clear hn F h
 go_enter Tryz.func101, Tryz.ntmps101
 go_wp2
 go_loopw [8] (fun i wr => ∃ k : Nat, k ≤ ts.length ∧ i = .int .i64 k ∧ Hid (∃ v', Sees a ts ca m w B bt bf br (M.rch ts m k) wr v')) (fun i _ => ts.length - (intOf i).toNat)
 case atStart => exact ⟨0, Nat.zero_le _, rfl, v, HS.out⟩
 case round =>
  clear HS
  obtain ⟨k, hk, rfl, I⟩ := hrel
  obtain ⟨v', hS⟩ := I.out
  by_cases hlt : k < ts.length
  · have hbl := hS.below
    obtain ⟨b1, off, rfl, hb1, hc⟩ := HN.out.2 (by intro e; subst e; simp at hlt)
    obtain ⟨s0, s1, s2, s3, s4, s5⟩ := (hc k hlt).below hbl hb1
    have UA : Hid (∀ o, Sees (some ⟨b1, off, none⟩) ts ca m w B bt bf br (M.rch ts m k) (wr.alloc o) v') := fun o => hS.up ht hf hr ((Below.refl _ wr).alloc (Nat.le_refl _) o)
    cases hl : M.leafB (M.nAt ts k) with
    | true =>
      have q : (M.nf (M.nAt ts k) == -1) = true := by
       unfold M.leafB at hl
       rw [beq_iff_eq]; exact of_decide_eq_true hl
      have N : Hid (M.rch ts m (k + 1) = if M.anyS (M.region ts m k) = true then M.rch ts m k ++ [(k : Int)] else M.rch ts m k) := M.rch_yes hl
      have C1 := hide (fun o => C.out k (M.rch ts m k) (wr.alloc o) v' hlt (by have := M.rch_len ts m k; omega) (UA.out o))
      rw [← N.out] at C1
      clear hc hl hS C I UA N
      generalize M.nf (M.nAt ts k) = f at *
      generalize M.nc (M.nAt ts k) = c at *
      generalize M.nl (M.nAt ts k) = l at *
      generalize M.nr (M.nAt ts k) = r at *
      generalize M.ns (M.nAt ts k) = sl at *
      generalize M.nv (M.nAt ts k) = v at *
      go_wp2_with (go_at_call 102; refine (C1.out _).mono ?_; rintro e w2 ⟨rfl, hs2⟩; have S2 := hide hs2; clear hs2)
      go_roundw
      case rel => exact ⟨k + 1, by omega, by go_num, S2⟩
      case measure => simp [intOf]; omega
    | false =>
      have q : (M.nf (M.nAt ts k) == -1) = false := by
       unfold M.leafB at hl
       rw [beq_eq_false_iff_ne]; exact of_decide_eq_false hl
      have N : Hid (∀ o, ∃ v', Sees (some ⟨b1, off, none⟩) ts ca m w B bt bf br (M.rch ts m (k + 1)) (wr.alloc o) v') := fun o => ⟨v', by rw [M.rch_no hl]; exact UA.out o⟩
      clear hc hl hS C I UA
      generalize M.nf (M.nAt ts k) = f at *
      generalize M.nc (M.nAt ts k) = c at *
      generalize M.nl (M.nAt ts k) = l at *
      generalize M.nr (M.nAt ts k) = r at *
      generalize M.ns (M.nAt ts k) = sl at *
      generalize M.nv (M.nAt ts k) = v at *
      go_wp2
      go_roundw
      case rel => exact ⟨k + 1, by omega, by go_num, N.out _⟩
      case measure => simp [intOf]; omega
  · have E : k = ts.length := by omega
    subst E
    clear C hS
    go_wp2
    go_end0
    exact ⟨rfl, I.out⟩
theorem sees_start {a : Option Addr} {ts : List M.Nd} {ca m : Nat} {w w1 : World} {t u r : TypeId} (h : Below ((w.alloc (.cells #[.slice a ts.length ca] t)).alloc (.cells #[.int .i64 (m : Nat)] u)).heap.size ((w.alloc (.cells #[.slice a ts.length ca] t)).alloc (.cells #[.int .i64 (m : Nat)] u)) w1) :
 Sees a ts ca m w (w1.heap.size + 1) w.heap.size (w.heap.size + 1) w1.heap.size [] (w1.alloc (.cells #[.slice none 0 0] r)) (.slice none 0 0) ∧ w.heap.size + 1 < w1.heap.size := by
 have hsz : w.heap.size + 1 < w1.heap.size := by have := h.size; simp at this; omega
 have b2 := (Below.refl _ w1).alloc (Nat.le_refl _) (.cells #[.slice none 0 0] r)
 have hw : Below w.heap.size w w1 := below_on (((Below.refl _ w).alloc (Nat.le_refl _) _).alloc (by simp) _) h
 refine ⟨⟨?_, ?_, ?_, ?_, World.ownsRow_nil _ _ _ _, ?_, below_on hw b2⟩, hsz⟩
 · refine (b2.cell (p := ⟨w.heap.size, 0, none⟩) (show w.heap.size < _ by omega)).trans ((h.cell (p := ⟨w.heap.size, 0, none⟩) (by simp; omega)).trans ?_)
   refine (((Below.refl _ (w.alloc (.cells #[.slice a ts.length ca] t))).alloc (Nat.le_refl _) _).cell (p := ⟨w.heap.size, 0, none⟩) (by simp)).trans ?_
   exact World.cell?_alloc_at _ _ _ 0 rfl
 · refine (b2.cell (p := ⟨w.heap.size + 1, 0, none⟩) (show w.heap.size + 1 < _ by omega)).trans ((h.cell (p := ⟨w.heap.size + 1, 0, none⟩) (by simp)).trans ?_)
   exact World.cell?_alloc_at _ _ _ 0 (by simp)
 · exact World.cell?_alloc_at _ _ _ 0 rfl
 · have := heap_alloc_new w1 (.cells #[.slice none 0 0] r)
   simp only [World.frozen?, this]
   rfl
 · simp
set_option maxHeartbeats 4000000 in
set_option maxRecDepth 10000 in
theorem reach_new (a : Option Addr) (ts : List M.Nd) (ca : Nat) (m : Int) (w : World) (ht : RdN w a ts) :
 Calls Tryz.prog 71 #[.slice a ts.length ca, .int .i64 m] w fun e w' =>
  ∃ ag cg, e = .returned (.tuple #[.slice ag (M.rchV ts m).length cg, errV (M.treeF ts m).2]) ∧ Rd w' ag (M.rchV ts m) ∧ Below w.heap.size w w' ∧ (∀ x, ag = some x → w.heap.size ≤ x.block) := by
 have T := hide (fun W (hW : Below w.heap.size w W) => tcheck_any a ts ca m W (ht.below hW))
 have B0 : Hid (∀ o1 o2, Below w.heap.size w ((w.alloc o1).alloc o2)) := fun o1 o2 => ((Below.refl _ w).alloc (Nat.le_refl _) o1).alloc (by simp) o2
 by_cases h : (M.treeF ts m).2 = 0
 · obtain ⟨F, e2⟩ := M.tree_ok h
   rw [err_nil h]
   rw [err_nil h] at T
   have m0 := F.2.2.1
   obtain ⟨mn, rfl⟩ : ∃ mn : Nat, m = (mn : Int) := ⟨m.toNat, by omega⟩
   have rv : Hid (M.rchV ts (mn : Int) = M.rch ts mn ts.length) := by unfold Hid M.rchV; rw [if_pos h, Int.toNat_natCast]
   have EL := hide (fun B bt bf br W v h1 h2 h3 h4 h5 h6 h7 => eachleaf_any a ts ca mn w B bt bf br W v ht F h1 h2 h3 h4 h5 h6 h7)
   clear h F e2 ht
   generalize M.rchV ts (mn : Int) = RV at *
   go_enter Tryz.func71, Tryz.ntmps71
   go_wp2_with (first
    | (go_at_call 70; refine (T.out _ (B0.out _ _)).mono ?_; rintro e w1 ⟨rfl, hb1⟩; have ss := sees_start (r := 23) hb1; have S1 := hide ss.1; have sz := ss.2; have ct := S1.out.ct; clear ss)
    | (go_at_call 101; refine (EL.out _ _ _ _ _ _ S1.out (by omega) (by omega) (by omega) (by omega) (by omega) (by omega)).mono ?_; rintro e w2 ⟨rfl, ⟨v2, hs2⟩⟩; have S2 := hide hs2; have c2 := hs2.cr; clear hs2))
   go_ret2
   obtain ⟨va, vc, rfl, RV2, hvc⟩ := own_rd S2.out.own
   exact ⟨va, vc, by rw [rv.out]; rfl, by rw [rv.out]; exact RV2, S2.out.below, fun x hx => by subst hx; have := (S2.out.own.lt x.block rfl).1; omega⟩
 · have rv : Hid (M.rchV ts m = []) := by unfold Hid M.rchV; rw [if_neg h]
   have ES := hide (err_some h)
   rw [err_some h] at T
   clear h ht
   generalize M.rchV ts m = RV at *
   generalize errV (M.treeF ts m).2 = er at *
   generalize (M.treeF ts m).2 = tf at *
   generalize (M.treeF ts m).1 = tp at *
   go_enter Tryz.func71, Tryz.ntmps71
   go_wp2_with (go_at_call 70; refine (T.out _ (B0.out _ _)).mono ?_; rintro e w1 ⟨rfl, hb1⟩; have k1 := below_on (B0.out _ _) hb1)
   go_ret2
   exact ⟨none, 0, by rw [rv.out, ES.out]; rfl, by rw [rv.out]; exact ⟨Nat.zero_le _, fun h => absurd rfl h⟩, k1, fun x hx => by cases hx⟩
theorem reach_any (a : Option Addr) (ts : List M.Nd) (ca : Nat) (m : Int) (w : World) (ht : RdN w a ts) :
 Calls Tryz.prog 71 #[.slice a ts.length ca, .int .i64 m] w fun e w' =>
  ∃ ag cg, e = .returned (.tuple #[.slice ag (M.rchV ts m).length cg, errV (M.treeF ts m).2]) ∧ Rd w' ag (M.rchV ts m) ∧ Below w.heap.size w w' := by
 refine (reach_new a ts ca m w ht).mono ?_
 rintro e w' ⟨ag, cg, rfl, h1, h2, _⟩
 exact ⟨ag, cg, rfl, h1, h2⟩
set_option maxHeartbeats 8000000 in
set_option maxRecDepth 10000 in
theorem pregion_new (a : Option Addr) (ts : List M.Nd) (ca : Nat) (m k : Int) (w : World) (ht : RdN w a ts) :
 Calls Tryz.prog 114 #[.slice a ts.length ca, .int .i64 m, .int .i64 k] w fun e w' =>
  ∃ ag cg, e = .returned (.tuple #[.slice ag (M.regV ts m k).length cg, .bool (M.regB ts m k), errV (M.regF ts m k)]) ∧ RdS w' ag (M.regV ts m k) ∧ Below w.heap.size w w' ∧ (∀ x, ag = some x → w.heap.size ≤ x.block) := by
 have T := hide (tcheck_any a ts ca m w ht)
 by_cases h : (M.treeF ts m).2 = 0
 · obtain ⟨F, e2⟩ := M.tree_ok h
   rw [err_nil h] at T
   have l63 := F.1
   have m0 := F.2.2.1
   have m8 := F.2.2.2.1
   obtain ⟨mn, rfl⟩ : ∃ mn : Nat, m = (mn : Int) := ⟨m.toNat, by omega⟩
   by_cases hl : M.isLf ts k = true
   · have rf : M.regF ts (mn : Int) k = 0 := by unfold M.regF; rw [if_neg (by simp [h]), if_neg (by simp [hl])]
     have rv : Hid (M.regV ts (mn : Int) k = (M.region ts mn k.toNat).map M.norm) := by unfold Hid M.regV; rw [if_pos rf, Int.toNat_natCast]
     have rb : Hid (M.regB ts (mn : Int) k = M.anyS ((M.region ts mn k.toNat).map M.norm)) := by unfold Hid M.regB; rw [if_pos rf, Int.toNat_natCast, M.any_norm]
     rw [err_nil rf]
     unfold M.isLf at hl
     rw [Bool.and_eq_true, Bool.and_eq_true] at hl
     obtain ⟨⟨k0, k1⟩, k2⟩ := hl
     have k0' := of_decide_eq_true k0
     have k1' := of_decide_eq_true k1
     obtain ⟨kn, rfl⟩ : ∃ kn : Nat, k = (kn : Int) := ⟨k.toNat, by omega⟩
     rw [Int.toNat_natCast] at rv rb k2
     have kl : kn < ts.length := by omega
     obtain ⟨b0, off, rfl, hb0, hc⟩ := ht.2 (by intro e; subst e; simp at kl)
     have CL : Hid (∀ W, Below w.heap.size w W → W.cell? ⟨b0, off + kn * 6, none⟩ = some (.int .i64 (-1))) := fun W hW => by
      have := ((hc kn kl).below hW hb0).1
      rw [this]
      unfold M.leafB at k2
      rw [of_decide_eq_true k2]
     have R := hide (fun W (hW : Below w.heap.size w W) => region_any (some ⟨b0, off, none⟩) ts ca mn kn W (ht.below hW) F kl)
     have LN : Hid (((M.region ts mn kn).map M.norm).length = mn) := by unfold Hid; rw [List.length_map, M.region_len]
     have HH := hide hasrow_any
     have q2 : decide ((ts.length : Int) ≤ (kn : Int)) = false := decide_eq_false (by omega)
     clear h F e2 ht hc rf k0 k1 k2
     generalize M.regV ts (mn : Int) (kn : Int) = RV at *
     generalize M.regB ts (mn : Int) (kn : Int) = RB at *
     generalize (M.region ts mn kn).map M.norm = L at *
     have kz : (kn : Int) < (ts.length : Int) := by omega
     go_enter Tryz.func114, Tryz.ntmps114
     go_wp2_with (first
      | (go_at_call 70; refine T.out.mono ?_; rintro e w1 ⟨rfl, hb1⟩; have cl := CL.out _ hb1)
      | (go_at_call 104; refine (R.out _ hb1).mono ?_; rintro e w2 ⟨v, rfl, hown, hb2⟩; obtain ⟨ag, cg, rfl, hrd⟩ := own_rdS LN.out (by unfold maxLen; omega) hown; have HO := hide hown; have hw := HH.out ag L cg w2 hrd; rw [LN.out] at hw; have HW := hide hw; have HR := hide hrd; clear hown hw hrd)
      | (go_at_call 103; refine HW.out.mono ?_; rintro e w3 ⟨rfl, hb3⟩))
     go_ret3
     exact ⟨ag, cg, by rw [rv.out, rb.out, LN.out]; rfl, by rw [rv.out]; exact HR.out.below hb3, below_on hb1 (below_on hb2 hb3), fun x hx => by subst hx; exact Nat.le_trans hb1.size (HO.out.lt x.block rfl).1⟩
   · have hl' : M.isLf ts k = false := by simpa using hl
     have rf : M.regF ts (mn : Int) k = 1 := by unfold M.regF; rw [if_neg (by simp [h]), if_pos hl']
     have rv : Hid (M.regV ts (mn : Int) k = []) := by unfold Hid M.regV; rw [if_neg (by rw [rf]; decide)]
     have rb : Hid (M.regB ts (mn : Int) k = false) := by unfold Hid M.regB; rw [if_neg (by rw [rf]; decide)]
     rw [rf, err_some (show (1 : Int) ≠ 0 by decide)]
     have fin : Hid (∀ W, Below w.heap.size w W → ∃ ag cg, Ending.returned (.tuple #[.slice none 0 0, .bool false, .iface 74 (.int .i64 1)]) = .returned (.tuple #[.slice ag (M.regV ts (mn : Int) k).length cg, .bool (M.regB ts (mn : Int) k), .iface 74 (.int .i64 1)]) ∧ RdS W ag (M.regV ts (mn : Int) k) ∧ Below w.heap.size w W ∧ (∀ x, ag = some x → w.heap.size ≤ x.block)) := fun W hW => ⟨none, 0, by rw [rv.out, rb.out]; rfl, by rw [rv.out]; exact ⟨Nat.zero_le _, fun h => absurd rfl h⟩, hW, fun x hx => by cases hx⟩
     by_cases k0 : k < 0
     · have q1 : decide (k < 0) = true := decide_eq_true k0
       clear h F e2 hl hl' rf rv rb k0
       generalize M.regV ts (mn : Int) k = RV at *
       generalize M.regB ts (mn : Int) k = RB at *
       go_enter Tryz.func114, Tryz.ntmps114
       go_wp2_with (go_at_call 70; refine T.out.mono ?_; rintro e w1 ⟨rfl, hb1⟩)
       go_ret3
       exact fin.out _ hb1
     · by_cases k1 : (ts.length : Int) ≤ k
       · have q1 : decide (k < 0) = false := decide_eq_false k0
         have q2 : decide ((ts.length : Int) ≤ k) = true := decide_eq_true k1
         clear h F e2 hl hl' rf rv rb k0 k1
         generalize M.regV ts (mn : Int) k = RV at *
         generalize M.regB ts (mn : Int) k = RB at *
         go_enter Tryz.func114, Tryz.ntmps114
         go_wp2_with (go_at_call 70; refine T.out.mono ?_; rintro e w1 ⟨rfl, hb1⟩)
         go_ret3
         exact fin.out _ hb1
       · obtain ⟨kn, rfl⟩ : ∃ kn : Nat, k = (kn : Int) := ⟨k.toNat, by omega⟩
         have kl : kn < ts.length := by omega
         have hf : M.leafB (M.nAt ts kn) = false := by
          unfold M.isLf at hl'
          rw [decide_eq_true (show (0 : Int) ≤ (kn : Int) by omega), decide_eq_true (show (kn : Int) < (ts.length : Int) by omega), Int.toNat_natCast] at hl'
          simpa using hl'
         obtain ⟨b0, off, rfl, hb0, hc⟩ := ht.2 (by intro e; subst e; simp at kl)
         have CL : Hid (∀ W, Below w.heap.size w W → W.cell? ⟨b0, off + kn * 6, none⟩ = some (.int .i64 (M.nf (M.nAt ts kn)))) := fun W hW => ((hc kn kl).below hW hb0).1
         have q3 : (M.nf (M.nAt ts kn) != -1) = true := by
          unfold M.leafB at hf
          rw [bne_iff_ne]; exact of_decide_eq_false hf
         have q2 : decide ((ts.length : Int) ≤ (kn : Int)) = false := decide_eq_false (by omega)
         have kz : (kn : Int) < (ts.length : Int) := by omega
         clear h F e2 hl hl' rf rv rb k0 k1 hc ht hf
         generalize M.regV ts (mn : Int) (kn : Int) = RV at *
         generalize M.regB ts (mn : Int) (kn : Int) = RB at *
         generalize M.nf (M.nAt ts kn) = f at *
         go_enter Tryz.func114, Tryz.ntmps114
         go_wp2_with (go_at_call 70; refine T.out.mono ?_; rintro e w1 ⟨rfl, hb1⟩; have cl := CL.out _ hb1)
         go_ret3
         exact fin.out _ hb1
 · have rf : M.regF ts m k = (M.treeF ts m).2 := by unfold M.regF; rw [if_pos h]
   have rv : Hid (M.regV ts m k = []) := by unfold Hid M.regV; rw [if_neg (by rw [rf]; exact h)]
   have rb : Hid (M.regB ts m k = false) := by unfold Hid M.regB; rw [if_neg (by rw [rf]; exact h)]
   have ES := hide (err_some h)
   rw [rf]
   rw [err_some h] at T
   clear h ht rf
   generalize M.regV ts m k = RV at *
   generalize M.regB ts m k = RB at *
   generalize errV (M.treeF ts m).2 = er at *
   generalize (M.treeF ts m).2 = tf at *
   generalize (M.treeF ts m).1 = tp at *
   go_enter Tryz.func114, Tryz.ntmps114
   go_wp2_with (go_at_call 70; refine T.out.mono ?_; rintro e w1 ⟨rfl, hb1⟩)
   go_ret3
   exact ⟨none, 0, by rw [rv.out, rb.out, ES.out]; rfl, by rw [rv.out]; exact ⟨Nat.zero_le _, fun h => absurd rfl h⟩, hb1, fun x hx => by cases hx⟩
theorem pregion_any (a : Option Addr) (ts : List M.Nd) (ca : Nat) (m k : Int) (w : World) (ht : RdN w a ts) :
 Calls Tryz.prog 114 #[.slice a ts.length ca, .int .i64 m, .int .i64 k] w fun e w' =>
  ∃ ag cg, e = .returned (.tuple #[.slice ag (M.regV ts m k).length cg, .bool (M.regB ts m k), errV (M.regF ts m k)]) ∧ RdS w' ag (M.regV ts m k) ∧ Below w.heap.size w w' :=
 (pregion_new a ts ca m k w ht).mono (by rintro e w' ⟨ag, cg, h1, h2, h3, _⟩; exact ⟨ag, cg, h1, h2, h3⟩)
end Go.Proofs.YtelncekgjfpogahGreatDoor
