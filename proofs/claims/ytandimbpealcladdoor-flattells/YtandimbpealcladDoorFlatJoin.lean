/-
  FlatTells' own walk, and that it returns true for every grove and all rows; the variable of package errors lies as that package lays it.
-/
import Derived.Test.YtandimbpealcladDoorFlatH
import Derived.Test.YtandimbpealcladDoorFlatN
import Derived.Test.YtandimbpealcladDoorFlatM
import Derived.Test.YtandimbpealcladDoorRefGrove
import Derived.Test.YtandimbpealcladDoorGrSame
import Derived.Test.YtandimbpealcladDoorError
import Derived.Deep.CutBlock
namespace Go.Proofs.YtandimbpealcladDoor
open Go.ChangeShapes Go.WideShapes Go.ChangeAt Go.RowKit Go.Lib
set_option linter.unusedVariables false

theorem M.many_snoc {g : M.Gv} (r : List Int) : ∀ (l : List (List Int)), M.manyF g (l ++ [r]) = if M.manyF g l ≠ 0 then M.manyF g l else M.standF g r
  | [] => by
    show M.manyF g [r] = M.standF g r
    unfold M.manyF
    by_cases h : M.standF g r ≠ 0
    · rw [if_pos h]
    · rw [if_neg h]
      exact (Decidable.not_not.1 h).symm
  | x :: l => by
    have ih := M.many_snoc (g := g) r l
    show (if M.standF g x ≠ 0 then M.standF g x else M.manyF g (l ++ [r])) = if (if M.standF g x ≠ 0 then M.standF g x else M.manyF g l) ≠ 0 then (if M.standF g x ≠ 0 then M.standF g x else M.manyF g l) else M.standF g r
    by_cases h : M.standF g x ≠ 0
    · rw [if_pos h, if_pos h, if_pos h]
    · rw [if_neg h, if_neg h]
      exact ih

/-! ### one leaf that says 7, its weight 2 -/
abbrev seven : Obj := .cells #[.int .i64 (-1), .int .i64 0, .int .i64 0, .int .i64 0, .bool false, .int .i64 7] 28
abbrev one2W (w : World) (n : Nat) : World := ((w.alloc seven).alloc (.cells #[.int .i64 2] 3)).alloc (.cells #[.slice (some ⟨n, 0, none⟩) 1 1] 29)
def one2G (n : Nat) : Gr := ⟨0, 1, some ⟨n + 1, 0, none⟩, [2], 1, some ⟨n + 1 + 1, 0, none⟩, [(some ⟨n, 0, none⟩, [(-1, 0, 0, 0, false, 7)], 1)], 1⟩
theorem seven_rdn (w : World) : RdN (w.alloc seven) (some ⟨w.heap.size, 0, none⟩) [(-1, 0, 0, 0, false, 7)] := by
  refine ⟨by show 1 ≤ maxLen; unfold maxLen; decide, fun _ => ⟨w.heap.size, 0, rfl, by simp, fun i hi => ?_⟩⟩
  have c : ∀ j, (w.alloc seven).cell? ⟨w.heap.size, j, none⟩ = _ := fun j => World.cell?_alloc_at _ _ _ j rfl
  have hi' : i < 1 := hi
  rcases i with _ | i
  · exact ⟨c _, c _, c _, c _, c _, c _⟩
  · omega
theorem one2_rdg (w : World) (n : Nat) (hn : n = w.heap.size) : RdG (one2W w n) (one2G n) := by
  subst hn
  have b1 : Below (w.alloc seven).heap.size (w.alloc seven) (one2W w w.heap.size) := (((Below.refl _ (w.alloc seven)).alloc (Nat.le_refl _) _).alloc (by simp) _)
  have b2 : Below ((w.alloc seven).alloc (.cells #[.int .i64 2] 3)).heap.size ((w.alloc seven).alloc (.cells #[.int .i64 2] 3)) (one2W w w.heap.size) := (Below.refl _ _).alloc (Nat.le_refl _) _
  refine ⟨?_, by show 1 ≤ maxLen; unfold maxLen; decide, ?_, fun _ => ⟨w.heap.size + 1 + 1, 0, rfl, by simp, fun i hi => ?_⟩⟩
  · have := (one_rd (w.alloc seven) 2 3).below b2
    simpa [one2G] using this
  · intro k hk
    have e : k = (some ⟨w.heap.size, 0, none⟩, [(-1, 0, 0, 0, false, 7)], 1) := by simpa [one2G] using hk
    subst e
    exact (seven_rdn w).below b1
  · have hi' : i < 1 := hi
    rcases i with _ | i
    · exact World.cell?_alloc_at _ _ _ 0 (by simp)
    · omega
def M.oneV : M.Gv := (0, 1, [2], [[(-1, 0, 0, 0, false, 7)]])
theorem M.one_facts : M.groveF M.oneV = 0 ∧ M.standF M.oneV [] = 0 ∧ M.evalG M.oneV [] = 14 ∧ (M.allN M.oneV).length = 1 := by decide

/-- a grove each tree of which is laid level by level is right -/
theorem M.levels_grove {g : M.Gv} (h : M.groveF g = 0) : M.groveF (M.gf g, M.gw g, M.gs g, (M.gt g).map M.levels) = 0 := by
  have K := (M.good_iff g).1 h
  refine (M.good_iff _).2 ⟨K.f0, K.f8, K.w1, K.w3, ?_, ?_, ?_, K.wts, ?_⟩
  · show 0 < ((M.gt g).map M.levels).length
    rw [List.length_map]; exact K.t0
  · show ((M.gt g).map M.levels).length ≤ 12
    rw [List.length_map]; exact K.t12
  · show (M.gs g).length = ((M.gt g).map M.levels).length
    rw [List.length_map]; exact K.len
  · intro t ht
    obtain ⟨t', ht', rfl⟩ := List.mem_map.1 ht
    exact M.levels_tree (K.trees t' ht')

theorem gw_begin {w1 : World} {f wy : Int} {wv : Value} (W : World) (e : W = w1.alloc (.cells #[.int .i64 f, .int .i64 wy, wv, .slice none 0 0] 25)) : Gw W W w1.heap.size f wy wv [] (.slice none 0 0) := by
  subst e
  refine ⟨World.grownBy.refl _ _, World.cell?_alloc_at _ _ _ 0 rfl, World.cell?_alloc_at _ _ _ 1 rfl, World.cell?_alloc_at _ _ _ 2 rfl, World.cell?_alloc_at _ _ _ 3 rfl, fun j => ?_, by simp, World.ownsRow_nil _ _ _ _, (fun c hc => by cases hc), (fun c hc => by cases hc)⟩
  unfold World.frozen?
  rw [heap_alloc_new w1 _]
  simp
theorem gw_rdg {wx wr : World} {gb : Nat} {f wy : Int} {ws : List Int} {wa : Option Addr} {wc : Nat} {C : List Tc} {x : Value} (h : Gw wx wr gb f wy (.slice wa ws.length wc) C x) (hw : Rd wr wa ws) (h0 : 0 < C.length) (h12 : C.length ≤ 12) :
    ∃ g c, x = .slice (some ⟨g, 0, none⟩) C.length c ∧ RdG wr ⟨f, wy, wa, ws, wc, some ⟨g, 0, none⟩, C, c⟩ := by
  obtain ⟨g, c, e, hg1, hg2⟩ := h.ox.form h0
  subst e
  refine ⟨g, c, rfl, hw, ?_, h.rd, fun _ => ⟨g, 0, rfl, hg2, fun i hi => ?_⟩⟩
  · show C.length ≤ maxLen
    unfold maxLen; omega
  · have hi' : i < C.length := hi
    rw [Nat.zero_add]
    refine (h.ox.cellAt i (by omega)).trans ?_
    rw [List.getElem?_map, List.getElem?_eq_getElem hi']
    rfl

end Go.Proofs.YtandimbpealcladDoor

namespace Go.Proofs.YtandimbpealcladDoor
open Go.ChangeShapes Go.WideShapes Go.ChangeAt Go.RowKit Go.Lib
set_option linter.unusedVariables false

abbrev boxG (G : Gr) : Obj := .cells #[.int .i64 G.f, .int .i64 G.w, .slice G.wa G.ws.length G.wc, .slice G.ta G.ks.length G.tc] 25

set_option maxHeartbeats 32000000 in
set_option maxRecDepth 10000 in
/-- where the grove is wrong -/
theorem flat_bad (G : Gr) (b : Option Addr) (ks : List Kc) (cb : Nat) (w : World) (h : RdG w G) (hl : Lays w) (he : M.groveF G.m ≠ 0) :
    Calls Tryd.prog 3 #[G.v, .slice b ks.length cb] w fun r w' => r = .returned (.bool true) ∧ Below w.heap.size w w' := by
  have N1 := hide (fun W n (hn : n = W.heap.size) => fnew_any (one2G n) (one2W W n) (one2_rdg W n hn) M.one_facts.1)
  have V1 := hide (fun W p (hf : FO W p M.oneV) => feval_any p M.oneV none [] 0 W hf M.one_facts.1 ⟨Nat.zero_le _, fun h => absurd rfl h⟩)
  rw [M.one_facts.2.1, M.one_facts.2.2.1, err_nil rfl] at V1
  have S1 := hide (fun W p (hf : FO W p M.oneV) => size_any p M.oneV W hf)
  rw [M.one_facts.2.2.2] at S1
  have N2 := hide (fun W (hW : Below w.heap.size w W) => fnew_bad G W (h.below hW) he)
  have RG := hide (fun W (hW : Below w.heap.size w W) => rgrove_any G W (h.below hW))
  have ER := hide (fun W (hW : Below w.heap.size w W) => (error_any (M.groveF G.m) (M.groveF G.m) W (hl.below hW)))
  rw [beq_self_eq_true] at ER
  have OM : Hid (∀ n, (one2G n).m = M.oneV) := fun n => rfl
  have q : (M.groveF G.m != 0) = true := by rw [bne_iff_ne]; exact he
  rw [err_some he] at N2 ER
  unfold Gr.v at N2 RG ⊢
  unfold Gr.v one2G at N1
  unfold one2G at OM
  have B0 : Hid (Below w.heap.size w (w.alloc (boxG G))) := (Below.refl _ w).alloc (Nat.le_refl _) _
  have BX : Hid (∀ W, Below (w.alloc (boxG G)).heap.size (w.alloc (boxG G)) W → Below w.heap.size w W ∧ W.cell? ⟨w.heap.size, 0, none⟩ = some (.int .i64 G.f) ∧ W.cell? ⟨w.heap.size, 1, none⟩ = some (.int .i64 G.w) ∧ W.cell? ⟨w.heap.size, 2, none⟩ = some (.slice G.wa G.ws.length G.wc) ∧ W.cell? ⟨w.heap.size, 3, none⟩ = some (.slice G.ta G.ks.length G.tc)) := fun W hW => ⟨below_on B0.out hW, kept_grove hW⟩
  have BO : Hid (Below (w.alloc (boxG G)).heap.size (w.alloc (boxG G)) (one2W (w.alloc (boxG G)) (w.heap.size + 1))) := ((((Below.refl _ _).alloc (Nat.le_refl _) _).alloc (by simp) _).alloc (by simp) _)
  clear h hl he
  generalize M.groveF G.m = e at *
  go_enter Tryd.func3, Tryd.ntmps3
  go_wp2_with (first
    | (go_at_call 8; have hone := g6; refine (RG.out _ k6).mono ?_; rintro r w7 ⟨rfl, h7⟩; have g7 := below_on g6 h7; have q7 := BX.out _ g7; have k7 := q7.1)
    | (go_at_call 7; refine (ER.out _ k5).mono ?_; rintro r w6 ⟨rfl, h6⟩; have g6 := below_on g5 h6; have q6 := BX.out _ g6; have k6 := q6.1; have e0 := q6.2.1; have e1 := q6.2.2.1; have e2 := q6.2.2.2.1; have e3 := q6.2.2.2.2; clear q6)
    | (go_at_call 8; refine (RG.out _ k4).mono ?_; rintro r w5 ⟨rfl, h5⟩; have g5 := below_on g4 h5; have q5 := BX.out _ g5; have k5 := q5.1; clear q5)
    | (go_at_call 4; have hone := g2; refine (N2.out _ k2).mono ?_; rintro r w4 ⟨rfl, h4⟩; have g4 := below_on g2 h4; have q4 := BX.out _ g4; have k4 := q4.1; have d0 := q4.2.1; have d1 := q4.2.2.1; have d2 := q4.2.2.2.1; have d3 := q4.2.2.2.2; clear q4)
    | (go_at_call 6; refine (S1.out _ _ HF2.out).mono ?_; rintro r w3 ⟨rfl, e3'⟩; subst w3)
    | (go_at_call 5; refine (V1.out _ _ HF1.out).mono ?_; rintro r w2 ⟨rfl, h2⟩; have g2 := below_on g1 h2; have HF2 := hide (HF1.out.below h2); have q2 := BX.out _ g2; have k2 := q2.1; have c0 := q2.2.1; have c1 := q2.2.2.1; have c2 := q2.2.2.2.1; have c3 := q2.2.2.2.2; clear q2)
    | (go_at_call 4; refine (N1.out (w.alloc (boxG G)) (w.heap.size + 1) (by simp)).mono ?_; rintro r w1 ⟨p1, rfl, hf1, h1⟩; have HF1 := hide hf1; have g1 := below_on BO.out h1; clear hf1))
  go_ret
  exact ⟨rfl, k7⟩

set_option maxHeartbeats 64000000 in
set_option maxRecDepth 10000 in
/-- where it is right -/
theorem flat_good (LEV : ∀ (a0 : Option Addr) (ts : List M.Nd) (cap : Nat) (m : Int) (w : World), RdN w a0 ts → M.Fair ts m → Calls Tryd.prog 13 #[.slice a0 ts.length cap] w fun e w' => ∃ a c, e = .returned (.slice a (M.levels ts).length c) ∧ RdN w' a (M.levels ts) ∧ (∀ p, a = some p → w.heap.size ≤ p.block) ∧ Below w.heap.size w w')
    (G : Gr) (b : Option Addr) (ks : List Kc) (cb : Nat) (w : World) (h : RdG w G) (hr : RdK w b ks) (hl : Lays w) (he : M.groveF G.m = 0) :
    Calls Tryd.prog 3 #[G.v, .slice b ks.length cb] w fun r w' => r = .returned (.bool true) ∧ Below w.heap.size w w' := by
  have N1 := hide (fun W n (hn : n = W.heap.size) => fnew_any (one2G n) (one2W W n) (one2_rdg W n hn) M.one_facts.1)
  have V1 := hide (fun W p (hf : FO W p M.oneV) => feval_any p M.oneV none [] 0 W hf M.one_facts.1 ⟨Nat.zero_le _, fun h => absurd rfl h⟩)
  rw [M.one_facts.2.1, M.one_facts.2.2.1, err_nil rfl] at V1
  have S1 := hide (fun W p (hf : FO W p M.oneV) => size_any p M.oneV W hf)
  rw [M.one_facts.2.2.2] at S1
  have N2 := hide (fun W (hW : Below w.heap.size w W) => fnew_any G W (h.below hW) he)
  have ER := hide (fun c W (hW : Below w.heap.size w W) => (error_any c c W (hl.below hW)).mono (R' := fun r w' => r = .returned (.bool true) ∧ Below W.heap.size W w') fun r w' h => ⟨by rw [h.1, beq_self_eq_true], h.2⟩)
  have OM : Hid (∀ n, (one2G n).m = M.oneV) := fun n => rfl
  have K := (M.good_iff G.m).1 he
  have tlen : (M.gt G.m).length = G.ks.length := tl_len G.ks
  have g0 : 0 < G.ks.length := by rw [← tlen]; exact K.t0
  have g12 : G.ks.length ≤ 12 := by rw [← tlen]; exact K.t12
  have hmk : ks.length ≤ 9223372036854775807 := hr.1
  -- what is asked of one row
  have PE := hide (fun W p (hW : Below w.heap.size w W) (hf : FO W p G.m) k (hk : k < ks.length) => feval_any p G.m ks[k].1 ks[k].2.1 ks[k].2.2 W hf he ((hr.below hW).2.1 _ (List.getElem_mem hk)))
  have RS := hide (fun W (hW : Below w.heap.size w W) k (hk : k < ks.length) => rstand_any G ks[k].1 ks[k].2.1 ks[k].2.2 W (h.below hW) ((hr.below hW).2.1 _ (List.getElem_mem hk)))
  have GE := hide (fun W (hW : Below w.heap.size w W) k (hk : k < ks.length) => geval_any G ks[k].1 ks[k].2.1 ks[k].2.2 W (h.below hW) ((hr.below hW).2.1 _ (List.getElem_mem hk)))
  have RK : Hid (∀ k, k < ks.length → ∃ bt ot, b = some ⟨bt, ot, none⟩ ∧ ∀ W, Below w.heap.size w W → ∀ (hk : k < ks.length), W.cell? ⟨bt, ot + k, none⟩ = some (.slice ks[k].1 ks[k].2.1.length ks[k].2.2)) := fun k hk => by
    obtain ⟨bt, ot, eb, hbt, hct⟩ := hr.2.2 (by intro e; rw [e] at hk; simp at hk)
    exact ⟨bt, ot, eb, fun W hW hk => (hW.cell (p := ⟨bt, ot + k, none⟩) hbt).trans (hct k hk)⟩
  have EK : Hid (∀ k (hk : k < ks.length), ((kl ks).map (M.evalG G.m)).take (k + 1) = ((kl ks).map (M.evalG G.m)).take k ++ [M.evalG G.m ks[k].2.1] ∧ M.manyF G.m ((kl ks).take (k + 1)) = if M.manyF G.m ((kl ks).take k) ≠ 0 then M.manyF G.m ((kl ks).take k) else M.standF G.m ks[k].2.1) := fun k hk => by
    have h1 : k < (kl ks).length := by rw [kl_len]; exact hk
    refine ⟨?_, ?_⟩
    · rw [List.take_add_one, List.getElem?_map, List.getElem?_eq_getElem h1, kl_at ks k hk]; rfl
    · rw [List.take_add_one, List.getElem?_eq_getElem h1, kl_at ks k hk]
      exact M.many_snoc _ _
  have EA : Hid (((kl ks).map (M.evalG G.m)).take ks.length = (kl ks).map (M.evalG G.m) ∧ (kl ks).take ks.length = kl ks) := ⟨List.take_of_length_le (by simp [kl]), List.take_of_length_le (by simp [kl])⟩
  have E0 : Hid (M.manyF G.m ((kl ks).take 0) = 0) := rfl
  have PM := hide (fun W p (hW : Below w.heap.size w W) (hf : FO W p G.m) (h30 : ks.length ≤ 30) => fmany_any p G.m b ks cb W hf he (hr.below hW) h30)
  have MV : Hid ((M.manyF G.m (kl ks) = 0 → M.manyV G.m (kl ks) = (kl ks).map (M.evalG G.m)) ∧ (M.manyF G.m (kl ks) ≠ 0 → M.manyV G.m (kl ks) = [])) := ⟨fun q => by unfold M.manyV; rw [if_pos q], fun q => by unfold M.manyV; rw [if_neg q]⟩
  have IN : Hid (∀ ag cg bg dg R W, Rd W ag R → Rd W bg R → Calls Tryd.prog 12 #[.slice ag R.length cg, .slice bg R.length dg] W fun r w' => r = .returned (.bool true) ∧ Below W.heap.size W w') := fun ag cg bg dg R W h1 h2 => (ints_any ag bg R R cg dg W h1 h2).mono fun r w' h => ⟨by rw [h.1]; simp, h.2⟩
  -- the trees
  have LT : Hid (∀ k (hk : k < G.ks.length), ∀ W, Below w.heap.size w W → Calls Tryd.prog 13 #[.slice G.ks[k].1 G.ks[k].2.1.length G.ks[k].2.2] W fun e w' => ∃ a c, e = .returned (.slice a (M.levels G.ks[k].2.1).length c) ∧ RdN w' a (M.levels G.ks[k].2.1) ∧ (∀ p, a = some p → W.heap.size ≤ p.block) ∧ Below W.heap.size W w') := fun k hk W hW =>
    LEV _ _ _ G.f W ((h.below hW).2.2.1 _ (List.getElem_mem hk)) (M.tree_ok (K.trees G.ks[k].2.1 (List.mem_map.2 ⟨_, List.getElem_mem hk, rfl⟩))).1
  have LK : Hid (∀ k (hk : k < G.ks.length), (M.laidK (tl G.ks) (k + 1)).length = (M.laidK (tl G.ks) k).length + G.ks[k].2.1.length ∧ ((tl G.ks).map M.levels).take (k + 1) = ((tl G.ks).map M.levels).take k ++ [M.levels G.ks[k].2.1] ∧ M.levels G.ks[k].2.1 ≠ [] ∧ G.ks[k].2.1.length ≤ 63 ∧ (M.laidK (tl G.ks) k).length ≤ 1000) := fun k hk => by
    have F := (M.tree_ok (K.trees G.ks[k].2.1 (List.mem_map.2 ⟨_, List.getElem_mem hk, rfl⟩))).1
    have h1 : k < (tl G.ks).length := by rw [tl_len]; exact hk
    refine ⟨by rw [M.laidK_len_step, tl_at G.ks hk], ?_, fun e => ?_, F.1, ?_⟩
    · rw [List.take_add_one, List.getElem?_map, List.getElem?_eq_getElem h1]
      simp [tl]
    · have l2 := M.levels_len G.ks[k].2.1
      have := F.2.1
      rw [e, List.length_nil] at l2
      omega
    · have := M.laidK_le (tl G.ks) (show k ≤ (tl G.ks).length by omega)
      have e3 : (M.allN G.m).length = (M.laidK (tl G.ks) (tl G.ks).length).length := rfl
      have := M.allN_le K
      omega
  have TT : Hid (((tl G.ks).map M.levels).take G.ks.length = (tl G.ks).map M.levels ∧ (M.laidK (tl G.ks) G.ks.length).length = (M.allN G.m).length) := ⟨List.take_of_length_le (by rw [List.length_map, tl_len]; exact Nat.le_refl _), by unfold M.allN; rw [tlen]; rfl⟩
  have L00 : Hid ((M.laidK (tl G.ks) 0).length = 0) := rfl
  obtain ⟨bt2, ot2, eta, hbt2, hct2⟩ := h.2.2.2 (by intro e; rw [e] at g0; simp at g0)
  have HT : Hid (∀ W, Below w.heap.size w W → ∀ k (hk : k < G.ks.length), W.cell? ⟨bt2, ot2 + k, none⟩ = some (.slice G.ks[k].1 G.ks[k].2.1.length G.ks[k].2.2)) := fun W hW k hk => (hW.cell (p := ⟨bt2, ot2 + k, none⟩) hbt2).trans (hct2 k hk)
  have HW := hide (fun W (hW : Below w.heap.size w W) => (h.below hW).1)
  have PG := hide (fun W p (hf : FO W p G.m) => fgrove_any p G.m W hf he)
  have PS := hide (fun W p (hf : FO W p G.m) => size_any p G.m W hf)
  have GS := hide (fun (G1 G2 : Gr) W h1 h2 hm => grovesame_any G1 G2 W h1 h2 hm)
  have GC := hide (fun (J : Gr) W (hJ : RdG W J) (hm : J.m = (M.gf G.m, M.gw G.m, M.gs G.m, (M.gt G.m).map M.levels)) => show Calls Tryd.prog 16 #[J.v] W (fun r w' => r = .returned .nilIface ∧ Below W.heap.size W w') from by
    have q := gcheck_any J W hJ
    rw [hm, M.levels_grove he, err_nil rfl] at q
    exact q)
  unfold Gr.v at N2 RS GE ⊢
  unfold Gr.v one2G at N1
  unfold one2G at OM
  rw [eta] at N2 RS GE ⊢
  have B0 : Hid (∀ o, Below w.heap.size w (w.alloc o)) := fun o => (Below.refl _ w).alloc (Nat.le_refl _) _
  have BX : Hid (∀ W, Below (w.alloc (.cells #[.int .i64 G.f, .int .i64 G.w, .slice G.wa G.ws.length G.wc, .slice (some ⟨bt2, ot2, none⟩) G.ks.length G.tc] 25)).heap.size (w.alloc (.cells #[.int .i64 G.f, .int .i64 G.w, .slice G.wa G.ws.length G.wc, .slice (some ⟨bt2, ot2, none⟩) G.ks.length G.tc] 25)) W → Below w.heap.size w W ∧ W.cell? ⟨w.heap.size, 0, none⟩ = some (.int .i64 G.f) ∧ W.cell? ⟨w.heap.size, 1, none⟩ = some (.int .i64 G.w) ∧ W.cell? ⟨w.heap.size, 2, none⟩ = some (.slice G.wa G.ws.length G.wc) ∧ W.cell? ⟨w.heap.size, 3, none⟩ = some (.slice (some ⟨bt2, ot2, none⟩) G.ks.length G.tc)) := fun W hW => ⟨below_on (B0.out _) hW, kept_grove hW⟩
  have BO : Hid (Below (w.alloc (.cells #[.int .i64 G.f, .int .i64 G.w, .slice G.wa G.ws.length G.wc, .slice (some ⟨bt2, ot2, none⟩) G.ks.length G.tc] 25)).heap.size (w.alloc (.cells #[.int .i64 G.f, .int .i64 G.w, .slice G.wa G.ws.length G.wc, .slice (some ⟨bt2, ot2, none⟩) G.ks.length G.tc] 25)) (one2W (w.alloc (.cells #[.int .i64 G.f, .int .i64 G.w, .slice G.wa G.ws.length G.wc, .slice (some ⟨bt2, ot2, none⟩) G.ks.length G.tc] 25)) (w.heap.size + 1))) := ((((Below.refl _ _).alloc (Nat.le_refl _) _).alloc (by simp) _).alloc (by simp) _)
  obtain ⟨i0, hi, hz0, hz1, hz2⟩ := info_parts info3
  have I0 := hide hi
  obtain ⟨j0, hj, hy0, hy1, hy2⟩ := info_parts infoL
  have J0 := hide hj
  have HM : Hid (G.m = (G.f, G.w, G.ws, tl G.ks)) := rfl
  clear h hr hl he K tlen LEV hi hj eta hbt2 hct2
  generalize (kl ks).map (M.evalG G.m) = EL at *
  generalize hMF : M.manyF G.m (kl ks) = MF at *
  have HMF := hide hMF
  clear hMF
  generalize M.manyV G.m (kl ks) = MVL at *
  go_enter Tryd.func3, Tryd.ntmps3
  go_wp2_with (first
    | (go_at_call 4; have hone := g2; refine (N2.out _ k2).mono ?_; rintro r w4 ⟨p, rfl, hf4, h4⟩; have HF := hide hf4; have g4 := below_on g2 h4; clear hf4)
    | (go_at_call 6; refine (S1.out _ _ HF2.out).mono ?_; rintro r w3 ⟨rfl, e3'⟩; subst w3)
    | (go_at_call 5; refine (V1.out _ _ HF1.out).mono ?_; rintro r w2 ⟨rfl, h2⟩; have g2 := below_on g1 h2; have HF2 := hide (HF1.out.below h2); have q2 := BX.out _ g2; have k2 := q2.1; have c0 := q2.2.1; have c1 := q2.2.2.1; have c2 := q2.2.2.2.1; have c3 := q2.2.2.2.2; clear q2)
    | (go_at_call 4; refine (N1.out (w.alloc (.cells #[.int .i64 G.f, .int .i64 G.w, .slice G.wa G.ws.length G.wc, .slice (some ⟨bt2, ot2, none⟩) G.ks.length G.tc] 25)) (w.heap.size + 1) (by simp)).mono ?_; rintro r w1 ⟨p1, rfl, hf1, h1⟩; have HF1 := hide hf1; have g1 := below_on BO.out h1; clear hf1))
  have G4 := hide g4
  clear c0 c1 c2 c3 HF1 HF2 N1 V1 S1 N2 OM BO g1 g2 g4 h1 h2 h4 k2
  go_loopw [12, 13, 14] (fun u v i wr => ∃ (k : Nat) (X : List Int) (F : Int), k ≤ ks.length ∧ k ≤ 30 ∧ i = .int .i64 k ∧ v = .int .i64 F ∧ Hid (X = EL.take k ∧ X.length ≤ k ∧ F = M.manyF G.m ((kl ks).take k)) ∧ wr.ownsRow w4.heap.size 3 1 u X.length (X.map (Value.int .i64)) ∧ Hid (Below w4.heap.size w4 wr)) (fun _ _ i _ => 30 - (intOf i).toNat)
  case atStart => exact ⟨0, [], 0, Nat.zero_le _, Nat.zero_le _, rfl, rfl, ⟨rfl, Nat.le_refl _, E0.out.symm⟩, World.ownsRow_nil _ _ _ _, Below.refl _ _⟩
  case round =>
    obtain ⟨k, X, F, hk, hk30, rfl, rfl, HX, hown, KK⟩ := hrel
    obtain ⟨ua, uc, rfl, RX, _⟩ := own_rd hown
    have HO := hide hown
    clear hown RX
    have gr4 : Hid (Below (w.alloc (.cells #[.int .i64 G.f, .int .i64 G.w, .slice G.wa G.ws.length G.wc, .slice (some ⟨bt2, ot2, none⟩) G.ks.length G.tc] 25)).heap.size (w.alloc (.cells #[.int .i64 G.f, .int .i64 G.w, .slice G.wa G.ws.length G.wc, .slice (some ⟨bt2, ot2, none⟩) G.ks.length G.tc] 25)) wr) := below_on G4.out KK.out
    by_cases hc : k < ks.length ∧ k < 30
    · obtain ⟨hlt, h30⟩ := hc
      obtain ⟨bt, ot, eb, hct⟩ := RK.out k hlt
      subst eb
      have UPW : Hid (∀ W, Below wr.heap.size wr W → Below w.heap.size w W ∧ (W.cell? ⟨w.heap.size, 0, none⟩ = some (.int .i64 G.f) ∧ W.cell? ⟨w.heap.size, 1, none⟩ = some (.int .i64 G.w) ∧ W.cell? ⟨w.heap.size, 2, none⟩ = some (.slice G.wa G.ws.length G.wc) ∧ W.cell? ⟨w.heap.size, 3, none⟩ = some (.slice (some ⟨bt2, ot2, none⟩) G.ks.length G.tc)) ∧ W.cell? ⟨bt, ot + k, none⟩ = some (.slice ks[k].1 ks[k].2.1.length ks[k].2.2)) := fun W hW => by
        have q := BX.out W (below_on gr4.out hW)
        exact ⟨q.1, q.2, hct W q.1 hlt⟩
      have P1 := hide (PE.out wr p (UPW.out wr (Below.refl _ _)).1 (HF.out.below KK.out) k hlt)
      have P2 := hide (fun W (hW : Below wr.heap.size wr W) => RS.out W (UPW.out W hW).1 k hlt)
      have P3 := hide (fun W (hW : Below wr.heap.size wr W) => GE.out W (UPW.out W hW).1 k hlt)
      have P4 := hide (fun W (hW : Below wr.heap.size wr W) => ER.out (M.standF G.m ks[k].2.1) W (UPW.out W hW).1)
      obtain ⟨ek1, ek2⟩ := EK.out k hlt
      rw [← HX.out.1] at ek1
      rw [← HX.out.2.2] at ek2
      have XL := HX.out.2.1
      have EK1 := hide ek1
      have EK2 := hide ek2
      have kz1 : decide ((k : Int) < (ks.length : Int)) = true := decide_eq_true (by omega)
      have kz2 : decide ((k : Int) < 30) = true := decide_eq_true (by omega)
      have kz : (k : Int) < (ks.length : Int) := by omega
      have ksz := KK.out.size
      obtain ⟨_, ⟨x0, x1, x2, x3⟩, xr⟩ := UPW.out wr (Below.refl _ _)
      clear RK EK EA E0 PM MV IN LT LK TT L00 HT HW PG PS GS GC PE RS GE ER HX ek1 ek2 hct HM HMF
      generalize M.evalG G.m ks[k].2.1 = ev at *
      generalize M.standF G.m ks[k].2.1 = sk at *
      generalize ks[k].2.1.length = xl at *
      generalize ks[k].2.2 = xc at *
      generalize ks[k].1 = xa at *
      go_upto_region 17 with (go_at_call 5; refine P1.out.mono ?_; rintro r w5 ⟨rfl, h5⟩; have H5 := hide h5)
      obtain ⟨_, ⟨y0, y1, y2, y3⟩, yr⟩ := UPW.out w5 H5.out
      clear x0 x1 x2 x3 xr P1 h5
      go_cut [17] from 93 to 98 (fun v wx => v = .int .i64 sk ∧ Hid (Below wr.heap.size wr wx))
      case first =>
        go_region_with (go_at_call 9; refine (P2.out _ H5.out.drew).mono ?_; rintro r w6 ⟨rfl, h6⟩; have H6 := hide (below_on H5.out.drew h6))
        all_goals (
          go_wp2
          go_meet
          case rel => exact ⟨rfl, H6⟩)
      case rest =>
        obtain ⟨rfl, H6⟩ := hcut
        clear y0 y1 y2 y3 yr
        obtain ⟨_, ⟨y0, y1, y2, y3⟩, yr⟩ := UPW.out wc H6.out
        go_upto_region 18 with fail
        go_cut [18, 19] from 99 to 107 (fun u v wx => u = .int .i64 ev ∧ v = errV sk ∧ Hid (Below wr.heap.size wr wx))
        case first =>
          go_region_with (go_at_call 10; refine (P3.out _ H6.out.drew).mono ?_; rintro r w7 ⟨rfl, h7⟩; have H7 := hide (below_on H6.out.drew h7))
          all_goals (
            go_wp2
            go_meet
            case rel => exact ⟨rfl, rfl, H7⟩)
        case rest =>
          obtain ⟨rfl, rfl, H7⟩ := hcut
          clear y0 y1 y2 y3 yr P2 P3 H5 H6 UPW
          by_cases hs : sk = 0
          · rw [err_nil hs] at P4
            rw [err_nil hs]
            subst hs
            go_wp2_with (first
              | (go_at_call 7; refine (P4.out _ H7.out).mono ?_; rintro r w8 ⟨rfl, h8⟩; have H8 := hide (below_on H7.out h8); have HO8 := hide (own_up HO.out H8.out); have sz8 : w4.heap.size ≤ w8.heap.size := Nat.le_trans ksz H8.out.size)
              | (at_builtin; refine wpList_append_lies _ rfl (.tmp 132) (.tmp 134) 22 rfl w4.heap.size 3 i0 (.int .i64 0) 1 8 Tryd.underlying22 I0.out hz0 hz1 hz2 rfl (by omega) (.slice ua X.length uc) X.length (X.map (Value.int .i64)) rfl (HO8.out.alloc _) ⟨w8.heap.size, 0, none⟩ 1 1 [.int .i64 ev] rfl rfl (World.news_of_block (heap_alloc_new _ _)) (by simp [Value.oneCell']) (by omega) (by unfold maxLen; omega) (by omega) (by simp; omega) (w8.heap.size + 1) (by simp) ?_))
            intro g9 c9 w9 hov9 hgrow9 hat9 hlt9
            have HB9 : Hid (Below w4.heap.size w4 w9) := (((KK.out.trans (H8.out.mono ksz))).alloc sz8 _).grown hgrow9 (by simp; omega) (fun k hk => (HO8.out.lt k hk).1)
            have HO9 : Hid (w9.ownsRow w4.heap.size 3 1 (.slice (some ⟨g9, 0, none⟩) (X.length + 1) c9) (X ++ [ev]).length ((X ++ [ev]).map (Value.int .i64))) := by
              unfold Hid; rw [List.map_append, List.length_append]; exact hov9
            have XN : Hid (X ++ [ev] = EL.take (k + 1) ∧ (X ++ [ev]).length ≤ k + 1 ∧ F = M.manyF G.m ((kl ks).take (k + 1))) := ⟨EK1.out.symm, by rw [List.length_append]; simp; omega, by rw [EK2.out]; by_cases q : F ≠ 0; (rw [if_pos q]); (rw [if_neg q]; exact Decidable.not_not.1 q)⟩
            clear hov9 hgrow9 hat9
            go_wp2
            go_roundw
            case rel => exact ⟨k + 1, X ++ [ev], F, by omega, by omega, by go_num, rfl, XN, HO9.out, HB9⟩
            case measure => simp [intOf]; omega
          · have HS := hide hs
            have t1 : (sk == 0) = false := by rw [beq_eq_false_iff_ne]; exact hs
            have t2 : (sk != 0) = true := by rw [bne_iff_ne]; exact hs
            rw [err_some hs] at P4
            rw [err_some hs]
            by_cases hF : F = 0
            · subst hF
              clear hs
              go_wp2_with (first
                | (go_at_call 7; refine (P4.out _ H7.out).mono ?_; rintro r w8 ⟨rfl, h8⟩; have H8 := hide (below_on H7.out h8); have HO8 := hide (own_up HO.out H8.out); have sz8 : w4.heap.size ≤ w8.heap.size := Nat.le_trans ksz H8.out.size)
                | (at_builtin; refine wpList_append_lies _ rfl (.tmp 132) (.tmp 134) 22 rfl w4.heap.size 3 i0 (.int .i64 0) 1 8 Tryd.underlying22 I0.out hz0 hz1 hz2 rfl (by omega) (.slice ua X.length uc) X.length (X.map (Value.int .i64)) rfl (HO8.out.alloc _) ⟨w8.heap.size, 0, none⟩ 1 1 [.int .i64 ev] rfl rfl (World.news_of_block (heap_alloc_new _ _)) (by simp [Value.oneCell']) (by omega) (by unfold maxLen; omega) (by omega) (by simp; omega) (w8.heap.size + 1) (by simp) ?_))
              intro g9 c9 w9 hov9 hgrow9 hat9 hlt9
              have HB9 : Hid (Below w4.heap.size w4 w9) := (((KK.out.trans (H8.out.mono ksz))).alloc sz8 _).grown hgrow9 (by simp; omega) (fun k hk => (HO8.out.lt k hk).1)
              have HO9 : Hid (w9.ownsRow w4.heap.size 3 1 (.slice (some ⟨g9, 0, none⟩) (X.length + 1) c9) (X ++ [ev]).length ((X ++ [ev]).map (Value.int .i64))) := by
                unfold Hid; rw [List.map_append, List.length_append]; exact hov9
              have XN : Hid (X ++ [ev] = EL.take (k + 1) ∧ (X ++ [ev]).length ≤ k + 1 ∧ sk = M.manyF G.m ((kl ks).take (k + 1))) := ⟨EK1.out.symm, by rw [List.length_append]; simp; omega, by rw [EK2.out, if_neg (by simp)]⟩
              clear hov9 hgrow9 hat9
              go_wp2
              go_roundw
              case rel => exact ⟨k + 1, X ++ [ev], sk, by omega, by omega, by go_num, rfl, XN, HO9.out, HB9⟩
              case measure => simp [intOf]; omega
            · have t3 : (F == 0) = false := by rw [beq_eq_false_iff_ne]; exact hF
              have HFN := hide hF
              clear hs hF
              go_wp2_with (first
                | (go_at_call 7; refine (P4.out _ H7.out).mono ?_; rintro r w8 ⟨rfl, h8⟩; have H8 := hide (below_on H7.out h8); have HO8 := hide (own_up HO.out H8.out); have sz8 : w4.heap.size ≤ w8.heap.size := Nat.le_trans ksz H8.out.size)
                | (at_builtin; refine wpList_append_lies _ rfl (.tmp 132) (.tmp 134) 22 rfl w4.heap.size 3 i0 (.int .i64 0) 1 8 Tryd.underlying22 I0.out hz0 hz1 hz2 rfl (by omega) (.slice ua X.length uc) X.length (X.map (Value.int .i64)) rfl (HO8.out.alloc _) ⟨w8.heap.size, 0, none⟩ 1 1 [.int .i64 ev] rfl rfl (World.news_of_block (heap_alloc_new _ _)) (by simp [Value.oneCell']) (by omega) (by unfold maxLen; omega) (by omega) (by simp; omega) (w8.heap.size + 1) (by simp) ?_))
              intro g9 c9 w9 hov9 hgrow9 hat9 hlt9
              have HB9 : Hid (Below w4.heap.size w4 w9) := (((KK.out.trans (H8.out.mono ksz))).alloc sz8 _).grown hgrow9 (by simp; omega) (fun k hk => (HO8.out.lt k hk).1)
              have HO9 : Hid (w9.ownsRow w4.heap.size 3 1 (.slice (some ⟨g9, 0, none⟩) (X.length + 1) c9) (X ++ [ev]).length ((X ++ [ev]).map (Value.int .i64))) := by
                unfold Hid; rw [List.map_append, List.length_append]; exact hov9
              have XN : Hid (X ++ [ev] = EL.take (k + 1) ∧ (X ++ [ev]).length ≤ k + 1 ∧ F = M.manyF G.m ((kl ks).take (k + 1))) := ⟨EK1.out.symm, by rw [List.length_append]; simp; omega, by rw [EK2.out, if_pos HFN.out]⟩
              clear hov9 hgrow9 hat9
              go_wp2
              go_roundw
              case rel => exact ⟨k + 1, X ++ [ev], F, by omega, by omega, by go_num, rfl, XN, HO9.out, HB9⟩
              case measure => simp [intOf]; omega
    · have kwr := (BX.out wr gr4.out).1
      by_cases h30 : 30 < ks.length
      · have kz1 : decide ((k : Int) < (ks.length : Int)) = true := decide_eq_true (by omega)
        have kz2 : decide ((k : Int) < 30) = false := decide_eq_false (by omega)
        have kz3 : decide (30 < (ks.length : Int)) = true := decide_eq_true (by omega)
        have kp1 : (k : Int) < (ks.length : Int) := by omega
        have kp2 : ¬ ((k : Int) < 30) := by omega
        have kp3 : (30 : Int) < (ks.length : Int) := by omega
        have KWR := hide kwr
        clear RK EK EA E0 PM MV IN LT LK TT L00 HT HW PG PS GS GC PE RS GE ER HX HM HMF hc h30 kwr gr4
        go_wp2
        go_ret
        exact ⟨rfl, KWR.out⟩
      · have kz1 : decide ((k : Int) < (ks.length : Int)) = false := decide_eq_false (by omega)
        have kz3 : decide (30 < (ks.length : Int)) = false := decide_eq_false (by omega)
        have kp1 : ¬ ((k : Int) < (ks.length : Int)) := by omega
        have kp3 : ¬ ((30 : Int) < (ks.length : Int)) := by omega
        have hke : k = ks.length := by omega
        have XE : Hid (X = EL ∧ F = MF) := by
          refine ⟨by rw [HX.out.1, hke]; exact EA.out.1, ?_⟩
          rw [HX.out.2.2, hke, EA.out.2]
          exact HMF.out
        have P1 := hide (PM.out wr p kwr (HF.out.below KK.out) (by omega))
        have P2 := hide (fun W (hW : Below wr.heap.size wr W) => ER.out MF W (below_on kwr hW))
        have HFW := hide (HF.out.below KK.out)
        have HO2 : Hid (∀ W, Below wr.heap.size wr W → Rd W ua X) := fun W hW => by
          obtain ⟨a, c, e, hrd, _⟩ := own_rd (own_up HO.out hW)
          cases e
          exact hrd
        have fe : F = MF := XE.out.2
        subst fe
        clear RK EK EA E0 PM PE RS GE HX HMF hc h30 hke HO ER
        go_upto_region 29 with (first
          | (go_at_call 7; refine (P2.out _ h6).mono ?_; rintro r w7 ⟨rfl, h7⟩; have H7 := hide (below_on h6 h7); have HR7 := hide (HR6.out.below h7))
          | (go_at_call 11; refine P1.out.mono ?_; rintro r w6 ⟨ag, cg, rfl, hr6, h6⟩; have HR6 := hide hr6; clear hr6))
        clear P1 P2 h6 h7 HR6
        go_cut [149] from 148 to 149 (fun v wx => ∃ q : Bool, v = .bool q ∧ Hid (q = decide (F ≠ 0)) ∧ wx = w7)
        case first =>
          by_cases hz : F = 0
          · have t : (F != 0) = false := by rw [bne_eq_false_iff_eq]; exact hz
            have E : Hid (false = decide (F ≠ 0)) := (decide_eq_false (by simp [hz])).symm
            clear hz
            go_wp2
            go_meet
            case rel => exact ⟨false, rfl, E, rfl⟩
          · have t : (F != 0) = true := by rw [bne_iff_ne]; exact hz
            have E : Hid (true = decide (F ≠ 0)) := (decide_eq_true hz).symm
            clear hz
            go_wp2
            go_meet
            case rel => exact ⟨true, rfl, E, rfl⟩
        case rest =>
          obtain ⟨q, rfl, HQ, rfl⟩ := hcut
          go_upto_if 149 with fail
          go_cut [12] from 150 to 152 (fun v wx => (∃ aa ac, v = .slice aa MVL.length ac ∧ Hid (Rd wx aa MVL)) ∧ wx = wc)
          case first =>
            cases q with
            | false =>
              have hz : F = 0 := by have := of_decide_eq_false HQ.out.symm; exact Decidable.not_not.1 this
              have E : Hid (MVL = X) := (MV.out.1 hz).trans XE.out.1.symm
              have HRX := hide (HO2.out _ H7.out)
              clear hz HQ MV PG PS GS GC HW BX IN
              go_wp2
              go_meet
              case rel => exact ⟨⟨ua, uc, by rw [E.out], by rw [E.out]; exact HRX.out⟩, rfl⟩
            | true =>
              have hz : F ≠ 0 := of_decide_eq_true HQ.out.symm
              have E : Hid (MVL = []) := MV.out.2 hz
              clear hz HQ MV PG PS GS GC HW BX IN HO2
              go_wp2
              go_meet
              case rel => exact ⟨⟨none, 0, by rw [E.out]; rfl, by rw [E.out]; exact ⟨Nat.zero_le _, fun h => absurd rfl h⟩⟩, rfl⟩
          case rest =>
            obtain ⟨⟨aa, ac, rfl, HRA⟩, rfl⟩ := hcut
            clear HQ MV HO2
            go_upto_region 33 with (go_at_call 12; refine (IN.out ag cg aa ac MVL _ HR7.out HRA.out).mono ?_; rintro r w8 ⟨rfl, h8⟩; have H8 := hide (below_on H7.out h8))
            have gr8 : Hid (Below (w.alloc (.cells #[.int .i64 G.f, .int .i64 G.w, .slice G.wa G.ws.length G.wc, .slice (some ⟨bt2, ot2, none⟩) G.ks.length G.tc] 25)).heap.size (w.alloc (.cells #[.int .i64 G.f, .int .i64 G.w, .slice G.wa G.ws.length G.wc, .slice (some ⟨bt2, ot2, none⟩) G.ks.length G.tc] 25)) w8) := below_on gr4.out H8.out
            have HF8 := hide (HFW.out.below H8.out)
            obtain ⟨_, x0, x1, x2, x3⟩ := BX.out w8 gr8.out
            have ba8 : Hid (∀ o, Below (w.alloc (.cells #[.int .i64 G.f, .int .i64 G.w, .slice G.wa G.ws.length G.wc, .slice (some ⟨bt2, ot2, none⟩) G.ks.length G.tc] 25)).heap.size (w.alloc (.cells #[.int .i64 G.f, .int .i64 G.w, .slice G.wa G.ws.length G.wc, .slice (some ⟨bt2, ot2, none⟩) G.ks.length G.tc] 25)) (w8.alloc o)) := fun o => gr8.out.alloc gr8.out.size o
            have xa0 : ∀ o, (w8.alloc o).cell? ⟨w.heap.size, 0, none⟩ = some (.int .i64 G.f) := fun o => (BX.out _ (ba8.out o)).2.1
            have xa1 : ∀ o, (w8.alloc o).cell? ⟨w.heap.size, 1, none⟩ = some (.int .i64 G.w) := fun o => (BX.out _ (ba8.out o)).2.2.1
            have xa2 : ∀ o, (w8.alloc o).cell? ⟨w.heap.size, 2, none⟩ = some (.slice G.wa G.ws.length G.wc) := fun o => (BX.out _ (ba8.out o)).2.2.2.1
            clear h8 H7 HR7 HRA IN gr4 HFW XE kwr
            go_wp2
            obtain ⟨wx, hwx⟩ : ∃ W, W = w8.alloc (.cells #[.int .i64 G.f, .int .i64 G.w, .slice G.wa G.ws.length G.wc, .slice none 0 0] 25) := ⟨_, rfl⟩
            have GW0 := hide (gw_begin wx hwx)
            have bx8 : Hid (Below w8.heap.size w8 wx) := by unfold Hid; rw [hwx]; exact (Below.refl _ _).alloc (Nat.le_refl _) _
            rw [← hwx]
            clear hwx x0 x1 x2 x3 xa0 xa1 xa2 ba8
            have KB : Hid (∀ W, wx.grownBy W (some w8.heap.size) → Below (w.alloc (.cells #[.int .i64 G.f, .int .i64 G.w, .slice G.wa G.ws.length G.wc, .slice (some ⟨bt2, ot2, none⟩) G.ks.length G.tc] 25)).heap.size (w.alloc (.cells #[.int .i64 G.f, .int .i64 G.w, .slice G.wa G.ws.length G.wc, .slice (some ⟨bt2, ot2, none⟩) G.ks.length G.tc] 25)) W ∧ Below w8.heap.size w8 W) := fun W hW => by
              have s8 := bx8.out.size
              have q8 : Below w8.heap.size w8 W := bx8.out.grown hW s8 (fun k hk => by cases hk; exact Nat.le_refl _)
              exact ⟨below_on gr8.out q8, q8⟩
            go_loopw [25, 27] (fun sz i wr => ∃ (k n : Nat) (C : List Tc) (x : Value), k ≤ G.ks.length ∧ sz = .int .i64 (n : Nat) ∧ i = .int .i64 k ∧ Hid (n = (M.laidK (tl G.ks) k).length ∧ tl C = ((tl G.ks).map M.levels).take k ∧ C.length = k) ∧ Hid (Gw wx wr w8.heap.size G.f G.w (.slice G.wa G.ws.length G.wc) C x)) (fun _ i _ => G.ks.length - (intOf i).toNat)
            case atStart => exact ⟨0, 0, [], .slice none 0 0, Nat.zero_le _, rfl, rfl, ⟨L00.out.symm, rfl, rfl⟩, GW0⟩
            case round =>
              obtain ⟨k2, n, C, x, hk2, rfl, rfl, HC, GW⟩ := hrel
              have gb := (KB.out wr GW.out.gr).1
              obtain ⟨kw, z0, z1, z2, z3⟩ := BX.out wr gb
              by_cases hlt : k2 < G.ks.length
              · obtain ⟨l1, l2, l3, l4, l5⟩ := LK.out k2 hlt
                have ct := HT.out wr kw k2 hlt
                have P1 := hide (LT.out k2 hlt wr kw)
                have kz : (k2 : Int) < (G.ks.length : Int) := by omega
                have n1 : n ≤ 1000 := by rw [HC.out.1]; exact l5
                have NN : Hid (n + G.ks[k2].2.1.length = (M.laidK (tl G.ks) (k2 + 1)).length) := by unfold Hid; rw [l1, HC.out.1]
                have TC : Hid (∀ a cp, tl (C ++ [(a, M.levels G.ks[k2].2.1, cp)]) = ((tl G.ks).map M.levels).take (k2 + 1) ∧ (C ++ [(a, M.levels G.ks[k2].2.1, cp)]).length = k2 + 1) := fun a cp => by
                  rw [l2, ← HC.out.2.1]
                  refine ⟨by simp [tl], by rw [List.length_append, HC.out.2.2]; rfl⟩
                have cl : C.length ≤ 12 := by have := HC.out.2.2; omega
                have UP : Hid (∀ W, Below wr.heap.size wr W → Gw wx W w8.heap.size G.f G.w (.slice G.wa G.ws.length G.wc) C x ∧ W.cell? ⟨w8.heap.size, 3, none⟩ = some x ∧ W.ownsRow wx.heap.size 29 1 x C.length (C.map tV) ∧ wx.heap.size ≤ W.heap.size) := fun W hW => ⟨GW.out.up hW, (GW.out.up hW).c3, (GW.out.up hW).ox, (GW.out.up hW).gr.size⟩
                have MO : Hid (∀ (w5 : World) (o : Obj) a cp g2 c2 w6, Below wr.heap.size wr w5 → RdN w5 a (M.levels G.ks[k2].2.1) → (∀ p, a = some p → wr.heap.size ≤ p.block) → (w5.alloc o).grownBy w6 x.ownBlock → w6.ownsRow wx.heap.size 29 1 (.slice (some ⟨g2, 0, none⟩) (C.length + 1) c2) (C.length + 1) (C.map tV ++ [.slice a (M.levels G.ks[k2].2.1).length cp]) → (x.ownBlock = some g2 ∨ g2 = w5.heap.size + 1) → (w6.cell? ⟨w8.heap.size, 3, none⟩ = some x ∧ w6.frozen? ⟨w8.heap.size, 3, none⟩ = false) ∧ Hid (Gw wx (w6.setCell ⟨w8.heap.size, 3, none⟩ (.slice (some ⟨g2, 0, none⟩) (C.length + 1) c2)) w8.heap.size G.f G.w (.slice G.wa G.ws.length G.wc) (C ++ [(a, M.levels G.ks[k2].2.1, cp)]) (.slice (some ⟨g2, 0, none⟩) (C.length + 1) c2))) := fun w5 o a cp g2 c2 w6 hb hr ha hg ho hor => by
                  have q := (UP.out w5 hb).1
                  have qs := q.gr.size
                  have ql := q.lt
                  have gf' : w6.heap[w8.heap.size]? = w5.heap[w8.heap.size]? := (hg.block _ (by simp; omega) (fun e => by have := (q.ox.lt _ e.symm).1; omega)).trans (Below.heap_alloc _ _ _ (by omega))
                  refine ⟨⟨(World.cell?_of_block (a := ⟨w8.heap.size, 3, none⟩) gf').trans q.c3, (World.frozen?_of_block (a := ⟨w8.heap.size, 3, none⟩) gf').trans (q.fr 3)⟩, ?_⟩
                  exact q.more (w0 := wr) (fun z hz => (GW.out.ox.lt z hz).2) GW.out.gr.size hb.size l3 hr ha hg ho hor
                clear HT LT LK TT L00 HW PG PS GS GC HC GW l1 l2 l3 l5
                generalize M.levels G.ks[k2].2.1 = LV at *
                generalize G.ks[k2].2.1.length = tn at *
                generalize G.ks[k2].2.2 = tcc at *
                generalize G.ks[k2].1 = ta at *
                go_wp2_with (first
                  | (go_at_call 13; refine P1.out.mono ?_; rintro r w5 ⟨av, cv, rfl, hr5, ha5, h5⟩; have HR5 := hide hr5; have HA5 := hide ha5; have U5 := hide (UP.out w5 h5); have c5 := U5.out.2.1; have U6 := hide (UP.out _ (h5.alloc h5.size (.cells #[.slice av LV.length cv] 29))); have c6 := U6.out.2.1; clear hr5 ha5)
                  | (at_builtin; refine wpList_append_lies _ rfl (.tmp 184) (.tmp 186) 23 rfl wx.heap.size 29 j0 (.slice none 0 0) 1 24 Tryd.underlying23 J0.out hy0 hy1 hy2 rfl (by decide) x C.length (C.map tV) rfl U6.out.2.2.1 ⟨w5.heap.size, 0, none⟩ 1 1 [.slice av LV.length cv] rfl rfl (World.news_of_block (heap_alloc_new _ _)) (by intro u hu; simp at hu; subst hu; rfl) (by decide) (by unfold maxLen; omega) (by omega) U6.out.2.2.2 (w5.heap.size + 1) (by simp) ?_; intro g6 c6' w6 hown6 hgrow6 hor6 hlt6; have MM := MO.out w5 _ av cv g6 c6' w6 h5 HR5.out HA5.out hgrow6 hown6 hor6; have v3 := MM.1.1; have vf := MM.1.2; have NG := MM.2; clear MM hown6 hgrow6 hor6))
                go_roundw
                case rel => exact ⟨k2 + 1, n + tn, C ++ [(av, LV, cv)], _, by omega, by go_num, by go_num, ⟨NN.out, (TC.out av cv).1, (TC.out av cv).2⟩, NG⟩
                case measure => simp [intOf]; omega
              · have hke : k2 = G.ks.length := by omega
                have kz : ¬ ((k2 : Int) < (G.ks.length : Int)) := by omega
                have hn : n = (M.allN G.m).length := by rw [HC.out.1, hke]; exact TT.out.2
                have hC : 0 < C.length := by have := HC.out.2.2; omega
                have hC12 : C.length ≤ 12 := by have := HC.out.2.2; omega
                obtain ⟨gx, cx, ex, hRD⟩ := gw_rdg GW.out (HW.out wr kw) hC hC12
                have HCM : Hid (tl C = (tl G.ks).map M.levels) := by unfold Hid; rw [HC.out.2.1, hke]; exact TT.out.1
                subst ex
                subst hn
                have HFR := hide (HF8.out.below (KB.out wr GW.out.gr).2)
                have HRD := hide hRD
                have CW : Hid (∀ W, Below wr.heap.size wr W → W.cell? ⟨w8.heap.size, 0, none⟩ = some (.int .i64 G.f) ∧ W.cell? ⟨w8.heap.size, 1, none⟩ = some (.int .i64 G.w) ∧ W.cell? ⟨w8.heap.size, 2, none⟩ = some (.slice G.wa G.ws.length G.wc) ∧ W.cell? ⟨w8.heap.size, 3, none⟩ = some (.slice (some ⟨gx, 0, none⟩) C.length cx)) := fun W hW => ⟨(GW.out.up hW).c0, (GW.out.up hW).c1, (GW.out.up hW).c2, (GW.out.up hW).c3⟩
                have PG1 := hide (fun W (hW : Below wr.heap.size wr W) => PG.out W p (HFR.out.below hW))
                have PS1 := hide (fun W (hW : Below wr.heap.size wr W) => PS.out W p (HFR.out.below hW))
                have SM : Hid (∀ (J : Gr) W, Below wr.heap.size wr W → RdG W J → J.m = (M.gf G.m, M.gw G.m, M.gs G.m, (M.gt G.m).map M.levels) → Calls Tryd.prog 14 #[.agg #[.int .i64 J.f, .int .i64 J.w, .slice J.wa J.ws.length J.wc, .slice J.ta J.ks.length J.tc], .agg #[.int .i64 G.f, .int .i64 G.w, .slice G.wa G.ws.length G.wc, .slice (some ⟨gx, 0, none⟩) C.length cx]] W fun r w' => r = .returned (.bool true) ∧ Below W.heap.size W w') := fun J W hW hJ hm => by
                  refine GS.out J ⟨G.f, G.w, G.wa, G.ws, G.wc, some ⟨gx, 0, none⟩, C, cx⟩ W hJ (HRD.out.below hW) ?_
                  rw [hm]
                  show _ = (G.f, G.w, G.ws, tl C)
                  rw [HCM.out]
                  rfl
                have KW := hide kw
                unfold Gr.v at PG1 GC
                clear HT LT LK TT L00 HW PG PS GS HC GW hRD hke HCM kw z0 z1 z2
                go_upto_region 43 with fail
                go_cut [29] from 189 to 192 (fun v wx => v = .bool true ∧ Hid (Below wr.heap.size wr wx))
                case first =>
                  obtain ⟨c0, c1, c2, c3⟩ := CW.out wr (Below.refl _ _)
                  have BD : Hid (Below wr.heap.size wr wr.drew) := (Below.refl _ _).drew
                  go_region_with (first
                    | (go_at_call 14; refine (SM.out J _ H9.out HJ.out HJM.out).mono ?_; rintro r w10 ⟨rfl, h10⟩; have H10 := hide (below_on H9.out h10))
                    | (go_at_call 15; refine (PG1.out _ BD.out).mono ?_; rintro r w9 ⟨J, rfl, hJm, hJr, h9⟩; have HJ := hide hJr; have HJM := hide hJm; have H9 := hide (below_on BD.out h9); obtain ⟨d0, d1, d2, d3⟩ := CW.out w9 H9.out; clear hJm hJr))
                  all_goals (
                    go_wp2
                    go_meet
                    case rel => exact ⟨rfl, H10⟩)
                case rest =>
                  obtain ⟨rfl, H10⟩ := hcut
                  clear CW SM
                  go_wp2_with (first
                    | (go_at_call 16; refine (GC.out J _ HJ.out HJM.out).mono ?_; rintro r w13 ⟨rfl, h13⟩; have H13 := hide (below_on H12.out h13))
                    | (go_at_call 15; refine (PG1.out _ H10.out).mono ?_; rintro r w12 ⟨J, rfl, hJm, hJr, h12⟩; have HJ := hide hJr; have HJM := hide hJm; have H12 := hide (below_on H10.out h12); clear hJm hJr)
                    | (go_at_call 6; refine (PS1.out _ H10.out).mono ?_; rintro r w11 ⟨rfl, e11⟩; subst w11))
                  go_ret
                  exact ⟨rfl, below_on KW.out H13.out⟩

end Go.Proofs.YtandimbpealcladDoor

namespace Go.Proofs.YtandimbpealcladDoor
open Go.ChangeShapes Go.WideShapes Go.ChangeAt Go.RowKit Go.Lib
set_option linter.unusedVariables false

theorem ftells_all (G : Gr) (b : Option Addr) (ks : List Kc) (cb : Nat) (w : World) (hg : RdG w G) (hr : RdK w b ks) (hl : Lays w) :
    Calls Tryd.prog 3 #[G.v, .slice b ks.length cb] w fun e w' => e = .returned (.bool true) ∧ Below w.heap.size w w' := by
  by_cases he : M.groveF G.m = 0
  · exact flat_good (fun a0 ts cap m W h F => rlevels_any a0 ts cap m W h F) G b ks cb w hg hr hl he
  · exact flat_bad G b ks cb w hg hl he

end Go.Proofs.YtandimbpealcladDoor
