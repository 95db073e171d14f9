/-
  What package path's Reach answers, for every list of nodes and every number.
-/
import Derived.Test.YthbeoaninipadafPRegion
import Derived.Test.YthbeoaninipadafTCheck
namespace Go.Proofs.Ythbeoaninipadaf
open Go.ChangeShapes Go.WideShapes Go.ChangeAt Go.RowKit Go.Lib
set_option linter.unusedVariables false

theorem own_far {w : World} {base n e size p o : Nat} {v x : Value} {l : List Value} (h : w.ownsRow base e size v n l) (hp : p < base) : (w.setCell ⟨p, o, none⟩ x).ownsRow base e size v n l := by
  refine ⟨h.1, ?_⟩
  rcases h.2 with h0 | ⟨g, cap, cur, hv, h1, h2, h3⟩
  · exact .inl h0
  · refine .inr ⟨g, cap, cur, hv, h1, ?_, h3⟩
    rw [← h2]
    have : ¬ p = g := by omega
    simp [World.setCell, Array.getElem?_modify, this]

/-- what the closure finds: the tree, the number of features and the leaves so far -/
structure Sees (a : Option Addr) (ts : List M.Nd) (ca m : Nat) (w : World) (B bt bf br : Nat) (L : List Int) (W : World) (v : Value) : Prop where
  ct : W.cell? ⟨bt, 0, none⟩ = some (.slice a ts.length ca)
  cf : W.cell? ⟨bf, 0, none⟩ = some (.int .i64 (m : Nat))
  cr : W.cell? ⟨br, 0, none⟩ = some v
  fr : W.frozen? ⟨br, 0, none⟩ = false
  own : W.ownsRow B 3 1 v L.length (L.map (Value.int .i64))
  size : B ≤ W.heap.size
  below : Below w.heap.size w W
theorem Sees.up {a : Option Addr} {ts : List M.Nd} {ca m : Nat} {w : World} {B bt bf br : Nat} {L : List Int} {W W' : World} {v : Value} (h : Sees a ts ca m w B bt bf br L W v) (ht : bt < B) (hf : bf < B) (hr : br < B) (hb : Below W.heap.size W W') : Sees a ts ca m w B bt bf br L W' v := by
  have hs := h.size
  refine ⟨(hb.cell (p := ⟨bt, 0, none⟩) (show bt < _ by omega)).trans h.ct, (hb.cell (p := ⟨bf, 0, none⟩) (show bf < _ by omega)).trans h.cf, (hb.cell (p := ⟨br, 0, none⟩) (show br < _ by omega)).trans h.cr, ?_, own_up h.own hb, Nat.le_trans hs hb.size, below_on h.below hb⟩
  rw [← h.fr]
  show World.frozen? _ _ = World.frozen? _ _
  unfold World.frozen?
  rw [hb.block br (by omega)]
/-- the leaves so far, with one more -/
theorem Sees.more {a : Option Addr} {ts : List M.Nd} {ca m : Nat} {w : World} {B bt bf br : Nat} {L L2 : List Int} {W W' : World} {v v' : Value} (h : Sees a ts ca m w B bt bf br L W v) (ht : bt < B) (hf : bf < B) (hr : br < B) (htr : bt ≠ br) (hfr : bf ≠ br) (hw : w.heap.size ≤ br) (hb : Below B W W') (ho : W'.ownsRow B 3 1 v' L2.length (L2.map (Value.int .i64))) : Sees a ts ca m w B bt bf br L2 (W'.setCell ⟨br, 0, none⟩ v') v' := by
  have hs := h.size
  have hfz : W'.frozen? ⟨br, 0, none⟩ = false := by
    rw [← h.fr]
    unfold World.frozen?
    rw [hb.block br hr]
  have hcr : W'.cell? ⟨br, 0, none⟩ = some v := (hb.cell (p := ⟨br, 0, none⟩) hr).trans h.cr
  refine ⟨?_, ?_, ?_, ?_, own_far ho hr, ?_, ?_⟩
  · rw [far_cell (fun e => htr e.symm)]; exact (hb.cell (p := ⟨bt, 0, none⟩) ht).trans h.ct
  · rw [far_cell (fun e => hfr e.symm)]; exact (hb.cell (p := ⟨bf, 0, none⟩) hf).trans h.cf
  · exact World.cell?_setCell_same _ _ _ hcr
  · simpa using hfz
  · have := hb.size; simp; omega
  · exact (h.below.trans (hb.mono (by omega))).setCell (p := ⟨br, 0, none⟩) hw v'

set_option maxHeartbeats 4000000 in
set_option maxRecDepth 10000 in
theorem reach1_any (a : Option Addr) (ts : List M.Nd) (ca m k : Nat) (w : World) (B bt bf br : Nat) (L : List Int) (W : World) (v : Value) (hn : RdN w a ts) (F : M.Fair ts (m : Int)) (hk : k < ts.length) (hL : L.length ≤ 63) (h : Sees a ts ca m w B bt bf br L W v)
    (ht : bt < B) (hf : bf < B) (hr : br < B) (htr : bt ≠ br) (hfr : bf ≠ br) (hw : w.heap.size ≤ br) :
    Calls Try.prog 72 #[.int .i64 (k : Nat), .pointer (some ⟨bt, 0, none⟩), .pointer (some ⟨bf, 0, none⟩), .pointer (some ⟨br, 0, none⟩)] W fun e w' => e = .returned (.tuple #[]) ∧ ∃ v', Sees a ts ca m w B bt bf br (if M.anyS (M.region ts m k) = true then L ++ [(k : Int)] else L) w' v' := by
  have R := hide (fun W' (hW : Below w.heap.size w W') => region_any a ts ca m k W' (hn.below hW) F hk)
  have LN : Hid (((M.region ts m k).map M.norm).length = m) := by unfold Hid; rw [List.length_map, M.region_len]
  have m8 : m ≤ 8 := by have := F.2.2.2.1; omega
  have l63 := F.1
  have HH := hide hasrow_any
  have S0 := hide h
  have UP : Hid (∀ W', Below W.heap.size W W' → Sees a ts ca m w B bt bf br L W' v) := fun W' hb => h.up ht hf hr hb
  have MO : Hid (∀ W' v' L2, Below B W W' → W'.ownsRow B 3 1 v' L2.length (L2.map (Value.int .i64)) → Sees a ts ca m w B bt bf br L2 (W'.setCell ⟨br, 0, none⟩ v') v') := fun W' v' L2 hb ho => h.more ht hf hr htr hfr hw hb ho
  obtain ⟨i0, hi, hz0, hz1, hz2⟩ := info_parts info3
  have I0 := hide hi
  have c0 := h.ct
  have c1 := h.cf
  have hbl := hide h.below
  have bs := h.size
  cases hA : M.anyS (M.region ts m k) with
  | false =>
    rw [← M.any_norm] at hA
    have HA := hide hA
    clear h hi F hn hA
    generalize (M.region ts m k).map M.norm = Q at *
    go_enter Try.func72, Try.ntmps72
    go_wp2_with (first
      | (go_at_call 31; refine (R.out _ hbl.out).mono ?_; rintro e w2 ⟨q, rfl, hown, hb2⟩; obtain ⟨ag, cg, rfl, hrd⟩ := own_rdS LN.out (by unfold maxLen; omega) hown; have hw2 := HH.out ag Q cg w2 hrd; rw [LN.out, HA.out] at hw2; have HW := hide hw2; have HB2 := hide hb2; clear hown hw2 hrd)
      | (go_at_call 32; refine HW.out.mono ?_; rintro e w3 ⟨rfl, hb3⟩; have HB3 := hide hb3; clear hb3))
    go_end0
    exact ⟨rfl, v, UP.out _ (below_on HB2.out HB3.out)⟩
  | true =>
    rw [← M.any_norm] at hA
    have HA := hide hA
    clear h hi F hn hA
    obtain ⟨va, vc, rfl, RV, hvc⟩ := own_rd S0.out.own
    clear RV hvc
    generalize (M.region ts m k).map M.norm = Q at *
    go_enter Try.func72, Try.ntmps72
    go_wp2_with (first
      | (go_at_call 31; refine (R.out _ hbl.out).mono ?_; rintro e w2 ⟨q, rfl, hown, hb2⟩; obtain ⟨ag, cg, rfl, hrd⟩ := own_rdS LN.out (by unfold maxLen; omega) hown; have hw2 := HH.out ag Q cg w2 hrd; rw [LN.out, HA.out] at hw2; have HW := hide hw2; have HB2 := hide hb2; clear hown hw2 hrd)
      | (go_at_call 32; refine HW.out.mono ?_; rintro e w3 ⟨rfl, hb3⟩; have k3 := below_on HB2.out hb3; have S3 := hide (UP.out _ k3); have c3 := S3.out.cr; have f3 := S3.out.fr; have bs3 := S3.out.size; clear hb3)
      | (at_builtin; refine wpList_append_lies _ rfl (.tmp 10) (.tmp 12) 23 rfl B 3 i0 (.int .i64 0) 1 8 Try.underlying23 I0.out hz0 hz1 hz2 rfl (by omega) (.slice va L.length vc) L.length (L.map (Value.int .i64)) rfl (S3.out.own.alloc _) ⟨w3.heap.size, 0, none⟩ 1 1 [.int .i64 (k : Int)] rfl rfl (World.news_of_block (heap_alloc_new _ _)) (by simp [Value.oneCell']) (by omega) (by unfold maxLen; omega) (by omega) (by simp; omega) (w3.heap.size + 1) (by simp) ?_))
    intro g cap w5 hov5 hgrow hat hlt5
    have kB : Below B W w5 := ((k3.mono bs).alloc bs3 _).grown hgrow (by simp; omega) (fun k hk => (S3.out.own.lt k hk).1)
    have c5 : w5.cell? ⟨br, 0, none⟩ = _ := (kB.cell (p := ⟨br, 0, none⟩) hr).trans S0.out.cr
    have f5 : w5.frozen? ⟨br, 0, none⟩ = false := by
      rw [← S0.out.fr]
      unfold World.frozen?
      rw [kB.block br hr]
    have HO5 : Hid (w5.ownsRow B 3 1 (.slice (some ⟨g, 0, none⟩) (L.length + 1) cap) (L ++ [(k : Int)]).length ((L ++ [(k : Int)]).map (Value.int .i64))) := by
      unfold Hid; rw [List.map_append, List.length_append]; exact hov5
    have KB := hide kB
    clear hov5 hgrow hat kB
    go_wp2
    go_end0
    exact ⟨rfl, _, MO.out _ _ _ KB.out HO5.out⟩

/-- what eachLeaf does with such a closure -/
theorem M.rch_yes {t : List M.Nd} {m k : Nat} (h : M.leafB (M.nAt t k) = true) : M.rch t m (k + 1) = if M.anyS (M.region t m k) = true then M.rch t m k ++ [(k : Int)] else M.rch t m k := by
  rw [M.rch, h]; simp
theorem M.rch_no {t : List M.Nd} {m k : Nat} (h : M.leafB (M.nAt t k) = false) : M.rch t m (k + 1) = M.rch t m k := by
  rw [M.rch, h]; simp

set_option maxHeartbeats 4000000 in
set_option maxRecDepth 10000 in
theorem eachleaf_any (a : Option Addr) (ts : List M.Nd) (ca m : Nat) (w : World) (B bt bf br : Nat) (W : World) (v : Value) (hn : RdN w a ts) (F : M.Fair ts (m : Int)) (h : Sees a ts ca m w B bt bf br [] W v)
    (ht : bt < B) (hf : bf < B) (hr : br < B) (htr : bt ≠ br) (hfr : bf ≠ br) (hw : w.heap.size ≤ br) :
    Calls Try.prog 71 #[.slice a ts.length ca, .func (.func 72) #[] #[.pointer (some ⟨bt, 0, none⟩), .pointer (some ⟨bf, 0, none⟩), .pointer (some ⟨br, 0, none⟩)]] W fun e w' => e = .returned (.tuple #[]) ∧ ∃ v', Sees a ts ca m w B bt bf br (M.rch ts m ts.length) w' v' := by
  have l63 := F.1
  have HN := hide hn
  have HS := hide h
  have C := hide (fun k L W v (hk : k < ts.length) (hL : L.length ≤ 63) (h : Sees a ts ca m w B bt bf br L W v) => reach1_any a ts ca m k w B bt bf br L W v hn F hk hL h ht hf hr htr hfr hw)
  clear hn F h
  go_enter Try.func71, Try.ntmps71
  go_wp2
  go_loopw [8] (fun i wr => ∃ k : Nat, k ≤ ts.length ∧ i = .int .i64 k ∧ Hid (∃ v', Sees a ts ca m w B bt bf br (M.rch ts m k) wr v')) (fun i _ => ts.length - (intOf i).toNat)
  case atStart => exact ⟨0, Nat.zero_le _, rfl, v, HS.out⟩
  case round =>
    clear HS
    obtain ⟨k, hk, rfl, I⟩ := hrel
    obtain ⟨v', hS⟩ := I.out
    by_cases hlt : k < ts.length
    · have hbl := hS.below
      obtain ⟨b1, off, rfl, hb1, hc⟩ := HN.out.2 (by intro e; subst e; simp at hlt)
      obtain ⟨s0, s1, s2, s3, s4, s5⟩ := (hc k hlt).below hbl hb1
      have UA : Hid (∀ o, Sees (some ⟨b1, off, none⟩) ts ca m w B bt bf br (M.rch ts m k) (wr.alloc o) v') := fun o => hS.up ht hf hr ((Below.refl _ wr).alloc (Nat.le_refl _) o)
      cases hl : M.leafB (M.nAt ts k) with
      | true =>
        have q : (M.nf (M.nAt ts k) == -1) = true := by
          unfold M.leafB at hl
          rw [beq_iff_eq]; exact of_decide_eq_true hl
        have N : Hid (M.rch ts m (k + 1) = if M.anyS (M.region ts m k) = true then M.rch ts m k ++ [(k : Int)] else M.rch ts m k) := M.rch_yes hl
        have C1 := hide (fun o => C.out k (M.rch ts m k) (wr.alloc o) v' hlt (by have := M.rch_len ts m k; omega) (UA.out o))
        rw [← N.out] at C1
        clear hc hl hS C I UA N
        generalize M.nf (M.nAt ts k) = f at *
        generalize M.nc (M.nAt ts k) = c at *
        generalize M.nl (M.nAt ts k) = l at *
        generalize M.nr (M.nAt ts k) = r at *
        generalize M.ns (M.nAt ts k) = sl at *
        generalize M.nv (M.nAt ts k) = v at *
        go_wp2_with (go_at_call 72; refine (C1.out _).mono ?_; rintro e w2 ⟨rfl, hs2⟩; have S2 := hide hs2; clear hs2)
        go_roundw
        case rel => exact ⟨k + 1, by omega, by go_num, S2⟩
        case measure => simp [intOf]; omega
      | false =>
        have q : (M.nf (M.nAt ts k) == -1) = false := by
          unfold M.leafB at hl
          rw [beq_eq_false_iff_ne]; exact of_decide_eq_false hl
        have N : Hid (∀ o, ∃ v', Sees (some ⟨b1, off, none⟩) ts ca m w B bt bf br (M.rch ts m (k + 1)) (wr.alloc o) v') := fun o => ⟨v', by rw [M.rch_no hl]; exact UA.out o⟩
        clear hc hl hS C I UA
        generalize M.nf (M.nAt ts k) = f at *
        generalize M.nc (M.nAt ts k) = c at *
        generalize M.nl (M.nAt ts k) = l at *
        generalize M.nr (M.nAt ts k) = r at *
        generalize M.ns (M.nAt ts k) = sl at *
        generalize M.nv (M.nAt ts k) = v at *
        go_wp2
        go_roundw
        case rel => exact ⟨k + 1, by omega, by go_num, N.out _⟩
        case measure => simp [intOf]; omega
    · have E : k = ts.length := by omega
      subst E
      clear C hS
      go_wp2
      go_end0
      exact ⟨rfl, I.out⟩

theorem sees_start {a : Option Addr} {ts : List M.Nd} {ca m : Nat} {w w1 : World} {t u r : TypeId} (h : Below ((w.alloc (.cells #[.slice a ts.length ca] t)).alloc (.cells #[.int .i64 (m : Nat)] u)).heap.size ((w.alloc (.cells #[.slice a ts.length ca] t)).alloc (.cells #[.int .i64 (m : Nat)] u)) w1) :
    Sees a ts ca m w (w1.heap.size + 1) w.heap.size (w.heap.size + 1) w1.heap.size [] (w1.alloc (.cells #[.slice none 0 0] r)) (.slice none 0 0) ∧ w.heap.size + 1 < w1.heap.size := by
  have hsz : w.heap.size + 1 < w1.heap.size := by have := h.size; simp at this; omega
  have b2 := (Below.refl _ w1).alloc (Nat.le_refl _) (.cells #[.slice none 0 0] r)
  have hw : Below w.heap.size w w1 := below_on (((Below.refl _ w).alloc (Nat.le_refl _) _).alloc (by simp) _) h
  refine ⟨⟨?_, ?_, ?_, ?_, World.ownsRow_nil _ _ _ _, ?_, below_on hw b2⟩, hsz⟩
  · refine (b2.cell (p := ⟨w.heap.size, 0, none⟩) (show w.heap.size < _ by omega)).trans ((h.cell (p := ⟨w.heap.size, 0, none⟩) (by simp; omega)).trans ?_)
    refine (((Below.refl _ (w.alloc (.cells #[.slice a ts.length ca] t))).alloc (Nat.le_refl _) _).cell (p := ⟨w.heap.size, 0, none⟩) (by simp)).trans ?_
    exact World.cell?_alloc_at _ _ _ 0 rfl
  · refine (b2.cell (p := ⟨w.heap.size + 1, 0, none⟩) (show w.heap.size + 1 < _ by omega)).trans ((h.cell (p := ⟨w.heap.size + 1, 0, none⟩) (by simp)).trans ?_)
    exact World.cell?_alloc_at _ _ _ 0 (by simp)
  · exact World.cell?_alloc_at _ _ _ 0 rfl
  · have := heap_alloc_new w1 (.cells #[.slice none 0 0] r)
    simp only [World.frozen?, this]
    rfl
  · simp

set_option maxHeartbeats 4000000 in
set_option maxRecDepth 10000 in
theorem reach_new (a : Option Addr) (ts : List M.Nd) (ca : Nat) (m : Int) (w : World) (ht : RdN w a ts) :
    Calls Try.prog 57 #[.slice a ts.length ca, .int .i64 m] w fun e w' =>
      ∃ ag cg, e = .returned (.tuple #[.slice ag (M.rchV ts m).length cg, errV (M.treeF ts m).2]) ∧ Rd w' ag (M.rchV ts m) ∧ Below w.heap.size w w' ∧ (∀ x, ag = some x → w.heap.size ≤ x.block) := by
  have T := hide (fun W (hW : Below w.heap.size w W) => tcheck_any a ts ca m W (ht.below hW))
  have B0 : Hid (∀ o1 o2, Below w.heap.size w ((w.alloc o1).alloc o2)) := fun o1 o2 => ((Below.refl _ w).alloc (Nat.le_refl _) o1).alloc (by simp) o2
  by_cases h : (M.treeF ts m).2 = 0
  · obtain ⟨F, e2⟩ := M.tree_ok h
    rw [err_nil h]
    rw [err_nil h] at T
    have m0 := F.2.2.1
    obtain ⟨mn, rfl⟩ : ∃ mn : Nat, m = (mn : Int) := ⟨m.toNat, by omega⟩
    have rv : Hid (M.rchV ts (mn : Int) = M.rch ts mn ts.length) := by unfold Hid M.rchV; rw [if_pos h, Int.toNat_natCast]
    have EL := hide (fun B bt bf br W v h1 h2 h3 h4 h5 h6 h7 => eachleaf_any a ts ca mn w B bt bf br W v ht F h1 h2 h3 h4 h5 h6 h7)
    clear h F e2 ht
    generalize M.rchV ts (mn : Int) = RV at *
    go_enter Try.func57, Try.ntmps57
    go_wp2_with (first
      | (go_at_call 7; refine (T.out _ (B0.out _ _)).mono ?_; rintro e w1 ⟨rfl, hb1⟩; have ss := sees_start (r := 23) hb1; have S1 := hide ss.1; have sz := ss.2; have ct := S1.out.ct; clear ss)
      | (go_at_call 71; refine (EL.out _ _ _ _ _ _ S1.out (by omega) (by omega) (by omega) (by omega) (by omega) (by omega)).mono ?_; rintro e w2 ⟨rfl, ⟨v2, hs2⟩⟩; have S2 := hide hs2; have c2 := hs2.cr; clear hs2))
    go_ret2
    obtain ⟨va, vc, rfl, RV2, hvc⟩ := own_rd S2.out.own
    exact ⟨va, vc, by rw [rv.out]; rfl, by rw [rv.out]; exact RV2, S2.out.below, fun x hx => by subst hx; have := (S2.out.own.lt x.block rfl).1; omega⟩
  · have rv : Hid (M.rchV ts m = []) := by unfold Hid M.rchV; rw [if_neg h]
    have ES := hide (err_some h)
    rw [err_some h] at T
    clear h ht
    generalize M.rchV ts m = RV at *
    generalize errV (M.treeF ts m).2 = er at *
    generalize (M.treeF ts m).2 = tf at *
    generalize (M.treeF ts m).1 = tp at *
    go_enter Try.func57, Try.ntmps57
    go_wp2_with (go_at_call 7; refine (T.out _ (B0.out _ _)).mono ?_; rintro e w1 ⟨rfl, hb1⟩; have k1 := below_on (B0.out _ _) hb1)
    go_ret2
    exact ⟨none, 0, by rw [rv.out, ES.out]; rfl, by rw [rv.out]; exact ⟨Nat.zero_le _, fun h => absurd rfl h⟩, k1, fun x hx => by cases hx⟩

theorem reach_any (a : Option Addr) (ts : List M.Nd) (ca : Nat) (m : Int) (w : World) (ht : RdN w a ts) :
    Calls Try.prog 57 #[.slice a ts.length ca, .int .i64 m] w fun e w' =>
      ∃ ag cg, e = .returned (.tuple #[.slice ag (M.rchV ts m).length cg, errV (M.treeF ts m).2]) ∧ Rd w' ag (M.rchV ts m) ∧ Below w.heap.size w w' := by
  refine (reach_new a ts ca m w ht).mono ?_
  rintro e w' ⟨ag, cg, rfl, h1, h2, _⟩
  exact ⟨ag, cg, rfl, h1, h2⟩

end Go.Proofs.Ythbeoaninipadaf
