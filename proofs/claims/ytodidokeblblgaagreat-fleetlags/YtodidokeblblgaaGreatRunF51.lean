/-
  Several texts as one: FlD, FlDo.
-/
import Derived.Test.YtodidokeblblgaaGreatRunF49
import Derived.Test.YtodidokeblblgaaGreatRunF50
import Derived.RegionTactic
import Derived.Deep.RegionWith
namespace Go.Proofs.YtodidokeblblgaaGreat
open Go.ChangeShapes Go.WideShapes Go.ChangeAt Go.RowKit Go.Lib Go.Maps
set_option linter.unusedVariables false
/-- a fleet while a call is kept -/
def FK (W w : World) (f : Nat) (L : M.Lg) (S : M.Sh) (lost : Bool) (ks : List Nat) (C : List M.Ca) (Z : Nat → Nat) (lf sf : Nat) (T : Nat → Nat) : Prop := ∃ va ra rc ss B, FA W w f L S lost ks C Z lf va sf T ra rc ss B
set_option maxHeartbeats 16000000 in
set_option maxRecDepth 10000 in
theorem fl_keep {W w : World} {f : Nat} {L : M.Lg} {S : M.Sh} {lost : Bool} {ks : List Nat} {C : List M.Ca} {Z : Nat → Nat} {lf sf : Nat} {T : Nat → Nat} (h : FK W w f L S lost ks C Z lf sf T) {c : M.Ca} {a : Option Addr} {cap : Nat} (hi : CaIn w c a cap) (X : M.Fl) (hX : X.L = L) :
    Calls Tryz.prog 14 #[.pointer (some ⟨f, 0, none⟩), caV c a cap] w fun e w' => e = .returned (errV (M.kpF X c)) ∧ ∃ Z', FK W w' f (M.kpX X c) S (decide (M.kpF X c = 9)) ks C Z' lf sf T ∧ KeptF w Z Z' w' := by
  obtain ⟨va, ra, rc, ss, B, h⟩ := h
  unfold M.kpF M.kpX
  rw [hX]
  clear hX X
  unfold caV
  obtain ⟨W1, hW1⟩ : ∃ V, V = w.alloc (.cells #[.int .i64 c.what, .int .i64 c.ses, .int .i64 c.seq, .string (byStr c.name), .int .i64 c.num, .int .i64 c.share, .slice a c.bys.length cap] 35) := ⟨_, rfl⟩
  have ba : Below w.heap.size w W1 := by rw [hW1]; exact (Below.refl _ _).alloc (Nat.le_refl _) _
  have bx : Bx W1 w.heap.size [.int .i64 c.what, .int .i64 c.ses, .int .i64 c.seq, .string (byStr c.name), .int .i64 c.num, .int .i64 c.share, .slice a c.bys.length cap] := by rw [hW1]; exact bx_new w _ _
  have h1 := h.up (ba.drew)
  have hi1 := hi.below ba.drew
  have AP := hide (h1.hl.append hi1)
  unfold caV at AP
  have AF : Hid (∀ w2 va', HL W w2 lf va' (M.apL L c) → KeptL W1.drew lf va va' w2 → ∃ Z2, FA W w2 f (M.apL L c) S lost ks C Z2 lf va' sf T ra rc ss B ∧ KeptF w Z Z2 w2) := fun w2 va' hl hk => by
    obtain ⟨Z2, f2, k2⟩ := h1.log hl hk
    exact ⟨Z2, f2, (KeptF.refl ba.drew).trans k2⟩
  have c0 := (h.up ba).box.cell 0 _ rfl
  have x0 := bx.cell 0 _ rfl
  have x1 := bx.cell 1 _ rfl
  have x2 := bx.cell 2 _ rfl
  have x3 := bx.cell 3 _ rfl
  have x4 := bx.cell 4 _ rfl
  have x5 := bx.cell 5 _ rfl
  have x6 := bx.cell 6 _ rfl
  clear h h1 hi hi1 ba bx
  generalize byStr c.name = nm at *
  have PUT : Hid (∀ (w3 : World) (L3 : M.Lg) (va3 : Option Addr) (Z3 : Nat → Nat) (b : Bool), FA W w3 f L3 S lost ks C Z3 lf va3 sf T ra rc ss B → KeptF w Z Z3 w3 → ∃ Z', FK W (w3.setCell ⟨f, 3, none⟩ (.bool b)) f L3 S b ks C Z' lf sf T ∧ KeptF w Z Z' (w3.setCell ⟨f, 3, none⟩ (.bool b))) := fun w3 L3 va3 Z3 b f3 k3 => by
    obtain ⟨f4, k4⟩ := f3.put b
    exact ⟨Z3, ⟨va3, ra, rc, ss, B, f4⟩, k3.trans k4⟩
  have IS := hide (fun (e : Int) (V : World) => is_any e 9 (by decide) V)
  by_cases q : M.apF L c = 0
  case neg =>
    have e1 : (if M.apF L c ≠ 0 then M.apF L c else M.syF (M.apL L c)) = M.apF L c := if_pos q
    have e2 : (if M.apF L c ≠ 0 then M.apL L c else M.syL (M.apL L c)) = M.apL L c := if_pos q
    rw [e1, e2]
    rw [err_some q] at AP
    have IS1 := hide (IS.out (M.apF L c))
    rw [err_some q] at IS1 ⊢
    clear e1 e2 q IS
    generalize M.apL L c = L2 at *
    generalize hp : decide (M.apF L c = 9) = bo at *
    clear hp
    generalize M.apF L c = ae at *
    go_enter Tryz.func14, Tryz.ntmps14
    go_upto_region 1 with fail
    rw [← hW1]
    clear hW1
    go_region_with (go_at_call 23; refine AP.out.mono ?_; rintro e w2 ⟨rfl, va', hl, hk⟩; obtain ⟨Z2, f2, k2⟩ := AF.out w2 va' hl hk; have F2 := hide f2; have K2 := hide k2; have y0 := f2.box.cell 3 _ rfl; have y1 := f2.box.free 3; clear hl hk f2 k2)
    all_goals (
      go_wp2_with (go_at_call 25; refine (IS1.out w2).mono ?_; rintro e w3 ⟨rfl, ew⟩; have ew2 := ew.symm; subst ew2)
      go_ret
      exact ⟨rfl, PUT.out _ _ _ _ _ F2.out K2.out⟩)
  case pos =>
    have e1 : (if M.apF L c ≠ 0 then M.apF L c else M.syF (M.apL L c)) = M.syF (M.apL L c) := if_neg (by simpa using q)
    have e2 : (if M.apF L c ≠ 0 then M.apL L c else M.syL (M.apL L c)) = M.syL (M.apL L c) := if_neg (by simpa using q)
    rw [e1, e2]
    rw [err_nil q] at AP
    have IS1 := hide (IS.out (M.syF (M.apL L c)))
    have SY : Hid (∀ w2 va' Z2, FA W w2 f (M.apL L c) S lost ks C Z2 lf va' sf T ra rc ss B → KeptF w Z Z2 w2 → Calls Tryz.prog 24 #[.pointer (some ⟨lf, 0, none⟩)] w2 fun e w' => e = .returned (errV (M.syF (M.apL L c))) ∧ ∃ Z3, FA W w' f (M.syL (M.apL L c)) S lost ks C Z3 lf va' sf T ra rc ss B ∧ KeptF w Z Z3 w') := fun w2 va' Z2 f2 k2 => by
      refine f2.hl.sync.mono ?_
      rintro e w' ⟨rfl, hl, hk⟩
      obtain ⟨Z3, f3, k3⟩ := f2.log hl hk
      exact ⟨rfl, Z3, f3, k2.trans k3⟩
    clear e1 e2 q IS
    generalize M.apL L c = L2 at *
    generalize M.syL L2 = L3 at *
    generalize hp : decide (M.syF L2 = 9) = bo at *
    clear hp
    have ways := err_ways (M.syF L2)
    generalize errV (M.syF L2) = ev at *
    go_enter Tryz.func14, Tryz.ntmps14
    go_upto_region 1 with fail
    rw [← hW1]
    clear hW1
    go_region_with (go_at_call 23; refine AP.out.mono ?_; rintro e w2 ⟨rfl, va', hl, hk⟩; obtain ⟨Z2, f2, k2⟩ := AF.out w2 va' hl hk; have SY2 := hide (SY.out w2 va' Z2 f2 k2); have y2 := f2.box.cell 0 _ rfl; clear hl hk f2 k2)
    all_goals (
      go_wp2_with (first
        | (go_at_call 24; refine SY2.out.mono ?_; rintro e w3 ⟨rfl, Z3, f3, k3⟩; have F3 := hide f3; have K3 := hide k3; have y0 := f3.box.cell 3 _ rfl; have y1 := f3.box.free 3; clear f3 k3)
        | (go_at_call 25; refine (IS1.out w3).mono ?_; rintro e w4 ⟨rfl, ew⟩; have ew2 := ew.symm; subst ew2))
      go_ret
      exact ⟨rfl, PUT.out _ _ _ _ _ F3.out K3.out⟩)
theorem fl_box {W w W1 w9 : World} {f : Nat} {L : M.Lg} {S : M.Sh} {lost : Bool} {ks : List Nat} {C : List M.Ca} {Z Z9 : Nat → Nat} {lf : Nat} {va : Option Addr} {sf : Nat} {T : Nat → Nat} {ra : Option Addr} {rc : Nat} {ss : List Nat} {B : Nat → Nat → Prop} {p : Nat} (ba : Below w.heap.size w W1) (bx : Bx W1 p [.int .i64 0, .int .i64 0]) (hp : w.heap.size ≤ p) (zw : W.heap.size ≤ w.heap.size) (zp : Z p = 0) (h : FA W w9 f L S lost ks C Z9 lf va sf T ra rc ss B) (k : KeptF W1 Z Z9 w9) : Bx w9 p [.int .i64 0, .int .i64 0] ∧ ∀ y0 y1, FA W ((w9.setCell ⟨p, 0, none⟩ y0).setCell ⟨p, 1, none⟩ y1) f L S lost ks C Z9 lf va sf T ra rc ss B ∧ KeptF w Z Z9 ((w9.setCell ⟨p, 0, none⟩ y0).setCell ⟨p, 1, none⟩ y1) := by
  obtain ⟨t0, t1⟩ := k.2 p bx.lt zp
  refine ⟨bx.keep t1, fun y0 y1 => ?_⟩
  have far : ∀ q, q ≠ p → ((w9.setCell ⟨p, 0, none⟩ y0).setCell ⟨p, 1, none⟩ y1).heap[q]? = w9.heap[q]? := fun q hq => by
    rw [heap_setCell_other _ _ _ _ hq, heap_setCell_other _ _ _ _ hq]
  have sz : ((w9.setCell ⟨p, 0, none⟩ y0).setCell ⟨p, 1, none⟩ y1).heap.size = w9.heap.size := by simp
  have zb : W.heap.size ≤ p := by omega
  refine ⟨h.stay ((h.bl.setCell zb _).setCell zb _) (by rw [sz]; exact Nat.le_refl _) (fun q hq => far q (fun e => hq (by rw [e]; exact t0))), by rw [sz]; exact Nat.le_trans ba.size k.1, fun q hq h0 => ?_⟩
  obtain ⟨s0, s1⟩ := k.2 q (Nat.lt_of_lt_of_le hq ba.size) h0
  exact ⟨s0, by rw [far q (by omega), s1]; exact ba.block q hq⟩
theorem sh_CountsA {W : World} {f : Nat} {T : Nat → Nat} {S : M.Sh} (h : SA W f T S) {c : M.Ca} {a : Option Addr} {cap : Nat} (hb : isB c.name) (hl : c.name.length ≤ 9223372036854775807) :
    Calls Tryz.prog 13 #[.pointer (some ⟨f, 0, none⟩), caV c a cap] W fun e w' => e = .returned (.bool (M.cntB S c)) ∧ Below W.heap.size W w' := by
  obtain ⟨mm, ml, D, E, kb, mb, va, vc, G, h⟩ := h
  exact sh_Counts h c a cap hb hl
/-- the shelf's Do, with the fleet around it -/
theorem fl_shDo {W w : World} {f : Nat} {L : M.Lg} {S : M.Sh} {lost : Bool} {ks : List Nat} {C : List M.Ca} {Z : Nat → Nat} {lf sf : Nat} {T : Nat → Nat} (h : FK W w f L S lost ks C Z lf sf T) {c : M.Ca} {a : Option Addr} {cap : Nat} (hi : CaIn w c a cap) (ha : c.bys ≠ [] → ∀ p, a = some p → Z p.block = 0) (hx : S.idx ≤ 900000) :
    Calls Tryz.prog 15 #[.pointer (some ⟨sf, 0, none⟩), caV c a cap] w fun e w' => e = .returned (.tuple #[anV (M.shDo S c).1, errV (M.shDo S c).2.1]) ∧ ∃ Z' T', FK W w' f L (M.shDo S c).2.2 lost ks C Z' lf sf T' ∧ KeptF w Z Z' w' := by
  obtain ⟨va, ra, rc, ss, B, h⟩ := h
  refine (sh_Do h.hs.sa hi (fun hne p hp => ?_) hx).mono ?_
  · by_cases z : T p.block = 0
    · exact z
    · have := h.zs _ z
      rw [ha hne p hp] at this
      cases this
  · rintro e w' ⟨rfl, hl⟩
    obtain ⟨T', a1, a2, a3⟩ := h.hs.left hl
    obtain ⟨Z', f2, k2⟩ := h.shelf a1 a2 a3
    exact ⟨rfl, Z', T', ⟨va, ra, rc, ss, B, f2⟩, k2⟩
theorem FK.up {W w w' : World} {f : Nat} {L : M.Lg} {S : M.Sh} {lost : Bool} {ks : List Nat} {C : List M.Ca} {Z : Nat → Nat} {lf sf : Nat} {T : Nat → Nat} (h : FK W w f L S lost ks C Z lf sf T) (hb : Below w.heap.size w w') : FK W w' f L S lost ks C Z lf sf T := by
  obtain ⟨va, ra, rc, ss, B, h⟩ := h
  exact ⟨va, ra, rc, ss, B, h.up hb⟩
theorem KeptF.up {w w1 w2 : World} {Z Z' : Nat → Nat} (h : KeptF w Z Z' w1) (hb : Below w1.heap.size w1 w2) : KeptF w Z Z' w2 := ⟨Nat.le_trans h.1 hb.size, fun q hq h0 => ⟨(h.2 q hq h0).1, (hb.block q (Nat.lt_of_lt_of_le hq h.1)).trans (h.2 q hq h0).2⟩⟩
theorem CaIn.kept {w w' : World} {c : M.Ca} {a : Option Addr} {cap : Nat} {Z Z' : Nat → Nat} (h : CaIn w c a cap) (ha : c.bys ≠ [] → ∀ p, a = some p → Z p.block = 0) (k : KeptF w Z Z' w') : CaIn w' c a cap ∧ (c.bys ≠ [] → ∀ p, a = some p → Z' p.block = 0) := by
  have lt : c.bys ≠ [] → ∀ p, a = some p → p.block < w.heap.size := fun hne p hp => by
    obtain ⟨b, off, e, hl, _⟩ := h.rd.2.2 hne
    rw [e] at hp; cases hp; exact hl
  exact ⟨⟨h.nb, h.nl, rdB_keep h.rd (fun hne p hp => (k.2 _ (lt hne p hp) (ha hne p hp)).2) k.1, h.le, h.cp, h.num, h.shr, h.nil⟩, fun hne p hp => (k.2 _ (lt hne p hp) (ha hne p hp)).1⟩

set_option maxHeartbeats 16000000 in
set_option maxRecDepth 10000 in
theorem fl_Do {W w : World} {f : Nat} {X : M.Fl} {Z : Nat → Nat} (h : FH W w f X Z) {c : M.Ca} {a : Option Addr} {cap : Nat} (hi : CaIn w c a cap) (ha : c.bys ≠ [] → ∀ p, a = some p → Z p.block = 0) (hx : X.m ≤ 900000) :
    Calls Tryz.prog 5 #[.pointer (some ⟨f, 0, none⟩), caV c a cap] w fun e w' => e = .returned (.tuple #[anV (M.doX X c).1, errV (M.doX X c).2.1]) ∧ ∃ Z', FH W w' f (M.doX X c).2.2 Z' ∧ KeptF w Z Z' w' := by
  obtain ⟨ok, lf, va, sf, T, ra, rc, ss, B, h⟩ := h
  have fk : FK W w f X.L X.S X.lost X.ks X.L.calls Z lf sf T := ⟨va, ra, rc, ss, B, h⟩
  obtain ⟨d1, d2, d3, d4, d5, d6, d7⟩ := M.do_fl ok h.hl.ok hi.nb hi.rd.2.1
  have ids : X.S.idx ≤ 900000 := by rw [ok.idx]; omega
  have CLOSE : Hid (∀ (V : World) (Z' : Nat → Nat) (T' : Nat → Nat), FK W V f (M.doX X c).2.2.L (M.doX X c).2.2.S (M.doX X c).2.2.lost X.ks X.L.calls Z' lf sf T' → FH W V f (M.doX X c).2.2 Z') := fun V Z' T' ⟨va', ra', rc', ss', B', hf⟩ => by
    refine ⟨d1, lf, va', sf, T', ra', rc', ss', B', ?_⟩
    rw [d7]
    refine hf.calls (fun k hk => ?_)
    have le := ok.at hk
    rw [← M.shN_take (M.doX X c).2.2.L.calls le, ← M.shN_take X.L.calls le, d4]
  obtain ⟨W1, hW1⟩ : ∃ V, V = (w.alloc (.cells #[.int .i64 c.what, .int .i64 c.ses, .int .i64 c.seq, .string (byStr c.name), .int .i64 c.num, .int .i64 c.share, .slice a c.bys.length cap] 35)).alloc (.cells #[.int .i64 0, .int .i64 0] 30) := ⟨_, rfl⟩
  have z1 : W1.heap.size = w.heap.size + 1 + 1 := by rw [hW1]; simp
  have ba : Below w.heap.size w W1 := by rw [hW1]; exact ((Below.refl _ _).alloc (Nat.le_refl _) _).alloc (by simp) _
  have bx : Bx W1 w.heap.size [.int .i64 c.what, .int .i64 c.ses, .int .i64 c.seq, .string (byStr c.name), .int .i64 c.num, .int .i64 c.share, .slice a c.bys.length cap] := by rw [hW1]; exact (bx_new w _ _).keep (((Below.refl _ _).alloc (Nat.le_refl _) _).block _ (by simp))
  have by' : Bx W1 (w.heap.size + 1) [.int .i64 0, .int .i64 0] := by
    rw [hW1]
    have := bx_new (w.alloc (.cells #[.int .i64 c.what, .int .i64 c.ses, .int .i64 c.seq, .string (byStr c.name), .int .i64 c.num, .int .i64 c.share, .slice a c.bys.length cap] 35)) [.int .i64 0, .int .i64 0] 30
    rwa [show (w.alloc (.cells #[.int .i64 c.what, .int .i64 c.ses, .int .i64 c.seq, .string (byStr c.name), .int .i64 c.num, .int .i64 c.share, .slice a c.bys.length cap] 35)).heap.size = w.heap.size + 1 by simp] at this
  have Z0 : ∀ q, w.heap.size ≤ q → Z q = 0 := fun q hq => by
    by_cases y : Z q = 0
    · exact y
    · have := (h.tn q y).2; omega
  have BOX : Hid (∀ (V : World) (L9 : M.Lg) (S9 : M.Sh) (l9 : Bool) (Z9 T9 : Nat → Nat), FK W V f L9 S9 l9 X.ks X.L.calls Z9 lf sf T9 → KeptF W1 Z Z9 V → (V.cell? ⟨w.heap.size + 1, 0, none⟩ = some (.int .i64 0) ∧ V.cell? ⟨w.heap.size + 1, 1, none⟩ = some (.int .i64 0) ∧ V.frozen? ⟨w.heap.size + 1, 0, none⟩ = false ∧ V.frozen? ⟨w.heap.size + 1, 1, none⟩ = false) ∧ ∀ y0 y1, FK W ((V.setCell ⟨w.heap.size + 1, 0, none⟩ y0).setCell ⟨w.heap.size + 1, 1, none⟩ y1) f L9 S9 l9 X.ks X.L.calls Z9 lf sf T9 ∧ KeptF w Z Z9 ((V.setCell ⟨w.heap.size + 1, 0, none⟩ y0).setCell ⟨w.heap.size + 1, 1, none⟩ y1) ∧ ((V.setCell ⟨w.heap.size + 1, 0, none⟩ y0).setCell ⟨w.heap.size + 1, 1, none⟩ y1).cell? ⟨w.heap.size + 1, 0, none⟩ = some y0 ∧ ((V.setCell ⟨w.heap.size + 1, 0, none⟩ y0).setCell ⟨w.heap.size + 1, 1, none⟩ y1).cell? ⟨w.heap.size + 1, 1, none⟩ = some y1) := fun V L9 S9 l9 Z9 T9 ⟨va', ra', rc', ss', B', hf⟩ hk => by
    obtain ⟨b9, g9⟩ := fl_box ba by' (Nat.le_succ _) h.bl.size (Z0 _ (Nat.le_succ _)) hf hk
    refine ⟨⟨b9.cell 0 _ rfl, b9.cell 1 _ rfl, b9.free 0, b9.free 1⟩, fun y0 y1 => ?_⟩
    obtain ⟨g1, g2⟩ := g9 y0 y1
    have fin := (b9.put (j := 0) (v := y0)).put (j := 1) (v := y1)
    exact ⟨⟨va', ra', rc', ss', B', g1⟩, g2, fin.cell 0 _ rfl, fin.cell 1 _ rfl⟩
  -- the call's own copy stays
  have CAL : Hid (∀ (V : World) (Z9 : Nat → Nat), KeptF W1 Z Z9 V → ∀ j, V.cell? ⟨w.heap.size, j, none⟩ = W1.cell? ⟨w.heap.size, j, none⟩) := fun V Z9 hk j => World.cell?_of_block (a := ⟨w.heap.size, j, none⟩) (hk.2 _ bx.lt (Z0 _ (Nat.le_refl _))).2
  have fk1 : FK W W1 f X.L X.S X.lost X.ks X.L.calls Z lf sf T := fk.up ba
  have hi1 := hi.below ba
  have x0 := bx.cell 0 _ rfl
  have x1 := bx.cell 1 _ rfl
  have x2 := bx.cell 2 _ rfl
  have x3 := bx.cell 3 _ rfl
  have x4 := bx.cell 4 _ rfl
  have x5 := bx.cell 5 _ rfl
  have x6 := bx.cell 6 _ rfl
  have c1 := (h.up ba).box.cell 1 _ rfl
  have c3 := (h.up ba).box.cell 3 _ rfl
  cases hl : X.lost with
  | true =>
    have e0 : M.doX X c = (M.an0, 9, X) := by unfold M.doX; rw [hl, if_pos rfl]
    rw [e0] at CLOSE ⊢
    obtain ⟨⟨p0, p1, p2, p3⟩, pp⟩ := BOX.out W1 X.L X.S X.lost Z T fk1 (KeptF.refl (Below.refl _ _))
    obtain ⟨g1, g2, g3, g4⟩ := pp (.int .i64 0) (.int .i64 0)
    have FIN : Hid (∃ Z', FH W ((W1.setCell ⟨w.heap.size + 1, 0, none⟩ (.int .i64 0)).setCell ⟨w.heap.size + 1, 1, none⟩ (.int .i64 0)) f X Z' ∧ KeptF w Z Z' ((W1.setCell ⟨w.heap.size + 1, 0, none⟩ (.int .i64 0)).setCell ⟨w.heap.size + 1, 1, none⟩ (.int .i64 0))) := ⟨Z, CLOSE.out _ Z T g1, g2⟩
    rw [hl] at c3
    have EA : Hid (anV M.an0 = .agg #[.int .i64 0, .int .i64 0]) := rfl
    simp only
    rw [EA.out, err_some (show (9 : Int) ≠ 0 by decide)]
    clear h fk ok d1 d2 d3 d4 d5 d6 d7 hi hi1 ha hx e0 CLOSE BOX CAL fk1 bx by' ba Z0 ids g1 g2 pp c1 EA hl x0 x1 x2 x3 x4 x5 x6 z1
    unfold caV
    generalize byStr c.name = nm at *
    go_enter Tryz.func5, Tryz.ntmps5
    go_upto_region 1 with fail
    rw [← hW1]
    clear hW1
    go_wp2
    refine bodyPost_ret (v := .tuple #[.agg #[.int .i64 0, .int .i64 0], .iface 44 (.int .i64 9)]) (by simp [results, Tryz.results5, go_sem, g3, g4]) rfl ?_
    exact ⟨rfl, FIN.out⟩
  | false =>
    rw [hl] at c3 fk1
    have CT := hide (sh_CountsA (h.up (ba.drew)).hs.sa (c := c) (a := a) (cap := cap) hi.nb hi.nl)
    have DOS : Hid (∀ (V : World) (L9 : M.Lg) (Z9 : Nat → Nat), FK W V f L9 X.S false X.ks X.L.calls Z9 lf sf T → KeptF W1 Z Z9 V → Calls Tryz.prog 15 #[.pointer (some ⟨sf, 0, none⟩), caV c a cap] V fun e w' => e = .returned (.tuple #[anV (M.shDo X.S c).1, errV (M.shDo X.S c).2.1]) ∧ ∃ Z' T', FK W w' f L9 (M.shDo X.S c).2.2 false X.ks X.L.calls Z' lf sf T' ∧ KeptF W1 Z Z' w') := fun V L9 Z9 hf hk => by
      obtain ⟨ci, ca⟩ := (hi.below ba).kept ha hk
      refine (fl_shDo hf ci ca ids).mono ?_
      rintro e w' ⟨rfl, Z', T', g1, g2⟩
      exact ⟨rfl, Z', T', g1, hk.trans g2⟩
    have KEEP : Hid (∀ (V : World), Below W1.heap.size W1 V → Calls Tryz.prog 14 #[.pointer (some ⟨f, 0, none⟩), caV c a cap] V fun e w' => e = .returned (errV (M.kpF X c)) ∧ ∃ Z', FK W w' f (M.kpX X c) X.S (decide (M.kpF X c = 9)) X.ks X.L.calls Z' lf sf T ∧ KeptF W1 Z Z' w') := fun V hV => by
      refine (fl_keep (fk1.up hV) (hi1.below hV) X rfl).mono ?_
      rintro e w' ⟨rfl, Z', g1, g2⟩
      exact ⟨rfl, Z', g1, (KeptF.refl hV).trans g2⟩
    have FK1 := hide fk1
    have C3 : Hid (∀ (V : World) (L9 : M.Lg) (S9 : M.Sh) (l9 : Bool) (Z9 T9 : Nat → Nat), FK W V f L9 S9 l9 X.ks X.L.calls Z9 lf sf T9 → V.cell? ⟨f, 1, none⟩ = some (.pointer (some ⟨sf, 0, none⟩))) := fun V L9 S9 l9 Z9 T9 ⟨va', ra', rc', ss', B', hf⟩ => hf.box.cell 1 _ rfl
    cases hc : M.cntB X.S c with
    | false =>
      have e0 : M.doX X c = ((M.shDo X.S c).1, (M.shDo X.S c).2.1, X) := by unfold M.doX; rw [hl, if_neg (by decide), hc, if_neg (by decide)]
      have eS := M.cnt_no hc
      rw [eS] at DOS
      rw [e0] at CLOSE ⊢
      simp only at CLOSE
      rw [hl] at CLOSE
      rw [hc] at CT
      simp only
      clear h fk ok d1 d2 d3 d4 d5 d6 d7 hi hi1 ha hx e0 KEEP fk1 bx by' Z0 ids hl hc eS z1
      unfold caV anV at *
      generalize (M.shDo X.S c).1.num = r1 at *
      generalize (M.shDo X.S c).1.idx = r2 at *
      generalize errV (M.shDo X.S c).2.1 = r3 at *
      have BA := hide ba
      clear ba
      generalize byStr c.name = nm at *
      go_enter Tryz.func5, Tryz.ntmps5
      go_upto_region 1 with fail
      rw [← hW1]
      clear hW1
      go_upto_region 3 with fail
      go_region_with (go_at_call 13; refine CT.out.mono ?_; rintro e w2 ⟨rfl, h2⟩; have b2 : Below W1.heap.size W1 w2 := (below_on ((Below.refl _ W1).drew) h2); have f2 := FK1.out.up b2.drew; have k2 : KeptF W1 Z Z w2.drew := KeptF.refl b2.drew; have D2 := hide (DOS.out _ _ _ f2 k2); have cc := CAL.out w2 Z (KeptF.refl b2); have q0 := (cc 0).trans x0; have q1 := (cc 1).trans x1; have q2 := (cc 2).trans x2; have q3 := (cc 3).trans x3; have q4 := (cc 4).trans x4; have q5 := (cc 5).trans x5; have q6 := (cc 6).trans x6; have q7 : w2.cell? ⟨f, 1, none⟩ = some (.pointer (some ⟨sf, 0, none⟩)) := (by have := C3.out w2.drew _ _ _ _ _ f2; exact this); clear h2 b2 f2 k2 cc)
      all_goals (
        clear x0 x1 x2 x3 x4 x5 x6 c1 c3
        go_upto_region 7 with fail
        go_region_with (go_at_call 15; refine D2.out.mono ?_; rintro e w3 ⟨rfl, Z3, T3, f3, k3⟩; obtain ⟨⟨p0, p1, p2, p3⟩, pp⟩ := BOX.out _ _ _ _ _ _ f3 k3; obtain ⟨g1, g2, g3, g4⟩ := pp (.int .i64 r1) (.int .i64 r2); have FIN : Hid (∃ Z', FH W ((w3.setCell ⟨w.heap.size + 1, 0, none⟩ (.int .i64 r1)).setCell ⟨w.heap.size + 1, 1, none⟩ (.int .i64 r2)) f X Z' ∧ KeptF w Z Z' ((w3.setCell ⟨w.heap.size + 1, 0, none⟩ (.int .i64 r1)).setCell ⟨w.heap.size + 1, 1, none⟩ (.int .i64 r2))) := ⟨Z3, CLOSE.out _ Z3 T3 g1, g2⟩; have G3 := hide g3; have G4 := hide g4; clear f3 k3 pp g1 g2 g3 g4))
      all_goals (
        go_wp2
        have g3 := G3.out
        have g4 := G4.out
        refine bodyPost_ret (v := .tuple #[.agg #[.int .i64 r1, .int .i64 r2], r3]) (by simp [results, Tryz.results5, go_sem, g3, g4]) rfl ?_
        exact ⟨rfl, FIN.out⟩)
    | true =>
      rw [hc] at CT
      by_cases hz : M.kpF X c = 0
      case neg =>
        have e0 : M.doX X c = (M.an0, M.kpF X c, ⟨M.kpX X c, X.m, decide (M.kpF X c = 9), X.ks⟩) := by unfold M.doX; rw [hl, if_neg (by decide), hc, if_pos rfl, if_pos hz]
        have eS : (⟨M.kpX X c, X.m, decide (M.kpF X c = 9), X.ks⟩ : M.Fl).S = X.S := by
          have := d2
          rw [e0, if_neg (fun z => hz z.2.2)] at this
          exact this
        rw [e0] at CLOSE ⊢
        simp only at CLOSE
        rw [eS] at CLOSE
        have EA : Hid (anV M.an0 = .agg #[.int .i64 0, .int .i64 0]) := rfl
        simp only
        rw [EA.out]
        rw [err_some hz] at KEEP ⊢
        clear h fk ok d1 d2 d3 d4 d5 d6 d7 hi hi1 ha hx e0 DOS fk1 bx by' Z0 ids hl hc eS z1 EA hz FK1 C3
        generalize hbo : decide (M.kpF X c = 9) = bo at *
        clear hbo
        generalize hY : (⟨M.kpX X c, X.m, bo, X.ks⟩ : M.Fl) = Y at *
        clear hY
        generalize M.kpX X c = L9 at *
        generalize M.kpF X c = ke at *
        unfold caV at *
        generalize byStr c.name = nm at *
        go_enter Tryz.func5, Tryz.ntmps5
        go_upto_region 1 with fail
        rw [← hW1]
        clear hW1
        go_upto_region 3 with fail
        go_region_with (go_at_call 13; refine CT.out.mono ?_; rintro e w2 ⟨rfl, h2⟩; have b2 : Below W1.heap.size W1 w2 := (below_on ((Below.refl _ W1).drew) h2); have K2 := hide (KEEP.out _ b2); have cc := CAL.out w2 Z (KeptF.refl b2); have q0 := (cc 0).trans x0; have q1 := (cc 1).trans x1; have q2 := (cc 2).trans x2; have q3 := (cc 3).trans x3; have q4 := (cc 4).trans x4; have q5 := (cc 5).trans x5; have q6 := (cc 6).trans x6; clear h2 b2 cc)
        all_goals (
          clear x0 x1 x2 x3 x4 x5 x6 c1 c3
          go_wp2_with (go_at_call 14; refine K2.out.mono ?_; rintro e w3 ⟨rfl, Z3, f3, k3⟩; obtain ⟨⟨p0, p1, p2, p3⟩, pp⟩ := BOX.out _ _ _ _ _ _ f3 k3; obtain ⟨g1, g2, g3, g4⟩ := pp (.int .i64 0) (.int .i64 0); have FIN : Hid (∃ Z', FH W ((w3.setCell ⟨w.heap.size + 1, 0, none⟩ (.int .i64 0)).setCell ⟨w.heap.size + 1, 1, none⟩ (.int .i64 0)) f Y Z' ∧ KeptF w Z Z' ((w3.setCell ⟨w.heap.size + 1, 0, none⟩ (.int .i64 0)).setCell ⟨w.heap.size + 1, 1, none⟩ (.int .i64 0))) := ⟨Z3, CLOSE.out _ Z3 T g1, g2⟩; have G3 := hide g3; have G4 := hide g4; clear f3 k3 pp g1 g2 g3 g4)
          have g3 := G3.out
          have g4 := G4.out
          refine bodyPost_ret (v := .tuple #[.agg #[.int .i64 0, .int .i64 0], .iface 44 (.int .i64 ke)]) (by simp [results, Tryz.results5, go_sem, g3, g4]) rfl ?_
          exact ⟨rfl, FIN.out⟩)
      case pos =>
        have e0 : M.doX X c = ((M.shDo X.S c).1, (M.shDo X.S c).2.1, ⟨M.kpX X c, X.m + 1, false, X.ks⟩) := by unfold M.doX; rw [hl, if_neg (by decide), hc, if_pos rfl, if_neg (by simpa using hz)]
        have eS : (⟨M.kpX X c, X.m + 1, false, X.ks⟩ : M.Fl).S = (M.shDo X.S c).2.2 := by
          have := d2
          rw [e0, if_pos ⟨hl, hc, hz⟩] at this
          exact this
        rw [e0] at CLOSE ⊢
        simp only at CLOSE
        rw [eS] at CLOSE
        rw [show decide (M.kpF X c = 9) = false from decide_eq_false (by omega), err_nil hz] at KEEP
        simp only
        clear h fk ok d1 d2 d3 d4 d5 d6 d7 hi hi1 ha hx e0 fk1 bx by' Z0 ids hl hc eS z1 hz FK1
        generalize hY : (⟨M.kpX X c, X.m + 1, false, X.ks⟩ : M.Fl) = Y at *
        clear hY
        generalize M.kpX X c = L9 at *
        generalize (M.shDo X.S c).2.2 = S9 at *
        unfold caV anV at *
        generalize (M.shDo X.S c).1.num = r1 at *
        generalize (M.shDo X.S c).1.idx = r2 at *
        generalize errV (M.shDo X.S c).2.1 = r3 at *
        generalize byStr c.name = nm at *
        go_enter Tryz.func5, Tryz.ntmps5
        go_upto_region 1 with fail
        rw [← hW1]
        clear hW1
        go_upto_region 3 with fail
        go_region_with (go_at_call 13; refine CT.out.mono ?_; rintro e w2 ⟨rfl, h2⟩; have b2 : Below W1.heap.size W1 w2 := (below_on ((Below.refl _ W1).drew) h2); have K2 := hide (KEEP.out _ b2); have cc := CAL.out w2 Z (KeptF.refl b2); have q0 := (cc 0).trans x0; have q1 := (cc 1).trans x1; have q2 := (cc 2).trans x2; have q3 := (cc 3).trans x3; have q4 := (cc 4).trans x4; have q5 := (cc 5).trans x5; have q6 := (cc 6).trans x6; clear h2 b2 cc)
        all_goals (
          go_upto_region 7 with (go_at_call 14; refine K2.out.mono ?_; rintro e w3 ⟨rfl, Z3, f3, k3⟩; have bd3 : Below w3.heap.size w3 w3.drew := (Below.refl _ w3).drew; have D3 := hide (DOS.out _ _ _ (f3.up bd3) (k3.up bd3)); have cc := CAL.out w3 Z3 k3; have q0 := (cc 0).trans x0; have q1 := (cc 1).trans x1; have q2 := (cc 2).trans x2; have q3 := (cc 3).trans x3; have q4 := (cc 4).trans x4; have q5 := (cc 5).trans x5; have q6 := (cc 6).trans x6; have q7 := C3.out _ _ _ _ _ _ f3; clear f3 k3 cc bd3)
          clear x0 x1 x2 x3 x4 x5 x6 c1 c3
          go_region_with (go_at_call 15; refine D3.out.mono ?_; rintro e w4 ⟨rfl, Z4, T4, f4, k4⟩; obtain ⟨⟨p0, p1, p2, p3⟩, pp⟩ := BOX.out _ _ _ _ _ _ f4 k4; obtain ⟨g1, g2, g3, g4⟩ := pp (.int .i64 r1) (.int .i64 r2); have FIN : Hid (∃ Z', FH W ((w4.setCell ⟨w.heap.size + 1, 0, none⟩ (.int .i64 r1)).setCell ⟨w.heap.size + 1, 1, none⟩ (.int .i64 r2)) f Y Z' ∧ KeptF w Z Z' ((w4.setCell ⟨w.heap.size + 1, 0, none⟩ (.int .i64 r1)).setCell ⟨w.heap.size + 1, 1, none⟩ (.int .i64 r2))) := ⟨Z4, CLOSE.out _ Z4 T4 g1, g2⟩; have G3 := hide g3; have G4 := hide g4; clear f4 k4 pp g1 g2 g3 g4))
        all_goals (
          go_wp2
          have g3 := G3.out
          have g4 := G4.out
          refine bodyPost_ret (v := .tuple #[.agg #[.int .i64 r1, .int .i64 r2], r3]) (by simp [results, Tryz.results5, go_sem, g3, g4]) rfl ?_
          exact ⟨rfl, FIN.out⟩)
end Go.Proofs.YtodidokeblblgaaGreat
