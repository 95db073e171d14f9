/-
  Several texts as one: Groves, WgU, WgN, WgW, WNeeds, GCheck.
-/
import Derived.Test.YtlloiccodjnkcagRunN3
import Derived.Test.YtlloiccodjnkcagRunN6
import Derived.Lib.SmallJoins
import Derived.Test.YtlloiccodjnkcagRunN7
import Derived.Test.YtlloiccodjnkcagRunN8
import Derived.Test.YtlloiccodjnkcagRunN1
import Derived.RegionTactic
import Derived.Deep.Cut
import Derived.Deep.CutRange
import Derived.Test.YtlloiccodjnkcagRunN9
namespace Go.Proofs.Ytlloiccodjnkcag
open Go.ChangeShapes Go.WideShapes Go.ChangeAt Go.RowKit Go.Deep
set_option linter.unusedVariables false

abbrev Tc := Option Addr × List M.Nd × Nat
def tV (k : Tc) : Value := .slice k.1 k.2.1.length k.2.2
/-- trees, where they lie -/
def RdT (w : World) (a : Option Addr) (ks : List Tc) : Prop :=
  ks.length ≤ maxLen ∧ (∀ k ∈ ks, RdN w k.1 k.2.1) ∧ (ks ≠ [] → ∃ b off, a = some ⟨b, off, none⟩ ∧ b < w.heap.size ∧ ∀ i (h : i < ks.length), w.cell? ⟨b, off + i, none⟩ = some (tV ks[i]))
theorem RdT.below {w w' : World} {a : Option Addr} {ks : List Tc} (h : RdT w a ks) (hb : Below w.heap.size w w') : RdT w' a ks :=
  ⟨h.1, fun k hk => (h.2.1 k hk).below hb, fun hn => by
    obtain ⟨b, off, e, hl, hc⟩ := h.2.2 hn
    exact ⟨b, off, e, Nat.lt_of_lt_of_le hl hb.size, fun i hi => (hb.cell (p := ⟨b, off + i, none⟩) hl).trans (hc i hi)⟩⟩
def tl (ks : List Tc) : List (List M.Nd) := ks.map (·.2.1)
theorem tl_len (ks : List Tc) : (tl ks).length = ks.length := by simp [tl]
theorem tl_at (ks : List Tc) {k : Nat} (h : k < ks.length) : (tl ks).getD k [] = ks[k].2.1 := by
  rw [M.getD_at (by rw [tl_len]; exact h)]; simp [tl]

/-- a grove, as it is handed on -/
structure Gr where
  f : Int
  w : Int
  wa : Option Addr
  ws : List Int
  wc : Nat
  ta : Option Addr
  ks : List Tc
  tc : Nat
def Gr.v (G : Gr) : Value := .agg #[.int .i64 G.f, .int .i64 G.w, .slice G.wa G.ws.length G.wc, .slice G.ta G.ks.length G.tc]
def Gr.m (G : Gr) : M.Gv := (G.f, G.w, G.ws, tl G.ks)
def RdG (w : World) (G : Gr) : Prop := Rd w G.wa G.ws ∧ RdT w G.ta G.ks
theorem RdG.below {w w' : World} {G : Gr} (h : RdG w G) (hb : Below w.heap.size w w') : RdG w' G := ⟨h.1.below hb, h.2.below hb⟩

theorem cellsTree : Try.prog.cellsOf 35 = 1 := by kernel_rfl
set_option maxRecDepth 10000 in
theorem open_trees {H : Type} {enc : TypeId × Value → H} {W : World} {base : Nat} {spare : Nat → Bool} {held : Bool} {fuel : Nat} {a : Option Addr} {len cap : Nat} {x : DataW H × List MemPlace}
    (h : DataW.trod enc Try.prog W base spare held fuel 24 [.slice a len cap] = some x) : ∃ ks : List Tc, ks.length = len ∧ RdT W a ks := by
  rcases open_slice Try.underlying24 h with ⟨hcs, _⟩ | ⟨a', len', cap', m, n, D, Pl, hcs, _, hl, hm, hmm, _, hx⟩
  · cases hcs
    exact ⟨[], rfl, ⟨Nat.zero_le _, (fun k hk => by cases hk), fun h => absurd rfl h⟩⟩
  · cases hcs
    have hlm : len ≤ m := by rw [hmm]; split <;> omega
    have each : ∀ i, i < len → ∃ k : Tc, W.cell? (a'.add i) = some (tV k) ∧ RdN W k.1 k.2.1 := by
      intro i hi
      obtain ⟨cs, h1, h2⟩ := hx i (by omega)
      rw [cellsTree] at h1
      obtain ⟨_, hlen, hcell⟩ := World.cells?_some h1
      match cs, hlen with
      | [c0], _ =>
        have d0 := hcell 0 (by omega)
        rw [add_add] at d0
        simp at d0
        have sl : ∃ b l c, c0 = .slice b l c := by
          rcases open_slice Try.underlying35 h2 with ⟨hcs, _⟩ | ⟨a2, len2, cap2, _, _, _, _, hcs, _⟩
          · exact ⟨none, 0, 0, by cases hcs; rfl⟩
          · exact ⟨some a2, len2, cap2, by cases hcs; rfl⟩
        obtain ⟨b, l, c, rfl⟩ := sl
        obtain ⟨ts, e, hr⟩ := open_nodes h2
        subst e
        exact ⟨(b, ts, c), d0, hr⟩
    obtain ⟨f, hf⟩ := choose_lt each
    refine ⟨(List.range len).map f, by simp, ⟨by simp; omega, ?_, fun hne => ?_⟩⟩
    · intro k hk
      rw [List.mem_map] at hk
      obtain ⟨i, hi, rfl⟩ := hk
      exact (hf i (by simpa using hi)).2
    · have hp : 0 < len := by
        rcases Nat.eq_zero_or_pos len with h0 | h0
        · subst h0; exact absurd rfl hne
        · exact h0
      obtain ⟨b, off, spot⟩ := a'
      have hspot : spot = none := by
        have := World.cell?_spot (hf 0 hp).1
        simpa [Addr.add] using this
      subst hspot
      refine ⟨b, off, rfl, ?_, fun i hi => ?_⟩
      · have := (hf 0 hp).1
        rw [add_flat] at this
        exact block_lt_of_cell this
      · have hi' : i < len := by simpa using hi
        have q := (hf i hi').1
        rw [add_flat] at q
        rw [q]; simp

theorem cellsGrove : Try.prog.cellsOf 26 = 4 := by kernel_rfl
theorem cellsRow : Try.prog.cellsOf 23 = 1 := by kernel_rfl
theorem cellsTrees : Try.prog.cellsOf 24 = 1 := by kernel_rfl
set_option maxRecDepth 10000 in
theorem open_grove {H : Type} {enc : TypeId × Value → H} {W : World} {base b0 : Nat} {held : Bool} {v : Value} {d : DataW H} {ps : List MemPlace}
    (hv : Value.okWide Try.prog W .any base 26 v) (h : DataW.Trod enc Try.prog W b0 (fun _ => true) held 26 v d ps) : ∃ G : Gr, v = G.v ∧ RdG W G := by
  obtain ⟨cs, rfl, hsz⟩ := okWide_struct Try.underlying26 hv
  rw [cellsGrove] at hsz
  obtain ⟨c0, c1, c2, c3, rfl⟩ := Joins.array4 hsz
  obtain ⟨fuel, hf⟩ := h
  obtain ⟨y0, y1, y2, y3, n, _, _, g0, g1, g2, g3⟩ := Joins.trod_struct4 Try.underlying26 hf
  rw [cellsInt] at g0 g1
  rw [cellsRow] at g2
  rw [cellsTrees] at g3
  obtain ⟨n0, e0, _⟩ := DataW.trod_int Try.underlying3 g0
  obtain ⟨n1, e1, _⟩ := DataW.trod_int Try.underlying3 g1
  simp [Value.cells] at e0 e1 g2 g3
  subst e0
  subst e1
  obtain ⟨wa, ws, wc, rfl, hw⟩ : ∃ wa ws wc, c2 = .slice wa (List.length (α := Int) ws) wc ∧ Rd W wa ws := by
    rcases open_ints Try.underlying23 Try.underlying3 (by kernel_rfl) g2 with ⟨hcs, _⟩ | ⟨x, l, c, zs, hcs, _, hl, hm, hz, _, hcell, hwz⟩
    · cases hcs
      exact ⟨none, [], 0, rfl, ⟨Nat.zero_le _, fun h => absurd rfl h⟩⟩
    · cases hcs
      have y : IsRow .i64 W (some x) l c zs := .inr ⟨_, rfl, hl, hm, by simpa using hz, hcell, hwz⟩
      exact ⟨some x, zs.take l, c, by rw [(rd_of y).2], (rd_of y).1⟩
  obtain ⟨ta, ks, tc, rfl, hk⟩ : ∃ ta ks tc, c3 = .slice ta (List.length (α := Tc) ks) tc ∧ RdT W ta ks := by
    have sl : ∃ b l c, c3 = .slice b l c := by
      rcases open_slice Try.underlying24 g3 with ⟨hcs, _⟩ | ⟨a2, len2, cap2, _, _, _, _, hcs, _⟩
      · exact ⟨none, 0, 0, by cases hcs; rfl⟩
      · exact ⟨some a2, len2, cap2, by cases hcs; rfl⟩
    obtain ⟨b, l, c, rfl⟩ := sl
    obtain ⟨ks, e, hr⟩ := open_trees g3
    subst e
    exact ⟨b, ks, c, rfl, hr⟩
  exact ⟨⟨n0, n1, wa, ws, wc, ta, ks, tc⟩, rfl, hw, hk⟩

end Go.Proofs.Ytlloiccodjnkcag

namespace Go.Proofs.Ytlloiccodjnkcag
open Go.ChangeShapes Go.WideShapes Go.ChangeAt Go.RowKit Go.Lib
set_option linter.unusedVariables false

def WgUsesGives : Prop := ∀ (G : Gr) (W : World), RdG W G → Calls Try.prog 9 #[G.v] W fun e w' => ∃ a c, e = .returned (.tuple #[.slice a (M.usV G.m).length c, errV (M.groveF G.m)]) ∧ RdU w' a (M.usV G.m) ∧ Below W.heap.size W w'

end Go.Proofs.Ytlloiccodjnkcag

namespace Go.Proofs.Ytlloiccodjnkcag
open Go.ChangeShapes Go.WideShapes Go.ChangeAt Go.RowKit Go.Lib
set_option linter.unusedVariables false

def WgGainsGives : Prop := ∀ (a b : Option Addr) (ts : List M.Nd) (xs : List Sx) (ca cb : Nat) (W : World), RdN W a ts → RdL W b xs → Calls Try.prog 10 #[.slice a ts.length ca, .slice b xs.length cb] W fun e w' => ∃ p c, e = .returned (.tuple #[.slice p (M.gnV ts (sms xs)).length c, errV (M.rdyF ts (sms xs))]) ∧ RdU w' p (M.gnV ts (sms xs)) ∧ Below W.heap.size W w'

end Go.Proofs.Ytlloiccodjnkcag

namespace Go.Proofs.Ytlloiccodjnkcag
open Go.ChangeShapes Go.WideShapes Go.ChangeAt Go.RowKit Go.Lib
set_option linter.unusedVariables false

def WgWithoutGives : Prop := ∀ (G : Gr) (f : Int) (W : World), RdG W G → Calls Try.prog 11 #[G.v, .int .i64 f] W fun e w' => ∃ J : Gr, e = .returned (.tuple #[J.v, errV (M.woF G.m f)]) ∧ J.m = M.woV G.m f ∧ RdG w' J ∧ Below W.heap.size W w'

end Go.Proofs.Ytlloiccodjnkcag

namespace Go.Proofs.Ytlloiccodjnkcag
open Go.ChangeShapes Go.WideShapes Go.ChangeAt Go.RowKit Go.Lib
set_option linter.unusedVariables false

def WnEvalGives : Prop := ∀ (G : Gr) (b : Option Addr) (xs : List Int) (cb : Nat) (W : World), RdG W G → Rd W b xs → Calls Try.prog 13 #[G.v, .slice b xs.length cb] W fun e w' => e = .returned (.tuple #[.int .i64 (M.evalG G.m xs), errV (M.standF G.m xs)]) ∧ Below W.heap.size W w'
def WnGroveGives : Prop := ∀ (G : Gr) (W : World), RdG W G → Calls Try.prog 12 #[G.v] W fun e w' => e = .returned (.int .i64 (M.groveF G.m)) ∧ Below W.heap.size W w'
def WnStandGives : Prop := ∀ (G : Gr) (b : Option Addr) (xs : List Int) (cb : Nat) (W : World), RdG W G → Rd W b xs → Calls Try.prog 14 #[G.v, .slice b xs.length cb] W fun e w' => e = .returned (.int .i64 (M.standF G.m xs)) ∧ Below W.heap.size W w'

def M.facN : List M.Nd := [(0, 5, 1, 2, false, 0), (-1, 0, 0, 0, false, 7), (-1, 0, 0, 0, false, 9)]
theorem M.fac_uses : M.groveF (1, 1, [1], [M.facN]) = 0 ∧ M.usV (1, 1, [1], [M.facN]) = [(0, 1, 0)] := by unfold M.facN; exact M.uses_fact
abbrev facObj : Obj := .cells #[.int .i64 0, .int .i64 5, .int .i64 1, .int .i64 2, .bool false, .int .i64 0, .int .i64 (-1), .int .i64 0, .int .i64 0, .int .i64 0, .bool false, .int .i64 7, .int .i64 (-1), .int .i64 0, .int .i64 0, .int .i64 0, .bool false, .int .i64 9] 38
def facG (w : World) : Gr := ⟨1, 1, some ⟨w.heap.size + 1, 0, none⟩, [1], 1, some ⟨w.heap.size + 1 + 1, 0, none⟩, [(some ⟨w.heap.size, 0, none⟩, M.facN, 3)], 1⟩
/-- the grove of the law's first question, where it is laid -/
theorem fac_rdg (w : World) : RdG (((w.alloc facObj).alloc (.cells #[.int .i64 1] 3)).alloc (.cells #[.slice (some ⟨w.heap.size, 0, none⟩) 3 3] 35)) (facG w) := by
  obtain ⟨w1, h1⟩ : ∃ V, V = w.alloc facObj := ⟨_, rfl⟩
  obtain ⟨w2, h2⟩ : ∃ V, V = w1.alloc (.cells #[.int .i64 1] 3) := ⟨_, rfl⟩
  obtain ⟨w3, h3⟩ : ∃ V, V = w2.alloc (.cells #[.slice (some ⟨w.heap.size, 0, none⟩) 3 3] 35) := ⟨_, rfl⟩
  rw [← h1, ← h2, ← h3]
  have z1 : w1.heap.size = w.heap.size + 1 := by rw [h1]; simp
  have z2 : w2.heap.size = w.heap.size + 1 + 1 := by rw [h2]; simp [z1]
  have z3 : w3.heap.size = w.heap.size + 1 + 1 + 1 := by rw [h3]; simp [z2]
  have b2 : Below w1.heap.size w1 w2 := by rw [h2]; exact (Below.refl _ w1).alloc (Nat.le_refl _) _
  have b3 : Below w2.heap.size w2 w3 := by rw [h3]; exact (Below.refl _ w2).alloc (Nat.le_refl _) _
  have N1 := (new_kept h1 (below_on b2 b3)).1
  have N2 := (new_kept h2 b3).1
  have N3 := (new_kept h3 (Below.refl _ _)).1
  rw [z1] at N2
  rw [z2] at N3
  refine ⟨⟨by show 1 ≤ maxLen; unfold maxLen; decide, fun _ => ⟨w.heap.size + 1, 0, rfl, by omega, fun i hi => ?_⟩⟩, ⟨by show 1 ≤ maxLen; unfold maxLen; decide, fun t ht => ?_, fun _ => ⟨w.heap.size + 1 + 1, 0, rfl, by omega, fun i hi => ?_⟩⟩⟩
  · have hi' : i < 1 := hi
    have e : i = 0 := by omega
    subst e
    exact N2 0 _ rfl
  · have et : t = (some ⟨w.heap.size, 0, none⟩, M.facN, 3) := by simpa [facG] using ht
    subst et
    refine ⟨by show 3 ≤ maxLen; unfold maxLen; decide, fun _ => ⟨w.heap.size, 0, rfl, by omega, fun i hi => ?_⟩⟩
    have hi' : i < 3 := hi
    rcases i with _ | _ | _ | i
    · exact ⟨N1 0 _ rfl, N1 1 _ rfl, N1 2 _ rfl, N1 3 _ rfl, N1 4 _ rfl, N1 5 _ rfl⟩
    · exact ⟨N1 6 _ rfl, N1 7 _ rfl, N1 8 _ rfl, N1 9 _ rfl, N1 10 _ rfl, N1 11 _ rfl⟩
    · exact ⟨N1 12 _ rfl, N1 13 _ rfl, N1 14 _ rfl, N1 15 _ rfl, N1 16 _ rfl, N1 17 _ rfl⟩
    · omega
  · have hi' : i < 1 := hi
    have e : i = 0 := by omega
    subst e
    exact N3 0 _ rfl
/-- a grove without a feature stands as it stood -/
theorem M.wo_stand {g : M.Gv} {f : Int} (h : M.woF g f = 0) (r : List Int) : M.standF (M.woV g f) r = M.standF g r := by
  obtain ⟨gd, _, _, e⟩ := M.wo_fine h
  have z1 := M.wo_grove h
  have z2 := (M.good_iff _).2 gd
  have ef : M.gf (M.woV g f) = M.gf g := by rw [e]; rfl
  unfold M.standF
  rw [ef, z1, z2]

set_option maxHeartbeats 16000000 in
set_option maxRecDepth 10000 in
theorem wneeds_walk (hU : WgUsesGives) (hN : WgGainsGives) (hW : WgWithoutGives) (hE : WnEvalGives) (hG : WnGroveGives) (hS : WnStandGives) (a b at' : Option Addr) (rs : List Int) (ts : List M.Nd) (xs : List Sx) (f : Int) (cr ct cx : Nat) (G : Gr) (w : World) (hg : RdG w G) (hr : Rd w a rs) (ht : RdN w at' ts) (hx : RdL w b xs) :
    Calls Try.prog 4 #[G.v, .slice a rs.length cr, .int .i64 f, .slice at' ts.length ct, .slice b xs.length cx] w fun e w' => e = .returned (.bool true) ∧ Below w.heap.size w w' := by
  have hmr : rs.length ≤ 9223372036854775807 := hr.1
  have UF : Hid (∀ W V : World, V = ((W.alloc facObj).alloc (.cells #[.int .i64 1] 3)).alloc (.cells #[.slice (some ⟨W.heap.size, 0, none⟩) 3 3] 35) → Calls Try.prog 9 #[.agg #[.int .i64 1, .int .i64 1, .slice (some ⟨W.heap.size + 1, 0, none⟩) 1 1, .slice (some ⟨W.heap.size + 1 + 1, 0, none⟩) 1 1]] V fun e w' => ∃ bu ou c, e = .returned (.tuple #[.slice (some ⟨bu, ou, none⟩) 1 c, .nilIface]) ∧ w'.cell? ⟨bu, ou + 1, none⟩ = some (.int .i64 1) ∧ Below V.heap.size V w') := fun W V hV => by
    have r := hU (facG W) V (by rw [hV]; exact fac_rdg W)
    have em : (facG W).m = (1, 1, [1], [M.facN]) := rfl
    have ev : (facG W).v = .agg #[.int .i64 1, .int .i64 1, .slice (some ⟨W.heap.size + 1, 0, none⟩) 1 1, .slice (some ⟨W.heap.size + 1 + 1, 0, none⟩) 1 1] := rfl
    rw [ev, em, M.fac_uses.2, M.fac_uses.1, err_nil rfl] at r
    refine r.mono ?_
    rintro e w' ⟨ua, uc, rfl, hu, hb⟩
    obtain ⟨bu, ou, rfl, _, hc⟩ := hu.2 (by simp)
    have := (hc 0 (by simp)).2.1
    exact ⟨bu, ou, uc, rfl, by simpa [M.uAt] using this, hb⟩
  have GN := hide (fun W (hW' : Below w.heap.size w W) => hN at' b ts xs ct cx W (ht.below hW') (hx.below hW'))
  have WO := hide (fun W (hW' : Below w.heap.size w W) => hW G f W (hg.below hW'))
  have RG := hide (fun W (hW' : Below w.heap.size w W) => hG G W (hg.below hW'))
  have RS := hide (fun W (hW' : Below w.heap.size w W) => hS G a rs cr W (hg.below hW') (hr.below hW'))
  obtain ⟨w1, hw1⟩ : ∃ V, V = w.alloc (.cells #[.int .i64 G.f, .int .i64 G.w, .slice G.wa G.ws.length G.wc, .slice G.ta G.ks.length G.tc] 26) := ⟨_, rfl⟩
  have K1 : Hid (Below w.heap.size w w1) := by unfold Hid; rw [hw1]; exact (Below.refl _ w).alloc (Nat.le_refl _) _
  have KC : Hid (∀ W, Below w1.heap.size w1 W → W.cell? ⟨w.heap.size, 0, none⟩ = some (.int .i64 G.f) ∧ W.cell? ⟨w.heap.size, 1, none⟩ = some (.int .i64 G.w) ∧ W.cell? ⟨w.heap.size, 2, none⟩ = some (.slice G.wa G.ws.length G.wc) ∧ W.cell? ⟨w.heap.size, 3, none⟩ = some (.slice G.ta G.ks.length G.tc)) := fun W hW' => by
    have N := new_kept hw1 hW'
    exact ⟨N.1 0 _ rfl, N.1 1 _ rfl, N.1 2 _ rfl, N.1 3 _ rfl⟩
  have gfe : M.gf G.m = G.f := rfl
  unfold Gr.v at WO RG RS ⊢
  go_enter Try.func4, Try.ntmps4
  go_upto_region 1 with fail
  rw [← hw1]
  clear hw1
  obtain ⟨w4, hw4⟩ : ∃ V, V = ((w1.alloc facObj).alloc (.cells #[.int .i64 1] 3)).alloc (.cells #[.slice (some ⟨w1.heap.size, 0, none⟩) 3 3] 35) := ⟨_, rfl⟩
  have U4 := hide (UF.out w1 w4 hw4)
  have J4 : Hid (Below w1.heap.size w1 w4) := by
    unfold Hid
    rw [hw4]
    refine below_on ((Below.refl _ w1).alloc (Nat.le_refl _) _) (below_on ((Below.refl _ _).alloc (Nat.le_refl _) _) ((Below.refl _ _).alloc (Nat.le_refl _) _))
  clear UF
  go_upto_region 5 with (go_at_call 9; rw [← hw4]; refine U4.out.mono ?_; rintro e w5 ⟨bu, ou, cu, rfl, hc5, hb5⟩; have J5 := hide (below_on J4.out hb5); clear hb5)
  clear U4 hw4 J4 hc5
  have VP : Hid (∀ u ∈ M.gnV ts (sms xs), 0 ≤ u.2.2 ∧ 1 ≤ u.2.1) := fun u hu => by
    unfold M.gnV at hu
    split at hu
    · exact M.gains_pos hu
    · cases hu
  go_upto_region 6 with (go_at_call 10; refine (GN.out _ (below_on K1.out J5.out)).mono ?_; rintro e w6 ⟨pv, cv, rfl, hv6, hb6⟩; have V6 := hide hv6; have J6 := hide (below_on J5.out hb6); clear hv6 hb6)
  have HU := hide hU
  have HE := hide hE
  clear GN J5 hU hN hW hE hG hS
  generalize M.gnV ts (sms xs) = V at *
  go_cut [15, 51, 54, 56, 58] from 57 to 57 (fun _ _ _ _ v wx => v = .bool (decide (M.rdyF ts (sms xs) = 0)) ∧ Hid (wx = w6))
  case first =>
    by_cases hz : M.rdyF ts (sms xs) = 0
    · have HD := hide (decide_eq_true hz)
      rw [err_nil hz]
      clear hz WO RG RS KC VP V6
      go_wp2
      go_meet
      case rel => exact ⟨by rw [HD.out], rfl⟩
    · have HD := hide (decide_eq_false hz)
      rw [err_some hz]
      clear hz WO RG RS KC VP V6
      go_wp2
      go_meet
      case rel => exact ⟨by rw [HD.out], rfl⟩
  case rest =>
    obtain ⟨rfl, kw⟩ := hcut
    have kw' := kw.out
    subst kw'
    have lv : V.length ≤ 9223372036854775807 := V6.out.1
    go_upto_if 58 with fail
    go_cut [10, 16, 58] from 59 to 78 (fun _ _ _ wx => Hid (wx = wc))
    case first =>
      cases hd : decide (M.rdyF ts (sms xs) = 0) with
      | true =>
        clear hd WO RG RS KC
        go_wp2
        go_loopw [16] (fun i wq => ∃ k : Nat, k ≤ V.length ∧ i = .int .i64 k ∧ Hid (wq = wc)) (fun i _ => V.length - (intOf i).toNat)
        case atStart => exact ⟨0, Nat.zero_le _, rfl, rfl⟩
        case round =>
          obtain ⟨k, hk, rfl, E⟩ := hrel
          have e := E.out
          subst e
          by_cases hlt : k < V.length
          · obtain ⟨bv, ov, rfl, hbv, hcv⟩ := V6.out.2 (by intro e; rw [e] at hlt; simp at hlt)
            have kz : (k : Int) < (V.length : Int) := by omega
            have c1 := (hcv k hlt).2.1
            have c2 := (hcv k hlt).2.2
            have p := VP.out V[k] (List.getElem_mem hlt)
            rw [← uAt_in V hlt] at p
            have t1 : decide ((M.uAt V k).2.2 < 0) = false := decide_eq_false (by omega)
            have t2 : decide ((M.uAt V k).2.1 < 1) = false := decide_eq_false (by omega)
            clear p hcv VP V6
            generalize (M.uAt V k).2.2 = x2 at *
            generalize (M.uAt V k).2.1 = x1 at *
            go_wp2
            go_roundw
            case rel => exact ⟨k + 1, by omega, by go_num, (by first | rfl | trivial)⟩
            case measure => simp [intOf]; omega
          · have kz : ¬ ((k : Int) < (V.length : Int)) := by omega
            clear VP V6
            go_wp2
            go_meet
            case rel => exact rfl
      | false =>
        clear hd WO RG RS KC VP V6
        go_wp2
        go_meet
        case rel => exact rfl
    case rest =>
      have kx := hcut.out
      subst kx
      clear VP V6 kw
      have W6 := hide (below_on K1.out J6.out)
      obtain ⟨c0, c1, c2, c3⟩ := KC.out _ J6.out
      by_cases hz : M.woF G.m f = 0
      · obtain ⟨gd, f0, fl, ew⟩ := M.wo_fine hz
        obtain ⟨fn, rfl⟩ : ∃ n : Nat, f = (n : Int) := ⟨f.toNat, by omega⟩
        have UJ : Hid (∀ (J : Gr) W, J.m = M.woV G.m (fn : Int) → RdG W J → Calls Try.prog 9 #[.agg #[.int .i64 J.f, .int .i64 J.w, .slice J.wa J.ws.length J.wc, .slice J.ta J.ks.length J.tc]] W fun e w' => ∃ a c, e = .returned (.tuple #[.slice a (M.usV (M.woV G.m (fn : Int))).length c, .nilIface]) ∧ RdU w' a (M.usV (M.woV G.m (fn : Int))) ∧ Below W.heap.size W w') := fun J W hm hr => by
          have := HU.out J W hr
          rw [hm, M.wo_grove hz, err_nil rfl] at this
          exact this
        have UN : Hid (∀ k, k < (M.usV (M.woV G.m (fn : Int))).length → ((M.uAt (M.usV (M.woV G.m (fn : Int))) k).1 == (fn : Int)) = false) := fun k hk => by
          rw [beq_eq_false_iff_ne, uAt_in _ hk]
          exact M.uses_wo hz _ (List.getElem_mem hk)
        have EJ : Hid (∀ (J : Gr) W, J.m = M.woV G.m (fn : Int) → RdG W J → Below w.heap.size w W → Calls Try.prog 13 #[.agg #[.int .i64 J.f, .int .i64 J.w, .slice J.wa J.ws.length J.wc, .slice J.ta J.ks.length J.tc], .slice a rs.length cr] W fun e w' => e = .returned (.tuple #[.int .i64 (M.evalG (M.woV G.m (fn : Int)) rs), errV (M.standF G.m rs)]) ∧ Below W.heap.size W w') := fun J W hm hj hW' => by
          have := HE.out J a rs cr W hj (hr.below hW')
          rw [hm, M.wo_stand hz] at this
          exact this
        have ES : Hid (M.standF G.m rs = 0 → fn < rs.length ∧ M.standF G.m (rs.set fn M.nilI) = 0 ∧ M.evalG G.m (rs.set fn M.nilI) = M.evalG (M.woV G.m (fn : Int)) rs) := fun st => by
          obtain ⟨_, rz, rl⟩ := M.stand_ok st
          have l1 : fn < rs.length := by omega
          refine ⟨l1, M.stand_of gd (M.row_nil fn rz) (by rw [List.length_set]; exact rl), ?_⟩
          rw [ew]
          exact (M.woG_eval l1 gd rz rl).symm
        have EG : Hid (∀ p ys c W, Below w.heap.size w W → Rd W p ys → Calls Try.prog 13 #[.agg #[.int .i64 G.f, .int .i64 G.w, .slice G.wa G.ws.length G.wc, .slice G.ta G.ks.length G.tc], .slice p ys.length c] W fun e w' => e = .returned (.tuple #[.int .i64 (M.evalG G.m ys), errV (M.standF G.m ys)]) ∧ Below W.heap.size W w') := fun p ys c W hW' hp => HE.out G p ys c W (hg.below hW') hp
        rw [hz, err_nil rfl] at WO
        have HR := hide (fun W (hW' : Below w.heap.size w W) => hr.below hW')
        clear RG HU HE
        clear hz gd f0 fl ew gfe
        generalize hWV : M.woV G.m (fn : Int) = WV at *
        clear hWV
        generalize M.usV WV = U at *
        go_upto_region 13 with (go_at_call 11; refine (WO.out _ W6.out).mono ?_; rintro e w8 ⟨J, rfl, hm8, hg8, hb8⟩; have J8 := hide (below_on J6.out hb8); have G8 := hide hg8; have M8 := hide hm8; clear hb8 hg8 hm8)
        obtain ⟨w9, hw9⟩ : ∃ W, W = w8.alloc (.cells #[.int .i64 J.f, .int .i64 J.w, .slice J.wa J.ws.length J.wc, .slice J.ta J.ks.length J.tc] 26) := ⟨_, rfl⟩
        rw [← hw9]
        have J9 : Hid (Below w8.heap.size w8 w9) := by unfold Hid; rw [hw9]; exact (Below.refl _ w8).alloc (Nat.le_refl _) _
        have K9 := hide (below_on J8.out J9.out)
        have G9 := hide (G8.out.below J9.out)
        have KJ : Hid (∀ W, Below w9.heap.size w9 W → W.cell? ⟨w8.heap.size, 0, none⟩ = some (.int .i64 J.f) ∧ W.cell? ⟨w8.heap.size, 1, none⟩ = some (.int .i64 J.w) ∧ W.cell? ⟨w8.heap.size, 2, none⟩ = some (.slice J.wa J.ws.length J.wc) ∧ W.cell? ⟨w8.heap.size, 3, none⟩ = some (.slice J.ta J.ks.length J.tc)) := fun W hW' => by
          have N := new_kept hw9 hW'
          exact ⟨N.1 0 _ rfl, N.1 1 _ rfl, N.1 2 _ rfl, N.1 3 _ rfl⟩
        obtain ⟨d0, d1, d2, d3⟩ := KJ.out w9 (Below.refl _ _)
        have U9 := hide (UJ.out J w9 M8.out G9.out)
        clear hw9 c0 c1 c2 c3 WO UJ G8
        go_upto_region 18 with (go_at_call 9; refine U9.out.mono ?_; rintro e w10 ⟨ua, uc, rfl, hu10, hb10⟩; have U10 := hide hu10; have J10 := hide hb10; clear hu10 hb10)
        have lu : U.length ≤ 9223372036854775807 := U10.out.1
        clear d0 d1 d2 d3 U9
        go_wp2
        go_loopw [20] (fun i wq => ∃ k : Nat, k ≤ U.length ∧ i = .int .i64 k ∧ Hid (wq = w10)) (fun i _ => U.length - (intOf i).toNat)
        case atStart => exact ⟨0, Nat.zero_le _, rfl, rfl⟩
        case round =>
          obtain ⟨k, hk, rfl, E⟩ := hrel
          have e := E.out
          subst e
          by_cases hlt : k < U.length
          · obtain ⟨bv, ov, rfl, hbv, hcv⟩ := U10.out.2 (by intro e; rw [e] at hlt; simp at hlt)
            have kz : (k : Int) < (U.length : Int) := by omega
            have c1 := (hcv k hlt).1
            have t1 := UN.out k hlt
            clear hcv UN U10 KJ KC EJ ES EG HR RS
            generalize (M.uAt U k).1 = x1 at *
            go_wp2
            go_roundw
            case rel => exact ⟨k + 1, by omega, by go_num, (by first | rfl | trivial)⟩
            case measure => simp [intOf]; omega
          · have kz : ¬ ((k : Int) < (U.length : Int)) := by omega
            obtain ⟨d0, d1, d2, d3⟩ := KJ.out wr J10.out
            have K10 := hide (below_on K9.out J10.out)
            have V10 := hide (EJ.out J wr M8.out (G9.out.below J10.out) (below_on K1.out K10.out))
            clear UN U10 EJ KJ G9 M8
            by_cases st : M.standF G.m rs = 0
            · obtain ⟨fl, s0, s1⟩ := ES.out st
              rw [err_nil st] at V10
              have rn : rs ≠ [] := by intro e; rw [e] at fl; simp at fl
              obtain ⟨ba, oa, ea, _, _⟩ := hr.2 rn
              have r8 : rs.length ≤ 1000 := by
                have := ((M.row_ok _).1 (M.stand_ok st).2.1).1
                omega
              have E2 : Hid (∀ g c W, Below w.heap.size w W → Rd W (some ⟨g, 0, none⟩) (rs.set fn M.nilI) → Calls Try.prog 13 #[.agg #[.int .i64 G.f, .int .i64 G.w, .slice G.wa G.ws.length G.wc, .slice G.ta G.ks.length G.tc], .slice (some ⟨g, 0, none⟩) rs.length c] W fun e w' => e = .returned (.tuple #[.int .i64 (M.evalG WV rs), .nilIface]) ∧ Below W.heap.size W w') := fun g c W hW' hp => by
                have := EG.out (some ⟨g, 0, none⟩) (rs.set fn M.nilI) c W hW' hp
                rw [List.length_set, s0, err_nil rfl, s1] at this
                exact this
              have nn : Hid (a = none → cr = 0) := fun e => by rw [ea] at e; cases e
              have fz : (fn : Int) < (rs.length : Int) := by omega
              clear st ES EG s0 s1 RS rn ea
              generalize M.evalG WV rs = ev at *
              go_upto_region 27 with (go_at_call 13; refine V10.out.mono ?_; rintro e w11 ⟨rfl, hb11⟩; have K11 := hide (below_on K10.out hb11); clear hb11)
              have R11 := hide (HR.out w11 (below_on K1.out K11.out))
              clear d0 d1 d2 d3 V10
              go_upto_region 28 with (at_builtin; refine wpList_append_rd rfl (.tmp 132) (.tmp 133) rfl w11.heap.size _ 0 [] rfl (World.ownsRow_nil _ _ _ _) a rs cr rfl R11.out nn.out (by omega) (Nat.le_refl _) ?_; intro v1 w12 hown hb12; have O12 : Hid (w12.ownsRow w11.heap.size 3 1 v1 rs.length (rs.map (Value.int .i64))) := (by have z := hown; rw [Nat.zero_add, List.nil_append] at z; exact z); have J12 := hide hb12; clear hown hb12)
              obtain ⟨g, cp, ev1, gb, gl⟩ := own_shape O12.out (by omega)
              subst ev1
              have K12 := hide (below_on K11.out J12.out)
              have cc := own_at O12.out rfl fn fl
              have fz2 := O12.out.frozenAt fn
              have st := (O12.out.stored fn (.int .i64 M.nilI)).1
              rw [← List.map_set] at st
              have st2 : (w12.setCell ⟨g, fn, none⟩ (.int .i64 M.nilI)).ownsRow w11.heap.size 3 1 (.slice (some ⟨g, 0, none⟩) (rs.set fn M.nilI).length cp) (rs.set fn M.nilI).length ((rs.set fn M.nilI).map (Value.int .i64)) := by rw [List.length_set]; exact st
              obtain ⟨pa, pc, pe, pr, _⟩ := own_rd st2
              cases pe
              have J13 : Hid (Below w11.heap.size w11 (w12.setCell ⟨g, fn, none⟩ (.int .i64 M.nilI))) := J12.out.setCell (p := ⟨g, fn, none⟩) gb _
              have K13 := hide (below_on K11.out J13.out)
              obtain ⟨y0, y1, y2, y3⟩ := KC.out _ K13.out
              have Q13 := hide (E2.out g cp _ (below_on K1.out K13.out) pr)
              have en : M.nilI = -1125899906842624 := rfl
              rw [en] at y0 y1 y2 y3 Q13 K13
              obtain ⟨w13, hw13⟩ : ∃ V, V = w12.setCell ⟨g, fn, none⟩ (.int .i64 (-1125899906842624)) := ⟨_, rfl⟩
              rw [← hw13] at y0 y1 y2 y3 Q13 K13
              clear st st2 pr E2 HR nn R11 J12 J13 KC en
              generalize rs.getD fn 0 = old at *
              go_upto_region 29 with fail
              rw [← hw13]
              clear hw13 cc fz2
              go_wp2_with (go_at_call 13; refine Q13.out.mono ?_; rintro e w14 ⟨rfl, hb14⟩; have K14 := hide (below_on K1.out (below_on K13.out hb14)); clear hb14)
              go_ret
              exact ⟨rfl, K14.out⟩
            · have st2 : (M.standF G.m rs != 0) = true := by rw [bne_iff_ne]; exact st
              rw [err_some st] at V10
              clear st ES EG HR
              generalize M.standF G.m rs = sf at *
              go_wp2_with (first
                | (go_at_call 13; refine V10.out.mono ?_; rintro e w11 ⟨rfl, hb11⟩; have K11 := hide (below_on K10.out hb11); obtain ⟨y0, y1, y2, y3⟩ := KC.out w11 K11.out; clear hb11)
                | (go_at_call 14; refine (RS.out _ (below_on K1.out K11.out)).mono ?_; rintro e w12 ⟨rfl, hb12⟩; have K12 := hide (below_on K1.out (below_on K11.out hb12)); clear hb12))
              go_ret
              exact ⟨rfl, K12.out⟩
      · have gz := hz
        unfold M.woF at gz
        rw [err_some hz] at WO
        by_cases g1 : M.groveF G.m = 0
        · rw [if_neg (by simp [g1]), gfe] at gz
          have fo : f < 0 ∨ G.f ≤ f := by
            by_cases q : f < 0 ∨ G.f ≤ f
            · exact q
            · rw [if_neg q] at gz; exact absurd rfl gz
          rw [g1] at RG
          by_cases f0 : f < 0
          · have t1 : decide (f < 0) = true := decide_eq_true f0
            clear hz gz fo f0 g1 RS gfe
            generalize M.woF G.m f = wf at *
            go_upto_region 13 with (go_at_call 11; refine (WO.out _ W6.out).mono ?_; rintro e w8 ⟨J, rfl, hm8, hg8, hb8⟩; have J8 := hide (below_on J6.out hb8); clear hb8 hg8 hm8)
            obtain ⟨w9, hw9⟩ : ∃ W, W = w8.alloc (.cells #[.int .i64 J.f, .int .i64 J.w, .slice J.wa J.ws.length J.wc, .slice J.ta J.ks.length J.tc] 26) := ⟨_, rfl⟩
            rw [← hw9]
            have K9 : Hid (Below w1.heap.size w1 w9) := by unfold Hid; rw [hw9]; exact below_on J8.out ((Below.refl _ w8).alloc (Nat.le_refl _) _)
            obtain ⟨d0, d1, d2, d3⟩ := KC.out w9 K9.out
            have Q9 := hide (RG.out w9 (below_on K1.out K9.out))
            clear hw9 c0 c1 c2 c3 WO RG
            go_wp2_with (go_at_call 12; refine Q9.out.mono ?_; rintro e w10 ⟨rfl, hb10⟩; have K10 := hide (below_on K1.out (below_on K9.out hb10)); clear hb10)
            go_ret
            exact ⟨rfl, K10.out⟩
          · have t1 : decide (f < 0) = false := decide_eq_false f0
            have t2 : decide (G.f ≤ f) = true := decide_eq_true (by omega)
            clear hz gz fo f0 g1 RS gfe
            generalize M.woF G.m f = wf at *
            go_upto_region 13 with (go_at_call 11; refine (WO.out _ W6.out).mono ?_; rintro e w8 ⟨J, rfl, hm8, hg8, hb8⟩; have J8 := hide (below_on J6.out hb8); clear hb8 hg8 hm8)
            obtain ⟨w9, hw9⟩ : ∃ W, W = w8.alloc (.cells #[.int .i64 J.f, .int .i64 J.w, .slice J.wa J.ws.length J.wc, .slice J.ta J.ks.length J.tc] 26) := ⟨_, rfl⟩
            rw [← hw9]
            have K9 : Hid (Below w1.heap.size w1 w9) := by unfold Hid; rw [hw9]; exact below_on J8.out ((Below.refl _ w8).alloc (Nat.le_refl _) _)
            obtain ⟨d0, d1, d2, d3⟩ := KC.out w9 K9.out
            have Q9 := hide (RG.out w9 (below_on K1.out K9.out))
            clear hw9 c0 c1 c2 c3 WO RG
            go_wp2_with (go_at_call 12; refine Q9.out.mono ?_; rintro e w10 ⟨rfl, hb10⟩; have K10 := hide (below_on K1.out (below_on K9.out hb10)); obtain ⟨y0, y1, y2, y3⟩ := KC.out w10 (below_on K9.out hb10); clear hb10)
            go_ret
            exact ⟨rfl, K10.out⟩
        · have t1 : (M.groveF G.m != 0) = true := by rw [bne_iff_ne]; exact g1
          clear hz gz g1 RS gfe
          generalize M.groveF G.m = gF at *
          generalize M.woF G.m f = wf at *
          go_upto_region 13 with (go_at_call 11; refine (WO.out _ W6.out).mono ?_; rintro e w8 ⟨J, rfl, hm8, hg8, hb8⟩; have J8 := hide (below_on J6.out hb8); clear hb8 hg8 hm8)
          obtain ⟨w9, hw9⟩ : ∃ W, W = w8.alloc (.cells #[.int .i64 J.f, .int .i64 J.w, .slice J.wa J.ws.length J.wc, .slice J.ta J.ks.length J.tc] 26) := ⟨_, rfl⟩
          rw [← hw9]
          have K9 : Hid (Below w1.heap.size w1 w9) := by unfold Hid; rw [hw9]; exact below_on J8.out ((Below.refl _ w8).alloc (Nat.le_refl _) _)
          obtain ⟨d0, d1, d2, d3⟩ := KC.out w9 K9.out
          have Q9 := hide (RG.out w9 (below_on K1.out K9.out))
          clear hw9 c0 c1 c2 c3 WO RG KC
          go_wp2_with (go_at_call 12; refine Q9.out.mono ?_; rintro e w10 ⟨rfl, hb10⟩; have K10 := hide (below_on K1.out (below_on K9.out hb10)); clear hb10)
          go_ret
          exact ⟨rfl, K10.out⟩

end Go.Proofs.Ytlloiccodjnkcag

namespace Go.Proofs.Ytlloiccodjnkcag
open Go.ChangeShapes Go.WideShapes Go.ChangeAt Go.RowKit Go.Lib
set_option linter.unusedVariables false

theorem isway_any (x : Int) (w : World) (iw : Bool) (h : Hid (iw = decide (1 ≤ x ∧ x ≤ 3))) :
    Calls Try.prog 36 #[.int .i64 x] w fun e w' => e = .returned (.bool iw) ∧ w' = w := by
  rcases (show x = 1 ∨ x = 2 ∨ x = 3 ∨ (x ≠ 1 ∧ x ≠ 2 ∧ x ≠ 3) from by omega) with c | c | c | ⟨c1, c2, c3⟩
  · have q1 : (x == 1) = true := by rw [beq_iff_eq]; exact c
    have E : Hid (true = iw) := by unfold Hid; rw [h.out, decide_eq_true (by omega)]
    clear c h
    go_enter Try.func36, Try.ntmps36
    go_wp2
    go_ret
    exact ⟨ret_bool E.out, rfl⟩
  · have q1 : (x == 1) = false := by rw [beq_eq_false_iff_ne]; omega
    have q2 : (x == 2) = true := by rw [beq_iff_eq]; exact c
    have E : Hid (true = iw) := by unfold Hid; rw [h.out, decide_eq_true (by omega)]
    clear c h
    go_enter Try.func36, Try.ntmps36
    go_wp2
    go_ret
    exact ⟨ret_bool E.out, rfl⟩
  · have q1 : (x == 1) = false := by rw [beq_eq_false_iff_ne]; omega
    have q2 : (x == 2) = false := by rw [beq_eq_false_iff_ne]; omega
    have q3 : (x == 3) = true := by rw [beq_iff_eq]; exact c
    have E : Hid (true = iw) := by unfold Hid; rw [h.out, decide_eq_true (by omega)]
    clear c h
    go_enter Try.func36, Try.ntmps36
    go_wp2
    go_ret
    exact ⟨ret_bool E.out, rfl⟩
  · have q1 : (x == 1) = false := by rw [beq_eq_false_iff_ne]; omega
    have q2 : (x == 2) = false := by rw [beq_eq_false_iff_ne]; omega
    have q3 : (x == 3) = false := by rw [beq_eq_false_iff_ne]; omega
    have E : Hid (false = iw) := by unfold Hid; rw [h.out, decide_eq_false (by omega)]
    clear c1 c2 c3 h
    go_enter Try.func36, Try.ntmps36
    go_wp2
    go_ret
    exact ⟨ret_bool E.out, rfl⟩

theorem kept_box {w W : World} {a0 a1 a2 a3 : Value} {t : TypeId} (h : Below (w.alloc (.cells #[a0, a1, a2, a3] t)).heap.size (w.alloc (.cells #[a0, a1, a2, a3] t)) W) :
    W.cell? ⟨w.heap.size, 0, none⟩ = some a0 ∧ W.cell? ⟨w.heap.size, 1, none⟩ = some a1 ∧ W.cell? ⟨w.heap.size, 2, none⟩ = some a2 ∧ W.cell? ⟨w.heap.size, 3, none⟩ = some a3 := by
  have hs : w.heap.size < (w.alloc (.cells #[a0, a1, a2, a3] t)).heap.size := by simp
  exact ⟨(h.cell (p := ⟨w.heap.size, 0, none⟩) hs).trans (World.cell?_alloc_at _ _ _ 0 rfl), (h.cell (p := ⟨w.heap.size, 1, none⟩) hs).trans (World.cell?_alloc_at _ _ _ 1 rfl), (h.cell (p := ⟨w.heap.size, 2, none⟩) hs).trans (World.cell?_alloc_at _ _ _ 2 rfl), (h.cell (p := ⟨w.heap.size, 3, none⟩) hs).trans (World.cell?_alloc_at _ _ _ 3 rfl)⟩
theorem M.grove_rng {g : M.Gv} (h : M.gf g < 0 ∨ 8 < M.gf g ∨ M.gw g < 1 ∨ 3 < M.gw g) : M.groveF g = 1 := by unfold M.groveF; rw [if_pos h]
theorem err_num (c : Int) (h : c ≠ 0) : Ending.returned (.iface 55 (.int .i64 c)) = .returned (errV c) := by rw [err_some h]
theorem err_is {c d : Int} (h : c = d) (h0 : c ≠ 0) : Ending.returned (.iface 55 (.int .i64 c)) = .returned (errV d) := by rw [← h, err_some h0]
theorem err_none {d : Int} (h : d = 0) : Ending.returned .nilIface = .returned (errV d) := by rw [err_nil h]

/-- what is wrong with how many trees there are, or with their weights -/
def M.wtsF (ws : List Int) (n : Nat) : Int := if n = 0 then 5 else if 12 < n then 4 else if ws.length ≠ n then 3 else if ws.any M.wBad = true then 1 else 0
theorem err_go {c d : Int} (h : c = d) : Ending.returned (errV c) = .returned (errV d) := by rw [h]

set_option maxHeartbeats 4000000 in
theorem gwts_any (a : Option Addr) (ws : List Int) (ca n : Nat) (w : World) (h : Rd w a ws) :
    Calls Try.prog 37 #[.slice a ws.length ca, .int .i64 (n : Nat)] w fun e w' => e = .returned (errV (M.wtsF ws n)) ∧ w' = w := by
  have hm2 : ws.length ≤ 9223372036854775807 := h.1
  have HR := hide h
  clear h
  unfold M.wtsF
  by_cases t0 : n = 0
  · rw [if_pos t0]
    have q4 : ((n : Int) == 0) = true := by rw [beq_iff_eq]; omega
    clear t0
    go_enter Try.func37, Try.ntmps37
    go_wp2
    go_ret
    exact ⟨err_num 5 (by decide), rfl⟩
  · rw [if_neg t0]
    have q4 : ((n : Int) == 0) = false := by rw [beq_eq_false_iff_ne]; omega
    have t0' : 0 < n := by omega
    by_cases t12 : 12 < n
    · rw [if_pos t12]
      have q5 : decide (12 < (n : Int)) = true := decide_eq_true (by omega)
      clear t0 t12 t0'
      go_enter Try.func37, Try.ntmps37
      go_wp2
      go_ret
      exact ⟨err_num 4 (by decide), rfl⟩
    · rw [if_neg t12]
      have q5 : decide (12 < (n : Int)) = false := decide_eq_false (by omega)
      by_cases tw : ws.length ≠ n
      · rw [if_pos tw]
        have q6 : ((ws.length : Int) != (n : Int)) = true := by rw [bne_iff_ne]; omega
        clear t0 t12 t0' tw
        go_enter Try.func37, Try.ntmps37
        go_wp2
        go_ret
        exact ⟨err_num 3 (by decide), rfl⟩
      · rw [if_neg tw]
        have WB : Hid (∀ k (h : k < ws.length), M.wBad (ws.getD k 0) = true → ws.any M.wBad = true) := fun k h e => List.any_eq_true.2 ⟨_, by rw [M.getD_at h]; exact List.getElem_mem h, e⟩
        have WN : Hid ((∀ k, k < ws.length → M.wBad (ws.getD k 0) = false) → ws.any M.wBad = false) := fun h => by
          cases e : ws.any M.wBad with
          | false => rfl
          | true =>
            obtain ⟨x, hx, e2⟩ := List.any_eq_true.1 e
            obtain ⟨i, hi, rfl⟩ := List.getElem_of_mem hx
            have := h i hi
            rw [M.getD_at hi, e2] at this
            cases this
        have q6 : ((ws.length : Int) != (n : Int)) = false := by rw [bne_eq_false_iff_eq]; omega
        obtain ⟨bw, ow, ewa, hbw, hcw0⟩ := HR.out.2 (by intro e; rw [e] at tw; simp at tw; omega)
        have HCW := hide hcw0
        subst ewa
        clear HR t0 t12 tw t0' hcw0
        generalize hAB : ws.any M.wBad = AB at *
        have HAB := hide hAB
        clear hAB
        generalize hRV : (if AB = true then (1 : Int) else 0) = RV
        have HRV := hide hRV
        clear hRV
        go_enter Try.func37, Try.ntmps37
        go_wp2
        go_loopw [20] (fun i wr => ∃ k : Nat, k ≤ ws.length ∧ i = .int .i64 k ∧ Hid (∀ j, j < k → M.wBad (ws.getD j 0) = false) ∧ wr = w) (fun i _ => ws.length - (intOf i).toNat)
        case atStart => exact ⟨0, Nat.zero_le _, rfl, fun j hj => by omega, rfl⟩
        case round =>
          obtain ⟨k, hk, rfl, I, ew⟩ := hrel
          subst ew
          by_cases hlt : k < ws.length
          · have cw := HCW.out k hlt
            have kz : (k : Int) < (ws.length : Int) := by omega
            have wb : M.wBad (ws.getD k 0) = (decide (ws.getD k 0 < 1) || decide (1000 < ws.getD k 0)) := rfl
            by_cases b1 : ws.getD k 0 < 1
            · have E : Hid (AB = true) := WB.out k hlt (by rw [wb, decide_eq_true b1]; rfl)
              have p1 : decide (ws.getD k 0 < 1) = true := decide_eq_true b1
              have RE : Hid ((1 : Int) = RV) := by unfold Hid; rw [← HRV.out, if_pos E.out]
              clear WB WN wb b1 E HCW I
              generalize ws.getD k 0 = z at *
              go_wp2
              go_ret
              exact ⟨err_is RE.out (by decide), rfl⟩
            · by_cases b2 : 1000 < ws.getD k 0
              · have E : Hid (AB = true) := WB.out k hlt (by rw [wb, decide_eq_true b2]; simp)
                have p1 : decide (ws.getD k 0 < 1) = false := decide_eq_false b1
                have p2 : decide (1000 < ws.getD k 0) = true := decide_eq_true b2
                have RE : Hid ((1 : Int) = RV) := by unfold Hid; rw [← HRV.out, if_pos E.out]
                clear WB WN wb b1 b2 E HCW I
                generalize ws.getD k 0 = z at *
                go_wp2
                go_ret
                exact ⟨err_is RE.out (by decide), rfl⟩
              · have p1 : decide (ws.getD k 0 < 1) = false := decide_eq_false b1
                have p2 : decide (1000 < ws.getD k 0) = false := decide_eq_false b2
                have N : Hid (∀ j, j < k + 1 → M.wBad (ws.getD j 0) = false) := fun j hj => by
                  by_cases e : j = k
                  · rw [e, wb, p1, p2]; rfl
                  · exact I.out j (by omega)
                clear WB WN wb b1 b2 HCW I
                generalize ws.getD k 0 = z at *
                go_wp2
                go_roundw
                case rel => exact ⟨k + 1, by omega, by go_num, N, trivial⟩
                case measure => simp [intOf]; omega
          · have E : Hid (AB = false) := WN.out (fun j hj => I.out j (by omega))
            have RE : Hid (RV = 0) := by unfold Hid; rw [← HRV.out, E.out]; rfl
            clear WB WN I E HAB HCW
            go_wp2
            go_ret
            exact ⟨err_none RE.out, rfl⟩

theorem M.grove_wts {g : M.Gv} (h : ¬ (M.gf g < 0 ∨ 8 < M.gf g ∨ M.gw g < 1 ∨ 3 < M.gw g)) : M.groveF g = if M.wtsF (M.gs g) (M.gt g).length ≠ 0 then M.wtsF (M.gs g) (M.gt g).length else M.treesF (M.gf g) (M.gt g) := by
  unfold M.groveF M.wtsF
  rw [if_neg h]
  repeat' split
  all_goals first | rfl | omega | simp_all

set_option maxHeartbeats 16000000 in
set_option maxRecDepth 10000 in
theorem gcheck_any (G : Gr) (w : World) (h : RdG w G) :
    Calls Try.prog 17 #[G.v] w fun e w' => e = .returned (errV (M.groveF G.m)) ∧ Below w.heap.size w w' := by
  have hm1 : G.ks.length ≤ 9223372036854775807 := h.2.1
  have hm2 : G.ws.length ≤ 9223372036854775807 := h.1.1
  have HG := hide h
  have tlen : (M.gt G.m).length = G.ks.length := tl_len G.ks
  have B0 : Hid (∀ o, Below w.heap.size w (w.alloc o)) := fun o => (Below.refl _ w).alloc (Nat.le_refl _) o
  obtain ⟨iw, hiw⟩ : ∃ iw : Bool, iw = decide (1 ≤ G.w ∧ G.w ≤ 3) := ⟨_, rfl⟩
  have IW := hide (fun W => isway_any G.w W iw hiw)
  have CW := hide (fun W (hW : Below w.heap.size w W) => gwts_any G.wa G.ws G.wc G.ks.length W (HG.out.below hW).1)
  clear h
  unfold Gr.v
  by_cases hR : M.gf G.m < 0 ∨ 8 < M.gf G.m ∨ M.gw G.m < 1 ∨ 3 < M.gw G.m
  · rw [M.grove_rng hR]
    have hR' : G.f < 0 ∨ 8 < G.f ∨ G.w < 1 ∨ 3 < G.w := hR
    clear hR tlen HG CW
    by_cases c0 : G.f < 0
    · have q0 : decide (G.f < 0) = true := decide_eq_true (by omega)
      clear hR' c0 hiw
      go_enter Try.func17, Try.ntmps17
      go_wp2
      go_ret
      exact ⟨err_num 1 (by decide), B0.out _⟩
    · by_cases c1 : 8 < G.f
      · have q0 : decide (G.f < 0) = false := decide_eq_false (by omega)
        have q1 : decide (8 < G.f) = true := decide_eq_true (by omega)
        clear hR' c0 c1 hiw
        go_enter Try.func17, Try.ntmps17
        go_wp2
        go_ret
        exact ⟨err_num 1 (by decide), B0.out _⟩
      · have q0 : decide (G.f < 0) = false := decide_eq_false (by omega)
        have q1 : decide (8 < G.f) = false := decide_eq_false (by omega)
        have e : iw = false := by rw [hiw, decide_eq_false (by omega)]
        subst e
        clear hR' c0 c1 hiw
        go_enter Try.func17, Try.ntmps17
        go_wp2_with (go_at_call 36; refine (IW.out _).mono ?_; rintro e w1 ⟨rfl, e1⟩; subst w1)
        go_ret
        exact ⟨err_num 1 (by decide), B0.out _⟩
  · have hR' : ¬ (G.f < 0 ∨ 8 < G.f ∨ G.w < 1 ∨ 3 < G.w) := hR
    have q0 : decide (G.f < 0) = false := decide_eq_false (by omega)
    have q1 : decide (8 < G.f) = false := decide_eq_false (by omega)
    have e : iw = true := by rw [hiw, decide_eq_true (by omega)]
    subst e
    have E0 : M.groveF G.m = if M.wtsF G.ws G.ks.length ≠ 0 then M.wtsF G.ws G.ks.length else M.treesF G.f (tl G.ks) := by
      rw [← tlen]; exact M.grove_wts hR
    rw [E0]
    clear hR E0 hiw hR'
    by_cases hw : M.wtsF G.ws G.ks.length ≠ 0
    · rw [if_pos hw]
      have HW := hide hw
      rw [err_some hw] at CW
      clear tlen HG hw
      generalize M.wtsF G.ws G.ks.length = wf at *
      go_enter Try.func17, Try.ntmps17
      go_wp2_with (first
        | (go_at_call 36; refine (IW.out _).mono ?_; rintro e w1 ⟨rfl, e1⟩; subst w1)
        | (go_at_call 37; refine (CW.out _ (B0.out _)).mono ?_; rintro e w2 ⟨rfl, e2⟩; subst w2))
      go_ret
      exact ⟨err_num _ HW.out, B0.out _⟩
    · rw [if_neg hw]
      have w0 : M.wtsF G.ws G.ks.length = 0 := by omega
      rw [w0, err_nil rfl] at CW
      have t0' : 0 < G.ks.length := by
        rcases Nat.eq_zero_or_pos G.ks.length with q | q
        · unfold M.wtsF at w0; rw [if_pos q] at w0; cases w0
        · exact q
      have n12 : G.ks.length ≤ 12 := by
        unfold M.wtsF at w0; rw [if_neg (by omega)] at w0
        by_cases q : 12 < G.ks.length
        · rw [if_pos q] at w0; cases w0
        · omega
      have TA : Hid (∀ k, k < G.ks.length → (∀ j, j < k → (M.treeF ((tl G.ks).getD j []) G.f).2 = 0) → (M.treeF ((tl G.ks).getD k []) G.f).2 ≠ 0 → M.treesF G.f (tl G.ks) = (M.treeF ((tl G.ks).getD k []) G.f).2) := fun k hk h hn => M.trees_at (by rw [tl_len]; exact hk) h hn
      have TN : Hid ((∀ j, j < G.ks.length → (M.treeF ((tl G.ks).getD j []) G.f).2 = 0) → M.treesF G.f (tl G.ks) = 0) := fun h => M.trees_all (fun j hj => h j (by rw [tl_len] at hj; exact hj))
      have TL : Hid (∀ k (h : k < G.ks.length), (tl G.ks).getD k [] = G.ks[k].2.1) := fun k h => tl_at G.ks h
      have RT : Hid (∀ W, Below w.heap.size w W → RdT W G.ta G.ks) := fun W hW => (HG.out.below hW).2
      obtain ⟨bt, ot, eta, hbt, hct0⟩ := HG.out.2.2.2 (by intro e; rw [e] at t0'; simp at t0')
      have HCT : Hid (∀ W, Below w.heap.size w W → ∀ i (hi : i < G.ks.length), W.cell? ⟨bt, ot + i, none⟩ = some (tV G.ks[i])) := fun W hW i hi => (hW.cell (p := ⟨bt, ot + i, none⟩) hbt).trans (hct0 i hi)
      rw [eta]
      clear tlen HG hw w0 hct0 hbt eta
      generalize M.treesF G.f (tl G.ks) = TF at *
      have KG : Hid (∀ W, Below (w.alloc (.cells #[.int .i64 G.f, .int .i64 G.w, .slice G.wa G.ws.length G.wc, .slice (some ⟨bt, ot, none⟩) G.ks.length G.tc] 26)).heap.size (w.alloc (.cells #[.int .i64 G.f, .int .i64 G.w, .slice G.wa G.ws.length G.wc, .slice (some ⟨bt, ot, none⟩) G.ks.length G.tc] 26)) W → Below w.heap.size w W ∧ W.cell? ⟨w.heap.size, 0, none⟩ = some (.int .i64 G.f) ∧ W.cell? ⟨w.heap.size, 3, none⟩ = some (.slice (some ⟨bt, ot, none⟩) G.ks.length G.tc)) := fun W hW =>
        ⟨below_on ((Below.refl _ w).alloc (Nat.le_refl _) _) hW, (kept_box hW).1, (kept_box hW).2.2.2⟩
      go_enter Try.func17, Try.ntmps17
      go_wp2_with (first
        | (go_at_call 36; refine (IW.out _).mono ?_; rintro e w1 ⟨rfl, e1⟩; subst w1)
        | (go_at_call 37; refine (CW.out _ (B0.out _)).mono ?_; rintro e w2 ⟨rfl, e2⟩; subst w2))
      go_loopw [35] (fun i wr => ∃ k : Nat, k ≤ G.ks.length ∧ i = .int .i64 k ∧ Hid (∀ j, j < k → (M.treeF ((tl G.ks).getD j []) G.f).2 = 0) ∧ Hid (Below (w.alloc (.cells #[.int .i64 G.f, .int .i64 G.w, .slice G.wa G.ws.length G.wc, .slice (some ⟨bt, ot, none⟩) G.ks.length G.tc] 26)).heap.size (w.alloc (.cells #[.int .i64 G.f, .int .i64 G.w, .slice G.wa G.ws.length G.wc, .slice (some ⟨bt, ot, none⟩) G.ks.length G.tc] 26)) wr)) (fun i _ => G.ks.length - (intOf i).toNat)
      case atStart => exact ⟨0, Nat.zero_le _, rfl, fun j hj => by omega, Below.refl _ _⟩
      case round =>
        obtain ⟨k, hk, rfl, I, K⟩ := hrel
        obtain ⟨kw, c0, c3⟩ := KG.out _ K.out
        by_cases hlt : k < G.ks.length
        · obtain ⟨hk1, hk2, hk3⟩ := RT.out wr kw
          have ct := HCT.out wr kw k hlt
          have rk := hk2 _ (List.getElem_mem hlt)
          have TE := TL.out k hlt
          have TR := hide (tcheck_any G.ks[k].1 G.ks[k].2.1 G.ks[k].2.2 G.f wr rk)
          have TAK := hide (TA.out k hlt I.out)
          rw [TE] at TAK
          have kz : (k : Int) < (G.ks.length : Int) := by omega
          unfold tV at ct
          have N : Hid ((M.treeF G.ks[k].2.1 G.f).2 = 0 → ∀ j, j < k + 1 → (M.treeF ((tl G.ks).getD j []) G.f).2 = 0) := fun hz j hj => by
            by_cases e : j = k
            · rw [e, TE]; exact hz
            · exact I.out j (by omega)
          clear hk1 hk2 hk3 HCT rk TE TA TN TL RT I
          generalize (M.treeF G.ks[k].2.1 G.f).2 = te at *
          generalize (M.treeF G.ks[k].2.1 G.f).1 = tp at *
          generalize G.ks[k].2.1.length = tn at *
          generalize G.ks[k].2.2 = tcc at *
          generalize G.ks[k].1 = ta at *
          by_cases hz : te = 0
          · rw [err_nil hz] at TR
            have NN := hide (N.out hz)
            clear hz N TAK
            go_wp2_with (go_at_call 38; refine TR.out.mono ?_; rintro e w5 ⟨rfl, hb5⟩; have K6 := hide (below_on K.out hb5))
            go_roundw
            case rel => exact ⟨k + 1, by omega, by go_num, NN, K6⟩
            case measure => simp [intOf]; omega
          · rw [err_some hz] at TR
            have TE2 := hide (TAK.out hz)
            have HZ := hide hz
            clear hz N TAK
            go_wp2_with (go_at_call 38; refine TR.out.mono ?_; rintro e w5 ⟨rfl, hb5⟩; have kw6 := below_on kw hb5)
            go_ret
            exact ⟨err_is (by rw [TE2.out]) HZ.out, kw6⟩
        · have TZ : Hid (TF = 0) := TN.out (fun j hj => I.out j (by omega))
          clear TA TN TL RT I HCT
          go_wp2
          go_ret
          exact ⟨err_none TZ.out, kw⟩

end Go.Proofs.Ytlloiccodjnkcag
