/-
  Several texts as one: Groves, BooF, WgU, WgW, DifPG, TCounts, GFill, BooSq, BooLeft, BooLaid, BooNew.
-/
import Derived.Test.YtlloiccodjnkcagGreatDoorRunC3
import Derived.Test.YtlloiccodjnkcagGreatDoorRunC6
import Derived.Lib.SmallJoins
import Derived.Test.YtlloiccodjnkcagGreatDoorRunC7
import Derived.Test.YtlloiccodjnkcagGreatDoorRunC8
import Derived.Test.YtlloiccodjnkcagGreatDoorRunC9
import Derived.Test.YtlloiccodjnkcagGreatDoorRunC1
import Derived.RegionTactic
import Derived.Deep.Cut
import Derived.Deep.CutRange
import Derived.BigQuiet
import Derived.Deep.QuietTactic
import Derived.OwnWalk
namespace Go.Proofs.YtlloiccodjnkcagGreatDoor
open Go.ChangeShapes Go.WideShapes Go.ChangeAt Go.RowKit Go.Deep
set_option linter.unusedVariables false

abbrev Tc := Option Addr × List M.Nd × Nat
def tV (k : Tc) : Value := .slice k.1 k.2.1.length k.2.2
/-- trees, where they lie -/
def RdT (w : World) (a : Option Addr) (ks : List Tc) : Prop :=
  ks.length ≤ maxLen ∧ (∀ k ∈ ks, RdN w k.1 k.2.1) ∧ (ks ≠ [] → ∃ b off, a = some ⟨b, off, none⟩ ∧ b < w.heap.size ∧ ∀ i (h : i < ks.length), w.cell? ⟨b, off + i, none⟩ = some (tV ks[i]))
theorem RdT.below {w w' : World} {a : Option Addr} {ks : List Tc} (h : RdT w a ks) (hb : Below w.heap.size w w') : RdT w' a ks :=
  ⟨h.1, fun k hk => (h.2.1 k hk).below hb, fun hn => by
    obtain ⟨b, off, e, hl, hc⟩ := h.2.2 hn
    exact ⟨b, off, e, Nat.lt_of_lt_of_le hl hb.size, fun i hi => (hb.cell (p := ⟨b, off + i, none⟩) hl).trans (hc i hi)⟩⟩
def tl (ks : List Tc) : List (List M.Nd) := ks.map (·.2.1)
theorem tl_len (ks : List Tc) : (tl ks).length = ks.length := by simp [tl]
theorem tl_at (ks : List Tc) {k : Nat} (h : k < ks.length) : (tl ks).getD k [] = ks[k].2.1 := by
  rw [M.getD_at (by rw [tl_len]; exact h)]; simp [tl]

/-- a grove, as it is handed on -/
structure Gr where
  f : Int
  w : Int
  wa : Option Addr
  ws : List Int
  wc : Nat
  ta : Option Addr
  ks : List Tc
  tc : Nat
def Gr.v (G : Gr) : Value := .agg #[.int .i64 G.f, .int .i64 G.w, .slice G.wa G.ws.length G.wc, .slice G.ta G.ks.length G.tc]
def Gr.m (G : Gr) : M.Gv := (G.f, G.w, G.ws, tl G.ks)
def RdG (w : World) (G : Gr) : Prop := Rd w G.wa G.ws ∧ RdT w G.ta G.ks
theorem RdG.below {w w' : World} {G : Gr} (h : RdG w G) (hb : Below w.heap.size w w') : RdG w' G := ⟨h.1.below hb, h.2.below hb⟩

theorem cellsTree : Tryz.prog.cellsOf 26 = 1 := by kernel_rfl
set_option maxRecDepth 10000 in
theorem open_trees {H : Type} {enc : TypeId × Value → H} {W : World} {base : Nat} {spare : Nat → Bool} {held : Bool} {fuel : Nat} {a : Option Addr} {len cap : Nat} {x : DataW H × List MemPlace}
    (h : DataW.trod enc Tryz.prog W base spare held fuel 23 [.slice a len cap] = some x) : ∃ ks : List Tc, ks.length = len ∧ RdT W a ks := by
  rcases open_slice Tryz.underlying23 h with ⟨hcs, _⟩ | ⟨a', len', cap', m, n, D, Pl, hcs, _, hl, hm, hmm, _, hx⟩
  · cases hcs
    exact ⟨[], rfl, ⟨Nat.zero_le _, (fun k hk => by cases hk), fun h => absurd rfl h⟩⟩
  · cases hcs
    have hlm : len ≤ m := by rw [hmm]; split <;> omega
    have each : ∀ i, i < len → ∃ k : Tc, W.cell? (a'.add i) = some (tV k) ∧ RdN W k.1 k.2.1 := by
      intro i hi
      obtain ⟨cs, h1, h2⟩ := hx i (by omega)
      rw [cellsTree] at h1
      obtain ⟨_, hlen, hcell⟩ := World.cells?_some h1
      match cs, hlen with
      | [c0], _ =>
        have d0 := hcell 0 (by omega)
        rw [add_add] at d0
        simp at d0
        have sl : ∃ b l c, c0 = .slice b l c := by
          rcases open_slice Tryz.underlying26 h2 with ⟨hcs, _⟩ | ⟨a2, len2, cap2, _, _, _, _, hcs, _⟩
          · exact ⟨none, 0, 0, by cases hcs; rfl⟩
          · exact ⟨some a2, len2, cap2, by cases hcs; rfl⟩
        obtain ⟨b, l, c, rfl⟩ := sl
        obtain ⟨ts, e, hr⟩ := open_nodes h2
        subst e
        exact ⟨(b, ts, c), d0, hr⟩
    obtain ⟨f, hf⟩ := choose_lt each
    refine ⟨(List.range len).map f, by simp, ⟨by simp; omega, ?_, fun hne => ?_⟩⟩
    · intro k hk
      rw [List.mem_map] at hk
      obtain ⟨i, hi, rfl⟩ := hk
      exact (hf i (by simpa using hi)).2
    · have hp : 0 < len := by
        rcases Nat.eq_zero_or_pos len with h0 | h0
        · subst h0; exact absurd rfl hne
        · exact h0
      obtain ⟨b, off, spot⟩ := a'
      have hspot : spot = none := by
        have := World.cell?_spot (hf 0 hp).1
        simpa [Addr.add] using this
      subst hspot
      refine ⟨b, off, rfl, ?_, fun i hi => ?_⟩
      · have := (hf 0 hp).1
        rw [add_flat] at this
        exact block_lt_of_cell this
      · have hi' : i < len := by simpa using hi
        have q := (hf i hi').1
        rw [add_flat] at q
        rw [q]; simp

theorem cellsGrove : Tryz.prog.cellsOf 25 = 4 := by kernel_rfl
theorem cellsRow : Tryz.prog.cellsOf 22 = 1 := by kernel_rfl
theorem cellsTrees : Tryz.prog.cellsOf 23 = 1 := by kernel_rfl
set_option maxRecDepth 10000 in
theorem open_grove {H : Type} {enc : TypeId × Value → H} {W : World} {base b0 : Nat} {held : Bool} {v : Value} {d : DataW H} {ps : List MemPlace}
    (hv : Value.okWide Tryz.prog W .any base 25 v) (h : DataW.Trod enc Tryz.prog W b0 (fun _ => true) held 25 v d ps) : ∃ G : Gr, v = G.v ∧ RdG W G := by
  obtain ⟨cs, rfl, hsz⟩ := okWide_struct Tryz.underlying25 hv
  rw [cellsGrove] at hsz
  obtain ⟨c0, c1, c2, c3, rfl⟩ := Joins.array4 hsz
  obtain ⟨fuel, hf⟩ := h
  obtain ⟨y0, y1, y2, y3, n, _, _, g0, g1, g2, g3⟩ := Joins.trod_struct4 Tryz.underlying25 hf
  rw [cellsInt] at g0 g1
  rw [cellsRow] at g2
  rw [cellsTrees] at g3
  obtain ⟨n0, e0, _⟩ := DataW.trod_int Tryz.underlying3 g0
  obtain ⟨n1, e1, _⟩ := DataW.trod_int Tryz.underlying3 g1
  simp [Value.cells] at e0 e1 g2 g3
  subst e0
  subst e1
  obtain ⟨wa, ws, wc, rfl, hw⟩ : ∃ wa ws wc, c2 = .slice wa (List.length (α := Int) ws) wc ∧ Rd W wa ws := by
    rcases open_ints Tryz.underlying22 Tryz.underlying3 (by kernel_rfl) g2 with ⟨hcs, _⟩ | ⟨x, l, c, zs, hcs, _, hl, hm, hz, _, hcell, hwz⟩
    · cases hcs
      exact ⟨none, [], 0, rfl, ⟨Nat.zero_le _, fun h => absurd rfl h⟩⟩
    · cases hcs
      have y : IsRow .i64 W (some x) l c zs := .inr ⟨_, rfl, hl, hm, by simpa using hz, hcell, hwz⟩
      exact ⟨some x, zs.take l, c, by rw [(rd_of y).2], (rd_of y).1⟩
  obtain ⟨ta, ks, tc, rfl, hk⟩ : ∃ ta ks tc, c3 = .slice ta (List.length (α := Tc) ks) tc ∧ RdT W ta ks := by
    have sl : ∃ b l c, c3 = .slice b l c := by
      rcases open_slice Tryz.underlying23 g3 with ⟨hcs, _⟩ | ⟨a2, len2, cap2, _, _, _, _, hcs, _⟩
      · exact ⟨none, 0, 0, by cases hcs; rfl⟩
      · exact ⟨some a2, len2, cap2, by cases hcs; rfl⟩
    obtain ⟨b, l, c, rfl⟩ := sl
    obtain ⟨ks, e, hr⟩ := open_trees g3
    subst e
    exact ⟨b, ks, c, rfl, hr⟩
  exact ⟨⟨n0, n1, wa, ws, wc, ta, ks, tc⟩, rfl, hw, hk⟩

end Go.Proofs.YtlloiccodjnkcagGreatDoor

namespace Go.Proofs.YtlloiccodjnkcagGreatDoor
open Go.ChangeShapes Go.WideShapes Go.ChangeAt Go.RowKit Go.Lib
set_option linter.unusedVariables false

def BooFitGives : Prop := ∀ (a : Option Addr) (xs : List Sx) (ca : Nat) (m r d s : Int) (W : World), RdL W a xs → Calls Tryz.prog 18 #[.slice a xs.length ca, .int .i64 m, .int .i64 r, .int .i64 d, .int .i64 s] W fun e w' => ∃ J : Gr, e = .returned (.tuple #[J.v, errV (M.booF (sms xs) m r d s)]) ∧ J.m = M.booG (sms xs) m r d s ∧ RdG w' J ∧ Below W.heap.size W w'

end Go.Proofs.YtlloiccodjnkcagGreatDoor

namespace Go.Proofs.YtlloiccodjnkcagGreatDoor
open Go.ChangeShapes Go.WideShapes Go.ChangeAt Go.RowKit Go.Lib
set_option linter.unusedVariables false

def WgUsesGives : Prop := ∀ (G : Gr) (W : World), RdG W G → Calls Tryz.prog 7 #[G.v] W fun e w' => ∃ a c, e = .returned (.tuple #[.slice a (M.usV G.m).length c, errV (M.groveF G.m)]) ∧ RdU w' a (M.usV G.m) ∧ Below W.heap.size W w'

end Go.Proofs.YtlloiccodjnkcagGreatDoor

namespace Go.Proofs.YtlloiccodjnkcagGreatDoor
open Go.ChangeShapes Go.WideShapes Go.ChangeAt Go.RowKit Go.Lib
set_option linter.unusedVariables false

def WgWithoutGives : Prop := ∀ (G : Gr) (f : Int) (W : World), RdG W G → Calls Tryz.prog 11 #[G.v, .int .i64 f] W fun e w' => ∃ J : Gr, e = .returned (.tuple #[J.v, errV (M.woF G.m f)]) ∧ J.m = M.woV G.m f ∧ RdG w' J ∧ Below W.heap.size W w'

end Go.Proofs.YtlloiccodjnkcagGreatDoor

namespace Go.Proofs.YtlloiccodjnkcagGreatDoor
open Go.ChangeShapes Go.WideShapes Go.ChangeAt Go.RowKit Go.Lib
set_option linter.unusedVariables false

def DifGrovesGives : Prop := ∀ (G O : Gr) (W : World), RdG W G → RdG W O → Calls Tryz.prog 19 #[G.v, O.v] W fun e w' => e = .returned (.tuple #[.int .i64 (M.difGV G.m O.m : Nat), errV (M.difGF G.m O.m)]) ∧ Below W.heap.size W w'

end Go.Proofs.YtlloiccodjnkcagGreatDoor

namespace Go.Proofs.YtlloiccodjnkcagGreatDoor
open Go.ChangeShapes Go.WideShapes Go.ChangeAt Go.RowKit Go.Lib
set_option linter.unusedVariables false

def TcOneGives : Prop := ∀ W : World, Calls Tryz.prog 17 #[] W fun e w' => e = .returned (.bool true) ∧ Below W.heap.size W w'
/-- whether a feature is among the first so many -/
def M.askB (U : List M.Us) (f : Int) : Nat → Bool
  | 0 => false
  | k + 1 => M.askB U f k || ((M.uAt U k).1 == f)
theorem M.ask_no {U : List M.Us} {f : Int} : ∀ k, M.askB U f k = false → ∀ j, j < k → (M.uAt U j).1 ≠ f
  | 0, _, j, hj => by omega
  | k + 1, h, j, hj => by
    have h' : (M.askB U f k || ((M.uAt U k).1 == f)) = false := h
    rw [Bool.or_eq_false_iff] at h'
    by_cases e : j = k
    · subst e; exact beq_eq_false_iff_ne.1 h'.2
    · exact M.ask_no k h'.1 j (by omega)
/-- whether one of the first so many differs from the first -/
def M.dfB (xs : List Sx) (f : Nat) : Nat → Bool
  | 0 => false
  | 1 => false
  | j + 2 => M.dfB xs f (j + 1) || (M.colA (M.sAt (sms xs) (j + 1)) f != M.colA (M.sAt (sms xs) 0) f)
theorem M.df_yes {xs : List Sx} {f k : Nat} (hk : 0 < k) (h : M.colA (M.sAt (sms xs) k) f ≠ M.colA (M.sAt (sms xs) 0) f) : ∀ j, k < j → M.dfB xs f j = true
  | 0, hj => by omega
  | 1, hj => by omega
  | j + 2, hj => by
    show (M.dfB xs f (j + 1) || _) = true
    by_cases e : k = j + 1
    · subst e
      rw [show (M.colA (M.sAt (sms xs) (j + 1)) f != M.colA (M.sAt (sms xs) 0) f) = true from bne_iff_ne.2 h, Bool.or_true]
    · rw [M.df_yes hk h (j + 1) (by omega), Bool.true_or]

set_option maxHeartbeats 16000000 in
set_option maxRecDepth 10000 in
theorem tcounts_walk (hF : BooFitGives) (hU : WgUsesGives) (hW : WgWithoutGives) (hD : DifGrovesGives) (hO : TcOneGives) (a : Option Addr) (xs : List Sx) (ca : Nat) (m r f : Int) (w : World) (h : RdL w a xs)
    (ER : ∀ W, Below w.heap.size w W → Calls Tryz.prog 8 #[errV 5, .int .i64 5] W fun e w' => e = .returned (.bool true) ∧ Below W.heap.size W w') :
    Calls Tryz.prog 4 #[.slice a xs.length ca, .int .i64 m, .int .i64 r, .int .i64 f] w fun e w' => e = .returned (.bool true) ∧ Below w.heap.size w w' := by
  have hmx : xs.length ≤ 9223372036854775807 := h.1
  have ON := hide (hO w)
  have FT := hide (fun W (hW' : Below w.heap.size w W) => hF a xs ca m r 2 50 W (h.below hW'))
  by_cases hz : M.booF (sms xs) m r 2 50 = 0
  · rw [err_nil hz] at FT
    obtain ⟨gk, r0, r8, d1, d4, s1, s2⟩ := M.boo_ok hz
    have GS := (M.sam_ok gk).1
    have hl := (M.sam_ok gk).2.1
    have hm := (M.sam_ok gk).2.2.1
    rw [sms_len] at hl
    have gz := (M.boo_rest hz).2.2.2
    have gd := (M.good_iff _).1 gz
    have EU : M.usV (M.booG (sms xs) m r 2 50) = M.usesV (M.gt (M.booG (sms xs) m r 2 50)) := by unfold M.usV; rw [if_pos gz]
    have UJ : Hid (∀ (J : Gr) W, J.m = M.booG (sms xs) m r 2 50 → RdG W J → Calls Tryz.prog 7 #[.agg #[.int .i64 J.f, .int .i64 J.w, .slice J.wa J.ws.length J.wc, .slice J.ta J.ks.length J.tc]] W fun e w' => ∃ p c, e = .returned (.tuple #[.slice p (M.usV (M.booG (sms xs) m r 2 50)).length c, .nilIface]) ∧ RdU w' p (M.usV (M.booG (sms xs) m r 2 50)) ∧ Below W.heap.size W w') := fun J W hj hr => by
      have := hU J W hr
      rw [hj, gz, err_nil rfl] at this
      exact this
    have UD : Hid (∀ k, k < (M.usV (M.booG (sms xs) m r 2 50)).length → ∃ fn : Nat, (M.uAt (M.usV (M.booG (sms xs) m r 2 50)) k).1 = (fn : Int) ∧ (fn : Int) < m ∧ M.dfB xs fn xs.length = true) := fun k hk => by
      have mem : (M.usV (M.booG (sms xs) m r 2 50))[k] ∈ M.usesV (M.gt (M.booG (sms xs) m r 2 50)) := by rw [← EU]; exact List.getElem_mem hk
      obtain ⟨fn, e1, e2, q, q1, q2, q3⟩ := M.boo_differ hz mem
      rw [sms_len] at q2
      exact ⟨fn, by rw [uAt_in _ hk]; exact e1, e2, M.df_yes q1 q3 _ q2⟩
    have LST : Hid (∀ fn : Nat, f = (fn : Int) → f < m → M.askB (M.usV (M.booG (sms xs) m r 2 50)) f (M.usV (M.booG (sms xs) m r 2 50)).length = false → M.woF (M.booG (sms xs) m r 2 50) f = 0 ∧ M.woV (M.booG (sms xs) m r 2 50) f = M.booG (sms xs) m r 2 50) := fun fn ef fl hn => by
      subst ef
      refine M.boo_unasked hz fl fun u hu => ?_
      rw [← EU] at hu
      obtain ⟨j, hj, rfl⟩ := List.getElem_of_mem hu
      have := M.ask_no _ hn j hj
      rwa [uAt_in _ hj] at this
    have WJ : Hid (∀ (J : Gr) W, J.m = M.booG (sms xs) m r 2 50 → RdG W J → M.woF (M.booG (sms xs) m r 2 50) f = 0 → M.woV (M.booG (sms xs) m r 2 50) f = M.booG (sms xs) m r 2 50 → Calls Tryz.prog 11 #[.agg #[.int .i64 J.f, .int .i64 J.w, .slice J.wa J.ws.length J.wc, .slice J.ta J.ks.length J.tc], .int .i64 f] W fun e w' => ∃ Q : Gr, e = .returned (.tuple #[.agg #[.int .i64 Q.f, .int .i64 Q.w, .slice Q.wa Q.ws.length Q.wc, .slice Q.ta Q.ks.length Q.tc], .nilIface]) ∧ Q.m = M.booG (sms xs) m r 2 50 ∧ RdG w' Q ∧ Below W.heap.size W w') := fun J W hj hr z1 z2 => by
      have := hW J f W hr
      rw [hj, z1, z2, err_nil rfl] at this
      exact this
    have DJ : Hid (∀ (J Q : Gr) W, J.m = M.booG (sms xs) m r 2 50 → Q.m = M.booG (sms xs) m r 2 50 → RdG W J → RdG W Q → Calls Tryz.prog 19 #[.agg #[.int .i64 J.f, .int .i64 J.w, .slice J.wa J.ws.length J.wc, .slice J.ta J.ks.length J.tc], .agg #[.int .i64 Q.f, .int .i64 Q.w, .slice Q.wa Q.ws.length Q.wc, .slice Q.ta Q.ks.length Q.tc]] W fun e w' => ∃ n : Int, e = .returned (.tuple #[.int .i64 n, errV 5]) ∧ Below W.heap.size W w') := fun J Q W hj hq hr hs => by
      have := hD J Q W hr hs
      rw [hj, hq, M.dif_self gd] at this
      exact this.mono fun e w' h => ⟨_, h.1, h.2⟩
    have HL := hide h
    have HA : Hid (∀ k (hk : k < xs.length), (xs[k].2.1.length : Int) = m) := fun k hk => by
      have := (GS.each (sm xs[k]) (List.mem_map.2 ⟨_, List.getElem_mem hk, rfl⟩)).2.1
      have e : xs[k].2.1.length = m.toNat := this
      omega
    have CE : Hid (∀ k (hk : k < xs.length) fn, M.colA (M.sAt (sms xs) k) fn = xs[k].2.1.getD fn 0) := fun k hk fn => by rw [sms_at xs hk]; rfl
    have HE := hide ER
    clear h hz gk GS hm gz gd EU hF hU hW hD hO ER s1 s2 d1 d4
    generalize M.booG (sms xs) m r 2 50 = BG at *
    generalize M.usV BG = U at *
    simp only [Gr.v] at FT
    go_enter Tryz.func4, Tryz.ntmps4
    go_upto_region 5 with (first
      | (go_at_call 17; refine ON.out.mono ?_; rintro e w1 ⟨rfl, hb1⟩; have K1 := hide hb1; clear hb1)
      | (go_at_call 18; refine (FT.out _ K1.out).mono ?_; rintro e w2 ⟨J, rfl, hm2, hg2, hb2⟩; have M2 := hide hm2; have G2 := hide hg2; have K2 := hide (below_on K1.out hb2); clear hm2 hg2 hb2))
    obtain ⟨w3, hw3⟩ : ∃ W, W = w2.alloc (.cells #[.int .i64 J.f, .int .i64 J.w, .slice J.wa J.ws.length J.wc, .slice J.ta J.ks.length J.tc] 25) := ⟨_, rfl⟩
    rw [← hw3]
    have J3 : Hid (Below w2.heap.size w2 w3) := by unfold Hid; rw [hw3]; exact (Below.refl _ w2).alloc (Nat.le_refl _) _
    have K3 := hide (below_on K2.out J3.out)
    have G3 := hide (G2.out.below J3.out)
    have KJ : Hid (∀ W, Below w3.heap.size w3 W → W.cell? ⟨w2.heap.size, 0, none⟩ = some (.int .i64 J.f) ∧ W.cell? ⟨w2.heap.size, 1, none⟩ = some (.int .i64 J.w) ∧ W.cell? ⟨w2.heap.size, 2, none⟩ = some (.slice J.wa J.ws.length J.wc) ∧ W.cell? ⟨w2.heap.size, 3, none⟩ = some (.slice J.ta J.ks.length J.tc)) := fun W hW' => by
      have N := new_kept hw3 hW'
      exact ⟨N.1 0 _ rfl, N.1 1 _ rfl, N.1 2 _ rfl, N.1 3 _ rfl⟩
    obtain ⟨d0, d1, d2, d3⟩ := KJ.out w3 (Below.refl _ _)
    have U3 := hide (UJ.out J w3 M2.out G3.out)
    clear hw3 ON FT UJ G2 J3 K2 K1
    go_upto_region 10 with (go_at_call 7; refine U3.out.mono ?_; rintro e w4 ⟨ua, uc, rfl, hu4, hb4⟩; have R4 := hide hu4; have J4 := hide hb4; clear hu4 hb4)
    have lu : U.length ≤ 9223372036854775807 := R4.out.1
    have K4 := hide (below_on K3.out J4.out)
    clear d0 d1 d2 d3 U3
    go_wp2
    go_loopw [14, 15] (fun q i wq => ∃ k : Nat, k ≤ U.length ∧ i = .int .i64 k ∧ q = .bool (M.askB U f k) ∧ Hid (Below w4.heap.size w4 wq)) (fun _ i _ => U.length - (intOf i).toNat)
    case atStart => exact ⟨0, Nat.zero_le _, rfl, rfl, Below.refl _ _⟩
    case round =>
      obtain ⟨k, hk, rfl, rfl, K⟩ := hrel
      generalize wr = wA at *
      by_cases hlt : k < U.length
      · obtain ⟨ub, uo, eua, hub, huc⟩ := (R4.out.below K.out).2 (by intro e; rw [e] at hlt; simp at hlt)
        obtain ⟨fn, ef, fm, fd⟩ := UD.out k hlt
        have c1 := (huc k hlt).1
        have kz : (k : Int) < (U.length : Int) := by omega
        have UC : Hid (∀ W, Below wA.heap.size wA W → W.cell? ⟨ub, uo + k * 3, none⟩ = some (.int .i64 (fn : Int))) := fun W hW' => by rw [← ef]; exact (hW'.cell (p := ⟨ub, uo + k * 3, none⟩) hub).trans c1
        have AS : Hid (M.askB U f (k + 1) = (M.askB U f k || ((fn : Int) == f))) := by
          unfold Hid
          show (M.askB U f k || ((M.uAt U k).1 == f)) = _
          rw [ef]
        have FD := hide fd
        rw [ef] at c1
        subst eua
        clear huc ef fd UD LST WJ DJ HE
        go_upto_region 14 with fail
        go_cut [14] from 46 to 55 (fun v wx => v = .bool (M.askB U f (k + 1)) ∧ Hid (wx = wA))
        case first =>
          cases hq : M.askB U f k with
          | true =>
            have E : Hid (M.askB U f (k + 1) = true) := by unfold Hid; rw [AS.out, hq, Bool.true_or]
            clear hq AS UC FD HL HA CE KJ R4
            go_wp2
            go_meet
            case rel => exact ⟨by rw [E.out], rfl⟩
          | false =>
            have E : Hid (M.askB U f (k + 1) = ((fn : Int) == f)) := by unfold Hid; rw [AS.out, hq, Bool.false_or]
            clear hq AS UC FD HL HA CE KJ R4
            go_wp2
            go_meet
            case rel => exact ⟨by rw [E.out], rfl⟩
        case rest =>
          obtain ⟨rfl, kw⟩ := hcut
          have kw' := kw.out
          subst kw'
          clear AS c1 kw
          generalize hA : M.askB U f (k + 1) = aq at *
          have EA := hide hA
          clear hA
          generalize wc = wA at *
          have D1 : Hid (M.dfB xs fn 1 = false) := rfl
          go_wp2
          go_loopw [16, 17] (fun q i wq => ∃ j : Nat, 0 < j ∧ j ≤ xs.length ∧ i = .int .i64 j ∧ q = .bool (M.dfB xs fn j) ∧ Hid (Below wA.heap.size wA wq)) (fun _ i _ => xs.length - (intOf i).toNat)
          case atStart => exact ⟨1, Nat.one_pos, hl, rfl, by rw [D1.out], Below.refl _ _⟩
          case round =>
            clear D1
            obtain ⟨j, hj0, hj, rfl, rfl, L⟩ := hrel
            by_cases hjt : j < xs.length
            · have jz : (j : Int) < (xs.length : Int) := by omega
              have KW := hide (below_on (below_on K4.out K.out) L.out)
              obtain ⟨bl, ol, rfl, hbl, hcl⟩ := (HL.out.below KW.out).2.2 (by intro e; rw [e] at hl; simp at hl)
              have q0 := (hcl j hjt).1
              have p0 := (hcl 0 hl).1
              have l1 := HA.out j hjt
              have l2 := HA.out 0 hl
              have f1 : fn < xs[j].2.1.length := by omega
              have f2 : fn < xs[0].2.1.length := by omega
              obtain ⟨b1, o1, e1, _, h1⟩ := ((HL.out.below KW.out).2.1 xs[j] (List.getElem_mem hjt)).2 (by intro e; rw [e] at f1; simp at f1)
              obtain ⟨b2, o2, e2, _, h2⟩ := ((HL.out.below KW.out).2.1 xs[0] (List.getElem_mem hl)).2 (by intro e; rw [e] at f2; simp at f2)
              have r1 := h1 fn f1
              have r2 := h2 fn f2
              have u1 := UC.out wr L.out
              have DS : Hid (M.dfB xs fn (j + 1) = (M.dfB xs fn j || (xs[j].2.1.getD fn 0 != xs[0].2.1.getD fn 0))) := by
                unfold Hid
                rw [← CE.out j hjt fn, ← CE.out 0 hl fn]
                rcases j with _ | j
                · omega
                · rfl
              unfold sxV at q0 p0
              rw [e1] at q0
              rw [e2] at p0
              rw [Nat.zero_mul, Nat.add_zero] at p0
              have z1 : (fn : Int) < (xs[j].2.1.length : Int) := by omega
              have z2 : (fn : Int) < (xs[0].2.1.length : Int) := by omega
              have KD : Hid (∀ q, Below wA.heap.size wA (wr.drewN q)) := fun q => below_on L.out (below_drew (Below.refl _ _) q (Nat.le_refl _))
              have zl : (0 : Int) < (xs.length : Int) := by omega
              clear hcl h1 h2 e1 e2 l1 l2 f1 f2 HL HA CE UC FD KJ R4 KW EA
              generalize xs[j].2.1.getD fn 0 = x1 at *
              generalize xs[0].2.1.getD fn 0 = x2 at *
              generalize xs[j].2.1.length = rl1 at *
              generalize xs[0].2.1.length = rl2 at *
              generalize xs[j].2.2.1 = rc1 at *
              generalize xs[0].2.2.1 = rc2 at *
              go_upto_region 19 with fail
              cases hq : M.dfB xs fn j with
              | true =>
                have E : Hid (M.dfB xs fn (j + 1) = true) := by unfold Hid; rw [DS.out, hq, Bool.true_or]
                clear hq DS
                go_quiet (fail)
                go_wp2
                go_roundw
                case rel => exact ⟨j + 1, by omega, by omega, by go_num, by rw [E.out], KD.out _⟩
                case measure => simp [intOf]; omega
              | false =>
                have E : Hid (M.dfB xs fn (j + 1) = (x1 != x2)) := by unfold Hid; rw [DS.out, hq, Bool.false_or]
                clear hq DS
                go_quiet (fail)
                go_wp2
                go_roundw
                case rel => exact ⟨j + 1, by omega, by omega, by go_num, by rw [E.out], KD.out _⟩
                case measure => simp [intOf]; omega
            · have je : j = xs.length := by omega
              have jz : ¬ ((j : Int) < (xs.length : Int)) := by omega
              have E : Hid (M.dfB xs fn j = true) := by unfold Hid; rw [je]; exact FD.out
              rw [E.out]
              have L2 := hide (below_on K.out L.out)
              clear je E FD UC HL HA CE KJ R4
              go_wp2
              go_roundw
              case rel => exact ⟨k + 1, by omega, by go_num, by rw [EA.out], L2⟩
              case measure => simp [intOf]; omega
      · have ke : k = U.length := by omega
        have kz : ¬ ((k : Int) < (U.length : Int)) := by omega
        have K5 := hide (below_on K4.out K.out)
        have AE : Hid (M.askB U f k = M.askB U f U.length) := by unfold Hid; rw [ke]
        rw [AE.out]
        clear ke AE UD HL HA CE R4
        cases hq : M.askB U f U.length with
        | true =>
          clear hq LST WJ DJ HE KJ
          go_wp2
          go_ret
          exact ⟨rfl, K5.out⟩
        | false =>
          by_cases f0 : f < 0
          · have t1 : decide (f < 0) = true := decide_eq_true f0
            clear hq f0 LST WJ DJ HE KJ
            go_wp2
            go_ret
            exact ⟨rfl, K5.out⟩
          · have t1 : decide (f < 0) = false := decide_eq_false f0
            by_cases f1 : m ≤ f
            · have t2 : decide (m ≤ f) = true := decide_eq_true f1
              clear hq f0 f1 LST WJ DJ HE KJ
              go_wp2
              go_ret
              exact ⟨rfl, K5.out⟩
            · have t2 : decide (m ≤ f) = false := decide_eq_false f1
              obtain ⟨z1, z2⟩ := LST.out f.toNat (by omega) (by omega) hq
              have J5 := hide (below_on J4.out K.out)
              obtain ⟨d0, d1, d2, d3⟩ := KJ.out wA J5.out
              have G5 := hide (G3.out.below J5.out)
              have W5 := hide (WJ.out J wA M2.out G5.out z1 z2)
              clear hq f0 f1 z1 z2 LST WJ
              go_upto_region 25 with (go_at_call 11; refine W5.out.mono ?_; rintro e w6 ⟨Q, rfl, hm6, hg6, hb6⟩; have M6 := hide hm6; have G6 := hide hg6; have J6 := hide hb6; clear hm6 hg6 hb6)
              obtain ⟨w7, hw7⟩ : ∃ W, W = w6.alloc (.cells #[.int .i64 Q.f, .int .i64 Q.w, .slice Q.wa Q.ws.length Q.wc, .slice Q.ta Q.ks.length Q.tc] 25) := ⟨_, rfl⟩
              rw [← hw7]
              have J7 : Hid (Below w6.heap.size w6 w7) := by unfold Hid; rw [hw7]; exact (Below.refl _ w6).alloc (Nat.le_refl _) _
              have L7 := hide (below_on J6.out J7.out)
              have K7 := hide (below_on K5.out L7.out)
              have N7 := new_kept hw7 (Below.refl _ _)
              have y0 := N7.1 0 _ rfl
              have y1 := N7.1 1 _ rfl
              have y2 := N7.1 2 _ rfl
              have y3 := N7.1 3 _ rfl
              obtain ⟨x0, x1, x2, x3⟩ := KJ.out w7 (below_on J5.out L7.out)
              have D7 := hide (DJ.out J Q w7 M2.out M6.out (G5.out.below L7.out) (G6.out.below J7.out))
              clear hw7 N7 DJ KJ d0 d1 d2 d3 W5
              have ER5 : Hid (errV 5 = .iface 68 (.int .i64 5)) := err_some (by decide)
              go_wp2_with (first
                | (go_at_call 19; refine D7.out.mono ?_; rintro e w8 ⟨n8, rfl, hb8⟩; have K8 := hide (below_on K7.out hb8); clear hb8)
                | (go_at_call 8; refine (HE.out _ K8.out).mono ?_; rintro e w9 ⟨rfl, hb9⟩; have K9 := hide (below_on K8.out hb9); clear hb9))
              go_ret
              exact ⟨rfl, K9.out⟩
  · rw [err_some hz] at FT
    clear h hz hF hU hW hD hO ER
    generalize M.booF (sms xs) m r 2 50 = bf at *
    simp only [Gr.v] at FT
    go_enter Tryz.func4, Tryz.ntmps4
    go_wp2_with (first
      | (go_at_call 17; refine ON.out.mono ?_; rintro e w1 ⟨rfl, hb1⟩; have K1 := hide hb1; clear hb1)
      | (go_at_call 18; refine (FT.out _ K1.out).mono ?_; rintro e w2 ⟨J, rfl, hm2, hg2, hb2⟩; have K2 : Hid (∀ o, Below w.heap.size w (w2.alloc o)) := (fun o => below_on (below_on K1.out hb2) ((Below.refl _ w2).alloc (Nat.le_refl _) o)); clear hm2 hg2 hb2))
    go_ret
    exact ⟨rfl, K2.out _⟩

end Go.Proofs.YtlloiccodjnkcagGreatDoor

namespace Go.Proofs.YtlloiccodjnkcagGreatDoor
open Go.ChangeShapes Go.WideShapes Go.ChangeAt Go.RowKit Go.Lib
set_option linter.unusedVariables false

/-- the first k of a list, the rest still 0 -/
def M.fillK (l : List Int) (k : Nat) : List Int := l.take k ++ List.replicate (l.length - k) 0
theorem M.fillK_len (l : List Int) {k : Nat} (h : k ≤ l.length) : (M.fillK l k).length = l.length := by unfold M.fillK; simp; omega
theorem M.fillK_zero (l : List Int) : M.fillK l 0 = List.replicate l.length 0 := by unfold M.fillK; simp
theorem M.fillK_all (l : List Int) : M.fillK l l.length = l := by unfold M.fillK; simp
theorem M.fillK_set (l : List Int) {k : Nat} (h : k < l.length) : (M.fillK l k).set k (l.getD k 0) = M.fillK l (k + 1) := by
  apply List.ext_getElem?
  intro i
  rw [M.getD_at h]
  unfold M.fillK
  by_cases e : i = k
  · subst e
    rw [List.getElem?_set_self (by simp; omega), List.getElem?_append_left (by simp; omega), List.getElem?_take_of_lt (by omega), List.getElem?_eq_getElem h]
  · rw [List.getElem?_set_ne (fun c => e c.symm)]
    by_cases q : i < k
    · rw [List.getElem?_append_left (by simp; omega), List.getElem?_append_left (by simp; omega), List.getElem?_take_of_lt q, List.getElem?_take_of_lt (by omega)]
    · rw [List.getElem?_append_right (by simp; omega), List.getElem?_append_right (by simp; omega)]
      simp only [List.length_take, List.getElem?_replicate]
      rw [Nat.min_eq_left (by omega), Nat.min_eq_left (by omega)]
      by_cases q2 : i < l.length
      · rw [if_pos (by omega), if_pos (by omega)]
      · rw [if_neg (by omega), if_neg (by omega)]

theorem fillK_own {wr : World} {B g n : Nat} {F : List Int} {k : Nat} (hk : k < F.length)
    (hown : wr.ownsRow B 3 1 (.slice (some ⟨g, 0, none⟩) n n) n ((M.fillK F k).map (Value.int .i64))) :
    (wr.setCell ⟨g, k, none⟩ (.int .i64 (F.getD k 0))).ownsRow B 3 1 (.slice (some ⟨g, 0, none⟩) n n) n ((M.fillK F (k + 1)).map (Value.int .i64)) := by
  have := (hown.stored k (.int .i64 (F.getD k 0))).1
  rw [← M.fillK_set F hk, List.map_set]
  exact this
theorem fillK_cell {wr : World} {B g n : Nat} {F : List Int} {k : Nat} (hk : k < F.length) (hn : F.length = n)
    (hown : wr.ownsRow B 3 1 (.slice (some ⟨g, 0, none⟩) n n) n ((M.fillK F k).map (Value.int .i64))) : ∃ z, wr.cell? ⟨g, k, none⟩ = some (.int .i64 z) := by
  have hl : (M.fillK F k).length = n := by rw [M.fillK_len F (by omega), hn]
  exact ⟨_, own_at hown hl k (by omega)⟩

end Go.Proofs.YtlloiccodjnkcagGreatDoor

namespace Go.Proofs.YtlloiccodjnkcagGreatDoor
open Go.ChangeShapes Go.WideShapes Go.ChangeAt Go.RowKit Go.Lib
set_option linter.unusedVariables false

set_option maxHeartbeats 4000000 in
set_option maxRecDepth 10000 in
theorem bsq_any (a : Option Addr) (xs : List Int) (ca : Nat) (w : World) (h : Rd w a xs) (hl : xs.length ≤ 1000) :
    Calls Tryz.prog 73 #[.slice a xs.length ca] w fun e w' => e = .returned (.int .i64 (M.sqF xs)) ∧ Below w.heap.size w w' := by
  have HR := hide h
  obtain ⟨i0, hi, hz0, hz1, hz2⟩ := info_parts info3
  have I0 := hide hi
  have LL : Hid ((xs.map fun x => M.mulI x x).length = xs.length) := List.length_map ..
  have LA : Hid (∀ k, k < xs.length → (xs.map fun x => M.mulI x x).getD k 0 = M.mulI (xs.getD k 0) (xs.getD k 0)) := fun k hk => by
    rw [M.getD_at (by simpa using hk), List.getElem_map, M.getD_at hk]
  have E0 : Hid (M.sqF xs = M.totalI (xs.map fun x => M.mulI x x)) := rfl
  clear h hi
  rw [E0.out]
  generalize (xs.map fun x => M.mulI x x) = QS at *
  go_enter Tryz.func73, Tryz.ntmps73
  go_wp2_with (at_make; refine wpList_make_full _ rfl (.tmp 7) (.tmp 7) 22 rfl w.heap.size 3 i0 (.int .i64 0) 1 Tryz.underlying22 I0.out hz0 hz1 .i64 .i64 _ _ xs.length rfl rfl (by omega) (by omega) (by rw [hz2]; omega) (by unfold maxLen; omega) (Nat.le_refl _) ?_; intro w3 hown hgrow)
  rw [made] at hown
  have hb3 : Hid (Below w.heap.size w w3) := (Below.refl _ w).grown hgrow (Nat.le_refl _) (fun k hk => by cases hk)
  have HO : Hid (w3.ownsRow w.heap.size 3 1 (.slice (some ⟨w.heap.size, 0, none⟩) xs.length xs.length) xs.length ((M.fillK QS 0).map (Value.int .i64))) := by
    unfold Hid; rw [M.fillK_zero, LL.out]; exact hown
  clear hown hgrow I0 hz0 hz1 hz2
  go_loopw [11] (fun i wr => ∃ k : Nat, k ≤ xs.length ∧ i = .int .i64 k ∧ Hid (wr.ownsRow w.heap.size 3 1 (.slice (some ⟨w.heap.size, 0, none⟩) xs.length xs.length) xs.length ((M.fillK QS k).map (Value.int .i64))) ∧ Hid (Below w.heap.size w wr)) (fun i _ => xs.length - (intOf i).toNat)
  case atStart => exact ⟨0, Nat.zero_le _, rfl, HO, hb3⟩
  case round =>
    clear HO hb3
    obtain ⟨k, hk, rfl, HO, K⟩ := hrel
    by_cases hlt : k < xs.length
    · obtain ⟨b, off, rfl, hb, hc⟩ := (HR.out.below K.out).2 (by intro e; rw [e] at hlt; simp at hlt)
      have hx := hc k hlt
      have kz : (k : Int) < (xs.length : Int) := by omega
      have hkL : k < QS.length := by rw [LL.out]; exact hlt
      have RR := hide (fillK_own hkL HO.out)
      obtain ⟨zz, cc⟩ := fillK_cell hkL LL.out HO.out
      have fz := HO.out.frozenAt k
      rw [LA.out k hlt] at RR
      have MU := hide (xsq_any (xs.getD k 0))
      have KB : Hid (∀ v, Below w.heap.size w (wr.setCell ⟨w.heap.size, k, none⟩ v)) := fun v => K.out.setCell (p := ⟨w.heap.size, k, none⟩) (Nat.le_refl _) v
      clear hc HO LA
      generalize M.mulI (xs.getD k 0) (xs.getD k 0) = z at *
      generalize xs.getD k 0 = x at *
      go_wp2_with (go_at_call 95; refine (MU.out _).mono ?_; rintro e w1 ⟨rfl, e1⟩; have e2 := e1.symm; subst e2)
      go_roundw
      case rel => exact ⟨k + 1, by omega, by go_num, RR, KB.out _⟩
      case measure => simp [intOf]; omega
    · have ek : k = xs.length := by omega
      have kz : ¬ ((k : Int) < (xs.length : Int)) := by omega
      rw [show M.fillK QS k = QS by rw [ek, ← LL.out]; exact M.fillK_all QS] at HO
      have ho : wr.ownsRow w.heap.size 3 1 (.slice (some ⟨w.heap.size, 0, none⟩) QS.length QS.length) QS.length (QS.map (Value.int .i64)) := by rw [LL.out]; exact HO.out
      obtain ⟨pa, pc, hp1, hp2, _⟩ := own_rd ho
      cases hp1
      have T := xtotal_any (some ⟨w.heap.size, 0, none⟩) QS xs.length wr hp2
      rw [LL.out] at T
      have HT := hide T
      clear LA HO hp2 ek ho T
      go_wp2_with (go_at_call 96; refine HT.out.mono ?_; rintro e w1 ⟨rfl, e1⟩; have e2 := e1.symm; subst e2)
      go_ret
      exact ⟨rfl, K.out⟩

def tgs (xs : List Sx) : List Int := xs.map (·.2.2.2)
theorem tgs_len (xs : List Sx) : (tgs xs).length = xs.length := by simp [tgs]
theorem tgs_at (xs : List Sx) {k : Nat} (h : k < xs.length) : (tgs xs).getD k 0 = xs[k].2.2.2 := by
  rw [M.getD_at (by rw [tgs_len]; exact h)]; simp [tgs]

set_option maxHeartbeats 4000000 in
set_option maxRecDepth 10000 in
theorem btgt_any (a : Option Addr) (xs : List Sx) (ca : Nat) (w : World) (h : RdL w a xs) (hl : xs.length ≤ 1000) :
    Calls Tryz.prog 71 #[.slice a xs.length ca] w fun e w' => e = .returned (.slice (some ⟨w.heap.size, 0, none⟩) xs.length xs.length) ∧ Rd w' (some ⟨w.heap.size, 0, none⟩) (tgs xs) ∧ Below w.heap.size w w' := by
  have HR := hide h
  obtain ⟨i0, hi, hz0, hz1, hz2⟩ := info_parts info3
  have I0 := hide hi
  have LL : Hid ((tgs xs).length = xs.length) := tgs_len xs
  have LA : Hid (∀ k (hk : k < xs.length), (tgs xs).getD k 0 = xs[k].2.2.2) := fun k hk => tgs_at xs hk
  clear h hi
  generalize tgs xs = QS at *
  go_enter Tryz.func71, Tryz.ntmps71
  go_wp2_with (at_make; refine wpList_make_full _ rfl (.tmp 7) (.tmp 7) 22 rfl w.heap.size 3 i0 (.int .i64 0) 1 Tryz.underlying22 I0.out hz0 hz1 .i64 .i64 _ _ xs.length rfl rfl (by omega) (by omega) (by rw [hz2]; omega) (by unfold maxLen; omega) (Nat.le_refl _) ?_; intro w3 hown hgrow)
  rw [made] at hown
  have hb3 : Hid (Below w.heap.size w w3) := (Below.refl _ w).grown hgrow (Nat.le_refl _) (fun k hk => by cases hk)
  have HO : Hid (w3.ownsRow w.heap.size 3 1 (.slice (some ⟨w.heap.size, 0, none⟩) xs.length xs.length) xs.length ((M.fillK QS 0).map (Value.int .i64))) := by
    unfold Hid; rw [M.fillK_zero, LL.out]; exact hown
  clear hown hgrow I0 hz0 hz1 hz2
  go_loopw [11] (fun i wr => ∃ k : Nat, k ≤ xs.length ∧ i = .int .i64 k ∧ Hid (wr.ownsRow w.heap.size 3 1 (.slice (some ⟨w.heap.size, 0, none⟩) xs.length xs.length) xs.length ((M.fillK QS k).map (Value.int .i64))) ∧ Hid (Below w.heap.size w wr)) (fun i _ => xs.length - (intOf i).toNat)
  case atStart => exact ⟨0, Nat.zero_le _, rfl, HO, hb3⟩
  case round =>
    clear HO hb3
    obtain ⟨k, hk, rfl, HO, K⟩ := hrel
    by_cases hlt : k < xs.length
    · obtain ⟨b, off, rfl, hb, hc⟩ := (HR.out.below K.out).2.2 (by intro e; rw [e] at hlt; simp at hlt)
      obtain ⟨c0, c1⟩ := hc k hlt
      unfold sxV at c0
      have kz : (k : Int) < (xs.length : Int) := by omega
      have hkL : k < QS.length := by rw [LL.out]; exact hlt
      have UA : Below wr.heap.size wr wr := Below.refl _ wr
      have RR := hide (fun W (hW : Below wr.heap.size wr W) => fillK_own hkL (own_keep HO.out hW))
      have CC := hide (fun W (hW : Below wr.heap.size wr W) => fillK_cell hkL LL.out (own_keep HO.out hW))
      have FZ := hide (fun W (hW : Below wr.heap.size wr W) => (own_keep HO.out hW).frozenAt k)
      rw [LA.out k hlt] at RR
      have KB : Hid (∀ W v, Below wr.heap.size wr W → Below w.heap.size w (W.setCell ⟨w.heap.size, k, none⟩ v)) := fun W v hW => (below_on K.out hW).setCell (p := ⟨w.heap.size, k, none⟩) (Nat.le_refl _) v
      clear hc HO LA
      generalize xs[k].2.2.2 = t at *
      generalize xs[k].2.1.length = rl at *
      generalize xs[k].2.2.1 = rc at *
      generalize xs[k].1 = ra at *
      go_upto_region 5 with fail
      obtain ⟨w5, hw5⟩ : ∃ W, W = wr.alloc (.cells #[.slice ra rl rc, .int .i64 t] 52) := ⟨_, rfl⟩
      rw [← hw5]
      have B5 : Hid (Below wr.heap.size wr w5) := by unfold Hid; rw [hw5]; exact (Below.refl _ wr).alloc (Nat.le_refl _) _
      have y1 : w5.cell? ⟨wr.heap.size, 1, none⟩ = some (.int .i64 t) := (new_kept hw5 (Below.refl _ _)).1 1 _ rfl
      obtain ⟨zz, cc⟩ := CC.out w5 B5.out
      have fz := FZ.out w5 B5.out
      have R5 := hide (RR.out w5 B5.out)
      clear hw5 c0 c1 UA CC FZ RR
      go_wp2
      go_roundw
      case rel => exact ⟨k + 1, by omega, by go_num, R5, KB.out _ _ B5.out⟩
      case measure => simp [intOf]; omega
    · have ek : k = xs.length := by omega
      have kz : ¬ ((k : Int) < (xs.length : Int)) := by omega
      rw [show M.fillK QS k = QS by rw [ek, ← LL.out]; exact M.fillK_all QS] at HO
      have ho : wr.ownsRow w.heap.size 3 1 (.slice (some ⟨w.heap.size, 0, none⟩) QS.length QS.length) QS.length (QS.map (Value.int .i64)) := by rw [LL.out]; exact HO.out
      obtain ⟨pa, pc, hp1, hp2, _⟩ := own_rd ho
      cases hp1
      have HP := hide hp2
      clear LA HO hp2 ek ho
      go_wp2
      go_ret
      exact ⟨rfl, HP.out, K.out⟩

end Go.Proofs.YtlloiccodjnkcagGreatDoor

namespace Go.Proofs.YtlloiccodjnkcagGreatDoor
open Go.ChangeShapes Go.WideShapes Go.ChangeAt Go.RowKit Go.Lib
set_option linter.unusedVariables false

theorem fitto_t (n : Int) (w : World) :
    Calls Tryz.prog 74 #[.int .i64 n, .int .i64 1000] w fun e w' => e = .returned (.int .i64 (M.fitT n)) ∧ w' = w := by
  rcases (show 1000 < n ∨ n < -1000 ∨ (-1000 ≤ n ∧ n ≤ 1000) from by omega) with h | h | ⟨h1, h2⟩
  · have E : Hid (1000 = M.fitT n) := by unfold M.fitT; rw [if_pos h]; exact rfl
    go_enter Tryz.func74, Tryz.ntmps74
    go_wp2
    go_ret
    exact ⟨ret_int E.out, rfl⟩
  · have E : Hid (-1000 = M.fitT n) := by unfold M.fitT; rw [if_neg (by omega), if_pos h]; exact rfl
    go_enter Tryz.func74, Tryz.ntmps74
    go_wp2
    go_ret
    exact ⟨ret_int E.out, rfl⟩
  · have E : Hid (n = M.fitT n) := by unfold M.fitT; rw [if_neg (by omega), if_neg (by omega)]; exact rfl
    go_enter Tryz.func74, Tryz.ntmps74
    go_wp2
    go_ret
    exact ⟨ret_int E.out, rfl⟩
theorem fitto_in (n : Int) (w : World) (h1 : -1000000 ≤ n) (h2 : n ≤ 1000000) :
    Calls Tryz.prog 74 #[.int .i64 n, .int .i64 1000000] w fun e w' => e = .returned (.int .i64 n) ∧ w' = w := by
  go_enter Tryz.func74, Tryz.ntmps74
  go_wp2
  go_ret
  exact ⟨rfl, rfl⟩

set_option maxHeartbeats 4000000 in
set_option maxRecDepth 10000 in
theorem bleft_any (ta : Option Addr) (tn tc : Nat) (a ra : Option Addr) (xs : List Sx) (R V L : List Int) (ca rc : Nat) (w : World) (h : RdL w a xs) (hr : Rd w ra R) (hl : xs.length ≤ 1000) (hR : R.length = xs.length) (hL : L.length = xs.length)
    (hv : ∀ k, k < xs.length → L.getD k 0 = R.getD k 0 - V.getD k 0 ∧ -1000000 ≤ R.getD k 0 ∧ R.getD k 0 ≤ 1000000 ∧ -1000000 ≤ V.getD k 0 ∧ V.getD k 0 ≤ 1000000)
    (VC : ∀ k (hk : k < xs.length) W, Below w.heap.size w W → Calls Tryz.prog 44 #[.slice ta tn tc, .slice xs[k].1 xs[k].2.1.length xs[k].2.2.1] W fun e w' => e = .returned (.tuple #[.int .i64 (V.getD k 0), .nilIface]) ∧ Below W.heap.size W w') :
    Calls Tryz.prog 70 #[.slice ta tn tc, .slice a xs.length ca, .slice ra xs.length rc] w fun e w' => e = .returned (.tuple #[.slice (some ⟨w.heap.size, 0, none⟩) xs.length xs.length, .nilIface]) ∧ w'.ownsRow w.heap.size 3 1 (.slice (some ⟨w.heap.size, 0, none⟩) xs.length xs.length) xs.length (L.map (Value.int .i64)) ∧ Below w.heap.size w w' := by
  have HR := hide h
  have HQ := hide hr
  have HB := hide hv
  have VK := hide VC
  have RL := hide hR
  obtain ⟨i0, hi, hz0, hz1, hz2⟩ := info_parts info3
  have I0 := hide hi
  have LL := hide hL
  clear h hi hr hv VC hR hL
  go_enter Tryz.func70, Tryz.ntmps70
  go_wp2_with (at_make; refine wpList_make_full _ rfl (.tmp 14) (.tmp 14) 22 rfl w.heap.size 3 i0 (.int .i64 0) 1 Tryz.underlying22 I0.out hz0 hz1 .i64 .i64 _ _ xs.length rfl rfl (by omega) (by omega) (by rw [hz2]; omega) (by unfold maxLen; omega) (Nat.le_refl _) ?_; intro w3 hown hgrow)
  rw [made] at hown
  have hb3 : Hid (Below w.heap.size w w3) := (Below.refl _ w).grown hgrow (Nat.le_refl _) (fun k hk => by cases hk)
  have HO : Hid (w3.ownsRow w.heap.size 3 1 (.slice (some ⟨w.heap.size, 0, none⟩) xs.length xs.length) xs.length ((M.fillK L 0).map (Value.int .i64))) := by
    unfold Hid; rw [M.fillK_zero, LL.out]; exact hown
  clear hown hgrow I0 hz0 hz1 hz2
  go_loopw [18] (fun i wr => ∃ k : Nat, k ≤ xs.length ∧ i = .int .i64 k ∧ Hid (wr.ownsRow w.heap.size 3 1 (.slice (some ⟨w.heap.size, 0, none⟩) xs.length xs.length) xs.length ((M.fillK L k).map (Value.int .i64))) ∧ Hid (Below w.heap.size w wr)) (fun i _ => xs.length - (intOf i).toNat)
  case atStart => exact ⟨0, Nat.zero_le _, rfl, HO, hb3⟩
  case round =>
    clear HO hb3
    obtain ⟨k, hk, rfl, HO, K⟩ := hrel
    by_cases hlt : k < xs.length
    · obtain ⟨b, off, rfl, hb, hc⟩ := (HR.out.below K.out).2.2 (by intro e; rw [e] at hlt; simp at hlt)
      obtain ⟨c0, c1⟩ := hc k hlt
      obtain ⟨b2, off2, rfl, hb2, hc2⟩ := (HQ.out.below K.out).2 (by intro e; have := RL.out; rw [e] at this; simp at this; omega)
      have c2 := hc2 k (by rw [RL.out]; exact hlt)
      have C2 : Hid (∀ W, Below wr.heap.size wr W → W.cell? ⟨b2, off2 + k, none⟩ = some (.int .i64 (R.getD k 0))) := fun W hW => (hW.cell (p := ⟨b2, off2 + k, none⟩) hb2).trans c2
      unfold sxV at c0
      have kz : (k : Int) < (xs.length : Int) := by omega
      have hkL : k < L.length := by rw [LL.out]; exact hlt
      have RR := hide (fun W (hW : Below wr.heap.size wr W) => fillK_own hkL (own_keep HO.out hW))
      have CC := hide (fun W (hW : Below wr.heap.size wr W) => fillK_cell hkL LL.out (own_keep HO.out hW))
      have FZ := hide (fun W (hW : Below wr.heap.size wr W) => (own_keep HO.out hW).frozenAt k)
      obtain ⟨ee, v1, v2, v3, v4⟩ := HB.out k hlt
      rw [ee] at RR
      have KB : Hid (∀ W v, Below wr.heap.size wr W → Below w.heap.size w (W.setCell ⟨w.heap.size, k, none⟩ v)) := fun W v hW => (below_on K.out hW).setCell (p := ⟨w.heap.size, k, none⟩) (Nat.le_refl _) v
      have VV := hide (fun W (hW : Below wr.heap.size wr W) => VK.out k hlt W (below_on K.out hW))
      clear hc HO hc2 c2 ee hb2
      generalize xs[k].2.2.2 = t at *
      generalize xs[k].2.1.length = rl at *
      generalize xs[k].2.2.1 = rcc at *
      generalize xs[k].1 = raa at *
      generalize V.getD k 0 = z at *
      generalize R.getD k 0 = x at *
      go_upto_region 5 with fail
      obtain ⟨w5, hw5⟩ : ∃ W, W = wr.alloc (.cells #[.slice raa rl rcc, .int .i64 t] 52) := ⟨_, rfl⟩
      rw [← hw5]
      have B5 : Hid (Below wr.heap.size wr w5) := by unfold Hid; rw [hw5]; exact (Below.refl _ wr).alloc (Nat.le_refl _) _
      have y0 : w5.cell? ⟨wr.heap.size, 0, none⟩ = some (.slice raa rl rcc) := (new_kept hw5 (Below.refl _ _)).1 0 _ rfl
      have V5 := hide (VV.out w5 B5.out)
      clear hw5 c0 c1 VV
      go_wp2_with (go_at_call 44; refine V5.out.mono ?_; rintro e w6 ⟨rfl, hb6⟩; have B6 := hide (below_on B5.out hb6); obtain ⟨zz, cc⟩ := CC.out w6 B6.out; have fz := FZ.out w6 B6.out; have R6 := hide (RR.out w6 B6.out); have c6 := C2.out w6 B6.out; clear hb6)
      go_roundw
      case rel => exact ⟨k + 1, by omega, by go_num, R6, KB.out _ _ B6.out⟩
      case measure => simp [intOf]; omega
    · have ek : k = xs.length := by omega
      have kz : ¬ ((k : Int) < (xs.length : Int)) := by omega
      rw [show M.fillK L k = L by rw [ek, ← LL.out]; exact M.fillK_all L] at HO
      clear ek
      go_wp2
      go_ret2
      exact ⟨rfl, HO.out, K.out⟩

end Go.Proofs.YtlloiccodjnkcagGreatDoor

namespace Go.Proofs.YtlloiccodjnkcagGreatDoor
open Go.ChangeShapes Go.WideShapes Go.ChangeAt Go.RowKit Go.Lib
set_option linter.unusedVariables false

structure BS (w : World) (gb : Nat) (m : Int) (y : Value) (x : Value) (C : List Tc) (W : World) : Prop where
  c0 : W.cell? ⟨gb, 0, none⟩ = some (.int .i64 m)
  c1 : W.cell? ⟨gb, 1, none⟩ = some (.int .i64 2)
  c2 : W.cell? ⟨gb, 2, none⟩ = some y
  c3 : W.cell? ⟨gb, 3, none⟩ = some x
  fr : ∀ i, W.frozen? ⟨gb, i, none⟩ = false
  lt : gb < W.heap.size
  ge : w.heap.size ≤ gb
  own : W.ownsRow (gb + 1) 26 1 x C.length (C.map tV)
  trees : ∀ i (h : i < C.length), W.ownsRow (gb + 1) 64 6 (tV C[i]) C[i].2.1.length (ndCells C[i].2.1)
  other : ∀ i (h : i < C.length), (tV C[i]).ownBlock ≠ none ∧ (tV C[i]).ownBlock ≠ x.ownBlock
  apart : ∀ i j (hi : i < C.length) (hj : j < C.length), i ≠ j → (tV C[i]).ownBlock ≠ (tV C[j]).ownBlock
  below : Below w.heap.size w W
theorem BS.up {w : World} {gb : Nat} {m : Int} {y x : Value} {C : List Tc} {W W' : World} (h : BS w gb m y x C W) (hb : Below W.heap.size W W') : BS w gb m y x C W' :=
  ⟨(hb.cell (p := ⟨gb, 0, none⟩) h.lt).trans h.c0, (hb.cell (p := ⟨gb, 1, none⟩) h.lt).trans h.c1, (hb.cell (p := ⟨gb, 2, none⟩) h.lt).trans h.c2, (hb.cell (p := ⟨gb, 3, none⟩) h.lt).trans h.c3, fun i => (hb.frozen (p := ⟨gb, i, none⟩) h.lt).trans (h.fr i), Nat.lt_of_lt_of_le h.lt hb.size, h.ge, own_up h.own hb, fun i hi => own_up (h.trees i hi) hb, h.other, h.apart, below_on h.below hb⟩
theorem BS.xb {w : World} {gb : Nat} {m : Int} {y x : Value} {C : List Tc} {W : World} (h : BS w gb m y x C W) : x.ownBlock ≠ some gb := fun e => by have := (h.own.lt gb e).1; omega
theorem own_ne_none {v : Value} {g : Nat} (h : v.ownBlock = some g) : v.ownBlock ≠ none := by rw [h]; exact fun e => by cases e
/-- one tree more: laid behind those that are there, and the slice stored -/
theorem BS.more {w : World} {gb : Nat} {m : Int} {y x : Value} {C : List Tc} {W : World} (h : BS w gb m y x C W) {t : Tc} {q : Nat} (ht : W.ownsRow (gb + 1) 64 6 (tV t) t.2.1.length (ndCells t.2.1)) (hq : (tV t).ownBlock = some q) (hx : x.ownBlock ≠ some q) (ha : ∀ i (hi : i < C.length), (tV C[i]).ownBlock ≠ some q)
    {o : Obj} {w5 : World} {g cap : Nat} (hown : w5.ownsRow (gb + 1) 26 1 (.slice (some ⟨g, 0, none⟩) (C.length + 1) cap) (C.length + 1) (C.map tV ++ [tV t])) (hgrow : (W.alloc o).grownBy w5 x.ownBlock) (hat : x.ownBlock = some g ∨ g = W.heap.size + 1) :
    (w5.cell? ⟨gb, 3, none⟩ = some x ∧ w5.frozen? ⟨gb, 3, none⟩ = false) ∧ BS w gb m y (.slice (some ⟨g, 0, none⟩) (C.length + 1) cap) (C ++ [t]) (w5.setCell ⟨gb, 3, none⟩ (.slice (some ⟨g, 0, none⟩) (C.length + 1) cap)) := by
  have hgr : W.grownBy w5 x.ownBlock := grown_trans (World.grownBy_alloc W o x.ownBlock) hgrow (.inl rfl)
  have xb := h.xb
  have cf : ∀ i, w5.cell? ⟨gb, i, none⟩ = W.cell? ⟨gb, i, none⟩ := fun i => hgr.cell_far ⟨gb, i, none⟩ h.lt (fun e => xb e.symm)
  have ff : ∀ i, w5.frozen? ⟨gb, i, none⟩ = W.frozen? ⟨gb, i, none⟩ := fun i => hgr.frozen_far ⟨gb, i, none⟩ h.lt (fun e => xb e.symm)
  have gp : gb + 1 ≤ g := (hown.lt g rfl).1
  have ob : (Value.slice (some ⟨g, 0, none⟩) (C.length + 1) cap).ownBlock = some g := rfl
  have ne : ∀ {v : Value} {q : Nat}, v.ownBlock = some q → gb + 1 ≤ q → v.ownBlock ≠ some gb := fun hv hq e => by rw [hv] at e; cases e; omega
  have kt : ∀ {v : Value} {n : Nat} {l : List Value}, W.ownsRow (gb + 1) 64 6 v n l → v.ownBlock ≠ x.ownBlock → v.ownBlock ≠ none → (w5.setCell ⟨gb, 3, none⟩ (.slice (some ⟨g, 0, none⟩) (C.length + 1) cap)).ownsRow (gb + 1) 64 6 v n l := fun {v n l} hv h1 h2 => by
    have k1 := hv.kept hgr (.inr h1)
    refine k1.kept grown_set (.inr fun e => ?_)
    have := (hv.lt gb e).1
    omega
  have fresh : ∀ {v : Value} {n : Nat} {l : List Value}, W.ownsRow (gb + 1) 64 6 v n l → v.ownBlock ≠ x.ownBlock → v.ownBlock ≠ some g := fun {v n l} hv h1 e => by
    rcases hat with q1 | q1
    · exact h1 (e.trans q1.symm)
    · have := (hv.lt g e).2; omega
  have len : (C ++ [t]).length = C.length + 1 := by simp
  refine ⟨⟨(cf 3).trans h.c3, (ff 3).trans (h.fr 3)⟩, ⟨?_, ?_, ?_, ?_, ?_, ?_, h.ge, ?_, ?_, ?_, ?_, ?_⟩⟩
  · rw [World.cell?_setCell_other _ _ _ _ (by intro e; cases e)]; exact (cf 0).trans h.c0
  · rw [World.cell?_setCell_other _ _ _ _ (by intro e; cases e)]; exact (cf 1).trans h.c1
  · rw [World.cell?_setCell_other _ _ _ _ (by intro e; cases e)]; exact (cf 2).trans h.c2
  · exact World.cell?_setCell_same (u := x) _ _ _ ((cf 3).trans h.c3)
  · intro i; simpa using (ff i).trans (h.fr i)
  · have := hgr.size; have := h.lt; simp; omega
  · rw [len, List.map_append]
    exact hown.kept grown_set (.inr fun e => by rw [ob] at e; cases e; omega)
  · intro i hi
    by_cases c : i < C.length
    · rw [show (C ++ [t])[i] = C[i] from List.getElem_append_left c]
      exact kt (h.trees i c) (h.other i c).2 (h.other i c).1
    · have ei : i = C.length := by rw [len] at hi; omega
      subst ei
      rw [show (C ++ [t])[C.length]'hi = t by simp]
      exact kt ht (fun e => hx (e.symm.trans hq)) (own_ne_none hq)
  · intro i hi
    rw [ob]
    by_cases c : i < C.length
    · rw [show (C ++ [t])[i] = C[i] from List.getElem_append_left c]
      exact ⟨(h.other i c).1, fresh (h.trees i c) (h.other i c).2⟩
    · have ei : i = C.length := by rw [len] at hi; omega
      subst ei
      rw [show (C ++ [t])[C.length]'hi = t by simp]
      exact ⟨own_ne_none hq, fresh ht (fun e => hx (e.symm.trans hq))⟩
  · intro i j hi hj hij
    rw [len] at hi hj
    by_cases c : i < C.length
    · by_cases d : j < C.length
      · rw [show (C ++ [t])[i] = C[i] from List.getElem_append_left c, show (C ++ [t])[j] = C[j] from List.getElem_append_left d]
        exact h.apart i j c d hij
      · have ej : j = C.length := by omega
        subst ej
        rw [show (C ++ [t])[i] = C[i] from List.getElem_append_left c, show (C ++ [t])[C.length]'(by rw [len]; omega) = t by simp, hq]
        exact ha i c
    · have ei : i = C.length := by omega
      subst ei
      have d : j < C.length := by omega
      rw [show (C ++ [t])[j] = C[j] from List.getElem_append_left d, show (C ++ [t])[C.length]'(by rw [len]; omega) = t by simp, hq]
      exact fun e => ha j d e.symm
  · exact (h.below.grown hgr h.below.size (fun k hk => by have := (h.own.lt k hk).1; have := h.ge; omega)).setCell (p := ⟨gb, 3, none⟩) h.ge _

end Go.Proofs.YtlloiccodjnkcagGreatDoor

namespace Go.Proofs.YtlloiccodjnkcagGreatDoor
open Go.ChangeShapes Go.WideShapes Go.ChangeAt Go.RowKit Go.Lib
set_option linter.unusedVariables false

/-- a grove whose weights and trees lie in blocks that are new -/
def NewG (W w' : World) (J : Gr) : Prop := ∀ W'' : World, w'.heap.size ≤ W''.heap.size → (∀ b o, W.heap.size ≤ b → W''.cell? ⟨b, o, none⟩ = w'.cell? ⟨b, o, none⟩) → RdG W'' J

end Go.Proofs.YtlloiccodjnkcagGreatDoor
