/-
  Several texts as one: Groves, WgU, WgS, PruneG, WSame, GCheck, WeiSame.
-/
import Derived.Test.YtlloiccodjnkcagRunS3
import Derived.Test.YtlloiccodjnkcagRunS6
import Derived.Lib.SmallJoins
import Derived.Test.YtlloiccodjnkcagRunS7
import Derived.Test.YtlloiccodjnkcagRunS8
import Derived.Test.YtlloiccodjnkcagRunS1
import Derived.RegionTactic
import Derived.Deep.Cut
import Derived.Deep.CutRange
import Derived.BigQuiet
import Derived.Deep.QuietTactic
import Derived.Test.YtlloiccodjnkcagRunS9
namespace Go.Proofs.Ytlloiccodjnkcag
open Go.ChangeShapes Go.WideShapes Go.ChangeAt Go.RowKit Go.Deep
set_option linter.unusedVariables false

abbrev Tc := Option Addr × List M.Nd × Nat
def tV (k : Tc) : Value := .slice k.1 k.2.1.length k.2.2
/-- trees, where they lie -/
def RdT (w : World) (a : Option Addr) (ks : List Tc) : Prop :=
  ks.length ≤ maxLen ∧ (∀ k ∈ ks, RdN w k.1 k.2.1) ∧ (ks ≠ [] → ∃ b off, a = some ⟨b, off, none⟩ ∧ b < w.heap.size ∧ ∀ i (h : i < ks.length), w.cell? ⟨b, off + i, none⟩ = some (tV ks[i]))
theorem RdT.below {w w' : World} {a : Option Addr} {ks : List Tc} (h : RdT w a ks) (hb : Below w.heap.size w w') : RdT w' a ks :=
  ⟨h.1, fun k hk => (h.2.1 k hk).below hb, fun hn => by
    obtain ⟨b, off, e, hl, hc⟩ := h.2.2 hn
    exact ⟨b, off, e, Nat.lt_of_lt_of_le hl hb.size, fun i hi => (hb.cell (p := ⟨b, off + i, none⟩) hl).trans (hc i hi)⟩⟩
def tl (ks : List Tc) : List (List M.Nd) := ks.map (·.2.1)
theorem tl_len (ks : List Tc) : (tl ks).length = ks.length := by simp [tl]
theorem tl_at (ks : List Tc) {k : Nat} (h : k < ks.length) : (tl ks).getD k [] = ks[k].2.1 := by
  rw [M.getD_at (by rw [tl_len]; exact h)]; simp [tl]

/-- a grove, as it is handed on -/
structure Gr where
  f : Int
  w : Int
  wa : Option Addr
  ws : List Int
  wc : Nat
  ta : Option Addr
  ks : List Tc
  tc : Nat
def Gr.v (G : Gr) : Value := .agg #[.int .i64 G.f, .int .i64 G.w, .slice G.wa G.ws.length G.wc, .slice G.ta G.ks.length G.tc]
def Gr.m (G : Gr) : M.Gv := (G.f, G.w, G.ws, tl G.ks)
def RdG (w : World) (G : Gr) : Prop := Rd w G.wa G.ws ∧ RdT w G.ta G.ks
theorem RdG.below {w w' : World} {G : Gr} (h : RdG w G) (hb : Below w.heap.size w w') : RdG w' G := ⟨h.1.below hb, h.2.below hb⟩

theorem cellsTree : Try.prog.cellsOf 35 = 1 := by kernel_rfl
set_option maxRecDepth 10000 in
theorem open_trees {H : Type} {enc : TypeId × Value → H} {W : World} {base : Nat} {spare : Nat → Bool} {held : Bool} {fuel : Nat} {a : Option Addr} {len cap : Nat} {x : DataW H × List MemPlace}
    (h : DataW.trod enc Try.prog W base spare held fuel 24 [.slice a len cap] = some x) : ∃ ks : List Tc, ks.length = len ∧ RdT W a ks := by
  rcases open_slice Try.underlying24 h with ⟨hcs, _⟩ | ⟨a', len', cap', m, n, D, Pl, hcs, _, hl, hm, hmm, _, hx⟩
  · cases hcs
    exact ⟨[], rfl, ⟨Nat.zero_le _, (fun k hk => by cases hk), fun h => absurd rfl h⟩⟩
  · cases hcs
    have hlm : len ≤ m := by rw [hmm]; split <;> omega
    have each : ∀ i, i < len → ∃ k : Tc, W.cell? (a'.add i) = some (tV k) ∧ RdN W k.1 k.2.1 := by
      intro i hi
      obtain ⟨cs, h1, h2⟩ := hx i (by omega)
      rw [cellsTree] at h1
      obtain ⟨_, hlen, hcell⟩ := World.cells?_some h1
      match cs, hlen with
      | [c0], _ =>
        have d0 := hcell 0 (by omega)
        rw [add_add] at d0
        simp at d0
        have sl : ∃ b l c, c0 = .slice b l c := by
          rcases open_slice Try.underlying35 h2 with ⟨hcs, _⟩ | ⟨a2, len2, cap2, _, _, _, _, hcs, _⟩
          · exact ⟨none, 0, 0, by cases hcs; rfl⟩
          · exact ⟨some a2, len2, cap2, by cases hcs; rfl⟩
        obtain ⟨b, l, c, rfl⟩ := sl
        obtain ⟨ts, e, hr⟩ := open_nodes h2
        subst e
        exact ⟨(b, ts, c), d0, hr⟩
    obtain ⟨f, hf⟩ := choose_lt each
    refine ⟨(List.range len).map f, by simp, ⟨by simp; omega, ?_, fun hne => ?_⟩⟩
    · intro k hk
      rw [List.mem_map] at hk
      obtain ⟨i, hi, rfl⟩ := hk
      exact (hf i (by simpa using hi)).2
    · have hp : 0 < len := by
        rcases Nat.eq_zero_or_pos len with h0 | h0
        · subst h0; exact absurd rfl hne
        · exact h0
      obtain ⟨b, off, spot⟩ := a'
      have hspot : spot = none := by
        have := World.cell?_spot (hf 0 hp).1
        simpa [Addr.add] using this
      subst hspot
      refine ⟨b, off, rfl, ?_, fun i hi => ?_⟩
      · have := (hf 0 hp).1
        rw [add_flat] at this
        exact block_lt_of_cell this
      · have hi' : i < len := by simpa using hi
        have q := (hf i hi').1
        rw [add_flat] at q
        rw [q]; simp

theorem cellsGrove : Try.prog.cellsOf 26 = 4 := by kernel_rfl
theorem cellsRow : Try.prog.cellsOf 23 = 1 := by kernel_rfl
theorem cellsTrees : Try.prog.cellsOf 24 = 1 := by kernel_rfl
set_option maxRecDepth 10000 in
theorem open_grove {H : Type} {enc : TypeId × Value → H} {W : World} {base b0 : Nat} {held : Bool} {v : Value} {d : DataW H} {ps : List MemPlace}
    (hv : Value.okWide Try.prog W .any base 26 v) (h : DataW.Trod enc Try.prog W b0 (fun _ => true) held 26 v d ps) : ∃ G : Gr, v = G.v ∧ RdG W G := by
  obtain ⟨cs, rfl, hsz⟩ := okWide_struct Try.underlying26 hv
  rw [cellsGrove] at hsz
  obtain ⟨c0, c1, c2, c3, rfl⟩ := Joins.array4 hsz
  obtain ⟨fuel, hf⟩ := h
  obtain ⟨y0, y1, y2, y3, n, _, _, g0, g1, g2, g3⟩ := Joins.trod_struct4 Try.underlying26 hf
  rw [cellsInt] at g0 g1
  rw [cellsRow] at g2
  rw [cellsTrees] at g3
  obtain ⟨n0, e0, _⟩ := DataW.trod_int Try.underlying3 g0
  obtain ⟨n1, e1, _⟩ := DataW.trod_int Try.underlying3 g1
  simp [Value.cells] at e0 e1 g2 g3
  subst e0
  subst e1
  obtain ⟨wa, ws, wc, rfl, hw⟩ : ∃ wa ws wc, c2 = .slice wa (List.length (α := Int) ws) wc ∧ Rd W wa ws := by
    rcases open_ints Try.underlying23 Try.underlying3 (by kernel_rfl) g2 with ⟨hcs, _⟩ | ⟨x, l, c, zs, hcs, _, hl, hm, hz, _, hcell, hwz⟩
    · cases hcs
      exact ⟨none, [], 0, rfl, ⟨Nat.zero_le _, fun h => absurd rfl h⟩⟩
    · cases hcs
      have y : IsRow .i64 W (some x) l c zs := .inr ⟨_, rfl, hl, hm, by simpa using hz, hcell, hwz⟩
      exact ⟨some x, zs.take l, c, by rw [(rd_of y).2], (rd_of y).1⟩
  obtain ⟨ta, ks, tc, rfl, hk⟩ : ∃ ta ks tc, c3 = .slice ta (List.length (α := Tc) ks) tc ∧ RdT W ta ks := by
    have sl : ∃ b l c, c3 = .slice b l c := by
      rcases open_slice Try.underlying24 g3 with ⟨hcs, _⟩ | ⟨a2, len2, cap2, _, _, _, _, hcs, _⟩
      · exact ⟨none, 0, 0, by cases hcs; rfl⟩
      · exact ⟨some a2, len2, cap2, by cases hcs; rfl⟩
    obtain ⟨b, l, c, rfl⟩ := sl
    obtain ⟨ks, e, hr⟩ := open_trees g3
    subst e
    exact ⟨b, ks, c, rfl, hr⟩
  exact ⟨⟨n0, n1, wa, ws, wc, ta, ks, tc⟩, rfl, hw, hk⟩

end Go.Proofs.Ytlloiccodjnkcag

namespace Go.Proofs.Ytlloiccodjnkcag
open Go.ChangeShapes Go.WideShapes Go.ChangeAt Go.RowKit Go.Lib
set_option linter.unusedVariables false

def WgUsesGives : Prop := ∀ (G : Gr) (W : World), RdG W G → Calls Try.prog 9 #[G.v] W fun e w' => ∃ a c, e = .returned (.tuple #[.slice a (M.usV G.m).length c, errV (M.groveF G.m)]) ∧ RdU w' a (M.usV G.m) ∧ Below W.heap.size W w'

end Go.Proofs.Ytlloiccodjnkcag

namespace Go.Proofs.Ytlloiccodjnkcag
open Go.ChangeShapes Go.WideShapes Go.ChangeAt Go.RowKit Go.Lib
set_option linter.unusedVariables false

def WgSameGives : Prop := ∀ (a b : Option Addr) (xs ys : List Int) (ca cb : Nat) (W : World), Rd W a xs → Rd W b ys → Calls Try.prog 15 #[.slice a xs.length ca, .slice b ys.length cb] W fun e w' => e = .returned (.tuple #[.int .i64 (M.sameV xs ys), errV (M.sameF xs ys)]) ∧ Below W.heap.size W w'

end Go.Proofs.Ytlloiccodjnkcag

namespace Go.Proofs.Ytlloiccodjnkcag
open Go.ChangeShapes Go.WideShapes Go.ChangeAt Go.RowKit Go.Lib
set_option linter.unusedVariables false

/-- a grove, each of its trees pruned -/
noncomputable def M.prunG (g : M.Gv) : M.Gv := if M.groveF g = 0 then (M.gf g, M.gw g, M.gs g, (M.gt g).map fun t => M.prunV t (M.gf g)) else (0, 0, [], [])
def PruneGives : Prop := ∀ (G : Gr) (W : World), RdG W G → Calls Try.prog 16 #[G.v] W fun e w' => ∃ J : Gr, e = .returned (.tuple #[J.v, errV (M.groveF G.m)]) ∧ J.m = M.prunG G.m ∧ RdG w' J ∧ Below W.heap.size W w'

end Go.Proofs.Ytlloiccodjnkcag

namespace Go.Proofs.Ytlloiccodjnkcag
open Go.ChangeShapes Go.WideShapes Go.ChangeAt Go.RowKit Go.Lib
set_option linter.unusedVariables false

def GrChkGives : Prop := ∀ (G : Gr) (W : World), RdG W G → Calls Try.prog 17 #[G.v] W fun e w' => e = .returned (errV (M.groveF G.m)) ∧ Below W.heap.size W w'
theorem pair_rd {w w' : World} (x y : Int) (t : TypeId) (h : Below (w.alloc (.cells #[.int .i64 x, .int .i64 y] t)).heap.size (w.alloc (.cells #[.int .i64 x, .int .i64 y] t)) w') : Rd w' (some ⟨w.heap.size, 0, none⟩) [x, y] := by
  have r : Rd (w.alloc (.cells #[.int .i64 x, .int .i64 y] t)) (some ⟨w.heap.size, 0, none⟩) [x, y] := by
    refine ⟨by show 2 ≤ maxLen; unfold maxLen; decide, fun _ => ⟨w.heap.size, 0, rfl, by simp, fun i hi => ?_⟩⟩
    have c : ∀ j, (w.alloc (.cells #[.int .i64 x, .int .i64 y] t)).cell? ⟨w.heap.size, j, none⟩ = _ := fun j => World.cell?_alloc_at _ _ _ j rfl
    have hi' : i < 2 := hi
    rcases i with _ | _ | i
    · exact c _
    · exact c _
    · omega
  exact r.below h
/-- the nodes of uses, so far -/
def M.nodK (l : List M.Us) (k : Nat) : Int := M.sumU (l.take k)
theorem M.nod_more {l : List M.Us} {k : Nat} (hk : k < l.length) : M.nodK l (k + 1) = M.nodK l k + (M.uAt l k).2.1 := by
  unfold M.nodK
  rw [List.take_succ_eq_append_getElem hk, M.sumU_app, uAt_in _ hk]
  show _ = M.sumU (l.take k) + _
  have : M.sumU [l[k]] = l[k].2.1 := by show l[k].2.1 + 0 = _; omega
  rw [this]

theorem M.ask_len : ∀ t : List M.Nd, M.askN t ≤ t.length := fun t => by have := M.ask_lf t; omega
theorem M.askG_le : ∀ l : List (List M.Nd), (∀ t ∈ l, t.length ≤ 63) → M.askG l ≤ 63 * l.length
  | [], _ => Nat.le_refl _
  | t :: l, h => by
    have ih := M.askG_le l fun x hx => h x (List.mem_cons_of_mem _ hx)
    have ht := h t (List.mem_cons_self ..)
    have := M.ask_len t
    show M.askN t + M.askG l ≤ 63 * (l.length + 1)
    omega
theorem M.sumU_pos : ∀ l : List M.Us, (∀ u ∈ l, 0 ≤ u.2.1) → 0 ≤ M.sumU l
  | [], _ => Int.le_refl _
  | u :: l, h => by
    have := M.sumU_pos l fun x hx => h x (List.mem_cons_of_mem _ hx)
    have := h u (List.mem_cons_self ..)
    show 0 ≤ u.2.1 + M.sumU l
    omega
/-- so far there are no more than altogether, and not below 0 -/
theorem M.nod_in {g : M.Gv} (h : M.Good g) (k : Nat) : 0 ≤ M.nodK (M.usesV (M.gt g)) k ∧ M.nodK (M.usesV (M.gt g)) k ≤ 1000 := by
  have pos : ∀ u ∈ M.usesV (M.gt g), 0 ≤ u.2.1 := fun u hu => by have := (M.uses_in hu).2.2.1; omega
  have a := M.sumU_pos ((M.usesV (M.gt g)).take k) fun u hu => pos u (List.mem_of_mem_take hu)
  have b := M.sumU_pos ((M.usesV (M.gt g)).drop k) fun u hu => pos u (List.mem_of_mem_drop hu)
  have e := M.sumU_app ((M.usesV (M.gt g)).take k) ((M.usesV (M.gt g)).drop k)
  rw [List.take_append_drop, M.uses_sum (M.fair_asks h.trees)] at e
  have l63 : ∀ t ∈ M.gt g, t.length ≤ 63 := fun t ht => (M.tree_ok (h.trees t ht)).1.1
  have q := M.askG_le (M.gt g) l63
  have t12 := h.t12
  unfold M.nodK
  omega
theorem M.prunG_good {g : M.Gv} (h : M.Good g) : M.Good (M.gf g, M.gw g, M.gs g, (M.gt g).map fun t => M.prunV t (M.gf g)) := by
  refine ⟨h.f0, h.f8, h.w1, h.w3, ?_, ?_, ?_, h.wts, ?_⟩
  · show 0 < ((M.gt g).map _).length; rw [List.length_map]; exact h.t0
  · show ((M.gt g).map _).length ≤ 12; rw [List.length_map]; exact h.t12
  · show (M.gs g).length = ((M.gt g).map _).length; rw [List.length_map]; exact h.len
  · intro t ht
    obtain ⟨u, hu, rfl⟩ := List.mem_map.1 (show t ∈ (M.gt g).map (fun t => M.prunV t (M.gf g)) from ht)
    exact (M.prun_tree (h.trees u hu)).1

set_option maxHeartbeats 16000000 in
set_option maxRecDepth 10000 in
theorem wsame_walk (hS : WgSameGives) (hU : WgUsesGives) (hP : PruneGives) (hK : GrChkGives) (a b : Option Addr) (xs ys : List Int) (ca cb : Nat) (G : Gr) (w : World) (ha : Rd w a xs) (hb : Rd w b ys) (hg : RdG w G) :
    Calls Try.prog 5 #[.slice a xs.length ca, .slice b ys.length cb, G.v] w fun e w' => e = .returned (.bool true) ∧ Below w.heap.size w w' := by
  have hmx : xs.length ≤ 9223372036854775807 := ha.1
  have hmy : ys.length ≤ 9223372036854775807 := hb.1
  have SS := hide (M.same_sides xs ys)
  have S1 := hide (fun W (hW : Below w.heap.size w W) => hS a b xs ys ca cb W (ha.below hW) (hb.below hW))
  have S2 : Hid (∀ W, Below w.heap.size w W → Calls Try.prog 15 #[.slice b ys.length cb, .slice a xs.length ca] W fun e w' => e = .returned (.tuple #[.int .i64 (M.sameV xs ys), errV (M.sameF ys xs)]) ∧ Below W.heap.size W w') := fun W hW => by
    have := hS b a ys xs cb ca W (hb.below hW) (ha.below hW)
    rw [← SS.out.2.1] at this
    exact this
  have S3 : Hid (xs.length ≤ 1000 → ∀ W, Below w.heap.size w W → Calls Try.prog 15 #[.slice a xs.length ca, .slice a xs.length ca] W fun e w' => e = .returned (.tuple #[.int .i64 (xs.length : Int), .nilIface]) ∧ Below W.heap.size W w') := fun hl W hW => by
    have := hS a a xs xs ca ca W (ha.below hW) (ha.below hW)
    rw [(M.same_own hl).1, (M.same_own hl).2, err_nil rfl] at this
    exact this
  have S0 : Hid (∀ W p q, Rd W p [1, 2] → Rd W q [1, 3] → Calls Try.prog 15 #[.slice p 2 2, .slice q 2 2] W fun e w' => e = .returned (.tuple #[.int .i64 1, .nilIface]) ∧ Below W.heap.size W w') := fun W p q h1 h2 => by
    have := hS p q [1, 2] [1, 3] 2 2 W h1 h2
    rw [M.same_fact.1, M.same_fact.2, err_nil rfl] at this
    exact this
  have PG := hide (fun W (hW : Below w.heap.size w W) => hP G W (hg.below hW))
  have UG := hide (fun W (hW : Below w.heap.size w W) => hU G W (hg.below hW))
  have KG := hide (fun W (hW : Below w.heap.size w W) => hK G W (hg.below hW))
  have B0 : Hid (∀ W o, Below w.heap.size w W → Below w.heap.size w (W.alloc o)) := fun W o hW => below_on hW ((Below.refl _ W).alloc (Nat.le_refl _) o)
  obtain ⟨w1, hw1⟩ : ∃ V, V = w.alloc (.cells #[.int .i64 G.f, .int .i64 G.w, .slice G.wa G.ws.length G.wc, .slice G.ta G.ks.length G.tc] 26) := ⟨_, rfl⟩
  have K1 : Hid (Below w.heap.size w w1) := by unfold Hid; rw [hw1]; exact B0.out w _ (Below.refl _ _)
  have KC : Hid (∀ W, Below w1.heap.size w1 W → W.cell? ⟨w.heap.size, 0, none⟩ = some (.int .i64 G.f) ∧ W.cell? ⟨w.heap.size, 1, none⟩ = some (.int .i64 G.w) ∧ W.cell? ⟨w.heap.size, 2, none⟩ = some (.slice G.wa G.ws.length G.wc) ∧ W.cell? ⟨w.heap.size, 3, none⟩ = some (.slice G.ta G.ks.length G.tc)) := fun W hW => by
    have N := new_kept hw1 hW
    exact ⟨N.1 0 _ rfl, N.1 1 _ rfl, N.1 2 _ rfl, N.1 3 _ rfl⟩
  unfold Gr.v at PG UG KG ⊢
  go_enter Try.func5, Try.ntmps5
  go_upto_region 1 with fail
  rw [← hw1]
  clear hw1
  obtain ⟨w2, hw2⟩ : ∃ V, V = w1.alloc (.cells #[.int .i64 1, .int .i64 2] 3) := ⟨_, rfl⟩
  obtain ⟨w3, hw3⟩ : ∃ V, V = w2.alloc (.cells #[.int .i64 1, .int .i64 3] 3) := ⟨_, rfl⟩
  have z2 : w2.heap.size = w1.heap.size + 1 := by rw [hw2]; simp
  have J2 : Below w1.heap.size w1 w2 := by rw [hw2]; exact (Below.refl _ w1).alloc (Nat.le_refl _) _
  have J3 : Below w2.heap.size w2 w3 := by rw [hw3]; exact (Below.refl _ w2).alloc (Nat.le_refl _) _
  have Q0 := hide (S0.out w3 (some ⟨w1.heap.size, 0, none⟩) (some ⟨w2.heap.size, 0, none⟩) (by rw [hw2] at J3; exact pair_rd 1 2 3 J3) (by have := pair_rd 1 3 3 (Below.refl (w2.alloc (.cells #[.int .i64 1, .int .i64 3] 3)).heap.size (w2.alloc (.cells #[.int .i64 1, .int .i64 3] 3))); rw [← hw3] at this; exact this))
  have K3 : Hid (Below w1.heap.size w1 w3) := below_on J2 J3
  rw [z2] at Q0
  go_upto_region 4 with (go_at_call 15; rw [← hw2, ← hw3]; refine Q0.out.mono ?_; rintro e w4 ⟨rfl, hb4⟩; have J4 := hide (below_on K3.out hb4); clear hb4)
  clear Q0 S0 hw2 hw3 z2 J2 J3 K3
  have W4 := hide (below_on K1.out J4.out)
  go_upto_region 6 with (first
    | (go_at_call 15; have lean := J5; refine (S2.out _ (below_on K1.out J5.out)).mono ?_; rintro e w6 ⟨rfl, hb6⟩; have J6 := hide (below_on J5.out hb6); clear hb6)
    | (go_at_call 15; refine (S1.out _ W4.out).mono ?_; rintro e w5 ⟨rfl, hb5⟩; have J5 := hide (below_on J4.out hb5); clear hb5))
  clear S1 S2 J5 J4 W4
  go_cut [10, 12, 34, 37, 39, 40, 43, 45, 61] from 46 to 60 (fun _ _ _ _ _ _ _ _ v wx => v = .bool false ∧ Hid (Below w1.heap.size w1 wx))
  case first =>
    have t3 : decide ((xs.length : Int) < M.sameV xs ys) = false := decide_eq_false (by have := SS.out.2.2; omega)
    have KD : Hid (∀ q, Below w1.heap.size w1 (w6.drewN q)) := fun q => below_on J6.out (below_drew (Below.refl _ _) q (Nat.le_refl _))
    have KE : Hid (Below w1.heap.size w1 w6.drew) := J6.out.drew
    by_cases hz : M.sameF xs ys = 0
    · rw [err_nil hz, err_nil (SS.out.1.1 hz)]
      clear hz SS S3 PG UG KG KC
      generalize M.sameV xs ys = n at *
      go_quiet (fail)
      go_wp2
      go_meet
      case rel => exact ⟨rfl, KD.out _⟩
    · rw [err_some hz, err_some (fun e => hz (SS.out.1.2 e))]
      clear hz SS S3 PG UG KG KC
      generalize M.sameV xs ys = n at *
      generalize M.sameF xs ys = f1 at *
      generalize M.sameF ys xs = f2 at *
      go_quiet (fail)
      go_wp2
      go_meet
      case rel => exact ⟨rfl, KD.out _⟩
  case rest =>
    obtain ⟨rfl, kc⟩ := hcut
    clear J6 SS
    go_upto_if 64 with fail
    go_cut [6, 13, 14, 64] from 65 to 78 (fun _ _ _ _ wx => Hid (Below w1.heap.size w1 wx))
    case first =>
      by_cases hl : xs.length ≤ 1000
      · have t1 : decide ((xs.length : Int) ≤ 1000) = true := decide_eq_true (by omega)
        have Q := hide (S3.out hl wc (below_on K1.out kc.out))
        rw [t1]
        clear S3 PG UG KG KC hl t1
        go_wp2_with (go_at_call 15; refine Q.out.mono ?_; rintro e w7 ⟨rfl, hb7⟩; have J7 := hide (below_on kc.out hb7); clear hb7)
        go_meet
        case rel => exact J7
      · have t1 : decide ((xs.length : Int) ≤ 1000) = false := decide_eq_false (by omega)
        rw [t1]
        clear S3 PG UG KG KC hl t1
        go_wp2
        go_meet
        case rel => exact kc
    case rest =>
      have W5 := hide (below_on K1.out hcut.out)
      obtain ⟨c0, c1, c2, c3⟩ := KC.out _ hcut.out
      clear kc S3
      by_cases hz : M.groveF G.m = 0
      · have gd := (M.good_iff _).1 hz
        have pg := M.prunG_good gd
        have EP : M.prunG G.m = (M.gf G.m, M.gw G.m, M.gs G.m, (M.gt G.m).map fun t => M.prunV t (M.gf G.m)) := by unfold M.prunG; rw [if_pos hz]
        have EU : M.usV G.m = M.usesV (M.gt G.m) := by unfold M.usV; rw [if_pos hz]
        have EV : M.usV (M.prunG G.m) = M.usesV ((M.gt G.m).map fun t => M.prunV t (M.gf G.m)) := by unfold M.usV; rw [EP, if_pos ((M.good_iff _).2 pg)]
        have gz : M.groveF (M.prunG G.m) = 0 := by rw [EP]; exact (M.good_iff _).2 pg
        have UJ : Hid (∀ (J : Gr) W, J.m = M.prunG G.m → RdG W J → Calls Try.prog 9 #[.agg #[.int .i64 J.f, .int .i64 J.w, .slice J.wa J.ws.length J.wc, .slice J.ta J.ks.length J.tc]] W fun e w' => ∃ a c, e = .returned (.tuple #[.slice a (M.usV (M.prunG G.m)).length c, .nilIface]) ∧ RdU w' a (M.usV (M.prunG G.m)) ∧ Below W.heap.size W w') := fun J W hm hr => by
          have := hU J W hr
          rw [hm, gz, err_nil rfl] at this
          exact this
        rw [hz, err_nil rfl] at UG PG
        have NU : Hid (∀ k, 0 ≤ M.nodK (M.usV G.m) k ∧ M.nodK (M.usV G.m) k ≤ 1000) := by rw [EU]; exact M.nod_in gd
        have NV : Hid (∀ k, 0 ≤ M.nodK (M.usV (M.prunG G.m)) k ∧ M.nodK (M.usV (M.prunG G.m)) k ≤ 1000) := by rw [EV]; exact M.nod_in pg
        have NF : Hid (∀ k, k + 1 < (M.usV G.m).length → (M.uAt (M.usV G.m) (k + 1)).2.1 ≤ (M.uAt (M.usV G.m) k).2.1) := by rw [EU]; exact fun k hk => M.uses_fall _ hk
        have NS : Hid (M.nodK (M.usV (M.prunG G.m)) (M.usV (M.prunG G.m)).length ≤ M.nodK (M.usV G.m) (M.usV G.m).length) := by
          unfold Hid M.nodK
          rw [List.take_length, List.take_length, EU, EV]
          exact M.prun_uses gd.trees
        have NB : Hid (∀ k, k < (M.usV G.m).length → 0 ≤ (M.uAt (M.usV G.m) k).2.1 ∧ (M.uAt (M.usV G.m) k).2.1 ≤ 1000) := fun k hk => by
          have a1 := NU.out (k + 1)
          have a2 := NU.out k
          rw [M.nod_more hk] at a1
          have q : 1 ≤ (M.uAt (M.usV G.m) k).2.1 := by
            rw [uAt_in _ hk]
            have mem : (M.usV G.m)[k] ∈ M.usesV (M.gt G.m) := by rw [← EU]; exact List.getElem_mem hk
            exact (M.uses_in mem).2.2.1
          omega
        have NC : Hid (∀ k, k < (M.usV (M.prunG G.m)).length → 0 ≤ (M.uAt (M.usV (M.prunG G.m)) k).2.1 ∧ (M.uAt (M.usV (M.prunG G.m)) k).2.1 ≤ 1000) := fun k hk => by
          have a1 := NV.out (k + 1)
          have a2 := NV.out k
          rw [M.nod_more hk] at a1
          have q : 1 ≤ (M.uAt (M.usV (M.prunG G.m)) k).2.1 := by
            rw [uAt_in _ hk]
            have mem : (M.usV (M.prunG G.m))[k] ∈ M.usesV ((M.gt G.m).map fun t => M.prunV t (M.gf G.m)) := by rw [← EV]; exact List.getElem_mem hk
            exact (M.uses_in mem).2.2.1
          omega
        clear hz gd pg EP EU EV gz KG hS hU hP hK
        generalize hPG : M.prunG G.m = PM at *
        generalize M.usV G.m = U at *
        generalize M.usV PM = V at *
        clear hPG
        go_upto_region 13 with (go_at_call 16; refine (PG.out _ W5.out).mono ?_; rintro e w8 ⟨J, rfl, hm8, hg8, hb8⟩; have J8 := hide (below_on hcut.out hb8); have G8 := hide hg8; have M8 := hide hm8; clear hb8 hg8 hm8)
        obtain ⟨w9, hw9⟩ : ∃ W, W = w8.alloc (.cells #[.int .i64 J.f, .int .i64 J.w, .slice J.wa J.ws.length J.wc, .slice J.ta J.ks.length J.tc] 26) := ⟨_, rfl⟩
        rw [← hw9]
        have J9 : Hid (Below w8.heap.size w8 w9) := by unfold Hid; rw [hw9]; exact (Below.refl _ w8).alloc (Nat.le_refl _) _
        have K9 := hide (below_on J8.out J9.out)
        have G9 := hide (G8.out.below J9.out)
        have KJ : Hid (∀ W, Below w9.heap.size w9 W → W.cell? ⟨w8.heap.size, 0, none⟩ = some (.int .i64 J.f) ∧ W.cell? ⟨w8.heap.size, 1, none⟩ = some (.int .i64 J.w) ∧ W.cell? ⟨w8.heap.size, 2, none⟩ = some (.slice J.wa J.ws.length J.wc) ∧ W.cell? ⟨w8.heap.size, 3, none⟩ = some (.slice J.ta J.ks.length J.tc)) := fun W hW => by
          have N := new_kept hw9 hW
          exact ⟨N.1 0 _ rfl, N.1 1 _ rfl, N.1 2 _ rfl, N.1 3 _ rfl⟩
        obtain ⟨d0, d1, d2, d3⟩ := KC.out w9 K9.out
        have U9 := hide (UG.out w9 (below_on K1.out K9.out))
        clear hw9 c0 c1 c2 c3 PG UG G8
        go_upto_region 17 with (first
          | (go_at_call 9; have lean := J10; refine (UJ.out J w10 M8.out (G9.out.below J10.out)).mono ?_; rintro e w11 ⟨va, vc, rfl, hv11, hb11⟩; have V11 := hide hv11; have J11 := hide (below_on J10.out hb11); have U11 := hide (U10.out.below hb11); clear hv11 hb11)
          | (go_at_call 9; refine U9.out.mono ?_; rintro e w10 ⟨ua, uc, rfl, hu10, hb10⟩; have U10 := hide hu10; have J10 := hide hb10; obtain ⟨e0, e1, e2, e3⟩ := KJ.out w10 hb10; clear hu10 hb10))
        have K11 := hide (below_on K1.out (below_on K9.out J11.out))
        clear d0 d1 d2 d3 e0 e1 e2 e3 U9 UJ KC KJ U10 J10 J11 G9 M8 J9 K9 W5
        go_wp2
        have lu : U.length ≤ 9223372036854775807 := U11.out.1
        have lv : V.length ≤ 9223372036854775807 := V11.out.1
        go_loopw [19, 20] (fun s i wq => ∃ k : Nat, k ≤ U.length ∧ i = .int .i64 k ∧ s = .int .i64 (M.nodK U k) ∧ Hid (Below w11.heap.size w11 wq)) (fun _ i _ => U.length - (intOf i).toNat)
        case atStart => exact ⟨0, Nat.zero_le _, rfl, rfl, Below.refl _ _⟩
        case round =>
          obtain ⟨k, hk, rfl, rfl, K⟩ := hrel
          by_cases hlt : k < U.length
          · obtain ⟨ub, uo, rfl, hub, huc⟩ := (U11.out.below K.out).2 (by intro e; rw [e] at hlt; simp at hlt)
            have kz : (k : Int) < (U.length : Int) := by omega
            obtain ⟨_, u1, _⟩ := huc k hlt
            obtain ⟨n1, n2⟩ := NU.out k
            obtain ⟨b1, b2⟩ := NB.out k hlt
            have N1 := hide (M.nod_more hlt)
            have KD : Hid (∀ q, Below w11.heap.size w11 (wr.drewN q)) := fun q => below_on K.out (below_drew (Below.refl _ _) q (Nat.le_refl _))
            rcases k with _ | j
            · clear huc NF NU NV NS NB NC U11 V11
              generalize (M.uAt U 0).2.1 = x at *
              generalize M.nodK U 0 = s at *
              go_upto_region 22 with fail
              go_quiet (fail)
              go_wp2
              go_roundw
              case rel => exact ⟨1, by omega, by go_num, by rw [N1.out], KD.out _⟩
              case measure => simp [intOf]; omega
            · obtain ⟨_, v1, _⟩ := huc j (by omega)
              have f1 := NF.out j hlt
              clear huc NF NU NV NS NB NC U11 V11
              generalize (M.uAt U (j + 1)).2.1 = x at *
              generalize (M.uAt U j).2.1 = y at *
              generalize M.nodK U (j + 1) = s at *
              have t2 : decide (y < x) = false := decide_eq_false (by omega)
              go_upto_region 22 with fail
              go_quiet (fail)
              go_wp2
              go_roundw
              case rel => exact ⟨j + 1 + 1, by omega, by go_num, by rw [N1.out], KD.out _⟩
              case measure => simp [intOf]; omega
          · have ke : k = U.length := by omega
            have kz : ¬ ((k : Int) < (U.length : Int)) := by omega
            have EK : Hid (M.nodK U k = M.nodK U U.length) := by unfold Hid; rw [ke]
            rw [EK.out]
            obtain ⟨su1, su2⟩ := NU.out U.length
            clear ke EK NF NU NB
            generalize M.nodK U U.length = su at *
            have VK := hide (V11.out.below K.out)
            clear V11 U11
            go_wp2
            go_loopw [19, 21] (fun s i wq => ∃ k : Nat, k ≤ V.length ∧ i = .int .i64 k ∧ s = .int .i64 (su - M.nodK V k) ∧ Hid (wq = wr)) (fun _ i _ => V.length - (intOf i).toNat)
            case atStart => exact ⟨0, Nat.zero_le _, rfl, by show _ = Value.int .i64 (su - 0); simp, rfl⟩
            case round =>
              obtain ⟨j, hj, rfl, rfl, E⟩ := hrel
              have e := E.out
              subst e
              by_cases hjt : j < V.length
              · obtain ⟨vb, vo, rfl, hvb, hvc⟩ := VK.out.2 (by intro e; rw [e] at hjt; simp at hjt)
                have jz : (j : Int) < (V.length : Int) := by omega
                obtain ⟨_, v1, _⟩ := hvc j hjt
                obtain ⟨n1, n2⟩ := NV.out j
                obtain ⟨b1, b2⟩ := NC.out j hjt
                have N1 := hide (M.nod_more hjt)
                clear hvc NV NC NS VK
                generalize (M.uAt V j).2.1 = x at *
                generalize M.nodK V j = s at *
                go_wp2
                go_roundw
                case rel => exact ⟨j + 1, by omega, by go_num, by rw [N1.out]; congr 1; omega, (by first | rfl | trivial)⟩
                case measure => simp [intOf]; omega
              · have je : j = V.length := by omega
                have jz : ¬ ((j : Int) < (V.length : Int)) := by omega
                have EJ : Hid (M.nodK V j = M.nodK V V.length) := by unfold Hid; rw [je]
                rw [EJ.out]
                obtain ⟨n1, n2⟩ := NV.out V.length
                have ns := NS.out
                clear je EJ NV NC NS VK
                generalize M.nodK V V.length = sv at *
                have t1 : decide (sv ≤ su) = true := decide_eq_true (by omega)
                have KF := hide (below_on K11.out K.out)
                clear ns
                go_wp2
                go_ret
                exact ⟨rfl, KF.out⟩
      · rw [err_some hz] at PG KG
        clear UG hS hU hP hK
        generalize M.groveF G.m = gF at *
        go_upto_region 13 with (go_at_call 16; refine (PG.out _ W5.out).mono ?_; rintro e w8 ⟨J, rfl, hm8, hg8, hb8⟩; have J8 := hide (below_on hcut.out hb8); clear hb8 hg8 hm8)
        obtain ⟨w9, hw9⟩ : ∃ W, W = w8.alloc (.cells #[.int .i64 J.f, .int .i64 J.w, .slice J.wa J.ws.length J.wc, .slice J.ta J.ks.length J.tc] 26) := ⟨_, rfl⟩
        rw [← hw9]
        have K9 : Hid (Below w1.heap.size w1 w9) := by unfold Hid; rw [hw9]; exact below_on J8.out ((Below.refl _ w8).alloc (Nat.le_refl _) _)
        obtain ⟨d0, d1, d2, d3⟩ := KC.out w9 K9.out
        have Q9 := hide (KG.out w9 (below_on K1.out K9.out))
        clear hw9 c0 c1 c2 c3 PG KG KC
        go_wp2_with (go_at_call 17; refine Q9.out.mono ?_; rintro e w10 ⟨rfl, hb10⟩; have K10 := hide (below_on K1.out (below_on K9.out hb10)); clear hb10)
        go_ret
        exact ⟨rfl, K10.out⟩

end Go.Proofs.Ytlloiccodjnkcag

namespace Go.Proofs.Ytlloiccodjnkcag
open Go.ChangeShapes Go.WideShapes Go.ChangeAt Go.RowKit Go.Lib
set_option linter.unusedVariables false

theorem isway_any (x : Int) (w : World) (iw : Bool) (h : Hid (iw = decide (1 ≤ x ∧ x ≤ 3))) :
    Calls Try.prog 36 #[.int .i64 x] w fun e w' => e = .returned (.bool iw) ∧ w' = w := by
  rcases (show x = 1 ∨ x = 2 ∨ x = 3 ∨ (x ≠ 1 ∧ x ≠ 2 ∧ x ≠ 3) from by omega) with c | c | c | ⟨c1, c2, c3⟩
  · have q1 : (x == 1) = true := by rw [beq_iff_eq]; exact c
    have E : Hid (true = iw) := by unfold Hid; rw [h.out, decide_eq_true (by omega)]
    clear c h
    go_enter Try.func36, Try.ntmps36
    go_wp2
    go_ret
    exact ⟨ret_bool E.out, rfl⟩
  · have q1 : (x == 1) = false := by rw [beq_eq_false_iff_ne]; omega
    have q2 : (x == 2) = true := by rw [beq_iff_eq]; exact c
    have E : Hid (true = iw) := by unfold Hid; rw [h.out, decide_eq_true (by omega)]
    clear c h
    go_enter Try.func36, Try.ntmps36
    go_wp2
    go_ret
    exact ⟨ret_bool E.out, rfl⟩
  · have q1 : (x == 1) = false := by rw [beq_eq_false_iff_ne]; omega
    have q2 : (x == 2) = false := by rw [beq_eq_false_iff_ne]; omega
    have q3 : (x == 3) = true := by rw [beq_iff_eq]; exact c
    have E : Hid (true = iw) := by unfold Hid; rw [h.out, decide_eq_true (by omega)]
    clear c h
    go_enter Try.func36, Try.ntmps36
    go_wp2
    go_ret
    exact ⟨ret_bool E.out, rfl⟩
  · have q1 : (x == 1) = false := by rw [beq_eq_false_iff_ne]; omega
    have q2 : (x == 2) = false := by rw [beq_eq_false_iff_ne]; omega
    have q3 : (x == 3) = false := by rw [beq_eq_false_iff_ne]; omega
    have E : Hid (false = iw) := by unfold Hid; rw [h.out, decide_eq_false (by omega)]
    clear c1 c2 c3 h
    go_enter Try.func36, Try.ntmps36
    go_wp2
    go_ret
    exact ⟨ret_bool E.out, rfl⟩

theorem kept_box {w W : World} {a0 a1 a2 a3 : Value} {t : TypeId} (h : Below (w.alloc (.cells #[a0, a1, a2, a3] t)).heap.size (w.alloc (.cells #[a0, a1, a2, a3] t)) W) :
    W.cell? ⟨w.heap.size, 0, none⟩ = some a0 ∧ W.cell? ⟨w.heap.size, 1, none⟩ = some a1 ∧ W.cell? ⟨w.heap.size, 2, none⟩ = some a2 ∧ W.cell? ⟨w.heap.size, 3, none⟩ = some a3 := by
  have hs : w.heap.size < (w.alloc (.cells #[a0, a1, a2, a3] t)).heap.size := by simp
  exact ⟨(h.cell (p := ⟨w.heap.size, 0, none⟩) hs).trans (World.cell?_alloc_at _ _ _ 0 rfl), (h.cell (p := ⟨w.heap.size, 1, none⟩) hs).trans (World.cell?_alloc_at _ _ _ 1 rfl), (h.cell (p := ⟨w.heap.size, 2, none⟩) hs).trans (World.cell?_alloc_at _ _ _ 2 rfl), (h.cell (p := ⟨w.heap.size, 3, none⟩) hs).trans (World.cell?_alloc_at _ _ _ 3 rfl)⟩
theorem M.grove_rng {g : M.Gv} (h : M.gf g < 0 ∨ 8 < M.gf g ∨ M.gw g < 1 ∨ 3 < M.gw g) : M.groveF g = 1 := by unfold M.groveF; rw [if_pos h]
theorem err_num (c : Int) (h : c ≠ 0) : Ending.returned (.iface 55 (.int .i64 c)) = .returned (errV c) := by rw [err_some h]
theorem err_is {c d : Int} (h : c = d) (h0 : c ≠ 0) : Ending.returned (.iface 55 (.int .i64 c)) = .returned (errV d) := by rw [← h, err_some h0]
theorem err_none {d : Int} (h : d = 0) : Ending.returned .nilIface = .returned (errV d) := by rw [err_nil h]

/-- what is wrong with how many trees there are, or with their weights -/
def M.wtsF (ws : List Int) (n : Nat) : Int := if n = 0 then 5 else if 12 < n then 4 else if ws.length ≠ n then 3 else if ws.any M.wBad = true then 1 else 0
theorem err_go {c d : Int} (h : c = d) : Ending.returned (errV c) = .returned (errV d) := by rw [h]

set_option maxHeartbeats 4000000 in
theorem gwts_any (a : Option Addr) (ws : List Int) (ca n : Nat) (w : World) (h : Rd w a ws) :
    Calls Try.prog 37 #[.slice a ws.length ca, .int .i64 (n : Nat)] w fun e w' => e = .returned (errV (M.wtsF ws n)) ∧ w' = w := by
  have hm2 : ws.length ≤ 9223372036854775807 := h.1
  have HR := hide h
  clear h
  unfold M.wtsF
  by_cases t0 : n = 0
  · rw [if_pos t0]
    have q4 : ((n : Int) == 0) = true := by rw [beq_iff_eq]; omega
    clear t0
    go_enter Try.func37, Try.ntmps37
    go_wp2
    go_ret
    exact ⟨err_num 5 (by decide), rfl⟩
  · rw [if_neg t0]
    have q4 : ((n : Int) == 0) = false := by rw [beq_eq_false_iff_ne]; omega
    have t0' : 0 < n := by omega
    by_cases t12 : 12 < n
    · rw [if_pos t12]
      have q5 : decide (12 < (n : Int)) = true := decide_eq_true (by omega)
      clear t0 t12 t0'
      go_enter Try.func37, Try.ntmps37
      go_wp2
      go_ret
      exact ⟨err_num 4 (by decide), rfl⟩
    · rw [if_neg t12]
      have q5 : decide (12 < (n : Int)) = false := decide_eq_false (by omega)
      by_cases tw : ws.length ≠ n
      · rw [if_pos tw]
        have q6 : ((ws.length : Int) != (n : Int)) = true := by rw [bne_iff_ne]; omega
        clear t0 t12 t0' tw
        go_enter Try.func37, Try.ntmps37
        go_wp2
        go_ret
        exact ⟨err_num 3 (by decide), rfl⟩
      · rw [if_neg tw]
        have WB : Hid (∀ k (h : k < ws.length), M.wBad (ws.getD k 0) = true → ws.any M.wBad = true) := fun k h e => List.any_eq_true.2 ⟨_, by rw [M.getD_at h]; exact List.getElem_mem h, e⟩
        have WN : Hid ((∀ k, k < ws.length → M.wBad (ws.getD k 0) = false) → ws.any M.wBad = false) := fun h => by
          cases e : ws.any M.wBad with
          | false => rfl
          | true =>
            obtain ⟨x, hx, e2⟩ := List.any_eq_true.1 e
            obtain ⟨i, hi, rfl⟩ := List.getElem_of_mem hx
            have := h i hi
            rw [M.getD_at hi, e2] at this
            cases this
        have q6 : ((ws.length : Int) != (n : Int)) = false := by rw [bne_eq_false_iff_eq]; omega
        obtain ⟨bw, ow, ewa, hbw, hcw0⟩ := HR.out.2 (by intro e; rw [e] at tw; simp at tw; omega)
        have HCW := hide hcw0
        subst ewa
        clear HR t0 t12 tw t0' hcw0
        generalize hAB : ws.any M.wBad = AB at *
        have HAB := hide hAB
        clear hAB
        generalize hRV : (if AB = true then (1 : Int) else 0) = RV
        have HRV := hide hRV
        clear hRV
        go_enter Try.func37, Try.ntmps37
        go_wp2
        go_loopw [20] (fun i wr => ∃ k : Nat, k ≤ ws.length ∧ i = .int .i64 k ∧ Hid (∀ j, j < k → M.wBad (ws.getD j 0) = false) ∧ wr = w) (fun i _ => ws.length - (intOf i).toNat)
        case atStart => exact ⟨0, Nat.zero_le _, rfl, fun j hj => by omega, rfl⟩
        case round =>
          obtain ⟨k, hk, rfl, I, ew⟩ := hrel
          subst ew
          by_cases hlt : k < ws.length
          · have cw := HCW.out k hlt
            have kz : (k : Int) < (ws.length : Int) := by omega
            have wb : M.wBad (ws.getD k 0) = (decide (ws.getD k 0 < 1) || decide (1000 < ws.getD k 0)) := rfl
            by_cases b1 : ws.getD k 0 < 1
            · have E : Hid (AB = true) := WB.out k hlt (by rw [wb, decide_eq_true b1]; rfl)
              have p1 : decide (ws.getD k 0 < 1) = true := decide_eq_true b1
              have RE : Hid ((1 : Int) = RV) := by unfold Hid; rw [← HRV.out, if_pos E.out]
              clear WB WN wb b1 E HCW I
              generalize ws.getD k 0 = z at *
              go_wp2
              go_ret
              exact ⟨err_is RE.out (by decide), rfl⟩
            · by_cases b2 : 1000 < ws.getD k 0
              · have E : Hid (AB = true) := WB.out k hlt (by rw [wb, decide_eq_true b2]; simp)
                have p1 : decide (ws.getD k 0 < 1) = false := decide_eq_false b1
                have p2 : decide (1000 < ws.getD k 0) = true := decide_eq_true b2
                have RE : Hid ((1 : Int) = RV) := by unfold Hid; rw [← HRV.out, if_pos E.out]
                clear WB WN wb b1 b2 E HCW I
                generalize ws.getD k 0 = z at *
                go_wp2
                go_ret
                exact ⟨err_is RE.out (by decide), rfl⟩
              · have p1 : decide (ws.getD k 0 < 1) = false := decide_eq_false b1
                have p2 : decide (1000 < ws.getD k 0) = false := decide_eq_false b2
                have N : Hid (∀ j, j < k + 1 → M.wBad (ws.getD j 0) = false) := fun j hj => by
                  by_cases e : j = k
                  · rw [e, wb, p1, p2]; rfl
                  · exact I.out j (by omega)
                clear WB WN wb b1 b2 HCW I
                generalize ws.getD k 0 = z at *
                go_wp2
                go_roundw
                case rel => exact ⟨k + 1, by omega, by go_num, N, trivial⟩
                case measure => simp [intOf]; omega
          · have E : Hid (AB = false) := WN.out (fun j hj => I.out j (by omega))
            have RE : Hid (RV = 0) := by unfold Hid; rw [← HRV.out, E.out]; rfl
            clear WB WN I E HAB HCW
            go_wp2
            go_ret
            exact ⟨err_none RE.out, rfl⟩

theorem M.grove_wts {g : M.Gv} (h : ¬ (M.gf g < 0 ∨ 8 < M.gf g ∨ M.gw g < 1 ∨ 3 < M.gw g)) : M.groveF g = if M.wtsF (M.gs g) (M.gt g).length ≠ 0 then M.wtsF (M.gs g) (M.gt g).length else M.treesF (M.gf g) (M.gt g) := by
  unfold M.groveF M.wtsF
  rw [if_neg h]
  repeat' split
  all_goals first | rfl | omega | simp_all

set_option maxHeartbeats 16000000 in
set_option maxRecDepth 10000 in
theorem gcheck_any (G : Gr) (w : World) (h : RdG w G) :
    Calls Try.prog 17 #[G.v] w fun e w' => e = .returned (errV (M.groveF G.m)) ∧ Below w.heap.size w w' := by
  have hm1 : G.ks.length ≤ 9223372036854775807 := h.2.1
  have hm2 : G.ws.length ≤ 9223372036854775807 := h.1.1
  have HG := hide h
  have tlen : (M.gt G.m).length = G.ks.length := tl_len G.ks
  have B0 : Hid (∀ o, Below w.heap.size w (w.alloc o)) := fun o => (Below.refl _ w).alloc (Nat.le_refl _) o
  obtain ⟨iw, hiw⟩ : ∃ iw : Bool, iw = decide (1 ≤ G.w ∧ G.w ≤ 3) := ⟨_, rfl⟩
  have IW := hide (fun W => isway_any G.w W iw hiw)
  have CW := hide (fun W (hW : Below w.heap.size w W) => gwts_any G.wa G.ws G.wc G.ks.length W (HG.out.below hW).1)
  clear h
  unfold Gr.v
  by_cases hR : M.gf G.m < 0 ∨ 8 < M.gf G.m ∨ M.gw G.m < 1 ∨ 3 < M.gw G.m
  · rw [M.grove_rng hR]
    have hR' : G.f < 0 ∨ 8 < G.f ∨ G.w < 1 ∨ 3 < G.w := hR
    clear hR tlen HG CW
    by_cases c0 : G.f < 0
    · have q0 : decide (G.f < 0) = true := decide_eq_true (by omega)
      clear hR' c0 hiw
      go_enter Try.func17, Try.ntmps17
      go_wp2
      go_ret
      exact ⟨err_num 1 (by decide), B0.out _⟩
    · by_cases c1 : 8 < G.f
      · have q0 : decide (G.f < 0) = false := decide_eq_false (by omega)
        have q1 : decide (8 < G.f) = true := decide_eq_true (by omega)
        clear hR' c0 c1 hiw
        go_enter Try.func17, Try.ntmps17
        go_wp2
        go_ret
        exact ⟨err_num 1 (by decide), B0.out _⟩
      · have q0 : decide (G.f < 0) = false := decide_eq_false (by omega)
        have q1 : decide (8 < G.f) = false := decide_eq_false (by omega)
        have e : iw = false := by rw [hiw, decide_eq_false (by omega)]
        subst e
        clear hR' c0 c1 hiw
        go_enter Try.func17, Try.ntmps17
        go_wp2_with (go_at_call 36; refine (IW.out _).mono ?_; rintro e w1 ⟨rfl, e1⟩; subst w1)
        go_ret
        exact ⟨err_num 1 (by decide), B0.out _⟩
  · have hR' : ¬ (G.f < 0 ∨ 8 < G.f ∨ G.w < 1 ∨ 3 < G.w) := hR
    have q0 : decide (G.f < 0) = false := decide_eq_false (by omega)
    have q1 : decide (8 < G.f) = false := decide_eq_false (by omega)
    have e : iw = true := by rw [hiw, decide_eq_true (by omega)]
    subst e
    have E0 : M.groveF G.m = if M.wtsF G.ws G.ks.length ≠ 0 then M.wtsF G.ws G.ks.length else M.treesF G.f (tl G.ks) := by
      rw [← tlen]; exact M.grove_wts hR
    rw [E0]
    clear hR E0 hiw hR'
    by_cases hw : M.wtsF G.ws G.ks.length ≠ 0
    · rw [if_pos hw]
      have HW := hide hw
      rw [err_some hw] at CW
      clear tlen HG hw
      generalize M.wtsF G.ws G.ks.length = wf at *
      go_enter Try.func17, Try.ntmps17
      go_wp2_with (first
        | (go_at_call 36; refine (IW.out _).mono ?_; rintro e w1 ⟨rfl, e1⟩; subst w1)
        | (go_at_call 37; refine (CW.out _ (B0.out _)).mono ?_; rintro e w2 ⟨rfl, e2⟩; subst w2))
      go_ret
      exact ⟨err_num _ HW.out, B0.out _⟩
    · rw [if_neg hw]
      have w0 : M.wtsF G.ws G.ks.length = 0 := by omega
      rw [w0, err_nil rfl] at CW
      have t0' : 0 < G.ks.length := by
        rcases Nat.eq_zero_or_pos G.ks.length with q | q
        · unfold M.wtsF at w0; rw [if_pos q] at w0; cases w0
        · exact q
      have n12 : G.ks.length ≤ 12 := by
        unfold M.wtsF at w0; rw [if_neg (by omega)] at w0
        by_cases q : 12 < G.ks.length
        · rw [if_pos q] at w0; cases w0
        · omega
      have TA : Hid (∀ k, k < G.ks.length → (∀ j, j < k → (M.treeF ((tl G.ks).getD j []) G.f).2 = 0) → (M.treeF ((tl G.ks).getD k []) G.f).2 ≠ 0 → M.treesF G.f (tl G.ks) = (M.treeF ((tl G.ks).getD k []) G.f).2) := fun k hk h hn => M.trees_at (by rw [tl_len]; exact hk) h hn
      have TN : Hid ((∀ j, j < G.ks.length → (M.treeF ((tl G.ks).getD j []) G.f).2 = 0) → M.treesF G.f (tl G.ks) = 0) := fun h => M.trees_all (fun j hj => h j (by rw [tl_len] at hj; exact hj))
      have TL : Hid (∀ k (h : k < G.ks.length), (tl G.ks).getD k [] = G.ks[k].2.1) := fun k h => tl_at G.ks h
      have RT : Hid (∀ W, Below w.heap.size w W → RdT W G.ta G.ks) := fun W hW => (HG.out.below hW).2
      obtain ⟨bt, ot, eta, hbt, hct0⟩ := HG.out.2.2.2 (by intro e; rw [e] at t0'; simp at t0')
      have HCT : Hid (∀ W, Below w.heap.size w W → ∀ i (hi : i < G.ks.length), W.cell? ⟨bt, ot + i, none⟩ = some (tV G.ks[i])) := fun W hW i hi => (hW.cell (p := ⟨bt, ot + i, none⟩) hbt).trans (hct0 i hi)
      rw [eta]
      clear tlen HG hw w0 hct0 hbt eta
      generalize M.treesF G.f (tl G.ks) = TF at *
      have KG : Hid (∀ W, Below (w.alloc (.cells #[.int .i64 G.f, .int .i64 G.w, .slice G.wa G.ws.length G.wc, .slice (some ⟨bt, ot, none⟩) G.ks.length G.tc] 26)).heap.size (w.alloc (.cells #[.int .i64 G.f, .int .i64 G.w, .slice G.wa G.ws.length G.wc, .slice (some ⟨bt, ot, none⟩) G.ks.length G.tc] 26)) W → Below w.heap.size w W ∧ W.cell? ⟨w.heap.size, 0, none⟩ = some (.int .i64 G.f) ∧ W.cell? ⟨w.heap.size, 3, none⟩ = some (.slice (some ⟨bt, ot, none⟩) G.ks.length G.tc)) := fun W hW =>
        ⟨below_on ((Below.refl _ w).alloc (Nat.le_refl _) _) hW, (kept_box hW).1, (kept_box hW).2.2.2⟩
      go_enter Try.func17, Try.ntmps17
      go_wp2_with (first
        | (go_at_call 36; refine (IW.out _).mono ?_; rintro e w1 ⟨rfl, e1⟩; subst w1)
        | (go_at_call 37; refine (CW.out _ (B0.out _)).mono ?_; rintro e w2 ⟨rfl, e2⟩; subst w2))
      go_loopw [35] (fun i wr => ∃ k : Nat, k ≤ G.ks.length ∧ i = .int .i64 k ∧ Hid (∀ j, j < k → (M.treeF ((tl G.ks).getD j []) G.f).2 = 0) ∧ Hid (Below (w.alloc (.cells #[.int .i64 G.f, .int .i64 G.w, .slice G.wa G.ws.length G.wc, .slice (some ⟨bt, ot, none⟩) G.ks.length G.tc] 26)).heap.size (w.alloc (.cells #[.int .i64 G.f, .int .i64 G.w, .slice G.wa G.ws.length G.wc, .slice (some ⟨bt, ot, none⟩) G.ks.length G.tc] 26)) wr)) (fun i _ => G.ks.length - (intOf i).toNat)
      case atStart => exact ⟨0, Nat.zero_le _, rfl, fun j hj => by omega, Below.refl _ _⟩
      case round =>
        obtain ⟨k, hk, rfl, I, K⟩ := hrel
        obtain ⟨kw, c0, c3⟩ := KG.out _ K.out
        by_cases hlt : k < G.ks.length
        · obtain ⟨hk1, hk2, hk3⟩ := RT.out wr kw
          have ct := HCT.out wr kw k hlt
          have rk := hk2 _ (List.getElem_mem hlt)
          have TE := TL.out k hlt
          have TR := hide (tcheck_any G.ks[k].1 G.ks[k].2.1 G.ks[k].2.2 G.f wr rk)
          have TAK := hide (TA.out k hlt I.out)
          rw [TE] at TAK
          have kz : (k : Int) < (G.ks.length : Int) := by omega
          unfold tV at ct
          have N : Hid ((M.treeF G.ks[k].2.1 G.f).2 = 0 → ∀ j, j < k + 1 → (M.treeF ((tl G.ks).getD j []) G.f).2 = 0) := fun hz j hj => by
            by_cases e : j = k
            · rw [e, TE]; exact hz
            · exact I.out j (by omega)
          clear hk1 hk2 hk3 HCT rk TE TA TN TL RT I
          generalize (M.treeF G.ks[k].2.1 G.f).2 = te at *
          generalize (M.treeF G.ks[k].2.1 G.f).1 = tp at *
          generalize G.ks[k].2.1.length = tn at *
          generalize G.ks[k].2.2 = tcc at *
          generalize G.ks[k].1 = ta at *
          by_cases hz : te = 0
          · rw [err_nil hz] at TR
            have NN := hide (N.out hz)
            clear hz N TAK
            go_wp2_with (go_at_call 38; refine TR.out.mono ?_; rintro e w5 ⟨rfl, hb5⟩; have K6 := hide (below_on K.out hb5))
            go_roundw
            case rel => exact ⟨k + 1, by omega, by go_num, NN, K6⟩
            case measure => simp [intOf]; omega
          · rw [err_some hz] at TR
            have TE2 := hide (TAK.out hz)
            have HZ := hide hz
            clear hz N TAK
            go_wp2_with (go_at_call 38; refine TR.out.mono ?_; rintro e w5 ⟨rfl, hb5⟩; have kw6 := below_on kw hb5)
            go_ret
            exact ⟨err_is (by rw [TE2.out]) HZ.out, kw6⟩
        · have TZ : Hid (TF = 0) := TN.out (fun j hj => I.out j (by omega))
          clear TA TN TL RT I HCT
          go_wp2
          go_ret
          exact ⟨err_none TZ.out, kw⟩

end Go.Proofs.Ytlloiccodjnkcag

namespace Go.Proofs.Ytlloiccodjnkcag
open Go.ChangeShapes Go.WideShapes Go.ChangeAt Go.RowKit Go.Lib
set_option linter.unusedVariables false

set_option maxHeartbeats 4000000 in
set_option maxRecDepth 10000 in
theorem weisame_any : WgSameGives := by
  intro a b xs ys ca cb w ha hb
  have hm : xs.length ≤ 9223372036854775807 := ha.1
  have hm2 : ys.length ≤ 9223372036854775807 := hb.1
  by_cases hl : xs.length = ys.length
  · have q1 : ((xs.length : Int) != (ys.length : Int)) = false := by rw [bne_eq_false_iff_eq]; omega
    by_cases hk : 1000 < xs.length
    · have EF : M.sameF xs ys = 4 := by unfold M.sameF; rw [if_neg (by simpa using hl), if_pos hk]
      have EV : M.sameV xs ys = 0 := by unfold M.sameV; rw [EF]; rfl
      rw [EF, EV, err_some (by decide)]
      have q2 : decide ((1000 : Int) < (xs.length : Int)) = true := decide_eq_true (by omega)
      have q3 : decide (1000 < xs.length) = true := decide_eq_true (by omega)
      clear ha hb EF EV hl hk
      generalize xs.length = n at *
      generalize ys.length = m at *
      go_enter Try.func15, Try.ntmps15
      go_wp2
      go_ret2
      exact ⟨rfl, Below.refl _ _⟩
    · have EF : M.sameF xs ys = 0 := by unfold M.sameF; rw [if_neg (by simpa using hl), if_neg hk]
      have EV : M.sameV xs ys = (M.sameN xs ys : Nat) := by unfold M.sameV; rw [if_pos EF]
      rw [EF, EV, err_nil rfl]
      have q2 : decide ((1000 : Int) < (xs.length : Int)) = false := decide_eq_false (by omega)
      have q3 : decide (1000 < xs.length) = false := decide_eq_false (by omega)
      have HL := hide hl
      have HA := hide ha
      have HB := hide hb
      have SM : Hid (∀ k, k < xs.length → M.sameN (xs.take (k + 1)) (ys.take (k + 1)) = M.sameN (xs.take k) (ys.take k) + (if xs.getD k 0 = ys.getD k 0 then 1 else 0)) := fun k hk => M.same_more hl hk
      have SL : Hid (∀ k, M.sameN (xs.take k) (ys.take k) ≤ 1000) := fun k => by
        have := M.same_le (xs.take k) (ys.take k)
        rw [List.length_take] at this
        omega
      have SE : Hid (M.sameN (xs.take xs.length) (ys.take xs.length) = M.sameN xs ys) := by unfold Hid; rw [List.take_length, hl, List.take_length]
      generalize M.sameN xs ys = o at *
      clear ha hb EF EV hl hk
      go_enter Try.func15, Try.ntmps15
      go_wp2
      go_loopw [6, 21] (fun s i wr => ∃ k : Nat, k ≤ xs.length ∧ i = .int .i64 k ∧ s = .int .i64 (M.sameN (xs.take k) (ys.take k) : Nat) ∧ Hid (Below w.heap.size w wr)) (fun _ i _ => xs.length - (intOf i).toNat)
      case atStart => exact ⟨0, Nat.zero_le _, rfl, rfl, Below.refl _ _⟩
      case round =>
        obtain ⟨k, hk, rfl, rfl, K⟩ := hrel
        by_cases hlt : k < xs.length
        · have hlt2 : k < ys.length := by have := HL.out; omega
          obtain ⟨ba, oa, rfl, hba, hca⟩ := HA.out.2 (by intro e; rw [e] at hlt; simp at hlt)
          obtain ⟨bb, ob, rfl, hbb, hcb⟩ := HB.out.2 (by intro e; rw [e] at hlt2; simp at hlt2)
          have c1 := (K.out.cell (p := ⟨ba, oa + k, none⟩) hba).trans (hca k hlt)
          have c2 := (K.out.cell (p := ⟨bb, ob + k, none⟩) hbb).trans (hcb k hlt2)
          have S1 := hide (SM.out k hlt)
          have s0 := SL.out k
          have kz : (k : Int) < (xs.length : Int) := by omega
          have kz2 : (k : Int) < (ys.length : Int) := by omega
          clear hca hcb SM SL SE HA HB
          generalize hx : xs.getD k 0 = x at *
          generalize hy : ys.getD k 0 = y at *
          clear hx hy
          generalize M.sameN (xs.take k) (ys.take k) = s at *
          by_cases he : x = y
          · have q : (x == y) = true := by rw [beq_iff_eq]; exact he
            have E1 : Hid (M.sameN (xs.take (k + 1)) (ys.take (k + 1)) = s + 1) := by unfold Hid; rw [S1.out, if_pos he]
            clear he S1
            go_wp2
            go_roundw
            case rel => exact ⟨k + 1, by omega, by go_num, by rw [E1.out]; go_num, K⟩
            case measure => simp [intOf]; omega
          · have q : (x == y) = false := by rw [beq_eq_false_iff_ne]; exact he
            have E1 : Hid (M.sameN (xs.take (k + 1)) (ys.take (k + 1)) = s) := by unfold Hid; rw [S1.out, if_neg he]; omega
            clear he S1
            go_wp2
            go_roundw
            case rel => exact ⟨k + 1, by omega, by go_num, by rw [E1.out], K⟩
            case measure => simp [intOf]; omega
        · have ke : k = xs.length := by omega
          have E1 : Hid (M.sameN (xs.take k) (ys.take k) = o) := by unfold Hid; rw [ke]; exact SE.out
          clear SM SL SE HA HB ke
          generalize M.sameN (xs.take k) (ys.take k) = s at *
          go_wp2
          go_ret2
          exact ⟨by rw [E1.out]; rfl, K.out⟩
  · have EF : M.sameF xs ys = 3 := by unfold M.sameF; rw [if_pos hl]
    have EV : M.sameV xs ys = 0 := by unfold M.sameV; rw [EF]; rfl
    rw [EF, EV, err_some (by decide)]
    have q1 : ((xs.length : Int) != (ys.length : Int)) = true := by rw [bne_iff_ne]; omega
    clear ha hb EF EV hl
    generalize xs.length = n at *
    generalize ys.length = m at *
    go_enter Try.func15, Try.ntmps15
    go_wp2
    go_ret2
    exact ⟨rfl, Below.refl _ _⟩

end Go.Proofs.Ytlloiccodjnkcag
