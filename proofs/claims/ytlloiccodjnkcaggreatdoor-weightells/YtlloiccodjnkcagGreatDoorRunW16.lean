/-
  Several texts as one: Groves, GwLaid, WTellW, WgU, WgN, WgW, WgS, WgP, WgR.
-/
import Derived.Test.YtlloiccodjnkcagGreatDoorRunW5
import Derived.Test.YtlloiccodjnkcagGreatDoorRunW6
import Derived.Lib.SmallJoins
import Derived.Test.YtlloiccodjnkcagGreatDoorRunW1
import Derived.Test.YtlloiccodjnkcagGreatDoorRunW7
import Derived.RegionTactic
import Derived.Deep.Cut
import Derived.Deep.CutRange
import Derived.Deep.AppendLies
import Derived.BigQuiet
import Derived.Deep.QuietTactic
import Derived.Test.YtlloiccodjnkcagGreatDoorRunW8
namespace Go.Proofs.YtlloiccodjnkcagGreatDoor
open Go.ChangeShapes Go.WideShapes Go.ChangeAt Go.RowKit Go.Deep
set_option linter.unusedVariables false

abbrev Tc := Option Addr × List M.Nd × Nat
def tV (k : Tc) : Value := .slice k.1 k.2.1.length k.2.2
/-- trees, where they lie -/
def RdT (w : World) (a : Option Addr) (ks : List Tc) : Prop :=
  ks.length ≤ maxLen ∧ (∀ k ∈ ks, RdN w k.1 k.2.1) ∧ (ks ≠ [] → ∃ b off, a = some ⟨b, off, none⟩ ∧ b < w.heap.size ∧ ∀ i (h : i < ks.length), w.cell? ⟨b, off + i, none⟩ = some (tV ks[i]))
theorem RdT.below {w w' : World} {a : Option Addr} {ks : List Tc} (h : RdT w a ks) (hb : Below w.heap.size w w') : RdT w' a ks :=
  ⟨h.1, fun k hk => (h.2.1 k hk).below hb, fun hn => by
    obtain ⟨b, off, e, hl, hc⟩ := h.2.2 hn
    exact ⟨b, off, e, Nat.lt_of_lt_of_le hl hb.size, fun i hi => (hb.cell (p := ⟨b, off + i, none⟩) hl).trans (hc i hi)⟩⟩
def tl (ks : List Tc) : List (List M.Nd) := ks.map (·.2.1)
theorem tl_len (ks : List Tc) : (tl ks).length = ks.length := by simp [tl]
theorem tl_at (ks : List Tc) {k : Nat} (h : k < ks.length) : (tl ks).getD k [] = ks[k].2.1 := by
  rw [M.getD_at (by rw [tl_len]; exact h)]; simp [tl]

/-- a grove, as it is handed on -/
structure Gr where
  f : Int
  w : Int
  wa : Option Addr
  ws : List Int
  wc : Nat
  ta : Option Addr
  ks : List Tc
  tc : Nat
def Gr.v (G : Gr) : Value := .agg #[.int .i64 G.f, .int .i64 G.w, .slice G.wa G.ws.length G.wc, .slice G.ta G.ks.length G.tc]
def Gr.m (G : Gr) : M.Gv := (G.f, G.w, G.ws, tl G.ks)
def RdG (w : World) (G : Gr) : Prop := Rd w G.wa G.ws ∧ RdT w G.ta G.ks
theorem RdG.below {w w' : World} {G : Gr} (h : RdG w G) (hb : Below w.heap.size w w') : RdG w' G := ⟨h.1.below hb, h.2.below hb⟩

theorem cellsTree : Tryz.prog.cellsOf 26 = 1 := by kernel_rfl
set_option maxRecDepth 10000 in
theorem open_trees {H : Type} {enc : TypeId × Value → H} {W : World} {base : Nat} {spare : Nat → Bool} {held : Bool} {fuel : Nat} {a : Option Addr} {len cap : Nat} {x : DataW H × List MemPlace}
    (h : DataW.trod enc Tryz.prog W base spare held fuel 23 [.slice a len cap] = some x) : ∃ ks : List Tc, ks.length = len ∧ RdT W a ks := by
  rcases open_slice Tryz.underlying23 h with ⟨hcs, _⟩ | ⟨a', len', cap', m, n, D, Pl, hcs, _, hl, hm, hmm, _, hx⟩
  · cases hcs
    exact ⟨[], rfl, ⟨Nat.zero_le _, (fun k hk => by cases hk), fun h => absurd rfl h⟩⟩
  · cases hcs
    have hlm : len ≤ m := by rw [hmm]; split <;> omega
    have each : ∀ i, i < len → ∃ k : Tc, W.cell? (a'.add i) = some (tV k) ∧ RdN W k.1 k.2.1 := by
      intro i hi
      obtain ⟨cs, h1, h2⟩ := hx i (by omega)
      rw [cellsTree] at h1
      obtain ⟨_, hlen, hcell⟩ := World.cells?_some h1
      match cs, hlen with
      | [c0], _ =>
        have d0 := hcell 0 (by omega)
        rw [add_add] at d0
        simp at d0
        have sl : ∃ b l c, c0 = .slice b l c := by
          rcases open_slice Tryz.underlying26 h2 with ⟨hcs, _⟩ | ⟨a2, len2, cap2, _, _, _, _, hcs, _⟩
          · exact ⟨none, 0, 0, by cases hcs; rfl⟩
          · exact ⟨some a2, len2, cap2, by cases hcs; rfl⟩
        obtain ⟨b, l, c, rfl⟩ := sl
        obtain ⟨ts, e, hr⟩ := open_nodes h2
        subst e
        exact ⟨(b, ts, c), d0, hr⟩
    obtain ⟨f, hf⟩ := choose_lt each
    refine ⟨(List.range len).map f, by simp, ⟨by simp; omega, ?_, fun hne => ?_⟩⟩
    · intro k hk
      rw [List.mem_map] at hk
      obtain ⟨i, hi, rfl⟩ := hk
      exact (hf i (by simpa using hi)).2
    · have hp : 0 < len := by
        rcases Nat.eq_zero_or_pos len with h0 | h0
        · subst h0; exact absurd rfl hne
        · exact h0
      obtain ⟨b, off, spot⟩ := a'
      have hspot : spot = none := by
        have := World.cell?_spot (hf 0 hp).1
        simpa [Addr.add] using this
      subst hspot
      refine ⟨b, off, rfl, ?_, fun i hi => ?_⟩
      · have := (hf 0 hp).1
        rw [add_flat] at this
        exact block_lt_of_cell this
      · have hi' : i < len := by simpa using hi
        have q := (hf i hi').1
        rw [add_flat] at q
        rw [q]; simp

theorem cellsGrove : Tryz.prog.cellsOf 25 = 4 := by kernel_rfl
theorem cellsRow : Tryz.prog.cellsOf 22 = 1 := by kernel_rfl
theorem cellsTrees : Tryz.prog.cellsOf 23 = 1 := by kernel_rfl
set_option maxRecDepth 10000 in
theorem open_grove {H : Type} {enc : TypeId × Value → H} {W : World} {base b0 : Nat} {held : Bool} {v : Value} {d : DataW H} {ps : List MemPlace}
    (hv : Value.okWide Tryz.prog W .any base 25 v) (h : DataW.Trod enc Tryz.prog W b0 (fun _ => true) held 25 v d ps) : ∃ G : Gr, v = G.v ∧ RdG W G := by
  obtain ⟨cs, rfl, hsz⟩ := okWide_struct Tryz.underlying25 hv
  rw [cellsGrove] at hsz
  obtain ⟨c0, c1, c2, c3, rfl⟩ := Joins.array4 hsz
  obtain ⟨fuel, hf⟩ := h
  obtain ⟨y0, y1, y2, y3, n, _, _, g0, g1, g2, g3⟩ := Joins.trod_struct4 Tryz.underlying25 hf
  rw [cellsInt] at g0 g1
  rw [cellsRow] at g2
  rw [cellsTrees] at g3
  obtain ⟨n0, e0, _⟩ := DataW.trod_int Tryz.underlying3 g0
  obtain ⟨n1, e1, _⟩ := DataW.trod_int Tryz.underlying3 g1
  simp [Value.cells] at e0 e1 g2 g3
  subst e0
  subst e1
  obtain ⟨wa, ws, wc, rfl, hw⟩ : ∃ wa ws wc, c2 = .slice wa (List.length (α := Int) ws) wc ∧ Rd W wa ws := by
    rcases open_ints Tryz.underlying22 Tryz.underlying3 (by kernel_rfl) g2 with ⟨hcs, _⟩ | ⟨x, l, c, zs, hcs, _, hl, hm, hz, _, hcell, hwz⟩
    · cases hcs
      exact ⟨none, [], 0, rfl, ⟨Nat.zero_le _, fun h => absurd rfl h⟩⟩
    · cases hcs
      have y : IsRow .i64 W (some x) l c zs := .inr ⟨_, rfl, hl, hm, by simpa using hz, hcell, hwz⟩
      exact ⟨some x, zs.take l, c, by rw [(rd_of y).2], (rd_of y).1⟩
  obtain ⟨ta, ks, tc, rfl, hk⟩ : ∃ ta ks tc, c3 = .slice ta (List.length (α := Tc) ks) tc ∧ RdT W ta ks := by
    have sl : ∃ b l c, c3 = .slice b l c := by
      rcases open_slice Tryz.underlying23 g3 with ⟨hcs, _⟩ | ⟨a2, len2, cap2, _, _, _, _, hcs, _⟩
      · exact ⟨none, 0, 0, by cases hcs; rfl⟩
      · exact ⟨some a2, len2, cap2, by cases hcs; rfl⟩
    obtain ⟨b, l, c, rfl⟩ := sl
    obtain ⟨ks, e, hr⟩ := open_trees g3
    subst e
    exact ⟨b, ks, c, rfl, hr⟩
  exact ⟨⟨n0, n1, wa, ws, wc, ta, ks, tc⟩, rfl, hw, hk⟩

end Go.Proofs.YtlloiccodjnkcagGreatDoor

namespace Go.Proofs.YtlloiccodjnkcagGreatDoor
open Go.ChangeShapes Go.WideShapes Go.ChangeAt Go.RowKit Go.Lib
set_option linter.unusedVariables false

theorem infoL : (Tryz.prog.info? 26).map (fun i => (i.zero, i.size, i.bytes)) = some (some (.slice none 0 0), 1, 24) := by kernel_rfl
theorem rdn_keep {W W' : World} {a : Option Addr} {ts : List M.Nd} (h : RdN W a ts) (hs : ∀ p, a = some p → W'.heap[p.block]? = W.heap[p.block]?) (hz : W.heap.size ≤ W'.heap.size) : RdN W' a ts :=
  ⟨h.1, fun hn => by
    obtain ⟨b, off, e, hl, hc⟩ := h.2 hn
    have hb : W'.heap[b]? = W.heap[b]? := hs _ e
    refine ⟨b, off, e, Nat.lt_of_lt_of_le hl hz, fun i hi => ?_⟩
    obtain ⟨h0, h1, h2, h3, h4, h5⟩ := hc i hi
    exact ⟨(World.cell?_of_block (a := ⟨b, _, none⟩) hb).trans h0, (World.cell?_of_block (a := ⟨b, _, none⟩) hb).trans h1, (World.cell?_of_block (a := ⟨b, _, none⟩) hb).trans h2, (World.cell?_of_block (a := ⟨b, _, none⟩) hb).trans h3, (World.cell?_of_block (a := ⟨b, _, none⟩) hb).trans h4, (World.cell?_of_block (a := ⟨b, _, none⟩) hb).trans h5⟩⟩
theorem rd_keep {W W' : World} {a : Option Addr} {xs : List Int} (h : Rd W a xs) (hs : ∀ p, a = some p → W'.heap[p.block]? = W.heap[p.block]?) (hz : W.heap.size ≤ W'.heap.size) : Rd W' a xs :=
  ⟨h.1, fun hn => by
    obtain ⟨b, off, e, hl, hc⟩ := h.2 hn
    have hb : W'.heap[b]? = W.heap[b]? := hs _ e
    exact ⟨b, off, e, Nat.lt_of_lt_of_le hl hz, fun i hi => (World.cell?_of_block (a := ⟨b, _, none⟩) hb).trans (hc i hi)⟩⟩
/-- a grove while it is laid: its block, and its first trees -/
structure Gw (wx wr : World) (gb : Nat) (f wy : Int) (wv : Value) (C : List Tc) (x : Value) : Prop where
  gr : wx.grownBy wr (some gb)
  c0 : wr.cell? ⟨gb, 0, none⟩ = some (.int .i64 f)
  c1 : wr.cell? ⟨gb, 1, none⟩ = some (.int .i64 wy)
  c2 : wr.cell? ⟨gb, 2, none⟩ = some wv
  c3 : wr.cell? ⟨gb, 3, none⟩ = some x
  fr : ∀ j, wr.frozen? ⟨gb, j, none⟩ = false
  lt : gb < wx.heap.size
  ox : wr.ownsRow wx.heap.size 26 1 x C.length (C.map tV)
  rd : ∀ c ∈ C, RdN wr c.1 c.2.1
  ap : ∀ c ∈ C, ∀ p, c.1 = some p → wx.heap.size ≤ p.block ∧ p.block < wr.heap.size ∧ x.ownBlock ≠ some p.block
theorem Gw.up {wx wr W : World} {gb : Nat} {f wy : Int} {wv : Value} {C : List Tc} {x : Value} (h : Gw wx wr gb f wy wv C x) (hb : Below wr.heap.size wr W) : Gw wx W gb f wy wv C x := by
  have hl : gb < wr.heap.size := Nat.lt_of_lt_of_le h.lt h.gr.size
  exact ⟨grown_trans h.gr (grown_of hb none) (.inr (fun q hq => by cases hq)), (hb.cell (p := ⟨gb, 0, none⟩) hl).trans h.c0, (hb.cell (p := ⟨gb, 1, none⟩) hl).trans h.c1, (hb.cell (p := ⟨gb, 2, none⟩) hl).trans h.c2, (hb.cell (p := ⟨gb, 3, none⟩) hl).trans h.c3, fun j => (hb.frozen (p := ⟨gb, j, none⟩) hl).trans (h.fr j), h.lt, own_up h.ox hb, fun c hc => (h.rd c hc).below hb, fun c hc p hp => ⟨(h.ap c hc p hp).1, Nat.lt_of_lt_of_le (h.ap c hc p hp).2.1 hb.size, (h.ap c hc p hp).2.2⟩⟩
/-- one more tree: what was made of it lies apart -/
theorem Gw.more {wx w0 wr w6 : World} {gb : Nat} {f wy : Int} {wv : Value} {C : List Tc} {x : Value} (h : Gw wx wr gb f wy wv C x) (hx : ∀ q, x.ownBlock = some q → q < w0.heap.size) (h0 : wx.heap.size ≤ w0.heap.size) (hw : w0.heap.size ≤ wr.heap.size) {a : Option Addr} {ts : List M.Nd} {cp g2 c2 : Nat} {o : Obj} (hne : ts ≠ []) (hr : RdN wr a ts) (ha : ∀ p, a = some p → w0.heap.size ≤ p.block)
    (hg : (wr.alloc o).grownBy w6 x.ownBlock) (ho : w6.ownsRow wx.heap.size 26 1 (.slice (some ⟨g2, 0, none⟩) (C.length + 1) c2) (C.length + 1) (C.map tV ++ [.slice a ts.length cp])) (hor : x.ownBlock = some g2 ∨ g2 = wr.heap.size + 1) :
    Gw wx (w6.setCell ⟨gb, 3, none⟩ (.slice (some ⟨g2, 0, none⟩) (C.length + 1) c2)) gb f wy wv (C ++ [(a, ts, cp)]) (.slice (some ⟨g2, 0, none⟩) (C.length + 1) c2) := by
  have hl := h.lt
  have hs := h.gr.size
  have gz : wr.heap.size + 1 ≤ w6.heap.size := by have := hg.size; simpa using this
  have xb : ∀ q, x.ownBlock = some q → wx.heap.size ≤ q := fun q hq => (h.ox.lt q hq).1
  have blk : ∀ q, q < wr.heap.size → q ≠ gb → x.ownBlock ≠ some q → (w6.setCell ⟨gb, 3, none⟩ (.slice (some ⟨g2, 0, none⟩) (C.length + 1) c2)).heap[q]? = wr.heap[q]? := fun q q1 q2 q3 => (Below.heap_setCell _ _ _ _ q2).trans ((hg.block q (by simp; omega) (fun e => q3 e.symm)).trans (Below.heap_alloc _ _ _ q1))
  have gf : w6.heap[gb]? = wr.heap[gb]? := (hg.block gb (by simp; omega) (fun e => by have := xb gb e.symm; omega)).trans (Below.heap_alloc _ _ _ (by omega))
  have cf : ∀ j, w6.cell? ⟨gb, j, none⟩ = wr.cell? ⟨gb, j, none⟩ := fun j => World.cell?_of_block (a := ⟨gb, j, none⟩) gf
  have so : ∀ (j : Nat), 3 ≠ j → (w6.setCell ⟨gb, 3, none⟩ (.slice (some ⟨g2, 0, none⟩) (C.length + 1) c2)).cell? ⟨gb, j, none⟩ = w6.cell? ⟨gb, j, none⟩ := fun j hj => World.cell?_setCell_other _ _ _ _ (by intro e; cases e; exact hj rfl)
  have sz : (w6.setCell ⟨gb, 3, none⟩ (.slice (some ⟨g2, 0, none⟩) (C.length + 1) c2)).heap.size = w6.heap.size := by simp
  have nb : ∀ p, a = some p → wx.heap.size ≤ p.block ∧ p.block < wr.heap.size ∧ x.ownBlock ≠ some p.block ∧ p.block ≠ g2 := fun p hp => by
    obtain ⟨b, off, e, hl2, _⟩ := hr.2 hne
    have q0 := ha p hp
    rw [hp] at e
    cases e
    have q0' : w0.heap.size ≤ b := q0
    refine ⟨show wx.heap.size ≤ b by omega, hl2, fun e => by have := hx _ e; simp at this; omega, fun e => ?_⟩
    have e' : b = g2 := e
    rcases hor with q | q
    · have := hx _ q; omega
    · omega
  refine ⟨?_, ?_, ?_, ?_, ?_, ?_, hl, ?_, ?_, ?_⟩
  · exact grown_trans (grown_trans (grown_trans h.gr (World.grownBy_alloc wr o none) (.inr (fun q hq => by cases hq))) hg (.inr (fun q hq => xb q hq))) grown_set (.inl rfl)
  · rw [so 0 (by decide), cf]; exact h.c0
  · rw [so 1 (by decide), cf]; exact h.c1
  · rw [so 2 (by decide), cf]; exact h.c2
  · exact World.cell?_setCell_same (u := x) _ _ _ ((cf 3).trans h.c3)
  · intro j
    have : w6.frozen? ⟨gb, j, none⟩ = false := (World.frozen?_of_block (a := ⟨gb, j, none⟩) gf).trans (h.fr j)
    simpa using this
  · have := ownsRow_setCell_below ho (a := ⟨gb, 3, none⟩) hl (.slice (some ⟨g2, 0, none⟩) (C.length + 1) c2)
    rw [List.map_append, List.length_append]
    exact this
  · intro c hc
    rcases List.mem_append.1 hc with q | q
    · exact rdn_keep (h.rd c q) (fun p hp => blk _ (h.ap c q p hp).2.1 (by have := (h.ap c q p hp).1; omega) (h.ap c q p hp).2.2) (by rw [sz]; omega)
    · have e : c = (a, ts, cp) := by simpa using q
      subst e
      exact rdn_keep hr (fun p hp => blk _ (nb p hp).2.1 (by have := (nb p hp).1; omega) (nb p hp).2.2.1) (by rw [sz]; omega)
  · intro c hc p hp
    rw [sz]
    have ow : Value.ownBlock (.slice (some ⟨g2, 0, none⟩) (C.length + 1) c2) = some g2 := rfl
    rw [ow]
    rcases List.mem_append.1 hc with q | q
    · obtain ⟨q1, q2, q3⟩ := h.ap c q p hp
      refine ⟨q1, by omega, fun e => ?_⟩
      cases e
      rcases hor with r | r
      · exact q3 r
      · omega
    · have e : c = (a, ts, cp) := by simpa using q
      subst e
      obtain ⟨q1, q2, q3, q4⟩ := nb p hp
      exact ⟨q1, by omega, fun e => q4 (by cases e; rfl)⟩
theorem gw_begin {w1 : World} {f wy : Int} {wv : Value} (W : World) (e : W = w1.alloc (.cells #[.int .i64 f, .int .i64 wy, wv, .slice none 0 0] 25)) : Gw W W w1.heap.size f wy wv [] (.slice none 0 0) := by
  subst e
  refine ⟨World.grownBy.refl _ _, World.cell?_alloc_at _ _ _ 0 rfl, World.cell?_alloc_at _ _ _ 1 rfl, World.cell?_alloc_at _ _ _ 2 rfl, World.cell?_alloc_at _ _ _ 3 rfl, fun j => ?_, by simp, World.ownsRow_nil _ _ _ _, (fun c hc => by cases hc), (fun c hc => by cases hc)⟩
  unfold World.frozen?
  rw [heap_alloc_new w1 _]
  simp
theorem gw_rdg {wx wr : World} {gb : Nat} {f wy : Int} {ws : List Int} {wa : Option Addr} {wc : Nat} {C : List Tc} {x : Value} (h : Gw wx wr gb f wy (.slice wa ws.length wc) C x) (hw : Rd wr wa ws) (h0 : 0 < C.length) (h12 : C.length ≤ 12) :
    ∃ g c, x = .slice (some ⟨g, 0, none⟩) C.length c ∧ RdG wr ⟨f, wy, wa, ws, wc, some ⟨g, 0, none⟩, C, c⟩ := by
  obtain ⟨g, c, e, hg1, hg2⟩ := h.ox.form h0
  subst e
  refine ⟨g, c, rfl, hw, ?_, h.rd, fun _ => ⟨g, 0, rfl, hg2, fun i hi => ?_⟩⟩
  · show C.length ≤ maxLen
    unfold maxLen; omega
  · have hi' : i < C.length := hi
    rw [Nat.zero_add]
    refine (h.ox.cellAt i (by omega)).trans ?_
    rw [List.getElem?_map, List.getElem?_eq_getElem hi']
    rfl

end Go.Proofs.YtlloiccodjnkcagGreatDoor

namespace Go.Proofs.YtlloiccodjnkcagGreatDoor
open Go.ChangeShapes Go.WideShapes Go.ChangeAt Go.RowKit Go.Lib
set_option linter.unusedVariables false

theorem nil_rdu (W : World) : RdU W none [] := ⟨Nat.zero_le _, fun h => absurd rfl h⟩
theorem nilg_rdg (W : World) : RdG W ⟨0, 0, none, [], 0, none, [], 0⟩ := ⟨⟨Nat.zero_le _, fun h => absurd rfl h⟩, Nat.zero_le _, (fun k hk => by cases hk), fun h => absurd rfl h⟩
/-- the four cells of a grove -/
def GrAt (W : World) (gb : Nat) (Q : Gr) : Prop := W.cell? ⟨gb, 0, none⟩ = some (.int .i64 Q.f) ∧ W.cell? ⟨gb, 1, none⟩ = some (.int .i64 Q.w) ∧ W.cell? ⟨gb, 2, none⟩ = some (.slice Q.wa Q.ws.length Q.wc) ∧ W.cell? ⟨gb, 3, none⟩ = some (.slice Q.ta Q.ks.length Q.tc)

set_option maxHeartbeats 32000000 in
set_option maxRecDepth 10000 in
theorem wtells_core (G : Gr) (at' bt' ia ib : Option Addr) (tn xn an bn ct cx ca cb : Nat) (f GF WF RF SF SV : Int) (U GN : List M.Us) (Gm : M.Gv) (TL : List (List M.Nd)) (sN : Nat → Int) (la lb : List Int) (w : World) (hg : RdG w G) (ha : Rd w ia la) (hb : Rd w ib lb)
    (RG : Hid (∀ W, Below w.heap.size w W → Calls Tryz.prog 5 #[G.v] W fun r w' => r = .returned (.int .i64 GF) ∧ Below W.heap.size W w'))
    (RU : Hid (GF = 0 → ∀ W, Below w.heap.size w W → Calls Tryz.prog 6 #[G.v] W fun r w' => ∃ a c, r = .returned (.slice a U.length c) ∧ RdU w' a U ∧ Below W.heap.size W w'))
    (UZ : Hid (GF ≠ 0 → U = []))
    (HU : Hid (∀ W, Below w.heap.size w W → Calls Tryz.prog 7 #[G.v] W fun r w' => ∃ a c, r = .returned (.tuple #[.slice a U.length c, errV GF]) ∧ RdU w' a U ∧ Below W.heap.size W w'))
    (ER : Hid (∀ c W, Below w.heap.size w W → Calls Tryz.prog 8 #[errV c, .int .i64 c] W fun r w' => r = .returned (.bool true) ∧ Below W.heap.size W w'))
    (US : Hid (∀ l p q cp cq W, RdU W p l → RdU W q l → Calls Tryz.prog 9 #[.slice p l.length cp, .slice q l.length cq] W fun r w' => r = .returned (.bool true) ∧ Below W.heap.size W w'))
    (WF1 : Hid ((GF ≠ 0 → WF = GF) ∧ (GF = 0 → (f < 0 ∨ G.f ≤ f) → WF = 1) ∧ (GF = 0 → ¬ (f < 0 ∨ G.f ≤ f) → WF = 0)))
    (WZ : Hid (WF ≠ 0 → Gm = (0, 0, [], [])))
    (WG : Hid (WF = 0 → Gm = (G.f, G.w, G.ws, TL) ∧ TL.length = G.ks.length ∧ 0 < G.ks.length ∧ G.ks.length ≤ 12))
    (WO : Hid (∀ W, Below w.heap.size w W → Calls Tryz.prog 11 #[G.v, .int .i64 f] W fun e w' => ∃ J : Gr, e = .returned (.tuple #[J.v, errV WF]) ∧ J.m = Gm ∧ RdG w' J ∧ Below W.heap.size W w'))
    (RW : Hid (WF = 0 → ∀ k (hk : k < G.ks.length) W, Below w.heap.size w W → TL.getD k [] ≠ [] ∧ Calls Tryz.prog 10 #[.slice G.ks[k].1 G.ks[k].2.1.length G.ks[k].2.2, .int .i64 f] W fun e w' => ∃ a c, e = .returned (.slice a (TL.getD k []).length c) ∧ RdN w' a (TL.getD k []) ∧ (∀ p, a = some p → W.heap.size ≤ p.block) ∧ Below W.heap.size W w'))
    (GS : Hid (∀ (P Q : Gr) W, RdG W P → RdG W Q → P.m = Q.m → Calls Tryz.prog 12 #[P.v, Q.v] W fun r w' => r = .returned (.bool true) ∧ Below W.heap.size W w'))
    (RR : Hid (∀ W, Below w.heap.size w W → Calls Tryz.prog 13 #[.slice at' tn ct, .slice bt' xn cx] W fun r w' => r = .returned (.int .i64 RF) ∧ Below W.heap.size W w'))
    (RN : Hid (RF = 0 → ∀ W, Below w.heap.size w W → Calls Tryz.prog 14 #[.slice at' tn ct, .slice bt' xn cx] W fun r w' => ∃ a c, r = .returned (.slice a GN.length c) ∧ RdU w' a GN ∧ Below W.heap.size W w'))
    (NZ : Hid (RF ≠ 0 → GN = []))
    (HN : Hid (∀ W, Below w.heap.size w W → Calls Tryz.prog 15 #[.slice at' tn ct, .slice bt' xn cx] W fun r w' => ∃ a c, r = .returned (.tuple #[.slice a GN.length c, errV RF]) ∧ RdU w' a GN ∧ Below W.heap.size W w'))
    (SF1 : Hid ((la.length ≠ lb.length → SF = 3) ∧ (la.length = lb.length → 1000 < la.length → SF = 4) ∧ (la.length = lb.length → ¬ 1000 < la.length → SF = 0)))
    (SV1 : Hid ((SF ≠ 0 → SV = 0) ∧ (SF = 0 → SV = sN la.length ∧ sN 0 = 0 ∧ ∀ k, k < la.length → 0 ≤ sN k ∧ sN k ≤ 1000 ∧ sN (k + 1) = if la.getD k 0 = lb.getD k 0 then sN k + 1 else sN k)))
    (HS : Hid (∀ W, Below w.heap.size w W → Calls Tryz.prog 16 #[.slice ia la.length ca, .slice ib lb.length cb] W fun r w' => r = .returned (.tuple #[.int .i64 SV, errV SF]) ∧ Below W.heap.size W w')) :
    Calls Tryz.prog 3 #[G.v, .slice at' tn ct, .slice bt' xn cx, .int .i64 f, .slice ia la.length ca, .slice ib lb.length cb] w fun r w' => r = .returned (.bool true) ∧ Below w.heap.size w w' := by
  have hma : la.length ≤ 9223372036854775807 := ha.1
  have hmb : lb.length ≤ 9223372036854775807 := hb.1
  have HG := hide hg
  have HA := hide ha
  have HB := hide hb
  obtain ⟨w1, hw1⟩ : ∃ V, V = w.alloc (.cells #[.int .i64 G.f, .int .i64 G.w, .slice G.wa G.ws.length G.wc, .slice G.ta G.ks.length G.tc] 25) := ⟨_, rfl⟩
  have K1 : Hid (Below w.heap.size w w1) := by unfold Hid; rw [hw1]; exact (Below.refl _ w).alloc (Nat.le_refl _) _
  have KC : Hid (∀ W, Below w1.heap.size w1 W → W.cell? ⟨w.heap.size, 0, none⟩ = some (.int .i64 G.f) ∧ W.cell? ⟨w.heap.size, 1, none⟩ = some (.int .i64 G.w) ∧ W.cell? ⟨w.heap.size, 2, none⟩ = some (.slice G.wa G.ws.length G.wc) ∧ W.cell? ⟨w.heap.size, 3, none⟩ = some (.slice G.ta G.ks.length G.tc)) := fun W hW => by
    have N := new_kept hw1 hW
    exact ⟨N.1 0 _ rfl, N.1 1 _ rfl, N.1 2 _ rfl, N.1 3 _ rfl⟩
  clear hg ha hb
  simp only [Gr.v] at RG RU HU WO GS
  unfold Gr.v
  go_enter Tryz.func3, Tryz.ntmps3
  go_upto_region 1 with fail
  rw [← hw1]
  obtain ⟨c0, c1, c2, c3⟩ := KC.out w1 (Below.refl _ _)
  clear hw1
  go_upto_if 36 with (go_at_call 5; refine (RG.out _ K1.out).mono ?_; rintro r w2 ⟨rfl, hb2⟩; have J2 := hide hb2; clear hb2)
  clear RG c0 c1 c2 c3
  go_cut [14, 36] from 37 to 38 (fun v _ wx => ∃ (pa : Option Addr) (pc : Nat), v = .slice pa U.length pc ∧ Hid (RdU wx pa U) ∧ Hid (Below w1.heap.size w1 wx))
  case first =>
    by_cases hz : GF = 0
    · have t : (GF == 0) = true := by rw [beq_iff_eq]; exact hz
      obtain ⟨d0, d1, d2, d3⟩ := KC.out w2 J2.out
      have R2 := hide (RU.out hz w2 (below_on K1.out J2.out))
      rw [t]
      clear hz t RU UZ HU ER US WF1 WZ WG WO RW GS RR RN NZ HN SF1 SV1 HS KC HG HA HB
      go_wp2_with (go_at_call 6; refine R2.out.mono ?_; rintro r w3 ⟨pa, pc, rfl, hr3, hb3⟩; have R3 := hide hr3; have J3 := hide (below_on J2.out hb3); clear hr3 hb3)
      go_meet
      case rel => exact ⟨pa, pc, rfl, R3, J3⟩
    · have t : (GF == 0) = false := by rw [beq_eq_false_iff_ne]; exact hz
      have uz := UZ.out hz
      rw [t]
      have E : Hid (Value.slice none 0 0 = .slice none U.length 0) := by unfold Hid; rw [uz]; rfl
      have R3 : Hid (RdU w2 none U) := by unfold Hid; rw [uz]; exact nil_rdu _
      clear hz t uz RU UZ HU ER US WF1 WZ WG WO RW GS RR RN NZ HN SF1 SV1 HS KC HG HA HB
      go_wp2
      go_meet
      case rel => exact ⟨none, 0, E.out, R3, J2⟩
  case rest =>
    obtain ⟨pa, pc, rfl, R3, J3⟩ := hcut
    clear J2 RU UZ
    generalize wc = w3 at *
    obtain ⟨d0, d1, d2, d3⟩ := KC.out w3 J3.out
    have H3 := hide (HU.out w3 (below_on K1.out J3.out))
    go_upto_region 8 with (first
      | (go_at_call 7; refine H3.out.mono ?_; rintro r w4 ⟨qa, qc, rfl, hr4, hb4⟩; have Q4 := hide hr4; have P4 := hide (R3.out.below hb4); have J4 := hide (below_on J3.out hb4); clear hr4 hb4)
      | (go_at_call 8; refine (ER.out GF _ (below_on K1.out J4.out)).mono ?_; rintro r w5 ⟨rfl, hb5⟩; have Q5 := hide (Q4.out.below hb5); have P5 := hide (P4.out.below hb5); have J5 := hide (below_on J4.out hb5); clear hb5)
      | (go_at_call 9; refine (US.out U qa pa _ _ _ Q5.out P5.out).mono ?_; rintro r w6 ⟨rfl, hb6⟩; have J6 := hide (below_on J5.out hb6); clear hb6))
    clear d0 d1 d2 d3 H3 HU J3 J4 J5 R3 Q4 Q5 P4 P5
    obtain ⟨z0, z1, z2, z3⟩ := KC.out w6 J6.out
    go_cut [61] from 50 to 60 (fun v wx => ∃ q : Bool, v = .bool q ∧ Hid (q = decide (GF = 0 ∧ (f < 0 ∨ G.f ≤ f))) ∧ Hid (wx = w6))
    case first =>
      clear ER US WF1 WZ WG WO RW GS RR RN NZ HN SF1 SV1 HS KC HG HA HB
      by_cases hz : GF = 0
      · have t : (GF == 0) = true := by rw [beq_iff_eq]; exact hz
        by_cases h0 : f < 0
        · have t1 : decide (f < 0) = true := decide_eq_true h0
          have E : Hid (true = decide (GF = 0 ∧ (f < 0 ∨ G.f ≤ f))) := (decide_eq_true ⟨hz, .inl h0⟩).symm
          clear hz h0
          go_wp2
          go_meet
          case rel => exact ⟨true, rfl, E, rfl⟩
        · have t1 : decide (f < 0) = false := decide_eq_false h0
          by_cases h1 : G.f ≤ f
          · have t2 : decide (G.f ≤ f) = true := decide_eq_true h1
            have E : Hid (true = decide (GF = 0 ∧ (f < 0 ∨ G.f ≤ f))) := (decide_eq_true ⟨hz, .inr h1⟩).symm
            clear hz h0 h1
            go_wp2
            go_meet
            case rel => exact ⟨true, rfl, E, rfl⟩
          · have t2 : decide (G.f ≤ f) = false := decide_eq_false h1
            have E : Hid (false = decide (GF = 0 ∧ (f < 0 ∨ G.f ≤ f))) := (decide_eq_false (by omega)).symm
            clear hz h0 h1
            go_wp2
            go_meet
            case rel => exact ⟨false, rfl, E, rfl⟩
      · have t : (GF == 0) = false := by rw [beq_eq_false_iff_ne]; exact hz
        have E : Hid (false = decide (GF = 0 ∧ (f < 0 ∨ G.f ≤ f))) := (decide_eq_false (fun h => hz h.1)).symm
        clear hz
        go_wp2
        go_meet
        case rel => exact ⟨false, rfl, E, rfl⟩
    case rest =>
      obtain ⟨q, rfl, EQ, kw⟩ := hcut
      have kw' := kw.out
      subst kw'
      clear z0 z1 z2 z3 kw
      go_upto_if 61 with fail
      go_cut [13, 61] from 62 to 62 (fun v _ wx => v = .int .i64 WF ∧ Hid (wx = wc))
      case first =>
        cases q with
        | true =>
          have h := of_decide_eq_true EQ.out.symm
          have E : Hid (WF = 1) := WF1.out.2.1 h.1 h.2
          clear h EQ ER US WF1 WZ WG WO RW GS RR RN NZ HN SF1 SV1 HS KC HG HA HB
          go_wp2
          go_meet
          case rel => exact ⟨by rw [E.out], rfl⟩
        | false =>
          have h := of_decide_eq_false EQ.out.symm
          have E : Hid (WF = GF) := by
            unfold Hid
            by_cases hz : GF = 0
            · rw [hz]; exact WF1.out.2.2 hz (fun y => h ⟨hz, y⟩)
            · exact WF1.out.1 hz
          clear h EQ ER US WF1 WZ WG WO RW GS RR RN NZ HN SF1 SV1 HS KC HG HA HB
          go_wp2
          go_meet
          case rel => exact ⟨by rw [E.out], rfl⟩
      case rest =>
        obtain ⟨rfl, kw⟩ := hcut
        have kw' := kw.out
        subst kw'
        clear kw EQ WF1
        generalize wc = w6 at *
        go_upto_if 63 with fail
        obtain ⟨w7, hw7⟩ : ∃ V, V = w6.alloc (.cells #[.int .i64 0, .int .i64 0, .slice none 0 0, .slice none 0 0] 25) := ⟨_, rfl⟩
        rw [← hw7]
        have J7 : Hid (Below w6.heap.size w6 w7) := by unfold Hid; rw [hw7]; exact (Below.refl _ w6).alloc (Nat.le_refl _) _
        have N7 := hide (new_kept hw7 (Below.refl _ _))
        have K7 := hide (below_on J6.out J7.out)
        have HW7 := hide hw7
        clear hw7
        go_cut [20, 21, 63] from 64 to 92 (fun _ _ _ wx => ∃ Q : Gr, Hid (Q.m = Gm) ∧ Hid (RdG wx Q) ∧ Hid (GrAt wx w6.heap.size Q) ∧ Hid (w6.heap.size < wx.heap.size) ∧ Hid (Below w1.heap.size w1 wx))
        case first =>
          clear ER US WO GS RR RN NZ HN SF1 SV1 HS HA HB
          by_cases hz : WF = 0
          · have t : (WF == 0) = true := by rw [beq_iff_eq]; exact hz
            obtain ⟨eg, tln, g0, g12⟩ := WG.out hz
            obtain ⟨bt2, ot2, eta, hbt2, hct2⟩ := HG.out.2.2.2 (by intro e; rw [e] at g0; simp at g0)
            have HT : Hid (∀ W, Below w.heap.size w W → ∀ k (hk : k < G.ks.length), W.cell? ⟨bt2, ot2 + k, none⟩ = some (.slice G.ks[k].1 G.ks[k].2.1.length G.ks[k].2.2)) := fun W hW k hk => (hW.cell (p := ⟨bt2, ot2 + k, none⟩) hbt2).trans (hct2 k hk)
            have LT := hide (fun k hk W (hW : Below w.heap.size w W) => RW.out hz k hk W hW)
            have LK : Hid (∀ k, k < G.ks.length → TL.take (k + 1) = TL.take k ++ [TL.getD k []]) := fun k hk => by
              rw [List.take_succ_eq_append_getElem (by rw [tln]; exact hk), M.getD_at (by rw [tln]; exact hk)]
            have TT : Hid (TL.take G.ks.length = TL) := List.take_of_length_le (by rw [tln]; exact Nat.le_refl _)
            have HW := hide (fun W (hW : Below w.heap.size w W) => (HG.out.below hW).1)
            have KT : Hid (∀ W, Below w1.heap.size w1 W → W.cell? ⟨w.heap.size, 3, none⟩ = some (.slice (some ⟨bt2, ot2, none⟩) G.ks.length G.tc)) := fun W hW => by rw [← eta]; exact (KC.out W hW).2.2.2
            obtain ⟨j0, hj, hy0, hy1, hy2⟩ := info_parts infoL
            have J0 := hide hj
            have EG := hide eg
            have BA : Hid (∀ o, Below w1.heap.size w1 (w6.alloc o)) := fun o => below_on J6.out ((Below.refl _ w6).alloc (Nat.le_refl _) o)
            have xa0 : ∀ o, (w6.alloc o).cell? ⟨w.heap.size, 0, none⟩ = some (.int .i64 G.f) := fun o => (KC.out _ (BA.out o)).1
            have xa1 : ∀ o, (w6.alloc o).cell? ⟨w.heap.size, 1, none⟩ = some (.int .i64 G.w) := fun o => (KC.out _ (BA.out o)).2.1
            have xa2 : ∀ o, (w6.alloc o).cell? ⟨w.heap.size, 2, none⟩ = some (.slice G.wa G.ws.length G.wc) := fun o => (KC.out _ (BA.out o)).2.2.1
            rw [t, HW7.out]
            clear hz t eg tln eta hbt2 hct2 hj HG RW WG WZ KC N7 K7 J7 HW7
            go_upto_region 15 with fail
            obtain ⟨wg, hwg⟩ : ∃ W, W = w6.alloc (.cells #[.int .i64 G.f, .int .i64 G.w, .slice G.wa G.ws.length G.wc, .slice none 0 0] 25) := ⟨_, rfl⟩
            have GW0 := hide (gw_begin wg hwg)
            have bg6 : Hid (Below w6.heap.size w6 wg) := by unfold Hid; rw [hwg]; exact (Below.refl _ _).alloc (Nat.le_refl _) _
            rw [← hwg]
            clear hwg xa0 xa1 xa2 BA
            have KB : Hid (∀ W, wg.grownBy W (some w6.heap.size) → Below w1.heap.size w1 W) := fun W hW => below_on J6.out (bg6.out.grown hW bg6.out.size (fun k hk => by cases hk; exact Nat.le_refl _))
            go_wp2
            go_loopw [20] (fun i wr => ∃ (k : Nat) (C : List Tc) (x : Value), k ≤ G.ks.length ∧ i = .int .i64 k ∧ Hid (tl C = TL.take k ∧ C.length = k) ∧ Hid (Gw wg wr w6.heap.size G.f G.w (.slice G.wa G.ws.length G.wc) C x)) (fun i _ => G.ks.length - (intOf i).toNat)
            case atStart => exact ⟨0, [], .slice none 0 0, Nat.zero_le _, rfl, ⟨rfl, rfl⟩, GW0⟩
            case round =>
              obtain ⟨k2, C, x, hk2, rfl, HC, GW⟩ := hrel
              have gb := hide (KB.out wr GW.out.gr)
              have z3 := KT.out wr gb.out
              have kw := hide (below_on K1.out gb.out)
              by_cases hlt : k2 < G.ks.length
              · have l2 := LK.out k2 hlt
                have ct := HT.out wr kw.out k2 hlt
                have P1 := hide (LT.out k2 hlt wr kw.out).2
                have l3 := (LT.out k2 hlt wr kw.out).1
                have kz : (k2 : Int) < (G.ks.length : Int) := by omega
                have TC : Hid (∀ a cp, tl (C ++ [(a, TL.getD k2 [], cp)]) = TL.take (k2 + 1) ∧ (C ++ [(a, TL.getD k2 [], cp)]).length = k2 + 1) := fun a cp => by
                  rw [l2, ← HC.out.1]
                  refine ⟨by simp [tl], by rw [List.length_append, HC.out.2]; rfl⟩
                have cl : C.length ≤ 12 := by have := HC.out.2; omega
                have UP : Hid (∀ W, Below wr.heap.size wr W → Gw wg W w6.heap.size G.f G.w (.slice G.wa G.ws.length G.wc) C x ∧ W.cell? ⟨w6.heap.size, 3, none⟩ = some x ∧ W.ownsRow wg.heap.size 26 1 x C.length (C.map tV) ∧ wg.heap.size ≤ W.heap.size) := fun W hW => ⟨GW.out.up hW, (GW.out.up hW).c3, (GW.out.up hW).ox, (GW.out.up hW).gr.size⟩
                have MO : Hid (∀ (w5 : World) (o : Obj) a cp g2 c2 w8, Below wr.heap.size wr w5 → RdN w5 a (TL.getD k2 []) → (∀ p, a = some p → wr.heap.size ≤ p.block) → (w5.alloc o).grownBy w8 x.ownBlock → w8.ownsRow wg.heap.size 26 1 (.slice (some ⟨g2, 0, none⟩) (C.length + 1) c2) (C.length + 1) (C.map tV ++ [.slice a (TL.getD k2 []).length cp]) → (x.ownBlock = some g2 ∨ g2 = w5.heap.size + 1) → (w8.cell? ⟨w6.heap.size, 3, none⟩ = some x ∧ w8.frozen? ⟨w6.heap.size, 3, none⟩ = false) ∧ Hid (Gw wg (w8.setCell ⟨w6.heap.size, 3, none⟩ (.slice (some ⟨g2, 0, none⟩) (C.length + 1) c2)) w6.heap.size G.f G.w (.slice G.wa G.ws.length G.wc) (C ++ [(a, TL.getD k2 [], cp)]) (.slice (some ⟨g2, 0, none⟩) (C.length + 1) c2))) := fun w5 o a cp g2 c2 w8 hb hr ha hg ho hor => by
                  have q := (UP.out w5 hb).1
                  have qs := q.gr.size
                  have ql := q.lt
                  have gf' : w8.heap[w6.heap.size]? = w5.heap[w6.heap.size]? := (hg.block _ (by simp; omega) (fun e => by have := (q.ox.lt _ e.symm).1; omega)).trans (Below.heap_alloc _ _ _ (by omega))
                  refine ⟨⟨(World.cell?_of_block (a := ⟨w6.heap.size, 3, none⟩) gf').trans q.c3, (World.frozen?_of_block (a := ⟨w6.heap.size, 3, none⟩) gf').trans (q.fr 3)⟩, ?_⟩
                  exact q.more (w0 := wr) (fun z hz => (GW.out.ox.lt z hz).2) GW.out.gr.size hb.size l3 hr ha hg ho hor
                clear HT LT LK TT HW HC GW l2 l3 EG KT KB
                generalize TL.getD k2 [] = LV at *
                generalize G.ks[k2].2.1.length = tnn at *
                generalize G.ks[k2].2.2 = tcc at *
                generalize G.ks[k2].1 = ta at *
                go_upto_region 19 with (go_at_call 10; refine P1.out.mono ?_; rintro r w5 ⟨av, cv, rfl, hr5, ha5, h5⟩; have HR5 := hide hr5; have HA5 := hide ha5; have H5 := hide h5; clear hr5 ha5 h5)
                have U5 := hide (UP.out w5 H5.out)
                have c5 := U5.out.2.1
                have U6 := hide (UP.out _ (H5.out.alloc H5.out.size (.cells #[.slice av LV.length cv] 26)))
                have c6 := U6.out.2.1
                go_wp2_with (at_builtin; refine wpList_append_lies _ rfl (.tmp 88) (.tmp 90) 23 rfl wg.heap.size 26 j0 (.slice none 0 0) 1 24 Tryz.underlying23 J0.out hy0 hy1 hy2 rfl (by decide) x C.length (C.map tV) rfl U6.out.2.2.1 ⟨w5.heap.size, 0, none⟩ 1 1 [.slice av LV.length cv] rfl rfl (World.news_of_block (heap_alloc_new _ _)) (by intro u hu; simp at hu; subst hu; rfl) (by decide) (by unfold maxLen; omega) (by omega) U6.out.2.2.2 (w5.heap.size + 1) (by simp) ?_; intro g8 c8 w8 hown8 hgrow8 hor8 hlt8; have MM := MO.out w5 _ av cv g8 c8 w8 H5.out HR5.out HA5.out hgrow8 hown8 hor8; have m1 := MM.1.1; have m2 := MM.1.2; have NG := MM.2; clear MM hown8 hgrow8 hor8)
                go_roundw
                case rel => exact ⟨k2 + 1, C ++ [(av, LV, cv)], _, by omega, by go_num, ⟨(TC.out av cv).1, (TC.out av cv).2⟩, NG⟩
                case measure => simp [intOf]; omega
              · have hke : k2 = G.ks.length := by omega
                have kz : ¬ ((k2 : Int) < (G.ks.length : Int)) := by omega
                have hC : 0 < C.length := by have := HC.out.2; omega
                have hC12 : C.length ≤ 12 := by have := HC.out.2; omega
                obtain ⟨gx, cx', ex, hRD⟩ := gw_rdg GW.out (HW.out wr kw.out) hC hC12
                subst ex
                have FN : Hid (∃ Q : Gr, Hid (Q.m = Gm) ∧ Hid (RdG wr Q) ∧ Hid (GrAt wr w6.heap.size Q) ∧ Hid (w6.heap.size < wr.heap.size) ∧ Hid (Below w1.heap.size w1 wr)) := by
                  refine ⟨⟨G.f, G.w, G.wa, G.ws, G.wc, some ⟨gx, 0, none⟩, C, cx'⟩, ?_, hRD, ⟨GW.out.c0, GW.out.c1, GW.out.c2, GW.out.c3⟩, Nat.lt_of_lt_of_le GW.out.lt GW.out.gr.size, gb.out⟩
                  unfold Hid
                  rw [EG.out]
                  show (G.f, G.w, G.ws, tl C) = _
                  rw [HC.out.1, hke, TT.out]
                clear HT LT LK TT HW HC GW hRD hke EG KT KB gb kw
                go_wp2
                go_meet
                case rel => exact FN.out
          · have t : (WF == 0) = false := by rw [beq_eq_false_iff_ne]; exact hz
            have wz := WZ.out hz
            have FN : Hid (∃ Q : Gr, Hid (Q.m = Gm) ∧ Hid (RdG w7 Q) ∧ Hid (GrAt w7 w6.heap.size Q) ∧ Hid (w6.heap.size < w7.heap.size) ∧ Hid (Below w1.heap.size w1 w7)) := by
              refine ⟨⟨0, 0, none, [], 0, none, [], 0⟩, by rw [wz]; rfl, nilg_rdg _, ⟨N7.out.1 0 _ rfl, N7.out.1 1 _ rfl, N7.out.1 2 _ rfl, N7.out.1 3 _ rfl⟩, by rw [HW7.out]; unfold Hid; simp, K7.out⟩
            rw [t]
            clear hz t wz HG RW WG WZ KC N7 K7 J7 HW7
            go_wp2
            go_meet
            case rel => exact FN.out
        case rest =>
          obtain ⟨Q, QM, QR, QA, QL, JQ⟩ := hcut
          clear RW WG WZ N7 K7 J7 HW7 J6 HG
          generalize wc = w8 at *
          have QC : Hid (∀ W, Below w8.heap.size w8 W → GrAt W w6.heap.size Q) := fun W hW => ⟨(hW.cell (p := ⟨w6.heap.size, 0, none⟩) QL.out).trans QA.out.1, (hW.cell (p := ⟨w6.heap.size, 1, none⟩) QL.out).trans QA.out.2.1, (hW.cell (p := ⟨w6.heap.size, 2, none⟩) QL.out).trans QA.out.2.2.1, (hW.cell (p := ⟨w6.heap.size, 3, none⟩) QL.out).trans QA.out.2.2.2⟩
          obtain ⟨d0, d1, d2, d3⟩ := KC.out w8 JQ.out
          have O8 := hide (WO.out w8 (below_on K1.out JQ.out))
          go_upto_region 21 with (go_at_call 11; refine O8.out.mono ?_; rintro r w9 ⟨J, rfl, hm9, hg9, hb9⟩; have M9 := hide hm9; have G9 := hide hg9; have J9 := hide hb9; clear hm9 hg9 hb9)
          obtain ⟨w10, hw10⟩ : ∃ V, V = w9.alloc (.cells #[.int .i64 J.f, .int .i64 J.w, .slice J.wa J.ws.length J.wc, .slice J.ta J.ks.length J.tc] 25) := ⟨_, rfl⟩
          rw [← hw10]
          have J10 : Hid (Below w9.heap.size w9 w10) := by unfold Hid; rw [hw10]; exact (Below.refl _ w9).alloc (Nat.le_refl _) _
          have L10 := hide (below_on J9.out J10.out)
          have KJ : Hid (∀ W, Below w10.heap.size w10 W → GrAt W w9.heap.size J) := fun W hW => by
            have N := new_kept hw10 hW
            exact ⟨N.1 0 _ rfl, N.1 1 _ rfl, N.1 2 _ rfl, N.1 3 _ rfl⟩
          have GJ : Hid (∀ W, Below w10.heap.size w10 W → Calls Tryz.prog 12 #[.agg #[.int .i64 J.f, .int .i64 J.w, .slice J.wa J.ws.length J.wc, .slice J.ta J.ks.length J.tc], .agg #[.int .i64 Q.f, .int .i64 Q.w, .slice Q.wa Q.ws.length Q.wc, .slice Q.ta Q.ks.length Q.tc]] W fun r w' => r = .returned (.bool true) ∧ Below W.heap.size W w') := fun W hW => GS.out J Q W ((G9.out.below J10.out).below hW) ((QR.out.below L10.out).below hW) (by rw [M9.out, QM.out])
          have E10 := hide (ER.out WF w10 (below_on K1.out (below_on JQ.out L10.out)))
          have KK : Hid (∀ W, Below w10.heap.size w10 W → Below w1.heap.size w1 W) := fun W hW => below_on JQ.out (below_on L10.out hW)
          have QD : Hid (∀ W, Below w10.heap.size w10 W → GrAt W w6.heap.size Q) := fun W hW => QC.out W (below_on L10.out hW)
          unfold GrAt at KJ QD
          clear hw10 d0 d1 d2 d3 O8 WO GS QC QA QR QM QL JQ M9 G9 J9 J10 L10
          go_upto_region 23 with (first
            | (go_at_call 8; refine E10.out.mono ?_; rintro r w11 ⟨rfl, hb11⟩; obtain ⟨u0, u1, u2, u3⟩ := KJ.out w11 hb11; obtain ⟨v0, v1, v2, v3⟩ := QD.out w11 hb11; have J11 := hide hb11; clear hb11)
            | (go_at_call 12; refine (GJ.out w11 J11.out).mono ?_; rintro r w12 ⟨rfl, hb12⟩; have J12 := hide (KK.out w12 (below_on J11.out hb12)); clear hb12))
          clear u0 u1 u2 u3 v0 v1 v2 v3 E10 KJ QD GJ KK J11
          have W12 := hide (below_on K1.out J12.out)
          go_upto_if 109 with (go_at_call 13; refine (RR.out _ W12.out).mono ?_; rintro r w13 ⟨rfl, hb13⟩; have J13 := hide (below_on J12.out hb13); clear hb13)
          clear RR J12 W12
          go_cut [25, 109] from 110 to 112 (fun v _ wx => ∃ (pa : Option Addr) (pc : Nat), v = .slice pa GN.length pc ∧ Hid (RdU wx pa GN) ∧ Hid (Below w1.heap.size w1 wx))
          case first =>
            by_cases hz : RF = 0
            · have t : (RF == 0) = true := by rw [beq_iff_eq]; exact hz
              have R2 := hide (RN.out hz w13 (below_on K1.out J13.out))
              rw [t]
              clear hz t ER US RN NZ HN SF1 SV1 HS KC HA HB
              go_wp2_with (go_at_call 14; refine R2.out.mono ?_; rintro r w14 ⟨pa', pc', rfl, hr14, hb14⟩; have R14 := hide hr14; have J14 := hide (below_on J13.out hb14); clear hr14 hb14)
              go_meet
              case rel => exact ⟨pa', pc', rfl, R14, J14⟩
            · have t : (RF == 0) = false := by rw [beq_eq_false_iff_ne]; exact hz
              have uz := NZ.out hz
              rw [t]
              have E : Hid (Value.slice none 0 0 = .slice none GN.length 0) := by unfold Hid; rw [uz]; rfl
              have R14 : Hid (RdU w13 none GN) := by unfold Hid; rw [uz]; exact nil_rdu _
              clear hz t uz ER US RN NZ HN SF1 SV1 HS KC HA HB
              go_wp2
              go_meet
              case rel => exact ⟨none, 0, E.out, R14, J13⟩
          case rest =>
            obtain ⟨ra, rc, rfl, R14, J14⟩ := hcut
            clear J13 RN NZ
            generalize wc = w14 at *
            have H14 := hide (HN.out w14 (below_on K1.out J14.out))
            go_upto_if 129 with (first
              | (go_at_call 15; refine H14.out.mono ?_; rintro r w15 ⟨ga, gc, rfl, hr15, hb15⟩; have Q15 := hide hr15; have P15 := hide (R14.out.below hb15); have J15 := hide (below_on J14.out hb15); clear hr15 hb15)
              | (go_at_call 8; refine (ER.out RF _ (below_on K1.out J15.out)).mono ?_; rintro r w16 ⟨rfl, hb16⟩; have Q16 := hide (Q15.out.below hb16); have P16 := hide (P15.out.below hb16); have J16 := hide (below_on J15.out hb16); clear hb16)
              | (go_at_call 9; refine (US.out GN ga ra _ _ _ Q16.out P16.out).mono ?_; rintro r w17 ⟨rfl, hb17⟩; have J17 := hide (below_on J16.out hb17); clear hb17))
            clear H14 HN J14 J15 J16 R14 Q15 Q16 P15 P16 US
            go_cut [13, 129] from 130 to 132 (fun v _ wx => v = .int .i64 SF ∧ Hid (wx = w17))
            case first =>
              clear ER HS KC HA HB SV1
              by_cases h1 : la.length = lb.length
              · have t : ((la.length : Int) != (lb.length : Int)) = false := by rw [bne_eq_false_iff_eq, h1]
                rw [t]
                by_cases h2 : 1000 < la.length
                · have t2 : decide (1000 < (la.length : Int)) = true := decide_eq_true (by omega)
                  have E : Hid (SF = 4) := SF1.out.2.1 h1 h2
                  clear h1 h2 t SF1
                  go_wp2
                  go_meet
                  case rel => exact ⟨by rw [E.out], rfl⟩
                · have t2 : decide (1000 < (la.length : Int)) = false := decide_eq_false (by omega)
                  have E : Hid (SF = 0) := SF1.out.2.2 h1 h2
                  clear h1 h2 t SF1
                  go_wp2
                  go_meet
                  case rel => exact ⟨by rw [E.out], rfl⟩
              · have t : ((la.length : Int) != (lb.length : Int)) = true := by rw [bne_iff_ne]; omega
                rw [t]
                have E : Hid (SF = 3) := SF1.out.1 h1
                clear h1 t SF1
                go_wp2
                go_meet
                case rel => exact ⟨by rw [E.out], rfl⟩
            case rest =>
              obtain ⟨rfl, kw⟩ := hcut
              have kw' := kw.out
              subst kw'
              clear kw KC
              generalize wc = w17 at *
              have W17 := hide (below_on K1.out J17.out)
              by_cases hz : SF = 0
              · have t : (SF == 0) = true := by rw [beq_iff_eq]; exact hz
                obtain ⟨v1, v2, v3⟩ := SV1.out.2 hz
                have ln : la.length = lb.length := by
                  by_cases q : la.length = lb.length
                  · exact q
                  · have := SF1.out.1 q; omega
                have EN := hide v1
                have E0 := hide v2
                have NS := hide v3
                have LN := hide ln
                clear hz v1 v2 v3 ln SV1 SF1
                go_wp2
                go_loopw [29, 30] (fun m i wq => ∃ k : Nat, k ≤ la.length ∧ i = .int .i64 k ∧ m = .int .i64 (sN k) ∧ Hid (Below w17.heap.size w17 wq)) (fun _ i _ => la.length - (intOf i).toNat)
                case atStart => exact ⟨0, Nat.zero_le _, rfl, by rw [E0.out], Below.refl _ _⟩
                case round =>
                  clear E0
                  obtain ⟨k, hk, rfl, rfl, K⟩ := hrel
                  have KW := hide (below_on W17.out K.out)
                  by_cases hlt : k < la.length
                  · have kz : (k : Int) < (la.length : Int) := by omega
                    have kb : k < lb.length := by have := LN.out; omega
                    have kzb : (k : Int) < (lb.length : Int) := by omega
                    obtain ⟨ba, oa, rfl, _, hca⟩ := (HA.out.below KW.out).2 (by intro e; rw [e] at hlt; simp at hlt)
                    obtain ⟨bb, ob, rfl, _, hcb⟩ := (HB.out.below KW.out).2 (by intro e; rw [e] at kb; simp at kb)
                    have ca' := hca k hlt
                    have cb' := hcb k kb
                    obtain ⟨n1, n2, n3⟩ := NS.out k hlt
                    have N3 := hide n3
                    have KD : Hid (∀ q, Below w17.heap.size w17 (wr.drewN q)) := fun q => below_on K.out (below_drew (Below.refl _ _) q (Nat.le_refl _))
                    clear hca hcb n3 NS EN LN HA HB HS ER KW
                    by_cases he : la.getD k 0 = lb.getD k 0
                    · have N4 : Hid (sN (k + 1) = sN k + 1) := by unfold Hid; rw [N3.out, if_pos he]
                      have t2 : (la.getD k 0 == lb.getD k 0) = true := by rw [beq_iff_eq]; exact he
                      clear he N3
                      generalize la.getD k 0 = x at *
                      generalize lb.getD k 0 = y at *
                      generalize sN k = s at *
                      go_upto_region 39 with fail
                      go_quiet (fail)
                      go_wp2
                      go_roundw
                      case rel => exact ⟨k + 1, by omega, by go_num, by rw [N4.out], KD.out _⟩
                      case measure => simp [intOf]; omega
                    · have N4 : Hid (sN (k + 1) = sN k) := by unfold Hid; rw [N3.out, if_neg he]
                      have t2 : (la.getD k 0 == lb.getD k 0) = false := by rw [beq_eq_false_iff_ne]; exact he
                      clear he N3
                      generalize la.getD k 0 = x at *
                      generalize lb.getD k 0 = y at *
                      generalize sN k = s at *
                      go_upto_region 39 with fail
                      go_quiet (fail)
                      go_wp2
                      go_roundw
                      case rel => exact ⟨k + 1, by omega, by go_num, by rw [N4.out], KD.out _⟩
                      case measure => simp [intOf]; omega
                  · have ke : k = la.length := by omega
                    have kz : ¬ ((k : Int) < (la.length : Int)) := by omega
                    have EK : Hid (sN k = SV) := by unfold Hid; rw [ke, ← EN.out]
                    rw [EK.out]
                    have S18 := hide (HS.out wr KW.out)
                    clear ke EK EN NS LN HA HB HS
                    go_wp2_with (first
                      | (go_at_call 16; refine S18.out.mono ?_; rintro r w18 ⟨rfl, hb18⟩; have K18 := hide (below_on KW.out hb18); clear hb18)
                      | (go_at_call 8; refine (ER.out SF _ K18.out).mono ?_; rintro r w19 ⟨rfl, hb19⟩; have K19 := hide (below_on K18.out hb19); clear hb19))
                    go_ret
                    exact ⟨rfl, K19.out⟩
              · have t : (SF == 0) = false := by rw [beq_eq_false_iff_ne]; exact hz
                have t3 : (SV == 0) = true := by rw [beq_iff_eq]; exact SV1.out.1 hz
                have S18 := hide (HS.out w17 W17.out)
                clear hz SV1 SF1 HA HB HS
                go_wp2
                go_loopw [29, 30] (fun m i wq => i = .int .i64 0 ∧ m = .int .i64 0 ∧ Hid (wq = w17)) (fun _ _ _ => 0)
                case atStart => exact ⟨rfl, rfl, rfl⟩
                case round =>
                  obtain ⟨rfl, rfl, E⟩ := hrel
                  have e := E.out
                  subst e
                  by_cases hlt : 0 < la.length
                  · have kz : (0 : Int) < (la.length : Int) := by omega
                    go_wp2_with (first
                      | (go_at_call 16; refine S18.out.mono ?_; rintro r w18 ⟨rfl, hb18⟩; have K18 := hide (below_on W17.out hb18); clear hb18)
                      | (go_at_call 8; refine (ER.out SF _ K18.out).mono ?_; rintro r w19 ⟨rfl, hb19⟩; have K19 := hide (below_on K18.out hb19); clear hb19))
                    go_ret
                    exact ⟨rfl, K19.out⟩
                  · have kz : ¬ ((0 : Int) < (la.length : Int)) := by omega
                    go_wp2_with (first
                      | (go_at_call 16; refine S18.out.mono ?_; rintro r w18 ⟨rfl, hb18⟩; have K18 := hide (below_on W17.out hb18); clear hb18)
                      | (go_at_call 8; refine (ER.out SF _ K18.out).mono ?_; rintro r w19 ⟨rfl, hb19⟩; have K19 := hide (below_on K18.out hb19); clear hb19))
                    go_ret
                    exact ⟨rfl, K19.out⟩

end Go.Proofs.YtlloiccodjnkcagGreatDoor

namespace Go.Proofs.YtlloiccodjnkcagGreatDoor
open Go.ChangeShapes Go.WideShapes Go.ChangeAt Go.RowKit Go.Lib
set_option linter.unusedVariables false

def WgUsesGives : Prop := ∀ (G : Gr) (W : World), RdG W G → Calls Tryz.prog 7 #[G.v] W fun e w' => ∃ a c, e = .returned (.tuple #[.slice a (M.usV G.m).length c, errV (M.groveF G.m)]) ∧ RdU w' a (M.usV G.m) ∧ Below W.heap.size W w'

end Go.Proofs.YtlloiccodjnkcagGreatDoor

namespace Go.Proofs.YtlloiccodjnkcagGreatDoor
open Go.ChangeShapes Go.WideShapes Go.ChangeAt Go.RowKit Go.Lib
set_option linter.unusedVariables false

def WgGainsGives : Prop := ∀ (a b : Option Addr) (ts : List M.Nd) (xs : List Sx) (ca cb : Nat) (W : World), RdN W a ts → RdL W b xs → Calls Tryz.prog 15 #[.slice a ts.length ca, .slice b xs.length cb] W fun e w' => ∃ p c, e = .returned (.tuple #[.slice p (M.gnV ts (sms xs)).length c, errV (M.rdyF ts (sms xs))]) ∧ RdU w' p (M.gnV ts (sms xs)) ∧ Below W.heap.size W w'

end Go.Proofs.YtlloiccodjnkcagGreatDoor

namespace Go.Proofs.YtlloiccodjnkcagGreatDoor
open Go.ChangeShapes Go.WideShapes Go.ChangeAt Go.RowKit Go.Lib
set_option linter.unusedVariables false

def WgWithoutGives : Prop := ∀ (G : Gr) (f : Int) (W : World), RdG W G → Calls Tryz.prog 11 #[G.v, .int .i64 f] W fun e w' => ∃ J : Gr, e = .returned (.tuple #[J.v, errV (M.woF G.m f)]) ∧ J.m = M.woV G.m f ∧ RdG w' J ∧ Below W.heap.size W w'

end Go.Proofs.YtlloiccodjnkcagGreatDoor

namespace Go.Proofs.YtlloiccodjnkcagGreatDoor
open Go.ChangeShapes Go.WideShapes Go.ChangeAt Go.RowKit Go.Lib
set_option linter.unusedVariables false

def WgSameGives : Prop := ∀ (a b : Option Addr) (xs ys : List Int) (ca cb : Nat) (W : World), Rd W a xs → Rd W b ys → Calls Tryz.prog 16 #[.slice a xs.length ca, .slice b ys.length cb] W fun e w' => e = .returned (.tuple #[.int .i64 (M.sameV xs ys), errV (M.sameF xs ys)]) ∧ Below W.heap.size W w'

end Go.Proofs.YtlloiccodjnkcagGreatDoor



namespace Go.Proofs.YtlloiccodjnkcagGreatDoor
open Go.ChangeShapes Go.WideShapes Go.ChangeAt Go.RowKit Go.Lib
set_option linter.unusedVariables false

def RGainsGives : Prop := ∀ (a b : Option Addr) (ts : List M.Nd) (xs : List Sx) (ca cb : Nat) (W : World), RdN W a ts → RdL W b xs → M.rdyF ts (sms xs) = 0 → Calls Tryz.prog 14 #[.slice a ts.length ca, .slice b xs.length cb] W fun e w' => ∃ ag cg, e = .returned (.slice ag (M.gainsV ts (sms xs)).length cg) ∧ RdU w' ag (M.gainsV ts (sms xs)) ∧ (∀ p, ag = some p → W.heap.size ≤ p.block) ∧ Below W.heap.size W w'

end Go.Proofs.YtlloiccodjnkcagGreatDoor
