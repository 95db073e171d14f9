/-
  Several texts as one: GwLaid, GwDone, GroveP, GFill, RefGrove, RefStand.
-/
import Derived.Test.YtlloiccodjnkcagRunN14
import Derived.Test.YtlloiccodjnkcagRunN8
import Derived.Deep.AppendLies
import Derived.OwnWalk
import Derived.Test.YtlloiccodjnkcagRunN13
import Derived.Deep.Cut
import Derived.Deep.CutRange
import Derived.Deep.RegionWith
import Derived.RegionTactic
namespace Go.Proofs.Ytlloiccodjnkcag
open Go.ChangeShapes Go.WideShapes Go.ChangeAt Go.RowKit Go.Lib
set_option linter.unusedVariables false

theorem infoL : (Try.prog.info? 35).map (fun i => (i.zero, i.size, i.bytes)) = some (some (.slice none 0 0), 1, 24) := by kernel_rfl
theorem rdn_keep {W W' : World} {a : Option Addr} {ts : List M.Nd} (h : RdN W a ts) (hs : ∀ p, a = some p → W'.heap[p.block]? = W.heap[p.block]?) (hz : W.heap.size ≤ W'.heap.size) : RdN W' a ts :=
  ⟨h.1, fun hn => by
    obtain ⟨b, off, e, hl, hc⟩ := h.2 hn
    have hb : W'.heap[b]? = W.heap[b]? := hs _ e
    refine ⟨b, off, e, Nat.lt_of_lt_of_le hl hz, fun i hi => ?_⟩
    obtain ⟨h0, h1, h2, h3, h4, h5⟩ := hc i hi
    exact ⟨(World.cell?_of_block (a := ⟨b, _, none⟩) hb).trans h0, (World.cell?_of_block (a := ⟨b, _, none⟩) hb).trans h1, (World.cell?_of_block (a := ⟨b, _, none⟩) hb).trans h2, (World.cell?_of_block (a := ⟨b, _, none⟩) hb).trans h3, (World.cell?_of_block (a := ⟨b, _, none⟩) hb).trans h4, (World.cell?_of_block (a := ⟨b, _, none⟩) hb).trans h5⟩⟩
theorem rd_keep {W W' : World} {a : Option Addr} {xs : List Int} (h : Rd W a xs) (hs : ∀ p, a = some p → W'.heap[p.block]? = W.heap[p.block]?) (hz : W.heap.size ≤ W'.heap.size) : Rd W' a xs :=
  ⟨h.1, fun hn => by
    obtain ⟨b, off, e, hl, hc⟩ := h.2 hn
    have hb : W'.heap[b]? = W.heap[b]? := hs _ e
    exact ⟨b, off, e, Nat.lt_of_lt_of_le hl hz, fun i hi => (World.cell?_of_block (a := ⟨b, _, none⟩) hb).trans (hc i hi)⟩⟩
/-- a grove while it is laid: its block, and its first trees -/
structure Gw (wx wr : World) (gb : Nat) (f wy : Int) (wv : Value) (C : List Tc) (x : Value) : Prop where
  gr : wx.grownBy wr (some gb)
  c0 : wr.cell? ⟨gb, 0, none⟩ = some (.int .i64 f)
  c1 : wr.cell? ⟨gb, 1, none⟩ = some (.int .i64 wy)
  c2 : wr.cell? ⟨gb, 2, none⟩ = some wv
  c3 : wr.cell? ⟨gb, 3, none⟩ = some x
  fr : ∀ j, wr.frozen? ⟨gb, j, none⟩ = false
  lt : gb < wx.heap.size
  ox : wr.ownsRow wx.heap.size 35 1 x C.length (C.map tV)
  rd : ∀ c ∈ C, RdN wr c.1 c.2.1
  ap : ∀ c ∈ C, ∀ p, c.1 = some p → wx.heap.size ≤ p.block ∧ p.block < wr.heap.size ∧ x.ownBlock ≠ some p.block
theorem Gw.up {wx wr W : World} {gb : Nat} {f wy : Int} {wv : Value} {C : List Tc} {x : Value} (h : Gw wx wr gb f wy wv C x) (hb : Below wr.heap.size wr W) : Gw wx W gb f wy wv C x := by
  have hl : gb < wr.heap.size := Nat.lt_of_lt_of_le h.lt h.gr.size
  exact ⟨grown_trans h.gr (grown_of hb none) (.inr (fun q hq => by cases hq)), (hb.cell (p := ⟨gb, 0, none⟩) hl).trans h.c0, (hb.cell (p := ⟨gb, 1, none⟩) hl).trans h.c1, (hb.cell (p := ⟨gb, 2, none⟩) hl).trans h.c2, (hb.cell (p := ⟨gb, 3, none⟩) hl).trans h.c3, fun j => (hb.frozen (p := ⟨gb, j, none⟩) hl).trans (h.fr j), h.lt, own_up h.ox hb, fun c hc => (h.rd c hc).below hb, fun c hc p hp => ⟨(h.ap c hc p hp).1, Nat.lt_of_lt_of_le (h.ap c hc p hp).2.1 hb.size, (h.ap c hc p hp).2.2⟩⟩
/-- one more tree: what was made of it lies apart -/
theorem Gw.more {wx w0 wr w6 : World} {gb : Nat} {f wy : Int} {wv : Value} {C : List Tc} {x : Value} (h : Gw wx wr gb f wy wv C x) (hx : ∀ q, x.ownBlock = some q → q < w0.heap.size) (h0 : wx.heap.size ≤ w0.heap.size) (hw : w0.heap.size ≤ wr.heap.size) {a : Option Addr} {ts : List M.Nd} {cp g2 c2 : Nat} {o : Obj} (hne : ts ≠ []) (hr : RdN wr a ts) (ha : ∀ p, a = some p → w0.heap.size ≤ p.block)
    (hg : (wr.alloc o).grownBy w6 x.ownBlock) (ho : w6.ownsRow wx.heap.size 35 1 (.slice (some ⟨g2, 0, none⟩) (C.length + 1) c2) (C.length + 1) (C.map tV ++ [.slice a ts.length cp])) (hor : x.ownBlock = some g2 ∨ g2 = wr.heap.size + 1) :
    Gw wx (w6.setCell ⟨gb, 3, none⟩ (.slice (some ⟨g2, 0, none⟩) (C.length + 1) c2)) gb f wy wv (C ++ [(a, ts, cp)]) (.slice (some ⟨g2, 0, none⟩) (C.length + 1) c2) := by
  have hl := h.lt
  have hs := h.gr.size
  have gz : wr.heap.size + 1 ≤ w6.heap.size := by have := hg.size; simpa using this
  have xb : ∀ q, x.ownBlock = some q → wx.heap.size ≤ q := fun q hq => (h.ox.lt q hq).1
  have blk : ∀ q, q < wr.heap.size → q ≠ gb → x.ownBlock ≠ some q → (w6.setCell ⟨gb, 3, none⟩ (.slice (some ⟨g2, 0, none⟩) (C.length + 1) c2)).heap[q]? = wr.heap[q]? := fun q q1 q2 q3 => (Below.heap_setCell _ _ _ _ q2).trans ((hg.block q (by simp; omega) (fun e => q3 e.symm)).trans (Below.heap_alloc _ _ _ q1))
  have gf : w6.heap[gb]? = wr.heap[gb]? := (hg.block gb (by simp; omega) (fun e => by have := xb gb e.symm; omega)).trans (Below.heap_alloc _ _ _ (by omega))
  have cf : ∀ j, w6.cell? ⟨gb, j, none⟩ = wr.cell? ⟨gb, j, none⟩ := fun j => World.cell?_of_block (a := ⟨gb, j, none⟩) gf
  have so : ∀ (j : Nat), 3 ≠ j → (w6.setCell ⟨gb, 3, none⟩ (.slice (some ⟨g2, 0, none⟩) (C.length + 1) c2)).cell? ⟨gb, j, none⟩ = w6.cell? ⟨gb, j, none⟩ := fun j hj => World.cell?_setCell_other _ _ _ _ (by intro e; cases e; exact hj rfl)
  have sz : (w6.setCell ⟨gb, 3, none⟩ (.slice (some ⟨g2, 0, none⟩) (C.length + 1) c2)).heap.size = w6.heap.size := by simp
  have nb : ∀ p, a = some p → wx.heap.size ≤ p.block ∧ p.block < wr.heap.size ∧ x.ownBlock ≠ some p.block ∧ p.block ≠ g2 := fun p hp => by
    obtain ⟨b, off, e, hl2, _⟩ := hr.2 hne
    have q0 := ha p hp
    rw [hp] at e
    cases e
    have q0' : w0.heap.size ≤ b := q0
    refine ⟨show wx.heap.size ≤ b by omega, hl2, fun e => by have := hx _ e; simp at this; omega, fun e => ?_⟩
    have e' : b = g2 := e
    rcases hor with q | q
    · have := hx _ q; omega
    · omega
  refine ⟨?_, ?_, ?_, ?_, ?_, ?_, hl, ?_, ?_, ?_⟩
  · exact grown_trans (grown_trans (grown_trans h.gr (World.grownBy_alloc wr o none) (.inr (fun q hq => by cases hq))) hg (.inr (fun q hq => xb q hq))) grown_set (.inl rfl)
  · rw [so 0 (by decide), cf]; exact h.c0
  · rw [so 1 (by decide), cf]; exact h.c1
  · rw [so 2 (by decide), cf]; exact h.c2
  · exact World.cell?_setCell_same (u := x) _ _ _ ((cf 3).trans h.c3)
  · intro j
    have : w6.frozen? ⟨gb, j, none⟩ = false := (World.frozen?_of_block (a := ⟨gb, j, none⟩) gf).trans (h.fr j)
    simpa using this
  · have := ownsRow_setCell_below ho (a := ⟨gb, 3, none⟩) hl (.slice (some ⟨g2, 0, none⟩) (C.length + 1) c2)
    rw [List.map_append, List.length_append]
    exact this
  · intro c hc
    rcases List.mem_append.1 hc with q | q
    · exact rdn_keep (h.rd c q) (fun p hp => blk _ (h.ap c q p hp).2.1 (by have := (h.ap c q p hp).1; omega) (h.ap c q p hp).2.2) (by rw [sz]; omega)
    · have e : c = (a, ts, cp) := by simpa using q
      subst e
      exact rdn_keep hr (fun p hp => blk _ (nb p hp).2.1 (by have := (nb p hp).1; omega) (nb p hp).2.2.1) (by rw [sz]; omega)
  · intro c hc p hp
    rw [sz]
    have ow : Value.ownBlock (.slice (some ⟨g2, 0, none⟩) (C.length + 1) c2) = some g2 := rfl
    rw [ow]
    rcases List.mem_append.1 hc with q | q
    · obtain ⟨q1, q2, q3⟩ := h.ap c q p hp
      refine ⟨q1, by omega, fun e => ?_⟩
      cases e
      rcases hor with r | r
      · exact q3 r
      · omega
    · have e : c = (a, ts, cp) := by simpa using q
      subst e
      obtain ⟨q1, q2, q3, q4⟩ := nb p hp
      exact ⟨q1, by omega, fun e => q4 (by cases e; rfl)⟩
theorem gw_begin {w1 : World} {f wy : Int} {wv : Value} (W : World) (e : W = w1.alloc (.cells #[.int .i64 f, .int .i64 wy, wv, .slice none 0 0] 26)) : Gw W W w1.heap.size f wy wv [] (.slice none 0 0) := by
  subst e
  refine ⟨World.grownBy.refl _ _, World.cell?_alloc_at _ _ _ 0 rfl, World.cell?_alloc_at _ _ _ 1 rfl, World.cell?_alloc_at _ _ _ 2 rfl, World.cell?_alloc_at _ _ _ 3 rfl, fun j => ?_, by simp, World.ownsRow_nil _ _ _ _, (fun c hc => by cases hc), (fun c hc => by cases hc)⟩
  unfold World.frozen?
  rw [heap_alloc_new w1 _]
  simp
theorem gw_rdg {wx wr : World} {gb : Nat} {f wy : Int} {ws : List Int} {wa : Option Addr} {wc : Nat} {C : List Tc} {x : Value} (h : Gw wx wr gb f wy (.slice wa ws.length wc) C x) (hw : Rd wr wa ws) (h0 : 0 < C.length) (h12 : C.length ≤ 12) :
    ∃ g c, x = .slice (some ⟨g, 0, none⟩) C.length c ∧ RdG wr ⟨f, wy, wa, ws, wc, some ⟨g, 0, none⟩, C, c⟩ := by
  obtain ⟨g, c, e, hg1, hg2⟩ := h.ox.form h0
  subst e
  refine ⟨g, c, rfl, hw, ?_, h.rd, fun _ => ⟨g, 0, rfl, hg2, fun i hi => ?_⟩⟩
  · show C.length ≤ maxLen
    unfold maxLen; omega
  · have hi' : i < C.length := hi
    rw [Nat.zero_add]
    refine (h.ox.cellAt i (by omega)).trans ?_
    rw [List.getElem?_map, List.getElem?_eq_getElem hi']
    rfl

end Go.Proofs.Ytlloiccodjnkcag

namespace Go.Proofs.Ytlloiccodjnkcag
open Go.ChangeShapes Go.WideShapes Go.ChangeAt Go.RowKit Go.Lib
set_option linter.unusedVariables false

abbrev nilG : Obj := .cells #[.int .i64 0, .int .i64 0, .slice none 0 0, .slice none 0 0] 26
/-- a block of nothing -/
structure Zf (V : World) (p : Nat) : Prop where
  c0 : V.cell? ⟨p, 0, none⟩ = some (.int .i64 0)
  c1 : V.cell? ⟨p, 1, none⟩ = some (.int .i64 0)
  c2 : V.cell? ⟨p, 2, none⟩ = some (.slice none 0 0)
  c3 : V.cell? ⟨p, 3, none⟩ = some (.slice none 0 0)
  fr : ∀ j, V.frozen? ⟨p, j, none⟩ = false
  sz : p < V.heap.size
theorem zf_made (W : World) : Zf (W.alloc nilG) W.heap.size :=
  ⟨World.cell?_alloc_at _ _ _ 0 rfl, World.cell?_alloc_at _ _ _ 1 rfl, World.cell?_alloc_at _ _ _ 2 rfl, World.cell?_alloc_at _ _ _ 3 rfl, fun j => by
    unfold World.frozen?
    rw [heap_alloc_new W _]
    simp, by simp⟩
theorem Zf.same {V V' : World} {p : Nat} (h : Zf V p) (hs : V'.heap[p]? = V.heap[p]?) (hz : V.heap.size ≤ V'.heap.size) : Zf V' p :=
  ⟨(World.cell?_of_block (a := ⟨p, 0, none⟩) hs).trans h.c0, (World.cell?_of_block (a := ⟨p, 1, none⟩) hs).trans h.c1, (World.cell?_of_block (a := ⟨p, 2, none⟩) hs).trans h.c2, (World.cell?_of_block (a := ⟨p, 3, none⟩) hs).trans h.c3, fun j => (World.frozen?_of_block (a := ⟨p, j, none⟩) hs).trans (h.fr j), Nat.lt_of_lt_of_le h.sz hz⟩
theorem Zf.up {V V' : World} {p : Nat} (h : Zf V p) (hb : Below V.heap.size V V') : Zf V' p := h.same (hb.block p h.sz) hb.size
abbrev put4 (W : World) (p : Nat) (x0 x1 x2 x3 : Value) : World := (((W.setCell ⟨p, 0, none⟩ x0).setCell ⟨p, 1, none⟩ x1).setCell ⟨p, 2, none⟩ x2).setCell ⟨p, 3, none⟩ x3
theorem put4_far {W : World} {p q : Nat} {x0 x1 x2 x3 : Value} (h : q ≠ p) : (put4 W p x0 x1 x2 x3).heap[q]? = W.heap[q]? := by
  unfold put4
  rw [Below.heap_setCell _ _ _ _ h, Below.heap_setCell _ _ _ _ h, Below.heap_setCell _ _ _ _ h, Below.heap_setCell _ _ _ _ h]
theorem put4_size {W : World} {p : Nat} {x0 x1 x2 x3 : Value} : (put4 W p x0 x1 x2 x3).heap.size = W.heap.size := by simp
theorem put4_below {B : Nat} {w W : World} {p : Nat} {x0 x1 x2 x3 : Value} (h : Below B w W) (hp : B ≤ p) : Below B w (put4 W p x0 x1 x2 x3) :=
  (((h.setCell (p := ⟨p, 0, none⟩) hp _).setCell (p := ⟨p, 1, none⟩) hp _).setCell (p := ⟨p, 2, none⟩) hp _).setCell (p := ⟨p, 3, none⟩) hp _
theorem put4_cells {W : World} {p : Nat} {x0 x1 x2 x3 : Value} (z : Zf W p) :
    (put4 W p x0 x1 x2 x3).cell? ⟨p, 0, none⟩ = some x0 ∧ (put4 W p x0 x1 x2 x3).cell? ⟨p, 1, none⟩ = some x1 ∧ (put4 W p x0 x1 x2 x3).cell? ⟨p, 2, none⟩ = some x2 ∧ (put4 W p x0 x1 x2 x3).cell? ⟨p, 3, none⟩ = some x3 ∧ ∀ j, (put4 W p x0 x1 x2 x3).frozen? ⟨p, j, none⟩ = false := by
  have o : ∀ (V : World) (i j : Nat) (v : Value), i ≠ j → (V.setCell ⟨p, i, none⟩ v).cell? ⟨p, j, none⟩ = V.cell? ⟨p, j, none⟩ := fun V i j v hij => World.cell?_setCell_other _ _ _ _ (by intro e; cases e; exact hij rfl)
  have s : ∀ (V : World) (j : Nat) (v u : Value), V.cell? ⟨p, j, none⟩ = some u → (V.setCell ⟨p, j, none⟩ v).cell? ⟨p, j, none⟩ = some v := fun V j v u hu => World.cell?_setCell_same (u := u) _ _ _ hu
  refine ⟨?_, ?_, ?_, ?_, fun j => ?_⟩
  · rw [o _ _ _ _ (by decide), o _ _ _ _ (by decide), o _ _ _ _ (by decide), s _ _ _ _ z.c0]
  · rw [o _ _ _ _ (by decide), o _ _ _ _ (by decide), s _ _ _ (.int .i64 0) (by rw [o _ _ _ _ (by decide)]; exact z.c1)]
  · rw [o _ _ _ _ (by decide), s _ _ _ (.slice none 0 0) (by rw [o _ _ _ _ (by decide), o _ _ _ _ (by decide)]; exact z.c2)]
  · rw [s _ _ _ (.slice none 0 0) (by rw [o _ _ _ _ (by decide), o _ _ _ _ (by decide), o _ _ _ _ (by decide)]; exact z.c3)]
  · have := z.fr j
    simpa using this

theorem set4f {W : World} {p : Nat} {x0 x1 x2 x3 y0 y1 y2 y3 : Value} (h0 : W.cell? ⟨p, 0, none⟩ = some y0) (h1 : W.cell? ⟨p, 1, none⟩ = some y1) (h2 : W.cell? ⟨p, 2, none⟩ = some y2) (h3 : W.cell? ⟨p, 3, none⟩ = some y3) :
    (W.setCell ⟨p, 0, none⟩ x0).cell? ⟨p, 0, none⟩ = some x0 ∧ ((W.setCell ⟨p, 0, none⟩ x0).setCell ⟨p, 1, none⟩ x1).cell? ⟨p, 1, none⟩ = some x1 ∧
    (((W.setCell ⟨p, 0, none⟩ x0).setCell ⟨p, 1, none⟩ x1).setCell ⟨p, 2, none⟩ x2).cell? ⟨p, 2, none⟩ = some x2 ∧
    ((((W.setCell ⟨p, 0, none⟩ x0).setCell ⟨p, 1, none⟩ x1).setCell ⟨p, 2, none⟩ x2).setCell ⟨p, 3, none⟩ x3).cell? ⟨p, 3, none⟩ = some x3 := by
  have o : ∀ (V : World) (i j : Nat) (v : Value), i ≠ j → (V.setCell ⟨p, i, none⟩ v).cell? ⟨p, j, none⟩ = V.cell? ⟨p, j, none⟩ := fun V i j v hij => World.cell?_setCell_other _ _ _ _ (by intro e; cases e; exact hij rfl)
  refine ⟨World.cell?_setCell_same _ _ _ h0, World.cell?_setCell_same (u := y1) _ _ _ ?_, World.cell?_setCell_same (u := y2) _ _ _ ?_, World.cell?_setCell_same (u := y3) _ _ _ ?_⟩
  · rw [o _ _ _ _ (by decide)]; exact h1
  · rw [o _ _ _ _ (by decide), o _ _ _ _ (by decide)]; exact h2
  · rw [o _ _ _ _ (by decide), o _ _ _ _ (by decide), o _ _ _ _ (by decide)]; exact h3
/-- the first part of the work: the grove's block with all but its trees -/
structure Gs (w wx : World) (gb : Nat) (f wy : Int) (ws : List Int) (wa : Option Addr) (wc : Nat) : Prop where
  gw : Gw wx wx gb f wy (.slice wa ws.length wc) [] (.slice none 0 0)
  rw : Rd wx wa ws
  ne : ∀ p, wa = some p → p.block ≠ gb ∧ p.block ≠ w.heap.size
  gn : w.heap.size < gb
  z : Zf wx w.heap.size
  b : Below w.heap.size w wx
theorem gs_a {w w3 : World} {f wy : Int} {ws : List Int} {wa : Option Addr} {wc : Nat} (h0 : 0 < ws.length) (hb : Below ((w.alloc nilG).alloc nilG).drew.heap.size ((w.alloc nilG).alloc nilG).drew w3) (hr : Rd w3 wa ws) (ha : ∀ p, wa = some p → ((w.alloc nilG).alloc nilG).drew.heap.size ≤ p.block) :
    Zf w3 (w.heap.size + 1) ∧ Gs w (put4 w3 (w.heap.size + 1) (.int .i64 f) (.int .i64 wy) (.slice wa ws.length wc) (.slice none 0 0)) (w.heap.size + 1) f wy ws wa wc := by
  have e1 : (w.alloc nilG).heap.size = w.heap.size + 1 := by simp
  have e2 : ((w.alloc nilG).alloc nilG).drew.heap.size = w.heap.size + 1 + 1 := by
    show ((w.alloc nilG).alloc nilG).heap.size = _
    simp
  have z1 : Zf w3 (w.heap.size + 1) := by
    have := ((zf_made (w.alloc nilG)).up (Below.refl _ _).drew).up hb
    rw [e1] at this
    exact this
  have z0 : Zf w3 w.heap.size := ((zf_made w).up (((Below.refl _ _).alloc (Nat.le_refl _) _).drew)).up hb
  have b0 : Below w.heap.size w w3 := below_on ((((Below.refl _ w).alloc (Nat.le_refl _) _).alloc (by simp) _).drew) hb
  have s3 := hb.size
  rw [e2] at s3
  have fresh : ∀ p, wa = some p → p.block ≠ w.heap.size + 1 ∧ p.block ≠ w.heap.size := fun p hp => by
    have := ha p hp
    rw [e2] at this
    omega
  obtain ⟨p0, p1, p2, p3, pf⟩ := put4_cells (x0 := .int .i64 f) (x1 := .int .i64 wy) (x2 := .slice wa ws.length wc) (x3 := .slice none 0 0) z1
  refine ⟨z1, ⟨⟨World.grownBy.refl _ _, p0, p1, p2, p3, pf, by rw [put4_size]; omega, World.ownsRow_nil _ _ _ _, (fun c hc => by cases hc), (fun c hc => by cases hc)⟩, rd_keep hr (fun p hp => put4_far (fresh p hp).1) (by rw [put4_size]; exact Nat.le_refl _), fresh, by omega, z0.same (put4_far (by omega)) (by rw [put4_size]; exact Nat.le_refl _), put4_below b0 (by omega)⟩⟩
theorem gs_b {w w3 : World} {f wy : Int} {ws : List Int} {wa : Option Addr} {wc : Nat} (h0 : 0 < ws.length) (hb : Below (w.alloc nilG).drew.heap.size (w.alloc nilG).drew w3) (hr : Rd w3 wa ws) (ha : ∀ p, wa = some p → (w.alloc nilG).drew.heap.size ≤ p.block) :
    Gs w (w3.alloc (.cells #[.int .i64 f, .int .i64 wy, .slice wa ws.length wc, .slice none 0 0] 26)) w3.heap.size f wy ws wa wc := by
  have e1 : (w.alloc nilG).drew.heap.size = w.heap.size + 1 := by
    show (w.alloc nilG).heap.size = _
    simp
  have z0 : Zf w3 w.heap.size := ((zf_made w).up ((Below.refl _ _).drew)).up hb
  have b0 : Below w.heap.size w w3 := below_on (((Below.refl _ w).alloc (Nat.le_refl _) _).drew) hb
  have s3 := hb.size
  rw [e1] at s3
  have ba : Below w3.heap.size w3 (w3.alloc (.cells #[.int .i64 f, .int .i64 wy, .slice wa ws.length wc, .slice none 0 0] 26)) := (Below.refl _ _).alloc (Nat.le_refl _) _
  refine ⟨⟨World.grownBy.refl _ _, World.cell?_alloc_at _ _ _ 0 rfl, World.cell?_alloc_at _ _ _ 1 rfl, World.cell?_alloc_at _ _ _ 2 rfl, World.cell?_alloc_at _ _ _ 3 rfl, fun j => ?_, by simp, World.ownsRow_nil _ _ _ _, (fun c hc => by cases hc), (fun c hc => by cases hc)⟩, hr.below ba, fun p hp => ?_, by omega, z0.up ba, below_on b0 ba⟩
  · unfold World.frozen?
    rw [heap_alloc_new w3 _]
    simp
  · obtain ⟨b, off, e, hl, _⟩ := hr.2 (by intro e; rw [e] at h0; simp at h0)
    have q := ha p hp
    rw [e1] at q
    rw [hp] at e
    cases e
    have q' : w.heap.size + 1 ≤ b := q
    exact ⟨Nat.ne_of_lt hl, show b ≠ w.heap.size by omega⟩

/-- .. where something was done between -/
theorem gs_a2 {w W1 w3 : World} {f wy : Int} {ws : List Int} {wa : Option Addr} {wc : Nat} (z : Zf W1 w.heap.size) (b : Below w.heap.size w W1) (hb : Below (W1.alloc nilG).drew.heap.size (W1.alloc nilG).drew w3) (hr : Rd w3 wa ws) (ha : ∀ p, wa = some p → (W1.alloc nilG).drew.heap.size ≤ p.block) :
    Zf w3 W1.heap.size ∧ Gs w (put4 w3 W1.heap.size (.int .i64 f) (.int .i64 wy) (.slice wa ws.length wc) (.slice none 0 0)) W1.heap.size f wy ws wa wc := by
  have e2 : (W1.alloc nilG).drew.heap.size = W1.heap.size + 1 := by
    show (W1.alloc nilG).heap.size = _
    simp
  have z1 : Zf w3 W1.heap.size := ((zf_made W1).up (Below.refl _ _).drew).up hb
  have z0 : Zf w3 w.heap.size := (z.up (((Below.refl _ _).alloc (Nat.le_refl _) _).drew)).up hb
  have zz := z.sz
  have b0 : Below w.heap.size w w3 := below_on b (below_on (((Below.refl _ W1).alloc (Nat.le_refl _) _).drew) hb)
  have s3 := hb.size
  rw [e2] at s3
  have fresh : ∀ p, wa = some p → p.block ≠ W1.heap.size ∧ p.block ≠ w.heap.size := fun p hp => by
    have := ha p hp
    rw [e2] at this
    omega
  obtain ⟨p0, p1, p2, p3, pf⟩ := put4_cells (x0 := .int .i64 f) (x1 := .int .i64 wy) (x2 := .slice wa ws.length wc) (x3 := .slice none 0 0) z1
  refine ⟨z1, ⟨⟨World.grownBy.refl _ _, p0, p1, p2, p3, pf, by rw [put4_size]; omega, World.ownsRow_nil _ _ _ _, (fun c hc => by cases hc), (fun c hc => by cases hc)⟩, rd_keep hr (fun p hp => put4_far (fresh p hp).1) (by rw [put4_size]; exact Nat.le_refl _), fresh, by omega, z0.same (put4_far (by omega)) (by rw [put4_size]; exact Nat.le_refl _), put4_below b0 (by omega)⟩⟩
theorem gs_b2 {w W1 w3 : World} {f wy : Int} {ws : List Int} {wa : Option Addr} {wc : Nat} (h0 : 0 < ws.length) (z : Zf W1 w.heap.size) (b : Below w.heap.size w W1) (hb : Below W1.drew.heap.size W1.drew w3) (hr : Rd w3 wa ws) (ha : ∀ p, wa = some p → W1.drew.heap.size ≤ p.block) :
    Gs w (w3.alloc (.cells #[.int .i64 f, .int .i64 wy, .slice wa ws.length wc, .slice none 0 0] 26)) w3.heap.size f wy ws wa wc := by
  have e1 : W1.drew.heap.size = W1.heap.size := rfl
  have z0 : Zf w3 w.heap.size := (z.up ((Below.refl _ _).drew)).up hb
  have zz := z.sz
  have b0 : Below w.heap.size w w3 := below_on b (below_on ((Below.refl _ W1).drew) hb)
  have s3 := hb.size
  rw [e1] at s3
  have ba : Below w3.heap.size w3 (w3.alloc (.cells #[.int .i64 f, .int .i64 wy, .slice wa ws.length wc, .slice none 0 0] 26)) := (Below.refl _ _).alloc (Nat.le_refl _) _
  refine ⟨⟨World.grownBy.refl _ _, World.cell?_alloc_at _ _ _ 0 rfl, World.cell?_alloc_at _ _ _ 1 rfl, World.cell?_alloc_at _ _ _ 2 rfl, World.cell?_alloc_at _ _ _ 3 rfl, fun j => ?_, by simp, World.ownsRow_nil _ _ _ _, (fun c hc => by cases hc), (fun c hc => by cases hc)⟩, hr.below ba, fun p hp => ?_, by omega, z0.up ba, below_on b0 ba⟩
  · unfold World.frozen?
    rw [heap_alloc_new w3 _]
    simp
  · obtain ⟨b, off, e, hl, _⟩ := hr.2 (by intro e; rw [e] at h0; simp at h0)
    have q := ha p hp
    rw [e1] at q
    rw [hp] at e
    cases e
    have q' : W1.heap.size ≤ b := q
    exact ⟨Nat.ne_of_lt hl, show b ≠ w.heap.size by omega⟩

/-- the grove, as it is handed back -/
theorem gw_done {w wx wr : World} {gb : Nat} {f wy : Int} {ws : List Int} {wa : Option Addr} {wc : Nat} {C : List Tc} {x : Value} (s : Gs w wx gb f wy ws wa wc) (h : Gw wx wr gb f wy (.slice wa ws.length wc) C x) (h0 : 0 < C.length) (h12 : C.length ≤ 12) (hw0 : 0 < ws.length) (y0 y1 y2 y3 : Value) :
    ∃ g c, x = .slice (some ⟨g, 0, none⟩) C.length c ∧ Zf wr w.heap.size ∧ RdG (put4 wr w.heap.size y0 y1 y2 y3) ⟨f, wy, wa, ws, wc, some ⟨g, 0, none⟩, C, c⟩ ∧ Below w.heap.size w (put4 wr w.heap.size y0 y1 y2 y3) := by
  have gs := h.gr.size
  have rz := s.z.sz
  obtain ⟨g, c, e, hg1, hg2⟩ := h.ox.form h0
  subst e
  have far : ∀ q, q ≠ w.heap.size → (put4 wr w.heap.size y0 y1 y2 y3).heap[q]? = wr.heap[q]? := fun q hq => put4_far hq
  refine ⟨g, c, rfl, s.z.same (h.gr.block _ rz (fun e => by have := s.gn; cases e; omega)) gs, ⟨rd_keep s.rw (fun p hp => ?_) (by rw [put4_size]; exact gs), ?_, ?_, fun _ => ⟨g, 0, rfl, by rw [put4_size]; exact hg2, fun i hi => ?_⟩⟩, put4_below (s.b.grown h.gr s.b.size (fun k hk => by cases hk; have := s.gn; omega)) (Nat.le_refl _)⟩
  · obtain ⟨n1, n2⟩ := s.ne p hp
    have hp' : wa = some p := hp
    obtain ⟨b, off, e, hl, _⟩ := s.rw.2 (by intro e; rw [e] at hw0; simp at hw0)
    rw [hp'] at e
    cases e
    exact (far _ n2).trans (h.gr.block _ hl (fun e => n1 (by cases e; rfl)))
  · show C.length ≤ maxLen
    unfold maxLen; omega
  · intro c' hc
    have hc' : c' ∈ C := hc
    exact rdn_keep (h.rd c' hc') (fun p hp => far _ (by have := (h.ap c' hc' p hp).1; omega)) (by rw [put4_size]; exact Nat.le_refl _)
  · have hi' : i < C.length := hi
    rw [Nat.zero_add]
    refine (World.cell?_of_block (a := ⟨g, i, none⟩) (far g (by omega))).trans ((h.ox.cellAt i (by omega)).trans ?_)
    rw [List.getElem?_map, List.getElem?_eq_getElem hi']
    rfl

end Go.Proofs.Ytlloiccodjnkcag

namespace Go.Proofs.Ytlloiccodjnkcag
open Go.ChangeShapes Go.WideShapes Go.ChangeAt Go.RowKit Go.Lib
set_option linter.unusedVariables false

/-- what grove.Eval, Each answer -/
def EvalGives : Prop := ∀ (G : Gr) (b : Option Addr) (xs : List Int) (cb : Nat) (W : World), RdG W G → Rd W b xs → Calls Try.prog 13 #[G.v, .slice b xs.length cb] W fun e w' => e = .returned (.tuple #[.int .i64 (M.evalG G.m xs), errV (M.standF G.m xs)]) ∧ Below W.heap.size W w'
def EachGives : Prop := ∀ (G : Gr) (b : Option Addr) (xs : List Int) (cb : Nat) (W : World), RdG W G → Rd W b xs → Calls Try.prog 32 #[G.v, .slice b xs.length cb] W fun e w' => ∃ ag cg, e = .returned (.tuple #[.slice ag (M.eachV G.m xs).length cg, errV (M.standF G.m xs)]) ∧ Rd w' ag (M.eachV G.m xs) ∧ Below W.heap.size W w'

theorem kept_four {w W : World} {a0 a1 a2 a3 : Value} {t : TypeId} (h : Below (w.alloc (.cells #[a0, a1, a2, a3] t)).heap.size (w.alloc (.cells #[a0, a1, a2, a3] t)) W) :
    W.cell? ⟨w.heap.size, 0, none⟩ = some a0 ∧ W.cell? ⟨w.heap.size, 1, none⟩ = some a1 ∧ W.cell? ⟨w.heap.size, 2, none⟩ = some a2 ∧ W.cell? ⟨w.heap.size, 3, none⟩ = some a3 := by
  have hs : w.heap.size < (w.alloc (.cells #[a0, a1, a2, a3] t)).heap.size := by simp
  exact ⟨(h.cell (p := ⟨w.heap.size, 0, none⟩) hs).trans (World.cell?_alloc_at _ _ _ 0 rfl), (h.cell (p := ⟨w.heap.size, 1, none⟩) hs).trans (World.cell?_alloc_at _ _ _ 1 rfl), (h.cell (p := ⟨w.heap.size, 2, none⟩) hs).trans (World.cell?_alloc_at _ _ _ 2 rfl), (h.cell (p := ⟨w.heap.size, 3, none⟩) hs).trans (World.cell?_alloc_at _ _ _ 3 rfl)⟩

abbrev leaf7Obj : Obj := .cells #[.int .i64 (-1), .int .i64 0, .int .i64 0, .int .i64 0, .bool false, .int .i64 7] 38
/-- one leaf that says 7, where it is laid behind a block -/
theorem leaf7_rdn (w : World) : RdN (w.alloc leaf7Obj) (some ⟨w.heap.size, 0, none⟩) [(-1, 0, 0, 0, false, 7)] := by
  refine ⟨by show 1 ≤ maxLen; unfold maxLen; decide, fun _ => ⟨w.heap.size, 0, rfl, by simp, fun i hi => ?_⟩⟩
  have c : ∀ j, (w.alloc leaf7Obj).cell? ⟨w.heap.size, j, none⟩ = _ := fun j => World.cell?_alloc_at _ _ _ j rfl
  have hi' : i < 1 := hi
  rcases i with _ | i
  · exact ⟨c _, c _, c _, c _, c _, c _⟩
  · omega
/-- the grove of one such leaf -/
abbrev one7W (w : World) (n : Nat) : World := ((w.alloc leaf7Obj).alloc (.cells #[.int .i64 1] 3)).alloc (.cells #[.slice (some ⟨n, 0, none⟩) 1 1] 35)
def one7G (n : Nat) : Gr := ⟨0, 3, some ⟨n + 1, 0, none⟩, [1], 1, some ⟨n + 1 + 1, 0, none⟩, [(some ⟨n, 0, none⟩, [(-1, 0, 0, 0, false, 7)], 1)], 1⟩
theorem one7_rdg (w : World) (n : Nat) (hn : n = w.heap.size) : RdG (one7W w n) (one7G n) := by
  subst hn
  have b1 : Below (w.alloc leaf7Obj).heap.size (w.alloc leaf7Obj) (one7W w w.heap.size) := (((Below.refl _ (w.alloc leaf7Obj)).alloc (Nat.le_refl _) _).alloc (by simp) _)
  have b2 : Below ((w.alloc leaf7Obj).alloc (.cells #[.int .i64 1] 3)).heap.size ((w.alloc leaf7Obj).alloc (.cells #[.int .i64 1] 3)) (one7W w w.heap.size) := (Below.refl _ _).alloc (Nat.le_refl _) _
  refine ⟨?_, by show 1 ≤ maxLen; unfold maxLen; decide, ?_, fun _ => ⟨w.heap.size + 1 + 1, 0, rfl, by simp, fun i hi => ?_⟩⟩
  · have := (one_rd (w.alloc leaf7Obj) 1 3).below b2
    simpa [one7G] using this
  · intro k hk
    have e : k = (some ⟨w.heap.size, 0, none⟩, [(-1, 0, 0, 0, false, 7)], 1) := by simpa [one7G] using hk
    subst e
    exact (leaf7_rdn w).below b1
  · have hi' : i < 1 := hi
    rcases i with _ | i
    · exact World.cell?_alloc_at _ _ _ 0 (by simp)
    · omega

end Go.Proofs.Ytlloiccodjnkcag

namespace Go.Proofs.Ytlloiccodjnkcag
open Go.ChangeShapes Go.WideShapes Go.ChangeAt Go.RowKit Go.Lib
set_option linter.unusedVariables false

/-- the first k of a list, the rest still 0 -/
def M.fillK (l : List Int) (k : Nat) : List Int := l.take k ++ List.replicate (l.length - k) 0
theorem M.fillK_len (l : List Int) {k : Nat} (h : k ≤ l.length) : (M.fillK l k).length = l.length := by unfold M.fillK; simp; omega
theorem M.fillK_zero (l : List Int) : M.fillK l 0 = List.replicate l.length 0 := by unfold M.fillK; simp
theorem M.fillK_all (l : List Int) : M.fillK l l.length = l := by unfold M.fillK; simp
theorem M.fillK_set (l : List Int) {k : Nat} (h : k < l.length) : (M.fillK l k).set k (l.getD k 0) = M.fillK l (k + 1) := by
  apply List.ext_getElem?
  intro i
  rw [M.getD_at h]
  unfold M.fillK
  by_cases e : i = k
  · subst e
    rw [List.getElem?_set_self (by simp; omega), List.getElem?_append_left (by simp; omega), List.getElem?_take_of_lt (by omega), List.getElem?_eq_getElem h]
  · rw [List.getElem?_set_ne (fun c => e c.symm)]
    by_cases q : i < k
    · rw [List.getElem?_append_left (by simp; omega), List.getElem?_append_left (by simp; omega), List.getElem?_take_of_lt q, List.getElem?_take_of_lt (by omega)]
    · rw [List.getElem?_append_right (by simp; omega), List.getElem?_append_right (by simp; omega)]
      simp only [List.length_take, List.getElem?_replicate]
      rw [Nat.min_eq_left (by omega), Nat.min_eq_left (by omega)]
      by_cases q2 : i < l.length
      · rw [if_pos (by omega), if_pos (by omega)]
      · rw [if_neg (by omega), if_neg (by omega)]

theorem fillK_own {wr : World} {B g n : Nat} {F : List Int} {k : Nat} (hk : k < F.length)
    (hown : wr.ownsRow B 3 1 (.slice (some ⟨g, 0, none⟩) n n) n ((M.fillK F k).map (Value.int .i64))) :
    (wr.setCell ⟨g, k, none⟩ (.int .i64 (F.getD k 0))).ownsRow B 3 1 (.slice (some ⟨g, 0, none⟩) n n) n ((M.fillK F (k + 1)).map (Value.int .i64)) := by
  have := (hown.stored k (.int .i64 (F.getD k 0))).1
  rw [← M.fillK_set F hk, List.map_set]
  exact this
theorem fillK_cell {wr : World} {B g n : Nat} {F : List Int} {k : Nat} (hk : k < F.length) (hn : F.length = n)
    (hown : wr.ownsRow B 3 1 (.slice (some ⟨g, 0, none⟩) n n) n ((M.fillK F k).map (Value.int .i64))) : ∃ z, wr.cell? ⟨g, k, none⟩ = some (.int .i64 z) := by
  have hl : (M.fillK F k).length = n := by rw [M.fillK_len F (by omega), hn]
  exact ⟨_, own_at hown hl k (by omega)⟩

end Go.Proofs.Ytlloiccodjnkcag

namespace Go.Proofs.Ytlloiccodjnkcag
open Go.ChangeShapes Go.WideShapes Go.ChangeAt Go.RowKit Go.Lib
set_option linter.unusedVariables false

theorem kept_grove {w W : World} {a0 a1 a2 a3 : Value} {t : TypeId} (h : Below (w.alloc (.cells #[a0, a1, a2, a3] t)).heap.size (w.alloc (.cells #[a0, a1, a2, a3] t)) W) :
    W.cell? ⟨w.heap.size, 0, none⟩ = some a0 ∧ W.cell? ⟨w.heap.size, 1, none⟩ = some a1 ∧ W.cell? ⟨w.heap.size, 2, none⟩ = some a2 ∧ W.cell? ⟨w.heap.size, 3, none⟩ = some a3 := by
  have hs : w.heap.size < (w.alloc (.cells #[a0, a1, a2, a3] t)).heap.size := by simp
  exact ⟨(h.cell (p := ⟨w.heap.size, 0, none⟩) hs).trans (World.cell?_alloc_at _ _ _ 0 rfl), (h.cell (p := ⟨w.heap.size, 1, none⟩) hs).trans (World.cell?_alloc_at _ _ _ 1 rfl), (h.cell (p := ⟨w.heap.size, 2, none⟩) hs).trans (World.cell?_alloc_at _ _ _ 2 rfl), (h.cell (p := ⟨w.heap.size, 3, none⟩) hs).trans (World.cell?_alloc_at _ _ _ 3 rfl)⟩

theorem M.grove_range {g : M.Gv} (h : M.gf g < 0 ∨ 8 < M.gf g ∨ M.gw g < 1 ∨ 3 < M.gw g) : M.groveF g = 1 := by unfold M.groveF; rw [if_pos h]

set_option maxHeartbeats 16000000 in
set_option maxRecDepth 10000 in
theorem rgrove_any (G : Gr) (w : World) (h : RdG w G) :
    Calls Try.prog 12 #[G.v] w fun e w' => e = .returned (.int .i64 (M.groveF G.m)) ∧ Below w.heap.size w w' := by
  have hm1 : G.ks.length ≤ 9223372036854775807 := h.2.1
  have hm2 : G.ws.length ≤ 9223372036854775807 := h.1.1
  have HG := hide h
  have tlen : (M.gt G.m).length = G.ks.length := tl_len G.ks
  have B0 : Hid (∀ o, Below w.heap.size w (w.alloc o)) := fun o => (Below.refl _ w).alloc (Nat.le_refl _) o
  clear h
  obtain ⟨gO, hgO⟩ : ∃ o : Obj, o = .cells #[.int .i64 G.f, .int .i64 G.w, .slice G.wa G.ws.length G.wc, .slice G.ta G.ks.length G.tc] 26 := ⟨_, rfl⟩
  have HGO := hide hgO
  clear hgO
  unfold Gr.v
  by_cases hR : M.gf G.m < 0 ∨ 8 < M.gf G.m ∨ M.gw G.m < 1 ∨ 3 < M.gw G.m
  · rw [M.grove_range hR]
    have hR' : G.f < 0 ∨ 8 < G.f ∨ G.w < 1 ∨ 3 < G.w := hR
    clear hR tlen HG

    by_cases c0 : G.f < 0
    · have q0 : decide (G.f < 0) = true := decide_eq_true (by omega)
      clear hR' c0
      go_enter Try.func12, Try.ntmps12
      go_wp2
      go_ret
      exact ⟨rfl, B0.out _⟩
    · by_cases c1 : 8 < G.f
      · have q0 : decide (G.f < 0) = false := decide_eq_false (by omega)
        have q1 : decide (8 < G.f) = true := decide_eq_true (by omega)
        clear hR' c0 c1
        go_enter Try.func12, Try.ntmps12
        go_wp2
        go_ret
        exact ⟨rfl, B0.out _⟩
      · by_cases c2 : G.w < 1
        · have q0 : decide (G.f < 0) = false := decide_eq_false (by omega)
          have q1 : decide (8 < G.f) = false := decide_eq_false (by omega)
          have q2 : decide (G.w < 1) = true := decide_eq_true (by omega)
          clear hR' c0 c1 c2
          go_enter Try.func12, Try.ntmps12
          go_wp2
          go_ret
          exact ⟨rfl, B0.out _⟩
        · have q0 : decide (G.f < 0) = false := decide_eq_false (by omega)
          have q1 : decide (8 < G.f) = false := decide_eq_false (by omega)
          have q2 : decide (G.w < 1) = false := decide_eq_false (by omega)
          have q3 : decide (3 < G.w) = true := decide_eq_true (by omega)
          clear hR' c0 c1 c2
          go_enter Try.func12, Try.ntmps12
          go_wp2
          go_ret
          exact ⟨rfl, B0.out _⟩
  · have q0 : decide (G.f < 0) = false := decide_eq_false (fun c => hR (.inl c))
    have q1 : decide (8 < G.f) = false := decide_eq_false (fun c => hR (.inr (.inl c)))
    have q2 : decide (G.w < 1) = false := decide_eq_false (fun c => hR (.inr (.inr (.inl c))))
    have q3 : decide (3 < G.w) = false := decide_eq_false (fun c => hR (.inr (.inr (.inr c))))
    have E0 : M.groveF G.m = if G.ks.length = 0 then 5 else if 12 < G.ks.length then 4 else if G.ws.length ≠ G.ks.length then 3 else if G.ws.any M.wBad = true then 1 else M.treesF G.f (tl G.ks) := by
      rw [← tlen]; unfold M.groveF; rw [if_neg hR]; rfl
    rw [E0]
    clear hR E0
    by_cases t0 : G.ks.length = 0
    · rw [if_pos t0]
      rw [t0]
      clear tlen HG t0 hm1
      go_enter Try.func12, Try.ntmps12
      go_wp2
      go_ret
      exact ⟨rfl, B0.out _⟩
    · rw [if_neg t0]
      have q4 : ((G.ks.length : Int) == 0) = false := by rw [beq_eq_false_iff_ne]; omega
      have t0' : 0 < G.ks.length := by omega
      by_cases t12 : 12 < G.ks.length
      · rw [if_pos t12]
        have q5 : decide (12 < (G.ks.length : Int)) = true := decide_eq_true (by omega)
        clear tlen HG t0 t12
        go_enter Try.func12, Try.ntmps12
        go_wp2
        go_ret
        exact ⟨rfl, B0.out _⟩
      · rw [if_neg t12]
        have q5 : decide (12 < (G.ks.length : Int)) = false := decide_eq_false (by omega)
        by_cases tw : G.ws.length ≠ G.ks.length
        · rw [if_pos tw]
          have q6 : ((G.ws.length : Int) != (G.ks.length : Int)) = true := by rw [bne_iff_ne]; omega
          clear tlen HG t0 t12 tw
          go_enter Try.func12, Try.ntmps12
          go_wp2
          go_ret
          exact ⟨rfl, B0.out _⟩
        · rw [if_neg tw]
          have tw' : G.ws.length = G.ks.length := by omega
          have n12 : G.ks.length ≤ 12 := by omega
          have WB : Hid (∀ k (h : k < G.ws.length), M.wBad (G.ws.getD k 0) = true → G.ws.any M.wBad = true) := fun k h e => List.any_eq_true.2 ⟨_, by rw [M.getD_at h]; exact List.getElem_mem h, e⟩
          have WN : Hid ((∀ k, k < G.ws.length → M.wBad (G.ws.getD k 0) = false) → G.ws.any M.wBad = false) := fun h => by
            cases e : G.ws.any M.wBad with
            | false => rfl
            | true =>
              obtain ⟨x, hx, e2⟩ := List.any_eq_true.1 e
              obtain ⟨i, hi, rfl⟩ := List.getElem_of_mem hx
              have := h i hi
              rw [M.getD_at hi, e2] at this
              cases this
          have TA : Hid (∀ k, k < G.ks.length → (∀ j, j < k → (M.treeF ((tl G.ks).getD j []) G.f).2 = 0) → (M.treeF ((tl G.ks).getD k []) G.f).2 ≠ 0 → M.treesF G.f (tl G.ks) = (M.treeF ((tl G.ks).getD k []) G.f).2) := fun k hk h hn => M.trees_at (by rw [tl_len]; exact hk) h hn
          have TN : Hid ((∀ j, j < G.ks.length → (M.treeF ((tl G.ks).getD j []) G.f).2 = 0) → M.treesF G.f (tl G.ks) = 0) := fun h => M.trees_all (fun j hj => h j (by rw [tl_len] at hj; exact hj))
          have TL : Hid (∀ k (h : k < G.ks.length), (tl G.ks).getD k [] = G.ks[k].2.1) := fun k h => tl_at G.ks h
          have RW : Hid (∀ W, Below w.heap.size w W → Rd W G.wa G.ws) := fun W hW => (HG.out.below hW).1
          have RT : Hid (∀ W, Below w.heap.size w W → RdT W G.ta G.ks) := fun W hW => (HG.out.below hW).2
          have LW := hide tw'
          have q6 : ((G.ws.length : Int) != (G.ks.length : Int)) = false := by rw [bne_eq_false_iff_eq]; omega
          clear tlen HG t0 t12 tw tw'
          generalize hAB : G.ws.any M.wBad = AB at *
          have HAB := hide hAB
          clear hAB
          generalize M.treesF G.f (tl G.ks) = TF at *
          generalize hRV : (if AB = true then (1 : Int) else TF) = RV
          have HRV := hide hRV
          clear hRV
          have KG : Hid (∀ W, Below (w.alloc gO).heap.size (w.alloc gO) W → Below w.heap.size w W ∧ W.cell? ⟨w.heap.size, 0, none⟩ = some (.int .i64 G.f) ∧ W.cell? ⟨w.heap.size, 2, none⟩ = some (.slice G.wa G.ws.length G.wc) ∧ W.cell? ⟨w.heap.size, 3, none⟩ = some (.slice G.ta G.ks.length G.tc)) := fun W hW => by
            refine ⟨below_on ((Below.refl _ w).alloc (Nat.le_refl _) gO) hW, ?_⟩
            rw [HGO.out] at hW
            exact ⟨(kept_grove hW).1, (kept_grove hW).2.2.1, (kept_grove hW).2.2.2⟩
          rw [HGO.out] at KG
          go_enter Try.func12, Try.ntmps12
          go_wp2
          go_loopw [3] (fun i wr => ∃ k : Nat, k ≤ G.ws.length ∧ i = .int .i64 k ∧ Hid (∀ j, j < k → M.wBad (G.ws.getD j 0) = false) ∧ Hid (Below (w.alloc (.cells #[.int .i64 G.f, .int .i64 G.w, .slice G.wa G.ws.length G.wc, .slice G.ta G.ks.length G.tc] 26)).heap.size (w.alloc (.cells #[.int .i64 G.f, .int .i64 G.w, .slice G.wa G.ws.length G.wc, .slice G.ta G.ks.length G.tc] 26)) wr)) (fun i _ => G.ws.length - (intOf i).toNat)
          case atStart => exact ⟨0, Nat.zero_le _, rfl, fun j hj => by omega, Below.refl _ _⟩
          case round =>
            obtain ⟨k, hk, rfl, I, KK⟩ := hrel
            obtain ⟨kw1, c0, c2, c3⟩ := KG.out wr KK.out
            by_cases hlt : k < G.ws.length
            · obtain ⟨bw, ow, ewa, hbw, hcw⟩ := (RW.out wr kw1).2 (by intro e; rw [e] at hlt; simp at hlt)
              have HWA := hide ewa
              have cw := hcw k hlt
              have kz : (k : Int) < (G.ws.length : Int) := by omega
              rw [HWA.out] at c2
              have wb : M.wBad (G.ws.getD k 0) = (decide (G.ws.getD k 0 < 1) || decide (1000 < G.ws.getD k 0)) := rfl
              by_cases b1 : G.ws.getD k 0 < 1
              · have E : Hid (AB = true) := WB.out k hlt (by rw [wb, decide_eq_true b1]; rfl)
                have p1 : decide (G.ws.getD k 0 < 1) = true := decide_eq_true b1
                have RE : Hid ((1 : Int) = RV) := by unfold Hid; rw [← HRV.out, if_pos E.out]
                clear WB WN TA TN TL RT wb b1 E hcw I ewa
                generalize G.ws.getD k 0 = z at *
                go_wp2
                go_ret
                exact ⟨ret_int RE.out, kw1⟩
              · by_cases b2 : 1000 < G.ws.getD k 0
                · have E : Hid (AB = true) := WB.out k hlt (by rw [wb, decide_eq_true b2]; simp)
                  have p1 : decide (G.ws.getD k 0 < 1) = false := decide_eq_false b1
                  have p2 : decide (1000 < G.ws.getD k 0) = true := decide_eq_true b2
                  have RE : Hid ((1 : Int) = RV) := by unfold Hid; rw [← HRV.out, if_pos E.out]
                  clear WB WN TA TN TL RT wb b1 b2 E hcw I ewa
                  generalize G.ws.getD k 0 = z at *
                  go_wp2
                  go_ret
                  exact ⟨ret_int RE.out, kw1⟩
                · have p1 : decide (G.ws.getD k 0 < 1) = false := decide_eq_false b1
                  have p2 : decide (1000 < G.ws.getD k 0) = false := decide_eq_false b2
                  have N : Hid (∀ j, j < k + 1 → M.wBad (G.ws.getD j 0) = false) := fun j hj => by
                    by_cases e : j = k
                    · rw [e, wb, p1, p2]; rfl
                    · exact I.out j (by omega)
                  clear WB WN TA TN TL RT wb b1 b2 hcw I ewa
                  generalize G.ws.getD k 0 = z at *
                  go_wp2
                  go_roundw
                  case rel => exact ⟨k + 1, by omega, by go_num, N, KK⟩
                  case measure => simp [intOf]; omega
            · have E : Hid (AB = false) := WN.out (fun j hj => I.out j (by omega))
              have RE : Hid (TF = RV) := by unfold Hid; rw [← HRV.out, E.out]; rfl
              clear WB WN I E RW LW HAB
              go_wp2
              go_loopw [4] (fun i wr => ∃ k : Nat, k ≤ G.ks.length ∧ i = .int .i64 k ∧ Hid (∀ j, j < k → (M.treeF ((tl G.ks).getD j []) G.f).2 = 0) ∧ Hid (Below (w.alloc (.cells #[.int .i64 G.f, .int .i64 G.w, .slice G.wa G.ws.length G.wc, .slice G.ta G.ks.length G.tc] 26)).heap.size (w.alloc (.cells #[.int .i64 G.f, .int .i64 G.w, .slice G.wa G.ws.length G.wc, .slice G.ta G.ks.length G.tc] 26)) wr)) (fun i _ => G.ks.length - (intOf i).toNat)
              case atStart => exact ⟨0, Nat.zero_le _, rfl, fun j hj => by omega, KK⟩
              case round =>
                clear KK kw1 c0 c2 c3
                obtain ⟨k, hk, rfl, I, K⟩ := hrel
                obtain ⟨kw, c0, c2, c3⟩ := KG.out _ K.out
                by_cases hlt : k < G.ks.length
                · obtain ⟨hk1, hk2, hk3⟩ := RT.out wr kw
                  obtain ⟨bt, ot, eta, hbt, hct⟩ := hk3 (by intro e; rw [e] at hlt; simp at hlt)
                  have ct := hct k hlt
                  have rk := hk2 _ (List.getElem_mem hlt)
                  have HTA := hide eta
                  have TE := TL.out k hlt
                  have TR := hide (rtree_any G.ks[k].1 G.ks[k].2.1 G.ks[k].2.2 G.f wr.drew (rk.below (Below.refl _ wr).drew))
                  have TAK := hide (TA.out k hlt I.out)
                  rw [TE] at TAK
                  have kz : (k : Int) < (G.ks.length : Int) := by omega
                  have c0d : wr.drew.cell? ⟨w.heap.size, 0, none⟩ = some (.int .i64 G.f) := c0
                  have c3d : wr.drew.cell? ⟨w.heap.size, 3, none⟩ = some (.slice (some ⟨bt, ot, none⟩) G.ks.length G.tc) := by rw [← HTA.out]; exact c3
                  unfold tV at ct
                  have ctd : wr.drew.cell? ⟨bt, ot + k, none⟩ = some (.slice G.ks[k].1 G.ks[k].2.1.length G.ks[k].2.2) := ct
                  have N : Hid ((M.treeF G.ks[k].2.1 G.f).2 = 0 → ∀ j, j < k + 1 → (M.treeF ((tl G.ks).getD j []) G.f).2 = 0) := fun hz j hj => by
                    by_cases e : j = k
                    · rw [e, TE]; exact hz
                    · exact I.out j (by omega)
                  clear hk1 hk2 hk3 hct rk eta TE TA TN TL RT I
                  generalize (M.treeF G.ks[k].2.1 G.f).2 = te at *
                  generalize (M.treeF G.ks[k].2.1 G.f).1 = tp at *
                  generalize G.ks[k].2.1.length = tn at *
                  generalize G.ks[k].2.2 = tcc at *
                  generalize G.ks[k].1 = ta at *
                  go_upto_region 17 with fail
                  go_cut [5, 6] from 68 to 78 (fun p e wx => p = .int .i64 (tp : Nat) ∧ e = .int .i64 te ∧ Hid (Below wr.heap.size wr wx))
                  case first =>
                    go_region_with (go_at_call 31; refine TR.out.mono ?_; rintro e w5 ⟨rfl, hb5⟩)
                    all_goals go_wp2
                    all_goals go_meet
                    all_goals (case rel => exact ⟨rfl, rfl, (Below.refl wr.heap.size wr).drew.trans hb5⟩)
                  case rest =>
                    obtain ⟨rfl, rfl, K5⟩ := hcut
                    have K6 := hide (below_on K.out K5.out)
                    have kw6 := below_on kw K5.out
                    by_cases hz : te = 0
                    · have qz : (te != 0) = false := by rw [bne_eq_false_iff_eq]; exact hz
                      have NN := hide (N.out hz)
                      clear hz N TAK
                      go_wp2
                      go_roundw
                      case rel => exact ⟨k + 1, by omega, by go_num, NN, K6⟩
                      case measure => simp [intOf]; omega
                    · have qz : (te != 0) = true := by rw [bne_iff_ne]; exact hz
                      have TE2 := hide (TAK.out hz)
                      clear hz N TAK
                      go_wp2
                      go_ret
                      exact ⟨ret_int (by rw [← RE.out, TE2.out]), kw6⟩
                · have TZ : Hid (TF = 0) := TN.out (fun j hj => I.out j (by omega))
                  clear TA TN TL RT I
                  go_wp2
                  go_ret
                  exact ⟨ret_int (by rw [← RE.out, TZ.out]), kw⟩

end Go.Proofs.Ytlloiccodjnkcag

namespace Go.Proofs.Ytlloiccodjnkcag
open Go.ChangeShapes Go.WideShapes Go.ChangeAt Go.RowKit Go.Lib
set_option linter.unusedVariables false

theorem rstand_any (G : Gr) (b : Option Addr) (xs : List Int) (cb : Nat) (w : World) (h : RdG w G) (hr : Rd w b xs) :
    Calls Try.prog 14 #[G.v, .slice b xs.length cb] w fun e w' => e = .returned (.int .i64 (M.standF G.m xs)) ∧ Below w.heap.size w w' := by
  have C1 := hide (fun W (hW : Below w.heap.size w W) => rgrove_any G W (h.below hW))
  have C2 := hide (fun W (hW : Below w.heap.size w W) => rrow_any b xs cb W (hr.below hW))
  have hm2 : xs.length ≤ 9223372036854775807 := hr.1
  have B0 : Hid (∀ o, Below w.heap.size w (w.alloc o)) := fun o => (Below.refl _ w).alloc (Nat.le_refl _) o
  have gfe : M.gf G.m = G.f := rfl
  unfold Gr.v at C1 ⊢
  clear h hr
  by_cases h1 : M.groveF G.m = 0
  · by_cases h2 : M.rowF xs = 0
    · by_cases h3 : (xs.length : Int) = G.f
      · have E : Hid (M.standF G.m xs = 0) := by unfold Hid M.standF; rw [if_neg (by simp [h1]), if_neg (by simp [h2]), if_neg (by rw [gfe]; simp [h3])]
        have q : ((xs.length : Int) != G.f) = false := by rw [bne_eq_false_iff_eq]; exact h3
        rw [E.out]
        rw [h1] at C1
        rw [h2] at C2
        clear h1 h2 h3 E gfe
        go_enter Try.func14, Try.ntmps14
        go_wp2_with (first
          | (go_at_call 12; refine (C1.out _ (B0.out _)).mono ?_; rintro e w1 ⟨rfl, hb1⟩; have k1 := below_on (B0.out _) hb1; have z0 := (kept_grove hb1).1)
          | (go_at_call 34; refine (C2.out _ k1).mono ?_; rintro e w2 ⟨rfl, e2⟩; subst w2))
        go_ret
        exact ⟨rfl, k1⟩
      · have E : Hid (M.standF G.m xs = 3) := by unfold Hid M.standF; rw [if_neg (by simp [h1]), if_neg (by simp [h2]), if_pos (by rw [gfe]; exact h3)]
        have q : ((xs.length : Int) != G.f) = true := by rw [bne_iff_ne]; exact h3
        rw [E.out]
        rw [h1] at C1
        rw [h2] at C2
        clear h1 h2 h3 E gfe
        go_enter Try.func14, Try.ntmps14
        go_wp2_with (first
          | (go_at_call 12; refine (C1.out _ (B0.out _)).mono ?_; rintro e w1 ⟨rfl, hb1⟩; have k1 := below_on (B0.out _) hb1; have z0 := (kept_grove hb1).1)
          | (go_at_call 34; refine (C2.out _ k1).mono ?_; rintro e w2 ⟨rfl, e2⟩; subst w2))
        go_ret
        exact ⟨rfl, k1⟩
    · have E : Hid (M.standF G.m xs = M.rowF xs) := by unfold Hid M.standF; rw [if_neg (by simp [h1]), if_pos h2]
      have q : (M.rowF xs == 0) = false := by rw [beq_eq_false_iff_ne]; exact h2
      rw [E.out]
      rw [h1] at C1
      clear h1 h2 E gfe
      generalize M.rowF xs = rf at *
      go_enter Try.func14, Try.ntmps14
      go_wp2_with (first
        | (go_at_call 12; refine (C1.out _ (B0.out _)).mono ?_; rintro e w1 ⟨rfl, hb1⟩; have k1 := below_on (B0.out _) hb1; have z0 := (kept_grove hb1).1)
        | (go_at_call 34; refine (C2.out _ k1).mono ?_; rintro e w2 ⟨rfl, e2⟩; subst w2))
      go_ret
      exact ⟨rfl, k1⟩
  · have E : Hid (M.standF G.m xs = M.groveF G.m) := by unfold Hid M.standF; rw [if_pos h1]
    have q : (M.groveF G.m == 0) = false := by rw [beq_eq_false_iff_ne]; exact h1
    rw [E.out]
    clear h1 E gfe
    generalize M.groveF G.m = gF at *
    go_enter Try.func14, Try.ntmps14
    go_wp2_with (go_at_call 12; refine (C1.out _ (B0.out _)).mono ?_; rintro e w1 ⟨rfl, hb1⟩; have k1 := below_on (B0.out _) hb1; have z0 := (kept_grove hb1).1)
    go_ret
    exact ⟨rfl, k1⟩

end Go.Proofs.Ytlloiccodjnkcag
