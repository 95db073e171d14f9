/-
  What package flat's Grove answers: the grove that was laid, each tree level by level.
-/
import Derived.Test.YtandimbpealcladDoorFlatG
import Derived.Test.YtandimbpealcladDoorFlatE
import Derived.Deep.RegionHeld3
namespace Go.Proofs.YtandimbpealcladDoor
open Go.ChangeShapes Go.WideShapes Go.ChangeAt Go.RowKit Go.Lib
set_option linter.unusedVariables false

abbrev nilG : Obj := .cells #[.int .i64 0, .int .i64 0, .slice none 0 0, .slice none 0 0] 25
/-- a block of nothing -/
structure Zf (V : World) (p : Nat) : Prop where
  c0 : V.cell? ⟨p, 0, none⟩ = some (.int .i64 0)
  c1 : V.cell? ⟨p, 1, none⟩ = some (.int .i64 0)
  c2 : V.cell? ⟨p, 2, none⟩ = some (.slice none 0 0)
  c3 : V.cell? ⟨p, 3, none⟩ = some (.slice none 0 0)
  fr : ∀ j, V.frozen? ⟨p, j, none⟩ = false
  sz : p < V.heap.size
theorem zf_made (W : World) : Zf (W.alloc nilG) W.heap.size :=
  ⟨World.cell?_alloc_at _ _ _ 0 rfl, World.cell?_alloc_at _ _ _ 1 rfl, World.cell?_alloc_at _ _ _ 2 rfl, World.cell?_alloc_at _ _ _ 3 rfl, fun j => by
    unfold World.frozen?
    rw [heap_alloc_new W _]
    simp, by simp⟩
theorem Zf.same {V V' : World} {p : Nat} (h : Zf V p) (hs : V'.heap[p]? = V.heap[p]?) (hz : V.heap.size ≤ V'.heap.size) : Zf V' p :=
  ⟨(World.cell?_of_block (a := ⟨p, 0, none⟩) hs).trans h.c0, (World.cell?_of_block (a := ⟨p, 1, none⟩) hs).trans h.c1, (World.cell?_of_block (a := ⟨p, 2, none⟩) hs).trans h.c2, (World.cell?_of_block (a := ⟨p, 3, none⟩) hs).trans h.c3, fun j => (World.frozen?_of_block (a := ⟨p, j, none⟩) hs).trans (h.fr j), Nat.lt_of_lt_of_le h.sz hz⟩
theorem Zf.up {V V' : World} {p : Nat} (h : Zf V p) (hb : Below V.heap.size V V') : Zf V' p := h.same (hb.block p h.sz) hb.size
abbrev put4 (W : World) (p : Nat) (x0 x1 x2 x3 : Value) : World := (((W.setCell ⟨p, 0, none⟩ x0).setCell ⟨p, 1, none⟩ x1).setCell ⟨p, 2, none⟩ x2).setCell ⟨p, 3, none⟩ x3
theorem put4_far {W : World} {p q : Nat} {x0 x1 x2 x3 : Value} (h : q ≠ p) : (put4 W p x0 x1 x2 x3).heap[q]? = W.heap[q]? := by
  unfold put4
  rw [Below.heap_setCell _ _ _ _ h, Below.heap_setCell _ _ _ _ h, Below.heap_setCell _ _ _ _ h, Below.heap_setCell _ _ _ _ h]
theorem put4_size {W : World} {p : Nat} {x0 x1 x2 x3 : Value} : (put4 W p x0 x1 x2 x3).heap.size = W.heap.size := by simp
theorem put4_below {B : Nat} {w W : World} {p : Nat} {x0 x1 x2 x3 : Value} (h : Below B w W) (hp : B ≤ p) : Below B w (put4 W p x0 x1 x2 x3) :=
  (((h.setCell (p := ⟨p, 0, none⟩) hp _).setCell (p := ⟨p, 1, none⟩) hp _).setCell (p := ⟨p, 2, none⟩) hp _).setCell (p := ⟨p, 3, none⟩) hp _
theorem put4_cells {W : World} {p : Nat} {x0 x1 x2 x3 : Value} (z : Zf W p) :
    (put4 W p x0 x1 x2 x3).cell? ⟨p, 0, none⟩ = some x0 ∧ (put4 W p x0 x1 x2 x3).cell? ⟨p, 1, none⟩ = some x1 ∧ (put4 W p x0 x1 x2 x3).cell? ⟨p, 2, none⟩ = some x2 ∧ (put4 W p x0 x1 x2 x3).cell? ⟨p, 3, none⟩ = some x3 ∧ ∀ j, (put4 W p x0 x1 x2 x3).frozen? ⟨p, j, none⟩ = false := by
  have o : ∀ (V : World) (i j : Nat) (v : Value), i ≠ j → (V.setCell ⟨p, i, none⟩ v).cell? ⟨p, j, none⟩ = V.cell? ⟨p, j, none⟩ := fun V i j v hij => World.cell?_setCell_other _ _ _ _ (by intro e; cases e; exact hij rfl)
  have s : ∀ (V : World) (j : Nat) (v u : Value), V.cell? ⟨p, j, none⟩ = some u → (V.setCell ⟨p, j, none⟩ v).cell? ⟨p, j, none⟩ = some v := fun V j v u hu => World.cell?_setCell_same (u := u) _ _ _ hu
  refine ⟨?_, ?_, ?_, ?_, fun j => ?_⟩
  · rw [o _ _ _ _ (by decide), o _ _ _ _ (by decide), o _ _ _ _ (by decide), s _ _ _ _ z.c0]
  · rw [o _ _ _ _ (by decide), o _ _ _ _ (by decide), s _ _ _ (.int .i64 0) (by rw [o _ _ _ _ (by decide)]; exact z.c1)]
  · rw [o _ _ _ _ (by decide), s _ _ _ (.slice none 0 0) (by rw [o _ _ _ _ (by decide), o _ _ _ _ (by decide)]; exact z.c2)]
  · rw [s _ _ _ (.slice none 0 0) (by rw [o _ _ _ _ (by decide), o _ _ _ _ (by decide), o _ _ _ _ (by decide)]; exact z.c3)]
  · have := z.fr j
    simpa using this

theorem set4f {W : World} {p : Nat} {x0 x1 x2 x3 y0 y1 y2 y3 : Value} (h0 : W.cell? ⟨p, 0, none⟩ = some y0) (h1 : W.cell? ⟨p, 1, none⟩ = some y1) (h2 : W.cell? ⟨p, 2, none⟩ = some y2) (h3 : W.cell? ⟨p, 3, none⟩ = some y3) :
    (W.setCell ⟨p, 0, none⟩ x0).cell? ⟨p, 0, none⟩ = some x0 ∧ ((W.setCell ⟨p, 0, none⟩ x0).setCell ⟨p, 1, none⟩ x1).cell? ⟨p, 1, none⟩ = some x1 ∧
    (((W.setCell ⟨p, 0, none⟩ x0).setCell ⟨p, 1, none⟩ x1).setCell ⟨p, 2, none⟩ x2).cell? ⟨p, 2, none⟩ = some x2 ∧
    ((((W.setCell ⟨p, 0, none⟩ x0).setCell ⟨p, 1, none⟩ x1).setCell ⟨p, 2, none⟩ x2).setCell ⟨p, 3, none⟩ x3).cell? ⟨p, 3, none⟩ = some x3 := by
  have o : ∀ (V : World) (i j : Nat) (v : Value), i ≠ j → (V.setCell ⟨p, i, none⟩ v).cell? ⟨p, j, none⟩ = V.cell? ⟨p, j, none⟩ := fun V i j v hij => World.cell?_setCell_other _ _ _ _ (by intro e; cases e; exact hij rfl)
  refine ⟨World.cell?_setCell_same _ _ _ h0, World.cell?_setCell_same (u := y1) _ _ _ ?_, World.cell?_setCell_same (u := y2) _ _ _ ?_, World.cell?_setCell_same (u := y3) _ _ _ ?_⟩
  · rw [o _ _ _ _ (by decide)]; exact h1
  · rw [o _ _ _ _ (by decide), o _ _ _ _ (by decide)]; exact h2
  · rw [o _ _ _ _ (by decide), o _ _ _ _ (by decide), o _ _ _ _ (by decide)]; exact h3
theorem rdn_keep {W W' : World} {a : Option Addr} {ts : List M.Nd} (h : RdN W a ts) (hs : ∀ p, a = some p → W'.heap[p.block]? = W.heap[p.block]?) (hz : W.heap.size ≤ W'.heap.size) : RdN W' a ts :=
  ⟨h.1, fun hn => by
    obtain ⟨b, off, e, hl, hc⟩ := h.2 hn
    have hb : W'.heap[b]? = W.heap[b]? := hs _ e
    refine ⟨b, off, e, Nat.lt_of_lt_of_le hl hz, fun i hi => ?_⟩
    obtain ⟨h0, h1, h2, h3, h4, h5⟩ := hc i hi
    exact ⟨(World.cell?_of_block (a := ⟨b, _, none⟩) hb).trans h0, (World.cell?_of_block (a := ⟨b, _, none⟩) hb).trans h1, (World.cell?_of_block (a := ⟨b, _, none⟩) hb).trans h2, (World.cell?_of_block (a := ⟨b, _, none⟩) hb).trans h3, (World.cell?_of_block (a := ⟨b, _, none⟩) hb).trans h4, (World.cell?_of_block (a := ⟨b, _, none⟩) hb).trans h5⟩⟩
theorem rd_keep {W W' : World} {a : Option Addr} {xs : List Int} (h : Rd W a xs) (hs : ∀ p, a = some p → W'.heap[p.block]? = W.heap[p.block]?) (hz : W.heap.size ≤ W'.heap.size) : Rd W' a xs :=
  ⟨h.1, fun hn => by
    obtain ⟨b, off, e, hl, hc⟩ := h.2 hn
    have hb : W'.heap[b]? = W.heap[b]? := hs _ e
    exact ⟨b, off, e, Nat.lt_of_lt_of_le hl hz, fun i hi => (World.cell?_of_block (a := ⟨b, _, none⟩) hb).trans (hc i hi)⟩⟩
theorem grown_of {a b : World} (h : Below a.heap.size a b) (r : Option Nat) : a.grownBy b r := ⟨h.os, h.tape, h.output, h.size, fun k hk _ => h.block k hk⟩

/-- a grove while it is laid: its block, and its first trees -/
structure Gw (wx wr : World) (gb : Nat) (f wy : Int) (wv : Value) (C : List Tc) (x : Value) : Prop where
  gr : wx.grownBy wr (some gb)
  c0 : wr.cell? ⟨gb, 0, none⟩ = some (.int .i64 f)
  c1 : wr.cell? ⟨gb, 1, none⟩ = some (.int .i64 wy)
  c2 : wr.cell? ⟨gb, 2, none⟩ = some wv
  c3 : wr.cell? ⟨gb, 3, none⟩ = some x
  fr : ∀ j, wr.frozen? ⟨gb, j, none⟩ = false
  lt : gb < wx.heap.size
  ox : wr.ownsRow wx.heap.size 29 1 x C.length (C.map tV)
  rd : ∀ c ∈ C, RdN wr c.1 c.2.1
  ap : ∀ c ∈ C, ∀ p, c.1 = some p → wx.heap.size ≤ p.block ∧ p.block < wr.heap.size ∧ x.ownBlock ≠ some p.block
theorem Gw.up {wx wr W : World} {gb : Nat} {f wy : Int} {wv : Value} {C : List Tc} {x : Value} (h : Gw wx wr gb f wy wv C x) (hb : Below wr.heap.size wr W) : Gw wx W gb f wy wv C x := by
  have hl : gb < wr.heap.size := Nat.lt_of_lt_of_le h.lt h.gr.size
  exact ⟨grown_trans h.gr (grown_of hb none) (.inr (fun q hq => by cases hq)), (hb.cell (p := ⟨gb, 0, none⟩) hl).trans h.c0, (hb.cell (p := ⟨gb, 1, none⟩) hl).trans h.c1, (hb.cell (p := ⟨gb, 2, none⟩) hl).trans h.c2, (hb.cell (p := ⟨gb, 3, none⟩) hl).trans h.c3, fun j => (hb.frozen (p := ⟨gb, j, none⟩) hl).trans (h.fr j), h.lt, own_up h.ox hb, fun c hc => (h.rd c hc).below hb, fun c hc p hp => ⟨(h.ap c hc p hp).1, Nat.lt_of_lt_of_le (h.ap c hc p hp).2.1 hb.size, (h.ap c hc p hp).2.2⟩⟩
/-- one more tree: what was made of it lies apart -/
theorem Gw.more {wx w0 wr w6 : World} {gb : Nat} {f wy : Int} {wv : Value} {C : List Tc} {x : Value} (h : Gw wx wr gb f wy wv C x) (hx : ∀ q, x.ownBlock = some q → q < w0.heap.size) (h0 : wx.heap.size ≤ w0.heap.size) (hw : w0.heap.size ≤ wr.heap.size) {a : Option Addr} {ts : List M.Nd} {cp g2 c2 : Nat} {o : Obj} (hne : ts ≠ []) (hr : RdN wr a ts) (ha : ∀ p, a = some p → w0.heap.size ≤ p.block)
    (hg : (wr.alloc o).grownBy w6 x.ownBlock) (ho : w6.ownsRow wx.heap.size 29 1 (.slice (some ⟨g2, 0, none⟩) (C.length + 1) c2) (C.length + 1) (C.map tV ++ [.slice a ts.length cp])) (hor : x.ownBlock = some g2 ∨ g2 = wr.heap.size + 1) :
    Gw wx (w6.setCell ⟨gb, 3, none⟩ (.slice (some ⟨g2, 0, none⟩) (C.length + 1) c2)) gb f wy wv (C ++ [(a, ts, cp)]) (.slice (some ⟨g2, 0, none⟩) (C.length + 1) c2) := by
  have hl := h.lt
  have hs := h.gr.size
  have gz : wr.heap.size + 1 ≤ w6.heap.size := by have := hg.size; simpa using this
  have xb : ∀ q, x.ownBlock = some q → wx.heap.size ≤ q := fun q hq => (h.ox.lt q hq).1
  have blk : ∀ q, q < wr.heap.size → q ≠ gb → x.ownBlock ≠ some q → (w6.setCell ⟨gb, 3, none⟩ (.slice (some ⟨g2, 0, none⟩) (C.length + 1) c2)).heap[q]? = wr.heap[q]? := fun q q1 q2 q3 => (Below.heap_setCell _ _ _ _ q2).trans ((hg.block q (by simp; omega) (fun e => q3 e.symm)).trans (Below.heap_alloc _ _ _ q1))
  have gf : w6.heap[gb]? = wr.heap[gb]? := (hg.block gb (by simp; omega) (fun e => by have := xb gb e.symm; omega)).trans (Below.heap_alloc _ _ _ (by omega))
  have cf : ∀ j, w6.cell? ⟨gb, j, none⟩ = wr.cell? ⟨gb, j, none⟩ := fun j => World.cell?_of_block (a := ⟨gb, j, none⟩) gf
  have so : ∀ (j : Nat), 3 ≠ j → (w6.setCell ⟨gb, 3, none⟩ (.slice (some ⟨g2, 0, none⟩) (C.length + 1) c2)).cell? ⟨gb, j, none⟩ = w6.cell? ⟨gb, j, none⟩ := fun j hj => World.cell?_setCell_other _ _ _ _ (by intro e; cases e; exact hj rfl)
  have sz : (w6.setCell ⟨gb, 3, none⟩ (.slice (some ⟨g2, 0, none⟩) (C.length + 1) c2)).heap.size = w6.heap.size := by simp
  have nb : ∀ p, a = some p → wx.heap.size ≤ p.block ∧ p.block < wr.heap.size ∧ x.ownBlock ≠ some p.block ∧ p.block ≠ g2 := fun p hp => by
    obtain ⟨b, off, e, hl2, _⟩ := hr.2 hne
    have q0 := ha p hp
    rw [hp] at e
    cases e
    have q0' : w0.heap.size ≤ b := q0
    refine ⟨show wx.heap.size ≤ b by omega, hl2, fun e => by have := hx _ e; simp at this; omega, fun e => ?_⟩
    have e' : b = g2 := e
    rcases hor with q | q
    · have := hx _ q; omega
    · omega
  refine ⟨?_, ?_, ?_, ?_, ?_, ?_, hl, ?_, ?_, ?_⟩
  · exact grown_trans (grown_trans (grown_trans h.gr (World.grownBy_alloc wr o none) (.inr (fun q hq => by cases hq))) hg (.inr (fun q hq => xb q hq))) grown_set (.inl rfl)
  · rw [so 0 (by decide), cf]; exact h.c0
  · rw [so 1 (by decide), cf]; exact h.c1
  · rw [so 2 (by decide), cf]; exact h.c2
  · exact World.cell?_setCell_same (u := x) _ _ _ ((cf 3).trans h.c3)
  · intro j
    have : w6.frozen? ⟨gb, j, none⟩ = false := (World.frozen?_of_block (a := ⟨gb, j, none⟩) gf).trans (h.fr j)
    simpa using this
  · have := ownsRow_setCell_below ho (a := ⟨gb, 3, none⟩) hl (.slice (some ⟨g2, 0, none⟩) (C.length + 1) c2)
    rw [List.map_append, List.length_append]
    exact this
  · intro c hc
    rcases List.mem_append.1 hc with q | q
    · exact rdn_keep (h.rd c q) (fun p hp => blk _ (h.ap c q p hp).2.1 (by have := (h.ap c q p hp).1; omega) (h.ap c q p hp).2.2) (by rw [sz]; omega)
    · have e : c = (a, ts, cp) := by simpa using q
      subst e
      exact rdn_keep hr (fun p hp => blk _ (nb p hp).2.1 (by have := (nb p hp).1; omega) (nb p hp).2.2.1) (by rw [sz]; omega)
  · intro c hc p hp
    rw [sz]
    have ow : Value.ownBlock (.slice (some ⟨g2, 0, none⟩) (C.length + 1) c2) = some g2 := rfl
    rw [ow]
    rcases List.mem_append.1 hc with q | q
    · obtain ⟨q1, q2, q3⟩ := h.ap c q p hp
      refine ⟨q1, by omega, fun e => ?_⟩
      cases e
      rcases hor with r | r
      · exact q3 r
      · omega
    · have e : c = (a, ts, cp) := by simpa using q
      subst e
      obtain ⟨q1, q2, q3, q4⟩ := nb p hp
      exact ⟨q1, by omega, fun e => q4 (by cases e; rfl)⟩

/-- the first part of the work: the grove's block with all but its trees -/
structure Gs (w wx : World) (gb : Nat) (f wy : Int) (ws : List Int) (wa : Option Addr) (wc : Nat) : Prop where
  gw : Gw wx wx gb f wy (.slice wa ws.length wc) [] (.slice none 0 0)
  rw : Rd wx wa ws
  ne : ∀ p, wa = some p → p.block ≠ gb ∧ p.block ≠ w.heap.size
  gn : w.heap.size < gb
  z : Zf wx w.heap.size
  b : Below w.heap.size w wx
theorem gs_a {w w3 : World} {f wy : Int} {ws : List Int} {wa : Option Addr} {wc : Nat} (h0 : 0 < ws.length) (hb : Below ((w.alloc nilG).alloc nilG).drew.heap.size ((w.alloc nilG).alloc nilG).drew w3) (hr : Rd w3 wa ws) (ha : ∀ p, wa = some p → ((w.alloc nilG).alloc nilG).drew.heap.size ≤ p.block) :
    Zf w3 (w.heap.size + 1) ∧ Gs w (put4 w3 (w.heap.size + 1) (.int .i64 f) (.int .i64 wy) (.slice wa ws.length wc) (.slice none 0 0)) (w.heap.size + 1) f wy ws wa wc := by
  have e1 : (w.alloc nilG).heap.size = w.heap.size + 1 := by simp
  have e2 : ((w.alloc nilG).alloc nilG).drew.heap.size = w.heap.size + 1 + 1 := by
    show ((w.alloc nilG).alloc nilG).heap.size = _
    simp
  have z1 : Zf w3 (w.heap.size + 1) := by
    have := ((zf_made (w.alloc nilG)).up (Below.refl _ _).drew).up hb
    rw [e1] at this
    exact this
  have z0 : Zf w3 w.heap.size := ((zf_made w).up (((Below.refl _ _).alloc (Nat.le_refl _) _).drew)).up hb
  have b0 : Below w.heap.size w w3 := below_on ((((Below.refl _ w).alloc (Nat.le_refl _) _).alloc (by simp) _).drew) hb
  have s3 := hb.size
  rw [e2] at s3
  have fresh : ∀ p, wa = some p → p.block ≠ w.heap.size + 1 ∧ p.block ≠ w.heap.size := fun p hp => by
    have := ha p hp
    rw [e2] at this
    omega
  obtain ⟨p0, p1, p2, p3, pf⟩ := put4_cells (x0 := .int .i64 f) (x1 := .int .i64 wy) (x2 := .slice wa ws.length wc) (x3 := .slice none 0 0) z1
  refine ⟨z1, ⟨⟨World.grownBy.refl _ _, p0, p1, p2, p3, pf, by rw [put4_size]; omega, World.ownsRow_nil _ _ _ _, (fun c hc => by cases hc), (fun c hc => by cases hc)⟩, rd_keep hr (fun p hp => put4_far (fresh p hp).1) (by rw [put4_size]; exact Nat.le_refl _), fresh, by omega, z0.same (put4_far (by omega)) (by rw [put4_size]; exact Nat.le_refl _), put4_below b0 (by omega)⟩⟩
theorem gs_b {w w3 : World} {f wy : Int} {ws : List Int} {wa : Option Addr} {wc : Nat} (h0 : 0 < ws.length) (hb : Below (w.alloc nilG).drew.heap.size (w.alloc nilG).drew w3) (hr : Rd w3 wa ws) (ha : ∀ p, wa = some p → (w.alloc nilG).drew.heap.size ≤ p.block) :
    Gs w (w3.alloc (.cells #[.int .i64 f, .int .i64 wy, .slice wa ws.length wc, .slice none 0 0] 25)) w3.heap.size f wy ws wa wc := by
  have e1 : (w.alloc nilG).drew.heap.size = w.heap.size + 1 := by
    show (w.alloc nilG).heap.size = _
    simp
  have z0 : Zf w3 w.heap.size := ((zf_made w).up ((Below.refl _ _).drew)).up hb
  have b0 : Below w.heap.size w w3 := below_on (((Below.refl _ w).alloc (Nat.le_refl _) _).drew) hb
  have s3 := hb.size
  rw [e1] at s3
  have ba : Below w3.heap.size w3 (w3.alloc (.cells #[.int .i64 f, .int .i64 wy, .slice wa ws.length wc, .slice none 0 0] 25)) := (Below.refl _ _).alloc (Nat.le_refl _) _
  refine ⟨⟨World.grownBy.refl _ _, World.cell?_alloc_at _ _ _ 0 rfl, World.cell?_alloc_at _ _ _ 1 rfl, World.cell?_alloc_at _ _ _ 2 rfl, World.cell?_alloc_at _ _ _ 3 rfl, fun j => ?_, by simp, World.ownsRow_nil _ _ _ _, (fun c hc => by cases hc), (fun c hc => by cases hc)⟩, hr.below ba, fun p hp => ?_, by omega, z0.up ba, below_on b0 ba⟩
  · unfold World.frozen?
    rw [heap_alloc_new w3 _]
    simp
  · obtain ⟨b, off, e, hl, _⟩ := hr.2 (by intro e; rw [e] at h0; simp at h0)
    have q := ha p hp
    rw [e1] at q
    rw [hp] at e
    cases e
    have q' : w.heap.size + 1 ≤ b := q
    exact ⟨Nat.ne_of_lt hl, show b ≠ w.heap.size by omega⟩

/-- the grove, as it is handed back -/
theorem gw_done {w wx wr : World} {gb : Nat} {f wy : Int} {ws : List Int} {wa : Option Addr} {wc : Nat} {C : List Tc} {x : Value} (s : Gs w wx gb f wy ws wa wc) (h : Gw wx wr gb f wy (.slice wa ws.length wc) C x) (h0 : 0 < C.length) (h12 : C.length ≤ 12) (hw0 : 0 < ws.length) (y0 y1 y2 y3 : Value) :
    ∃ g c, x = .slice (some ⟨g, 0, none⟩) C.length c ∧ Zf wr w.heap.size ∧ RdG (put4 wr w.heap.size y0 y1 y2 y3) ⟨f, wy, wa, ws, wc, some ⟨g, 0, none⟩, C, c⟩ ∧ Below w.heap.size w (put4 wr w.heap.size y0 y1 y2 y3) := by
  have gs := h.gr.size
  have rz := s.z.sz
  obtain ⟨g, c, e, hg1, hg2⟩ := h.ox.form h0
  subst e
  have far : ∀ q, q ≠ w.heap.size → (put4 wr w.heap.size y0 y1 y2 y3).heap[q]? = wr.heap[q]? := fun q hq => put4_far hq
  refine ⟨g, c, rfl, s.z.same (h.gr.block _ rz (fun e => by have := s.gn; cases e; omega)) gs, ⟨rd_keep s.rw (fun p hp => ?_) (by rw [put4_size]; exact gs), ?_, ?_, fun _ => ⟨g, 0, rfl, by rw [put4_size]; exact hg2, fun i hi => ?_⟩⟩, put4_below (s.b.grown h.gr s.b.size (fun k hk => by cases hk; have := s.gn; omega)) (Nat.le_refl _)⟩
  · obtain ⟨n1, n2⟩ := s.ne p hp
    have hp' : wa = some p := hp
    obtain ⟨b, off, e, hl, _⟩ := s.rw.2 (by intro e; rw [e] at hw0; simp at hw0)
    rw [hp'] at e
    cases e
    exact (far _ n2).trans (h.gr.block _ hl (fun e => n1 (by cases e; rfl)))
  · show C.length ≤ maxLen
    unfold maxLen; omega
  · intro c' hc
    have hc' : c' ∈ C := hc
    exact rdn_keep (h.rd c' hc') (fun p hp => far _ (by have := (h.ap c' hc' p hp).1; omega)) (by rw [put4_size]; exact Nat.le_refl _)
  · have hi' : i < C.length := hi
    rw [Nat.zero_add]
    refine (World.cell?_of_block (a := ⟨g, i, none⟩) (far g (by omega))).trans ((h.ox.cellAt i (by omega)).trans ?_)
    rw [List.getElem?_map, List.getElem?_eq_getElem hi']
    rfl

theorem grown_undrew2 {a b : World} {r : Option Nat} (h : a.drew.grownBy b r) : a.grownBy b r := ⟨h.os, h.tape, h.output, h.size, h.block⟩
theorem infoL : (Tryd.prog.info? 29).map (fun i => (i.zero, i.size, i.bytes)) = some (some (.slice none 0 0), 1, 24) := by kernel_rfl
set_option maxHeartbeats 16000000 in
set_option maxRecDepth 10000 in
theorem fgrove_any (p : Nat) (g : M.Gv) (w : World) (hfo : FO w p g) (hg : M.groveF g = 0) :
    Calls Tryd.prog 15 #[.pointer (some ⟨p, 0, none⟩)] w fun e w' => ∃ J : Gr, e = .returned J.v ∧ J.m = (M.gf g, M.gw g, M.gs g, (M.gt g).map M.levels) ∧ RdG w' J ∧ Below w.heap.size w w' := by
  obtain ⟨P, h⟩ := hfo
  have K := (M.good_iff g).1 hg
  have n0 := K.t0
  have n12 := K.t12
  have wl := K.len
  have w0 : 0 < (M.gs g).length := by omega
  have hN := M.allN_le K
  obtain ⟨bw, ow, ewa, hbw, hcw⟩ := h.rw.2 (by intro e; rw [e] at w0; simp at w0)
  have CC := hide (fun W (hW : Below w.heap.size w W) => clone_ints bw ow P.wc (M.gs g) W (fun i hi => (hW.cell (p := ⟨bw, ow + i, none⟩) hbw).trans (hcw i hi)) (by omega) (Nat.lt_of_lt_of_le hbw hW.size))
  have KC : Hid (∀ W, Below w.heap.size w W → W.cell? ⟨p, 0, none⟩ = some (.int .i64 (M.gf g)) ∧ W.cell? ⟨p, 1, none⟩ = some (.int .i64 (M.gw g)) ∧ W.cell? ⟨p, 2, none⟩ = some (.slice (some ⟨bw, ow, none⟩) (M.gs g).length P.wc) ∧ W.cell? ⟨p, 4, none⟩ = some (.slice P.ra (M.allR g).length P.rc)) := fun W hW => ⟨(h.below hW).c0, (h.below hW).c1, by rw [← ewa]; exact (h.below hW).c2, (h.below hW).c4⟩
  have NR : Hid ((M.allR g).length = (M.gt g).length) := M.allR_len g
  obtain ⟨br, or, er, hbr, hcr⟩ := h.rr.2 (by intro e; have := NR.out; rw [e] at this; simp at this; omega)
  have HCR : Hid (∀ W, Below w.heap.size w W → ∀ i, i < (M.gt g).length → W.cell? ⟨br, or + i, none⟩ = some (.int .i64 ((M.laidK (M.gt g) i).length : Nat))) := fun W hW i hi => by
    refine ((hW.cell (p := ⟨br, or + i, none⟩) hbr).trans (hcr i (by rw [NR.out]; exact hi))).trans ?_
    rw [show (M.allR g).getD i 0 = ((M.laidK (M.gt g) i).length : Int) from M.rootsK_at _ _ i hi]
  have nn : 0 < (M.allN g).length := by
    have := (M.laidK_at (T := M.gt g) (k := 0) (n := (M.gt g).length) (p := 0) n0 (M.tree_ok (M.tree_in K n0)).1.2.1).2
    unfold M.allN; omega
  obtain ⟨bn, on, en, hbn, hcn⟩ := h.rn.2 (by intro e; rw [e] at nn; simp at nn)
  have c3N : Hid (∀ W, Below w.heap.size w W → W.cell? ⟨p, 3, none⟩ = some (.slice (some ⟨bn, on, none⟩) (M.allN g).length P.nc)) := fun W hW => by rw [← en]; exact (h.below hW).c3
  have CE := hide (fun W (hW : Below w.heap.size w W) k (hk : k < (M.gt g).length) => fend_any p g P k W (h.below hW) hk n12)
  have CL : Hid (∀ W, Below w.heap.size w W → ∀ k, k < (M.gt g).length → ∀ c, Calls Tryd.prog 28 #[.slice (some ⟨bn, on + (M.laidK (M.gt g) k).length * 6, none⟩) (M.levels ((M.gt g).getD k [])).length c, .int .i64 ((M.laidK (M.gt g) k).length : Nat)] W fun e w' => ∃ a cap, e = .returned (.slice a (M.levels ((M.gt g).getD k [])).length cap) ∧ RdN w' a (M.levels ((M.gt g).getD k [])) ∧ (∀ p, a = some p → W.heap.size ≤ p.block) ∧ Below W.heap.size W w') := fun W hW k hk c => by
    have hz := M.tree_in K hk
    refine lift_in bn _ c _ (M.levels ((M.gt g).getD k [])) (M.gf g) W (fun i hi => ?_) (M.tree_ok (M.levels_tree hz)).1 (Nat.lt_of_lt_of_le hbn hW.size) ?_
    · rw [M.levels_len] at hi
      obtain ⟨l1, l2⟩ := M.laidK_at (T := M.gt g) (k := k) (n := (M.gt g).length) hk hi
      have := (hcn ((M.laidK (M.gt g) k).length + i) l2).below hW hbn
      rw [show M.nAt (M.allN g) ((M.laidK (M.gt g) k).length + i) = _ from l1] at this
      rw [Nat.add_assoc, ← Nat.add_mul]
      exact this
    · have := M.laidK_le (M.gt g) (show k ≤ (M.gt g).length by omega)
      have e3 : (M.allN g).length = (M.laidK (M.gt g) (M.gt g).length).length := rfl
      omega
  have LN : Hid (∀ k, k < (M.gt g).length → (M.laidK (M.gt g) (k + 1)).length = (M.laidK (M.gt g) k).length + (M.levels ((M.gt g).getD k [])).length ∧ (M.laidK (M.gt g) (k + 1)).length ≤ (M.allN g).length ∧ M.levels ((M.gt g).getD k []) ≠ []) := fun k hk => by
    refine ⟨by rw [M.levels_len]; exact M.laidK_len_step _ _, M.laidK_le (M.gt g) (by omega), fun e => ?_⟩
    have l2 := M.levels_len ((M.gt g).getD k [])
    have := (M.tree_ok (M.tree_in K hk)).1.2.1
    rw [e, List.length_nil] at l2
    omega
  have TK : Hid (∀ k (hk : k < (M.gt g).length), ((M.gt g).map M.levels).take (k + 1) = ((M.gt g).map M.levels).take k ++ [M.levels ((M.gt g).getD k [])]) := fun k hk => by
    rw [List.take_add_one, List.getElem?_map, List.getElem?_eq_getElem hk, M.getD_at hk]
    rfl
  have TA : Hid (((M.gt g).map M.levels).take (M.gt g).length = (M.gt g).map M.levels) := by
    unfold Hid; rw [List.take_of_length_le (by simp)]
  have ncap := h.ca
  have HP := hide h.lt
  have PN : Hid (∀ W, Below w.heap.size w W → ¬ W.heap.size = p) := fun W hW e => by have := HP.out; have := hW.size; omega
  rw [er, NR.out] at KC
  obtain ⟨i0, hi, hz0, hz1, hz2⟩ := info_parts infoL
  have I0 := hide hi
  have SA : Hid (∀ w3 wa wcc, Below ((w.alloc nilG).alloc nilG).drew.heap.size ((w.alloc nilG).alloc nilG).drew w3 → Rd w3 wa (M.gs g) → (∀ p, wa = some p → ((w.alloc nilG).alloc nilG).drew.heap.size ≤ p.block) → Zf w3 (w.heap.size + 1) ∧ Gs w (put4 w3 (w.heap.size + 1) (.int .i64 (M.gf g)) (.int .i64 (M.gw g)) (.slice wa (M.gs g).length wcc) (.slice none 0 0)) (w.heap.size + 1) (M.gf g) (M.gw g) (M.gs g) wa wcc) := fun w3 wa wcc h1 h2 h3 => gs_a w0 h1 h2 h3
  have SB : Hid (∀ w3 wa wcc, Below (w.alloc nilG).drew.heap.size (w.alloc nilG).drew w3 → Rd w3 wa (M.gs g) → (∀ p, wa = some p → (w.alloc nilG).drew.heap.size ≤ p.block) → Gs w (w3.alloc (.cells #[.int .i64 (M.gf g), .int .i64 (M.gw g), .slice wa (M.gs g).length wcc, .slice none 0 0] 25)) w3.heap.size (M.gf g) (M.gw g) (M.gs g) wa wcc) := fun w3 wa wcc h1 h2 h3 => gs_b w0 h1 h2 h3
  clear h hg K wl hbw hcw ewa hbr hcr er hbn hcn en hi NR
  generalize (M.gt g).map M.levels = GL at *
  generalize hGN : (M.gt g).length = GN at *
  have HGN := hide hGN
  clear hGN
  generalize (M.allN g).length = NN at *
  generalize (M.allR g).length = NRR at *
  generalize M.gf g = gf at *
  generalize M.gw g = gw at *
  generalize M.gs g = gs at *
  go_enter Tryd.func15, Tryd.ntmps15
  go_upto_region 1 with fail
  go_cut [3] from 6 to 19 (fun v wx => ∃ gb wa wcc, v = .pointer (some ⟨gb, 0, none⟩) ∧ Hid (Gs w wx gb gf gw gs wa wcc))
  case first =>
    have B1 : Hid (Below w.heap.size w (w.alloc nilG).drew) := ((Below.refl _ w).alloc (Nat.le_refl _) _).drew
    have B2 : Hid (Below w.heap.size w ((w.alloc nilG).alloc nilG).drew) := (((Below.refl _ w).alloc (Nat.le_refl _) _).alloc (by simp) _).drew
    obtain ⟨a0, a1, a2, a4⟩ := KC.out _ B1.out
    obtain ⟨b0, b1, b2, b4⟩ := KC.out _ B2.out
    obtain ⟨x0, x1, x2, x4⟩ := KC.out _ ((Below.refl _ w).alloc (Nat.le_refl _) nilG)
    obtain ⟨y0, y1, y2, y4⟩ := KC.out _ (((Below.refl _ w).alloc (Nat.le_refl _) nilG).alloc (by simp) nilG)
    have KD : Hid (∀ W, Below w.heap.size w W → (∀ o, (W.alloc o).cell? ⟨p, 0, none⟩ = some (.int .i64 gf)) ∧ (∀ o, (W.alloc o).cell? ⟨p, 1, none⟩ = some (.int .i64 gw)) ∧ (∀ o, (W.alloc o).cell? ⟨p, 2, none⟩ = some (.slice (some ⟨bw, ow, none⟩) gs.length P.wc))) := fun W hW => ⟨fun o => (KC.out _ (hW.alloc hW.size o)).1, fun o => (KC.out _ (hW.alloc hW.size o)).2.1, fun o => (KC.out _ (hW.alloc hW.size o)).2.2.1⟩
    clear CE CL LN TK TA HCR c3N
    have pn0 : ¬ w.heap.size = p := by have := HP.out; omega
    have pn1 : ¬ w.heap.size + 1 = p := by have := HP.out; omega
    go_region_held3 (fun W => W.cell? ⟨p, 0, none⟩ = some (.int .i64 gf) ∧ W.cell? ⟨p, 1, none⟩ = some (.int .i64 gw) ∧ W.cell? ⟨p, 2, none⟩ = some (.slice (some ⟨bw, ow, none⟩) gs.length P.wc)) (go_keep) (first
      | (go_at_call 17; refine (CC.out _ ?qw).mono ?_; (case qw => exact B2.out); rintro e w3 ⟨wa, wcc, rfl, hr3, ha3, hb3⟩; have HSA := SA.out w3 wa wcc hb3 hr3 ha3; have Z3 := HSA.1; have HG := hide HSA.2; clear HSA; have z0 := Z3.c0; have z1 := Z3.c1; have z2 := Z3.c2; have z3 := Z3.c3; have zf := Z3.fr; have dd := KC.out w3 (below_on B2.out hb3); have d0 := dd.1; have d1 := dd.2.1; have d2 := dd.2.2.1; have pn3 : ¬ w3.heap.size = p := PN.out w3 (below_on B2.out hb3); clear dd)
      | (go_at_call 17; refine (CC.out _ ?qw).mono ?_; (case qw => exact B1.out); rintro e w3 ⟨wa, wcc, rfl, hr3, ha3, hb3⟩; have HG := hide (SB.out w3 wa wcc hb3 hr3 ha3); have dd := KC.out w3 (below_on B1.out hb3); have d0 := dd.1; have d1 := dd.2.1; have d2 := dd.2.2.1; have pn3 : ¬ w3.heap.size = p := PN.out w3 (below_on B1.out hb3); clear dd))
    all_goals go_wp2
    all_goals go_meet
    all_goals (case rel => exact ⟨_, _, _, rfl, HG⟩)
  case rest =>
    obtain ⟨gb, wa, wcc, rfl, HG⟩ := hcut
    obtain ⟨wx, hwx⟩ : ∃ W, W = wc := ⟨_, rfl⟩
    subst hwx
    obtain ⟨f0, f1, f2, f4⟩ := KC.out wx HG.out.b
    have KB : Hid (∀ W, wx.grownBy W (some gb) → Below w.heap.size w W) := fun W hW => HG.out.b.grown hW HG.out.b.size (fun k hk => by cases hk; have := HG.out.gn; omega)
    clear CC SA SB
    go_wp2
    go_loopw [25] (fun i wr => ∃ (k : Nat) (x : Value) (C : List Tc), k ≤ GN ∧ i = .int .i64 k ∧ Hid (tl C = GL.take k ∧ C.length = k) ∧ Hid (Gw wx wr gb gf gw (.slice wa gs.length wcc) C x)) (fun i _ => GN - (intOf i).toNat)
    case atStart => exact ⟨0, .slice none 0 0, [], Nat.zero_le _, rfl, ⟨rfl, rfl⟩, HG.out.gw⟩
    case round =>
      clear f0 f1 f2 f4
      obtain ⟨k, x, C, hk, rfl, HC, GW⟩ := hrel
      by_cases hlt : k < GN
      · have kb := KB.out wr GW.out.gr
        have cr := HCR.out wr kb k hlt
        have kz : (k : Int) < (GN : Int) := by omega
        have x3 := GW.out.c3
        have n3 := c3N.out wr kb
        obtain ⟨l1, l2, l3⟩ := LN.out k hlt
        have tk := TK.out k hlt
        have CE1 := hide (fun W (hW : Below w.heap.size w W) => CE.out W hW k hlt)
        have CL1 := hide (fun W (hW : Below w.heap.size w W) c n (hn : n = (M.levels ((M.gt g).getD k [])).length) => show Calls Tryd.prog 28 #[.slice (some ⟨bn, on + (M.laidK (M.gt g) k).length * 6, none⟩) n c, .int .i64 ((M.laidK (M.gt g) k).length : Nat)] W fun e w' => ∃ a cap, e = .returned (.slice a (M.levels ((M.gt g).getD k [])).length cap) ∧ RdN w' a (M.levels ((M.gt g).getD k [])) ∧ (∀ p, a = some p → W.heap.size ≤ p.block) ∧ Below W.heap.size W w' from by rw [hn]; exact CL.out W hW k hlt c)
        generalize M.levels ((M.gt g).getD k []) = LV at *
        generalize (M.laidK (M.gt g) (k + 1)).length = E at *
        generalize (M.laidK (M.gt g) k).length = R at *
        have OX := hide GW.out.ox
        have LT := GW.out.lt
        have GZ := GW.out.gr.size
        have cl : C.length ≤ 12 := by have := HC.out.2; omega
        have e1 : (R : Int) ≤ (E : Int) := by omega
        have e2 : (E : Int) ≤ (P.nc : Int) := by omega
        have e3 : (E : Int) ≤ (NN : Int) := by omega
        have lvp : 0 < LV.length := List.length_pos_iff.2 l3
        have ncr : ¬ P.nc = R := by omega
        have LE := hide l1
        have BD : Hid (Below w.heap.size w wr.drew) := kb.drew
        have UP : Hid (∀ W, Below wr.drew.heap.size wr.drew W → Gw wx W gb gf gw (.slice wa gs.length wcc) C x) := fun W hW => GW.out.up (((Below.refl _ _).drew).trans hW)
        have XO : Hid (∀ W (o : Obj), Below wr.drew.heap.size wr.drew W → W.cell? ⟨gb, 3, none⟩ = some x ∧ (W.alloc o).cell? ⟨gb, 3, none⟩ = some x ∧ (W.alloc o).ownsRow wx.heap.size 29 1 x C.length (C.map tV) ∧ wx.heap.size ≤ (W.alloc o).heap.size) := fun W o hW => by
          have q := UP.out W hW
          have qa := q.up ((Below.refl _ W).alloc (Nat.le_refl _) o)
          exact ⟨q.c3, qa.c3, qa.ox, qa.gr.size⟩
        have N3 : Hid (∀ W, Below wr.drew.heap.size wr.drew W → W.cell? ⟨p, 3, none⟩ = some (.slice (some ⟨bn, on, none⟩) NN P.nc)) := fun W hW => c3N.out W (below_on kb (((Below.refl _ _).drew).trans hW))
        have PG : ¬ gb = p := by have := HP.out; have := HG.out.gn; omega
        have PZ : Hid (∀ W, Below wr.drew.heap.size wr.drew W → ¬ W.heap.size = p ∧ ¬ W.heap.size = gb) := fun W hW => by
          have := HP.out; have := HG.out.b.size; have q := hW.size; have q2 : wr.drew.heap.size = wr.heap.size := rfl
          exact ⟨by omega, by omega⟩
        have MO : Hid (∀ (w5 : World) (o : Obj) a cp g2 c2 w6, Below wr.drew.heap.size wr.drew w5 → RdN w5 a LV → (∀ p, a = some p → wr.drew.heap.size ≤ p.block) → (w5.alloc o).grownBy w6 x.ownBlock → w6.ownsRow wx.heap.size 29 1 (.slice (some ⟨g2, 0, none⟩) (C.length + 1) c2) (C.length + 1) (C.map tV ++ [.slice a LV.length cp]) → (x.ownBlock = some g2 ∨ g2 = w5.heap.size + 1) → (w6.cell? ⟨gb, 3, none⟩ = some x ∧ w6.frozen? ⟨gb, 3, none⟩ = false ∧ w6.cell? ⟨p, 3, none⟩ = some (.slice (some ⟨bn, on, none⟩) NN P.nc)) ∧ Hid (Gw wx (w6.setCell ⟨gb, 3, none⟩ (.slice (some ⟨g2, 0, none⟩) (C.length + 1) c2)) gb gf gw (.slice wa gs.length wcc) (C ++ [(a, LV, cp)]) (.slice (some ⟨g2, 0, none⟩) (C.length + 1) c2))) := fun w5 o a cp g2 c2 w6 hb hr ha hg ho hor => by
          have q := UP.out w5 hb
          have hg' := hg
          have gf' : w6.heap[gb]? = w5.heap[gb]? := (hg'.block gb (by have := q.gr.size; simp; omega) (fun e => by have := (q.ox.lt gb e.symm).1; omega)).trans (Below.heap_alloc _ _ _ (by have := q.gr.size; omega))
          have pl := HP.out
          have px := HG.out.b.size
          have qs := q.gr.size
          have pf' : w6.heap[p]? = w5.heap[p]? := (hg'.block p (by simp; omega) (fun e => by have := (q.ox.lt p e.symm).1; omega)).trans (Below.heap_alloc _ _ _ (by omega))
          refine ⟨⟨(World.cell?_of_block (a := ⟨gb, 3, none⟩) gf').trans q.c3, (World.frozen?_of_block (a := ⟨gb, 3, none⟩) gf').trans (q.fr 3), (World.cell?_of_block (a := ⟨p, 3, none⟩) pf').trans (N3.out w5 hb)⟩, ?_⟩
          exact q.more (w0 := wr) (fun z hz => (GW.out.ox.lt z hz).2) GZ hb.size l3 hr ha hg' ho hor
        have T1 : Hid (∀ a cp, tl (C ++ [(a, LV, cp)]) = GL.take (k + 1) ∧ (C ++ [(a, LV, cp)]).length = k + 1) := fun a cp => by
          rw [tk, ← HC.out.1]
          refine ⟨by simp [tl], by rw [List.length_append, HC.out.2]; rfl⟩
        clear CE CL HCR LN TK TA GW HC l1 l2 l3 tk KC c3N
        go_upto_region 5 with fail
        go_region_law (first
          | (go_simp; go_at_call 29; refine (CE1.out _ BD.out).mono ?_; rintro e w4 ⟨rfl, ew⟩; subst ew)
          | (go_simp; go_at_call 28; refine (CL1.out _ BD.out _ _ ?hn).mono ?_; (case hn => (have q := LE.out; clear LE; omega)); rintro e w5 ⟨ac, cap5, rfl, hr5, ha5, hb5⟩; have HR5 := hide hr5; have HA5 := hide ha5; have A5 := hide (XO.out w5 (.cells #[.slice ac LV.length cap5] 29) hb5); have c35 := A5.out.1; have c36 := A5.out.2.1; have n35 := N3.out w5 hb5; have pz1 := (PZ.out w5 hb5).1; have pz2 := (PZ.out w5 hb5).2)
          | (refine step_append_lies _ rfl (.tmp 31) (.tmp 43) 23 rfl wx.heap.size 29 i0 (.slice none 0 0) 1 24 Tryd.underlying23 I0.out hz0 hz1 hz2 rfl (by decide) x C.length (C.map tV) rfl A5.out.2.2.1 ⟨w5.heap.size, 0, none⟩ 1 1 [.slice ac LV.length cap5] rfl rfl (World.news_of_block (by first | exact heap_alloc_new _ _ | (simp; done))) (by intro u hu; simp at hu; subst hu; rfl) (by decide) (by unfold maxLen; omega) (by omega) A5.out.2.2.2 (w5.heap.size + 1) (by simp) ?_; intro g6 c6 w6 hown6 hgrow6 hor6 hlt6; have MM := MO.out w5 _ ac cap5 g6 c6 w6 hb5 HR5.out HA5.out hgrow6 hown6 hor6; have v3 := MM.1.1; have vf := MM.1.2.1; have vp := MM.1.2.2; have NG := MM.2; clear MM; clear hown6 hgrow6 hor6))
        all_goals (
          go_wp2
          go_roundw
          case rel => exact ⟨k + 1, _, C ++ [(ac, LV, cap5)], by omega, by go_num, T1.out ac cap5, NG⟩
          case measure => simp [intOf]; omega)
      · have hke : k = GN := by omega
        have hC : 0 < C.length := by have := HC.out.2; omega
        have hC12 : C.length ≤ 12 := by have := HC.out.2; omega
        obtain ⟨gx, cx, ex, Z, _, _⟩ := gw_done HG.out GW.out hC hC12 w0 .nilIface .nilIface .nilIface .nilIface
        subst ex
        have FIN : Hid (RdG (put4 wr w.heap.size (.int .i64 gf) (.int .i64 gw) (.slice wa gs.length wcc) (.slice (some ⟨gx, 0, none⟩) C.length cx)) ⟨gf, gw, wa, gs, wcc, some ⟨gx, 0, none⟩, C, cx⟩ ∧ Below w.heap.size w (put4 wr w.heap.size (.int .i64 gf) (.int .i64 gw) (.slice wa gs.length wcc) (.slice (some ⟨gx, 0, none⟩) C.length cx))) := by
          obtain ⟨g3, c3, e3, _, r1, r2⟩ := gw_done HG.out GW.out hC hC12 w0 (.int .i64 gf) (.int .i64 gw) (.slice wa gs.length wcc) (.slice (some ⟨gx, 0, none⟩) C.length cx)
          cases e3
          exact ⟨r1, r2⟩
        have EM : Hid (tl C = GL) := by unfold Hid; rw [HC.out.1, hke]; exact TA.out
        have y0 := GW.out.c0
        have y1 := GW.out.c1
        have y2 := GW.out.c2
        have y3 := GW.out.c3
        have z0 := Z.c0
        have z1 := Z.c1
        have z2 := Z.c2
        have z3 := Z.c3
        have zf := Z.fr
        obtain ⟨e0, e1, e2, e3⟩ := set4f (x0 := .int .i64 gf) (x1 := .int .i64 gw) (x2 := .slice wa gs.length wcc) (x3 := .slice (some ⟨gx, 0, none⟩) C.length cx) z0 z1 z2 z3
        have kz : ¬ ((k : Int) < (GN : Int)) := by omega
        clear HC GW CE CL HCR LN TK TA Z hke
        go_wp2
        (try simp only [Exit.inBlock, Exit.then])
        refine bodyPost_ret (v := .agg #[.int .i64 gf, .int .i64 gw, .slice wa gs.length wcc, .slice (some ⟨gx, 0, none⟩) C.length cx]) (by simp [results, Tryd.results15, go_sem, e0, e1, e2, e3]) rfl ?_
        refine ⟨⟨gf, gw, wa, gs, wcc, some ⟨gx, 0, none⟩, C, cx⟩, rfl, ?_, FIN.out.1, FIN.out.2⟩
        show (gf, gw, gs, tl C) = _
        rw [EM.out]

end Go.Proofs.YtandimbpealcladDoor
