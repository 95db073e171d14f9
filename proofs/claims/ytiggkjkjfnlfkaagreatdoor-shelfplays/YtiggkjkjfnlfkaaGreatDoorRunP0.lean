/-
  Several texts as one: GwLaid, GwDone, MathB, MathK, FlatO, FlatQ.
-/
import Derived.Test.YtiggkjkjfnlfkaaGreatDoorRunS15
import Derived.Test.YtiggkjkjfnlfkaaGreatDoorRunS11
import Derived.Deep.AppendLies
import Derived.Test.YtiggkjkjfnlfkaaGreatDoorRunS6
import Derived.Test.YtiggkjkjfnlfkaaGreatDoorRunS7
import Derived.Test.YtiggkjkjfnlfkaaGreatDoorRunS27
namespace Go.Proofs.YtiggkjkjfnlfkaaGreatDoor
open Go.ChangeShapes Go.WideShapes Go.ChangeAt Go.RowKit Go.Lib
set_option linter.unusedVariables false
theorem infoL : (Tryz.prog.info? 110).map (fun i => (i.zero, i.size, i.bytes)) = some (some (.slice none 0 0), 1, 24) := by kernel_rfl
theorem rdn_keep {W W' : World} {a : Option Addr} {ts : List M.Nd} (h : RdN W a ts) (hs : ∀ p, a = some p → W'.heap[p.block]? = W.heap[p.block]?) (hz : W.heap.size ≤ W'.heap.size) : RdN W' a ts :=
  ⟨h.1, fun hn => by
    obtain ⟨b, off, e, hl, hc⟩ := h.2 hn
    have hb : W'.heap[b]? = W.heap[b]? := hs _ e
    refine ⟨b, off, e, Nat.lt_of_lt_of_le hl hz, fun i hi => ?_⟩
    obtain ⟨h0, h1, h2, h3, h4, h5⟩ := hc i hi
    exact ⟨(World.cell?_of_block (a := ⟨b, _, none⟩) hb).trans h0, (World.cell?_of_block (a := ⟨b, _, none⟩) hb).trans h1, (World.cell?_of_block (a := ⟨b, _, none⟩) hb).trans h2, (World.cell?_of_block (a := ⟨b, _, none⟩) hb).trans h3, (World.cell?_of_block (a := ⟨b, _, none⟩) hb).trans h4, (World.cell?_of_block (a := ⟨b, _, none⟩) hb).trans h5⟩⟩
theorem rd_keep {W W' : World} {a : Option Addr} {xs : List Int} (h : Rd W a xs) (hs : ∀ p, a = some p → W'.heap[p.block]? = W.heap[p.block]?) (hz : W.heap.size ≤ W'.heap.size) : Rd W' a xs :=
  ⟨h.1, fun hn => by
    obtain ⟨b, off, e, hl, hc⟩ := h.2 hn
    have hb : W'.heap[b]? = W.heap[b]? := hs _ e
    exact ⟨b, off, e, Nat.lt_of_lt_of_le hl hz, fun i hi => (World.cell?_of_block (a := ⟨b, _, none⟩) hb).trans (hc i hi)⟩⟩
/-- a grove while it is laid: its block, and its first trees -/
structure Gw (wx wr : World) (gb : Nat) (f wy : Int) (wv : Value) (C : List Tc) (x : Value) : Prop where
  gr : wx.grownBy wr (some gb)
  c0 : wr.cell? ⟨gb, 0, none⟩ = some (.int .i64 f)
  c1 : wr.cell? ⟨gb, 1, none⟩ = some (.int .i64 wy)
  c2 : wr.cell? ⟨gb, 2, none⟩ = some wv
  c3 : wr.cell? ⟨gb, 3, none⟩ = some x
  fr : ∀ j, wr.frozen? ⟨gb, j, none⟩ = false
  lt : gb < wx.heap.size
  ox : wr.ownsRow wx.heap.size 110 1 x C.length (C.map tV)
  rd : ∀ c ∈ C, RdN wr c.1 c.2.1
  ap : ∀ c ∈ C, ∀ p, c.1 = some p → wx.heap.size ≤ p.block ∧ p.block < wr.heap.size ∧ x.ownBlock ≠ some p.block
theorem Gw.up {wx wr W : World} {gb : Nat} {f wy : Int} {wv : Value} {C : List Tc} {x : Value} (h : Gw wx wr gb f wy wv C x) (hb : Below wr.heap.size wr W) : Gw wx W gb f wy wv C x := by
  have hl : gb < wr.heap.size := Nat.lt_of_lt_of_le h.lt h.gr.size
  exact ⟨grown_trans h.gr (grown_of hb none) (.inr (fun q hq => by cases hq)), (hb.cell (p := ⟨gb, 0, none⟩) hl).trans h.c0, (hb.cell (p := ⟨gb, 1, none⟩) hl).trans h.c1, (hb.cell (p := ⟨gb, 2, none⟩) hl).trans h.c2, (hb.cell (p := ⟨gb, 3, none⟩) hl).trans h.c3, fun j => (hb.frozen (p := ⟨gb, j, none⟩) hl).trans (h.fr j), h.lt, own_up h.ox hb, fun c hc => (h.rd c hc).below hb, fun c hc p hp => ⟨(h.ap c hc p hp).1, Nat.lt_of_lt_of_le (h.ap c hc p hp).2.1 hb.size, (h.ap c hc p hp).2.2⟩⟩
/-- one more tree: what was made of it lies apart -/
theorem Gw.more {wx w0 wr w6 : World} {gb : Nat} {f wy : Int} {wv : Value} {C : List Tc} {x : Value} (h : Gw wx wr gb f wy wv C x) (hx : ∀ q, x.ownBlock = some q → q < w0.heap.size) (h0 : wx.heap.size ≤ w0.heap.size) (hw : w0.heap.size ≤ wr.heap.size) {a : Option Addr} {ts : List M.Nd} {cp g2 c2 : Nat} {o : Obj} (hne : ts ≠ []) (hr : RdN wr a ts) (ha : ∀ p, a = some p → w0.heap.size ≤ p.block)
    (hg : (wr.alloc o).grownBy w6 x.ownBlock) (ho : w6.ownsRow wx.heap.size 110 1 (.slice (some ⟨g2, 0, none⟩) (C.length + 1) c2) (C.length + 1) (C.map tV ++ [.slice a ts.length cp])) (hor : x.ownBlock = some g2 ∨ g2 = wr.heap.size + 1) :
    Gw wx (w6.setCell ⟨gb, 3, none⟩ (.slice (some ⟨g2, 0, none⟩) (C.length + 1) c2)) gb f wy wv (C ++ [(a, ts, cp)]) (.slice (some ⟨g2, 0, none⟩) (C.length + 1) c2) := by
  have hl := h.lt
  have hs := h.gr.size
  have gz : wr.heap.size + 1 ≤ w6.heap.size := by have := hg.size; simpa using this
  have xb : ∀ q, x.ownBlock = some q → wx.heap.size ≤ q := fun q hq => (h.ox.lt q hq).1
  have blk : ∀ q, q < wr.heap.size → q ≠ gb → x.ownBlock ≠ some q → (w6.setCell ⟨gb, 3, none⟩ (.slice (some ⟨g2, 0, none⟩) (C.length + 1) c2)).heap[q]? = wr.heap[q]? := fun q q1 q2 q3 => (Below.heap_setCell _ _ _ _ q2).trans ((hg.block q (by simp; omega) (fun e => q3 e.symm)).trans (Below.heap_alloc _ _ _ q1))
  have gf : w6.heap[gb]? = wr.heap[gb]? := (hg.block gb (by simp; omega) (fun e => by have := xb gb e.symm; omega)).trans (Below.heap_alloc _ _ _ (by omega))
  have cf : ∀ j, w6.cell? ⟨gb, j, none⟩ = wr.cell? ⟨gb, j, none⟩ := fun j => World.cell?_of_block (a := ⟨gb, j, none⟩) gf
  have so : ∀ (j : Nat), 3 ≠ j → (w6.setCell ⟨gb, 3, none⟩ (.slice (some ⟨g2, 0, none⟩) (C.length + 1) c2)).cell? ⟨gb, j, none⟩ = w6.cell? ⟨gb, j, none⟩ := fun j hj => World.cell?_setCell_other _ _ _ _ (by intro e; cases e; exact hj rfl)
  have sz : (w6.setCell ⟨gb, 3, none⟩ (.slice (some ⟨g2, 0, none⟩) (C.length + 1) c2)).heap.size = w6.heap.size := by simp
  have nb : ∀ p, a = some p → wx.heap.size ≤ p.block ∧ p.block < wr.heap.size ∧ x.ownBlock ≠ some p.block ∧ p.block ≠ g2 := fun p hp => by
    obtain ⟨b, off, e, hl2, _⟩ := hr.2 hne
    have q0 := ha p hp
    rw [hp] at e
    cases e
    have q0' : w0.heap.size ≤ b := q0
    refine ⟨show wx.heap.size ≤ b by omega, hl2, fun e => by have := hx _ e; simp at this; omega, fun e => ?_⟩
    have e' : b = g2 := e
    rcases hor with q | q
    · have := hx _ q; omega
    · omega
  refine ⟨?_, ?_, ?_, ?_, ?_, ?_, hl, ?_, ?_, ?_⟩
  · exact grown_trans (grown_trans (grown_trans h.gr (World.grownBy_alloc wr o none) (.inr (fun q hq => by cases hq))) hg (.inr (fun q hq => xb q hq))) grown_set (.inl rfl)
  · rw [so 0 (by decide), cf]; exact h.c0
  · rw [so 1 (by decide), cf]; exact h.c1
  · rw [so 2 (by decide), cf]; exact h.c2
  · exact World.cell?_setCell_same (u := x) _ _ _ ((cf 3).trans h.c3)
  · intro j
    have : w6.frozen? ⟨gb, j, none⟩ = false := (World.frozen?_of_block (a := ⟨gb, j, none⟩) gf).trans (h.fr j)
    simpa using this
  · have := ownsRow_setCell_below ho (a := ⟨gb, 3, none⟩) hl (.slice (some ⟨g2, 0, none⟩) (C.length + 1) c2)
    rw [List.map_append, List.length_append]
    exact this
  · intro c hc
    rcases List.mem_append.1 hc with q | q
    · exact rdn_keep (h.rd c q) (fun p hp => blk _ (h.ap c q p hp).2.1 (by have := (h.ap c q p hp).1; omega) (h.ap c q p hp).2.2) (by rw [sz]; omega)
    · have e : c = (a, ts, cp) := by simpa using q
      subst e
      exact rdn_keep hr (fun p hp => blk _ (nb p hp).2.1 (by have := (nb p hp).1; omega) (nb p hp).2.2.1) (by rw [sz]; omega)
  · intro c hc p hp
    rw [sz]
    have ow : Value.ownBlock (.slice (some ⟨g2, 0, none⟩) (C.length + 1) c2) = some g2 := rfl
    rw [ow]
    rcases List.mem_append.1 hc with q | q
    · obtain ⟨q1, q2, q3⟩ := h.ap c q p hp
      refine ⟨q1, by omega, fun e => ?_⟩
      cases e
      rcases hor with r | r
      · exact q3 r
      · omega
    · have e : c = (a, ts, cp) := by simpa using q
      subst e
      obtain ⟨q1, q2, q3, q4⟩ := nb p hp
      exact ⟨q1, by omega, fun e => q4 (by cases e; rfl)⟩
theorem gw_begin {w1 : World} {f wy : Int} {wv : Value} (W : World) (e : W = w1.alloc (.cells #[.int .i64 f, .int .i64 wy, wv, .slice none 0 0] 53)) : Gw W W w1.heap.size f wy wv [] (.slice none 0 0) := by
  subst e
  refine ⟨World.grownBy.refl _ _, World.cell?_alloc_at _ _ _ 0 rfl, World.cell?_alloc_at _ _ _ 1 rfl, World.cell?_alloc_at _ _ _ 2 rfl, World.cell?_alloc_at _ _ _ 3 rfl, fun j => ?_, by simp, World.ownsRow_nil _ _ _ _, (fun c hc => by cases hc), (fun c hc => by cases hc)⟩
  unfold World.frozen?
  rw [heap_alloc_new w1 _]
  simp
theorem gw_rdg {wx wr : World} {gb : Nat} {f wy : Int} {ws : List Int} {wa : Option Addr} {wc : Nat} {C : List Tc} {x : Value} (h : Gw wx wr gb f wy (.slice wa ws.length wc) C x) (hw : Rd wr wa ws) (h0 : 0 < C.length) (h12 : C.length ≤ 12) :
    ∃ g c, x = .slice (some ⟨g, 0, none⟩) C.length c ∧ RdG wr ⟨f, wy, wa, ws, wc, some ⟨g, 0, none⟩, C, c⟩ := by
  obtain ⟨g, c, e, hg1, hg2⟩ := h.ox.form h0
  subst e
  refine ⟨g, c, rfl, hw, ?_, h.rd, fun _ => ⟨g, 0, rfl, hg2, fun i hi => ?_⟩⟩
  · show C.length ≤ maxLen
    unfold maxLen; omega
  · have hi' : i < C.length := hi
    rw [Nat.zero_add]
    refine (h.ox.cellAt i (by omega)).trans ?_
    rw [List.getElem?_map, List.getElem?_eq_getElem hi']
    rfl
abbrev nilG : Obj := .cells #[.int .i64 0, .int .i64 0, .slice none 0 0, .slice none 0 0] 53
/-- a block of nothing -/
structure Zf (V : World) (p : Nat) : Prop where
  c0 : V.cell? ⟨p, 0, none⟩ = some (.int .i64 0)
  c1 : V.cell? ⟨p, 1, none⟩ = some (.int .i64 0)
  c2 : V.cell? ⟨p, 2, none⟩ = some (.slice none 0 0)
  c3 : V.cell? ⟨p, 3, none⟩ = some (.slice none 0 0)
  fr : ∀ j, V.frozen? ⟨p, j, none⟩ = false
  sz : p < V.heap.size
theorem zf_made (W : World) : Zf (W.alloc nilG) W.heap.size :=
  ⟨World.cell?_alloc_at _ _ _ 0 rfl, World.cell?_alloc_at _ _ _ 1 rfl, World.cell?_alloc_at _ _ _ 2 rfl, World.cell?_alloc_at _ _ _ 3 rfl, fun j => by
    unfold World.frozen?
    rw [heap_alloc_new W _]
    simp, by simp⟩
theorem Zf.same {V V' : World} {p : Nat} (h : Zf V p) (hs : V'.heap[p]? = V.heap[p]?) (hz : V.heap.size ≤ V'.heap.size) : Zf V' p :=
  ⟨(World.cell?_of_block (a := ⟨p, 0, none⟩) hs).trans h.c0, (World.cell?_of_block (a := ⟨p, 1, none⟩) hs).trans h.c1, (World.cell?_of_block (a := ⟨p, 2, none⟩) hs).trans h.c2, (World.cell?_of_block (a := ⟨p, 3, none⟩) hs).trans h.c3, fun j => (World.frozen?_of_block (a := ⟨p, j, none⟩) hs).trans (h.fr j), Nat.lt_of_lt_of_le h.sz hz⟩
theorem Zf.up {V V' : World} {p : Nat} (h : Zf V p) (hb : Below V.heap.size V V') : Zf V' p := h.same (hb.block p h.sz) hb.size
abbrev put4 (W : World) (p : Nat) (x0 x1 x2 x3 : Value) : World := (((W.setCell ⟨p, 0, none⟩ x0).setCell ⟨p, 1, none⟩ x1).setCell ⟨p, 2, none⟩ x2).setCell ⟨p, 3, none⟩ x3
theorem put4_far {W : World} {p q : Nat} {x0 x1 x2 x3 : Value} (h : q ≠ p) : (put4 W p x0 x1 x2 x3).heap[q]? = W.heap[q]? := by
  unfold put4
  rw [Below.heap_setCell _ _ _ _ h, Below.heap_setCell _ _ _ _ h, Below.heap_setCell _ _ _ _ h, Below.heap_setCell _ _ _ _ h]
theorem put4_size {W : World} {p : Nat} {x0 x1 x2 x3 : Value} : (put4 W p x0 x1 x2 x3).heap.size = W.heap.size := by simp
theorem put4_below {B : Nat} {w W : World} {p : Nat} {x0 x1 x2 x3 : Value} (h : Below B w W) (hp : B ≤ p) : Below B w (put4 W p x0 x1 x2 x3) :=
  (((h.setCell (p := ⟨p, 0, none⟩) hp _).setCell (p := ⟨p, 1, none⟩) hp _).setCell (p := ⟨p, 2, none⟩) hp _).setCell (p := ⟨p, 3, none⟩) hp _
theorem put4_cells {W : World} {p : Nat} {x0 x1 x2 x3 : Value} (z : Zf W p) :
    (put4 W p x0 x1 x2 x3).cell? ⟨p, 0, none⟩ = some x0 ∧ (put4 W p x0 x1 x2 x3).cell? ⟨p, 1, none⟩ = some x1 ∧ (put4 W p x0 x1 x2 x3).cell? ⟨p, 2, none⟩ = some x2 ∧ (put4 W p x0 x1 x2 x3).cell? ⟨p, 3, none⟩ = some x3 ∧ ∀ j, (put4 W p x0 x1 x2 x3).frozen? ⟨p, j, none⟩ = false := by
  have o : ∀ (V : World) (i j : Nat) (v : Value), i ≠ j → (V.setCell ⟨p, i, none⟩ v).cell? ⟨p, j, none⟩ = V.cell? ⟨p, j, none⟩ := fun V i j v hij => World.cell?_setCell_other _ _ _ _ (by intro e; cases e; exact hij rfl)
  have s : ∀ (V : World) (j : Nat) (v u : Value), V.cell? ⟨p, j, none⟩ = some u → (V.setCell ⟨p, j, none⟩ v).cell? ⟨p, j, none⟩ = some v := fun V j v u hu => World.cell?_setCell_same (u := u) _ _ _ hu
  refine ⟨?_, ?_, ?_, ?_, fun j => ?_⟩
  · rw [o _ _ _ _ (by decide), o _ _ _ _ (by decide), o _ _ _ _ (by decide), s _ _ _ _ z.c0]
  · rw [o _ _ _ _ (by decide), o _ _ _ _ (by decide), s _ _ _ (.int .i64 0) (by rw [o _ _ _ _ (by decide)]; exact z.c1)]
  · rw [o _ _ _ _ (by decide), s _ _ _ (.slice none 0 0) (by rw [o _ _ _ _ (by decide), o _ _ _ _ (by decide)]; exact z.c2)]
  · rw [s _ _ _ (.slice none 0 0) (by rw [o _ _ _ _ (by decide), o _ _ _ _ (by decide), o _ _ _ _ (by decide)]; exact z.c3)]
  · have := z.fr j
    simpa using this

theorem set4f {W : World} {p : Nat} {x0 x1 x2 x3 y0 y1 y2 y3 : Value} (h0 : W.cell? ⟨p, 0, none⟩ = some y0) (h1 : W.cell? ⟨p, 1, none⟩ = some y1) (h2 : W.cell? ⟨p, 2, none⟩ = some y2) (h3 : W.cell? ⟨p, 3, none⟩ = some y3) :
    (W.setCell ⟨p, 0, none⟩ x0).cell? ⟨p, 0, none⟩ = some x0 ∧ ((W.setCell ⟨p, 0, none⟩ x0).setCell ⟨p, 1, none⟩ x1).cell? ⟨p, 1, none⟩ = some x1 ∧
    (((W.setCell ⟨p, 0, none⟩ x0).setCell ⟨p, 1, none⟩ x1).setCell ⟨p, 2, none⟩ x2).cell? ⟨p, 2, none⟩ = some x2 ∧
    ((((W.setCell ⟨p, 0, none⟩ x0).setCell ⟨p, 1, none⟩ x1).setCell ⟨p, 2, none⟩ x2).setCell ⟨p, 3, none⟩ x3).cell? ⟨p, 3, none⟩ = some x3 := by
  have o : ∀ (V : World) (i j : Nat) (v : Value), i ≠ j → (V.setCell ⟨p, i, none⟩ v).cell? ⟨p, j, none⟩ = V.cell? ⟨p, j, none⟩ := fun V i j v hij => World.cell?_setCell_other _ _ _ _ (by intro e; cases e; exact hij rfl)
  refine ⟨World.cell?_setCell_same _ _ _ h0, World.cell?_setCell_same (u := y1) _ _ _ ?_, World.cell?_setCell_same (u := y2) _ _ _ ?_, World.cell?_setCell_same (u := y3) _ _ _ ?_⟩
  · rw [o _ _ _ _ (by decide)]; exact h1
  · rw [o _ _ _ _ (by decide), o _ _ _ _ (by decide)]; exact h2
  · rw [o _ _ _ _ (by decide), o _ _ _ _ (by decide), o _ _ _ _ (by decide)]; exact h3
/-- the first part of the work: the grove's block with all but its trees -/
structure Gs (w wx : World) (gb : Nat) (f wy : Int) (ws : List Int) (wa : Option Addr) (wc : Nat) : Prop where
  gw : Gw wx wx gb f wy (.slice wa ws.length wc) [] (.slice none 0 0)
  rw : Rd wx wa ws
  ne : ∀ p, wa = some p → p.block ≠ gb ∧ p.block ≠ w.heap.size
  gn : w.heap.size < gb
  z : Zf wx w.heap.size
  b : Below w.heap.size w wx
theorem gs_a {w w3 : World} {f wy : Int} {ws : List Int} {wa : Option Addr} {wc : Nat} (h0 : 0 < ws.length) (hb : Below ((w.alloc nilG).alloc nilG).drew.heap.size ((w.alloc nilG).alloc nilG).drew w3) (hr : Rd w3 wa ws) (ha : ∀ p, wa = some p → ((w.alloc nilG).alloc nilG).drew.heap.size ≤ p.block) :
    Zf w3 (w.heap.size + 1) ∧ Gs w (put4 w3 (w.heap.size + 1) (.int .i64 f) (.int .i64 wy) (.slice wa ws.length wc) (.slice none 0 0)) (w.heap.size + 1) f wy ws wa wc := by
  have e1 : (w.alloc nilG).heap.size = w.heap.size + 1 := by simp
  have e2 : ((w.alloc nilG).alloc nilG).drew.heap.size = w.heap.size + 1 + 1 := by
    show ((w.alloc nilG).alloc nilG).heap.size = _
    simp
  have z1 : Zf w3 (w.heap.size + 1) := by
    have := ((zf_made (w.alloc nilG)).up (Below.refl _ _).drew).up hb
    rw [e1] at this
    exact this
  have z0 : Zf w3 w.heap.size := ((zf_made w).up (((Below.refl _ _).alloc (Nat.le_refl _) _).drew)).up hb
  have b0 : Below w.heap.size w w3 := below_on ((((Below.refl _ w).alloc (Nat.le_refl _) _).alloc (by simp) _).drew) hb
  have s3 := hb.size
  rw [e2] at s3
  have fresh : ∀ p, wa = some p → p.block ≠ w.heap.size + 1 ∧ p.block ≠ w.heap.size := fun p hp => by
    have := ha p hp
    rw [e2] at this
    omega
  obtain ⟨p0, p1, p2, p3, pf⟩ := put4_cells (x0 := .int .i64 f) (x1 := .int .i64 wy) (x2 := .slice wa ws.length wc) (x3 := .slice none 0 0) z1
  refine ⟨z1, ⟨⟨World.grownBy.refl _ _, p0, p1, p2, p3, pf, by rw [put4_size]; omega, World.ownsRow_nil _ _ _ _, (fun c hc => by cases hc), (fun c hc => by cases hc)⟩, rd_keep hr (fun p hp => put4_far (fresh p hp).1) (by rw [put4_size]; exact Nat.le_refl _), fresh, by omega, z0.same (put4_far (by omega)) (by rw [put4_size]; exact Nat.le_refl _), put4_below b0 (by omega)⟩⟩
theorem gs_b {w w3 : World} {f wy : Int} {ws : List Int} {wa : Option Addr} {wc : Nat} (h0 : 0 < ws.length) (hb : Below (w.alloc nilG).drew.heap.size (w.alloc nilG).drew w3) (hr : Rd w3 wa ws) (ha : ∀ p, wa = some p → (w.alloc nilG).drew.heap.size ≤ p.block) :
    Gs w (w3.alloc (.cells #[.int .i64 f, .int .i64 wy, .slice wa ws.length wc, .slice none 0 0] 53)) w3.heap.size f wy ws wa wc := by
  have e1 : (w.alloc nilG).drew.heap.size = w.heap.size + 1 := by
    show (w.alloc nilG).heap.size = _
    simp
  have z0 : Zf w3 w.heap.size := ((zf_made w).up ((Below.refl _ _).drew)).up hb
  have b0 : Below w.heap.size w w3 := below_on (((Below.refl _ w).alloc (Nat.le_refl _) _).drew) hb
  have s3 := hb.size
  rw [e1] at s3
  have ba : Below w3.heap.size w3 (w3.alloc (.cells #[.int .i64 f, .int .i64 wy, .slice wa ws.length wc, .slice none 0 0] 53)) := (Below.refl _ _).alloc (Nat.le_refl _) _
  refine ⟨⟨World.grownBy.refl _ _, World.cell?_alloc_at _ _ _ 0 rfl, World.cell?_alloc_at _ _ _ 1 rfl, World.cell?_alloc_at _ _ _ 2 rfl, World.cell?_alloc_at _ _ _ 3 rfl, fun j => ?_, by simp, World.ownsRow_nil _ _ _ _, (fun c hc => by cases hc), (fun c hc => by cases hc)⟩, hr.below ba, fun p hp => ?_, by omega, z0.up ba, below_on b0 ba⟩
  · unfold World.frozen?
    rw [heap_alloc_new w3 _]
    simp
  · obtain ⟨b, off, e, hl, _⟩ := hr.2 (by intro e; rw [e] at h0; simp at h0)
    have q := ha p hp
    rw [e1] at q
    rw [hp] at e
    cases e
    have q' : w.heap.size + 1 ≤ b := q
    exact ⟨Nat.ne_of_lt hl, show b ≠ w.heap.size by omega⟩

/-- .. where something was done between -/
theorem gs_a2 {w W1 w3 : World} {f wy : Int} {ws : List Int} {wa : Option Addr} {wc : Nat} (z : Zf W1 w.heap.size) (b : Below w.heap.size w W1) (hb : Below (W1.alloc nilG).drew.heap.size (W1.alloc nilG).drew w3) (hr : Rd w3 wa ws) (ha : ∀ p, wa = some p → (W1.alloc nilG).drew.heap.size ≤ p.block) :
    Zf w3 W1.heap.size ∧ Gs w (put4 w3 W1.heap.size (.int .i64 f) (.int .i64 wy) (.slice wa ws.length wc) (.slice none 0 0)) W1.heap.size f wy ws wa wc := by
  have e2 : (W1.alloc nilG).drew.heap.size = W1.heap.size + 1 := by
    show (W1.alloc nilG).heap.size = _
    simp
  have z1 : Zf w3 W1.heap.size := ((zf_made W1).up (Below.refl _ _).drew).up hb
  have z0 : Zf w3 w.heap.size := (z.up (((Below.refl _ _).alloc (Nat.le_refl _) _).drew)).up hb
  have zz := z.sz
  have b0 : Below w.heap.size w w3 := below_on b (below_on (((Below.refl _ W1).alloc (Nat.le_refl _) _).drew) hb)
  have s3 := hb.size
  rw [e2] at s3
  have fresh : ∀ p, wa = some p → p.block ≠ W1.heap.size ∧ p.block ≠ w.heap.size := fun p hp => by
    have := ha p hp
    rw [e2] at this
    omega
  obtain ⟨p0, p1, p2, p3, pf⟩ := put4_cells (x0 := .int .i64 f) (x1 := .int .i64 wy) (x2 := .slice wa ws.length wc) (x3 := .slice none 0 0) z1
  refine ⟨z1, ⟨⟨World.grownBy.refl _ _, p0, p1, p2, p3, pf, by rw [put4_size]; omega, World.ownsRow_nil _ _ _ _, (fun c hc => by cases hc), (fun c hc => by cases hc)⟩, rd_keep hr (fun p hp => put4_far (fresh p hp).1) (by rw [put4_size]; exact Nat.le_refl _), fresh, by omega, z0.same (put4_far (by omega)) (by rw [put4_size]; exact Nat.le_refl _), put4_below b0 (by omega)⟩⟩
theorem gs_b2 {w W1 w3 : World} {f wy : Int} {ws : List Int} {wa : Option Addr} {wc : Nat} (h0 : 0 < ws.length) (z : Zf W1 w.heap.size) (b : Below w.heap.size w W1) (hb : Below W1.drew.heap.size W1.drew w3) (hr : Rd w3 wa ws) (ha : ∀ p, wa = some p → W1.drew.heap.size ≤ p.block) :
    Gs w (w3.alloc (.cells #[.int .i64 f, .int .i64 wy, .slice wa ws.length wc, .slice none 0 0] 53)) w3.heap.size f wy ws wa wc := by
  have e1 : W1.drew.heap.size = W1.heap.size := rfl
  have z0 : Zf w3 w.heap.size := (z.up ((Below.refl _ _).drew)).up hb
  have zz := z.sz
  have b0 : Below w.heap.size w w3 := below_on b (below_on ((Below.refl _ W1).drew) hb)
  have s3 := hb.size
  rw [e1] at s3
  have ba : Below w3.heap.size w3 (w3.alloc (.cells #[.int .i64 f, .int .i64 wy, .slice wa ws.length wc, .slice none 0 0] 53)) := (Below.refl _ _).alloc (Nat.le_refl _) _
  refine ⟨⟨World.grownBy.refl _ _, World.cell?_alloc_at _ _ _ 0 rfl, World.cell?_alloc_at _ _ _ 1 rfl, World.cell?_alloc_at _ _ _ 2 rfl, World.cell?_alloc_at _ _ _ 3 rfl, fun j => ?_, by simp, World.ownsRow_nil _ _ _ _, (fun c hc => by cases hc), (fun c hc => by cases hc)⟩, hr.below ba, fun p hp => ?_, by omega, z0.up ba, below_on b0 ba⟩
  · unfold World.frozen?
    rw [heap_alloc_new w3 _]
    simp
  · obtain ⟨b, off, e, hl, _⟩ := hr.2 (by intro e; rw [e] at h0; simp at h0)
    have q := ha p hp
    rw [e1] at q
    rw [hp] at e
    cases e
    have q' : W1.heap.size ≤ b := q
    exact ⟨Nat.ne_of_lt hl, show b ≠ w.heap.size by omega⟩

/-- the grove, as it is handed back -/
theorem gw_done {w wx wr : World} {gb : Nat} {f wy : Int} {ws : List Int} {wa : Option Addr} {wc : Nat} {C : List Tc} {x : Value} (s : Gs w wx gb f wy ws wa wc) (h : Gw wx wr gb f wy (.slice wa ws.length wc) C x) (h0 : 0 < C.length) (h12 : C.length ≤ 12) (hw0 : 0 < ws.length) (y0 y1 y2 y3 : Value) :
    ∃ g c, x = .slice (some ⟨g, 0, none⟩) C.length c ∧ Zf wr w.heap.size ∧ RdG (put4 wr w.heap.size y0 y1 y2 y3) ⟨f, wy, wa, ws, wc, some ⟨g, 0, none⟩, C, c⟩ ∧ Below w.heap.size w (put4 wr w.heap.size y0 y1 y2 y3) := by
  have gs := h.gr.size
  have rz := s.z.sz
  obtain ⟨g, c, e, hg1, hg2⟩ := h.ox.form h0
  subst e
  have far : ∀ q, q ≠ w.heap.size → (put4 wr w.heap.size y0 y1 y2 y3).heap[q]? = wr.heap[q]? := fun q hq => put4_far hq
  refine ⟨g, c, rfl, s.z.same (h.gr.block _ rz (fun e => by have := s.gn; cases e; omega)) gs, ⟨rd_keep s.rw (fun p hp => ?_) (by rw [put4_size]; exact gs), ?_, ?_, fun _ => ⟨g, 0, rfl, by rw [put4_size]; exact hg2, fun i hi => ?_⟩⟩, put4_below (s.b.grown h.gr s.b.size (fun k hk => by cases hk; have := s.gn; omega)) (Nat.le_refl _)⟩
  · obtain ⟨n1, n2⟩ := s.ne p hp
    have hp' : wa = some p := hp
    obtain ⟨b, off, e, hl, _⟩ := s.rw.2 (by intro e; rw [e] at hw0; simp at hw0)
    rw [hp'] at e
    cases e
    exact (far _ n2).trans (h.gr.block _ hl (fun e => n1 (by cases e; rfl)))
  · show C.length ≤ maxLen
    unfold maxLen; omega
  · intro c' hc
    have hc' : c' ∈ C := hc
    exact rdn_keep (h.rd c' hc') (fun p hp => far _ (by have := (h.ap c' hc' p hp).1; omega)) (by rw [put4_size]; exact Nat.le_refl _)
  · have hi' : i < C.length := hi
    rw [Nat.zero_add]
    refine (World.cell?_of_block (a := ⟨g, i, none⟩) (far g (by omega))).trans ((h.ox.cellAt i (by omega)).trans ?_)
    rw [List.getElem?_map, List.getElem?_eq_getElem hi']
    rfl
end Go.Proofs.YtiggkjkjfnlfkaaGreatDoor

namespace Go.Proofs.YtiggkjkjfnlfkaaGreatDoor.M
set_option linter.unusedVariables false
/-- L's nodes are t's in another order: at place p is what is at place s p; what is below stands behind -/
structure Relab (t L : List Nd) (s : Nat → Nat) : Prop where
  len : L.length = t.length
  lt : ∀ p, p < t.length → s p < t.length
  inj : ∀ p q, p < t.length → q < t.length → s p = s q → p = q
  zero : s 0 = 0
  f : ∀ p, p < t.length → nf (nAt L p) = nf (nAt t (s p))
  c : ∀ p, p < t.length → nc (nAt L p) = nc (nAt t (s p))
  e : ∀ p, p < t.length → ns (nAt L p) = ns (nAt t (s p))
  v : ∀ p, p < t.length → nv (nAt L p) = nv (nAt t (s p))
  leaf : ∀ p, p < t.length → nf (nAt t (s p)) = -1 → nl (nAt L p) = nl (nAt t (s p)) ∧ nr (nAt L p) = nr (nAt t (s p))
  l : ∀ p, p < t.length → nf (nAt t (s p)) ≠ -1 → ∃ a : Nat, nl (nAt L p) = a ∧ p < a ∧ a < t.length ∧ nl (nAt t (s p)) = (s a : Nat)
  r : ∀ p, p < t.length → nf (nAt t (s p)) ≠ -1 → ∃ a : Nat, nr (nAt L p) = a ∧ p < a ∧ a < t.length ∧ nr (nAt t (s p)) = (s a : Nat)

theorem nodup_len : ∀ (n : Nat) (l : List Nat), l.Nodup → (∀ x ∈ l, x < n) → l.length ≤ n
  | 0, l, _, h => by
    cases l with
    | nil => exact Nat.le_refl _
    | cons x t => exact absurd (h x (by simp)) (by omega)
  | n + 1, l, hd, h => by
    by_cases hm : n ∈ l
    · have := nodup_len n (l.erase n) (hd.erase n) (fun x hx => by
        have := (hd.mem_erase_iff).1 hx
        have := h x this.2
        omega)
      rw [List.length_erase_of_mem hm] at this
      omega
    · have := nodup_len n l hd (fun x hx => by
        have := h x hx
        have : x ≠ n := fun e => hm (e ▸ hx)
        omega)
      omega

theorem Relab.perm {t L : List Nd} {s : Nat → Nat} (h : Relab t L s) : ((List.range t.length).map s).Perm (List.range t.length) := by
  have nd : ((List.range t.length).map s).Nodup := by
    rw [List.Nodup, List.pairwise_map]
    refine List.Pairwise.imp_of_mem ?_ (List.nodup_range (n := t.length))
    intro a b ha hb hab e
    exact hab (h.inj a b (by simpa using ha) (by simpa using hb) e)
  have sub : ∀ x ∈ (List.range t.length).map s, x < t.length := fun x hx => by
    obtain ⟨p, hp, rfl⟩ := List.mem_map.1 hx
    exact h.lt p (by simpa using hp)
  refine (List.perm_ext_iff_of_nodup nd List.nodup_range).2 (fun x => ⟨fun hx => by simpa using sub x hx, fun hx => ?_⟩)
  have hx' : x < t.length := by simpa using hx
  by_cases hm : x ∈ (List.range t.length).map s
  · exact hm
  · have := nodup_len t.length (x :: (List.range t.length).map s) (List.nodup_cons.2 ⟨hm, nd⟩) (fun y hy => by
      rcases List.mem_cons.1 hy with q | q
      · rw [q]; exact hx'
      · exact sub y q)
    simp at this
    omega
theorem Relab.onto {t L : List Nd} {s : Nat → Nat} (h : Relab t L s) {x : Nat} (hx : x < t.length) : ∃ p, p < t.length ∧ s p = x := by
  have := (h.perm.mem_iff (a := x)).2 (by simpa using hx)
  obtain ⟨p, hp, e⟩ := List.mem_map.1 this
  exact ⟨p, by simpa using hp, e⟩
theorem list_range (t : List Nd) : t = (List.range t.length).map (nAt t) := by
  apply List.ext_getElem?
  intro i
  by_cases h : i < t.length
  · rw [List.getElem?_map, List.getElem?_range h, List.getElem?_eq_getElem h]
    simp [nAt_eq h]
  · rw [List.getElem?_eq_none (by omega), List.getElem?_eq_none (by simp; omega)]
theorem Relab.key {t L : List Nd} {s : Nat → Nat} (h : Relab t L s) {a j : Nat} (ha : a < t.length) (hj : j < t.length) : ((a : Int) = (j : Int)) ↔ ((s a : Nat) : Int) = ((s j : Nat) : Int) := by
  constructor
  · intro e
    have : a = j := by omega
    rw [this]
  · intro e
    have := h.inj a j ha hj (by omega)
    omega
theorem Relab.edge {t L : List Nd} {s : Nat → Nat} (h : Relab t L s) {p j : Nat} (hp : p < t.length) (hj : j < t.length) : edge (j : Nat) (nAt L p) = edge (s j : Nat) (nAt t (s p)) := by
  unfold M.edge
  rw [h.f p hp]
  by_cases hf : nf (nAt t (s p)) = -1
  · rw [if_pos hf, if_pos hf]
  · rw [if_neg hf, if_neg hf]
    obtain ⟨a, e1, _, a2, e2⟩ := h.l p hp hf
    obtain ⟨b, e3, _, b2, e4⟩ := h.r p hp hf
    rw [e1, e2, e3, e4]
    have k1 := h.key a2 hj
    have k2 := h.key b2 hj
    by_cases q1 : (a : Int) = j <;> by_cases q2 : (b : Int) = j
    · rw [if_pos q1, if_pos q2, if_pos (k1.1 q1), if_pos (k2.1 q2)]
    · rw [if_pos q1, if_neg q2, if_pos (k1.1 q1), if_neg (fun c => q2 (k2.2 c))]
    · rw [if_neg q1, if_pos q2, if_neg (fun c => q1 (k1.2 c)), if_pos (k2.1 q2)]
    · rw [if_neg q1, if_neg q2, if_neg (fun c => q1 (k1.2 c)), if_neg (fun c => q2 (k2.2 c))]
theorem Relab.ups {t L : List Nd} {s : Nat → Nat} (h : Relab t L s) {j : Nat} (hj : j < t.length) : ups L (j : Nat) = ups t (s j : Nat) := by
  have a : M.ups L (j : Nat) = ((List.range t.length).map fun p => M.edge (s j : Nat) (nAt t (s p))).sum := by
    unfold M.ups
    conv => lhs; rw [list_range L]
    rw [h.len, List.map_map]
    congr 1
    apply List.map_congr_left
    intro p hp
    exact h.edge (by simpa using hp) hj
  have b : M.ups t (s j : Nat) = ((List.range t.length).map fun p => M.edge (s j : Nat) (nAt t p)).sum := by
    unfold M.ups
    conv => lhs; rw [list_range t]
    rw [List.map_map]
    rfl
  rw [a, b]
  have := (h.perm.map (fun p => M.edge (s j : Nat) (nAt t p))).sum_nat
  rw [List.map_map] at this
  exact this

theorem Relab.node {t L : List Nd} {s : Nat → Nat} (h : Relab t L s) {m : Int} (ht : ∀ j, j < t.length → nodeF (nAt t j) j t.length m = 0) {p : Nat} (hp : p < t.length) : nodeF (nAt L p) p L.length m = 0 := by
  have hn := ht (s p) (h.lt p hp)
  unfold nodeF at hn ⊢
  rw [h.f p hp, h.len]
  by_cases hf : nf (nAt t (s p)) = -1
  · rw [if_pos hf] at hn ⊢
    unfold lfF at hn ⊢
    rw [h.v p hp, h.c p hp, h.e p hp, (h.leaf p hp hf).1, (h.leaf p hp hf).2]
    exact hn
  · rw [if_neg hf] at hn ⊢
    obtain ⟨a, e1, a1, a2, e2⟩ := h.l p hp hf
    obtain ⟨b, e3, b1, b2, e4⟩ := h.r p hp hf
    unfold asF at hn ⊢
    rw [h.f p hp, h.v p hp, h.c p hp]
    split at hn
    · cases hn
    · rename_i q1
      split at hn
      · cases hn
      · rename_i q2
        rw [if_neg, if_neg]
        · rw [e1, e3]
          intro c
          rcases c with c | c
          · exact q2 (.inl c)
          · have : a = b := by omega
            exact q2 (.inr (by rw [e2, e4, this]))
        · intro c
          rcases c with c | c | c | c | c
          · exact q1 (.inl c)
          · exact q1 (.inr (.inl c))
          · exact q1 (.inr (.inr (.inl c)))
          · rw [e1] at c; unfold inB at c; rw [decide_eq_true (by omega), decide_eq_true (by omega)] at c; cases c
          · rw [e3] at c; unfold inB at c; rw [decide_eq_true (by omega), decide_eq_true (by omega)] at c; cases c
theorem Relab.fair {t L : List Nd} {s : Nat → Nat} (h : Relab t L s) {m : Int} (F : Fair t m) : Fair L m := by
  obtain ⟨h1, h2, h3, h4, h5, h6⟩ := F
  refine ⟨by rw [h.len]; exact h1, by rw [h.len]; exact h2, h3, h4, fun j hj => h.node h5 (by rw [← h.len]; exact hj), fun j h0 hj => ?_⟩
  have hj' : j < t.length := by rw [← h.len]; exact hj
  rw [h.ups hj']
  refine h6 (s j) ?_ (h.lt j hj')
  rcases Nat.eq_zero_or_pos (s j) with q | q
  · have := h.inj j 0 hj' h2 (by rw [q, h.zero])
    omega
  · exact q
theorem Relab.dep {t L : List Nd} {s : Nat → Nat} (h : Relab t L s) : ∀ (k p : Nat), p < t.length → dep L k p = dep t k (s p)
  | 0, p, hp => rfl
  | k + 1, p, hp => by
    unfold M.dep
    rw [h.f p hp]
    by_cases hf : nf (nAt t (s p)) = -1
    · rw [if_pos hf, if_pos hf]
    · rw [if_neg hf, if_neg hf]
      obtain ⟨a, e1, a1, a2, e2⟩ := h.l p hp hf
      obtain ⟨b, e3, b1, b2, e4⟩ := h.r p hp hf
      rw [e1, e2, e3, e4, Int.toNat_natCast, Int.toNat_natCast, Int.toNat_natCast, Int.toNat_natCast, h.dep k a a2, h.dep k b b2]
theorem Relab.tree {t L : List Nd} {s : Nat → Nat} (h : Relab t L s) {m : Int} (hz : (treeF t m).2 = 0) : (treeF L m).2 = 0 := by
  obtain ⟨F, e⟩ := tree_ok hz
  have d : depth L 0 = depth t 0 := by
    unfold depth
    rw [h.len, h.dep _ 0 F.2.1, h.zero]
  rw [tree_fair (h.fair F), d, ← tree_fair F, e]
theorem Relab.go {t L : List Nd} {s : Nat → Nat} (h : Relab t L s) (r : List Int) : ∀ (k p : Nat), p < t.length → goD L r k p < t.length ∧ s (goD L r k p) = goD t r k (s p)
  | 0, p, hp => ⟨hp, rfl⟩
  | k + 1, p, hp => by
    unfold goD
    rw [h.f p hp]
    by_cases hf : nf (nAt t (s p)) = -1
    · rw [if_pos hf, if_pos hf]; exact ⟨hp, rfl⟩
    · rw [if_neg hf, if_neg hf]
      obtain ⟨a, e1, a1, a2, e2⟩ := h.l p hp hf
      obtain ⟨b, e3, b1, b2, e4⟩ := h.r p hp hf
      have lc : lessC (nAt L p) (r.getD (nf (nAt L p)).toNat 0) = lessC (nAt t (s p)) (r.getD (nf (nAt t (s p))).toNat 0) := by
        unfold lessC
        rw [h.f p hp, h.e p hp, h.c p hp]
      unfold nextI
      rw [lc]
      split
      · rw [e1, e2, Int.toNat_natCast, Int.toNat_natCast]; exact h.go r k a a2
      · rw [e3, e4, Int.toNat_natCast, Int.toNat_natCast]; exact h.go r k b b2
theorem Relab.ready {t L : List Nd} {s : Nat → Nat} (h : Relab t L s) {r : List Int} (hr : readyF t r = 0) : readyF L r = 0 := by
  have h1 := (ready_ok hr).1
  have h2 := (ready_ok hr).2
  unfold readyF
  rw [if_neg (by simp [h1])]
  exact h.tree h2
/-- they tell the same of every row -/
theorem Relab.eval {t L : List Nd} {s : Nat → Nat} (h : Relab t L s) {r : List Int} (hr : readyF t r = 0) : evalV L r = evalV t r := by
  have F := (tree_ok (ready_ok hr).2).1
  unfold evalV
  rw [if_pos hr, if_pos (h.ready hr)]
  unfold toD
  rw [h.len]
  obtain ⟨g1, g2⟩ := h.go r t.length 0 F.2.1
  rw [h.v _ g1, g2, h.zero]

/-! ### level by level -/
def kids (n : Nd) : List Nat := if nf n = -1 then [] else [(nl n).toNat, (nr n).toNat]
/-- the order behind i nodes -/
def ordS (t : List Nd) : Nat → List Nat
  | 0 => [0]
  | i + 1 => ordS t i ++ kids (nAt t ((ordS t i).getD i 0))
theorem ord_pre (t : List Nd) (i : Nat) : ∀ k, ∃ x, ordS t (i + k) = ordS t i ++ x
  | 0 => ⟨[], by simp⟩
  | k + 1 => by
    obtain ⟨x, e⟩ := ord_pre t i k
    exact ⟨x ++ kids (nAt t ((ordS t (i + k)).getD (i + k) 0)), by rw [← List.append_assoc, ← e]; rfl⟩
theorem ord_at {t : List Nd} {i k p : Nat} (h : i ≤ k) (hp : p < (ordS t i).length) : (ordS t k).getD p 0 = (ordS t i).getD p 0 := by
  obtain ⟨x, e⟩ := ord_pre t i (k - i)
  rw [show i + (k - i) = k by omega] at e
  rw [e]
  simp [List.getD, List.getElem?_append_left hp]
theorem ord_len_mono {t : List Nd} {i k : Nat} (h : i ≤ k) : (ordS t i).length ≤ (ordS t k).length := by
  obtain ⟨x, e⟩ := ord_pre t i (k - i)
  rw [show i + (k - i) = k by omega] at e
  rw [e, List.length_append]; omega
theorem getD_mem' {l : List Nat} {i : Nat} (h : i < l.length) : l.getD i 0 ∈ l := by
  simp [List.getD, List.getElem?_eq_getElem h]
theorem mem_getB {l : List Nat} {x : Nat} (h : x ∈ l) : ∃ i, i < l.length ∧ l.getD i 0 = x := by
  obtain ⟨i, hi, e⟩ := List.getElem_of_mem h
  exact ⟨i, hi, by simp [List.getD, List.getElem?_eq_getElem hi, e]⟩
theorem nodup_at {l : List Nat} (h : l.Nodup) {i j : Nat} (hi : i < l.length) (hj : j < l.length) (e : l.getD i 0 = l.getD j 0) : i = j := by
  simp only [List.getD, List.getElem?_eq_getElem hi, List.getElem?_eq_getElem hj, Option.getD_some] at e
  rcases Nat.lt_trichotomy i j with q | q | q
  · exact absurd e (List.pairwise_iff_getElem.1 h i j hi hj q)
  · exact q
  · exact absurd e.symm (List.pairwise_iff_getElem.1 h j i hj hi q)
/-- what is so of the order behind i nodes, while there are more -/
structure Ord (t : List Nd) (i : Nat) : Prop where
  nd : (ordS t i).Nodup
  lt : ∀ x ∈ ordS t i, x < t.length
  up : ∀ x ∈ ordS t i, x ≠ 0 → ∃ p, p < i ∧ chL (nAt t ((ordS t i).getD p 0)) (x : Nat)
  dn : ∀ p, p < i → ∀ x : Nat, chL (nAt t ((ordS t i).getD p 0)) (x : Nat) → x ∈ ordS t i
  le : i ≤ (ordS t i).length
theorem kids_mem {t : List Nd} {m : Int} (F : Fair t m) {i x : Nat} (hi : i < t.length) : x ∈ kids (nAt t i) ↔ chL (nAt t i) (x : Nat) := by
  unfold kids chL
  by_cases hf : nf (nAt t i) = -1
  · simp [hf]
  · obtain ⟨a, b, ea, eb, _⟩ := ask_at F.2.2.2.2.1 hi hf
    rw [if_neg hf, ea, eb]
    simp only [ne_eq, hf, not_false_eq_true, true_and, Int.toNat_natCast, List.mem_cons, List.not_mem_nil, or_false]
    omega
theorem ord_start {t : List Nd} {m : Int} (F : Fair t m) : Ord t 0 :=
  ⟨by simp [ordS], fun x hx => by have : x = 0 := by simpa [ordS] using hx
                                  rw [this]; exact F.2.1, fun x hx h0 => absurd (by simpa [ordS] using hx) h0, fun p hp => by omega, Nat.zero_le _⟩
theorem ord_step {t : List Nd} {m : Int} (F : Fair t m) {i : Nat} (h : Ord t i) (hi : i < (ordS t i).length) : Ord t (i + 1) := by
  have hx : (ordS t i).getD i 0 < t.length := h.lt _ (getD_mem' hi)
  have e : ordS t (i + 1) = ordS t i ++ kids (nAt t ((ordS t i).getD i 0)) := rfl
  have at' : ∀ p, p < i + 1 → (ordS t (i + 1)).getD p 0 = (ordS t i).getD p 0 := fun p hp => ord_at (by omega) (by omega)
  have fresh : ∀ x, x ∈ kids (nAt t ((ordS t i).getD i 0)) → x ∉ ordS t i := fun x hk hm => by
    have c := (kids_mem F hx).1 hk
    have x0 : 0 < x ∧ x < t.length := by
      obtain ⟨a, b, ea, eb, q⟩ := ask_at F.2.2.2.2.1 hx c.1
      rcases c.2 with c | c <;> omega
    obtain ⟨p, hp, cp⟩ := h.up x hm (by omega)
    have hpl : p < (ordS t i).length := by omega
    have := up_one (F.2.2.2.2.2 x x0.1 x0.2) (h.lt _ (getD_mem' hpl)) hx cp c
    have := nodup_at h.nd hpl hi this
    omega
  refine ⟨?_, ?_, ?_, ?_, ?_⟩
  · rw [e, List.nodup_append]
    refine ⟨h.nd, ?_, fun a ha b hb q => fresh b hb (q ▸ ha)⟩
    unfold kids
    by_cases hf : nf (nAt t ((ordS t i).getD i 0)) = -1
    · rw [if_pos hf]; exact List.nodup_nil
    · rw [if_neg hf]
      obtain ⟨a, b, ea, eb, q⟩ := ask_at F.2.2.2.2.1 hx hf
      rw [ea, eb]
      simp only [Int.toNat_natCast, List.nodup_cons, List.mem_singleton, List.not_mem_nil, not_false_eq_true, List.nodup_nil, and_true]
      omega
  · intro x hm
    rw [e] at hm
    rcases List.mem_append.1 hm with q | q
    · exact h.lt x q
    · have c := (kids_mem F hx).1 q
      obtain ⟨a, b, ea, eb, r⟩ := ask_at F.2.2.2.2.1 hx c.1
      rcases c.2 with c | c <;> omega
  · intro x hm h0
    rw [e] at hm
    rcases List.mem_append.1 hm with q | q
    · obtain ⟨p, hp, c⟩ := h.up x q h0
      exact ⟨p, by omega, by rw [at' p (by omega)]; exact c⟩
    · exact ⟨i, by omega, by rw [at' i (by omega)]; exact (kids_mem F hx).1 q⟩
  · intro p hp x c
    rw [at' p hp] at c
    rw [e]
    by_cases q : p = i
    · rw [q] at c
      exact List.mem_append.2 (.inr ((kids_mem F hx).2 c))
    · exact List.mem_append.2 (.inl (h.dn p (by omega) x c))
  · have := ord_len_mono (t := t) (show i ≤ i + 1 by omega)
    omega
/-- where there are no more, all are there -/
theorem ord_full {t : List Nd} {m : Int} (F : Fair t m) {i : Nat} (h : Ord t i) (hi : (ordS t i).length = i) : i = t.length := by
  have all : ∀ n j, j < n → j < t.length → j ∈ ordS t i := by
    intro n
    induction n with
    | zero => intro j hj; omega
    | succ n ih =>
      intro j hj hl
      by_cases h0 : j = 0
      · subst h0
        obtain ⟨x, e⟩ := ord_pre t 0 i
        rw [show 0 + i = i by omega] at e
        rw [e]; simp [ordS]
      · obtain ⟨p, hp, c⟩ := up_some (F.2.2.2.2.2 j (by omega) hl)
        obtain ⟨a, b, ea, eb, q⟩ := ask_at F.2.2.2.2.1 hp c.1
        have hpj : p < j := by rcases c.2 with c | c <;> omega
        obtain ⟨k, hk, ek⟩ := mem_getB (ih p (by omega) (by omega))
        exact h.dn k (by omega) j (by rw [ek]; exact c)
  have p : (ordS t i).Perm (List.range t.length) := (List.perm_ext_iff_of_nodup h.nd List.nodup_range).2 (fun x => ⟨fun hx => by simpa using h.lt x hx, fun hx => all t.length x (by simpa using hx) (by simpa using hx)⟩)
  have := p.length_eq
  simp at this
  omega
theorem ord_all {t : List Nd} {m : Int} (F : Fair t m) : ∀ i, i ≤ t.length → Ord t i ∧ (i < t.length → i < (ordS t i).length)
  | 0, _ => ⟨ord_start F, fun _ => by simp [ordS]⟩
  | i + 1, hi => by
    obtain ⟨h, hl⟩ := ord_all F i (by omega)
    have h1 := ord_step F h (hl (by omega))
    refine ⟨h1, fun hlt => ?_⟩
    have := h1.le
    by_cases q : (ordS t (i + 1)).length = i + 1
    · have := ord_full F h1 q; omega
    · omega
theorem ord_end {t : List Nd} {m : Int} (F : Fair t m) : Ord t t.length ∧ (ordS t t.length).length = t.length := by
  have h := (ord_all F t.length (Nat.le_refl _)).1
  exact ⟨h, Nat.le_antisymm (nodup_len _ _ h.nd h.lt) h.le⟩
/-- a node, those below it at other places -/
def reN (n : Nd) (a : Nat) : Nd := if nf n = -1 then n else (nf n, nc n, (a : Nat), (a : Nat) + 1, ns n, nv n)
def levK (t : List Nd) : Nat → List Nd
  | 0 => []
  | i + 1 => levK t i ++ [reN (nAt t ((ordS t i).getD i 0)) (ordS t i).length]
def levels (t : List Nd) : List Nd := levK t t.length
theorem levK_len (t : List Nd) : ∀ i, (levK t i).length = i
  | 0 => rfl
  | i + 1 => by unfold levK; simp [levK_len t i]
theorem levK_at (t : List Nd) : ∀ (i p : Nat), p < i → nAt (levK t i) p = reN (nAt t ((ordS t p).getD p 0)) (ordS t p).length
  | 0, p, h => by omega
  | i + 1, p, h => by
    unfold levK nAt
    by_cases e : p = i
    · subst e
      simp [List.getD, levK_len]
    · have := levK_at t i p (by omega)
      unfold nAt at this
      rw [← this]
      simp [List.getD, List.getElem?_append_left, levK_len, show p < i by omega]
theorem levels_relab {t : List Nd} {m : Int} (F : Fair t m) : Relab t (levels t) (fun p => (ordS t t.length).getD p 0) := by
  obtain ⟨E, hl⟩ := ord_end F
  have here : ∀ p, p < t.length → (ordS t p).getD p 0 = (ordS t t.length).getD p 0 := fun p hp => (ord_at (by omega) ((ord_all F p (by omega)).2 hp)).symm
  have at' : ∀ p, p < t.length → nAt (levels t) p = reN (nAt t ((ordS t t.length).getD p 0)) (ordS t p).length := fun p hp => by
    unfold levels
    rw [levK_at t t.length p hp, here p hp]
  have kid : ∀ p, p < t.length → nf (nAt t ((ordS t t.length).getD p 0)) ≠ -1 → p < (ordS t p).length ∧ (ordS t p).length + 1 < t.length ∧ nl (nAt t ((ordS t t.length).getD p 0)) = ((ordS t t.length).getD (ordS t p).length 0 : Nat) ∧ nr (nAt t ((ordS t t.length).getD p 0)) = ((ordS t t.length).getD ((ordS t p).length + 1) 0 : Nat) := fun p hp hf => by
    have hx : (ordS t t.length).getD p 0 < t.length := E.lt _ (getD_mem' (by omega))
    have e : ordS t (p + 1) = ordS t p ++ kids (nAt t ((ordS t t.length).getD p 0)) := by rw [← here p hp]; rfl
    have ek : kids (nAt t ((ordS t t.length).getD p 0)) = [(nl (nAt t ((ordS t t.length).getD p 0))).toNat, (nr (nAt t ((ordS t t.length).getD p 0))).toNat] := by unfold kids; rw [if_neg hf]
    rw [ek] at e
    have l1 : (ordS t (p + 1)).length = (ordS t p).length + 2 := by rw [e]; simp
    have l2 := ord_len_mono (t := t) (show p + 1 ≤ t.length by omega)
    have g1 := ord_at (t := t) (show p + 1 ≤ t.length by omega) (show (ordS t p).length < _ by rw [l1]; omega)
    have g2 := ord_at (t := t) (show p + 1 ≤ t.length by omega) (show (ordS t p).length + 1 < _ by rw [l1]; omega)
    obtain ⟨a, b, ea, eb, q⟩ := ask_at F.2.2.2.2.1 hx hf
    refine ⟨(ord_all F p (by omega)).2 hp, by omega, ?_, ?_⟩
    · rw [g1, e, ea]; simp [List.getD]
    · rw [g2, e, eb]; simp [List.getD]
  refine ⟨by unfold levels; exact levK_len t _, fun p hp => E.lt _ (getD_mem' (by omega)), fun p q hp hq e => nodup_at E.nd (by omega) (by omega) e, ?_, ?_, ?_, ?_, ?_, ?_, ?_, ?_⟩
  · have := ord_at (t := t) (i := 0) (k := t.length) (p := 0) (Nat.zero_le _) (by simp [ordS])
    rw [this]; rfl
  · intro p hp; rw [at' p hp]; unfold reN; split <;> rfl
  · intro p hp; rw [at' p hp]; unfold reN; split <;> rfl
  · intro p hp; rw [at' p hp]; unfold reN; split <;> rfl
  · intro p hp; rw [at' p hp]; unfold reN; split <;> rfl
  · intro p hp hf; rw [at' p hp]; unfold reN; rw [if_pos hf]; exact ⟨rfl, rfl⟩
  · intro p hp hf
    obtain ⟨k1, k2, k3, k4⟩ := kid p hp hf
    exact ⟨(ordS t p).length, by rw [at' p hp]; unfold reN; rw [if_neg hf]; rfl, k1, by omega, k3⟩
  · intro p hp hf
    obtain ⟨k1, k2, k3, k4⟩ := kid p hp hf
    exact ⟨(ordS t p).length + 1, by rw [at' p hp]; unfold reN; rw [if_neg hf]; show ((ordS t p).length : Int) + 1 = _; omega, by omega, k2, k4⟩
/-- laid level by level a tree is right, and tells the same -/
theorem levels_tree {t : List Nd} {m : Int} (h : (treeF t m).2 = 0) : (treeF (levels t) m).2 = 0 := (levels_relab (tree_ok h).1).tree h
theorem levels_eval {t : List Nd} {r : List Int} (h : readyF t r = 0) : readyF (levels t) r = 0 ∧ evalV (levels t) r = evalV t r :=
  ⟨(levels_relab (tree_ok (ready_ok h).2).1).ready h, (levels_relab (tree_ok (ready_ok h).2).1).eval h⟩
theorem levels_len (t : List Nd) : (levels t).length = t.length := levK_len t _
/-- a node, those below it so many places further on -/
def sh (o : Nat) (n : Nd) : Nd := if nf n = -1 then n else (nf n, nc n, nl n + (o : Nat), nr n + (o : Nat), ns n, nv n)
theorem sh_nf (o : Nat) (n : Nd) : nf (sh o n) = nf n := by unfold sh; split <;> rfl
theorem sh_nv (o : Nat) (n : Nd) : nv (sh o n) = nv n := by unfold sh; split <;> rfl
theorem sh_nc (o : Nat) (n : Nd) : nc (sh o n) = nc n := by unfold sh; split <;> rfl
theorem sh_ns (o : Nat) (n : Nd) : ns (sh o n) = ns n := by unfold sh; split <;> rfl
theorem sh_leaf {n : Nd} (o : Nat) (h : nf n = -1) : sh o n = n := by unfold sh; rw [if_pos h]
theorem sh_ask {n : Nd} (o : Nat) (h : nf n ≠ -1) : sh o n = (nf n, nc n, nl n + (o : Nat), nr n + (o : Nat), ns n, nv n) := by unfold sh; rw [if_neg h]
/-- .. and back -/
def un (o : Nat) (n : Nd) : Nd := if nf n = -1 then n else (nf n, nc n, nl n - (o : Nat), nr n - (o : Nat), ns n, nv n)
theorem un_sh (o : Nat) (n : Nd) : un o (sh o n) = n := by
  unfold un
  rw [sh_nf]
  by_cases h : nf n = -1
  · rw [if_pos h, sh_leaf o h]
  · rw [if_neg h, sh_ask o h]
    obtain ⟨a, b, c, d, e, f⟩ := n
    simp [nf, nc, nl, nr, ns, nv] <;> omega

/-- while a tree is laid behind others -/
def mid (L t : List Nd) (i : Nat) : List Nd := L ++ (levK t i).map (sh L.length) ++ ((ordS t i).drop i).map (nAt t)
theorem mid_len {L t : List Nd} {i : Nat} (h : i ≤ (ordS t i).length) : (mid L t i).length = L.length + (ordS t i).length := by
  unfold mid; simp [levK_len]; omega
theorem mid_zero (L t : List Nd) : mid L t 0 = L ++ [nAt t 0] := by unfold mid; simp [levK, ordS]
def laid (L t : List Nd) : List Nd := L ++ (levels t).map (sh L.length)
theorem laid_len (L t : List Nd) : (laid L t).length = L.length + t.length := by unfold laid; simp [levels_len]
theorem mid_end {L t : List Nd} {m : Int} (F : Fair t m) : mid L t t.length = laid L t := by
  unfold mid laid levels
  rw [List.drop_of_length_le (by rw [(ord_end F).2]; exact Nat.le_refl _)]
  simp
theorem drop_cons {l : List Nat} {i : Nat} (h : i < l.length) : l.drop i = l.getD i 0 :: l.drop (i + 1) := by
  rw [List.drop_eq_getElem_cons h]
  simp [List.getD, List.getElem?_eq_getElem h]
theorem mid_split {L t : List Nd} {i : Nat} (h : i < (ordS t i).length) : mid L t i = (L ++ (levK t i).map (sh L.length)) ++ nAt t ((ordS t i).getD i 0) :: ((ordS t i).drop (i + 1)).map (nAt t) := by
  unfold mid; rw [drop_cons h]; simp
theorem pre_len (L t : List Nd) (i : Nat) : (L ++ (levK t i).map (sh L.length)).length = L.length + i := by simp [levK_len]
theorem mid_at {L t : List Nd} {i : Nat} (h : i < (ordS t i).length) : nAt (mid L t i) (L.length + i) = nAt t ((ordS t i).getD i 0) := by
  rw [mid_split h]
  unfold nAt
  rw [← pre_len L t i]
  simp [List.getD]
theorem mid_leaf {L t : List Nd} {i : Nat} (h : i < (ordS t i).length) (hf : nf (nAt t ((ordS t i).getD i 0)) = -1) : mid L t (i + 1) = mid L t i := by
  have e : ordS t (i + 1) = ordS t i := by
    show ordS t i ++ kids _ = _
    unfold kids; rw [if_pos hf]; simp
  rw [mid_split h]
  unfold mid
  rw [e]
  have : levK t (i + 1) = levK t i ++ [nAt t ((ordS t i).getD i 0)] := by
    show levK t i ++ [reN _ _] = _
    unfold reN; rw [if_pos hf]
  rw [this, List.map_append, List.map_cons, List.map_nil, sh_leaf _ hf]
  simp only [List.append_assoc, List.cons_append, List.nil_append]
theorem mid_ask {L t : List Nd} {i : Nat} (h : i < (ordS t i).length) (hf : nf (nAt t ((ordS t i).getD i 0)) ≠ -1) (hn : Nd) (hl : Nd) (hr : Nd)
    (e1 : hl = nAt t (nl (nAt t ((ordS t i).getD i 0))).toNat) (e2 : hr = nAt t (nr (nAt t ((ordS t i).getD i 0))).toNat)
    (e3 : hn = (nf (nAt t ((ordS t i).getD i 0)), nc (nAt t ((ordS t i).getD i 0)), ((mid L t i).length : Int), ((mid L t i).length : Int) + 1, ns (nAt t ((ordS t i).getD i 0)), nv (nAt t ((ordS t i).getD i 0)))) :
    mid L t (i + 1) = (mid L t i).set (L.length + i) hn ++ [hl, hr] := by
  have e : ordS t (i + 1) = ordS t i ++ [(nl (nAt t ((ordS t i).getD i 0))).toNat, (nr (nAt t ((ordS t i).getD i 0))).toNat] := by
    show ordS t i ++ kids _ = _
    unfold kids; rw [if_neg hf]
  have e4 : sh L.length (reN (nAt t ((ordS t i).getD i 0)) (ordS t i).length) = hn := by
    have e5 : reN (nAt t ((ordS t i).getD i 0)) (ordS t i).length = (nf (nAt t ((ordS t i).getD i 0)), nc (nAt t ((ordS t i).getD i 0)), ((ordS t i).length : Int), ((ordS t i).length : Int) + 1, ns (nAt t ((ordS t i).getD i 0)), nv (nAt t ((ordS t i).getD i 0))) := by unfold reN; rw [if_neg hf]
    rw [e5, e3, mid_len (by omega)]
    generalize nAt t ((ordS t i).getD i 0) = n at hf
    rw [sh_ask (n := (nf n, nc n, ((ordS t i).length : Int), ((ordS t i).length : Int) + 1, ns n, nv n)) _ hf]
    show (nf n, nc n, ((ordS t i).length : Int) + (L.length : Int), ((ordS t i).length : Int) + 1 + (L.length : Int), ns n, nv n) = _
    have q1 : ((ordS t i).length : Int) + (L.length : Int) = ((L.length + (ordS t i).length : Nat) : Int) := by omega
    have q2 : ((ordS t i).length : Int) + 1 + (L.length : Int) = ((L.length + (ordS t i).length : Nat) : Int) + 1 := by omega
    rw [q1, q2]
  rw [mid_split h, ← pre_len L t i, List.set_append_right _ _ (Nat.le_refl _), Nat.sub_self, List.set_cons_zero]
  unfold mid
  rw [e, List.drop_append_of_le_length (by omega)]
  have : levK t (i + 1) = levK t i ++ [reN (nAt t ((ordS t i).getD i 0)) (ordS t i).length] := rfl
  rw [this, List.map_append, List.map_append, List.map_cons, List.map_nil, e4, e1, e2]
  simp

/-! ### the order, as numbers -/
def ordI (t : List Nd) (k : Nat) : List Int := (ordS t k).map (fun x : Nat => (x : Int))
theorem ordI_len (t : List Nd) (k : Nat) : (ordI t k).length = (ordS t k).length := by unfold ordI; simp
theorem ordI_at (t : List Nd) (k : Nat) {p : Nat} (h : p < (ordS t k).length) : (ordI t k).getD p 0 = ((ordS t k).getD p 0 : Nat) := by
  unfold ordI
  simp [List.getD, List.getElem?_eq_getElem h]
theorem ordI_leaf {t : List Nd} {k : Nat} (hf : nf (nAt t ((ordS t k).getD k 0)) = -1) : ordI t (k + 1) = ordI t k ∧ levK t (k + 1) = levK t k ++ [nAt t ((ordS t k).getD k 0)] := by
  constructor
  · unfold ordI
    have e : ordS t (k + 1) = ordS t k := by
      show ordS t k ++ kids _ = _
      unfold kids; rw [if_pos hf]; simp
    rw [e]
  · show levK t k ++ [reN _ _] = _
    unfold reN; rw [if_pos hf]
theorem ordI_ask {t : List Nd} {m : Int} (F : Fair t m) {k : Nat} (hk : k < t.length) (hf : nf (nAt t ((ordS t k).getD k 0)) ≠ -1) :
    ordI t (k + 1) = ordI t k ++ [nl (nAt t ((ordS t k).getD k 0))] ++ [nr (nAt t ((ordS t k).getD k 0))] ∧ levK t (k + 1) = levK t k ++ [(nf (nAt t ((ordS t k).getD k 0)), nc (nAt t ((ordS t k).getD k 0)), ((ordI t k).length : Int), ((ordI t k).length : Int) + 1, ns (nAt t ((ordS t k).getD k 0)), nv (nAt t ((ordS t k).getD k 0)))] := by
  obtain ⟨h, hl⟩ := ord_all F k (by omega)
  have hx : (ordS t k).getD k 0 < t.length := h.lt _ (getD_mem' (hl hk))
  obtain ⟨a, b, ea, eb, q⟩ := ask_at F.2.2.2.2.1 hx hf
  constructor
  · unfold ordI
    have e : ordS t (k + 1) = ordS t k ++ [(nl (nAt t ((ordS t k).getD k 0))).toNat, (nr (nAt t ((ordS t k).getD k 0))).toNat] := by
      show ordS t k ++ kids _ = _
      unfold kids; rw [if_neg hf]
    rw [e, ea, eb]; simp
  · rw [ordI_len]
    show levK t k ++ [reN _ _] = _
    unfold reN; rw [if_neg hf]

/-! ### all trees -/
def laidK (T : List (List Nd)) : Nat → List Nd
  | 0 => []
  | k + 1 => laid (laidK T k) (T.getD k [])
def rootsK (T : List (List Nd)) : Nat → List Int
  | 0 => []
  | k + 1 => rootsK T k ++ [((laidK T k).length : Int)]
theorem rootsK_len (T : List (List Nd)) : ∀ k, (rootsK T k).length = k
  | 0 => rfl
  | k + 1 => by unfold rootsK; simp [rootsK_len T k]
theorem rootsK_at (T : List (List Nd)) : ∀ (k i : Nat), i < k → (rootsK T k).getD i 0 = ((laidK T i).length : Int)
  | 0, i, h => by omega
  | k + 1, i, h => by
    unfold rootsK
    by_cases e : i = k
    · subst e; simp [List.getD, rootsK_len]
    · have := rootsK_at T k i (by omega)
      rw [← this]
      simp [List.getD, List.getElem?_append_left, rootsK_len, show i < k by omega]
theorem laidK_pre (T : List (List Nd)) (k : Nat) : ∀ j, ∃ x, laidK T (k + j) = laidK T k ++ x
  | 0 => ⟨[], by simp⟩
  | j + 1 => by
    obtain ⟨x, e⟩ := laidK_pre T k j
    refine ⟨x ++ (levels (T.getD (k + j) [])).map (sh (laidK T (k + j)).length), ?_⟩
    rw [← List.append_assoc, ← e]; rfl
theorem laidK_at {T : List (List Nd)} {k n p : Nat} (h : k < n) (hp : p < (T.getD k []).length) : nAt (laidK T n) ((laidK T k).length + p) = sh (laidK T k).length (nAt (levels (T.getD k [])) p) ∧ (laidK T k).length + p < (laidK T n).length := by
  obtain ⟨x, e⟩ := laidK_pre T (k + 1) (n - (k + 1))
  rw [show k + 1 + (n - (k + 1)) = n by omega] at e
  have e2 : laidK T (k + 1) = laidK T k ++ (levels (T.getD k [])).map (sh (laidK T k).length) := rfl
  rw [e, e2]
  have hp' : p < (levels (T.getD k [])).length := by rw [levels_len]; exact hp
  generalize T.getD k [] = tk at *
  generalize laidK T k = A at *
  have hm : p < ((levels tk).map (sh A.length)).length := by rw [List.length_map]; exact hp'
  refine ⟨?_, by simp only [List.length_append, List.length_map]; omega⟩
  unfold nAt
  rw [List.append_assoc]
  simp only [List.getD]
  rw [List.getElem?_append_right (by omega), Nat.add_sub_cancel_left, List.getElem?_append_left hm, List.getElem?_map, List.getElem?_eq_getElem hp']
  rfl
theorem laidK_len_step (T : List (List Nd)) (k : Nat) : (laidK T (k + 1)).length = (laidK T k).length + (T.getD k []).length := laid_len _ _
theorem laidK_le (T : List (List Nd)) {k n : Nat} (h : k ≤ n) : (laidK T k).length ≤ (laidK T n).length := by
  obtain ⟨x, e⟩ := laidK_pre T k (n - k)
  rw [show k + (n - k) = n by omega] at e
  rw [e]; simp
theorem laidK_bound {T : List (List Nd)} (h : ∀ i, i < T.length → (T.getD i []).length ≤ 63) : ∀ k, k ≤ T.length → (laidK T k).length ≤ 63 * k
  | 0, _ => by simp [laidK]
  | k + 1, hk => by
    have := laidK_bound h k (by omega)
    have := h k (by omega)
    rw [laidK_len_step]; omega
/-- one tree's nodes, taken out -/
theorem laidK_take {T : List (List Nd)} {k n : Nat} (h : k < n) : ((laidK T n).drop (laidK T k).length).take (T.getD k []).length = (levels (T.getD k [])).map (sh (laidK T k).length) := by
  obtain ⟨x, e⟩ := laidK_pre T (k + 1) (n - (k + 1))
  rw [show k + 1 + (n - (k + 1)) = n by omega] at e
  have e2 : laidK T (k + 1) = laidK T k ++ (levels (T.getD k [])).map (sh (laidK T k).length) := rfl
  rw [e, e2, List.append_assoc, List.drop_left]
  have : (T.getD k []).length = ((levels (T.getD k [])).map (sh (laidK T k).length)).length := by simp [levels_len]
  rw [this, List.take_left]

/-! ### what Many says -/
def manyF (g : Gv) : List (List Int) → Int
  | [] => 0
  | r :: t => if standF g r ≠ 0 then standF g r else manyF g t
def manyV (g : Gv) (rs : List (List Int)) : List Int := if manyF g rs = 0 then rs.map (evalG g) else []
theorem many_none {g : Gv} : ∀ {rs : List (List Int)}, (∀ k, k < rs.length → standF g (rs.getD k []) = 0) → manyF g rs = 0
  | [], _ => rfl
  | r :: t, h => by
    unfold manyF
    have h0 := h 0 (by simp)
    rw [show (r :: t).getD 0 [] = r from rfl] at h0
    rw [if_neg (by simp [h0])]
    exact many_none (fun k hk => by have := h (k + 1) (by simp; omega); simpa using this)
theorem many_some {g : Gv} : ∀ {rs : List (List Int)} {k : Nat}, k < rs.length → (∀ j, j < k → standF g (rs.getD j []) = 0) → standF g (rs.getD k []) ≠ 0 → manyF g rs = standF g (rs.getD k [])
  | [], k, h, _, _ => by simp at h
  | r :: t, 0, h, _, hn => by
    unfold manyF
    rw [show (r :: t).getD 0 [] = r from rfl] at hn ⊢
    rw [if_pos hn]
  | r :: t, k + 1, h, ha, hn => by
    unfold manyF
    have h0 := ha 0 (by omega)
    rw [show (r :: t).getD 0 [] = r from rfl] at h0
    rw [if_neg (by simp [h0])]
    have e : (r :: t).getD (k + 1) [] = t.getD k [] := by simp
    rw [e] at hn ⊢
    exact many_some (by simpa using h) (fun j hj => by have := ha (j + 1) (by omega); simpa using this) hn
end Go.Proofs.YtiggkjkjfnlfkaaGreatDoor.M

namespace Go.Proofs.YtiggkjkjfnlfkaaGreatDoor
open Go.ChangeShapes Go.WideShapes Go.ChangeAt Go.RowKit Go.Lib
set_option linter.unusedVariables false
/-- all nodes of a grove, and where each tree begins -/
def M.allN (g : M.Gv) : List M.Nd := M.laidK (M.gt g) (M.gt g).length
def M.allR (g : M.Gv) : List Int := M.rootsK (M.gt g) (M.gt g).length
theorem M.allR_len (g : M.Gv) : (M.allR g).length = (M.gt g).length := M.rootsK_len _ _

/-- where a Flat's parts lie -/
structure Fp where
  wa : Option Addr
  wc : Nat
  na : Option Addr
  nc : Nat
  ra : Option Addr
  rc : Nat
/-- a Flat of a grove, where it lies -/
structure FoAt (W : World) (p : Nat) (g : M.Gv) (P : Fp) : Prop where
  lt : p < W.heap.size
  c0 : W.cell? ⟨p, 0, none⟩ = some (.int .i64 (M.gf g))
  c1 : W.cell? ⟨p, 1, none⟩ = some (.int .i64 (M.gw g))
  c2 : W.cell? ⟨p, 2, none⟩ = some (.slice P.wa (M.gs g).length P.wc)
  c3 : W.cell? ⟨p, 3, none⟩ = some (.slice P.na (M.allN g).length P.nc)
  c4 : W.cell? ⟨p, 4, none⟩ = some (.slice P.ra (M.allR g).length P.rc)
  rw : Rd W P.wa (M.gs g)
  rn : RdN W P.na (M.allN g)
  rr : Rd W P.ra (M.allR g)
  ca : (M.allN g).length ≤ P.nc
theorem FoAt.below {W W' : World} {p : Nat} {g : M.Gv} {P : Fp} (h : FoAt W p g P) (hb : Below W.heap.size W W') : FoAt W' p g P :=
  ⟨Nat.lt_of_lt_of_le h.lt hb.size, (hb.cell (p := ⟨p, 0, none⟩) h.lt).trans h.c0, (hb.cell (p := ⟨p, 1, none⟩) h.lt).trans h.c1, (hb.cell (p := ⟨p, 2, none⟩) h.lt).trans h.c2, (hb.cell (p := ⟨p, 3, none⟩) h.lt).trans h.c3, (hb.cell (p := ⟨p, 4, none⟩) h.lt).trans h.c4, h.rw.below hb, h.rn.below hb, h.rr.below hb, h.ca⟩
def FO (W : World) (p : Nat) (g : M.Gv) : Prop := ∃ P, FoAt W p g P
theorem FO.below {W W' : World} {p : Nat} {g : M.Gv} (h : FO W p g) (hb : Below W.heap.size W W') : FO W' p g := by
  obtain ⟨P, h⟩ := h
  exact ⟨P, h.below hb⟩
theorem M.tree_in {g : M.Gv} (K : M.Good g) {k : Nat} (hk : k < (M.gt g).length) : (M.treeF ((M.gt g).getD k []) (M.gf g)).2 = 0 := by
  rw [M.getD_at hk]; exact K.trees _ (List.getElem_mem hk)
theorem M.allN_le {g : M.Gv} (K : M.Good g) : (M.allN g).length ≤ 1000 := by
  have t12 := K.t12
  have := M.laidK_bound (T := M.gt g) (fun i hi => (M.tree_ok (M.tree_in K hi)).1.1) (M.gt g).length (Nat.le_refl _)
  unfold M.allN
  omega
end Go.Proofs.YtiggkjkjfnlfkaaGreatDoor
