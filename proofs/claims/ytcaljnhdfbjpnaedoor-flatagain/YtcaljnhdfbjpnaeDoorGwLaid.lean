/-
  A grove while it is laid: its block, its first trees; no condition beyond those named.
-/
import Derived.Test.YtcaljnhdfbjpnaeDoorGroves
import Derived.Test.YtcaljnhdfbjpnaeDoorGrown
namespace Go.Proofs.YtcaljnhdfbjpnaeDoor
open Go.ChangeShapes Go.WideShapes Go.ChangeAt Go.RowKit Go.Lib
set_option linter.unusedVariables false

theorem infoL : (Tryd.prog.info? 22).map (fun i => (i.zero, i.size, i.bytes)) = some (some (.slice none 0 0), 1, 24) := by kernel_rfl
theorem rdn_keep {W W' : World} {a : Option Addr} {ts : List M.Nd} (h : RdN W a ts) (hs : ∀ p, a = some p → W'.heap[p.block]? = W.heap[p.block]?) (hz : W.heap.size ≤ W'.heap.size) : RdN W' a ts :=
  ⟨h.1, fun hn => by
    obtain ⟨b, off, e, hl, hc⟩ := h.2 hn
    have hb : W'.heap[b]? = W.heap[b]? := hs _ e
    refine ⟨b, off, e, Nat.lt_of_lt_of_le hl hz, fun i hi => ?_⟩
    obtain ⟨h0, h1, h2, h3, h4, h5⟩ := hc i hi
    exact ⟨(World.cell?_of_block (a := ⟨b, _, none⟩) hb).trans h0, (World.cell?_of_block (a := ⟨b, _, none⟩) hb).trans h1, (World.cell?_of_block (a := ⟨b, _, none⟩) hb).trans h2, (World.cell?_of_block (a := ⟨b, _, none⟩) hb).trans h3, (World.cell?_of_block (a := ⟨b, _, none⟩) hb).trans h4, (World.cell?_of_block (a := ⟨b, _, none⟩) hb).trans h5⟩⟩
theorem rd_keep {W W' : World} {a : Option Addr} {xs : List Int} (h : Rd W a xs) (hs : ∀ p, a = some p → W'.heap[p.block]? = W.heap[p.block]?) (hz : W.heap.size ≤ W'.heap.size) : Rd W' a xs :=
  ⟨h.1, fun hn => by
    obtain ⟨b, off, e, hl, hc⟩ := h.2 hn
    have hb : W'.heap[b]? = W.heap[b]? := hs _ e
    exact ⟨b, off, e, Nat.lt_of_lt_of_le hl hz, fun i hi => (World.cell?_of_block (a := ⟨b, _, none⟩) hb).trans (hc i hi)⟩⟩
/-- a grove while it is laid: its block, and its first trees -/
structure Gw (wx wr : World) (gb : Nat) (f wy : Int) (wv : Value) (C : List Tc) (x : Value) : Prop where
  gr : wx.grownBy wr (some gb)
  c0 : wr.cell? ⟨gb, 0, none⟩ = some (.int .i64 f)
  c1 : wr.cell? ⟨gb, 1, none⟩ = some (.int .i64 wy)
  c2 : wr.cell? ⟨gb, 2, none⟩ = some wv
  c3 : wr.cell? ⟨gb, 3, none⟩ = some x
  fr : ∀ j, wr.frozen? ⟨gb, j, none⟩ = false
  lt : gb < wx.heap.size
  ox : wr.ownsRow wx.heap.size 22 1 x C.length (C.map tV)
  rd : ∀ c ∈ C, RdN wr c.1 c.2.1
  ap : ∀ c ∈ C, ∀ p, c.1 = some p → wx.heap.size ≤ p.block ∧ p.block < wr.heap.size ∧ x.ownBlock ≠ some p.block
theorem Gw.up {wx wr W : World} {gb : Nat} {f wy : Int} {wv : Value} {C : List Tc} {x : Value} (h : Gw wx wr gb f wy wv C x) (hb : Below wr.heap.size wr W) : Gw wx W gb f wy wv C x := by
  have hl : gb < wr.heap.size := Nat.lt_of_lt_of_le h.lt h.gr.size
  exact ⟨grown_trans h.gr (grown_of hb none) (.inr (fun q hq => by cases hq)), (hb.cell (p := ⟨gb, 0, none⟩) hl).trans h.c0, (hb.cell (p := ⟨gb, 1, none⟩) hl).trans h.c1, (hb.cell (p := ⟨gb, 2, none⟩) hl).trans h.c2, (hb.cell (p := ⟨gb, 3, none⟩) hl).trans h.c3, fun j => (hb.frozen (p := ⟨gb, j, none⟩) hl).trans (h.fr j), h.lt, own_up h.ox hb, fun c hc => (h.rd c hc).below hb, fun c hc p hp => ⟨(h.ap c hc p hp).1, Nat.lt_of_lt_of_le (h.ap c hc p hp).2.1 hb.size, (h.ap c hc p hp).2.2⟩⟩
/-- one more tree: what was made of it lies apart -/
theorem Gw.more {wx w0 wr w6 : World} {gb : Nat} {f wy : Int} {wv : Value} {C : List Tc} {x : Value} (h : Gw wx wr gb f wy wv C x) (hx : ∀ q, x.ownBlock = some q → q < w0.heap.size) (h0 : wx.heap.size ≤ w0.heap.size) (hw : w0.heap.size ≤ wr.heap.size) {a : Option Addr} {ts : List M.Nd} {cp g2 c2 : Nat} {o : Obj} (hne : ts ≠ []) (hr : RdN wr a ts) (ha : ∀ p, a = some p → w0.heap.size ≤ p.block)
    (hg : (wr.alloc o).grownBy w6 x.ownBlock) (ho : w6.ownsRow wx.heap.size 22 1 (.slice (some ⟨g2, 0, none⟩) (C.length + 1) c2) (C.length + 1) (C.map tV ++ [.slice a ts.length cp])) (hor : x.ownBlock = some g2 ∨ g2 = wr.heap.size + 1) :
    Gw wx (w6.setCell ⟨gb, 3, none⟩ (.slice (some ⟨g2, 0, none⟩) (C.length + 1) c2)) gb f wy wv (C ++ [(a, ts, cp)]) (.slice (some ⟨g2, 0, none⟩) (C.length + 1) c2) := by
  have hl := h.lt
  have hs := h.gr.size
  have gz : wr.heap.size + 1 ≤ w6.heap.size := by have := hg.size; simpa using this
  have xb : ∀ q, x.ownBlock = some q → wx.heap.size ≤ q := fun q hq => (h.ox.lt q hq).1
  have blk : ∀ q, q < wr.heap.size → q ≠ gb → x.ownBlock ≠ some q → (w6.setCell ⟨gb, 3, none⟩ (.slice (some ⟨g2, 0, none⟩) (C.length + 1) c2)).heap[q]? = wr.heap[q]? := fun q q1 q2 q3 => (Below.heap_setCell _ _ _ _ q2).trans ((hg.block q (by simp; omega) (fun e => q3 e.symm)).trans (Below.heap_alloc _ _ _ q1))
  have gf : w6.heap[gb]? = wr.heap[gb]? := (hg.block gb (by simp; omega) (fun e => by have := xb gb e.symm; omega)).trans (Below.heap_alloc _ _ _ (by omega))
  have cf : ∀ j, w6.cell? ⟨gb, j, none⟩ = wr.cell? ⟨gb, j, none⟩ := fun j => World.cell?_of_block (a := ⟨gb, j, none⟩) gf
  have so : ∀ (j : Nat), 3 ≠ j → (w6.setCell ⟨gb, 3, none⟩ (.slice (some ⟨g2, 0, none⟩) (C.length + 1) c2)).cell? ⟨gb, j, none⟩ = w6.cell? ⟨gb, j, none⟩ := fun j hj => World.cell?_setCell_other _ _ _ _ (by intro e; cases e; exact hj rfl)
  have sz : (w6.setCell ⟨gb, 3, none⟩ (.slice (some ⟨g2, 0, none⟩) (C.length + 1) c2)).heap.size = w6.heap.size := by simp
  have nb : ∀ p, a = some p → wx.heap.size ≤ p.block ∧ p.block < wr.heap.size ∧ x.ownBlock ≠ some p.block ∧ p.block ≠ g2 := fun p hp => by
    obtain ⟨b, off, e, hl2, _⟩ := hr.2 hne
    have q0 := ha p hp
    rw [hp] at e
    cases e
    have q0' : w0.heap.size ≤ b := q0
    refine ⟨show wx.heap.size ≤ b by omega, hl2, fun e => by have := hx _ e; simp at this; omega, fun e => ?_⟩
    have e' : b = g2 := e
    rcases hor with q | q
    · have := hx _ q; omega
    · omega
  refine ⟨?_, ?_, ?_, ?_, ?_, ?_, hl, ?_, ?_, ?_⟩
  · exact grown_trans (grown_trans (grown_trans h.gr (World.grownBy_alloc wr o none) (.inr (fun q hq => by cases hq))) hg (.inr (fun q hq => xb q hq))) grown_set (.inl rfl)
  · rw [so 0 (by decide), cf]; exact h.c0
  · rw [so 1 (by decide), cf]; exact h.c1
  · rw [so 2 (by decide), cf]; exact h.c2
  · exact World.cell?_setCell_same (u := x) _ _ _ ((cf 3).trans h.c3)
  · intro j
    have : w6.frozen? ⟨gb, j, none⟩ = false := (World.frozen?_of_block (a := ⟨gb, j, none⟩) gf).trans (h.fr j)
    simpa using this
  · have := ownsRow_setCell_below ho (a := ⟨gb, 3, none⟩) hl (.slice (some ⟨g2, 0, none⟩) (C.length + 1) c2)
    rw [List.map_append, List.length_append]
    exact this
  · intro c hc
    rcases List.mem_append.1 hc with q | q
    · exact rdn_keep (h.rd c q) (fun p hp => blk _ (h.ap c q p hp).2.1 (by have := (h.ap c q p hp).1; omega) (h.ap c q p hp).2.2) (by rw [sz]; omega)
    · have e : c = (a, ts, cp) := by simpa using q
      subst e
      exact rdn_keep hr (fun p hp => blk _ (nb p hp).2.1 (by have := (nb p hp).1; omega) (nb p hp).2.2.1) (by rw [sz]; omega)
  · intro c hc p hp
    rw [sz]
    have ow : Value.ownBlock (.slice (some ⟨g2, 0, none⟩) (C.length + 1) c2) = some g2 := rfl
    rw [ow]
    rcases List.mem_append.1 hc with q | q
    · obtain ⟨q1, q2, q3⟩ := h.ap c q p hp
      refine ⟨q1, by omega, fun e => ?_⟩
      cases e
      rcases hor with r | r
      · exact q3 r
      · omega
    · have e : c = (a, ts, cp) := by simpa using q
      subst e
      obtain ⟨q1, q2, q3, q4⟩ := nb p hp
      exact ⟨q1, by omega, fun e => q4 (by cases e; rfl)⟩
theorem gw_begin {w1 : World} {f wy : Int} {wv : Value} (W : World) (e : W = w1.alloc (.cells #[.int .i64 f, .int .i64 wy, wv, .slice none 0 0] 40)) : Gw W W w1.heap.size f wy wv [] (.slice none 0 0) := by
  subst e
  refine ⟨World.grownBy.refl _ _, World.cell?_alloc_at _ _ _ 0 rfl, World.cell?_alloc_at _ _ _ 1 rfl, World.cell?_alloc_at _ _ _ 2 rfl, World.cell?_alloc_at _ _ _ 3 rfl, fun j => ?_, by simp, World.ownsRow_nil _ _ _ _, (fun c hc => by cases hc), (fun c hc => by cases hc)⟩
  unfold World.frozen?
  rw [heap_alloc_new w1 _]
  simp
theorem gw_rdg {wx wr : World} {gb : Nat} {f wy : Int} {ws : List Int} {wa : Option Addr} {wc : Nat} {C : List Tc} {x : Value} (h : Gw wx wr gb f wy (.slice wa ws.length wc) C x) (hw : Rd wr wa ws) (h0 : 0 < C.length) (h12 : C.length ≤ 12) :
    ∃ g c, x = .slice (some ⟨g, 0, none⟩) C.length c ∧ RdG wr ⟨f, wy, wa, ws, wc, some ⟨g, 0, none⟩, C, c⟩ := by
  obtain ⟨g, c, e, hg1, hg2⟩ := h.ox.form h0
  subst e
  refine ⟨g, c, rfl, hw, ?_, h.rd, fun _ => ⟨g, 0, rfl, hg2, fun i hi => ?_⟩⟩
  · show C.length ≤ maxLen
    unfold maxLen; omega
  · have hi' : i < C.length := hi
    rw [Nat.zero_add]
    refine (h.ox.cellAt i (by omega)).trans ?_
    rw [List.getElem?_map, List.getElem?_eq_getElem hi']
    rfl

end Go.Proofs.YtcaljnhdfbjpnaeDoor
