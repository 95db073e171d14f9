/-
  What package grove's Join answers, on: two groves that go together.
-/
import Derived.Test.YtandimbpealclacGJoin
namespace Go.Proofs.Ytandimbpealclac
open Go.ChangeShapes Go.WideShapes Go.ChangeAt Go.RowKit Go.Lib
set_option linter.unusedVariables false

theorem own_far0 {w : World} {base n e size p o : Nat} {v x : Value} {l : List Value} (h : w.ownsRow base e size v n l) (hp : p < base) : (w.setCell ⟨p, o, none⟩ x).ownsRow base e size v n l := by
  refine ⟨h.1, ?_⟩
  rcases h.2 with h0 | ⟨g, cap, cur, hv, h1, h2, h3⟩
  · exact .inl h0
  · refine .inr ⟨g, cap, cur, hv, h1, ?_, h3⟩
    rw [← h2]
    have : ¬ p = g := by omega
    simp [World.setCell, Array.getElem?_modify, this]
theorem far_set {W : World} {p o q : Nat} {v : Value} (h : p ≠ q) : (W.setCell ⟨p, o, none⟩ v).heap[q]? = W.heap[q]? := by
  simp [World.setCell, Array.getElem?_modify, h]
theorem same_cell {W W' : World} {q j : Nat} (h : W'.heap[q]? = W.heap[q]?) : W'.cell? ⟨q, j, none⟩ = W.cell? ⟨q, j, none⟩ := World.cell?_of_block h
theorem same_frozen {W W' : World} {q j : Nat} (h : W'.heap[q]? = W.heap[q]?) : W'.frozen? ⟨q, j, none⟩ = W.frozen? ⟨q, j, none⟩ := World.frozen?_of_block h
/-- blocks that stay -/
theorem Kj.same {a0 a1 a2 a3 b0 b1 b2 b3 : Value} {w W W' : World} (h : Kj a0 a1 a2 a3 b0 b1 b2 b3 w W) (hs : ∀ q, w.heap.size ≤ q → q < w.heap.size + 3 → W'.heap[q]? = W.heap[q]?) (hz : W.heap.size ≤ W'.heap.size) (hb : Below w.heap.size w W') : Kj a0 a1 a2 a3 b0 b1 b2 b3 w W' := by
  have c : ∀ (p j : Nat) (v : Value), w.heap.size ≤ p → p < w.heap.size + 3 → W.cell? ⟨p, j, none⟩ = some v → W'.cell? ⟨p, j, none⟩ = some v := fun p j v h0 hp hv => (same_cell (hs p h0 hp)).trans hv
  refine ⟨⟨c _ _ _ (by omega) (by omega) h.a.1, c _ _ _ (by omega) (by omega) h.a.2.1, c _ _ _ (by omega) (by omega) h.a.2.2.1, c _ _ _ (by omega) (by omega) h.a.2.2.2⟩, ⟨c _ _ _ (by omega) (by omega) h.b.1, c _ _ _ (by omega) (by omega) h.b.2.1, c _ _ _ (by omega) (by omega) h.b.2.2.1, c _ _ _ (by omega) (by omega) h.b.2.2.2⟩, ⟨c _ _ _ (by omega) (by omega) h.c.1, c _ _ _ (by omega) (by omega) h.c.2.1, c _ _ _ (by omega) (by omega) h.c.2.2.1, c _ _ _ (by omega) (by omega) h.c.2.2.2⟩, fun j => (same_frozen (hs _ (by omega) (by omega))).trans (h.fr j), Nat.le_trans h.size hz, hb⟩

/-- the new grove, while it is laid -/
structure Jt (a0 a1 a2 a3 b0 b1 b2 b3 : Value) (w : World) (Ws : List Int) (W : World) (gb bA cg : Nat) (x : Value) : Prop where
  kj : Kj a0 a1 a2 a3 b0 b1 b2 b3 w W
  c0 : W.cell? ⟨gb, 0, none⟩ = some a0
  c1 : W.cell? ⟨gb, 1, none⟩ = some a1
  c2 : W.cell? ⟨gb, 2, none⟩ = some (.slice (some ⟨bA, 0, none⟩) Ws.length cg)
  c3 : W.cell? ⟨gb, 3, none⟩ = some x
  fr : W.frozen? ⟨gb, 3, none⟩ = false
  ne : bA ≠ gb
  ge : w.heap.size + 3 ≤ bA
  gg : w.heap.size + 3 ≤ gb
  sz : gb < W.heap.size
  sA : bA < W.heap.size
  ws : ∀ i, i < Ws.length → W.cell? ⟨bA, i, none⟩ = some (.int .i64 (Ws.getD i 0))
theorem Jt.same {a0 a1 a2 a3 b0 b1 b2 b3 : Value} {w W W' : World} {Ws : List Int} {gb bA cg : Nat} {x : Value} (h : Jt a0 a1 a2 a3 b0 b1 b2 b3 w Ws W gb bA cg x) (hs : ∀ q, w.heap.size ≤ q → (q < w.heap.size + 3 ∨ q = gb ∨ q = bA) → W'.heap[q]? = W.heap[q]?) (hz : W.heap.size ≤ W'.heap.size) (hb : Below w.heap.size w W') : Jt a0 a1 a2 a3 b0 b1 b2 b3 w Ws W' gb bA cg x := by
  have hg := h.ge
  have hgg := h.gg
  have sg := hs gb (by omega) (.inr (.inl rfl))
  have sA := hs bA (by omega) (.inr (.inr rfl))
  exact ⟨h.kj.same (fun q h0 h1 => hs q h0 (.inl h1)) hz hb, (same_cell sg).trans h.c0, (same_cell sg).trans h.c1, (same_cell sg).trans h.c2, (same_cell sg).trans h.c3, (same_frozen sg).trans h.fr, h.ne, hg, hgg, Nat.lt_of_lt_of_le h.sz hz, Nat.lt_of_lt_of_le h.sA hz, fun i hi => (same_cell sA).trans (h.ws i hi)⟩
theorem Jt.up {a0 a1 a2 a3 b0 b1 b2 b3 : Value} {w W W' : World} {Ws : List Int} {gb bA cg : Nat} {x : Value} (h : Jt a0 a1 a2 a3 b0 b1 b2 b3 w Ws W gb bA cg x) (hb : Below W.heap.size W W') : Jt a0 a1 a2 a3 b0 b1 b2 b3 w Ws W' gb bA cg x :=
  h.same (fun q _ h1 => hb.block q (by have := h.sz; have := h.sA; have := h.kj.size; omega)) hb.size (below_on h.kj.below hb)
theorem Jt.put {a0 a1 a2 a3 b0 b1 b2 b3 : Value} {w W : World} {Ws : List Int} {gb bA cg : Nat} {x : Value} (h : Jt a0 a1 a2 a3 b0 b1 b2 b3 w Ws W gb bA cg x) (y : Value) : Jt a0 a1 a2 a3 b0 b1 b2 b3 w Ws (W.setCell ⟨gb, 3, none⟩ y) gb bA cg y := by
  have hl := h.ne
  have hg := h.gg
  have o : ∀ (j : Nat), j ≠ 3 → (W.setCell ⟨gb, 3, none⟩ y).cell? ⟨gb, j, none⟩ = W.cell? ⟨gb, j, none⟩ := fun j hj => World.cell?_setCell_other _ _ _ _ (by intro e; cases e; exact hj rfl)
  have sz : (W.setCell ⟨gb, 3, none⟩ y).heap.size = W.heap.size := by simp
  refine ⟨h.kj.same (fun q _ hq => far_set (by omega)) (by rw [sz]; exact Nat.le_refl _) (h.kj.below.setCell (p := ⟨gb, 3, none⟩) (show w.heap.size ≤ gb by omega) y), (o 0 (by decide)).trans h.c0, (o 1 (by decide)).trans h.c1, (o 2 (by decide)).trans h.c2, World.cell?_setCell_same _ _ _ h.c3, ?_, hl, h.ge, hg, by rw [sz]; exact h.sz, by rw [sz]; exact h.sA, fun i hi => (same_cell (far_set (fun e => hl e.symm))).trans (h.ws i hi)⟩
  simpa using h.fr

theorem rdn_same {W W' : World} {a : Option Addr} {ts : List M.Nd} (h : RdN W a ts) (hs : ∀ p, a = some p → W'.heap[p.block]? = W.heap[p.block]?) (hz : W.heap.size ≤ W'.heap.size) : RdN W' a ts :=
  ⟨h.1, fun hn => by
    obtain ⟨b, off, e, hl, hc⟩ := h.2 hn
    have hb : W'.heap[b]? = W.heap[b]? := hs _ e
    refine ⟨b, off, e, Nat.lt_of_lt_of_le hl hz, fun i hi => ?_⟩
    obtain ⟨h0, h1, h2, h3, h4, h5⟩ := hc i hi
    exact ⟨(same_cell hb).trans h0, (same_cell hb).trans h1, (same_cell hb).trans h2, (same_cell hb).trans h3, (same_cell hb).trans h4, (same_cell hb).trans h5⟩⟩

/-- .. with the first k trees copied -/
structure Lj (a0 a1 a2 a3 b0 b1 b2 b3 : Value) (w : World) (Ws : List Int) (S : List Tc) (B gb bA cg g : Nat) (W : World) (k : Nat) (x : Value) (C : List Tc) : Prop where
  jt : Jt a0 a1 a2 a3 b0 b1 b2 b3 w Ws W gb bA cg x
  own : W.ownsRow B 22 1 x k (C.map tV)
  len : C.length = k
  same : tl C = (tl S).take k
  rd : ∀ c ∈ C, RdN W c.1 c.2.1
  apart : ∀ c ∈ C, ∀ p, c.1 = some p → B ≤ p.block ∧ p.block < W.heap.size ∧ x.ownBlock ≠ some p.block
  src : ∀ i (h : i < S.length), W.cell? ⟨g, i, none⟩ = some (tV S[i])
  gB : g < B
  gbB : gb < g
  gA : bA < g
  sz : B ≤ W.heap.size
theorem Lj.up {a0 a1 a2 a3 b0 b1 b2 b3 : Value} {w W W' : World} {Ws : List Int} {S : List Tc} {B gb bA cg g k : Nat} {x : Value} {C : List Tc} (h : Lj a0 a1 a2 a3 b0 b1 b2 b3 w Ws S B gb bA cg g W k x C) (hb : Below W.heap.size W W') : Lj a0 a1 a2 a3 b0 b1 b2 b3 w Ws S B gb bA cg g W' k x C :=
  ⟨h.jt.up hb, own_up h.own hb, h.len, h.same, fun c hc => (h.rd c hc).below hb, fun c hc p hp => ⟨(h.apart c hc p hp).1, Nat.lt_of_lt_of_le (h.apart c hc p hp).2.1 hb.size, (h.apart c hc p hp).2.2⟩, fun i hi => (hb.cell (p := ⟨g, i, none⟩) (show g < _ by have := h.gB; have := h.sz; omega)).trans (h.src i hi), h.gB, h.gbB, h.gA, Nat.le_trans h.sz hb.size⟩
/-- behind an append -/
theorem Lj.mid {a0 a1 a2 a3 b0 b1 b2 b3 : Value} {w W W' : World} {Ws : List Int} {S : List Tc} {B gb bA cg g k : Nat} {x : Value} {C : List Tc} (h : Lj a0 a1 a2 a3 b0 b1 b2 b3 w Ws S B gb bA cg g W k x C) (hg : W.grownBy W' x.ownBlock) : Jt a0 a1 a2 a3 b0 b1 b2 b3 w Ws W' gb bA cg x := by
  have h1 : gb < B := Nat.lt_trans h.gbB h.gB
  have h2 := h.sz
  have hB : ∀ q, x.ownBlock = some q → B ≤ q := fun q hq => (h.own.lt q hq).1
  have := h.jt.ge
  have := h.jt.gg
  have := h.gA
  have := h.gB
  refine h.jt.same (fun q _ hq => hg.block q (by omega) (fun e => by have := hB q e.symm; omega)) hg.size ?_
  exact h.jt.kj.below.grown hg (by omega) (fun q hq => by have := hB q hq; omega)
theorem Lj.more {a0 a1 a2 a3 b0 b1 b2 b3 : Value} {w W0 W W' : World} {Ws : List Int} {S : List Tc} {B gb bA cg g k : Nat} {x : Value} {C : List Tc} (h : Lj a0 a1 a2 a3 b0 b1 b2 b3 w Ws S B gb bA cg g W k x C) (hW : W0.heap.size ≤ W.heap.size) (hx : ∀ q, x.ownBlock = some q → q < W0.heap.size) (hB0 : B ≤ W0.heap.size) {a : Option Addr} {ts : List M.Nd} {cp g2 cap2 : Nat} (hk : k < S.length) (hts : S[k].2.1 = ts) (hne : ts ≠ []) (hr : RdN W a ts) (ha : ∀ p, a = some p → W0.heap.size ≤ p.block)
    (hg : W.grownBy W' x.ownBlock) (ho : W'.ownsRow B 22 1 (.slice (some ⟨g2, 0, none⟩) (k + 1) cap2) (k + 1) (C.map tV ++ [.slice a ts.length cp])) (hor : x.ownBlock = some g2 ∨ g2 = W.heap.size) :
    Lj a0 a1 a2 a3 b0 b1 b2 b3 w Ws S B gb bA cg g (W'.setCell ⟨gb, 3, none⟩ (.slice (some ⟨g2, 0, none⟩) (k + 1) cap2)) (k + 1) (.slice (some ⟨g2, 0, none⟩) (k + 1) cap2) (C ++ [(a, ts, cp)]) := by
  have h1 : gb < B := Nat.lt_trans h.gbB h.gB
  have h2 := h.sz
  have h3 := h.gB
  have hB : ∀ q, x.ownBlock = some q → B ≤ q := fun q hq => (h.own.lt q hq).1
  have sz : (W'.setCell ⟨gb, 3, none⟩ (.slice (some ⟨g2, 0, none⟩) (k + 1) cap2)).heap.size = W'.heap.size := by simp
  have blk : ∀ q, B ≤ q → q < W.heap.size → x.ownBlock ≠ some q → (W'.setCell ⟨gb, 3, none⟩ (.slice (some ⟨g2, 0, none⟩) (k + 1) cap2)).heap[q]? = W.heap[q]? := fun q q1 q2 q3 => (far_set (by omega)).trans (hg.block q q2 (fun e => q3 e.symm))
  have nb : ∀ p, a = some p → B ≤ p.block ∧ p.block < W.heap.size ∧ x.ownBlock ≠ some p.block ∧ p.block ≠ g2 := fun p hp => by
    obtain ⟨b, off, e, hl, _⟩ := hr.2 hne
    have q0 := ha p hp
    rw [hp] at e
    cases e
    refine ⟨by simp at q0 ⊢; omega, hl, fun e => by have := hx _ e; simp at q0 this; omega, fun e => ?_⟩
    rcases hor with q | q
    · have := hx _ q; simp at q0 e; omega
    · simp at e; omega
  refine ⟨(h.mid hg).put _, ?_, by simp [h.len], ?_, ?_, ?_, fun i hi => ?_, h3, h.gbB, h.gA, by rw [sz]; exact Nat.le_trans h2 hg.size⟩
  · have := own_far0 ho (p := gb) (o := 3) (x := .slice (some ⟨g2, 0, none⟩) (k + 1) cap2) h1
    rw [List.map_append]
    exact this
  · have e : tl (C ++ [(a, ts, cp)]) = tl C ++ [ts] := by simp [tl]
    have hk' : k < (tl S).length := by rw [tl_len]; exact hk
    rw [e, h.same, List.take_add_one, List.getElem?_eq_getElem hk']
    simp [tl, hts]
  · intro c hc
    rcases List.mem_append.1 hc with q | q
    · exact rdn_same (h.rd c q) (fun p hp => blk _ (h.apart c q p hp).1 (h.apart c q p hp).2.1 (h.apart c q p hp).2.2) (by rw [sz]; exact hg.size)
    · have e : c = (a, ts, cp) := by simpa using q
      subst e
      exact rdn_same hr (fun p hp => blk _ (nb p hp).1 (nb p hp).2.1 (nb p hp).2.2.1) (by rw [sz]; exact hg.size)
  · intro c hc p hp
    rw [sz]
    have ow : Value.ownBlock (.slice (some ⟨g2, 0, none⟩) (k + 1) cap2) = some g2 := rfl
    rw [ow]
    rcases List.mem_append.1 hc with q | q
    · obtain ⟨q1, q2, q3⟩ := h.apart c q p hp
      refine ⟨q1, Nat.lt_of_lt_of_le q2 hg.size, fun e => ?_⟩
      cases e
      rcases hor with r | r
      · exact q3 r
      · omega
    · have e : c = (a, ts, cp) := by simpa using q
      subst e
      obtain ⟨q1, q2, q3, q4⟩ := nb p hp
      exact ⟨q1, Nat.lt_of_lt_of_le q2 hg.size, fun e => q4 (by cases e; rfl)⟩
  · exact (same_cell (far_set (by have := h.gbB; omega))).trans ((same_cell (hg.block g (by omega) (fun e => by have := hB g e.symm; omega))).trans (h.src i hi))

/-- the new grove, as it is handed back -/
theorem Lj.done {a2 a3 b0 b1 b2 b3 : Value} {f wy : Int} {w W : World} {Ws : List Int} {S : List Tc} {B gb bA cg g : Nat} {x : Value} {C : List Tc} (h : Lj (.int .i64 f) (.int .i64 wy) a2 a3 b0 b1 b2 b3 w Ws S B gb bA cg g W S.length x C) (hp : 0 < S.length) (h12 : S.length ≤ 12) (hw : Ws.length ≤ 12) (y0 y1 y2 y3 : Value) :
    ∃ J : Gr, x = .slice J.ta J.ks.length J.tc ∧ J.f = f ∧ J.w = wy ∧ J.wa = some ⟨bA, 0, none⟩ ∧ J.ws = Ws ∧ J.wc = cg ∧ tl J.ks = tl S ∧ RdG ((((W.setCell ⟨w.heap.size + 1 + 1, 0, none⟩ y0).setCell ⟨w.heap.size + 1 + 1, 1, none⟩ y1).setCell ⟨w.heap.size + 1 + 1, 2, none⟩ y2).setCell ⟨w.heap.size + 1 + 1, 3, none⟩ y3) J := by
  have far : ∀ q, w.heap.size + 3 ≤ q → ((((W.setCell ⟨w.heap.size + 1 + 1, 0, none⟩ y0).setCell ⟨w.heap.size + 1 + 1, 1, none⟩ y1).setCell ⟨w.heap.size + 1 + 1, 2, none⟩ y2).setCell ⟨w.heap.size + 1 + 1, 3, none⟩ y3).heap[q]? = W.heap[q]? := fun q hq => by
    rw [far_set (by omega), far_set (by omega), far_set (by omega), far_set (by omega)]
  have sz : ((((W.setCell ⟨w.heap.size + 1 + 1, 0, none⟩ y0).setCell ⟨w.heap.size + 1 + 1, 1, none⟩ y1).setCell ⟨w.heap.size + 1 + 1, 2, none⟩ y2).setCell ⟨w.heap.size + 1 + 1, 3, none⟩ y3).heap.size = W.heap.size := by simp
  generalize ((((W.setCell ⟨w.heap.size + 1 + 1, 0, none⟩ y0).setCell ⟨w.heap.size + 1 + 1, 1, none⟩ y1).setCell ⟨w.heap.size + 1 + 1, 2, none⟩ y2).setCell ⟨w.heap.size + 1 + 1, 3, none⟩ y3) = V at *
  have i1 := h.jt.ge
  have i2 := h.jt.gg
  have i3 := h.gbB
  have i6 := h.jt.sA
  have i4 := h.gB
  have i5 := h.jt.sz
  rcases h.own.2 with ⟨_, h0⟩ | ⟨gx, cap, cur, hv, hb, hg, q1, q2, q3, q4⟩
  · omega
  · refine ⟨⟨f, wy, some ⟨bA, 0, none⟩, Ws, cg, some ⟨gx, 0, none⟩, C, cap⟩, by rw [hv, h.len], rfl, rfl, rfl, rfl, rfl, ?_, ⟨?_, ?_⟩, ?_, ?_⟩
    · show tl C = tl S
      rw [h.same, List.take_of_length_le (by rw [tl_len]; exact Nat.le_refl _)]
    · show Ws.length ≤ maxLen
      unfold maxLen; omega
    · intro _
      exact ⟨bA, 0, rfl, by rw [sz]; omega, fun i hi => by rw [Nat.zero_add]; exact (same_cell (far bA i1)).trans (h.jt.ws i hi)⟩
    · show C.length ≤ maxLen
      rw [h.len]; unfold maxLen; omega
    · refine ⟨fun c hc => rdn_same (h.rd c hc) (fun p hp => far _ (by have := (h.apart c hc p hp).1; omega)) (by rw [sz]; exact Nat.le_refl _), fun _ => ⟨gx, 0, rfl, by rw [sz]; exact (Array.getElem?_eq_some_iff.1 hg).1, fun i hi => ?_⟩⟩
      have hi' : i < C.length := hi
      have e := h.own
      rw [hv] at e
      have hlen := h.len
      have := e.cellAt i (by omega)
      rw [Nat.zero_add]
      refine (same_cell (far gx (by omega))).trans (this.trans ?_)
      rw [List.getElem?_map, List.getElem?_eq_getElem hi']
      rfl

end Go.Proofs.Ytandimbpealclac
