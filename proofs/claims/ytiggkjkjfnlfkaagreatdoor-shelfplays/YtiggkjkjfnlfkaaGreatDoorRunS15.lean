/-
  Several texts as one: Groves, CdLay.
-/
import Derived.Test.YtiggkjkjfnlfkaaGreatDoorRunS10
import Derived.Test.YtiggkjkjfnlfkaaGreatDoorRunS11
import Derived.Lib.SmallJoins
namespace Go.Proofs.YtiggkjkjfnlfkaaGreatDoor
open Go.ChangeShapes Go.WideShapes Go.ChangeAt Go.RowKit Go.Deep
set_option linter.unusedVariables false
abbrev Tc := Option Addr × List M.Nd × Nat
def tV (k : Tc) : Value := .slice k.1 k.2.1.length k.2.2
/-- trees, where they lie -/
def RdT (w : World) (a : Option Addr) (ks : List Tc) : Prop :=
  ks.length ≤ maxLen ∧ (∀ k ∈ ks, RdN w k.1 k.2.1) ∧ (ks ≠ [] → ∃ b off, a = some ⟨b, off, none⟩ ∧ b < w.heap.size ∧ ∀ i (h : i < ks.length), w.cell? ⟨b, off + i, none⟩ = some (tV ks[i]))
theorem RdT.below {w w' : World} {a : Option Addr} {ks : List Tc} (h : RdT w a ks) (hb : Below w.heap.size w w') : RdT w' a ks :=
  ⟨h.1, fun k hk => (h.2.1 k hk).below hb, fun hn => by
    obtain ⟨b, off, e, hl, hc⟩ := h.2.2 hn
    exact ⟨b, off, e, Nat.lt_of_lt_of_le hl hb.size, fun i hi => (hb.cell (p := ⟨b, off + i, none⟩) hl).trans (hc i hi)⟩⟩
def tl (ks : List Tc) : List (List M.Nd) := ks.map (·.2.1)
theorem tl_len (ks : List Tc) : (tl ks).length = ks.length := by simp [tl]
theorem tl_at (ks : List Tc) {k : Nat} (h : k < ks.length) : (tl ks).getD k [] = ks[k].2.1 := by
  rw [M.getD_at (by rw [tl_len]; exact h)]; simp [tl]

/-- a grove, as it is handed on -/
structure Gr where
  f : Int
  w : Int
  wa : Option Addr
  ws : List Int
  wc : Nat
  ta : Option Addr
  ks : List Tc
  tc : Nat
def Gr.v (G : Gr) : Value := .agg #[.int .i64 G.f, .int .i64 G.w, .slice G.wa G.ws.length G.wc, .slice G.ta G.ks.length G.tc]
def Gr.m (G : Gr) : M.Gv := (G.f, G.w, G.ws, tl G.ks)
def RdG (w : World) (G : Gr) : Prop := Rd w G.wa G.ws ∧ RdT w G.ta G.ks
theorem RdG.below {w w' : World} {G : Gr} (h : RdG w G) (hb : Below w.heap.size w w') : RdG w' G := ⟨h.1.below hb, h.2.below hb⟩

theorem cellsTree : Tryz.prog.cellsOf 110 = 1 := by kernel_rfl
set_option maxRecDepth 10000 in
theorem open_trees {H : Type} {enc : TypeId × Value → H} {W : World} {base : Nat} {spare : Nat → Bool} {held : Bool} {fuel : Nat} {a : Option Addr} {len cap : Nat} {x : DataW H × List MemPlace}
    (h : DataW.trod enc Tryz.prog W base spare held fuel 51 [.slice a len cap] = some x) : ∃ ks : List Tc, ks.length = len ∧ RdT W a ks := by
  rcases open_slice Tryz.underlying51 h with ⟨hcs, _⟩ | ⟨a', len', cap', m, n, D, Pl, hcs, _, hl, hm, hmm, _, hx⟩
  · cases hcs
    exact ⟨[], rfl, ⟨Nat.zero_le _, (fun k hk => by cases hk), fun h => absurd rfl h⟩⟩
  · cases hcs
    have hlm : len ≤ m := by rw [hmm]; split <;> omega
    have each : ∀ i, i < len → ∃ k : Tc, W.cell? (a'.add i) = some (tV k) ∧ RdN W k.1 k.2.1 := by
      intro i hi
      obtain ⟨cs, h1, h2⟩ := hx i (by omega)
      rw [cellsTree] at h1
      obtain ⟨_, hlen, hcell⟩ := World.cells?_some h1
      match cs, hlen with
      | [c0], _ =>
        have d0 := hcell 0 (by omega)
        rw [add_add] at d0
        simp at d0
        have sl : ∃ b l c, c0 = .slice b l c := by
          rcases open_slice Tryz.underlying110 h2 with ⟨hcs, _⟩ | ⟨a2, len2, cap2, _, _, _, _, hcs, _⟩
          · exact ⟨none, 0, 0, by cases hcs; rfl⟩
          · exact ⟨some a2, len2, cap2, by cases hcs; rfl⟩
        obtain ⟨b, l, c, rfl⟩ := sl
        obtain ⟨ts, e, hr⟩ := open_nodes h2
        subst e
        exact ⟨(b, ts, c), d0, hr⟩
    obtain ⟨f, hf⟩ := choose_lt each
    refine ⟨(List.range len).map f, by simp, ⟨by simp; omega, ?_, fun hne => ?_⟩⟩
    · intro k hk
      rw [List.mem_map] at hk
      obtain ⟨i, hi, rfl⟩ := hk
      exact (hf i (by simpa using hi)).2
    · have hp : 0 < len := by
        rcases Nat.eq_zero_or_pos len with h0 | h0
        · subst h0; exact absurd rfl hne
        · exact h0
      obtain ⟨b, off, spot⟩ := a'
      have hspot : spot = none := by
        have := World.cell?_spot (hf 0 hp).1
        simpa [Addr.add] using this
      subst hspot
      refine ⟨b, off, rfl, ?_, fun i hi => ?_⟩
      · have := (hf 0 hp).1
        rw [add_flat] at this
        exact block_lt_of_cell this
      · have hi' : i < len := by simpa using hi
        have q := (hf i hi').1
        rw [add_flat] at q
        rw [q]; simp

theorem cellsGrove : Tryz.prog.cellsOf 53 = 4 := by kernel_rfl
theorem cellsRow : Tryz.prog.cellsOf 50 = 1 := by kernel_rfl
theorem cellsTrees : Tryz.prog.cellsOf 51 = 1 := by kernel_rfl
set_option maxRecDepth 10000 in
theorem open_grove {H : Type} {enc : TypeId × Value → H} {W : World} {base b0 : Nat} {held : Bool} {v : Value} {d : DataW H} {ps : List MemPlace}
    (hv : Value.okWide Tryz.prog W .any base 53 v) (h : DataW.Trod enc Tryz.prog W b0 (fun _ => true) held 53 v d ps) : ∃ G : Gr, v = G.v ∧ RdG W G := by
  obtain ⟨cs, rfl, hsz⟩ := okWide_struct Tryz.underlying53 hv
  rw [cellsGrove] at hsz
  obtain ⟨c0, c1, c2, c3, rfl⟩ := Joins.array4 hsz
  obtain ⟨fuel, hf⟩ := h
  obtain ⟨y0, y1, y2, y3, n, _, _, g0, g1, g2, g3⟩ := Joins.trod_struct4 Tryz.underlying53 hf
  rw [cellsInt] at g0 g1
  rw [cellsRow] at g2
  rw [cellsTrees] at g3
  obtain ⟨n0, e0, _⟩ := DataW.trod_int Tryz.underlying3 g0
  obtain ⟨n1, e1, _⟩ := DataW.trod_int Tryz.underlying3 g1
  simp [Value.cells] at e0 e1 g2 g3
  subst e0
  subst e1
  obtain ⟨wa, ws, wc, rfl, hw⟩ : ∃ wa ws wc, c2 = .slice wa (List.length (α := Int) ws) wc ∧ Rd W wa ws := by
    rcases open_ints Tryz.underlying50 Tryz.underlying3 (by kernel_rfl) g2 with ⟨hcs, _⟩ | ⟨x, l, c, zs, hcs, _, hl, hm, hz, _, hcell, hwz⟩
    · cases hcs
      exact ⟨none, [], 0, rfl, ⟨Nat.zero_le _, fun h => absurd rfl h⟩⟩
    · cases hcs
      have y : IsRow .i64 W (some x) l c zs := .inr ⟨_, rfl, hl, hm, by simpa using hz, hcell, hwz⟩
      exact ⟨some x, zs.take l, c, by rw [(rd_of y).2], (rd_of y).1⟩
  obtain ⟨ta, ks, tc, rfl, hk⟩ : ∃ ta ks tc, c3 = .slice ta (List.length (α := Tc) ks) tc ∧ RdT W ta ks := by
    have sl : ∃ b l c, c3 = .slice b l c := by
      rcases open_slice Tryz.underlying51 g3 with ⟨hcs, _⟩ | ⟨a2, len2, cap2, _, _, _, _, hcs, _⟩
      · exact ⟨none, 0, 0, by cases hcs; rfl⟩
      · exact ⟨some a2, len2, cap2, by cases hcs; rfl⟩
    obtain ⟨b, l, c, rfl⟩ := sl
    obtain ⟨ks, e, hr⟩ := open_trees g3
    subst e
    exact ⟨b, ks, c, rfl, hr⟩
  exact ⟨⟨n0, n1, wa, ws, wc, ta, ks, tc⟩, rfl, hw, hk⟩
end Go.Proofs.YtiggkjkjfnlfkaaGreatDoor

namespace Go.Proofs.YtiggkjkjfnlfkaaGreatDoor
open Go.ChangeShapes Go.WideShapes Go.ChangeAt Go.RowKit Go.Lib
set_option linter.unusedVariables false
theorem rdN_same {W W' : World} {a : Option Addr} {ts : List M.Nd} (h : RdN W a ts) (hs : W.heap.size ≤ W'.heap.size) (he : ∀ p, a = some p → W'.heap[p.block]? = W.heap[p.block]?) : RdN W' a ts :=
  ⟨h.1, fun hn => by
    obtain ⟨b, off, e, hl, hc⟩ := h.2 hn
    have hb : W'.heap[b]? = W.heap[b]? := he _ e
    have k : ∀ j v, W.cell? ⟨b, j, none⟩ = some v → W'.cell? ⟨b, j, none⟩ = some v := fun j v hv => (World.cell?_of_block (a := ⟨b, j, none⟩) hb).trans hv
    exact ⟨b, off, e, Nat.lt_of_lt_of_le hl hs, fun i hi => ⟨k _ _ (hc i hi).1, k _ _ (hc i hi).2.1, k _ _ (hc i hi).2.2.1, k _ _ (hc i hi).2.2.2.1, k _ _ (hc i hi).2.2.2.2.1, k _ _ (hc i hi).2.2.2.2.2⟩⟩⟩

structure GW (w : World) (g rb gb : Nat) (f m : Int) (kw : Nat) (ya : Option Addr) (yc : Nat) (ws : List Int) (kt : Nat) (xa : Option Addr) (xc : Nat) (D : List Tc) (W : World) : Prop where
  gr : w.grownBy W (some g)
  r : ∀ j, j < 4 → ∃ v, W.cell? ⟨rb, j, none⟩ = some v
  rf : ∀ j, W.frozen? ⟨rb, j, none⟩ = false
  c0 : W.cell? ⟨gb, 0, none⟩ = some (.int .i64 f)
  c1 : W.cell? ⟨gb, 1, none⟩ = some (.int .i64 m)
  c2 : W.cell? ⟨gb, 2, none⟩ = some (.slice ya kw yc)
  c3 : W.cell? ⟨gb, 3, none⟩ = some (.slice xa kt xc)
  fr : ∀ j, W.frozen? ⟨gb, j, none⟩ = false
  lt : gb < W.heap.size
  ge : rb < gb
  wr : w.heap.size ≤ rb
  gn : g ≠ rb ∧ g < gb
  ow : W.ownsRow (gb + 1) 3 1 (.slice ya kw yc) kw (ws.map (Value.int .i64))
  ox : W.ownsRow (gb + 1) 110 1 (.slice xa kt xc) kt (D.map tV)
  xy : ∀ q, (Value.slice ya kw yc).ownBlock = some q → (Value.slice xa kt xc).ownBlock ≠ some q
  tr : ∀ t ∈ D, RdN W t.1 t.2.1 ∧ ∀ p, t.1 = some p → gb < p.block ∧ p.block < W.heap.size ∧ (Value.slice ya kw yc).ownBlock ≠ some p.block ∧ (Value.slice xa kt xc).ownBlock ≠ some p.block
theorem kept_not {W : World} {e size n B : Nat} {v : Value} {l : List Value} {r : Option Nat} {W' : World} (ho : W.ownsRow B e size v n l) (hg : W.grownBy W' r) (hr : ∀ q, v.ownBlock = some q → r ≠ some q) : W'.ownsRow B e size v n l := by
  refine ho.kept hg ?_
  cases hv : v.ownBlock with
  | none => exact .inl rfl
  | some q => exact .inr fun e => hr q hv e.symm
/-- it is empty at first -/
theorem GW.new {w : World} {g : Nat} {f : Int} {m : Int} {w2 : World} (hg : (w.alloc (.cells #[.int .i64 0, .int .i64 0, .slice none 0 0, .slice none 0 0] 53)).grownBy w2 (some g)) (gl : g < w.heap.size) : GW w g w.heap.size w2.heap.size f m 0 none 0 [] 0 none 0 [] (w2.alloc (.cells #[.int .i64 f, .int .i64 m, .slice none 0 0, .slice none 0 0] 53)) := by
  have n := new_grown hg gl
  have z : w.heap.size < w2.heap.size := by have := hg.size; simp at this; omega
  have bl := (Below.refl w2.heap.size w2).alloc (Nat.le_refl _) (.cells #[.int .i64 f, .int .i64 m, .slice none 0 0, .slice none 0 0] 53)
  have k := new_kept (w := w2) (cs := #[.int .i64 f, .int .i64 m, .slice none 0 0, .slice none 0 0]) (t := 53) rfl (Below.refl _ _)
  refine ⟨grown_trans (grown_new hg) (World.grownBy_alloc w2 _ (some g)) (.inl rfl), fun j hj => ?_, fun j => (bl.frozen (p := ⟨w.heap.size, j, none⟩) z).trans (n.2 j), k.1 0 _ rfl, k.1 1 _ rfl, k.1 2 _ rfl, k.1 3 _ rfl, k.2, by simp, z, Nat.le_refl _, ⟨by omega, by omega⟩, World.ownsRow_nil _ _ _ _, World.ownsRow_nil _ _ _ _, (fun q hq => by cases hq), (fun t ht => by cases ht)⟩
  rw [show (w2.alloc (.cells #[.int .i64 f, .int .i64 m, .slice none 0 0, .slice none 0 0] 53)).cell? ⟨w.heap.size, j, none⟩ = w2.cell? ⟨w.heap.size, j, none⟩ from bl.cell (p := ⟨w.heap.size, j, none⟩) z]
  match j, hj with
  | 0, _ => exact ⟨_, n.1 0 _ rfl⟩
  | 1, _ => exact ⟨_, n.1 1 _ rfl⟩
  | 2, _ => exact ⟨_, n.1 2 _ rfl⟩
  | 3, _ => exact ⟨_, n.1 3 _ rfl⟩
/-- the reader goes on -/
theorem GW.rdr {w : World} {g : Nat} {rb : Nat} {gb : Nat} {f : Int} {m : Int} {kw : Nat} {ya : Option Addr} {yc : Nat} {ws : List Int} {kt : Nat} {xa : Option Addr} {xc : Nat} {D : List Tc} {W : World} (h : GW w g rb gb f m kw ya yc ws kt xa xc D W) {W' : World} (hg : W.grownBy W' (some g)) : GW w g rb gb f m kw ya yc ws kt xa xc D W' := by
  have hge := h.ge
  have hlt := h.lt
  have hgn := h.gn
  have b : ∀ q, (q = rb ∨ gb ≤ q) → q < W.heap.size → W'.heap[q]? = W.heap[q]? := fun q h1 h2 => hg.block q h2 (fun e => by cases e; omega)
  have cc : ∀ q j, (q = rb ∨ gb ≤ q) → q < W.heap.size → W'.cell? ⟨q, j, none⟩ = W.cell? ⟨q, j, none⟩ := fun q j h1 h2 => World.cell?_of_block (a := ⟨q, j, none⟩) (b q h1 h2)
  have ff : ∀ q j, (q = rb ∨ gb ≤ q) → q < W.heap.size → W'.frozen? ⟨q, j, none⟩ = W.frozen? ⟨q, j, none⟩ := fun q j h1 h2 => World.frozen?_of_block (a := ⟨q, j, none⟩) (b q h1 h2)
  refine ⟨grown_trans h.gr hg (.inl rfl), fun j hj => ?_, fun j => (ff _ j (.inl rfl) (by omega)).trans (h.rf j), (cc _ 0 (.inr (Nat.le_refl _)) hlt).trans h.c0, (cc _ 1 (.inr (Nat.le_refl _)) hlt).trans h.c1, (cc _ 2 (.inr (Nat.le_refl _)) hlt).trans h.c2, (cc _ 3 (.inr (Nat.le_refl _)) hlt).trans h.c3, fun j => (ff _ j (.inr (Nat.le_refl _)) hlt).trans (h.fr j), Nat.lt_of_lt_of_le hlt hg.size, hge, h.wr, hgn, kept_not h.ow hg (fun q hq e => by cases e; have := (h.ow.lt _ hq).1; omega), kept_not h.ox hg (fun q hq e => by cases e; have := (h.ox.lt _ hq).1; omega), h.xy, fun t ht => ?_⟩
  · rw [cc _ j (.inl rfl) (by omega)]; exact h.r j hj
  · obtain ⟨t1, t2⟩ := h.tr t ht
    exact ⟨rdN_same t1 hg.size (fun p hp => b _ (.inr (by have := (t2 p hp).1; omega)) (t2 p hp).2.1), fun p hp => ⟨(t2 p hp).1, Nat.lt_of_lt_of_le (t2 p hp).2.1 hg.size, (t2 p hp).2.2⟩⟩
/-- one weight more, and its slice stored -/
theorem GW.weight {w : World} {g : Nat} {rb : Nat} {gb : Nat} {f : Int} {m : Int} {kw : Nat} {ya : Option Addr} {yc : Nat} {ws : List Int} {kt : Nat} {xa : Option Addr} {xc : Nat} {D : List Tc} {W : World} (h : GW w g rb gb f m kw ya yc ws kt xa xc D W) {n : Int} {o : Obj} {w5 : World} {g2 cap : Nat}
    (hown : w5.ownsRow (gb + 1) 3 1 (.slice (some ⟨g2, 0, none⟩) (kw + 1) cap) (kw + 1) (ws.map (Value.int .i64) ++ [.int .i64 n])) (hgrow : (W.alloc o).grownBy w5 (Value.slice ya kw yc).ownBlock) (hat : (Value.slice ya kw yc).ownBlock = some g2 ∨ g2 = W.heap.size + 1) :
    (w5.cell? ⟨gb, 2, none⟩ = some (.slice ya kw yc) ∧ w5.frozen? ⟨gb, 2, none⟩ = false) ∧ W.grownBy w5 (Value.slice ya kw yc).ownBlock ∧ GW w g rb gb f m (kw + 1) (some ⟨g2, 0, none⟩) cap (ws ++ [n]) kt xa xc D (w5.setCell ⟨gb, 2, none⟩ (.slice (some ⟨g2, 0, none⟩) (kw + 1) cap)) := by
  have hge := h.ge
  have hlt := h.lt
  have hwr := h.wr
  have hgr : W.grownBy w5 (Value.slice ya kw yc).ownBlock := grown_new hgrow
  have yb : ∀ q, (Value.slice ya kw yc).ownBlock = some q → gb + 1 ≤ q ∧ q < W.heap.size := fun q e => h.ow.lt q e
  have b5 : ∀ q, q < W.heap.size → (Value.slice ya kw yc).ownBlock ≠ some q → w5.heap[q]? = W.heap[q]? := fun q h1 h2 => hgr.block q h1 (fun e => h2 e.symm)
  have cf : ∀ j, w5.cell? ⟨gb, j, none⟩ = W.cell? ⟨gb, j, none⟩ := fun j => World.cell?_of_block (a := ⟨gb, j, none⟩) (b5 gb hlt (fun e => by have := (yb _ e).1; omega))
  have ff : ∀ j, w5.frozen? ⟨gb, j, none⟩ = W.frozen? ⟨gb, j, none⟩ := fun j => World.frozen?_of_block (a := ⟨gb, j, none⟩) (b5 gb hlt (fun e => by have := (yb _ e).1; omega))
  have gs : w5.grownBy (w5.setCell ⟨gb, 2, none⟩ (.slice (some ⟨g2, 0, none⟩) (kw + 1) cap)) (some gb) := grown_set
  have b6 : ∀ q, q < W.heap.size → (Value.slice ya kw yc).ownBlock ≠ some q → q ≠ gb → (w5.setCell ⟨gb, 2, none⟩ (.slice (some ⟨g2, 0, none⟩) (kw + 1) cap)).heap[q]? = W.heap[q]? := fun q h1 h2 h3 => (gs.block q (Nat.lt_of_lt_of_le h1 hgr.size) (fun e => h3 (by cases e; rfl))).trans (b5 q h1 h2)
  have rbl : rb < W.heap.size := by omega
  have rq : (Value.slice ya kw yc).ownBlock ≠ some rb := fun e => by have := (yb _ e).1; omega
  have ob : (Value.slice (some ⟨g2, 0, none⟩) (kw + 1) cap).ownBlock = some g2 := rfl
  have gn : ∀ q, q < W.heap.size → (Value.slice ya kw yc).ownBlock ≠ some q → g2 ≠ q := fun q h1 h2 e => by
    rcases hat with z | z
    · exact h2 (by rw [z, e])
    · omega
  refine ⟨⟨(cf 2).trans h.c2, (ff 2).trans (h.fr 2)⟩, hgr, ⟨grown_trans (grown_trans h.gr hgr (.inr (fun q hq => by have := (yb q hq).1; omega))) gs (.inr (fun q hq => by cases hq; omega)), fun j hj => ?_, fun j => ?_, ?_, ?_, ?_, ?_, fun j => ?_, ?_, hge, hwr, h.gn, ?_, ?_, fun q hq => ?_, fun t ht => ?_⟩⟩
  · rw [World.cell?_of_block (a := ⟨rb, j, none⟩) (b6 rb rbl rq (by omega))]; exact h.r j hj
  · rw [World.frozen?_of_block (a := ⟨rb, j, none⟩) (b6 rb rbl rq (by omega))]; exact h.rf j
  · rw [World.cell?_setCell_other _ _ _ _ (by intro e; cases e)]; exact (cf 0).trans h.c0
  · rw [World.cell?_setCell_other _ _ _ _ (by intro e; cases e)]; exact (cf 1).trans h.c1
  · exact World.cell?_setCell_same (u := .slice ya kw yc) _ _ _ ((cf 2).trans h.c2)
  · rw [World.cell?_setCell_other _ _ _ _ (by intro e; cases e)]; exact (cf 3).trans h.c3
  · rw [World.frozen?_setCell]; exact (ff j).trans (h.fr j)
  · have := gs.size; have := hgr.size; omega
  · rw [List.map_append]
    exact kept_not hown gs (fun q hq e => by cases e; have := (hown.lt _ hq).1; omega)
  · exact kept_not (kept_not h.ox hgr (fun q hq e => h.xy q e hq)) gs (fun q hq e => by cases e; have := (h.ox.lt _ hq).1; omega)
  · intro e
    rw [ob] at hq
    cases hq
    exact gn _ (h.ox.lt _ e).2 (fun z => h.xy _ z e) rfl
  · obtain ⟨t1, t2⟩ := h.tr t ht
    refine ⟨rdN_same t1 (by have := gs.size; have := hgr.size; omega) (fun p hp => b6 _ (t2 p hp).2.1 (t2 p hp).2.2.1 (by have := (t2 p hp).1; omega)), fun p hp => ⟨(t2 p hp).1, by have := gs.size; have := hgr.size; have := (t2 p hp).2.1; omega, fun e => ?_, (t2 p hp).2.2.2⟩⟩
    rw [ob] at e
    cases e
    exact gn _ (t2 p hp).2.1 (t2 p hp).2.2.1 rfl
/-- one tree more, and its slice stored -/
theorem GW.tree {w : World} {g : Nat} {rb : Nat} {gb : Nat} {f : Int} {m : Int} {kw : Nat} {ya : Option Addr} {yc : Nat} {ws : List Int} {kt : Nat} {xa : Option Addr} {xc : Nat} {D : List Tc} {W : World} (h : GW w g rb gb f m kw ya yc ws kt xa xc D W) {t : Tc} (ht : RdN W t.1 t.2.1) (hp : ∀ p, t.1 = some p → gb < p.block ∧ p.block < W.heap.size ∧ (Value.slice ya kw yc).ownBlock ≠ some p.block ∧ (Value.slice xa kt xc).ownBlock ≠ some p.block) {o : Obj} {w5 : World} {g2 cap : Nat}
    (hown : w5.ownsRow (gb + 1) 110 1 (.slice (some ⟨g2, 0, none⟩) (kt + 1) cap) (kt + 1) (D.map tV ++ [tV t])) (hgrow : (W.alloc o).grownBy w5 (Value.slice xa kt xc).ownBlock) (hat : (Value.slice xa kt xc).ownBlock = some g2 ∨ g2 = W.heap.size + 1) :
    (w5.cell? ⟨gb, 3, none⟩ = some (.slice xa kt xc) ∧ w5.frozen? ⟨gb, 3, none⟩ = false) ∧ W.grownBy w5 (Value.slice xa kt xc).ownBlock ∧ GW w g rb gb f m kw ya yc ws (kt + 1) (some ⟨g2, 0, none⟩) cap (D ++ [t]) (w5.setCell ⟨gb, 3, none⟩ (.slice (some ⟨g2, 0, none⟩) (kt + 1) cap)) := by
  have hge := h.ge
  have hlt := h.lt
  have hwr := h.wr
  have hgr : W.grownBy w5 (Value.slice xa kt xc).ownBlock := grown_new hgrow
  have yb : ∀ q, (Value.slice xa kt xc).ownBlock = some q → gb + 1 ≤ q ∧ q < W.heap.size := fun q e => h.ox.lt q e
  have b5 : ∀ q, q < W.heap.size → (Value.slice xa kt xc).ownBlock ≠ some q → w5.heap[q]? = W.heap[q]? := fun q h1 h2 => hgr.block q h1 (fun e => h2 e.symm)
  have cf : ∀ j, w5.cell? ⟨gb, j, none⟩ = W.cell? ⟨gb, j, none⟩ := fun j => World.cell?_of_block (a := ⟨gb, j, none⟩) (b5 gb hlt (fun e => by have := (yb _ e).1; omega))
  have ff : ∀ j, w5.frozen? ⟨gb, j, none⟩ = W.frozen? ⟨gb, j, none⟩ := fun j => World.frozen?_of_block (a := ⟨gb, j, none⟩) (b5 gb hlt (fun e => by have := (yb _ e).1; omega))
  have gs : w5.grownBy (w5.setCell ⟨gb, 3, none⟩ (.slice (some ⟨g2, 0, none⟩) (kt + 1) cap)) (some gb) := grown_set
  have b6 : ∀ q, q < W.heap.size → (Value.slice xa kt xc).ownBlock ≠ some q → q ≠ gb → (w5.setCell ⟨gb, 3, none⟩ (.slice (some ⟨g2, 0, none⟩) (kt + 1) cap)).heap[q]? = W.heap[q]? := fun q h1 h2 h3 => (gs.block q (Nat.lt_of_lt_of_le h1 hgr.size) (fun e => h3 (by cases e; rfl))).trans (b5 q h1 h2)
  have rbl : rb < W.heap.size := by omega
  have rq : (Value.slice xa kt xc).ownBlock ≠ some rb := fun e => by have := (yb _ e).1; omega
  have ob : (Value.slice (some ⟨g2, 0, none⟩) (kt + 1) cap).ownBlock = some g2 := rfl
  have gn : ∀ q, q < W.heap.size → (Value.slice xa kt xc).ownBlock ≠ some q → g2 ≠ q := fun q h1 h2 e => by
    rcases hat with z | z
    · exact h2 (by rw [z, e])
    · omega
  refine ⟨⟨(cf 3).trans h.c3, (ff 3).trans (h.fr 3)⟩, hgr, ⟨grown_trans (grown_trans h.gr hgr (.inr (fun q hq => by have := (yb q hq).1; omega))) gs (.inr (fun q hq => by cases hq; omega)), fun j hj => ?_, fun j => ?_, ?_, ?_, ?_, ?_, fun j => ?_, ?_, hge, hwr, h.gn, ?_, ?_, fun q hq e => ?_, fun t' ht' => ?_⟩⟩
  · rw [World.cell?_of_block (a := ⟨rb, j, none⟩) (b6 rb rbl rq (by omega))]; exact h.r j hj
  · rw [World.frozen?_of_block (a := ⟨rb, j, none⟩) (b6 rb rbl rq (by omega))]; exact h.rf j
  · rw [World.cell?_setCell_other _ _ _ _ (by intro e; cases e)]; exact (cf 0).trans h.c0
  · rw [World.cell?_setCell_other _ _ _ _ (by intro e; cases e)]; exact (cf 1).trans h.c1
  · rw [World.cell?_setCell_other _ _ _ _ (by intro e; cases e)]; exact (cf 2).trans h.c2
  · exact World.cell?_setCell_same (u := .slice xa kt xc) _ _ _ ((cf 3).trans h.c3)
  · rw [World.frozen?_setCell]; exact (ff j).trans (h.fr j)
  · have := gs.size; have := hgr.size; omega
  · exact kept_not (kept_not h.ow hgr (fun q hq e => h.xy q hq e)) gs (fun q hq e => by cases e; have := (h.ow.lt _ hq).1; omega)
  · rw [List.map_append]
    exact kept_not hown gs (fun q hq e => by cases e; have := (hown.lt _ hq).1; omega)
  · rw [ob] at e
    cases e
    exact gn _ (h.ow.lt _ hq).2 (fun z => h.xy _ hq z) rfl
  · have one : ∀ t : Tc, RdN W t.1 t.2.1 → (∀ p, t.1 = some p → gb < p.block ∧ p.block < W.heap.size ∧ (Value.slice ya kw yc).ownBlock ≠ some p.block ∧ (Value.slice xa kt xc).ownBlock ≠ some p.block) → RdN (w5.setCell ⟨gb, 3, none⟩ (.slice (some ⟨g2, 0, none⟩) (kt + 1) cap)) t.1 t.2.1 ∧ ∀ p, t.1 = some p → gb < p.block ∧ p.block < (w5.setCell ⟨gb, 3, none⟩ (.slice (some ⟨g2, 0, none⟩) (kt + 1) cap)).heap.size ∧ (Value.slice ya kw yc).ownBlock ≠ some p.block ∧ (Value.slice (some ⟨g2, 0, none⟩) (kt + 1) cap).ownBlock ≠ some p.block := fun t t1 t2 => by
      refine ⟨rdN_same t1 (by have := gs.size; have := hgr.size; omega) (fun p hp => b6 _ (t2 p hp).2.1 (t2 p hp).2.2.2 (by have := (t2 p hp).1; omega)), fun p hp => ⟨(t2 p hp).1, by have := gs.size; have := hgr.size; have := (t2 p hp).2.1; omega, (t2 p hp).2.2.1, fun e => ?_⟩⟩
      rw [ob] at e
      cases e
      exact gn _ (t2 p hp).2.1 (t2 p hp).2.2.2 rfl
    rcases List.mem_append.1 ht' with z | z
    · exact one t' (h.tr t' z).1 (h.tr t' z).2
    · rw [List.mem_singleton] at z
      subst z
      exact one _ ht hp
/-- its first two numbers, written -/
theorem GW.setF {w : World} {g : Nat} {rb : Nat} {gb : Nat} {f : Int} {m : Int} {kw : Nat} {ya : Option Addr} {yc : Nat} {ws : List Int} {kt : Nat} {xa : Option Addr} {xc : Nat} {D : List Tc} {W : World} (h : GW w g rb gb f m kw ya yc ws kt xa xc D W) (x : Int) : GW w g rb gb x m kw ya yc ws kt xa xc D (W.setCell ⟨gb, 0, none⟩ (.int .i64 x)) := by
  have hge := h.ge
  have hlt := h.lt
  have hwr := h.wr
  have gs : W.grownBy (W.setCell ⟨gb, 0, none⟩ (.int .i64 x)) (some gb) := grown_set
  have b6 : ∀ q, q < W.heap.size → q ≠ gb → (W.setCell ⟨gb, 0, none⟩ (.int .i64 x)).heap[q]? = W.heap[q]? := fun q h1 h3 => gs.block q h1 (fun e => h3 (by cases e; rfl))
  have o : ∀ j u, j ≠ 0 → W.cell? ⟨gb, j, none⟩ = some u → (W.setCell ⟨gb, 0, none⟩ (.int .i64 x)).cell? ⟨gb, j, none⟩ = some u := fun j u hj hu => cell_set_other hu (fun e => hj e.symm)
  refine ⟨grown_trans h.gr gs (.inr (fun q hq => by cases hq; omega)), fun j hj => ?_, fun j => ?_, cell_set_same h.c0, o _ _ (by decide) h.c1, o _ _ (by decide) h.c2, o _ _ (by decide) h.c3, fun j => frozen_set (h.fr j), by simpa using hlt, hge, hwr, h.gn, kept_not h.ow gs (fun q hq e => by cases e; have := (h.ow.lt _ hq).1; omega), kept_not h.ox gs (fun q hq e => by cases e; have := (h.ox.lt _ hq).1; omega), h.xy, fun t ht => ?_⟩
  · rw [World.cell?_of_block (a := ⟨rb, j, none⟩) (b6 rb (by omega) (by omega))]; exact h.r j hj
  · rw [World.frozen?_of_block (a := ⟨rb, j, none⟩) (b6 rb (by omega) (by omega))]; exact h.rf j
  · obtain ⟨t1, t2⟩ := h.tr t ht
    exact ⟨rdN_same t1 gs.size (fun p hp => b6 _ (t2 p hp).2.1 (by have := (t2 p hp).1; omega)), fun p hp => ⟨(t2 p hp).1, Nat.lt_of_lt_of_le (t2 p hp).2.1 gs.size, (t2 p hp).2.2⟩⟩
theorem GW.setM {w : World} {g : Nat} {rb : Nat} {gb : Nat} {f : Int} {m : Int} {kw : Nat} {ya : Option Addr} {yc : Nat} {ws : List Int} {kt : Nat} {xa : Option Addr} {xc : Nat} {D : List Tc} {W : World} (h : GW w g rb gb f m kw ya yc ws kt xa xc D W) (x : Int) : GW w g rb gb f x kw ya yc ws kt xa xc D (W.setCell ⟨gb, 1, none⟩ (.int .i64 x)) := by
  have hge := h.ge
  have hlt := h.lt
  have hwr := h.wr
  have gs : W.grownBy (W.setCell ⟨gb, 1, none⟩ (.int .i64 x)) (some gb) := grown_set
  have b6 : ∀ q, q < W.heap.size → q ≠ gb → (W.setCell ⟨gb, 1, none⟩ (.int .i64 x)).heap[q]? = W.heap[q]? := fun q h1 h3 => gs.block q h1 (fun e => h3 (by cases e; rfl))
  have o : ∀ j u, j ≠ 1 → W.cell? ⟨gb, j, none⟩ = some u → (W.setCell ⟨gb, 1, none⟩ (.int .i64 x)).cell? ⟨gb, j, none⟩ = some u := fun j u hj hu => cell_set_other hu (fun e => hj e.symm)
  refine ⟨grown_trans h.gr gs (.inr (fun q hq => by cases hq; omega)), fun j hj => ?_, fun j => ?_, o _ _ (by decide) h.c0, cell_set_same h.c1, o _ _ (by decide) h.c2, o _ _ (by decide) h.c3, fun j => frozen_set (h.fr j), by simpa using hlt, hge, hwr, h.gn, kept_not h.ow gs (fun q hq e => by cases e; have := (h.ow.lt _ hq).1; omega), kept_not h.ox gs (fun q hq e => by cases e; have := (h.ox.lt _ hq).1; omega), h.xy, fun t ht => ?_⟩
  · rw [World.cell?_of_block (a := ⟨rb, j, none⟩) (b6 rb (by omega) (by omega))]; exact h.r j hj
  · rw [World.frozen?_of_block (a := ⟨rb, j, none⟩) (b6 rb (by omega) (by omega))]; exact h.rf j
  · obtain ⟨t1, t2⟩ := h.tr t ht
    exact ⟨rdN_same t1 gs.size (fun p hp => b6 _ (t2 p hp).2.1 (by have := (t2 p hp).1; omega)), fun p hp => ⟨(t2 p hp).1, Nat.lt_of_lt_of_le (t2 p hp).2.1 gs.size, (t2 p hp).2.2⟩⟩
/-- a tree that is new lies apart -/
theorem GW.fresh {w : World} {g : Nat} {rb : Nat} {gb : Nat} {f : Int} {m : Int} {kw : Nat} {ya : Option Addr} {yc : Nat} {ws : List Int} {kt : Nat} {xa : Option Addr} {xc : Nat} {D : List Tc} {W : World} (h : GW w g rb gb f m kw ya yc ws kt xa xc D W) {W' : World} {va : Option Addr} {vc : Nat} {TS : List M.Nd} (ho : W'.ownsRow W.heap.size 113 6 (.slice va TS.length vc) TS.length (ndCells TS)) (hl : TS.length ≤ 1000) : RdN W' va TS ∧ ∀ p, va = some p → gb < p.block ∧ p.block < W'.heap.size ∧ (Value.slice ya kw yc).ownBlock ≠ some p.block ∧ (Value.slice xa kt xc).ownBlock ≠ some p.block := by
  obtain ⟨a2, c2, e2, hr, hp⟩ := own_rdN rfl (by unfold maxLen; omega) ho
  rw [Value.slice.injEq] at e2
  have ea := e2.1
  subst ea
  refine ⟨hr, fun p hp' => ?_⟩
  have b1 := hp p hp'
  have b2 := h.lt
  refine ⟨by omega, ?_, fun e => by have := (h.ow.lt _ e).2; omega, fun e => by have := (h.ox.lt _ e).2; omega⟩
  subst hp'
  exact (ho.lt p.block rfl).2
theorem grown4_at {W : World} {p : Nat} {x0 x1 x2 x3 : Value} : W.grownBy ((((W.setCell ⟨p, 0, none⟩ x0).setCell ⟨p, 1, none⟩ x1).setCell ⟨p, 2, none⟩ x2).setCell ⟨p, 3, none⟩ x3) (some p) :=
  grown_trans (grown_trans (grown_trans grown_set grown_set (.inl rfl)) grown_set (.inl rfl)) grown_set (.inl rfl)
theorem M.lTree_len (b : List Nat) (s : M.In) : (M.lTree b s).1.length ≤ 63 := by
  have := M.rMany_in (b := b) (s := s) (most := 63) (by decide)
  unfold M.lTree
  rw [M.lNodes_len]
  omega
/-- a grove whose weights and trees lie in blocks that are new, and are read as long as these stay -/
def NewH (W w' : World) (J : Gr) : Prop := ∀ W'' : World, w'.heap.size ≤ W''.heap.size → (∀ b, W.heap.size ≤ b → b < w'.heap.size → W''.heap[b]? = w'.heap[b]?) → RdG W'' J
/-- what is handed out, written: a grove in new blocks -/
theorem GW.out_at {w : World} {g : Nat} {rb : Nat} {gb : Nat} {f : Int} {m : Int} {kw : Nat} {ya : Option Addr} {yc : Nat} {ws : List Int} {kt : Nat} {xa : Option Addr} {xc : Nat} {D : List Tc} {W : World} (h : GW w g rb gb f m kw ya yc ws kt xa xc D W) (hw : ws.length = kw) (hD : D.length = kt) (hk : kt ≤ 1000) (W'' : World) (hz : W.heap.size ≤ W''.heap.size) (hb : ∀ q, gb < q → q < W.heap.size → W''.heap[q]? = W.heap[q]?) : RdG W'' ⟨f, m, ya, ws, yc, xa, D, xc⟩ := by
  have cc : ∀ q j, gb < q → q < W.heap.size → W''.cell? ⟨q, j, none⟩ = W.cell? ⟨q, j, none⟩ := fun q j h1 h2 => World.cell?_of_block (a := ⟨q, j, none⟩) (hb q h1 h2)
  subst hw
  subst hD
  refine ⟨?_, ⟨by unfold maxLen; show D.length ≤ _; omega, fun t ht => ?_, fun hn => ?_⟩⟩
  · obtain ⟨a2, c2, e2, hr, _⟩ := own_rd h.ow
    refine ⟨hr.1, fun hn => ?_⟩
    rcases h.ow.2 with ⟨_, h0⟩ | ⟨q, cap, cur, hv, hbq, hgq, _⟩
    · exact absurd (List.length_eq_zero_iff.1 h0) hn
    · rw [Value.slice.injEq] at hv
      have ql := (Array.getElem?_eq_some_iff.1 hgq).1
      refine ⟨q, 0, hv.1, by omega, fun i hi => ?_⟩
      have hi' : i < ws.length := hi
      rw [cc q _ (by omega) ql, Nat.zero_add]
      have ho := h.ow
      rw [hv.1] at ho
      rw [ho.cellAt i (by omega), List.getElem?_map, List.getElem?_eq_getElem hi']
      simp [List.getD, hi']
  · obtain ⟨t1, t2⟩ := h.tr t ht
    refine ⟨t1.1, fun hn => ?_⟩
    obtain ⟨b, off, e, hl, hcc⟩ := t1.2 hn
    have k : ∀ j v, W.cell? ⟨b, j, none⟩ = some v → W''.cell? ⟨b, j, none⟩ = some v := fun j v hv => (cc b j (t2 _ e).1 hl).trans hv
    exact ⟨b, off, e, by omega, fun i hi => ⟨k _ _ (hcc i hi).1, k _ _ (hcc i hi).2.1, k _ _ (hcc i hi).2.2.1, k _ _ (hcc i hi).2.2.2.1, k _ _ (hcc i hi).2.2.2.2.1, k _ _ (hcc i hi).2.2.2.2.2⟩⟩
  · rcases h.ox.2 with ⟨_, h0⟩ | ⟨q, cap, cur, hv, hbq, hgq, _⟩
    · exact absurd (List.length_eq_zero_iff.1 h0) hn
    · rw [Value.slice.injEq] at hv
      have ql := (Array.getElem?_eq_some_iff.1 hgq).1
      refine ⟨q, 0, hv.1, by omega, fun i hi => ?_⟩
      have hi' : i < D.length := hi
      rw [cc q _ (by omega) ql, Nat.zero_add]
      have ho := h.ox
      rw [hv.1] at ho
      rw [ho.cellAt i (by omega), List.getElem?_map, List.getElem?_eq_getElem hi']
      rfl
theorem GW.out {w : World} {g : Nat} {rb : Nat} {gb : Nat} {f : Int} {m : Int} {kw : Nat} {ya : Option Addr} {yc : Nat} {ws : List Int} {kt : Nat} {xa : Option Addr} {xc : Nat} {D : List Tc} {W : World} (h : GW w g rb gb f m kw ya yc ws kt xa xc D W) (hw : ws.length = kw) (hD : D.length = kt) (hk : kt ≤ 1000) {W' : World} (hs : W'.grownBy W' none → W.heap.size ≤ W'.heap.size) (hb : ∀ q, gb < q → q < W.heap.size → W'.heap[q]? = W.heap[q]?) : NewH w W' ⟨f, m, ya, ws, yc, xa, D, xc⟩ := by
  have hz := hs (World.grownBy.refl _ _)
  have hge := h.ge
  have hwr := h.wr
  intro W'' hs'' hc''
  exact h.out_at hw hD hk W'' (by omega) (fun q h1 h2 => (hc'' q (by omega) (by omega)).trans (hb q h1 h2))
end Go.Proofs.YtiggkjkjfnlfkaaGreatDoor
