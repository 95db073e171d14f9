/-
  Several texts as one: CdLay, CdGrv, CdDec, GrSame.
-/
import Derived.Test.YtelncekgjfpogahGreatDoorRunT12
import Derived.Test.YtelncekgjfpogahGreatDoorRunT23
import Derived.Deep.AppendLies
import Derived.RegionTactic
import Derived.Deep.RegionLaw
import Derived.Test.YtelncekgjfpogahGreatDoorRunT25
import Derived.Test.YtelncekgjfpogahGreatDoorRunT24
import Derived.Test.YtelncekgjfpogahGreatDoorRunT2
import Derived.Deep.Cut
import Derived.Deep.CutRange
import Derived.Deep.RegionWith
namespace Go.Proofs.YtelncekgjfpogahGreatDoor
open Go.ChangeShapes Go.WideShapes Go.ChangeAt Go.RowKit Go.Lib
set_option linter.unusedVariables false
theorem rdN_same {W W' : World} {a : Option Addr} {ts : List M.Nd} (h : RdN W a ts) (hs : W.heap.size ≤ W'.heap.size) (he : ∀ p, a = some p → W'.heap[p.block]? = W.heap[p.block]?) : RdN W' a ts :=
 ⟨h.1, fun hn => by
  obtain ⟨b, off, e, hl, hc⟩ := h.2 hn
  have hb : W'.heap[b]? = W.heap[b]? := he _ e
  have k : ∀ j v, W.cell? ⟨b, j, none⟩ = some v → W'.cell? ⟨b, j, none⟩ = some v := fun j v hv => (World.cell?_of_block (a := ⟨b, j, none⟩) hb).trans hv
  exact ⟨b, off, e, Nat.lt_of_lt_of_le hl hs, fun i hi => ⟨k _ _ (hc i hi).1, k _ _ (hc i hi).2.1, k _ _ (hc i hi).2.2.1, k _ _ (hc i hi).2.2.2.1, k _ _ (hc i hi).2.2.2.2.1, k _ _ (hc i hi).2.2.2.2.2⟩⟩⟩
structure GW (w : World) (g rb gb : Nat) (f m : Int) (kw : Nat) (ya : Option Addr) (yc : Nat) (ws : List Int) (kt : Nat) (xa : Option Addr) (xc : Nat) (D : List Tc) (W : World) : Prop where
 gr : w.grownBy W (some g)
 r : ∀ j, j < 4 → ∃ v, W.cell? ⟨rb, j, none⟩ = some v
 rf : ∀ j, W.frozen? ⟨rb, j, none⟩ = false
 c0 : W.cell? ⟨gb, 0, none⟩ = some (.int .i64 f)
 c1 : W.cell? ⟨gb, 1, none⟩ = some (.int .i64 m)
 c2 : W.cell? ⟨gb, 2, none⟩ = some (.slice ya kw yc)
 c3 : W.cell? ⟨gb, 3, none⟩ = some (.slice xa kt xc)
 fr : ∀ j, W.frozen? ⟨gb, j, none⟩ = false
 lt : gb < W.heap.size
 ge : rb < gb
 wr : w.heap.size ≤ rb
 gn : g ≠ rb ∧ g < gb
 ow : W.ownsRow (gb + 1) 3 1 (.slice ya kw yc) kw (ws.map (Value.int .i64))
 ox : W.ownsRow (gb + 1) 66 1 (.slice xa kt xc) kt (D.map tV)
 xy : ∀ q, (Value.slice ya kw yc).ownBlock = some q → (Value.slice xa kt xc).ownBlock ≠ some q
 tr : ∀ t ∈ D, RdN W t.1 t.2.1 ∧ ∀ p, t.1 = some p → gb < p.block ∧ p.block < W.heap.size ∧ (Value.slice ya kw yc).ownBlock ≠ some p.block ∧ (Value.slice xa kt xc).ownBlock ≠ some p.block
theorem kept_not {W : World} {e size n B : Nat} {v : Value} {l : List Value} {r : Option Nat} {W' : World} (ho : W.ownsRow B e size v n l) (hg : W.grownBy W' r) (hr : ∀ q, v.ownBlock = some q → r ≠ some q) : W'.ownsRow B e size v n l := by
 refine ho.kept hg ?_
 cases hv : v.ownBlock with
 | none => exact .inl rfl
 | some q => exact .inr fun e => hr q hv e.symm
theorem GW.new {w : World} {g : Nat} {f : Int} {m : Int} {w2 : World} (hg : (w.alloc (.cells #[.int .i64 0, .int .i64 0, .slice none 0 0, .slice none 0 0] 27)).grownBy w2 (some g)) (gl : g < w.heap.size) : GW w g w.heap.size w2.heap.size f m 0 none 0 [] 0 none 0 [] (w2.alloc (.cells #[.int .i64 f, .int .i64 m, .slice none 0 0, .slice none 0 0] 27)) := by
 have n := new_grown hg gl
 have z : w.heap.size < w2.heap.size := by have := hg.size; simp at this; omega
 have bl := (Below.refl w2.heap.size w2).alloc (Nat.le_refl _) (.cells #[.int .i64 f, .int .i64 m, .slice none 0 0, .slice none 0 0] 27)
 have k := new_kept (w := w2) (cs := #[.int .i64 f, .int .i64 m, .slice none 0 0, .slice none 0 0]) (t := 27) rfl (Below.refl _ _)
 refine ⟨grown_trans (grown_new hg) (World.grownBy_alloc w2 _ (some g)) (.inl rfl), fun j hj => ?_, fun j => (bl.frozen (p := ⟨w.heap.size, j, none⟩) z).trans (n.2 j), k.1 0 _ rfl, k.1 1 _ rfl, k.1 2 _ rfl, k.1 3 _ rfl, k.2, by simp, z, Nat.le_refl _, ⟨by omega, by omega⟩, World.ownsRow_nil _ _ _ _, World.ownsRow_nil _ _ _ _, (fun q hq => by cases hq), (fun t ht => by cases ht)⟩
 rw [show (w2.alloc (.cells #[.int .i64 f, .int .i64 m, .slice none 0 0, .slice none 0 0] 27)).cell? ⟨w.heap.size, j, none⟩ = w2.cell? ⟨w.heap.size, j, none⟩ from bl.cell (p := ⟨w.heap.size, j, none⟩) z]
 match j, hj with
 | 0, _ => exact ⟨_, n.1 0 _ rfl⟩
 | 1, _ => exact ⟨_, n.1 1 _ rfl⟩
 | 2, _ => exact ⟨_, n.1 2 _ rfl⟩
 | 3, _ => exact ⟨_, n.1 3 _ rfl⟩
theorem GW.rdr {w : World} {g : Nat} {rb : Nat} {gb : Nat} {f : Int} {m : Int} {kw : Nat} {ya : Option Addr} {yc : Nat} {ws : List Int} {kt : Nat} {xa : Option Addr} {xc : Nat} {D : List Tc} {W : World} (h : GW w g rb gb f m kw ya yc ws kt xa xc D W) {W' : World} (hg : W.grownBy W' (some g)) : GW w g rb gb f m kw ya yc ws kt xa xc D W' := by
 have hge := h.ge
 have hlt := h.lt
 have hgn := h.gn
 have b : ∀ q, (q = rb ∨ gb ≤ q) → q < W.heap.size → W'.heap[q]? = W.heap[q]? := fun q h1 h2 => hg.block q h2 (fun e => by cases e; omega)
 have cc : ∀ q j, (q = rb ∨ gb ≤ q) → q < W.heap.size → W'.cell? ⟨q, j, none⟩ = W.cell? ⟨q, j, none⟩ := fun q j h1 h2 => World.cell?_of_block (a := ⟨q, j, none⟩) (b q h1 h2)
 have ff : ∀ q j, (q = rb ∨ gb ≤ q) → q < W.heap.size → W'.frozen? ⟨q, j, none⟩ = W.frozen? ⟨q, j, none⟩ := fun q j h1 h2 => World.frozen?_of_block (a := ⟨q, j, none⟩) (b q h1 h2)
 refine ⟨grown_trans h.gr hg (.inl rfl), fun j hj => ?_, fun j => (ff _ j (.inl rfl) (by omega)).trans (h.rf j), (cc _ 0 (.inr (Nat.le_refl _)) hlt).trans h.c0, (cc _ 1 (.inr (Nat.le_refl _)) hlt).trans h.c1, (cc _ 2 (.inr (Nat.le_refl _)) hlt).trans h.c2, (cc _ 3 (.inr (Nat.le_refl _)) hlt).trans h.c3, fun j => (ff _ j (.inr (Nat.le_refl _)) hlt).trans (h.fr j), Nat.lt_of_lt_of_le hlt hg.size, hge, h.wr, hgn, kept_not h.ow hg (fun q hq e => by cases e; have := (h.ow.lt _ hq).1; omega), kept_not h.ox hg (fun q hq e => by cases e; have := (h.ox.lt _ hq).1; omega), h.xy, fun t ht => ?_⟩
 · rw [cc _ j (.inl rfl) (by omega)]; exact h.r j hj
 · obtain ⟨t1, t2⟩ := h.tr t ht
   exact ⟨rdN_same t1 hg.size (fun p hp => b _ (.inr (by have := (t2 p hp).1; omega)) (t2 p hp).2.1), fun p hp => ⟨(t2 p hp).1, Nat.lt_of_lt_of_le (t2 p hp).2.1 hg.size, (t2 p hp).2.2⟩⟩
theorem GW.weight {w : World} {g : Nat} {rb : Nat} {gb : Nat} {f : Int} {m : Int} {kw : Nat} {ya : Option Addr} {yc : Nat} {ws : List Int} {kt : Nat} {xa : Option Addr} {xc : Nat} {D : List Tc} {W : World} (h : GW w g rb gb f m kw ya yc ws kt xa xc D W) {n : Int} {o : Obj} {w5 : World} {g2 cap : Nat}
 (hown : w5.ownsRow (gb + 1) 3 1 (.slice (some ⟨g2, 0, none⟩) (kw + 1) cap) (kw + 1) (ws.map (Value.int .i64) ++ [.int .i64 n])) (hgrow : (W.alloc o).grownBy w5 (Value.slice ya kw yc).ownBlock) (hat : (Value.slice ya kw yc).ownBlock = some g2 ∨ g2 = W.heap.size + 1) :
 (w5.cell? ⟨gb, 2, none⟩ = some (.slice ya kw yc) ∧ w5.frozen? ⟨gb, 2, none⟩ = false) ∧ W.grownBy w5 (Value.slice ya kw yc).ownBlock ∧ GW w g rb gb f m (kw + 1) (some ⟨g2, 0, none⟩) cap (ws ++ [n]) kt xa xc D (w5.setCell ⟨gb, 2, none⟩ (.slice (some ⟨g2, 0, none⟩) (kw + 1) cap)) := by
 have hge := h.ge
 have hlt := h.lt
 have hwr := h.wr
 have hgr : W.grownBy w5 (Value.slice ya kw yc).ownBlock := grown_new hgrow
 have yb : ∀ q, (Value.slice ya kw yc).ownBlock = some q → gb + 1 ≤ q ∧ q < W.heap.size := fun q e => h.ow.lt q e
 have b5 : ∀ q, q < W.heap.size → (Value.slice ya kw yc).ownBlock ≠ some q → w5.heap[q]? = W.heap[q]? := fun q h1 h2 => hgr.block q h1 (fun e => h2 e.symm)
 have cf : ∀ j, w5.cell? ⟨gb, j, none⟩ = W.cell? ⟨gb, j, none⟩ := fun j => World.cell?_of_block (a := ⟨gb, j, none⟩) (b5 gb hlt (fun e => by have := (yb _ e).1; omega))
 have ff : ∀ j, w5.frozen? ⟨gb, j, none⟩ = W.frozen? ⟨gb, j, none⟩ := fun j => World.frozen?_of_block (a := ⟨gb, j, none⟩) (b5 gb hlt (fun e => by have := (yb _ e).1; omega))
 have gs : w5.grownBy (w5.setCell ⟨gb, 2, none⟩ (.slice (some ⟨g2, 0, none⟩) (kw + 1) cap)) (some gb) := grown_set
 have b6 : ∀ q, q < W.heap.size → (Value.slice ya kw yc).ownBlock ≠ some q → q ≠ gb → (w5.setCell ⟨gb, 2, none⟩ (.slice (some ⟨g2, 0, none⟩) (kw + 1) cap)).heap[q]? = W.heap[q]? := fun q h1 h2 h3 => (gs.block q (Nat.lt_of_lt_of_le h1 hgr.size) (fun e => h3 (by cases e; rfl))).trans (b5 q h1 h2)
 have rbl : rb < W.heap.size := by omega
 have rq : (Value.slice ya kw yc).ownBlock ≠ some rb := fun e => by have := (yb _ e).1; omega
 have ob : (Value.slice (some ⟨g2, 0, none⟩) (kw + 1) cap).ownBlock = some g2 := rfl
 have gn : ∀ q, q < W.heap.size → (Value.slice ya kw yc).ownBlock ≠ some q → g2 ≠ q := fun q h1 h2 e => by
  rcases hat with z | z
  · exact h2 (by rw [z, e])
  · omega
 refine ⟨⟨(cf 2).trans h.c2, (ff 2).trans (h.fr 2)⟩, hgr, ⟨grown_trans (grown_trans h.gr hgr (.inr (fun q hq => by have := (yb q hq).1; omega))) gs (.inr (fun q hq => by cases hq; omega)), fun j hj => ?_, fun j => ?_, ?_, ?_, ?_, ?_, fun j => ?_, ?_, hge, hwr, h.gn, ?_, ?_, fun q hq => ?_, fun t ht => ?_⟩⟩
 · rw [World.cell?_of_block (a := ⟨rb, j, none⟩) (b6 rb rbl rq (by omega))]; exact h.r j hj
 · rw [World.frozen?_of_block (a := ⟨rb, j, none⟩) (b6 rb rbl rq (by omega))]; exact h.rf j
 · rw [World.cell?_setCell_other _ _ _ _ (by intro e; cases e)]; exact (cf 0).trans h.c0
 · rw [World.cell?_setCell_other _ _ _ _ (by intro e; cases e)]; exact (cf 1).trans h.c1
 · exact World.cell?_setCell_same (u := .slice ya kw yc) _ _ _ ((cf 2).trans h.c2)
 · rw [World.cell?_setCell_other _ _ _ _ (by intro e; cases e)]; exact (cf 3).trans h.c3
 · rw [World.frozen?_setCell]; exact (ff j).trans (h.fr j)
 · have := gs.size; have := hgr.size; omega
 · rw [List.map_append]
   exact kept_not hown gs (fun q hq e => by cases e; have := (hown.lt _ hq).1; omega)
 · exact kept_not (kept_not h.ox hgr (fun q hq e => h.xy q e hq)) gs (fun q hq e => by cases e; have := (h.ox.lt _ hq).1; omega)
 · intro e
   rw [ob] at hq
   cases hq
   exact gn _ (h.ox.lt _ e).2 (fun z => h.xy _ z e) rfl
 · obtain ⟨t1, t2⟩ := h.tr t ht
   refine ⟨rdN_same t1 (by have := gs.size; have := hgr.size; omega) (fun p hp => b6 _ (t2 p hp).2.1 (t2 p hp).2.2.1 (by have := (t2 p hp).1; omega)), fun p hp => ⟨(t2 p hp).1, by have := gs.size; have := hgr.size; have := (t2 p hp).2.1; omega, fun e => ?_, (t2 p hp).2.2.2⟩⟩
   rw [ob] at e
   cases e
   exact gn _ (t2 p hp).2.1 (t2 p hp).2.2.1 rfl
theorem GW.tree {w : World} {g : Nat} {rb : Nat} {gb : Nat} {f : Int} {m : Int} {kw : Nat} {ya : Option Addr} {yc : Nat} {ws : List Int} {kt : Nat} {xa : Option Addr} {xc : Nat} {D : List Tc} {W : World} (h : GW w g rb gb f m kw ya yc ws kt xa xc D W) {t : Tc} (ht : RdN W t.1 t.2.1) (hp : ∀ p, t.1 = some p → gb < p.block ∧ p.block < W.heap.size ∧ (Value.slice ya kw yc).ownBlock ≠ some p.block ∧ (Value.slice xa kt xc).ownBlock ≠ some p.block) {o : Obj} {w5 : World} {g2 cap : Nat}
 (hown : w5.ownsRow (gb + 1) 66 1 (.slice (some ⟨g2, 0, none⟩) (kt + 1) cap) (kt + 1) (D.map tV ++ [tV t])) (hgrow : (W.alloc o).grownBy w5 (Value.slice xa kt xc).ownBlock) (hat : (Value.slice xa kt xc).ownBlock = some g2 ∨ g2 = W.heap.size + 1) :
 (w5.cell? ⟨gb, 3, none⟩ = some (.slice xa kt xc) ∧ w5.frozen? ⟨gb, 3, none⟩ = false) ∧ W.grownBy w5 (Value.slice xa kt xc).ownBlock ∧ GW w g rb gb f m kw ya yc ws (kt + 1) (some ⟨g2, 0, none⟩) cap (D ++ [t]) (w5.setCell ⟨gb, 3, none⟩ (.slice (some ⟨g2, 0, none⟩) (kt + 1) cap)) := by
 have hge := h.ge
 have hlt := h.lt
 have hwr := h.wr
 have hgr : W.grownBy w5 (Value.slice xa kt xc).ownBlock := grown_new hgrow
 have yb : ∀ q, (Value.slice xa kt xc).ownBlock = some q → gb + 1 ≤ q ∧ q < W.heap.size := fun q e => h.ox.lt q e
 have b5 : ∀ q, q < W.heap.size → (Value.slice xa kt xc).ownBlock ≠ some q → w5.heap[q]? = W.heap[q]? := fun q h1 h2 => hgr.block q h1 (fun e => h2 e.symm)
 have cf : ∀ j, w5.cell? ⟨gb, j, none⟩ = W.cell? ⟨gb, j, none⟩ := fun j => World.cell?_of_block (a := ⟨gb, j, none⟩) (b5 gb hlt (fun e => by have := (yb _ e).1; omega))
 have ff : ∀ j, w5.frozen? ⟨gb, j, none⟩ = W.frozen? ⟨gb, j, none⟩ := fun j => World.frozen?_of_block (a := ⟨gb, j, none⟩) (b5 gb hlt (fun e => by have := (yb _ e).1; omega))
 have gs : w5.grownBy (w5.setCell ⟨gb, 3, none⟩ (.slice (some ⟨g2, 0, none⟩) (kt + 1) cap)) (some gb) := grown_set
 have b6 : ∀ q, q < W.heap.size → (Value.slice xa kt xc).ownBlock ≠ some q → q ≠ gb → (w5.setCell ⟨gb, 3, none⟩ (.slice (some ⟨g2, 0, none⟩) (kt + 1) cap)).heap[q]? = W.heap[q]? := fun q h1 h2 h3 => (gs.block q (Nat.lt_of_lt_of_le h1 hgr.size) (fun e => h3 (by cases e; rfl))).trans (b5 q h1 h2)
 have rbl : rb < W.heap.size := by omega
 have rq : (Value.slice xa kt xc).ownBlock ≠ some rb := fun e => by have := (yb _ e).1; omega
 have ob : (Value.slice (some ⟨g2, 0, none⟩) (kt + 1) cap).ownBlock = some g2 := rfl
 have gn : ∀ q, q < W.heap.size → (Value.slice xa kt xc).ownBlock ≠ some q → g2 ≠ q := fun q h1 h2 e => by
  rcases hat with z | z
  · exact h2 (by rw [z, e])
  · omega
 refine ⟨⟨(cf 3).trans h.c3, (ff 3).trans (h.fr 3)⟩, hgr, ⟨grown_trans (grown_trans h.gr hgr (.inr (fun q hq => by have := (yb q hq).1; omega))) gs (.inr (fun q hq => by cases hq; omega)), fun j hj => ?_, fun j => ?_, ?_, ?_, ?_, ?_, fun j => ?_, ?_, hge, hwr, h.gn, ?_, ?_, fun q hq e => ?_, fun t' ht' => ?_⟩⟩
 · rw [World.cell?_of_block (a := ⟨rb, j, none⟩) (b6 rb rbl rq (by omega))]; exact h.r j hj
 · rw [World.frozen?_of_block (a := ⟨rb, j, none⟩) (b6 rb rbl rq (by omega))]; exact h.rf j
 · rw [World.cell?_setCell_other _ _ _ _ (by intro e; cases e)]; exact (cf 0).trans h.c0
 · rw [World.cell?_setCell_other _ _ _ _ (by intro e; cases e)]; exact (cf 1).trans h.c1
 · rw [World.cell?_setCell_other _ _ _ _ (by intro e; cases e)]; exact (cf 2).trans h.c2
 · exact World.cell?_setCell_same (u := .slice xa kt xc) _ _ _ ((cf 3).trans h.c3)
 · rw [World.frozen?_setCell]; exact (ff j).trans (h.fr j)
 · have := gs.size; have := hgr.size; omega
 · exact kept_not (kept_not h.ow hgr (fun q hq e => h.xy q hq e)) gs (fun q hq e => by cases e; have := (h.ow.lt _ hq).1; omega)
 · rw [List.map_append]
   exact kept_not hown gs (fun q hq e => by cases e; have := (hown.lt _ hq).1; omega)
 · rw [ob] at e
   cases e
   exact gn _ (h.ow.lt _ hq).2 (fun z => h.xy _ hq z) rfl
 · have one : ∀ t : Tc, RdN W t.1 t.2.1 → (∀ p, t.1 = some p → gb < p.block ∧ p.block < W.heap.size ∧ (Value.slice ya kw yc).ownBlock ≠ some p.block ∧ (Value.slice xa kt xc).ownBlock ≠ some p.block) → RdN (w5.setCell ⟨gb, 3, none⟩ (.slice (some ⟨g2, 0, none⟩) (kt + 1) cap)) t.1 t.2.1 ∧ ∀ p, t.1 = some p → gb < p.block ∧ p.block < (w5.setCell ⟨gb, 3, none⟩ (.slice (some ⟨g2, 0, none⟩) (kt + 1) cap)).heap.size ∧ (Value.slice ya kw yc).ownBlock ≠ some p.block ∧ (Value.slice (some ⟨g2, 0, none⟩) (kt + 1) cap).ownBlock ≠ some p.block := fun t t1 t2 => by
    refine ⟨rdN_same t1 (by have := gs.size; have := hgr.size; omega) (fun p hp => b6 _ (t2 p hp).2.1 (t2 p hp).2.2.2 (by have := (t2 p hp).1; omega)), fun p hp => ⟨(t2 p hp).1, by have := gs.size; have := hgr.size; have := (t2 p hp).2.1; omega, (t2 p hp).2.2.1, fun e => ?_⟩⟩
    rw [ob] at e
    cases e
    exact gn _ (t2 p hp).2.1 (t2 p hp).2.2.2 rfl
   rcases List.mem_append.1 ht' with z | z
   · exact one t' (h.tr t' z).1 (h.tr t' z).2
   · rw [List.mem_singleton] at z
     subst z
     exact one _ ht hp
theorem GW.fresh {w : World} {g : Nat} {rb : Nat} {gb : Nat} {f : Int} {m : Int} {kw : Nat} {ya : Option Addr} {yc : Nat} {ws : List Int} {kt : Nat} {xa : Option Addr} {xc : Nat} {D : List Tc} {W : World} (h : GW w g rb gb f m kw ya yc ws kt xa xc D W) {W' : World} {va : Option Addr} {vc : Nat} {TS : List M.Nd} (ho : W'.ownsRow W.heap.size 86 6 (.slice va TS.length vc) TS.length (ndCells TS)) (hl : TS.length ≤ 1000) : RdN W' va TS ∧ ∀ p, va = some p → gb < p.block ∧ p.block < W'.heap.size ∧ (Value.slice ya kw yc).ownBlock ≠ some p.block ∧ (Value.slice xa kt xc).ownBlock ≠ some p.block := by
 obtain ⟨a2, c2, e2, hr, hp⟩ := own_rdN rfl (by unfold maxLen; omega) ho
 rw [Value.slice.injEq] at e2
 have ea := e2.1
 subst ea
 refine ⟨hr, fun p hp' => ?_⟩
 have b1 := hp p hp'
 have b2 := h.lt
 refine ⟨by omega, ?_, fun e => by have := (h.ow.lt _ e).2; omega, fun e => by have := (h.ox.lt _ e).2; omega⟩
 subst hp'
 exact (ho.lt p.block rfl).2
theorem grown4_at {W : World} {p : Nat} {x0 x1 x2 x3 : Value} : W.grownBy ((((W.setCell ⟨p, 0, none⟩ x0).setCell ⟨p, 1, none⟩ x1).setCell ⟨p, 2, none⟩ x2).setCell ⟨p, 3, none⟩ x3) (some p) :=
 grown_trans (grown_trans (grown_trans grown_set grown_set (.inl rfl)) grown_set (.inl rfl)) grown_set (.inl rfl)
theorem M.lTree_len (b : List Nat) (s : M.In) : (M.lTree b s).1.length ≤ 63 := by
 have := M.rMany_in (b := b) (s := s) (most := 63) (by decide)
 unfold M.lTree
 rw [M.lNodes_len]
 omega
def NewH (W w' : World) (J : Gr) : Prop := ∀ W'' : World, w'.heap.size ≤ W''.heap.size → (∀ b, W.heap.size ≤ b → b < w'.heap.size → W''.heap[b]? = w'.heap[b]?) → RdG W'' J
theorem GW.out_at {w : World} {g : Nat} {rb : Nat} {gb : Nat} {f : Int} {m : Int} {kw : Nat} {ya : Option Addr} {yc : Nat} {ws : List Int} {kt : Nat} {xa : Option Addr} {xc : Nat} {D : List Tc} {W : World} (h : GW w g rb gb f m kw ya yc ws kt xa xc D W) (hw : ws.length = kw) (hD : D.length = kt) (hk : kt ≤ 1000) (W'' : World) (hz : W.heap.size ≤ W''.heap.size) (hb : ∀ q, gb < q → q < W.heap.size → W''.heap[q]? = W.heap[q]?) : RdG W'' ⟨f, m, ya, ws, yc, xa, D, xc⟩ := by
 have cc : ∀ q j, gb < q → q < W.heap.size → W''.cell? ⟨q, j, none⟩ = W.cell? ⟨q, j, none⟩ := fun q j h1 h2 => World.cell?_of_block (a := ⟨q, j, none⟩) (hb q h1 h2)
 subst hw
 subst hD
 refine ⟨?_, ⟨by unfold maxLen; show D.length ≤ _; omega, fun t ht => ?_, fun hn => ?_⟩⟩
 · obtain ⟨a2, c2, e2, hr, _⟩ := own_rd h.ow
   refine ⟨hr.1, fun hn => ?_⟩
   rcases h.ow.2 with ⟨_, h0⟩ | ⟨q, cap, cur, hv, hbq, hgq, _⟩
   · exact absurd (List.length_eq_zero_iff.1 h0) hn
   · rw [Value.slice.injEq] at hv
     have ql := (Array.getElem?_eq_some_iff.1 hgq).1
     refine ⟨q, 0, hv.1, by omega, fun i hi => ?_⟩
     have hi' : i < ws.length := hi
     rw [cc q _ (by omega) ql, Nat.zero_add]
     have ho := h.ow
     rw [hv.1] at ho
     rw [ho.cellAt i (by omega), List.getElem?_map, List.getElem?_eq_getElem hi']
     simp [List.getD, hi']
 · obtain ⟨t1, t2⟩ := h.tr t ht
   refine ⟨t1.1, fun hn => ?_⟩
   obtain ⟨b, off, e, hl, hcc⟩ := t1.2 hn
   have k : ∀ j v, W.cell? ⟨b, j, none⟩ = some v → W''.cell? ⟨b, j, none⟩ = some v := fun j v hv => (cc b j (t2 _ e).1 hl).trans hv
   exact ⟨b, off, e, by omega, fun i hi => ⟨k _ _ (hcc i hi).1, k _ _ (hcc i hi).2.1, k _ _ (hcc i hi).2.2.1, k _ _ (hcc i hi).2.2.2.1, k _ _ (hcc i hi).2.2.2.2.1, k _ _ (hcc i hi).2.2.2.2.2⟩⟩
 · rcases h.ox.2 with ⟨_, h0⟩ | ⟨q, cap, cur, hv, hbq, hgq, _⟩
   · exact absurd (List.length_eq_zero_iff.1 h0) hn
   · rw [Value.slice.injEq] at hv
     have ql := (Array.getElem?_eq_some_iff.1 hgq).1
     refine ⟨q, 0, hv.1, by omega, fun i hi => ?_⟩
     have hi' : i < D.length := hi
     rw [cc q _ (by omega) ql, Nat.zero_add]
     have ho := h.ox
     rw [hv.1] at ho
     rw [ho.cellAt i (by omega), List.getElem?_map, List.getElem?_eq_getElem hi']
     rfl
theorem GW.out {w : World} {g : Nat} {rb : Nat} {gb : Nat} {f : Int} {m : Int} {kw : Nat} {ya : Option Addr} {yc : Nat} {ws : List Int} {kt : Nat} {xa : Option Addr} {xc : Nat} {D : List Tc} {W : World} (h : GW w g rb gb f m kw ya yc ws kt xa xc D W) (hw : ws.length = kw) (hD : D.length = kt) (hk : kt ≤ 1000) {W' : World} (hs : W'.grownBy W' none → W.heap.size ≤ W'.heap.size) (hb : ∀ q, gb < q → q < W.heap.size → W'.heap[q]? = W.heap[q]?) : NewH w W' ⟨f, m, ya, ws, yc, xa, D, xc⟩ := by
 have hz := hs (World.grownBy.refl _ _)
 have hge := h.ge
 have hwr := h.wr
 intro W'' hs'' hc''
 exact h.out_at hw hD hk W'' (by omega) (fun q h1 h2 => (hc'' q (by omega) (by omega)).trans (hb q h1 h2))
theorem infoTs : (Tryz.prog.info? 66).map (fun i => (i.zero, i.size, i.bytes)) = some (some (.slice none 0 0), 1, 24) := by kernel_rfl
def M.lTrees (b : List Nat) : Nat → M.In → List (Int × List M.Nd) × M.In
 | 0, s => ([], s)
 | k + 1, s => (((M.rNum b s).1, (M.lTree b (M.rNum b s).2).1) :: (M.lTrees b k (M.lTree b (M.rNum b s).2).2).1, (M.lTrees b k (M.lTree b (M.rNum b s).2).2).2)
def M.lAll (b : List Nat) : List (Int × List M.Nd) × M.In := M.lTrees b (M.rHead b).1.2.2.toNat (M.rHead b).2
def M.lGrove (b : List Nat) : M.Gv := ((M.rHead b).1.1, (M.rHead b).1.2.1, (M.lAll b).1.map (·.1), (M.lAll b).1.map (·.2))
theorem M.lTree_bad {b : List Nat} {s : M.In} (h : s.bad ≠ 0) : (M.lTree b s).2 = s := by
 unfold M.lTree M.rMany
 rw [M.rNum_bad h, if_neg (fun z => h z.1), if_pos h]
 exact M.lNodes_bad _ h
theorem M.lTrees_bad {b : List Nat} : ∀ (k : Nat) {s : M.In}, s.bad ≠ 0 → (M.lTrees b k s).2 = s
 | 0, s, h => rfl
 | k + 1, s, h => by
   show (M.lTrees b k (M.lTree b (M.rNum b s).2).2).2 = s
   rw [M.rNum_bad h, M.lTree_bad h]
   exact M.lTrees_bad k h
theorem M.lTree_is (b : List Nat) (s : M.In) : (M.lTree b (M.rNum b s).2).2 = (M.rTree b s).2 ∧ ((M.rTree b s).2.bad = 0 → ((M.rNum b s).1, (M.lTree b (M.rNum b s).2).1) = (M.rTree b s).1) := by
 have := M.lNodes_is (b := b) (M.rMany b 63 (M.rNum b s).2).1.toNat (M.rMany b 63 (M.rNum b s).2).2
 exact ⟨this.1, fun h => by show (_, (M.lNodes b _ _).1) = _; rw [this.2 h]; rfl⟩
theorem M.rTrees_bad {b : List Nat} {s : M.In} (h : s.bad ≠ 0) (k : Nat) : M.rTrees b k s = ([], s) := by
 cases k with
 | zero => rfl
 | succ k => show (if _ then _ else _) = _; rw [if_pos h]
theorem M.lTrees_is {b : List Nat} : ∀ (k : Nat) (s : M.In), (M.lTrees b k s).2 = (M.rTrees b k s).2 ∧ ((M.rTrees b k s).2.bad = 0 → (M.lTrees b k s).1 = (M.rTrees b k s).1)
 | 0, s => ⟨rfl, fun _ => rfl⟩
 | k + 1, s => by
   by_cases q : s.bad = 0
   · have e : M.rTrees b (k + 1) s = ((M.rTree b s).1 :: (M.rTrees b k (M.rTree b s).2).1, (M.rTrees b k (M.rTree b s).2).2) := by
      show (if _ then _ else _) = _
      rw [if_neg (by simp [q])]
     have t := M.lTree_is b s
     have ih := M.lTrees_is (b := b) k (M.rTree b s).2
     have el : M.lTrees b (k + 1) s = (((M.rNum b s).1, (M.lTree b (M.rNum b s).2).1) :: (M.lTrees b k (M.rTree b s).2).1, (M.lTrees b k (M.rTree b s).2).2) := by
      show (_ :: (M.lTrees b k (M.lTree b (M.rNum b s).2).2).1, (M.lTrees b k (M.lTree b (M.rNum b s).2).2).2) = _
      rw [t.1]
     rw [e, el]
     refine ⟨ih.1, fun h => ?_⟩
     have hb : (M.rTree b s).2.bad = 0 := by
      by_cases z : (M.rTree b s).2.bad = 0
      · exact z
      · have h' : (M.rTrees b k (M.rTree b s).2).2.bad = 0 := h
        rw [M.rTrees_bad z] at h'
        exact absurd h' z
     show _ :: _ = _ :: _
     rw [t.2 hb, ih.2 h]
   · rw [M.rTrees_bad q]
     exact ⟨M.lTrees_bad (k + 1) q, fun h => absurd h q⟩
theorem M.lAll_is (b : List Nat) : (M.lAll b).2 = (M.rAll b).2 ∧ ((M.rAll b).2.bad = 0 → M.lGrove b = M.rGrove b) := by
 have := M.lTrees_is (b := b) (M.rHead b).1.2.2.toNat (M.rHead b).2
 refine ⟨this.1, fun h => ?_⟩
 have e : (M.lAll b).1 = (M.rAll b).1 := this.2 h
 unfold M.lGrove M.rGrove
 rw [e]
set_option maxHeartbeats 16000000 in
set_option maxRecDepth 10000 in
theorem groveR {w : World} {g : Nat} {a : Option Addr} {bs : List Nat} {c : Nat} (h : Rdr w g a bs c M.in0) : Calls Tryz.prog 35 #[.pointer (some ⟨g, 0, none⟩)] w fun e w' => ∃ O : Gr, e = .returned O.v ∧ O.m = M.lGrove bs ∧ NewH w w' O ∧ Rdr w' g a bs c (M.lAll bs).2 ∧ w.grownBy w' (some g) := by
 have GL := hide h.lt
 have H0 := hide h
 have HA := hide (h.alloc (.cells #[.int .i64 0, .int .i64 0, .slice none 0 0, .slice none 0 0] 27))
 obtain ⟨⟨n1, s1⟩, h1⟩ : ∃ R, M.rNum bs M.in0 = R := ⟨_, rfl⟩
 obtain ⟨⟨n2, s2⟩, h2⟩ : ∃ R, M.rNum bs s1 = R := ⟨_, rfl⟩
 obtain ⟨⟨m3, s3⟩, h3⟩ : ∃ R, M.rMany bs 12 s2 = R := ⟨_, rfl⟩
 have N1 := hide (fun (W : World) (h : Rdr W g a bs c M.in0) => numR h)
 have N2 := hide (fun (W : World) (h : Rdr W g a bs c s1) => numR h)
 have C3 := hide (fun (W : World) (h : Rdr W g a bs c s2) => cntR 12 h)
 have mi := M.rMany_in (b := bs) (s := s2) (most := 12) (by decide)
 rw [h1] at N1
 rw [h2] at N2
 rw [h3] at C3 mi
 have EH : Hid (M.rHead bs = ((n1, n2, m3), s3)) := by
  unfold Hid M.rHead
  rw [h1]
  simp only
  rw [h2]
  simp only
  rw [h3]
 obtain ⟨n, rfl⟩ : ∃ n : Nat, m3 = (n : Int) := ⟨m3.toNat, by simp only at mi; omega⟩
 have n12 : n ≤ 12 := by simp only at mi; omega
 have EA : Hid (M.lAll bs = M.lTrees bs n s3) := by
  unfold Hid M.lAll
  rw [EH.out]
  simp only [Int.toNat_natCast]
 have EG : Hid (M.lGrove bs = (n1, n2, (M.lAll bs).1.map (·.1), (M.lAll bs).1.map (·.2))) := by
  unfold Hid M.lGrove
  rw [EH.out]
 clear h h1 h2 h3 mi EH
 generalize M.lAll bs = Z at *
 generalize M.lGrove bs = G at *
 simp only at N1 N2 C3
 go_enter Tryz.func35, Tryz.ntmps35
 go_upto_region 2 with (first
  | (go_at_call 76; refine (N2.out _ I1.out).mono ?_; rintro e w2 ⟨rfl, i2, g2⟩; have I2 := hide i2; have G2 := hide (grown_trans G1.out g2 (.inl rfl)); clear i2 g2)
  | (go_at_call 76; refine (N1.out _ HA.out).mono ?_; rintro e w1 ⟨rfl, i1, g1⟩; have I1 := hide i1; have G1 := hide g1; clear i1 g1))
 have GW0 : Hid (GW w g w.heap.size w2.heap.size n1 n2 0 none 0 [] 0 none 0 [] (w2.alloc (.cells #[.int .i64 n1, .int .i64 n2, .slice none 0 0, .slice none 0 0] 27))) := GW.new G2.out GL.out
 have I2a := hide (I2.out.alloc (.cells #[.int .i64 n1, .int .i64 n2, .slice none 0 0, .slice none 0 0] 27))
 obtain ⟨gb, hgb⟩ : ∃ gb, gb = w2.heap.size := ⟨_, rfl⟩
 rw [← hgb] at GW0
 simp only [← hgb]
 have HGB := hide hgb
 clear hgb G1 G2 I1 I2 N1 N2 HA
 go_wp2_with (go_at_call 77; refine (C3.out _ I2a.out).mono ?_; rintro e w3 ⟨rfl, i3, g3⟩; have I3 := hide i3; have W3 := hide (GW0.out.rdr g3); clear i3 g3)
 clear C3 I2a GW0
 obtain ⟨i0, hi0, hz0, hz1, hz2⟩ := info_parts info3
 have J0 := hide hi0
 obtain ⟨t0, ht0, hy0, hy1, hy2⟩ := info_parts infoTs
 have J1 := hide ht0
 have NN := hide (fun (W : World) (s : M.In) (h : Rdr W g a bs c s) => numR h)
 have TT := hide (fun (W : World) (s : M.In) (h : Rdr W g a bs c s) => treeR h)
 have NA : Hid (∀ k s, M.lTrees bs (k + 1) s = (((M.rNum bs s).1, (M.lTree bs (M.rNum bs s).2).1) :: (M.lTrees bs k (M.lTree bs (M.rNum bs s).2).2).1, (M.lTrees bs k (M.lTree bs (M.rNum bs s).2).2).2)) := fun _ _ => rfl
 clear hi0 ht0
 go_loopw [11] (fun i wr => ∃ (k : Nat) (ya : Option Addr) (yc : Nat) (xa : Option Addr) (xc : Nat) (P : List (Int × List M.Nd)) (D : List Tc) (s' : M.In), k ≤ n ∧ i = .int .i64 k ∧ Hid (P.length = k ∧ D.length = k ∧ tl D = P.map (·.2)) ∧ Hid (Z = (P ++ (M.lTrees bs (n - k) s').1, (M.lTrees bs (n - k) s').2)) ∧ Hid (Rdr wr g a bs c s') ∧ Hid (GW w g w.heap.size gb n1 n2 k ya yc (P.map (·.1)) k xa xc D wr)) (fun i _ => n - (intOf i).toNat)
 case atStart => exact ⟨0, none, 0, none, 0, [], [], s3, Nat.zero_le _, rfl, ⟨rfl, rfl, rfl⟩, by rw [Nat.sub_zero]; exact EA, I3, W3⟩
 case round =>
  obtain ⟨k, ya, yc, xa, xc, P, D, s', hk, rfl, LK, EZ, RR, GG⟩ := hrel
  by_cases hlt : k < n
  · have kz : (k : Int) < (n : Int) := by omega
    have na := NA.out (n - (k + 1)) s'
    rw [show n - (k + 1) + 1 = n - k by omega] at na
    have ez := EZ.out
    rw [na] at ez
    have M1 := hide (NN.out wr.drew s' (RR.out.up (Below.refl _ wr).drew))
    obtain ⟨⟨x1, t1⟩, e1⟩ : ∃ R, M.rNum bs s' = R := ⟨_, rfl⟩
    rw [e1] at M1 ez
    have M2 := hide (fun (W : World) (h : Rdr W g a bs c t1) => TT.out W t1 h)
    have TL := hide (M.lTree_len bs t1)
    obtain ⟨⟨TS, t2⟩, e2⟩ : ∃ R, M.lTree bs t1 = R := ⟨_, rfl⟩
    rw [e2] at TL
    simp only at TL
    rw [e2] at M2
    simp only at ez M1
    rw [e2] at ez
    simp only at ez M2
    have c2 := GG.out.c2
    have gbz := GG.out.lt
    clear na NN TT NA EZ e1 e2
    go_upto_region 4 with fail
    go_region_law (first
     | (refine step_append_lies _ rfl (.tmp 14) (.tmp 17) 23 rfl (gb + 1) 3 i0 (.int .i64 0) 1 8 Tryz.underlying23 J0.out hz0 hz1 hz2 rfl (by omega) (.slice ya k yc) k ((P.map (·.1)).map (Value.int .i64)) rfl (by exact G4.out.ow.alloc _) ⟨w4.heap.size, 0, none⟩ 1 1 [.int .i64 x1] rfl rfl (World.news_of_block (by first | exact heap_alloc_new _ _ | (simp; done))) (by simp [Value.oneCell']) (by omega) (by unfold maxLen; omega) (by omega) (by simp; omega) (w4.heap.size + 1) (by simp) ?_; intro g7 c7 w7 hov7 hgrow7 hat7 hlt7; have K7 := G4.out.weight hov7 hgrow7 hat7; have z2 := K7.1.1; have zf := K7.1.2; have G7 := hide K7.2.2; have R7 := hide (H0.out.far (H0.out.far I4.out K7.2.1 (fun q hq => by have := (G4.out.ow.lt q hq).1; have := G4.out.ge; omega)) (grown_set (g := gb) (o := 2) (u := .slice (some ⟨g7, 0, none⟩) (k + 1) c7)) (fun q hq => by cases hq; have := G4.out.ge; omega)); clear hov7 hgrow7 hat7 hlt7 K7)
     | (go_simp; go_at_call 76; refine M1.out.mono ?_; rintro e w4 ⟨rfl, i4, g4⟩; have I4 := hide i4; have G4 := hide (GG.out.rdr (grown_undrew g4)); have d2 := G4.out.c2; have d2a := fun o => (((Below.refl w4.heap.size w4).alloc (Nat.le_refl _) o).cell (p := ⟨gb, 2, none⟩) G4.out.lt).trans G4.out.c2; have w4z := G4.out.lt; clear i4 g4))
    all_goals (
     obtain ⟨w8, hw8⟩ : ∃ X, X = w7.setCell ⟨gb, 2, none⟩ (.slice (some ⟨g7, 0, none⟩) (k + 1) c7) := ⟨_, rfl⟩
     rw [← hw8] at G7 R7 ⊢
     have M3 := hide (M2.out w8.drew (R7.out.up (Below.refl _ w8).drew))
     have c3 := G7.out.c3
     clear hw8 z2 zf d2 d2a c2 M1 M2 G4 I4 gbz w4z GG RR
     go_upto_region 5 with fail
     go_region_law (first
      | (refine step_append_lies _ rfl (.tmp 21) (.tmp 24) 25 rfl (gb + 1) 66 t0 (.slice none 0 0) 1 24 Tryz.underlying25 J1.out hy0 hy1 hy2 rfl (by omega) (.slice xa k xc) k (D.map tV) rfl (by exact G9.out.ox.alloc _) ⟨w9.heap.size, 0, none⟩ 1 1 [.slice va TS.length vc] rfl rfl (World.news_of_block (by first | exact heap_alloc_new _ _ | (simp; done))) (by intro u hu; rw [List.mem_singleton] at hu; subst hu; rfl) (by omega) (by unfold maxLen; omega) (by omega) (by simp; omega) (w9.heap.size + 1) (by simp) ?_; intro g12 c12 w12 hov hgrow hat hlt12; have K12 := G9.out.tree (t := (va, TS, vc)) T9.out.1 T9.out.2 hov hgrow hat; have z2 := K12.1.1; have zf := K12.1.2; have G12 := hide K12.2.2; have R12 := hide (H0.out.far (H0.out.far I9.out K12.2.1 (fun q hq => by have := (G9.out.ox.lt q hq).1; have := G9.out.ge; omega)) (grown_set (g := gb) (o := 3) (u := .slice (some ⟨g12, 0, none⟩) (k + 1) c12)) (fun q hq => by cases hq; have := G9.out.ge; omega)); clear hov hgrow hat hlt12 K12)
      | (go_simp; go_at_call 78; refine M3.out.mono ?_; rintro e w9 ⟨va, vc, rfl, o9, i9, g9⟩; have I9 := hide i9; have G9 := hide (G7.out.rdr (grown_undrew g9)); have T9 := hide (G7.out.fresh o9 (by have := TL.out; omega)); have d2 := G9.out.c3; have d2a := fun o => (((Below.refl w9.heap.size w9).alloc (Nat.le_refl _) o).cell (p := ⟨gb, 3, none⟩) G9.out.lt).trans G9.out.c3; have w9z := G9.out.lt; clear i9 g9 o9))
     all_goals (
      obtain ⟨w13, hw13⟩ : ∃ X, X = w12.setCell ⟨gb, 3, none⟩ (.slice (some ⟨g12, 0, none⟩) (k + 1) c12) := ⟨_, rfl⟩
      rw [← hw13] at G12 R12 ⊢
      have E2 : Hid (Z = ((P ++ [(x1, TS)]) ++ (M.lTrees bs (n - (k + 1)) t2).1, (M.lTrees bs (n - (k + 1)) t2).2)) := by
       unfold Hid; rw [ez, List.append_assoc]; rfl
      have LK2 : Hid ((P ++ [(x1, TS)]).length = k + 1 ∧ (D ++ [(va, TS, vc)]).length = k + 1 ∧ tl (D ++ [(va, TS, vc)]) = (P ++ [(x1, TS)]).map (·.2)) := by
       obtain ⟨l1, l2, l3⟩ := LK.out
       refine ⟨by rw [List.length_append, l1]; rfl, by rw [List.length_append, l2]; rfl, ?_⟩
       unfold tl at l3 ⊢
       rw [List.map_append, List.map_append, l3]
       rfl
      have G13 : Hid (GW w g w.heap.size gb n1 n2 (k + 1) (some ⟨g7, 0, none⟩) c7 ((P ++ [(x1, TS)]).map (·.1)) (k + 1) (some ⟨g12, 0, none⟩) c12 (D ++ [(va, TS, vc)]) w13) := by
       unfold Hid; rw [List.map_append]; exact G12.out
      clear hw13 z2 zf d2 d2a c3 M3 G7 R7 G9 I9 T9 w9z G12 ez
      go_wp2
      go_roundw
      case rel => exact ⟨k + 1, _, _, _, _, P ++ [(x1, TS)], D ++ [(va, TS, vc)], t2, by omega, by go_num, LK2, E2, R12, G13⟩
      case measure => simp [intOf]; omega))
  · have ek : k = n := by omega
    have kz : ¬ ((k : Int) < (n : Int)) := by omega
    have EZ2 : Hid (Z = (P, s')) := by
     have := EZ.out
     rw [ek, Nat.sub_self] at this
     unfold Hid
     rw [this]
     show (P ++ [], _) = _
     rw [List.append_nil]
     rfl
    have y0 := GG.out.c0
    have y1 := GG.out.c1
    have y2 := GG.out.c2
    have y3 := GG.out.c3
    obtain ⟨v0, x0⟩ := GG.out.r 0 (by omega)
    obtain ⟨v1, x1⟩ := GG.out.r 1 (by omega)
    obtain ⟨v2, x2⟩ := GG.out.r 2 (by omega)
    obtain ⟨v3, x3⟩ := GG.out.r 3 (by omega)
    have f0 := GG.out.rf 0
    have f1 := GG.out.rf 1
    have f2 := GG.out.rf 2
    have f3 := GG.out.rf 3
    have KN := hide ek
    clear EZ NN TT NA EA ek
    go_wp2
    obtain ⟨e0, e1, e2, e3⟩ := put4_at (x0 := .int .i64 n1) (x1 := .int .i64 n2) (x2 := .slice ya k yc) (x3 := .slice xa k xc) x0 x1 x2 x3
    obtain ⟨l1, l2, l3⟩ := LK.out
    refine bodyPost_ret (v := .agg #[.int .i64 n1, .int .i64 n2, .slice ya k yc, .slice xa k xc]) (by simp [results, Tryz.results35, go_sem, e0, e1, e2, e3]) rfl ?_
    have gg := GG.out.ge
    have gz := GG.out.lt
    refine ⟨⟨n1, n2, ya, P.map (·.1), yc, xa, D, xc⟩, ?_, ?_, ?_, ?_, ?_⟩
    · unfold Gr.v
      simp only [List.length_map, l1, l2]
    · rw [EG.out, EZ2.out]
      unfold Gr.m
      rw [l3]
    · exact GG.out.out (by rw [List.length_map]; exact l1) l2 (by omega) (fun _ => grown4_at.size) (fun q h1 h2 => grown4_at.block q h2 (fun e => by cases e; omega))
    · rw [EZ2.out]
      exact H0.out.far RR.out grown4_at (fun q hq => by cases hq; exact Nat.le_refl _)
    · exact grown_trans GG.out.gr grown4_at (.inr (fun q hq => by cases hq; exact Nat.le_refl _))
theorem M.lAll_fin (b : List Nat) : (M.lAll b).2.fin ≤ b.length := by
 have f : ∀ (k : Nat) {s : M.In}, s.fin ≤ b.length → (M.lTrees b k s).2.fin ≤ b.length := by
  intro k
  induction k with
  | zero => intro s h; exact h
  | succ k ih => intro s h; exact ih (M.lNodes_fin _ (M.rMany_fin (M.rNum_fin h)))
 refine f _ ?_
 exact M.rMany_fin (M.rNum_fin (M.rNum_fin (Nat.zero_le _)))
def M.wrF (b : List Nat) : Int := if (M.lAll b).2.bad ≠ 0 then (M.lAll b).2.bad else if (M.lAll b).2.fin < b.length then 2 else M.groveF (M.lGrove b)
theorem M.dec_is (b : List Nat) (h : ¬ 6000 < b.length) : M.decF b = (if M.wrF b = 0 then (0, 0) else (M.lat (M.lAll b).2, M.wrF b)) ∧ (M.wrF b = 0 → M.decV b = M.lGrove b) := by
 have a := M.lAll_is b
 have f := M.lAll_fin b
 have e : M.decF b = if (M.rAll b).2.bad ≠ 0 then ((M.rAll b).2.at', (M.rAll b).2.bad) else if (M.rAll b).2.fin ≠ b.length then ((M.rAll b).2.fin, 2) else if M.groveF (M.rGrove b) ≠ 0 then ((M.rAll b).2.fin, M.groveF (M.rGrove b)) else (0, 0) := by
  unfold M.decF; rw [if_neg h]
 unfold M.decV
 rw [e]
 unfold M.wrF M.lat
 rw [a.1] at f ⊢
 by_cases q : (M.rAll b).2.bad = 0
 · rw [if_neg (by simp [q])]
   simp only [if_neg (show ¬ (M.rAll b).2.bad ≠ 0 by simp [q]), if_pos q]
   rw [a.2 q]
   by_cases r : (M.rAll b).2.fin < b.length
   · rw [if_pos (by omega), if_pos r]
     exact ⟨rfl, fun z => absurd z (by decide)⟩
   · rw [if_neg (by omega), if_neg r]
     by_cases t : M.groveF (M.rGrove b) = 0
     · rw [if_neg (by simp [t]), t]
       exact ⟨rfl, fun _ => rfl⟩
     · rw [if_pos t, if_neg t]
       exact ⟨rfl, fun z => absurd z t⟩
 · rw [if_pos q]
   simp only [if_pos q, if_neg q]
   exact ⟨by first | rfl | trivial, fun z => absurd z (by first | exact q | trivial)⟩
set_option maxHeartbeats 16000000 in
set_option maxRecDepth 10000 in
theorem wrongR {w : World} {g : Nat} {a : Option Addr} {bs : List Nat} {c : Nat} {O : Gr} (h : Rdr w g a bs c (M.lAll bs).2) (ho : RdG w O) (hm : O.m = M.lGrove bs) : Calls Tryz.prog 36 #[.pointer (some ⟨g, 0, none⟩), O.v] w fun e w' => e = .returned (errV (M.wrF bs)) ∧ Below w.heap.size w w' := by
 have B0 : Hid (∀ o, Below w.heap.size w (w.alloc o)) := fun o => (Below.refl _ w).alloc (Nat.le_refl _) o
 have EW : Hid (M.wrF bs = if (M.lAll bs).2.bad ≠ 0 then (M.lAll bs).2.bad else if (M.lAll bs).2.fin < bs.length then 2 else M.groveF O.m) := by rw [hm]; exact rfl
 have GC := hide (fun W (hW : Below w.heap.size w W) => gcheck_any O W (ho.below hW))
 have gl := h.lt
 have ml := h.rd.1
 have fl := h.fin
 generalize (M.lAll bs).2 = s at *
 generalize M.wrF bs = WF at *
 have y0 := h.box.c0
 have y1 := h.box.c1
 have y2 := h.box.c2
 have A0 := fun o => ((B0.out o).cell (p := ⟨g, 0, none⟩) gl).trans y0
 have A1 := fun o => ((B0.out o).cell (p := ⟨g, 1, none⟩) gl).trans y1
 have A2 := fun o => ((B0.out o).cell (p := ⟨g, 2, none⟩) gl).trans y2
 have BB : bs.length ≤ 9223372036854775807 := ml
 unfold Gr.v at GC ⊢
 clear h ho hm y0 y1 y2 ml
 by_cases q : s.bad = 0
 · rw [if_neg (by simp [q])] at EW
   rw [err_nil q] at A2
   rw [show M.lat s = s.fin from if_pos q] at A1
   have Q := hide q
   clear q
   by_cases r : s.fin < bs.length
   · have EW2 : Hid (WF = 2) := by unfold Hid; rw [EW.out, if_pos r]
     have t1 : decide ((s.fin : Int) < (bs.length : Int)) = true := decide_eq_true (by omega)
     have t2 : decide (s.fin < bs.length) = true := decide_eq_true r
     clear EW GC r
     go_enter Tryz.func36, Tryz.ntmps36
     go_upto_region 3 with fail
     go_quiet (fail)
     have K2 := hide (below_drew (B0.out (.cells #[.int .i64 O.f, .int .i64 O.w, .slice O.wa O.ws.length O.wc, .slice O.ta O.ks.length O.tc] 27)) nq (by simp))
     go_wp2
     go_ret
     exact ⟨by rw [EW2.out]; rfl, K2.out⟩
   · have EW2 : Hid (WF = M.groveF O.m) := by unfold Hid; rw [EW.out, if_neg r]
     have t1 : decide ((s.fin : Int) < (bs.length : Int)) = false := decide_eq_false (by omega)
     have t2 : decide (s.fin < bs.length) = false := decide_eq_false r
     clear EW r
     go_enter Tryz.func36, Tryz.ntmps36
     go_upto_region 3 with fail
     go_quiet (fail)
     have K2 := hide (below_drew (B0.out (.cells #[.int .i64 O.f, .int .i64 O.w, .slice O.wa O.ws.length O.wc, .slice O.ta O.ks.length O.tc] 27)) nq (by simp))
     go_wp2_with (go_at_call 28; refine (GC.out _ K2.out).mono ?_; rintro e w3 ⟨rfl, hb3⟩; have K3 := hide (below_on K2.out hb3); clear hb3)
     go_ret
     exact ⟨by rw [EW2.out]; rfl, K3.out⟩
 · rw [if_pos q] at EW
   rw [err_some q] at A2
   have Q := hide q
   clear GC q
   go_enter Tryz.func36, Tryz.ntmps36
   go_wp2
   go_ret
   exact ⟨by rw [EW.out, err_some Q.out]; rfl, B0.out _⟩
def Gr.no : Gr := ⟨0, 0, none, [], 0, none, [], 0⟩
theorem Gr.no_rd (W : World) : RdG W Gr.no := ⟨⟨Nat.zero_le _, fun h => absurd rfl h⟩, ⟨Nat.zero_le _, (fun k hk => by cases hk), fun h => absurd rfl h⟩⟩
theorem box4 {w W : World} {t : TypeId} {x0 x1 x2 x3 : Value} (hb : Below (w.alloc (.cells #[x0, x1, x2, x3] t)).heap.size (w.alloc (.cells #[x0, x1, x2, x3] t)) W) : (W.cell? ⟨w.heap.size, 0, none⟩ = some x0 ∧ W.cell? ⟨w.heap.size, 1, none⟩ = some x1 ∧ W.cell? ⟨w.heap.size, 2, none⟩ = some x2 ∧ W.cell? ⟨w.heap.size, 3, none⟩ = some x3) ∧ ∀ j, W.frozen? ⟨w.heap.size, j, none⟩ = false := by
 have k := new_kept rfl hb
 exact ⟨⟨k.1 0 _ rfl, k.1 1 _ rfl, k.1 2 _ rfl, k.1 3 _ rfl⟩, k.2⟩
set_option maxHeartbeats 16000000 in
set_option maxRecDepth 10000 in
theorem cddec_any : CdDecGives := by
 intro a bs c w h hc h63
 have bl : bs.length ≤ 9223372036854775807 := h.1
 by_cases big : 6000 < bs.length
 · have E1 : Hid (M.decF bs = (0, 4)) := by unfold Hid M.decF; rw [if_pos big]
   have E2 : Hid (M.decV bs = (0, 0, [], [])) := by unfold Hid M.decV; rw [E1.out]; rfl
   have t1 : decide ((6000 : Int) < (bs.length : Int)) = true := decide_eq_true (by omega)
   have t2 : decide (6000 < bs.length) = true := decide_eq_true big
   obtain ⟨⟨y0, y1, y2, y3⟩, yf⟩ := box4 (w := w) (t := 27) (x0 := .int .i64 0) (x1 := .int .i64 0) (x2 := .slice none 0 0) (x3 := .slice none 0 0) (Below.refl _ _)
   have K4 := hide (lay4 (x0 := .int .i64 0) (x1 := .int .i64 0) (x2 := .slice none 0 0) (x3 := .slice none 0 0) ((Below.refl _ w).alloc (Nat.le_refl _) (.cells #[.int .i64 0, .int .i64 0, .slice none 0 0, .slice none 0 0] 27)) (Nat.le_refl _))
   obtain ⟨e0, e1, e2, e3⟩ := put4_at (x0 := .int .i64 0) (x1 := .int .i64 0) (x2 := .slice none 0 0) (x3 := .slice none 0 0) y0 y1 y2 y3
   clear h hc big
   go_enter Tryz.func10, Tryz.ntmps10
   go_wp2
   refine bodyPost_ret (v := .tuple #[.agg #[.int .i64 0, .int .i64 0, .slice none 0 0, .slice none 0 0], .int .i64 0, .iface 74 (.int .i64 4)]) (by simp [results, Tryz.results10, go_sem, y0, y1, y2, y3]) rfl ?_
   exact ⟨Gr.no, by rw [E1.out]; rfl, by rw [E2.out]; rfl, Gr.no_rd _, (Below.refl _ w).alloc (Nat.le_refl _) _⟩
 · have D := hide (M.dec_is bs big)
   have t1 : decide ((6000 : Int) < (bs.length : Int)) = false := decide_eq_false (by omega)
   have t2 : decide (6000 < bs.length) = false := decide_eq_false big
   obtain ⟨W1, hW1⟩ : ∃ X, X = (w.alloc (.cells #[.int .i64 0, .int .i64 0, .slice none 0 0, .slice none 0 0] 27)).alloc (.cells #[.slice a bs.length c, .int .i64 0, .nilIface] 90) := ⟨_, rfl⟩
   have z1 : W1.heap.size = w.heap.size + 1 + 1 := by rw [hW1]; simp
   have bw1 : Below w.heap.size w W1 := by rw [hW1]; exact ((Below.refl _ w).alloc (Nat.le_refl _) _).alloc (by simp) _
   have k0 : Hid ((W1.cell? ⟨w.heap.size, 0, none⟩ = some (.int .i64 0) ∧ W1.cell? ⟨w.heap.size, 1, none⟩ = some (.int .i64 0) ∧ W1.cell? ⟨w.heap.size, 2, none⟩ = some (.slice none 0 0) ∧ W1.cell? ⟨w.heap.size, 3, none⟩ = some (.slice none 0 0)) ∧ ∀ j, W1.frozen? ⟨w.heap.size, j, none⟩ = false) := by
    rw [hW1]; exact box4 ((Below.refl _ _).alloc (Nat.le_refl _) _)
   have R0 : Hid (Rdr W1 (w.heap.size + 1) a bs c M.in0) := by
    have k := new_kept (w := w.alloc (.cells #[.int .i64 0, .int .i64 0, .slice none 0 0, .slice none 0 0] 27)) (cs := #[.slice a bs.length c, .int .i64 0, .nilIface]) (t := 90) rfl (Below.refl _ _)
    rw [← hW1] at k
    have es : (w.alloc (.cells #[.int .i64 0, .int .i64 0, .slice none 0 0, .slice none 0 0] 27)).heap.size = w.heap.size + 1 := by simp
    rw [es] at k
    refine ⟨⟨k.1 0 _ rfl, k.1 1 _ rfl, k.1 2 _ rfl, k.2⟩, h.below bw1, hc, h63, Nat.zero_le _, fun hn p hp e => ?_⟩
    obtain ⟨b, off, e2, hl, _⟩ := h.2.2 hn
    rw [hp] at e2
    cases e2
    simp at e
    omega
   have GR := hide (groveR R0.out)
   have GL := hide R0.out.lt
   have WR := hide (fun (W : World) (O : Gr) (h1 : Rdr W (w.heap.size + 1) a bs c (M.lAll bs).2) (h2 : RdG W O) (h3 : O.m = M.lGrove bs) => wrongR h1 h2 h3)
   unfold Gr.v at GR WR
   have Z1 := hide z1
   have BW1 := hide bw1
   have DE : Hid ((M.decF bs).2 ≠ 0 → M.decV bs = (0, 0, [], [])) := fun z => by unfold M.decV; rw [if_neg z]
   generalize M.wrF bs = WF at *
   generalize M.decF bs = DF at *
   generalize M.decV bs = DV at *
   generalize M.lAll bs = LA at *
   generalize M.lGrove bs = LG at *
   have HW1 := hide hW1
   clear h hc big z1 bw1 bl h63 hW1
   have AFT : Hid (∀ (w1 w3 : World) (O : Gr), W1.grownBy w1 (some (w.heap.size + 1)) → NewH W1 w1 O → Below (w1.alloc (.cells #[.int .i64 O.f, .int .i64 O.w, .slice O.wa O.ws.length O.wc, .slice O.ta O.ks.length O.tc] 27)).heap.size (w1.alloc (.cells #[.int .i64 O.f, .int .i64 O.w, .slice O.wa O.ws.length O.wc, .slice O.ta O.ks.length O.tc] 27)) w3 → ((w3.cell? ⟨w.heap.size, 0, none⟩ = some (.int .i64 0) ∧ w3.cell? ⟨w.heap.size, 1, none⟩ = some (.int .i64 0) ∧ w3.cell? ⟨w.heap.size, 2, none⟩ = some (.slice none 0 0) ∧ w3.cell? ⟨w.heap.size, 3, none⟩ = some (.slice none 0 0)) ∧ ∀ j, w3.frozen? ⟨w.heap.size, j, none⟩ = false) ∧ Below w.heap.size w w3 ∧ ∀ W'', w3.grownBy W'' (some w.heap.size) → RdG W'' O) := by
    intro w1 w3 O hg hn hb
    have zz := Z1.out
    have hs := hg.size
    have b1 : Below w1.heap.size w1 w3 := below_on ((Below.refl _ w1).alloc (Nat.le_refl _) _) hb
    have e3 : w3.heap[w.heap.size]? = W1.heap[w.heap.size]? := (b1.block _ (by omega)).trans (hg.block _ (by omega) (fun e => by rw [Option.some.injEq] at e; omega))
    obtain ⟨⟨y0, y1, y2, y3⟩, yf⟩ := k0.out
    refine ⟨⟨⟨(World.cell?_of_block (a := ⟨w.heap.size, 0, none⟩) e3).trans y0, (World.cell?_of_block (a := ⟨w.heap.size, 1, none⟩) e3).trans y1, (World.cell?_of_block (a := ⟨w.heap.size, 2, none⟩) e3).trans y2, (World.cell?_of_block (a := ⟨w.heap.size, 3, none⟩) e3).trans y3⟩, fun j => (World.frozen?_of_block (a := ⟨w.heap.size, j, none⟩) e3).trans (yf j)⟩, ?_, fun W'' hg'' => ?_⟩
    · exact below_on (BW1.out.grown hg (by omega) (fun k hk => by cases hk; omega)) b1
    · refine hn W'' (by have := b1.size; have := hg''.size; omega) (fun b h1 h2 => (hg''.block b (by have := b1.size; omega) (fun e => by cases e; omega)).trans (b1.block b h2))
   by_cases q : WF = 0
   · have E1 : Hid (DF = (0, 0)) := by unfold Hid; rw [D.out.1, if_pos q]
     have E2 : Hid (DV = LG) := D.out.2 q
     rw [err_nil q] at WR
     clear D q k0
     go_enter Tryz.func10, Tryz.ntmps10
     go_upto_region 4 with fail
     rw [← HW1.out]
     clear HW1
     go_upto_region 5 with (go_at_call 35; refine GR.out.mono ?_; rintro e w1 ⟨O, rfl, om, nh, rr, gg⟩; have OM := hide om; have NH := hide nh; have RR := hide rr; have GG := hide gg; clear om nh rr gg)
     have RG : Hid (RdG (w1.alloc (.cells #[.int .i64 O.f, .int .i64 O.w, .slice O.wa O.ws.length O.wc, .slice O.ta O.ks.length O.tc] 27)) O) := NH.out _ (by simp) (fun b h1 h2 => ((Below.refl _ w1).alloc (Nat.le_refl _) _).block b h2)
     have RA := hide (RR.out.alloc (.cells #[.int .i64 O.f, .int .i64 O.w, .slice O.wa O.ws.length O.wc, .slice O.ta O.ks.length O.tc] 27))
     go_upto_region 8 with (go_at_call 36; refine (WR.out _ O RA.out RG.out OM.out).mono ?_; rintro e w3 ⟨rfl, hb3⟩; have B3 := hide hb3; clear hb3)
     obtain ⟨⟨⟨x0, x1, x2, x3⟩, xf⟩, kw, rg⟩ := AFT.out w1 w3 O GG.out NH.out B3.out
     obtain ⟨⟨u0, u1, u2, u3⟩, uf⟩ := box4 B3.out
     have f0 := xf 0
     have f1 := xf 1
     have f2 := xf 2
     have f3 := xf 3
     have KW := hide kw
     have RGH := hide rg
     clear xf uf kw rg
     go_wp2
     obtain ⟨e0, e1, e2, e3⟩ := put4_at (x0 := .int .i64 O.f) (x1 := .int .i64 O.w) (x2 := .slice O.wa O.ws.length O.wc) (x3 := .slice O.ta O.ks.length O.tc) x0 x1 x2 x3
     refine bodyPost_ret (v := .tuple #[.agg #[.int .i64 O.f, .int .i64 O.w, .slice O.wa O.ws.length O.wc, .slice O.ta O.ks.length O.tc], .int .i64 0, .nilIface]) (by simp [results, Tryz.results10, go_sem, e0, e1, e2, e3]) rfl ?_
     exact ⟨O, by rw [E1.out]; rfl, by rw [E2.out]; exact OM.out, RGH.out _ grown4_at, lay4 KW.out (Nat.le_refl _)⟩
   · have E1 : Hid (DF = (M.lat LA.2, WF)) := by unfold Hid; rw [D.out.1, if_neg q]
     have E2 : Hid (DV = (0, 0, [], [])) := DE.out (by rw [E1.out]; exact q)
     rw [err_some q] at WR
     have Q := hide q
     clear D q k0
     go_enter Tryz.func10, Tryz.ntmps10
     go_upto_region 4 with fail
     rw [← HW1.out]
     clear HW1
     go_upto_region 5 with (go_at_call 35; refine GR.out.mono ?_; rintro e w1 ⟨O, rfl, om, nh, rr, gg⟩; have OM := hide om; have NH := hide nh; have RR := hide rr; have GG := hide gg; clear om nh rr gg)
     have RG : Hid (RdG (w1.alloc (.cells #[.int .i64 O.f, .int .i64 O.w, .slice O.wa O.ws.length O.wc, .slice O.ta O.ks.length O.tc] 27)) O) := NH.out _ (by simp) (fun b h1 h2 => ((Below.refl _ w1).alloc (Nat.le_refl _) _).block b h2)
     have RA := hide (RR.out.alloc (.cells #[.int .i64 O.f, .int .i64 O.w, .slice O.wa O.ws.length O.wc, .slice O.ta O.ks.length O.tc] 27))
     go_upto_region 7 with (go_at_call 36; refine (WR.out _ O RA.out RG.out OM.out).mono ?_; rintro e w3 ⟨rfl, hb3⟩; have B3 := hide hb3; clear hb3)
     obtain ⟨⟨⟨x0, x1, x2, x3⟩, xf⟩, kw, rg⟩ := AFT.out w1 w3 O GG.out NH.out B3.out
     have u1 := (RA.out.up B3.out).box.c1
     have f0 := xf 0
     have f1 := xf 1
     have f2 := xf 2
     have f3 := xf 3
     have KW := hide kw
     clear xf kw rg
     go_region_with (fail)
     all_goals (
      go_simp
      go_wp2
      obtain ⟨e0, e1, e2, e3⟩ := put4_at (x0 := .int .i64 0) (x1 := .int .i64 0) (x2 := .slice none 0 0) (x3 := .slice none 0 0) x0 x1 x2 x3
      refine bodyPost_ret (v := .tuple #[.agg #[.int .i64 0, .int .i64 0, .slice none 0 0, .slice none 0 0], .int .i64 ((M.lat LA.2 : Nat) : Int), .iface 74 (.int .i64 WF)]) (by simp [results, Tryz.results10, go_sem, e0, e1, e2, e3]) rfl ?_
      exact ⟨Gr.no, by rw [E1.out, err_some Q.out]; rfl, by rw [E2.out]; rfl, Gr.no_rd _, (lay4 KW.out (Nat.le_refl _)).drew⟩)
theorem kept_both {w W : World} {a0 a1 a2 a3 b0 b1 b2 b3 : Value} {t u : TypeId} (h : Below ((w.alloc (.cells #[a0, a1, a2, a3] t)).alloc (.cells #[b0, b1, b2, b3] u)).heap.size ((w.alloc (.cells #[a0, a1, a2, a3] t)).alloc (.cells #[b0, b1, b2, b3] u)) W) :
 (W.cell? ⟨w.heap.size, 0, none⟩ = some a0 ∧ W.cell? ⟨w.heap.size, 1, none⟩ = some a1 ∧ W.cell? ⟨w.heap.size, 3, none⟩ = some a3) ∧
 (W.cell? ⟨w.heap.size + 1, 0, none⟩ = some b0 ∧ W.cell? ⟨w.heap.size + 1, 1, none⟩ = some b1 ∧ W.cell? ⟨w.heap.size + 1, 3, none⟩ = some b3) := by
 have e : (w.alloc (.cells #[a0, a1, a2, a3] t)).heap.size = w.heap.size + 1 := by simp
 have h2 : Below (w.alloc (.cells #[a0, a1, a2, a3] t)).heap.size (w.alloc (.cells #[a0, a1, a2, a3] t)) W := below_on ((Below.refl _ _).alloc (Nat.le_refl _) _) h
 have hs : w.heap.size < (w.alloc (.cells #[a0, a1, a2, a3] t)).heap.size := by simp
 have hs2 : w.heap.size + 1 < ((w.alloc (.cells #[a0, a1, a2, a3] t)).alloc (.cells #[b0, b1, b2, b3] u)).heap.size := by simp
 have c : ∀ j, (w.alloc (.cells #[a0, a1, a2, a3] t)).cell? ⟨w.heap.size, j, none⟩ = _ := fun j => World.cell?_alloc_at _ _ _ j rfl
 have d : ∀ j, ((w.alloc (.cells #[a0, a1, a2, a3] t)).alloc (.cells #[b0, b1, b2, b3] u)).cell? ⟨w.heap.size + 1, j, none⟩ = _ := fun j => World.cell?_alloc_at _ _ _ j (by simp)
 exact ⟨⟨(h2.cell (p := ⟨w.heap.size, 0, none⟩) hs).trans (c 0), (h2.cell (p := ⟨w.heap.size, 1, none⟩) hs).trans (c 1), (h2.cell (p := ⟨w.heap.size, 3, none⟩) hs).trans (c 3)⟩,
  ⟨(h.cell (p := ⟨w.heap.size + 1, 0, none⟩) hs2).trans (d 0), (h.cell (p := ⟨w.heap.size + 1, 1, none⟩) hs2).trans (d 1), (h.cell (p := ⟨w.heap.size + 1, 3, none⟩) hs2).trans (d 3)⟩⟩
set_option maxHeartbeats 8000000 in
set_option maxRecDepth 10000 in
theorem grovesame_any (G O : Gr) (w : World) (hg : RdG w G) (ho : RdG w O) (hm : G.m = O.m) :
 Calls Tryz.prog 11 #[G.v, O.v] w fun e w' => e = .returned (.bool true) ∧ Below w.heap.size w w' := by
 obtain ⟨f, wy, wa, ws, wc, ta, ks, tc⟩ := G
 obtain ⟨f', wy', wa', ws', wc', ta', ks', tc'⟩ := O
 simp only [Gr.m, Prod.mk.injEq] at hm
 obtain ⟨rfl, rfl, rfl, ht⟩ := hm
 have kl : ks'.length = ks.length := by rw [← tl_len ks', ← ht, tl_len]
 have he : ∀ k (h : k < ks.length) (h' : k < ks'.length), ks'[k].2.1 = ks[k].2.1 := fun k h h' => by rw [← tl_at ks' h', ← tl_at ks h, ht]
 have HE := hide he
 have KL := hide kl
 have hl : ks.length ≤ 9223372036854775807 := hg.2.1
 show Calls Tryz.prog 11 #[.agg #[.int .i64 f, .int .i64 wy, .slice wa ws.length wc, .slice ta ks.length tc], .agg #[.int .i64 f, .int .i64 wy, .slice wa' ws.length wc', .slice ta' ks'.length tc']] w fun e w' => e = .returned (.bool true) ∧ Below w.heap.size w w'
 rw [kl]
 have CI := hide (fun W (hW : Below w.heap.size w W) => ints_any wa wa' ws ws wc wc' W (hg.1.below hW) (ho.1.below hW))
 simp only [decide_true] at CI
 have HG : Hid (∀ W, Below w.heap.size w W → RdT W ta ks) := fun W hW => hg.2.below hW
 have HO : Hid (∀ W, Below w.heap.size w W → RdT W ta' ks') := fun W hW => ho.2.below hW
 obtain ⟨gO, hgO⟩ : ∃ o : Obj, o = .cells #[.int .i64 f, .int .i64 wy, .slice wa ws.length wc, .slice ta ks.length tc] 27 := ⟨_, rfl⟩
 obtain ⟨oO, hoO⟩ : ∃ o : Obj, o = .cells #[.int .i64 f, .int .i64 wy, .slice wa' ws.length wc', .slice ta' ks.length tc'] 27 := ⟨_, rfl⟩
 have B0 : Hid (∀ W, Below ((w.alloc gO).alloc oO).heap.size ((w.alloc gO).alloc oO) W → Below w.heap.size w W) := fun W hW => below_on (((Below.refl _ w).alloc (Nat.le_refl _) gO).alloc (by simp) oO) hW
 have CG : Hid (∀ W, Below ((w.alloc gO).alloc oO).heap.size ((w.alloc gO).alloc oO) W → (W.cell? ⟨w.heap.size, 0, none⟩ = some (.int .i64 f) ∧ W.cell? ⟨w.heap.size, 1, none⟩ = some (.int .i64 wy) ∧ W.cell? ⟨w.heap.size, 3, none⟩ = some (.slice ta ks.length tc)) ∧ (W.cell? ⟨w.heap.size + 1, 0, none⟩ = some (.int .i64 f) ∧ W.cell? ⟨w.heap.size + 1, 1, none⟩ = some (.int .i64 wy) ∧ W.cell? ⟨w.heap.size + 1, 3, none⟩ = some (.slice ta' ks.length tc'))) := fun W hW => by rw [hgO, hoO] at hW; exact kept_both hW
 have R0 : Hid (Below w.heap.size w ((w.alloc gO).alloc oO)) := ((Below.refl _ w).alloc (Nat.le_refl _) gO).alloc (by simp) oO
 rw [hgO, hoO] at B0 CG R0
 clear hg ho ht kl he hgO hoO
 go_enter Tryz.func11, Tryz.ntmps11
 go_wp2_with (go_at_call 37; refine (CI.out _ R0.out).mono ?_; rintro e w1 ⟨rfl, hb1⟩; have q := CG.out _ hb1; have c0 := q.1.1; have c1 := q.1.2.1; have c3 := q.1.2.2; have d0 := q.2.1; have d1 := q.2.2.1; have d3 := q.2.2.2; clear q)
 have G1 := hide hb1
 clear CI c0 c1 c3 d0 d1 d3 hb1
 go_loopw [6] (fun i wr => ∃ k : Nat, k ≤ ks.length ∧ i = .int .i64 k ∧ Hid (Below w1.heap.size w1 wr)) (fun i _ => ks.length - (intOf i).toNat)
 case atStart => exact ⟨0, Nat.zero_le _, rfl, Below.refl _ _⟩
 case round =>
  obtain ⟨k, hk, rfl, K⟩ := hrel
  have g2 := below_on G1.out K.out
  have kw := B0.out _ g2
  obtain ⟨⟨c0, c1, c3⟩, d0, d1, d3⟩ := CG.out _ g2
  by_cases hlt : k < ks.length
  · have hlt' : k < ks'.length := by rw [KL.out]; exact hlt
    have kz : (k : Int) < (ks.length : Int) := by omega
    obtain ⟨b1, o1, e1, h1, hc1⟩ := (HG.out wr kw).2.2 (by intro e; rw [e] at hlt; simp at hlt)
    obtain ⟨b2, o2, e2, h2, hc2⟩ := (HO.out wr kw).2.2 (by intro e; rw [e] at hlt'; simp at hlt')
    have s1 := hc1 k hlt
    have s2 := hc2 k hlt'
    have r1 := (HG.out wr kw).2.1 _ (List.getElem_mem hlt)
    have r2 := (HO.out wr kw).2.1 _ (List.getElem_mem hlt')
    have ee := HE.out k hlt hlt'
    unfold tV at s1 s2
    rw [ee] at s2 r2
    rw [e1] at c3
    rw [e2] at d3
    have NS := hide (nodesame_any ks[k].1 ks'[k].1 ks[k].2.1 ks[k].2.2 ks'[k].2.2 wr.drew (r1.below (Below.refl _ wr).drew) (r2.below (Below.refl _ wr).drew))
    have c3d : wr.drew.cell? ⟨w.heap.size, 3, none⟩ = some (.slice (some ⟨b1, o1, none⟩) ks.length tc) := c3
    have d3d : wr.drew.cell? ⟨w.heap.size + 1, 3, none⟩ = some (.slice (some ⟨b2, o2, none⟩) ks.length tc') := d3
    have s1d : wr.drew.cell? ⟨b1, o1 + k, none⟩ = some (.slice ks[k].1 ks[k].2.1.length ks[k].2.2) := s1
    have s2d : wr.drew.cell? ⟨b2, o2 + k, none⟩ = some (.slice ks'[k].1 ks[k].2.1.length ks'[k].2.2) := s2
    clear hc1 hc2 r1 r2 ee HG HO HE e1 e2
    generalize ks[k].2.1.length = tn at *
    generalize ks[k].1 = a1 at *
    generalize ks'[k].1 = a2 at *
    generalize ks[k].2.2 = x1 at *
    generalize ks'[k].2.2 = x2 at *
    go_upto_region 7 with fail
    go_cut [7] from 45 to 55 (fun t wx => t = .bool true ∧ Hid (Below wr.heap.size wr wx))
    case first =>
     go_region_with (go_at_call 38; refine NS.out.mono ?_; rintro e w5 ⟨rfl, hb5⟩)
     all_goals go_wp2
     all_goals go_meet
     all_goals (case rel => exact ⟨rfl, (Below.refl wr.heap.size wr).drew.trans hb5⟩)
    case rest =>
     obtain ⟨rfl, K6⟩ := hcut
     have K7 := hide (below_on K.out K6.out)
     go_wp2
     go_roundw
     case rel => exact ⟨k + 1, by omega, by go_num, K7⟩
     case measure => simp [intOf]; omega
  · go_wp2
    go_ret
    exact ⟨rfl, kw⟩
end Go.Proofs.YtelncekgjfpogahGreatDoor
