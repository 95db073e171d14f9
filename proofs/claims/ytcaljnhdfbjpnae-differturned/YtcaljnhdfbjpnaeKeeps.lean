/-
  What closures do that are called leaf by leaf: blocks that stay as they are, and what they keep count of; no condition beyond those named.
-/
import Derived.Test.YtcaljnhdfbjpnaeNodes
import Derived.Test.YtcaljnhdfbjpnaeSpans
import Derived.Test.YtcaljnhdfbjpnaeGrown
import Derived.RegionTactic
namespace Go.Proofs.Ytcaljnhdfbjpnae
open Go.ChangeShapes Go.WideShapes Go.ChangeAt Go.RowKit Go.Lib
set_option linter.unusedVariables false

/-- some blocks hold what they held -/
def Keeps (K : Nat → Prop) (W W' : World) : Prop := W.heap.size ≤ W'.heap.size ∧ ∀ b o, K b → b < W.heap.size → W'.cell? ⟨b, o, none⟩ = W.cell? ⟨b, o, none⟩
theorem Keeps.refl (K : Nat → Prop) (W : World) : Keeps K W W := ⟨Nat.le_refl _, fun _ _ _ _ => rfl⟩
theorem Keeps.trans {K : Nat → Prop} {W1 W2 W3 : World} (h1 : Keeps K W1 W2) (h2 : Keeps K W2 W3) : Keeps K W1 W3 := ⟨Nat.le_trans h1.1 h2.1, fun b o hb hl => (h2.2 b o hb (Nat.lt_of_lt_of_le hl h1.1)).trans (h1.2 b o hb hl)⟩
theorem Keeps.of {K : Nat → Prop} {W W' : World} (h : Below W.heap.size W W') : Keeps K W W' := ⟨h.size, fun b o _ hl => h.cell (p := ⟨b, o, none⟩) hl⟩
theorem Keeps.mono {K K' : Nat → Prop} {W W' : World} (h : Keeps K W W') (hk : ∀ b, K' b → K b) : Keeps K' W W' := ⟨h.1, fun b o hb hl => h.2 b o (hk b hb) hl⟩
theorem Keeps.drew {K : Nat → Prop} {W W' : World} (h : Keeps K W W') : Keeps K W W'.drew := h
theorem Keeps.set {K : Nat → Prop} {W W' : World} (h : Keeps K W W') {p o : Nat} (hp : ¬ K p) (v : Value) : Keeps K W (W'.setCell ⟨p, o, none⟩ v) :=
  ⟨by simpa using h.1, fun b o' hb hl => (World.cell?_setCell_other _ _ _ _ (by intro e; cases e; exact hp hb)).trans (h.2 b o' hb hl)⟩
theorem Rd.keeps {K : Nat → Prop} {W W' : World} {ra : Option Addr} {L : List Int} (h : Rd W ra L) (hB : L ≠ [] → ∀ x, ra = some x → K x.block) (hf : Keeps K W W') : Rd W' ra L := by
  refine ⟨h.1, fun hn => ?_⟩
  obtain ⟨b, off, rfl, hb, hc⟩ := h.2 hn
  exact ⟨b, off, rfl, Nat.lt_of_lt_of_le hb hf.1, fun i hi => (hf.2 b _ (hB hn _ rfl) hb).trans (hc i hi)⟩
theorem RdS.keeps {K : Nat → Prop} {W W' : World} {ra : Option Addr} {L : List M.Sp} (h : RdS W ra L) (hB : L ≠ [] → ∀ x, ra = some x → K x.block) (hf : Keeps K W W') : RdS W' ra L := by
  refine ⟨h.1, fun hn => ?_⟩
  obtain ⟨b, off, rfl, hb, hc⟩ := h.2 hn
  refine ⟨b, off, rfl, Nat.lt_of_lt_of_le hb hf.1, fun i hi => ?_⟩
  obtain ⟨c0, c1, c2⟩ := hc i hi
  exact ⟨(hf.2 b _ (hB hn _ rfl) hb).trans c0, (hf.2 b _ (hB hn _ rfl) hb).trans c1, (hf.2 b _ (hB hn _ rfl) hb).trans c2⟩
/-- what is kept count of, in blocks that are not among some others -/
structure Doer (w : World) (Inv : (Nat → Prop) → Nat → World → Prop) : Prop where
  up : ∀ {K K' : Nat → Prop} {s : Nat} {W W' : World}, Inv K s W → (∀ b, K' b → K b ∨ (W.heap.size ≤ b ∧ b < W'.heap.size)) → Below W.heap.size W W' → Inv K' s W'
  kb : ∀ {K : Nat → Prop} {s : Nat} {W : World}, Inv K s W → ∀ b, K b → b < W.heap.size
  below : ∀ {K : Nat → Prop} {s : Nat} {W : World}, Inv K s W → Below w.heap.size w W
theorem Doer.on {w : World} {Inv : (Nat → Prop) → Nat → World → Prop} (D : Doer w Inv) {K : Nat → Prop} {s : Nat} {W W' : World} (h : Inv K s W) (hb : Below W.heap.size W W') : Inv K s W' := D.up h (fun b hk => .inl hk) hb
theorem Doer.less {w : World} {Inv : (Nat → Prop) → Nat → World → Prop} (D : Doer w Inv) {K K' : Nat → Prop} {s : Nat} {W : World} (h : Inv K s W) (hk : ∀ b, K' b → K b) : Inv K' s W := D.up h (fun b q => .inl (hk b q)) (Below.refl _ _)

/-- a number in a block of its own -/
structure MV (w : World) (p : Nat) (K : Nat → Prop) (n : Nat) (W : World) : Prop where
  cell : W.cell? ⟨p, 0, none⟩ = some (.int .i64 (n : Nat))
  froz : W.frozen? ⟨p, 0, none⟩ = false
  lt : p < W.heap.size
  ge : w.heap.size ≤ p
  out : ¬ K p
  kb : ∀ b, K b → b < W.heap.size
  below : Below w.heap.size w W
theorem up_kb {K K' : Nat → Prop} {W W' : World} (hk : ∀ b, K' b → K b ∨ (W.heap.size ≤ b ∧ b < W'.heap.size)) (h : ∀ b, K b → b < W.heap.size) (hb : W.heap.size ≤ W'.heap.size) : ∀ b, K' b → b < W'.heap.size := fun b q => by
  rcases hk b q with e | e
  · exact Nat.lt_of_lt_of_le (h b e) hb
  · exact e.2
theorem mv_doer (w : World) (p : Nat) : Doer w (MV w p) :=
  ⟨fun {K K' s W W'} h hk hb => ⟨(hb.cell (p := ⟨p, 0, none⟩) h.lt).trans h.cell, (hb.frozen (p := ⟨p, 0, none⟩) h.lt).trans h.froz, Nat.lt_of_lt_of_le h.lt hb.size, h.ge, fun q => by
      rcases hk p q with e | e
      · exact h.out e
      · exact absurd h.lt (by omega), up_kb hk h.kb hb.size, below_on h.below hb⟩, fun h => h.kb, fun h => h.below⟩
theorem MV.more {w : World} {p : Nat} {K : Nat → Prop} {n : Nat} {W : World} (h : MV w p K n W) : MV w p K (n + 1) (W.setCell ⟨p, 0, none⟩ (.int .i64 ((n : Int) + 1))) :=
  ⟨by rw [World.cell?_setCell_same _ _ _ h.cell]; rfl, by simpa using h.froz, by simpa using h.lt, h.ge, h.out, by simpa using h.kb, h.below.setCell (p := ⟨p, 0, none⟩) h.ge _⟩

/-- rows in a slice that grows, whose first shows something -/
structure TV (w : World) (P : List Int → Prop) (p : Nat) (K : Nat → Prop) (n : Nat) (W : World) : Prop where
  lt : p < W.heap.size
  ge : w.heap.size ≤ p
  out : ¬ K p
  kb : ∀ b, K b → b < W.heap.size
  froz : W.frozen? ⟨p, 0, none⟩ = false
  below : Below w.heap.size w W
  rows : ∃ v Vs, W.cell? ⟨p, 0, none⟩ = some v ∧ W.ownsRow (p + 1) 23 1 v n Vs ∧ (∀ g, v.ownBlock = some g → ¬ K g) ∧ (0 < n → ∃ pb pc L, Vs[0]? = some (.slice (some ⟨pb, 0, none⟩) L.length pc) ∧ Rd W (some ⟨pb, 0, none⟩) L ∧ P L ∧ p ≠ pb ∧ pb < W.heap.size ∧ v.ownBlock ≠ some pb)
theorem own_lt {W : World} {base n e size : Nat} {v : Value} {l : List Value} (h : W.ownsRow base e size v n l) {g : Nat} (hg : v.ownBlock = some g) : g < W.heap.size := (h.lt g hg).2
theorem tv_doer (w : World) (P : List Int → Prop) (p : Nat) : Doer w (TV w P p) := by
  refine ⟨fun {K K' s W W'} h hk hb => ⟨Nat.lt_of_lt_of_le h.lt hb.size, h.ge, fun q => ?_, up_kb hk h.kb hb.size, (hb.frozen (p := ⟨p, 0, none⟩) h.lt).trans h.froz, below_on h.below hb, ?_⟩, fun h => h.kb, fun h => h.below⟩
  · rcases hk p q with e | e
    · exact h.out e
    · exact absurd h.lt (by omega)
  · obtain ⟨v, Vs, c, o, ok, f⟩ := h.rows
    refine ⟨v, Vs, (hb.cell (p := ⟨p, 0, none⟩) h.lt).trans c, own_up o hb, fun g hg q => ?_, fun hn => ?_⟩
    · rcases hk g q with e | e
      · exact ok g hg e
      · exact absurd (own_lt o hg) (by omega)
    · obtain ⟨pb, pc, L, f1, f2, f3, f4, f5, f6⟩ := f hn
      exact ⟨pb, pc, L, f1, f2.below hb, f3, f4, Nat.lt_of_lt_of_le f5 hb.size, f6⟩

end Go.Proofs.Ytcaljnhdfbjpnae
