/-
  What limit.Tree's own closure does with one leaf more: the least and the greatest so far.
-/
import Derived.Test.YthbeoaninipadafNodes
import Derived.Test.YthbeoaninipadafSpans
import Derived.Test.YthbeoaninipadafLMathB
import Derived.RegionTactic
namespace Go.Proofs.Ythbeoaninipadaf
open Go.ChangeShapes Go.WideShapes Go.ChangeAt Go.RowKit Go.Lib
set_option linter.unusedVariables false

/-- what the closure finds: the least and the greatest so far, each in a block of its own -/
structure TI (w : World) (B p q : Nat) (s : M.EndsS) (W : World) : Prop where
  c0 : W.cell? ⟨p, 0, none⟩ = some (.int .i64 (M.loS s))
  c1 : W.cell? ⟨q, 0, none⟩ = some (.int .i64 (M.hiS s))
  f0 : W.frozen? ⟨p, 0, none⟩ = false
  f1 : W.frozen? ⟨q, 0, none⟩ = false
  size : B ≤ W.heap.size
  below : Below w.heap.size w W
theorem TI.up {w : World} {B p q : Nat} {s : M.EndsS} {W W' : World} (h : TI w B p q s W) (hp : p < B) (hq : q < B) (hb : Below W.heap.size W W') : TI w B p q s W' := by
  have hs := h.size
  exact ⟨(hb.cell (p := ⟨p, 0, none⟩) (show p < _ by omega)).trans h.c0, (hb.cell (p := ⟨q, 0, none⟩) (show q < _ by omega)).trans h.c1, (hb.frozen (p := ⟨p, 0, none⟩) (show p < _ by omega)).trans h.f0, (hb.frozen (p := ⟨q, 0, none⟩) (show q < _ by omega)).trans h.f1, Nat.le_trans hs hb.size, below_on h.below hb⟩
theorem far_cell' {W : World} {p q o o' : Nat} {v : Value} (h : p ≠ q) : (W.setCell ⟨p, o, none⟩ v).cell? ⟨q, o', none⟩ = W.cell? ⟨q, o', none⟩ := World.cell?_setCell_other _ _ _ _ (by intro e; cases e; exact h rfl)
/-- what lies from a block on is as it was -/
def Far (B : Nat) (W W' : World) : Prop := W.heap.size ≤ W'.heap.size ∧ ∀ b o, B ≤ b → b < W.heap.size → W'.cell? ⟨b, o, none⟩ = W.cell? ⟨b, o, none⟩
theorem Far.refl (B : Nat) (W : World) : Far B W W := ⟨Nat.le_refl _, fun _ _ _ _ => rfl⟩
theorem Far.trans {B : Nat} {W1 W2 W3 : World} (h1 : Far B W1 W2) (h2 : Far B W2 W3) : Far B W1 W3 := ⟨Nat.le_trans h1.1 h2.1, fun b o hb hl => (h2.2 b o hb (Nat.lt_of_lt_of_le hl h1.1)).trans (h1.2 b o hb hl)⟩
theorem Far.set (B : Nat) (W : World) {p o : Nat} (hp : p < B) (v : Value) : Far B W (W.setCell ⟨p, o, none⟩ v) := ⟨by simp, fun b o' hb _ => far_cell' (by omega)⟩
theorem Far.of {B : Nat} {W W' : World} (h : Below W.heap.size W W') : Far B W W' := ⟨h.size, fun b o _ hl => h.cell (p := ⟨b, o, none⟩) hl⟩
theorem Far.drew {B : Nat} {W W' : World} (h : Far B W W') : Far B W W'.drew := h
theorem Rd.far {B : Nat} {W W' : World} {ra : Option Addr} {L : List Int} (h : Rd W ra L) (hB : ∀ x, ra = some x → B ≤ x.block) (hf : Far B W W') : Rd W' ra L := by
  refine ⟨h.1, fun hn => ?_⟩
  obtain ⟨b, off, rfl, hb, hc⟩ := h.2 hn
  exact ⟨b, off, rfl, Nat.lt_of_lt_of_le hb hf.1, fun i hi => (hf.2 b _ (hB _ rfl) hb).trans (hc i hi)⟩
theorem TI.more {w : World} {B p q : Nat} {s s' : M.EndsS} {W : World} (h : TI w B p q s W) (hpq : p ≠ q) (hp : w.heap.size ≤ p) (hq : w.heap.size ≤ q) : TI w B p q s' ((W.setCell ⟨p, 0, none⟩ (.int .i64 (M.loS s'))).setCell ⟨q, 0, none⟩ (.int .i64 (M.hiS s'))) := by
  refine ⟨?_, ?_, ?_, ?_, ?_, ?_⟩
  · rw [far_cell' (fun e => hpq e.symm)]; exact World.cell?_setCell_same _ _ _ h.c0
  · exact World.cell?_setCell_same (u := .int .i64 (M.hiS s)) _ _ _ (by rw [far_cell' hpq]; exact h.c1)
  · simpa using h.f0
  · simpa using h.f1
  · simpa using h.size
  · exact (h.below.setCell (p := ⟨p, 0, none⟩) hp _).setCell (p := ⟨q, 0, none⟩) hq _
theorem TI.drew {w : World} {B p q : Nat} {s : M.EndsS} {W : World} (h : TI w B p q s W) : TI w B p q s W.drew := ⟨h.c0, h.c1, h.f0, h.f1, h.size, h.below.drew⟩

set_option maxHeartbeats 2000000 in
theorem tree1_any (w : World) (B p q : Nat) (s : M.EndsS) (v : Int) (P : List Int) (pa : Option Addr) (pc : Nat) (W : World) (h : TI w B p q s W) (hp : p < B) (hq : q < B) (hpq : p ≠ q) (gp : w.heap.size ≤ p) (gq : w.heap.size ≤ q) (v0 : -1000000 ≤ v) (v1 : v ≤ 1000000) :
    Calls Try.prog 34 #[.int .i64 v, .slice pa P.length pc, .pointer (some ⟨p, 0, none⟩), .pointer (some ⟨q, 0, none⟩)] W fun e w' => e = .returned (.tuple #[]) ∧ TI w B p q (M.endS s v P) w' ∧ Far B W w' := by
  have c0 := h.c0
  have c1 := h.c1
  have f0 := h.f0
  have f1 := h.f1
  have EL := hide (M.lo_more (s := s) (p := P) v1)
  have EH := hide (M.hi_more (s := s) (p := P) v0)
  have MO := hide (h.more (s' := M.endS s v P) hpq gp gq)
  clear h
  generalize M.loS s = lo at *
  generalize M.hiS s = hi at *
  go_enter Try.func34, Try.ntmps34
  go_region
  go_end0
  have := MO.out
  rw [EL.out, EH.out] at this
  exact ⟨rfl, this.drew, ((Far.set B W hp _).trans (Far.set B _ hq _)).drew⟩

end Go.Proofs.Ythbeoaninipadaf
