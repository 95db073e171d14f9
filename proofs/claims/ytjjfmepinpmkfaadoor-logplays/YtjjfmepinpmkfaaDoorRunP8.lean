/-
  Several texts as one: MapSelf, ShBx.
-/
import Derived.Test.YtjjfmepinpmkfaaDoorRunP1
import Derived.Maps.OwnOps
import Derived.Maps.OwnSet
import Derived.Maps.Views
import Derived.LaidEqlPtr
namespace Go.Proofs.YtjjfmepinpmkfaaDoor
open Go.ChangeShapes Go.WideShapes Go.ChangeAt Go.RowKit Go.Lib Go.Maps
set_option linter.unusedVariables false
/-- how an element reads: as itself -/
def selfE (v : Value) : Option (DataW Value × List MemPlace) := some (.held v, [])
theorem ownsMap_keep {W W' : World} {P : Program} {k : TypeId} {R : Value → Option (DataW Value × List MemPlace)} {b n : Nat} {D : DataW Value} (h : W.ownsMap P k R b n D) (hk : W'.heap[b]? = W.heap[b]?) : W'.ownsMap P k R b n D := by
  obtain ⟨es, clock, hb, r⟩ := h
  exact ⟨es, clock, hk.trans hb, r⟩
end Go.Proofs.YtjjfmepinpmkfaaDoor

namespace Go.Proofs.YtjjfmepinpmkfaaDoor
open Go.ChangeShapes Go.WideShapes Go.ChangeAt Go.RowKit Go.Lib
set_option linter.unusedVariables false
/-- a block's cells, free to be written -/
def Bx (W : World) (b : Nat) (l : List Value) : Prop := ∃ t, W.heap[b]? = some (.cells l.toArray t (0, 0))
theorem Bx.cell {W : World} {b : Nat} {l : List Value} (h : Bx W b l) (j : Nat) (v : Value) (hv : l[j]? = some v) : W.cell? ⟨b, j, none⟩ = some v := by
  obtain ⟨t, h⟩ := h
  rw [cell_of_row _ _ _ _ _ _ h]
  simpa using hv
theorem Bx.free {W : World} {b : Nat} {l : List Value} (h : Bx W b l) (j : Nat) : W.frozen? ⟨b, j, none⟩ = false := by
  obtain ⟨t, h⟩ := h
  simp [World.frozen?, h]
theorem Bx.keep {W W' : World} {b : Nat} {l : List Value} (h : Bx W b l) (hk : W'.heap[b]? = W.heap[b]?) : Bx W' b l := by
  obtain ⟨t, h⟩ := h
  exact ⟨t, hk.trans h⟩
theorem Bx.lt {W : World} {b : Nat} {l : List Value} (h : Bx W b l) : b < W.heap.size := by
  obtain ⟨t, h⟩ := h
  exact (Array.getElem?_eq_some_iff.1 h).1
theorem Bx.put {W : World} {b : Nat} {l : List Value} (h : Bx W b l) {j : Nat} {v : Value} : Bx (W.setCell ⟨b, j, none⟩ v) b (l.set j v) := by
  obtain ⟨t, h⟩ := h
  refine ⟨t, ?_⟩
  rw [heap_setCell_same _ _ _ _ _ _ h]
  simp
theorem Bx.else {W : World} {b : Nat} {l : List Value} (h : Bx W b l) {p j : Nat} {v : Value} (hne : b ≠ p) : Bx (W.setCell ⟨p, j, none⟩ v) b l := h.keep (heap_setCell_other _ _ _ _ hne)
theorem bx_new (W : World) (l : List Value) (t : TypeId) : Bx (W.alloc (.cells l.toArray t)) W.heap.size l := ⟨t, Array.getElem?_push_size⟩
theorem Bx.any {W : World} {b : Nat} {l : List Value} (h : Bx W b l) (p j : Nat) (v : Value) : ∃ l', Bx (W.setCell ⟨p, j, none⟩ v) b l' := by
  by_cases q : b = p
  · subst q; exact ⟨_, h.put⟩
  · exact ⟨_, h.else q⟩
/-- pointers to blocks are the same where the blocks are -/
theorem bx_eql {W : World} {a b : Nat} {l r : List Value} {tp te : TypeId} {n : Nat} (hp : Tryd.prog.underlying tp = some (.pointer te)) (hs : (Tryd.prog.info? te).map (fun i => i.size) = some n) (hn : n ≠ 0) (ha : Bx W a l) (hb : Bx W b r) :
    (binOp .eql tp (.pointer (some ⟨a, 0, none⟩)) (.pointer (some ⟨b, 0, none⟩))).run Tryd.prog W = .ok (.bool (decide (a = b))) W := by
  obtain ⟨j, hj, hjs⟩ := Option.map_eq_some_iff.1 hs
  obtain ⟨ta, ha⟩ := ha
  obtain ⟨tb, hb⟩ := hb
  by_cases q : a = b
  · subst q
    simpa using run_eql_ptr_same (P := Tryd.prog) W ⟨a, 0, none⟩ hp hj
  · rw [decide_eq_false q]
    exact run_eql_ptr_other (P := Tryd.prog) W hp hj (by rw [hjs]; exact hn) (by intro e; cases e; exact q rfl) ha hb
/-- a pointer to a block, or none -/
def ptB (o : Option Nat) : Value := .pointer (o.map fun b => ⟨b, 0, none⟩)
theorem StayBut.refl (K : Nat → Prop) (W : World) : StayBut K W W := ⟨rfl, rfl, rfl, Nat.le_refl _, fun _ _ _ => rfl⟩
theorem StayBut.trans {K : Nat → Prop} {a b c : World} (h : StayBut K a b) (k : StayBut K b c) : StayBut K a c :=
  ⟨k.os.trans h.os, k.tape.trans h.tape, k.output.trans h.output, Nat.le_trans h.size k.size, fun q hq hk => (k.block q (Nat.lt_of_lt_of_le hq h.size) hk).trans (h.block q hq hk)⟩
theorem StayBut.mono {K L : Nat → Prop} {a b : World} (h : StayBut K a b) (hl : ∀ q, q < a.heap.size → K q → L q) : StayBut L a b :=
  ⟨h.os, h.tape, h.output, h.size, fun q hq hk => h.block q hq (fun z => hk (hl q hq z))⟩
theorem stay_grown {K : Nat → Prop} {a b : World} {p : Nat} (h : a.grownBy b (some p)) (hp : K p) : StayBut K a b :=
  ⟨h.os, h.tape, h.output, h.size, fun q hq hk => h.block q hq (fun e => hk (by cases e; exact hp))⟩
theorem stay_set {K : Nat → Prop} {W : World} {p j : Nat} {v : Value} (hp : K p) : StayBut K W (W.setCell ⟨p, j, none⟩ v) := stay_grown grown_set hp
theorem stay_of {K : Nat → Prop} {B : Nat} {W W' : World} (h : Below B W W') (hB : W.heap.size ≤ B) : StayBut K W W' := ⟨h.os, h.tape, h.output, h.size, fun q hq _ => h.block q (Nat.lt_of_lt_of_le hq hB)⟩
theorem stay_low {K : Nat → Prop} {B : Nat} {W W' : World} (h : Below B W W') (hB : ∀ q, B ≤ q → q < W.heap.size → K q) : StayBut K W W' := ⟨h.os, h.tape, h.output, h.size, fun q hq hk => h.block q (by
  by_cases z : q < B
  · exact z
  · exact absurd (hB q (by omega) hq) hk)⟩
end Go.Proofs.YtjjfmepinpmkfaaDoor
