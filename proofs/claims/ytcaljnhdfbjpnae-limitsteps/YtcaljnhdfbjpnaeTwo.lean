/-
  Two rows of numbers of our own that grow side by side; no condition beyond those named.
-/
import Derived.Test.YtcaljnhdfbjpnaeBase
import Derived.Deep.AppendLies
namespace Go.Proofs.Ytcaljnhdfbjpnae
open Go.ChangeShapes Go.WideShapes Go.ChangeAt Go.RowKit
set_option linter.unusedVariables false

structure Two (w0 W : World) (x y : Value) (X Y : List Int) : Prop where
  ox : W.ownsRow w0.heap.size 3 1 x X.length (X.map (Value.int .i64))
  oy : W.ownsRow w0.heap.size 3 1 y Y.length (Y.map (Value.int .i64))
  dj : x.ownBlock = none ∨ y.ownBlock = none ∨ x.ownBlock ≠ y.ownBlock
  b : Below w0.heap.size w0 W
theorem Two.begin (w0 : World) : Two w0 w0 (.slice none 0 0) (.slice none 0 0) [] [] := ⟨World.ownsRow_nil _ _ _ _, World.ownsRow_nil _ _ _ _, .inl rfl, Below.refl _ _⟩
theorem Two.up {w0 W W' : World} {x y : Value} {X Y : List Int} (h : Two w0 W x y X Y) (hb : Below W.heap.size W W') : Two w0 W' x y X Y := ⟨own_up h.ox hb, own_up h.oy hb, h.dj, below_on h.b hb⟩
theorem Two.first {w0 W w7 : World} {x y : Value} {X Y : List Int} {o : Obj} {g c : Nat} {u : Int} (h : Two w0 W x y X Y) (hg : (W.alloc o).grownBy w7 x.ownBlock) (ho : w7.ownsRow w0.heap.size 3 1 (.slice (some ⟨g, 0, none⟩) (X.length + 1) c) (X.length + 1) (X.map (Value.int .i64) ++ [.int .i64 u])) (hat : x.ownBlock = some g ∨ g = W.heap.size + 1) :
    Two w0 w7 (.slice (some ⟨g, 0, none⟩) (X.length + 1) c) y (X ++ [u]) Y := by
  have hs := h.b.size
  have ne : y.ownBlock = none ∨ y.ownBlock ≠ x.ownBlock := by
    rcases h.dj with q | q | q
    · cases hy : y.ownBlock with
      | none => exact .inl rfl
      | some z => exact .inr (by rw [q]; simp)
    · exact .inl q
    · exact .inr (fun e => q e.symm)
  refine ⟨by rw [List.map_append, List.length_append]; exact ho, (h.oy.alloc _).kept hg ne, ?_, ?_⟩
  · rcases ne with q | q
    · exact .inr (.inl q)
    · refine .inr (.inr (fun e => ?_))
      have e' : some g = y.ownBlock := e
      rcases hat with p | p
      · exact q (by rw [p, e'])
      · have := (h.oy.lt g e'.symm).2; omega
  · exact (h.b.alloc (by omega) _).grown hg (by simp; omega) (fun k hk => (h.ox.lt k hk).1)
theorem Two.second {w0 W w7 : World} {x y : Value} {X Y : List Int} {o : Obj} {g c : Nat} {u : Int} (h : Two w0 W x y X Y) (hg : (W.alloc o).grownBy w7 y.ownBlock) (ho : w7.ownsRow w0.heap.size 3 1 (.slice (some ⟨g, 0, none⟩) (Y.length + 1) c) (Y.length + 1) (Y.map (Value.int .i64) ++ [.int .i64 u])) (hat : y.ownBlock = some g ∨ g = W.heap.size + 1) :
    Two w0 w7 x (.slice (some ⟨g, 0, none⟩) (Y.length + 1) c) X (Y ++ [u]) := by
  have sw : Two w0 W y x Y X := ⟨h.oy, h.ox, by
    rcases h.dj with q | q | q
    · exact .inr (.inl q)
    · exact .inl q
    · exact .inr (.inr (fun e => q e.symm)), h.b⟩
  have r := sw.first hg ho hat
  exact ⟨r.oy, r.ox, by
    rcases r.dj with q | q | q
    · exact .inr (.inl q)
    · exact .inl q
    · exact .inr (.inr (fun e => q e.symm)), r.b⟩

theorem own_beside {w : World} {base n e size p o : Nat} {v x : Value} {l : List Value} (h : w.ownsRow base e size v n l) (hp : v.ownBlock ≠ some p) : (w.setCell ⟨p, o, none⟩ x).ownsRow base e size v n l := by
  refine ⟨h.1, ?_⟩
  rcases h.2 with h0 | ⟨g, cap, cur, hv, h1, h2, h3⟩
  · exact .inl h0
  · refine .inr ⟨g, cap, cur, hv, h1, ?_, h3⟩
    rw [← h2]
    have : ¬ p = g := fun e => hp (by rw [hv, e]; rfl)
    simp [World.setCell, Array.getElem?_modify, this]
theorem own_nocap {w : World} {base e size n c : Nat} {a : Option Addr} {l : List Value} (h : w.ownsRow base e size (.slice a n c) n l) : a = none → c = 0 := by
  intro ha
  subst ha
  rcases h.2 with ⟨h0, _⟩ | ⟨g, cap, cur, hv, _⟩
  · cases h0; rfl
  · cases hv
/-- a number of the first is turned -/
theorem Two.turn {w0 W : World} {y : Value} {X Y : List Int} {g c n : Nat} (hn : X.length = n) (h : Two w0 W (.slice (some ⟨g, 0, none⟩) n c) y X Y) (i : Nat) (u : Int) : Two w0 (W.setCell ⟨g, i, none⟩ (.int .i64 u)) (.slice (some ⟨g, 0, none⟩) n c) y (X.set i u) Y := by
  subst hn
  have ny : y.ownBlock ≠ some g := fun e => by
    rcases h.dj with q | q | q
    · cases q
    · rw [q] at e; cases e
    · exact q e.symm
  refine ⟨?_, own_beside h.oy ny, h.dj, h.b.setCell (p := ⟨g, i, none⟩) (h.ox.lt g rfl).1 _⟩
  rw [List.map_set, List.length_set]
  exact (h.ox.stored i (.int .i64 u)).1
theorem Two.cellX {w0 W : World} {y : Value} {X Y : List Int} {g c n : Nat} (hn : X.length = n) (h : Two w0 W (.slice (some ⟨g, 0, none⟩) n c) y X Y) {i : Nat} (hi : i < n) : W.cell? ⟨g, i, none⟩ = some (.int .i64 (X.getD i 0)) := by
  subst hn
  rw [h.ox.cellAt i (by omega), List.getElem?_map, List.getElem?_eq_getElem hi]
  simp [List.getD, List.getElem?_eq_getElem hi]
theorem Two.froX {w0 W : World} {y : Value} {X Y : List Int} {g c n : Nat} (hn : X.length = n) (h : Two w0 W (.slice (some ⟨g, 0, none⟩) n c) y X Y) (i : Nat) : W.frozen? ⟨g, i, none⟩ = false := by
  subst hn
  exact h.ox.frozenAt i
theorem Two.rdX {w0 W : World} {y : Value} {X Y : List Int} {g c n : Nat} (hn : X.length = n) (h : Two w0 W (.slice (some ⟨g, 0, none⟩) n c) y X Y) : Rd W (some ⟨g, 0, none⟩) X := by
  subst hn
  obtain ⟨a, cc, e, hr, _⟩ := own_rd h.ox
  rw [Value.slice.injEq] at e
  rw [e.1]
  exact hr

end Go.Proofs.Ytcaljnhdfbjpnae
