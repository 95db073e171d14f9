/-
  An array of 63 numbers in a block of its own.
-/
import Derived.Test.YthbeoaninipadafBase
namespace Go.Proofs.Ythbeoaninipadaf
open Go.ChangeShapes Go.WideShapes Go.ChangeAt Go.RowKit Go.Lib
set_option linter.unusedVariables false

/-- an array of 63 numbers of our own -/
def ArrI (w : World) (B g : Nat) (F : List Int) : Prop := F.length = 63 ∧ w.ownsRow B 36 1 (.slice (some ⟨g, 0, none⟩) 63 63) 63 (F.map (Value.int .i64))
theorem ArrI.cell {w : World} {B g : Nat} {F : List Int} (h : ArrI w B g F) {i : Nat} (hi : i < 63) : w.cell? ⟨g, i, none⟩ = some (.int .i64 (F.getD i 0)) := by
  rw [h.2.cellAt i (by omega)]
  have := h.1
  simp [List.getD, show i < F.length by omega]
theorem ArrI.frozen {w : World} {B g : Nat} {F : List Int} (h : ArrI w B g F) (i : Nat) : w.frozen? ⟨g, i, none⟩ = false := h.2.frozenAt i
theorem ArrI.set {w : World} {B g : Nat} {F : List Int} (h : ArrI w B g F) (i : Nat) (x : Int) : ArrI (w.setCell ⟨g, i, none⟩ (.int .i64 x)) B g (F.set i x) := by
  refine ⟨by rw [List.length_set]; exact h.1, ?_⟩
  rw [List.map_set]
  exact (h.2.stored i (.int .i64 x)).1
theorem ArrI.up {w w' : World} {B g : Nat} {F : List Int} (h : ArrI w B g F) (hb : Below w.heap.size w w') : ArrI w' B g F := ⟨h.1, own_up h.2 hb⟩
theorem ArrI.drew {w : World} {B g : Nat} {F : List Int} (h : ArrI w B g F) : ArrI w.drew B g F := ⟨h.1, h.2.drew⟩
theorem ArrI.lt {w : World} {B g : Nat} {F : List Int} (h : ArrI w B g F) : B ≤ g ∧ g < w.heap.size := h.2.lt g rfl
theorem ArrI.new (w : World) (B : Nat) (hB : B ≤ w.heap.size) : ArrI (w.alloc (.cells ((List.replicate 63 (Value.int .i64 0)).toArray) 36)) B w.heap.size (List.replicate 63 0) := by
  refine ⟨by simp, ?_⟩
  have := World.ownsRow_lit (base := B) (e := 36) (size := 1) w ((List.replicate 63 (Value.int .i64 0)).toArray) 63 hB (by unfold maxLen; omega) (by simp)
  rw [List.map_replicate]
  exact this
theorem own_aside {w : World} {base n e size p o : Nat} {v x : Value} {l : List Value} (h : w.ownsRow base e size v n l) (hp : v.ownBlock ≠ some p) : (w.setCell ⟨p, o, none⟩ x).ownsRow base e size v n l := by
  refine ⟨h.1, ?_⟩
  rcases h.2 with h0 | ⟨g, cap, cur, hv, h1, h2, h3⟩
  · exact .inl h0
  · refine .inr ⟨g, cap, cur, hv, h1, ?_, h3⟩
    rw [← h2]
    have : ¬ p = g := fun e => hp (by rw [hv, e]; rfl)
    simp [World.setCell, Array.getElem?_modify, this]
theorem ArrI.beside {w : World} {B g p : Nat} {F : List Int} (h : ArrI w B g F) (hp : g ≠ p) (o : Nat) (x : Value) : ArrI (w.setCell ⟨p, o, none⟩ x) B g F :=
  ⟨h.1, own_aside h.2 (fun e => hp (Option.some.inj e))⟩
theorem ArrI.two (w : World) (B : Nat) (hB : B ≤ w.heap.size) : ArrI ((w.alloc (.cells ((List.replicate 63 (Value.int .i64 0)).toArray) 36)).alloc (.cells ((List.replicate 63 (Value.int .i64 0)).toArray) 36)) B w.heap.size (List.replicate 63 0) ∧ ArrI ((w.alloc (.cells ((List.replicate 63 (Value.int .i64 0)).toArray) 36)).alloc (.cells ((List.replicate 63 (Value.int .i64 0)).toArray) 36)) B (w.heap.size + 1) (List.replicate 63 0) := by
  refine ⟨(ArrI.new w B hB).up ((Below.refl _ _).alloc (Nat.le_refl _) _), ?_⟩
  have := ArrI.new (w.alloc (.cells ((List.replicate 63 (Value.int .i64 0)).toArray) 36)) B (by simp; omega)
  rw [show (w.alloc (.cells ((List.replicate 63 (Value.int .i64 0)).toArray) 36)).heap.size = w.heap.size + 1 by simp] at this
  exact this
/-- a list of 63 numbers told place by place -/
def M.tab (g : Nat → Int) : List Int := (List.range 63).map g
theorem M.tab_len (g : Nat → Int) : (M.tab g).length = 63 := by unfold M.tab; rw [List.length_map, List.length_range]
theorem M.tab_at (g : Nat → Int) {i : Nat} (hi : i < 63) : (M.tab g).getD i 0 = g i := by
  unfold M.tab
  simp [List.getD, hi]
theorem M.tab_set {x : Int} {g g' : Nat → Int} {i : Nat} (h : ∀ j, j < 63 → g' j = if i = j then x else g j) : (M.tab g).set i x = M.tab g' := by
  apply List.ext_getElem
  · rw [List.length_set, M.tab_len, M.tab_len]
  · intro j h1 h2
    rw [M.tab_len] at h2
    have q : ∀ (u : Nat → Int) (hu : j < (M.tab u).length), (M.tab u)[j] = u j := fun u hu => by simp [M.tab]
    rw [List.getElem_set, q, q, h j h2]
theorem M.tab_zero : M.tab (fun _ => 0) = List.replicate 63 0 := by decide +kernel

end Go.Proofs.Ythbeoaninipadaf
