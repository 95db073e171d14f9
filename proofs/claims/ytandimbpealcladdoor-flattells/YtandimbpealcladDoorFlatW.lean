/-
  FlatTells' own walk: what it needs besides; the grove of one leaf that it begins with.
-/
import Derived.Test.YtandimbpealcladDoorFlatH
import Derived.Test.YtandimbpealcladDoorFlatN
import Derived.Test.YtandimbpealcladDoorFlatM
import Derived.Test.YtandimbpealcladDoorRefGrove
import Derived.Test.YtandimbpealcladDoorGrSame
import Derived.Test.YtandimbpealcladDoorError
namespace Go.Proofs.YtandimbpealcladDoor
open Go.ChangeShapes Go.WideShapes Go.ChangeAt Go.RowKit Go.Lib
set_option linter.unusedVariables false

theorem M.many_snoc {g : M.Gv} (r : List Int) : ∀ (l : List (List Int)), M.manyF g (l ++ [r]) = if M.manyF g l ≠ 0 then M.manyF g l else M.standF g r
  | [] => by
    show M.manyF g [r] = M.standF g r
    unfold M.manyF
    by_cases h : M.standF g r ≠ 0
    · rw [if_pos h]
    · rw [if_neg h]
      exact (Decidable.not_not.1 h).symm
  | x :: l => by
    have ih := M.many_snoc (g := g) r l
    show (if M.standF g x ≠ 0 then M.standF g x else M.manyF g (l ++ [r])) = if (if M.standF g x ≠ 0 then M.standF g x else M.manyF g l) ≠ 0 then (if M.standF g x ≠ 0 then M.standF g x else M.manyF g l) else M.standF g r
    by_cases h : M.standF g x ≠ 0
    · rw [if_pos h, if_pos h, if_pos h]
    · rw [if_neg h, if_neg h]
      exact ih

/-! ### one leaf that says 7, its weight 2 -/
abbrev seven : Obj := .cells #[.int .i64 (-1), .int .i64 0, .int .i64 0, .int .i64 0, .bool false, .int .i64 7] 28
abbrev one2W (w : World) (n : Nat) : World := ((w.alloc seven).alloc (.cells #[.int .i64 2] 3)).alloc (.cells #[.slice (some ⟨n, 0, none⟩) 1 1] 29)
def one2G (n : Nat) : Gr := ⟨0, 1, some ⟨n + 1, 0, none⟩, [2], 1, some ⟨n + 1 + 1, 0, none⟩, [(some ⟨n, 0, none⟩, [(-1, 0, 0, 0, false, 7)], 1)], 1⟩
theorem seven_rdn (w : World) : RdN (w.alloc seven) (some ⟨w.heap.size, 0, none⟩) [(-1, 0, 0, 0, false, 7)] := by
  refine ⟨by show 1 ≤ maxLen; unfold maxLen; decide, fun _ => ⟨w.heap.size, 0, rfl, by simp, fun i hi => ?_⟩⟩
  have c : ∀ j, (w.alloc seven).cell? ⟨w.heap.size, j, none⟩ = _ := fun j => World.cell?_alloc_at _ _ _ j rfl
  have hi' : i < 1 := hi
  rcases i with _ | i
  · exact ⟨c _, c _, c _, c _, c _, c _⟩
  · omega
theorem one2_rdg (w : World) (n : Nat) (hn : n = w.heap.size) : RdG (one2W w n) (one2G n) := by
  subst hn
  have b1 : Below (w.alloc seven).heap.size (w.alloc seven) (one2W w w.heap.size) := (((Below.refl _ (w.alloc seven)).alloc (Nat.le_refl _) _).alloc (by simp) _)
  have b2 : Below ((w.alloc seven).alloc (.cells #[.int .i64 2] 3)).heap.size ((w.alloc seven).alloc (.cells #[.int .i64 2] 3)) (one2W w w.heap.size) := (Below.refl _ _).alloc (Nat.le_refl _) _
  refine ⟨?_, by show 1 ≤ maxLen; unfold maxLen; decide, ?_, fun _ => ⟨w.heap.size + 1 + 1, 0, rfl, by simp, fun i hi => ?_⟩⟩
  · have := (one_rd (w.alloc seven) 2 3).below b2
    simpa [one2G] using this
  · intro k hk
    have e : k = (some ⟨w.heap.size, 0, none⟩, [(-1, 0, 0, 0, false, 7)], 1) := by simpa [one2G] using hk
    subst e
    exact (seven_rdn w).below b1
  · have hi' : i < 1 := hi
    rcases i with _ | i
    · exact World.cell?_alloc_at _ _ _ 0 (by simp)
    · omega
def M.oneV : M.Gv := (0, 1, [2], [[(-1, 0, 0, 0, false, 7)]])
theorem M.one_facts : M.groveF M.oneV = 0 ∧ M.standF M.oneV [] = 0 ∧ M.evalG M.oneV [] = 14 ∧ (M.allN M.oneV).length = 1 := by decide

/-- a grove each tree of which is laid level by level is right -/
theorem M.levels_grove {g : M.Gv} (h : M.groveF g = 0) : M.groveF (M.gf g, M.gw g, M.gs g, (M.gt g).map M.levels) = 0 := by
  have K := (M.good_iff g).1 h
  refine (M.good_iff _).2 ⟨K.f0, K.f8, K.w1, K.w3, ?_, ?_, ?_, K.wts, ?_⟩
  · show 0 < ((M.gt g).map M.levels).length
    rw [List.length_map]; exact K.t0
  · show ((M.gt g).map M.levels).length ≤ 12
    rw [List.length_map]; exact K.t12
  · show (M.gs g).length = ((M.gt g).map M.levels).length
    rw [List.length_map]; exact K.len
  · intro t ht
    obtain ⟨t', ht', rfl⟩ := List.mem_map.1 ht
    exact M.levels_tree (K.trees t' ht')

theorem gw_begin {w1 : World} {f wy : Int} {wv : Value} (W : World) (e : W = w1.alloc (.cells #[.int .i64 f, .int .i64 wy, wv, .slice none 0 0] 25)) : Gw W W w1.heap.size f wy wv [] (.slice none 0 0) := by
  subst e
  refine ⟨World.grownBy.refl _ _, World.cell?_alloc_at _ _ _ 0 rfl, World.cell?_alloc_at _ _ _ 1 rfl, World.cell?_alloc_at _ _ _ 2 rfl, World.cell?_alloc_at _ _ _ 3 rfl, fun j => ?_, by simp, World.ownsRow_nil _ _ _ _, (fun c hc => by cases hc), (fun c hc => by cases hc)⟩
  unfold World.frozen?
  rw [heap_alloc_new w1 _]
  simp
theorem gw_rdg {wx wr : World} {gb : Nat} {f wy : Int} {ws : List Int} {wa : Option Addr} {wc : Nat} {C : List Tc} {x : Value} (h : Gw wx wr gb f wy (.slice wa ws.length wc) C x) (hw : Rd wr wa ws) (h0 : 0 < C.length) (h12 : C.length ≤ 12) :
    ∃ g c, x = .slice (some ⟨g, 0, none⟩) C.length c ∧ RdG wr ⟨f, wy, wa, ws, wc, some ⟨g, 0, none⟩, C, c⟩ := by
  obtain ⟨g, c, e, hg1, hg2⟩ := h.ox.form h0
  subst e
  refine ⟨g, c, rfl, hw, ?_, h.rd, fun _ => ⟨g, 0, rfl, hg2, fun i hi => ?_⟩⟩
  · show C.length ≤ maxLen
    unfold maxLen; omega
  · have hi' : i < C.length := hi
    rw [Nat.zero_add]
    refine (h.ox.cellAt i (by omega)).trans ?_
    rw [List.getElem?_map, List.getElem?_eq_getElem hi']
    rfl

end Go.Proofs.YtandimbpealcladDoor
