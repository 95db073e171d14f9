/-
  A Flat, where it lies; the library's slices.Clone of numbers; what Size answers. No condition beyond those named.
-/
import Derived.Test.YtandimbpealcladDoorNdClone
import Derived.Test.YtandimbpealcladDoorGroves
import Derived.Test.YtandimbpealcladDoorMathK
import Derived.Deep.AppendLies
namespace Go.Proofs.YtandimbpealcladDoor
open Go.ChangeShapes Go.WideShapes Go.ChangeAt Go.RowKit Go.Lib
set_option linter.unusedVariables false

/-- all nodes of a grove, and where each tree begins -/
def M.allN (g : M.Gv) : List M.Nd := M.laidK (M.gt g) (M.gt g).length
def M.allR (g : M.Gv) : List Int := M.rootsK (M.gt g) (M.gt g).length
theorem M.allR_len (g : M.Gv) : (M.allR g).length = (M.gt g).length := M.rootsK_len _ _

/-- where a Flat's parts lie -/
structure Fp where
  wa : Option Addr
  wc : Nat
  na : Option Addr
  nc : Nat
  ra : Option Addr
  rc : Nat
/-- a Flat of a grove, where it lies -/
structure FoAt (W : World) (p : Nat) (g : M.Gv) (P : Fp) : Prop where
  lt : p < W.heap.size
  c0 : W.cell? ⟨p, 0, none⟩ = some (.int .i64 (M.gf g))
  c1 : W.cell? ⟨p, 1, none⟩ = some (.int .i64 (M.gw g))
  c2 : W.cell? ⟨p, 2, none⟩ = some (.slice P.wa (M.gs g).length P.wc)
  c3 : W.cell? ⟨p, 3, none⟩ = some (.slice P.na (M.allN g).length P.nc)
  c4 : W.cell? ⟨p, 4, none⟩ = some (.slice P.ra (M.allR g).length P.rc)
  rw : Rd W P.wa (M.gs g)
  rn : RdN W P.na (M.allN g)
  rr : Rd W P.ra (M.allR g)
  ca : (M.allN g).length ≤ P.nc
theorem FoAt.below {W W' : World} {p : Nat} {g : M.Gv} {P : Fp} (h : FoAt W p g P) (hb : Below W.heap.size W W') : FoAt W' p g P :=
  ⟨Nat.lt_of_lt_of_le h.lt hb.size, (hb.cell (p := ⟨p, 0, none⟩) h.lt).trans h.c0, (hb.cell (p := ⟨p, 1, none⟩) h.lt).trans h.c1, (hb.cell (p := ⟨p, 2, none⟩) h.lt).trans h.c2, (hb.cell (p := ⟨p, 3, none⟩) h.lt).trans h.c3, (hb.cell (p := ⟨p, 4, none⟩) h.lt).trans h.c4, h.rw.below hb, h.rn.below hb, h.rr.below hb, h.ca⟩
def FO (W : World) (p : Nat) (g : M.Gv) : Prop := ∃ P, FoAt W p g P
theorem FO.below {W W' : World} {p : Nat} {g : M.Gv} (h : FO W p g) (hb : Below W.heap.size W W') : FO W' p g := by
  obtain ⟨P, h⟩ := h
  exact ⟨P, h.below hb⟩

set_option maxHeartbeats 1000000 in
set_option maxRecDepth 10000 in
theorem clone_ints (b off c : Nat) (xs : List Int) (w : World) (hc : ∀ i, i < xs.length → w.cell? ⟨b, off + i, none⟩ = some (.int .i64 (xs.getD i 0))) (h63 : xs.length ≤ 1000000) (hb : b < w.heap.size) :
    Calls Tryd.prog 17 #[.slice (some ⟨b, off, none⟩) xs.length c] w fun e w' => ∃ a cap, e = .returned (.slice a xs.length cap) ∧ Rd w' a xs ∧ (∀ p, a = some p → w.heap.size ≤ p.block) ∧ Below w.heap.size w w' := by
  obtain ⟨i0, hi, hz0, hz1, hz2⟩ := info_parts info3
  have SR := hide (src_cells hc)
  have S2 : Hid (∀ o, ∀ j u, (xs.map (Value.int .i64))[j]? = some u → (w.alloc o).cell? ((⟨b, off, none⟩ : Addr).add j) = some u) := fun o j u hj => by
    have := SR.out j u hj
    rw [add_flat] at this ⊢
    exact (((Below.refl w.heap.size w).alloc (Nat.le_refl _) o).cell (p := ⟨b, off + j, none⟩) hb).trans this
  have q22 : ∀ (w : World) (a : Option Addr) (n c n' c' : Nat), (binOp .eql 22 (.slice a n c) (.slice none n' c')).run Tryd.prog w = .ok (.bool a.isNone) w := fun w a n c n' c' => Lib.run_eql_slice_nil w _ _ a n c n' c' Tryd.underlying22
  clear hc SR
  go_enter Tryd.func17, Tryd.ntmps17
  go_wp2_with (at_builtin; (refine wpList_append_own _ rfl (.tmp 5) (.tmp 6) 22 rfl w.heap.size 3 i0 (.int .i64 0) 1 8 Tryd.underlying22 hi hz0 hz1 hz2 rfl (by decide) _ 0 [] rfl (World.ownsRow_made w #[] 0 (Nat.le_refl _) (Nat.zero_le _) (by simp)) ⟨b, off, none⟩ xs.length c (xs.map (Value.int .i64)) rfl (by simp) (S2.out _) (one_cells xs) (by unfold maxLen; omega) (by omega) (by simp) ?_); intro v' w1 hown hgrow hnil)
  have hb1 : Below w.heap.size w w1 := ((RowKit.Below.refl _ w).alloc (Nat.le_refl _) _).grown hgrow (by simp) (fun k hk => by cases hk; exact Nat.le_refl _)
  have HO := hide hown
  clear hown hgrow hnil
  go_wp2
  go_ret
  have h := HO.out
  rw [Nat.zero_add, List.nil_append] at h
  obtain ⟨a, cap, e, hr, _⟩ := own_rd h
  subst e
  refine ⟨a, cap, rfl, hr, fun p hp => ?_, hb1⟩
  subst hp
  exact (h.lt p.block rfl).1

theorem size_any (p : Nat) (g : M.Gv) (w : World) (h : FO w p g) :
    Calls Tryd.prog 6 #[.pointer (some ⟨p, 0, none⟩)] w fun e w' => e = .returned (.int .i64 ((M.allN g).length : Nat)) ∧ w' = w := by
  obtain ⟨P, h⟩ := h
  have c3 := h.c3
  clear h
  go_enter Tryd.func6, Tryd.ntmps6
  go_wp2
  go_ret
  exact ⟨rfl, rfl⟩

end Go.Proofs.YtandimbpealcladDoor
