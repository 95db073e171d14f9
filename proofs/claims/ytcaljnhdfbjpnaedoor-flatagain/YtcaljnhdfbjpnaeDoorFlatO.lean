/-
  A Flat, where it lies; the library's slices.Clone of numbers; what Size answers. No condition beyond those named.
-/
import Derived.Test.YtcaljnhdfbjpnaeDoorNdClone
import Derived.Test.YtcaljnhdfbjpnaeDoorIntClone
import Derived.Test.YtcaljnhdfbjpnaeDoorGroves
import Derived.Test.YtcaljnhdfbjpnaeDoorDMathC
import Derived.Deep.AppendLies
namespace Go.Proofs.YtcaljnhdfbjpnaeDoor
open Go.ChangeShapes Go.WideShapes Go.ChangeAt Go.RowKit Go.Lib
set_option linter.unusedVariables false

/-- all nodes of a grove, and where each tree begins -/
def M.allN (g : M.Gv) : List M.Nd := M.laidK (M.gt g) (M.gt g).length
def M.allR (g : M.Gv) : List Int := M.rootsK (M.gt g) (M.gt g).length
theorem M.allR_len (g : M.Gv) : (M.allR g).length = (M.gt g).length := M.rootsK_len _ _

/-- where a Flat's parts lie -/
structure Fp where
  wa : Option Addr
  wc : Nat
  na : Option Addr
  nc : Nat
  ra : Option Addr
  rc : Nat
/-- a Flat of a grove, where it lies -/
structure FoAt (W : World) (p : Nat) (g : M.Gv) (P : Fp) : Prop where
  lt : p < W.heap.size
  c0 : W.cell? ⟨p, 0, none⟩ = some (.int .i64 (M.gf g))
  c1 : W.cell? ⟨p, 1, none⟩ = some (.int .i64 (M.gw g))
  c2 : W.cell? ⟨p, 2, none⟩ = some (.slice P.wa (M.gs g).length P.wc)
  c3 : W.cell? ⟨p, 3, none⟩ = some (.slice P.na (M.allN g).length P.nc)
  c4 : W.cell? ⟨p, 4, none⟩ = some (.slice P.ra (M.allR g).length P.rc)
  rw : Rd W P.wa (M.gs g)
  rn : RdN W P.na (M.allN g)
  rr : Rd W P.ra (M.allR g)
  ca : (M.allN g).length ≤ P.nc
theorem FoAt.below {W W' : World} {p : Nat} {g : M.Gv} {P : Fp} (h : FoAt W p g P) (hb : Below W.heap.size W W') : FoAt W' p g P :=
  ⟨Nat.lt_of_lt_of_le h.lt hb.size, (hb.cell (p := ⟨p, 0, none⟩) h.lt).trans h.c0, (hb.cell (p := ⟨p, 1, none⟩) h.lt).trans h.c1, (hb.cell (p := ⟨p, 2, none⟩) h.lt).trans h.c2, (hb.cell (p := ⟨p, 3, none⟩) h.lt).trans h.c3, (hb.cell (p := ⟨p, 4, none⟩) h.lt).trans h.c4, h.rw.below hb, h.rn.below hb, h.rr.below hb, h.ca⟩
def FO (W : World) (p : Nat) (g : M.Gv) : Prop := ∃ P, FoAt W p g P
theorem FO.below {W W' : World} {p : Nat} {g : M.Gv} (h : FO W p g) (hb : Below W.heap.size W W') : FO W' p g := by
  obtain ⟨P, h⟩ := h
  exact ⟨P, h.below hb⟩

theorem size_any (p : Nat) (g : M.Gv) (w : World) (h : FO w p g) :
    Calls Tryd.prog 19 #[.pointer (some ⟨p, 0, none⟩)] w fun e w' => e = .returned (.int .i64 ((M.allN g).length : Nat)) ∧ w' = w := by
  obtain ⟨P, h⟩ := h
  have c3 := h.c3
  clear h
  go_enter Tryd.func19, Tryd.ntmps19
  go_wp2
  go_ret
  exact ⟨rfl, rfl⟩

end Go.Proofs.YtcaljnhdfbjpnaeDoor
