/-
  What the walks of the groves' laws take of package grove, and a grove of one leaf, where it is laid.
-/
import Derived.Test.YtcaljnhdfbjpnaeGroves
namespace Go.Proofs.Ytcaljnhdfbjpnae
open Go.ChangeShapes Go.WideShapes Go.ChangeAt Go.RowKit Go.Lib
set_option linter.unusedVariables false

/-- what grove.Eval, Each answer -/
def EvalGives : Prop := ∀ (G : Gr) (b : Option Addr) (xs : List Int) (cb : Nat) (W : World), RdG W G → Rd W b xs → Calls Try.prog 11 #[G.v, .slice b xs.length cb] W fun e w' => e = .returned (.tuple #[.int .i64 (M.evalG G.m xs), errV (M.standF G.m xs)]) ∧ Below W.heap.size W w'
def EachGives : Prop := ∀ (G : Gr) (b : Option Addr) (xs : List Int) (cb : Nat) (W : World), RdG W G → Rd W b xs → Calls Try.prog 29 #[G.v, .slice b xs.length cb] W fun e w' => ∃ ag cg, e = .returned (.tuple #[.slice ag (M.eachV G.m xs).length cg, errV (M.standF G.m xs)]) ∧ Rd w' ag (M.eachV G.m xs) ∧ Below W.heap.size W w'

theorem kept_four {w W : World} {a0 a1 a2 a3 : Value} {t : TypeId} (h : Below (w.alloc (.cells #[a0, a1, a2, a3] t)).heap.size (w.alloc (.cells #[a0, a1, a2, a3] t)) W) :
    W.cell? ⟨w.heap.size, 0, none⟩ = some a0 ∧ W.cell? ⟨w.heap.size, 1, none⟩ = some a1 ∧ W.cell? ⟨w.heap.size, 2, none⟩ = some a2 ∧ W.cell? ⟨w.heap.size, 3, none⟩ = some a3 := by
  have hs : w.heap.size < (w.alloc (.cells #[a0, a1, a2, a3] t)).heap.size := by simp
  exact ⟨(h.cell (p := ⟨w.heap.size, 0, none⟩) hs).trans (World.cell?_alloc_at _ _ _ 0 rfl), (h.cell (p := ⟨w.heap.size, 1, none⟩) hs).trans (World.cell?_alloc_at _ _ _ 1 rfl), (h.cell (p := ⟨w.heap.size, 2, none⟩) hs).trans (World.cell?_alloc_at _ _ _ 2 rfl), (h.cell (p := ⟨w.heap.size, 3, none⟩) hs).trans (World.cell?_alloc_at _ _ _ 3 rfl)⟩

abbrev leaf7Obj : Obj := .cells #[.int .i64 (-1), .int .i64 0, .int .i64 0, .int .i64 0, .bool false, .int .i64 7] 29
/-- one leaf that says 7, where it is laid behind a block -/
theorem leaf7_rdn (w : World) : RdN (w.alloc leaf7Obj) (some ⟨w.heap.size, 0, none⟩) [(-1, 0, 0, 0, false, 7)] := by
  refine ⟨by show 1 ≤ maxLen; unfold maxLen; decide, fun _ => ⟨w.heap.size, 0, rfl, by simp, fun i hi => ?_⟩⟩
  have c : ∀ j, (w.alloc leaf7Obj).cell? ⟨w.heap.size, j, none⟩ = _ := fun j => World.cell?_alloc_at _ _ _ j rfl
  have hi' : i < 1 := hi
  rcases i with _ | i
  · exact ⟨c _, c _, c _, c _, c _, c _⟩
  · omega
/-- the grove of one such leaf -/
abbrev one7W (w : World) (n : Nat) : World := ((w.alloc leaf7Obj).alloc (.cells #[.int .i64 1] 3)).alloc (.cells #[.slice (some ⟨n, 0, none⟩) 1 1] 22)
def one7G (n : Nat) : Gr := ⟨0, 3, some ⟨n + 1, 0, none⟩, [1], 1, some ⟨n + 1 + 1, 0, none⟩, [(some ⟨n, 0, none⟩, [(-1, 0, 0, 0, false, 7)], 1)], 1⟩
theorem one7_rdg (w : World) (n : Nat) (hn : n = w.heap.size) : RdG (one7W w n) (one7G n) := by
  subst hn
  have b1 : Below (w.alloc leaf7Obj).heap.size (w.alloc leaf7Obj) (one7W w w.heap.size) := (((Below.refl _ (w.alloc leaf7Obj)).alloc (Nat.le_refl _) _).alloc (by simp) _)
  have b2 : Below ((w.alloc leaf7Obj).alloc (.cells #[.int .i64 1] 3)).heap.size ((w.alloc leaf7Obj).alloc (.cells #[.int .i64 1] 3)) (one7W w w.heap.size) := (Below.refl _ _).alloc (Nat.le_refl _) _
  refine ⟨?_, by show 1 ≤ maxLen; unfold maxLen; decide, ?_, fun _ => ⟨w.heap.size + 1 + 1, 0, rfl, by simp, fun i hi => ?_⟩⟩
  · have := (one_rd (w.alloc leaf7Obj) 1 3).below b2
    simpa [one7G] using this
  · intro k hk
    have e : k = (some ⟨w.heap.size, 0, none⟩, [(-1, 0, 0, 0, false, 7)], 1) := by simpa [one7G] using hk
    subst e
    exact (leaf7_rdn w).below b1
  · have hi' : i < 1 := hi
    rcases i with _ | i
    · exact World.cell?_alloc_at _ _ _ 0 (by simp)
    · omega

end Go.Proofs.Ytcaljnhdfbjpnae
