/-
  What package chunk's New answers: a Fetch in new blocks, or what is wrong.
-/
import Derived.Test.YtelncekgjfpogahDoorFetA
import Derived.Test.YtelncekgjfpogahDoorPtClone
import Derived.Test.YtelncekgjfpogahDoorChCheck
import Derived.Carry
namespace Go.Proofs.YtelncekgjfpogahDoor
open Go.ChangeShapes Go.WideShapes Go.ChangeAt Go.RowKit Go.Lib Go.Maps
set_option linter.unusedVariables false

theorem has0_none (l : List M.Pt) (i : Nat) : (M.has0 l).getD i none = none := by
  unfold M.has0
  by_cases q : i < l.length
  · simp [List.getD, q]
  · simp [List.getD, show l.length ≤ i by omega]
theorem has0_count (l : List M.Pt) : hasC (M.has0 l) = 0 := by
  unfold hasC M.has0
  induction l with
  | nil => rfl
  | cons p l ih => simpa using ih

set_option maxHeartbeats 2000000 in
theorem fet_new (a : Option Addr) (l : List M.Pt) (c : Nat) (W : World) (h : RdP W a l) (h0 : M.partsF l = 0) : Calls Tryd.prog 13 #[.slice a l.length c] W fun e w' => ∃ f K, e = .returned (.tuple #[.pointer (some ⟨f, 0, none⟩), .nilIface]) ∧ FA w' f K l (M.has0 l) ∧ (∀ q, K q → W.heap.size ≤ q) ∧ Below W.heap.size W w' := by
  have CH := hide (chcheck_any a l c W h)
  rw [h0] at CH
  have z0 : errV 0 = .nilIface := if_pos rfl
  rw [z0] at CH
  have CL : Hid (∀ w1, Below W.heap.size W w1 → Calls Tryd.prog 35 #[.slice a l.length c] w1 fun e w' => ∃ va vc, e = .returned (.slice va l.length vc) ∧ RdP w' va l ∧ (∀ p, va = some p → w1.heap.size ≤ p.block ∧ p.block < w'.heap.size) ∧ Below w1.heap.size w1 w') := fun w1 hb => clone_pt a l c w1 (h.below hb) (M.parts_le h0)
  have hmm := @run_makeMap Tryd.prog
  have H0 := hide h0
  clear h h0 z0
  go_enter Tryd.func13, Tryd.ntmps13
  go_wp2_with (first
    | (go_at_call 22; refine CH.out.mono ?_; rintro e w1 ⟨rfl, hb1⟩; have K1 := hide hb1; have Z1 := hide hb1.size; clear hb1)
    | (go_at_call 35; refine (CL.out _ K1.out).mono ?_; rintro e w2 ⟨va, vc, rfl, hr2, hp2, hb2⟩; have R2 := hide hr2; have P2 := hide hp2; have K2 := hide (below_on K1.out hb2); have Z2 := hide hb2.size; clear hb2 hr2 hp2))
  have KK : Below W.heap.size W ((w2.alloc (.map #[] 0)).alloc (.cells #[.slice va l.length vc, .map (some w2.heap.size)] 82)) := (K2.out.alloc K2.out.size _).alloc (by have := K2.out.size; simp; omega) _
  have ZZ : W.heap.size ≤ w2.heap.size := K2.out.size
  have B2 : Below w2.heap.size w2 ((w2.alloc (.map #[] 0)).alloc (.cells #[.slice va l.length vc, .map (some w2.heap.size)] 82)) := ((Below.refl _ _).alloc (Nat.le_refl _) _).alloc (by simp) _
  have OM : ((w2.alloc (.map #[] 0)).alloc (.cells #[.slice va l.length vc, .map (some w2.heap.size)] 82)).ownsMap Tryd.prog 3 selfE w2.heap.size 0 (.map []) := (World.ownsMap_made w2 Tryd.prog 3 selfE).alloc _
  have C0 : ((w2.alloc (.map #[] 0)).alloc (.cells #[.slice va l.length vc, .map (some w2.heap.size)] 82)).cell? ⟨(w2.alloc (.map #[] 0)).heap.size, 0, none⟩ = some (.slice va l.length vc) := World.cell?_alloc_at _ _ _ 0 rfl
  have C1 : ((w2.alloc (.map #[] 0)).alloc (.cells #[.slice va l.length vc, .map (some w2.heap.size)] 82)).cell? ⟨(w2.alloc (.map #[] 0)).heap.size, 1, none⟩ = some (.map (some w2.heap.size)) := World.cell?_alloc_at _ _ _ 1 rfl
  have SZ : (w2.alloc (.map #[] 0)).heap.size = w2.heap.size + 1 := by simp
  rw [SZ] at C0 C1
  have pb : ∀ p, va = some p → W.heap.size ≤ p.block ∧ p.block < w2.heap.size := fun p hp => ⟨Nat.le_trans Z1.out (P2.out p hp).1, (P2.out p hp).2⟩
  go_ret2
  refine ⟨w2.heap.size + 1, fun q => W.heap.size ≤ q ∧ q < w2.heap.size + 1 + 1, rfl, ⟨va, vc, w2.heap.size, .map [], ?_⟩, (fun q hq => hq.1), KK⟩
  exact { right := H0.out, len := by simp [M.has0], c0 := C0, c1 := C1, rd := R2.out.below B2, own := by rw [has0_count]; exact OM, many := by rw [has0_count]; rfl
          kf := ⟨by omega, by omega⟩, km := ⟨by omega, by omega⟩, ka := fun p hp => ⟨(pb p hp).1, by have := (pb p hp).2; omega⟩, fm := by omega, am := fun p hp => by have := (pb p hp).2; omega
          lt := fun q hq => by have := hq.2; simp; omega, here := fun i bs e => (by rw [has0_none] at e; cases e), away := fun i _ => rfl }

set_option maxHeartbeats 2000000 in
theorem fet_bad (a : Option Addr) (l : List M.Pt) (c : Nat) (W : World) (h : RdP W a l) (h0 : M.partsF l ≠ 0) : Calls Tryd.prog 13 #[.slice a l.length c] W fun e w' => ∃ v, e = .returned (.tuple #[v, errV (M.partsF l)]) ∧ Below W.heap.size W w' := by
  have CH := hide (chcheck_any a l c W h)
  have E0 := hide (err_some h0)
  rw [E0.out] at CH
  have E1 := E0
  clear h h0
  generalize M.partsF l = pf at *
  go_enter Tryd.func13, Tryd.ntmps13
  go_wp2_with (go_at_call 22; refine CH.out.mono ?_; rintro e w1 ⟨rfl, hb1⟩; have K1 := hide hb1; clear hb1)
  go_ret2
  exact ⟨.pointer none, by rw [E1.out]; rfl, K1.out⟩

end Go.Proofs.YtelncekgjfpogahDoor
