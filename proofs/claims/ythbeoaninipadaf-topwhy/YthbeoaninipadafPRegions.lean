/-
  What package path's Region answers, for every list of nodes and all numbers.
-/
import Derived.Test.YthbeoaninipadafPRegion
import Derived.Test.YthbeoaninipadafTCheck
namespace Go.Proofs.Ythbeoaninipadaf
open Go.ChangeShapes Go.WideShapes Go.ChangeAt Go.RowKit Go.Lib
set_option linter.unusedVariables false

set_option maxHeartbeats 8000000 in
set_option maxRecDepth 10000 in
theorem pregion_new (a : Option Addr) (ts : List M.Nd) (ca : Nat) (m k : Int) (w : World) (ht : RdN w a ts) :
    Calls Try.prog 16 #[.slice a ts.length ca, .int .i64 m, .int .i64 k] w fun e w' =>
      ∃ ag cg, e = .returned (.tuple #[.slice ag (M.regV ts m k).length cg, .bool (M.regB ts m k), errV (M.regF ts m k)]) ∧ RdS w' ag (M.regV ts m k) ∧ Below w.heap.size w w' ∧ (∀ x, ag = some x → w.heap.size ≤ x.block) := by
  have T := hide (tcheck_any a ts ca m w ht)
  by_cases h : (M.treeF ts m).2 = 0
  · obtain ⟨F, e2⟩ := M.tree_ok h
    rw [err_nil h] at T
    have l63 := F.1
    have m0 := F.2.2.1
    have m8 := F.2.2.2.1
    obtain ⟨mn, rfl⟩ : ∃ mn : Nat, m = (mn : Int) := ⟨m.toNat, by omega⟩
    by_cases hl : M.isLf ts k = true
    · have rf : M.regF ts (mn : Int) k = 0 := by unfold M.regF; rw [if_neg (by simp [h]), if_neg (by simp [hl])]
      have rv : Hid (M.regV ts (mn : Int) k = (M.region ts mn k.toNat).map M.norm) := by unfold Hid M.regV; rw [if_pos rf, Int.toNat_natCast]
      have rb : Hid (M.regB ts (mn : Int) k = M.anyS ((M.region ts mn k.toNat).map M.norm)) := by unfold Hid M.regB; rw [if_pos rf, Int.toNat_natCast, M.any_norm]
      rw [err_nil rf]
      unfold M.isLf at hl
      rw [Bool.and_eq_true, Bool.and_eq_true] at hl
      obtain ⟨⟨k0, k1⟩, k2⟩ := hl
      have k0' := of_decide_eq_true k0
      have k1' := of_decide_eq_true k1
      obtain ⟨kn, rfl⟩ : ∃ kn : Nat, k = (kn : Int) := ⟨k.toNat, by omega⟩
      rw [Int.toNat_natCast] at rv rb k2
      have kl : kn < ts.length := by omega
      obtain ⟨b0, off, rfl, hb0, hc⟩ := ht.2 (by intro e; subst e; simp at kl)
      have CL : Hid (∀ W, Below w.heap.size w W → W.cell? ⟨b0, off + kn * 6, none⟩ = some (.int .i64 (-1))) := fun W hW => by
        have := ((hc kn kl).below hW hb0).1
        rw [this]
        unfold M.leafB at k2
        rw [of_decide_eq_true k2]
      have R := hide (fun W (hW : Below w.heap.size w W) => region_any (some ⟨b0, off, none⟩) ts ca mn kn W (ht.below hW) F kl)
      have LN : Hid (((M.region ts mn kn).map M.norm).length = mn) := by unfold Hid; rw [List.length_map, M.region_len]
      have HH := hide hasrow_any
      have q2 : decide ((ts.length : Int) ≤ (kn : Int)) = false := decide_eq_false (by omega)
      clear h F e2 ht hc rf k0 k1 k2
      generalize M.regV ts (mn : Int) (kn : Int) = RV at *
      generalize M.regB ts (mn : Int) (kn : Int) = RB at *
      generalize (M.region ts mn kn).map M.norm = L at *
      have kz : (kn : Int) < (ts.length : Int) := by omega
      go_enter Try.func16, Try.ntmps16
      go_wp2_with (first
        | (go_at_call 7; refine T.out.mono ?_; rintro e w1 ⟨rfl, hb1⟩; have cl := CL.out _ hb1)
        | (go_at_call 31; refine (R.out _ hb1).mono ?_; rintro e w2 ⟨v, rfl, hown, hb2⟩; obtain ⟨ag, cg, rfl, hrd⟩ := own_rdS LN.out (by unfold maxLen; omega) hown; have HO := hide hown; have hw := HH.out ag L cg w2 hrd; rw [LN.out] at hw; have HW := hide hw; have HR := hide hrd; clear hown hw hrd)
        | (go_at_call 32; refine HW.out.mono ?_; rintro e w3 ⟨rfl, hb3⟩))
      go_ret3
      exact ⟨ag, cg, by rw [rv.out, rb.out, LN.out]; rfl, by rw [rv.out]; exact HR.out.below hb3, below_on hb1 (below_on hb2 hb3), fun x hx => by subst hx; exact Nat.le_trans hb1.size (HO.out.lt x.block rfl).1⟩
    · have hl' : M.isLf ts k = false := by simpa using hl
      have rf : M.regF ts (mn : Int) k = 1 := by unfold M.regF; rw [if_neg (by simp [h]), if_pos hl']
      have rv : Hid (M.regV ts (mn : Int) k = []) := by unfold Hid M.regV; rw [if_neg (by rw [rf]; decide)]
      have rb : Hid (M.regB ts (mn : Int) k = false) := by unfold Hid M.regB; rw [if_neg (by rw [rf]; decide)]
      rw [rf, err_some (show (1 : Int) ≠ 0 by decide)]
      have fin : Hid (∀ W, Below w.heap.size w W → ∃ ag cg, Ending.returned (.tuple #[.slice none 0 0, .bool false, .iface 58 (.int .i64 1)]) = .returned (.tuple #[.slice ag (M.regV ts (mn : Int) k).length cg, .bool (M.regB ts (mn : Int) k), .iface 58 (.int .i64 1)]) ∧ RdS W ag (M.regV ts (mn : Int) k) ∧ Below w.heap.size w W ∧ (∀ x, ag = some x → w.heap.size ≤ x.block)) := fun W hW => ⟨none, 0, by rw [rv.out, rb.out]; rfl, by rw [rv.out]; exact ⟨Nat.zero_le _, fun h => absurd rfl h⟩, hW, fun x hx => by cases hx⟩
      by_cases k0 : k < 0
      · have q1 : decide (k < 0) = true := decide_eq_true k0
        clear h F e2 hl hl' rf rv rb k0
        generalize M.regV ts (mn : Int) k = RV at *
        generalize M.regB ts (mn : Int) k = RB at *
        go_enter Try.func16, Try.ntmps16
        go_wp2_with (go_at_call 7; refine T.out.mono ?_; rintro e w1 ⟨rfl, hb1⟩)
        go_ret3
        exact fin.out _ hb1
      · by_cases k1 : (ts.length : Int) ≤ k
        · have q1 : decide (k < 0) = false := decide_eq_false k0
          have q2 : decide ((ts.length : Int) ≤ k) = true := decide_eq_true k1
          clear h F e2 hl hl' rf rv rb k0 k1
          generalize M.regV ts (mn : Int) k = RV at *
          generalize M.regB ts (mn : Int) k = RB at *
          go_enter Try.func16, Try.ntmps16
          go_wp2_with (go_at_call 7; refine T.out.mono ?_; rintro e w1 ⟨rfl, hb1⟩)
          go_ret3
          exact fin.out _ hb1
        · obtain ⟨kn, rfl⟩ : ∃ kn : Nat, k = (kn : Int) := ⟨k.toNat, by omega⟩
          have kl : kn < ts.length := by omega
          have hf : M.leafB (M.nAt ts kn) = false := by
            unfold M.isLf at hl'
            rw [decide_eq_true (show (0 : Int) ≤ (kn : Int) by omega), decide_eq_true (show (kn : Int) < (ts.length : Int) by omega), Int.toNat_natCast] at hl'
            simpa using hl'
          obtain ⟨b0, off, rfl, hb0, hc⟩ := ht.2 (by intro e; subst e; simp at kl)
          have CL : Hid (∀ W, Below w.heap.size w W → W.cell? ⟨b0, off + kn * 6, none⟩ = some (.int .i64 (M.nf (M.nAt ts kn)))) := fun W hW => ((hc kn kl).below hW hb0).1
          have q3 : (M.nf (M.nAt ts kn) != -1) = true := by
            unfold M.leafB at hf
            rw [bne_iff_ne]; exact of_decide_eq_false hf
          have q2 : decide ((ts.length : Int) ≤ (kn : Int)) = false := decide_eq_false (by omega)
          have kz : (kn : Int) < (ts.length : Int) := by omega
          clear h F e2 hl hl' rf rv rb k0 k1 hc ht hf
          generalize M.regV ts (mn : Int) (kn : Int) = RV at *
          generalize M.regB ts (mn : Int) (kn : Int) = RB at *
          generalize M.nf (M.nAt ts kn) = f at *
          go_enter Try.func16, Try.ntmps16
          go_wp2_with (go_at_call 7; refine T.out.mono ?_; rintro e w1 ⟨rfl, hb1⟩; have cl := CL.out _ hb1)
          go_ret3
          exact fin.out _ hb1
  · have rf : M.regF ts m k = (M.treeF ts m).2 := by unfold M.regF; rw [if_pos h]
    have rv : Hid (M.regV ts m k = []) := by unfold Hid M.regV; rw [if_neg (by rw [rf]; exact h)]
    have rb : Hid (M.regB ts m k = false) := by unfold Hid M.regB; rw [if_neg (by rw [rf]; exact h)]
    have ES := hide (err_some h)
    rw [rf]
    rw [err_some h] at T
    clear h ht rf
    generalize M.regV ts m k = RV at *
    generalize M.regB ts m k = RB at *
    generalize errV (M.treeF ts m).2 = er at *
    generalize (M.treeF ts m).2 = tf at *
    generalize (M.treeF ts m).1 = tp at *
    go_enter Try.func16, Try.ntmps16
    go_wp2_with (go_at_call 7; refine T.out.mono ?_; rintro e w1 ⟨rfl, hb1⟩)
    go_ret3
    exact ⟨none, 0, by rw [rv.out, rb.out, ES.out]; rfl, by rw [rv.out]; exact ⟨Nat.zero_le _, fun h => absurd rfl h⟩, hb1, fun x hx => by cases hx⟩
theorem pregion_any (a : Option Addr) (ts : List M.Nd) (ca : Nat) (m k : Int) (w : World) (ht : RdN w a ts) :
    Calls Try.prog 16 #[.slice a ts.length ca, .int .i64 m, .int .i64 k] w fun e w' =>
      ∃ ag cg, e = .returned (.tuple #[.slice ag (M.regV ts m k).length cg, .bool (M.regB ts m k), errV (M.regF ts m k)]) ∧ RdS w' ag (M.regV ts m k) ∧ Below w.heap.size w w' :=
  (pregion_new a ts ca m k w ht).mono (by rintro e w' ⟨ag, cg, h1, h2, h3, _⟩; exact ⟨ag, cg, h1, h2, h3⟩)

end Go.Proofs.Ythbeoaninipadaf
