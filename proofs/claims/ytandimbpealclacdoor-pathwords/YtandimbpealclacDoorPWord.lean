/-
  What package path's word answers, for a node that is right and a row that has the cell it asks for.
-/
import Derived.Test.YtandimbpealclacDoorItoa
import Derived.Test.YtandimbpealclacDoorWhyB
import Derived.Test.YtandimbpealclacDoorMathU
import Derived.Test.YtandimbpealclacDoorNodes
import Derived.RegionTactic
import Derived.Deep.RegionWith
import Derived.Deep.Cut
import Derived.Deep.CutRange
namespace Go.Proofs.YtandimbpealclacDoor
open Go.ChangeShapes Go.WideShapes Go.ChangeAt Go.RowKit Go.Lib
set_option linter.unusedVariables false

theorem kept_six {w W : World} {a0 a1 a2 a3 a4 a5 : Value} {t : TypeId} (h : Below (w.alloc (.cells #[a0, a1, a2, a3, a4, a5] t)).heap.size (w.alloc (.cells #[a0, a1, a2, a3, a4, a5] t)) W) :
    W.cell? ⟨w.heap.size, 0, none⟩ = some a0 ∧ W.cell? ⟨w.heap.size, 1, none⟩ = some a1 := by
  have hs : w.heap.size < (w.alloc (.cells #[a0, a1, a2, a3, a4, a5] t)).heap.size := by simp
  exact ⟨(h.cell (p := ⟨w.heap.size, 0, none⟩) hs).trans (World.cell?_alloc_at _ _ _ 0 rfl), (h.cell (p := ⟨w.heap.size, 1, none⟩) hs).trans (World.cell?_alloc_at _ _ _ 1 rfl)⟩

set_option maxHeartbeats 8000000 in
set_option maxRecDepth 10000 in
theorem word_any (n : M.Nd) (b0 : Option Addr) (xs : List Int) (cb i len : Nat) (w : World) (hr : Rd w b0 xs) (hT : Tabs w) (hn : M.nodeF n i len (xs.length : Int) = 0) (m8 : xs.length ≤ 8) :
    Calls Tryd.prog 23 #[ndV n, .slice b0 xs.length cb] w fun e w' => e = .returned (.string (bs (M.wordN n xs))) ∧ Below w.heap.size w w' := by
  have IT : Hid (∀ x, M.outI x = false → ∀ W, Below w.heap.size w W → Calls Tryd.prog 44 #[.int .i64 x] W fun e w' => e = .returned (.string (bs (Lib.itoa x))) ∧ Below W.heap.size W w') := fun x hx W hW => itoa_tab x W hx (hT.below hW)
  have B0 : Hid (∀ o, Below w.heap.size w (w.alloc o)) := fun o => (Below.refl _ w).alloc (Nat.le_refl _) o
  unfold ndV
  by_cases hf : M.nf n = -1
  · have ov := M.node_leaf hn hf
    have E : Hid ((⟨#[61]⟩ : ByteArray) ++ bs (Lib.itoa (M.nv n)) = bs (M.wordN n xs)) := by
      unfold Hid M.wordN; rw [if_pos hf, bs_cons]
    have vl : (bs (Lib.itoa (M.nv n))).size ≤ 8 := by rw [bs_size]; exact M.itoa_len ov
    have qf : (M.nf n == -1) = true := by rw [beq_iff_eq]; exact hf
    clear hf hn hr hT
    generalize bs (M.wordN n xs) = Y at *
    generalize M.nf n = f at *
    generalize M.nc n = c at *
    generalize M.nl n = l at *
    generalize M.nr n = r at *
    generalize M.ns n = sl at *
    generalize M.nv n = v at *
    have h1 : ¬ 9223372036854775807 < 1 + (bs (Lib.itoa v)).size := by omega
    go_enter Tryd.func23, Tryd.ntmps23
    go_wp2_with (go_at_call 44; refine (IT.out _ ov _ (B0.out _)).mono ?_; rintro e w2 ⟨rfl, hb2⟩)
    go_ret
    exact ⟨by rw [← E.out]; rfl, below_on (B0.out _) hb2⟩
  · have na := M.node_ask hn hf
    obtain ⟨fi, hfi⟩ : ∃ fi : Nat, M.nf n = fi := ⟨(M.nf n).toNat, by have := na.1; omega⟩
    have hfl : fi < xs.length := by have := na.2.1; omega
    have of : M.outI (fi : Int) = false := M.out_in (by omega) (by omega)
    have oc := na.2.2.1
    obtain ⟨bx, ox, rfl, hbx, hcx⟩ := hr.2 (by intro e; subst e; simp at hfl)
    have hx := hcx fi hfl
    have WE : Hid (M.wordN n xs = 102 :: (Lib.itoa (fi : Int) ++ if xs.getD fi 0 = M.nilI then [63] else if xs.getD fi 0 < M.nc n then 60 :: Lib.itoa (M.nc n) else 62 :: 61 :: Lib.itoa (M.nc n))) := by
      unfold Hid M.wordN M.whyW; rw [if_neg hf, hfi, Int.toNat_natCast]
    have qf : ((fi : Int) == -1) = false := by rw [beq_eq_false_iff_ne]; omega
    have fl : (bs (Lib.itoa (fi : Int))).size ≤ 8 := by rw [bs_size]; exact M.itoa_len of
    have cl : (bs (Lib.itoa (M.nc n))).size ≤ 8 := by rw [bs_size]; exact M.itoa_len oc
    have fz : (fi : Int) < (xs.length : Int) := by omega
    rw [hfi]
    clear hf na hcx hfi hn hr hT
    generalize M.wordN n xs = Y at *
    generalize M.nc n = c at *
    generalize M.nl n = l at *
    generalize M.nr n = r at *
    generalize M.ns n = sl at *
    generalize M.nv n = v at *
    generalize xs.getD fi 0 = x at *
    have o0 : (w.alloc (.cells #[.int .i64 fi, .int .i64 c, .int .i64 l, .int .i64 r, .bool sl, .int .i64 v] 29)).drew.cell? ⟨w.heap.size, 0, none⟩ = some (.int .i64 fi) := World.cell?_alloc_at _ _ _ 0 rfl
    have KR : Hid (∀ W, Below w.heap.size w W → W.cell? ⟨bx, ox + fi, none⟩ = some (.int .i64 x)) := fun W hW => (hW.cell (p := ⟨bx, ox + fi, none⟩) hbx).trans hx
    have r0 : (w.alloc (.cells #[.int .i64 fi, .int .i64 c, .int .i64 l, .int .i64 r, .bool sl, .int .i64 v] 29)).drew.cell? ⟨bx, ox + fi, none⟩ = some (.int .i64 x) := KR.out _ (B0.out _).drew
    have h1 : ¬ 9223372036854775807 < 1 + (bs (Lib.itoa (fi : Int))).size := by omega
    have EF : Hid ((⟨#[102]⟩ : ByteArray) ++ bs (Lib.itoa (fi : Int)) = bs (102 :: Lib.itoa (fi : Int))) := bs_cons _ _
    have fl2 : (bs (102 :: Lib.itoa (fi : Int))).size ≤ 9 := by rw [← EF.out]; rw [ByteArray.size_append]; show 1 + _ ≤ 9; omega
    go_enter Tryd.func23, Tryd.ntmps23
    go_upto_region 3 with fail
    go_cut [5, 6] from 14 to 22 (fun s y wx => s = .string (bs (102 :: Lib.itoa (fi : Int))) ∧ y = .int .i64 x ∧ Hid (Below (w.alloc (.cells #[.int .i64 fi, .int .i64 c, .int .i64 l, .int .i64 r, .bool sl, .int .i64 v] 29)).heap.size (w.alloc (.cells #[.int .i64 fi, .int .i64 c, .int .i64 l, .int .i64 r, .bool sl, .int .i64 v] 29)) wx))
    case first =>
      go_region_with (go_at_call 44; refine (IT.out _ of _ (B0.out _).drew).mono ?_; rintro e w5 ⟨rfl, hb5⟩; have k5 := ((Below.refl _ _).drew).trans hb5; have s5 := (kept_six k5).1; have r5 := KR.out _ (below_on (B0.out _) k5))
      all_goals go_wp2
      all_goals go_meet
      all_goals (case rel => exact ⟨by rw [← EF.out], rfl, k5⟩)
    case rest =>
      obtain ⟨rfl, rfl, K⟩ := hcut
      have c1 := (kept_six K.out).2
      have kw := below_on (B0.out _) K.out
      have KW := hide kw
      clear o0 r0 KR h1 EF
      by_cases hz : x = M.nilI
      · have qz : (x == -1125899906842624) = true := by rw [beq_iff_eq]; exact hz
        have E : Hid (bs (102 :: Lib.itoa (fi : Int)) ++ (⟨#[63]⟩ : ByteArray) = bs Y) := by
          unfold Hid; rw [WE.out, if_pos hz, bs_snoc]; simp
        clear hz WE
        generalize bs (102 :: Lib.itoa (fi : Int)) = u at *
        have h2 : ¬ 9223372036854775807 < u.size + 1 := by omega
        go_wp2
        go_ret
        exact ⟨by rw [← E.out]; rfl, kw⟩
      · have qz : (x == -1125899906842624) = false := by rw [beq_eq_false_iff_ne]; exact hz
        by_cases hd : x < c
        · have qd : decide (x < c) = true := decide_eq_true hd
          have E : Hid (bs (102 :: Lib.itoa (fi : Int)) ++ (⟨#[60]⟩ : ByteArray) ++ bs (Lib.itoa c) = bs Y) := by
            unfold Hid; rw [WE.out, if_neg hz, if_pos hd, bs_snoc, bs_app]; simp
          clear hz hd WE
          generalize bs (102 :: Lib.itoa (fi : Int)) = u at *
          have h2 : ¬ 9223372036854775807 < u.size + 1 := by omega
          have h3 : ¬ 9223372036854775807 < u.size + 1 + (bs (Lib.itoa c)).size := by omega
          go_wp2_with (go_at_call 44; refine (IT.out _ oc _ KW.out).mono ?_; rintro e w6 ⟨rfl, hb6⟩)
          go_ret
          exact ⟨by rw [← E.out]; rfl, below_on kw hb6⟩
        · have qd : decide (x < c) = false := decide_eq_false hd
          have E : Hid (bs (102 :: Lib.itoa (fi : Int)) ++ (⟨#[62, 61]⟩ : ByteArray) ++ bs (Lib.itoa c) = bs Y) := by
            unfold Hid; rw [WE.out, if_neg hz, if_neg hd, bs_snoc2, bs_app]; simp
          clear hz hd WE
          generalize bs (102 :: Lib.itoa (fi : Int)) = u at *
          have h2 : ¬ 9223372036854775807 < u.size + 2 := by omega
          have h3 : ¬ 9223372036854775807 < u.size + 2 + (bs (Lib.itoa c)).size := by omega
          go_wp2_with (go_at_call 44; refine (IT.out _ oc _ KW.out).mono ?_; rintro e w6 ⟨rfl, hb6⟩)
          go_ret
          exact ⟨by rw [← E.out]; rfl, below_on kw hb6⟩

end Go.Proofs.YtandimbpealclacDoor
