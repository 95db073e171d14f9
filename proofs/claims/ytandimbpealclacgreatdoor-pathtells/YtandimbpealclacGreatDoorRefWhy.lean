/-
  What the reference's Why answers where Ready finds no fault.
-/
import Derived.Test.YtandimbpealclacGreatDoorRefWay
import Derived.Test.YtandimbpealclacGreatDoorWhyB
namespace Go.Proofs.YtandimbpealclacGreatDoor
open Go.ChangeShapes Go.WideShapes Go.ChangeAt Go.RowKit Go.Lib
set_option linter.unusedVariables false

set_option maxHeartbeats 8000000 in
set_option maxRecDepth 10000 in
theorem rwhy_any (a0 b0 : Option Addr) (ts : List M.Nd) (xs : List Int) (ca cb : Nat) (w : World) (ht : RdN w a0 ts) (hr : Rd w b0 xs) (h0 : M.readyF ts xs = 0) :
    Calls Tryz.prog 6 #[.slice a0 ts.length ca, .slice b0 xs.length cb] w fun e w' => e = .returned (.string (bs (M.why ts xs 0))) ∧ Below w.heap.size w w' := by
  have hm : ts.length ≤ 9223372036854775807 := ht.1
  have hm2 : xs.length ≤ 9223372036854775807 := hr.1
  obtain ⟨F, _⟩ := M.tree_ok (M.ready_ok h0).2
  have CL := hide (rway_any a0 b0 ts xs ca cb w ht hr h0)
  have PV : Hid (M.pathV ts xs = (M.way ts xs 0).map Int.ofNat) := by unfold Hid M.pathV; rw [if_pos h0]
  have PN : (M.pathV ts xs).length ≤ 63 := by
    rw [PV.out, List.length_map]
    have := M.way_size F.2.2.2.2.1 xs ts.length 0 F.2.1 (by omega)
    have := F.1
    omega
  have FN := hide F.2.2.2.2.1
  have l0 := F.2.1
  have l63 := F.1
  have m8 : xs.length ≤ 8 := by have := F.2.2.2.1; omega
  have HT := hide ht
  have HX := hide hr
  have DI := hide digits_any
  have NO := hide none_any
  clear F ht hr h0
  generalize hwy : M.why ts xs 0 = WY at *
  have HW := hide hwy
  generalize M.leafV ts xs = o at *
  generalize M.pathV ts xs = P at *
  clear hwy
  go_enter Tryz.func6, Tryz.ntmps6
  go_wp2_with (go_at_call 5; refine CL.out.mono ?_; rintro e w1 ⟨ap, cp, rfl, R1, hb1⟩)
  have RP := hide R1
  clear CL R1
  go_loopw [7, 8] (fun s i wr => ∃ (q : Nat) (pre : List Nat) (S : List UInt8), q < ts.length ∧ i = .int .i64 (pre.length : Nat) ∧ s = .string (bs S) ∧ Hid (M.way ts xs 0 = pre ++ M.way ts xs q) ∧ Hid (S ++ M.why ts xs q = WY) ∧ S.length ≤ 21 * pre.length ∧ pre.length ≤ q ∧ Below w1.heap.size w1 wr) (fun _ i _ => 63 - (intOf i).toNat)
  case atStart => exact ⟨0, [], [], l0, rfl, rfl, by unfold Hid; simp, by unfold Hid; rw [← HW.out]; simp, by simp, by simp, Below.refl _ _⟩
  case round =>
    obtain ⟨q, pre, S, hq, rfl, rfl, J, K, hS, hpq, hbl⟩ := hrel
    have kw := below_on hb1 hbl
    obtain ⟨tl, etl⟩ := M.way_ne FN.out xs hq
    have hpl : pre.length < P.length := by rw [PV.out, List.length_map, J.out, etl]; simp
    obtain ⟨bp, op, rfl, hbp, hcp⟩ := (RP.out.below hbl).2 (by intro e; subst e; simp at hpl)
    have cq : wr.cell? ⟨bp, op + pre.length, none⟩ = some (.int .i64 (q : Nat)) := by
      rw [hcp pre.length hpl]
      have : P.getD pre.length 0 = (q : Int) := by rw [PV.out, J.out, etl]; simp [List.getD]
      rw [this]
    obtain ⟨b1, off, rfl, hbb, hc⟩ := (HT.out.below kw).2 (by intro e; subst e; simp at hq)
    obtain ⟨s0, s1, s2, s3, s4, s5⟩ := hc q hq
    have qz : (q : Int) < (ts.length : Int) := by omega
    have plz : (pre.length : Int) < (P.length : Int) := by omega
    have SL : (bs S).size ≤ 1323 := by rw [bs_size]; omega
    have NB : Hid (∀ o, Below w1.heap.size w1 (wr.alloc o)) := fun o => hbl.alloc hbl.size _
    have NB2 : Hid (∀ o, Below w.heap.size w (wr.alloc o)) := fun o => kw.alloc kw.size _
    have K61 : Hid (bs S ++ (⟨#[61]⟩ : ByteArray) = bs (S ++ [61])) := bs_snoc S 61
    clear hcp hc etl hpl
    by_cases hf : M.nf (M.nAt ts q) = -1
    · have ov := M.node_leaf (FN.out q hq) hf
      have E : Hid (bs S ++ (⟨#[61]⟩ : ByteArray) ++ bs (Lib.itoa (M.nv (M.nAt ts q))) = bs WY) := by
        unfold Hid; rw [K61.out, bs_app, ← K.out, M.why_leaf hq hf]; simp
      have vl : (bs (Lib.itoa (M.nv (M.nAt ts q)))).size ≤ 8 := by rw [bs_size]; exact M.itoa_len ov
      have qf : (M.nf (M.nAt ts q) == -1) = true := by rw [beq_iff_eq]; exact hf
      clear hf K J K61
      generalize M.nf (M.nAt ts q) = f at *
      generalize M.nc (M.nAt ts q) = c at *
      generalize M.nl (M.nAt ts q) = l at *
      generalize M.nr (M.nAt ts q) = r at *
      generalize M.ns (M.nAt ts q) = sl at *
      generalize M.nv (M.nAt ts q) = v at *
      generalize bs S = u at *
      have h1 : ¬ 9223372036854775807 < u.size + 1 := by omega
      have h2 : ¬ 9223372036854775807 < u.size + 1 + (bs (Lib.itoa v)).size := by omega
      go_wp2_with (go_at_call 22; refine (DI.out _ ov _).mono ?_; rintro e w2 ⟨rfl, rfl⟩)
      go_ret
      exact ⟨by rw [← E.out]; rfl, NB2.out _⟩
    · have na := M.node_ask (FN.out q hq) hf
      obtain ⟨fi, hfi⟩ : ∃ fi : Nat, M.nf (M.nAt ts q) = fi := ⟨(M.nf (M.nAt ts q)).toNat, by have := na.1; omega⟩
      have hfl : fi < xs.length := by have := na.2.1; omega
      have of : M.outI (fi : Int) = false := M.out_in (by omega) (by omega)
      have oc := na.2.2.1
      obtain ⟨bx, ox, rfl, hbx, hcx⟩ := (HX.out.below kw).2 (by intro e; subst e; simp at hfl)
      have hx := hcx fi hfl
      obtain ⟨k, ek, k1, k2⟩ := M.next_in FN.out xs hq hf
      have NJ : Hid (M.way ts xs 0 = (pre ++ [q]) ++ M.way ts xs k) := by unfold Hid; rw [J.out, M.way_next FN.out hq hf ek]; simp
      have KN : Hid (S ++ (M.whyW (M.nAt ts q) (xs.getD fi 0) ++ [32]) ++ M.why ts xs k = WY) := by
        unfold Hid; rw [← K.out, M.why_next FN.out hq hf ek, hfi, Int.toNat_natCast]; simp
      have WL : (M.whyW (M.nAt ts q) (xs.getD fi 0)).length ≤ 20 := whyW_len (by rw [hfi]; exact of) oc
      have WE : Hid (M.whyW (M.nAt ts q) (xs.getD fi 0) = 102 :: (Lib.itoa (fi : Int) ++ if xs.getD fi 0 = M.nilI then [63] else if xs.getD fi 0 < M.nc (M.nAt ts q) then 60 :: Lib.itoa (M.nc (M.nAt ts q)) else 62 :: 61 :: Lib.itoa (M.nc (M.nAt ts q)))) := by unfold Hid M.whyW; rw [hfi]
      have qf : ((fi : Int) == -1) = false := by rw [beq_eq_false_iff_ne]; omega
      have fl : (bs (Lib.itoa (fi : Int))).size ≤ 8 := by rw [bs_size]; exact M.itoa_len of
      have cl : (bs (Lib.itoa (M.nc (M.nAt ts q)))).size ≤ 8 := by rw [bs_size]; exact M.itoa_len oc
      have fz : (fi : Int) < (xs.length : Int) := by omega
      have p63 : pre.length + 1 ≤ 63 := by omega
      rw [hfi] at s0
      clear hf K J K61 na hcx ek hfi
      generalize M.whyW (M.nAt ts q) (xs.getD fi 0) = wy at *
      generalize M.nc (M.nAt ts q) = c at *
      generalize M.nl (M.nAt ts q) = l at *
      generalize M.nr (M.nAt ts q) = r at *
      generalize M.ns (M.nAt ts q) = sl at *
      generalize M.nv (M.nAt ts q) = v at *
      generalize xs.getD fi 0 = x at *
      have pl : Hid ((pre ++ [q]).length = pre.length + 1) := by unfold Hid; simp
      have SN : Hid ((S ++ (wy ++ [32])).length ≤ 21 * (pre ++ [q]).length) := by unfold Hid; rw [pl.out]; simp; omega
      by_cases hn : x = M.nilI
      · have NO1 := hide (NO.out x)
        rw [decide_eq_true hn] at NO1
        have E : Hid (bs S ++ (⟨#[102]⟩ : ByteArray) ++ bs (Lib.itoa (fi : Int)) ++ (⟨#[63, 32]⟩ : ByteArray) = bs (S ++ (wy ++ [32]))) := by
          unfold Hid; rw [WE.out, if_pos hn, bs_snoc, bs_app, bs_snoc2]; simp
        clear hn WE NO
        generalize hu : bs S = u at *
        clear hu
        have h1 : ¬ 9223372036854775807 < u.size + 1 := by omega
        have h2 : ¬ 9223372036854775807 < u.size + 1 + (bs (Lib.itoa (fi : Int))).size := by omega
        have h3 : ¬ 9223372036854775807 < u.size + 1 + (bs (Lib.itoa (fi : Int))).size + 2 := by omega
        go_wp2_with (first
          | (go_at_call 22; refine (DI.out _ (by assumption) _).mono ?_; rintro e w2 ⟨rfl, rfl⟩)
          | (go_at_call 23; refine (NO1.out _).mono ?_; rintro e w2 ⟨rfl, rfl⟩))
        go_roundw
        case rel => exact ⟨k, pre ++ [q], S ++ (wy ++ [32]), k2, by rw [pl.out]; go_num, by rw [← E.out], NJ, KN, SN.out, by rw [pl.out]; omega, NB.out _⟩
        case measure => simp [intOf]; omega
      · have NO1 := hide (NO.out x)
        rw [decide_eq_false hn] at NO1
        by_cases hd : x < c
        · have qd : decide (x < c) = true := decide_eq_true hd
          have E : Hid (bs S ++ (⟨#[102]⟩ : ByteArray) ++ bs (Lib.itoa (fi : Int)) ++ (⟨#[60]⟩ : ByteArray) ++ bs (Lib.itoa c) ++ (⟨#[32]⟩ : ByteArray) = bs (S ++ (wy ++ [32]))) := by
            unfold Hid; rw [WE.out, if_neg hn, if_pos hd, bs_snoc, bs_app, bs_snoc, bs_app, bs_snoc]; simp
          clear hn hd WE NO
          generalize hu : bs S = u at *
          clear hu
          have h1 : ¬ 9223372036854775807 < u.size + 1 := by omega
          have h2 : ¬ 9223372036854775807 < u.size + 1 + (bs (Lib.itoa (fi : Int))).size := by omega
          have h3 : ¬ 9223372036854775807 < u.size + 1 + (bs (Lib.itoa (fi : Int))).size + 1 := by omega
          have h4 : ¬ 9223372036854775807 < u.size + 1 + (bs (Lib.itoa (fi : Int))).size + 1 + (bs (Lib.itoa c)).size := by omega
          have h5 : ¬ 9223372036854775807 < u.size + 1 + (bs (Lib.itoa (fi : Int))).size + 1 + (bs (Lib.itoa c)).size + 1 := by omega
          go_wp2_with (first
            | (go_at_call 22; refine (DI.out _ (by assumption) _).mono ?_; rintro e w2 ⟨rfl, rfl⟩)
            | (go_at_call 23; refine (NO1.out _).mono ?_; rintro e w2 ⟨rfl, rfl⟩))
          go_quiet (fail)
          go_wp2
          go_roundw
          case rel => exact ⟨k, pre ++ [q], S ++ (wy ++ [32]), k2, by rw [pl.out]; go_num, by rw [← E.out], NJ, KN, SN.out, by rw [pl.out]; omega, below_drew (NB.out _) _ (NB.out _).size⟩
          case measure => simp [intOf]; omega
        · have qd : decide (x < c) = false := decide_eq_false hd
          have E : Hid (bs S ++ (⟨#[102]⟩ : ByteArray) ++ bs (Lib.itoa (fi : Int)) ++ (⟨#[62, 61]⟩ : ByteArray) ++ bs (Lib.itoa c) ++ (⟨#[32]⟩ : ByteArray) = bs (S ++ (wy ++ [32]))) := by
            unfold Hid; rw [WE.out, if_neg hn, if_neg hd, bs_snoc, bs_app, bs_snoc2, bs_app, bs_snoc]; simp
          clear hn hd WE NO
          generalize hu : bs S = u at *
          clear hu
          have h1 : ¬ 9223372036854775807 < u.size + 1 := by omega
          have h2 : ¬ 9223372036854775807 < u.size + 1 + (bs (Lib.itoa (fi : Int))).size := by omega
          have h3 : ¬ 9223372036854775807 < u.size + 1 + (bs (Lib.itoa (fi : Int))).size + 2 := by omega
          have h4 : ¬ 9223372036854775807 < u.size + 1 + (bs (Lib.itoa (fi : Int))).size + 2 + (bs (Lib.itoa c)).size := by omega
          have h5 : ¬ 9223372036854775807 < u.size + 1 + (bs (Lib.itoa (fi : Int))).size + 2 + (bs (Lib.itoa c)).size + 1 := by omega
          go_wp2_with (first
            | (go_at_call 22; refine (DI.out _ (by assumption) _).mono ?_; rintro e w2 ⟨rfl, rfl⟩)
            | (go_at_call 23; refine (NO1.out _).mono ?_; rintro e w2 ⟨rfl, rfl⟩))
          go_quiet (fail)
          go_wp2
          go_roundw
          case rel => exact ⟨k, pre ++ [q], S ++ (wy ++ [32]), k2, by rw [pl.out]; go_num, by rw [← E.out], NJ, KN, SN.out, by rw [pl.out]; omega, below_drew (NB.out _) _ (NB.out _).size⟩
          case measure => simp [intOf]; omega

end Go.Proofs.YtandimbpealclacGreatDoor
