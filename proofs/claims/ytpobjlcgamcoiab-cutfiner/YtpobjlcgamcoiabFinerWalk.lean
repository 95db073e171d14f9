/-
  The walk of the law CutFiner: for every two lists and every two numbers it returns true.
-/
import Derived.Test.YtpobjlcgamcoiabMerge
namespace Go.Proofs.Ytpobjlcgamcoiab
open Go.ChangeShapes Go.WideShapes Go.ChangeAt Go.RowKit Go.Shelf Go.Lib Go.Sort
set_option linter.unusedVariables false

theorem nil_cap {k : IntKind} {w : World} {a : Option Addr} {len cap : Nat} {zs : List Int} (h : IsRow k w a len cap zs) : a = none → cap = 0 := by
  rcases h with ⟨_, _, h, _⟩ | ⟨x, rfl, _⟩
  · exact fun _ => h
  · intro h; cases h

theorem Bin_some (a : Option Addr) (xs : List Int) (cap : Nat) (x : Int) (w : World) (h : Rd w a xs) :
    Calls Try.prog 4 #[.slice a xs.length cap, .int .i64 x] w fun e w' => ∃ n ev, e = .returned (.tuple #[n, ev]) ∧ Below w.heap.size w w' := by
  by_cases hc : M.cutsI xs = 0
  · cases ho : M.outI x with
    | true => exact (Bin_out a xs cap x w h hc ho).mono fun e w' ⟨h1, h2⟩ => ⟨_, _, h1, h2⟩
    | false => exact (Bin_ok a xs cap x w h hc ho).mono fun e w' ⟨h1, h2⟩ => ⟨_, _, h1, h2⟩
  · exact (Bin_bad a xs cap x w h hc).mono fun e w' ⟨h1, h2⟩ => ⟨_, _, h1, h2⟩

theorem rd_two (w : World) (x y : Int) (t : TypeId) : Rd (w.alloc (.cells #[.int .i64 x, .int .i64 y] t)) (some ⟨w.heap.size, 0, none⟩) [x, y] :=
  ⟨by show 2 ≤ maxLen; unfold maxLen; decide, fun _ => ⟨w.heap.size, 0, rfl, by simp, fun i hi => by
    have h := two_cells w (.int .i64 x) (.int .i64 y) t
    rcases (show i = 0 ∨ i = 1 by simp at hi; omega) with rfl | rfl
    · exact h.1
    · exact h.2⟩⟩

theorem fact_bin (w : World) : Calls Try.prog 4 #[.slice (some ⟨w.heap.size, 0, none⟩) 2 2, .int .i64 5] (w.alloc (.cells #[.int .i64 5, .int .i64 9] 3)) fun e w' => e = .returned (.tuple #[.int .i64 1, .nilIface]) ∧ Below w.heap.size w w' := by
  refine (Bin_ok (some ⟨w.heap.size, 0, none⟩) [5, 9] 2 5 _ (rd_two w 5 9 3) (by decide) (by decide)).mono ?_
  rintro e w' ⟨rfl, hb⟩
  exact ⟨rfl, ((Below.refl _ w).alloc (Nat.le_refl _) _).trans (hb.mono (by simp))⟩

set_option maxHeartbeats 4000000 in
theorem finer_walk (a b : Option Addr) (xs ys : List Int) (ca cb : Nat) (x y : Int) (w : World) (ha : Rd w a xs) (hb : Rd w b ys) (na : a = none → ca = 0) (nb : b = none → cb = 0) :
    Calls Try.prog 3 #[.slice a xs.length ca, .slice b ys.length cb, .int .i64 x, .int .i64 y] w fun e w' => e = .returned (.bool true) ∧ Below w.heap.size w w' := by
  by_cases hc : M.cutsI xs = 0
  · by_cases hd : M.cutsI ys = 0
    · have MG := hide (fun W (hW : Below w.heap.size w W) => Merge_core a b xs ys ca cb W (ha.below hW) (hb.below hW) na nb hc hd)
      go_enter Try.func3, Try.ntmps3
      go_wp2_with fail
      refine (fact_bin w).mono ?_
      rintro e w1 ⟨rfl, hb1⟩
      go_wp2_with fail
      refine (MG.out _ hb1).mono ?_
      rintro e w2 ⟨hb2, ⟨h60, rfl⟩ | ⟨h60, v, rfl, hown⟩⟩
      · go_wp2
        go_ret
        exact ⟨rfl, below_on hb1 hb2⟩
      · have hb2' := below_on hb1 hb2
        have MZ := M.merge_ok hc hd h60
        obtain ⟨am, cm, rfl, hm, hcm⟩ := own_rd hown
        have hk0 := hb2'
        have mk0 := Below.refl w2.heap.size w2
        have MR := hide hm
        have HA := hide ha
        have HB := hide hb
        have HC := hide hc
        have HD := hide hd
        have MZ' := hide MZ
        clear hm ha hb na nb hown MG
        have hml : (M.mergeI xs ys).length ≤ 60 := h60
        have FN := hide (M.finer xs ys x y)
        have MO := hide (fun l (h : x ≤ y) => M.bin_mono l h)
        clear hc hd MZ h60 hb1 hb2 hb2'
        have MZ := MZ'
        clear MZ'
        generalize M.mergeI xs ys = m at *
        cases hox : M.outI x with
        | true =>
          have OX := hide hox
          rcases M.out_true hox with h1 | h1
          · have t1 : decide (x < -1000000) = true := decide_eq_true h1
            clear hox h1
            go_wp2_with fail
            refine (Bin_out am _ cm x _ (MR.out.below mk0) MZ.out OX.out).mono ?_
            rintro e w3 ⟨rfl, hb3⟩
            have hk1 := below_on hk0 hb3
            have mk1 := below_on mk0 hb3
            clear hb3
            go_wp2_with fail
            refine (Bin_some am _ cm y _ (MR.out.below mk1)).mono ?_
            rintro e w4 ⟨n4, ev4, rfl, hb4⟩
            have hk2 := below_on hk1 hb4
            have mk2 := below_on mk1 hb4
            clear hb4
            go_wp2_with fail
            refine (Bin_out a _ ca x _ (HA.out.below hk2) HC.out OX.out).mono ?_
            rintro e w5 ⟨rfl, hb5⟩
            have hk3 := below_on hk2 hb5
            have mk3 := below_on mk2 hb5
            clear hb5
            go_wp2_with fail
            refine (Bin_some a _ ca y _ (HA.out.below hk3)).mono ?_
            rintro e w6 ⟨n6, ev6, rfl, hb6⟩
            have hk4 := below_on hk3 hb6
            have mk4 := below_on mk3 hb6
            clear hb6
            go_wp2_with fail
            refine (Bin_out b _ cb x _ (HB.out.below hk4) HD.out OX.out).mono ?_
            rintro e w7 ⟨rfl, hb7⟩
            have hk5 := below_on hk4 hb7
            have mk5 := below_on mk4 hb7
            clear hb7
            go_wp2_with fail
            refine (Bin_some b _ cb y _ (HB.out.below hk5)).mono ?_
            rintro e w8 ⟨n8, ev8, rfl, hb8⟩
            have hk6 := below_on hk5 hb8
            clear hb8
            go_wp2
            go_ret
            exact ⟨rfl, hk6⟩
          · have t1 : decide (x < -1000000) = false := decide_eq_false (by omega)
            have t2 : decide (1000000 < x) = true := decide_eq_true h1
            clear hox h1
            go_wp2_with fail
            refine (Bin_out am _ cm x _ (MR.out.below mk0) MZ.out OX.out).mono ?_
            rintro e w3 ⟨rfl, hb3⟩
            have hk1 := below_on hk0 hb3
            have mk1 := below_on mk0 hb3
            clear hb3
            go_wp2_with fail
            refine (Bin_some am _ cm y _ (MR.out.below mk1)).mono ?_
            rintro e w4 ⟨n4, ev4, rfl, hb4⟩
            have hk2 := below_on hk1 hb4
            have mk2 := below_on mk1 hb4
            clear hb4
            go_wp2_with fail
            refine (Bin_out a _ ca x _ (HA.out.below hk2) HC.out OX.out).mono ?_
            rintro e w5 ⟨rfl, hb5⟩
            have hk3 := below_on hk2 hb5
            have mk3 := below_on mk2 hb5
            clear hb5
            go_wp2_with fail
            refine (Bin_some a _ ca y _ (HA.out.below hk3)).mono ?_
            rintro e w6 ⟨n6, ev6, rfl, hb6⟩
            have hk4 := below_on hk3 hb6
            have mk4 := below_on mk3 hb6
            clear hb6
            go_wp2_with fail
            refine (Bin_out b _ cb x _ (HB.out.below hk4) HD.out OX.out).mono ?_
            rintro e w7 ⟨rfl, hb7⟩
            have hk5 := below_on hk4 hb7
            have mk5 := below_on mk4 hb7
            clear hb7
            go_wp2_with fail
            refine (Bin_some b _ cb y _ (HB.out.below hk5)).mono ?_
            rintro e w8 ⟨n8, ev8, rfl, hb8⟩
            have hk6 := below_on hk5 hb8
            clear hb8
            go_wp2
            go_ret
            exact ⟨rfl, hk6⟩
        | false =>
          have OX := hide hox
          have ox := M.out_false hox
          have t1 : decide (x < -1000000) = false := decide_eq_false (by omega)
          have t2 : decide (1000000 < x) = false := decide_eq_false (by omega)
          clear ox hox
          cases hoy : M.outI y with
          | true =>
            have OY := hide hoy
            rcases M.out_true hoy with h1 | h1
            · have t3 : decide (y < -1000000) = true := decide_eq_true h1
              clear hoy h1
              go_wp2_with fail
              refine (Bin_ok am _ cm x _ (MR.out.below mk0) MZ.out OX.out).mono ?_
              rintro e w3 ⟨rfl, hb3⟩
              have hk1 := below_on hk0 hb3
              have mk1 := below_on mk0 hb3
              clear hb3
              go_wp2_with fail
              refine (Bin_out am _ cm y _ (MR.out.below mk1) MZ.out OY.out).mono ?_
              rintro e w4 ⟨rfl, hb4⟩
              have hk2 := below_on hk1 hb4
              have mk2 := below_on mk1 hb4
              clear hb4
              go_wp2_with fail
              refine (Bin_ok a _ ca x _ (HA.out.below hk2) HC.out OX.out).mono ?_
              rintro e w5 ⟨rfl, hb5⟩
              have hk3 := below_on hk2 hb5
              have mk3 := below_on mk2 hb5
              clear hb5
              go_wp2_with fail
              refine (Bin_out a _ ca y _ (HA.out.below hk3) HC.out OY.out).mono ?_
              rintro e w6 ⟨rfl, hb6⟩
              have hk4 := below_on hk3 hb6
              have mk4 := below_on mk3 hb6
              clear hb6
              go_wp2_with fail
              refine (Bin_ok b _ cb x _ (HB.out.below hk4) HD.out OX.out).mono ?_
              rintro e w7 ⟨rfl, hb7⟩
              have hk5 := below_on hk4 hb7
              have mk5 := below_on mk4 hb7
              clear hb7
              go_wp2_with fail
              refine (Bin_out b _ cb y _ (HB.out.below hk5) HD.out OY.out).mono ?_
              rintro e w8 ⟨rfl, hb8⟩
              have hk6 := below_on hk5 hb8
              clear hb8
              go_wp2
              go_ret
              exact ⟨rfl, hk6⟩
            · have t3 : decide (y < -1000000) = false := decide_eq_false (by omega)
              have t4 : decide (1000000 < y) = true := decide_eq_true h1
              clear hoy h1
              go_wp2_with fail
              refine (Bin_ok am _ cm x _ (MR.out.below mk0) MZ.out OX.out).mono ?_
              rintro e w3 ⟨rfl, hb3⟩
              have hk1 := below_on hk0 hb3
              have mk1 := below_on mk0 hb3
              clear hb3
              go_wp2_with fail
              refine (Bin_out am _ cm y _ (MR.out.below mk1) MZ.out OY.out).mono ?_
              rintro e w4 ⟨rfl, hb4⟩
              have hk2 := below_on hk1 hb4
              have mk2 := below_on mk1 hb4
              clear hb4
              go_wp2_with fail
              refine (Bin_ok a _ ca x _ (HA.out.below hk2) HC.out OX.out).mono ?_
              rintro e w5 ⟨rfl, hb5⟩
              have hk3 := below_on hk2 hb5
              have mk3 := below_on mk2 hb5
              clear hb5
              go_wp2_with fail
              refine (Bin_out a _ ca y _ (HA.out.below hk3) HC.out OY.out).mono ?_
              rintro e w6 ⟨rfl, hb6⟩
              have hk4 := below_on hk3 hb6
              have mk4 := below_on mk3 hb6
              clear hb6
              go_wp2_with fail
              refine (Bin_ok b _ cb x _ (HB.out.below hk4) HD.out OX.out).mono ?_
              rintro e w7 ⟨rfl, hb7⟩
              have hk5 := below_on hk4 hb7
              have mk5 := below_on mk4 hb7
              clear hb7
              go_wp2_with fail
              refine (Bin_out b _ cb y _ (HB.out.below hk5) HD.out OY.out).mono ?_
              rintro e w8 ⟨rfl, hb8⟩
              have hk6 := below_on hk5 hb8
              clear hb8
              go_wp2
              go_ret
              exact ⟨rfl, hk6⟩
          | false =>
            have OY := hide hoy
            clear hoy
            have B0 := hide (fun W h => Bin_ok am m cm x W h MZ.out OX.out)
            have B1 := hide (fun W h => Bin_ok am m cm y W h MZ.out OY.out)
            have B2 := hide (fun W h => Bin_ok a xs ca x W h HC.out OX.out)
            have B3 := hide (fun W h => Bin_ok a xs ca y W h HC.out OY.out)
            have B4 := hide (fun W h => Bin_ok b ys cb x W h HD.out OX.out)
            have B5 := hide (fun W h => Bin_ok b ys cb y W h HD.out OY.out)
            have M1 := hide (MO.out m)
            have M2 := hide (MO.out xs)
            have M3 := hide (MO.out ys)
            have L1 := hide (Nat.le_trans (M.bin_le m x) hml)
            have L2 := hide (Nat.le_trans (M.bin_le m y) hml)
            clear MO
            generalize M.binI m x = p at *
            generalize M.binI m y = q at *
            generalize M.binI xs x = c at *
            generalize M.binI xs y = d at *
            generalize M.binI ys x = f at *
            generalize M.binI ys y = g at *
            by_cases hle : x ≤ y
            · have t5 : decide (x ≤ y) = true := decide_eq_true hle
              have g1 : ¬ ((q : Int) < (p : Int)) := by have := M1.out hle; omega
              have g2 : ¬ ((d : Int) < (c : Int)) := by have := M2.out hle; omega
              have g3 : ¬ ((g : Int) < (f : Int)) := by have := M3.out hle; omega
              clear hle
              by_cases e1 : c = d
              · have k1 : ((c : Int) == (d : Int)) = true := by rw [beq_iff_eq]; omega
                by_cases e2 : f = g
                · have k2 : ((f : Int) == (g : Int)) = true := by rw [beq_iff_eq]; omega
                  have k3 : ((p : Int) == (q : Int)) = true := by have := FN.out.2 ⟨e1, e2⟩; rw [beq_iff_eq]; omega
                  have E1 := hide e1
                  have E2 := hide e2
                  clear e1 e2
                  go_wp2_with fail
                  refine (B0.out _ (MR.out.below mk0)).mono ?_
                  rintro e w3 ⟨rfl, hb3⟩
                  have hk1 := below_on hk0 hb3
                  have mk1 := below_on mk0 hb3
                  clear hb3
                  go_wp2_with fail
                  refine (B1.out _ (MR.out.below mk1)).mono ?_
                  rintro e w4 ⟨rfl, hb4⟩
                  have hk2 := below_on hk1 hb4
                  have mk2 := below_on mk1 hb4
                  clear hb4
                  go_wp2_with fail
                  refine (B2.out _ (HA.out.below hk2)).mono ?_
                  rintro e w5 ⟨rfl, hb5⟩
                  have hk3 := below_on hk2 hb5
                  have mk3 := below_on mk2 hb5
                  clear hb5
                  go_wp2_with fail
                  refine (B3.out _ (HA.out.below hk3)).mono ?_
                  rintro e w6 ⟨rfl, hb6⟩
                  have hk4 := below_on hk3 hb6
                  have mk4 := below_on mk3 hb6
                  clear hb6
                  go_wp2_with fail
                  refine (B4.out _ (HB.out.below hk4)).mono ?_
                  rintro e w7 ⟨rfl, hb7⟩
                  have hk5 := below_on hk4 hb7
                  have mk5 := below_on mk4 hb7
                  clear hb7
                  go_wp2_with fail
                  refine (B5.out _ (HB.out.below hk5)).mono ?_
                  rintro e w8 ⟨rfl, hb8⟩
                  have hk6 := below_on hk5 hb8
                  clear hb8
                  go_wp2
                  go_ret
                  exact ⟨rfl, hk6⟩
                · have k2 : ((f : Int) == (g : Int)) = false := by rw [beq_eq_false_iff_ne]; omega
                  have k3 : ((p : Int) == (q : Int)) = false := by rw [beq_eq_false_iff_ne]; intro h; exact e2 (FN.out.1 (by omega)).2
                  have E1 := hide e1
                  have E2 := hide e2
                  clear e1 e2
                  go_wp2_with fail
                  refine (B0.out _ (MR.out.below mk0)).mono ?_
                  rintro e w3 ⟨rfl, hb3⟩
                  have hk1 := below_on hk0 hb3
                  have mk1 := below_on mk0 hb3
                  clear hb3
                  go_wp2_with fail
                  refine (B1.out _ (MR.out.below mk1)).mono ?_
                  rintro e w4 ⟨rfl, hb4⟩
                  have hk2 := below_on hk1 hb4
                  have mk2 := below_on mk1 hb4
                  clear hb4
                  go_wp2_with fail
                  refine (B2.out _ (HA.out.below hk2)).mono ?_
                  rintro e w5 ⟨rfl, hb5⟩
                  have hk3 := below_on hk2 hb5
                  have mk3 := below_on mk2 hb5
                  clear hb5
                  go_wp2_with fail
                  refine (B3.out _ (HA.out.below hk3)).mono ?_
                  rintro e w6 ⟨rfl, hb6⟩
                  have hk4 := below_on hk3 hb6
                  have mk4 := below_on mk3 hb6
                  clear hb6
                  go_wp2_with fail
                  refine (B4.out _ (HB.out.below hk4)).mono ?_
                  rintro e w7 ⟨rfl, hb7⟩
                  have hk5 := below_on hk4 hb7
                  have mk5 := below_on mk4 hb7
                  clear hb7
                  go_wp2_with fail
                  refine (B5.out _ (HB.out.below hk5)).mono ?_
                  rintro e w8 ⟨rfl, hb8⟩
                  have hk6 := below_on hk5 hb8
                  clear hb8
                  go_wp2
                  go_ret
                  exact ⟨rfl, hk6⟩
              · have k1 : ((c : Int) == (d : Int)) = false := by rw [beq_eq_false_iff_ne]; omega
                have k3 : ((p : Int) == (q : Int)) = false := by rw [beq_eq_false_iff_ne]; intro h; exact e1 (FN.out.1 (by omega)).1
                have E1 := hide e1
                clear e1
                go_wp2_with fail
                refine (B0.out _ (MR.out.below mk0)).mono ?_
                rintro e w3 ⟨rfl, hb3⟩
                have hk1 := below_on hk0 hb3
                have mk1 := below_on mk0 hb3
                clear hb3
                go_wp2_with fail
                refine (B1.out _ (MR.out.below mk1)).mono ?_
                rintro e w4 ⟨rfl, hb4⟩
                have hk2 := below_on hk1 hb4
                have mk2 := below_on mk1 hb4
                clear hb4
                go_wp2_with fail
                refine (B2.out _ (HA.out.below hk2)).mono ?_
                rintro e w5 ⟨rfl, hb5⟩
                have hk3 := below_on hk2 hb5
                have mk3 := below_on mk2 hb5
                clear hb5
                go_wp2_with fail
                refine (B3.out _ (HA.out.below hk3)).mono ?_
                rintro e w6 ⟨rfl, hb6⟩
                have hk4 := below_on hk3 hb6
                have mk4 := below_on mk3 hb6
                clear hb6
                go_wp2_with fail
                refine (B4.out _ (HB.out.below hk4)).mono ?_
                rintro e w7 ⟨rfl, hb7⟩
                have hk5 := below_on hk4 hb7
                have mk5 := below_on mk4 hb7
                clear hb7
                go_wp2_with fail
                refine (B5.out _ (HB.out.below hk5)).mono ?_
                rintro e w8 ⟨rfl, hb8⟩
                have hk6 := below_on hk5 hb8
                clear hb8
                go_wp2
                go_ret
                exact ⟨rfl, hk6⟩
            · have t5 : decide (x ≤ y) = false := decide_eq_false hle
              clear hle
              by_cases e1 : c = d
              · have k1 : ((c : Int) == (d : Int)) = true := by rw [beq_iff_eq]; omega
                by_cases e2 : f = g
                · have k2 : ((f : Int) == (g : Int)) = true := by rw [beq_iff_eq]; omega
                  have k3 : ((p : Int) == (q : Int)) = true := by have := FN.out.2 ⟨e1, e2⟩; rw [beq_iff_eq]; omega
                  have E1 := hide e1
                  have E2 := hide e2
                  clear e1 e2
                  go_wp2_with fail
                  refine (B0.out _ (MR.out.below mk0)).mono ?_
                  rintro e w3 ⟨rfl, hb3⟩
                  have hk1 := below_on hk0 hb3
                  have mk1 := below_on mk0 hb3
                  clear hb3
                  go_wp2_with fail
                  refine (B1.out _ (MR.out.below mk1)).mono ?_
                  rintro e w4 ⟨rfl, hb4⟩
                  have hk2 := below_on hk1 hb4
                  have mk2 := below_on mk1 hb4
                  clear hb4
                  go_wp2_with fail
                  refine (B2.out _ (HA.out.below hk2)).mono ?_
                  rintro e w5 ⟨rfl, hb5⟩
                  have hk3 := below_on hk2 hb5
                  have mk3 := below_on mk2 hb5
                  clear hb5
                  go_wp2_with fail
                  refine (B3.out _ (HA.out.below hk3)).mono ?_
                  rintro e w6 ⟨rfl, hb6⟩
                  have hk4 := below_on hk3 hb6
                  have mk4 := below_on mk3 hb6
                  clear hb6
                  go_wp2_with fail
                  refine (B4.out _ (HB.out.below hk4)).mono ?_
                  rintro e w7 ⟨rfl, hb7⟩
                  have hk5 := below_on hk4 hb7
                  have mk5 := below_on mk4 hb7
                  clear hb7
                  go_wp2_with fail
                  refine (B5.out _ (HB.out.below hk5)).mono ?_
                  rintro e w8 ⟨rfl, hb8⟩
                  have hk6 := below_on hk5 hb8
                  clear hb8
                  go_wp2
                  go_ret
                  exact ⟨rfl, hk6⟩
                · have k2 : ((f : Int) == (g : Int)) = false := by rw [beq_eq_false_iff_ne]; omega
                  have k3 : ((p : Int) == (q : Int)) = false := by rw [beq_eq_false_iff_ne]; intro h; exact e2 (FN.out.1 (by omega)).2
                  have E1 := hide e1
                  have E2 := hide e2
                  clear e1 e2
                  go_wp2_with fail
                  refine (B0.out _ (MR.out.below mk0)).mono ?_
                  rintro e w3 ⟨rfl, hb3⟩
                  have hk1 := below_on hk0 hb3
                  have mk1 := below_on mk0 hb3
                  clear hb3
                  go_wp2_with fail
                  refine (B1.out _ (MR.out.below mk1)).mono ?_
                  rintro e w4 ⟨rfl, hb4⟩
                  have hk2 := below_on hk1 hb4
                  have mk2 := below_on mk1 hb4
                  clear hb4
                  go_wp2_with fail
                  refine (B2.out _ (HA.out.below hk2)).mono ?_
                  rintro e w5 ⟨rfl, hb5⟩
                  have hk3 := below_on hk2 hb5
                  have mk3 := below_on mk2 hb5
                  clear hb5
                  go_wp2_with fail
                  refine (B3.out _ (HA.out.below hk3)).mono ?_
                  rintro e w6 ⟨rfl, hb6⟩
                  have hk4 := below_on hk3 hb6
                  have mk4 := below_on mk3 hb6
                  clear hb6
                  go_wp2_with fail
                  refine (B4.out _ (HB.out.below hk4)).mono ?_
                  rintro e w7 ⟨rfl, hb7⟩
                  have hk5 := below_on hk4 hb7
                  have mk5 := below_on mk4 hb7
                  clear hb7
                  go_wp2_with fail
                  refine (B5.out _ (HB.out.below hk5)).mono ?_
                  rintro e w8 ⟨rfl, hb8⟩
                  have hk6 := below_on hk5 hb8
                  clear hb8
                  go_wp2
                  go_ret
                  exact ⟨rfl, hk6⟩
              · have k1 : ((c : Int) == (d : Int)) = false := by rw [beq_eq_false_iff_ne]; omega
                have k3 : ((p : Int) == (q : Int)) = false := by rw [beq_eq_false_iff_ne]; intro h; exact e1 (FN.out.1 (by omega)).1
                have E1 := hide e1
                clear e1
                go_wp2_with fail
                refine (B0.out _ (MR.out.below mk0)).mono ?_
                rintro e w3 ⟨rfl, hb3⟩
                have hk1 := below_on hk0 hb3
                have mk1 := below_on mk0 hb3
                clear hb3
                go_wp2_with fail
                refine (B1.out _ (MR.out.below mk1)).mono ?_
                rintro e w4 ⟨rfl, hb4⟩
                have hk2 := below_on hk1 hb4
                have mk2 := below_on mk1 hb4
                clear hb4
                go_wp2_with fail
                refine (B2.out _ (HA.out.below hk2)).mono ?_
                rintro e w5 ⟨rfl, hb5⟩
                have hk3 := below_on hk2 hb5
                have mk3 := below_on mk2 hb5
                clear hb5
                go_wp2_with fail
                refine (B3.out _ (HA.out.below hk3)).mono ?_
                rintro e w6 ⟨rfl, hb6⟩
                have hk4 := below_on hk3 hb6
                have mk4 := below_on mk3 hb6
                clear hb6
                go_wp2_with fail
                refine (B4.out _ (HB.out.below hk4)).mono ?_
                rintro e w7 ⟨rfl, hb7⟩
                have hk5 := below_on hk4 hb7
                have mk5 := below_on mk4 hb7
                clear hb7
                go_wp2_with fail
                refine (B5.out _ (HB.out.below hk5)).mono ?_
                rintro e w8 ⟨rfl, hb8⟩
                have hk6 := below_on hk5 hb8
                clear hb8
                go_wp2
                go_ret
                exact ⟨rfl, hk6⟩
    · have MG := hide (fun W (hW : Below w.heap.size w W) => Merge_bad2 a b xs ys ca cb W (ha.below hW) (hb.below hW) hc hd)
      clear ha hb na nb hc hd
      generalize M.cutsI ys = c at *
      go_enter Try.func3, Try.ntmps3
      go_wp2_with (first | (go_at_call 4; refine (fact_bin w).mono ?_; rintro e w1 ⟨rfl, hb1⟩) | (go_at_call 5; refine (MG.out _ hb1).mono ?_; rintro e w2 ⟨rfl, hb2⟩))
      go_ret
      exact ⟨rfl, below_on hb1 hb2⟩
  · have MG := hide (fun W (hW : Below w.heap.size w W) => Merge_bad1 a b xs ys ca cb W (ha.below hW) hc)
    clear ha hb na nb hc
    generalize M.cutsI xs = c at *
    go_enter Try.func3, Try.ntmps3
    go_wp2_with (first | (go_at_call 4; refine (fact_bin w).mono ?_; rintro e w1 ⟨rfl, hb1⟩) | (go_at_call 5; refine (MG.out _ hb1).mono ?_; rintro e w2 ⟨rfl, hb2⟩))
    go_ret
    exact ⟨rfl, below_on hb1 hb2⟩

end Go.Proofs.Ytpobjlcgamcoiab
