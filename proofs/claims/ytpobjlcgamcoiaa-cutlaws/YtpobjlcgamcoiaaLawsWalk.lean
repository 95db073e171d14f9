/-
  The walk of the law CutLaws: for every list and every two numbers it returns true.
-/
import Derived.Test.YtpobjlcgamcoiaaGood
import Derived.BigQuiet
import Derived.Deep.QuietTactic
namespace Go.Proofs.Ytpobjlcgamcoiaa
open Go.ChangeShapes Go.WideShapes Go.ChangeAt Go.RowKit Go.Shelf Go.Lib Go.Sort
set_option linter.unusedVariables false

set_option maxHeartbeats 1000000 in
set_option maxRecDepth 10000 in
theorem laws_err (a : Option Addr) (xs : List Int) (ca : Nat) (m x : Int) (c : Int) (w : World) (ha : Rd w a xs)
    (H : ∀ W, Below w.heap.size w W → Calls Try.prog 21 #[.slice a xs.length ca, .int .i64 m] W fun e w' => e = .returned (.tuple #[.slice none 0 0, .iface 23 (.int .i64 c)]) ∧ Below W.heap.size W w') :
    Calls Try.prog 7 #[.slice a xs.length ca, .int .i64 m, .int .i64 x] w fun e w' => e = .returned (.bool true) ∧ Below w.heap.size w w' := by
  have HH := hide H
  clear H ha
  go_enter Try.func7, Try.ntmps7
  go_wp2_with fail
  refine (fact_cuts w).mono ?_
  rintro e w1 ⟨g, og, cg, rfl, hg, hb1⟩
  go_wp2_with fail
  refine (HH.out w1 hb1).mono ?_
  rintro e w2 ⟨rfl, hb2⟩
  go_wp2
  go_ret
  exact ⟨rfl, below_on hb1 hb2⟩

theorem sum_small {N : List Int} {c n : Nat} (h : ∀ j, 0 ≤ N.getD j 0 ∧ N.getD j 0 ≤ (n : Int)) (hl : N.length = c + 1) (hc : c ≤ 60) (hn : n ≤ 1000) : ∀ j, -1000000 ≤ (N.take j).sum ∧ (N.take j).sum ≤ 1000000 := by
  intro j
  have key : ∀ k, k ≤ N.length → 0 ≤ (N.take k).sum ∧ (N.take k).sum ≤ 1000 * (k : Int) := by
    intro k
    induction k with
    | zero => intro _; simp
    | succ k ih =>
      intro hk
      have h1 := ih (by omega)
      have h2 := h k
      rw [List.getD, List.getElem?_eq_getElem (show k < N.length by omega)] at h2
      have h3 : 0 ≤ N[k] ∧ N[k] ≤ (n : Int) := h2
      rw [← M.sum_succ N k (by omega)]
      omega
  by_cases hj : j ≤ N.length
  · have := key j hj; omega
  · have := key N.length (Nat.le_refl _)
    rw [List.take_of_length_le (by omega)]
    rw [List.take_length] at this
    omega

set_option maxHeartbeats 8000000 in
set_option maxRecDepth 10000 in
theorem laws_good (a : Option Addr) (xs : List Int) (ca m : Nat) (x : Int) (w : World) (ha : Rd w a xs) (hm1 : 1 ≤ m) (hm : m ≤ 60) (C : List Int)
    (H : ∀ W, Below w.heap.size w W → Calls Try.prog 21 #[.slice a xs.length ca, .int .i64 m] W fun e w' => ∃ ac cc, e = .returned (.tuple #[.slice ac C.length cc, .nilIface]) ∧ Rd w' ac C ∧ (ac = none → cc = 0) ∧ Below W.heap.size W w')
    (hC : M.cutsI C = 0) (hCm : C.length ≤ m) (hv : M.valsI xs = 0)
    (hin : ∀ i (h : i < C.length), xs.any (fun y => y == C[i]) = true) (hless : ∀ i (h : i < C.length), xs.any (fun y => decide (y < C[i])) = true)
    (hfirst : 0 < xs.length → 1 ≤ (M.cntI C xs xs.length).getD 0 0) :
    Calls Try.prog 7 #[.slice a xs.length ca, .int .i64 m, .int .i64 x] w fun e w' => e = .returned (.bool true) ∧ Below w.heap.size w w' := by
  have hx1000 : xs.length ≤ 1000 := ((M.vals_ok xs).1 hv).1
  have HH := hide H
  have HA := hide ha
  have HC := hide hC
  have HI := hide hin
  have HL := hide hless
  have HF := hide hfirst
  have HV := hide hv
  clear H ha hC hin hless hfirst hv
  have d1 : decide ((m : Int) < (C.length : Int)) = false := decide_eq_false (by omega)
  go_enter Try.func7, Try.ntmps7
  go_wp2_with fail
  refine (fact_cuts w).mono ?_
  rintro e w1 ⟨g, og, cg, rfl, hg, hb1⟩
  go_wp2_with fail
  refine (HH.out w1 hb1).mono ?_
  rintro e w2 ⟨ac, cc, rfl, hrc, hnc, hb2⟩
  have hb2' := below_on hb1 hb2
  have RC := hide hrc
  have NC := hide hnc
  clear hrc hnc hg HH hb1 hb2
  have CK := hide (check_any ac C cc w2 RC.out)
  rw [err_nil HC.out] at CK
  go_wp2_with (go_at_call 22; refine CK.out.mono ?_; rintro e w3 ⟨rfl, hb3⟩)
  go_loopw [11] (fun s wr => ∃ i : Nat, i ≤ C.length ∧ s = .int .i64 i ∧ Below w2.heap.size w2 wr) (fun s _ => C.length - (intOf s).toNat)
  case atStart => exact ⟨0, Nat.zero_le _, rfl, hb3⟩
  case round =>
    clear CK hb3
    obtain ⟨i, hi, rfl, hbl⟩ := hrel
    by_cases hlt : i < C.length
    · obtain ⟨bc, oc, rfl, hbc, hcc⟩ := RC.out.2 (by intro e; subst e; simp at hlt)
      have hxn : xs ≠ [] := by intro e; subst e; have := HI.out i hlt; simp at this
      obtain ⟨bx, ox, rfl, hbx, hcx⟩ := HA.out.2 hxn
      have cI := Rd.at hcc i hlt
      have AI := hide (HI.out i hlt)
      have AL := hide (HL.out i hlt)
      generalize C[i] = y at *
      have CI : Hid (∀ W, Below w2.heap.size w2 W → W.cell? ⟨bc, oc + i, none⟩ = some (.int .i64 y)) := fun W hW => (hW.cell (p := ⟨bc, oc + i, none⟩) hbc).trans cI
      have CX : Hid (∀ W, Below w2.heap.size w2 W → ∀ k (h : k < xs.length), W.cell? ⟨bx, ox + k, none⟩ = some (.int .i64 xs[k])) := fun W hW k h => ((below_on hb2' hW).cell (p := ⟨bx, ox + k, none⟩) hbx).trans (Rd.at hcx k h)
      clear cI hcc hcx hxn
      go_wp2
      go_loopw [12, 13, 14] (fun p q s wt => ∃ k : Nat, k ≤ xs.length ∧ s = .int .i64 k ∧ p = .bool (anyTo (fun z => z == y) xs k) ∧ q = .bool (anyTo (fun z => decide (z < y)) xs k) ∧ Below w2.heap.size w2 wt) (fun _ _ s _ => xs.length - (intOf s).toNat)
      case atStart => exact ⟨0, Nat.zero_le _, rfl, by unfold anyTo; simp, by unfold anyTo; simp, hbl⟩
      case round =>
        obtain ⟨k, hk, rfl, rfl, rfl, hbt⟩ := hrel
        by_cases hkl : k < xs.length
        · have c1 := CI.out _ hbt
          have c2 := CX.out _ hbt k hkl
          have N1 := hide (any_succ (fun z => z == y) xs k hkl)
          have N2 := hide (any_succ (fun z => decide (z < y)) xs k hkl)
          generalize anyTo (fun z => z == y) xs k = P at *
          generalize anyTo (fun z => decide (z < y)) xs k = Q at *
          generalize xs[k] = z at *
          cases P <;> cases Q
          all_goals
            go_wp2
            go_quiet (fail)
            go_wp2
            go_quiet (fail)
            go_wp2
            go_roundw
            case rel => exact ⟨k + 1, by omega, by go_num, by rw [N1.out]; simp, by rw [N2.out]; simp, below_drew hbt _ hbt.size⟩
            case measure => simp [intOf]; omega
        · have e1 := any_end (fun z => z == y) xs k (by omega)
          have e2 := any_end (fun z => decide (z < y)) xs k (by omega)
          rw [AI.out] at e1
          rw [AL.out] at e2
          rw [e1, e2]
          clear e1 e2
          go_wp2
          go_roundw
          case rel => exact ⟨i + 1, by omega, by go_num, hbt⟩
          case measure => simp [intOf]; omega
    · have CT := hide (Count_ok ac a C xs cc ca _ (RC.out.below hbl) (HA.out.below (below_on hb2' hbl)) HC.out HV.out)
      have dC : decide ((i : Int) < (C.length : Int)) = false := decide_eq_false (by omega)
      clear HI HL hi dC
      go_wp2_with fail
      refine CT.out.mono ?_
      rintro e w4 ⟨gn, rfl, hown, hb4⟩
      go_wp2
      have hb4' := below_on hbl hb4
      have NL := hide (M.cnt_len C xs xs.length)
      have OA := hide (own_at hown (M.cnt_len C xs xs.length))
      have NS := hide (M.cnt_sum C xs xs.length)
      have NB := hide (M.cnt_bd C xs xs.length)
      have l60 : C.length ≤ 60 := by omega
      clear CT hown hb4 hbl
      generalize M.cntI C xs xs.length = N at *
      have SB : Hid (∀ j, -1000000 ≤ (N.take j).sum ∧ (N.take j).sum ≤ 1000000) := sum_small NB.out NL.out l60 hx1000
      go_loop [17, 18] (fun s t => ∃ j : Nat, j ≤ C.length + 1 ∧ t = .int .i64 j ∧ s = .int .i64 (N.take j).sum) (fun _ t => C.length + 1 - (intOf t).toNat)
      case atStart => exact ⟨0, Nat.zero_le _, rfl, by simp⟩
      case round =>
        obtain ⟨j, hj, rfl, rfl⟩ := hrel
        by_cases hjl : j < C.length + 1
        · have hjN : j < N.length := by rw [NL.out]; exact hjl
          have cj := OA.out j hjN
          have S1 := hide (M.sum_succ N j hjN)
          have s1 := SB.out j
          have s2 := SB.out (j + 1)
          rw [← S1.out] at s2
          generalize N[j] = z at *
          generalize (N.take j).sum = s at *
          go_wp2
          go_round
          case rel => exact ⟨j + 1, by omega, by go_num, by rw [← S1.out]⟩
          case measure => simp [intOf]; omega
        · have e : (N.take j).sum = (xs.length : Int) := by rw [List.take_of_length_le (by rw [NL.out]; omega)]; exact NS.out
          rw [e]
          clear e
          have c0 := OA.out 0 (by rw [NL.out]; omega)
          have f0 : 0 < xs.length → 1 ≤ N[0]'(by rw [NL.out]; omega) := fun h => by
            have := HF.out h
            rw [List.getD, List.getElem?_eq_getElem (show 0 < N.length by rw [NL.out]; omega)] at this
            exact this
          generalize N[0]'(by rw [NL.out]; omega) = n0 at *
          have F0 := hide f0
          clear f0 HF SB OA NS NB NL HV hm1 hm hCm
          have BB := hide (fun W (hW : Below w2.heap.size w2 W) => RC.out.below hW)
          have g0 : (0 < xs.length ∧ 1 ≤ n0) ∨ xs.length = 0 := by
            rcases Nat.eq_zero_or_pos xs.length with h | h
            · exact .inr h
            · exact .inl ⟨h, F0.out h⟩
          clear F0
          cases hox : M.outI x with
          | true =>
            have B := hide (Bin_out ac C cc x w4 (RC.out.below hb4') HC.out hox)
            have xo := M.out_true hox
            clear hox
            rcases g0 with ⟨g1, g2⟩ | g1
            · have e1 : decide ((0 : Int) < (xs.length : Int)) = true := decide_eq_true (by omega)
              have e2 : decide (n0 < 1) = false := decide_eq_false (by omega)
              clear g2 e1
              rcases xo with h1 | h1
              · have t1 : decide (x < -1000000) = true := decide_eq_true h1
                clear h1
                go_wp2_with (go_at_call 24; refine B.out.mono ?_; rintro e w5 ⟨rfl, hb5⟩; have k5 := below_on hb4' hb5)
                all_goals go_ret
                all_goals exact ⟨rfl, below_on hb2' k5⟩
              · have t1 : decide (x < -1000000) = false := decide_eq_false (by omega)
                have t2 : decide (1000000 < x) = true := decide_eq_true h1
                clear h1
                go_wp2_with (go_at_call 24; refine B.out.mono ?_; rintro e w5 ⟨rfl, hb5⟩; have k5 := below_on hb4' hb5)
                all_goals go_ret
                all_goals exact ⟨rfl, below_on hb2' k5⟩
            · have e1 : xs = [] := List.length_eq_zero_iff.1 g1
              clear g1
              subst e1
              rcases xo with h1 | h1
              · have t1 : decide (x < -1000000) = true := decide_eq_true h1
                clear h1
                go_wp2_with (go_at_call 24; refine B.out.mono ?_; rintro e w5 ⟨rfl, hb5⟩; have k5 := below_on hb4' hb5)
                all_goals go_ret
                all_goals exact ⟨rfl, below_on hb2' k5⟩
              · have t1 : decide (x < -1000000) = false := decide_eq_false (by omega)
                have t2 : decide (1000000 < x) = true := decide_eq_true h1
                clear h1
                go_wp2_with (go_at_call 24; refine B.out.mono ?_; rintro e w5 ⟨rfl, hb5⟩; have k5 := below_on hb4' hb5)
                all_goals go_ret
                all_goals exact ⟨rfl, below_on hb2' k5⟩
          | false =>
            have B := hide (Bin_ok ac C cc x w4 (RC.out.below hb4') HC.out hox)
            have hk := M.bin_le C x
            have EN := hide (fun W (hW : Below w2.heap.size w2 W) => Ends_ok ac C cc (M.binI C x) W (RC.out.below hW) HC.out hk)
            have lo := M.low_le C x ((M.cuts_ok C).1 HC.out).2.2 hox
            have hi2 := M.le_high C x ((M.cuts_ok C).1 HC.out).2.2 hox
            have b1 : decide (M.lowI C (M.binI C x) ≤ x) = true := decide_eq_true lo
            have b2 : decide (x ≤ M.highI C (M.binI C x)) = true := decide_eq_true hi2
            clear lo hi2 hox
            generalize M.lowI C (M.binI C x) = low at *
            generalize M.highI C (M.binI C x) = high at *
            generalize M.binI C x = kk at *
            have MG := hide (fun W (hW : Below w2.heap.size w2 W) => Merge_self ac C cc W (RC.out.below hW) NC.out HC.out)
            have IN := hide (fun am cm W (h1 : Rd W am C) (hW : Below w2.heap.size w2 W) => Ints_same am ac C cm cc W h1 (RC.out.below hW))
            rcases g0 with ⟨g1, g2⟩ | g1
            · have e1 : decide ((0 : Int) < (xs.length : Int)) = true := decide_eq_true (by omega)
              have e2 : decide (n0 < 1) = false := decide_eq_false (by omega)
              clear g2 e1
              go_wp2_with (first
                | (go_at_call 24; refine B.out.mono ?_; rintro e w5 ⟨rfl, hb5⟩; have k5 := below_on hb4' hb5)
                | (go_at_call 25; refine (EN.out _ k5).mono ?_; rintro e w6 ⟨rfl, hb6⟩; have k6 := below_on k5 hb6)
                | (go_at_call 26; refine (MG.out _ k6).mono ?_; rintro e w7 ⟨am, cm, rfl, hrm, hb7⟩; have k7 := below_on k6 hb7; have RM := hide hrm; clear hrm)
                | (go_at_call 27; refine (IN.out am cm _ RM.out k7).mono ?_; rintro e w8 ⟨rfl, hb8⟩))
              all_goals go_ret
              all_goals exact ⟨rfl, below_on hb2' (below_on k7 hb8)⟩
            · have e1 : xs = [] := List.length_eq_zero_iff.1 g1
              clear g1
              subst e1
              go_wp2_with (first
                | (go_at_call 24; refine B.out.mono ?_; rintro e w5 ⟨rfl, hb5⟩; have k5 := below_on hb4' hb5)
                | (go_at_call 25; refine (EN.out _ k5).mono ?_; rintro e w6 ⟨rfl, hb6⟩; have k6 := below_on k5 hb6)
                | (go_at_call 26; refine (MG.out _ k6).mono ?_; rintro e w7 ⟨am, cm, rfl, hrm, hb7⟩; have k7 := below_on k6 hb7; have RM := hide hrm; clear hrm)
                | (go_at_call 27; refine (IN.out am cm _ RM.out k7).mono ?_; rintro e w8 ⟨rfl, hb8⟩))
              all_goals go_ret
              all_goals exact ⟨rfl, below_on hb2' (below_on k7 hb8)⟩

theorem laws_walk (a : Option Addr) (xs : List Int) (ca : Nat) (m x : Int) (w : World) (ha : Rd w a xs) :
    Calls Try.prog 7 #[.slice a xs.length ca, .int .i64 m, .int .i64 x] w fun e w' => e = .returned (.bool true) ∧ Below w.heap.size w w' := by
  by_cases hm : m < 1 ∨ 60 < m
  · exact laws_err a xs ca m x 1 w ha (fun W hW => (Cuts_many a xs ca m W hm).mono fun e w' ⟨h1, h2⟩ => ⟨h1, by rw [h2]; exact Below.refl _ _⟩)
  · by_cases hv : M.valsI xs = 0
    · obtain ⟨n, rfl⟩ : ∃ n : Nat, m = n := ⟨m.toNat, by omega⟩
      have hlen : (M.cutsOfI xs n).length ≤ n := M.step_len _ _ _
      by_cases hx : xs = []
      · subst hx
        refine laws_good a [] ca n x w ha (by omega) (by omega) (M.cutsOfI [] n) (fun W hW => Cuts_good a [] ca n W (ha.below hW) (by omega) (by omega) hv) (by rw [cutsOf_nil]; rfl) hlen hv ?_ ?_ (fun h => by simp at h)
        · intro i h; rw [cutsOf_nil] at h; simp at h
        · intro i h; rw [cutsOf_nil] at h; simp at h
      · have hp : 0 < xs.length := List.length_pos_iff.2 hx
        refine laws_good a xs ca n x w ha (by omega) (by omega) (M.cutsOfI xs n) (fun W hW => Cuts_good a xs ca n W (ha.below hW) (by omega) (by omega) hv) (M.cutsOf_ok xs n hp hv (by omega)) hlen hv ?_ ?_ (fun _ => M.cuts_first xs n hp)
        · intro i h
          exact List.any_eq_true.2 ⟨_, (M.cutsOf_mem xs n hp _ (List.getElem_mem h)).1, by simp⟩
        · intro i h
          exact List.any_eq_true.2 ⟨_, M.least_mem xs hp, decide_eq_true (M.cutsOf_mem xs n hp _ (List.getElem_mem h)).2⟩
    · exact laws_err a xs ca m x (M.valsI xs) w ha (fun W hW => Cuts_bad a xs ca m W (ha.below hW) (by omega) (by omega) hv)

end Go.Proofs.Ytpobjlcgamcoiaa
