/-
  The walk of the law CutBins: for every three lists and every three numbers it returns true; the variable errors.errorType holds the handle of the type error.
-/
import Derived.Test.YtpobjlcgamcoiaaDoorAny
import Derived.Deep.Cut
import Derived.Deep.CutRange
import Derived.BigQuiet
import Derived.Deep.QuietTactic
namespace Go.Proofs.YtpobjlcgamcoiaaDoor
open Go.ChangeShapes Go.WideShapes Go.ChangeAt Go.RowKit Go.Shelf Go.Lib Go.Sort
set_option linter.unusedVariables false

theorem own_rdn {w : World} {base : Nat} {v : Value} {F : List Int} (h : w.ownsRow base 3 1 v F.length (F.map (Value.int .i64))) :
    ∃ a cap, v = .slice a F.length cap ∧ Rd w a F ∧ (a = none → cap = 0) := by
  rcases h.2 with ⟨hv, h0⟩ | ⟨g, cap, cur, hv, hb, hg, h1, h2, h3, h4⟩
  · have e : F = [] := List.length_eq_zero_iff.1 h0
    subst e
    exact ⟨none, 0, hv, ⟨Nat.zero_le _, fun h => absurd rfl h⟩, fun _ => rfl⟩
  · obtain ⟨a, c, e1, e2, e3⟩ := own_rd h
    refine ⟨a, c, e1, e2, fun ha => ?_⟩
    rw [hv] at e1
    cases e1
    cases ha
theorem U_push (S : List Int) (j : Nat) (h : j < S.length) (hk : j = 0 ∨ S.toArray[j]! ≠ S.toArray[j - 1]!) : Lib.compactUpTo S.toArray (j + 1) = Lib.compactUpTo S.toArray j ++ [S[j]] := by
  rw [Lib.compactUpTo_succ, if_pos (by simpa [Lib.keeps] using hk), M.at_toArray S j h]
theorem U_first (S : List Int) (h : 0 < S.length) : Lib.compactUpTo S.toArray (0 + 1) = Lib.compactUpTo S.toArray 0 ++ [S[0]] := U_push S 0 h (.inl rfl)
theorem U_next (S : List Int) (i : Nat) (h : i + 1 < S.length) (hn : S[i + 1] ≠ S[i]) : Lib.compactUpTo S.toArray (i + 1 + 1) = Lib.compactUpTo S.toArray (i + 1) ++ [S[i + 1]] :=
  U_push S (i + 1) h (.inr (by rw [M.at_toArray S (i + 1) h, Nat.add_sub_cancel, M.at_toArray S i (by omega)]; exact hn))
theorem U_stay (S : List Int) (i : Nat) (h : i + 1 < S.length) (he : S[i + 1] = S[i]) : Lib.compactUpTo S.toArray (i + 1 + 1) = Lib.compactUpTo S.toArray (i + 1) := by
  rw [Lib.compactUpTo_succ, Lib.keeps_neg (by omega) (by rw [M.at_toArray S (i + 1) h, Nat.add_sub_cancel, M.at_toArray S i (by omega)]; exact he)]
  simp
theorem U_len (S : List Int) (j : Nat) : (Lib.compactUpTo S.toArray j).length ≤ j := by
  unfold Lib.compactUpTo
  rw [List.length_map]
  exact Nat.le_trans (List.length_filter_le _ _) (by simp)
theorem M.F2a (l : List Int) (m : Int) : ((m < 1 ∨ 60 < m) → M.f2 l m = 1) ∧ (¬ (m < 1 ∨ 60 < m) → M.f2 l m = M.valsI l) := by
  constructor
  · intro h; unfold M.f2; rw [if_pos h]
  · intro h; unfold M.f2; rw [if_neg h]
theorem M.C2a (l : List Int) (m : Int) (h : M.f2 l m ≠ 0) : M.c2 l m = [] := by unfold M.c2; rw [if_neg h]
theorem M.F3a (a : List Int) (x : Int) : (M.cutsI a ≠ 0 → M.f3 a x = M.cutsI a) ∧ (M.cutsI a = 0 → M.outI x = true → M.f3 a x = 1) ∧ (M.cutsI a = 0 → M.outI x = false → M.f3 a x = 0) := by
  unfold M.f3
  refine ⟨fun h => if_neg h, fun h ho => ?_, fun h ho => ?_⟩
  · rw [if_pos h, ho]; rfl
  · rw [if_pos h, ho]; rfl
theorem M.N3a (a : List Int) (x : Int) : (M.f3 a x ≠ 0 → M.n3 a x = 0) ∧ (M.f3 a x = 0 → M.n3 a x = (M.binI a x : Nat)) := by
  unfold M.n3; exact ⟨fun h => if_neg h, fun h => if_pos h⟩
theorem M.F4a (a : List Int) (k : Int) : (M.cutsI a ≠ 0 → M.f4 a k = M.cutsI a) ∧ (M.cutsI a = 0 → (k < 0 ∨ (a.length : Int) < k) → M.f4 a k = 1) ∧ (M.cutsI a = 0 → ¬ (k < 0 ∨ (a.length : Int) < k) → M.f4 a k = 0) := by
  unfold M.f4
  refine ⟨fun h => if_neg h, fun h ho => ?_, fun h ho => ?_⟩
  · rw [if_pos h, if_pos ho]
  · rw [if_pos h, if_neg ho]
theorem M.N4a (a : List Int) (k : Int) : (M.f4 a k ≠ 0 → M.lo4 a k = 0 ∧ M.hi4 a k = 0) ∧ (M.f4 a k = 0 → M.lo4 a k = M.lowI a k.toNat ∧ M.hi4 a k = M.highI a k.toNat ∧ 0 ≤ k ∧ k ≤ (a.length : Int)) := by
  refine ⟨fun h => ?_, fun h => ?_⟩
  · unfold M.lo4 M.hi4; exact ⟨if_neg h, if_neg h⟩
  · refine ⟨by unfold M.lo4; rw [if_pos h], by unfold M.hi4; rw [if_pos h], ?_⟩
    have hc : M.cutsI a = 0 := by
      by_cases hc : M.cutsI a = 0
      · exact hc
      · rw [(M.F4a a k).1 hc] at h; exact absurd h hc
    by_cases hk : k < 0 ∨ (a.length : Int) < k
    · rw [(M.F4a a k).2.1 hc hk] at h; cases h
    · omega
theorem M.F5a (a l : List Int) : (M.cutsI a ≠ 0 → M.f5 a l = M.cutsI a) ∧ (M.cutsI a = 0 → M.f5 a l = M.valsI l) := by
  unfold M.f5; exact ⟨fun h => if_neg h, fun h => if_pos h⟩
theorem M.C5a (a l : List Int) (h : M.f5 a l ≠ 0) : M.c5 a l = [] := by unfold M.c5; rw [if_neg h]
theorem M.F6a (a b : List Int) : (M.cutsI a ≠ 0 → M.f6 a b = M.cutsI a) ∧ (M.cutsI a = 0 → M.f6 a b = M.cutsI b) := by
  unfold M.f6; exact ⟨fun h => if_neg h, fun h => if_pos h⟩

set_option maxHeartbeats 8000000 in
set_option maxRecDepth 10000 in
theorem bins_core (a b c : Option Addr) (xs ys ls : List Int) (ca cb cc : Nat) (m x k : Int) (w : World) (e v ey F2 F3 N3 F4 LO HI F5 F6 G6 : Int) (C2 C5 C6 : List Int) (o : Bool)
    (HA : Hid (∀ W, Below w.heap.size w W → Rd W a xs)) (HB : Hid (∀ W, Below w.heap.size w W → Rd W b ys)) (HC : Hid (∀ W, Below w.heap.size w W → Rd W c ls))
    (NA : Hid (a = none → ca = 0)) (NB : Hid (b = none → cb = 0)) (ml : xs.length ≤ 9223372036854775807)
    (R4 : Hid (∀ W, Below w.heap.size w W → Calls Tryd.prog 4 #[.slice a xs.length ca] W fun r w' => r = .returned (.int .i64 e) ∧ Below W.heap.size W w'))
    (R6 : Hid (∀ W, Below w.heap.size w W → Calls Tryd.prog 6 #[.slice a xs.length ca] W fun r w' => r = .returned (errV e) ∧ Below W.heap.size W w'))
    (ER : Hid (∀ c W, Below w.heap.size w W → Calls Tryd.prog 5 #[errV c, .int .i64 c] W fun r w' => r = .returned (.bool true) ∧ Below W.heap.size W w'))
    (RV : Hid (∀ W, Below w.heap.size w W → Calls Tryd.prog 7 #[.slice c ls.length cc] W fun r w' => r = .returned (.int .i64 v) ∧ w' = W))
    (CU : Hid (∀ W, Below w.heap.size w W → Calls Tryd.prog 9 #[.slice c ls.length cc, .int .i64 m] W fun r w' => ∃ ag cg, r = .returned (.tuple #[.slice ag C2.length cg, errV F2]) ∧ Rd w' ag C2 ∧ Below W.heap.size W w'))
    (RC : Hid (F2 = 0 → ∀ W, Below w.heap.size w W → Calls Tryd.prog 8 #[.slice c ls.length cc, .int .i64 m] W fun r w' => ∃ ag cg, r = .returned (.slice ag C2.length cg) ∧ Rd w' ag C2 ∧ Below W.heap.size W w'))
    (F2a : Hid (((m < 1 ∨ 60 < m) → F2 = 1) ∧ (¬ (m < 1 ∨ 60 < m) → F2 = v))) (C2a : Hid (F2 ≠ 0 → C2 = []))
    (BI : Hid (∀ W, Below w.heap.size w W → Calls Tryd.prog 13 #[.slice a xs.length ca, .int .i64 x] W fun r w' => r = .returned (.tuple #[.int .i64 N3, errV F3]) ∧ Below W.heap.size W w'))
    (RB : Hid (∀ z W, Below w.heap.size w W → Calls Tryd.prog 12 #[.slice a xs.length ca, .int .i64 z] W fun r w' => r = .returned (.int .i64 (M.binI xs z : Nat)) ∧ w' = W))
    (RX : Hid (∀ W, Calls Tryd.prog 11 #[.int .i64 x] W fun r w' => r = .returned (.bool (!o)) ∧ w' = W))
    (F3a : Hid ((e ≠ 0 → F3 = e) ∧ (e = 0 → o = true → F3 = 1) ∧ (e = 0 → o = false → F3 = 0))) (N3a : Hid ((F3 ≠ 0 → N3 = 0) ∧ (F3 = 0 → N3 = (M.binI xs x : Nat))))
    (EN : Hid (∀ W, Below w.heap.size w W → Calls Tryd.prog 14 #[.slice a xs.length ca, .int .i64 k] W fun r w' => r = .returned (.tuple #[.int .i64 LO, .int .i64 HI, errV F4]) ∧ Below W.heap.size W w'))
    (F4a : Hid ((e ≠ 0 → F4 = e) ∧ (e = 0 → (k < 0 ∨ (xs.length : Int) < k) → F4 = 1) ∧ (e = 0 → ¬ (k < 0 ∨ (xs.length : Int) < k) → F4 = 0)))
    (N4a : Hid ((F4 ≠ 0 → LO = 0 ∧ HI = 0) ∧ (F4 = 0 → LO = M.lowI xs k.toNat ∧ HI = M.highI xs k.toNat ∧ 0 ≤ k ∧ k ≤ (xs.length : Int))))
    (OB : Hid (F4 = 0 → ∀ z ∈ xs, -1000000 ≤ z ∧ z ≤ 1000000))
    (CT : Hid (∀ W, Below w.heap.size w W → Calls Tryd.prog 15 #[.slice a xs.length ca, .slice c ls.length cc] W fun r w' => ∃ ag cg, r = .returned (.tuple #[.slice ag C5.length cg, errV F5]) ∧ Rd w' ag C5 ∧ Below W.heap.size W w'))
    (F5a : Hid ((e ≠ 0 → F5 = e) ∧ (e = 0 → F5 = v))) (C5a : Hid (F5 ≠ 0 → C5 = []))
    (C5b : Hid (F5 = 0 → C5 = M.cntI xs ls ls.length ∧ xs.length ≤ 60 ∧ ls.length ≤ 1000))
    (MG : Hid (∀ W, Below w.heap.size w W → Calls Tryd.prog 17 #[.slice a xs.length ca, .slice b ys.length cb] W fun r w' => ∃ ag cg, r = .returned (.tuple #[.slice ag C6.length cg, errV G6]) ∧ Rd w' ag C6 ∧ Below W.heap.size W w'))
    (F6a : Hid ((e ≠ 0 → F6 = e) ∧ (e = 0 → F6 = ey)))
    (RY : Hid (∀ W, Below w.heap.size w W → Calls Tryd.prog 4 #[.slice b ys.length cb] W fun r w' => r = .returned (.int .i64 ey) ∧ Below W.heap.size W w'))
    (G6a : Hid (F6 ≠ 0 → G6 = F6 ∧ C6 = [])) (G6b : Hid (F6 = 0 → 60 < (M.mergeI xs ys).length → G6 = 4 ∧ C6 = []))
    (G6c : Hid (F6 = 0 → ¬ 60 < (M.mergeI xs ys).length → G6 = 0 ∧ C6 = M.mergeI xs ys)) (YL : Hid (F6 = 0 → xs.length ≤ 60 ∧ ys.length ≤ 60)) :
    Calls Tryd.prog 3 #[.slice a xs.length ca, .slice b ys.length cb, .slice c ls.length cc, .int .i64 m, .int .i64 x, .int .i64 k] w fun e w' => e = .returned (.bool true) ∧ Below w.heap.size w w' := by
  have B0 := hide (Below.refl w.heap.size w)
  go_enter Tryd.func3, Tryd.ntmps3
  go_upto_region 5 with (first
    | (go_at_call 4; refine (R4.out _ B0.out).mono ?_; rintro e w1 ⟨rfl, hb1⟩)
    | (go_at_call 6; refine (R6.out _ hb1).mono ?_; rintro e w2 ⟨rfl, hb2⟩; have k2 := below_on hb1 hb2)
    | (go_at_call 5; refine (ER.out _ _ k2).mono ?_; rintro e w3 ⟨rfl, hb3⟩; have k3 := below_on k2 hb3)
    | (go_at_call 7; refine (RV.out _ k3).mono ?_; rintro e w4 ⟨rfl, rfl⟩))
  have K := hide k3
  clear hb1 hb2 hb3 k2 k3 R4 R6 RV
  go_cut [57] from 52 to 57 (fun s wx => ∃ q : Bool, s = .bool q ∧ Hid (q = decide (m < 1 ∨ 60 < m)) ∧ wx = w4)
  case first =>
    by_cases h1 : m < 1
    · have t1 : decide (m < 1) = true := decide_eq_true h1
      have E : Hid (true = decide (m < 1 ∨ 60 < m)) := (decide_eq_true (.inl h1)).symm
      clear h1
      go_wp2
      go_meet
      case rel => exact ⟨true, rfl, E, rfl⟩
    · have t1 : decide (m < 1) = false := decide_eq_false h1
      have E : Hid (decide (60 < m) = decide (m < 1 ∨ 60 < m)) := by unfold Hid; simp [h1]
      clear h1
      go_wp2
      go_meet
      case rel => exact ⟨_, rfl, E, rfl⟩
  case rest =>
    obtain ⟨q, rfl, HQ, rfl⟩ := hcut
    go_upto_if 57 with fail
    go_cut [16] from 57 to 57 (fun s wx => ∃ f1 : Int, s = .int .i64 f1 ∧ Hid (((m < 1 ∨ 60 < m) → f1 = 1) ∧ (¬ (m < 1 ∨ 60 < m) → f1 = 0)) ∧ wx = wc)
    case first =>
      cases q with
      | true =>
        have hP : m < 1 ∨ 60 < m := of_decide_eq_true HQ.out.symm
        have HP := hide hP
        clear hP
        go_wp2
        go_meet
        case rel => exact ⟨1, rfl, ⟨fun _ => rfl, fun h => absurd HP.out h⟩, rfl⟩
      | false =>
        have hP : ¬ (m < 1 ∨ 60 < m) := of_decide_eq_false HQ.out.symm
        have HP := hide hP
        clear hP
        go_wp2
        go_meet
        case rel => exact ⟨0, rfl, ⟨fun h => absurd h HP.out, fun _ => rfl⟩, rfl⟩
    case rest =>
      obtain ⟨f1, rfl, HQ1, rfl⟩ := hcut
      clear HQ
      go_upto_if 59 with fail
      go_cut [16] from 58 to 60 (fun s wx => s = .int .i64 F2 ∧ wx = wc)
      case first =>
        by_cases hP : m < 1 ∨ 60 < m
        · have e1 := HQ1.out.1 hP
          have E := hide (F2a.out.1 hP)
          have HP := hide hP
          clear hP
          subst e1
          go_wp2
          go_meet
          case rel => exact ⟨by rw [E.out], rfl⟩
        · have e1 := HQ1.out.2 hP
          have E := hide (F2a.out.2 hP)
          have HP := hide hP
          clear hP
          subst e1
          go_wp2
          go_meet
          case rel => exact ⟨by rw [E.out], rfl⟩
      case rest =>
        obtain ⟨rfl, rfl⟩ := hcut
        clear HQ1 F2a
        go_upto_if 62 with fail
        go_cut [17] from 61 to 65 (fun s wx => ∃ aw cw, s = .slice aw C2.length cw ∧ Hid (Rd wx aw C2) ∧ Hid (Below w.heap.size w wx))
        case first =>
          by_cases hf : F2 = 0
          · have t : (F2 == 0) = true := by rw [beq_iff_eq]; exact hf
            have R := hide (RC.out hf)
            clear hf
            go_wp2_with (go_at_call 8; refine (R.out _ K.out).mono ?_; rintro e w5 ⟨aw, cw, rfl, hr, hb5⟩; have HR := hide hr; have HB5 := hide hb5; clear hr hb5)
            go_meet
            case rel => exact ⟨aw, cw, rfl, HR, below_on K.out HB5.out⟩
          · have t : (F2 == 0) = false := by rw [beq_eq_false_iff_ne]; exact hf
            have E := hide (C2a.out hf)
            clear hf
            go_wp2
            go_meet
            case rel => exact ⟨none, 0, by rw [E.out]; rfl, by rw [E.out]; exact rd_nil _, K⟩
        case rest =>
          obtain ⟨aw, cw, rfl, RW, KW⟩ := hcut
          clear RC C2a K
          go_upto_region 17 with (first
            | (go_at_call 9; refine (CU.out _ KW.out).mono ?_; rintro e w6 ⟨ag, cg, rfl, hrg, hb6⟩; have RG := hide hrg; have B6 := hide hb6; have K6 := hide (below_on KW.out hb6); clear hrg hb6)
            | (go_at_call 5; refine (ER.out F2 _ K6.out).mono ?_; rintro e w7 ⟨rfl, hb7⟩; have B7 := hide hb7; have K7 := hide (below_on K6.out hb7); clear hb7)
            | (go_at_call 10; refine (Ints_same ag aw C2 cg cw _ (RG.out.below B7.out) (RW.out.below (below_on B6.out B7.out))).mono ?_; rintro e w8 ⟨rfl, hb8⟩; have K8 := hide (below_on K7.out hb8); clear hb8)
            | (go_at_call 11; refine (RX.out _).mono ?_; rintro e w9 ⟨rfl, rfl⟩))
          clear CU RW RG B6 B7 K6 K7 RX
          go_cut [86] from 81 to 86 (fun s wx => ∃ q : Bool, s = .bool q ∧ Hid ((e ≠ 0 → q = false) ∧ (e = 0 → q = o)) ∧ wx = w9)
          case first =>
            by_cases he : e = 0
            · have t : (e == 0) = true := by rw [beq_iff_eq]; exact he
              have HE := hide he
              clear he
              cases o with
              | true =>
                go_wp2
                go_meet
                case rel => exact ⟨true, rfl, ⟨fun h => absurd HE.out h, fun _ => rfl⟩, rfl⟩
              | false =>
                go_wp2
                go_meet
                case rel => exact ⟨false, rfl, ⟨fun h => absurd HE.out h, fun _ => rfl⟩, rfl⟩
            · have t : (e == 0) = false := by rw [beq_eq_false_iff_ne]; exact he
              have HE := hide he
              clear he
              go_wp2
              go_meet
              case rel => exact ⟨false, rfl, ⟨fun _ => rfl, fun h => absurd h HE.out⟩, rfl⟩
          case rest =>
            obtain ⟨q, rfl, HQ, rfl⟩ := hcut
            go_upto_if 86 with fail
            go_cut [16] from 86 to 86 (fun s wx => s = .int .i64 F3 ∧ wx = wc)
            case first =>
              by_cases he : e = 0
              · have e1 := HQ.out.2 he
                subst e1
                cases q with
                | true =>
                  have E := hide (F3a.out.2.1 he rfl)
                  clear he
                  go_wp2
                  go_meet
                  case rel => exact ⟨by rw [E.out], rfl⟩
                | false =>
                  have E := hide ((F3a.out.2.2 he rfl).trans he.symm)
                  clear he
                  go_wp2
                  go_meet
                  case rel => exact ⟨by rw [E.out], rfl⟩
              · have e1 := HQ.out.1 he
                subst e1
                have E := hide (F3a.out.1 he)
                clear he
                go_wp2
                go_meet
                case rel => exact ⟨by rw [E.out], rfl⟩
            case rest =>
              obtain ⟨rfl, rfl⟩ := hcut
              clear HQ F3a
              go_upto_if 88 with fail
              go_cut [23] from 87 to 91 (fun s wx => s = .int .i64 N3 ∧ wx = wc)
              case first =>
                by_cases hf : F3 = 0
                · have t : (F3 == 0) = true := by rw [beq_iff_eq]; exact hf
                  have E := hide (N3a.out.2 hf)
                  clear hf
                  go_wp2_with (go_at_call 12; refine (RB.out _ _ K8.out).mono ?_; rintro e w5 ⟨rfl, rfl⟩)
                  go_meet
                  case rel => exact ⟨by rw [E.out], rfl⟩
                · have t : (F3 == 0) = false := by rw [beq_eq_false_iff_ne]; exact hf
                  have E := hide (N3a.out.1 hf)
                  clear hf
                  go_wp2
                  go_meet
                  case rel => exact ⟨by rw [E.out], rfl⟩
              case rest =>
                obtain ⟨rfl, rfl⟩ := hcut
                clear N3a
                go_upto_region 27 with (first
                  | (go_at_call 13; refine (BI.out _ K8.out).mono ?_; rintro e w10 ⟨rfl, hb10⟩; have K10 := hide (below_on K8.out hb10); clear hb10)
                  | (go_at_call 5; refine (ER.out F3 _ K10.out).mono ?_; rintro e w11 ⟨rfl, hb11⟩; have K11 := hide (below_on K10.out hb11); clear hb11))
                clear BI K8 K10
                go_cut [132] from 121 to 132 (fun s wx => ∃ q : Bool, s = .bool q ∧ Hid ((e ≠ 0 → q = false) ∧ (e = 0 → q = decide (k < 0 ∨ (xs.length : Int) < k))) ∧ wx = w11)
                case first =>
                  by_cases he : e = 0
                  · have t : (e == 0) = true := by rw [beq_iff_eq]; exact he
                    have HE := hide he
                    clear he
                    by_cases h1 : k < 0
                    · have t1 : decide (k < 0) = true := decide_eq_true h1
                      have E : Hid (true = decide (k < 0 ∨ (xs.length : Int) < k)) := (decide_eq_true (.inl h1)).symm
                      clear h1
                      go_wp2
                      go_meet
                      case rel => exact ⟨true, rfl, ⟨fun h => absurd HE.out h, fun _ => E⟩, rfl⟩
                    · have t1 : decide (k < 0) = false := decide_eq_false h1
                      have E : Hid (decide ((xs.length : Int) < k) = decide (k < 0 ∨ (xs.length : Int) < k)) := by unfold Hid; simp [h1]
                      clear h1
                      go_wp2
                      go_meet
                      case rel => exact ⟨_, rfl, ⟨fun h => absurd HE.out h, fun _ => E⟩, rfl⟩
                  · have t : (e == 0) = false := by rw [beq_eq_false_iff_ne]; exact he
                    have HE := hide he
                    clear he
                    go_wp2
                    go_meet
                    case rel => exact ⟨false, rfl, ⟨fun _ => rfl, fun h => absurd h HE.out⟩, rfl⟩
                case rest =>
                  obtain ⟨q, rfl, HQ, rfl⟩ := hcut
                  go_upto_if 132 with fail
                  go_cut [16] from 132 to 132 (fun s wx => s = .int .i64 F4 ∧ wx = wc)
                  case first =>
                    by_cases he : e = 0
                    · have e1 := HQ.out.2 he
                      cases q with
                      | true =>
                        have E := hide (F4a.out.2.1 he (of_decide_eq_true e1.symm))
                        clear he e1
                        go_wp2
                        go_meet
                        case rel => exact ⟨by rw [E.out], rfl⟩
                      | false =>
                        have E := hide ((F4a.out.2.2 he (of_decide_eq_false e1.symm)).trans he.symm)
                        clear he e1
                        go_wp2
                        go_meet
                        case rel => exact ⟨by rw [E.out], rfl⟩
                    · have e1 := HQ.out.1 he
                      subst e1
                      have E := hide (F4a.out.1 he)
                      clear he
                      go_wp2
                      go_meet
                      case rel => exact ⟨by rw [E.out], rfl⟩
                  case rest =>
                    obtain ⟨rfl, rfl⟩ := hcut
                    clear HQ F4a
                    go_upto_if 134 with fail
                    go_cut [26, 27] from 133 to 150 (fun s t wx => s = .int .i64 LO ∧ t = .int .i64 HI ∧ wx = wc)
                    case first =>
                      by_cases hf : F4 = 0
                      · have t : (F4 == 0) = true := by rw [beq_iff_eq]; exact hf
                        obtain ⟨e1, e2, k0, k1⟩ := N4a.out.2 hf
                        have OBz := hide (OB.out hf)
                        have HR := hide (HA.out _ K11.out)
                        clear hf N4a OB
                        obtain ⟨n, rfl⟩ : ∃ n : Nat, k = n := ⟨k.toNat, by omega⟩
                        rw [Int.toNat_natCast] at e1 e2
                        have E1 := hide e1
                        have E2 := hide e2
                        clear e1 e2
                        by_cases hlt : n < xs.length
                        · obtain ⟨ba, oa, rfl, hba, hcells⟩ := HR.out.2 (by intro e; subst e; simp at hlt)
                          have h3 : decide ((n : Int) < (xs.length : Int)) = true := decide_eq_true (by omega)
                          have EH := hide (high_some xs n hlt)
                          have bd := OBz.out xs[n] (List.getElem_mem _)
                          rcases n with _ | j
                          · have hck := Rd.at hcells 0 hlt
                            rw [Nat.add_zero] at hck
                            have HCE := hide hcells
                            have h4 : decide ((0 : Int) < ((0 : Nat) : Int)) = false := by simp
                            obtain ⟨y, hy⟩ : ∃ y, xs[0] = y := ⟨_, rfl⟩
                            rw [hy] at hck bd
                            have HY := hide hy
                            clear hy hcells k0 k1
                            go_wp2
                            go_meet
                            case rel => exact ⟨by rw [E1.out, low_zero], by rw [E2.out, EH.out, HY.out], rfl⟩
                          · have hjl : j < xs.length := by omega
                            have hck := Rd.at hcells (j + 1) hlt
                            have hcj := Rd.at hcells j hjl
                            have EL := hide (low_succ xs j hjl)
                            have h4 : decide ((0 : Int) < ((j + 1 : Nat) : Int)) = true := decide_eq_true (by omega)
                            obtain ⟨y, hy⟩ : ∃ y, xs[j + 1] = y := ⟨_, rfl⟩
                            obtain ⟨z, hz⟩ : ∃ z, xs[j] = z := ⟨_, rfl⟩
                            rw [hy] at hck bd
                            rw [hz] at hcj
                            have HY := hide hy
                            have HZ := hide hz
                            clear hy hz hcells k0 k1
                            go_wp2
                            go_meet
                            case rel => exact ⟨by rw [E1.out, EL.out, HZ.out], by rw [E2.out, EH.out, HY.out], rfl⟩
                        · have h3 : decide ((n : Int) < (xs.length : Int)) = false := decide_eq_false (by omega)
                          have EH := hide (high_last xs n hlt)
                          rcases n with _ | j
                          · have h4 : decide ((0 : Int) < ((0 : Nat) : Int)) = false := by simp
                            clear k0 k1
                            go_wp2
                            go_meet
                            case rel => exact ⟨by rw [E1.out, low_zero], by rw [E2.out, EH.out], rfl⟩
                          · have hjl : j < xs.length := by omega
                            obtain ⟨ba, oa, rfl, hba, hcells⟩ := HR.out.2 (by intro e; subst e; simp at hjl)
                            have hcj := Rd.at hcells j hjl
                            have EL := hide (low_succ xs j hjl)
                            have h4 : decide ((0 : Int) < ((j + 1 : Nat) : Int)) = true := decide_eq_true (by omega)
                            obtain ⟨z, hz⟩ : ∃ z, xs[j] = z := ⟨_, rfl⟩
                            rw [hz] at hcj
                            have HZ := hide hz
                            clear hz hcells k0 k1
                            go_wp2
                            go_meet
                            case rel => exact ⟨by rw [E1.out, EL.out, HZ.out], by rw [E2.out, EH.out], rfl⟩
                      · have t : (F4 == 0) = false := by rw [beq_eq_false_iff_ne]; exact hf
                        have E := hide (N4a.out.1 hf)
                        clear hf
                        go_wp2
                        go_meet
                        case rel => exact ⟨by rw [E.out.1], by rw [E.out.2], rfl⟩
                    case rest =>
                      obtain ⟨rfl, rfl, rfl⟩ := hcut
                      clear N4a OB
                      go_upto_if 163 with (first
                        | (go_at_call 14; refine (EN.out _ K11.out).mono ?_; rintro e w12 ⟨rfl, hb12⟩; have K12 := hide (below_on K11.out hb12); clear hb12)
                        | (go_at_call 5; refine (ER.out F4 _ K12.out).mono ?_; rintro e w13 ⟨rfl, hb13⟩; have K13 := hide (below_on K12.out hb13); clear hb13))
                      clear EN K11 K12
                      go_cut [16] from 162 to 164 (fun s wx => s = .int .i64 F5 ∧ wx = w13)
                      case first =>
                        by_cases he : e = 0
                        · have t : (e == 0) = true := by rw [beq_iff_eq]; exact he
                          have E := hide (F5a.out.2 he)
                          clear he
                          go_wp2
                          go_meet
                          case rel => exact ⟨by rw [E.out], rfl⟩
                        · have t : (e == 0) = false := by rw [beq_eq_false_iff_ne]; exact he
                          have E := hide (F5a.out.1 he)
                          clear he
                          go_wp2
                          go_meet
                          case rel => exact ⟨by rw [E.out], rfl⟩
                      case rest =>
                        obtain ⟨rfl, rfl⟩ := hcut
                        clear F5a
                        go_upto_if 166 with fail
                        go_cut [31, 32, 33] from 165 to 190 (fun s t u wx => ∃ a5 c5, s = .slice a5 C5.length c5 ∧ Hid (Rd wx a5 C5) ∧ Hid (Below w.heap.size w wx))
                        case first =>
                          by_cases hf : F5 = 0
                          · have t : (F5 == 0) = true := by rw [beq_iff_eq]; exact hf
                            obtain ⟨e5, l1, l2⟩ := C5b.out hf
                            have E5 := hide e5
                            clear e5 hf
                            obtain ⟨i0, hi, hz0, hz1, hz2⟩ := info_parts info3
                            go_wp2_with (at_make; refine wpList_make_full _ rfl (.tmp 169) (.tmp 169) 22 rfl w.heap.size 3 i0 (.int .i64 0) 1 Tryd.underlying22 hi hz0 hz1 .i64 .i64 _ _ (xs.length + 1) rfl rfl (by omega) (by omega) (by rw [hz2]; omega) (by unfold maxLen; omega) K13.out.size ?_; intro w14 hown hgrow)
                            rw [made] at hown
                            have hb14 : Below w.heap.size w w14 := K13.out.grown hgrow K13.out.size (fun k hk => by cases hk)
                            have hg1 : w.heap.size ≤ wc.heap.size := K13.out.size
                            clear hgrow hi hz0 hz1 hz2
                            have ho : w14.ownsRow w.heap.size 3 1 (.slice (some ⟨wc.heap.size, 0, none⟩) (xs.length + 1) (xs.length + 1)) (xs.length + 1) ((M.cntI xs ls 0).map (Value.int .i64)) := hown
                            clear hown
                            by_cases hy : ls = []
                            · subst hy
                              refine wp_loop_rounds 1 ?_
                              rw [rounds_succ]
                              go_wp2
                              go_meet
                              case rel =>
                                have hl := M.cnt_len xs [] 0
                                rw [← hl] at ho
                                obtain ⟨a5, c5, e3, hr⟩ := own_rd0 ho
                                refine ⟨a5, c5, ?_, ?_, hb14⟩
                                · rw [E5.out, ← hl]; exact e3
                                · rw [E5.out]; exact hr
                            · obtain ⟨bc, oc, rfl, hbc, hcc⟩ := (HC.out _ hb14).2 hy
                              have HCC : Hid (∀ W, Below w.heap.size w W → Rd W (some ⟨bc, oc, none⟩) ls) := HC
                              have RBx := hide RB.out
                              clear hcc hbc
                              go_loopw [32] (fun i wr => ∃ j : Nat, j ≤ ls.length ∧ i = .int .i64 j ∧ wr.ownsRow w.heap.size 3 1 (.slice (some ⟨wc.heap.size, 0, none⟩) (xs.length + 1) (xs.length + 1)) (xs.length + 1) ((M.cntI xs ls j).map (Value.int .i64)) ∧ Below w.heap.size w wr) (fun i _ => ls.length - (intOf i).toNat)
                              case atStart => exact ⟨0, Nat.zero_le _, rfl, ho, hb14⟩
                              case round =>
                                clear ho hb14
                                obtain ⟨j, hj, rfl, hown, hbl⟩ := hrel
                                by_cases hlt : j < ls.length
                                · obtain ⟨b2, o2, e2, _, hcj⟩ := (HCC.out _ hbl).2 hy
                                  cases e2
                                  have hck := Rd.at hcj j hlt
                                  have hr : M.binI xs ls[j] < xs.length + 1 := by have := M.bin_le xs ls[j]; omega
                                  have R := hide (cnt_step hlt hown)
                                  have hcell := cnt_cell rfl hr hown
                                  have hfz := hown.frozenAt (M.binI xs ls[j])
                                  have B1 := hide (RBx.out ls[j] _ hbl)
                                  have bd := M.cnt_bd xs ls j (M.binI xs ls[j])
                                  clear hown hcj
                                  generalize M.binI xs ls[j] = r at *
                                  generalize (M.cntI xs ls j).getD r 0 = z at *
                                  generalize ls[j] = y at *
                                  go_wp2_with (go_at_call 12; refine B1.out.mono ?_; rintro e w15 ⟨rfl, rfl⟩)
                                  go_roundw
                                  case rel => exact ⟨j + 1, by omega, by go_num, R.out, hbl.setCell hg1 _⟩
                                  case measure => simp [intOf]; omega
                                · have hke : j = ls.length := by omega
                                  rw [hke] at hown
                                  have HO := hide hown
                                  clear hown hke
                                  go_wp2
                                  go_meet
                                  case rel =>
                                    have ho := HO.out
                                    have hl := M.cnt_len xs ls ls.length
                                    rw [← hl] at ho
                                    obtain ⟨a5, c5, e3, hr⟩ := own_rd0 ho
                                    refine ⟨a5, c5, ?_, ?_, hbl⟩
                                    · rw [E5.out, ← hl]; exact e3
                                    · rw [E5.out]; exact hr
                          · have t : (F5 == 0) = false := by rw [beq_eq_false_iff_ne]; exact hf
                            have E := hide (C5a.out hf)
                            clear hf
                            go_wp2
                            go_meet
                            case rel => exact ⟨none, 0, by rw [E.out]; rfl, by rw [E.out]; exact rd_nil _, K13⟩
                        case rest =>
                          obtain ⟨a5, c5, rfl, R5, K14⟩ := hcut
                          clear C5a C5b K13
                          go_upto_if 205 with (first
                            | (go_at_call 15; refine (CT.out _ K14.out).mono ?_; rintro e w16 ⟨ad, cd, rfl, hrd, hb16⟩; have RD := hide hrd; have B16 := hide hb16; have K16 := hide (below_on K14.out hb16); clear hrd hb16)
                            | (go_at_call 5; refine (ER.out F5 _ K16.out).mono ?_; rintro e w17 ⟨rfl, hb17⟩; have B17 := hide hb17; have K17 := hide (below_on K16.out hb17); clear hb17)
                            | (go_at_call 10; refine (Ints_same ad a5 C5 cd c5 _ (RD.out.below B17.out) (R5.out.below (below_on B16.out B17.out))).mono ?_; rintro e w18 ⟨rfl, hb18⟩; have K18 := hide (below_on K17.out hb18); clear hb18))
                          clear CT R5 RD B16 B17 K14 K16 K17
                          go_cut [16] from 204 to 207 (fun s wx => s = .int .i64 F6 ∧ Hid (Below w.heap.size w wx))
                          case first =>
                            by_cases he : e = 0
                            · have t : (e == 0) = true := by rw [beq_iff_eq]; exact he
                              have E := hide (F6a.out.2 he)
                              clear he
                              go_wp2_with (go_at_call 4; refine (RY.out _ K18.out).mono ?_; rintro e w19 ⟨rfl, hb19⟩; have B19 := hide hb19; clear hb19)
                              go_meet
                              case rel => exact ⟨by rw [E.out], below_on K18.out B19.out⟩
                            · have t : (e == 0) = false := by rw [beq_eq_false_iff_ne]; exact he
                              have E := hide (F6a.out.1 he)
                              clear he
                              go_wp2
                              go_meet
                              case rel => exact ⟨by rw [E.out], K18⟩
                          case rest =>
                            obtain ⟨rfl, K19⟩ := hcut
                            clear F6a RY K18
                            go_upto_if 209 with fail
                            go_cut [16, 37, 38, 39, 40] from 208 to 247 (fun s t u y z wx => s = .int .i64 G6 ∧ ∃ a6 c6, t = .slice a6 C6.length c6 ∧ Hid (Rd wx a6 C6) ∧ Hid (Below w.heap.size w wx))
                            case first =>
                              by_cases hf : F6 = 0
                              · have t : (F6 == 0) = true := by rw [beq_iff_eq]; exact hf
                                have Gb := hide (G6b.out hf)
                                have Gc := hide (G6c.out hf)
                                obtain ⟨l1, l2⟩ := YL.out hf
                                have ED : Hid (Lib.compactUpTo (M.sortI (xs ++ ys)).toArray (M.sortI (xs ++ ys)).length = M.mergeI xs ys) := rfl
                                have SLn := hide (M.sort_length (xs ++ ys))
                                have hal : (xs ++ ys).length ≤ 120 := by rw [List.length_append]; omega
                                obtain ⟨al, hae⟩ : ∃ al, al = xs ++ ys := ⟨_, rfl⟩
                                have AE := hide hae
                                rw [← hae] at ED SLn hal
                                have HF := hide hf
                                clear hae hf
                                go_wp2_with (at_builtin; refine wpList_append_rd rfl (.tmp 210) (.tmp 211) rfl w.heap.size _ 0 [] rfl (World.ownsRow_nil _ _ _ _) a xs ca rfl (HA.out _ K19.out) NA.out (by omega) K19.out.size ?_)
                                intro v1 w20 hown1 hb20
                                have o1 : w20.ownsRow w.heap.size 3 1 v1 xs.length (xs.map (Value.int .i64)) := (by first | exact hown1 | simpa using hown1)
                                have O1 := hide o1
                                clear o1
                                have K20 := hide (K19.out.trans hb20)
                                clear hown1 hb20
                                go_wp2_with (at_builtin; refine wpList_append_rd rfl (.tmp 213) (.tmp 214) rfl w.heap.size _ xs.length xs rfl O1.out b ys cb rfl (HB.out _ K20.out) NB.out (by omega) K20.out.size ?_)
                                intro v2 w21 hown2 hb21
                                have O2 : w21.ownsRow w.heap.size 3 1 v2 al.length (al.map (Value.int .i64)) := (by rw [AE.out, List.length_append, List.map_append]; simpa using hown2)
                                have K21 := hide (K20.out.trans hb21)
                                obtain ⟨a38, c38, rfl, hr38, hn38⟩ := own_rdn O2
                                have R38 := hide hr38
                                have N38 := hide hn38
                                clear hown2 hb21 O2 hr38 hn38
                                go_wp2_with (go_at_call 16; refine (sorted_any a38 al c38 _ R38.out N38.out (by omega)).mono ?_; rintro e w22 ⟨a39, c39, rfl, hr39, hb22⟩; have R39 := hide hr39; have K22 := hide (below_on K21.out hb22); clear hr39 hb22)
                                clear R38 N38 O1 K20 K21
                                have SL' : al.length = (M.sortI al).length := SLn.out.symm
                                by_cases hs0 : al = []
                                · subst hs0
                                  have eS : M.sortI [] = [] := by simp [M.sortI]
                                  rw [eS] at ED
                                  refine wp_loop_rounds 1 ?_
                                  rw [rounds_succ]
                                  have mz : M.mergeI xs ys = [] := ED.out.symm.trans (by simp [Lib.compactUpTo])
                                  obtain ⟨g1, g2⟩ := Gc.out (by rw [mz]; simp)
                                  have GG := hide g1
                                  have GC := hide (g2.trans mz)
                                  clear g1 g2 mz SL' eS
                                  go_wp2
                                  go_meet
                                  case rel => exact ⟨by rw [HF.out, GG.out], none, 0, by rw [GC.out]; rfl, by rw [GC.out]; exact rd_nil _, K22⟩
                                · have hp : 0 < al.length := List.length_pos_iff.2 hs0
                                  obtain ⟨g, og, rfl, hg, hcS⟩ := R39.out.2 (by intro e; rw [e] at SL'; simp at SL'; exact hs0 SL')
                                  have CS : Hid (∀ W, Below w22.heap.size w22 W → ∀ j (h : j < (M.sortI al).length), W.cell? ⟨g, og + j, none⟩ = some (.int .i64 (M.sortI al)[j])) := fun W hW j h => (hW.cell (p := ⟨g, og + j, none⟩) hg).trans (Rd.at hcS j h)
                                  clear hcS hs0 R39 SL'
                                  have U1 := hide (U_first (M.sortI al))
                                  have U2 := hide (U_next (M.sortI al))
                                  have U3 := hide (U_stay (M.sortI al))
                                  have U4 := hide (U_len (M.sortI al))
                                  have U0 : Hid (Lib.compactUpTo (M.sortI al).toArray 0 = []) := rfl
                                  generalize M.sortI al = T at *
                                  go_loopw [37, 40] (fun v i wr => ∃ j : Nat, j ≤ al.length ∧ i = .int .i64 j ∧ wr.ownsRow w22.heap.size 3 1 v (Lib.compactUpTo T.toArray j).length ((Lib.compactUpTo T.toArray j).map (Value.int .i64)) ∧ Below w22.heap.size w22 wr) (fun _ i _ => al.length - (intOf i).toNat)
                                  case atStart => exact ⟨0, Nat.zero_le _, rfl, by rw [U0.out]; exact World.ownsRow_nil _ _ _ _, Below.refl _ _⟩
                                  case round =>
                                    obtain ⟨j, hj, rfl, hown, hbl⟩ := hrel
                                    by_cases hlt : j < al.length
                                    · have hjT : j < T.length := by rw [SLn.out]; exact hlt
                                      have hck := CS.out wr hbl j hjT
                                      have LN := U4.out j
                                      have HOd : Hid (∀ q, (wr.drewN q).ownsRow w22.heap.size 3 1 u37 (Lib.compactUpTo T.toArray j).length ((Lib.compactUpTo T.toArray j).map (Value.int .i64))) := fun q => own_keep hown (below_drew (Below.refl _ wr) q (Nat.le_refl _))
                                      clear hown
                                      rcases j with _ | i
                                      · have E := hide (U1.out hjT)
                                        have hk : (((0 : Nat) : Int) == 0) = true := by simp
                                        rw [Nat.add_zero] at hck
                                        generalize Lib.compactUpTo T.toArray 0 = L at *
                                        generalize T[0] = y at *
                                        go_wp2
                                        go_quiet (fail)
                                        go_wp2_with (at_builtin; refine wpList_append_rd rfl (.tmp 238) (.tmp 243) rfl w22.heap.size _ L.length L rfl ((HOd.out _).alloc _) (some ⟨_, 0, none⟩) [y] 1 rfl (one_rd _ y 3) (fun h => by cases h) (by show L.length + 1 ≤ 1000000; omega) (by have := hbl.size; simp; omega) ?_)
                                        intro v' w4 hown' hb4
                                        have HO4 := hide hown'
                                        clear hown'
                                        go_wp2
                                        go_roundw
                                        case rel => exact ⟨1, by omega, by go_num, by rw [E.out]; simpa using HO4.out, ((below_drew hbl _ hbl.size).alloc hbl.size _).trans hb4⟩
                                        case measure => simp [intOf]; omega
                                      · have hi1 : i < T.length := by omega
                                        have hcz := CS.out wr hbl i hi1
                                        have hk : (((i + 1 : Nat) : Int) == 0) = false := by rw [beq_eq_false_iff_ne]; omega
                                        have hk2 : ((i : Int) + 1 == 0) = false := by rw [beq_eq_false_iff_ne]; omega
                                        by_cases hyz : T[i + 1] = T[i]
                                        · have E := hide (U3.out i hjT hyz)
                                          have q : (T[i + 1] != T[i]) = false := by rw [bne_eq_false_iff_eq]; exact hyz
                                          clear hyz
                                          obtain ⟨y, hy⟩ : ∃ y, T[i + 1] = y := ⟨_, rfl⟩
                                          obtain ⟨z, hz⟩ : ∃ z, T[i] = z := ⟨_, rfl⟩
                                          rw [hy, hz] at q
                                          rw [hy] at hck
                                          rw [hz] at hcz
                                          clear hy hz
                                          generalize Lib.compactUpTo T.toArray (i + 1) = L at *
                                          go_wp2
                                          go_quiet (fail)
                                          go_wp2
                                          go_roundw
                                          case rel => exact ⟨i + 1 + 1, by omega, by go_num, by rw [E.out]; exact HOd.out _, below_drew hbl _ hbl.size⟩
                                          case measure => simp [intOf]; omega
                                        · have E0 := U2.out i hjT hyz
                                          have q : (T[i + 1] != T[i]) = true := by rw [bne_iff_ne]; exact hyz
                                          clear hyz
                                          obtain ⟨y, hy⟩ : ∃ y, T[i + 1] = y := ⟨_, rfl⟩
                                          obtain ⟨z, hz⟩ : ∃ z, T[i] = z := ⟨_, rfl⟩
                                          rw [hy, hz] at q
                                          rw [hy] at hck E0
                                          rw [hz] at hcz
                                          have E := hide E0
                                          clear hy hz E0
                                          generalize Lib.compactUpTo T.toArray (i + 1) = L at *
                                          go_wp2
                                          go_quiet (fail)
                                          go_wp2_with (at_builtin; refine wpList_append_rd rfl (.tmp 238) (.tmp 243) rfl w22.heap.size _ L.length L rfl ((HOd.out _).alloc _) (some ⟨_, 0, none⟩) [y] 1 rfl (one_rd _ y 3) (fun h => by cases h) (by show L.length + 1 ≤ 1000000; omega) (by have := hbl.size; simp; omega) ?_)
                                          intro v' w4 hown' hb4
                                          have HO4 := hide hown'
                                          clear hown'
                                          go_wp2
                                          go_roundw
                                          case rel => exact ⟨i + 1 + 1, by omega, by go_num, by rw [E.out]; simpa using HO4.out, ((below_drew hbl _ hbl.size).alloc hbl.size _).trans hb4⟩
                                          case measure => simp [intOf]; omega
                                    · have hje : j = T.length := by rw [SLn.out]; omega
                                      rw [hje, ED.out] at hown
                                      clear hje
                                      have HL : Hid ((M.mergeI xs ys).length ≤ 120) := by unfold Hid; rw [← ED.out]; have := U4.out T.length; have := SLn.out; omega
                                      have hl120 := HL.out
                                      obtain ⟨a6, c6, rfl, hr6⟩ := own_rd0 hown
                                      have R6x := hide hr6
                                      clear hown hr6
                                      by_cases h60 : 60 < (M.mergeI xs ys).length
                                      · obtain ⟨g1, g2⟩ := Gb.out h60
                                        have GG := hide g1
                                        have GC := hide g2
                                        have hd : decide ((60 : Int) < ((M.mergeI xs ys).length : Int)) = true := decide_eq_true (by omega)
                                        clear g1 g2
                                        go_wp2
                                        go_meet
                                        case rel => exact ⟨by rw [GG.out], none, 0, by rw [GC.out]; rfl, by rw [GC.out]; exact rd_nil _, below_on K22.out hbl⟩
                                      · obtain ⟨g1, g2⟩ := Gc.out h60
                                        have GG := hide g1
                                        have GC := hide g2
                                        have hd : decide ((60 : Int) < ((M.mergeI xs ys).length : Int)) = false := decide_eq_false (by omega)
                                        clear g1 g2
                                        go_wp2
                                        go_meet
                                        case rel => exact ⟨by rw [HF.out, GG.out], a6, c6, by rw [GC.out], by rw [GC.out]; exact R6x.out, below_on K22.out hbl⟩
                              · have t : (F6 == 0) = false := by rw [beq_eq_false_iff_ne]; exact hf
                                have E := hide (G6a.out hf)
                                clear hf
                                go_wp2
                                go_meet
                                case rel => exact ⟨by rw [E.out.1], none, 0, by rw [E.out.2]; rfl, by rw [E.out.2]; exact rd_nil _, K19⟩
                            case rest =>
                              obtain ⟨rfl, a6, c6, rfl, R6', K23⟩ := hcut
                              clear G6a G6b G6c YL K19
                              go_wp2_with (first
                                | (go_at_call 17; refine (MG.out _ K23.out).mono ?_; rintro e w24 ⟨am, cm, rfl, hrm, hb24⟩; have RM := hide hrm; have B24 := hide hb24; have K24 := hide (below_on K23.out hb24); clear hrm hb24)
                                | (go_at_call 5; refine (ER.out G6 _ K24.out).mono ?_; rintro e w25 ⟨rfl, hb25⟩; have B25 := hide hb25; have K25 := hide (below_on K24.out hb25); clear hb25)
                                | (go_at_call 10; refine (Ints_same am a6 C6 cm c6 _ (RM.out.below B25.out) (R6'.out.below (below_on B24.out B25.out))).mono ?_; rintro e w26 ⟨rfl, hb26⟩; have K26 := hide (below_on K25.out hb26); clear hb26))
                              go_ret
                              exact ⟨rfl, K26.out⟩

end Go.Proofs.YtpobjlcgamcoiaaDoor
