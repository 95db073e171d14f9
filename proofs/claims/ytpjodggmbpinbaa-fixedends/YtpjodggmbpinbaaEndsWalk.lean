/-
  FixedEnds: the law's own text, by the contracts of what it calls: it returns true at any two numbers and any list.
-/
import Derived.Test.YtpjodggmbpinbaaAddsWalk
import Derived.Test.YtpjodggmbpinbaaMathE
import Derived.Deep.CutRange
namespace Go.Proofs.Ytpjodggmbpinbaa
open Go.ChangeShapes Go.WideShapes Go.ChangeAt Go.RowKit
set_option linter.unusedVariables false

/-- are both numbers small, and the second one above 0? -/
def smallB (x y : Int) : Bool := decide (-1000000 < x ∧ x < 1000000 ∧ 0 < y ∧ y < 1000000)

theorem i_or (i : Nat) : (Hid (i = 0) ∧ ((i : Int) == 0) = true) ∨ (Hid (¬ i = 0) ∧ ((i : Int) == 0) = false) := by
  by_cases h : i = 0
  · exact .inl ⟨h, by rw [h]; rfl⟩
  · exact .inr ⟨h, by rw [beq_eq_false_iff_ne]; omega⟩
theorem small_or (x y : Int) : (smallB x y = true ∧ -1000000 < x ∧ x < 1000000 ∧ 0 < y ∧ y < 1000000) ∨ (smallB x y = false ∧ x ≤ -1000000) ∨ (smallB x y = false ∧ -1000000 < x ∧ 1000000 ≤ x) ∨
    (smallB x y = false ∧ -1000000 < x ∧ x < 1000000 ∧ y ≤ 0) ∨ (smallB x y = false ∧ -1000000 < x ∧ x < 1000000 ∧ 0 < y ∧ 1000000 ≤ y) := by
  unfold smallB
  simp only [decide_eq_true_eq, decide_eq_false_iff_not]
  omega
theorem small_of {x y : Int} (h : smallB x y = true) : -1000000 < x ∧ x < 1000000 ∧ 0 < y ∧ y < 1000000 := by
  unfold smallB at h; simpa using h

set_option maxHeartbeats 4000000 in
set_option maxRecDepth 10000 in
theorem ends_some (x y : Int) (b off : Nat) (xs : List Int) (cap : Nat) (w : World) (hp : 0 < xs.length) (h1000 : xs.length ≤ 1000) (hb : b < w.heap.size)
    (hc : ∀ i, i < xs.length → w.cell? ⟨b, off + i, none⟩ = some (.int .i64 (xs.getD i 0))) :
    Calls Try.prog 5 #[.int .i64 x, .int .i64 y, .slice (some ⟨b, off, none⟩) xs.length cap] w fun e w' => e = .returned (.bool true) ∧ Below w.heap.size w w' := by
  have c1 : M.mulI 3 5 = 15 := by decide
  have c2 : M.roundI 7 2 = 4 := by decide
  have c3 : M.roundI (-7) 2 = -3 := by decide
  have HRD : Hid (Rd w (some ⟨b, off, none⟩) xs) := ⟨by unfold maxLen; omega, fun _ => ⟨b, off, rfl, hb, hc⟩⟩
  have HC := hide hc
  have n1 := M.add_comm' x y
  have n2 := M.mul_comm' x y
  obtain ⟨d1, d2⟩ := M.add_bd' x y
  obtain ⟨e1, e2⟩ := M.mul_bd' x y
  obtain ⟨t1, t2⟩ := M.total_bd xs
  have b1 : decide (1099511627776 < M.addI x y) = false := by simp; omega
  have b2 : decide (M.addI x y < -1099511627776) = false := by simp; omega
  have b3 : decide (1099511627776 < M.mulI x y) = false := by simp; omega
  have b4 : decide (M.mulI x y < -1099511627776) = false := by simp; omega
  have b5 : decide (1099511627776 < M.totalI xs) = false := by simp; omega
  have b6 : decide (M.totalI xs < -1099511627776) = false := by simp; omega
  clear hc
  go_enter Try.func5, Try.ntmps5
  go_upto_region 9 with (first
      | (go_at_call 8; refine (add_any _ _ _).mono ?_; rintro e w' ⟨rfl, rfl⟩)
      | (go_at_call 10; refine (mul_any _ _ _).mono ?_; rintro e w' ⟨rfl, rfl⟩)
      | (go_at_call 12; refine (round_any _ _ _).mono ?_; rintro e w' ⟨rfl, rfl⟩)
      | (go_at_call 14; refine (total_any _ xs cap _ HRD.out).mono ?_; rintro e w' ⟨rfl, rfl⟩))
  clear c1 c2 c3 n1 n2 d1 d2 e1 e2 t1 t2 b1 b2 b3 b4 b5 b6
  go_cut [98] from 22 (fun s wx => s = .bool (smallB x y) ∧ wx = w')
  case first =>
    rcases small_or x y with ⟨h, k1, k2, k3, k4⟩ | ⟨h, k1⟩ | ⟨h, k0, k1⟩ | ⟨h, k0, k1, k2⟩ | ⟨h, k0, k1, k2, k3⟩
    all_goals
      have H := hide h
      clear h
      go_wp2
      go_meet
      case rel => exact ⟨by first | (rw [H.out]; done) | (rw [H.out]; congr 1; simp; omega), rfl⟩
  case rest =>
    obtain ⟨rfl, rfl⟩ := hcut
    go_upto_if 98 with fail
    go_cut [0] from 22 (fun s wx => s = .int .i64 x ∧ wx = wc)
    case first =>
      cases hs : smallB x y with
      | false =>
        go_wp2
        go_meet
        case rel => exact ⟨rfl, rfl⟩
      | true =>
        obtain ⟨k1, k2, k3, k4⟩ := small_of hs
        obtain ⟨r1, r2, r3, r4, r5, r6⟩ := M.round_near x y k1 k2 k3 k4
        go_wp2_with (go_at_call 12; refine (round_any _ _ _).mono ?_; rintro e w' ⟨rfl, rfl⟩)
        go_meet
        case rel => exact ⟨rfl, rfl⟩
    case rest =>
      obtain ⟨rfl, rfl⟩ := hcut
      have ME := hide (mean_any (some ⟨b, off, none⟩) xs cap wc HRD.out)
      have FL : Hid ((M.firstI xs).length = xs.length) := by unfold Hid; rw [M.first_len]; omega
      have hz : ((xs.length : Int) == 0) = false := by rw [beq_eq_false_iff_ne]; omega
      go_wp2_with (first
        | (go_at_call 16; refine ME.out.mono ?_; rintro e w1 ⟨rfl, hb1⟩)
        | (go_at_call 18; refine (median_any _ xs cap _ (HRD.out.below hb1)).mono ?_; rintro e w2 ⟨rfl, hb2⟩))
      have HB := hide (Below.then hb1 hb2)
      have EN := hide (fun (i : Nat) (low high : Int) (inn : Bool) (p q : Nat) => M.ends_end (l := xs) (i := i) (low := low) (high := high) (inn := inn) (p := p) (q := q) (by rw [FL.out]; exact hp))
      have EB := hide (M.mean_bd xs)
      have OA : Hid (∀ i (hi : i < xs.length), w2.cell? ⟨b, off + i, none⟩ = some (.int .i64 xs[i])) := fun i hi => (HB.out.cell (p := ⟨b, off + i, none⟩) hb).trans (Rd.at HC.out i hi)
      have FA := hide (fun i (hi : i < xs.length) => M.first_at xs i (by rw [FL.out]; exact hi) hi)
      clear ME hb1 hb2 HRD HC
      generalize M.firstI xs = F at *
      generalize M.meanI xs = mm at *
      generalize M.midI xs = kk at *
      go_loopg [15, 16, 17, 18, 19, 20] xs.length (fun gg s15 s16 s17 s18 s19 s20 wr => ∃ (i p q : Nat) (inn : Bool) (low high : Int), i ≤ xs.length ∧ gg = xs.length - i ∧ p ≤ i ∧ q ≤ i ∧ s15 = .int .i64 p ∧ s16 = .int .i64 q ∧ s17 = .bool inn ∧ s18 = .int .i64 low ∧ s19 = .int .i64 high ∧ s20 = .int .i64 i ∧ Hid (M.EndsI F kk i low high inn p q) ∧ wr = w2)
      case atStart => exact ⟨0, 0, 0, false, 0, 0, Nat.zero_le _, rfl, Nat.le_refl _, Nat.le_refl _, rfl, rfl, rfl, rfl, rfl, rfl, M.ends_start F kk, rfl⟩
      case round =>
        obtain ⟨i, p, q, inn, low, high, hi, hgg, hpi, hqi, rfl, rfl, rfl, rfl, rfl, rfl, HE, rfl⟩ := hrel
        have HG := hide hgg
        clear hgg
        by_cases hlt : i < xs.length
        · have hck := OA.out i hlt
          have hiF : i < F.length := by rw [FL.out]; exact hlt
          have HF := hide hiF
          clear hiF
          have FI := hide (FA.out i hlt)
          clear OA FA EN EB
          go_upto_if 141 with fail
          go_cut [21] from 129 to 180 (fun s wx => ∃ n1 : Int, s = .int .i64 n1 ∧ n1 ≤ 1099511627776 ∧ Hid (M.fitI n1 = M.fitI xs[i]) ∧ wx = wr)
          case first =>
            by_cases h : 1099511627776 < xs[i]
            · go_wp2
              go_meet
              case rel => exact ⟨_, rfl, Int.le_refl _, M.fit_hi h, rfl⟩
            · go_wp2
              go_meet
              case rel => exact ⟨_, rfl, by omega, rfl, rfl⟩
          case rest =>
            obtain ⟨n1, rfl, hn1, HN1, rfl⟩ := hcut
            clear hck
            go_upto_if 146 with fail
            go_cut [21] from 129 to 180 (fun s wx => ∃ f : Int, s = .int .i64 f ∧ Hid (f = M.fitI n1) ∧ wx = wc)
            case first =>
              by_cases h : n1 < -1099511627776
              · go_wp2
                go_meet
                case rel => exact ⟨_, rfl, M.fit_lo h, rfl⟩
              · go_wp2
                go_meet
                case rel => exact ⟨_, rfl, (M.fit_id ⟨by omega, hn1⟩).symm, rfl⟩
            case rest =>
              obtain ⟨f, rfl, HF1, rfl⟩ := hcut
              have E : Hid (f = F[i]'HF.out) := HF1.out.trans (HN1.out.trans FI.out.symm)
              clear HF1 HN1 FI hn1
              go_upto_region 31 with fail
              go_cut [155] from 129 to 180 (fun s wx => ∃ c : Bool, s = .bool c ∧ Hid (c = true ↔ (i = 0 ∨ f < low)) ∧ wx = wc)
              case first =>
                rcases i_or i with ⟨h, hb0⟩ | ⟨h, hb0⟩
                · go_wp2
                  go_meet
                  case rel => exact ⟨true, by first | rfl | (congr 1; simp), M.iff_t (.inl h.out), rfl⟩
                · go_wp2
                  go_meet
                  case rel => exact ⟨decide (f < low), by first | rfl | (congr 1; simp), M.iff_d h.out, rfl⟩
              case rest =>
                obtain ⟨c, rfl, HC1, rfl⟩ := hcut
                go_upto_if 155 with fail
                go_cut [18] from 129 to 180 (fun s wx => ∃ low' : Int, s = .int .i64 low' ∧ Hid (low' ≤ f ∧ (i = 0 ∨ low' ≤ low)) ∧ wx = wc)
                case first =>
                  cases c with
                  | true =>
                    go_wp2
                    go_meet
                    case rel => exact ⟨f, rfl, ⟨Int.le_refl _, M.or_lt (HC1.out.1 (by first | rfl | trivial))⟩, rfl⟩
                  | false =>
                    go_wp2
                    go_meet
                    case rel => exact ⟨low, rfl, ⟨M.not_lt (fun h => by have := HC1.out.2 h; simp at this), .inr (Int.le_refl _)⟩, rfl⟩
                case rest =>
                  obtain ⟨low', rfl, HL, rfl⟩ := hcut
                  clear HC1
                  go_upto_region 33 with fail
                  go_cut [163] from 129 to 180 (fun s wx => ∃ c : Bool, s = .bool c ∧ Hid (c = true ↔ (i = 0 ∨ high < f)) ∧ wx = wc)
                  case first =>
                    rcases i_or i with ⟨h, hb0⟩ | ⟨h, hb0⟩
                    · go_wp2
                      go_meet
                      case rel => exact ⟨true, by first | rfl | (congr 1; simp), M.iff_t (.inl h.out), rfl⟩
                    · go_wp2
                      go_meet
                      case rel => exact ⟨decide (high < f), by first | rfl | (congr 1; simp), M.iff_d h.out, rfl⟩
                  case rest =>
                    obtain ⟨c2, rfl, HC2, rfl⟩ := hcut
                    go_upto_if 163 with fail
                    go_cut [19] from 129 to 180 (fun s wx => ∃ high' : Int, s = .int .i64 high' ∧ Hid (f ≤ high' ∧ (i = 0 ∨ high ≤ high')) ∧ wx = wc)
                    case first =>
                      cases c2 with
                      | true =>
                        go_wp2
                        go_meet
                        case rel => exact ⟨f, rfl, ⟨Int.le_refl _, M.or_lt (HC2.out.1 (by first | rfl | trivial))⟩, rfl⟩
                      | false =>
                        go_wp2
                        go_meet
                        case rel => exact ⟨high, rfl, ⟨M.not_lt (fun h => by have := HC2.out.2 h; simp at this), .inr (Int.le_refl _)⟩, rfl⟩
                    case rest =>
                      obtain ⟨high', rfl, HH, rfl⟩ := hcut
                      clear HC2
                      go_upto_region 35 with fail
                      go_cut [17] from 129 to 180 (fun s wx => ∃ inn' : Bool, s = .bool inn' ∧ Hid (inn = true ∨ f = kk → inn' = true) ∧ wx = wc)
                      case first =>
                        cases inn with
                        | true =>
                          go_wp2
                          go_meet
                          case rel => exact ⟨true, rfl, fun _ => rfl, rfl⟩
                        | false =>
                          go_wp2
                          go_meet
                          case rel => exact ⟨f == kk, rfl, M.in_eq, rfl⟩
                      case rest =>
                        obtain ⟨inn', rfl, HI, rfl⟩ := hcut
                        rcases M.three E.out kk with t | t | t
                        · have T := hide t
                          go_wp2
                          go_roundg (xs.length - (i + 1))
                          case measure => have := HG.out; omega
                          case rel => exact ⟨i + 1, p + 1, q, inn', low', high', by omega, rfl, by omega, by omega, by go_num, rfl, rfl, rfl, rfl, by go_num, M.ends_step HE.out HF.out E.out HL.out.1 HL.out.2 HH.out.1 HH.out.2 HI.out (.inl ⟨T.out, rfl⟩) (.inr ⟨Int.not_lt.2 (Int.le_of_lt T.out), rfl⟩), rfl⟩
                        · have T := hide t
                          clear t
                          have t1 : decide (f < kk) = false := by have := T.out; simp; omega
                          have t2 : decide (kk < f) = false := by have := T.out; simp; omega
                          go_wp2
                          go_roundg (xs.length - (i + 1))
                          case measure => have := HG.out; omega
                          case rel => exact ⟨i + 1, p, q, inn', low', high', by omega, rfl, by omega, by omega, rfl, rfl, rfl, rfl, rfl, by go_num, M.ends_step HE.out HF.out E.out HL.out.1 HL.out.2 HH.out.1 HH.out.2 HI.out (.inr ⟨by have := T.out; omega, rfl⟩) (.inr ⟨by have := T.out; omega, rfl⟩), rfl⟩
                        · have T := hide t
                          go_wp2
                          go_roundg (xs.length - (i + 1))
                          case measure => have := HG.out; omega
                          case rel => exact ⟨i + 1, p, q + 1, inn', low', high', by omega, rfl, by omega, by omega, rfl, by go_num, rfl, rfl, rfl, by go_num, M.ends_step HE.out HF.out E.out HL.out.1 HL.out.2 HH.out.1 HH.out.2 HI.out (.inr ⟨Int.not_lt.2 (Int.le_of_lt T.out), rfl⟩) (.inl ⟨T.out, rfl⟩), rfl⟩
        · obtain ⟨z1, z2, z3, z4, z5⟩ := EN.out i low high inn p q (by rw [FL.out]; omega) HE.out
          rw [FL.out] at z4 z5
          subst z1
          have z6 : decide (2 * (q : Int) ≤ (xs.length : Int)) = true := by simp; omega
          clear OA FA EN EB HE
          go_wp2
          go_ret
          exact ⟨rfl, HB.out⟩

set_option maxHeartbeats 4000000 in
set_option maxRecDepth 10000 in
theorem ends_few (x y : Int) (a : Option Addr) (xs : List Int) (cap : Nat) (w : World) (hq : xs.length = 0 ∨ 1000 < xs.length) (hm : xs.length ≤ 9223372036854775807) (h : Rd w a xs) :
    Calls Try.prog 5 #[.int .i64 x, .int .i64 y, .slice a xs.length cap] w fun e w' => e = .returned (.bool true) ∧ Below w.heap.size w w' := by
  have c1 : M.mulI 3 5 = 15 := by decide
  have c2 : M.roundI 7 2 = 4 := by decide
  have c3 : M.roundI (-7) 2 = -3 := by decide
  have HRD := hide h
  have HQ := hide hq
  have n1 := M.add_comm' x y
  have n2 := M.mul_comm' x y
  obtain ⟨d1, d2⟩ := M.add_bd' x y
  obtain ⟨e1, e2⟩ := M.mul_bd' x y
  obtain ⟨t1, t2⟩ := M.total_bd xs
  have b1 : decide (1099511627776 < M.addI x y) = false := by simp; omega
  have b2 : decide (M.addI x y < -1099511627776) = false := by simp; omega
  have b3 : decide (1099511627776 < M.mulI x y) = false := by simp; omega
  have b4 : decide (M.mulI x y < -1099511627776) = false := by simp; omega
  have b5 : decide (1099511627776 < M.totalI xs) = false := by simp; omega
  have b6 : decide (M.totalI xs < -1099511627776) = false := by simp; omega
  clear h hq
  go_enter Try.func5, Try.ntmps5
  go_upto_region 9 with (first
      | (go_at_call 8; refine (add_any _ _ _).mono ?_; rintro e w' ⟨rfl, rfl⟩)
      | (go_at_call 10; refine (mul_any _ _ _).mono ?_; rintro e w' ⟨rfl, rfl⟩)
      | (go_at_call 12; refine (round_any _ _ _).mono ?_; rintro e w' ⟨rfl, rfl⟩)
      | (go_at_call 14; refine (total_any _ xs cap _ HRD.out).mono ?_; rintro e w' ⟨rfl, rfl⟩))
  clear c1 c2 c3 n1 n2 d1 d2 e1 e2 t1 t2 b1 b2 b3 b4 b5 b6
  go_cut [98] from 22 (fun s wx => s = .bool (smallB x y) ∧ wx = w')
  case first =>
    rcases small_or x y with ⟨h, k1, k2, k3, k4⟩ | ⟨h, k1⟩ | ⟨h, k0, k1⟩ | ⟨h, k0, k1, k2⟩ | ⟨h, k0, k1, k2, k3⟩
    all_goals
      have H := hide h
      clear h
      go_wp2
      go_meet
      case rel => exact ⟨by first | (rw [H.out]; done) | (rw [H.out]; congr 1; simp; omega), rfl⟩
  case rest =>
    obtain ⟨rfl, rfl⟩ := hcut
    go_upto_if 98 with fail
    go_cut [0] from 22 (fun s wx => s = .int .i64 x ∧ wx = wc)
    case first =>
      cases hs : smallB x y with
      | false =>
        go_wp2
        go_meet
        case rel => exact ⟨rfl, rfl⟩
      | true =>
        obtain ⟨k1, k2, k3, k4⟩ := small_of hs
        obtain ⟨r1, r2, r3, r4, r5, r6⟩ := M.round_near x y k1 k2 k3 k4
        go_wp2_with (go_at_call 12; refine (round_any _ _ _).mono ?_; rintro e w' ⟨rfl, rfl⟩)
        go_meet
        case rel => exact ⟨rfl, rfl⟩
    case rest =>
      obtain ⟨rfl, rfl⟩ := hcut
      rcases HQ.out with hq | hq
      · have hz : ((xs.length : Int) == 0) = true := by rw [hq]; rfl
        clear hq
        go_wp2
        go_ret
        exact ⟨rfl, Below.refl _ _⟩
      · have hz : ((xs.length : Int) == 0) = false := by rw [beq_eq_false_iff_ne]; omega
        go_wp2
        go_ret
        exact ⟨rfl, Below.refl _ _⟩

theorem ends_walk (x y : Int) (a : Option Addr) (xs : List Int) (cap : Nat) (w : World) (h : Rd w a xs) :
    Calls Try.prog 5 #[.int .i64 x, .int .i64 y, .slice a xs.length cap] w fun e w' => e = .returned (.bool true) ∧ Below w.heap.size w w' := by
  by_cases hq : xs.length = 0 ∨ 1000 < xs.length
  · exact ends_few x y a xs cap w hq h.1 h
  · obtain ⟨hm, hr⟩ := h
    obtain ⟨b, off, rfl, hb, hc⟩ := hr (by rintro rfl; simp at hq)
    exact ends_some x y b off xs cap w (by omega) (by omega) hb hc

end Go.Proofs.Ytpjodggmbpinbaa
