/-
  fixed.Round of all numbers; fixed.Mean of none; package run's mean of up to sixty numbers, and round.
-/
import Derived.Test.YtiggkjkjfnlfkaaGreatDoorRunLst
import Derived.Test.YtiggkjkjfnlfkaaGreatDoorFixAny
import Derived.Deep.RegionWith
namespace Go.Proofs.YtiggkjkjfnlfkaaGreatDoor
open Go.ChangeShapes Go.WideShapes Go.ChangeAt Go.RowKit Go.Shelf Go.Lib Go.Sort
set_option linter.unusedVariables false

theorem i64_of {x : Int} (h1 : -9223372036854775808 ≤ x) (h2 : x ≤ 9223372036854775807) : IntKind.i64.wrap x = x := by
  simp [IntKind.wrap, IntKind.bits, IntKind.signed]
  split <;> omega
/-- a fraction, rounded -/
def M.rndI (a b : Int) : Int :=
  if M.fitI b = 0 then 0 else if M.fitI b < 0 then (2 * -M.fitI a + -M.fitI b) / (2 * -M.fitI b) else (2 * M.fitI a + M.fitI b) / (2 * M.fitI b)
theorem M.rnd_up (x y : Int) (hy : 0 < y) (m : Int) (h0 : -m ≤ x) (h1 : x ≤ m) (hm : 0 ≤ m) : -m ≤ (2 * x + y) / (2 * y) ∧ (2 * x + y) / (2 * y) ≤ m := by
  have y2 : 0 < 2 * y := by omega
  constructor
  · rw [Int.le_ediv_iff_mul_le y2]
    have : -m * (2 * y) ≤ 2 * -m := by
      have : -m * (2 * y) = 2 * (-m * y) := by grind
      have : -m * y ≤ -m * 1 := Int.mul_le_mul_of_nonpos_left (by omega) (by omega)
      omega
    omega
  · have : (2 * x + y) / (2 * y) < m + 1 := by
      rw [Int.ediv_lt_iff_lt_mul y2]
      have e : (m + 1) * (2 * y) = 2 * (m * y) + 2 * y := by grind
      have : m * 1 ≤ m * y := Int.mul_le_mul_of_nonneg_left (by omega) hm
      omega
    omega
theorem M.rnd_in {a b m : Int} (h0 : -m ≤ a) (h1 : a ≤ m) (hm : 0 ≤ m) (h40 : m ≤ 1099511627776) : -m ≤ M.rndI a b ∧ M.rndI a b ≤ m := by
  have ea : M.fitI a = a := M.fit_id ⟨by omega, by omega⟩
  unfold M.rndI
  rw [ea]
  split
  · omega
  · split
    · exact M.rnd_up (-a) (-M.fitI b) (by omega) m (by omega) (by omega) hm
    · exact M.rnd_up a (M.fitI b) (by omega) m h0 h1 hm
set_option maxHeartbeats 4000000 in
theorem fround_any (a b : Int) (w : World) :
    Calls Tryz.prog 29 #[.int .i64 a, .int .i64 b] w fun e w' => e = .returned (.int .i64 (M.rndI a b)) ∧ w' = w := by
  obtain ⟨a1, a2⟩ := M.fit_le a
  obtain ⟨b1, b2⟩ := M.fit_le b
  have FA := hide (xfit_any a w)
  have FB := hide (xfit_any b w)
  have E : Hid (M.rndI a b = if M.fitI b = 0 then 0 else if M.fitI b < 0 then (2 * -M.fitI a + -M.fitI b) / (2 * -M.fitI b) else (2 * M.fitI a + M.fitI b) / (2 * M.fitI b)) := rfl
  rw [E.out]
  clear E
  generalize M.fitI a = x at *
  generalize M.fitI b = y at *
  by_cases h0 : y = 0
  · subst h0
    rw [if_pos rfl]
    go_enter Tryz.func29, Tryz.ntmps29
    go_wp2_with (first
      | (go_at_call 78; refine FA.out.mono ?_; rintro e w2 ⟨rfl, ew⟩; have ew2 := ew.symm; subst ew2; clear FA)
      | (go_at_call 78; refine FB.out.mono ?_; rintro e w3 ⟨rfl, ew⟩; have ew3 := ew.symm; subst ew3))
    go_ret
    exact ⟨rfl, rfl⟩
  · have q0 : (y == 0) = false := by rw [beq_eq_false_iff_ne]; exact h0
    rw [if_neg h0]
    by_cases h1 : y < 0
    · rw [if_pos h1]
      have d1 : decide (y < 0) = true := decide_eq_true h1
      have w1 : IntKind.i64.wrap (-x) = -x := i64_of (by omega) (by omega)
      have w2 : IntKind.i64.wrap (-y) = -y := i64_of (by omega) (by omega)
      have w3 : IntKind.i64.wrap (2 * -x) = 2 * -x := i64_of (by omega) (by omega)
      have w4 : IntKind.i64.wrap (2 * -y) = 2 * -y := i64_of (by omega) (by omega)
      have w5 : IntKind.i64.wrap (2 * -x + -y) = 2 * -x + -y := i64_of (by omega) (by omega)
      have DN := hide (down_far (2 * -x + -y) (2 * -y) w (by omega) (by omega) (by omega) (by omega))
      go_enter Tryz.func29, Tryz.ntmps29
      go_wp2_with (first
        | (go_at_call 77; refine DN.out.mono ?_; rintro e w4 ⟨rfl, ew⟩; have ew4 := ew.symm; subst ew4)
        | (go_at_call 78; refine FA.out.mono ?_; rintro e w2 ⟨rfl, ew⟩; have ew2 := ew.symm; subst ew2; clear FA)
        | (go_at_call 78; refine FB.out.mono ?_; rintro e w3 ⟨rfl, ew⟩; have ew3 := ew.symm; subst ew3))
      go_ret
      exact ⟨rfl, rfl⟩
    · rw [if_neg h1]
      have d1 : decide (y < 0) = false := decide_eq_false h1
      have w3 : IntKind.i64.wrap (2 * x) = 2 * x := i64_of (by omega) (by omega)
      have w4 : IntKind.i64.wrap (2 * y) = 2 * y := i64_of (by omega) (by omega)
      have w5 : IntKind.i64.wrap (2 * x + y) = 2 * x + y := i64_of (by omega) (by omega)
      have DN := hide (down_far (2 * x + y) (2 * y) w (by omega) (by omega) (by omega) (by omega))
      go_enter Tryz.func29, Tryz.ntmps29
      go_wp2_with (first
        | (go_at_call 77; refine DN.out.mono ?_; rintro e w4 ⟨rfl, ew⟩; have ew4 := ew.symm; subst ew4)
        | (go_at_call 78; refine FA.out.mono ?_; rintro e w2 ⟨rfl, ew⟩; have ew2 := ew.symm; subst ew2; clear FA)
        | (go_at_call 78; refine FB.out.mono ?_; rintro e w3 ⟨rfl, ew⟩; have ew3 := ew.symm; subst ew3))
      go_ret
      exact ⟨rfl, rfl⟩

def M.avgI (l : List Int) : Int := if l = [] then 0 else l.sum / (l.length : Nat)
set_option maxHeartbeats 4000000 in
theorem counted_no (a : Option Addr) (cap : Nat) (w : World) :
    Calls Tryz.prog 76 #[.slice a 0 cap] w fun e w' => ∃ v c, e = .returned (.slice v 0 c) ∧ Below w.heap.size w w' := by
  obtain ⟨i0, hi, hz0, hz1, hz2⟩ := info_parts info3
  go_enter Tryz.func76, Tryz.ntmps76
  go_wp2_with (at_make; refine wpList_make_full _ rfl (.tmp 7) (.tmp 7) 50 rfl w.heap.size 3 i0 (.int .i64 0) 1 Tryz.underlying50 hi hz0 hz1 .i64 .i64 _ _ 0 rfl rfl (by omega) (by omega) (by rw [hz2]; omega) (by unfold maxLen; omega) (Nat.le_refl _) ?_; intro w1 hown hgrow)
  have hB : Hid (Below w.heap.size w w1) := (Below.refl _ w).grown hgrow (Nat.le_refl _) (fun k hk => by cases hk)
  clear hown hgrow hi hz0 hz1 hz2
  go_loopw [11] (fun i wr => i = .int .i64 0 ∧ Hid (Below w.heap.size w wr)) (fun i _ => 0)
  case atStart => exact ⟨rfl, hB⟩
  case round =>
    obtain ⟨rfl, K⟩ := hrel
    clear hB
    go_wp2
    go_ret
    exact ⟨_, _, rfl, K.out⟩
set_option maxHeartbeats 4000000 in
theorem fmean_any (a : Option Addr) (xs : List Int) (cap : Nat) (w : World) (h : Rd w a xs) (hn : xs.length ≤ 60) (hv : ∀ x ∈ xs, -1000000 ≤ x ∧ x ≤ 1000000) :
    Calls Tryz.prog 28 #[.slice a xs.length cap] w fun e w' => e = .returned (.int .i64 (M.avgI xs)) ∧ Below w.heap.size w w' := by
  by_cases h0 : xs = []
  · subst h0
    have C := hide (counted_no a cap w)
    have E : Hid (M.avgI [] = 0) := rfl
    rw [E.out]
    clear h hn hv E
    go_enter Tryz.func28, Tryz.ntmps28
    go_wp2_with (go_at_call 76; refine C.out.mono ?_; rintro e w1 ⟨v, c, rfl, hb⟩; have B1 := hide hb; clear hb)
    go_ret
    exact ⟨rfl, B1.out⟩
  · have := mean_far a xs cap w h hn (by cases xs; exact absurd rfl h0; simp) hv
    rw [show M.avgI xs = xs.sum / (xs.length : Nat) from if_neg h0]
    exact this
theorem M.avg_in {xs : List Int} (hv : ∀ x ∈ xs, -1000000 ≤ x ∧ x ≤ 1000000) : -1000000 ≤ M.avgI xs ∧ M.avgI xs ≤ 1000000 := by
  unfold M.avgI
  split
  · omega
  · next h0 =>
    have hp : 0 < xs.length := by cases xs; exact absurd rfl h0; simp
    obtain ⟨s1, s2⟩ := M.sumL_bd hv
    have lp : (0 : Int) < (xs.length : Nat) := by omega
    constructor
    · rw [Int.le_ediv_iff_mul_le lp]; omega
    · have : xs.sum / (xs.length : Nat) < 1000000 + 1 := by
        rw [Int.ediv_lt_iff_lt_mul lp]; omega
      omega
set_option maxHeartbeats 4000000 in
theorem rmean_any {w : World} {tb : Nat} {pb : Addr} (s : ByteArray) (l : List Int) (hs : s.size ≤ 50000) (hL : LiesR w (badV tb pb)) (hl : M.listR s.data.toList = some l) (hn : l.length ≤ 60) (hv : ∀ x ∈ l, -1000000 ≤ x ∧ x ≤ 1000000) :
    Calls Tryz.prog 133 #[.string s] w fun e w' => e = .returned (.tuple #[.string (bs (Lib.itoa (M.avgI l))), .nilIface]) ∧ Below w.heap.size w w' := by
  have LS := hide (rdlist_any s hs hL)
  have MN := hide (fun (V : World) (a : Option Addr) (h : Rd V a l) => fmean_any a l l.length V h hn hv)
  have IT : Hid (∀ V, Below w.heap.size w V → Calls Tryz.prog 166 #[.int .i64 (M.avgI l)] V fun e w' => e = .returned (.string (bs (Lib.itoa (M.avgI l)))) ∧ Below V.heap.size V w') := fun V hV => itoa_nine _ V (by have := M.avg_in hv; omega) (hL.below hV).l
  have HL := hide hl
  clear hs hL hl hn hv
  generalize M.avgI l = m at *
  generalize bs (Lib.itoa m) = t at *
  go_enter Tryz.func133, Tryz.ntmps133
  go_upto_region 2 with (go_at_call 165; refine LS.out.mono ?_; rintro e w1 ⟨hb1, hw⟩; have B1 := hide hb1; clear hb1; obtain ⟨l2, a, rfl, rfl, rd⟩ : ∃ l2 a, l = l2 ∧ e = .returned (.tuple #[.slice a l2.length l2.length, .nilIface]) ∧ Rd w1 a l2 := (by
    rcases hw with ⟨l2, h1, a, h2, h3⟩ | ⟨h1, _⟩
    · rw [HL.out] at h1; cases h1; exact ⟨l, a, rfl, h2, h3⟩
    · rw [HL.out] at h1; cases h1); clear hw)
  have M1 := hide (MN.out w1 a rd)
  clear LS MN HL rd
  go_wp2_with (first
    | (go_at_call 28; refine M1.out.mono ?_; rintro e w2 ⟨rfl, hb2⟩; have B2 := hide (below_on B1.out hb2); clear hb2)
    | (go_at_call 166; refine (IT.out _ B2.out).mono ?_; rintro e w3 ⟨rfl, hb3⟩; have B3 := hide (below_on B2.out hb3); clear hb3))
  go_ret2
  exact ⟨rfl, B3.out⟩
set_option maxHeartbeats 4000000 in
theorem rround_any {w : World} {tb : Nat} {pb : Addr} (s t : ByteArray) (a b : Int) (hs : s.size ≤ 50000) (ht : t.size ≤ 50000) (hL : LiesR w (badV tb pb)) (ha : M.numR s.data.toList = some a) (hb : M.numR t.data.toList = some b) :
    Calls Tryz.prog 134 #[.string s, .string t] w fun e w' => e = .returned (.tuple #[.string (bs (Lib.itoa (M.rndI a b))), .nilIface]) ∧ Below w.heap.size w w' := by
  have NR : Hid (Calls Tryz.prog 167 #[.slice (some ⟨w.heap.size, 0, none⟩) 2 2] (w.alloc (.cells #[.string s, .string t] 9)) _) :=
    rdnums_any (ws := [s.data.toList, t.data.toList]) (hL.below ((Below.refl _ w).alloc (Nat.le_refl _) _)) (by simp) (fun i hi => by
      have h : (w.alloc (.cells #[.string s, .string t] 9)).heap[w.heap.size]? = some (.cells #[.string s, .string t] 9 (0, 0)) := Array.getElem?_push_size
      rw [Lib.cell_of_heap h]
      match i, hi with
      | 0, _ => simp [bs_self]
      | 1, _ => simp [bs_self]) (by simp) (fun x hx => by
      have e1 : s.data.toList.length = s.size := by rw [size_eq]
      have e2 : t.data.toList.length = t.size := by rw [size_eq]
      rcases List.mem_cons.1 hx with rfl | hx
      · omega
      · rw [List.mem_singleton.1 hx]; omega)
  have NS : Hid (M.numsR [s.data.toList, t.data.toList] = some [a, b]) := by
    unfold Hid M.numsR
    rw [ha]
    simp only [M.numsR, hb]
  have RI := M.numR_in ha
  have RD := hide (fun V => fround_any a b V)
  have IT : Hid (∀ V, Below w.heap.size w V → Calls Tryz.prog 166 #[.int .i64 (M.rndI a b)] V fun e w' => e = .returned (.string (bs (Lib.itoa (M.rndI a b)))) ∧ Below V.heap.size V w') := fun V hV => itoa_nine _ V (M.rnd_in (m := 999999999) (by omega) (by omega) (by omega) (by omega)) (hL.below hV).l
  have BA : Hid (Below w.heap.size w (w.alloc (.cells #[.string s, .string t] 9))) := (Below.refl _ w).alloc (Nat.le_refl _) _
  clear hs ht hL ha hb RI
  generalize M.rndI a b = m at *
  generalize bs (Lib.itoa m) = tx at *
  go_enter Tryz.func134, Tryz.ntmps134
  go_upto_region 2 with (go_at_call 167; refine NR.out.mono ?_; rintro e w1 ⟨hb1, hw⟩; have B1 := hide (below_on BA.out hb1); clear hb1; obtain ⟨g, rfl, c0, c1⟩ : ∃ g, e = .returned (.tuple #[.slice (some ⟨g, 0, none⟩) 2 2, .nilIface]) ∧ w1.cell? ⟨g, 0, none⟩ = some (.int .i64 a) ∧ w1.cell? ⟨g, 1, none⟩ = some (.int .i64 b) := (by
    rcases hw with ⟨l, h1, h2, h3, h4⟩ | ⟨h1, _⟩
    · rw [NS.out] at h1; cases h1; exact ⟨_, h3, own_at h4 rfl 0 (by simp), own_at h4 rfl 1 (by simp)⟩
    · rw [NS.out] at h1; cases h1); clear hw)
  clear NR NS BA
  go_upto_region 4 with fail
  have mixed : Tryz.prog.follows .mixedOrders = true := by kernel_rfl
  have bd : Below w1.heap.size w1 w1.drew := (Below.refl _ w1).drew
  have BD := hide (below_on B1.out bd)
  go_region_with (first
    | (go_at_call 29; refine (RD.out _).mono ?_; rintro e w2 ⟨rfl, ew⟩; have ew2 := ew.symm; subst ew2)
    | (go_at_call 166; refine (IT.out _ BD.out).mono ?_; rintro e w3 ⟨rfl, hb3⟩; have B3 := hide (below_on BD.out hb3); clear hb3))
  all_goals (
    go_wp2
    go_ret2
    exact ⟨rfl, B3.out⟩)

end Go.Proofs.YtiggkjkjfnlfkaaGreatDoor
