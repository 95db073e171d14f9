/-
  What the reference's none, Row, In, Digits and Show answer: none, Row and In for every argument, Digits for every number of a cell, Show for every row that is right.
-/
import Derived.Test.YtihaphicidjooabGreatDoorRefsA
import Derived.Test.YtihaphicidjooabGreatDoorPrint
import Derived.Test.YtihaphicidjooabGreatDoorMathF
namespace Go.Proofs.YtihaphicidjooabGreatDoor
open Go.ChangeShapes Go.WideShapes Go.ChangeAt Go.RowKit Go.Shelf Go.Lib Go.Sort
set_option linter.unusedVariables false

theorem none_any (x : Int) (w : World) : Calls Tryz.prog 18 #[.int .i64 x] w fun e w' => e = .returned (.bool (decide (x = M.nilI))) ∧ w' = w := by
  have E : Hid ((x == -1125899906842624) = decide (x = M.nilI)) := by
    unfold Hid
    by_cases h : x = M.nilI
    · rw [decide_eq_true h, beq_iff_eq]; exact h
    · rw [decide_eq_false h, beq_eq_false_iff_ne]; exact h
  go_enter Tryz.func18, Tryz.ntmps18
  go_wp2
  go_ret
  exact ⟨ret_bool E.out, rfl⟩

theorem row_hit {xs : List Int} {k : Nat} (h : k < xs.length) (hl : xs.length ≤ 8) (hb : M.badCell xs[k] = true) : M.rowF xs = 1 := by
  unfold M.rowF
  rw [if_neg (by omega), if_pos]
  rw [List.any_eq_true]; exact ⟨_, List.getElem_mem h, hb⟩
theorem row_miss {xs : List Int} {k : Nat} (hk : xs.length ≤ k) (hl : xs.length ≤ 8) (h : (xs.take k).any M.badCell = false) : M.rowF xs = 0 := by
  unfold M.rowF
  rw [List.take_of_length_le hk] at h
  rw [if_neg (by omega), h]; rfl
theorem row_next {xs : List Int} {k : Nat} (hk : k < xs.length) (h : (xs.take k).any M.badCell = false) (hb : M.badCell xs[k] = false) : (xs.take (k + 1)).any M.badCell = false := by
  rw [List.take_succ_eq_append_getElem hk, List.any_append, h]; simp [hb]

set_option maxHeartbeats 1000000 in
theorem rrow_any (a : Option Addr) (xs : List Int) (cap : Nat) (w : World) (h : Rd w a xs) :
    Calls Tryz.prog 4 #[.slice a xs.length cap] w fun e w' => e = .returned (.int .i64 (M.rowF xs)) ∧ w' = w := by
  obtain ⟨hm, hr⟩ := h
  unfold maxLen at hm
  by_cases h8 : 8 < xs.length
  · have E : Hid (4 = M.rowF xs) := by unfold Hid M.rowF; rw [if_pos h8]
    have hd : decide ((8 : Int) < (xs.length : Int)) = true := decide_eq_true (by omega)
    clear hr
    go_enter Tryz.func4, Tryz.ntmps4
    go_wp2
    go_ret
    exact ⟨ret_int E.out, rfl⟩
  · have hd : decide ((8 : Int) < (xs.length : Int)) = false := decide_eq_false (by omega)
    have RH : Hid (∀ k (h : k < xs.length), M.badCell xs[k] = true → M.rowF xs = 1) := fun k h hb => row_hit h (by omega) hb
    have RM : Hid (∀ k, xs.length ≤ k → (xs.take k).any M.badCell = false → M.rowF xs = 0) := fun k hk h => row_miss hk (by omega) h
    have HR := hide hr
    clear hr
    generalize M.rowF xs = f at *
    go_enter Tryz.func4, Tryz.ntmps4
    go_wp2
    go_loop [3] (fun i => ∃ k : Nat, k ≤ xs.length ∧ i = .int .i64 k ∧ Hid ((xs.take k).any M.badCell = false)) (fun i => xs.length - (intOf i).toNat)
    case atStart => exact ⟨0, Nat.zero_le _, rfl, by unfold Hid; simp⟩
    case round =>
      obtain ⟨k, hk, rfl, I⟩ := hrel
      by_cases hlt : k < xs.length
      · obtain ⟨b, off, rfl, hb, hc⟩ := HR.out (by intro e; subst e; simp at hlt)
        have hck := Rd.at hc k hlt
        have C1 := hide (rcell_any xs[k])
        have C2 := hide (none_any xs[k])
        have NX : Hid (M.badCell xs[k] = false → (xs.take (k + 1)).any M.badCell = false) := fun h => row_next hlt I.out h
        have HT : Hid (M.badCell xs[k] = true → f = 1) := RH.out k hlt
        have BE : Hid (M.badCell xs[k] = (!decide (xs[k] = M.nilI) && M.outI xs[k])) := rfl
        clear hc I
        generalize M.badCell xs[k] = bc at *
        generalize M.outI xs[k] = o at *
        generalize decide (xs[k] = M.nilI) = z at *
        generalize xs[k] = y at *
        cases o with
        | true =>
          cases z with
          | true =>
            have N2 := hide (NX.out BE.out)
            clear NX HT BE
            go_wp2_with (first
              | (go_at_call 17; refine (C1.out _).mono ?_; rintro e w' ⟨rfl, rfl⟩)
              | (go_at_call 18; refine (C2.out _).mono ?_; rintro e w' ⟨rfl, rfl⟩))
            go_round
            case rel => exact ⟨k + 1, by omega, by go_num, N2⟩
            case measure => simp [intOf]; omega
          | false =>
            have E := hide (HT.out BE.out)
            clear NX HT BE
            go_wp2_with (first
              | (go_at_call 17; refine (C1.out _).mono ?_; rintro e w' ⟨rfl, rfl⟩)
              | (go_at_call 18; refine (C2.out _).mono ?_; rintro e w' ⟨rfl, rfl⟩))
            go_ret
            exact ⟨ret_int E.out.symm, rfl⟩
        | false =>
          have N2 := hide (NX.out (by rw [BE.out]; simp))
          clear NX HT BE
          go_wp2_with (first
            | (go_at_call 17; refine (C1.out _).mono ?_; rintro e w' ⟨rfl, rfl⟩)
            | (go_at_call 18; refine (C2.out _).mono ?_; rintro e w' ⟨rfl, rfl⟩))
          go_round
          case rel => exact ⟨k + 1, by omega, by go_num, N2⟩
          case measure => simp [intOf]; omega
      · have E := hide (RM.out k (by omega) I.out)
        go_wp2
        go_ret
        exact ⟨ret_int E.out.symm, rfl⟩

theorem rin_any (c lo hi : Int) (nl : Bool) (w : World) :
    Calls Tryz.prog 12 #[.int .i64 c, .agg #[.int .i64 lo, .int .i64 hi, .bool nl]] w fun e w' => e = .returned (.bool (M.inS c (lo, hi, nl))) ∧ Below w.heap.size w w' := by
  have C := hide (none_any c)
  by_cases h1 : c = M.nilI
  · have E : Hid (nl = M.inS c (lo, hi, nl)) := by unfold Hid; rw [M.in_nil h1]
    rw [decide_eq_true h1] at C
    clear h1
    go_enter Tryz.func12, Tryz.ntmps12
    go_wp2_with (go_at_call 18; refine (C.out _).mono ?_; rintro e w' ⟨rfl, rfl⟩)
    go_ret
    exact ⟨ret_bool E.out, (Below.refl _ _).alloc (Nat.le_refl _) _⟩
  · rw [decide_eq_false h1] at C
    by_cases h2 : lo ≤ c
    · have E : Hid (decide (c ≤ hi) = M.inS c (lo, hi, nl)) := by unfold Hid; rw [M.in_num h1]; simp [h2]
      have q2 : decide (lo ≤ c) = true := decide_eq_true h2
      clear h1 h2
      go_enter Tryz.func12, Tryz.ntmps12
      go_wp2_with (go_at_call 18; refine (C.out _).mono ?_; rintro e w' ⟨rfl, rfl⟩)
      go_ret
      exact ⟨ret_bool E.out, (Below.refl _ _).alloc (Nat.le_refl _) _⟩
    · have E : Hid (false = M.inS c (lo, hi, nl)) := by unfold Hid; rw [M.in_num h1]; simp [h2]
      have q2 : decide (lo ≤ c) = false := decide_eq_false h2
      clear h1 h2
      go_enter Tryz.func12, Tryz.ntmps12
      go_wp2_with (go_at_call 18; refine (C.out _).mono ?_; rintro e w' ⟨rfl, rfl⟩)
      go_ret
      exact ⟨ret_bool E.out, (Below.refl _ _).alloc (Nat.le_refl _) _⟩

/-! ### digits -/

theorem dig_fin : ∀ i : Fin 10, (([48, 49, 50, 51, 52, 53, 54, 55, 56, 57] : List UInt8).drop i.val).take 1 = [UInt8.ofNat (48 + i.val)] := by decide +kernel
theorem dig_piece (i : Nat) (h : i < 10) : (⟨#[48, 49, 50, 51, 52, 53, 54, 55, 56, 57]⟩ : ByteArray).extract i (i + 1) = bs [UInt8.ofNat (48 + i)] := by
  rw [extract_eq, show i + 1 - i = 1 by omega]
  exact congrArg bs (dig_fin ⟨i, h⟩)

theorem dig8 (u : Nat) (h : u ≤ 10000000) : (bs (Lib.decDigits u)).size ≤ 8 := by
  have e : (10 : Nat) ^ (7 + 1) = 100000000 := by decide
  rw [bs_size]; exact M.dig_len 7 u (by omega)
theorem bs_app (a b : List UInt8) : bs a ++ bs b = bs (a ++ b) := by
  apply bs_eq
  rw [bs_list]
  simp [bs]

set_option maxHeartbeats 1000000 in
set_option maxRecDepth 100000 in
theorem digits_nat (m : Nat) : ∀ n : Nat, n < m → n ≤ 10000000 → ∀ w : World, Calls Tryz.prog 23 #[.int .i64 n] w fun e w' => e = .returned (.string (bs (Lib.decDigits n))) ∧ w' = w := by
  induction m with
  | zero => intro n h; omega
  | succ m ih =>
    intro n hn hb w
    have IH := hide ih
    have q0 : decide ((n : Int) < 0) = false := decide_eq_false (by omega)
    clear ih
    by_cases h10 : n < 10
    · have E := hide (Lib.decDigits_one h10)
      have q1 : decide ((n : Int) < 10) = true := decide_eq_true (by omega)
      have c1 : (0 : Int) ≤ ↑n := by omega
      have c2 : (↑n : Int) ≤ ↑n + 1 := by omega
      have c3 : (↑n + 1 : Int) ≤ 10 := by omega
      have c4 : (↑n : Int) < 10 := by omega
      go_enter Tryz.func23, Tryz.ntmps23
      go_wp2
      go_ret
      exact ⟨by rw [E.out, ← dig_piece n h10]; rfl, rfl⟩
    · have q1 : decide ((n : Int) < 10) = false := decide_eq_false (by omega)
      have E := hide (M.dig_big h10)
      have R : Hid (Calls Tryz.prog 23 #[.int .i64 ((n : Int) / 10)] w fun e w' => e = .returned (.string (bs (Lib.decDigits (n / 10)))) ∧ w' = w) := by
        have := IH.out (n / 10) (by omega) (by omega) w
        rwa [show ((n / 10 : Nat) : Int) = (n : Int) / 10 by omega] at this
      have c0 : (0 : Int) ≤ ↑n := by omega
      have c1 : (0 : Int) ≤ ↑n % 10 := by omega
      have c2 : (↑n % 10 : Int) ≤ ↑n % 10 + 1 := by omega
      have c3 : (↑n % 10 + 1 : Int) ≤ 10 := by omega
      have c4 : (↑n % 10 : Int) < 10 := by omega
      have ts := dig8 (n / 10) (by omega)
      have E2 : Hid (bs (Lib.decDigits (n / 10)) ++ (⟨#[48, 49, 50, 51, 52, 53, 54, 55, 56, 57]⟩ : ByteArray).extract (n % 10) (n % 10 + 1) = bs (Lib.decDigits n)) := by
        unfold Hid; rw [dig_piece _ (by omega), bs_app, ← E.out]
      have hcat : ¬ 9223372036854775807 < (bs (Lib.decDigits (n / 10))).size + (min (n % 10 + 1) 10 - n % 10) := by omega
      generalize bs (Lib.decDigits (n / 10)) = t at *
      clear IH E ts
      go_enter Tryz.func23, Tryz.ntmps23
      go_wp2_with (go_at_call 23; refine R.out.mono ?_; rintro e w' ⟨rfl, rfl⟩)
      go_ret
      exact ⟨by rw [← E2.out]; rfl, rfl⟩

set_option maxRecDepth 100000 in
theorem digits_any (n : Int) (h : M.outI n = false) (w : World) : Calls Tryz.prog 23 #[.int .i64 n] w fun e w' => e = .returned (.string (bs (Lib.itoa n))) ∧ w' = w := by
  have hb := M.out_false h
  by_cases h0 : n < 0
  · have R : Hid (Calls Tryz.prog 23 #[.int .i64 (-n)] w fun e w' => e = .returned (.string (bs (Lib.decDigits n.natAbs))) ∧ w' = w) := by
      have := digits_nat (n.natAbs + 1) n.natAbs (by omega) (by omega) w
      rwa [show ((n.natAbs : Nat) : Int) = -n by omega] at this
    have E : Hid ((⟨#[45]⟩ : ByteArray) ++ bs (Lib.decDigits n.natAbs) = bs (Lib.itoa n)) := by
      unfold Hid Lib.itoa; rw [if_pos h0]
      exact bs_app [45] _
    have q0 : decide (n < 0) = true := decide_eq_true h0
    have ts := dig8 n.natAbs (by omega)
    have b1 : -1000000 ≤ n := hb.1
    have b2 : n ≤ 1000000 := hb.2
    clear h hb h0
    generalize bs (Lib.decDigits n.natAbs) = t at *
    have hcat : ¬ 9223372036854775807 < 1 + t.size := by omega
    go_enter Tryz.func23, Tryz.ntmps23
    go_wp2_with (go_at_call 23; refine R.out.mono ?_; rintro e w' ⟨rfl, rfl⟩)
    go_ret
    exact ⟨by rw [← E.out]; rfl, rfl⟩
  · have := digits_nat (n.toNat + 1) n.toNat (by omega) (by omega) w
    rw [show ((n.toNat : Nat) : Int) = n by omega] at this
    have e : Lib.itoa n = Lib.decDigits n.toNat := by unfold Lib.itoa; rw [if_neg h0]
    rw [e]
    exact this

/-! ### Show -/

theorem empty_app (t : ByteArray) : (⟨#[]⟩ : ByteArray) ++ t = t := by
  apply bs_eq
  simp

def M.upTo (xs : List Int) (k : Nat) : List UInt8 := Lib.join ((xs.take k).map M.word) [44]
theorem M.upTo_first (xs : List Int) (h : 0 < xs.length) : M.upTo xs 1 = M.word xs[0] := by
  unfold M.upTo
  rw [List.take_succ_eq_append_getElem h]
  simp [Lib.join_one]
theorem join_snoc : ∀ (ws : List (List UInt8)) (w : List UInt8), ws ≠ [] → Lib.join (ws ++ [w]) [44] = Lib.join ws [44] ++ [44] ++ w
  | [], _, h => absurd rfl h
  | x :: t, w, _ => by
    rw [List.cons_append, Lib.join_cons, Lib.join_cons]
    simp [Lib.joinTail]
theorem M.upTo_next (xs : List Int) (k : Nat) (h : k < xs.length) (hk : 0 < k) : M.upTo xs (k + 1) = M.upTo xs k ++ [44] ++ M.word xs[k] := by
  unfold M.upTo
  rw [List.take_succ_eq_append_getElem h, List.map_append, List.map_singleton, join_snoc]
  intro e
  have : (List.map M.word (List.take k xs)).length = 0 := by rw [e]; rfl
  rw [List.length_map, List.length_take] at this
  omega
theorem M.upTo_len (xs : List Int) (k : Nat) (h : M.rowF xs = 0) : (M.upTo xs k).length ≤ 100 := by
  have h2 : M.rowF (xs.take k) = 0 := by
    obtain ⟨g1, g2⟩ := (M.row_ok xs).1 h
    exact (M.row_ok _).2 ⟨by rw [List.length_take]; omega, fun x hx => g2 x (List.mem_of_mem_take hx)⟩
  exact show_len (xs.take k) h2

set_option maxHeartbeats 2000000 in
theorem rshow_any (a : Option Addr) (xs : List Int) (cap : Nat) (w : World) (h : Rd w a xs) (hr : M.rowF xs = 0) :
    Calls Tryz.prog 7 #[.slice a xs.length cap] w fun e w' => e = .returned (.string (bs (M.showL xs))) ∧ w' = w := by
  obtain ⟨l8, hg⟩ := (M.row_ok xs).1 hr
  have HR := hide h.2
  have HG := hide hg
  have EN : Hid (M.upTo xs xs.length = M.showL xs) := by unfold Hid M.upTo M.showL; rw [List.take_length]
  have UL := hide (M.upTo_len xs · hr)
  clear h hg hr
  rw [← EN.out]
  go_enter Tryz.func7, Tryz.ntmps7
  go_wp2
  go_loop [3, 4] (fun s i => ∃ k : Nat, k ≤ xs.length ∧ i = .int .i64 k ∧ s = .string (bs (M.upTo xs k))) (fun _ i => xs.length - (intOf i).toNat)
  case atStart => exact ⟨0, Nat.zero_le _, rfl, rfl⟩
  case round =>
    obtain ⟨k, hk, rfl, rfl⟩ := hrel
    by_cases hlt : k < xs.length
    · obtain ⟨b, off, rfl, hb, hc⟩ := HR.out (by intro e; subst e; simp at hlt)
      have hck := Rd.at hc k hlt
      have NO := hide (none_any xs[k])
      have DI : Hid (xs[k] ≠ M.nilI → ∀ W, Calls Tryz.prog 23 #[.int .i64 xs[k]] W fun e w' => e = .returned (.string (bs (M.word xs[k]))) ∧ w' = W) := fun hn W => by
        have ho : M.outI xs[k] = false := by
          rcases M.bad_false (HG.out _ (List.getElem_mem hlt)) with e | ⟨_, e⟩
          · exact absurd e hn
          · exact e
        have := digits_any xs[k] ho W
        rwa [show Lib.itoa xs[k] = M.word xs[k] by unfold M.word; rw [if_neg hn]] at this
      have NW : Hid (xs[k] = M.nilI → bs (M.word xs[k]) = ⟨#[45]⟩) := fun hn => by unfold M.word; rw [if_pos hn]; rfl
      have WL : (bs (M.word xs[k])).size ≤ 8 := by rw [bs_size]; exact word_len (HG.out _ (List.getElem_mem hlt))
      have SL : (bs (M.upTo xs k)).size ≤ 100 := by rw [bs_size]; exact UL.out k
      have NX : Hid (bs (M.upTo xs (k + 1)) = if k = 0 then bs (M.word xs[k]) else bs (M.upTo xs k) ++ ⟨#[44]⟩ ++ bs (M.word xs[k])) := by
        unfold Hid
        by_cases hk0 : k = 0
        · subst hk0; rw [if_pos rfl, M.upTo_first xs hlt]
        · rw [if_neg hk0, M.upTo_next xs k hlt (by omega), ← bs_app, ← bs_app]; rfl
      have Z : Hid (k = 0 → bs (M.upTo xs k) = ⟨#[]⟩) := fun e => by subst e; rfl
      clear hc
      rcases k with _ | j
      · have e0 := Z.out rfl
        have N2 : Hid (bs (M.upTo xs (0 + 1)) = bs (M.word xs[0])) := by unfold Hid; rw [NX.out, if_pos rfl]
        rw [e0]
        clear e0 NX Z SL
        rw [Nat.add_zero] at hck
        by_cases hn : xs[0] = M.nilI
        · rw [decide_eq_true hn] at NO
          have eW := NW.out hn
          rw [eW] at N2
          clear hn DI NW WL eW
          generalize xs[0] = y at *
          go_wp2_with (go_at_call 18; refine (NO.out _).mono ?_; rintro e w' ⟨rfl, rfl⟩)
          go_round
          case rel => exact ⟨0 + 1, by omega, by go_num, by rw [N2.out]; rfl⟩
          case measure => simp [intOf]; omega
        · rw [decide_eq_false hn] at NO
          have D2 := hide (DI.out hn)
          clear hn DI NW
          generalize bs (M.word xs[0]) = t at *
          generalize xs[0] = y at *
          have hcat2 : ¬ 9223372036854775807 < t.size := by omega
          go_wp2_with (first
            | (go_at_call 18; refine (NO.out _).mono ?_; rintro e w' ⟨rfl, rfl⟩)
            | (go_at_call 23; refine (D2.out _).mono ?_; rintro e w' ⟨rfl, rfl⟩))
          go_round
          case rel => exact ⟨0 + 1, by omega, by go_num, by rw [N2.out, empty_app]⟩
          case measure => simp [intOf]; omega
      · have N2 : Hid (bs (M.upTo xs (j + 1 + 1)) = bs (M.upTo xs (j + 1)) ++ ⟨#[44]⟩ ++ bs (M.word xs[j + 1])) := by unfold Hid; rw [NX.out, if_neg (by omega)]
        clear NX Z
        generalize hU : bs (M.upTo xs (j + 1)) = u at *
        clear hU
        have hcat1 : ¬ 9223372036854775807 < u.size + 1 := by omega
        by_cases hn : xs[j + 1] = M.nilI
        · rw [decide_eq_true hn] at NO
          have eW := NW.out hn
          rw [eW] at N2
          clear hn DI NW WL eW
          generalize xs[j + 1] = y at *
          have hcat2 : ¬ 9223372036854775807 < u.size + 1 + 1 := by omega
          go_wp2_with (go_at_call 18; refine (NO.out _).mono ?_; rintro e w' ⟨rfl, rfl⟩)
          go_round
          case rel => exact ⟨j + 1 + 1, by omega, by go_num, by rw [N2.out]⟩
          case measure => simp [intOf]; omega
        · rw [decide_eq_false hn] at NO
          have D2 := hide (DI.out hn)
          clear hn DI NW
          generalize bs (M.word xs[j + 1]) = t at *
          generalize xs[j + 1] = y at *
          have hcat2 : ¬ 9223372036854775807 < u.size + 1 + t.size := by omega
          go_wp2_with (first
            | (go_at_call 18; refine (NO.out _).mono ?_; rintro e w' ⟨rfl, rfl⟩)
            | (go_at_call 23; refine (D2.out _).mono ?_; rintro e w' ⟨rfl, rfl⟩))
          go_round
          case rel => exact ⟨j + 1 + 1, by omega, by go_num, by rw [N2.out]⟩
          case measure => simp [intOf]; omega
    · have hke : k = xs.length := by omega
      subst hke
      go_wp2
      go_ret
      exact ⟨rfl, rfl⟩

end Go.Proofs.YtihaphicidjooabGreatDoor
