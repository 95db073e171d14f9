/-
  What the reference's Digits answers, for every number of a cell.
-/
import Derived.Test.YtiggkjkjfnlfkaaGreatDoorBs
import Derived.Test.YtiggkjkjfnlfkaaGreatDoorMathR
namespace Go.Proofs.YtiggkjkjfnlfkaaGreatDoor
open Go.ChangeShapes Go.WideShapes Go.ChangeAt Go.RowKit Go.Lib
set_option linter.unusedVariables false

theorem dig_fin : ∀ i : Fin 10, (([48, 49, 50, 51, 52, 53, 54, 55, 56, 57] : List UInt8).drop i.val).take 1 = [UInt8.ofNat (48 + i.val)] := by decide +kernel
theorem dig_piece (i : Nat) (h : i < 10) : (⟨#[48, 49, 50, 51, 52, 53, 54, 55, 56, 57]⟩ : ByteArray).extract i (i + 1) = bs [UInt8.ofNat (48 + i)] := by
  rw [extract_eq, show i + 1 - i = 1 by omega]
  exact congrArg bs (dig_fin ⟨i, h⟩)

theorem dig8 (u : Nat) (h : u ≤ 10000000) : (bs (Lib.decDigits u)).size ≤ 8 := by
  have e : (10 : Nat) ^ (7 + 1) = 100000000 := by decide
  rw [bs_size]; exact M.dig_len 7 u (by omega)
set_option maxHeartbeats 1000000 in
set_option maxRecDepth 100000 in
theorem digits_nat (m : Nat) : ∀ n : Nat, n < m → n ≤ 10000000 → ∀ w : World, Calls Tryz.prog 27 #[.int .i64 n] w fun e w' => e = .returned (.string (bs (Lib.decDigits n))) ∧ w' = w := by
  induction m with
  | zero => intro n h; omega
  | succ m ih =>
    intro n hn hb w
    have IH := hide ih
    have q0 : decide ((n : Int) < 0) = false := decide_eq_false (by omega)
    clear ih
    by_cases h10 : n < 10
    · have E := hide (Lib.decDigits_one h10)
      have q1 : decide ((n : Int) < 10) = true := decide_eq_true (by omega)
      have c1 : (0 : Int) ≤ ↑n := by omega
      have c2 : (↑n : Int) ≤ ↑n + 1 := by omega
      have c3 : (↑n + 1 : Int) ≤ 10 := by omega
      have c4 : (↑n : Int) < 10 := by omega
      go_enter Tryz.func27, Tryz.ntmps27
      go_wp2
      go_ret
      exact ⟨by rw [E.out, ← dig_piece n h10]; rfl, rfl⟩
    · have q1 : decide ((n : Int) < 10) = false := decide_eq_false (by omega)
      have E := hide (M.dig_big h10)
      have R : Hid (Calls Tryz.prog 27 #[.int .i64 ((n : Int) / 10)] w fun e w' => e = .returned (.string (bs (Lib.decDigits (n / 10)))) ∧ w' = w) := by
        have := IH.out (n / 10) (by omega) (by omega) w
        rwa [show ((n / 10 : Nat) : Int) = (n : Int) / 10 by omega] at this
      have c0 : (0 : Int) ≤ ↑n := by omega
      have c1 : (0 : Int) ≤ ↑n % 10 := by omega
      have c2 : (↑n % 10 : Int) ≤ ↑n % 10 + 1 := by omega
      have c3 : (↑n % 10 + 1 : Int) ≤ 10 := by omega
      have c4 : (↑n % 10 : Int) < 10 := by omega
      have ts := dig8 (n / 10) (by omega)
      have E2 : Hid (bs (Lib.decDigits (n / 10)) ++ (⟨#[48, 49, 50, 51, 52, 53, 54, 55, 56, 57]⟩ : ByteArray).extract (n % 10) (n % 10 + 1) = bs (Lib.decDigits n)) := by
        unfold Hid; rw [dig_piece _ (by omega), bs_app, ← E.out]
      have hcat : ¬ 9223372036854775807 < (bs (Lib.decDigits (n / 10))).size + (min (n % 10 + 1) 10 - n % 10) := by omega
      generalize bs (Lib.decDigits (n / 10)) = t at *
      clear IH E ts
      go_enter Tryz.func27, Tryz.ntmps27
      go_wp2_with (go_at_call 27; refine R.out.mono ?_; rintro e w' ⟨rfl, rfl⟩)
      go_ret
      exact ⟨by rw [← E2.out]; rfl, rfl⟩

set_option maxRecDepth 100000 in
theorem digits_any (n : Int) (h : M.outI n = false) (w : World) : Calls Tryz.prog 27 #[.int .i64 n] w fun e w' => e = .returned (.string (bs (Lib.itoa n))) ∧ w' = w := by
  have hb := M.out_false h
  by_cases h0 : n < 0
  · have R : Hid (Calls Tryz.prog 27 #[.int .i64 (-n)] w fun e w' => e = .returned (.string (bs (Lib.decDigits n.natAbs))) ∧ w' = w) := by
      have := digits_nat (n.natAbs + 1) n.natAbs (by omega) (by omega) w
      rwa [show ((n.natAbs : Nat) : Int) = -n by omega] at this
    have E : Hid ((⟨#[45]⟩ : ByteArray) ++ bs (Lib.decDigits n.natAbs) = bs (Lib.itoa n)) := by
      unfold Hid Lib.itoa; rw [if_pos h0]
      exact bs_app [45] _
    have q0 : decide (n < 0) = true := decide_eq_true h0
    have ts := dig8 n.natAbs (by omega)
    have b1 : -1000000 ≤ n := hb.1
    have b2 : n ≤ 1000000 := hb.2
    clear h hb h0
    generalize bs (Lib.decDigits n.natAbs) = t at *
    have hcat : ¬ 9223372036854775807 < 1 + t.size := by omega
    go_enter Tryz.func27, Tryz.ntmps27
    go_wp2_with (go_at_call 27; refine R.out.mono ?_; rintro e w' ⟨rfl, rfl⟩)
    go_ret
    exact ⟨by rw [← E.out]; rfl, rfl⟩
  · have := digits_nat (n.toNat + 1) n.toNat (by omega) (by omega) w
    rw [show ((n.toNat : Nat) : Int) = n by omega] at this
    have e : Lib.itoa n = Lib.decDigits n.toNat := by unfold Lib.itoa; rw [if_neg h0]
    rw [e]
    exact this

end Go.Proofs.YtiggkjkjfnlfkaaGreatDoor
