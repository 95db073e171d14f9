/-
  What package cut's checkValues and Ends answer, and orchsame's Ints, for every list.
-/
import Derived.Test.YtpobjlcgamcoiaaDoorMerge
import Derived.Test.YtpobjlcgamcoiaaDoorMathV
namespace Go.Proofs.YtpobjlcgamcoiaaDoor
open Go.ChangeShapes Go.WideShapes Go.ChangeAt Go.RowKit Go.Shelf Go.Lib Go.Sort
set_option linter.unusedVariables false

theorem vals_any (a : Option Addr) (xs : List Int) (cap : Nat) (w : World) (h : Rd w a xs) :
    Calls Tryd.prog 20 #[.slice a xs.length cap] w fun e w' => e = .returned (errV (M.valsI xs)) ∧ Below w.heap.size w w' := by
  have hm : xs.length ≤ 9223372036854775807 := h.1
  have O := hide (outside_any a xs cap w h)
  by_cases h1 : 1000 < xs.length
  · have E : Hid (M.valsI xs = 4) := by unfold Hid M.valsI; rw [if_pos h1]
    have hd : decide ((1000 : Int) < (xs.length : Int)) = true := by simp; omega
    clear h
    go_enter Tryd.func20, Tryd.ntmps20
    go_wp2
    go_ret
    exact ⟨by rw [E.out]; rfl, Below.refl _ _⟩
  · have hd : decide ((1000 : Int) < (xs.length : Int)) = false := by simp; omega
    cases ho : xs.any M.outI with
    | true =>
      have E : Hid (M.valsI xs = 1) := by unfold Hid M.valsI; rw [if_neg h1, ho]; rfl
      rw [ho] at O
      clear h ho
      go_enter Tryd.func20, Tryd.ntmps20
      go_wp2_with (go_at_call 19; refine O.out.mono ?_; rintro e w1 ⟨rfl, q, rfl⟩)
      go_ret
      exact ⟨by rw [E.out]; rfl, below_drew (Below.refl _ _) q (Nat.le_refl _)⟩
    | false =>
      have E : Hid (M.valsI xs = 0) := by unfold Hid M.valsI; rw [if_neg h1, ho]; rfl
      rw [ho] at O
      clear h ho
      go_enter Tryd.func20, Tryd.ntmps20
      go_wp2_with (go_at_call 19; refine O.out.mono ?_; rintro e w1 ⟨rfl, q, rfl⟩)
      go_ret
      exact ⟨by rw [E.out]; rfl, below_drew (Below.refl _ _) q (Nat.le_refl _)⟩

theorem Ends_bad (a : Option Addr) (xs : List Int) (cap : Nat) (k : Int) (w : World) (h : Rd w a xs) (hc : M.cutsI xs ≠ 0) :
    Calls Tryd.prog 14 #[.slice a xs.length cap, .int .i64 k] w fun e w' => e = .returned (.tuple #[.int .i64 0, .int .i64 0, .iface 41 (.int .i64 (M.cutsI xs))]) ∧ Below w.heap.size w w' := by
  have C := hide (check_any a xs cap w h)
  rw [err_some hc] at C
  clear h hc
  generalize M.cutsI xs = c at *
  go_enter Tryd.func14, Tryd.ntmps14
  go_wp2_with (go_at_call 6; refine C.out.mono ?_; rintro e w1 ⟨rfl, hb1⟩)
  go_ret3
  exact ⟨rfl, hb1⟩

theorem Ends_out (a : Option Addr) (xs : List Int) (cap : Nat) (k : Int) (w : World) (h : Rd w a xs) (hc : M.cutsI xs = 0) (hk : k < 0 ∨ (xs.length : Int) < k) :
    Calls Tryd.prog 14 #[.slice a xs.length cap, .int .i64 k] w fun e w' => e = .returned (.tuple #[.int .i64 0, .int .i64 0, .iface 41 (.int .i64 1)]) ∧ Below w.heap.size w w' := by
  have hm : xs.length ≤ 9223372036854775807 := h.1
  have C := hide (check_any a xs cap w h)
  rw [err_nil hc] at C
  clear h hc
  rcases hk with hk | hk
  · have h1 : decide (k < 0) = true := decide_eq_true hk
    clear hk
    go_enter Tryd.func14, Tryd.ntmps14
    go_wp2_with (go_at_call 6; refine C.out.mono ?_; rintro e w1 ⟨rfl, hb1⟩)
    go_ret3
    exact ⟨rfl, hb1⟩
  · have h1 : decide (k < 0) = false := decide_eq_false (by omega)
    have h2 : decide ((xs.length : Int) < k) = true := decide_eq_true hk
    clear hk
    go_enter Tryd.func14, Tryd.ntmps14
    go_wp2_with (go_at_call 6; refine C.out.mono ?_; rintro e w1 ⟨rfl, hb1⟩)
    go_ret3
    exact ⟨rfl, hb1⟩

theorem low_zero (c : List Int) : M.lowI c 0 = -1000000 := rfl
theorem low_succ (c : List Int) (j : Nat) (h : j < c.length) : M.lowI c (j + 1) = c[j] := by
  unfold M.lowI; rw [if_neg (by omega)]; simp [List.getD, List.getElem?_eq_getElem h]
theorem high_some (c : List Int) (k : Nat) (h : k < c.length) : M.highI c k = c[k] - 1 := by
  unfold M.highI; rw [if_pos h]; simp [List.getD, List.getElem?_eq_getElem h]
theorem high_last (c : List Int) (k : Nat) (h : ¬ k < c.length) : M.highI c k = 1000000 := by
  unfold M.highI; rw [if_neg h]

set_option maxHeartbeats 1000000 in
theorem Ends_ok (a : Option Addr) (xs : List Int) (cap : Nat) (k : Nat) (w : World) (h : Rd w a xs) (hc : M.cutsI xs = 0) (hk : k ≤ xs.length) :
    Calls Tryd.prog 14 #[.slice a xs.length cap, .int .i64 k] w fun e w' => e = .returned (.tuple #[.int .i64 (M.lowI xs k), .int .i64 (M.highI xs k), .nilIface]) ∧ Below w.heap.size w w' := by
  have hm : xs.length ≤ 9223372036854775807 := h.1
  have C := hide (check_any a xs cap w h)
  rw [err_nil hc] at C
  have HR := h
  have OK := ((M.cuts_ok xs).1 hc).2.1
  clear hc
  have h1 : decide ((k : Int) < 0) = false := decide_eq_false (by omega)
  have h2 : ¬ ((xs.length : Int) < (k : Int)) := by omega
  have g2 : decide ((xs.length : Int) < (k : Int)) = false := decide_eq_false h2
  clear h2
  by_cases hlt : k < xs.length
  · obtain ⟨b, off, rfl, hb, hcells⟩ := h.2 (by intro e; subst e; simp at hlt)
    have hck := Rd.at hcells k hlt
    have EH := hide (high_some xs k hlt)
    have bd := M.out_false (OK xs[k] (List.getElem_mem _))
    have h3 : decide ((k : Int) < (xs.length : Int)) = true := decide_eq_true (by omega)
    rcases k with _ | j
    · have EL := hide (low_zero xs)
      rw [Nat.add_zero] at hck
      generalize xs[0] = y at *
      have CK : Hid (∀ W, Below w.heap.size w W → W.cell? ⟨b, off, none⟩ = some (.int .i64 y)) := fun W hW => (hW.cell (p := ⟨b, off, none⟩) hb).trans hck
      clear h HR hck hcells OK
      have h4 : decide ((0 : Int) < ((0 : Nat) : Int)) = false := by simp
      go_enter Tryd.func14, Tryd.ntmps14
      go_wp2_with (go_at_call 6; refine C.out.mono ?_; rintro e w1 ⟨rfl, hb1⟩; have hck := CK.out w1 hb1)
      go_ret3
      exact ⟨by rw [EL.out, EH.out]; rfl, hb1⟩
    · have hjl : j < xs.length := by omega
      have hcj := Rd.at hcells j hjl
      have EL := hide (low_succ xs j hjl)
      generalize xs[j + 1] = y at *
      generalize xs[j] = z at *
      have CK : Hid (∀ W, Below w.heap.size w W → W.cell? ⟨b, off + (j + 1), none⟩ = some (.int .i64 y) ∧ W.cell? ⟨b, off + j, none⟩ = some (.int .i64 z)) := fun W hW => ⟨(hW.cell (p := ⟨b, off + (j + 1), none⟩) hb).trans hck, (hW.cell (p := ⟨b, off + j, none⟩) hb).trans hcj⟩
      clear h HR hck hcj hcells OK
      have h4 : decide ((0 : Int) < ((j + 1 : Nat) : Int)) = true := decide_eq_true (by omega)
      go_enter Tryd.func14, Tryd.ntmps14
      go_wp2_with (go_at_call 6; refine C.out.mono ?_; rintro e w1 ⟨rfl, hb1⟩; have hck := (CK.out w1 hb1).1; have hcj := (CK.out w1 hb1).2)
      go_ret3
      exact ⟨by rw [EL.out, EH.out]; rfl, hb1⟩
  · have EH := hide (high_last xs k hlt)
    have h3 : decide ((k : Int) < (xs.length : Int)) = false := decide_eq_false (by omega)
    rcases k with _ | j
    · have EL := hide (low_zero xs)
      clear h HR OK
      have h4 : decide ((0 : Int) < ((0 : Nat) : Int)) = false := by simp
      go_enter Tryd.func14, Tryd.ntmps14
      go_wp2_with (go_at_call 6; refine C.out.mono ?_; rintro e w1 ⟨rfl, hb1⟩)
      go_ret3
      exact ⟨by rw [EL.out, EH.out]; rfl, hb1⟩
    · have hjl : j < xs.length := by omega
      obtain ⟨b, off, rfl, hb, hcells⟩ := h.2 (by intro e; subst e; simp at hjl)
      have hcj := Rd.at hcells j hjl
      have EL := hide (low_succ xs j hjl)
      generalize xs[j] = z at *
      have CK : Hid (∀ W, Below w.heap.size w W → W.cell? ⟨b, off + j, none⟩ = some (.int .i64 z)) := fun W hW => (hW.cell (p := ⟨b, off + j, none⟩) hb).trans hcj
      clear h HR hcj hcells OK
      have h4 : decide ((0 : Int) < ((j + 1 : Nat) : Int)) = true := decide_eq_true (by omega)
      go_enter Tryd.func14, Tryd.ntmps14
      go_wp2_with (go_at_call 6; refine C.out.mono ?_; rintro e w1 ⟨rfl, hb1⟩; have hcj := CK.out w1 hb1)
      go_ret3
      exact ⟨by rw [EL.out, EH.out]; rfl, hb1⟩

end Go.Proofs.YtpobjlcgamcoiaaDoor
