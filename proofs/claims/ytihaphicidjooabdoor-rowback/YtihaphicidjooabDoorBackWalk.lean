/-
  The law RowBack: for every row and every text that may be it returns true; the table of powers and the two errors of package strconv lie as that package lays them.
-/
import Derived.Test.YtihaphicidjooabDoorPrint
import Derived.Test.YtihaphicidjooabDoorInts
namespace Go.Proofs.YtihaphicidjooabDoor
open Go.ChangeShapes Go.WideShapes Go.ChangeAt Go.RowKit Go.Shelf Go.Lib Go.Sort
set_option linter.unusedVariables false

theorem show_fact : M.showL [1, M.nilI, -3] = [49, 44, 45, 44, 45, 51] := by
  have h1 : M.word 1 = [49] := by
    unfold M.word; rw [if_neg (by decide)]
    show (if (1 : Int) < 0 then _ else Lib.decDigits 1) = _
    rw [if_neg (by decide), Lib.decDigits_one (by decide)]; rfl
  have h2 : M.word M.nilI = [45] := by unfold M.word; rw [if_pos rfl]
  have h3 : M.word (-3) = [45, 51] := by
    unfold M.word; rw [if_neg (by decide)]
    show (if (-3 : Int) < 0 then 45 :: Lib.decDigits 3 else _) = _
    rw [if_pos (by decide), Lib.decDigits_one (by decide)]; rfl
  unfold M.showL
  rw [List.map_cons, List.map_cons, List.map_cons, List.map_nil, h1, h2, h3]
  rfl
theorem parse_fact : M.parseL [49, 44, 45, 44, 45, 51] = ([1, M.nilI, -3], 0) := by
  rw [← show_fact]; exact M.parse_show _ (by decide)

set_option maxHeartbeats 4000000 in
set_option maxRecDepth 10000 in
theorem back_walk (a : Option Addr) (xs : List Int) (ca : Nat) (s : ByteArray) (w : World) (ha : Rd w a xs) (hs : s.size ≤ 281474976710656) (hL : Lies w) :
    Calls Tryd.prog 3 #[.slice a xs.length ca, .string s] w fun e w' => e = .returned (.bool true) ∧ Below w.heap.size w w' := by
  have F1 : Hid (Calls Tryd.prog 4 #[.string ⟨#[49, 44, 45, 44, 45, 51]⟩] w fun e w' => ∃ ag cg, e = .returned (.tuple #[.slice ag 3 cg, .nilIface]) ∧ Rd w' ag [1, M.nilI, -3] ∧ Below w.heap.size w w') := by
    have := parse_any ⟨#[49, 44, 45, 44, 45, 51]⟩ w (by decide) hL
    rw [show (⟨#[49, 44, 45, 44, 45, 51]⟩ : ByteArray).data.toList = [49, 44, 45, 44, 45, 51] from rfl, parse_fact, err_nil rfl] at this
    exact this
  have PR : Hid (∀ W, Below w.heap.size w W → Calls Tryd.prog 5 #[.slice a xs.length ca] W fun e w' => e = .returned (.tuple #[.string (bs (M.printL xs)), errV (M.rowF xs)]) ∧ Below W.heap.size W w') := fun W hW => print_any a xs ca W (ha.below hW) (hL.below hW)
  have HA := hide ha
  have HL := hide hL
  clear ha hL
  have B0 := hide (Below.refl w.heap.size w)
  go_enter Tryd.func3, Tryd.ntmps3
  go_upto_region 2 with (go_at_call 4; refine F1.out.mono ?_; rintro e w1 ⟨ag, cg, rfl, RF, hb1⟩)
  obtain ⟨fb, fo, rfl, hfb, hfc⟩ := RF.2 (by simp)
  have f1 : w1.cell? ⟨fb, fo + 1, none⟩ = some (.int .i64 (-1125899906842624)) := hfc 1 (by decide)
  have f2 : w1.cell? ⟨fb, fo + 2, none⟩ = some (.int .i64 (-3)) := hfc 2 (by decide)
  clear RF hfc F1
  go_upto_region 4 with fail
  clear f1 f2 hfb
  have K1 := hide hb1
  clear hb1
  go_upto_region 5 with (go_at_call 5; refine (PR.out _ K1.out).mono ?_; rintro e w2 ⟨rfl, hb2⟩)
  have K2 := hide (below_on K1.out hb2)
  clear hb2 PR K1
  go_cut [8, 43] from 37 to 43 (fun _ s wx => ∃ q : Bool, s = .bool q ∧ Hid (q = true → M.rowF xs = 0) ∧ wx = w2)
  case first =>
    by_cases h : M.rowF xs = 0
    · have H := hide h
      rw [err_nil h]
      clear h
      go_wp2
      go_meet
      case rel => exact ⟨true, rfl, fun _ => H.out, rfl⟩
    · rw [err_some h]
      clear h
      generalize M.rowF xs = f at *
      go_wp2
      go_meet
      case rel => exact ⟨false, rfl, (fun h => by cases h), rfl⟩
  case rest =>
    obtain ⟨q, rfl, HQ, rfl⟩ := hcut
    go_upto_if 43 with fail
    go_cut [9, 10, 11] from 44 to 57 (fun _ _ _ wx => Hid (Below w.heap.size w wx))
    case first =>
      cases q with
      | true =>
        have h := HQ.out rfl
        have P2 : Hid (Calls Tryd.prog 4 #[.string (bs (M.printL xs))] wc fun e w' => ∃ ag cg, e = .returned (.tuple #[.slice ag xs.length cg, .nilIface]) ∧ Rd w' ag xs ∧ Below wc.heap.size wc w') := by
          have e : M.printL xs = M.showL xs := by unfold M.printL; rw [if_pos h]
          have := parse_any (bs (M.printL xs)) wc (by rw [bs_size, e]; have := show_len xs h; omega) (HL.out.below K2.out)
          rw [bs_list, e, M.parse_show xs h, err_nil rfl] at this
          rw [e]
          exact this
        have IN : Hid (∀ ag cg W, Below w.heap.size w W → Rd W ag xs → Calls Tryd.prog 6 #[.slice ag xs.length cg, .slice a xs.length ca] W fun e w' => e = .returned (.bool true) ∧ Below W.heap.size W w') := fun ag cg W hW hR => by
          have := ints_any ag a xs xs cg ca W hR (HA.out.below hW)
          rw [decide_eq_true rfl] at this
          exact this
        clear h HQ
        generalize bs (M.printL xs) = t at *
        go_wp2_with (first
          | (go_at_call 4; refine P2.out.mono ?_; rintro e w3 ⟨ag, cg', rfl, RP, hb3⟩; have k3 := below_on K2.out hb3; have HRP := hide RP; clear RP)
          | (go_at_call 6; refine (IN.out _ _ _ k3 HRP.out).mono ?_; rintro e w4 ⟨rfl, hb4⟩))
        go_meet
        case rel => exact below_on k3 hb4
      | false =>
        go_wp2
        go_meet
        case rel => exact K2
    case rest =>
      have K4 : Hid (Below w.heap.size w wc) := hcut
      clear hcut HQ K2
      have P3 := hide (parse_any s wc hs (HL.out.below K4.out))
      by_cases hc : (M.parseL s.data.toList).2 = 0
      · obtain ⟨g1, g2⟩ := M.show_parse _ hc
        have P4 : Hid (∀ ag cg W, Below w.heap.size w W → Rd W ag (M.parseL s.data.toList).1 → Calls Tryd.prog 5 #[.slice ag (M.parseL s.data.toList).1.length cg] W fun e w' => e = .returned (.tuple #[.string s, .nilIface]) ∧ Below W.heap.size W w') := fun ag cg W hW hR => by
          have := print_any ag _ cg W hR (HL.out.below hW)
          have e : M.printL (M.parseL s.data.toList).1 = s.data.toList := by unfold M.printL; rw [if_pos g1]; exact g2
          rw [e, g1, err_nil rfl, bs_self] at this
          exact this
        rw [err_nil hc] at P3
        clear hc g1 g2
        generalize (M.parseL s.data.toList).1 = R at *
        go_wp2_with (first
          | (go_at_call 4; refine P3.out.mono ?_; rintro e w5 ⟨ag, cg', rfl, RP, hb5⟩; have k5 := below_on K4.out hb5; have HRP := hide RP; clear RP)
          | (go_at_call 5; refine (P4.out _ _ _ k5 HRP.out).mono ?_; rintro e w6 ⟨rfl, hb6⟩))
        go_ret
        exact ⟨rfl, below_on k5 hb6⟩
      · rw [err_some hc] at P3
        clear hc
        generalize (M.parseL s.data.toList).1 = R at *
        generalize (M.parseL s.data.toList).2 = f at *
        go_wp2_with (go_at_call 4; refine P3.out.mono ?_; rintro e w5 ⟨ag, cg', rfl, RP, hb5⟩)
        go_ret
        exact ⟨rfl, below_on K4.out hb5⟩

end Go.Proofs.YtihaphicidjooabDoor
