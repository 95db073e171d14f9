/-
  What package row's cells as text answer: printCell for every cell, strings.Cut at a comma for every text, parseCell for every word; the table of powers and the two errors of package strconv lie as that package lays them.
-/
import Derived.Test.YtihaphicidjooabGreatDoorRowCheck
import Derived.Shelf.SlSorted.Search
import Derived.Lib.AppendIntMem
import Derived.Lib.AtoiErrMem
namespace Go.Proofs.YtihaphicidjooabGreatDoor
open Go.ChangeShapes Go.WideShapes Go.ChangeAt Go.RowKit Go.Shelf Go.Lib Go.Sort
set_option linter.unusedVariables false

/-- a text of these bytes -/
def bs (l : List UInt8) : ByteArray := ⟨l.toArray⟩
theorem bs_list (l : List UInt8) : (bs l).data.toList = l := by simp [bs]
theorem bs_self (s : ByteArray) : bs s.data.toList = s := mk_data s
theorem bs_size (l : List UInt8) : (bs l).size = l.length := by rw [size_eq, bs_list]
theorem bs_take (s : ByteArray) (i : Nat) (h : i ≤ s.size) : bs (s.data.toList.take i) = s.extract 0 i := by
  rw [extract_eq]; simp [bs]
theorem bs_drop (s : ByteArray) (i : Nat) : bs (s.data.toList.drop i) = s.extract i s.size := by
  rw [extract_eq, List.take_of_length_le (by rw [List.length_drop, ← size_eq]; exact Nat.le_refl _)]; rfl
theorem bs_eq {s t : ByteArray} (h : s.data.toList = t.data.toList) : s = t := by rw [← bs_self s, ← bs_self t, h]

/-- what package strconv's variables hold -/
def Lies (w : World) : Prop :=
  (∃ te pe, w.cell? ⟨2, 0, none⟩ = some (.iface te pe)) ∧ (∃ te pe, w.cell? ⟨3, 0, none⟩ = some (.iface te pe)) ∧ Lib.TabIs Tryz.prog w "internal/strconv.uint64pow10" .u64 Lib.pow10Tab
theorem Lies.below {w w' : World} (h : Lies w) (hb : Below w.heap.size w w') : Lies w' := by
  obtain ⟨⟨t1, p1, h1⟩, ⟨t2, p2, h2⟩, h3⟩ := h
  exact ⟨⟨t1, p1, (hb.cell (p := ⟨2, 0, none⟩) (block_lt_of_cell h1)).trans h1⟩, ⟨t2, p2, (hb.cell (p := ⟨3, 0, none⟩) (block_lt_of_cell h2)).trans h2⟩, tabBelow_of_tabIs h3 _ hb⟩

theorem below_grow (w : World) (q : Nat) (os : Array Obj) : Below w.heap.size w (grow (w.drewN q) os) := below_grown_sl w.heap.size w q os (Nat.le_refl _)
theorem itoa_any (n : Int) (w : World) (h : M.outI n = false) (hL : Lies w) :
    Calls Tryz.prog 36 #[.int .i64 n] w fun e w' => e = .returned (.string (bs (Lib.itoa n))) ∧ Below w.heap.size w w' := by
  have := M.out_false h
  refine (Tryz.strconv_Itoa n (by omega) (by omega) w hL.2.2).mono ?_
  rintro e w' ⟨rfl, k, os, rfl⟩
  exact ⟨rfl, below_grow w k os⟩

theorem printCell_any (c : Int) (w : World) (h : M.badCell c = false) (hL : Lies w) :
    Calls Tryz.prog 24 #[.int .i64 c] w fun e w' => e = .returned (.string (bs (M.word c))) ∧ Below w.heap.size w w' := by
  rcases M.bad_false h with h1 | ⟨h1, ho⟩
  · have q : (c == -1125899906842624) = true := by rw [beq_iff_eq]; exact h1
    have E : Hid (bs (M.word c) = ⟨#[45]⟩) := by unfold Hid M.word; rw [if_pos h1]; rfl
    clear h h1
    go_enter Tryz.func24, Tryz.ntmps24
    go_wp2
    go_ret
    exact ⟨by rw [E.out]; rfl, Below.refl _ _⟩
  · have q : (c == -1125899906842624) = false := by rw [beq_eq_false_iff_ne]; exact h1
    have E : Hid (bs (M.word c) = bs (Lib.itoa c)) := by unfold Hid M.word; rw [if_neg h1]
    have C := hide (itoa_any c w ho hL)
    clear h h1 ho
    generalize bs (Lib.itoa c) = t at *
    go_enter Tryz.func24, Tryz.ntmps24
    go_wp2_with (go_at_call 36; refine C.out.mono ?_; rintro e w1 ⟨rfl, hb1⟩)
    go_ret
    exact ⟨by rw [E.out]; rfl, hb1⟩

theorem index_cases (l : List UInt8) : Lib.indexByte l 44 = -1 ∨ ∃ i : Nat, Lib.indexByte l 44 = (i : Int) := by
  have := Lib.indexByte_ge l 44
  by_cases h : Lib.indexByte l 44 = -1
  · exact .inl h
  · exact .inr ⟨(Lib.indexByte l 44).toNat, by omega⟩

set_option maxHeartbeats 2000000 in
theorem scut_any (s : ByteArray) (w : World) (hs : s.size ≤ 281474976710656) :
    Calls Tryz.prog 40 #[.string s, .string ⟨#[44]⟩] w fun e w' => e = .returned (.tuple #[.string (bs (M.cut1 s.data.toList).1), .string (bs (M.cut1 s.data.toList).2.1), .bool (M.cut1 s.data.toList).2.2]) ∧ ∃ n, w' = w.drewN n := by
  rcases index_cases s.data.toList with h | ⟨i, h⟩
  · rw [M.cut1_miss _ h, bs_self]
    have C := hide (Tryz.stringslite_Index_one s 44 w)
    rw [h] at C
    have E : Hid (bs [] = ⟨#[]⟩) := rfl
    clear h
    generalize bs [] = t at *
    go_enter Tryz.func40, Tryz.ntmps40
    go_wp2_with (go_at_call 51; refine C.out.mono ?_; rintro e w1 ⟨rfl, rfl⟩)
    go_ret3
    exact ⟨by rw [E.out]; rfl, 0, rfl⟩
  · obtain ⟨hi, e⟩ := M.cut1_hit _ i h
    rw [e]
    have hi' : i < s.size := by rw [size_eq]; exact hi
    have C := hide (Tryz.stringslite_Index_one s 44 w)
    rw [h] at C
    have E1 := hide (bs_take s i (by omega))
    have E2 := hide (bs_drop s (i + 1))
    have c1 : (0 : Int) ≤ ↑i := by omega
    have c2 : (↑i : Int) ≤ ↑s.size := by omega
    have c3 : (0 : Int) ≤ ↑i + 1 := by omega
    have c4 : (↑i + 1 : Int) ≤ ↑s.size := by omega
    clear h e hi
    generalize bs (s.data.toList.take i) = t1 at *
    generalize bs (s.data.toList.drop (i + 1)) = t2 at *
    go_enter Tryz.func40, Tryz.ntmps40
    go_wp2_with (go_at_call 51; refine C.out.mono ?_; rintro e w1 ⟨rfl, rfl⟩)
    go_region
    all_goals go_wp2
    all_goals go_ret3
    all_goals exact ⟨by rw [E1.out, E2.out]; rfl, 1, rfl⟩

theorem cut_any (s : ByteArray) (w : World) (hs : s.size ≤ 281474976710656) :
    Calls Tryz.prog 28 #[.string s, .string ⟨#[44]⟩] w fun e w' => e = .returned (.tuple #[.string (bs (M.cut1 s.data.toList).1), .string (bs (M.cut1 s.data.toList).2.1), .bool (M.cut1 s.data.toList).2.2]) ∧ Below w.heap.size w w' := by
  have C := hide (scut_any s w hs)
  generalize bs (M.cut1 s.data.toList).1 = t1 at *
  generalize bs (M.cut1 s.data.toList).2.1 = t2 at *
  generalize (M.cut1 s.data.toList).2.2 = q at *
  go_enter Tryz.func28, Tryz.ntmps28
  go_wp2_with (go_at_call 40; refine C.out.mono ?_; rintro e w1 ⟨rfl, n, rfl⟩)
  go_ret3
  exact ⟨rfl, below_drew (Below.refl _ _) n (Nat.le_refl _)⟩

theorem atoi_good (s : ByteArray) (n : Int) (w : World) (hs : s.size ≤ 281474976710656) (h : Lib.atoiAll s.data.toList = .ok n) :
    Calls Tryz.prog 41 #[.string s] w fun e w' => e = .returned (.tuple #[.int .i64 n, .nilIface]) ∧ Below w.heap.size w w' := by
  refine (Tryz.strconv_Atoi_ok s (by omega) n h w).mono ?_
  rintro e w' ⟨rfl, hw⟩
  refine ⟨rfl, ?_⟩
  rcases hw with rfl | ⟨t, rfl⟩
  · exact Below.refl _ _
  · exact bytesWorld_below w _ t
theorem atoi_bad (s : ByteArray) (w : World) (hs : s.size ≤ 281474976710656) (hL : Lies w) (h : ∀ n, Lib.atoiAll s.data.toList ≠ .ok n) :
    Calls Tryz.prog 41 #[.string s] w fun e w' => ∃ n N, e = .returned (.tuple #[.int .i64 n, .iface 111 (.pointer (some ⟨N, 0, none⟩))]) ∧ Below w.heap.size w w' := by
  obtain ⟨⟨t1, p1, h1⟩, ⟨t2, p2, h2⟩, _⟩ := hL
  rcases hA : Lib.atoiAll s.data.toList with n | _ | _
  · exact absurd hA (h n)
  · refine (Tryz.strconv_Atoi_syntax s hs hA _ w h1 (.inr ⟨_, _, rfl⟩)).mono ?_
    rintro e w' ⟨N, rfl, _, _, hb⟩
    exact ⟨0, N, rfl, hb⟩
  · refine (Tryz.strconv_Atoi_range s hs hA _ w h2 (.inr ⟨_, _, rfl⟩)).mono ?_
    rintro e w' ⟨N, rfl, _, _, hb⟩
    exact ⟨_, N, rfl, hb⟩

theorem cell_ok {w : List UInt8} {n : Int} (h45 : w ≠ [45]) (h : Lib.atoiAll w = .ok n) : M.cellOf w = if M.outI n = false ∧ Lib.itoa n = w then some n else none := by
  unfold M.cellOf; rw [if_neg h45, h]
theorem cell_no {w : List UInt8} (h45 : w ≠ [45]) (h : ∀ n, Lib.atoiAll w ≠ .ok n) : M.cellOf w = none := by
  unfold M.cellOf; rw [if_neg h45]
  rcases hA : Lib.atoiAll w with n | _ | _
  · exact absurd hA (h n)
  · rfl
  · rfl

set_option maxHeartbeats 2000000 in
theorem parseCell_any (s : ByteArray) (w : World) (hs : s.size ≤ 281474976710656) (hL : Lies w) :
    Calls Tryz.prog 29 #[.string s] w fun e w' => e = .returned (.tuple #[.int .i64 ((M.cellOf s.data.toList).getD 0), .bool (M.cellOf s.data.toList).isSome]) ∧ Below w.heap.size w w' := by
  by_cases h45 : s.data.toList = [45]
  · have E : Hid (M.cellOf s.data.toList = some M.nilI) := by unfold Hid M.cellOf; rw [if_pos h45]
    have es : s = ⟨#[45]⟩ := bs_eq h45
    rw [E.out]
    clear E h45
    subst es
    go_enter Tryz.func29, Tryz.ntmps29
    go_wp2
    go_ret2
    exact ⟨rfl, Below.refl _ _⟩
  · have q45 : (s.toList == [45]) = false := by rw [beq_eq_false_iff_ne, toList_data]; exact h45
    by_cases hA : ∃ n, Lib.atoiAll s.data.toList = .ok n
    · obtain ⟨n, hn⟩ := hA
      have A := hide (atoi_good s n w hs hn)
      have IS := hide (isnum_any n)
      have E2 := hide (cell_ok h45 hn)
      clear hn
      cases ho : M.outI n with
      | true =>
        rw [E2.out, if_neg (by simp [ho])]
        rw [ho] at IS
        clear E2 ho h45 hL
        go_enter Tryz.func29, Tryz.ntmps29
        go_wp2_with (first
          | (go_at_call 41; refine A.out.mono ?_; rintro e w1 ⟨rfl, hb1⟩)
          | (go_at_call 22; refine (IS.out _).mono ?_; rintro e w2 ⟨rfl, rfl⟩))
        go_ret2
        exact ⟨rfl, hb1⟩
      | false =>
        rw [ho] at IS
        have IT : Hid (∀ W, Below w.heap.size w W → Calls Tryz.prog 36 #[.int .i64 n] W fun e w' => e = .returned (.string (bs (Lib.itoa n))) ∧ Below W.heap.size W w') := fun W hW => itoa_any n W ho (hL.below hW)
        by_cases he : Lib.itoa n = s.data.toList
        · rw [E2.out, if_pos ⟨ho, he⟩]
          rw [he, bs_self] at IT
          clear E2 ho h45 hL he
          go_enter Tryz.func29, Tryz.ntmps29
          go_wp2_with (first
            | (go_at_call 41; refine A.out.mono ?_; rintro e w1 ⟨rfl, hb1⟩)
            | (go_at_call 22; refine (IS.out _).mono ?_; rintro e w2 ⟨rfl, rfl⟩)
            | (go_at_call 36; refine (IT.out _ hb1).mono ?_; rintro e w3 ⟨rfl, hb3⟩))
          go_ret2
          exact ⟨rfl, below_on hb1 hb3⟩
        · rw [E2.out, if_neg (by rintro ⟨_, h2⟩; exact he h2)]
          have q1 : ((bs (Lib.itoa n)).toList == s.toList) = false := by rw [beq_eq_false_iff_ne, toList_data, toList_data, bs_list]; exact he
          have q2 : ((bs (Lib.itoa n)).toList != s.toList) = true := by rw [bne_iff_ne, toList_data, toList_data, bs_list]; exact he
          clear E2 ho h45 hL he
          generalize bs (Lib.itoa n) = t at *
          go_enter Tryz.func29, Tryz.ntmps29
          go_wp2_with (first
            | (go_at_call 41; refine A.out.mono ?_; rintro e w1 ⟨rfl, hb1⟩)
            | (go_at_call 22; refine (IS.out _).mono ?_; rintro e w2 ⟨rfl, rfl⟩)
            | (go_at_call 36; refine (IT.out _ hb1).mono ?_; rintro e w3 ⟨rfl, hb3⟩))
          go_ret2
          exact ⟨rfl, below_on hb1 hb3⟩
    · have A := hide (atoi_bad s w hs hL fun n hn => hA ⟨n, hn⟩)
      rw [cell_no h45 fun n hn => hA ⟨n, hn⟩]
      clear h45 hA hL
      go_enter Tryz.func29, Tryz.ntmps29
      go_wp2_with (go_at_call 41; refine A.out.mono ?_; rintro e w1 ⟨n, N, rfl, hb1⟩)
      go_ret2
      exact ⟨rfl, hb1⟩

end Go.Proofs.YtihaphicidjooabGreatDoor
