/-
  What package row's Print and Parse answer: Print for every row, Parse for every text that may be; the table of powers and the two errors of package strconv lie as that package lays them.
-/
import Derived.Test.YtihaphicidjooabGreatDoorTexts
import Derived.Deep.AppendLies
import Derived.Deep.Cut
import Derived.Deep.CutRange
namespace Go.Proofs.YtihaphicidjooabGreatDoor
open Go.ChangeShapes Go.WideShapes Go.ChangeAt Go.RowKit Go.Shelf Go.Lib Go.Sort
set_option linter.unusedVariables false

theorem own_up {w w' : World} {base n e size : Nat} {v : Value} {l : List Value} (h : w.ownsRow base e size v n l) (hb : Below w.heap.size w w') : w'.ownsRow base e size v n l := by
  refine ⟨h.1, ?_⟩
  rcases h.2 with h0 | ⟨g, cap, cur, hv, h1, h2, h3⟩
  · exact .inl h0
  · exact .inr ⟨g, cap, cur, hv, h1, (hb.block g (Array.getElem?_eq_some_iff.1 h2).1).trans h2, h3⟩

/-! ### Print -/

theorem info9 : (Tryz.prog.info? 9).map (fun i => (i.zero, i.size, i.bytes)) = some (some (.string ⟨#[]⟩), 1, 16) := by kernel_rfl
theorem madeS (n : Nat) : (madeCells (Value.cells (.string ⟨#[]⟩)) (n * 1)).toList = List.replicate n (.string ⟨#[]⟩) := by
  rw [Nat.mul_one]
  show (madeCells #[Value.string ⟨#[]⟩] n).toList = _
  rw [toList_madeCells_one]
def strs (xs : List Int) : List Value := xs.map fun c => .string (bs (M.word c))
theorem strs_len (xs : List Int) : (strs xs).length = xs.length := by simp [strs]
def fillS (F : List Value) (k : Nat) : List Value := F.take k ++ List.replicate (F.length - k) (.string ⟨#[]⟩)
theorem fillS_set (F : List Value) (k : Nat) (h : k < F.length) : (fillS F k).set k F[k] = fillS F (k + 1) := by
  unfold fillS
  rw [List.set_append_right _ _ (by rw [List.length_take]; omega), List.length_take, Nat.min_eq_left (by omega), Nat.sub_self,
    show F.length - k = (F.length - (k + 1)) + 1 by omega, List.replicate_succ, List.set_cons_zero, List.take_succ_eq_append_getElem h, List.append_assoc]
  rfl
theorem fillS_own {wr : World} {B g n : Nat} {F : List Value} {k : Nat} (hk : k < F.length)
    (hown : wr.ownsRow B 9 1 (.slice (some ⟨g, 0, none⟩) n n) n (fillS F k)) :
    (wr.setCell ⟨g, k, none⟩ F[k]).ownsRow B 9 1 (.slice (some ⟨g, 0, none⟩) n n) n (fillS F (k + 1)) := by
  have := (hown.stored k F[k]).1
  rw [← fillS_set F k hk]
  exact this
theorem fillS_cell {wr : World} {B g n : Nat} {F : List Value} {k : Nat} (hk : k < F.length) (hn : F.length = n)
    (hown : wr.ownsRow B 9 1 (.slice (some ⟨g, 0, none⟩) n n) n (fillS F k)) : wr.cell? ⟨g, k, none⟩ = some (.string ⟨#[]⟩) := by
  rw [hown.cellAt k (by omega)]
  unfold fillS
  rw [List.getElem?_append_right (by rw [List.length_take]; omega), List.length_take, Nat.min_eq_left (by omega), Nat.sub_self, List.getElem?_replicate, if_pos (by omega)]
theorem word_len {c : Int} (h : M.badCell c = false) : (M.word c).length ≤ 8 := by
  unfold M.word
  rcases M.bad_false h with e | ⟨e, ho⟩
  · rw [if_pos e]; decide
  · rw [if_neg e]; exact M.itoa_len ho
theorem lens_le : ∀ (l : List Int), (∀ x ∈ l, M.badCell x = false) → Lib.lens (l.map M.word) ≤ 8 * l.length
  | [], _ => by simp [Lib.lens]
  | x :: t, h => by
    have h1 := word_len (h x (by simp))
    have h2 := lens_le t fun y hy => h y (by simp [hy])
    simp only [Lib.lens, List.map_cons, List.sum_cons, List.length_cons] at h2 ⊢
    omega
theorem show_len (xs : List Int) (h : M.rowF xs = 0) : (M.showL xs).length ≤ 100 := by
  obtain ⟨h1, h2⟩ := (M.row_ok xs).1 h
  unfold M.showL
  cases xs with
  | nil => simp [Lib.join_nil]
  | cons x t =>
    have h3 := lens_le (x :: t) h2
    rw [List.map_cons, Lib.join_length]
    rw [List.map_cons] at h3
    simp only [List.length_cons, List.length_map, List.length_nil] at h1 h3 ⊢
    omega
theorem join_any (g : Nat) (xs : List Int) (B : Nat) (w : World) (hr : M.rowF xs = 0) (h : w.ownsRow B 9 1 (.slice (some ⟨g, 0, none⟩) xs.length xs.length) xs.length (strs xs)) :
    Calls Tryz.prog 25 #[.slice (some ⟨g, 0, none⟩) xs.length xs.length, .string ⟨#[44]⟩] w fun e w' => e = .returned (.string (bs (M.showL xs))) ∧ Below w.heap.size w w' := by
  have hg : g < w.heap.size := by
    rcases h.2 with ⟨h0, _⟩ | ⟨g', cap, cur, hv, h1, h2, h3⟩
    · cases h0
    · cases hv; exact (Array.getElem?_eq_some_iff.1 h2).1
  have hl := show_len xs hr
  have l8 : xs.length ≤ 8 := ((M.row_ok xs).1 hr).1
  have e1 : ((xs.map fun c => bs (M.word c)).map (·.data.toList)) = xs.map M.word := by
    rw [List.map_map]; exact List.map_congr_left fun c _ => bs_list _
  have := Tryz.strings_Join g 0 xs.length (xs.map fun c => bs (M.word c)) ⟨#[44]⟩ w (fun j x hx => by
      rw [Nat.zero_add]
      rw [List.getElem?_map] at hx
      cases hj : xs[j]? with
      | none => rw [hj] at hx; cases hx
      | some c =>
        rw [hj] at hx
        cases hx
        have hjl : j < xs.length := (List.getElem?_eq_some_iff.1 hj).1
        rw [h.cellAt j (by omega)]
        simp [strs, hj]) hg (by simp; omega) (by simp) (by rw [e1]; show (M.showL xs).length ≤ _; omega)
  rw [e1, List.length_map] at this
  exact this

def M.printL (xs : List Int) : List UInt8 := if M.rowF xs = 0 then M.showL xs else []

set_option maxHeartbeats 4000000 in
set_option maxRecDepth 10000 in
theorem print_any (a : Option Addr) (xs : List Int) (ca : Nat) (w : World) (ha : Rd w a xs) (hL : Lies w) :
    Calls Tryz.prog 8 #[.slice a xs.length ca] w fun e w' => e = .returned (.tuple #[.string (bs (M.printL xs)), errV (M.rowF xs)]) ∧ Below w.heap.size w w' := by
  have hm : xs.length ≤ 9223372036854775807 := ha.1
  have C := hide (rcheck_any a xs ca w ha)
  by_cases h : M.rowF xs = 0
  · rw [err_nil h] at C
    have PE : Hid (M.printL xs = M.showL xs) := by unfold Hid M.printL; rw [if_pos h]
    rw [err_nil h, PE.out]
    obtain ⟨l8, hgood⟩ := (M.row_ok xs).1 h
    obtain ⟨i0, hi, hz0, hz1, hz2⟩ := info_parts info9
    have HA := hide ha
    have HG := hide hgood
    have HL := hide hL
    have HR := hide h
    have FL := hide (strs_len xs)
    clear ha hgood hL h PE
    generalize hT : bs (M.showL xs) = t
    have HT := hide hT
    clear hT
    go_enter Tryz.func8, Tryz.ntmps8
    go_wp2_with (first
      | (go_at_call 6; refine C.out.mono ?_; rintro e w1 ⟨rfl, hb1⟩)
      | (at_make; refine wpList_make_full _ rfl (.tmp 14) (.tmp 14) 51 rfl w.heap.size 9 i0 (.string ⟨#[]⟩) 1 Tryz.underlying51 hi hz0 hz1 .i64 .i64 _ _ xs.length rfl rfl (by omega) (by omega) (by rw [hz2]; omega) (by unfold maxLen; omega) hb1.size ?_; intro w3 hown hgrow))
    rw [madeS] at hown
    have hb3 : Below w.heap.size w w3 := hb1.grown hgrow hb1.size (fun k hk => by cases hk)
    have hg1 : w.heap.size ≤ w1.heap.size := hb1.size
    clear hgrow hi hz0 hz1 hz2 C hb1
    generalize w1.heap.size = g at *
    have ho : w3.ownsRow w.heap.size 9 1 (.slice (some ⟨g, 0, none⟩) xs.length xs.length) xs.length (fillS (strs xs) 0) := by
      unfold fillS; rw [FL.out]; exact hown
    clear hown
    go_loopw [18] (fun i wr => ∃ k : Nat, k ≤ xs.length ∧ i = .int .i64 k ∧ wr.ownsRow w.heap.size 9 1 (.slice (some ⟨g, 0, none⟩) xs.length xs.length) xs.length (fillS (strs xs) k) ∧ Below w.heap.size w wr) (fun i _ => xs.length - (intOf i).toNat)
    case atStart => exact ⟨0, Nat.zero_le _, rfl, ho, hb3⟩
    case round =>
      clear ho hb3
      obtain ⟨k, hk, rfl, hown, hbl⟩ := hrel
      by_cases hlt : k < xs.length
      · obtain ⟨rb, ro, rfl, hrb, hrc⟩ := HA.out.2 (by intro e; subst e; simp at hlt)
        have c1 := (hbl.cell (p := ⟨rb, ro + k, none⟩) hrb).trans (Rd.at hrc k hlt)
        have hsl : k < (strs xs).length := by rw [FL.out]; exact hlt
        have eS : (strs xs)[k] = .string (bs (M.word xs[k])) := by simp [strs]
        have PC := hide (printCell_any xs[k] wr (HG.out _ (List.getElem_mem hlt)) (HL.out.below hbl))
        have R := hide (fun W (hW : Below wr.heap.size wr W) => fillS_own hsl (own_up hown hW))
        have CC := hide (fun W (hW : Below wr.heap.size wr W) => fillS_cell hsl FL.out (own_up hown hW))
        have FZ := hide (fun W (hW : Below wr.heap.size wr W) => (own_up hown hW).frozenAt k)
        rw [eS] at R
        clear hown eS hrc
        generalize bs (M.word xs[k]) = t at *
        generalize xs[k] = y at *
        go_wp2_with (go_at_call 24; refine PC.out.mono ?_; rintro e w4 ⟨rfl, hb4⟩; have hcell := CC.out w4 hb4; have hfz := FZ.out w4 hb4)
        go_roundw
        case rel => exact ⟨k + 1, by omega, by go_num, R.out w4 hb4, (below_on hbl hb4).setCell hg1 _⟩
        case measure => simp [intOf]; omega
      · have hke : k = xs.length := by omega
        subst hke
        have hown' : wr.ownsRow w.heap.size 9 1 (.slice (some ⟨g, 0, none⟩) xs.length xs.length) xs.length (strs xs) := by
          have e : fillS (strs xs) xs.length = strs xs := by unfold fillS; rw [FL.out, Nat.sub_self, List.take_of_length_le (by rw [FL.out]; exact Nat.le_refl _)]; simp
          rw [e] at hown; exact hown
        have J := hide (join_any g xs w.heap.size wr HR.out hown')
        rw [HT.out] at J
        clear hown hown'
        go_wp2_with (go_at_call 25; refine J.out.mono ?_; rintro e w5 ⟨rfl, hb5⟩)
        go_ret2
        exact ⟨rfl, below_on hbl hb5⟩
  · rw [err_some h] at C
    have PE : Hid (bs (M.printL xs) = ⟨#[]⟩) := by unfold Hid M.printL; rw [if_neg h]; rfl
    rw [err_some h, PE.out]
    clear h PE ha hL
    generalize M.rowF xs = c at *
    go_enter Tryz.func8, Tryz.ntmps8
    go_wp2_with (go_at_call 6; refine C.out.mono ?_; rintro e w1 ⟨rfl, hb1⟩)
    go_ret2
    exact ⟨rfl, hb1⟩

/-! ### Parse -/

def strLen : Value → Nat
  | .string s => s.size
  | _ => 0
def left (t m : Value) : Nat :=
  match m with
  | .bool true => strLen t + 1
  | _ => 0
theorem left_less (s t : ByteArray) (q : Bool) (h : q = true → t.size < s.size) : left (.string t) (.bool q) < left (.string s) (.bool true) := by
  cases q with
  | true => have := h rfl; show t.size + 1 < s.size + 1; omega
  | false => show 0 < s.size + 1; omega
def M.toGo (q : Bool) (l : List UInt8) : List (List UInt8) := if q = true then M.words l else []
theorem M.toGo_true (l : List UInt8) : M.toGo true l = (M.cut1 l).1 :: M.toGo (M.cut1 l).2.2 (M.cut1 l).2.1 := by
  show M.words l = _
  rw [M.words_cut]; rfl
theorem empty_eq (s : ByteArray) : (s.toList == []) = decide (s.data.toList = []) := by
  rw [toList_data]
  by_cases h : s.data.toList = []
  · rw [h]; rfl
  · rw [decide_eq_false h, beq_eq_false_iff_ne]; exact h

set_option maxHeartbeats 4000000 in
set_option maxRecDepth 10000 in
theorem parse_any (s : ByteArray) (w : World) (hs : s.size ≤ 281474976710656) (hL : Lies w) :
    Calls Tryz.prog 10 #[.string s] w fun e w' => ∃ ag cg, e = .returned (.tuple #[.slice ag (M.parseL s.data.toList).1.length cg, errV (M.parseL s.data.toList).2]) ∧ Rd w' ag (M.parseL s.data.toList).1 ∧ Below w.heap.size w w' := by
  have RN : ∀ W, Rd W none [] := fun W => ⟨Nat.zero_le _, fun h => absurd rfl h⟩
  have RN' := hide RN
  clear RN
  by_cases he : s.data.toList = []
  · have es : s = ⟨#[]⟩ := bs_eq he
    subst es
    clear he
    rw [show M.parseL (⟨#[]⟩ : ByteArray).data.toList = ([], 0) from rfl]
    go_enter Tryz.func10, Tryz.ntmps10
    go_wp2
    go_ret2
    exact ⟨none, 0, rfl, RN'.out _, Below.refl _ _⟩
  · have q0 : (s.toList == []) = false := by rw [empty_eq, decide_eq_false he]
    have PE : Hid (M.goL [] (M.toGo true s.data.toList) = M.parseL s.data.toList) := by unfold Hid M.parseL; rw [if_neg he]; rfl
    have HL := hide hL
    clear he hL
    generalize hP : M.parseL s.data.toList = P at *
    clear hP
    obtain ⟨i0, hi, hz0, hz1, hz2⟩ := info_parts info3
    have I0 := hide hi
    clear hi
    go_enter Tryz.func10, Tryz.ntmps10
    go_wp2
    go_loopw [0, 4, 5] (fun t v m wr => ∃ (l : ByteArray) (acc : List Int) (q : Bool), t = .string l ∧ m = .bool q ∧ l.size ≤ 281474976710656 ∧ wr.ownsRow w.heap.size 3 1 v (acc.take 9).length ((acc.take 9).map (Value.int .i64)) ∧ Below w.heap.size w wr ∧ Hid (M.goL acc (M.toGo q l.data.toList) = P)) (fun t _ m _ => left t m)
    case atStart => exact ⟨s, [], true, rfl, rfl, hs, World.ownsRow_nil _ _ _ _, Below.refl _ _, PE⟩
    case round =>
      clear PE
      obtain ⟨l, acc, q, rfl, rfl, hl, hown, hbl, I⟩ := hrel
      have t9 : (acc.take 9).length ≤ 9 := by rw [List.length_take]; omega
      cases q with
      | false =>
        obtain ⟨va, vc, rfl, RV, _⟩ := own_rd hown
        have HV := hide RV
        clear hown RV
        by_cases h8 : 8 < acc.length
        · have E : Hid (P = ([], 4)) := by unfold Hid; rw [← I.out]; exact M.go_many h8
          have d8 : decide ((8 : Int) < ((acc.take 9).length : Int)) = true := decide_eq_true (by have := (M.take_many acc).2 h8; omega)
          clear I h8 HV
          generalize (acc.take 9).length = n at *
          go_wp2
          go_ret2
          refine ⟨none, 0, ?_, ?_, hbl⟩
          · rw [E.out]; rfl
          · rw [E.out]; exact RN'.out _
        · have E : Hid (P = (acc.take 9, 0)) := by unfold Hid; rw [← I.out, M.take_few (by omega)]; exact M.go_few (by omega)
          have d8 : decide ((8 : Int) < ((acc.take 9).length : Int)) = false := decide_eq_false (by have := M.take_many acc; omega)
          clear I h8
          generalize hacc : acc.take 9 = R at *
          clear hacc
          go_wp2
          go_ret2
          refine ⟨va, vc, ?_, ?_, hbl⟩
          · rw [E.out]; rfl
          · rw [E.out]; exact HV.out
      | true =>
        have CU := hide (cut_any l wr hl)
        have TG := hide (M.toGo_true l.data.toList)
        have LN := hide (M.cut1_len l.data.toList)
        generalize (M.cut1 l.data.toList).1 = w1 at *
        generalize (M.cut1 l.data.toList).2.1 = w2 at *
        generalize (M.cut1 l.data.toList).2.2 = q2 at *
        have z1 : (bs w1).size ≤ 281474976710656 := by rw [bs_size]; have := LN.out.1; rw [← size_eq] at this; omega
        have z2 : (bs w2).size ≤ 281474976710656 := by rw [bs_size]; have := LN.out.2.1; rw [← size_eq] at this; omega
        have LS : Hid (q2 = true → (bs w2).size < l.size) := fun h => by rw [bs_size, size_eq]; exact LN.out.2.2 h
        have PC : Hid (∀ W, Below w.heap.size w W → Calls Tryz.prog 29 #[.string (bs w1)] W fun e w' => e = .returned (.tuple #[.int .i64 ((M.cellOf w1).getD 0), .bool (M.cellOf w1).isSome]) ∧ Below W.heap.size W w') := fun W hW => by
          have := parseCell_any (bs w1) W z1 (HL.out.below hW); rwa [bs_list] at this
        have II : Hid (M.goL acc (w1 :: M.toGo q2 w2) = P) := by unfold Hid; rw [← TG.out]; exact I.out
        have BW := hide (bs_list w2)
        clear I TG LN z1
        generalize bs w1 = t1 at *
        generalize bs w2 = t2 at *
        cases hc : M.cellOf w1 with
        | none =>
          rw [hc] at PC
          have E : Hid (P = ([], 2)) := by unfold Hid; rw [← II.out, M.go_none hc]
          clear hc II hown
          go_wp2_with (first
            | (go_at_call 28; refine CU.out.mono ?_; rintro e w3 ⟨rfl, hb3⟩; have k3 := below_on hbl hb3)
            | (go_at_call 29; refine (PC.out _ k3).mono ?_; rintro e w4 ⟨rfl, hb4⟩))
          go_ret2
          refine ⟨none, 0, ?_, ?_, below_on k3 hb4⟩
          · rw [E.out]; rfl
          · rw [E.out]; exact RN'.out _
        | some c =>
          rw [hc] at PC
          have NX : Hid (M.goL (acc ++ [c]) (M.toGo q2 t2.data.toList) = P) := by unfold Hid; rw [BW.out, ← II.out, M.go_some hc]
          obtain ⟨va, vc, rfl, RV, _⟩ := own_rd hown
          have HO := hide hown
          clear hc II hown BW RV
          by_cases h8 : acc.length ≤ 8
          · have e9 : (acc.take 9).length = acc.length := by rw [M.take_few h8]
            have d8 : decide (((acc.take 9).length : Int) ≤ 8) = true := decide_eq_true (by omega)
            have lt : (acc.take 9).length ≤ 8 := by omega
            have E9 : Hid ((acc ++ [c]).take 9 = acc.take 9 ++ [c]) := by unfold Hid; rw [M.take_few h8, List.take_of_length_le (by simp; omega)]
            clear h8 e9
            generalize hacc : acc.take 9 = R at *
            clear hacc
            go_wp2_with (first
              | (go_at_call 28; refine CU.out.mono ?_; rintro e w3 ⟨rfl, hb3⟩; have k3 := below_on hbl hb3)
              | (go_at_call 29; refine (PC.out _ k3).mono ?_; rintro e w4 ⟨rfl, hb4⟩; have k4 := below_on k3 hb4; have kw4 := k4.size)
              | (at_builtin; refine wpList_append_lies _ rfl (.tmp 29) (.tmp 31) 22 rfl w.heap.size 3 i0 (.int .i64 0) 1 8 Tryz.underlying22 I0.out hz0 hz1 hz2 rfl (by omega) (.slice va R.length vc) R.length (R.map (Value.int .i64)) rfl ((own_up HO.out (below_on hb3 hb4)).alloc _) ⟨w4.heap.size, 0, none⟩ 1 1 [.int .i64 c] rfl rfl (World.news_of_block (heap_alloc_new _ _)) (by simp [Value.oneCell']) (by omega) (by unfold maxLen; omega) (by omega) (by simp; omega) (w4.heap.size + 1) (by simp) ?_))
            intro g cap w5 hov5 hgrow hat hlt5
            have hb5 : Below w.heap.size w w5 := (k4.alloc k4.size _).grown hgrow (by simp; omega) (fun k hk => (HO.out.lt k hk).1)
            have HO5 : Hid (w5.ownsRow w.heap.size 3 1 (.slice (some ⟨g, 0, none⟩) (R.length + 1) cap) ((acc ++ [c]).take 9).length (((acc ++ [c]).take 9).map (Value.int .i64))) := by
              unfold Hid; rw [E9.out, List.map_append, List.length_append]; exact hov5
            clear hov5 hgrow hat
            go_wp2
            go_roundw
            case rel => exact ⟨t2, acc ++ [c], q2, rfl, rfl, z2, HO5.out, hb5, NX⟩
            case measure => exact left_less l t2 q2 LS.out
          · have d8 : decide (((acc.take 9).length : Int) ≤ 8) = false := decide_eq_false (by rw [List.length_take]; omega)
            have E9 : Hid ((acc ++ [c]).take 9 = acc.take 9) := by unfold Hid; rw [List.take_append_of_le_length (by omega)]
            clear h8
            generalize hacc : acc.take 9 = R at *
            clear hacc
            go_wp2_with (first
              | (go_at_call 28; refine CU.out.mono ?_; rintro e w3 ⟨rfl, hb3⟩; have k3 := below_on hbl hb3)
              | (go_at_call 29; refine (PC.out _ k3).mono ?_; rintro e w4 ⟨rfl, hb4⟩; have k4 := below_on k3 hb4))
            go_roundw
            case rel => exact ⟨t2, acc ++ [c], q2, rfl, rfl, z2, by rw [E9.out]; exact own_up HO.out (below_on hb3 hb4), k4, NX⟩
            case measure => exact left_less l t2 q2 LS.out

end Go.Proofs.YtihaphicidjooabGreatDoor
