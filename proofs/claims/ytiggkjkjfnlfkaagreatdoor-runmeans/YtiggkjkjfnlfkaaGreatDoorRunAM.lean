/-
  What package run's answer says of a line that asks for a mean, and of one that asks for a fraction rounded.
-/
import Derived.Test.YtiggkjkjfnlfkaaGreatDoorRunMR
import Derived.Test.YtiggkjkjfnlfkaaGreatDoorRunMb
namespace Go.Proofs.YtiggkjkjfnlfkaaGreatDoor
open Go.ChangeShapes Go.WideShapes Go.ChangeAt Go.RowKit Go.Shelf Go.Lib Go.Sort
set_option linter.unusedVariables false

set_option maxHeartbeats 4000000 in
set_option maxRecDepth 10000 in
theorem do_mean {w : World} {tb b cap o : Nat} {pb : Addr} (s : ByteArray) (l : List Int) (hc0 : w.cell? ⟨b, 0, none⟩ = some (.string ⟨#[109, 101, 97, 110]⟩)) (hc1 : w.cell? ⟨b, 1, none⟩ = some (.string s)) (hs : s.size ≤ 50000) (hL : LiesR w (badV tb pb)) (hl : M.listR s.data.toList = some l) (hn : l.length ≤ 60) (hv : ∀ x ∈ l, -1000000 ≤ x ∧ x ≤ 1000000) :
    Calls Tryz.prog 93 #[.pointer (some ⟨o, 0, none⟩), .slice (some ⟨b, 0, none⟩) 2 cap] w fun e w' => e = .returned (.tuple #[.string (bs (Lib.itoa (M.avgI l))), .nilIface]) ∧ Below w.heap.size w w' := by
  have MN := hide (rmean_any s l hs hL hl hn hv)
  clear hs hL hl hn hv
  generalize bs (Lib.itoa (M.avgI l)) = tx at *
  go_enter Tryz.func93, Tryz.ntmps93
  go_wp2_with (go_at_call 133; refine MN.out.mono ?_; rintro e w2 ⟨rfl, hb2⟩)
  go_ret2
  exact ⟨rfl, hb2⟩
set_option maxHeartbeats 4000000 in
set_option maxRecDepth 10000 in
theorem do_round {w : World} {tb b cap o : Nat} {pb : Addr} (s t : ByteArray) (x y : Int) (hc0 : w.cell? ⟨b, 0, none⟩ = some (.string ⟨#[114, 111, 117, 110, 100]⟩)) (hc1 : w.cell? ⟨b, 1, none⟩ = some (.string s)) (hc2 : w.cell? ⟨b, 2, none⟩ = some (.string t)) (hs : s.size ≤ 50000) (ht : t.size ≤ 50000) (hL : LiesR w (badV tb pb)) (ha : M.numR s.data.toList = some x) (hb : M.numR t.data.toList = some y) :
    Calls Tryz.prog 93 #[.pointer (some ⟨o, 0, none⟩), .slice (some ⟨b, 0, none⟩) 3 cap] w fun e w' => e = .returned (.tuple #[.string (bs (Lib.itoa (M.rndI x y))), .nilIface]) ∧ Below w.heap.size w w' := by
  have RR := hide (rround_any s t x y hs ht (hL.below (Below.refl _ w).drew) ha hb)
  clear hs ht hL ha hb
  generalize bs (Lib.itoa (M.rndI x y)) = tx at *
  have bd : Below w.heap.size w w.drew := (Below.refl _ w).drew
  have mixed : Tryz.prog.follows .mixedOrders = true := by kernel_rfl
  go_enter Tryz.func93, Tryz.ntmps93
  go_upto_region 5 with fail
  go_region_with (go_at_call 134; refine RR.out.mono ?_; rintro e w2 ⟨rfl, hb2⟩; have B2 := hide (below_on bd hb2); clear hb2)
  all_goals (
    go_wp2
    go_ret2
    exact ⟨rfl, B2.out⟩)

set_option maxHeartbeats 4000000 in
set_option maxRecDepth 10000 in
theorem ans_of {w : World} {tb o : Nat} {pb : Addr} (line : List UInt8) (ws : List (List UInt8)) (out : ByteArray) (hcut : M.cutC 32 line = ws) (hl : line.length ≤ 50000) (hL : LiesR w (badV tb pb))
    (hD : ∀ V b, Below w.heap.size w V → (∀ i, i < ws.length → V.cell? ⟨b, i, none⟩ = some (.string (bs (ws.getD i [])))) → Calls Tryz.prog 93 #[.pointer (some ⟨o, 0, none⟩), .slice (some ⟨b, 0, none⟩) ws.length ws.length] V fun e w' => e = .returned (.tuple #[.string out, .nilIface]) ∧ Below V.heap.size V w') :
    Calls Tryz.prog 51 #[.pointer (some ⟨o, 0, none⟩), .string (bs line)] w fun e w' => e = .returned (.string out) ∧ Below w.heap.size w w' := by
  obtain ⟨m, hm⟩ := hL.ml
  have SP := hide (split_any (bs line) 32 m w (by rw [bs_size]; omega) hm)
  rw [bs_list, hcut] at SP
  have BA : Hid (Below w.heap.size w (w.alloc (.cells (ws.map fun x => Value.string (bs x)).toArray 9))) := (Below.refl _ w).alloc (Nat.le_refl _) _
  have DO := hide (hD _ w.heap.size BA.out (cell_words w ws))
  clear hcut hl hL hD hm
  generalize w.alloc (.cells (ws.map fun x => Value.string (bs x)).toArray 9) = w1 at *
  generalize ws.length = n at *
  go_enter Tryz.func51, Tryz.ntmps51
  go_wp2_with (first
    | (go_at_call 94; refine SP.out.mono ?_; rintro e w2 ⟨rfl, ew⟩; have ew2 := ew.symm; subst ew2)
    | (go_at_call 93; refine DO.out.mono ?_; rintro e w3 ⟨rfl, hb3⟩; have B3 := hide (below_on BA.out hb3); clear hb3))
  go_ret
  exact ⟨rfl, B3.out⟩
theorem ans_mean {w : World} {tb o : Nat} {pb : Addr} (t : List UInt8) (l : List Int) (ht : (32 : UInt8) ∉ t) (hs : t.length ≤ 40000) (hL : LiesR w (badV tb pb)) (hl : M.listR t = some l) (hn : l.length ≤ 60) (hv : ∀ x ∈ l, -1000000 ≤ x ∧ x ≤ 1000000) :
    Calls Tryz.prog 51 #[.pointer (some ⟨o, 0, none⟩), .string (bs ([109, 101, 97, 110] ++ 32 :: t))] w fun e w' => e = .returned (.string (bs (Lib.itoa (M.avgI l)))) ∧ Below w.heap.size w w' :=
  ans_of _ [[109, 101, 97, 110], t] _ (by rw [M.cutC_app t (by decide), M.cutC_none ht]) (by simp; omega) hL fun V b hV hc =>
    do_mean (bs t) l (hc 0 (by simp)) (hc 1 (by simp)) (by rw [bs_size]; omega) (hL.below hV) (by rw [bs_list]; exact hl) hn hv
theorem ans_round {w : World} {tb o : Nat} {pb : Addr} (s t : List UInt8) (x y : Int) (hs0 : (32 : UInt8) ∉ s) (ht0 : (32 : UInt8) ∉ t) (hs : s.length ≤ 20000) (ht : t.length ≤ 20000) (hL : LiesR w (badV tb pb)) (ha : M.numR s = some x) (hb : M.numR t = some y) :
    Calls Tryz.prog 51 #[.pointer (some ⟨o, 0, none⟩), .string (bs ([114, 111, 117, 110, 100] ++ 32 :: (s ++ 32 :: t)))] w fun e w' => e = .returned (.string (bs (Lib.itoa (M.rndI x y)))) ∧ Below w.heap.size w w' :=
  ans_of _ [[114, 111, 117, 110, 100], s, t] _ (by rw [M.cutC_app _ (by decide), M.cutC_app t hs0, M.cutC_none ht0]) (by simp; omega) hL fun V b hV hc =>
    do_round (bs s) (bs t) x y (hc 0 (by simp)) (hc 1 (by simp)) (hc 2 (by simp)) (by rw [bs_size]; omega) (by rw [bs_size]; omega) (hL.below hV) (by rw [bs_list]; exact ha) (by rw [bs_list]; exact hb)

end Go.Proofs.YtiggkjkjfnlfkaaGreatDoor
