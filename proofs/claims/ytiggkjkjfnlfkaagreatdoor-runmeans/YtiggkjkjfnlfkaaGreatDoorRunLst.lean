/-
  What package run's readNumbers and readList answer, for all words; strings.Split at one byte.
-/
import Derived.Test.YtiggkjkjfnlfkaaGreatDoorRunNum
import Derived.Test.YtiggkjkjfnlfkaaGreatDoorRunBd
import Derived.Test.YtiggkjkjfnlfkaaGreatDoorGroMean
import Derived.Lib.SplitLaws
import Derived.Deep.Cut
namespace Go.Proofs.YtiggkjkjfnlfkaaGreatDoor
open Go.ChangeShapes Go.WideShapes Go.ChangeAt Go.RowKit Go.Shelf Go.Lib Go.Sort
set_option linter.unusedVariables false

/-- a text cut at each byte c, as the library cuts it -/
theorem split_is (s : ByteArray) (c : UInt8) : Lib.splitB ⟨#[c]⟩ 0 (Lib.countB s ⟨#[c]⟩) s = (M.cutC c s.data.toList).map bs := by
  have h := Lib.splitB_data ⟨#[c]⟩ 0 (Lib.countB s ⟨#[c]⟩) s
  have e : Lib.splitK (⟨#[c]⟩ : ByteArray).data.toList 0 (Lib.countB s ⟨#[c]⟩) s.data.toList = M.cutC c s.data.toList := M.split_one c s.data.toList
  rw [e] at h
  rw [← h, List.map_map]
  have : (bs ∘ fun x : ByteArray => x.data.toList) = id := by funext x; exact bs_self x
  rw [this, List.map_id]
theorem split_any (s : ByteArray) (c : UInt8) (m : Int) (w : World) (hs : s.size < 4294967281) (hm : w.cell? ⟨2, 0, none⟩ = some (.int .i64 m)) :
    Calls Tryz.prog 94 #[.string s, .string ⟨#[c]⟩] w fun e w' => e = .returned (.slice (some ⟨w.heap.size, 0, none⟩) (M.cutC c s.data.toList).length (M.cutC c s.data.toList).length) ∧ w' = w.alloc (.cells ((M.cutC c s.data.toList).map fun x => Value.string (bs x)).toArray 9) := by
  refine (Tryz.strings_Split s ⟨#[c]⟩ m w hs hm (Nat.le_refl _)).mono ?_
  rintro e w' ⟨rfl, rfl⟩
  have hl := Lib.splitB_all ⟨#[c]⟩ (Nat.le_refl _) 0 _ s rfl
  rw [split_is] at hl ⊢
  rw [List.length_map] at hl
  rw [← hl, List.map_map]
  exact ⟨rfl, rfl⟩

set_option maxHeartbeats 4000000 in
theorem rdnums_any {w : World} {b cap tb : Nat} {pb : Addr} {ws : List (List UInt8)} (hL : LiesR w (badV tb pb)) (hb : b < w.heap.size) (hc : ∀ i, i < ws.length → w.cell? ⟨b, i, none⟩ = some (.string (bs (ws.getD i [])))) (hn : ws.length ≤ 100000) (hz : ∀ x ∈ ws, x.length ≤ 281474976710656) :
    Calls Tryz.prog 167 #[.slice (some ⟨b, 0, none⟩) ws.length cap] w fun e w' => Below w.heap.size w w' ∧ ((∃ l, M.numsR ws = some l ∧ l.length = ws.length ∧ e = .returned (.tuple #[.slice (some ⟨w.heap.size, 0, none⟩) ws.length ws.length, .nilIface]) ∧ w'.ownsRow w.heap.size 3 1 (.slice (some ⟨w.heap.size, 0, none⟩) ws.length ws.length) ws.length (l.map (Value.int .i64))) ∨ (M.numsR ws = none ∧ e = .returned (.tuple #[.slice none 0 0, badV tb pb]))) := by
  obtain ⟨i0, hi, hz0, hz1, hz2⟩ := info_parts info3
  have RN : Hid (∀ k V, k < ws.length → Below w.heap.size w V → Calls Tryz.prog 168 #[.string (bs (ws.getD k []))] V fun e w' => e = .returned (.tuple #[.int .i64 ((M.numR (ws.getD k [])).getD 0), errR (M.numR (ws.getD k [])).isSome (badV tb pb)]) ∧ Below V.heap.size V w') := fun k V hk hV => by
    have hm : ws.getD k [] ∈ ws := by rw [List.getD, List.getElem?_eq_getElem hk]; exact List.getElem_mem hk
    have := rdnum_any (bs (ws.getD k [])) V (badV tb pb) (by rw [bs_size]; exact hz _ hm) (hL.below hV)
    rw [bs_list] at this
    exact this
  obtain ⟨F, hF⟩ : ∃ F, F = ws.map fun x => (M.numR x).getD 0 := ⟨_, rfl⟩
  have FL : Hid (F.length = ws.length) := by unfold Hid; rw [hF, List.length_map]
  have FK : Hid (∀ k (hk : k < F.length), F[k] = (M.numR (ws.getD k [])).getD 0) := fun k hk => by
    have hk2 : k < ws.length := by rw [← FL.out]; exact hk
    simp [hF, List.getD, hk2]
  have FA : Hid ((∀ k, k < ws.length → (M.numR (ws.getD k [])).isSome = true) → M.numsR ws = some F) := fun h => by
    rw [hF]
    refine M.numsR_all fun x hx => ?_
    obtain ⟨k, hk, e⟩ := List.getElem_of_mem hx
    have := h k hk
    rw [List.getD, List.getElem?_eq_getElem hk, Option.getD_some, e] at this
    exact this
  have FN : Hid (∀ k, k < ws.length → (M.numR (ws.getD k [])).isSome = false → M.numsR ws = none) := fun k hk h => by
    refine M.numsR_none (w := ws.getD k []) (by rw [List.getD, List.getElem?_eq_getElem hk]; exact List.getElem_mem hk) ?_
    cases e : M.numR (ws.getD k []) with
    | none => rfl
    | some y => rw [e] at h; cases h
  have HC := hide hc
  clear hc hz hL hF
  obtain ⟨n, hn'⟩ : ∃ n, n = ws.length := ⟨_, rfl⟩
  have HN := hide hn'
  rw [← hn'] at hn ⊢
  clear hn'
  unfold badV at RN ⊢
  go_enter Tryz.func167, Tryz.ntmps167
  go_wp2_with (at_make; refine wpList_make_full _ rfl (.tmp 10) (.tmp 10) 50 rfl w.heap.size 3 i0 (.int .i64 0) 1 Tryz.underlying50 hi hz0 hz1 .i64 .i64 _ _ n rfl rfl (by omega) (by omega) (by rw [hz2]; omega) (by unfold maxLen; omega) (Nat.le_refl _) ?_; intro w1 hown hgrow)
  rw [made] at hown
  have hB : Hid (Below w.heap.size w w1) := (Below.refl _ w).grown hgrow (Nat.le_refl _) (fun k hk => by cases hk)
  have ho : Hid (w1.ownsRow w.heap.size 3 1 (.slice (some ⟨w.heap.size, 0, none⟩) n n) n ((M.fillI F 0).map (Value.int .i64))) := by
    unfold Hid; rw [M.fill_zero, FL.out, ← HN.out]; exact hown
  clear hown hgrow hi hz0 hz1 hz2
  go_loopw [14, 5, 6, 7, 8] (fun i _ _ _ _ wr => ∃ k : Nat, k ≤ n ∧ i = .int .i64 k ∧ Hid (wr.ownsRow w.heap.size 3 1 (.slice (some ⟨w.heap.size, 0, none⟩) n n) n ((M.fillI F k).map (Value.int .i64))) ∧ Hid (Below w.heap.size w wr) ∧ Hid (∀ j, j < k → (M.numR (ws.getD j [])).isSome = true)) (fun i _ _ _ _ _ => n - (intOf i).toNat)
  case atStart => exact ⟨0, Nat.zero_le _, rfl, ho, hB, fun j hj => by omega⟩
  case round =>
    obtain ⟨k, hk, rfl, HO, K, HG⟩ := hrel
    clear ho hB
    by_cases hlt : k < n
    · have kl : k < ws.length := by rw [← HN.out]; exact hlt
      have hck := (K.out.cell (p := ⟨b, k, none⟩) hb).trans (HC.out k kl)
      have R1 := hide (RN.out k wr kl K.out)
      have kz : (k : Int) < (n : Int) := by omega
      have GN : Hid ((M.numR (ws.getD k [])).isSome = true → ∀ j, j < k + 1 → (M.numR (ws.getD j [])).isSome = true) := fun h j hj => by
        by_cases e : j = k
        · rw [e]; exact h
        · exact HG.out j (by omega)
      have GF := hide (FN.out k kl)
      have klf : k < F.length := by rw [FL.out]; exact kl
      have FKK := hide (FK.out k klf)
      have STEP : Hid (∀ V x, Below wr.heap.size wr V → x = F[k] → (V.ownsRow w.heap.size 3 1 (.slice (some ⟨w.heap.size, 0, none⟩) n n) n ((M.fillI F k).map (Value.int .i64)) ∧ (V.setCell ⟨w.heap.size, k, none⟩ (.int .i64 x)).ownsRow w.heap.size 3 1 (.slice (some ⟨w.heap.size, 0, none⟩) n n) n ((M.fillI F (k + 1)).map (Value.int .i64)) ∧ Below w.heap.size w (V.setCell ⟨w.heap.size, k, none⟩ (.int .i64 x)))) := fun V x hV hx => by
        have o2 : V.ownsRow w.heap.size 3 1 (.slice (some ⟨w.heap.size, 0, none⟩) n n) n ((M.fillI F k).map (Value.int .i64)) := row_stay HO.out (fun q hq => hV.block q (HO.out.lt q hq).2)
        exact ⟨o2, fill_step (w := w) (FL.out.trans HN.out.symm) hlt hx o2 (K.out.trans (hV.mono K.out.size))⟩
      have CELL : Hid (∀ V, Below wr.heap.size wr V → ∃ u, V.cell? ⟨w.heap.size, k, none⟩ = some u ∧ V.frozen? ⟨w.heap.size, k, none⟩ = false) := fun V hV => by
        have o2 := (STEP.out V _ hV rfl).1
        have hlen : k < ((M.fillI F k).map (Value.int .i64)).length := by rw [List.length_map, M.fill_len _ _ (by omega)]; exact klf
        have hcell := o2.cellAt k (by omega)
        rw [List.getElem?_eq_getElem hlen] at hcell
        exact ⟨_, hcell, o2.frozenAt k⟩
      cases hq : (M.numR (ws.getD k [])).isSome with
      | false =>
        rw [hq] at R1
        have NONE := hide (GF.out hq)
        have KK := hide K.out
        clear GF GN STEP CELL HO HG FKK RN FA FN FK FL HC hq K
        unfold errR at R1
        generalize (M.numR (ws.getD k [])).getD 0 = x at *
        generalize bs (ws.getD k []) = wd at *
        go_wp2_with (go_at_call 168; refine R1.out.mono ?_; rintro e w2 ⟨rfl, hb2⟩; have B2 := hide (KK.out.trans (hb2.mono KK.out.size)); clear hb2)
        go_ret2
        exact ⟨B2.out, .inr ⟨NONE.out, rfl⟩⟩
      | true =>
        rw [hq] at R1
        have GNN := hide (GN.out hq)
        have FE := FKK.out.symm
        clear GF GN HO HG RN FA FN FK HC hq
        unfold errR at R1
        have kl2 := FL.out
        generalize hx : (M.numR (ws.getD k [])).getD 0 = x at *
        generalize bs (ws.getD k []) = wd at *
        have ST2 : Hid (∀ V, Below wr.heap.size wr V → (V.setCell ⟨w.heap.size, k, none⟩ (.int .i64 x)).ownsRow w.heap.size 3 1 (.slice (some ⟨w.heap.size, 0, none⟩) n n) n ((M.fillI F (k + 1)).map (Value.int .i64)) ∧ Below w.heap.size w (V.setCell ⟨w.heap.size, k, none⟩ (.int .i64 x))) := fun V hV => (STEP.out V x hV FE).2
        clear STEP FKK FE hx klf kl2 FL
        go_upto_region 8 with (go_at_call 168; refine R1.out.mono ?_; rintro e w2 ⟨rfl, hb2⟩; obtain ⟨u, cu, fu⟩ := CELL.out w2 hb2; have S2 := hide (ST2.out w2 hb2); clear hb2)
        clear R1 CELL ST2 hck K
        go_wp2
        go_roundw
        case rel => exact ⟨k + 1, by omega, by go_num, S2.out.1, S2.out.2, GNN⟩
        case measure => simp [intOf]; omega
    · have ke : k = n := by omega
      have ho := HO.out
      have FAA := FA.out (fun j hj => HG.out j (by rw [ke, HN.out]; exact hj))
      have fl : F.length = n := FL.out.trans HN.out.symm
      have fa : M.fillI F n = F := by rw [← fl]; exact M.fill_all F
      rw [ke, fa] at ho
      have FIN : Hid (Below w.heap.size w wr ∧ ∃ l, M.numsR ws = some l ∧ l.length = n ∧ wr.ownsRow w.heap.size 3 1 (.slice (some ⟨w.heap.size, 0, none⟩) n n) n (l.map (Value.int .i64))) := ⟨K.out, F, FAA, fl, ho⟩
      clear ho HO ke HC HG K FA FN FK FL RN FAA fl fa
      go_wp2
      go_ret2
      obtain ⟨f1, l, f2, f3, f4⟩ := FIN.out
      exact ⟨f1, .inl ⟨l, f2, f3, rfl, f4⟩⟩

theorem cell_words (w : World) (l : List (List UInt8)) (i : Nat) (hi : i < l.length) : (w.alloc (.cells (l.map fun x => Value.string (bs x)).toArray 9)).cell? ⟨w.heap.size, i, none⟩ = some (.string (bs (l.getD i []))) := by
  have h : (w.alloc (.cells (l.map fun x => Value.string (bs x)).toArray 9)).heap[w.heap.size]? = some (.cells (l.map fun x => Value.string (bs x)).toArray 9 (0, 0)) := Array.getElem?_push_size
  rw [Lib.cell_of_heap h]
  simp [List.getD, hi]
set_option maxHeartbeats 4000000 in
/-- the numbers of a list -/
theorem rdlist_any {w : World} {tb : Nat} {pb : Addr} (s : ByteArray) (hs : s.size ≤ 50000) (hL : LiesR w (badV tb pb)) :
    Calls Tryz.prog 165 #[.string s] w fun e w' => Below w.heap.size w w' ∧ ((∃ l, M.listR s.data.toList = some l ∧ ∃ a, e = .returned (.tuple #[.slice a l.length l.length, .nilIface]) ∧ Rd w' a l) ∨ (M.listR s.data.toList = none ∧ e = .returned (.tuple #[.slice none 0 0, badV tb pb]))) := by
  by_cases he : s.data.toList = []
  · have es : s = ⟨#[]⟩ := bs_eq he
    subst es
    have FIN : Hid (M.listR (⟨#[]⟩ : ByteArray).data.toList = some [] ∧ Rd w none []) := ⟨rfl, Nat.zero_le _, fun z => absurd rfl z⟩
    clear he hL hs
    go_enter Tryz.func165, Tryz.ntmps165
    go_wp2
    go_ret2
    exact ⟨Below.refl _ _, .inl ⟨[], FIN.out.1, none, rfl, FIN.out.2⟩⟩
  · obtain ⟨m, hm⟩ := hL.ml
    have q1 : (s.toList == []) = false := by rw [beq_eq_false_iff_ne, toList_data]; exact he
    have SP := hide (split_any s 44 m w (by omega) hm)
    have E : Hid (M.listR s.data.toList = M.numsR (M.cutC 44 s.data.toList)) := by unfold Hid M.listR; rw [if_neg he]
    have hcl := M.cutC_len 44 s.data.toList
    have hsl : s.data.toList.length = s.size := by rw [size_eq]
    have NR : Hid (Calls Tryz.prog 167 #[.slice (some ⟨w.heap.size, 0, none⟩) (M.cutC 44 s.data.toList).length (M.cutC 44 s.data.toList).length] (w.alloc (.cells ((M.cutC 44 s.data.toList).map fun x => Value.string (bs x)).toArray 9)) _) :=
      rdnums_any (hL.below ((Below.refl _ w).alloc (Nat.le_refl _) _)) (by simp) (cell_words w _) (by omega) (fun x hx => by have := M.cutC_le 44 _ x hx; omega)
    have BA : Hid (Below w.heap.size w (w.alloc (.cells ((M.cutC 44 s.data.toList).map fun x => Value.string (bs x)).toArray 9))) := (Below.refl _ w).alloc (Nat.le_refl _) _
    clear he hL hm hcl hsl
    unfold badV at NR ⊢
    go_enter Tryz.func165, Tryz.ntmps165
    go_upto_region 3 with fail
    obtain ⟨wl, hwl⟩ : ∃ x, x = M.cutC 44 s.data.toList := ⟨_, rfl⟩
    rw [← hwl] at SP NR BA E
    clear hwl
    generalize hw1 : w.alloc (.cells (wl.map fun x => Value.string (bs x)).toArray 9) = w1 at *
    clear hw1
    go_wp2_with (first
      | (go_at_call 94; refine SP.out.mono ?_; rintro e w2 ⟨rfl, ew⟩; have ew2 := ew.symm; subst ew2)
      | (go_at_call 167; refine NR.out.mono ?_; rintro e w3 ⟨hb3, hw⟩; have B3 := hide (below_on BA.out hb3); clear hb3; rcases hw with ⟨l, hl1, hl2, rfl, ho⟩ | ⟨hl1, rfl⟩))
    · obtain ⟨a, cap, e3, rd, _⟩ := own_rd (F := l) (by rw [hl2]; exact ho)
      rw [hl2] at e3
      cases e3
      have RDL := hide rd
      have HL1 := hide hl1
      have HL2 := hide hl2
      clear ho rd hl1 hl2
      go_wp2
      go_ret2
      exact ⟨B3.out, .inl ⟨l, E.out.trans HL1.out, _, by rw [HL2.out]; rfl, RDL.out⟩⟩
    · have HL1 := hide hl1
      clear hl1
      go_wp2
      go_ret2
      exact ⟨B3.out, .inr ⟨E.out.trans HL1.out, rfl⟩⟩

end Go.Proofs.YtiggkjkjfnlfkaaGreatDoor
