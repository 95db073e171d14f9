/-
  What package row's binCell and Bins answer, for every row and all lists of cuts.
-/
import Derived.Test.YtihaphicidjooabGreatDoorFits
import Derived.Test.YtihaphicidjooabGreatDoorBin
namespace Go.Proofs.YtihaphicidjooabGreatDoor
open Go.ChangeShapes Go.WideShapes Go.ChangeAt Go.RowKit Go.Shelf Go.Lib Go.Sort
set_option linter.unusedVariables false

theorem own_keep {w w' : World} {base n : Nat} {v : Value} {l : List Value} (h : w.ownsRow base 3 1 v n l) (hb : Below w.heap.size w w') : w'.ownsRow base 3 1 v n l := by
  refine ⟨h.1, ?_⟩
  rcases h.2 with h0 | ⟨g, cap, cur, hv, h1, h2, h3⟩
  · exact .inl h0
  · exact .inr ⟨g, cap, cur, hv, h1, (hb.block g (Array.getElem?_eq_some_iff.1 h2).1).trans h2, h3⟩

theorem binCell_any (c : Int) (a : Option Addr) (ys : List Int) (cap : Nat) (w : World) (h : Rd w a ys) (hc : M.badCell c = false) :
    Calls Tryz.prog 33 #[.int .i64 c, .slice a ys.length cap] w fun e w' => e = .returned (.tuple #[.int .i64 (M.binC c ys), errV (M.cutsI ys)]) ∧ Below w.heap.size w w' := by
  rcases M.bad_false hc with h1 | ⟨h1, ho⟩
  · have q : (c != -1125899906842624) = false := by rw [bne_eq_false_iff_eq]; exact h1
    have C := hide (check_any a ys cap w h)
    by_cases hz : M.cutsI ys = 0
    · rw [err_nil hz] at C
      rw [err_nil hz, M.binC_nil hz h1]
      clear h hc h1 hz
      go_enter Tryz.func33, Tryz.ntmps33
      go_wp2_with (go_at_call 43; refine C.out.mono ?_; rintro e w1 ⟨rfl, hb1⟩)
      go_ret2
      exact ⟨rfl, hb1⟩
    · rw [err_some hz] at C
      rw [err_some hz, M.binC_bad hz]
      clear h hc h1 hz
      generalize M.cutsI ys = f at *
      go_enter Tryz.func33, Tryz.ntmps33
      go_wp2_with (go_at_call 43; refine C.out.mono ?_; rintro e w1 ⟨rfl, hb1⟩)
      go_ret2
      exact ⟨rfl, hb1⟩
  · have q : (c != -1125899906842624) = true := by rw [bne_iff_ne]; exact h1
    by_cases hz : M.cutsI ys = 0
    · have C := hide (Bin_ok a ys cap c w h hz ho)
      rw [err_nil hz, M.binC_num hz h1]
      clear h hc h1 hz ho
      generalize M.binI ys c = f at *
      go_enter Tryz.func33, Tryz.ntmps33
      go_wp2_with (go_at_call 42; refine C.out.mono ?_; rintro e w1 ⟨rfl, hb1⟩)
      go_ret2
      exact ⟨rfl, hb1⟩
    · have C := hide (Bin_bad a ys cap c w h hz)
      rw [err_some hz, M.binC_bad hz]
      clear h hc h1 hz ho
      generalize M.cutsI ys = f at *
      go_enter Tryz.func33, Tryz.ntmps33
      go_wp2_with (go_at_call 42; refine C.out.mono ?_; rintro e w1 ⟨rfl, hb1⟩)
      go_ret2
      exact ⟨rfl, hb1⟩

/-- lists of cuts, where they lie -/
abbrev Kc := Option Addr × List Int × Nat
def kV (k : Kc) : Value := .slice k.1 k.2.1.length k.2.2
def RdK (w : World) (a : Option Addr) (ks : List Kc) : Prop :=
  ks.length ≤ maxLen ∧ (∀ k ∈ ks, Rd w k.1 k.2.1) ∧ (ks ≠ [] → ∃ b off, a = some ⟨b, off, none⟩ ∧ b < w.heap.size ∧ ∀ i (h : i < ks.length), w.cell? ⟨b, off + i, none⟩ = some (kV ks[i]))
theorem RdK.below {w w' : World} {a : Option Addr} {ks : List Kc} (h : RdK w a ks) (hb : Below w.heap.size w w') : RdK w' a ks :=
  ⟨h.1, fun k hk => (h.2.1 k hk).below hb, fun hn => by
    obtain ⟨b, off, e, hl, hc⟩ := h.2.2 hn
    exact ⟨b, off, e, Nat.lt_of_lt_of_le hl hb.size, fun i hi => (hb.cell (p := ⟨b, off + i, none⟩) hl).trans (hc i hi)⟩⟩
def kl (ks : List Kc) : List (List Int) := ks.map (·.2.1)
theorem kl_len (ks : List Kc) : (kl ks).length = ks.length := by simp [kl]
theorem kl_at (ks : List Kc) (k : Nat) (h : k < ks.length) (h' : k < (kl ks).length) : (kl ks)[k] = ks[k].2.1 := by simp [kl]

theorem fill_own {wr : World} {B g n : Nat} {F : List Int} {k : Nat} (hk : k < F.length)
    (hown : wr.ownsRow B 3 1 (.slice (some ⟨g, 0, none⟩) n n) n ((M.fillI F k).map (Value.int .i64))) :
    (wr.setCell ⟨g, k, none⟩ (.int .i64 F[k])).ownsRow B 3 1 (.slice (some ⟨g, 0, none⟩) n n) n ((M.fillI F (k + 1)).map (Value.int .i64)) := by
  have := (hown.stored k (.int .i64 F[k])).1
  rw [← M.fill_set F k hk, List.map_set]
  exact this
theorem fill_cell {wr : World} {B g n : Nat} {F : List Int} {k : Nat} (hk : k < F.length) (hn : F.length = n)
    (hown : wr.ownsRow B 3 1 (.slice (some ⟨g, 0, none⟩) n n) n ((M.fillI F k).map (Value.int .i64))) : ∃ z, wr.cell? ⟨g, k, none⟩ = some (.int .i64 z) := by
  have hl : (M.fillI F k).length = n := by rw [M.fill_len F k (by omega), hn]
  exact ⟨_, own_at hown hl k (by omega)⟩

set_option maxHeartbeats 4000000 in
set_option maxRecDepth 10000 in
theorem bins_any (a b : Option Addr) (xs : List Int) (ks : List Kc) (ca cb : Nat) (w : World) (ha : Rd w a xs) (hb : RdK w b ks) :
    Calls Tryz.prog 16 #[.slice a xs.length ca, .slice b ks.length cb] w fun e w' => ∃ ag cg, e = .returned (.tuple #[.slice ag (M.binsV xs (kl ks)).length cg, errV (M.binsF xs (kl ks))]) ∧ Rd w' ag (M.binsV xs (kl ks)) ∧ Below w.heap.size w w' := by
  have hm : xs.length ≤ 9223372036854775807 := ha.1
  have hm2 : ks.length ≤ 9223372036854775807 := hb.1
  have C := hide (rcheck_any a xs ca w ha)
  have kle := kl_len ks
  have RN : ∀ W, Rd W none [] := fun W => ⟨Nat.zero_le _, fun h => absurd rfl h⟩
  by_cases h : M.rowF xs = 0
  · rw [err_nil h] at C
    obtain ⟨l8, hgood⟩ := (M.row_ok xs).1 h
    by_cases hl : ks.length = xs.length
    · have q : ((ks.length : Int) != (xs.length : Int)) = false := by rw [bne_eq_false_iff_eq]; omega
      have e1 := M.bins_some h (by rw [kle, hl] : (kl ks).length = xs.length)
      obtain ⟨i0, hi, hz0, hz1, hz2⟩ := info_parts info3
      have HA := hide ha
      have HB := hide hb
      have HE : Hid (M.faultC (kl ks) = M.binsF xs (kl ks)) := e1.symm
      have HG := hide hgood
      have HL := hide hl
      have FL := hide (M.bins_len xs (kl ks))
      have BV : Hid (M.binsF xs (kl ks) = 0 → M.binsV xs (kl ks) = M.bins xs (kl ks)) := fun h => by unfold M.binsV; rw [if_pos h]
      have BN : Hid (M.binsF xs (kl ks) ≠ 0 → M.binsV xs (kl ks) = []) := fun h => by unfold M.binsV; rw [if_neg h]
      have BA : Hid (∀ k (h : k < xs.length) (h' : k < (M.bins xs (kl ks)).length), (M.bins xs (kl ks))[k] = M.binC xs[k] ((kl ks).getD k [])) := fun k h h' => M.bins_at xs (kl ks) k h h'
      clear ha hb h e1 hgood hl
      generalize M.binsV xs (kl ks) = V at *
      generalize M.binsF xs (kl ks) = F at *
      generalize M.bins xs (kl ks) = L at *
      go_enter Tryz.func16, Tryz.ntmps16
      go_wp2_with (first
        | (go_at_call 6; refine C.out.mono ?_; rintro e w1 ⟨rfl, hb1⟩)
        | (at_make; refine wpList_make_full _ rfl (.tmp 24) (.tmp 24) 22 rfl w.heap.size 3 i0 (.int .i64 0) 1 Tryz.underlying22 hi hz0 hz1 .i64 .i64 _ _ xs.length rfl rfl (by omega) (by omega) (by rw [hz2]; omega) (by unfold maxLen; omega) hb1.size ?_; intro w3 hown hgrow))
      rw [made] at hown
      have hb3 : Below w.heap.size w w3 := hb1.grown hgrow hb1.size (fun k hk => by cases hk)
      have hg1 : w.heap.size ≤ w1.heap.size := hb1.size
      clear hgrow hi hz0 hz1 hz2 C hb1
      generalize w1.heap.size = g at *
      have ho : w3.ownsRow w.heap.size 3 1 (.slice (some ⟨g, 0, none⟩) xs.length xs.length) xs.length ((M.fillI L 0).map (Value.int .i64)) := by
        rw [M.fill_zero, FL.out]; exact hown
      have F0 : Hid (M.faultC ((kl ks).drop 0) = F) := HE.out
      clear hown
      by_cases hx : xs = []
      · have hL : L = [] := List.length_eq_zero_iff.1 (by rw [FL.out, hx]; rfl)
        have hF : F = 0 := by rw [← F0.out]; exact M.fault_end (by rw [kl_len, HL.out, hx]; simp)
        subst hx
        refine wp_loop_rounds 1 ?_
        rw [rounds_succ]
        go_wp2
        go_ret2
        have hV : V = [] := (BV.out hF).trans hL
        subst hF
        subst hV
        exact ⟨some ⟨g, 0, none⟩, 0, rfl, ⟨Nat.zero_le _, fun h => absurd rfl h⟩, hb3⟩
      · have hk0 : ks ≠ [] := by intro e; have := HL.out; rw [e] at this; exact hx (List.length_eq_zero_iff.1 this.symm)
        obtain ⟨rb, ro, rfl, hrb, hrc⟩ := HA.out.2 hx
        obtain ⟨kb, ko, rfl, hkb, hkc⟩ := HB.out.2.2 hk0
        have HR := hide hrc
        have HK := hide hkc
        have HKR : Hid (∀ k ∈ ks, Rd w k.1 k.2.1) := HB.out.2.1
        clear hrc hkc hx hk0 HA HB
        go_loopw [28] (fun i wr => ∃ k : Nat, k ≤ xs.length ∧ i = .int .i64 k ∧ wr.ownsRow w.heap.size 3 1 (.slice (some ⟨g, 0, none⟩) xs.length xs.length) xs.length ((M.fillI L k).map (Value.int .i64)) ∧ Below w.heap.size w wr ∧ Hid (M.faultC ((kl ks).drop k) = F)) (fun i _ => xs.length - (intOf i).toNat)
        case atStart => exact ⟨0, Nat.zero_le _, rfl, ho, hb3, F0⟩
        case round =>
          clear ho hb3 F0
          obtain ⟨k, hk, rfl, hown, hbl, I⟩ := hrel
          by_cases hlt : k < xs.length
          · have hkl : k < ks.length := by have := HL.out; omega
            have hkl' : k < (kl ks).length := by rw [kl_len]; exact hkl
            have hLl : k < L.length := by rw [FL.out]; exact hlt
            have c1 := (hbl.cell (p := ⟨rb, ro + k, none⟩) hrb).trans (Rd.at HR.out k hlt)
            have c2 := (hbl.cell (p := ⟨kb, ko + k, none⟩) hkb).trans (HK.out k hkl)
            have klt : (k : Int) < (ks.length : Int) := by omega
            have eL : L[k] = M.binC xs[k] ks[k].2.1 := by
              rw [BA.out k hlt hLl, List.getD, List.getElem?_eq_getElem hkl', kl_at ks k hkl]; rfl
            have BC := hide (binCell_any xs[k] ks[k].1 ks[k].2.1 ks[k].2.2 wr ((HKR.out _ (List.getElem_mem hkl)).below hbl) (HG.out _ (List.getElem_mem hlt)))
            have FN : Hid (M.cutsI ks[k].2.1 = 0 → M.faultC ((kl ks).drop (k + 1)) = F) := fun hz => by
              rw [← I.out, M.fault_next hkl' (by rw [kl_at ks k hkl]; exact hz)]
            have FB : Hid (M.cutsI ks[k].2.1 ≠ 0 → F = M.cutsI ks[k].2.1) := fun hz => by
              rw [← I.out, M.fault_at hkl' (by rw [kl_at ks k hkl]; exact hz), kl_at ks k hkl]
            have R := hide (fun W (hW : Below wr.heap.size wr W) => fill_own hLl (own_keep hown hW))
            have CC := hide (fun W (hW : Below wr.heap.size wr W) => fill_cell hLl FL.out (own_keep hown hW))
            have FZ := hide (fun W (hW : Below wr.heap.size wr W) => (own_keep hown hW).frozenAt k)
            rw [eL] at R
            clear hown eL I
            unfold kV at c2
            generalize hys : ks[k].2.1 = ys at *
            generalize ks[k].1 = ka at *
            generalize ks[k].2.2 = kc at *
            clear hys
            by_cases hz : M.cutsI ys = 0
            · have NX := hide (FN.out hz)
              rw [err_nil hz] at BC
              clear FN FB hz
              generalize M.binC xs[k] ys = z at *
              generalize xs[k] = y at *
              go_wp2_with (go_at_call 33; refine BC.out.mono ?_; rintro e w4 ⟨rfl, hb4⟩; obtain ⟨zz, hcell⟩ := CC.out w4 hb4; have hfz := FZ.out w4 hb4)
              go_roundw
              case rel => exact ⟨k + 1, by omega, by go_num, R.out w4 hb4, (below_on hbl hb4).setCell hg1 _, NX⟩
              case measure => simp [intOf]; omega
            · have hF := FB.out hz
              have FE := hide hF
              have VE : Hid (V = []) := BN.out (by rw [hF]; exact hz)
              rw [err_some hz] at BC
              have HZ := hide hz
              clear FN FB hz hF
              generalize hcf : M.cutsI ys = f at *
              have HCF := hide hcf
              clear hcf
              generalize M.binC xs[k] ys = z at *
              generalize xs[k] = y at *
              go_wp2_with (go_at_call 33; refine BC.out.mono ?_; rintro e w4 ⟨rfl, hb4⟩)
              go_ret2
              refine ⟨none, 0, ?_, ?_, below_on hbl hb4⟩
              · rw [VE.out, FE.out, err_some HZ.out]; rfl
              · rw [VE.out]; exact RN _
          · have hke : k = xs.length := by omega
            subst hke
            have hF : F = 0 := by rw [← I.out]; exact M.fault_end (by rw [kl_len, HL.out]; exact Nat.le_refl _)
            have hV := BV.out hF
            rw [show M.fillI L xs.length = L by rw [← FL.out]; exact M.fill_all L] at hown
            have HO := hide hown
            have HV := hide hV
            have HF := hide hF
            clear hown hV hF
            go_wp2
            go_ret2
            have hlen : V.length = xs.length := by rw [HV.out, FL.out]
            have e2 : w.heap.size ≤ g := hg1
            refine ⟨some ⟨g, 0, none⟩, xs.length, by rw [HF.out, err_nil rfl, hlen]; rfl, ?_, hbl⟩
            have HO' := HO.out
            rw [← FL.out, ← HV.out] at HO'
            obtain ⟨a2, c2, e3, e4, _⟩ := own_rd HO'
            cases e3
            exact e4
    · obtain ⟨e1, e2⟩ := M.bins_shape (ks := kl ks) h (by rw [kle]; exact hl)
      have q : ((ks.length : Int) != (xs.length : Int)) = true := by rw [bne_iff_ne]; omega
      rw [e1, e2, err_some (by decide)]
      clear h hl e1 e2 ha hb
      go_enter Tryz.func16, Tryz.ntmps16
      go_wp2_with (go_at_call 6; refine C.out.mono ?_; rintro e w1 ⟨rfl, hb1⟩)
      go_ret2
      exact ⟨none, 0, rfl, RN _, hb1⟩
  · obtain ⟨e1, e2⟩ := M.bins_row (ks := kl ks) h
    rw [err_some h] at C
    rw [e1, e2, err_some h]
    clear h e1 e2 ha hb
    generalize M.rowF xs = c at *
    go_enter Tryz.func16, Tryz.ntmps16
    go_wp2_with (go_at_call 6; refine C.out.mono ?_; rintro e w1 ⟨rfl, hb1⟩)
    go_ret2
    exact ⟨none, 0, rfl, RN _, hb1⟩

end Go.Proofs.YtihaphicidjooabGreatDoor
