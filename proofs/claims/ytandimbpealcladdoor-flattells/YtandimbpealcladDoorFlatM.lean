/-
  What package flat's Many answers of up to thirty rows.
-/
import Derived.Test.YtandimbpealcladDoorFlatE
import Derived.Test.YtandimbpealcladDoorRowsIn
namespace Go.Proofs.YtandimbpealcladDoor
open Go.ChangeShapes Go.WideShapes Go.ChangeAt Go.RowKit Go.Lib
set_option linter.unusedVariables false

theorem kl_getD (ks : List Kc) {k : Nat} (h : k < ks.length) : (kl ks).getD k [] = ks[k].2.1 := by
  rw [M.getD_at (by rw [kl_len]; exact h), kl_at ks k h]

set_option maxHeartbeats 8000000 in
set_option maxRecDepth 10000 in
theorem fmany_any (p : Nat) (g : M.Gv) (a : Option Addr) (ks : List Kc) (ca : Nat) (w : World) (h : FO w p g) (hg : M.groveF g = 0) (hr : RdK w a ks) (h30 : ks.length ≤ 30) :
    Calls Tryd.prog 11 #[.pointer (some ⟨p, 0, none⟩), .slice a ks.length ca] w fun e w' => ∃ ag cg, e = .returned (.tuple #[.slice ag (M.manyV g (kl ks)).length cg, errV (M.manyF g (kl ks))]) ∧ Rd w' ag (M.manyV g (kl ks)) ∧ Below w.heap.size w w' := by
  have CE := hide (fun b xs cb W (hW : Below w.heap.size w W) (hb : Rd W b xs) => feval_any p g b xs cb W (h.below hW) hg hb)
  have HK := hide (fun W (hW : Below w.heap.size w W) => hr.below hW)
  have M0 : Hid ((∀ k (h : k < ks.length), M.standF g ks[k].2.1 = 0) → M.manyF g (kl ks) = 0 ∧ M.manyV g (kl ks) = (kl ks).map (M.evalG g)) := fun hh => by
    have : M.manyF g (kl ks) = 0 := M.many_none (fun k hk => by rw [kl_len] at hk; rw [kl_getD ks hk]; exact hh k hk)
    exact ⟨this, by unfold M.manyV; rw [if_pos this]⟩
  have M1 : Hid (∀ k (h : k < ks.length), (∀ j (h : j < ks.length), j < k → M.standF g ks[j].2.1 = 0) → M.standF g ks[k].2.1 ≠ 0 → M.manyF g (kl ks) = M.standF g ks[k].2.1 ∧ M.manyV g (kl ks) = []) := fun k hk hj hn => by
    have e : M.manyF g (kl ks) = M.standF g ks[k].2.1 := by
      rw [← kl_getD ks hk]
      refine M.many_some (by rw [kl_len]; exact hk) (fun j hjk => ?_) (by rw [kl_getD ks hk]; exact hn)
      rw [kl_getD ks (show j < ks.length by omega)]
      exact hj j (by omega) hjk
    exact ⟨e, by unfold M.manyV; rw [if_neg (by rw [e]; exact hn)]⟩
  have LE : Hid (∀ k (h : k < ks.length), ((kl ks).map (M.evalG g)).getD k 0 = M.evalG g ks[k].2.1) := fun k hk => by
    rw [M.getD_at (by rw [List.length_map, kl_len]; exact hk), List.getElem_map, kl_at ks k hk]
  have LL : Hid (((kl ks).map (M.evalG g)).length = ks.length) := by unfold Hid; rw [List.length_map, kl_len]
  have RN : ∀ W, Rd W none [] := fun W => ⟨Nat.zero_le _, fun h => absurd rfl h⟩
  obtain ⟨i0, hi, hz0, hz1, hz2⟩ := info_parts info3
  have I0 := hide hi
  have gt : decide (1000 < (ks.length : Int)) = false := decide_eq_false (by omega)
  clear h hg hr hi
  generalize M.manyV g (kl ks) = MV at *
  generalize M.manyF g (kl ks) = MF at *
  generalize (kl ks).map (M.evalG g) = EL at *
  go_enter Tryd.func11, Tryd.ntmps11
  go_wp2_with (at_make; refine wpList_make_full _ rfl (.tmp 16) (.tmp 16) 22 rfl w.heap.size 3 i0 (.int .i64 0) 1 Tryd.underlying22 I0.out hz0 hz1 .i64 .i64 _ _ ks.length rfl rfl (by omega) (by omega) (by rw [hz2]; omega) (by unfold maxLen; omega) (Nat.le_refl _) ?_; intro w3 hown hgrow)
  rw [made] at hown
  have hb3 : Below w.heap.size w w3 := (Below.refl _ w).grown hgrow (Nat.le_refl _) (fun k hk => by cases hk)
  have HO : Hid (w3.ownsRow w.heap.size 3 1 (.slice (some ⟨w.heap.size, 0, none⟩) ks.length ks.length) ks.length ((M.fillK EL 0).map (Value.int .i64))) := by
    unfold Hid; rw [M.fillK_zero, LL.out]; exact hown
  clear hown hgrow
  go_wp2
  go_loopw [20] (fun i wr => ∃ k : Nat, k ≤ ks.length ∧ i = .int .i64 k ∧ Hid (∀ j (h : j < ks.length), j < k → M.standF g ks[j].2.1 = 0) ∧ wr.ownsRow w.heap.size 3 1 (.slice (some ⟨w.heap.size, 0, none⟩) ks.length ks.length) ks.length ((M.fillK EL k).map (Value.int .i64)) ∧ Hid (Below w.heap.size w wr)) (fun i _ => ks.length - (intOf i).toNat)
  case atStart => exact ⟨0, Nat.zero_le _, rfl, fun j h hj => by omega, HO.out, hb3⟩
  case round =>
    clear HO hb3
    obtain ⟨k, hk, rfl, I, hown, K⟩ := hrel
    by_cases hlt : k < ks.length
    · have hK := HK.out wr K.out
      obtain ⟨bt, ot, eta, hbt, hct⟩ := hK.2.2 (by intro e; rw [e] at hlt; simp at hlt)
      subst eta
      have ct := hct k hlt
      unfold kV at ct
      have EC := hide (CE.out ks[k].1 ks[k].2.1 ks[k].2.2 wr K.out (hK.2.1 _ (List.getElem_mem hlt)))
      have kz : (k : Int) < (ks.length : Int) := by omega
      have hkL : k < EL.length := by rw [LL.out]; exact hlt
      by_cases hs : M.standF g ks[k].2.1 = 0
      · have N : Hid (∀ j (h : j < ks.length), j < k + 1 → M.standF g ks[j].2.1 = 0) := fun j h hj => by
          by_cases e : j = k
          · subst e; exact hs
          · exact I.out j h (by omega)
        rw [err_nil hs, ← LE.out k hlt] at EC
        have R := hide (fun W (hW : Below wr.heap.size wr W) => fillK_own hkL (own_keep hown hW))
        have CC := hide (fun W (hW : Below wr.heap.size wr W) => fillK_cell hkL LL.out (own_keep hown hW))
        have FZ := hide (fun W (hW : Below wr.heap.size wr W) => (own_keep hown hW).frozenAt k)
        clear hown hK hct CE HK M0 M1 LE hs I
        generalize EL.getD k 0 = z at *
        generalize ks[k].2.1.length = xl at *
        generalize ks[k].2.2 = xc at *
        generalize ks[k].1 = xa at *
        go_wp2_with (go_at_call 5; refine EC.out.mono ?_; rintro e w4 ⟨rfl, hb4⟩; obtain ⟨zz, hcell⟩ := CC.out w4 hb4; have hfz := FZ.out w4 hb4)
        go_roundw
        case rel => exact ⟨k + 1, by omega, by go_num, N, R.out w4 hb4, (below_on K.out hb4).setCell (Nat.le_refl _) _⟩
        case measure => simp [intOf]; omega
      · obtain ⟨m1, m2⟩ := M1.out k hlt I.out hs
        have EM : Hid (MF = M.standF g ks[k].2.1 ∧ MV = []) := ⟨m1, m2⟩
        have EE := hide (err_some hs)
        rw [err_some hs] at EC
        clear hown hK hct CE HK M0 M1 LE hs I m1 m2
        generalize M.evalG g ks[k].2.1 = z at *
        generalize M.standF g ks[k].2.1 = sf at *
        generalize ks[k].2.1.length = xl at *
        generalize ks[k].2.2 = xc at *
        generalize ks[k].1 = xa at *
        go_wp2_with (go_at_call 5; refine EC.out.mono ?_; rintro e w4 ⟨rfl, hb4⟩)
        go_ret2
        exact ⟨none, 0, by rw [EM.out.1, EM.out.2, EE.out]; rfl, by rw [EM.out.2]; exact RN _, below_on K.out hb4⟩
    · have hke : k = ks.length := by omega
      obtain ⟨m1, m2⟩ := M0.out (fun j hj => I.out j hj (by omega))
      rw [show M.fillK EL k = EL by rw [hke, ← LL.out]; exact M.fillK_all EL] at hown
      have HR : Hid (Rd wr (some ⟨w.heap.size, 0, none⟩) EL) := by
        have ho : wr.ownsRow w.heap.size 3 1 (.slice (some ⟨w.heap.size, 0, none⟩) EL.length EL.length) EL.length (EL.map (Value.int .i64)) := by rw [LL.out]; exact hown
        obtain ⟨a, c, e, hrd⟩ := own_rd ho
        cases e
        exact hrd.1
      have EM : Hid (MF = 0 ∧ MV = EL) := ⟨m1, m2⟩
      have kz : ¬ ((k : Int) < (ks.length : Int)) := by omega
      clear hke hown CE HK M0 M1 LE I m1 m2
      go_wp2
      go_ret2
      exact ⟨some ⟨w.heap.size, 0, none⟩, ⟨ks.length, by rw [EM.out.1, EM.out.2, LL.out, err_nil rfl]; rfl⟩, by rw [EM.out.2]; exact HR.out, K.out⟩

end Go.Proofs.YtandimbpealcladDoor
