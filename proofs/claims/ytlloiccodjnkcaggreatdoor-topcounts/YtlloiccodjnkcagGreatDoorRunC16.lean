/-
  Several texts as one: PWit, PHas, TwoX, OneFact.
-/
import Derived.Test.YtlloiccodjnkcagGreatDoorRunC15
import Derived.OwnWalk
import Derived.Test.YtlloiccodjnkcagGreatDoorRunC11
import Derived.Deep.Cut
import Derived.Deep.CutRange
namespace Go.Proofs.YtlloiccodjnkcagGreatDoor
open Go.ChangeShapes Go.WideShapes Go.ChangeAt Go.RowKit Go.Lib
set_option linter.unusedVariables false

theorem fillw_own {wr : World} {B g n : Nat} {F : List Int} {k : Nat} (hk : k < F.length)
    (hown : wr.ownsRow B 3 1 (.slice (some ⟨g, 0, none⟩) n n) n ((M.fillI F k).map (Value.int .i64))) :
    (wr.setCell ⟨g, k, none⟩ (.int .i64 F[k])).ownsRow B 3 1 (.slice (some ⟨g, 0, none⟩) n n) n ((M.fillI F (k + 1)).map (Value.int .i64)) := by
  have := (hown.stored k (.int .i64 F[k])).1
  rw [← M.fill_set F k hk, List.map_set]
  exact this
theorem fillw_cell {wr : World} {B g n : Nat} {F : List Int} {k : Nat} (hk : k < F.length) (hn : F.length = n)
    (hown : wr.ownsRow B 3 1 (.slice (some ⟨g, 0, none⟩) n n) n ((M.fillI F k).map (Value.int .i64))) : ∃ z, wr.cell? ⟨g, k, none⟩ = some (.int .i64 z) := by
  have hl : (M.fillI F k).length = n := by rw [M.fill_len F k (by omega), hn]
  exact ⟨_, own_at hown hl k (by omega)⟩

theorem M.sp_at {l : List M.Sp} (h8 : l.length ≤ 8) {k : Nat} (hk : k < l.length) (h : ∀ j, j < k → M.sp1F (l.getD j (0, 0, false)) = 0) (hn : M.sp1F (l.getD k (0, 0, false)) ≠ 0) : M.spF l = M.sp1F (l.getD k (0, 0, false)) := by
  unfold M.spF
  rw [if_neg (by omega), M.first_hit (k := k) (by show (!decide (M.sp1F (l.getD k (0, 0, false)) = 0)) = true; rw [decide_eq_false hn]; rfl) (fun j hj => by show (!decide (M.sp1F (l.getD j (0, 0, false)) = 0)) = false; rw [decide_eq_true (h j hj)]; rfl) hk]
theorem M.sp_all {l : List M.Sp} (h8 : l.length ≤ 8) (h : ∀ j, j < l.length → M.sp1F (l.getD j (0, 0, false)) = 0) : M.spF l = 0 := by
  unfold M.spF
  rw [if_neg (by omega), M.first_miss (fun j hj => by show (!decide (M.sp1F (l.getD j (0, 0, false)) = 0)) = false; rw [decide_eq_true (h j hj)]; rfl)]
theorem M.pick_at {l : List M.Sp} {k : Nat} (hk : k < l.length) (h' : k < (M.pick l).length) : (M.pick l)[k] = M.pickC (l.getD k (0, 0, false)) := by
  show (l.map M.pickC)[k]'(by simpa [M.pick] using h') = _
  rw [M.getD_at hk, List.getElem_map]

theorem kept_span {w W : World} {a0 a1 a2 : Value} {t : TypeId} (h : Below (w.alloc (.cells #[a0, a1, a2] t)).heap.size (w.alloc (.cells #[a0, a1, a2] t)) W) :
    W.cell? ⟨w.heap.size, 0, none⟩ = some a0 ∧ W.cell? ⟨w.heap.size, 1, none⟩ = some a1 ∧ W.cell? ⟨w.heap.size, 2, none⟩ = some a2 := by
  have hs : w.heap.size < (w.alloc (.cells #[a0, a1, a2] t)).heap.size := by simp
  exact ⟨(h.cell (p := ⟨w.heap.size, 0, none⟩) hs).trans (World.cell?_alloc_at _ _ _ 0 rfl), (h.cell (p := ⟨w.heap.size, 1, none⟩) hs).trans (World.cell?_alloc_at _ _ _ 1 rfl), (h.cell (p := ⟨w.heap.size, 2, none⟩) hs).trans (World.cell?_alloc_at _ _ _ 2 rfl)⟩

set_option maxHeartbeats 8000000 in
set_option maxRecDepth 10000 in
theorem witness_new (a0 : Option Addr) (ss : List M.Sp) (ca : Nat) (w : World) (h : RdS w a0 ss) :
    Calls Tryz.prog 132 #[.slice a0 ss.length ca] w fun e w' =>
      ∃ ag cg, e = .returned (.tuple #[.slice ag (M.witV ss).length cg, errV (M.spF ss)]) ∧ Rd w' ag (M.witV ss) ∧ Below w.heap.size w w' ∧ (M.spF ss = 0 → ag = some ⟨w.heap.size, 0, none⟩ ∧ w.heap.size < w'.heap.size) := by
  have hm : ss.length ≤ 9223372036854775807 := h.1
  have RN : ∀ W, Rd W none [] := fun W => ⟨Nat.zero_le _, fun h => absurd rfl h⟩
  have HRN := hide RN
  clear RN
  by_cases h8 : 8 < ss.length
  · have e4 : M.spF ss = 4 := by unfold M.spF; rw [if_pos h8]
    have VE : Hid (M.witV ss = []) := by unfold Hid M.witV; rw [if_neg (by rw [e4]; decide)]
    rw [e4, err_some (show (4 : Int) ≠ 0 by decide)]
    have q : decide (8 < (ss.length : Int)) = true := decide_eq_true (by omega)
    clear h e4
    generalize M.witV ss = V at *
    go_enter Tryz.func132, Tryz.ntmps132
    go_wp2
    go_ret2
    exact ⟨none, 0, by rw [VE.out]; rfl, by rw [VE.out]; exact HRN.out _, Below.refl _ _, fun e => absurd e (by decide)⟩
  · have l8 : ss.length ≤ 8 := by omega
    have q : decide (8 < (ss.length : Int)) = false := decide_eq_false (by omega)
    have HT := hide h
    obtain ⟨i0, hi, hz0, hz1, hz2⟩ := info_parts info3
    have I0 := hide hi
    have FA : Hid (∀ k, k < ss.length → (∀ j, j < k → M.sp1F (ss.getD j (0, 0, false)) = 0) → M.sp1F (ss.getD k (0, 0, false)) ≠ 0 → M.spF ss = M.sp1F (ss.getD k (0, 0, false))) := fun k hk h hn => M.sp_at l8 hk h hn
    have FZ : Hid ((∀ j, j < ss.length → M.sp1F (ss.getD j (0, 0, false)) = 0) → M.spF ss = 0) := fun h => M.sp_all l8 h
    have VN : Hid (M.spF ss ≠ 0 → M.witV ss = []) := fun h => by unfold M.witV; rw [if_neg h]
    have VY : Hid (M.spF ss = 0 → M.witV ss = M.pick ss) := fun h => by unfold M.witV; rw [if_pos h]
    have PA : Hid (∀ k (hk : k < ss.length) (h' : k < (M.pick ss).length), (M.pick ss)[k] = M.pickC (ss.getD k (0, 0, false))) := fun k hk h' => M.pick_at hk h'
    have FL : Hid ((M.pick ss).length = ss.length) := by unfold Hid M.pick; simp
    clear h hi h8
    generalize M.witV ss = V at *
    generalize M.spF ss = SF at *
    generalize M.pick ss = L at *
    go_enter Tryz.func132, Tryz.ntmps132
    go_wp2_with (at_make; refine wpList_make_full _ rfl (.tmp 12) (.tmp 12) 22 rfl w.heap.size 3 i0 (.int .i64 0) 1 Tryz.underlying22 I0.out hz0 hz1 .i64 .i64 _ _ ss.length rfl rfl (by omega) (by omega) (by rw [hz2]; omega) (by unfold maxLen; omega) (Nat.le_refl _) ?_; intro w3 hown hgrow)
    rw [made] at hown
    have hb3 : Below w.heap.size w w3 := (Below.refl _ w).grown hgrow (Nat.le_refl _) (fun k hk => by cases hk)
    have ho : w3.ownsRow w.heap.size 3 1 (.slice (some ⟨w.heap.size, 0, none⟩) ss.length ss.length) ss.length ((M.fillI L 0).map (Value.int .i64)) := by
      rw [M.fill_zero, FL.out]; exact hown
    clear hgrow hown
    go_loopw [16] (fun i wr => ∃ k : Nat, k ≤ ss.length ∧ i = .int .i64 k ∧ wr.ownsRow w.heap.size 3 1 (.slice (some ⟨w.heap.size, 0, none⟩) ss.length ss.length) ss.length ((M.fillI L k).map (Value.int .i64)) ∧ Below w.heap.size w wr ∧ Hid (∀ j, j < k → M.sp1F (ss.getD j (0, 0, false)) = 0)) (fun i _ => ss.length - (intOf i).toNat)
    case atStart => exact ⟨0, Nat.zero_le _, rfl, ho, hb3, fun j hj => by omega⟩
    case round =>
      clear ho hb3
      obtain ⟨k, hk, rfl, hown, hbl, I⟩ := hrel
      by_cases hlt : k < ss.length
      · obtain ⟨b1, off, rfl, hb1, hc⟩ := (HT.out.below hbl).2 (by intro e; subst e; simp at hlt)
        obtain ⟨s0, s1, s2⟩ := hc k hlt
        have hLl : k < L.length := by rw [FL.out]; exact hlt
        have eL := PA.out k hlt hLl
        have B1 : Hid (∀ o, Below w.heap.size w (wr.alloc o)) := fun o => below_on hbl ((Below.refl _ wr).alloc (Nat.le_refl _) o)
        have CE := hide isend_any
        have CH := hide (nothing_any (ss.getD k (0, 0, false)))
        have CF := hide (firstof_any (ss.getD k (0, 0, false)))
        have FAK := hide (FA.out k hlt I.out)
        have kz : (k : Int) < (ss.length : Int) := by omega
        unfold spV at CH CF
        cases hlo : M.outI (ss.getD k (0, 0, false)).1 with
        | true =>
          have EE : M.sp1F (ss.getD k (0, 0, false)) = 1 := by unfold M.sp1F; rw [if_pos (.inl hlo)]
          have SFE : Hid (SF = 1) := by unfold Hid; rw [FAK.out (by rw [EE]; decide), EE]
          have VE : Hid (V = []) := VN.out (by rw [SFE.out]; decide)
          have q1 : M.outI (ss.getD k (0, 0, false)).1 = true := hlo
          have E1 := hide (CE.out (ss.getD k (0, 0, false)).1)
          rw [q1] at E1
          clear hc EE I FAK FA FZ CE hlo hown eL q1
          generalize M.pickC (ss.getD k (0, 0, false)) = pk at *
          generalize (ss.getD k (0, 0, false)).1 = lo at *
          generalize (ss.getD k (0, 0, false)).2.1 = hi at *
          generalize (ss.getD k (0, 0, false)).2.2 = nl at *
          go_wp2_with (go_at_call 151; refine (E1.out _).mono ?_; rintro e w4 ⟨rfl, e4⟩; subst w4; clear E1)
          go_ret2
          exact ⟨none, 0, by rw [VE.out, SFE.out]; rfl, by rw [VE.out]; exact HRN.out _, B1.out _, fun e => absurd e (by rw [SFE.out]; decide)⟩
        | false =>
          cases hhi : M.outI (ss.getD k (0, 0, false)).2.1 with
          | true =>
            have EE : M.sp1F (ss.getD k (0, 0, false)) = 1 := by unfold M.sp1F; rw [if_pos (.inr hhi)]
            have SFE : Hid (SF = 1) := by unfold Hid; rw [FAK.out (by rw [EE]; decide), EE]
            have VE : Hid (V = []) := VN.out (by rw [SFE.out]; decide)
            have q1 : M.outI (ss.getD k (0, 0, false)).1 = false := hlo
            have E1 := hide (CE.out (ss.getD k (0, 0, false)).1)
            rw [q1] at E1
            have q2 : M.outI (ss.getD k (0, 0, false)).2.1 = true := hhi
            have E2 := hide (CE.out (ss.getD k (0, 0, false)).2.1)
            rw [q2] at E2
            clear hc EE I FAK FA FZ CE hlo hown eL hhi q2 q1
            generalize M.pickC (ss.getD k (0, 0, false)) = pk at *
            generalize (ss.getD k (0, 0, false)).1 = lo at *
            generalize (ss.getD k (0, 0, false)).2.1 = hi at *
            generalize (ss.getD k (0, 0, false)).2.2 = nl at *
            go_wp2_with (first | (go_at_call 151; refine (E1.out _).mono ?_; rintro e w4 ⟨rfl, e4⟩; subst w4; clear E1) | (go_at_call 151; refine (E2.out _).mono ?_; rintro e w4 ⟨rfl, e4⟩; subst w4; clear E2))
            go_ret2
            exact ⟨none, 0, by rw [VE.out, SFE.out]; rfl, by rw [VE.out]; exact HRN.out _, B1.out _, fun e => absurd e (by rw [SFE.out]; decide)⟩
          | false =>
            cases hh : M.hasS (ss.getD k (0, 0, false)) with
            | false =>
              have EE : M.sp1F (ss.getD k (0, 0, false)) = 5 := by unfold M.sp1F; rw [if_neg (by rw [hlo, hhi]; decide), if_pos hh]
              have SFE : Hid (SF = 5) := by unfold Hid; rw [FAK.out (by rw [EE]; decide), EE]
              have VE : Hid (V = []) := VN.out (by rw [SFE.out]; decide)
              have q1 : M.outI (ss.getD k (0, 0, false)).1 = false := hlo
              have E1 := hide (CE.out (ss.getD k (0, 0, false)).1)
              rw [q1] at E1
              have q2 : M.outI (ss.getD k (0, 0, false)).2.1 = false := hhi
              have E2 := hide (CE.out (ss.getD k (0, 0, false)).2.1)
              rw [q2] at E2
              rw [hh] at CH
              clear hc EE I FAK FA FZ CE hlo hown eL hhi q2 hh q1
              generalize M.pickC (ss.getD k (0, 0, false)) = pk at *
              generalize (ss.getD k (0, 0, false)).1 = lo at *
              generalize (ss.getD k (0, 0, false)).2.1 = hi at *
              generalize (ss.getD k (0, 0, false)).2.2 = nl at *
              go_wp2_with (first | (go_at_call 151; refine (E1.out _).mono ?_; rintro e w4 ⟨rfl, e4⟩; subst w4; clear E1) | (go_at_call 151; refine (E2.out _).mono ?_; rintro e w4 ⟨rfl, e4⟩; subst w4; clear E2) | (go_at_call 147; refine (CH.out _).mono ?_; rintro e w5 ⟨rfl, hb5⟩))
              go_ret2
              exact ⟨none, 0, by rw [VE.out, SFE.out]; rfl, by rw [VE.out]; exact HRN.out _, below_on (B1.out _) hb5, fun e => absurd e (by rw [SFE.out]; decide)⟩
            | true =>
              have EE : M.sp1F (ss.getD k (0, 0, false)) = 0 := by unfold M.sp1F; rw [if_neg (by rw [hlo, hhi]; decide), if_neg (by rw [hh]; decide)]
              have N : Hid (∀ j, j < k + 1 → M.sp1F (ss.getD j (0, 0, false)) = 0) := fun j hj => by
                by_cases e : j = k
                · rw [e]; exact EE
                · exact I.out j (by omega)
              have R := hide (fun W (hW : Below wr.heap.size wr W) => fillw_own hLl (own_keep hown hW))
              have CC := hide (fun W (hW : Below wr.heap.size wr W) => fillw_cell hLl FL.out (own_keep hown hW))
              have FZN := hide (fun W (hW : Below wr.heap.size wr W) => (own_keep hown hW).frozenAt k)
              have NB : Hid (∀ o W, Below (wr.alloc o).heap.size (wr.alloc o) W → Below wr.heap.size wr W) := fun o W hW => below_on ((Below.refl _ wr).alloc (Nat.le_refl _) o) hW
              rw [eL] at R
              have q1 : M.outI (ss.getD k (0, 0, false)).1 = false := hlo
              have E1 := hide (CE.out (ss.getD k (0, 0, false)).1)
              rw [q1] at E1
              have q2 : M.outI (ss.getD k (0, 0, false)).2.1 = false := hhi
              have E2 := hide (CE.out (ss.getD k (0, 0, false)).2.1)
              rw [q2] at E2
              rw [hh] at CH
              clear hc EE I FAK FA FZ CE hlo hown eL hhi q2 hh q1
              generalize M.pickC (ss.getD k (0, 0, false)) = pk at *
              generalize (ss.getD k (0, 0, false)).1 = lo at *
              generalize (ss.getD k (0, 0, false)).2.1 = hi at *
              generalize (ss.getD k (0, 0, false)).2.2 = nl at *
              go_wp2_with (first | (go_at_call 151; refine (E1.out _).mono ?_; rintro e w4 ⟨rfl, e4⟩; subst w4; clear E1) | (go_at_call 151; refine (E2.out _).mono ?_; rintro e w4 ⟨rfl, e4⟩; subst w4; clear E2) | (go_at_call 147; refine (CH.out _).mono ?_; rintro e w5 ⟨rfl, hb5⟩; have ks := kept_span hb5; have y0 := ks.1; have y1 := ks.2.1; have y2 := ks.2.2; have k5 := NB.out _ _ hb5; clear ks hb5) | (go_at_call 152; refine (CF.out _).mono ?_; rintro e w6 ⟨rfl, hb6⟩; have k6 := below_on k5 hb6; obtain ⟨zz, hcell⟩ := CC.out w6 k6; have hfz := FZN.out w6 k6))
              go_roundw
              case rel => exact ⟨k + 1, by omega, by go_num, R.out w6 k6, (below_on hbl k6).setCell (p := ⟨w.heap.size, k, none⟩) (Nat.le_refl _) _, N⟩
              case measure => simp [intOf]; omega
      · have hke : k = ss.length := by omega
        subst hke
        have SFE : Hid (SF = 0) := FZ.out I.out
        have VE : Hid (V = L) := VY.out SFE.out
        rw [show M.fillI L ss.length = L by rw [← FL.out]; exact M.fill_all L] at hown
        have hown2 : wr.ownsRow w.heap.size 3 1 (.slice (some ⟨w.heap.size, 0, none⟩) L.length ss.length) L.length (L.map (Value.int .i64)) := by rw [FL.out]; exact hown
        obtain ⟨va, vc, ev, RV, _⟩ := own_rd hown2
        cases ev
        have HR := hide RV
        have LT := hide (hown.lt w.heap.size rfl).2
        clear hown hown2 RV FA FZ PA
        go_wp2
        go_ret2
        exact ⟨some ⟨w.heap.size, 0, none⟩, ss.length, by rw [VE.out, SFE.out, FL.out]; rfl, by rw [VE.out]; exact HR.out, hbl, fun _ => ⟨rfl, LT.out⟩⟩

theorem witness_any (a0 : Option Addr) (ss : List M.Sp) (ca : Nat) (w : World) (h : RdS w a0 ss) :
    Calls Tryz.prog 132 #[.slice a0 ss.length ca] w fun e w' =>
      ∃ ag cg, e = .returned (.tuple #[.slice ag (M.witV ss).length cg, errV (M.spF ss)]) ∧ Rd w' ag (M.witV ss) ∧ Below w.heap.size w w' := by
  refine (witness_new a0 ss ca w h).mono ?_
  rintro e w' ⟨ag, cg, rfl, h1, h2, _⟩
  exact ⟨ag, cg, rfl, h1, h2⟩

end Go.Proofs.YtlloiccodjnkcagGreatDoor

namespace Go.Proofs.YtlloiccodjnkcagGreatDoor
open Go.ChangeShapes Go.WideShapes Go.ChangeAt Go.RowKit Go.Lib
set_option linter.unusedVariables false

/-- whether one of the first k spans has nothing -/
def M.noneK (ss : List M.Sp) : Nat → Bool
  | 0 => false
  | k + 1 => M.noneK ss k || !M.hasS (ss.getD k (0, 0, false))
theorem M.noneK_all (ss : List M.Sp) : ∀ k, k ≤ ss.length → M.noneK ss k = !(ss.take k).all M.hasS
  | 0, _ => by simp [M.noneK]
  | k + 1, h => by
    have ih := M.noneK_all ss k (by omega)
    have e : ss.take (k + 1) = ss.take k ++ [ss.getD k (0, 0, false)] := by
      rw [M.getD_at (by omega), List.take_add_one, List.getElem?_eq_getElem (by omega)]; rfl
    rw [M.noneK, ih, e, List.all_append]
    simp
theorem M.noneK_end (ss : List M.Sp) : M.noneK ss ss.length = !M.anyS ss := by
  rw [M.noneK_all ss ss.length (Nat.le_refl _)]; simp [M.anyS]
theorem M.noneK_stop {ss : List M.Sp} : ∀ {k n : Nat}, k ≤ n → n ≤ ss.length → M.noneK ss k = true → M.noneK ss n = true
  | k, 0, h, _, e => by have : k = 0 := by omega
                        subst this; exact e
  | k, n + 1, h, hn, e => by
    by_cases q : k = n + 1
    · subst q; exact e
    · rw [M.noneK, M.noneK_stop (k := k) (n := n) (by omega) (by omega) e]; rfl

set_option maxHeartbeats 4000000 in
set_option maxRecDepth 10000 in
theorem index_any (a0 : Option Addr) (ss : List M.Sp) (ca : Nat) (w : World) (h : RdS w a0 ss) :
    Calls Tryz.prog 155 #[.slice a0 ss.length ca, .func (.func 147) #[] #[]] w fun e w' => ∃ x : Int, e = .returned (.int .i64 x) ∧ decide (0 ≤ x) = (!M.anyS ss) ∧ Below w.heap.size w w' := by
  have hm : ss.length ≤ 9223372036854775807 := h.1
  have HT := hide h
  have C := hide nothing_any
  unfold spV at C
  have EV := hide (M.noneK_end ss)
  clear h
  generalize (!M.anyS ss) = V at *
  go_enter Tryz.func155, Tryz.ntmps155
  go_wp2
  go_loopw [8] (fun i wr => ∃ k : Nat, k ≤ ss.length ∧ i = .int .i64 k ∧ Hid (M.noneK ss k = false) ∧ Below w.heap.size w wr) (fun i _ => ss.length - (intOf i).toNat)
  case atStart => exact ⟨0, Nat.zero_le _, rfl, rfl, Below.refl _ _⟩
  case round =>
    obtain ⟨k, hk, rfl, I, hbl⟩ := hrel
    by_cases hlt : k < ss.length
    · obtain ⟨b1, off, rfl, hb1, hc⟩ := (HT.out.below hbl).2 (by intro e; subst e; simp at hlt)
      obtain ⟨s0, s1, s2⟩ := hc k hlt
      have C1 := hide (C.out (ss.getD k (0, 0, false)))
      cases hh : M.hasS (ss.getD k (0, 0, false)) with
      | true =>
        have N : Hid (M.noneK ss (k + 1) = false) := by unfold Hid; rw [M.noneK, I.out, hh]; rfl
        simp only [hh] at C1
        clear hc hh C
        generalize (ss.getD k (0, 0, false)).1 = lo at *
        generalize (ss.getD k (0, 0, false)).2.1 = hi at *
        generalize (ss.getD k (0, 0, false)).2.2 = nl at *
        go_wp2_with (go_at_call 147; refine (C1.out _).mono ?_; rintro e w2 ⟨rfl, hb2⟩)
        go_roundw
        case rel => exact ⟨k + 1, by omega, by go_num, N, below_on hbl hb2⟩
        case measure => simp [intOf]; omega
      | false =>
        have N : Hid (true = V) := by
          unfold Hid
          rw [← EV.out]
          exact (M.noneK_stop (k := k + 1) (by omega) (Nat.le_refl _) (by rw [M.noneK, hh]; simp)).symm
        simp only [hh] at C1
        clear hc hh C
        generalize (ss.getD k (0, 0, false)).1 = lo at *
        generalize (ss.getD k (0, 0, false)).2.1 = hi at *
        generalize (ss.getD k (0, 0, false)).2.2 = nl at *
        go_wp2_with (go_at_call 147; refine (C1.out _).mono ?_; rintro e w2 ⟨rfl, hb2⟩)
        go_ret
        exact ⟨_, rfl, by rw [← N.out]; simp, below_on hbl hb2⟩
    · have N : Hid (false = V) := by unfold Hid; rw [← EV.out, show ss.length = k by omega, I.out]
      go_wp2
      go_ret
      exact ⟨_, rfl, by rw [← N.out]; simp, hbl⟩

theorem contains_any (a0 : Option Addr) (ss : List M.Sp) (ca : Nat) (w : World) (h : RdS w a0 ss) :
    Calls Tryz.prog 146 #[.slice a0 ss.length ca, .func (.func 147) #[] #[]] w fun e w' => e = .returned (.bool (!M.anyS ss)) ∧ Below w.heap.size w w' := by
  have C := hide (index_any a0 ss ca w h)
  clear h
  generalize (!M.anyS ss) = V at *
  go_enter Tryz.func146, Tryz.ntmps146
  go_wp2_with (go_at_call 155; refine C.out.mono ?_; rintro e w2 ⟨x, rfl, hx, hb2⟩; have HX := hide hx; clear hx)
  go_ret
  exact ⟨ret_bool HX.out, hb2⟩

theorem hasrow_any (a0 : Option Addr) (ss : List M.Sp) (ca : Nat) (w : World) (h : RdS w a0 ss) :
    Calls Tryz.prog 130 #[.slice a0 ss.length ca] w fun e w' => e = .returned (.bool (M.anyS ss)) ∧ Below w.heap.size w w' := by
  have C := hide (contains_any a0 ss ca w h)
  clear h
  cases hb : M.anyS ss <;> rw [hb] at C <;> clear hb <;>
    (go_enter Tryz.func130, Tryz.ntmps130
     go_wp2_with (go_at_call 146; refine C.out.mono ?_; rintro e w2 ⟨rfl, hb2⟩)
     go_ret
     exact ⟨rfl, hb2⟩)

end Go.Proofs.YtlloiccodjnkcagGreatDoor

namespace Go.Proofs.YtlloiccodjnkcagGreatDoor
open Go.ChangeShapes Go.WideShapes Go.ChangeAt Go.RowKit Go.Lib
set_option linter.unusedVariables false

/-- two samples of one cell each, as they are laid -/
def twoX (n : Nat) : List Sx := [(some ⟨n, 0, none⟩, [1], 1, 5), (some ⟨n + 1, 0, none⟩, [2], 1, 9)]
theorem two_rd (w : World) (t u : TypeId) : RdL (((w.alloc (.cells #[.int .i64 1] t)).alloc (.cells #[.int .i64 2] t)).alloc (.cells #[.slice (some ⟨w.heap.size, 0, none⟩) 1 1, .int .i64 5, .slice (some ⟨w.heap.size + 1, 0, none⟩) 1 1, .int .i64 9] u)) (some ⟨w.heap.size + 1 + 1, 0, none⟩) (twoX w.heap.size) := by
  have k1 : Below (w.alloc (.cells #[.int .i64 1] t)).heap.size (w.alloc (.cells #[.int .i64 1] t)) ((w.alloc (.cells #[.int .i64 1] t)).alloc (.cells #[.int .i64 2] t)) := (Below.refl _ _).alloc (Nat.le_refl _) _
  have k2 : Below ((w.alloc (.cells #[.int .i64 1] t)).alloc (.cells #[.int .i64 2] t)).heap.size ((w.alloc (.cells #[.int .i64 1] t)).alloc (.cells #[.int .i64 2] t)) (((w.alloc (.cells #[.int .i64 1] t)).alloc (.cells #[.int .i64 2] t)).alloc (.cells #[.slice (some ⟨w.heap.size, 0, none⟩) 1 1, .int .i64 5, .slice (some ⟨w.heap.size + 1, 0, none⟩) 1 1, .int .i64 9] u)) := (Below.refl _ _).alloc (Nat.le_refl _) _
  have r1 := ((one_rd w 1 t).below k1).below k2
  have r2 := (one_rd (w.alloc (.cells #[.int .i64 1] t)) 2 t).below k2
  rw [show (w.alloc (.cells #[.int .i64 1] t)).heap.size = w.heap.size + 1 by simp] at r2
  refine ⟨by show 2 ≤ maxLen; unfold maxLen; decide, fun x hx => ?_, fun _ => ⟨w.heap.size + 1 + 1, 0, rfl, by simp, fun i hi => ?_⟩⟩
  · rcases List.mem_cons.1 hx with rfl | hx
    · exact r1
    · rcases List.mem_cons.1 hx with rfl | hx
      · exact r2
      · cases hx
  · have hi' : i < 2 := hi
    rcases i with _ | _ | i
    · exact ⟨World.cell?_alloc_at _ _ _ 0 (by simp), World.cell?_alloc_at _ _ _ 1 (by simp)⟩
    · exact ⟨World.cell?_alloc_at _ _ _ 2 (by simp), World.cell?_alloc_at _ _ _ 3 (by simp)⟩
    · omega

end Go.Proofs.YtlloiccodjnkcagGreatDoor

namespace Go.Proofs.YtlloiccodjnkcagGreatDoor
open Go.ChangeShapes Go.WideShapes Go.ChangeAt Go.RowKit Go.Lib
set_option linter.unusedVariables false

def WEvalGives : Prop := ∀ (a0 b0 : Option Addr) (ts : List M.Nd) (xs : List Int) (ca cb : Nat) (w : World), RdN w a0 ts → Rd w b0 xs → Calls Tryz.prog 44 #[.slice a0 ts.length ca, .slice b0 xs.length cb] w fun e w' => e = .returned (.tuple #[.int .i64 (M.evalV ts xs), errV (M.readyF ts xs)]) ∧ Below w.heap.size w w'
theorem M.two_fit : M.grwF [([1], 5), ([2], 9)] 1 3 1 = 0 ∧ M.grwT [([1], 5), ([2], 9)] 1 3 1 = [(0, 2, 1, 2, false, 0), (-1, 0, 0, 0, false, 5), (-1, 0, 0, 0, false, 9)] := by decide +kernel
theorem M.two_eval : M.readyF [(0, 2, 1, 2, false, 0), (-1, 0, 0, 0, false, 5), (-1, 0, 0, 0, false, 9)] [2] = 0 ∧ M.evalV [(0, 2, 1, 2, false, 0), (-1, 0, 0, 0, false, 5), (-1, 0, 0, 0, false, 9)] [2] = 9 := by decide +kernel
set_option maxHeartbeats 4000000 in
set_option maxRecDepth 10000 in
theorem one_any (hF : GroFitGives) (hE : WEvalGives) (w : World) : Calls Tryz.prog 17 #[] w fun e w' => e = .returned (.bool true) ∧ Below w.heap.size w w' := by
  have F0 := hide (fun (n : Nat) (W : World) (h : RdL W (some ⟨n + 1 + 1, 0, none⟩) (twoX n)) => hF (some ⟨n + 1 + 1, 0, none⟩) (twoX n) 2 1 3 1 W h)
  have es : ∀ n, sms (twoX n) = [([1], 5), ([2], 9)] := fun n => rfl
  simp only [es, M.two_fit.1, M.two_fit.2] at F0
  rw [err_nil rfl] at F0
  have E0 := hide (fun pa pc W (h : RdN W pa [(0, 2, 1, 2, false, 0), (-1, 0, 0, 0, false, 5), (-1, 0, 0, 0, false, 9)]) n (h2 : Rd W (some ⟨n, 0, none⟩) [2]) => hE pa (some ⟨n, 0, none⟩) _ [2] pc 1 W h h2)
  rw [M.two_eval.1, M.two_eval.2, err_nil rfl] at E0
  have R0 := hide (two_rd w 3 52)
  have B3 : Hid (∀ o1 o2 o3, Below w.heap.size w (((w.alloc o1).alloc o2).alloc o3)) := fun o1 o2 o3 => (((Below.refl _ w).alloc (Nat.le_refl _) o1).alloc (by simp) o2).alloc (by simp; omega) o3
  clear es hF hE
  go_enter Tryz.func17, Tryz.ntmps17
  go_wp2_with (first
    | (go_at_call 43; refine (F0.out w.heap.size _ R0.out).mono ?_; rintro e w1 ⟨pa, pc, rfl, hr, hb⟩; have k1 := hide (below_on (B3.out _ _ _) hb); have R1 := hide hr; clear hr hb)
    | (go_at_call 44; refine (E0.out pa pc _ (R1.out.below ((Below.refl _ _).alloc (Nat.le_refl _) _)) _ (one_rd _ 2 _)).mono ?_; rintro e w2 ⟨rfl, hb⟩; have k2 := hide (below_on (below_on k1.out ((Below.refl _ _).alloc (Nat.le_refl _) _)) hb); clear hb))
  go_ret
  exact ⟨rfl, k2.out⟩

end Go.Proofs.YtlloiccodjnkcagGreatDoor
