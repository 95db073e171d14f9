/-
  What package cut's Count answers, for every two lists.
-/
import Derived.Test.YtpobjlcgamcoiaaDoorVals
namespace Go.Proofs.YtpobjlcgamcoiaaDoor
open Go.ChangeShapes Go.WideShapes Go.ChangeAt Go.RowKit Go.Shelf Go.Lib Go.Sort
set_option linter.unusedVariables false

theorem own_keep {w w' : World} {base n : Nat} {v : Value} {l : List Value} (h : w.ownsRow base 3 1 v n l) (hb : Below w.heap.size w w') : w'.ownsRow base 3 1 v n l := by
  refine ⟨h.1, ?_⟩
  rcases h.2 with h0 | ⟨g, cap, cur, hv, h1, h2, h3⟩
  · exact .inl h0
  · exact .inr ⟨g, cap, cur, hv, h1, (hb.block g (Array.getElem?_eq_some_iff.1 h2).1).trans h2, h3⟩

theorem Count_bad1 (a b : Option Addr) (xs ys : List Int) (ca cb : Nat) (w : World) (ha : Rd w a xs) (hc : M.cutsI xs ≠ 0) :
    Calls Tryd.prog 15 #[.slice a xs.length ca, .slice b ys.length cb] w fun e w' => e = .returned (.tuple #[.slice none 0 0, .iface 41 (.int .i64 (M.cutsI xs))]) ∧ Below w.heap.size w w' := by
  have C := hide (check_any a xs ca w ha)
  rw [err_some hc] at C
  clear ha hc
  generalize M.cutsI xs = c at *
  go_enter Tryd.func15, Tryd.ntmps15
  go_wp2_with (go_at_call 6; refine C.out.mono ?_; rintro e w1 ⟨rfl, hb1⟩)
  go_ret2
  exact ⟨rfl, hb1⟩

theorem Count_bad2 (a b : Option Addr) (xs ys : List Int) (ca cb : Nat) (w : World) (ha : Rd w a xs) (hb : Rd w b ys) (hc : M.cutsI xs = 0) (hv : M.valsI ys ≠ 0) :
    Calls Tryd.prog 15 #[.slice a xs.length ca, .slice b ys.length cb] w fun e w' => e = .returned (.tuple #[.slice none 0 0, .iface 41 (.int .i64 (M.valsI ys))]) ∧ Below w.heap.size w w' := by
  have C := hide (check_any a xs ca w ha)
  rw [err_nil hc] at C
  have D := hide (fun W (hW : Below w.heap.size w W) => vals_any b ys cb W (hb.below hW))
  rw [err_some hv] at D
  clear ha hb hc hv
  generalize M.valsI ys = c at *
  go_enter Tryd.func15, Tryd.ntmps15
  go_wp2_with (first | (go_at_call 6; refine C.out.mono ?_; rintro e w1 ⟨rfl, hb1⟩) | (go_at_call 20; refine (D.out _ hb1).mono ?_; rintro e w2 ⟨rfl, hb2⟩))
  go_ret2
  exact ⟨rfl, below_on hb1 hb2⟩

theorem cnt_step {wr : World} {B g n cap : Nat} {xs ys : List Int} {k : Nat} (hk : k < ys.length)
    (hown : wr.ownsRow B 3 1 (.slice (some ⟨g, 0, none⟩) n cap) n ((M.cntI xs ys k).map (Value.int .i64))) :
    (wr.setCell ⟨g, M.binI xs ys[k], none⟩ (.int .i64 ((M.cntI xs ys k).getD (M.binI xs ys[k]) 0 + 1))).ownsRow B 3 1 (.slice (some ⟨g, 0, none⟩) n cap) n ((M.cntI xs ys (k + 1)).map (Value.int .i64)) := by
  have := (hown.stored (M.binI xs ys[k]) (.int .i64 ((M.cntI xs ys k).getD (M.binI xs ys[k]) 0 + 1))).1
  have e : M.cntI xs ys (k + 1) = (M.cntI xs ys k).set (M.binI xs ys[k]) ((M.cntI xs ys k).getD (M.binI xs ys[k]) 0 + 1) := by
    show (M.cntI xs ys k).set (M.binI xs (ys.getD k 0)) ((M.cntI xs ys k).getD (M.binI xs (ys.getD k 0)) 0 + 1) = _
    rw [show ys.getD k 0 = ys[k] from by simp [List.getD, List.getElem?_eq_getElem hk]]
  rw [e, List.map_set]
  exact this
theorem cnt_cell {wr : World} {B g n cap : Nat} {xs ys : List Int} {k r : Nat} (hn : n = xs.length + 1) (hr : r < n)
    (hown : wr.ownsRow B 3 1 (.slice (some ⟨g, 0, none⟩) n cap) n ((M.cntI xs ys k).map (Value.int .i64))) :
    wr.cell? ⟨g, r, none⟩ = some (.int .i64 ((M.cntI xs ys k).getD r 0)) := by
  have hl : (M.cntI xs ys k).length = n := by rw [M.cnt_len, hn]
  rw [own_at hown hl r (by omega), List.getD, List.getElem?_eq_getElem (by omega)]
  rfl

set_option maxHeartbeats 4000000 in
set_option maxRecDepth 10000 in
theorem Count_ok (a b : Option Addr) (xs ys : List Int) (ca cb : Nat) (w : World) (ha : Rd w a xs) (hb : Rd w b ys) (hc : M.cutsI xs = 0) (hv : M.valsI ys = 0) :
    Calls Tryd.prog 15 #[.slice a xs.length ca, .slice b ys.length cb] w fun e w' => ∃ g, e = .returned (.tuple #[.slice (some ⟨g, 0, none⟩) (xs.length + 1) (xs.length + 1), .nilIface]) ∧
      w'.ownsRow w.heap.size 3 1 (.slice (some ⟨g, 0, none⟩) (xs.length + 1) (xs.length + 1)) (xs.length + 1) ((M.cntI xs ys ys.length).map (Value.int .i64)) ∧ Below w.heap.size w w' := by
  obtain ⟨i0, hi, hz0, hz1, hz2⟩ := info_parts info3
  have C := hide (check_any a xs ca w ha)
  rw [err_nil hc] at C
  have D := hide (fun W (hW : Below w.heap.size w W) => vals_any b ys cb W (hb.below hW))
  rw [err_nil hv] at D
  have l1 : xs.length ≤ 60 := ((M.cuts_ok xs).1 hc).1
  have l2 : ys.length ≤ 1000 := ((M.vals_ok ys).1 hv).1
  have BN := hide (fun x W (hW : Below w.heap.size w W) => bin_any a xs ca x W (ha.below hW) ((M.cuts_ok xs).1 hc).2.2 ((M.cuts_ok xs).1 hc).1)
  have HB := hide hb
  clear ha hb hc hv
  go_enter Tryd.func15, Tryd.ntmps15
  go_wp2_with (first | (go_at_call 6; refine C.out.mono ?_; rintro e w1 ⟨rfl, hb1⟩) | (go_at_call 20; refine (D.out _ hb1).mono ?_; rintro e w2 ⟨rfl, hb2⟩) | (at_make; refine wpList_make_full _ rfl (.tmp 23) (.tmp 23) 22 rfl w.heap.size 3 i0 (.int .i64 0) 1 Tryd.underlying22 hi hz0 hz1 .i64 .i64 _ _ (xs.length + 1) rfl rfl (by omega) (by omega) (by rw [hz2]; omega) (by unfold maxLen; omega) (below_on hb1 hb2).size ?_; intro w3 hown hgrow))
  rw [made] at hown
  have hb3 : Below w.heap.size w w3 := (below_on hb1 hb2).grown hgrow (below_on hb1 hb2).size (fun k hk => by cases hk)
  have hg1 : w.heap.size ≤ w2.heap.size := (below_on hb1 hb2).size
  clear hgrow hi hz0 hz1 hz2 C D hb1 hb2
  generalize w2.heap.size = g at *
  have hn : xs.length + 1 = xs.length + 1 := rfl
  have HN := hide hn
  clear hn
  generalize hnn : xs.length + 1 = n at *
  have ho : w3.ownsRow w.heap.size 3 1 (.slice (some ⟨g, 0, none⟩) n n) n ((M.cntI xs ys 0).map (Value.int .i64)) := by
    show w3.ownsRow w.heap.size 3 1 (.slice (some ⟨g, 0, none⟩) n n) n ((List.replicate (xs.length + 1) 0).map (Value.int .i64))
    rw [hnn]; exact hown
  have NN := hide hnn
  have n61 : n ≤ 61 := by omega
  clear hnn hown HN
  by_cases hy : ys = []
  · subst hy
    refine wp_loop_rounds 1 ?_
    rw [rounds_succ]
    go_wp2
    go_ret2
    have e := NN.out
    unfold Hid at NN
    subst e
    exact ⟨g, rfl, ho, hb3⟩
  · obtain ⟨bb, ob, rfl, hbb, hcb⟩ := HB.out.2 hy
    have HC := hide hcb
    clear hcb hy HB
    go_loopw [27] (fun i wr => ∃ k : Nat, k ≤ ys.length ∧ i = .int .i64 k ∧ wr.ownsRow w.heap.size 3 1 (.slice (some ⟨g, 0, none⟩) n n) n ((M.cntI xs ys k).map (Value.int .i64)) ∧ Below w.heap.size w wr) (fun i _ => ys.length - (intOf i).toNat)
    case atStart => exact ⟨0, Nat.zero_le _, rfl, ho, hb3⟩
    case round =>
      clear ho hb3
      obtain ⟨k, hk, rfl, hown, hbl⟩ := hrel
      by_cases hlt : k < ys.length
      · have hck := (hbl.cell (p := ⟨bb, ob + k, none⟩) hbb).trans (Rd.at HC.out k hlt)
        have hr : M.binI xs ys[k] < n := by have := M.bin_le xs ys[k]; have := NN.out; omega
        have R := hide (fun W (hW : Below wr.heap.size wr W) => cnt_step hlt (own_keep hown hW))
        have CC := hide (fun W (hW : Below wr.heap.size wr W) => cnt_cell NN.out.symm hr (own_keep hown hW))
        have FZ := hide (fun W (hW : Below wr.heap.size wr W) => (own_keep hown hW).frozenAt (M.binI xs ys[k]))
        have B1 := hide (BN.out ys[k] wr hbl)
        have BD := hide (M.cnt_bd xs ys k (M.binI xs ys[k]))
        have bd := BD.out
        clear hown BD
        generalize M.binI xs ys[k] = r at *
        generalize (M.cntI xs ys k).getD r 0 = z at *
        generalize ys[k] = y at *
        go_wp2_with (go_at_call 23; refine B1.out.mono ?_; rintro e w4 ⟨rfl, hb4⟩; have hcell := CC.out w4 hb4; have hfz := FZ.out w4 hb4)
        go_roundw
        case rel => exact ⟨k + 1, by omega, by go_num, R.out w4 hb4, (below_on hbl hb4).setCell hg1 _⟩
        case measure => simp [intOf]; omega
      · have hke : k = ys.length := by omega
        rw [hke] at hown
        have HO := hide hown
        clear hown hke
        go_wp2
        go_ret2
        have e := NN.out
        unfold Hid at NN
        subst e
        exact ⟨g, rfl, HO.out, hbl⟩

end Go.Proofs.YtpobjlcgamcoiaaDoor
