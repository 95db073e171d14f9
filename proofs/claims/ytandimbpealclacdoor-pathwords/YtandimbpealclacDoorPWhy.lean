/-
  What package path's Why answers, for every list of nodes and every row; the table of powers lies as package strconv lays it.
-/
import Derived.Test.YtandimbpealclacDoorPWord
import Derived.Test.YtandimbpealclacDoorPPath
import Derived.OwnWalk
namespace Go.Proofs.YtandimbpealclacDoor
open Go.ChangeShapes Go.WideShapes Go.ChangeAt Go.RowKit Go.Shelf Go.Lib Go.Sort
set_option linter.unusedVariables false

theorem info9 : (Tryd.prog.info? 9).map (fun i => (i.zero, i.size, i.bytes)) = some (some (.string ⟨#[]⟩), 1, 16) := by kernel_rfl
theorem made9 (n : Nat) : (madeCells (Value.cells (.string ⟨#[]⟩)) (n * 1)).toList = List.replicate n (.string ⟨#[]⟩) := by
  rw [Nat.mul_one]
  show (madeCells #[Value.string ⟨#[]⟩] n).toList = _
  rw [toList_madeCells_one]
def fill9 (F : List Value) (k : Nat) : List Value := F.take k ++ List.replicate (F.length - k) (.string ⟨#[]⟩)
theorem fill9_set (F : List Value) (k : Nat) (h : k < F.length) : (fill9 F k).set k F[k] = fill9 F (k + 1) := by
  unfold fill9
  rw [List.set_append_right _ _ (by rw [List.length_take]; omega), List.length_take, Nat.min_eq_left (by omega), Nat.sub_self,
    show F.length - k = (F.length - (k + 1)) + 1 by omega, List.replicate_succ, List.set_cons_zero, List.take_succ_eq_append_getElem h, List.append_assoc]
  rfl
theorem fill9_own {wr : World} {B g n : Nat} {F : List Value} {k : Nat} (hk : k < F.length)
    (hown : wr.ownsRow B 9 1 (.slice (some ⟨g, 0, none⟩) n n) n (fill9 F k)) :
    (wr.setCell ⟨g, k, none⟩ F[k]).ownsRow B 9 1 (.slice (some ⟨g, 0, none⟩) n n) n (fill9 F (k + 1)) := by
  have := (hown.stored k F[k]).1
  rw [← fill9_set F k hk]
  exact this
theorem fill9_cell {wr : World} {B g n : Nat} {F : List Value} {k : Nat} (hk : k < F.length) (hn : F.length = n)
    (hown : wr.ownsRow B 9 1 (.slice (some ⟨g, 0, none⟩) n n) n (fill9 F k)) : wr.cell? ⟨g, k, none⟩ = some (.string ⟨#[]⟩) := by
  rw [hown.cellAt k (by omega)]
  unfold fill9
  rw [List.getElem?_append_right (by rw [List.length_take]; omega), List.length_take, Nat.min_eq_left (by omega), Nat.sub_self, List.getElem?_replicate, if_pos (by omega)]

/-- the words of a way, as values -/
def wstr (ws : List (List UInt8)) : List Value := ws.map fun l => .string (bs l)
theorem wstr_len (ws : List (List UInt8)) : (wstr ws).length = ws.length := by simp [wstr]
theorem wjoin_any (g : Nat) (ws : List (List UInt8)) (B : Nat) (w : World) (l63 : ws.length ≤ 63) (hl : (Lib.join ws [32]).length ≤ 2000) (h : w.ownsRow B 9 1 (.slice (some ⟨g, 0, none⟩) ws.length ws.length) ws.length (wstr ws)) :
    Calls Tryd.prog 24 #[.slice (some ⟨g, 0, none⟩) ws.length ws.length, .string ⟨#[32]⟩] w fun e w' => e = .returned (.string (bs (Lib.join ws [32]))) ∧ Below w.heap.size w w' := by
  have hg : g < w.heap.size := by
    rcases h.2 with ⟨h0, _⟩ | ⟨g', cap, cur, hv, h1, h2, h3⟩
    · cases h0
    · cases hv; exact (Array.getElem?_eq_some_iff.1 h2).1
  have e1 : ((ws.map bs).map (·.data.toList)) = ws := by
    rw [List.map_map]
    exact (List.map_congr_left fun c _ => bs_list c).trans (List.map_id _)
  have := Tryd.strings_Join g 0 ws.length (ws.map bs) ⟨#[32]⟩ w (fun j x hx => by
      rw [Nat.zero_add]
      rw [List.getElem?_map] at hx
      cases hj : ws[j]? with
      | none => rw [hj] at hx; cases hx
      | some c =>
        rw [hj] at hx
        cases hx
        have hjl : j < ws.length := (List.getElem?_eq_some_iff.1 hj).1
        rw [h.cellAt j (by omega)]
        simp [wstr, hj]) hg (by simp; omega) (by simp) (by rw [e1]; show (Lib.join ws [32]).length ≤ _; omega)
  rw [e1, List.length_map] at this
  exact this

set_option maxHeartbeats 4000000 in
set_option maxRecDepth 10000 in
theorem why_any (a b : Option Addr) (ts : List M.Nd) (xs : List Int) (ca cb : Nat) (w : World) (ht : RdN w a ts) (hr : Rd w b xs) (hT : Tabs w) :
    Calls Tryd.prog 5 #[.slice a ts.length ca, .slice b xs.length cb] w fun e w' => e = .returned (.tuple #[.string (if M.readyF ts xs = 0 then bs (M.why ts xs 0) else ⟨#[]⟩), errV (M.readyF ts xs)]) ∧ Below w.heap.size w w' := by
  have C := hide (path_any a b ts xs ca cb w ht hr)
  by_cases h : M.readyF ts xs = 0
  · rw [err_nil h] at C
    rw [if_pos h, err_nil h]
    obtain ⟨F, _⟩ := M.tree_ok (M.ready_ok h).2
    have kl := (M.leafV_leaf h).1
    have m8 : xs.length ≤ 8 := by have := F.2.2.2.1; omega
    have l63 := F.1
    have PU := hide (M.path_up h)
    have WJ := M.why_join h
    have PL := (M.upL_len ts (M.leafV ts xs)).2
    have WL := hide (M.wayN_len ts (M.leafV ts xs))
    have WA : Hid (∀ i, i < (M.upL ts (M.leafV ts xs)).length → (M.wayN ts (M.leafV ts xs)).getD i 0 = ((M.upL ts (M.leafV ts xs)).getD i 0 : Nat)) := fun i hi => M.wayN_at ts _ i hi
    have UM : Hid (∀ i, i < (M.upL ts (M.leafV ts xs)).length → (M.upL ts (M.leafV ts xs)).getD i 0 < ts.length) := fun i hi => M.upL_mem kl hi
    have JL : (Lib.join ((M.upL ts (M.leafV ts xs)).map fun j => M.wordN (M.nAt ts j) xs) [32]).length ≤ 2000 := by
      rw [← WJ]
      have h1 := M.why_len F.2.2.2.2.1 m8 xs ts.length 0 F.2.1 (by omega)
      have h2 := M.way_size F.2.2.2.2.1 xs ts.length 0 F.2.1 (by omega)
      omega
    have FN := hide F.2.2.2.2.1
    rw [WJ]
    obtain ⟨i0, hi, hz0, hz1, hz2⟩ := info_parts info9
    have I0 := hide hi
    have HA := hide ht
    have HX := hide hr
    have HL := hide hT
    clear h F WJ ht hr hT hi
    generalize M.pathV ts xs = P at *
    generalize M.wayN ts (M.leafV ts xs) = WN at *
    generalize hU : M.upL ts (M.leafV ts xs) = U at *
    have pl1 : U.length ≤ 63 := by omega
    have PN : Hid (P.length = U.length) := by unfold Hid; rw [PU.out, WL.out]
    have pn : P.length ≤ 63 := by rw [PN.out]; exact pl1
    have PA : Hid (∀ i, i < P.length → P.getD i 0 = (U.getD i 0 : Nat)) := fun i hi => by rw [PU.out]; exact WA.out i (by rw [← PN.out]; exact hi)
    have UN : Hid (∀ i, i < P.length → U.getD i 0 < ts.length) := fun i hi => UM.out i (by rw [← PN.out]; exact hi)
    have SA : Hid (∀ i (h : i < (wstr (U.map fun j => M.wordN (M.nAt ts j) xs)).length), (wstr (U.map fun j => M.wordN (M.nAt ts j) xs))[i] = .string (bs (M.wordN (M.nAt ts (U.getD i 0)) xs))) := by
      intro i hi
      have hi' : i < U.length := by rw [wstr_len, List.length_map] at hi; exact hi
      rw [M.getD_at hi']
      simp [wstr]
    have FL : Hid ((wstr (U.map fun j => M.wordN (M.nAt ts j) xs)).length = P.length) := by unfold Hid; rw [wstr_len, List.length_map, PN.out]
    have JN : Hid (∀ g W, World.ownsRow W w.heap.size 9 1 (.slice (some ⟨g, 0, none⟩) P.length P.length) P.length (wstr (U.map fun j => M.wordN (M.nAt ts j) xs)) → Calls Tryd.prog 24 #[.slice (some ⟨g, 0, none⟩) P.length P.length, .string ⟨#[32]⟩] W fun e w' => e = .returned (.string (bs (Lib.join (U.map fun j => M.wordN (M.nAt ts j) xs) [32]))) ∧ Below W.heap.size W w') := by
      intro g W hW
      have e : P.length = (U.map fun j => M.wordN (M.nAt ts j) xs).length := by rw [List.length_map, PN.out]
      rw [e] at hW ⊢
      exact wjoin_any g _ w.heap.size W (by rw [← e]; exact pn) JL hW
    clear PU WA UM hU JL
    generalize bs (Lib.join (U.map fun j => M.wordN (M.nAt ts j) xs) [32]) = T at *
    generalize wstr (U.map fun j => M.wordN (M.nAt ts j) xs) = SS at *
    go_enter Tryd.func5, Tryd.ntmps5
    go_wp2_with (first
      | (go_at_call 6; refine C.out.mono ?_; rintro e w1 ⟨ag, cg, rfl, hrd, hb1⟩; have HR := hide hrd; clear hrd)
      | (at_make; refine wpList_make_full _ rfl (.tmp 21) (.tmp 21) 56 rfl w.heap.size 9 i0 (.string ⟨#[]⟩) 1 Tryd.underlying56 I0.out hz0 hz1 .i64 .i64 _ _ P.length rfl rfl (by omega) (by omega) (by rw [hz2]; omega) (by unfold maxLen; omega) hb1.size ?_; intro w3 hown hgrow))
    rw [made9] at hown
    have hb3 : Below w1.heap.size w1 w3 := (Below.refl _ w1).grown hgrow (Nat.le_refl _) (fun k hk => by cases hk)
    have hg1 : w.heap.size ≤ w1.heap.size := hb1.size
    have ho : w3.ownsRow w.heap.size 9 1 (.slice (some ⟨w1.heap.size, 0, none⟩) P.length P.length) P.length (fill9 SS 0) := by
      unfold fill9; rw [FL.out]; exact hown
    clear hgrow hown C
    go_loopw [25] (fun i wr => ∃ k : Nat, k ≤ P.length ∧ i = .int .i64 k ∧ wr.ownsRow w.heap.size 9 1 (.slice (some ⟨w1.heap.size, 0, none⟩) P.length P.length) P.length (fill9 SS k) ∧ Below w1.heap.size w1 wr) (fun i _ => P.length - (intOf i).toNat)
    case atStart => exact ⟨0, Nat.zero_le _, rfl, ho, hb3⟩
    case round =>
      clear ho hb3
      obtain ⟨k, hk, rfl, hown, hbl⟩ := hrel
      have kw := below_on hb1 hbl
      by_cases hlt : k < P.length
      · obtain ⟨bp, op, rfl, hbp, hcp⟩ := (HR.out.below hbl).2 (by intro e; subst e; simp at hlt)
        have c1 := hcp k hlt
        rw [PA.out k hlt] at c1
        have hu := UN.out k hlt
        obtain ⟨b1, off, rfl, hbb, hc⟩ := (HA.out.below kw).2 (by intro e; subst e; simp at hu)
        obtain ⟨s0, s1, s2, s3, s4, s5⟩ := hc (U.getD k 0) hu
        have hsl : k < SS.length := by rw [FL.out]; exact hlt
        have eS := SA.out k hsl
        have PC := hide (word_any (M.nAt ts (U.getD k 0)) b xs cb (U.getD k 0) ts.length wr (HX.out.below kw) (HL.out.below kw) (FN.out _ hu) m8)
        have R := hide (fun W (hW : Below wr.heap.size wr W) => fill9_own hsl (own_up hown hW))
        have CC := hide (fun W (hW : Below wr.heap.size wr W) => fill9_cell hsl FL.out (own_up hown hW))
        have FZ := hide (fun W (hW : Below wr.heap.size wr W) => (own_up hown hW).frozenAt k)
        have uz : ((U.getD k 0 : Nat) : Int) < (ts.length : Int) := by omega
        have kz : (k : Int) < (P.length : Int) := by omega
        rw [eS] at R
        unfold ndV at PC
        clear hown eS hcp hc
        generalize bs (M.wordN (M.nAt ts (U.getD k 0)) xs) = t at *
        generalize U.getD k 0 = u at *
        generalize M.nf (M.nAt ts u) = f at *
        generalize M.nc (M.nAt ts u) = c at *
        generalize M.nl (M.nAt ts u) = l at *
        generalize M.nr (M.nAt ts u) = r at *
        generalize M.ns (M.nAt ts u) = sl at *
        generalize M.nv (M.nAt ts u) = v at *
        go_wp2_with (go_at_call 23; refine PC.out.mono ?_; rintro e w4 ⟨rfl, hb4⟩; have hcell := CC.out w4 hb4; have hfz := FZ.out w4 hb4)
        go_roundw
        case rel => exact ⟨k + 1, by omega, by go_num, R.out w4 hb4, (below_on hbl hb4).setCell (p := ⟨w1.heap.size, k, none⟩) (Nat.le_refl _) _⟩
        case measure => simp [intOf]; omega
      · have hke : k = P.length := by omega
        subst hke
        have hown' : wr.ownsRow w.heap.size 9 1 (.slice (some ⟨w1.heap.size, 0, none⟩) P.length P.length) P.length SS := by
          have e : fill9 SS P.length = SS := by unfold fill9; rw [FL.out, Nat.sub_self, List.take_of_length_le (by rw [FL.out]; exact Nat.le_refl _)]; simp
          rw [e] at hown; exact hown
        have J := hide (JN.out _ _ hown')
        clear hown hown'
        go_wp2_with (go_at_call 24; refine J.out.mono ?_; rintro e w5 ⟨rfl, hb5⟩)
        go_ret2
        exact ⟨rfl, below_on kw hb5⟩
  · rw [err_some h] at C
    rw [if_neg h, err_some h]
    clear h ht hr hT
    generalize M.pathV ts xs = P at *
    generalize M.readyF ts xs = c at *
    go_enter Tryd.func5, Tryd.ntmps5
    go_wp2_with (go_at_call 6; refine C.out.mono ?_; rintro e w1 ⟨ag, cg, rfl, hrd, hb1⟩)
    go_ret2
    exact ⟨rfl, hb1⟩

end Go.Proofs.YtandimbpealclacDoor
