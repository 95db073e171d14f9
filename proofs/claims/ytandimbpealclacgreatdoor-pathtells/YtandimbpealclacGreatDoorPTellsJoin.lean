/-
  What package path answers (Path, word, Why, Region, Reach, Witness), and PathTells' walk with it.
-/
import Derived.Test.YtandimbpealclacGreatDoorPWay
import Derived.Test.YtandimbpealclacGreatDoorTLeaf
import Derived.Test.YtandimbpealclacGreatDoorItoa
import Derived.Test.YtandimbpealclacGreatDoorWhyB
import Derived.Test.YtandimbpealclacGreatDoorMathU
import Derived.Test.YtandimbpealclacGreatDoorNodes
import Derived.RegionTactic
import Derived.Deep.RegionWith
import Derived.Deep.Cut
import Derived.Deep.CutRange
import Derived.OwnWalk
import Derived.Test.YtandimbpealclacGreatDoorPRegion
import Derived.Test.YtandimbpealclacGreatDoorTCheck
import Derived.Test.YtandimbpealclacGreatDoorPSmall
import Derived.Test.YtandimbpealclacGreatDoorPTells
import Derived.Test.YtandimbpealclacGreatDoorReadyR
namespace Go.Proofs.YtandimbpealclacGreatDoor
open Go.ChangeShapes Go.WideShapes Go.ChangeAt Go.RowKit Go.Lib
set_option linter.unusedVariables false

theorem path_any (a b : Option Addr) (ts : List M.Nd) (xs : List Int) (ca cb : Nat) (w : World) (ht : RdN w a ts) (hr : Rd w b xs) :
    Calls Tryz.prog 7 #[.slice a ts.length ca, .slice b xs.length cb] w fun e w' =>
      ∃ ag cg, e = .returned (.tuple #[.slice ag (M.pathV ts xs).length cg, errV (M.readyF ts xs)]) ∧ Rd w' ag (M.pathV ts xs) ∧ Below w.heap.size w w' := by
  have L := hide (leaf_any a b ts xs ca cb w ht hr)
  by_cases h : M.readyF ts xs = 0
  · have F := (M.tree_ok (M.ready_ok h).2).1
    have WT := hide (fun W (hW : Below w.heap.size w W) => wayto_any a ts ca (M.leafV ts xs) W (ht.below hW) F.1 (M.leafV_leaf h).1)
    have EV := hide (M.path_up h)
    rw [err_nil h]
    rw [err_nil h] at L
    clear h F ht hr
    generalize M.pathV ts xs = P at *
    generalize M.wayN ts (M.leafV ts xs) = V at *
    generalize M.leafV ts xs = k at *
    go_enter Tryz.func7, Tryz.ntmps7
    go_wp2_with (first
      | (go_at_call 24; refine L.out.mono ?_; rintro e w1 ⟨rfl, hb1⟩)
      | (go_at_call 25; refine (WT.out _ hb1).mono ?_; rintro e w2 ⟨ag, cg, rfl, hcg, hnew, hrd, hb2⟩))
    go_ret2
    exact ⟨ag, cg, by rw [EV.out]; rfl, by rw [EV.out]; exact hrd, below_on hb1 hb2⟩
  · have EV : Hid (M.pathV ts xs = []) := by unfold Hid M.pathV; rw [if_neg h]
    have ES := hide (err_some h)
    rw [err_some h] at L
    clear h ht hr
    generalize M.pathV ts xs = P at *
    generalize errV (M.readyF ts xs) = er at *
    generalize M.readyF ts xs = f at *
    generalize M.leafV ts xs = k at *
    go_enter Tryz.func7, Tryz.ntmps7
    go_wp2_with (go_at_call 24; refine L.out.mono ?_; rintro e w1 ⟨rfl, hb1⟩)
    go_ret2
    exact ⟨none, 0, by rw [EV.out, ES.out]; rfl, by rw [EV.out]; exact ⟨Nat.zero_le _, fun h => absurd rfl h⟩, hb1⟩

end Go.Proofs.YtandimbpealclacGreatDoor

namespace Go.Proofs.YtandimbpealclacGreatDoor
open Go.ChangeShapes Go.WideShapes Go.ChangeAt Go.RowKit Go.Lib
set_option linter.unusedVariables false

theorem kept_six {w W : World} {a0 a1 a2 a3 a4 a5 : Value} {t : TypeId} (h : Below (w.alloc (.cells #[a0, a1, a2, a3, a4, a5] t)).heap.size (w.alloc (.cells #[a0, a1, a2, a3, a4, a5] t)) W) :
    W.cell? ⟨w.heap.size, 0, none⟩ = some a0 ∧ W.cell? ⟨w.heap.size, 1, none⟩ = some a1 := by
  have hs : w.heap.size < (w.alloc (.cells #[a0, a1, a2, a3, a4, a5] t)).heap.size := by simp
  exact ⟨(h.cell (p := ⟨w.heap.size, 0, none⟩) hs).trans (World.cell?_alloc_at _ _ _ 0 rfl), (h.cell (p := ⟨w.heap.size, 1, none⟩) hs).trans (World.cell?_alloc_at _ _ _ 1 rfl)⟩

set_option maxHeartbeats 8000000 in
set_option maxRecDepth 10000 in
theorem word_any (n : M.Nd) (b0 : Option Addr) (xs : List Int) (cb i len : Nat) (w : World) (hr : Rd w b0 xs) (hT : Tabs w) (hn : M.nodeF n i len (xs.length : Int) = 0) (m8 : xs.length ≤ 8) :
    Calls Tryz.prog 27 #[ndV n, .slice b0 xs.length cb] w fun e w' => e = .returned (.string (bs (M.wordN n xs))) ∧ Below w.heap.size w w' := by
  have IT : Hid (∀ x, M.outI x = false → ∀ W, Below w.heap.size w W → Calls Tryz.prog 45 #[.int .i64 x] W fun e w' => e = .returned (.string (bs (Lib.itoa x))) ∧ Below W.heap.size W w') := fun x hx W hW => itoa_tab x W hx (hT.below hW)
  have B0 : Hid (∀ o, Below w.heap.size w (w.alloc o)) := fun o => (Below.refl _ w).alloc (Nat.le_refl _) o
  unfold ndV
  by_cases hf : M.nf n = -1
  · have ov := M.node_leaf hn hf
    have E : Hid ((⟨#[61]⟩ : ByteArray) ++ bs (Lib.itoa (M.nv n)) = bs (M.wordN n xs)) := by
      unfold Hid M.wordN; rw [if_pos hf, bs_cons]
    have vl : (bs (Lib.itoa (M.nv n))).size ≤ 8 := by rw [bs_size]; exact M.itoa_len ov
    have qf : (M.nf n == -1) = true := by rw [beq_iff_eq]; exact hf
    clear hf hn hr hT
    generalize bs (M.wordN n xs) = Y at *
    generalize M.nf n = f at *
    generalize M.nc n = c at *
    generalize M.nl n = l at *
    generalize M.nr n = r at *
    generalize M.ns n = sl at *
    generalize M.nv n = v at *
    have h1 : ¬ 9223372036854775807 < 1 + (bs (Lib.itoa v)).size := by omega
    go_enter Tryz.func27, Tryz.ntmps27
    go_wp2_with (go_at_call 45; refine (IT.out _ ov _ (B0.out _)).mono ?_; rintro e w2 ⟨rfl, hb2⟩)
    go_ret
    exact ⟨by rw [← E.out]; rfl, below_on (B0.out _) hb2⟩
  · have na := M.node_ask hn hf
    obtain ⟨fi, hfi⟩ : ∃ fi : Nat, M.nf n = fi := ⟨(M.nf n).toNat, by have := na.1; omega⟩
    have hfl : fi < xs.length := by have := na.2.1; omega
    have of : M.outI (fi : Int) = false := M.out_in (by omega) (by omega)
    have oc := na.2.2.1
    obtain ⟨bx, ox, rfl, hbx, hcx⟩ := hr.2 (by intro e; subst e; simp at hfl)
    have hx := hcx fi hfl
    have WE : Hid (M.wordN n xs = 102 :: (Lib.itoa (fi : Int) ++ if xs.getD fi 0 = M.nilI then [63] else if xs.getD fi 0 < M.nc n then 60 :: Lib.itoa (M.nc n) else 62 :: 61 :: Lib.itoa (M.nc n))) := by
      unfold Hid M.wordN M.whyW; rw [if_neg hf, hfi, Int.toNat_natCast]
    have qf : ((fi : Int) == -1) = false := by rw [beq_eq_false_iff_ne]; omega
    have fl : (bs (Lib.itoa (fi : Int))).size ≤ 8 := by rw [bs_size]; exact M.itoa_len of
    have cl : (bs (Lib.itoa (M.nc n))).size ≤ 8 := by rw [bs_size]; exact M.itoa_len oc
    have fz : (fi : Int) < (xs.length : Int) := by omega
    rw [hfi]
    clear hf na hcx hfi hn hr hT
    generalize M.wordN n xs = Y at *
    generalize M.nc n = c at *
    generalize M.nl n = l at *
    generalize M.nr n = r at *
    generalize M.ns n = sl at *
    generalize M.nv n = v at *
    generalize xs.getD fi 0 = x at *
    have o0 : (w.alloc (.cells #[.int .i64 fi, .int .i64 c, .int .i64 l, .int .i64 r, .bool sl, .int .i64 v] 40)).drew.cell? ⟨w.heap.size, 0, none⟩ = some (.int .i64 fi) := World.cell?_alloc_at _ _ _ 0 rfl
    have KR : Hid (∀ W, Below w.heap.size w W → W.cell? ⟨bx, ox + fi, none⟩ = some (.int .i64 x)) := fun W hW => (hW.cell (p := ⟨bx, ox + fi, none⟩) hbx).trans hx
    have r0 : (w.alloc (.cells #[.int .i64 fi, .int .i64 c, .int .i64 l, .int .i64 r, .bool sl, .int .i64 v] 40)).drew.cell? ⟨bx, ox + fi, none⟩ = some (.int .i64 x) := KR.out _ (B0.out _).drew
    have h1 : ¬ 9223372036854775807 < 1 + (bs (Lib.itoa (fi : Int))).size := by omega
    have EF : Hid ((⟨#[102]⟩ : ByteArray) ++ bs (Lib.itoa (fi : Int)) = bs (102 :: Lib.itoa (fi : Int))) := bs_cons _ _
    have fl2 : (bs (102 :: Lib.itoa (fi : Int))).size ≤ 9 := by rw [← EF.out]; rw [ByteArray.size_append]; show 1 + _ ≤ 9; omega
    go_enter Tryz.func27, Tryz.ntmps27
    go_upto_region 3 with fail
    go_cut [5, 6] from 14 to 22 (fun s y wx => s = .string (bs (102 :: Lib.itoa (fi : Int))) ∧ y = .int .i64 x ∧ Hid (Below (w.alloc (.cells #[.int .i64 fi, .int .i64 c, .int .i64 l, .int .i64 r, .bool sl, .int .i64 v] 40)).heap.size (w.alloc (.cells #[.int .i64 fi, .int .i64 c, .int .i64 l, .int .i64 r, .bool sl, .int .i64 v] 40)) wx))
    case first =>
      go_region_with (go_at_call 45; refine (IT.out _ of _ (B0.out _).drew).mono ?_; rintro e w5 ⟨rfl, hb5⟩; have k5 := ((Below.refl _ _).drew).trans hb5; have s5 := (kept_six k5).1; have r5 := KR.out _ (below_on (B0.out _) k5))
      all_goals go_wp2
      all_goals go_meet
      all_goals (case rel => exact ⟨by rw [← EF.out], rfl, k5⟩)
    case rest =>
      obtain ⟨rfl, rfl, K⟩ := hcut
      have c1 := (kept_six K.out).2
      have kw := below_on (B0.out _) K.out
      have KW := hide kw
      clear o0 r0 KR h1 EF
      by_cases hz : x = M.nilI
      · have qz : (x == -1125899906842624) = true := by rw [beq_iff_eq]; exact hz
        have E : Hid (bs (102 :: Lib.itoa (fi : Int)) ++ (⟨#[63]⟩ : ByteArray) = bs Y) := by
          unfold Hid; rw [WE.out, if_pos hz, bs_snoc]; simp
        clear hz WE
        generalize bs (102 :: Lib.itoa (fi : Int)) = u at *
        have h2 : ¬ 9223372036854775807 < u.size + 1 := by omega
        go_wp2
        go_ret
        exact ⟨by rw [← E.out]; rfl, kw⟩
      · have qz : (x == -1125899906842624) = false := by rw [beq_eq_false_iff_ne]; exact hz
        by_cases hd : x < c
        · have qd : decide (x < c) = true := decide_eq_true hd
          have E : Hid (bs (102 :: Lib.itoa (fi : Int)) ++ (⟨#[60]⟩ : ByteArray) ++ bs (Lib.itoa c) = bs Y) := by
            unfold Hid; rw [WE.out, if_neg hz, if_pos hd, bs_snoc, bs_app]; simp
          clear hz hd WE
          generalize bs (102 :: Lib.itoa (fi : Int)) = u at *
          have h2 : ¬ 9223372036854775807 < u.size + 1 := by omega
          have h3 : ¬ 9223372036854775807 < u.size + 1 + (bs (Lib.itoa c)).size := by omega
          go_wp2_with (go_at_call 45; refine (IT.out _ oc _ KW.out).mono ?_; rintro e w6 ⟨rfl, hb6⟩)
          go_ret
          exact ⟨by rw [← E.out]; rfl, below_on kw hb6⟩
        · have qd : decide (x < c) = false := decide_eq_false hd
          have E : Hid (bs (102 :: Lib.itoa (fi : Int)) ++ (⟨#[62, 61]⟩ : ByteArray) ++ bs (Lib.itoa c) = bs Y) := by
            unfold Hid; rw [WE.out, if_neg hz, if_neg hd, bs_snoc2, bs_app]; simp
          clear hz hd WE
          generalize bs (102 :: Lib.itoa (fi : Int)) = u at *
          have h2 : ¬ 9223372036854775807 < u.size + 2 := by omega
          have h3 : ¬ 9223372036854775807 < u.size + 2 + (bs (Lib.itoa c)).size := by omega
          go_wp2_with (go_at_call 45; refine (IT.out _ oc _ KW.out).mono ?_; rintro e w6 ⟨rfl, hb6⟩)
          go_ret
          exact ⟨by rw [← E.out]; rfl, below_on kw hb6⟩

end Go.Proofs.YtandimbpealclacGreatDoor

namespace Go.Proofs.YtandimbpealclacGreatDoor
open Go.ChangeShapes Go.WideShapes Go.ChangeAt Go.RowKit Go.Shelf Go.Lib Go.Sort
set_option linter.unusedVariables false

theorem info9 : (Tryz.prog.info? 9).map (fun i => (i.zero, i.size, i.bytes)) = some (some (.string ⟨#[]⟩), 1, 16) := by kernel_rfl
theorem made9 (n : Nat) : (madeCells (Value.cells (.string ⟨#[]⟩)) (n * 1)).toList = List.replicate n (.string ⟨#[]⟩) := by
  rw [Nat.mul_one]
  show (madeCells #[Value.string ⟨#[]⟩] n).toList = _
  rw [toList_madeCells_one]
def fill9 (F : List Value) (k : Nat) : List Value := F.take k ++ List.replicate (F.length - k) (.string ⟨#[]⟩)
theorem fill9_set (F : List Value) (k : Nat) (h : k < F.length) : (fill9 F k).set k F[k] = fill9 F (k + 1) := by
  unfold fill9
  rw [List.set_append_right _ _ (by rw [List.length_take]; omega), List.length_take, Nat.min_eq_left (by omega), Nat.sub_self,
    show F.length - k = (F.length - (k + 1)) + 1 by omega, List.replicate_succ, List.set_cons_zero, List.take_succ_eq_append_getElem h, List.append_assoc]
  rfl
theorem fill9_own {wr : World} {B g n : Nat} {F : List Value} {k : Nat} (hk : k < F.length)
    (hown : wr.ownsRow B 9 1 (.slice (some ⟨g, 0, none⟩) n n) n (fill9 F k)) :
    (wr.setCell ⟨g, k, none⟩ F[k]).ownsRow B 9 1 (.slice (some ⟨g, 0, none⟩) n n) n (fill9 F (k + 1)) := by
  have := (hown.stored k F[k]).1
  rw [← fill9_set F k hk]
  exact this
theorem fill9_cell {wr : World} {B g n : Nat} {F : List Value} {k : Nat} (hk : k < F.length) (hn : F.length = n)
    (hown : wr.ownsRow B 9 1 (.slice (some ⟨g, 0, none⟩) n n) n (fill9 F k)) : wr.cell? ⟨g, k, none⟩ = some (.string ⟨#[]⟩) := by
  rw [hown.cellAt k (by omega)]
  unfold fill9
  rw [List.getElem?_append_right (by rw [List.length_take]; omega), List.length_take, Nat.min_eq_left (by omega), Nat.sub_self, List.getElem?_replicate, if_pos (by omega)]

/-- the words of a way, as values -/
def wstr (ws : List (List UInt8)) : List Value := ws.map fun l => .string (bs l)
theorem wstr_len (ws : List (List UInt8)) : (wstr ws).length = ws.length := by simp [wstr]
theorem wjoin_any (g : Nat) (ws : List (List UInt8)) (B : Nat) (w : World) (l63 : ws.length ≤ 63) (hl : (Lib.join ws [32]).length ≤ 2000) (h : w.ownsRow B 9 1 (.slice (some ⟨g, 0, none⟩) ws.length ws.length) ws.length (wstr ws)) :
    Calls Tryz.prog 28 #[.slice (some ⟨g, 0, none⟩) ws.length ws.length, .string ⟨#[32]⟩] w fun e w' => e = .returned (.string (bs (Lib.join ws [32]))) ∧ Below w.heap.size w w' := by
  have hg : g < w.heap.size := by
    rcases h.2 with ⟨h0, _⟩ | ⟨g', cap, cur, hv, h1, h2, h3⟩
    · cases h0
    · cases hv; exact (Array.getElem?_eq_some_iff.1 h2).1
  have e1 : ((ws.map bs).map (·.data.toList)) = ws := by
    rw [List.map_map]
    exact (List.map_congr_left fun c _ => bs_list c).trans (List.map_id _)
  have := Tryz.strings_Join g 0 ws.length (ws.map bs) ⟨#[32]⟩ w (fun j x hx => by
      rw [Nat.zero_add]
      rw [List.getElem?_map] at hx
      cases hj : ws[j]? with
      | none => rw [hj] at hx; cases hx
      | some c =>
        rw [hj] at hx
        cases hx
        have hjl : j < ws.length := (List.getElem?_eq_some_iff.1 hj).1
        rw [h.cellAt j (by omega)]
        simp [wstr, hj]) hg (by simp; omega) (by simp) (by rw [e1]; show (Lib.join ws [32]).length ≤ _; omega)
  rw [e1, List.length_map] at this
  exact this

set_option maxHeartbeats 4000000 in
set_option maxRecDepth 10000 in
theorem why_any (a b : Option Addr) (ts : List M.Nd) (xs : List Int) (ca cb : Nat) (w : World) (ht : RdN w a ts) (hr : Rd w b xs) (hT : Tabs w) :
    Calls Tryz.prog 9 #[.slice a ts.length ca, .slice b xs.length cb] w fun e w' => e = .returned (.tuple #[.string (if M.readyF ts xs = 0 then bs (M.why ts xs 0) else ⟨#[]⟩), errV (M.readyF ts xs)]) ∧ Below w.heap.size w w' := by
  have C := hide (path_any a b ts xs ca cb w ht hr)
  by_cases h : M.readyF ts xs = 0
  · rw [err_nil h] at C
    rw [if_pos h, err_nil h]
    obtain ⟨F, _⟩ := M.tree_ok (M.ready_ok h).2
    have kl := (M.leafV_leaf h).1
    have m8 : xs.length ≤ 8 := by have := F.2.2.2.1; omega
    have l63 := F.1
    have PU := hide (M.path_up h)
    have WJ := M.why_join h
    have PL := (M.upL_len ts (M.leafV ts xs)).2
    have WL := hide (M.wayN_len ts (M.leafV ts xs))
    have WA : Hid (∀ i, i < (M.upL ts (M.leafV ts xs)).length → (M.wayN ts (M.leafV ts xs)).getD i 0 = ((M.upL ts (M.leafV ts xs)).getD i 0 : Nat)) := fun i hi => M.wayN_at ts _ i hi
    have UM : Hid (∀ i, i < (M.upL ts (M.leafV ts xs)).length → (M.upL ts (M.leafV ts xs)).getD i 0 < ts.length) := fun i hi => M.upL_mem kl hi
    have JL : (Lib.join ((M.upL ts (M.leafV ts xs)).map fun j => M.wordN (M.nAt ts j) xs) [32]).length ≤ 2000 := by
      rw [← WJ]
      have h1 := M.why_len F.2.2.2.2.1 m8 xs ts.length 0 F.2.1 (by omega)
      have h2 := M.way_size F.2.2.2.2.1 xs ts.length 0 F.2.1 (by omega)
      omega
    have FN := hide F.2.2.2.2.1
    rw [WJ]
    obtain ⟨i0, hi, hz0, hz1, hz2⟩ := info_parts info9
    have I0 := hide hi
    have HA := hide ht
    have HX := hide hr
    have HL := hide hT
    clear h F WJ ht hr hT hi
    generalize M.pathV ts xs = P at *
    generalize M.wayN ts (M.leafV ts xs) = WN at *
    generalize hU : M.upL ts (M.leafV ts xs) = U at *
    have pl1 : U.length ≤ 63 := by omega
    have PN : Hid (P.length = U.length) := by unfold Hid; rw [PU.out, WL.out]
    have pn : P.length ≤ 63 := by rw [PN.out]; exact pl1
    have PA : Hid (∀ i, i < P.length → P.getD i 0 = (U.getD i 0 : Nat)) := fun i hi => by rw [PU.out]; exact WA.out i (by rw [← PN.out]; exact hi)
    have UN : Hid (∀ i, i < P.length → U.getD i 0 < ts.length) := fun i hi => UM.out i (by rw [← PN.out]; exact hi)
    have SA : Hid (∀ i (h : i < (wstr (U.map fun j => M.wordN (M.nAt ts j) xs)).length), (wstr (U.map fun j => M.wordN (M.nAt ts j) xs))[i] = .string (bs (M.wordN (M.nAt ts (U.getD i 0)) xs))) := by
      intro i hi
      have hi' : i < U.length := by rw [wstr_len, List.length_map] at hi; exact hi
      rw [M.getD_at hi']
      simp [wstr]
    have FL : Hid ((wstr (U.map fun j => M.wordN (M.nAt ts j) xs)).length = P.length) := by unfold Hid; rw [wstr_len, List.length_map, PN.out]
    have JN : Hid (∀ g W, World.ownsRow W w.heap.size 9 1 (.slice (some ⟨g, 0, none⟩) P.length P.length) P.length (wstr (U.map fun j => M.wordN (M.nAt ts j) xs)) → Calls Tryz.prog 28 #[.slice (some ⟨g, 0, none⟩) P.length P.length, .string ⟨#[32]⟩] W fun e w' => e = .returned (.string (bs (Lib.join (U.map fun j => M.wordN (M.nAt ts j) xs) [32]))) ∧ Below W.heap.size W w') := by
      intro g W hW
      have e : P.length = (U.map fun j => M.wordN (M.nAt ts j) xs).length := by rw [List.length_map, PN.out]
      rw [e] at hW ⊢
      exact wjoin_any g _ w.heap.size W (by rw [← e]; exact pn) JL hW
    clear PU WA UM hU JL
    generalize bs (Lib.join (U.map fun j => M.wordN (M.nAt ts j) xs) [32]) = T at *
    generalize wstr (U.map fun j => M.wordN (M.nAt ts j) xs) = SS at *
    go_enter Tryz.func9, Tryz.ntmps9
    go_wp2_with (first
      | (go_at_call 7; refine C.out.mono ?_; rintro e w1 ⟨ag, cg, rfl, hrd, hb1⟩; have HR := hide hrd; clear hrd)
      | (at_make; refine wpList_make_full _ rfl (.tmp 21) (.tmp 21) 62 rfl w.heap.size 9 i0 (.string ⟨#[]⟩) 1 Tryz.underlying62 I0.out hz0 hz1 .i64 .i64 _ _ P.length rfl rfl (by omega) (by omega) (by rw [hz2]; omega) (by unfold maxLen; omega) hb1.size ?_; intro w3 hown hgrow))
    rw [made9] at hown
    have hb3 : Below w1.heap.size w1 w3 := (Below.refl _ w1).grown hgrow (Nat.le_refl _) (fun k hk => by cases hk)
    have hg1 : w.heap.size ≤ w1.heap.size := hb1.size
    have ho : w3.ownsRow w.heap.size 9 1 (.slice (some ⟨w1.heap.size, 0, none⟩) P.length P.length) P.length (fill9 SS 0) := by
      unfold fill9; rw [FL.out]; exact hown
    clear hgrow hown C
    go_loopw [25] (fun i wr => ∃ k : Nat, k ≤ P.length ∧ i = .int .i64 k ∧ wr.ownsRow w.heap.size 9 1 (.slice (some ⟨w1.heap.size, 0, none⟩) P.length P.length) P.length (fill9 SS k) ∧ Below w1.heap.size w1 wr) (fun i _ => P.length - (intOf i).toNat)
    case atStart => exact ⟨0, Nat.zero_le _, rfl, ho, hb3⟩
    case round =>
      clear ho hb3
      obtain ⟨k, hk, rfl, hown, hbl⟩ := hrel
      have kw := below_on hb1 hbl
      by_cases hlt : k < P.length
      · obtain ⟨bp, op, rfl, hbp, hcp⟩ := (HR.out.below hbl).2 (by intro e; subst e; simp at hlt)
        have c1 := hcp k hlt
        rw [PA.out k hlt] at c1
        have hu := UN.out k hlt
        obtain ⟨b1, off, rfl, hbb, hc⟩ := (HA.out.below kw).2 (by intro e; subst e; simp at hu)
        obtain ⟨s0, s1, s2, s3, s4, s5⟩ := hc (U.getD k 0) hu
        have hsl : k < SS.length := by rw [FL.out]; exact hlt
        have eS := SA.out k hsl
        have PC := hide (word_any (M.nAt ts (U.getD k 0)) b xs cb (U.getD k 0) ts.length wr (HX.out.below kw) (HL.out.below kw) (FN.out _ hu) m8)
        have R := hide (fun W (hW : Below wr.heap.size wr W) => fill9_own hsl (own_up hown hW))
        have CC := hide (fun W (hW : Below wr.heap.size wr W) => fill9_cell hsl FL.out (own_up hown hW))
        have FZ := hide (fun W (hW : Below wr.heap.size wr W) => (own_up hown hW).frozenAt k)
        have uz : ((U.getD k 0 : Nat) : Int) < (ts.length : Int) := by omega
        have kz : (k : Int) < (P.length : Int) := by omega
        rw [eS] at R
        unfold ndV at PC
        clear hown eS hcp hc
        generalize bs (M.wordN (M.nAt ts (U.getD k 0)) xs) = t at *
        generalize U.getD k 0 = u at *
        generalize M.nf (M.nAt ts u) = f at *
        generalize M.nc (M.nAt ts u) = c at *
        generalize M.nl (M.nAt ts u) = l at *
        generalize M.nr (M.nAt ts u) = r at *
        generalize M.ns (M.nAt ts u) = sl at *
        generalize M.nv (M.nAt ts u) = v at *
        go_wp2_with (go_at_call 27; refine PC.out.mono ?_; rintro e w4 ⟨rfl, hb4⟩; have hcell := CC.out w4 hb4; have hfz := FZ.out w4 hb4)
        go_roundw
        case rel => exact ⟨k + 1, by omega, by go_num, R.out w4 hb4, (below_on hbl hb4).setCell (p := ⟨w1.heap.size, k, none⟩) (Nat.le_refl _) _⟩
        case measure => simp [intOf]; omega
      · have hke : k = P.length := by omega
        subst hke
        have hown' : wr.ownsRow w.heap.size 9 1 (.slice (some ⟨w1.heap.size, 0, none⟩) P.length P.length) P.length SS := by
          have e : fill9 SS P.length = SS := by unfold fill9; rw [FL.out, Nat.sub_self, List.take_of_length_le (by rw [FL.out]; exact Nat.le_refl _)]; simp
          rw [e] at hown; exact hown
        have J := hide (JN.out _ _ hown')
        clear hown hown'
        go_wp2_with (go_at_call 28; refine J.out.mono ?_; rintro e w5 ⟨rfl, hb5⟩)
        go_ret2
        exact ⟨rfl, below_on kw hb5⟩
  · rw [err_some h] at C
    rw [if_neg h, err_some h]
    clear h ht hr hT
    generalize M.pathV ts xs = P at *
    generalize M.readyF ts xs = c at *
    go_enter Tryz.func9, Tryz.ntmps9
    go_wp2_with (go_at_call 7; refine C.out.mono ?_; rintro e w1 ⟨ag, cg, rfl, hrd, hb1⟩)
    go_ret2
    exact ⟨rfl, hb1⟩

end Go.Proofs.YtandimbpealclacGreatDoor

namespace Go.Proofs.YtandimbpealclacGreatDoor
open Go.ChangeShapes Go.WideShapes Go.ChangeAt Go.RowKit Go.Lib
set_option linter.unusedVariables false

set_option maxHeartbeats 8000000 in
set_option maxRecDepth 10000 in
theorem pregion_any (a : Option Addr) (ts : List M.Nd) (ca : Nat) (m k : Int) (w : World) (ht : RdN w a ts) :
    Calls Tryz.prog 14 #[.slice a ts.length ca, .int .i64 m, .int .i64 k] w fun e w' =>
      ∃ ag cg, e = .returned (.tuple #[.slice ag (M.regV ts m k).length cg, .bool (M.regB ts m k), errV (M.regF ts m k)]) ∧ RdS w' ag (M.regV ts m k) ∧ Below w.heap.size w w' := by
  have T := hide (tcheck_any a ts ca m w ht)
  by_cases h : (M.treeF ts m).2 = 0
  · obtain ⟨F, e2⟩ := M.tree_ok h
    rw [err_nil h] at T
    have l63 := F.1
    have m0 := F.2.2.1
    have m8 := F.2.2.2.1
    obtain ⟨mn, rfl⟩ : ∃ mn : Nat, m = (mn : Int) := ⟨m.toNat, by omega⟩
    by_cases hl : M.isLf ts k = true
    · have rf : M.regF ts (mn : Int) k = 0 := by unfold M.regF; rw [if_neg (by simp [h]), if_neg (by simp [hl])]
      have rv : Hid (M.regV ts (mn : Int) k = (M.region ts mn k.toNat).map M.norm) := by unfold Hid M.regV; rw [if_pos rf, Int.toNat_natCast]
      have rb : Hid (M.regB ts (mn : Int) k = M.anyS ((M.region ts mn k.toNat).map M.norm)) := by unfold Hid M.regB; rw [if_pos rf, Int.toNat_natCast, M.any_norm]
      rw [err_nil rf]
      unfold M.isLf at hl
      rw [Bool.and_eq_true, Bool.and_eq_true] at hl
      obtain ⟨⟨k0, k1⟩, k2⟩ := hl
      have k0' := of_decide_eq_true k0
      have k1' := of_decide_eq_true k1
      obtain ⟨kn, rfl⟩ : ∃ kn : Nat, k = (kn : Int) := ⟨k.toNat, by omega⟩
      rw [Int.toNat_natCast] at rv rb k2
      have kl : kn < ts.length := by omega
      obtain ⟨b0, off, rfl, hb0, hc⟩ := ht.2 (by intro e; subst e; simp at kl)
      have CL : Hid (∀ W, Below w.heap.size w W → W.cell? ⟨b0, off + kn * 6, none⟩ = some (.int .i64 (-1))) := fun W hW => by
        have := ((hc kn kl).below hW hb0).1
        rw [this]
        unfold M.leafB at k2
        rw [of_decide_eq_true k2]
      have R := hide (fun W (hW : Below w.heap.size w W) => region_any (some ⟨b0, off, none⟩) ts ca mn kn W (ht.below hW) F kl)
      have LN : Hid (((M.region ts mn kn).map M.norm).length = mn) := by unfold Hid; rw [List.length_map, M.region_len]
      have HH := hide hasrow_any
      have q2 : decide ((ts.length : Int) ≤ (kn : Int)) = false := decide_eq_false (by omega)
      clear h F e2 ht hc rf k0 k1 k2
      generalize M.regV ts (mn : Int) (kn : Int) = RV at *
      generalize M.regB ts (mn : Int) (kn : Int) = RB at *
      generalize (M.region ts mn kn).map M.norm = L at *
      have kz : (kn : Int) < (ts.length : Int) := by omega
      go_enter Tryz.func14, Tryz.ntmps14
      go_wp2_with (first
        | (go_at_call 32; refine T.out.mono ?_; rintro e w1 ⟨rfl, hb1⟩; have cl := CL.out _ hb1)
        | (go_at_call 33; refine (R.out _ hb1).mono ?_; rintro e w2 ⟨v, rfl, hown, hb2⟩; obtain ⟨ag, cg, rfl, hrd⟩ := own_rdS LN.out (by unfold maxLen; omega) hown; have HO := hide hown; have hw := HH.out ag L cg w2 hrd; rw [LN.out] at hw; have HW := hide hw; have HR := hide hrd; clear hown hw hrd)
        | (go_at_call 34; refine HW.out.mono ?_; rintro e w3 ⟨rfl, hb3⟩))
      go_ret3
      exact ⟨ag, cg, by rw [rv.out, rb.out, LN.out]; rfl, by rw [rv.out]; exact HR.out.below hb3, below_on hb1 (below_on hb2 hb3)⟩
    · have hl' : M.isLf ts k = false := by simpa using hl
      have rf : M.regF ts (mn : Int) k = 1 := by unfold M.regF; rw [if_neg (by simp [h]), if_pos hl']
      have rv : Hid (M.regV ts (mn : Int) k = []) := by unfold Hid M.regV; rw [if_neg (by rw [rf]; decide)]
      have rb : Hid (M.regB ts (mn : Int) k = false) := by unfold Hid M.regB; rw [if_neg (by rw [rf]; decide)]
      rw [rf, err_some (show (1 : Int) ≠ 0 by decide)]
      have fin : Hid (∀ W, Below w.heap.size w W → ∃ ag cg, Ending.returned (.tuple #[.slice none 0 0, .bool false, .iface 60 (.int .i64 1)]) = .returned (.tuple #[.slice ag (M.regV ts (mn : Int) k).length cg, .bool (M.regB ts (mn : Int) k), .iface 60 (.int .i64 1)]) ∧ RdS W ag (M.regV ts (mn : Int) k) ∧ Below w.heap.size w W) := fun W hW => ⟨none, 0, by rw [rv.out, rb.out]; rfl, by rw [rv.out]; exact ⟨Nat.zero_le _, fun h => absurd rfl h⟩, hW⟩
      by_cases k0 : k < 0
      · have q1 : decide (k < 0) = true := decide_eq_true k0
        clear h F e2 hl hl' rf rv rb k0
        generalize M.regV ts (mn : Int) k = RV at *
        generalize M.regB ts (mn : Int) k = RB at *
        go_enter Tryz.func14, Tryz.ntmps14
        go_wp2_with (go_at_call 32; refine T.out.mono ?_; rintro e w1 ⟨rfl, hb1⟩)
        go_ret3
        exact fin.out _ hb1
      · by_cases k1 : (ts.length : Int) ≤ k
        · have q1 : decide (k < 0) = false := decide_eq_false k0
          have q2 : decide ((ts.length : Int) ≤ k) = true := decide_eq_true k1
          clear h F e2 hl hl' rf rv rb k0 k1
          generalize M.regV ts (mn : Int) k = RV at *
          generalize M.regB ts (mn : Int) k = RB at *
          go_enter Tryz.func14, Tryz.ntmps14
          go_wp2_with (go_at_call 32; refine T.out.mono ?_; rintro e w1 ⟨rfl, hb1⟩)
          go_ret3
          exact fin.out _ hb1
        · obtain ⟨kn, rfl⟩ : ∃ kn : Nat, k = (kn : Int) := ⟨k.toNat, by omega⟩
          have kl : kn < ts.length := by omega
          have hf : M.leafB (M.nAt ts kn) = false := by
            unfold M.isLf at hl'
            rw [decide_eq_true (show (0 : Int) ≤ (kn : Int) by omega), decide_eq_true (show (kn : Int) < (ts.length : Int) by omega), Int.toNat_natCast] at hl'
            simpa using hl'
          obtain ⟨b0, off, rfl, hb0, hc⟩ := ht.2 (by intro e; subst e; simp at kl)
          have CL : Hid (∀ W, Below w.heap.size w W → W.cell? ⟨b0, off + kn * 6, none⟩ = some (.int .i64 (M.nf (M.nAt ts kn)))) := fun W hW => ((hc kn kl).below hW hb0).1
          have q3 : (M.nf (M.nAt ts kn) != -1) = true := by
            unfold M.leafB at hf
            rw [bne_iff_ne]; exact of_decide_eq_false hf
          have q2 : decide ((ts.length : Int) ≤ (kn : Int)) = false := decide_eq_false (by omega)
          have kz : (kn : Int) < (ts.length : Int) := by omega
          clear h F e2 hl hl' rf rv rb k0 k1 hc ht hf
          generalize M.regV ts (mn : Int) (kn : Int) = RV at *
          generalize M.regB ts (mn : Int) (kn : Int) = RB at *
          generalize M.nf (M.nAt ts kn) = f at *
          go_enter Tryz.func14, Tryz.ntmps14
          go_wp2_with (go_at_call 32; refine T.out.mono ?_; rintro e w1 ⟨rfl, hb1⟩; have cl := CL.out _ hb1)
          go_ret3
          exact fin.out _ hb1
  · have rf : M.regF ts m k = (M.treeF ts m).2 := by unfold M.regF; rw [if_pos h]
    have rv : Hid (M.regV ts m k = []) := by unfold Hid M.regV; rw [if_neg (by rw [rf]; exact h)]
    have rb : Hid (M.regB ts m k = false) := by unfold Hid M.regB; rw [if_neg (by rw [rf]; exact h)]
    have ES := hide (err_some h)
    rw [rf]
    rw [err_some h] at T
    clear h ht rf
    generalize M.regV ts m k = RV at *
    generalize M.regB ts m k = RB at *
    generalize errV (M.treeF ts m).2 = er at *
    generalize (M.treeF ts m).2 = tf at *
    generalize (M.treeF ts m).1 = tp at *
    go_enter Tryz.func14, Tryz.ntmps14
    go_wp2_with (go_at_call 32; refine T.out.mono ?_; rintro e w1 ⟨rfl, hb1⟩)
    go_ret3
    exact ⟨none, 0, by rw [rv.out, rb.out, ES.out]; rfl, by rw [rv.out]; exact ⟨Nat.zero_le _, fun h => absurd rfl h⟩, hb1⟩

end Go.Proofs.YtandimbpealclacGreatDoor

namespace Go.Proofs.YtandimbpealclacGreatDoor
open Go.ChangeShapes Go.WideShapes Go.ChangeAt Go.RowKit Go.Lib
set_option linter.unusedVariables false

theorem own_far {w : World} {base n e size p o : Nat} {v x : Value} {l : List Value} (h : w.ownsRow base e size v n l) (hp : p < base) : (w.setCell ⟨p, o, none⟩ x).ownsRow base e size v n l := by
  refine ⟨h.1, ?_⟩
  rcases h.2 with h0 | ⟨g, cap, cur, hv, h1, h2, h3⟩
  · exact .inl h0
  · refine .inr ⟨g, cap, cur, hv, h1, ?_, h3⟩
    rw [← h2]
    have : ¬ p = g := by omega
    simp [World.setCell, Array.getElem?_modify, this]

/-- what the closure finds: the tree, the number of features and the leaves so far -/
structure Sees (a : Option Addr) (ts : List M.Nd) (ca m : Nat) (w : World) (B bt bf br : Nat) (L : List Int) (W : World) (v : Value) : Prop where
  ct : W.cell? ⟨bt, 0, none⟩ = some (.slice a ts.length ca)
  cf : W.cell? ⟨bf, 0, none⟩ = some (.int .i64 (m : Nat))
  cr : W.cell? ⟨br, 0, none⟩ = some v
  fr : W.frozen? ⟨br, 0, none⟩ = false
  own : W.ownsRow B 3 1 v L.length (L.map (Value.int .i64))
  size : B ≤ W.heap.size
  below : Below w.heap.size w W
theorem Sees.up {a : Option Addr} {ts : List M.Nd} {ca m : Nat} {w : World} {B bt bf br : Nat} {L : List Int} {W W' : World} {v : Value} (h : Sees a ts ca m w B bt bf br L W v) (ht : bt < B) (hf : bf < B) (hr : br < B) (hb : Below W.heap.size W W') : Sees a ts ca m w B bt bf br L W' v := by
  have hs := h.size
  refine ⟨(hb.cell (p := ⟨bt, 0, none⟩) (show bt < _ by omega)).trans h.ct, (hb.cell (p := ⟨bf, 0, none⟩) (show bf < _ by omega)).trans h.cf, (hb.cell (p := ⟨br, 0, none⟩) (show br < _ by omega)).trans h.cr, ?_, own_up h.own hb, Nat.le_trans hs hb.size, below_on h.below hb⟩
  rw [← h.fr]
  show World.frozen? _ _ = World.frozen? _ _
  unfold World.frozen?
  rw [hb.block br (by omega)]
/-- the leaves so far, with one more -/
theorem Sees.more {a : Option Addr} {ts : List M.Nd} {ca m : Nat} {w : World} {B bt bf br : Nat} {L L2 : List Int} {W W' : World} {v v' : Value} (h : Sees a ts ca m w B bt bf br L W v) (ht : bt < B) (hf : bf < B) (hr : br < B) (htr : bt ≠ br) (hfr : bf ≠ br) (hw : w.heap.size ≤ br) (hb : Below B W W') (ho : W'.ownsRow B 3 1 v' L2.length (L2.map (Value.int .i64))) : Sees a ts ca m w B bt bf br L2 (W'.setCell ⟨br, 0, none⟩ v') v' := by
  have hs := h.size
  have hfz : W'.frozen? ⟨br, 0, none⟩ = false := by
    rw [← h.fr]
    unfold World.frozen?
    rw [hb.block br hr]
  have hcr : W'.cell? ⟨br, 0, none⟩ = some v := (hb.cell (p := ⟨br, 0, none⟩) hr).trans h.cr
  refine ⟨?_, ?_, ?_, ?_, own_far ho hr, ?_, ?_⟩
  · rw [far_cell (fun e => htr e.symm)]; exact (hb.cell (p := ⟨bt, 0, none⟩) ht).trans h.ct
  · rw [far_cell (fun e => hfr e.symm)]; exact (hb.cell (p := ⟨bf, 0, none⟩) hf).trans h.cf
  · exact World.cell?_setCell_same _ _ _ hcr
  · simpa using hfz
  · have := hb.size; simp; omega
  · exact (h.below.trans (hb.mono (by omega))).setCell (p := ⟨br, 0, none⟩) hw v'

set_option maxHeartbeats 4000000 in
set_option maxRecDepth 10000 in
theorem reach1_any (a : Option Addr) (ts : List M.Nd) (ca m k : Nat) (w : World) (B bt bf br : Nat) (L : List Int) (W : World) (v : Value) (hn : RdN w a ts) (F : M.Fair ts (m : Int)) (hk : k < ts.length) (hL : L.length ≤ 63) (h : Sees a ts ca m w B bt bf br L W v)
    (ht : bt < B) (hf : bf < B) (hr : br < B) (htr : bt ≠ br) (hfr : bf ≠ br) (hw : w.heap.size ≤ br) :
    Calls Tryz.prog 36 #[.int .i64 (k : Nat), .pointer (some ⟨bt, 0, none⟩), .pointer (some ⟨bf, 0, none⟩), .pointer (some ⟨br, 0, none⟩)] W fun e w' => e = .returned (.tuple #[]) ∧ ∃ v', Sees a ts ca m w B bt bf br (if M.anyS (M.region ts m k) = true then L ++ [(k : Int)] else L) w' v' := by
  have R := hide (fun W' (hW : Below w.heap.size w W') => region_any a ts ca m k W' (hn.below hW) F hk)
  have LN : Hid (((M.region ts m k).map M.norm).length = m) := by unfold Hid; rw [List.length_map, M.region_len]
  have m8 : m ≤ 8 := by have := F.2.2.2.1; omega
  have l63 := F.1
  have HH := hide hasrow_any
  have S0 := hide h
  have UP : Hid (∀ W', Below W.heap.size W W' → Sees a ts ca m w B bt bf br L W' v) := fun W' hb => h.up ht hf hr hb
  have MO : Hid (∀ W' v' L2, Below B W W' → W'.ownsRow B 3 1 v' L2.length (L2.map (Value.int .i64)) → Sees a ts ca m w B bt bf br L2 (W'.setCell ⟨br, 0, none⟩ v') v') := fun W' v' L2 hb ho => h.more ht hf hr htr hfr hw hb ho
  obtain ⟨i0, hi, hz0, hz1, hz2⟩ := info_parts info3
  have I0 := hide hi
  have c0 := h.ct
  have c1 := h.cf
  have hbl := hide h.below
  have bs := h.size
  cases hA : M.anyS (M.region ts m k) with
  | false =>
    rw [← M.any_norm] at hA
    have HA := hide hA
    clear h hi F hn hA
    generalize (M.region ts m k).map M.norm = Q at *
    go_enter Tryz.func36, Tryz.ntmps36
    go_wp2_with (first
      | (go_at_call 33; refine (R.out _ hbl.out).mono ?_; rintro e w2 ⟨q, rfl, hown, hb2⟩; obtain ⟨ag, cg, rfl, hrd⟩ := own_rdS LN.out (by unfold maxLen; omega) hown; have hw2 := HH.out ag Q cg w2 hrd; rw [LN.out, HA.out] at hw2; have HW := hide hw2; have HB2 := hide hb2; clear hown hw2 hrd)
      | (go_at_call 34; refine HW.out.mono ?_; rintro e w3 ⟨rfl, hb3⟩; have HB3 := hide hb3; clear hb3))
    go_end0
    exact ⟨rfl, v, UP.out _ (below_on HB2.out HB3.out)⟩
  | true =>
    rw [← M.any_norm] at hA
    have HA := hide hA
    clear h hi F hn hA
    obtain ⟨va, vc, rfl, RV, hvc⟩ := own_rd S0.out.own
    clear RV hvc
    generalize (M.region ts m k).map M.norm = Q at *
    go_enter Tryz.func36, Tryz.ntmps36
    go_wp2_with (first
      | (go_at_call 33; refine (R.out _ hbl.out).mono ?_; rintro e w2 ⟨q, rfl, hown, hb2⟩; obtain ⟨ag, cg, rfl, hrd⟩ := own_rdS LN.out (by unfold maxLen; omega) hown; have hw2 := HH.out ag Q cg w2 hrd; rw [LN.out, HA.out] at hw2; have HW := hide hw2; have HB2 := hide hb2; clear hown hw2 hrd)
      | (go_at_call 34; refine HW.out.mono ?_; rintro e w3 ⟨rfl, hb3⟩; have k3 := below_on HB2.out hb3; have S3 := hide (UP.out _ k3); have c3 := S3.out.cr; have f3 := S3.out.fr; have bs3 := S3.out.size; clear hb3)
      | (at_builtin; refine wpList_append_lies _ rfl (.tmp 10) (.tmp 12) 23 rfl B 3 i0 (.int .i64 0) 1 8 Tryz.underlying23 I0.out hz0 hz1 hz2 rfl (by omega) (.slice va L.length vc) L.length (L.map (Value.int .i64)) rfl (S3.out.own.alloc _) ⟨w3.heap.size, 0, none⟩ 1 1 [.int .i64 (k : Int)] rfl rfl (World.news_of_block (heap_alloc_new _ _)) (by simp [Value.oneCell']) (by omega) (by unfold maxLen; omega) (by omega) (by simp; omega) (w3.heap.size + 1) (by simp) ?_))
    intro g cap w5 hov5 hgrow hat hlt5
    have kB : Below B W w5 := ((k3.mono bs).alloc bs3 _).grown hgrow (by simp; omega) (fun k hk => (S3.out.own.lt k hk).1)
    have c5 : w5.cell? ⟨br, 0, none⟩ = _ := (kB.cell (p := ⟨br, 0, none⟩) hr).trans S0.out.cr
    have f5 : w5.frozen? ⟨br, 0, none⟩ = false := by
      rw [← S0.out.fr]
      unfold World.frozen?
      rw [kB.block br hr]
    have HO5 : Hid (w5.ownsRow B 3 1 (.slice (some ⟨g, 0, none⟩) (L.length + 1) cap) (L ++ [(k : Int)]).length ((L ++ [(k : Int)]).map (Value.int .i64))) := by
      unfold Hid; rw [List.map_append, List.length_append]; exact hov5
    have KB := hide kB
    clear hov5 hgrow hat kB
    go_wp2
    go_end0
    exact ⟨rfl, _, MO.out _ _ _ KB.out HO5.out⟩

/-- what eachLeaf does with such a closure -/
theorem M.rch_yes {t : List M.Nd} {m k : Nat} (h : M.leafB (M.nAt t k) = true) : M.rch t m (k + 1) = if M.anyS (M.region t m k) = true then M.rch t m k ++ [(k : Int)] else M.rch t m k := by
  rw [M.rch, h]; simp
theorem M.rch_no {t : List M.Nd} {m k : Nat} (h : M.leafB (M.nAt t k) = false) : M.rch t m (k + 1) = M.rch t m k := by
  rw [M.rch, h]; simp

set_option maxHeartbeats 4000000 in
set_option maxRecDepth 10000 in
theorem eachleaf_any (a : Option Addr) (ts : List M.Nd) (ca m : Nat) (w : World) (B bt bf br : Nat) (W : World) (v : Value) (hn : RdN w a ts) (F : M.Fair ts (m : Int)) (h : Sees a ts ca m w B bt bf br [] W v)
    (ht : bt < B) (hf : bf < B) (hr : br < B) (htr : bt ≠ br) (hfr : bf ≠ br) (hw : w.heap.size ≤ br) :
    Calls Tryz.prog 35 #[.slice a ts.length ca, .func (.func 36) #[] #[.pointer (some ⟨bt, 0, none⟩), .pointer (some ⟨bf, 0, none⟩), .pointer (some ⟨br, 0, none⟩)]] W fun e w' => e = .returned (.tuple #[]) ∧ ∃ v', Sees a ts ca m w B bt bf br (M.rch ts m ts.length) w' v' := by
  have l63 := F.1
  have HN := hide hn
  have HS := hide h
  have C := hide (fun k L W v (hk : k < ts.length) (hL : L.length ≤ 63) (h : Sees a ts ca m w B bt bf br L W v) => reach1_any a ts ca m k w B bt bf br L W v hn F hk hL h ht hf hr htr hfr hw)
  clear hn F h
  go_enter Tryz.func35, Tryz.ntmps35
  go_wp2
  go_loopw [8] (fun i wr => ∃ k : Nat, k ≤ ts.length ∧ i = .int .i64 k ∧ Hid (∃ v', Sees a ts ca m w B bt bf br (M.rch ts m k) wr v')) (fun i _ => ts.length - (intOf i).toNat)
  case atStart => exact ⟨0, Nat.zero_le _, rfl, v, HS.out⟩
  case round =>
    clear HS
    obtain ⟨k, hk, rfl, I⟩ := hrel
    obtain ⟨v', hS⟩ := I.out
    by_cases hlt : k < ts.length
    · have hbl := hS.below
      obtain ⟨b1, off, rfl, hb1, hc⟩ := HN.out.2 (by intro e; subst e; simp at hlt)
      obtain ⟨s0, s1, s2, s3, s4, s5⟩ := (hc k hlt).below hbl hb1
      have UA : Hid (∀ o, Sees (some ⟨b1, off, none⟩) ts ca m w B bt bf br (M.rch ts m k) (wr.alloc o) v') := fun o => hS.up ht hf hr ((Below.refl _ wr).alloc (Nat.le_refl _) o)
      cases hl : M.leafB (M.nAt ts k) with
      | true =>
        have q : (M.nf (M.nAt ts k) == -1) = true := by
          unfold M.leafB at hl
          rw [beq_iff_eq]; exact of_decide_eq_true hl
        have N : Hid (M.rch ts m (k + 1) = if M.anyS (M.region ts m k) = true then M.rch ts m k ++ [(k : Int)] else M.rch ts m k) := M.rch_yes hl
        have C1 := hide (fun o => C.out k (M.rch ts m k) (wr.alloc o) v' hlt (by have := M.rch_len ts m k; omega) (UA.out o))
        rw [← N.out] at C1
        clear hc hl hS C I UA N
        generalize M.nf (M.nAt ts k) = f at *
        generalize M.nc (M.nAt ts k) = c at *
        generalize M.nl (M.nAt ts k) = l at *
        generalize M.nr (M.nAt ts k) = r at *
        generalize M.ns (M.nAt ts k) = sl at *
        generalize M.nv (M.nAt ts k) = v at *
        go_wp2_with (go_at_call 36; refine (C1.out _).mono ?_; rintro e w2 ⟨rfl, hs2⟩; have S2 := hide hs2; clear hs2)
        go_roundw
        case rel => exact ⟨k + 1, by omega, by go_num, S2⟩
        case measure => simp [intOf]; omega
      | false =>
        have q : (M.nf (M.nAt ts k) == -1) = false := by
          unfold M.leafB at hl
          rw [beq_eq_false_iff_ne]; exact of_decide_eq_false hl
        have N : Hid (∀ o, ∃ v', Sees (some ⟨b1, off, none⟩) ts ca m w B bt bf br (M.rch ts m (k + 1)) (wr.alloc o) v') := fun o => ⟨v', by rw [M.rch_no hl]; exact UA.out o⟩
        clear hc hl hS C I UA
        generalize M.nf (M.nAt ts k) = f at *
        generalize M.nc (M.nAt ts k) = c at *
        generalize M.nl (M.nAt ts k) = l at *
        generalize M.nr (M.nAt ts k) = r at *
        generalize M.ns (M.nAt ts k) = sl at *
        generalize M.nv (M.nAt ts k) = v at *
        go_wp2
        go_roundw
        case rel => exact ⟨k + 1, by omega, by go_num, N.out _⟩
        case measure => simp [intOf]; omega
    · have E : k = ts.length := by omega
      subst E
      clear C hS
      go_wp2
      go_end0
      exact ⟨rfl, I.out⟩

theorem sees_start {a : Option Addr} {ts : List M.Nd} {ca m : Nat} {w w1 : World} {t u r : TypeId} (h : Below ((w.alloc (.cells #[.slice a ts.length ca] t)).alloc (.cells #[.int .i64 (m : Nat)] u)).heap.size ((w.alloc (.cells #[.slice a ts.length ca] t)).alloc (.cells #[.int .i64 (m : Nat)] u)) w1) :
    Sees a ts ca m w (w1.heap.size + 1) w.heap.size (w.heap.size + 1) w1.heap.size [] (w1.alloc (.cells #[.slice none 0 0] r)) (.slice none 0 0) ∧ w.heap.size + 1 < w1.heap.size := by
  have hsz : w.heap.size + 1 < w1.heap.size := by have := h.size; simp at this; omega
  have b2 := (Below.refl _ w1).alloc (Nat.le_refl _) (.cells #[.slice none 0 0] r)
  have hw : Below w.heap.size w w1 := below_on (((Below.refl _ w).alloc (Nat.le_refl _) _).alloc (by simp) _) h
  refine ⟨⟨?_, ?_, ?_, ?_, World.ownsRow_nil _ _ _ _, ?_, below_on hw b2⟩, hsz⟩
  · refine (b2.cell (p := ⟨w.heap.size, 0, none⟩) (show w.heap.size < _ by omega)).trans ((h.cell (p := ⟨w.heap.size, 0, none⟩) (by simp; omega)).trans ?_)
    refine (((Below.refl _ (w.alloc (.cells #[.slice a ts.length ca] t))).alloc (Nat.le_refl _) _).cell (p := ⟨w.heap.size, 0, none⟩) (by simp)).trans ?_
    exact World.cell?_alloc_at _ _ _ 0 rfl
  · refine (b2.cell (p := ⟨w.heap.size + 1, 0, none⟩) (show w.heap.size + 1 < _ by omega)).trans ((h.cell (p := ⟨w.heap.size + 1, 0, none⟩) (by simp)).trans ?_)
    exact World.cell?_alloc_at _ _ _ 0 (by simp)
  · exact World.cell?_alloc_at _ _ _ 0 rfl
  · have := heap_alloc_new w1 (.cells #[.slice none 0 0] r)
    simp only [World.frozen?, this]
    rfl
  · simp

set_option maxHeartbeats 4000000 in
set_option maxRecDepth 10000 in
theorem reach_any (a : Option Addr) (ts : List M.Nd) (ca : Nat) (m : Int) (w : World) (ht : RdN w a ts) :
    Calls Tryz.prog 16 #[.slice a ts.length ca, .int .i64 m] w fun e w' =>
      ∃ ag cg, e = .returned (.tuple #[.slice ag (M.rchV ts m).length cg, errV (M.treeF ts m).2]) ∧ Rd w' ag (M.rchV ts m) ∧ Below w.heap.size w w' := by
  have T := hide (fun W (hW : Below w.heap.size w W) => tcheck_any a ts ca m W (ht.below hW))
  have B0 : Hid (∀ o1 o2, Below w.heap.size w ((w.alloc o1).alloc o2)) := fun o1 o2 => ((Below.refl _ w).alloc (Nat.le_refl _) o1).alloc (by simp) o2
  by_cases h : (M.treeF ts m).2 = 0
  · obtain ⟨F, e2⟩ := M.tree_ok h
    rw [err_nil h]
    rw [err_nil h] at T
    have m0 := F.2.2.1
    obtain ⟨mn, rfl⟩ : ∃ mn : Nat, m = (mn : Int) := ⟨m.toNat, by omega⟩
    have rv : Hid (M.rchV ts (mn : Int) = M.rch ts mn ts.length) := by unfold Hid M.rchV; rw [if_pos h, Int.toNat_natCast]
    have EL := hide (fun B bt bf br W v h1 h2 h3 h4 h5 h6 h7 => eachleaf_any a ts ca mn w B bt bf br W v ht F h1 h2 h3 h4 h5 h6 h7)
    clear h F e2 ht
    generalize M.rchV ts (mn : Int) = RV at *
    go_enter Tryz.func16, Tryz.ntmps16
    go_wp2_with (first
      | (go_at_call 32; refine (T.out _ (B0.out _ _)).mono ?_; rintro e w1 ⟨rfl, hb1⟩; have ss := sees_start (r := 23) hb1; have S1 := hide ss.1; have sz := ss.2; have ct := S1.out.ct; clear ss)
      | (go_at_call 35; refine (EL.out _ _ _ _ _ _ S1.out (by omega) (by omega) (by omega) (by omega) (by omega) (by omega)).mono ?_; rintro e w2 ⟨rfl, ⟨v2, hs2⟩⟩; have S2 := hide hs2; have c2 := hs2.cr; clear hs2))
    go_ret2
    obtain ⟨va, vc, rfl, RV2, hvc⟩ := own_rd S2.out.own
    exact ⟨va, vc, by rw [rv.out]; rfl, by rw [rv.out]; exact RV2, S2.out.below⟩
  · have rv : Hid (M.rchV ts m = []) := by unfold Hid M.rchV; rw [if_neg h]
    have ES := hide (err_some h)
    rw [err_some h] at T
    clear h ht
    generalize M.rchV ts m = RV at *
    generalize errV (M.treeF ts m).2 = er at *
    generalize (M.treeF ts m).2 = tf at *
    generalize (M.treeF ts m).1 = tp at *
    go_enter Tryz.func16, Tryz.ntmps16
    go_wp2_with (go_at_call 32; refine (T.out _ (B0.out _ _)).mono ?_; rintro e w1 ⟨rfl, hb1⟩; have k1 := below_on (B0.out _ _) hb1)
    go_ret2
    exact ⟨none, 0, by rw [rv.out, ES.out]; rfl, by rw [rv.out]; exact ⟨Nat.zero_le _, fun h => absurd rfl h⟩, k1⟩

end Go.Proofs.YtandimbpealclacGreatDoor

namespace Go.Proofs.YtandimbpealclacGreatDoor
open Go.ChangeShapes Go.WideShapes Go.ChangeAt Go.RowKit Go.Lib
set_option linter.unusedVariables false

theorem fillw_own {wr : World} {B g n : Nat} {F : List Int} {k : Nat} (hk : k < F.length)
    (hown : wr.ownsRow B 3 1 (.slice (some ⟨g, 0, none⟩) n n) n ((M.fillI F k).map (Value.int .i64))) :
    (wr.setCell ⟨g, k, none⟩ (.int .i64 F[k])).ownsRow B 3 1 (.slice (some ⟨g, 0, none⟩) n n) n ((M.fillI F (k + 1)).map (Value.int .i64)) := by
  have := (hown.stored k (.int .i64 F[k])).1
  rw [← M.fill_set F k hk, List.map_set]
  exact this
theorem fillw_cell {wr : World} {B g n : Nat} {F : List Int} {k : Nat} (hk : k < F.length) (hn : F.length = n)
    (hown : wr.ownsRow B 3 1 (.slice (some ⟨g, 0, none⟩) n n) n ((M.fillI F k).map (Value.int .i64))) : ∃ z, wr.cell? ⟨g, k, none⟩ = some (.int .i64 z) := by
  have hl : (M.fillI F k).length = n := by rw [M.fill_len F k (by omega), hn]
  exact ⟨_, own_at hown hl k (by omega)⟩

theorem M.sp_at {l : List M.Sp} (h8 : l.length ≤ 8) {k : Nat} (hk : k < l.length) (h : ∀ j, j < k → M.sp1F (l.getD j (0, 0, false)) = 0) (hn : M.sp1F (l.getD k (0, 0, false)) ≠ 0) : M.spF l = M.sp1F (l.getD k (0, 0, false)) := by
  unfold M.spF
  rw [if_neg (by omega), M.first_hit (k := k) (by show (!decide (M.sp1F (l.getD k (0, 0, false)) = 0)) = true; rw [decide_eq_false hn]; rfl) (fun j hj => by show (!decide (M.sp1F (l.getD j (0, 0, false)) = 0)) = false; rw [decide_eq_true (h j hj)]; rfl) hk]
theorem M.sp_all {l : List M.Sp} (h8 : l.length ≤ 8) (h : ∀ j, j < l.length → M.sp1F (l.getD j (0, 0, false)) = 0) : M.spF l = 0 := by
  unfold M.spF
  rw [if_neg (by omega), M.first_miss (fun j hj => by show (!decide (M.sp1F (l.getD j (0, 0, false)) = 0)) = false; rw [decide_eq_true (h j hj)]; rfl)]
theorem M.pick_at {l : List M.Sp} {k : Nat} (hk : k < l.length) (h' : k < (M.pick l).length) : (M.pick l)[k] = M.pickC (l.getD k (0, 0, false)) := by
  show (l.map M.pickC)[k]'(by simpa [M.pick] using h') = _
  rw [M.getD_at hk, List.getElem_map]

theorem kept_span {w W : World} {a0 a1 a2 : Value} {t : TypeId} (h : Below (w.alloc (.cells #[a0, a1, a2] t)).heap.size (w.alloc (.cells #[a0, a1, a2] t)) W) :
    W.cell? ⟨w.heap.size, 0, none⟩ = some a0 ∧ W.cell? ⟨w.heap.size, 1, none⟩ = some a1 ∧ W.cell? ⟨w.heap.size, 2, none⟩ = some a2 := by
  have hs : w.heap.size < (w.alloc (.cells #[a0, a1, a2] t)).heap.size := by simp
  exact ⟨(h.cell (p := ⟨w.heap.size, 0, none⟩) hs).trans (World.cell?_alloc_at _ _ _ 0 rfl), (h.cell (p := ⟨w.heap.size, 1, none⟩) hs).trans (World.cell?_alloc_at _ _ _ 1 rfl), (h.cell (p := ⟨w.heap.size, 2, none⟩) hs).trans (World.cell?_alloc_at _ _ _ 2 rfl)⟩

set_option maxHeartbeats 8000000 in
set_option maxRecDepth 10000 in
theorem witness_any (a0 : Option Addr) (ss : List M.Sp) (ca : Nat) (w : World) (h : RdS w a0 ss) :
    Calls Tryz.prog 19 #[.slice a0 ss.length ca] w fun e w' =>
      ∃ ag cg, e = .returned (.tuple #[.slice ag (M.witV ss).length cg, errV (M.spF ss)]) ∧ Rd w' ag (M.witV ss) ∧ Below w.heap.size w w' := by
  have hm : ss.length ≤ 9223372036854775807 := h.1
  have RN : ∀ W, Rd W none [] := fun W => ⟨Nat.zero_le _, fun h => absurd rfl h⟩
  have HRN := hide RN
  clear RN
  by_cases h8 : 8 < ss.length
  · have e4 : M.spF ss = 4 := by unfold M.spF; rw [if_pos h8]
    have VE : Hid (M.witV ss = []) := by unfold Hid M.witV; rw [if_neg (by rw [e4]; decide)]
    rw [e4, err_some (show (4 : Int) ≠ 0 by decide)]
    have q : decide (8 < (ss.length : Int)) = true := decide_eq_true (by omega)
    clear h e4
    generalize M.witV ss = V at *
    go_enter Tryz.func19, Tryz.ntmps19
    go_wp2
    go_ret2
    exact ⟨none, 0, by rw [VE.out]; rfl, by rw [VE.out]; exact HRN.out _, Below.refl _ _⟩
  · have l8 : ss.length ≤ 8 := by omega
    have q : decide (8 < (ss.length : Int)) = false := decide_eq_false (by omega)
    have HT := hide h
    obtain ⟨i0, hi, hz0, hz1, hz2⟩ := info_parts info3
    have I0 := hide hi
    have FA : Hid (∀ k, k < ss.length → (∀ j, j < k → M.sp1F (ss.getD j (0, 0, false)) = 0) → M.sp1F (ss.getD k (0, 0, false)) ≠ 0 → M.spF ss = M.sp1F (ss.getD k (0, 0, false))) := fun k hk h hn => M.sp_at l8 hk h hn
    have FZ : Hid ((∀ j, j < ss.length → M.sp1F (ss.getD j (0, 0, false)) = 0) → M.spF ss = 0) := fun h => M.sp_all l8 h
    have VN : Hid (M.spF ss ≠ 0 → M.witV ss = []) := fun h => by unfold M.witV; rw [if_neg h]
    have VY : Hid (M.spF ss = 0 → M.witV ss = M.pick ss) := fun h => by unfold M.witV; rw [if_pos h]
    have PA : Hid (∀ k (hk : k < ss.length) (h' : k < (M.pick ss).length), (M.pick ss)[k] = M.pickC (ss.getD k (0, 0, false))) := fun k hk h' => M.pick_at hk h'
    have FL : Hid ((M.pick ss).length = ss.length) := by unfold Hid M.pick; simp
    clear h hi h8
    generalize M.witV ss = V at *
    generalize M.spF ss = SF at *
    generalize M.pick ss = L at *
    go_enter Tryz.func19, Tryz.ntmps19
    go_wp2_with (at_make; refine wpList_make_full _ rfl (.tmp 12) (.tmp 12) 23 rfl w.heap.size 3 i0 (.int .i64 0) 1 Tryz.underlying23 I0.out hz0 hz1 .i64 .i64 _ _ ss.length rfl rfl (by omega) (by omega) (by rw [hz2]; omega) (by unfold maxLen; omega) (Nat.le_refl _) ?_; intro w3 hown hgrow)
    rw [made] at hown
    have hb3 : Below w.heap.size w w3 := (Below.refl _ w).grown hgrow (Nat.le_refl _) (fun k hk => by cases hk)
    have ho : w3.ownsRow w.heap.size 3 1 (.slice (some ⟨w.heap.size, 0, none⟩) ss.length ss.length) ss.length ((M.fillI L 0).map (Value.int .i64)) := by
      rw [M.fill_zero, FL.out]; exact hown
    clear hgrow hown
    go_loopw [16] (fun i wr => ∃ k : Nat, k ≤ ss.length ∧ i = .int .i64 k ∧ wr.ownsRow w.heap.size 3 1 (.slice (some ⟨w.heap.size, 0, none⟩) ss.length ss.length) ss.length ((M.fillI L k).map (Value.int .i64)) ∧ Below w.heap.size w wr ∧ Hid (∀ j, j < k → M.sp1F (ss.getD j (0, 0, false)) = 0)) (fun i _ => ss.length - (intOf i).toNat)
    case atStart => exact ⟨0, Nat.zero_le _, rfl, ho, hb3, fun j hj => by omega⟩
    case round =>
      clear ho hb3
      obtain ⟨k, hk, rfl, hown, hbl, I⟩ := hrel
      by_cases hlt : k < ss.length
      · obtain ⟨b1, off, rfl, hb1, hc⟩ := (HT.out.below hbl).2 (by intro e; subst e; simp at hlt)
        obtain ⟨s0, s1, s2⟩ := hc k hlt
        have hLl : k < L.length := by rw [FL.out]; exact hlt
        have eL := PA.out k hlt hLl
        have B1 : Hid (∀ o, Below w.heap.size w (wr.alloc o)) := fun o => below_on hbl ((Below.refl _ wr).alloc (Nat.le_refl _) o)
        have CE := hide isend_any
        have CH := hide (nothing_any (ss.getD k (0, 0, false)))
        have CF := hide (firstof_any (ss.getD k (0, 0, false)))
        have FAK := hide (FA.out k hlt I.out)
        have kz : (k : Int) < (ss.length : Int) := by omega
        unfold spV at CH CF
        cases hlo : M.outI (ss.getD k (0, 0, false)).1 with
        | true =>
          have EE : M.sp1F (ss.getD k (0, 0, false)) = 1 := by unfold M.sp1F; rw [if_pos (.inl hlo)]
          have SFE : Hid (SF = 1) := by unfold Hid; rw [FAK.out (by rw [EE]; decide), EE]
          have VE : Hid (V = []) := VN.out (by rw [SFE.out]; decide)
          have q1 : M.outI (ss.getD k (0, 0, false)).1 = true := hlo
          have E1 := hide (CE.out (ss.getD k (0, 0, false)).1)
          rw [q1] at E1
          clear hc EE I FAK FA FZ CE hlo hown eL q1
          generalize M.pickC (ss.getD k (0, 0, false)) = pk at *
          generalize (ss.getD k (0, 0, false)).1 = lo at *
          generalize (ss.getD k (0, 0, false)).2.1 = hi at *
          generalize (ss.getD k (0, 0, false)).2.2 = nl at *
          go_wp2_with (go_at_call 37; refine (E1.out _).mono ?_; rintro e w4 ⟨rfl, e4⟩; subst w4; clear E1)
          go_ret2
          exact ⟨none, 0, by rw [VE.out, SFE.out]; rfl, by rw [VE.out]; exact HRN.out _, B1.out _⟩
        | false =>
          cases hhi : M.outI (ss.getD k (0, 0, false)).2.1 with
          | true =>
            have EE : M.sp1F (ss.getD k (0, 0, false)) = 1 := by unfold M.sp1F; rw [if_pos (.inr hhi)]
            have SFE : Hid (SF = 1) := by unfold Hid; rw [FAK.out (by rw [EE]; decide), EE]
            have VE : Hid (V = []) := VN.out (by rw [SFE.out]; decide)
            have q1 : M.outI (ss.getD k (0, 0, false)).1 = false := hlo
            have E1 := hide (CE.out (ss.getD k (0, 0, false)).1)
            rw [q1] at E1
            have q2 : M.outI (ss.getD k (0, 0, false)).2.1 = true := hhi
            have E2 := hide (CE.out (ss.getD k (0, 0, false)).2.1)
            rw [q2] at E2
            clear hc EE I FAK FA FZ CE hlo hown eL hhi q2 q1
            generalize M.pickC (ss.getD k (0, 0, false)) = pk at *
            generalize (ss.getD k (0, 0, false)).1 = lo at *
            generalize (ss.getD k (0, 0, false)).2.1 = hi at *
            generalize (ss.getD k (0, 0, false)).2.2 = nl at *
            go_wp2_with (first | (go_at_call 37; refine (E1.out _).mono ?_; rintro e w4 ⟨rfl, e4⟩; subst w4; clear E1) | (go_at_call 37; refine (E2.out _).mono ?_; rintro e w4 ⟨rfl, e4⟩; subst w4; clear E2))
            go_ret2
            exact ⟨none, 0, by rw [VE.out, SFE.out]; rfl, by rw [VE.out]; exact HRN.out _, B1.out _⟩
          | false =>
            cases hh : M.hasS (ss.getD k (0, 0, false)) with
            | false =>
              have EE : M.sp1F (ss.getD k (0, 0, false)) = 5 := by unfold M.sp1F; rw [if_neg (by rw [hlo, hhi]; decide), if_pos hh]
              have SFE : Hid (SF = 5) := by unfold Hid; rw [FAK.out (by rw [EE]; decide), EE]
              have VE : Hid (V = []) := VN.out (by rw [SFE.out]; decide)
              have q1 : M.outI (ss.getD k (0, 0, false)).1 = false := hlo
              have E1 := hide (CE.out (ss.getD k (0, 0, false)).1)
              rw [q1] at E1
              have q2 : M.outI (ss.getD k (0, 0, false)).2.1 = false := hhi
              have E2 := hide (CE.out (ss.getD k (0, 0, false)).2.1)
              rw [q2] at E2
              rw [hh] at CH
              clear hc EE I FAK FA FZ CE hlo hown eL hhi q2 hh q1
              generalize M.pickC (ss.getD k (0, 0, false)) = pk at *
              generalize (ss.getD k (0, 0, false)).1 = lo at *
              generalize (ss.getD k (0, 0, false)).2.1 = hi at *
              generalize (ss.getD k (0, 0, false)).2.2 = nl at *
              go_wp2_with (first | (go_at_call 37; refine (E1.out _).mono ?_; rintro e w4 ⟨rfl, e4⟩; subst w4; clear E1) | (go_at_call 37; refine (E2.out _).mono ?_; rintro e w4 ⟨rfl, e4⟩; subst w4; clear E2) | (go_at_call 38; refine (CH.out _).mono ?_; rintro e w5 ⟨rfl, hb5⟩))
              go_ret2
              exact ⟨none, 0, by rw [VE.out, SFE.out]; rfl, by rw [VE.out]; exact HRN.out _, below_on (B1.out _) hb5⟩
            | true =>
              have EE : M.sp1F (ss.getD k (0, 0, false)) = 0 := by unfold M.sp1F; rw [if_neg (by rw [hlo, hhi]; decide), if_neg (by rw [hh]; decide)]
              have N : Hid (∀ j, j < k + 1 → M.sp1F (ss.getD j (0, 0, false)) = 0) := fun j hj => by
                by_cases e : j = k
                · rw [e]; exact EE
                · exact I.out j (by omega)
              have R := hide (fun W (hW : Below wr.heap.size wr W) => fillw_own hLl (own_keep hown hW))
              have CC := hide (fun W (hW : Below wr.heap.size wr W) => fillw_cell hLl FL.out (own_keep hown hW))
              have FZN := hide (fun W (hW : Below wr.heap.size wr W) => (own_keep hown hW).frozenAt k)
              have NB : Hid (∀ o W, Below (wr.alloc o).heap.size (wr.alloc o) W → Below wr.heap.size wr W) := fun o W hW => below_on ((Below.refl _ wr).alloc (Nat.le_refl _) o) hW
              rw [eL] at R
              have q1 : M.outI (ss.getD k (0, 0, false)).1 = false := hlo
              have E1 := hide (CE.out (ss.getD k (0, 0, false)).1)
              rw [q1] at E1
              have q2 : M.outI (ss.getD k (0, 0, false)).2.1 = false := hhi
              have E2 := hide (CE.out (ss.getD k (0, 0, false)).2.1)
              rw [q2] at E2
              rw [hh] at CH
              clear hc EE I FAK FA FZ CE hlo hown eL hhi q2 hh q1
              generalize M.pickC (ss.getD k (0, 0, false)) = pk at *
              generalize (ss.getD k (0, 0, false)).1 = lo at *
              generalize (ss.getD k (0, 0, false)).2.1 = hi at *
              generalize (ss.getD k (0, 0, false)).2.2 = nl at *
              go_wp2_with (first | (go_at_call 37; refine (E1.out _).mono ?_; rintro e w4 ⟨rfl, e4⟩; subst w4; clear E1) | (go_at_call 37; refine (E2.out _).mono ?_; rintro e w4 ⟨rfl, e4⟩; subst w4; clear E2) | (go_at_call 38; refine (CH.out _).mono ?_; rintro e w5 ⟨rfl, hb5⟩; have ks := kept_span hb5; have y0 := ks.1; have y1 := ks.2.1; have y2 := ks.2.2; have k5 := NB.out _ _ hb5; clear ks hb5) | (go_at_call 39; refine (CF.out _).mono ?_; rintro e w6 ⟨rfl, hb6⟩; have k6 := below_on k5 hb6; obtain ⟨zz, hcell⟩ := CC.out w6 k6; have hfz := FZN.out w6 k6))
              go_roundw
              case rel => exact ⟨k + 1, by omega, by go_num, R.out w6 k6, (below_on hbl k6).setCell (p := ⟨w.heap.size, k, none⟩) (Nat.le_refl _) _, N⟩
              case measure => simp [intOf]; omega
      · have hke : k = ss.length := by omega
        subst hke
        have SFE : Hid (SF = 0) := FZ.out I.out
        have VE : Hid (V = L) := VY.out SFE.out
        rw [show M.fillI L ss.length = L by rw [← FL.out]; exact M.fill_all L] at hown
        have hown2 : wr.ownsRow w.heap.size 3 1 (.slice (some ⟨w.heap.size, 0, none⟩) L.length ss.length) L.length (L.map (Value.int .i64)) := by rw [FL.out]; exact hown
        obtain ⟨va, vc, ev, RV, _⟩ := own_rd hown2
        cases ev
        have HR := hide RV
        clear hown hown2 RV FA FZ PA
        go_wp2
        go_ret2
        exact ⟨some ⟨w.heap.size, 0, none⟩, ss.length, by rw [VE.out, SFE.out, FL.out]; rfl, by rw [VE.out]; exact HR.out, hbl⟩

end Go.Proofs.YtandimbpealclacGreatDoor

namespace Go.Proofs.YtandimbpealclacGreatDoor
open Go.ChangeShapes Go.WideShapes Go.ChangeAt Go.RowKit Go.Lib
set_option linter.unusedVariables false

/-- what package path's calls answer -/
def PathAns : Prop := ∀ (a b : Option Addr) (ts : List M.Nd) (xs : List Int) (ca cb : Nat) (W : World), RdN W a ts → Rd W b xs → Calls Tryz.prog 7 #[.slice a ts.length ca, .slice b xs.length cb] W fun e w' =>
  ∃ ag cg, e = .returned (.tuple #[.slice ag (M.pathV ts xs).length cg, errV (M.readyF ts xs)]) ∧ Rd w' ag (M.pathV ts xs) ∧ Below W.heap.size W w'
def M.whyV (t : List M.Nd) (r : List Int) : ByteArray := if M.readyF t r = 0 then bs (M.why t r 0) else ⟨#[]⟩
def RegionAns : Prop := ∀ (a : Option Addr) (ts : List M.Nd) (ca : Nat) (m k : Int) (W : World), RdN W a ts → Calls Tryz.prog 14 #[.slice a ts.length ca, .int .i64 m, .int .i64 k] W fun e w' =>
  ∃ ag cg, e = .returned (.tuple #[.slice ag (M.regV ts m k).length cg, .bool (M.regB ts m k), errV (M.regF ts m k)]) ∧ RdS w' ag (M.regV ts m k) ∧ Below W.heap.size W w'
def ReachAns : Prop := ∀ (a : Option Addr) (ts : List M.Nd) (ca : Nat) (m : Int) (W : World), RdN W a ts → Calls Tryz.prog 16 #[.slice a ts.length ca, .int .i64 m] W fun e w' =>
  ∃ ag cg, e = .returned (.tuple #[.slice ag (M.rchV ts m).length cg, errV (M.treeF ts m).2]) ∧ Rd w' ag (M.rchV ts m) ∧ Below W.heap.size W w'
def WitnessAns : Prop := ∀ (a : Option Addr) (ss : List M.Sp) (ca : Nat) (W : World), RdS W a ss → Calls Tryz.prog 19 #[.slice a ss.length ca] W fun e w' =>
  ∃ ag cg, e = .returned (.tuple #[.slice ag (M.witV ss).length cg, errV (M.spF ss)]) ∧ Rd w' ag (M.witV ss) ∧ Below W.heap.size W w'

theorem M.isLf_iff (t : List M.Nd) (k : Int) : M.isLf t k = true ↔ 0 ≤ k ∧ k < (t.length : Int) ∧ M.nf (M.nAt t k.toNat) = -1 := by
  unfold M.isLf M.leafB
  simp [and_assoc]
theorem M.reg_bad {t : List M.Nd} {m k : Int} (h : (M.treeF t m).2 ≠ 0) : M.regF t m k = (M.treeF t m).2 := by unfold M.regF; rw [if_pos h]
theorem M.reg_no {t : List M.Nd} {m k : Int} (h : (M.treeF t m).2 = 0) (hn : ¬ (0 ≤ k ∧ k < (t.length : Int) ∧ M.nf (M.nAt t k.toNat) = -1)) : M.regF t m k = 1 := by
  unfold M.regF
  rw [if_neg (by simp [h]), if_pos]
  cases e : M.isLf t k with
  | false => rfl
  | true => exact absurd ((M.isLf_iff t k).1 e) hn
theorem M.reg_yes {t : List M.Nd} {m k : Int} (h : (M.treeF t m).2 = 0) (hy : 0 ≤ k ∧ k < (t.length : Int) ∧ M.nf (M.nAt t k.toNat) = -1) : M.regF t m k = 0 := by
  unfold M.regF
  rw [if_neg (by simp [h]), if_neg]
  rw [(M.isLf_iff t k).2 hy]; simp
theorem M.reg_zero {t : List M.Nd} {m k : Int} (h : M.regF t m k = 0) : (M.treeF t m).2 = 0 ∧ 0 ≤ k ∧ k < (t.length : Int) := by
  by_cases h1 : (M.treeF t m).2 = 0
  · by_cases h2 : 0 ≤ k ∧ k < (t.length : Int) ∧ M.nf (M.nAt t k.toNat) = -1
    · exact ⟨h1, h2.1, h2.2.1⟩
    · rw [M.reg_no h1 h2] at h; cases h
  · rw [M.reg_bad h1] at h; exact absurd h h1
def M.GRf (t : List M.Nd) (m : Int) (i : Nat) : List M.Sp := if (M.treeF t m).2 = 0 then M.region t m.toNat i else []
theorem M.GRf_ok {t : List M.Nd} {m : Int} (h : (M.treeF t m).2 = 0) (i : Nat) : M.GRf t m i = M.region t m.toNat i := by unfold M.GRf; rw [if_pos h]

theorem ptells_walk (hP : PathAns)
    (hG : RegionAns) (hC : ReachAns) (hI : WitnessAns) (a b c : Option Addr) (ts : List M.Nd) (xs : List Int) (ss : List M.Sp) (ca cb cc : Nat) (m lf : Int) (w : World) (ht : RdN w a ts) (hr : Rd w b xs) (hs : RdS w c ss) (hg : Lays w)
    (hY : ∀ W, Below w.heap.size w W → Calls Tryz.prog 9 #[.slice a ts.length ca, .slice b xs.length cb] W fun e w' => e = .returned (.tuple #[.string (M.whyV ts xs), errV (M.readyF ts xs)]) ∧ Below W.heap.size W w') :
    Calls Tryz.prog 3 #[.slice a ts.length ca, .slice b xs.length cb, .int .i64 m, .int .i64 lf, .slice c ss.length cc] w fun e w' => e = .returned (.bool true) ∧ Below w.heap.size w w' :=
  ptells_core a b c ts xs ss ca cb cc m lf w (M.treeF ts m).1 (M.leafV ts xs) (M.readyF ts xs) (M.treeF ts m).2 (M.regF ts m lf) (M.spF ss) (M.pathV ts xs) (M.rchV ts m) (M.witV ss) (M.whyV ts xs) (M.regV ts m lf) (M.regB ts m lf) (M.GRf ts m)
    (fun W hW => ht.below hW) ht.1 hr.1 hs.1
    (fun c W hW => (error_any c c W (hg.below hW)).mono fun r w' h => ⟨by rw [h.1, beq_self_eq_true], h.2⟩)
    (fun ag cg bg dg R W h1 h2 => (ints_any ag bg R R cg dg W h1 h2).mono fun r w' h => ⟨by rw [h.1]; simp, h.2⟩)
    (fun ag cg bg dg R W h1 h2 => spansame_any ag bg R cg dg W h1 h2)
    (fun W hW => ready_any a b ts xs ca cb W (ht.below hW) (hr.below hW))
    (fun h W hW => rway_any a b ts xs ca cb W (ht.below hW) (hr.below hW) h)
    (fun h W hW => by
      have := rwhy_any a b ts xs ca cb W (ht.below hW) (hr.below hW) h
      unfold M.whyV
      rw [if_pos h]; exact this)
    (fun h => ⟨by unfold M.pathV; rw [if_neg h], by unfold M.whyV; rw [if_neg h]⟩)
    (fun W hW => hP a b ts xs ca cb W (ht.below hW) (hr.below hW)) hY
    (fun W hW => rtree_any a ts ca m W (ht.below hW))
    ⟨M.reg_bad, M.reg_no, M.reg_yes⟩ M.reg_zero (fun h => ⟨by unfold M.regV; rw [if_neg h], by unfold M.regB; rw [if_neg h]⟩)
    (fun h i hi W hW => by
      obtain ⟨F, _⟩ := M.tree_ok h
      have e : m = ((m.toNat : Nat) : Int) := by have := F.2.2.1; omega
      have F' : M.Fair ts ((m.toNat : Nat) : Int) := by rw [← e]; exact F
      have := rregion_any a ts ca m.toNat i W (ht.below hW) F' hi
      rw [← e] at this
      rw [M.GRf_ok h, M.region_len]
      exact this)
    (fun i => by
      unfold M.GRf
      by_cases h : (M.treeF ts m).2 = 0
      · rw [if_pos h, M.region_len]
        have := (M.tree_ok h).1.2.2.2.1
        omega
      · rw [if_neg h]; simp)
    (fun h => by
      obtain ⟨h1, _⟩ := M.reg_zero h
      rw [M.GRf_ok h1]
      exact ⟨by unfold M.regV; rw [if_pos h], by unfold M.regB; rw [if_pos h]⟩)
    (fun ag cg R W h => any_any ag R cg W h)
    (fun W hW => hG a ts ca m lf W (ht.below hW))
    (fun h => (M.tree_ok h).1.1)
    ⟨fun h => by
      have e : M.GRf ts m = fun i => M.region ts m.toNat i := funext fun i => M.GRf_ok h i
      rw [e, M.rchL_is]
      unfold M.rchV
      rw [if_pos h], fun h => by unfold M.rchV; rw [if_neg h]⟩
    (fun W hW => hC a ts ca m W (ht.below hW)) (fun W hW => rspans_any c ss cc W (hs.below hW))
    (fun h W hW => by
      have h8 : ss.length ≤ 8 := by
        unfold M.spF at h
        by_cases g : 8 < ss.length
        · rw [if_pos g] at h; cases h
        · omega
      have := rpick_any c ss cc W (hs.below hW) h8
      unfold M.witV
      rw [if_pos h]; exact this)
    (fun h => by unfold M.witV; rw [if_neg h]) (fun W hW => hI c ss cc W (hs.below hW))

end Go.Proofs.YtandimbpealclacGreatDoor

namespace Go.Proofs.YtandimbpealclacGreatDoor
open Go.ChangeShapes Go.WideShapes Go.ChangeAt Go.RowKit Go.Lib

theorem ptells_all (a b c : Option Addr) (ts : List M.Nd) (xs : List Int) (ss : List M.Sp) (ca cb cc : Nat) (m lf : Int) (w : World) (ht : RdN w a ts) (hr : Rd w b xs) (hs : RdS w c ss) (hT : Tabs w) (hg : Lays w) :
    Calls Tryz.prog 3 #[.slice a ts.length ca, .slice b xs.length cb, .int .i64 m, .int .i64 lf, .slice c ss.length cc] w fun e w' => e = .returned (.bool true) ∧ Below w.heap.size w w' :=
  ptells_walk (fun a b ts xs ca cb W h1 h2 => path_any a b ts xs ca cb W h1 h2) (fun a ts ca m k W h => pregion_any a ts ca m k W h) (fun a ts ca m W h => reach_any a ts ca m W h) (fun a ss ca W h => witness_any a ss ca W h)
    a b c ts xs ss ca cb cc m lf w ht hr hs hg
    (fun W hW => by
      have := why_any a b ts xs ca cb W (ht.below hW) (hr.below hW) (hT.below hW)
      unfold M.whyV
      exact this)

end Go.Proofs.YtandimbpealclacGreatDoor
