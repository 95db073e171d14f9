/-
  Several texts as one: Groves, GFill, BooSq, BooLeft, BooLaid, BooNew, BooEnd, BooTree.
-/
import Derived.Test.YtelncekgjfpogahGreatDoorRunT4
import Derived.Lib.SmallJoins
import Derived.OwnWalk
import Derived.Test.YtelncekgjfpogahGreatDoorRunT6
import Derived.Test.YtelncekgjfpogahGreatDoorRunT1
import Derived.Deep.Cut
import Derived.BigQuiet
import Derived.Deep.QuietTactic
import Derived.Deep.RegionHeld3
import Derived.RegionTactic
namespace Go.Proofs.YtelncekgjfpogahGreatDoor
open Go.ChangeShapes Go.WideShapes Go.ChangeAt Go.RowKit Go.Deep
set_option linter.unusedVariables false
abbrev Tc := Option Addr × List M.Nd × Nat
def tV (k : Tc) : Value := .slice k.1 k.2.1.length k.2.2
def RdT (w : World) (a : Option Addr) (ks : List Tc) : Prop :=
 ks.length ≤ maxLen ∧ (∀ k ∈ ks, RdN w k.1 k.2.1) ∧ (ks ≠ [] → ∃ b off, a = some ⟨b, off, none⟩ ∧ b < w.heap.size ∧ ∀ i (h : i < ks.length), w.cell? ⟨b, off + i, none⟩ = some (tV ks[i]))
theorem RdT.below {w w' : World} {a : Option Addr} {ks : List Tc} (h : RdT w a ks) (hb : Below w.heap.size w w') : RdT w' a ks :=
 ⟨h.1, fun k hk => (h.2.1 k hk).below hb, fun hn => by
  obtain ⟨b, off, e, hl, hc⟩ := h.2.2 hn
  exact ⟨b, off, e, Nat.lt_of_lt_of_le hl hb.size, fun i hi => (hb.cell (p := ⟨b, off + i, none⟩) hl).trans (hc i hi)⟩⟩
def tl (ks : List Tc) : List (List M.Nd) := ks.map (·.2.1)
theorem tl_len (ks : List Tc) : (tl ks).length = ks.length := by simp [tl]
theorem tl_at (ks : List Tc) {k : Nat} (h : k < ks.length) : (tl ks).getD k [] = ks[k].2.1 := by
 rw [M.getD_at (by rw [tl_len]; exact h)]; simp [tl]
structure Gr where
 f : Int
 w : Int
 wa : Option Addr
 ws : List Int
 wc : Nat
 ta : Option Addr
 ks : List Tc
 tc : Nat
def Gr.v (G : Gr) : Value := .agg #[.int .i64 G.f, .int .i64 G.w, .slice G.wa G.ws.length G.wc, .slice G.ta G.ks.length G.tc]
def Gr.m (G : Gr) : M.Gv := (G.f, G.w, G.ws, tl G.ks)
def RdG (w : World) (G : Gr) : Prop := Rd w G.wa G.ws ∧ RdT w G.ta G.ks
theorem RdG.below {w w' : World} {G : Gr} (h : RdG w G) (hb : Below w.heap.size w w') : RdG w' G := ⟨h.1.below hb, h.2.below hb⟩
end Go.Proofs.YtelncekgjfpogahGreatDoor
namespace Go.Proofs.YtelncekgjfpogahGreatDoor
open Go.ChangeShapes Go.WideShapes Go.ChangeAt Go.RowKit Go.Lib
set_option linter.unusedVariables false
def M.fillK (l : List Int) (k : Nat) : List Int := l.take k ++ List.replicate (l.length - k) 0
theorem M.fillK_len (l : List Int) {k : Nat} (h : k ≤ l.length) : (M.fillK l k).length = l.length := by unfold M.fillK; simp; omega
theorem M.fillK_zero (l : List Int) : M.fillK l 0 = List.replicate l.length 0 := by unfold M.fillK; simp
theorem M.fillK_all (l : List Int) : M.fillK l l.length = l := by unfold M.fillK; simp
theorem M.fillK_set (l : List Int) {k : Nat} (h : k < l.length) : (M.fillK l k).set k (l.getD k 0) = M.fillK l (k + 1) := by
 apply List.ext_getElem?
 intro i
 rw [M.getD_at h]
 unfold M.fillK
 by_cases e : i = k
 · subst e
   rw [List.getElem?_set_self (by simp; omega), List.getElem?_append_left (by simp; omega), List.getElem?_take_of_lt (by omega), List.getElem?_eq_getElem h]
 · rw [List.getElem?_set_ne (fun c => e c.symm)]
   by_cases q : i < k
   · rw [List.getElem?_append_left (by simp; omega), List.getElem?_append_left (by simp; omega), List.getElem?_take_of_lt q, List.getElem?_take_of_lt (by omega)]
   · rw [List.getElem?_append_right (by simp; omega), List.getElem?_append_right (by simp; omega)]
     simp only [List.length_take, List.getElem?_replicate]
     rw [Nat.min_eq_left (by omega), Nat.min_eq_left (by omega)]
     by_cases q2 : i < l.length
     · rw [if_pos (by omega), if_pos (by omega)]
     · rw [if_neg (by omega), if_neg (by omega)]
theorem fillK_own {wr : World} {B g n : Nat} {F : List Int} {k : Nat} (hk : k < F.length)
 (hown : wr.ownsRow B 3 1 (.slice (some ⟨g, 0, none⟩) n n) n ((M.fillK F k).map (Value.int .i64))) :
 (wr.setCell ⟨g, k, none⟩ (.int .i64 (F.getD k 0))).ownsRow B 3 1 (.slice (some ⟨g, 0, none⟩) n n) n ((M.fillK F (k + 1)).map (Value.int .i64)) := by
 have := (hown.stored k (.int .i64 (F.getD k 0))).1
 rw [← M.fillK_set F hk, List.map_set]
 exact this
theorem fillK_cell {wr : World} {B g n : Nat} {F : List Int} {k : Nat} (hk : k < F.length) (hn : F.length = n)
 (hown : wr.ownsRow B 3 1 (.slice (some ⟨g, 0, none⟩) n n) n ((M.fillK F k).map (Value.int .i64))) : ∃ z, wr.cell? ⟨g, k, none⟩ = some (.int .i64 z) := by
 have hl : (M.fillK F k).length = n := by rw [M.fillK_len F (by omega), hn]
 exact ⟨_, own_at hown hl k (by omega)⟩
set_option maxHeartbeats 4000000 in
set_option maxRecDepth 10000 in
theorem bsq_any (a : Option Addr) (xs : List Int) (ca : Nat) (w : World) (h : Rd w a xs) (hl : xs.length ≤ 1000) :
 Calls Tryz.prog 66 #[.slice a xs.length ca] w fun e w' => e = .returned (.int .i64 (M.sqF xs)) ∧ Below w.heap.size w w' := by
 have HR := hide h
 obtain ⟨i0, hi, hz0, hz1, hz2⟩ := info_parts info3
 have I0 := hide hi
 have LL : Hid ((xs.map fun x => M.mulI x x).length = xs.length) := List.length_map ..
 have LA : Hid (∀ k, k < xs.length → (xs.map fun x => M.mulI x x).getD k 0 = M.mulI (xs.getD k 0) (xs.getD k 0)) := fun k hk => by
  rw [M.getD_at (by simpa using hk), List.getElem_map, M.getD_at hk]
 have E0 : Hid (M.sqF xs = M.totalI (xs.map fun x => M.mulI x x)) := rfl
 clear h hi
 rw [E0.out]
 generalize (xs.map fun x => M.mulI x x) = QS at *
 go_enter Tryz.func66, Tryz.ntmps66
 go_wp2_with (at_make; refine wpList_make_full _ rfl (.tmp 7) (.tmp 7) 23 rfl w.heap.size 3 i0 (.int .i64 0) 1 Tryz.underlying23 I0.out hz0 hz1 .i64 .i64 _ _ xs.length rfl rfl (by omega) (by omega) (by rw [hz2]; omega) (by unfold maxLen; omega) (Nat.le_refl _) ?_; intro w3 hown hgrow)
 rw [made] at hown
 have hb3 : Hid (Below w.heap.size w w3) := (Below.refl _ w).grown hgrow (Nat.le_refl _) (fun k hk => by cases hk)
 have HO : Hid (w3.ownsRow w.heap.size 3 1 (.slice (some ⟨w.heap.size, 0, none⟩) xs.length xs.length) xs.length ((M.fillK QS 0).map (Value.int .i64))) := by
  unfold Hid; rw [M.fillK_zero, LL.out]; exact hown
 clear hown hgrow I0 hz0 hz1 hz2
 go_loopw [11] (fun i wr => ∃ k : Nat, k ≤ xs.length ∧ i = .int .i64 k ∧ Hid (wr.ownsRow w.heap.size 3 1 (.slice (some ⟨w.heap.size, 0, none⟩) xs.length xs.length) xs.length ((M.fillK QS k).map (Value.int .i64))) ∧ Hid (Below w.heap.size w wr)) (fun i _ => xs.length - (intOf i).toNat)
 case atStart => exact ⟨0, Nat.zero_le _, rfl, HO, hb3⟩
 case round =>
  clear HO hb3
  obtain ⟨k, hk, rfl, HO, K⟩ := hrel
  by_cases hlt : k < xs.length
  · obtain ⟨b, off, rfl, hb, hc⟩ := (HR.out.below K.out).2 (by intro e; rw [e] at hlt; simp at hlt)
    have hx := hc k hlt
    have kz : (k : Int) < (xs.length : Int) := by omega
    have hkL : k < QS.length := by rw [LL.out]; exact hlt
    have RR := hide (fillK_own hkL HO.out)
    obtain ⟨zz, cc⟩ := fillK_cell hkL LL.out HO.out
    have fz := HO.out.frozenAt k
    rw [LA.out k hlt] at RR
    have MU := hide (xsq_any (xs.getD k 0))
    have KB : Hid (∀ v, Below w.heap.size w (wr.setCell ⟨w.heap.size, k, none⟩ v)) := fun v => K.out.setCell (p := ⟨w.heap.size, k, none⟩) (Nat.le_refl _) v
    clear hc HO LA
    generalize M.mulI (xs.getD k 0) (xs.getD k 0) = z at *
    generalize xs.getD k 0 = x at *
    go_wp2_with (go_at_call 97; refine (MU.out _).mono ?_; rintro e w1 ⟨rfl, e1⟩; have e2 := e1.symm; subst e2)
    go_roundw
    case rel => exact ⟨k + 1, by omega, by go_num, RR, KB.out _⟩
    case measure => simp [intOf]; omega
  · have ek : k = xs.length := by omega
    have kz : ¬ ((k : Int) < (xs.length : Int)) := by omega
    rw [show M.fillK QS k = QS by rw [ek, ← LL.out]; exact M.fillK_all QS] at HO
    have ho : wr.ownsRow w.heap.size 3 1 (.slice (some ⟨w.heap.size, 0, none⟩) QS.length QS.length) QS.length (QS.map (Value.int .i64)) := by rw [LL.out]; exact HO.out
    obtain ⟨pa, pc, hp1, hp2, _⟩ := own_rd ho
    cases hp1
    have T := xtotal_any (some ⟨w.heap.size, 0, none⟩) QS xs.length wr hp2
    rw [LL.out] at T
    have HT := hide T
    clear LA HO hp2 ek ho T
    go_wp2_with (go_at_call 85; refine HT.out.mono ?_; rintro e w1 ⟨rfl, e1⟩; have e2 := e1.symm; subst e2)
    go_ret
    exact ⟨rfl, K.out⟩
def tgs (xs : List Sx) : List Int := xs.map (·.2.2.2)
theorem tgs_len (xs : List Sx) : (tgs xs).length = xs.length := by simp [tgs]
theorem tgs_at (xs : List Sx) {k : Nat} (h : k < xs.length) : (tgs xs).getD k 0 = xs[k].2.2.2 := by
 rw [M.getD_at (by rw [tgs_len]; exact h)]; simp [tgs]
set_option maxHeartbeats 4000000 in
set_option maxRecDepth 10000 in
theorem btgt_any (a : Option Addr) (xs : List Sx) (ca : Nat) (w : World) (h : RdL w a xs) (hl : xs.length ≤ 1000) :
 Calls Tryz.prog 64 #[.slice a xs.length ca] w fun e w' => e = .returned (.slice (some ⟨w.heap.size, 0, none⟩) xs.length xs.length) ∧ Rd w' (some ⟨w.heap.size, 0, none⟩) (tgs xs) ∧ Below w.heap.size w w' := by
 have HR := hide h
 obtain ⟨i0, hi, hz0, hz1, hz2⟩ := info_parts info3
 have I0 := hide hi
 have LL : Hid ((tgs xs).length = xs.length) := tgs_len xs
 have LA : Hid (∀ k (hk : k < xs.length), (tgs xs).getD k 0 = xs[k].2.2.2) := fun k hk => tgs_at xs hk
 clear h hi
 generalize tgs xs = QS at *
 go_enter Tryz.func64, Tryz.ntmps64
 go_wp2_with (at_make; refine wpList_make_full _ rfl (.tmp 7) (.tmp 7) 23 rfl w.heap.size 3 i0 (.int .i64 0) 1 Tryz.underlying23 I0.out hz0 hz1 .i64 .i64 _ _ xs.length rfl rfl (by omega) (by omega) (by rw [hz2]; omega) (by unfold maxLen; omega) (Nat.le_refl _) ?_; intro w3 hown hgrow)
 rw [made] at hown
 have hb3 : Hid (Below w.heap.size w w3) := (Below.refl _ w).grown hgrow (Nat.le_refl _) (fun k hk => by cases hk)
 have HO : Hid (w3.ownsRow w.heap.size 3 1 (.slice (some ⟨w.heap.size, 0, none⟩) xs.length xs.length) xs.length ((M.fillK QS 0).map (Value.int .i64))) := by
  unfold Hid; rw [M.fillK_zero, LL.out]; exact hown
 clear hown hgrow I0 hz0 hz1 hz2
 go_loopw [11] (fun i wr => ∃ k : Nat, k ≤ xs.length ∧ i = .int .i64 k ∧ Hid (wr.ownsRow w.heap.size 3 1 (.slice (some ⟨w.heap.size, 0, none⟩) xs.length xs.length) xs.length ((M.fillK QS k).map (Value.int .i64))) ∧ Hid (Below w.heap.size w wr)) (fun i _ => xs.length - (intOf i).toNat)
 case atStart => exact ⟨0, Nat.zero_le _, rfl, HO, hb3⟩
 case round =>
  clear HO hb3
  obtain ⟨k, hk, rfl, HO, K⟩ := hrel
  by_cases hlt : k < xs.length
  · obtain ⟨b, off, rfl, hb, hc⟩ := (HR.out.below K.out).2.2 (by intro e; rw [e] at hlt; simp at hlt)
    obtain ⟨c0, c1⟩ := hc k hlt
    unfold sxV at c0
    have kz : (k : Int) < (xs.length : Int) := by omega
    have hkL : k < QS.length := by rw [LL.out]; exact hlt
    have UA : Below wr.heap.size wr wr := Below.refl _ wr
    have RR := hide (fun W (hW : Below wr.heap.size wr W) => fillK_own hkL (own_keep HO.out hW))
    have CC := hide (fun W (hW : Below wr.heap.size wr W) => fillK_cell hkL LL.out (own_keep HO.out hW))
    have FZ := hide (fun W (hW : Below wr.heap.size wr W) => (own_keep HO.out hW).frozenAt k)
    rw [LA.out k hlt] at RR
    have KB : Hid (∀ W v, Below wr.heap.size wr W → Below w.heap.size w (W.setCell ⟨w.heap.size, k, none⟩ v)) := fun W v hW => (below_on K.out hW).setCell (p := ⟨w.heap.size, k, none⟩) (Nat.le_refl _) v
    clear hc HO LA
    generalize xs[k].2.2.2 = t at *
    generalize xs[k].2.1.length = rl at *
    generalize xs[k].2.2.1 = rc at *
    generalize xs[k].1 = ra at *
    go_upto_region 5 with fail
    obtain ⟨w5, hw5⟩ : ∃ W, W = wr.alloc (.cells #[.slice ra rl rc, .int .i64 t] 70) := ⟨_, rfl⟩
    rw [← hw5]
    have B5 : Hid (Below wr.heap.size wr w5) := by unfold Hid; rw [hw5]; exact (Below.refl _ wr).alloc (Nat.le_refl _) _
    have y1 : w5.cell? ⟨wr.heap.size, 1, none⟩ = some (.int .i64 t) := (new_kept hw5 (Below.refl _ _)).1 1 _ rfl
    obtain ⟨zz, cc⟩ := CC.out w5 B5.out
    have fz := FZ.out w5 B5.out
    have R5 := hide (RR.out w5 B5.out)
    clear hw5 c0 c1 UA CC FZ RR
    go_wp2
    go_roundw
    case rel => exact ⟨k + 1, by omega, by go_num, R5, KB.out _ _ B5.out⟩
    case measure => simp [intOf]; omega
  · have ek : k = xs.length := by omega
    have kz : ¬ ((k : Int) < (xs.length : Int)) := by omega
    rw [show M.fillK QS k = QS by rw [ek, ← LL.out]; exact M.fillK_all QS] at HO
    have ho : wr.ownsRow w.heap.size 3 1 (.slice (some ⟨w.heap.size, 0, none⟩) QS.length QS.length) QS.length (QS.map (Value.int .i64)) := by rw [LL.out]; exact HO.out
    obtain ⟨pa, pc, hp1, hp2, _⟩ := own_rd ho
    cases hp1
    have HP := hide hp2
    clear LA HO hp2 ek ho
    go_wp2
    go_ret
    exact ⟨rfl, HP.out, K.out⟩
theorem fitto_t (n : Int) (w : World) :
 Calls Tryz.prog 67 #[.int .i64 n, .int .i64 1000] w fun e w' => e = .returned (.int .i64 (M.fitT n)) ∧ w' = w := by
 rcases (show 1000 < n ∨ n < -1000 ∨ (-1000 ≤ n ∧ n ≤ 1000) from by omega) with h | h | ⟨h1, h2⟩
 · have E : Hid (1000 = M.fitT n) := by unfold M.fitT; rw [if_pos h]; exact rfl
   go_enter Tryz.func67, Tryz.ntmps67
   go_wp2
   go_ret
   exact ⟨ret_int E.out, rfl⟩
 · have E : Hid (-1000 = M.fitT n) := by unfold M.fitT; rw [if_neg (by omega), if_pos h]; exact rfl
   go_enter Tryz.func67, Tryz.ntmps67
   go_wp2
   go_ret
   exact ⟨ret_int E.out, rfl⟩
 · have E : Hid (n = M.fitT n) := by unfold M.fitT; rw [if_neg (by omega), if_neg (by omega)]; exact rfl
   go_enter Tryz.func67, Tryz.ntmps67
   go_wp2
   go_ret
   exact ⟨ret_int E.out, rfl⟩
theorem fitto_in (n : Int) (w : World) (h1 : -1000000 ≤ n) (h2 : n ≤ 1000000) :
 Calls Tryz.prog 67 #[.int .i64 n, .int .i64 1000000] w fun e w' => e = .returned (.int .i64 n) ∧ w' = w := by
 go_enter Tryz.func67, Tryz.ntmps67
 go_wp2
 go_ret
 exact ⟨rfl, rfl⟩
set_option maxHeartbeats 4000000 in
set_option maxRecDepth 10000 in
theorem bleft_any (ta : Option Addr) (tn tc : Nat) (a ra : Option Addr) (xs : List Sx) (R V L : List Int) (ca rc : Nat) (w : World) (h : RdL w a xs) (hr : Rd w ra R) (hl : xs.length ≤ 1000) (hR : R.length = xs.length) (hL : L.length = xs.length)
 (hv : ∀ k, k < xs.length → L.getD k 0 = R.getD k 0 - V.getD k 0 ∧ -1000000 ≤ R.getD k 0 ∧ R.getD k 0 ≤ 1000000 ∧ -1000000 ≤ V.getD k 0 ∧ V.getD k 0 ≤ 1000000)
 (VC : ∀ k (hk : k < xs.length) W, Below w.heap.size w W → Calls Tryz.prog 23 #[.slice ta tn tc, .slice xs[k].1 xs[k].2.1.length xs[k].2.2.1] W fun e w' => e = .returned (.tuple #[.int .i64 (V.getD k 0), .nilIface]) ∧ Below W.heap.size W w') :
 Calls Tryz.prog 63 #[.slice ta tn tc, .slice a xs.length ca, .slice ra xs.length rc] w fun e w' => e = .returned (.tuple #[.slice (some ⟨w.heap.size, 0, none⟩) xs.length xs.length, .nilIface]) ∧ w'.ownsRow w.heap.size 3 1 (.slice (some ⟨w.heap.size, 0, none⟩) xs.length xs.length) xs.length (L.map (Value.int .i64)) ∧ Below w.heap.size w w' := by
 have HR := hide h
 have HQ := hide hr
 have HB := hide hv
 have VK := hide VC
 have RL := hide hR
 obtain ⟨i0, hi, hz0, hz1, hz2⟩ := info_parts info3
 have I0 := hide hi
 have LL := hide hL
 clear h hi hr hv VC hR hL
 go_enter Tryz.func63, Tryz.ntmps63
 go_wp2_with (at_make; refine wpList_make_full _ rfl (.tmp 14) (.tmp 14) 23 rfl w.heap.size 3 i0 (.int .i64 0) 1 Tryz.underlying23 I0.out hz0 hz1 .i64 .i64 _ _ xs.length rfl rfl (by omega) (by omega) (by rw [hz2]; omega) (by unfold maxLen; omega) (Nat.le_refl _) ?_; intro w3 hown hgrow)
 rw [made] at hown
 have hb3 : Hid (Below w.heap.size w w3) := (Below.refl _ w).grown hgrow (Nat.le_refl _) (fun k hk => by cases hk)
 have HO : Hid (w3.ownsRow w.heap.size 3 1 (.slice (some ⟨w.heap.size, 0, none⟩) xs.length xs.length) xs.length ((M.fillK L 0).map (Value.int .i64))) := by
  unfold Hid; rw [M.fillK_zero, LL.out]; exact hown
 clear hown hgrow I0 hz0 hz1 hz2
 go_loopw [18] (fun i wr => ∃ k : Nat, k ≤ xs.length ∧ i = .int .i64 k ∧ Hid (wr.ownsRow w.heap.size 3 1 (.slice (some ⟨w.heap.size, 0, none⟩) xs.length xs.length) xs.length ((M.fillK L k).map (Value.int .i64))) ∧ Hid (Below w.heap.size w wr)) (fun i _ => xs.length - (intOf i).toNat)
 case atStart => exact ⟨0, Nat.zero_le _, rfl, HO, hb3⟩
 case round =>
  clear HO hb3
  obtain ⟨k, hk, rfl, HO, K⟩ := hrel
  by_cases hlt : k < xs.length
  · obtain ⟨b, off, rfl, hb, hc⟩ := (HR.out.below K.out).2.2 (by intro e; rw [e] at hlt; simp at hlt)
    obtain ⟨c0, c1⟩ := hc k hlt
    obtain ⟨b2, off2, rfl, hb2, hc2⟩ := (HQ.out.below K.out).2 (by intro e; have := RL.out; rw [e] at this; simp at this; omega)
    have c2 := hc2 k (by rw [RL.out]; exact hlt)
    have C2 : Hid (∀ W, Below wr.heap.size wr W → W.cell? ⟨b2, off2 + k, none⟩ = some (.int .i64 (R.getD k 0))) := fun W hW => (hW.cell (p := ⟨b2, off2 + k, none⟩) hb2).trans c2
    unfold sxV at c0
    have kz : (k : Int) < (xs.length : Int) := by omega
    have hkL : k < L.length := by rw [LL.out]; exact hlt
    have RR := hide (fun W (hW : Below wr.heap.size wr W) => fillK_own hkL (own_keep HO.out hW))
    have CC := hide (fun W (hW : Below wr.heap.size wr W) => fillK_cell hkL LL.out (own_keep HO.out hW))
    have FZ := hide (fun W (hW : Below wr.heap.size wr W) => (own_keep HO.out hW).frozenAt k)
    obtain ⟨ee, v1, v2, v3, v4⟩ := HB.out k hlt
    rw [ee] at RR
    have KB : Hid (∀ W v, Below wr.heap.size wr W → Below w.heap.size w (W.setCell ⟨w.heap.size, k, none⟩ v)) := fun W v hW => (below_on K.out hW).setCell (p := ⟨w.heap.size, k, none⟩) (Nat.le_refl _) v
    have VV := hide (fun W (hW : Below wr.heap.size wr W) => VK.out k hlt W (below_on K.out hW))
    clear hc HO hc2 c2 ee hb2
    generalize xs[k].2.2.2 = t at *
    generalize xs[k].2.1.length = rl at *
    generalize xs[k].2.2.1 = rcc at *
    generalize xs[k].1 = raa at *
    generalize V.getD k 0 = z at *
    generalize R.getD k 0 = x at *
    go_upto_region 5 with fail
    obtain ⟨w5, hw5⟩ : ∃ W, W = wr.alloc (.cells #[.slice raa rl rcc, .int .i64 t] 70) := ⟨_, rfl⟩
    rw [← hw5]
    have B5 : Hid (Below wr.heap.size wr w5) := by unfold Hid; rw [hw5]; exact (Below.refl _ wr).alloc (Nat.le_refl _) _
    have y0 : w5.cell? ⟨wr.heap.size, 0, none⟩ = some (.slice raa rl rcc) := (new_kept hw5 (Below.refl _ _)).1 0 _ rfl
    have V5 := hide (VV.out w5 B5.out)
    clear hw5 c0 c1 VV
    go_wp2_with (go_at_call 23; refine V5.out.mono ?_; rintro e w6 ⟨rfl, hb6⟩; have B6 := hide (below_on B5.out hb6); obtain ⟨zz, cc⟩ := CC.out w6 B6.out; have fz := FZ.out w6 B6.out; have R6 := hide (RR.out w6 B6.out); have c6 := C2.out w6 B6.out; clear hb6)
    go_roundw
    case rel => exact ⟨k + 1, by omega, by go_num, R6, KB.out _ _ B6.out⟩
    case measure => simp [intOf]; omega
  · have ek : k = xs.length := by omega
    have kz : ¬ ((k : Int) < (xs.length : Int)) := by omega
    rw [show M.fillK L k = L by rw [ek, ← LL.out]; exact M.fillK_all L] at HO
    clear ek
    go_wp2
    go_ret2
    exact ⟨rfl, HO.out, K.out⟩
structure BS (w : World) (gb : Nat) (m : Int) (y : Value) (x : Value) (C : List Tc) (W : World) : Prop where
 c0 : W.cell? ⟨gb, 0, none⟩ = some (.int .i64 m)
 c1 : W.cell? ⟨gb, 1, none⟩ = some (.int .i64 2)
 c2 : W.cell? ⟨gb, 2, none⟩ = some y
 c3 : W.cell? ⟨gb, 3, none⟩ = some x
 fr : ∀ i, W.frozen? ⟨gb, i, none⟩ = false
 lt : gb < W.heap.size
 ge : w.heap.size ≤ gb
 own : W.ownsRow (gb + 1) 66 1 x C.length (C.map tV)
 trees : ∀ i (h : i < C.length), W.ownsRow (gb + 1) 86 6 (tV C[i]) C[i].2.1.length (ndCells C[i].2.1)
 other : ∀ i (h : i < C.length), (tV C[i]).ownBlock ≠ none ∧ (tV C[i]).ownBlock ≠ x.ownBlock
 apart : ∀ i j (hi : i < C.length) (hj : j < C.length), i ≠ j → (tV C[i]).ownBlock ≠ (tV C[j]).ownBlock
 below : Below w.heap.size w W
theorem own_ne_none {v : Value} {g : Nat} (h : v.ownBlock = some g) : v.ownBlock ≠ none := by rw [h]; exact fun e => by cases e
def NewG (W w' : World) (J : Gr) : Prop := ∀ W'' : World, w'.heap.size ≤ W''.heap.size → (∀ b o, W.heap.size ≤ b → W''.cell? ⟨b, o, none⟩ = w'.cell? ⟨b, o, none⟩) → RdG W'' J
theorem ndCells_setV : ∀ (ts : List M.Nd) (i : Nat), i < ts.length → ∀ v : Int, (ndCells ts).set (i * 6 + 5) (.int .i64 v) = ndCells (ts.set i (M.nf (M.nAt ts i), M.nc (M.nAt ts i), M.nl (M.nAt ts i), M.nr (M.nAt ts i), M.ns (M.nAt ts i), v))
 | [], i, h, v => by simp at h
 | n :: t, 0, h, v => rfl
 | n :: t, i + 1, h, v => by
   have ih := ndCells_setV t i (by simpa using h) v
   have e : M.nAt (n :: t) (i + 1) = M.nAt t i := by simp [M.nAt]
   rw [e, List.set_cons_succ, ndCells_cons, ndCells_cons, ← ih, show (i + 1) * 6 + 5 = (i * 6 + 5) + 1 + 1 + 1 + 1 + 1 + 1 by omega]
   simp only [List.set_cons_succ]
def scK (f : Int → Int) (ts : List M.Nd) (k : Nat) : List M.Nd := (ts.take k).map (M.scN f) ++ ts.drop k
theorem scK_len (f : Int → Int) (ts : List M.Nd) (k : Nat) : (scK f ts k).length = ts.length := by
 unfold scK; rw [List.length_append, List.length_map, List.length_take, List.length_drop]; omega
theorem scK_zero (f : Int → Int) (ts : List M.Nd) : scK f ts 0 = ts := by unfold scK; simp
theorem scK_all (f : Int → Int) (ts : List M.Nd) : scK f ts ts.length = ts.map (M.scN f) := by unfold scK; simp
theorem nAt_in (ts : List M.Nd) {k : Nat} (h : k < ts.length) : M.nAt ts k = ts[k] := by unfold M.nAt; rw [M.getD_at h]
theorem scK_at (f : Int → Int) (ts : List M.Nd) {k : Nat} (h : k < ts.length) : M.nAt (scK f ts k) k = M.nAt ts k := by
 rw [nAt_in _ (by rw [scK_len]; exact h), nAt_in _ h]
 unfold scK
 rw [List.getElem_append_right (by simp; omega)]
 simp [List.length_take, Nat.min_eq_left (Nat.le_of_lt h)]
theorem scK_next (f : Int → Int) (ts : List M.Nd) {k : Nat} (h : k < ts.length) : (scK f ts k).set k (M.scN f (M.nAt ts k)) = scK f ts (k + 1) := by
 unfold scK
 have l : ((ts.take k).map (M.scN f)).length = k := by rw [List.length_map, List.length_take]; omega
 rw [List.set_append_right _ _ (by omega), l, Nat.sub_self, List.drop_eq_getElem_cons h, List.set_cons_zero, List.take_succ_eq_append_getElem h, List.map_append, nAt_in _ h]
 simp
theorem scK_cells (f : Int → Int) (ts : List M.Nd) {k : Nat} (h : k < ts.length) : (ndCells (scK f ts k)).set (k * 6 + 5) (.int .i64 (f (M.nv (M.nAt ts k)))) = ndCells (scK f ts (k + 1)) := by
 rw [ndCells_setV _ k (by rw [scK_len]; exact h), scK_at f ts h]
 rw [← scK_next f ts h]
 rfl
structure Mix (f : Int → Int) (C D : List Tc) (i k : Nat) : Prop where
 len : D.length = C.length
 at' : ∀ j (h : j < C.length) (h' : j < D.length), D[j].1 = C[j].1 ∧ D[j].2.2 = C[j].2.2 ∧ D[j].2.1 = if j < i then C[j].2.1.map (M.scN f) else if j = i then scK f C[j].2.1 k else C[j].2.1
theorem Mix.start (f : Int → Int) (C : List Tc) : Mix f C C 0 0 := ⟨rfl, fun j h h' => ⟨rfl, rfl, by rw [if_neg (Nat.not_lt_zero _)]; split; rw [scK_zero]; rfl⟩⟩
theorem Mix.next {f : Int → Int} {C D : List Tc} {i k : Nat} (h : Mix f C D i k) (hi : i < C.length) (hk : k = C[i].2.1.length) : Mix f C D (i + 1) 0 := ⟨h.len, fun j hj hj' => by
 obtain ⟨a, b, c⟩ := h.at' j hj hj'
 refine ⟨a, b, ?_⟩
 rw [c]
 by_cases e : j < i
 · rw [if_pos e, if_pos (by omega)]
 · rw [if_neg e]
   by_cases e2 : j = i
   · subst e2; rw [if_pos rfl, if_pos (by omega), hk, scK_all]
   · rw [if_neg e2, if_neg (by omega)]
     split
     · rw [scK_zero]
     · rfl⟩
theorem Mix.tree {f : Int → Int} {C D : List Tc} {i k : Nat} (h : Mix f C D i k) (hi : i < C.length) (hd : i < D.length) : D[i].1 = C[i].1 ∧ D[i].2.2 = C[i].2.2 ∧ D[i].2.1 = scK f C[i].2.1 k := by
 obtain ⟨a, b, c⟩ := h.at' i hi hd
 exact ⟨a, b, by rw [c, if_neg (Nat.lt_irrefl _), if_pos rfl]⟩
theorem Mix.turn {f : Int → Int} {C D : List Tc} {i k : Nat} (h : Mix f C D i k) (hi : i < C.length) (hd : i < D.length) : Mix f C (D.set i (D[i].1, scK f C[i].2.1 (k + 1), D[i].2.2)) i (k + 1) := ⟨by rw [List.length_set]; exact h.len, fun j hj hj' => by
 rw [List.length_set] at hj'
 obtain ⟨a, b, c⟩ := h.at' j hj hj'
 by_cases e : i = j
 · subst e
   rw [List.getElem_set_self]
   exact ⟨a, b, by rw [if_neg (Nat.lt_irrefl _), if_pos rfl]⟩
 · rw [List.getElem_set_ne e]
   refine ⟨a, b, ?_⟩
   rw [c]
   by_cases q : j < i
   · rw [if_pos q, if_pos q]
   · rw [if_neg q, if_neg q, if_neg (fun z => e z.symm), if_neg (fun z => e z.symm)]⟩
theorem Mix.fin {f : Int → Int} {C D : List Tc} (h : Mix f C D C.length 0) : tl D = (tl C).map fun t => t.map (M.scN f) := by
 unfold tl
 refine List.ext_getElem (by simp [h.len]) fun j h1 h2 => ?_
 rw [List.length_map] at h1
 have hj : j < C.length := by rw [← h.len]; exact h1
 have := (h.at' j hj h1).2.2
 rw [if_pos hj] at this
 simp [this]
theorem keep_row {W : World} {base e size n q o : Nat} {v u : Value} {l : List Value} (h : W.ownsRow base e size v n l) (hq : v.ownBlock ≠ some q) : (W.setCell ⟨q, o, none⟩ u).ownsRow base e size v n l := h.kept grown_set (.inr hq)
structure BW (w : World) (gb : Nat) (m : Int) (y x : Value) (D : List Tc) (i : Nat) (W : World) : Prop where
 bs : BS w gb m y x D W
 wo : W.ownsRow (gb + 1) 3 1 y i ((List.replicate i (1 : Int)).map (Value.int .i64))
 wx : y.ownBlock = none ∨ y.ownBlock ≠ x.ownBlock
 wt : ∀ j (hj : j < D.length), y.ownBlock = none ∨ y.ownBlock ≠ (tV D[j]).ownBlock
theorem own_beyond {w W : World} {base e size n B : Nat} {v : Value} {l : List Value} (h : w.ownsRow base e size v n l) (hB : B ≤ base) (hs : w.heap.size ≤ W.heap.size) (hc : ∀ b o, B ≤ b → W.cell? ⟨b, o, none⟩ = w.cell? ⟨b, o, none⟩) : (v = .slice none 0 0 ∧ n = 0) ∨ ∃ g cap, v = .slice (some ⟨g, 0, none⟩) n cap ∧ g < W.heap.size ∧ ∀ i, i < n * size → W.cell? ⟨g, i, none⟩ = l[i]? := by
 rcases h.2 with h0 | ⟨g, cap, cur, hv, hb, hg, h1, h2, h3, h4⟩
 · exact .inl h0
 · refine .inr ⟨g, cap, hv, Nat.lt_of_lt_of_le (Array.getElem?_eq_some_iff.1 hg).1 hs, fun i hi => ?_⟩
   rw [hc g i (by omega)]
   subst hv
   exact h.cellAt i hi
theorem M.lay_in {B : Int} (hB : 0 ≤ B) : ∀ (T : M.BT) (k : Nat), M.inV B T → ∀ n ∈ M.lay T k, -B ≤ M.nv n ∧ M.nv n ≤ B
 | .lf v, k, h, n, hn => by
   have e : n = (-1, 0, 0, 0, false, v) := by
    have : n ∈ [((-1 : Int), (0 : Int), (0 : Int), (0 : Int), false, v)] := hn
    simpa using this
   subst e
   exact h
 | .nd f c s l r, k, h, n, hn => by
   have : n ∈ (f, c, ((k + 1 : Nat) : Int), ((k + 1 + l.size : Nat) : Int), s, (0 : Int)) :: (M.lay l (k + 1) ++ M.lay r (k + 1 + l.size)) := hn
   rcases List.mem_cons.1 this with e | e
   · subst e
     exact ⟨show -B ≤ 0 by omega, hB⟩
   · rcases List.mem_append.1 e with z | z
     · exact M.lay_in hB l _ h.1 n z
     · exact M.lay_in hB r _ h.2 n z
def LayC (C : List Tc) (L : List M.BT) : Prop := C.map (fun t => t.2.1) = L.map (fun T => M.lay T 0)
def GroOwnGives : Prop := ∀ (a : Option Addr) (xs : List Sx) (ca : Nat) (m depth least : Int) (W : World), RdL W a xs → M.grwF (sms xs) m depth least = 0 → Calls Tryz.prog 22 #[.slice a xs.length ca, .int .i64 m, .int .i64 depth, .int .i64 least] W fun e w' => ∃ g c, e = .returned (.tuple #[.slice (some ⟨g, 0, none⟩) (M.grwT (sms xs) m depth least).length c, .nilIface]) ∧ w'.ownsRow W.heap.size 86 6 (.slice (some ⟨g, 0, none⟩) (M.grwT (sms xs) m depth least).length c) (M.grwT (sms xs) m depth least).length (ndCells (M.grwT (sms xs) m depth least)) ∧ Below W.heap.size W w'
def lefX : List Sx → List Int → List Sx
 | x :: xs, r :: R => (x.1, x.2.1, x.2.2.1, M.fitT r) :: lefX xs R
 | _, _ => []
theorem lefX_len : ∀ (xs : List Sx) (R : List Int), R.length = xs.length → (lefX xs R).length = xs.length
 | [], [], _ => rfl
 | x :: xs, r :: R, h => by
   show (lefX xs R).length + 1 = xs.length + 1
   rw [lefX_len xs R (by simpa using h)]
 | [], _ :: _, h => by simp at h
 | _ :: _, [], h => by simp at h
theorem lefX_sms : ∀ (xs : List Sx) (R : List Int), sms (lefX xs R) = M.lesS (sms xs) R
 | [], R => by cases R <;> rfl
 | x :: xs, [] => rfl
 | x :: xs, r :: R => by
   show sm (x.1, x.2.1, x.2.2.1, M.fitT r) :: sms (lefX xs R) = ((sm x).1, M.fitT r) :: M.lesS (sms xs) R
   rw [lefX_sms xs R]
   rfl
theorem lefX_at : ∀ (xs : List Sx) (R : List Int), R.length = xs.length → ∀ k (hk : k < xs.length) (h' : k < (lefX xs R).length), (lefX xs R)[k] = (xs[k].1, xs[k].2.1, xs[k].2.2.1, M.fitT (R.getD k 0))
 | [], R, h, k, hk, _ => by simp at hk
 | x :: xs, [], h, k, hk, _ => by simp at h
 | x :: xs, r :: R, h, 0, hk, _ => rfl
 | x :: xs, r :: R, h, k + 1, hk, h' => by
   have := lefX_at xs R (by simpa using h) k (by simpa using hk) (by simpa [lefX] using h')
   simpa [lefX] using this
theorem saCells_setS : ∀ (ys : List Sx) (k : Nat), k < ys.length → ∀ v : Sx, ((saCells ys).set (k * 2) (sxV v)).set (k * 2 + 1) (.int .i64 v.2.2.2) = saCells (ys.set k v)
 | [], k, h, v => by simp at h
 | x :: t, 0, h, v => rfl
 | x :: t, k + 1, h, v => by
   have ih := saCells_setS t k (by simpa using h) v
   have e : saCells (x :: t) = sxV x :: .int .i64 x.2.2.2 :: saCells t := rfl
   rw [e, List.set_cons_succ, show saCells (x :: t.set k v) = sxV x :: .int .i64 x.2.2.2 :: saCells (t.set k v) from rfl, ← ih, show (k + 1) * 2 = k * 2 + 1 + 1 by omega]
   simp only [List.set_cons_succ]
def fillY (ys : List Sx) (k : Nat) : List Sx := ys.take k ++ List.replicate (ys.length - k) (none, [], 0, 0)
theorem fillY_len (ys : List Sx) {k : Nat} (h : k ≤ ys.length) : (fillY ys k).length = ys.length := by unfold fillY; simp; omega
theorem fillY_zero (ys : List Sx) : fillY ys 0 = List.replicate ys.length (none, [], 0, 0) := by unfold fillY; simp
theorem fillY_all (ys : List Sx) : fillY ys ys.length = ys := by unfold fillY; simp
theorem fillY_set (ys : List Sx) {k : Nat} (h : k < ys.length) : (fillY ys k).set k ys[k] = fillY ys (k + 1) := by
 apply List.ext_getElem?
 intro i
 unfold fillY
 by_cases e : i = k
 · subst e
   rw [List.getElem?_set_self (by simp; omega), List.getElem?_append_left (by simp; omega), List.getElem?_take_of_lt (by omega), List.getElem?_eq_getElem h]
 · rw [List.getElem?_set_ne (fun c => e c.symm)]
   by_cases q : i < k
   · rw [List.getElem?_append_left (by simp; omega), List.getElem?_append_left (by simp; omega), List.getElem?_take_of_lt q, List.getElem?_take_of_lt (by omega)]
   · rw [List.getElem?_append_right (by simp; omega), List.getElem?_append_right (by simp; omega)]
     simp only [List.length_take, List.getElem?_replicate]
     rw [Nat.min_eq_left (by omega), Nat.min_eq_left (by omega)]
     by_cases q2 : i < ys.length
     · rw [if_pos (by omega), if_pos (by omega)]
     · rw [if_neg (by omega), if_neg (by omega)]
theorem madeSa (n : Nat) : (madeCells (Value.cells (.agg #[.slice none 0 0, .int .i64 0])) (n * 2)).toList = saCells (List.replicate n (none, [], 0, 0)) := by
 rw [show Value.cells (.agg #[.slice none 0 0, .int .i64 0]) = #[.slice none 0 0, .int .i64 0] by simp [Value.cells]]
 unfold madeCells
 induction n with
 | zero => simp [saCells]
 | succ k ih =>
   have e : (Array.range ((k + 1) * 2)).toList = (Array.range (k * 2)).toList ++ [k * 2, k * 2 + 1] := by
    rw [Array.toList_range, Array.toList_range, show (k + 1) * 2 = k * 2 + 1 + 1 by omega, List.range_succ, List.range_succ]
    simp
   rw [Array.toList_map] at ih ⊢
   rw [e, List.map_append, ih, List.replicate_succ', saCells_snoc]
   congr 1
   have a0 : k * 2 % 2 = 0 := by omega
   have a1 : (k * 2 + 1) % 2 = 1 := by omega
   simp [a0, a1, sxV]
theorem saCells_len (ys : List Sx) : (saCells ys).length = ys.length * 2 := by
 induction ys with
 | nil => rfl
 | cons x t ih => rw [show saCells (x :: t) = sxV x :: .int .i64 x.2.2.2 :: saCells t from rfl]; simp only [List.length_cons, ih]; omega
theorem M.boT_lay (m dp : Nat) (s : Int) (l : List M.Sa) (R : List Int) : M.lay (M.boT m dp s l R) 0 = (M.lay (M.growT m 1 dp (M.lesS l R)) 0).map (M.scN (M.shrV s)) := by
 unfold M.boT; exact M.sc_lay (M.shr_zero s) _ 0
theorem M.sh_in {s : Int} (h1 : 1 ≤ s) (h2 : s ≤ 100) {v : Int} (a : -1000 ≤ v) (b : v ≤ 1000) : -100000 ≤ v * s ∧ v * s ≤ 100000 := by
 have e1 : v * s ≤ 1000 * s := Int.mul_le_mul_of_nonneg_right b (by omega)
 have e2 : -1000 * s ≤ v * s := Int.mul_le_mul_of_nonneg_right a (by omega)
 omega
set_option maxHeartbeats 8000000 in
set_option maxRecDepth 10000 in
theorem btree_any (GO : GroOwnGives) (a ra : Option Addr) (xs : List Sx) (R : List Int) (ca rc mn dn : Nat) (s : Int) (w : World) (h : RdL w a xs) (hr : Rd w ra R) (h0 : 0 < xs.length) (hR : R.length = xs.length) (G : M.GoodS (sms xs) mn) (hS : M.grwF (M.lesS (sms xs) R) (mn : Int) (dn : Int) 1 = 0) (hs1 : 1 ≤ s) (hs2 : s ≤ 100) (hd : dn ≤ 4) :
 Calls Tryz.prog 65 #[.slice a xs.length ca, .slice ra xs.length rc, .int .i64 (mn : Int), .int .i64 (dn : Int), .int .i64 s] w fun e w' => ∃ g c, e = .returned (.tuple #[.slice (some ⟨g, 0, none⟩) (M.boT mn dn s (sms xs) R).size c, .nilIface]) ∧ w'.ownsRow w.heap.size 86 6 (.slice (some ⟨g, 0, none⟩) (M.boT mn dn s (sms xs) R).size c) (M.boT mn dn s (sms xs) R).size (ndCells (M.lay (M.boT mn dn s (sms xs) R) 0)) ∧ Below w.heap.size w w' := by
 have l60 : xs.length ≤ 60 := by have := G.le; rw [sms_len] at this; exact this
 have YL : (lefX xs R).length = xs.length := lefX_len xs R hR
 have YS : sms (lefX xs R) = M.lesS (sms xs) R := lefX_sms xs R
 have YA : Hid (∀ k (hk : k < xs.length) (h' : k < (lefX xs R).length), (lefX xs R)[k] = (xs[k].1, xs[k].2.1, xs[k].2.2.1, M.fitT (R.getD k 0))) := fun k hk h' => lefX_at xs R hR k hk h'
 have Y1 : Hid (∀ W, Below w.heap.size w W → ∀ y ∈ lefX xs R, Rd W y.1 y.2.1) := fun W hW y hy => by
  obtain ⟨k, hk, rfl⟩ := List.getElem_of_mem hy
  have hk' : k < xs.length := by rw [← YL]; exact hk
  rw [lefX_at xs R hR k hk' hk]
  exact (h.2.1 _ (List.getElem_mem hk')).below hW
 have rl : R.length = (sms xs).length := by rw [sms_len]; exact hR
 have G2 := M.les_good G rl
 have ll : 0 < (M.lesS (sms xs) R).length := by rw [M.les_len _ _ rl, sms_len]; exact h0
 have gi := M.grow_in (m := mn) (least := 1) (Int.le_refl _) dn G2 ll
 have ET : M.grwT (M.lesS (sms xs) R) (mn : Int) (dn : Int) 1 = M.lay (M.growT mn 1 dn (M.lesS (sms xs) R)) 0 := by
  unfold M.grwT; rw [if_pos hS, Int.toNat_natCast, Int.toNat_natCast]
 have GF : Hid (∀ W ya yc, RdL W ya (lefX xs R) → Calls Tryz.prog 22 #[.slice ya xs.length yc, .int .i64 (mn : Int), .int .i64 (dn : Int), .int .i64 1] W fun e w' => ∃ g c, e = .returned (.tuple #[.slice (some ⟨g, 0, none⟩) (M.lay (M.growT mn 1 dn (M.lesS (sms xs) R)) 0).length c, .nilIface]) ∧ w'.ownsRow W.heap.size 86 6 (.slice (some ⟨g, 0, none⟩) (M.lay (M.growT mn 1 dn (M.lesS (sms xs) R)) 0).length c) (M.lay (M.growT mn 1 dn (M.lesS (sms xs) R)) 0).length (ndCells (M.lay (M.growT mn 1 dn (M.lesS (sms xs) R)) 0)) ∧ Below W.heap.size W w') := fun W ya yc hy => by
  have := GO ya (lefX xs R) yc (mn : Int) (dn : Int) 1 W hy (by rw [YS]; exact hS)
  rw [YS, ET, YL] at this
  exact this
 have VB : Hid (∀ k, k < (M.lay (M.growT mn 1 dn (M.lesS (sms xs) R)) 0).length → -1000 ≤ M.nv (M.nAt (M.lay (M.growT mn 1 dn (M.lesS (sms xs) R)) 0) k) ∧ M.nv (M.nAt (M.lay (M.growT mn 1 dn (M.lesS (sms xs) R)) 0) k) ≤ 1000) := fun k hk => by
  rw [nAt_in _ hk]
  exact M.lay_in (by decide) _ 0 gi _ (List.getElem_mem hk)
 have EL : Hid (M.lay (M.boT mn dn s (sms xs) R) 0 = (M.lay (M.growT mn 1 dn (M.lesS (sms xs) R)) 0).map (M.scN (M.shrV s))) := M.boT_lay ..
 have ES : Hid ((M.boT mn dn s (sms xs) R).size = (M.lay (M.growT mn 1 dn (M.lesS (sms xs) R)) 0).length) := by unfold Hid M.boT; rw [M.sc_size, M.lay_len]
 have g2 := (M.grow_deep mn 1 dn (M.lesS (sms xs) R)).2
 have p2 : 2 ^ (dn + 1) ≤ 2 ^ 5 := Nat.pow_le_pow_right (by decide) (by omega)
 have T6 : (M.lay (M.growT mn 1 dn (M.lesS (sms xs) R)) 0).length ≤ 63 := by rw [M.lay_len]; omega
 have HR := hide h
 have HQ := hide hr
 have RL := hide hR
 have LL := hide YL
 obtain ⟨i0, hi, hz0, hz1, hz2⟩ := info_parts infoSam
 have I0 := hide hi
 rw [EL.out, ES.out]
 clear h hr hR YL YS G rl G2 ll gi ET hi g2 p2 hS GO EL ES
 generalize M.lay (M.growT mn 1 dn (M.lesS (sms xs) R)) 0 = TL at *
 generalize lefX xs R = YY at *
 go_enter Tryz.func65, Tryz.ntmps65
 go_wp2_with (at_make; refine wpList_make_full _ rfl (.tmp 19) (.tmp 19) 22 rfl w.heap.size 70 i0 (.agg #[.slice none 0 0, .int .i64 0]) 2 Tryz.underlying22 I0.out hz0 hz1 .i64 .i64 _ _ xs.length rfl rfl (by omega) (by omega) (by rw [hz2]; omega) (by unfold maxLen; omega) (Nat.le_refl _) ?_; intro w3 hown hgrow)
 rw [madeSa] at hown
 have hb3 : Hid (Below w.heap.size w w3) := (Below.refl _ w).grown hgrow (Nat.le_refl _) (fun k hk => by cases hk)
 have HO : Hid (w3.ownsRow w.heap.size 70 2 (.slice (some ⟨w.heap.size, 0, none⟩) xs.length xs.length) xs.length (saCells (fillY YY 0))) := by
  unfold Hid; rw [fillY_zero, LL.out]; exact hown
 clear hown hgrow I0 hz0 hz1 hz2
 go_loopw [23] (fun i wr => ∃ k : Nat, k ≤ xs.length ∧ i = .int .i64 k ∧ Hid (wr.ownsRow w.heap.size 70 2 (.slice (some ⟨w.heap.size, 0, none⟩) xs.length xs.length) xs.length (saCells (fillY YY k))) ∧ Hid (Below w.heap.size w wr)) (fun i _ => xs.length - (intOf i).toNat)
 case atStart => exact ⟨0, Nat.zero_le _, rfl, HO, hb3⟩
 case round =>
  clear HO hb3
  obtain ⟨k, hk, rfl, HO, K⟩ := hrel
  by_cases hlt : k < xs.length
  · obtain ⟨b, off, rfl, hb, hc⟩ := (HR.out.below K.out).2.2 (by intro e; rw [e] at hlt; simp at hlt)
    obtain ⟨c0, c1⟩ := hc k hlt
    obtain ⟨b2, off2, rfl, hb2, hc2⟩ := (HQ.out.below K.out).2 (by intro e; have := RL.out; rw [e] at this; simp at this; omega)
    have c2 := hc2 k (by rw [RL.out]; exact hlt)
    unfold sxV at c0
    have kz : (k : Int) < (xs.length : Int) := by omega
    have hkL : k < YY.length := by rw [LL.out]; exact hlt
    have hkF : k < (fillY YY k).length := by rw [fillY_len YY (by omega)]; exact hkL
    have RR : Hid (∀ W, Below wr.heap.size wr W → ((W.setCell ⟨w.heap.size, k * 2, none⟩ (.slice xs[k].1 xs[k].2.1.length xs[k].2.2.1)).setCell ⟨w.heap.size, k * 2 + 1, none⟩ (.int .i64 (M.fitT (R.getD k 0)))).ownsRow w.heap.size 70 2 (.slice (some ⟨w.heap.size, 0, none⟩) xs.length xs.length) xs.length (saCells (fillY YY (k + 1)))) := fun W hW => by
     have r1 := (((own_up HO.out hW).stored (k * 2) (sxV YY[k])).1.stored (k * 2 + 1) (.int .i64 YY[k].2.2.2)).1
     rw [saCells_setS _ k hkF, fillY_set YY hkL, YA.out k hlt hkL] at r1
     exact r1
    have sl := saCells_len (fillY YY k)
    rw [fillY_len YY (by omega), LL.out] at sl
    obtain ⟨q0, q1⟩ := saCells_at (fillY YY k) k hkF
    have g0 := (HO.out.cellAt (k * 2) (by omega)).trans q0
    have g1 := (HO.out.cellAt (k * 2 + 1) (by omega)).trans q1
    unfold sxV at g0
    have z0 := HO.out.frozenAt (k * 2)
    have z1 := HO.out.frozenAt (k * 2 + 1)
    have FT := hide (fitto_t (R.getD k 0))
    have lg : w.heap.size < wr.heap.size := block_lt_of_cell g0
    clear hc HO hc2 sl q0 q1 VB GF Y1 HQ HR RL YA
    generalize (fillY YY k)[k].2.2.2 = u0 at *
    generalize (fillY YY k)[k].2.1.length = u1 at *
    generalize (fillY YY k)[k].2.2.1 = u2 at *
    generalize (fillY YY k)[k].1 = u3 at *
    generalize xs[k].2.2.2 = t at *
    generalize xs[k].2.1.length = rl at *
    generalize xs[k].2.2.1 = rcc at *
    generalize xs[k].1 = raa at *
    generalize M.fitT (R.getD k 0) = z at *
    generalize R.getD k 0 = x at *
    go_upto_region 5 with fail
    obtain ⟨w5, hw5⟩ : ∃ W, W = wr.alloc (.cells #[.slice raa rl rcc, .int .i64 t] 70) := ⟨_, rfl⟩
    rw [← hw5]
    have B5 : Below wr.heap.size wr w5 := by rw [hw5]; exact (Below.refl _ wr).alloc (Nat.le_refl _) _
    have y0 : w5.cell? ⟨wr.heap.size, 0, none⟩ = some (.slice raa rl rcc) := (new_kept hw5 (Below.refl _ _)).1 0 _ rfl
    have y2 := (B5.cell (p := ⟨b2, off2 + k, none⟩) hb2).trans c2
    have y3 := (B5.cell (p := ⟨w.heap.size, k * 2, none⟩) lg).trans g0
    have y4 := (B5.cell (p := ⟨w.heap.size, k * 2 + 1, none⟩) lg).trans g1
    have y5 := (B5.frozen (p := ⟨w.heap.size, k * 2, none⟩) lg).trans z0
    have y6 := (B5.frozen (p := ⟨w.heap.size, k * 2 + 1, none⟩) lg).trans z1
    have R5 := RR.out w5 B5
    have R6 : Hid ((((w5.setCell ⟨w.heap.size, k * 2, none⟩ (.slice raa rl rcc)).setCell ⟨w.heap.size, k * 2 + 1, none⟩ (.int .i64 z)).drew).ownsRow w.heap.size 70 2 (.slice (some ⟨w.heap.size, 0, none⟩) xs.length xs.length) xs.length (saCells (fillY YY (k + 1)))) := R5.drew
    have K6 : Hid (Below w.heap.size w (((w5.setCell ⟨w.heap.size, k * 2, none⟩ (.slice raa rl rcc)).setCell ⟨w.heap.size, k * 2 + 1, none⟩ (.int .i64 z)).drew)) :=
     (((below_on K.out B5).setCell (p := ⟨w.heap.size, k * 2, none⟩) (Nat.le_refl _) _).setCell (p := ⟨w.heap.size, k * 2 + 1, none⟩) (Nat.le_refl _) _).drew
    clear R5 RR hw5 c0 c1 c2 g0 g1 z0 z1 B5
    go_region_with (go_at_call 67; refine (FT.out _).mono ?_; rintro e w6 ⟨rfl, e6⟩; have e7 := e6.symm; subst e7)
    all_goals (
     go_wp2
     go_roundw
     case rel => exact ⟨k + 1, by omega, by go_num, R6, K6⟩
     case measure => simp [intOf]; omega)
  · have ek : k = xs.length := by omega
    have kz : ¬ ((k : Int) < (xs.length : Int)) := by omega
    rw [show fillY YY k = YY by rw [ek, ← LL.out]; exact fillY_all YY] at HO
    obtain ⟨pa, pc, hp1, hp2⟩ := own_rdL LL.out (by unfold maxLen; omega) HO.out (Y1.out wr K.out)
    cases hp1
    have F1 := hide (GF.out wr _ xs.length hp2)
    clear HO hp2 ek GF Y1 HR HQ YA
    go_wp2_with (go_at_call 22; refine F1.out.mono ?_; rintro e w6 ⟨g, c, rfl, ho6, hb6⟩; have O6 := hide ho6; have K6 := hide (below_on K.out hb6); have s6 := hb6.size; clear hb6; have l6 : Hid (w.heap.size ≤ wr.heap.size) := K.out.size; have E6 : Hid (ndCells TL = ndCells (scK (M.shrV s) TL 0)) := (by unfold Hid; rw [scK_zero]); clear ho6)
    have O7 : Hid (w6.ownsRow w.heap.size 86 6 (.slice (some ⟨g, 0, none⟩) TL.length c) TL.length (ndCells (scK (M.shrV s) TL 0))) := by
     unfold Hid; rw [← E6.out]; exact own_low l6.out O6.out
    have gp : Hid (w.heap.size ≤ g) := (O7.out.lt g rfl).1
    clear O6 E6 l6 K F1 s6
    go_loopw [52] (fun i wr => ∃ k : Nat, k ≤ TL.length ∧ i = .int .i64 k ∧ Hid (wr.ownsRow w.heap.size 86 6 (.slice (some ⟨g, 0, none⟩) TL.length c) TL.length (ndCells (scK (M.shrV s) TL k))) ∧ Hid (Below w.heap.size w wr)) (fun i _ => TL.length - (intOf i).toNat)
    case atStart => exact ⟨0, Nat.zero_le _, rfl, O7, K6⟩
    case round =>
     clear O7 K6
     obtain ⟨j, hj, rfl, HO, K⟩ := hrel
     by_cases hjt : j < TL.length
     · have jz : (j : Int) < (TL.length : Int) := by omega
       obtain ⟨v1, v2⟩ := VB.out j hjt
       obtain ⟨p1, p2⟩ := M.sh_in hs1 hs2 v1 v2
       have r1 := (HO.out.stored (j * 6 + 5) (.int .i64 (M.shrV s (M.nv (M.nAt TL j))))).1
       rw [scK_cells (M.shrV s) TL hjt] at r1
       have RR := hide r1
       have RK : Hid (Below w.heap.size w (wr.setCell ⟨g, j * 6 + 5, none⟩ (.int .i64 (M.shrV s (M.nv (M.nAt TL j)))))) := K.out.setCell (p := ⟨g, j * 6 + 5, none⟩) gp.out _
       have sl := ndCells_len (scK (M.shrV s) TL j)
       rw [scK_len] at sl
       have q := (ndCells_at (scK (M.shrV s) TL j) j (by rw [scK_len]; exact hjt)).2.2.2.2.2
       rw [scK_at (M.shrV s) TL hjt] at q
       have g0 := (HO.out.cellAt (j * 6 + 5) (by omega)).trans q
       have z0 := HO.out.frozenAt (j * 6 + 5)
       unfold M.shrV at RR RK
       clear r1 HO K sl q VB
       generalize M.nv (M.nAt TL j) = v at *
       go_wp2
       go_roundw
       case rel => exact ⟨j + 1, by omega, by go_num, RR, RK⟩
       case measure => simp [intOf]; omega
     · have ej : j = TL.length := by omega
       have jz : ¬ ((j : Int) < (TL.length : Int)) := by omega
       rw [show scK (M.shrV s) TL j = TL.map (M.scN (M.shrV s)) by rw [ej]; exact scK_all _ _] at HO
       clear ej VB
       go_wp2
       go_ret2
       exact ⟨g, c, rfl, HO.out, K.out⟩
end Go.Proofs.YtelncekgjfpogahGreatDoor
