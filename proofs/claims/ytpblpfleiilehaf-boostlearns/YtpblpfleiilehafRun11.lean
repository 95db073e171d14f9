/-
  Several texts as one: NewKept, BooSq, MathBd, BooLeft, NdCells, Grown.
-/
import Derived.Test.YtpblpfleiilehafRun0
import Derived.Test.YtpblpfleiilehafRun10
import Derived.Test.YtpblpfleiilehafRun9
import Derived.Test.YtpblpfleiilehafRun7
import Derived.Deep.Cut
import Derived.OwnWalk
import Derived.BigQuiet
import Derived.Deep.QuietTactic
import Derived.Test.YtpblpfleiilehafRun3
import Derived.Deep.AppendLies
namespace Go.Proofs.Ytpblpfleiilehaf
open Go.ChangeShapes Go.WideShapes Go.ChangeAt Go.RowKit Go.Lib
set_option linter.unusedVariables false

theorem set2 {W : World} {p : Nat} {x0 x1 y0 y1 : Value} (h0 : W.cell? ⟨p, 0, none⟩ = some y0) (h1 : W.cell? ⟨p, 1, none⟩ = some y1) :
    (W.setCell ⟨p, 0, none⟩ x0).cell? ⟨p, 0, none⟩ = some x0 ∧ ((W.setCell ⟨p, 0, none⟩ x0).setCell ⟨p, 1, none⟩ x1).cell? ⟨p, 1, none⟩ = some x1 := by
  refine ⟨World.cell?_setCell_same _ _ _ h0, World.cell?_setCell_same (u := y1) _ _ _ ?_⟩
  rw [World.cell?_setCell_other _ _ _ _ (by intro e; cases e)]; exact h1
theorem below2 {w W : World} {p : Nat} {x0 x1 : Value} (h : Below w.heap.size w W) (hp : w.heap.size ≤ p) : Below w.heap.size w ((W.setCell ⟨p, 0, none⟩ x0).setCell ⟨p, 1, none⟩ x1) :=
  (h.setCell (p := ⟨p, 0, none⟩) hp _).setCell (p := ⟨p, 1, none⟩) hp _
theorem frozen_new2 (V : World) (cs : Array Value) (t : TypeId) (j : Nat) : (V.alloc (.cells cs t)).frozen? ⟨V.heap.size, j, none⟩ = false := by
  unfold World.frozen?
  rw [show (V.alloc (.cells cs t)).heap[V.heap.size]? = some (.cells cs t) from (MapKept.heap_alloc V _).1]
  simp
theorem put4 {W : World} {p : Nat} {x0 x1 x2 x3 y0 y1 y2 y3 : Value} (h0 : W.cell? ⟨p, 0, none⟩ = some y0) (h1 : W.cell? ⟨p, 1, none⟩ = some y1) (h2 : W.cell? ⟨p, 2, none⟩ = some y2) (h3 : W.cell? ⟨p, 3, none⟩ = some y3) :
    (W.setCell ⟨p, 0, none⟩ x0).cell? ⟨p, 0, none⟩ = some x0 ∧ ((W.setCell ⟨p, 0, none⟩ x0).setCell ⟨p, 1, none⟩ x1).cell? ⟨p, 1, none⟩ = some x1 ∧
    (((W.setCell ⟨p, 0, none⟩ x0).setCell ⟨p, 1, none⟩ x1).setCell ⟨p, 2, none⟩ x2).cell? ⟨p, 2, none⟩ = some x2 ∧
    ((((W.setCell ⟨p, 0, none⟩ x0).setCell ⟨p, 1, none⟩ x1).setCell ⟨p, 2, none⟩ x2).setCell ⟨p, 3, none⟩ x3).cell? ⟨p, 3, none⟩ = some x3 := by
  have o : ∀ (V : World) (i j : Nat) (v : Value), i ≠ j → (V.setCell ⟨p, i, none⟩ v).cell? ⟨p, j, none⟩ = V.cell? ⟨p, j, none⟩ := fun V i j v hij => World.cell?_setCell_other _ _ _ _ (by intro e; cases e; exact hij rfl)
  refine ⟨World.cell?_setCell_same _ _ _ h0, World.cell?_setCell_same (u := y1) _ _ _ ?_, World.cell?_setCell_same (u := y2) _ _ _ ?_, World.cell?_setCell_same (u := y3) _ _ _ ?_⟩
  · rw [o _ _ _ _ (by decide)]; exact h1
  · rw [o _ _ _ _ (by decide), o _ _ _ _ (by decide)]; exact h2
  · rw [o _ _ _ _ (by decide), o _ _ _ _ (by decide), o _ _ _ _ (by decide)]; exact h3
theorem lay4 {w W : World} {p : Nat} {x0 x1 x2 x3 : Value} (h : Below w.heap.size w W) (hp : w.heap.size ≤ p) : Below w.heap.size w ((((W.setCell ⟨p, 0, none⟩ x0).setCell ⟨p, 1, none⟩ x1).setCell ⟨p, 2, none⟩ x2).setCell ⟨p, 3, none⟩ x3) :=
  (((h.setCell (p := ⟨p, 0, none⟩) hp _).setCell (p := ⟨p, 1, none⟩) hp _).setCell (p := ⟨p, 2, none⟩) hp _).setCell (p := ⟨p, 3, none⟩) hp _
theorem set6 {W : World} {p : Nat} {x0 x1 x2 x3 x4 x5 y0 y1 y2 y3 y4 y5 : Value} (h0 : W.cell? ⟨p, 0, none⟩ = some y0) (h1 : W.cell? ⟨p, 1, none⟩ = some y1) (h2 : W.cell? ⟨p, 2, none⟩ = some y2) (h3 : W.cell? ⟨p, 3, none⟩ = some y3) (h4 : W.cell? ⟨p, 4, none⟩ = some y4) (h5 : W.cell? ⟨p, 5, none⟩ = some y5) :
    (W.setCell ⟨p, 0, none⟩ x0).cell? ⟨p, 0, none⟩ = some x0 ∧ ((W.setCell ⟨p, 0, none⟩ x0).setCell ⟨p, 1, none⟩ x1).cell? ⟨p, 1, none⟩ = some x1 ∧
    (((W.setCell ⟨p, 0, none⟩ x0).setCell ⟨p, 1, none⟩ x1).setCell ⟨p, 2, none⟩ x2).cell? ⟨p, 2, none⟩ = some x2 ∧
    ((((W.setCell ⟨p, 0, none⟩ x0).setCell ⟨p, 1, none⟩ x1).setCell ⟨p, 2, none⟩ x2).setCell ⟨p, 3, none⟩ x3).cell? ⟨p, 3, none⟩ = some x3 ∧
    (((((W.setCell ⟨p, 0, none⟩ x0).setCell ⟨p, 1, none⟩ x1).setCell ⟨p, 2, none⟩ x2).setCell ⟨p, 3, none⟩ x3).setCell ⟨p, 4, none⟩ x4).cell? ⟨p, 4, none⟩ = some x4 ∧
    ((((((W.setCell ⟨p, 0, none⟩ x0).setCell ⟨p, 1, none⟩ x1).setCell ⟨p, 2, none⟩ x2).setCell ⟨p, 3, none⟩ x3).setCell ⟨p, 4, none⟩ x4).setCell ⟨p, 5, none⟩ x5).cell? ⟨p, 5, none⟩ = some x5 := by
  have o : ∀ (V : World) (i j : Nat) (v : Value), i ≠ j → (V.setCell ⟨p, i, none⟩ v).cell? ⟨p, j, none⟩ = V.cell? ⟨p, j, none⟩ := fun V i j v hij => World.cell?_setCell_other _ _ _ _ (by intro e; cases e; exact hij rfl)
  refine ⟨World.cell?_setCell_same _ _ _ h0, World.cell?_setCell_same (u := y1) _ _ _ ?_, World.cell?_setCell_same (u := y2) _ _ _ ?_, World.cell?_setCell_same (u := y3) _ _ _ ?_, World.cell?_setCell_same (u := y4) _ _ _ ?_, World.cell?_setCell_same (u := y5) _ _ _ ?_⟩
  · rw [o _ _ _ _ (by decide)]; exact h1
  · rw [o _ _ _ _ (by decide), o _ _ _ _ (by decide)]; exact h2
  · rw [o _ _ _ _ (by decide), o _ _ _ _ (by decide), o _ _ _ _ (by decide)]; exact h3
  · rw [o _ _ _ _ (by decide), o _ _ _ _ (by decide), o _ _ _ _ (by decide), o _ _ _ _ (by decide)]; exact h4
  · rw [o _ _ _ _ (by decide), o _ _ _ _ (by decide), o _ _ _ _ (by decide), o _ _ _ _ (by decide), o _ _ _ _ (by decide)]; exact h5
theorem below6 {w W : World} {p : Nat} {x0 x1 x2 x3 x4 x5 : Value} (h : Below w.heap.size w W) (hp : w.heap.size ≤ p) : Below w.heap.size w ((((((W.setCell ⟨p, 0, none⟩ x0).setCell ⟨p, 1, none⟩ x1).setCell ⟨p, 2, none⟩ x2).setCell ⟨p, 3, none⟩ x3).setCell ⟨p, 4, none⟩ x4).setCell ⟨p, 5, none⟩ x5) :=
  (((((h.setCell (p := ⟨p, 0, none⟩) hp _).setCell (p := ⟨p, 1, none⟩) hp _).setCell (p := ⟨p, 2, none⟩) hp _).setCell (p := ⟨p, 3, none⟩) hp _).setCell (p := ⟨p, 4, none⟩) hp _).setCell (p := ⟨p, 5, none⟩) hp _
/-- a new block, and what lies there as long as all is as it was -/
theorem new_kept {w w1 : World} {cs : Array Value} {t : TypeId} (e : w1 = w.alloc (.cells cs t)) {W : World} (hW : Below w1.heap.size w1 W) : (∀ j v, cs[j]? = some v → W.cell? ⟨w.heap.size, j, none⟩ = some v) ∧ ∀ j, W.frozen? ⟨w.heap.size, j, none⟩ = false := by
  have lt : w.heap.size < w1.heap.size := by rw [e]; simp
  refine ⟨fun j v hv => (hW.cell (p := ⟨w.heap.size, j, none⟩) lt).trans (by rw [e, World.cell?_alloc_new]; exact hv), fun j => ?_⟩
  have f := frozen_new2 w cs t j
  rw [← e] at f
  rw [← f]
  unfold World.frozen?
  rw [hW.block _ lt]

end Go.Proofs.Ytpblpfleiilehaf

namespace Go.Proofs.Ytpblpfleiilehaf
open Go.ChangeShapes Go.WideShapes Go.ChangeAt Go.RowKit Go.Lib
set_option linter.unusedVariables false

set_option maxHeartbeats 4000000 in
set_option maxRecDepth 10000 in
theorem bsq_any (a : Option Addr) (xs : List Int) (ca : Nat) (w : World) (h : Rd w a xs) (hl : xs.length ≤ 1000) :
    Calls Try.prog 49 #[.slice a xs.length ca] w fun e w' => e = .returned (.int .i64 (M.sqF xs)) ∧ Below w.heap.size w w' := by
  have HR := hide h
  obtain ⟨i0, hi, hz0, hz1, hz2⟩ := info_parts info3
  have I0 := hide hi
  have LL : Hid ((xs.map fun x => M.mulI x x).length = xs.length) := List.length_map ..
  have LA : Hid (∀ k, k < xs.length → (xs.map fun x => M.mulI x x).getD k 0 = M.mulI (xs.getD k 0) (xs.getD k 0)) := fun k hk => by
    rw [M.getD_at (by simpa using hk), List.getElem_map, M.getD_at hk]
  have E0 : Hid (M.sqF xs = M.totalI (xs.map fun x => M.mulI x x)) := rfl
  clear h hi
  rw [E0.out]
  generalize (xs.map fun x => M.mulI x x) = QS at *
  go_enter Try.func49, Try.ntmps49
  go_wp2_with (at_make; refine wpList_make_full _ rfl (.tmp 7) (.tmp 7) 23 rfl w.heap.size 3 i0 (.int .i64 0) 1 Try.underlying23 I0.out hz0 hz1 .i64 .i64 _ _ xs.length rfl rfl (by omega) (by omega) (by rw [hz2]; omega) (by unfold maxLen; omega) (Nat.le_refl _) ?_; intro w3 hown hgrow)
  rw [made] at hown
  have hb3 : Hid (Below w.heap.size w w3) := (Below.refl _ w).grown hgrow (Nat.le_refl _) (fun k hk => by cases hk)
  have HO : Hid (w3.ownsRow w.heap.size 3 1 (.slice (some ⟨w.heap.size, 0, none⟩) xs.length xs.length) xs.length ((M.fillK QS 0).map (Value.int .i64))) := by
    unfold Hid; rw [M.fillK_zero, LL.out]; exact hown
  clear hown hgrow I0 hz0 hz1 hz2
  go_loopw [11] (fun i wr => ∃ k : Nat, k ≤ xs.length ∧ i = .int .i64 k ∧ Hid (wr.ownsRow w.heap.size 3 1 (.slice (some ⟨w.heap.size, 0, none⟩) xs.length xs.length) xs.length ((M.fillK QS k).map (Value.int .i64))) ∧ Hid (Below w.heap.size w wr)) (fun i _ => xs.length - (intOf i).toNat)
  case atStart => exact ⟨0, Nat.zero_le _, rfl, HO, hb3⟩
  case round =>
    clear HO hb3
    obtain ⟨k, hk, rfl, HO, K⟩ := hrel
    by_cases hlt : k < xs.length
    · obtain ⟨b, off, rfl, hb, hc⟩ := (HR.out.below K.out).2 (by intro e; rw [e] at hlt; simp at hlt)
      have hx := hc k hlt
      have kz : (k : Int) < (xs.length : Int) := by omega
      have hkL : k < QS.length := by rw [LL.out]; exact hlt
      have RR := hide (fillK_own hkL HO.out)
      obtain ⟨zz, cc⟩ := fillK_cell hkL LL.out HO.out
      have fz := HO.out.frozenAt k
      rw [LA.out k hlt] at RR
      have MU := hide (xsq_any (xs.getD k 0))
      have KB : Hid (∀ v, Below w.heap.size w (wr.setCell ⟨w.heap.size, k, none⟩ v)) := fun v => K.out.setCell (p := ⟨w.heap.size, k, none⟩) (Nat.le_refl _) v
      clear hc HO LA
      generalize M.mulI (xs.getD k 0) (xs.getD k 0) = z at *
      generalize xs.getD k 0 = x at *
      go_wp2_with (go_at_call 76; refine (MU.out _).mono ?_; rintro e w1 ⟨rfl, e1⟩; have e2 := e1.symm; subst e2)
      go_roundw
      case rel => exact ⟨k + 1, by omega, by go_num, RR, KB.out _⟩
      case measure => simp [intOf]; omega
    · have ek : k = xs.length := by omega
      have kz : ¬ ((k : Int) < (xs.length : Int)) := by omega
      rw [show M.fillK QS k = QS by rw [ek, ← LL.out]; exact M.fillK_all QS] at HO
      have ho : wr.ownsRow w.heap.size 3 1 (.slice (some ⟨w.heap.size, 0, none⟩) QS.length QS.length) QS.length (QS.map (Value.int .i64)) := by rw [LL.out]; exact HO.out
      obtain ⟨pa, pc, hp1, hp2, _⟩ := own_rd ho
      cases hp1
      have T := xtotal_any (some ⟨w.heap.size, 0, none⟩) QS xs.length wr hp2
      rw [LL.out] at T
      have HT := hide T
      clear LA HO hp2 ek ho T
      go_wp2_with (go_at_call 77; refine HT.out.mono ?_; rintro e w1 ⟨rfl, e1⟩; have e2 := e1.symm; subst e2)
      go_ret
      exact ⟨rfl, K.out⟩

def tgs (xs : List Sx) : List Int := xs.map (·.2.2.2)
theorem tgs_len (xs : List Sx) : (tgs xs).length = xs.length := by simp [tgs]
theorem tgs_at (xs : List Sx) {k : Nat} (h : k < xs.length) : (tgs xs).getD k 0 = xs[k].2.2.2 := by
  rw [M.getD_at (by rw [tgs_len]; exact h)]; simp [tgs]

set_option maxHeartbeats 4000000 in
set_option maxRecDepth 10000 in
theorem btgt_any (a : Option Addr) (xs : List Sx) (ca : Nat) (w : World) (h : RdL w a xs) (hl : xs.length ≤ 1000) :
    Calls Try.prog 72 #[.slice a xs.length ca] w fun e w' => e = .returned (.slice (some ⟨w.heap.size, 0, none⟩) xs.length xs.length) ∧ Rd w' (some ⟨w.heap.size, 0, none⟩) (tgs xs) ∧ Below w.heap.size w w' := by
  have HR := hide h
  obtain ⟨i0, hi, hz0, hz1, hz2⟩ := info_parts info3
  have I0 := hide hi
  have LL : Hid ((tgs xs).length = xs.length) := tgs_len xs
  have LA : Hid (∀ k (hk : k < xs.length), (tgs xs).getD k 0 = xs[k].2.2.2) := fun k hk => tgs_at xs hk
  clear h hi
  generalize tgs xs = QS at *
  go_enter Try.func72, Try.ntmps72
  go_wp2_with (at_make; refine wpList_make_full _ rfl (.tmp 7) (.tmp 7) 23 rfl w.heap.size 3 i0 (.int .i64 0) 1 Try.underlying23 I0.out hz0 hz1 .i64 .i64 _ _ xs.length rfl rfl (by omega) (by omega) (by rw [hz2]; omega) (by unfold maxLen; omega) (Nat.le_refl _) ?_; intro w3 hown hgrow)
  rw [made] at hown
  have hb3 : Hid (Below w.heap.size w w3) := (Below.refl _ w).grown hgrow (Nat.le_refl _) (fun k hk => by cases hk)
  have HO : Hid (w3.ownsRow w.heap.size 3 1 (.slice (some ⟨w.heap.size, 0, none⟩) xs.length xs.length) xs.length ((M.fillK QS 0).map (Value.int .i64))) := by
    unfold Hid; rw [M.fillK_zero, LL.out]; exact hown
  clear hown hgrow I0 hz0 hz1 hz2
  go_loopw [11] (fun i wr => ∃ k : Nat, k ≤ xs.length ∧ i = .int .i64 k ∧ Hid (wr.ownsRow w.heap.size 3 1 (.slice (some ⟨w.heap.size, 0, none⟩) xs.length xs.length) xs.length ((M.fillK QS k).map (Value.int .i64))) ∧ Hid (Below w.heap.size w wr)) (fun i _ => xs.length - (intOf i).toNat)
  case atStart => exact ⟨0, Nat.zero_le _, rfl, HO, hb3⟩
  case round =>
    clear HO hb3
    obtain ⟨k, hk, rfl, HO, K⟩ := hrel
    by_cases hlt : k < xs.length
    · obtain ⟨b, off, rfl, hb, hc⟩ := (HR.out.below K.out).2.2 (by intro e; rw [e] at hlt; simp at hlt)
      obtain ⟨c0, c1⟩ := hc k hlt
      unfold sxV at c0
      have kz : (k : Int) < (xs.length : Int) := by omega
      have hkL : k < QS.length := by rw [LL.out]; exact hlt
      have UA : Below wr.heap.size wr wr := Below.refl _ wr
      have RR := hide (fun W (hW : Below wr.heap.size wr W) => fillK_own hkL (own_keep HO.out hW))
      have CC := hide (fun W (hW : Below wr.heap.size wr W) => fillK_cell hkL LL.out (own_keep HO.out hW))
      have FZ := hide (fun W (hW : Below wr.heap.size wr W) => (own_keep HO.out hW).frozenAt k)
      rw [LA.out k hlt] at RR
      have KB : Hid (∀ W v, Below wr.heap.size wr W → Below w.heap.size w (W.setCell ⟨w.heap.size, k, none⟩ v)) := fun W v hW => (below_on K.out hW).setCell (p := ⟨w.heap.size, k, none⟩) (Nat.le_refl _) v
      clear hc HO LA
      generalize xs[k].2.2.2 = t at *
      generalize xs[k].2.1.length = rl at *
      generalize xs[k].2.2.1 = rc at *
      generalize xs[k].1 = ra at *
      go_upto_region 5 with fail
      obtain ⟨w5, hw5⟩ : ∃ W, W = wr.alloc (.cells #[.slice ra rl rc, .int .i64 t] 25) := ⟨_, rfl⟩
      rw [← hw5]
      have B5 : Hid (Below wr.heap.size wr w5) := by unfold Hid; rw [hw5]; exact (Below.refl _ wr).alloc (Nat.le_refl _) _
      have y1 : w5.cell? ⟨wr.heap.size, 1, none⟩ = some (.int .i64 t) := (new_kept hw5 (Below.refl _ _)).1 1 _ rfl
      obtain ⟨zz, cc⟩ := CC.out w5 B5.out
      have fz := FZ.out w5 B5.out
      have R5 := hide (RR.out w5 B5.out)
      clear hw5 c0 c1 UA CC FZ RR
      go_wp2
      go_roundw
      case rel => exact ⟨k + 1, by omega, by go_num, R5, KB.out _ _ B5.out⟩
      case measure => simp [intOf]; omega
    · have ek : k = xs.length := by omega
      have kz : ¬ ((k : Int) < (xs.length : Int)) := by omega
      rw [show M.fillK QS k = QS by rw [ek, ← LL.out]; exact M.fillK_all QS] at HO
      have ho : wr.ownsRow w.heap.size 3 1 (.slice (some ⟨w.heap.size, 0, none⟩) QS.length QS.length) QS.length (QS.map (Value.int .i64)) := by rw [LL.out]; exact HO.out
      obtain ⟨pa, pc, hp1, hp2, _⟩ := own_rd ho
      cases hp1
      have HP := hide hp2
      clear LA HO hp2 ek ho
      go_wp2
      go_ret
      exact ⟨rfl, HP.out, K.out⟩

end Go.Proofs.Ytpblpfleiilehaf

namespace Go.Proofs.Ytpblpfleiilehaf.M
set_option linter.unusedVariables false

theorem bo_round {m dp k : Nat} {share : Int} {l : List Sa} {L : List BT} {R : List Int} {e : Bool} (h : GoodS l m) (hl : 0 < l.length) (s1 : 1 ≤ share) (s2 : share ≤ 100) (hd : dp ≤ 4) (hk : k ≤ 8) (I : BoI m dp l k (L, R, e)) :
    R.length = l.length ∧ (∀ x ∈ R, -10000 ≤ x ∧ x ≤ 10000) ∧ (boT m dp share l R).size ≤ 31 ∧ Fair (lay (boT m dp share l R) 0) (m : Int) ∧ inV 1000 (growT m 1 dp (lesS l R)) ∧ ∀ s ∈ l, nv (nAt (lay (boT m dp share l R) 0) (toD (lay (boT m dp share l R) 0) s.1 0)) = evB (boT m dp share l R) s.1 ∧ -1000 ≤ evB (boT m dp share l R) s.1 ∧ evB (boT m dp share l R) s.1 ≤ 1000 := by
  have rl : R.length = l.length := I.len
  have G := les_good h rl
  have ll : 0 < (lesS l R).length := by rw [les_len l _ rl]; exact hl
  have gi := grow_in (m := m) (least := 1) (Int.le_refl _) dp G ll
  have go := grow_ok (m := m) (least := 1) (Int.le_refl _) dp G ll
  have gd := grow_deep m 1 dp (lesS l R)
  have bi : inV 1000 (boT m dp share l R) := sc_in (fun v a b => shr_in s1 s2 v a b) _ gi
  have bo : okB (m : Int) (boT m dp share l R) := sc_ok (fun v a b => by have := shr_in s1 s2 v a b; exact out_in (by omega) (by omega)) _ go gi
  have p : 2 ^ (dp + 1) ≤ 2 ^ (4 + 1) := Nat.pow_le_pow_right (by omega) (by omega)
  have bs : (boT m dp share l R).size ≤ 31 := by unfold boT; rw [sc_size]; have := gd.2; omega
  have bd : (boT m dp share l R).deep ≤ 4 := by unfold boT; rw [sc_deep]; have := gd.1; omega
  have m8 := h.m8
  have tr : (treeF (lay (boT m dp share l R) 0) (m : Int)).2 = 0 := lay_tree bo (by omega) (by omega) (by omega) (by omega)
  refine ⟨rl, fun x hx => ?_, bs, (tree_ok tr).1, gi, fun s hs => ?_⟩
  · obtain ⟨i, hi, rfl⟩ := List.getElem_of_mem hx
    have hi' : i < l.length := by omega
    have e := I.rest i hi'
    have e2 : R.getD i 0 = R[i] := getD_at hi
    have hm : sAt l i ∈ l := by unfold sAt; rw [getD_at hi']; exact List.getElem_mem hi'
    have t := (h.each _ hm).2.2.1
    have a := allB_in (x := (sAt l i).1) (L := L) (fun T hT => (I.each T hT).2.1)
    have tk : L.length ≤ k + 1 := I.tk
    have e' : R.getD i 0 = (sAt l i).2 - allB L (sAt l i).1 := e
    omega
  · obtain ⟨z1, z2, z3, z4⟩ := h.each s hs
    have q := lay_eval (T := boT m dp share l R) (r := s.1) (by rw [z2]; exact bo) (by rw [z2]; exact tr) z1
    have ev := q.2
    unfold evalV at ev
    rw [if_pos q.1] at ev
    exact ⟨ev, in_ev s.1 _ bi⟩
/-- what is left then, one by one -/
theorem less_more {T : BT} {l : List Sa} {R : List Int} (h : R.length = l.length) {j : Nat} (hj : j < l.length) : (lessL T l R).take (j + 1) = (lessL T l R).take j ++ [R.getD j 0 - evB T (sAt l j).1] := by
  have ln := less_len T l R h
  rw [List.take_succ_eq_append_getElem (by omega), ← less_at T l R h j hj, getD_at (by omega)]
theorem less_in {T : BT} {l : List Sa} {R : List Int} (h : R.length = l.length) (hR : ∀ x ∈ R, -10000 ≤ x ∧ x ≤ 10000) (hT : ∀ s ∈ l, -1000 ≤ evB T s.1 ∧ evB T s.1 ≤ 1000) : ∀ x ∈ lessL T l R, -100000 ≤ x ∧ x ≤ 100000 := fun x hx => by
  obtain ⟨i, hi, rfl⟩ := List.getElem_of_mem hx
  have ln := less_len T l R h
  have e := less_at T l R h i (by omega)
  rw [getD_at hi, getD_at (by omega)] at e
  have r := hR R[i] (List.getElem_mem _)
  have hm : sAt l i ∈ l := by unfold sAt; rw [getD_at (by omega)]; exact List.getElem_mem _
  have t := hT _ hm
  omega
theorem bo_end {m dp : Nat} {share : Int} {l : List Sa} {k : Nat} {L : List BT} {R : List Int} (h : boR m dp share l k = (L, R, false)) (hq : sqs R ≤ sqs (lessL (boT m dp share l R) l R)) : boR m dp share l (k + 1) = (L, R, true) := by
  show boN m dp share l (boR m dp share l k) = _
  rw [h]
  unfold boN
  rw [if_neg (show ¬ (false = true) by decide), if_pos hq]
theorem bo_on {m dp : Nat} {share : Int} {l : List Sa} {k : Nat} {L : List BT} {R : List Int} (h : boR m dp share l k = (L, R, false)) (hq : ¬ sqs R ≤ sqs (lessL (boT m dp share l R) l R)) : boR m dp share l (k + 1) = (L ++ [boT m dp share l R], lessL (boT m dp share l R) l R, false) := by
  show boN m dp share l (boR m dp share l k) = _
  rw [h]
  unfold boN
  rw [if_neg (show ¬ (false = true) by decide), if_neg hq]
/-- what has ended stays -/
theorem bo_stay {m dp : Nat} {share : Int} {l : List Sa} {k : Nat} (h : (boR m dp share l k).2.2 = true) : ∀ j, boR m dp share l (k + j) = boR m dp share l k
  | 0 => rfl
  | j + 1 => by
    have ih := bo_stay h j
    show boN m dp share l (boR m dp share l (k + j)) = _
    rw [ih]
    unfold boN
    rw [if_pos h]

end Go.Proofs.Ytpblpfleiilehaf.M

namespace Go.Proofs.Ytpblpfleiilehaf
open Go.ChangeShapes Go.WideShapes Go.ChangeAt Go.RowKit Go.Lib
set_option linter.unusedVariables false

theorem fitto_t (n : Int) (w : World) :
    Calls Try.prog 74 #[.int .i64 n, .int .i64 1000] w fun e w' => e = .returned (.int .i64 (M.fitT n)) ∧ w' = w := by
  rcases (show 1000 < n ∨ n < -1000 ∨ (-1000 ≤ n ∧ n ≤ 1000) from by omega) with h | h | ⟨h1, h2⟩
  · have E : Hid (1000 = M.fitT n) := by unfold M.fitT; rw [if_pos h]; exact rfl
    go_enter Try.func74, Try.ntmps74
    go_wp2
    go_ret
    exact ⟨ret_int E.out, rfl⟩
  · have E : Hid (-1000 = M.fitT n) := by unfold M.fitT; rw [if_neg (by omega), if_pos h]; exact rfl
    go_enter Try.func74, Try.ntmps74
    go_wp2
    go_ret
    exact ⟨ret_int E.out, rfl⟩
  · have E : Hid (n = M.fitT n) := by unfold M.fitT; rw [if_neg (by omega), if_neg (by omega)]; exact rfl
    go_enter Try.func74, Try.ntmps74
    go_wp2
    go_ret
    exact ⟨ret_int E.out, rfl⟩
theorem fitto_in (n : Int) (w : World) (h1 : -1000000 ≤ n) (h2 : n ≤ 1000000) :
    Calls Try.prog 74 #[.int .i64 n, .int .i64 1000000] w fun e w' => e = .returned (.int .i64 n) ∧ w' = w := by
  go_enter Try.func74, Try.ntmps74
  go_wp2
  go_ret
  exact ⟨rfl, rfl⟩

set_option maxHeartbeats 4000000 in
set_option maxRecDepth 10000 in
theorem bleft_any (ta : Option Addr) (tn tc : Nat) (a ra : Option Addr) (xs : List Sx) (R V L : List Int) (ca rc : Nat) (w : World) (h : RdL w a xs) (hr : Rd w ra R) (hl : xs.length ≤ 1000) (hR : R.length = xs.length) (hL : L.length = xs.length)
    (hv : ∀ k, k < xs.length → L.getD k 0 = R.getD k 0 - V.getD k 0 ∧ -1000000 ≤ R.getD k 0 ∧ R.getD k 0 ≤ 1000000 ∧ -1000000 ≤ V.getD k 0 ∧ V.getD k 0 ≤ 1000000)
    (VC : ∀ k (hk : k < xs.length) W, Below w.heap.size w W → Calls Try.prog 18 #[.slice ta tn tc, .slice xs[k].1 xs[k].2.1.length xs[k].2.2.1] W fun e w' => e = .returned (.tuple #[.int .i64 (V.getD k 0), .nilIface]) ∧ Below W.heap.size W w') :
    Calls Try.prog 71 #[.slice ta tn tc, .slice a xs.length ca, .slice ra xs.length rc] w fun e w' => e = .returned (.tuple #[.slice (some ⟨w.heap.size, 0, none⟩) xs.length xs.length, .nilIface]) ∧ w'.ownsRow w.heap.size 3 1 (.slice (some ⟨w.heap.size, 0, none⟩) xs.length xs.length) xs.length (L.map (Value.int .i64)) ∧ Below w.heap.size w w' := by
  have HR := hide h
  have HQ := hide hr
  have HB := hide hv
  have VK := hide VC
  have RL := hide hR
  obtain ⟨i0, hi, hz0, hz1, hz2⟩ := info_parts info3
  have I0 := hide hi
  have LL := hide hL
  clear h hi hr hv VC hR hL
  go_enter Try.func71, Try.ntmps71
  go_wp2_with (at_make; refine wpList_make_full _ rfl (.tmp 14) (.tmp 14) 23 rfl w.heap.size 3 i0 (.int .i64 0) 1 Try.underlying23 I0.out hz0 hz1 .i64 .i64 _ _ xs.length rfl rfl (by omega) (by omega) (by rw [hz2]; omega) (by unfold maxLen; omega) (Nat.le_refl _) ?_; intro w3 hown hgrow)
  rw [made] at hown
  have hb3 : Hid (Below w.heap.size w w3) := (Below.refl _ w).grown hgrow (Nat.le_refl _) (fun k hk => by cases hk)
  have HO : Hid (w3.ownsRow w.heap.size 3 1 (.slice (some ⟨w.heap.size, 0, none⟩) xs.length xs.length) xs.length ((M.fillK L 0).map (Value.int .i64))) := by
    unfold Hid; rw [M.fillK_zero, LL.out]; exact hown
  clear hown hgrow I0 hz0 hz1 hz2
  go_loopw [18] (fun i wr => ∃ k : Nat, k ≤ xs.length ∧ i = .int .i64 k ∧ Hid (wr.ownsRow w.heap.size 3 1 (.slice (some ⟨w.heap.size, 0, none⟩) xs.length xs.length) xs.length ((M.fillK L k).map (Value.int .i64))) ∧ Hid (Below w.heap.size w wr)) (fun i _ => xs.length - (intOf i).toNat)
  case atStart => exact ⟨0, Nat.zero_le _, rfl, HO, hb3⟩
  case round =>
    clear HO hb3
    obtain ⟨k, hk, rfl, HO, K⟩ := hrel
    by_cases hlt : k < xs.length
    · obtain ⟨b, off, rfl, hb, hc⟩ := (HR.out.below K.out).2.2 (by intro e; rw [e] at hlt; simp at hlt)
      obtain ⟨c0, c1⟩ := hc k hlt
      obtain ⟨b2, off2, rfl, hb2, hc2⟩ := (HQ.out.below K.out).2 (by intro e; have := RL.out; rw [e] at this; simp at this; omega)
      have c2 := hc2 k (by rw [RL.out]; exact hlt)
      have C2 : Hid (∀ W, Below wr.heap.size wr W → W.cell? ⟨b2, off2 + k, none⟩ = some (.int .i64 (R.getD k 0))) := fun W hW => (hW.cell (p := ⟨b2, off2 + k, none⟩) hb2).trans c2
      unfold sxV at c0
      have kz : (k : Int) < (xs.length : Int) := by omega
      have hkL : k < L.length := by rw [LL.out]; exact hlt
      have RR := hide (fun W (hW : Below wr.heap.size wr W) => fillK_own hkL (own_keep HO.out hW))
      have CC := hide (fun W (hW : Below wr.heap.size wr W) => fillK_cell hkL LL.out (own_keep HO.out hW))
      have FZ := hide (fun W (hW : Below wr.heap.size wr W) => (own_keep HO.out hW).frozenAt k)
      obtain ⟨ee, v1, v2, v3, v4⟩ := HB.out k hlt
      rw [ee] at RR
      have KB : Hid (∀ W v, Below wr.heap.size wr W → Below w.heap.size w (W.setCell ⟨w.heap.size, k, none⟩ v)) := fun W v hW => (below_on K.out hW).setCell (p := ⟨w.heap.size, k, none⟩) (Nat.le_refl _) v
      have VV := hide (fun W (hW : Below wr.heap.size wr W) => VK.out k hlt W (below_on K.out hW))
      clear hc HO hc2 c2 ee hb2
      generalize xs[k].2.2.2 = t at *
      generalize xs[k].2.1.length = rl at *
      generalize xs[k].2.2.1 = rcc at *
      generalize xs[k].1 = raa at *
      generalize V.getD k 0 = z at *
      generalize R.getD k 0 = x at *
      go_upto_region 5 with fail
      obtain ⟨w5, hw5⟩ : ∃ W, W = wr.alloc (.cells #[.slice raa rl rcc, .int .i64 t] 25) := ⟨_, rfl⟩
      rw [← hw5]
      have B5 : Hid (Below wr.heap.size wr w5) := by unfold Hid; rw [hw5]; exact (Below.refl _ wr).alloc (Nat.le_refl _) _
      have y0 : w5.cell? ⟨wr.heap.size, 0, none⟩ = some (.slice raa rl rcc) := (new_kept hw5 (Below.refl _ _)).1 0 _ rfl
      have V5 := hide (VV.out w5 B5.out)
      clear hw5 c0 c1 VV
      go_wp2_with (go_at_call 18; refine V5.out.mono ?_; rintro e w6 ⟨rfl, hb6⟩; have B6 := hide (below_on B5.out hb6); obtain ⟨zz, cc⟩ := CC.out w6 B6.out; have fz := FZ.out w6 B6.out; have R6 := hide (RR.out w6 B6.out); have c6 := C2.out w6 B6.out; clear hb6)
      go_roundw
      case rel => exact ⟨k + 1, by omega, by go_num, R6, KB.out _ _ B6.out⟩
      case measure => simp [intOf]; omega
    · have ek : k = xs.length := by omega
      have kz : ¬ ((k : Int) < (xs.length : Int)) := by omega
      rw [show M.fillK L k = L by rw [ek, ← LL.out]; exact M.fillK_all L] at HO
      clear ek
      go_wp2
      go_ret2
      exact ⟨rfl, HO.out, K.out⟩

end Go.Proofs.Ytpblpfleiilehaf

namespace Go.Proofs.Ytpblpfleiilehaf
open Go.ChangeShapes Go.WideShapes Go.ChangeAt Go.RowKit
set_option linter.unusedVariables false

theorem infoN : (Try.prog.info? 32).map (fun i => (i.zero, i.size, i.bytes)) = some (some (.agg #[.int .i64 0, .int .i64 0, .int .i64 0, .int .i64 0, .bool false, .int .i64 0]), 6, 48) := by kernel_rfl
def ndCells (ts : List M.Nd) : List Value := ts.flatMap fun n => [.int .i64 (M.nf n), .int .i64 (M.nc n), .int .i64 (M.nl n), .int .i64 (M.nr n), .bool (M.ns n), .int .i64 (M.nv n)]
theorem ndCells_cons (n : M.Nd) (t : List M.Nd) : ndCells (n :: t) = .int .i64 (M.nf n) :: .int .i64 (M.nc n) :: .int .i64 (M.nl n) :: .int .i64 (M.nr n) :: .bool (M.ns n) :: .int .i64 (M.nv n) :: ndCells t := rfl
theorem ndCells_len (ts : List M.Nd) : (ndCells ts).length = ts.length * 6 := by
  induction ts with
  | nil => rfl
  | cons x t ih => rw [ndCells_cons]; simp only [List.length_cons, ih]; omega
theorem ndCells_one (ts : List M.Nd) : ∀ v ∈ ndCells ts, v.oneCell' = true := by
  intro v hv
  simp only [ndCells, List.mem_flatMap] at hv
  obtain ⟨s, _, hs⟩ := hv
  simp only [List.mem_cons, List.not_mem_nil, or_false] at hs
  rcases hs with rfl | rfl | rfl | rfl | rfl | rfl <;> rfl
theorem ndCells_at : ∀ (ts : List M.Nd) (i : Nat), i < ts.length → (ndCells ts)[i * 6]? = some (.int .i64 (M.nf (M.nAt ts i))) ∧ (ndCells ts)[i * 6 + 1]? = some (.int .i64 (M.nc (M.nAt ts i))) ∧ (ndCells ts)[i * 6 + 2]? = some (.int .i64 (M.nl (M.nAt ts i))) ∧ (ndCells ts)[i * 6 + 3]? = some (.int .i64 (M.nr (M.nAt ts i))) ∧ (ndCells ts)[i * 6 + 4]? = some (.bool (M.ns (M.nAt ts i))) ∧ (ndCells ts)[i * 6 + 5]? = some (.int .i64 (M.nv (M.nAt ts i)))
  | [], i, h => by simp at h
  | s :: t, 0, h => ⟨rfl, rfl, rfl, rfl, rfl, rfl⟩
  | s :: t, i + 1, h => by
    have := ndCells_at t i (by simpa using h)
    have e : M.nAt (s :: t) (i + 1) = M.nAt t i := by simp [M.nAt]
    rw [ndCells_cons, e, show (i + 1) * 6 = i * 6 + 1 + 1 + 1 + 1 + 1 + 1 by omega]
    simpa using this
theorem nd_src {w : World} {b off : Nat} {ts : List M.Nd} (hc : ∀ i, i < ts.length → SixAt w b (off + i * 6) (M.nAt ts i)) : ∀ j u, (ndCells ts)[j]? = some u → w.cell? ((⟨b, off, none⟩ : Addr).add j) = some u := by
  intro j u hj
  have hl : j < ts.length * 6 := by
    have := (List.getElem?_eq_some_iff.1 hj).1
    rwa [ndCells_len] at this
  have hi : j / 6 < ts.length := by omega
  obtain ⟨h0, h1, h2, h3, h4, h5⟩ := hc _ hi
  obtain ⟨q0, q1, q2, q3, q4, q5⟩ := ndCells_at ts _ hi
  rw [add_flat]
  rcases (show j = j / 6 * 6 ∨ j = j / 6 * 6 + 1 ∨ j = j / 6 * 6 + 2 ∨ j = j / 6 * 6 + 3 ∨ j = j / 6 * 6 + 4 ∨ j = j / 6 * 6 + 5 by omega) with e | e | e | e | e | e
  · rw [e] at hj ⊢; rw [q0] at hj; rw [← hj]; simpa [Nat.mul_div_cancel] using h0
  · rw [e] at hj ⊢; rw [show (j / 6 * 6 + 1) = j / 6 * 6 + 1 from rfl] at hj; rw [q1] at hj; rw [← hj, ← Nat.add_assoc]; exact h1
  · rw [e] at hj ⊢; rw [q2] at hj; rw [← hj, ← Nat.add_assoc]; exact h2
  · rw [e] at hj ⊢; rw [q3] at hj; rw [← hj, ← Nat.add_assoc]; exact h3
  · rw [e] at hj ⊢; rw [q4] at hj; rw [← hj, ← Nat.add_assoc]; exact h4
  · rw [e] at hj ⊢; rw [q5] at hj; rw [← hj, ← Nat.add_assoc]; exact h5
theorem own_rdN {w : World} {base n : Nat} {v : Value} {ts : List M.Nd} (hn : ts.length = n) (hm : n ≤ maxLen) (h : w.ownsRow base 32 6 v n (ndCells ts)) : ∃ a cap, v = .slice a n cap ∧ RdN w a ts ∧ (∀ p, a = some p → base ≤ p.block) := by
  subst hn
  rcases h.2 with ⟨hv, h0⟩ | ⟨g, cap, cur, hv, hb, hg, h1, h2, h3, h4⟩
  · have e : ts = [] := List.length_eq_zero_iff.1 h0
    subst e
    exact ⟨none, 0, hv, ⟨Nat.zero_le _, fun h => absurd rfl h⟩, fun p hp => by cases hp⟩
  · subst hv
    refine ⟨_, cap, rfl, ⟨hm, fun _ => ⟨g, 0, rfl, (Array.getElem?_eq_some_iff.1 hg).1, fun i hi => ?_⟩⟩, fun p hp => by cases hp; exact hb⟩
    obtain ⟨q0, q1, q2, q3, q4, q5⟩ := ndCells_at ts i hi
    rw [Nat.zero_add]
    exact ⟨(h.cellAt (i * 6) (by omega)).trans q0, (h.cellAt (i * 6 + 1) (by omega)).trans q1, (h.cellAt (i * 6 + 2) (by omega)).trans q2, (h.cellAt (i * 6 + 3) (by omega)).trans q3, (h.cellAt (i * 6 + 4) (by omega)).trans q4, (h.cellAt (i * 6 + 5) (by omega)).trans q5⟩

end Go.Proofs.Ytpblpfleiilehaf

namespace Go.Proofs.Ytpblpfleiilehaf
open Go.ChangeShapes Go.WideShapes Go.ChangeAt Go.RowKit
set_option linter.unusedVariables false

theorem ndCells_app (a b : List M.Nd) : ndCells (a ++ b) = ndCells a ++ ndCells b := by unfold ndCells; rw [List.flatMap_append]
theorem ndCells_set2 : ∀ (ts : List M.Nd) (i : Nat), i < ts.length → ∀ l r : Int, ((ndCells ts).set (i * 6 + 2) (.int .i64 l)).set (i * 6 + 3) (.int .i64 r) = ndCells (ts.set i (M.nf (M.nAt ts i), M.nc (M.nAt ts i), l, r, M.ns (M.nAt ts i), M.nv (M.nAt ts i)))
  | [], i, h, l, r => by simp at h
  | n :: t, 0, h, l, r => rfl
  | n :: t, i + 1, h, l, r => by
    have ih := ndCells_set2 t i (by simpa using h) l r
    have e : M.nAt (n :: t) (i + 1) = M.nAt t i := by simp [M.nAt]
    rw [e, List.set_cons_succ, ndCells_cons, ndCells_cons, ← ih, show (i + 1) * 6 + 2 = (i * 6 + 2) + 1 + 1 + 1 + 1 + 1 + 1 by omega, show (i + 1) * 6 + 3 = (i * 6 + 3) + 1 + 1 + 1 + 1 + 1 + 1 by omega]
    simp only [List.set_cons_succ]

theorem ndCells_setL : ∀ (ts : List M.Nd) (i : Nat), i < ts.length → ∀ l : Int, (ndCells ts).set (i * 6 + 2) (.int .i64 l) = ndCells (ts.set i (M.nf (M.nAt ts i), M.nc (M.nAt ts i), l, M.nr (M.nAt ts i), M.ns (M.nAt ts i), M.nv (M.nAt ts i)))
  | [], i, h, l => by simp at h
  | n :: t, 0, h, l => rfl
  | n :: t, i + 1, h, l => by
    have ih := ndCells_setL t i (by simpa using h) l
    have e : M.nAt (n :: t) (i + 1) = M.nAt t i := by simp [M.nAt]
    rw [e, List.set_cons_succ, ndCells_cons, ndCells_cons, ← ih, show (i + 1) * 6 + 2 = (i * 6 + 2) + 1 + 1 + 1 + 1 + 1 + 1 by omega]
    simp only [List.set_cons_succ]
theorem ndCells_setR : ∀ (ts : List M.Nd) (i : Nat), i < ts.length → ∀ r : Int, (ndCells ts).set (i * 6 + 3) (.int .i64 r) = ndCells (ts.set i (M.nf (M.nAt ts i), M.nc (M.nAt ts i), M.nl (M.nAt ts i), r, M.ns (M.nAt ts i), M.nv (M.nAt ts i)))
  | [], i, h, r => by simp at h
  | n :: t, 0, h, r => rfl
  | n :: t, i + 1, h, r => by
    have ih := ndCells_setR t i (by simpa using h) r
    have e : M.nAt (n :: t) (i + 1) = M.nAt t i := by simp [M.nAt]
    rw [e, List.set_cons_succ, ndCells_cons, ndCells_cons, ← ih, show (i + 1) * 6 + 3 = (i * 6 + 3) + 1 + 1 + 1 + 1 + 1 + 1 by omega]
    simp only [List.set_cons_succ]
theorem grown_trans {a b c : World} {r s : Option Nat} (h : a.grownBy b r) (k : b.grownBy c s) (hs : s = r ∨ ∀ q, s = some q → a.heap.size ≤ q) : a.grownBy c r :=
  ⟨k.os.trans h.os, k.tape.trans h.tape, k.output.trans h.output, Nat.le_trans h.size k.size, fun q hq hn => (k.block q (Nat.lt_of_lt_of_le hq h.size) (fun e => by
    rcases hs with q1 | q1
    · exact hn (by rw [e, q1])
    · have := q1 q e.symm; omega)).trans (h.block q hq hn)⟩
theorem grown_drew {a b : World} {r : Option Nat} (h : a.grownBy b r) : a.grownBy b.drew r := ⟨h.os, h.tape, h.output, h.size, h.block⟩
theorem grown_set {W : World} {g o : Nat} {u : Value} : W.grownBy (W.setCell ⟨g, o, none⟩ u) (some g) :=
  ⟨rfl, rfl, rfl, by simp, fun q hq hn => Below.heap_setCell _ _ _ _ (fun e => hn (by rw [e]))⟩
theorem grown_undrew {a b : World} {r : Option Nat} (h : a.drew.grownBy b r) : a.grownBy b r := ⟨h.os, h.tape, h.output, h.size, h.block⟩
theorem grown_of {a b : World} (h : Below a.heap.size a b) (r : Option Nat) : a.grownBy b r := ⟨h.os, h.tape, h.output, h.size, fun k hk _ => h.block k hk⟩
theorem nAt_snoc (O : List M.Nd) (n : M.Nd) (C : List M.Nd) : M.nAt (O ++ n :: C) O.length = n := by unfold M.nAt; simp [List.getD]
theorem set_snoc (O : List M.Nd) (n n' : M.Nd) (C : List M.Nd) : (O ++ n :: C).set O.length n' = O ++ n' :: C := by
  rw [List.set_append_right _ _ (Nat.le_refl _), Nat.sub_self, List.set_cons_zero]
theorem own_low {w : World} {base base' e size n : Nat} {v : Value} {l : List Value} (hb : base' ≤ base) (h : w.ownsRow base e size v n l) : w.ownsRow base' e size v n l := by
  refine ⟨h.1, ?_⟩
  rcases h.2 with h0 | ⟨g, cap, cur, hv, hg, rest⟩
  · exact .inl h0
  · exact .inr ⟨g, cap, cur, hv, by omega, rest⟩

end Go.Proofs.Ytpblpfleiilehaf
