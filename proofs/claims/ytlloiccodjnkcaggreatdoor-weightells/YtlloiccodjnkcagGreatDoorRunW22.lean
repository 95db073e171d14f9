/-
  Several texts as one: WeiCmp, WeiMost.
-/
import Derived.Test.YtlloiccodjnkcagGreatDoorRunW5
import Derived.Test.YtlloiccodjnkcagGreatDoorRunW12
import Derived.RegionTactic
import Derived.Deep.RegionHeld3
import Derived.Deep.Cut
import Derived.Deep.CutRange
import Derived.Sort.Grow
import Derived.Shelf.Abstract
import Derived.Lib.Small
import Derived.Lib.AppendIntMem
import Derived.Test.YtlloiccodjnkcagGreatDoorRunW11
namespace Go.Proofs.YtlloiccodjnkcagGreatDoor
open Go.ChangeShapes Go.WideShapes Go.ChangeAt Go.RowKit Go.Lib Go.Sort
set_option linter.unusedVariables false

/-- draws, and new blocks, and nothing else -/
def Gro (w w' : World) : Prop := ∃ q os, w' = grow (w.drewN q) os
theorem Gro.refl (w : World) : Gro w w := ⟨0, #[], by rw [grow_empty]; rfl⟩
theorem Gro.trans {a b c : World} (h : Gro a b) (k : Gro b c) : Gro a c := by
  obtain ⟨q, os, rfl⟩ := h
  obtain ⟨q', os', rfl⟩ := k
  exact ⟨q + q', os ++ os', by show grow (grow ((a.drewN q).drewN q') os) os' = _; rw [grow_grow, World.drewN_drewN]⟩
theorem Gro.alloc (w : World) (o : Obj) : Gro w (w.alloc o) := ⟨0, #[o], by rw [alloc_eq_grow]; rfl⟩
theorem Gro.drew (w : World) : Gro w w.drew := ⟨1, #[], by rw [grow_empty]; rfl⟩
theorem Gro.below {w w' : World} (h : Gro w w') {B : Nat} (hB : B ≤ w.heap.size) : RowKit.Below B w w' := by
  obtain ⟨q, os, rfl⟩ := h
  exact below_grow B w hB q os

def M.orI (x y : Int) : Int := if x = 0 then y else x
def M.cmpU (key : M.Us → Int) (a b : M.Us) : Int := M.orI (Lib.compareInt (key b) (key a)) (Lib.compareInt a.1 b.1)

set_option maxHeartbeats 2000000 in
theorem cor_any (b c : Nat) (x y : Int) (w : World) (h0 : w.cell? ⟨b, 0, none⟩ = some (.int .i64 x)) (h1 : w.cell? ⟨b, 1, none⟩ = some (.int .i64 y)) :
    Calls Tryz.prog 57 #[.slice (some ⟨b, 0, none⟩) 2 c] w fun e w' => e = .returned (.int .i64 (M.orI x y)) ∧ w' = w := by
  unfold M.orI
  by_cases hx : x = 0
  · rw [if_pos hx]
    have q : (x != 0) = false := by rw [bne_eq_false_iff_eq]; exact hx
    by_cases hy : y = 0
    · have q2 : (y != 0) = false := by rw [bne_eq_false_iff_eq]; exact hy
      rw [hy]
      clear hx hy
      go_enter Tryz.func57, Tryz.ntmps57
      go_wp2
      refine wp_loop_rounds 3 ?_
      rw [rounds_succ]
      go_wp2
      rw [rounds_succ]
      go_wp2
      rw [rounds_succ]
      go_wp2
      go_ret
      exact ⟨rfl, rfl⟩
    · have q2 : (y != 0) = true := by rw [bne_iff_ne]; exact hy
      clear hx hy
      go_enter Tryz.func57, Tryz.ntmps57
      go_wp2
      refine wp_loop_rounds 2 ?_
      rw [rounds_succ]
      go_wp2
      rw [rounds_succ]
      go_wp2
      go_ret
      exact ⟨rfl, rfl⟩
  · rw [if_neg hx]
    have q : (x != 0) = true := by rw [bne_iff_ne]; exact hx
    clear hx
    go_enter Tryz.func57, Tryz.ntmps57
    go_wp2
    refine wp_loop_rounds 1 ?_
    rw [rounds_succ]
    go_wp2
    go_ret
    exact ⟨rfl, rfl⟩

/-- what a closure tells of a use -/
def MuchGives (did : Nat) (key : M.Us → Int) : Prop := (∀ args w, (callFunc did args).run Tryz.prog w = .ok (.enter did args) w) ∧ ∀ (u : M.Us) (W : World), Calls Tryz.prog did #[.agg #[.int .i64 u.1, .int .i64 u.2.1, .int .i64 u.2.2]] W fun e w' => e = .returned (.int .i64 (key u)) ∧ Gro W w'

/-- what the library's SortFunc does with uses of our own -/
def SortUGives : Prop := ∀ (did : Nat) (key : M.Us → Int), MuchGives did key → ∀ (bm base : Nat) (a : Option Addr) (cap : Nat) (F : List M.Us) (w : World), w.ownsRow base 50 3 (.slice a F.length cap) F.length (usCells F) → F.length ≤ 8 → base ≤ w.heap.size → w.cell? ⟨bm, 0, none⟩ = some (.func (.func did) #[] #[]) → bm < base →
    Calls Tryz.prog 55 #[.slice a F.length cap, .func (.func 56) #[] #[.pointer (some ⟨bm, 0, none⟩)]] w fun e w' => e = .returned (.tuple #[]) ∧ ∃ R : List M.Us, R.Perm F ∧ (∀ i j (hi : i < j) (hj : j < R.length), ¬ (key (R[i]'(by omega)) < key R[j] ∨ (key R[j] = key (R[i]'(by omega)) ∧ R[j].1 < (R[i]'(by omega)).1))) ∧ RdU w' a R ∧ RowKit.Below base w w'

set_option maxHeartbeats 8000000 in
set_option maxRecDepth 10000 in
theorem cmpU_any (did : Nat) (key : M.Us → Int) (hd : MuchGives did key) (CP : ∀ (x y : Int) (W : World), Calls Tryz.prog 58 #[.int .i64 x, .int .i64 y] W fun e w' => e = .returned (.int .i64 (Lib.compareInt x y)) ∧ w' = W) (bm : Nat) (a b : M.Us) (W : World) (hb : W.cell? ⟨bm, 0, none⟩ = some (.func (.func did) #[] #[])) :
    Calls Tryz.prog 56 #[.agg #[.int .i64 a.1, .int .i64 a.2.1, .int .i64 a.2.2], .agg #[.int .i64 b.1, .int .i64 b.2.1, .int .i64 b.2.2], .pointer (some ⟨bm, 0, none⟩)] W fun e w' => e = .returned (.int .i64 (M.cmpU key a b)) ∧ Gro W w' := by
  obtain ⟨eg, hm⟩ := hd
  have bl : bm < W.heap.size := block_lt_of_cell hb
  have HM := hide hm
  have HC := hide CP
  obtain ⟨W2, hW2⟩ : ∃ X, X = (W.alloc (.cells #[.int .i64 a.1, .int .i64 a.2.1, .int .i64 a.2.2] 50)).alloc (.cells #[.int .i64 b.1, .int .i64 b.2.1, .int .i64 b.2.2] 50) := ⟨_, rfl⟩
  have S2 : Hid (W2.heap.size = W.heap.size + 1 + 1) := by rw [hW2]; simp [Hid]
  have G2 : Hid (Gro W W2) := by rw [hW2]; exact (Gro.alloc _ _).trans (Gro.alloc _ _)
  have K2 : Hid (∀ V, Gro W2 V → V.cell? ⟨bm, 0, none⟩ = some (.func (.func did) #[] #[]) ∧ (V.cell? ⟨W.heap.size, 0, none⟩ = some (.int .i64 a.1) ∧ V.cell? ⟨W.heap.size, 1, none⟩ = some (.int .i64 a.2.1) ∧ V.cell? ⟨W.heap.size, 2, none⟩ = some (.int .i64 a.2.2)) ∧ V.cell? ⟨W.heap.size + 1, 0, none⟩ = some (.int .i64 b.1) ∧ V.cell? ⟨W.heap.size + 1, 1, none⟩ = some (.int .i64 b.2.1) ∧ V.cell? ⟨W.heap.size + 1, 2, none⟩ = some (.int .i64 b.2.2)) := fun V hV => by
    have q := hV.below (B := W2.heap.size) (Nat.le_refl _)
    have s2 := S2.out
    have h0 : ∀ p : Addr, p.block < W2.heap.size → V.cell? p = W2.cell? p := fun p hp => q.cell hp
    have b0 : ∀ j v, (#[Value.int .i64 a.1, .int .i64 a.2.1, .int .i64 a.2.2] : Array Value)[j]? = some v → W2.cell? ⟨W.heap.size, j, none⟩ = some v := fun j v hv => by
      rw [hW2]
      exact (cell_of_row _ _ _ _ _ _ (heap_alloc2_old W _ _)).trans hv
    have b1 : ∀ j v, (#[Value.int .i64 b.1, .int .i64 b.2.1, .int .i64 b.2.2] : Array Value)[j]? = some v → W2.cell? ⟨W.heap.size + 1, j, none⟩ = some v := fun j v hv => by
      rw [hW2]
      exact (cell_of_row _ _ _ _ _ _ (heap_alloc2_new W _ _)).trans hv
    refine ⟨(h0 _ (by show bm < _; omega)).trans ?_, ⟨(h0 _ (by show W.heap.size < _; omega)).trans (b0 0 _ rfl), (h0 _ (by show W.heap.size < _; omega)).trans (b0 1 _ rfl), (h0 _ (by show W.heap.size < _; omega)).trans (b0 2 _ rfl)⟩, (h0 _ (by show W.heap.size + 1 < _; omega)).trans (b1 0 _ rfl), (h0 _ (by show W.heap.size + 1 < _; omega)).trans (b1 1 _ rfl), (h0 _ (by show W.heap.size + 1 < _; omega)).trans (b1 2 _ rfl)⟩
    exact ((G2.out.below (B := W.heap.size) (Nat.le_refl _)).cell (p := ⟨bm, 0, none⟩) bl).trans hb
  obtain ⟨a0, a1, a2⟩ := a
  obtain ⟨b0, b1, b2⟩ := b
  have EU : Hid (M.cmpU key (a0, a1, a2) (b0, b1, b2) = M.orI (Lib.compareInt (key (b0, b1, b2)) (key (a0, a1, a2))) (Lib.compareInt a0 b0)) := rfl
  have HK : Hid (∀ x y z V, Calls Tryz.prog did #[.agg #[.int .i64 x, .int .i64 y, .int .i64 z]] V fun e w' => e = .returned (.int .i64 (key (x, y, z))) ∧ Gro V w') := fun x y z V => HM.out (x, y, z) V
  clear hm HM hb CP
  generalize M.cmpU key (a0, a1, a2) (b0, b1, b2) = r at *
  simp only at hW2 K2 ⊢
  have HO := hide cor_any
  have D2 : Hid (Gro W2 W2.drew) := Gro.drew _
  obtain ⟨k0, k1, k2⟩ := K2.out W2 (Gro.refl _)
  have sz : bm < W2.heap.size ∧ W.heap.size < W2.heap.size ∧ W.heap.size + 1 < W2.heap.size := by have := S2.out; omega
  have SZ := hide sz
  clear sz
  go_enter Tryz.func56, Tryz.ntmps56
  go_upto_region 1 with fail
  rw [← hW2]
  clear hW2
  obtain ⟨k3, k4, k5⟩ := k1
  obtain ⟨k6, k7, k8⟩ := k2
  go_region_held3 (fun V => V.cell? ⟨bm, 0, none⟩ = some (.func (.func did) #[] #[]) ∧ V.cell? ⟨W.heap.size, 0, none⟩ = some (.int .i64 a0) ∧ V.cell? ⟨W.heap.size, 1, none⟩ = some (.int .i64 a1) ∧ V.cell? ⟨W.heap.size, 2, none⟩ = some (.int .i64 a2) ∧ V.cell? ⟨W.heap.size + 1, 0, none⟩ = some (.int .i64 b0) ∧ V.cell? ⟨W.heap.size + 1, 1, none⟩ = some (.int .i64 b1) ∧ V.cell? ⟨W.heap.size + 1, 2, none⟩ = some (.int .i64 b2)) (go_keep) (first
    | (go_at_fn did; have G3' := G3; refine (HK.out _ _ _ _).mono ?_; rintro e w4 ⟨rfl, g4⟩; have G4 := hide (G3'.out.trans g4); obtain ⟨y0, ⟨y1, y2, y3⟩, y4, y5, y6⟩ := K2.out w4 G4.out; have sz4 := (G4.out.below (B := W2.heap.size) (Nat.le_refl _)).size; have l0 : ¬ bm = w4.heap.size := (by have := SZ.out; omega); have l1 : ¬ W.heap.size = w4.heap.size := (by have := SZ.out; omega); have l2 : ¬ W.heap.size + 1 = w4.heap.size := (by have := SZ.out; omega); clear g4 G3')
    | (go_at_fn did; refine (HK.out _ _ _ _).mono ?_; rintro e w3 ⟨rfl, g3⟩; have G3 := hide (D2.out.trans g3); obtain ⟨x0, ⟨x1, x2, x3⟩, x4, x5, x6⟩ := K2.out w3 G3.out; clear g3)
    | (go_at_call 58; refine (HC.out _ _ _).mono ?_; rintro e w5 ⟨rfl, e5⟩; have e5' := e5.symm; subst e5')
    | (go_at_call 57; refine (HO.out _ _ _ _ _ (World.cell?_alloc_at _ _ _ 0 rfl) (World.cell?_alloc_at _ _ _ 1 rfl)).mono ?_; rintro e w6 ⟨rfl, e6⟩; have e6' := e6.symm; subst e6'))
  go_wp2
  go_ret
  exact ⟨by rw [EU.out]; rfl, G2.out.trans (G4.out.trans (Gro.alloc _ _))⟩

end Go.Proofs.YtlloiccodjnkcagGreatDoor

namespace Go.Proofs.YtlloiccodjnkcagGreatDoor
open Go.ChangeShapes Go.WideShapes Go.ChangeAt Go.RowKit Go.Lib Go.Sort
set_option linter.unusedVariables false

theorem idxU (F : List M.Us) (hF : F.length = 8) : ∀ (k : Nat), k < 8 → ∀ w : World, (Instr.index 62 (.agg (usCells F).toArray) (.int .i64 (k : Nat))).run Tryz.prog w = .ok (.agg #[.int .i64 (M.uAt F k).1, .int .i64 (M.uAt F k).2.1, .int .i64 (M.uAt F k).2.2]) w := by
  match F, hF with
  | [u0, u1, u2, u3, u4, u5, u6, u7], _ =>
    intro k hk w
    rcases (show k = 0 ∨ k = 1 ∨ k = 2 ∨ k = 3 ∨ k = 4 ∨ k = 5 ∨ k = 6 ∨ k = 7 by omega) with rfl | rfl | rfl | rfl | rfl | rfl | rfl | rfl <;> kernel_rfl

set_option maxHeartbeats 8000000 in
set_option maxRecDepth 10000 in
theorem most_any (SO : SortUGives) (gb : Bool) (did : Nat) (hd : MuchGives did (M.keyU gb)) (c : Nat → Nat) (g : Nat → Int) (w : World) :
    Calls Tryz.prog 26 #[.agg (usCells (M.bU c g)).toArray, .func (.func did) #[] #[]] w fun e w' => ∃ a cap, e = .returned (.slice a (M.rankU gb (M.cU c g)).length cap) ∧ RdU w' a (M.rankU gb (M.cU c g)) ∧ RowKit.Below w.heap.size w w' := by
  have eg := hd.1
  have SF := hide (SO did (M.keyU gb) hd)
  have RK : Hid (∀ R : List M.Us, R.Perm (M.askU (M.bU c g)) → (∀ i j (hi : i < j) (hj : j < R.length), ¬ (M.keyU gb (R[i]'(by omega)) < M.keyU gb R[j] ∨ (M.keyU gb R[j] = M.keyU gb (R[i]'(by omega)) ∧ R[j].1 < (R[i]'(by omega)).1))) → R = M.rankU gb (M.cU c g)) := fun R hp hs => M.sorted_rank hp hs
  have F8 := M.bU_len c g
  have IX := hide (idxU (M.bU c g) F8)
  have CL : Hid ((usCells (M.bU c g)).toArray.size = 24) := by unfold Hid; rw [List.size_toArray, usCells_len, F8]
  obtain ⟨F, hF⟩ : ∃ F, F = M.bU c g := ⟨_, rfl⟩
  rw [← hF] at RK IX CL F8 ⊢
  obtain ⟨Z, hZ⟩ : ∃ Z, Z = M.rankU gb (M.cU c g) := ⟨_, rfl⟩
  rw [← hZ] at RK ⊢
  have H8 := hide F8
  have AM : Hid (∀ k, k < 8 → M.askU (F.take (k + 1)) = if 0 < (M.uAt F k).2.1 then M.askU (F.take k) ++ [M.uAt F k] else M.askU (F.take k)) := fun k hk => M.ask_more (by rw [F8]; exact hk)
  have AL : Hid (∀ k, (M.askU (F.take k)).length ≤ 8) := fun k => Nat.le_trans (M.asked_len _) (by rw [List.length_take, F8]; omega)
  have A0 : Hid (M.askU (F.take 0) = []) := rfl
  have A8 : Hid (M.askU (F.take 8) = M.askU F) := by unfold Hid; rw [List.take_of_length_le (by omega)]
  obtain ⟨C, hC⟩ : ∃ C, C = (usCells F).toArray := ⟨_, rfl⟩
  rw [← hC] at IX CL ⊢
  obtain ⟨W2, hW2⟩ : ∃ X, X = (w.alloc (.cells C 62)).alloc (.cells #[.func (.func did) #[] #[]] 67) := ⟨_, rfl⟩
  have S2 : Hid (W2.heap.size = w.heap.size + 1 + 1) := by rw [hW2]; simp [Hid]
  have B2 : Hid (RowKit.Below w.heap.size w W2) := by rw [hW2]; exact ((RowKit.Below.refl _ w).alloc (Nat.le_refl _) _).alloc (by simp) _
  have C2 : Hid (W2.heap[w.heap.size]? = some (.cells C 62 (0, 0))) := by rw [hW2]; exact heap_alloc2_old w _ _
  have M2 : Hid (∀ V, RowKit.Below W2.heap.size W2 V → V.cell? ⟨w.heap.size + 1, 0, none⟩ = some (.func (.func did) #[] #[])) := fun V hV => by
    refine (hV.cell (p := ⟨w.heap.size + 1, 0, none⟩) (by show w.heap.size + 1 < _; rw [S2.out]; omega)).trans ?_
    rw [hW2]
    exact (cell_of_row _ _ _ _ _ _ (heap_alloc2_new w _ _)).trans rfl
  have E24 : (Tryz.prog.info? 62).map (·.size) = some C.size := by rw [infoCnt, CL.out]
  have HE := hide E24
  clear hF hZ F8 SO hd hC E24 CL
  go_enter Tryz.func26, Tryz.ntmps26
  go_upto_region 2 with fail
  rw [← hW2]
  clear hW2
  go_wp2_with (refine wpList_load_row rfl 62 (.tmp 2) rfl w.heap.size rfl 62 C (0, 0) _ C2.out Tryz.underlying62 rfl HE.out ?_)
  go_loopw [5, 9] (fun v i wr => ∃ (k : Nat) (va : Option Addr) (vc : Nat), k ≤ 8 ∧ i = .int .i64 k ∧ v = .slice va (M.askU (F.take k)).length vc ∧ Hid (wr.ownsRow W2.heap.size 50 3 (.slice va (M.askU (F.take k)).length vc) (M.askU (F.take k)).length (usCells (M.askU (F.take k)))) ∧ Hid (RowKit.Below W2.heap.size W2 wr)) (fun _ i _ => 8 - (intOf i).toNat)
  case atStart => exact ⟨0, none, 0, Nat.zero_le _, rfl, rfl, World.ownsRow_nil _ _ _ _, RowKit.Below.refl _ _⟩
  case round =>
    obtain ⟨k, va, vc, hk, rfl, rfl, HO, K⟩ := hrel
    have rl := AL.out k
    by_cases hlt : k < 8
    · have kz : (k : Int) < 8 := by omega
      have ix := IX.out k hlt
      have A1 := hide (AM.out k hlt)
      obtain ⟨u, hu⟩ : ∃ u, u = M.uAt F k := ⟨_, rfl⟩
      rw [← hu] at ix A1
      clear hu IX AM AL A8 RK SF
      by_cases hn : 0 < u.2.1
      · have q : decide ((0 : Int) < u.2.1) = true := decide_eq_true hn
        have e : M.askU (F.take (k + 1)) = M.askU (F.take k) ++ [u] := by rw [A1.out, if_pos hn]
        have E1 := hide e
        obtain ⟨R, hR⟩ : ∃ R, R = M.askU (F.take k) := ⟨_, rfl⟩
        rw [← hR] at HO rl E1 ⊢
        clear e hR A1 hn
        go_upto_region 6 with fail
        obtain ⟨w3, hw3⟩ : ∃ X, X = wr.alloc (.cells #[.int .i64 u.1, .int .i64 u.2.1, .int .i64 u.2.2] 50) := ⟨_, rfl⟩
        rw [← hw3]
        have s3 : w3.heap.size = wr.heap.size + 1 := by rw [hw3]; simp
        have S3 := hide s3
        have x0 : w3.cell? ⟨wr.heap.size, 0, none⟩ = some (.int .i64 u.1) := by rw [hw3]; exact World.cell?_alloc_at _ _ _ 0 rfl
        have x1 : w3.cell? ⟨wr.heap.size, 1, none⟩ = some (.int .i64 u.2.1) := by rw [hw3]; exact World.cell?_alloc_at _ _ _ 1 rfl
        have x2 : w3.cell? ⟨wr.heap.size, 2, none⟩ = some (.int .i64 u.2.2) := by rw [hw3]; exact World.cell?_alloc_at _ _ _ 2 rfl
        have O3 : Hid (∀ o, (w3.alloc o).ownsRow W2.heap.size 50 3 (.slice va R.length vc) R.length (usCells R)) := fun o => by rw [hw3]; exact (HO.out.alloc _).alloc _
        have K3 : Hid (∀ o, RowKit.Below W2.heap.size W2 (w3.alloc o) ∧ W2.heap.size ≤ (w3.alloc o).heap.size) := fun o => by
          have q1 := K.out.size
          refine ⟨?_, by simp; have := S3.out; omega⟩
          rw [hw3]
          exact (K.out.alloc q1 _).alloc (by simp; omega) _
        have NBK : Hid (∀ j v, (usCells [u])[j]? = some v → (w3.alloc (.cells #[.int .i64 u.1, .int .i64 u.2.1, .int .i64 u.2.2] 50)).cell? ((⟨w3.heap.size, 0, none⟩ : Addr).add j) = some v) := by
          show ∀ j v, ([.int .i64 u.1, .int .i64 u.2.1, .int .i64 u.2.2] : List Value)[j]? = some v → _
          exact World.news_of_block (heap_alloc_new _ _)
        have r9 : Hid (R.length + [u].length ≤ 1000) := by unfold Hid; simp; omega
        clear hw3 s3 HO
        go_wp2_with (at_builtin; refine wpList_append_us rfl (.tmp 15) (.tmp 17) rfl W2.heap.size (.slice va R.length vc) R.length R rfl (O3.out _) (some ⟨w3.heap.size, 0, none⟩) [u] 1 1 rfl rfl (fun _ => ⟨_, rfl, NBK.out⟩) (fun e => by cases e) r9.out (K3.out _).2 ?_; intro nb nbc w6 ho6 hb6 hg6; have O6 := hide ho6; have K6 := hide ((K3.out _).1.trans hb6); clear ho6 hb6 hg6)
        have EL : Hid (R.length + 1 = (M.askU (F.take (k + 1))).length) := by unfold Hid; rw [E1.out]; simp
        have O7 : Hid (w6.ownsRow W2.heap.size 50 3 (.slice nb (M.askU (F.take (k + 1))).length nbc) (M.askU (F.take (k + 1))).length (usCells (M.askU (F.take (k + 1))))) := by unfold Hid; rw [← EL.out, E1.out]; exact O6.out
        go_roundw
        case rel => exact ⟨k + 1, nb, nbc, by omega, by go_num, by rw [← EL.out], O7, K6⟩
        case measure => simp [intOf]; omega
      · have q : decide ((0 : Int) < u.2.1) = false := decide_eq_false hn
        have e : M.askU (F.take (k + 1)) = M.askU (F.take k) := by rw [A1.out, if_neg hn]
        have O2 : Hid (∀ o, (wr.alloc o).ownsRow W2.heap.size 50 3 (.slice va (M.askU (F.take (k + 1))).length vc) (M.askU (F.take (k + 1))).length (usCells (M.askU (F.take (k + 1))))) := fun o => by rw [e]; exact HO.out.alloc _
        have EL : Hid ((M.askU (F.take k)).length = (M.askU (F.take (k + 1))).length) := by unfold Hid; rw [e]
        have K2 : Hid (∀ o, RowKit.Below W2.heap.size W2 (wr.alloc o)) := fun o => K.out.alloc K.out.size o
        clear hn e A1 HO
        generalize (M.askU (F.take k)).length = n at *
        go_wp2
        go_roundw
        case rel => exact ⟨k + 1, va, vc, by omega, by go_num, by rw [EL.out], O2.out _, K2.out _⟩
        case measure => simp [intOf]; omega
    · have ke : k = 8 := by omega
      have kz : ¬ ((k : Int) < 8) := by omega
      have e8 : M.askU (F.take k) = M.askU F := by rw [ke]; exact A8.out
      have O8 := HO.out
      rw [e8] at O8
      have EL : Hid ((M.askU (F.take k)).length = (M.askU F).length) := by unfold Hid; rw [e8]
      have a8 : (M.askU F).length ≤ 8 := by rw [← e8]; exact rl
      have SC := hide (SF.out (w.heap.size + 1) W2.heap.size va vc (M.askU F) wr O8 a8 K.out.size (M2.out wr K.out) (by rw [S2.out]; omega))
      rw [← EL.out] at SC
      have RZ : Hid (∀ R : List M.Us, R.Perm (M.askU F) → (∀ i j (hi : i < j) (hj : j < R.length), ¬ (M.keyU gb (R[i]'(by omega)) < M.keyU gb R[j] ∨ (M.keyU gb R[j] = M.keyU gb (R[i]'(by omega)) ∧ R[j].1 < (R[i]'(by omega)).1))) → R = Z ∧ (M.askU F).length = Z.length) := fun R hp hs => by
        have := RK.out R hp hs
        exact ⟨this, by rw [← this]; exact hp.length_eq.symm⟩
      clear ke e8 O8 HO SF RK IX AM AL A8 a8
      generalize (M.askU (F.take k)).length = n at *
      go_wp2_with (go_at_call 55; refine SC.out.mono ?_; rintro e w7 ⟨rfl, R, hp, hs, hr, hb⟩; have R7 := hide hr; have K7 := hide (K.out.trans hb); have Z7 := hide (RZ.out R hp hs); clear hp hs hr hb)
      go_ret
      refine ⟨va, vc, ?_, ?_, ?_⟩
      · rw [← Z7.out.2, ← EL.out]; rfl
      · have := R7.out; rw [Z7.out.1] at this; exact this
      · exact below_on B2.out K7.out

end Go.Proofs.YtlloiccodjnkcagGreatDoor
