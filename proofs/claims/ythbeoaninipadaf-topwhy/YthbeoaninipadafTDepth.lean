/-
  What package tree's depth answers for every list of nodes each of which is right: the deepest of the levels.
-/
import Derived.Test.YthbeoaninipadafTStray
import Derived.ChangeAlike
namespace Go.Proofs.Ythbeoaninipadaf
open Go.ChangeShapes Go.WideShapes Go.ChangeAt Go.RowKit Go.Lib
set_option linter.unusedVariables false

/-- a round's facts -/
theorem lev_cells {wr W : World} {B g : Nat} {F : List Int} {o : Obj} {a b k : Nat} (hA : Arr wr B g F) (hW : Below (wr.alloc o).heap.size (wr.alloc o) W) (hk : k < 63) (hak : a ≠ k) (ha : a < 63) (hb : b < 63) (x y : Int) :
    (∃ z, W.cell? ⟨g, a, none⟩ = some (.int .i64 z)) ∧ (∃ z, (W.setCell ⟨g, a, none⟩ (.int .i64 x)).cell? ⟨g, b, none⟩ = some (.int .i64 z)) ∧
    W.cell? ⟨g, k, none⟩ = some (.int .i64 (F.getD k 0)) ∧ W.frozen? ⟨g, a, none⟩ = false ∧
    (∀ j, (W.setCell ⟨g, a, none⟩ (.int .i64 x)).cell? ⟨wr.heap.size, j, none⟩ = W.cell? ⟨wr.heap.size, j, none⟩) ∧
    (W.setCell ⟨g, a, none⟩ (.int .i64 x)).cell? ⟨g, k, none⟩ = some (.int .i64 (F.getD k 0)) ∧ (W.setCell ⟨g, a, none⟩ (.int .i64 x)).frozen? ⟨g, b, none⟩ = false ∧
    Arr ((W.setCell ⟨g, a, none⟩ (.int .i64 x)).setCell ⟨g, b, none⟩ (.int .i64 y)) B g ((F.set a x).set b y) := by
  have h1 : Arr (wr.alloc o) B g F := hA.up ((Below.refl _ _).alloc (Nat.le_refl _) _)
  have h2 : Arr W B g F := h1.up hW
  have h3 := h2.set a x
  refine ⟨⟨_, h2.cell ha⟩, ⟨_, h3.cell hb⟩, h2.cell hk, h2.frozen a, fun k => cell_other (by have := hA.lt; omega), ?_, h3.frozen b, h3.set b y⟩
  rw [h3.cell hk]
  simp [List.getD, List.getElem?_set_ne hak]
theorem max_val {dk lv n : Nat} (h : n = max dk lv) : Value.int .i64 (if dk < lv then (lv : Int) else (dk : Int)) = .int .i64 (n : Nat) := by
  rw [h]; congr 1; split <;> omega

set_option maxHeartbeats 4000000 in
set_option maxRecDepth 10000 in
theorem depth_any (a0 : Option Addr) (ts : List M.Nd) (cap : Nat) (m : Int) (w : World) (h : RdN w a0 ts) (hl : ts.length ≤ 63) (hf : ∀ j, j < ts.length → M.nodeF (M.nAt ts j) j ts.length m = 0) :
    Calls Try.prog 25 #[.slice a0 ts.length cap] w fun e w' => e = .returned (.int .i64 (M.deepest ts ts.length : Nat)) ∧ Below w.heap.size w w' := by
  have hm : ts.length ≤ 9223372036854775807 := h.1
  have HR := hide h.2
  have HF := hide hf
  clear h hf
  have DE : Hid (∀ k, k = ts.length → M.deepest ts k = M.deepest ts ts.length) := fun k e => by rw [e]
  generalize M.deepest ts ts.length = dv at *
  go_enter Try.func25, Try.ntmps25
  go_wp2
  go_loopw [4, 9] (fun d i wr => ∃ k : Nat, k ≤ ts.length ∧ i = .int .i64 k ∧ d = .int .i64 (M.deepest ts k : Nat) ∧ Arr wr w.heap.size w.heap.size (M.levL ts k) ∧ Below w.heap.size w wr) (fun _ i _ => ts.length - (intOf i).toNat)
  case atStart =>
    refine ⟨0, Nat.zero_le _, rfl, rfl, ?_, (Below.refl _ w).alloc (Nat.le_refl _) _⟩
    rw [M.levL_zero]
    exact Arr.new w w.heap.size (Nat.le_refl _)
  case round =>
    obtain ⟨k, hk, rfl, rfl, hown, hbl⟩ := hrel
    by_cases hlt : k < ts.length
    · obtain ⟨b0, off, rfl, hb0, hc⟩ := HR.out (by intro e; subst e; simp at hlt)
      obtain ⟨s0, s1, s2, s3, s4, s5⟩ := (hc k hlt).below hbl hb0
      have C1 := hide (isleaf_any (M.nAt ts k))
      unfold ndV at C1
      have k63 : k < 63 := by omega
      have NB : Hid (∀ o W, Below (wr.alloc o).heap.size (wr.alloc o) W → Below w.heap.size w W) := fun o W hW => below_on (below_on hbl ((Below.refl _ wr).alloc (Nat.le_refl _) o)) hW
      have ck : wr.cell? ⟨w.heap.size, k, none⟩ = some (.int .i64 ((M.levL ts k).getD k 0)) := hown.cell k63
      have glt : w.heap.size < wr.heap.size := hown.lt.2
      have DN : Hid (M.deepest ts (k + 1) = max (M.deepest ts k) (M.lev ts k k)) := rfl
      have LV : Hid ((M.levL ts k).getD k 0 = ((M.lev ts k k : Nat) : Int)) := M.levL_at ts k k63
      have DB := M.deep_le ts k
      have LB := M.lev_le ts k k
      by_cases hf : M.nf (M.nAt ts k) = -1
      · have e1 : M.leafB (M.nAt ts k) = true := decide_eq_true hf
        rw [e1] at C1
        have NA : Hid (∀ o W, Below (wr.alloc o).heap.size (wr.alloc o) W → Arr W w.heap.size w.heap.size (M.levL ts (k + 1))) := fun o W hW => by
          rw [M.levL_leaf hf]; exact (hown.up ((Below.refl _ wr).alloc (Nat.le_refl _) o)).up hW
        rw [LV.out] at ck
        clear hc e1 hf hown hbl LV
        generalize M.lev ts k k = lv at *
        generalize M.deepest ts k = dk at *
        generalize M.nf (M.nAt ts k) = f at *
        generalize M.nc (M.nAt ts k) = c at *
        generalize M.nl (M.nAt ts k) = l at *
        generalize M.nr (M.nAt ts k) = r at *
        generalize M.ns (M.nAt ts k) = sl at *
        generalize M.nv (M.nAt ts k) = v at *
        go_wp2_with (go_at_call 26; refine (C1.out _).mono ?_; rintro e w1 ⟨rfl, hb1⟩)
        go_roundw
        case rel => exact ⟨k + 1, by omega, by go_num, max_val DN.out, NA.out _ w1 hb1, NB.out _ w1 hb1⟩
        case measure => simp [intOf]; omega
      · have e1 : M.leafB (M.nAt ts k) = false := decide_eq_false hf
        rw [e1] at C1
        obtain ⟨a, b, ea, eb, h1, h2, h3, h4, hab⟩ := M.ask_at HF.out hlt hf
        rw [ea] at s2 C1
        rw [eb] at s3 C1
        have ha : a < 63 := by omega
        have hb : b < 63 := by omega
        have TW := hide (fun o W (hW : Below (wr.alloc o).heap.size (wr.alloc o) W) => lev_cells (a := a) (b := b) (x := (M.levL ts k).getD k 0 + 1) (y := (M.levL ts k).getD k 0 + 1) hown hW k63 (by omega) ha hb)
        have NE := hide (M.levL_ask hf ea eb k63)
        rw [LV.out] at ck TW NE
        clear hc e1 hf hown hbl LV ea eb
        generalize M.lev ts k k = lv at *
        generalize M.deepest ts k = dk at *
        generalize M.nf (M.nAt ts k) = f at *
        generalize M.nc (M.nAt ts k) = c at *
        generalize M.ns (M.nAt ts k) = sl at *
        generalize M.nv (M.nAt ts k) = v at *
        go_wp2_with (go_at_call 26; refine (C1.out _).mono ?_; rintro e w1 ⟨rfl, hb1⟩; have hcell : ∀ k, w1.cell? ⟨wr.heap.size, k, none⟩ = _ := fun k => hb1.cell (p := ⟨wr.heap.size, k, none⟩) (by simp); have TT := TW.out _ w1 hb1; obtain ⟨q1, q2, t1, t2, t3, t4, t5, t6⟩ := TT; obtain ⟨za, c1⟩ := q1; obtain ⟨zb, c2⟩ := q2; generalize hmx : (if dk < lv then (lv : Int) else (dk : Int)) = mx; have HM := hide hmx; clear hmx)
        go_region
        all_goals go_wp2_with fail
        all_goals go_region
        all_goals go_wp2_with fail
        go_roundw
        case rel =>
          refine ⟨k + 1, by omega, by go_num, by rw [← HM.out]; exact max_val DN.out, ?_, (((NB.out _ w1 hb1).setCell (Nat.le_refl _) _).setCell (Nat.le_refl _) _).drew.drew⟩
          rw [← NE.out]; exact (t6.up (Below.refl _ _).drew).up (Below.refl _ _).drew
        case measure => simp [intOf]; omega
    · have E := hide (DE.out k (by omega))
      go_wp2
      go_ret
      exact ⟨ret_int (by rw [E.out]), hbl⟩

end Go.Proofs.Ythbeoaninipadaf
