/-
  Several texts as one: TStray, TDepth, TCheck, CmX, TLeft, PLayN.
-/
import Derived.Test.YtlloiccodjnkcagGreatDoorRunW12
import Derived.ChangeAlike
import Derived.Test.YtlloiccodjnkcagGreatDoorRunW11
import Derived.Test.YtlloiccodjnkcagGreatDoorRunW6
import Derived.Test.YtlloiccodjnkcagGreatDoorRunW7
import Derived.Test.YtlloiccodjnkcagGreatDoorRunW8
import Derived.Deep.RegionWith
import Derived.RegionTactic
namespace Go.Proofs.YtlloiccodjnkcagGreatDoor
open Go.ChangeShapes Go.WideShapes Go.ChangeAt Go.RowKit Go.Lib
set_option linter.unusedVariables false

/-- an array of 63 numbers of our own -/
def Arr (w : World) (B g : Nat) (F : List Int) : Prop := F.length = 63 ∧ w.ownsRow B 151 1 (.slice (some ⟨g, 0, none⟩) 63 63) 63 (F.map (Value.int .i64))
theorem Arr.cell {w : World} {B g : Nat} {F : List Int} (h : Arr w B g F) {i : Nat} (hi : i < 63) : w.cell? ⟨g, i, none⟩ = some (.int .i64 (F.getD i 0)) := by
  rw [h.2.cellAt i (by omega)]
  have := h.1
  simp [List.getD, show i < F.length by omega]
theorem Arr.frozen {w : World} {B g : Nat} {F : List Int} (h : Arr w B g F) (i : Nat) : w.frozen? ⟨g, i, none⟩ = false := h.2.frozenAt i
theorem Arr.set {w : World} {B g : Nat} {F : List Int} (h : Arr w B g F) (i : Nat) (x : Int) : Arr (w.setCell ⟨g, i, none⟩ (.int .i64 x)) B g (F.set i x) := by
  refine ⟨by rw [List.length_set]; exact h.1, ?_⟩
  rw [List.map_set]
  exact (h.2.stored i (.int .i64 x)).1
theorem Arr.up {w w' : World} {B g : Nat} {F : List Int} (h : Arr w B g F) (hb : Below w.heap.size w w') : Arr w' B g F := ⟨h.1, own_up h.2 hb⟩
theorem Arr.lt {w : World} {B g : Nat} {F : List Int} (h : Arr w B g F) : B ≤ g ∧ g < w.heap.size := h.2.lt g rfl
theorem Arr.new (w : World) (B : Nat) (hB : B ≤ w.heap.size) : Arr (w.alloc (.cells ((List.replicate 63 (Value.int .i64 0)).toArray) 151)) B w.heap.size (List.replicate 63 0) := by
  refine ⟨by simp, ?_⟩
  have := World.ownsRow_lit (base := B) (e := 151) (size := 1) w ((List.replicate 63 (Value.int .i64 0)).toArray) 63 hB (by unfold maxLen; omega) (by simp)
  rw [List.map_replicate]
  exact this
theorem cell_other {w : World} {g h a k : Nat} {v : Value} (hn : h ≠ g) : (w.setCell ⟨g, a, none⟩ v).cell? ⟨h, k, none⟩ = w.cell? ⟨h, k, none⟩ := by
  unfold World.cell? World.setCell
  simp [Array.getElem?_modify, hn.symm]

/-- a round's facts -/
theorem two_cells {wr W : World} {B g : Nat} {F : List Int} {o : Obj} {a b : Nat} (hA : Arr wr B g F) (hW : Below (wr.alloc o).heap.size (wr.alloc o) W) (ha : a < 63) (hb : b < 63) (hab : a ≠ b) (x y : Int) :
    W.cell? ⟨g, a, none⟩ = some (.int .i64 (F.getD a 0)) ∧ W.frozen? ⟨g, a, none⟩ = false ∧
    (∀ k, (W.setCell ⟨g, a, none⟩ (.int .i64 x)).cell? ⟨wr.heap.size, k, none⟩ = W.cell? ⟨wr.heap.size, k, none⟩) ∧
    (W.setCell ⟨g, a, none⟩ (.int .i64 x)).cell? ⟨g, b, none⟩ = some (.int .i64 (F.getD b 0)) ∧ (W.setCell ⟨g, a, none⟩ (.int .i64 x)).frozen? ⟨g, b, none⟩ = false ∧
    Arr ((W.setCell ⟨g, a, none⟩ (.int .i64 x)).setCell ⟨g, b, none⟩ (.int .i64 y)) B g ((F.set a x).set b y) := by
  have h1 : Arr (wr.alloc o) B g F := hA.up ((Below.refl _ _).alloc (Nat.le_refl _) _)
  have h2 : Arr W B g F := h1.up hW
  have h3 := h2.set a x
  refine ⟨h2.cell ha, h2.frozen a, fun k => cell_other (by have := hA.lt; omega), ?_, h3.frozen b, h3.set b y⟩
  rw [h3.cell hb]
  simp [List.getD, List.getElem?_set_ne hab]

set_option maxHeartbeats 4000000 in
set_option maxRecDepth 10000 in
theorem stray_any (a0 : Option Addr) (ts : List M.Nd) (cap : Nat) (m : Int) (w : World) (h : RdN w a0 ts) (hl : ts.length ≤ 63) (hf : ∀ j, j < ts.length → M.nodeF (M.nAt ts j) j ts.length m = 0) :
    Calls Tryz.prog 78 #[.slice a0 ts.length cap] w fun e w' => e = .returned (.int .i64 (M.strayV ts : Nat)) ∧ Below w.heap.size w w' := by
  have hm : ts.length ≤ 9223372036854775807 := h.1
  have HR := hide h.2
  have HF := hide hf
  clear h hf
  have SH : Hid (∀ i, i < ts.length → 0 < i → M.ups ts i ≠ 1 → (∀ j, 0 < j → j < i → M.ups ts j = 1) → M.strayV ts = i) := fun i h1 h2 h3 h4 => M.stray_hit h1 h2 h3 h4
  have SM : Hid ((∀ j, 0 < j → j < ts.length → M.ups ts j = 1) → M.strayV ts = 0) := fun h => M.stray_miss h
  generalize M.strayV ts = sv at *
  go_enter Tryz.func78, Tryz.ntmps78
  go_wp2
  go_loopw [9] (fun i wr => ∃ k : Nat, k ≤ ts.length ∧ i = .int .i64 k ∧ Arr wr w.heap.size w.heap.size (M.upsL ts k) ∧ Below w.heap.size w wr) (fun i _ => ts.length - (intOf i).toNat)
  case atStart =>
    refine ⟨0, Nat.zero_le _, rfl, ?_, (Below.refl _ w).alloc (Nat.le_refl _) _⟩
    rw [M.upsL_zero]
    exact Arr.new w w.heap.size (Nat.le_refl _)
  case round =>
    obtain ⟨k, hk, rfl, hown, hbl⟩ := hrel
    by_cases hlt : k < ts.length
    · obtain ⟨b0, off, rfl, hb0, hc⟩ := HR.out (by intro e; subst e; simp at hlt)
      obtain ⟨s0, s1, s2, s3, s4, s5⟩ := (hc k hlt).below hbl hb0
      have C1 := hide (isleaf_any (M.nAt ts k))
      unfold ndV at C1
      have NB : Hid (∀ o W, Below (wr.alloc o).heap.size (wr.alloc o) W → Below w.heap.size w W) := fun o W hW => below_on (below_on hbl ((Below.refl _ wr).alloc (Nat.le_refl _) o)) hW
      by_cases hf : M.nf (M.nAt ts k) = -1
      · have e1 : M.leafB (M.nAt ts k) = true := decide_eq_true hf
        rw [e1] at C1
        have NA : Hid (∀ o W, Below (wr.alloc o).heap.size (wr.alloc o) W → Arr W w.heap.size w.heap.size (M.upsL ts (k + 1))) := fun o W hW => by
          rw [M.upsL_leaf hlt hf]; exact (hown.up ((Below.refl _ wr).alloc (Nat.le_refl _) o)).up hW
        clear hc e1 hf hown hbl
        generalize M.nf (M.nAt ts k) = f at *
        generalize M.nc (M.nAt ts k) = c at *
        generalize M.nl (M.nAt ts k) = l at *
        generalize M.nr (M.nAt ts k) = r at *
        generalize M.ns (M.nAt ts k) = sl at *
        generalize M.nv (M.nAt ts k) = v at *
        go_wp2_with (go_at_call 92; refine (C1.out _).mono ?_; rintro e w1 ⟨rfl, hb1⟩)
        go_roundw
        case rel => exact ⟨k + 1, by omega, by go_num, NA.out _ w1 hb1, NB.out _ w1 hb1⟩
        case measure => simp [intOf]; omega
      · have e1 : M.leafB (M.nAt ts k) = false := decide_eq_false hf
        rw [e1] at C1
        obtain ⟨a, b, ea, eb, h1, h2, h3, h4, hab⟩ := M.ask_at HF.out hlt hf
        rw [ea] at s2 C1
        rw [eb] at s3 C1
        have ha : a < 63 := by omega
        have hb : b < 63 := by omega
        have TW := hide (fun o W (hW : Below (wr.alloc o).heap.size (wr.alloc o) W) => two_cells (x := (M.upsL ts k).getD a 0 + 1) (y := (M.upsL ts k).getD b 0 + 1) hown hW ha hb hab)
        have NE := hide (M.upsL_ask hlt hf ea eb ha hb hab)
        have za : 0 ≤ (M.upsL ts k).getD a 0 ∧ (M.upsL ts k).getD a 0 ≤ 126 := by
          rw [M.upsL_at ts k ha]
          have := M.ups_le (ts.take k) (a : Int)
          rw [List.length_take] at this
          omega
        have zb : 0 ≤ (M.upsL ts k).getD b 0 ∧ (M.upsL ts k).getD b 0 ≤ 126 := by
          rw [M.upsL_at ts k hb]
          have := M.ups_le (ts.take k) (b : Int)
          rw [List.length_take] at this
          omega
        obtain ⟨za0, za1⟩ := za
        obtain ⟨zb0, zb1⟩ := zb
        clear hc e1 hf hown hbl ea eb
        generalize (M.upsL ts k).getD a 0 = xa at *
        generalize (M.upsL ts k).getD b 0 = xb at *
        generalize M.nf (M.nAt ts k) = f at *
        generalize M.nc (M.nAt ts k) = c at *
        generalize M.ns (M.nAt ts k) = sl at *
        generalize M.nv (M.nAt ts k) = v at *
        go_wp2_with (go_at_call 92; refine (C1.out _).mono ?_; rintro e w1 ⟨rfl, hb1⟩; obtain ⟨t1, t2, t3, t4, t5, t6⟩ := TW.out _ w1 hb1; have hcell : ∀ k, w1.cell? ⟨wr.heap.size, k, none⟩ = _ := fun k => hb1.cell (p := ⟨wr.heap.size, k, none⟩) (by simp))
        go_roundw
        case rel =>
          refine ⟨k + 1, by omega, by go_num, ?_, ((NB.out _ w1 hb1).setCell (Nat.le_refl _) _).setCell (Nat.le_refl _) _⟩
          rw [← NE.out]; exact t6
        case measure => simp [intOf]; omega
    · have hke : k = ts.length := by omega
      rw [hke] at hown
      have CE : Hid (∀ i, i < 63 → wr.cell? ⟨w.heap.size, i, none⟩ = some (.int .i64 ((M.ups ts (i : Int) : Nat) : Int))) := fun i hi => by
        rw [hown.cell hi, M.upsL_at ts _ hi, List.take_length]
      have UL : Hid (∀ i : Nat, M.ups ts i ≤ 126) := fun i => by have := M.ups_le ts (i : Int); omega
      clear hown hke
      go_wp2
      go_loop [6] (fun i => ∃ j : Nat, 0 < j ∧ j ≤ ts.length + 1 ∧ i = .int .i64 j ∧ Hid (∀ p, 0 < p → p < j → M.ups ts p = 1)) (fun i => ts.length + 1 - (intOf i).toNat)
      case atStart => exact ⟨1, by omega, by omega, rfl, fun p h1 h2 => by omega⟩
      case round =>
        obtain ⟨j, hj0, hj, rfl, I⟩ := hrel
        by_cases hlt2 : j < ts.length
        · have hc := CE.out j (by omega)
          by_cases hu : M.ups ts (j : Int) = 1
          · have N : Hid (∀ p, 0 < p → p < j + 1 → M.ups ts p = 1) := fun p h1 h2 => by
              by_cases e : p = j
              · subst e; exact hu
              · exact I.out p h1 (by omega)
            have q : (((M.ups ts (j : Int) : Nat) : Int) != 1) = false := by rw [bne_eq_false_iff_eq]; omega
            clear hu
            generalize ((M.ups ts (j : Int) : Nat) : Int) = u at *
            go_wp2
            go_round
            case rel => exact ⟨j + 1, by omega, by omega, by go_num, N⟩
            case measure => simp [intOf]; omega
          · have E := hide (SH.out j hlt2 hj0 hu I.out)
            have q : (((M.ups ts (j : Int) : Nat) : Int) != 1) = true := by rw [bne_iff_ne]; omega
            clear hu
            generalize ((M.ups ts (j : Int) : Nat) : Int) = u at *
            go_wp2
            go_ret
            exact ⟨ret_int (by rw [E.out]), hbl⟩
        · have E := hide (SM.out fun p h1 h2 => I.out p h1 (by omega))
          go_wp2
          go_ret
          exact ⟨ret_int (by rw [E.out]; rfl), hbl⟩

end Go.Proofs.YtlloiccodjnkcagGreatDoor

namespace Go.Proofs.YtlloiccodjnkcagGreatDoor
open Go.ChangeShapes Go.WideShapes Go.ChangeAt Go.RowKit Go.Lib
set_option linter.unusedVariables false

/-- a round's facts -/
theorem lev_cells {wr W : World} {B g : Nat} {F : List Int} {o : Obj} {a b k : Nat} (hA : Arr wr B g F) (hW : Below (wr.alloc o).heap.size (wr.alloc o) W) (hk : k < 63) (hak : a ≠ k) (ha : a < 63) (hb : b < 63) (x y : Int) :
    (∃ z, W.cell? ⟨g, a, none⟩ = some (.int .i64 z)) ∧ (∃ z, (W.setCell ⟨g, a, none⟩ (.int .i64 x)).cell? ⟨g, b, none⟩ = some (.int .i64 z)) ∧
    W.cell? ⟨g, k, none⟩ = some (.int .i64 (F.getD k 0)) ∧ W.frozen? ⟨g, a, none⟩ = false ∧
    (∀ j, (W.setCell ⟨g, a, none⟩ (.int .i64 x)).cell? ⟨wr.heap.size, j, none⟩ = W.cell? ⟨wr.heap.size, j, none⟩) ∧
    (W.setCell ⟨g, a, none⟩ (.int .i64 x)).cell? ⟨g, k, none⟩ = some (.int .i64 (F.getD k 0)) ∧ (W.setCell ⟨g, a, none⟩ (.int .i64 x)).frozen? ⟨g, b, none⟩ = false ∧
    Arr ((W.setCell ⟨g, a, none⟩ (.int .i64 x)).setCell ⟨g, b, none⟩ (.int .i64 y)) B g ((F.set a x).set b y) := by
  have h1 : Arr (wr.alloc o) B g F := hA.up ((Below.refl _ _).alloc (Nat.le_refl _) _)
  have h2 : Arr W B g F := h1.up hW
  have h3 := h2.set a x
  refine ⟨⟨_, h2.cell ha⟩, ⟨_, h3.cell hb⟩, h2.cell hk, h2.frozen a, fun k => cell_other (by have := hA.lt; omega), ?_, h3.frozen b, h3.set b y⟩
  rw [h3.cell hk]
  simp [List.getD, List.getElem?_set_ne hak]
theorem max_val {dk lv n : Nat} (h : n = max dk lv) : Value.int .i64 (if dk < lv then (lv : Int) else (dk : Int)) = .int .i64 (n : Nat) := by
  rw [h]; congr 1; split <;> omega

set_option maxHeartbeats 4000000 in
set_option maxRecDepth 10000 in
theorem depth_any (a0 : Option Addr) (ts : List M.Nd) (cap : Nat) (m : Int) (w : World) (h : RdN w a0 ts) (hl : ts.length ≤ 63) (hf : ∀ j, j < ts.length → M.nodeF (M.nAt ts j) j ts.length m = 0) :
    Calls Tryz.prog 79 #[.slice a0 ts.length cap] w fun e w' => e = .returned (.int .i64 (M.deepest ts ts.length : Nat)) ∧ Below w.heap.size w w' := by
  have hm : ts.length ≤ 9223372036854775807 := h.1
  have HR := hide h.2
  have HF := hide hf
  clear h hf
  have DE : Hid (∀ k, k = ts.length → M.deepest ts k = M.deepest ts ts.length) := fun k e => by rw [e]
  generalize M.deepest ts ts.length = dv at *
  go_enter Tryz.func79, Tryz.ntmps79
  go_wp2
  go_loopw [4, 9] (fun d i wr => ∃ k : Nat, k ≤ ts.length ∧ i = .int .i64 k ∧ d = .int .i64 (M.deepest ts k : Nat) ∧ Arr wr w.heap.size w.heap.size (M.levL ts k) ∧ Below w.heap.size w wr) (fun _ i _ => ts.length - (intOf i).toNat)
  case atStart =>
    refine ⟨0, Nat.zero_le _, rfl, rfl, ?_, (Below.refl _ w).alloc (Nat.le_refl _) _⟩
    rw [M.levL_zero]
    exact Arr.new w w.heap.size (Nat.le_refl _)
  case round =>
    obtain ⟨k, hk, rfl, rfl, hown, hbl⟩ := hrel
    by_cases hlt : k < ts.length
    · obtain ⟨b0, off, rfl, hb0, hc⟩ := HR.out (by intro e; subst e; simp at hlt)
      obtain ⟨s0, s1, s2, s3, s4, s5⟩ := (hc k hlt).below hbl hb0
      have C1 := hide (isleaf_any (M.nAt ts k))
      unfold ndV at C1
      have k63 : k < 63 := by omega
      have NB : Hid (∀ o W, Below (wr.alloc o).heap.size (wr.alloc o) W → Below w.heap.size w W) := fun o W hW => below_on (below_on hbl ((Below.refl _ wr).alloc (Nat.le_refl _) o)) hW
      have ck : wr.cell? ⟨w.heap.size, k, none⟩ = some (.int .i64 ((M.levL ts k).getD k 0)) := hown.cell k63
      have glt : w.heap.size < wr.heap.size := hown.lt.2
      have DN : Hid (M.deepest ts (k + 1) = max (M.deepest ts k) (M.lev ts k k)) := rfl
      have LV : Hid ((M.levL ts k).getD k 0 = ((M.lev ts k k : Nat) : Int)) := M.levL_at ts k k63
      have DB := M.deep_le ts k
      have LB := M.lev_le ts k k
      by_cases hf : M.nf (M.nAt ts k) = -1
      · have e1 : M.leafB (M.nAt ts k) = true := decide_eq_true hf
        rw [e1] at C1
        have NA : Hid (∀ o W, Below (wr.alloc o).heap.size (wr.alloc o) W → Arr W w.heap.size w.heap.size (M.levL ts (k + 1))) := fun o W hW => by
          rw [M.levL_leaf hf]; exact (hown.up ((Below.refl _ wr).alloc (Nat.le_refl _) o)).up hW
        rw [LV.out] at ck
        clear hc e1 hf hown hbl LV
        generalize M.lev ts k k = lv at *
        generalize M.deepest ts k = dk at *
        generalize M.nf (M.nAt ts k) = f at *
        generalize M.nc (M.nAt ts k) = c at *
        generalize M.nl (M.nAt ts k) = l at *
        generalize M.nr (M.nAt ts k) = r at *
        generalize M.ns (M.nAt ts k) = sl at *
        generalize M.nv (M.nAt ts k) = v at *
        go_wp2_with (go_at_call 92; refine (C1.out _).mono ?_; rintro e w1 ⟨rfl, hb1⟩)
        go_roundw
        case rel => exact ⟨k + 1, by omega, by go_num, max_val DN.out, NA.out _ w1 hb1, NB.out _ w1 hb1⟩
        case measure => simp [intOf]; omega
      · have e1 : M.leafB (M.nAt ts k) = false := decide_eq_false hf
        rw [e1] at C1
        obtain ⟨a, b, ea, eb, h1, h2, h3, h4, hab⟩ := M.ask_at HF.out hlt hf
        rw [ea] at s2 C1
        rw [eb] at s3 C1
        have ha : a < 63 := by omega
        have hb : b < 63 := by omega
        have TW := hide (fun o W (hW : Below (wr.alloc o).heap.size (wr.alloc o) W) => lev_cells (a := a) (b := b) (x := (M.levL ts k).getD k 0 + 1) (y := (M.levL ts k).getD k 0 + 1) hown hW k63 (by omega) ha hb)
        have NE := hide (M.levL_ask hf ea eb k63)
        rw [LV.out] at ck TW NE
        clear hc e1 hf hown hbl LV ea eb
        generalize M.lev ts k k = lv at *
        generalize M.deepest ts k = dk at *
        generalize M.nf (M.nAt ts k) = f at *
        generalize M.nc (M.nAt ts k) = c at *
        generalize M.ns (M.nAt ts k) = sl at *
        generalize M.nv (M.nAt ts k) = v at *
        go_wp2_with (go_at_call 92; refine (C1.out _).mono ?_; rintro e w1 ⟨rfl, hb1⟩; have hcell : ∀ k, w1.cell? ⟨wr.heap.size, k, none⟩ = _ := fun k => hb1.cell (p := ⟨wr.heap.size, k, none⟩) (by simp); have TT := TW.out _ w1 hb1; obtain ⟨q1, q2, t1, t2, t3, t4, t5, t6⟩ := TT; obtain ⟨za, c1⟩ := q1; obtain ⟨zb, c2⟩ := q2; generalize hmx : (if dk < lv then (lv : Int) else (dk : Int)) = mx; have HM := hide hmx; clear hmx)
        go_region
        all_goals go_wp2_with fail
        all_goals go_region
        all_goals go_wp2_with fail
        go_roundw
        case rel =>
          refine ⟨k + 1, by omega, by go_num, by rw [← HM.out]; exact max_val DN.out, ?_, (((NB.out _ w1 hb1).setCell (Nat.le_refl _) _).setCell (Nat.le_refl _) _).drew.drew⟩
          rw [← NE.out]; exact (t6.up (Below.refl _ _).drew).up (Below.refl _ _).drew
        case measure => simp [intOf]; omega
    · have E := hide (DE.out k (by omega))
      go_wp2
      go_ret
      exact ⟨ret_int (by rw [E.out]), hbl⟩

end Go.Proofs.YtlloiccodjnkcagGreatDoor

namespace Go.Proofs.YtlloiccodjnkcagGreatDoor
open Go.ChangeShapes Go.WideShapes Go.ChangeAt Go.RowKit Go.Lib
set_option linter.unusedVariables false

theorem two_val {n : Nat} {c : Int} {tf : Nat × Int} (h : tf = (n, c)) : Ending.returned (.tuple #[.int .i64 (n : Nat), errV c]) = .returned (.tuple #[.int .i64 (tf.1 : Nat), errV tf.2]) := by rw [h]

set_option maxHeartbeats 4000000 in
set_option maxRecDepth 10000 in
theorem tcheck_any (a0 : Option Addr) (ts : List M.Nd) (cap : Nat) (m : Int) (w : World) (h : RdN w a0 ts) :
    Calls Tryz.prog 54 #[.slice a0 ts.length cap, .int .i64 m] w fun e w' => e = .returned (.tuple #[.int .i64 ((M.treeF ts m).1 : Nat), errV (M.treeF ts m).2]) ∧ Below w.heap.size w w' := by
  have hm : ts.length ≤ 9223372036854775807 := h.1
  by_cases h63 : 63 < ts.length
  · have E := hide (M.tree_full (m := m) h63)
    have hd : decide ((63 : Int) < (ts.length : Int)) = true := decide_eq_true (by omega)
    clear h h63
    generalize M.treeF ts m = tf at *
    go_enter Tryz.func54, Tryz.ntmps54
    go_wp2
    go_ret2
    exact ⟨two_val E.out, Below.refl _ _⟩
  · have hd : decide ((63 : Int) < (ts.length : Int)) = false := decide_eq_false (by omega)
    by_cases h0 : ts.length = 0
    · have E := hide (M.tree_none (m := m) h0)
      have q0 : ((ts.length : Int) == 0) = true := by rw [beq_iff_eq]; omega
      clear h h63 h0
      generalize M.treeF ts m = tf at *
      generalize ts.length = len at *
      go_enter Tryz.func54, Tryz.ntmps54
      go_wp2
      go_ret2
      exact ⟨two_val E.out, Below.refl _ _⟩
    · have q0 : ((ts.length : Int) == 0) = false := by rw [beq_eq_false_iff_ne]; omega
      by_cases h1 : m < 0
      · have E := hide (M.tree_range h63 h0 (.inl h1))
        have q1 : decide (m < 0) = true := decide_eq_true h1
        clear h h63 h0 h1
        generalize M.treeF ts m = tf at *
        generalize ts.length = len at *
        go_enter Tryz.func54, Tryz.ntmps54
        go_wp2
        go_ret2
        exact ⟨two_val E.out, Below.refl _ _⟩
      · have q1 : decide (m < 0) = false := decide_eq_false h1
        by_cases h2 : 8 < m
        · have E := hide (M.tree_range h63 h0 (.inr h2))
          have q2 : decide (8 < m) = true := decide_eq_true h2
          clear h h63 h0 h1 h2
          generalize M.treeF ts m = tf at *
          generalize ts.length = len at *
          go_enter Tryz.func54, Tryz.ntmps54
          go_wp2
          go_ret2
          exact ⟨two_val E.out, Below.refl _ _⟩
        · have q2 : decide (8 < m) = false := decide_eq_false h2
          have l63 : ts.length ≤ 63 := by omega
          have TN : Hid (∀ i, i < ts.length → M.nodeF (M.nAt ts i) i ts.length m ≠ 0 → (∀ j, j < i → M.nodeF (M.nAt ts j) j ts.length m = 0) → M.treeF ts m = (i, M.nodeF (M.nAt ts i) i ts.length m)) := fun i hi hb hj => M.tree_node h63 h0 (by omega) hi hb hj
          have TS : Hid ((∀ j, j < ts.length → M.nodeF (M.nAt ts j) j ts.length m = 0) → 0 < M.strayV ts → M.treeF ts m = (M.strayV ts, 7)) := fun hb hs => M.stray_tree h63 h0 (by omega) hb hs
          have TF : Hid ((∀ j, j < ts.length → M.nodeF (M.nAt ts j) j ts.length m = 0) → M.strayV ts = 0 → M.treeF ts m = if 10 < M.deepest ts ts.length then (0, 4) else (0, 0)) := fun hb hs => by
            have F : M.Fair ts m := ⟨by omega, by omega, by omega, by omega, hb, M.stray_zero hs⟩
            rw [M.deepest_eq F]; exact M.tree_fair F
          have CS : Hid (∀ W, Below w.heap.size w W → (∀ j, j < ts.length → M.nodeF (M.nAt ts j) j ts.length m = 0) → Calls Tryz.prog 78 #[.slice a0 ts.length cap] W fun e w' => e = .returned (.int .i64 (M.strayV ts : Nat)) ∧ Below W.heap.size W w') := fun W hW hb => stray_any a0 ts cap m W (h.below hW) l63 hb
          have CD : Hid (∀ W, Below w.heap.size w W → (∀ j, j < ts.length → M.nodeF (M.nAt ts j) j ts.length m = 0) → Calls Tryz.prog 79 #[.slice a0 ts.length cap] W fun e w' => e = .returned (.int .i64 (M.deepest ts ts.length : Nat)) ∧ Below W.heap.size W w') := fun W hW hb => depth_any a0 ts cap m W (h.below hW) l63 hb
          have DB := M.deep_le ts ts.length
          have SB : M.strayV ts ≤ 63 := by
            rcases Nat.eq_zero_or_pos (M.strayV ts) with e | e
            · omega
            · unfold M.strayV
              cases q : M.firstN (M.strayP ts) ts.length with
              | none => simp
              | some k => have := (M.first_some q).1; simp; omega
          have HR := hide h.2
          clear h h63 h0 h1 h2
          generalize M.treeF ts m = tf at *
          generalize M.strayV ts = sv at *
          generalize M.deepest ts ts.length = dv at *
          go_enter Tryz.func54, Tryz.ntmps54
          go_wp2
          go_loopw [27] (fun i wr => ∃ k : Nat, k ≤ ts.length ∧ i = .int .i64 k ∧ Below w.heap.size w wr ∧ Hid (∀ j, j < k → M.nodeF (M.nAt ts j) j ts.length m = 0)) (fun i _ => ts.length - (intOf i).toNat)
          case atStart => exact ⟨0, Nat.zero_le _, rfl, Below.refl _ _, fun j hj => by omega⟩
          case round =>
            obtain ⟨k, hk, rfl, hbl, I⟩ := hrel
            by_cases hlt : k < ts.length
            · obtain ⟨b0, off, rfl, hb0, hc⟩ := HR.out (by intro e; subst e; simp at hlt)
              obtain ⟨s0, s1, s2, s3, s4, s5⟩ := (hc k hlt).below hbl hb0
              have C1 := hide (fun W => checknode_any (M.nAt ts k) k ts.length (k : Int) ((ts.length : Int) - 1) m W rfl rfl)
              unfold ndV at C1
              have NB : Hid (∀ o W, Below (wr.alloc o).heap.size (wr.alloc o) W → Below w.heap.size w W) := fun o W hW => below_on (below_on hbl ((Below.refl _ wr).alloc (Nat.le_refl _) o)) hW
              by_cases hf : M.nodeF (M.nAt ts k) k ts.length m = 0
              · have N : Hid (∀ j, j < k + 1 → M.nodeF (M.nAt ts j) j ts.length m = 0) := fun j hj => by
                  by_cases e : j = k
                  · subst e; exact hf
                  · exact I.out j (by omega)
                rw [err_nil hf] at C1
                clear hc hf hbl
                generalize M.nf (M.nAt ts k) = f at *
                generalize M.nc (M.nAt ts k) = c at *
                generalize M.nl (M.nAt ts k) = l at *
                generalize M.nr (M.nAt ts k) = r at *
                generalize M.ns (M.nAt ts k) = sl at *
                generalize M.nv (M.nAt ts k) = v at *
                go_wp2_with (go_at_call 77; refine (C1.out _).mono ?_; rintro e w1 ⟨rfl, hb1⟩)
                go_roundw
                case rel => exact ⟨k + 1, by omega, by go_num, NB.out _ w1 hb1, N⟩
                case measure => simp [intOf]; omega
              · have E := hide (TN.out k hlt hf I.out)
                have EE : Hid (errV (M.nodeF (M.nAt ts k) k ts.length m) = .iface 68 (.int .i64 (M.nodeF (M.nAt ts k) k ts.length m))) := err_some hf
                rw [err_some hf] at C1
                clear hc hf hbl TN
                generalize M.nodeF (M.nAt ts k) k ts.length m = cc at *
                generalize M.nf (M.nAt ts k) = f at *
                generalize M.nc (M.nAt ts k) = c at *
                generalize M.nl (M.nAt ts k) = l at *
                generalize M.nr (M.nAt ts k) = r at *
                generalize M.ns (M.nAt ts k) = sl at *
                generalize M.nv (M.nAt ts k) = v at *
                go_wp2_with (go_at_call 77; refine (C1.out _).mono ?_; rintro e w1 ⟨rfl, hb1⟩)
                go_ret2
                exact ⟨by rw [← EE.out]; exact two_val E.out, NB.out _ w1 hb1⟩
            · have A : Hid (∀ j, j < ts.length → M.nodeF (M.nAt ts j) j ts.length m = 0) := fun j hj => I.out j (by omega)
              have S1 := hide (CS.out wr hbl A.out)
              have D1 := hide (fun W (hW : Below w.heap.size w W) => CD.out W hW A.out)
              by_cases hs : sv = 0
              · have qs : decide (0 < sv) = false := decide_eq_false (by omega)
                have E1 := hide (TF.out A.out hs)
                by_cases h10 : 10 < dv
                · have qd : decide ((10 : Int) < (dv : Int)) = true := decide_eq_true (by omega)
                  have E : Hid (tf = (0, 4)) := by have := E1.out; rw [if_pos h10] at this; exact this
                  clear E1 TN TS TF A CS CD HR hs h10
                  go_wp2_with (first
                    | (go_at_call 78; refine S1.out.mono ?_; rintro e w1 ⟨rfl, hb1⟩)
                    | (go_at_call 79; refine (D1.out _ (below_on hbl hb1)).mono ?_; rintro e w2 ⟨rfl, hb2⟩))
                  go_ret2
                  exact ⟨two_val E.out, below_on (below_on hbl hb1) hb2⟩
                · have qd : decide ((10 : Int) < (dv : Int)) = false := decide_eq_false (by omega)
                  have E : Hid (tf = (0, 0)) := by have := E1.out; rw [if_neg h10] at this; exact this
                  clear E1 TN TS TF A CS CD HR hs h10
                  go_wp2_with (first
                    | (go_at_call 78; refine S1.out.mono ?_; rintro e w1 ⟨rfl, hb1⟩)
                    | (go_at_call 79; refine (D1.out _ (below_on hbl hb1)).mono ?_; rintro e w2 ⟨rfl, hb2⟩))
                  go_ret2
                  exact ⟨two_val E.out, below_on (below_on hbl hb1) hb2⟩
              · have qs : decide (0 < sv) = true := decide_eq_true (by omega)
                have E := hide (TS.out A.out (by omega))
                clear TN TS TF A CS CD HR hs D1
                go_wp2_with (go_at_call 78; refine S1.out.mono ?_; rintro e w1 ⟨rfl, hb1⟩)
                go_ret2
                exact ⟨two_val E.out, below_on hbl hb1⟩

end Go.Proofs.YtlloiccodjnkcagGreatDoor

namespace Go.Proofs.YtlloiccodjnkcagGreatDoor
open Go.ChangeShapes Go.WideShapes Go.ChangeAt Go.RowKit Go.Lib
set_option linter.unusedVariables false

/-! ### who comes to a node -/
/-- samples that may go down a tree -/
structure Dwn (t : List M.Nd) (xs : List Sx) (m : Nat) : Prop where
  fair : M.Fair t (m : Int)
  rdy : ∀ x ∈ xs, M.readyF t x.2.1 = 0
  row : ∀ x ∈ xs, x.2.1.length = m ∧ M.nilI ∉ x.2.1
  tgt : ∀ x ∈ xs, -1000 ≤ x.2.2.2 ∧ x.2.2.2 ≤ 1000
  le : xs.length ≤ 60
theorem Dwn.of {t : List M.Nd} {xs : List Sx} (h : M.rdyF t (sms xs) = 0) : ∃ m : Nat, Dwn t xs m := by
  unfold M.rdyF at h
  by_cases h0 : (sms xs).length = 0
  · rw [if_pos h0] at h; cases h
  · rw [if_neg h0] at h
    by_cases h1 : (M.treeF t ((M.sAt (sms xs) 0).1.length : Int)).2 ≠ 0
    · rw [if_pos h1] at h; exact absurd h h1
    · rw [if_neg h1] at h
      have h2 : (M.treeF t ((M.sAt (sms xs) 0).1.length : Int)).2 = 0 := by omega
      obtain ⟨G, _, _, _⟩ := M.sam_ok h
      rw [Int.toNat_natCast] at G
      refine ⟨(M.sAt (sms xs) 0).1.length, (M.tree_ok h2).1, fun x hx => ?_, fun x hx => ?_, fun x hx => ?_, by have := G.le; rw [sms_len] at this; exact this⟩
      · have g := G.each (sm x) (List.mem_map.2 ⟨x, hx, rfl⟩)
        have g1 : M.rowF x.2.1 = 0 := g.1
        have g2 : x.2.1.length = _ := g.2.1
        unfold M.readyF
        rw [g1, g2, h2]
        simp
      · have g := G.each (sm x) (List.mem_map.2 ⟨x, hx, rfl⟩)
        exact ⟨g.2.1, g.2.2.2⟩
      · exact (G.each (sm x) (List.mem_map.2 ⟨x, hx, rfl⟩)).2.2.1
def hX (t : List M.Nd) (xs : List Sx) (i : Nat) : List Sx := xs.filter fun x => M.overB t i (sm x)
theorem hX_sms (t : List M.Nd) (xs : List Sx) (i : Nat) : sms (hX t xs i) = M.hereS t (sms xs) i := by
  unfold sms hX M.hereS
  rw [List.filter_map]
  rfl
theorem hX_mem {t : List M.Nd} {xs : List Sx} {i : Nat} {x : Sx} (h : x ∈ hX t xs i) : x ∈ xs := (List.mem_filter.1 h).1
theorem hX_len (t : List M.Nd) (xs : List Sx) (i : Nat) : (hX t xs i).length ≤ xs.length := List.length_filter_le _ _
theorem M.over_way {t : List M.Nd} {s : M.Sa} (h : M.readyF t s.1 = 0) (i : Nat) : M.overB t i s = decide (i ∈ M.way t s.1 0) := by
  unfold M.overB M.pathV
  rw [if_pos h]
  apply decide_eq_decide.2
  rw [List.mem_map]
  constructor
  · rintro ⟨a, ha, e⟩
    have : a = i := by have e' : (a : Int) = (i : Int) := e; omega
    rw [← this]; exact ha
  · intro hi; exact ⟨i, hi, rfl⟩
theorem hX_root {t : List M.Nd} {xs : List Sx} {m : Nat} (D : Dwn t xs m) : hX t xs 0 = xs := by
  unfold hX
  refine List.filter_eq_self.2 fun x hx => ?_
  rw [M.over_way (D.rdy x hx)]
  obtain ⟨l, e⟩ := M.way_ne D.fair.2.2.2.2.1 (sm x).1 D.fair.2.1
  rw [e]
  simp
theorem hX_child {t : List M.Nd} {xs : List Sx} {m : Nat} (D : Dwn t xs m) {i a b : Nat} (hi : i < t.length) (hf : M.nf (M.nAt t i) ≠ -1) (ea : M.nl (M.nAt t i) = a) (eb : M.nr (M.nAt t i) = b) :
    hX t xs a = partX (hX t xs i) (M.nf (M.nAt t i)).toNat (M.nc (M.nAt t i)) true ∧ hX t xs b = partX (hX t xs i) (M.nf (M.nAt t i)).toNat (M.nc (M.nAt t i)) false := by
  obtain ⟨q1, q2, _⟩ := M.node_ask (D.fair.2.2.2.2.1 i hi) hf
  have key : ∀ x ∈ xs, M.lessC (M.nAt t i) (x.2.1.getD (M.nf (M.nAt t i)).toNat 0) = decide (x.2.1.getD (M.nf (M.nAt t i)).toNat 0 < M.nc (M.nAt t i)) := fun x hx => by
    obtain ⟨r1, r2⟩ := D.row x hx
    have hl : (M.nf (M.nAt t i)).toNat < x.2.1.length := by omega
    unfold M.lessC
    rw [if_neg]
    intro e
    apply r2
    rw [← e, M.getD_at hl]
    exact List.getElem_mem hl
  unfold hX partX
  rw [List.filter_filter, List.filter_filter]
  constructor
  · refine List.filter_congr fun x hx => ?_
    have W := (M.way_left D.fair (sm x).1 hi hf ea eb).1
    rw [M.over_way (D.rdy x hx), M.over_way (D.rdy x hx)]
    have k := key x hx
    have k' : M.lessC (M.nAt t i) ((sm x).1.getD (M.nf (M.nAt t i)).toNat 0) = decide (x.2.1.getD (M.nf (M.nAt t i)).toNat 0 < M.nc (M.nAt t i)) := k
    rw [k'] at W
    cases hq : decide (x.2.1.getD (M.nf (M.nAt t i)).toNat 0 < M.nc (M.nAt t i)) with
    | true => rw [hq] at W; simp [W]
    | false => rw [hq] at W; simp [W]
  · refine List.filter_congr fun x hx => ?_
    have W := (M.way_left D.fair (sm x).1 hi hf ea eb).2
    rw [M.over_way (D.rdy x hx), M.over_way (D.rdy x hx)]
    have k := key x hx
    have k' : M.lessC (M.nAt t i) ((sm x).1.getD (M.nf (M.nAt t i)).toNat 0) = decide (x.2.1.getD (M.nf (M.nAt t i)).toNat 0 < M.nc (M.nAt t i)) := k
    rw [k'] at W
    cases hq : decide (x.2.1.getD (M.nf (M.nAt t i)).toNat 0 < M.nc (M.nAt t i)) with
    | true => rw [hq] at W; simp [W]
    | false => rw [hq] at W; simp [W]
/-- what lies at each node when k of them are done -/
def cmL (t : List M.Nd) (xs : List Sx) (k j : Nat) : List Sx := match M.abv t j with
  | none => hX t xs j
  | some i => if i < k then hX t xs j else []
/-- .. and n of those that come to the next -/
def cmI (t : List M.Nd) (xs : List Sx) (k a b f : Nat) (c : Int) (n j : Nat) : List Sx := if j = a then partX ((hX t xs k).take n) f c true else if j = b then partX ((hX t xs k).take n) f c false else cmL t xs k j

theorem cmL_here {t : List M.Nd} {xs : List Sx} {m : Nat} (F : M.Fair t (m : Int)) {k : Nat} (hk : k < t.length) : cmL t xs k k = hX t xs k := by
  unfold cmL
  cases e : M.abv t k with
  | none => rfl
  | some i => simp only; rw [if_pos (M.abv_lt F hk e)]
theorem cmL_root {t : List M.Nd} {xs : List Sx} {m : Nat} (D : Dwn t xs m) (k : Nat) : cmL t xs k 0 = xs := by
  unfold cmL
  rw [M.abv_root D.fair]
  exact hX_root D
theorem cmL_zero {t : List M.Nd} {xs : List Sx} {m : Nat} (F : M.Fair t (m : Int)) {j : Nat} (hj : j < t.length) (h0 : 0 < j) : cmL t xs 0 j = [] := by
  obtain ⟨u, e⟩ := M.abv_some F hj h0
  unfold cmL
  rw [e]
  simp
theorem cmL_leaf {t : List M.Nd} {xs : List Sx} {m : Nat} (F : M.Fair t (m : Int)) {k : Nat} (hk : k < t.length) (hl : M.nf (M.nAt t k) = -1) {j : Nat} (hj : j < t.length) : cmL t xs (k + 1) j = cmL t xs k j := by
  unfold cmL
  cases e : M.abv t j with
  | none => rfl
  | some i =>
    simp only
    have ne : i ≠ k := fun q => by
      obtain ⟨_, h2, _⟩ := (M.abv_iff F hj).1 e
      rw [q] at h2
      exact h2 hl
    by_cases q : i < k
    · rw [if_pos q, if_pos (by omega)]
    · rw [if_neg q, if_neg (by omega)]
theorem cmL_all {t : List M.Nd} {xs : List Sx} {m : Nat} (F : M.Fair t (m : Int)) {j : Nat} (hj : j < t.length) : cmL t xs t.length j = hX t xs j := by
  unfold cmL
  cases e : M.abv t j with
  | none => rfl
  | some i =>
    simp only
    rw [if_pos]
    have := M.abv_lt F hj e
    omega
theorem partX_none (f : Nat) (c : Int) (b : Bool) : partX [] f c b = [] := rfl
theorem cmI_start {t : List M.Nd} {xs : List Sx} {m : Nat} (F : M.Fair t (m : Int)) {k a b : Nat} (hk : k < t.length) (hf : M.nf (M.nAt t k) ≠ -1) (ea : M.nl (M.nAt t k) = a) (eb : M.nr (M.nAt t k) = b) (f : Nat) (c : Int) (j : Nat) : cmI t xs k a b f c 0 j = cmL t xs k j := by
  obtain ⟨a', b', ea', eb', h1, h2, h3, h4, h5⟩ := M.ask_at F.2.2.2.2.1 hk hf
  have e1 : a' = a := by omega
  have e2 : b' = b := by omega
  subst e1
  subst e2
  have ua : M.abv t a' = some k := (M.abv_iff F h2).2 ⟨hk, hf, .inl ea⟩
  have ub : M.abv t b' = some k := (M.abv_iff F h4).2 ⟨hk, hf, .inr eb⟩
  unfold cmI
  rw [List.take_zero, partX_none, partX_none]
  split
  · rename_i q; subst q; unfold cmL; rw [ua]; simp
  · split
    · rename_i q; subst q; unfold cmL; rw [ub]; simp
    · rfl
theorem cmI_end {t : List M.Nd} {xs : List Sx} {m : Nat} (D : Dwn t xs m) {k a b : Nat} (hk : k < t.length) (hf : M.nf (M.nAt t k) ≠ -1) (ea : M.nl (M.nAt t k) = a) (eb : M.nr (M.nAt t k) = b) {j : Nat} (hj : j < t.length) : cmI t xs k a b (M.nf (M.nAt t k)).toNat (M.nc (M.nAt t k)) (hX t xs k).length j = cmL t xs (k + 1) j := by
  have F := D.fair
  obtain ⟨a', b', ea', eb', h1, h2, h3, h4, h5⟩ := M.ask_at F.2.2.2.2.1 hk hf
  have e1 : a' = a := by omega
  have e2 : b' = b := by omega
  subst e1
  subst e2
  have ua : M.abv t a' = some k := (M.abv_iff F h2).2 ⟨hk, hf, .inl ea⟩
  have ub : M.abv t b' = some k := (M.abv_iff F h4).2 ⟨hk, hf, .inr eb⟩
  obtain ⟨c1, c2⟩ := hX_child D hk hf ea eb
  unfold cmI
  rw [List.take_length, ← c1, ← c2]
  split
  · rename_i q; subst q; unfold cmL; rw [ua]; simp
  · rename_i n1
    split
    · rename_i q; subst q; unfold cmL; rw [ub]; simp
    · rename_i n2
      unfold cmL
      cases e : M.abv t j with
      | none => rfl
      | some i =>
        simp only
        have ne : i ≠ k := fun q => by
          obtain ⟨_, _, h7⟩ := (M.abv_iff F hj).1 e
          rw [q] at h7
          rcases h7 with h7 | h7
          · exact n1 (by omega)
          · exact n2 (by omega)
        by_cases q : i < k
        · rw [if_pos q, if_pos (by omega)]
        · rw [if_neg q, if_neg (by omega)]
theorem cmI_stay {t : List M.Nd} {xs : List Sx} {k a b f : Nat} {c : Int} {n j : Nat} (ha : j ≠ a) (hb : j ≠ b) : cmI t xs k a b f c n j = cmL t xs k j := by unfold cmI; rw [if_neg ha, if_neg hb]
theorem cmI_more {t : List M.Nd} {xs : List Sx} {k a b f : Nat} (hab : a ≠ b) {c : Int} {n : Nat} (hn : n < (hX t xs k).length) (j : Nat) : cmI t xs k a b f c (n + 1) j = if j = (if (hX t xs k)[n].2.1.getD f 0 < c then a else b) then cmI t xs k a b f c n j ++ [(hX t xs k)[n]] else cmI t xs k a b f c n j := by
  unfold cmI
  rw [partX_more _ f c true hn, partX_more _ f c false hn]
  have tt : (true == true) = true := rfl
  have tf : ¬ (true == false) = true := by decide
  have ft : ¬ (false == true) = true := by decide
  have ff : (false == false) = true := rfl
  by_cases q : (hX t xs k)[n].2.1.getD f 0 < c
  · have d : decide ((hX t xs k)[n].2.1.getD f 0 < c) = true := decide_eq_true q
    rw [d]
    simp only [if_pos tt, if_neg tf, if_pos q]
    by_cases ja : j = a
    · simp only [if_pos ja]
    · simp only [if_neg ja]
  · have d : decide ((hX t xs k)[n].2.1.getD f 0 < c) = false := decide_eq_false q
    rw [d]
    simp only [if_neg ft, if_pos ff, if_neg q]
    by_cases jb : j = b
    · have ja : ¬ j = a := fun e => hab (by omega)
      simp only [if_neg ja, if_pos jb]
    · simp only [if_neg jb]

/-! ### where they lie -/
/-- a row of rows of samples of our own, but for the first -/
structure Cm (B : Nat) (W : World) (g n : Nat) (V : Nat → Value) (L : Nat → List Sx) : Prop where
  mn : W.ownsRow B 27 1 (.slice (some ⟨g, 0, none⟩) n n) n ((List.range n).map V)
  own : ∀ i, 0 < i → i < n → W.ownsRow B 52 2 (V i) (L i).length (saCells (L i))
  dj : ∀ i j, 0 < i → i < n → 0 < j → j < n → i ≠ j → (V i).ownBlock = none ∨ (V i).ownBlock ≠ (V j).ownBlock
  ne : ∀ i, 0 < i → i < n → (V i).ownBlock ≠ some g
theorem Cm.cell {B : Nat} {W : World} {g n : Nat} {V : Nat → Value} {L : Nat → List Sx} (h : Cm B W g n V L) {i : Nat} (hi : i < n) : W.cell? ⟨g, i, none⟩ = some (V i) := by
  rw [h.mn.cellAt i (by omega)]
  simp [hi]
theorem Cm.frozen {B : Nat} {W : World} {g n : Nat} {V : Nat → Value} {L : Nat → List Sx} (h : Cm B W g n V L) (i : Nat) : W.frozen? ⟨g, i, none⟩ = false := h.mn.frozenAt i
theorem Cm.lt {B : Nat} {W : World} {g n : Nat} {V : Nat → Value} {L : Nat → List Sx} (h : Cm B W g n V L) : B ≤ g ∧ g < W.heap.size := h.mn.lt g rfl
theorem Cm.up {B : Nat} {W W' : World} {g n : Nat} {V : Nat → Value} {L : Nat → List Sx} (h : Cm B W g n V L) (hb : Below W.heap.size W W') : Cm B W' g n V L :=
  ⟨own_up h.mn hb, fun i h0 hi => own_up (h.own i h0 hi) hb, h.dj, h.ne⟩
/-- another block turns -/
theorem Cm.kept {B : Nat} {W W' : World} {g n q : Nat} {V : Nat → Value} {L : Nat → List Sx} (h : Cm B W g n V L) (hq : q < B) (hg : W.grownBy W' (some q)) : Cm B W' g n V L :=
  ⟨h.mn.kept hg (.inr (fun e => by have := h.lt.1; have e' : g = q := (by simpa [Value.ownBlock] using e); omega)), fun i h0 hi => (h.own i h0 hi).kept hg (.inr (fun e => by have := ((h.own i h0 hi).lt q e).1; omega)), h.dj, h.ne⟩
theorem Cm.same {B : Nat} {W : World} {g n : Nat} {V : Nat → Value} {L L' : Nat → List Sx} (h : Cm B W g n V L) (e : ∀ i, 0 < i → i < n → L' i = L i) : Cm B W g n V L' :=
  ⟨h.mn, fun i h0 hi => by rw [e i h0 hi]; exact h.own i h0 hi, h.dj, h.ne⟩
theorem Cm.rd {B : Nat} {W : World} {g n : Nat} {V : Nat → Value} {L : Nat → List Sx} (h : Cm B W g n V L) {i : Nat} (h0 : 0 < i) (hi : i < n) (hm : (L i).length ≤ maxLen) (hr : ∀ x ∈ L i, Rd W x.1 x.2.1) : ∃ a c, V i = .slice a (L i).length c ∧ RdL W a (L i) := own_rdL rfl hm (h.own i h0 hi) hr
theorem map_upd (n : Nat) (V : Nat → Value) (i : Nat) (v : Value) : ((List.range n).map V).set i v = (List.range n).map (fun j => if j = i then v else V j) := by
  refine List.ext_getElem (by simp) fun j h1 h2 => ?_
  have hj : j < n := by simpa using h2
  rw [List.getElem_set]
  by_cases e : i = j
  · subst e; simp
  · have e' : ¬ j = i := fun q => e q.symm
    simp [e, e']
/-- one more at a node -/
theorem Cm.push {B : Nat} {W w7 : World} {g n : Nat} {V : Nat → Value} {L : Nat → List Sx} (h : Cm B W g n V L) (hB : B ≤ W.heap.size) {i : Nat} (h0 : 0 < i) (hi : i < n) {o : Obj} {g7 c : Nat} {u : Sx} (hg : (W.alloc o).grownBy w7 (V i).ownBlock) (ho : w7.ownsRow B 52 2 (.slice (some ⟨g7, 0, none⟩) ((L i).length + 1) c) ((L i).length + 1) (saCells (L i) ++ [sxV u, .int .i64 u.2.2.2])) (hat : (V i).ownBlock = some g7 ∨ g7 = W.heap.size + 1) :
    w7.cell? ⟨g, i, none⟩ = some (V i) ∧ w7.frozen? ⟨g, i, none⟩ = false ∧ Cm B (w7.setCell ⟨g, i, none⟩ (.slice (some ⟨g7, 0, none⟩) ((L i).length + 1) c)) g n (fun j => if j = i then .slice (some ⟨g7, 0, none⟩) ((L i).length + 1) c else V j) (fun j => if j = i then L j ++ [u] else L j) := by
  have gl := h.lt
  have m7 : w7.ownsRow B 27 1 (.slice (some ⟨g, 0, none⟩) n n) n ((List.range n).map V) := (h.mn.alloc _).kept hg (.inr (fun e => h.ne i h0 hi e.symm))
  have g7n : g7 ≠ g := fun e => by
    rcases hat with q | q
    · exact h.ne i h0 hi (by rw [q, e])
    · omega
  have gs : ∀ v, w7.grownBy (w7.setCell ⟨g, i, none⟩ v) (some g) := fun v => grown_set
  refine ⟨by rw [m7.cellAt i (by omega)]; simp [hi], m7.frozenAt i, ⟨?_, fun j j0 hj => ?_, fun j k j0 hj k0 hk hjk => ?_, fun j j0 hj => ?_⟩⟩
  · rw [← map_upd]
    exact (m7.stored i _).1
  · by_cases e : j = i
    · subst e
      simp only [if_pos]
      rw [saCells_snoc, List.length_append]
      exact ho.kept (gs _) (.inr (fun q => by cases q; exact g7n rfl))
    · simp only [if_neg e]
      have k1 := ((h.own j j0 hj).alloc o).kept hg (h.dj j i j0 hj h0 hi e)
      exact k1.kept (gs _) (.inr (h.ne j j0 hj))
  · by_cases e : j = i
    · subst e
      have e2 : ¬ k = j := fun q => hjk q.symm
      simp only [if_pos, if_neg e2]
      refine .inr (fun q => ?_)
      have q' : some g7 = (V k).ownBlock := q
      rcases hat with p | p
      · rcases h.dj j k j0 hj k0 hk hjk with z | z
        · rw [z] at p; cases p
        · exact z (by rw [p, q'])
      · have := ((h.own k k0 hk).lt g7 q'.symm).2
        omega
    · by_cases e2 : k = i
      · subst e2
        simp only [if_neg e, if_pos]
        cases hv : (V j).ownBlock with
        | none => exact .inl rfl
        | some z =>
          refine .inr (fun q => ?_)
          have q' : z = g7 := by simpa [Value.ownBlock] using q
          subst q'
          rcases hat with p | p
          · rcases h.dj j k j0 hj k0 hk hjk with y | y
            · rw [hv] at y; cases y
            · exact y (by rw [hv, p])
          · have := ((h.own j j0 hj).lt z hv).2
            omega
      · simp only [if_neg e, if_neg e2]
        exact h.dj j k j0 hj k0 hk hjk
  · by_cases e : j = i
    · subst e
      simp only [if_pos]
      intro q
      cases q
      exact g7n rfl
    · simp only [if_neg e]
      exact h.ne j j0 hj

end Go.Proofs.YtlloiccodjnkcagGreatDoor

namespace Go.Proofs.YtlloiccodjnkcagGreatDoor
open Go.ChangeShapes Go.WideShapes Go.ChangeAt Go.RowKit Go.Lib
set_option linter.unusedVariables false

theorem toleft_any (n : M.Nd) (x : Int) (w : World) :
    Calls Tryz.prog 65 #[ndV n, .int .i64 x] w fun e w' => e = .returned (.bool (M.lessC n x)) ∧ Below w.heap.size w w' := by
  have NX : Hid (M.lessC n x = if x = M.nilI then M.ns n else decide (x < M.nc n)) := rfl
  unfold ndV
  generalize M.lessC n x = o at *
  generalize M.nc n = c at *
  generalize M.ns n = s at *
  by_cases hn : x = M.nilI
  · have q : (x == -1125899906842624) = true := by rw [beq_iff_eq]; exact hn
    have E : Hid (s = o) := by have := NX.out; rw [if_pos hn] at this; exact this.symm
    clear NX hn
    go_enter Tryz.func65, Tryz.ntmps65
    go_wp2
    go_ret
    exact ⟨ret_bool E.out, (Below.refl _ _).alloc (Nat.le_refl _) _⟩
  · have q : (x == -1125899906842624) = false := by rw [beq_eq_false_iff_ne]; exact hn
    have E : Hid (decide (x < c) = o) := by have := NX.out; rw [if_neg hn] at this; exact this.symm
    clear NX hn
    go_enter Tryz.func65, Tryz.ntmps65
    go_wp2
    go_ret
    exact ⟨ret_bool E.out, (Below.refl _ _).alloc (Nat.le_refl _) _⟩

end Go.Proofs.YtlloiccodjnkcagGreatDoor

namespace Go.Proofs.YtlloiccodjnkcagGreatDoor
open Go.ChangeShapes Go.WideShapes Go.ChangeAt Go.RowKit Go.Lib
set_option linter.unusedVariables false

theorem nAt_last (O : List M.Nd) (n : M.Nd) (C : List M.Nd) : M.nAt (O ++ n :: C) O.length = n := by unfold M.nAt; simp [List.getD]
theorem set_last (O : List M.Nd) (n n' : M.Nd) (C : List M.Nd) : (O ++ n :: C).set O.length n' = O ++ n' :: C := by
  rw [List.set_append_right _ _ (Nat.le_refl _), Nat.sub_self, List.set_cons_zero]
theorem six_keep {w W : World} {b off : Nat} {n : M.Nd} (hb : W.heap[b]? = w.heap[b]?) (h : SixAt w b off n) : SixAt W b off n := by
  obtain ⟨h0, h1, h2, h3, h4, h5⟩ := h
  exact ⟨(World.cell?_of_block (a := ⟨b, _, none⟩) hb).trans h0, (World.cell?_of_block (a := ⟨b, _, none⟩) hb).trans h1, (World.cell?_of_block (a := ⟨b, _, none⟩) hb).trans h2, (World.cell?_of_block (a := ⟨b, _, none⟩) hb).trans h3, (World.cell?_of_block (a := ⟨b, _, none⟩) hb).trans h4, (World.cell?_of_block (a := ⟨b, _, none⟩) hb).trans h5⟩

theorem six_alloc (w : World) (n : M.Nd) (t : TypeId) : SixAt ((w.alloc (.cells #[.int .i64 (M.nf n), .int .i64 (M.nc n), .int .i64 (M.nl n), .int .i64 (M.nr n), .bool (M.ns n), .int .i64 (M.nv n)] t)).drew) w.heap.size 0 n :=
  ⟨World.cell?_alloc_at _ _ _ 0 rfl, World.cell?_alloc_at _ _ _ 1 rfl, World.cell?_alloc_at _ _ _ 2 rfl, World.cell?_alloc_at _ _ _ 3 rfl, World.cell?_alloc_at _ _ _ 4 rfl, World.cell?_alloc_at _ _ _ 5 rfl⟩

end Go.Proofs.YtlloiccodjnkcagGreatDoor
