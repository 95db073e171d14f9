/-
  Several texts as one: TStray, TDepth, TCheck.
-/
import Derived.Test.YtjjfmepinpmkfaaGreatDoorRunA11
import Derived.ChangeAlike
namespace Go.Proofs.YtjjfmepinpmkfaaGreatDoor
open Go.ChangeShapes Go.WideShapes Go.ChangeAt Go.RowKit Go.Lib
set_option linter.unusedVariables false
/-- an array of 63 numbers of our own -/
def Arr (w : World) (B g : Nat) (F : List Int) : Prop := F.length = 63 ∧ w.ownsRow B 234 1 (.slice (some ⟨g, 0, none⟩) 63 63) 63 (F.map (Value.int .i64))
theorem Arr.cell {w : World} {B g : Nat} {F : List Int} (h : Arr w B g F) {i : Nat} (hi : i < 63) : w.cell? ⟨g, i, none⟩ = some (.int .i64 (F.getD i 0)) := by
  rw [h.2.cellAt i (by omega)]
  have := h.1
  simp [List.getD, show i < F.length by omega]
theorem Arr.frozen {w : World} {B g : Nat} {F : List Int} (h : Arr w B g F) (i : Nat) : w.frozen? ⟨g, i, none⟩ = false := h.2.frozenAt i
theorem Arr.set {w : World} {B g : Nat} {F : List Int} (h : Arr w B g F) (i : Nat) (x : Int) : Arr (w.setCell ⟨g, i, none⟩ (.int .i64 x)) B g (F.set i x) := by
  refine ⟨by rw [List.length_set]; exact h.1, ?_⟩
  rw [List.map_set]
  exact (h.2.stored i (.int .i64 x)).1
theorem Arr.up {w w' : World} {B g : Nat} {F : List Int} (h : Arr w B g F) (hb : Below w.heap.size w w') : Arr w' B g F := ⟨h.1, own_up h.2 hb⟩
theorem Arr.lt {w : World} {B g : Nat} {F : List Int} (h : Arr w B g F) : B ≤ g ∧ g < w.heap.size := h.2.lt g rfl
theorem Arr.new (w : World) (B : Nat) (hB : B ≤ w.heap.size) : Arr (w.alloc (.cells ((List.replicate 63 (Value.int .i64 0)).toArray) 234)) B w.heap.size (List.replicate 63 0) := by
  refine ⟨by simp, ?_⟩
  have := World.ownsRow_lit (base := B) (e := 234) (size := 1) w ((List.replicate 63 (Value.int .i64 0)).toArray) 63 hB (by unfold maxLen; omega) (by simp)
  rw [List.map_replicate]
  exact this
theorem cell_other {w : World} {g h a k : Nat} {v : Value} (hn : h ≠ g) : (w.setCell ⟨g, a, none⟩ v).cell? ⟨h, k, none⟩ = w.cell? ⟨h, k, none⟩ := by
  unfold World.cell? World.setCell
  simp [Array.getElem?_modify, hn.symm]

/-- a round's facts -/
theorem two_cells {wr W : World} {B g : Nat} {F : List Int} {o : Obj} {a b : Nat} (hA : Arr wr B g F) (hW : Below (wr.alloc o).heap.size (wr.alloc o) W) (ha : a < 63) (hb : b < 63) (hab : a ≠ b) (x y : Int) :
    W.cell? ⟨g, a, none⟩ = some (.int .i64 (F.getD a 0)) ∧ W.frozen? ⟨g, a, none⟩ = false ∧
    (∀ k, (W.setCell ⟨g, a, none⟩ (.int .i64 x)).cell? ⟨wr.heap.size, k, none⟩ = W.cell? ⟨wr.heap.size, k, none⟩) ∧
    (W.setCell ⟨g, a, none⟩ (.int .i64 x)).cell? ⟨g, b, none⟩ = some (.int .i64 (F.getD b 0)) ∧ (W.setCell ⟨g, a, none⟩ (.int .i64 x)).frozen? ⟨g, b, none⟩ = false ∧
    Arr ((W.setCell ⟨g, a, none⟩ (.int .i64 x)).setCell ⟨g, b, none⟩ (.int .i64 y)) B g ((F.set a x).set b y) := by
  have h1 : Arr (wr.alloc o) B g F := hA.up ((Below.refl _ _).alloc (Nat.le_refl _) _)
  have h2 : Arr W B g F := h1.up hW
  have h3 := h2.set a x
  refine ⟨h2.cell ha, h2.frozen a, fun k => cell_other (by have := hA.lt; omega), ?_, h3.frozen b, h3.set b y⟩
  rw [h3.cell hb]
  simp [List.getD, List.getElem?_set_ne hab]

set_option maxHeartbeats 4000000 in
set_option maxRecDepth 10000 in
theorem stray_any (a0 : Option Addr) (ts : List M.Nd) (cap : Nat) (m : Int) (w : World) (h : RdN w a0 ts) (hl : ts.length ≤ 63) (hf : ∀ j, j < ts.length → M.nodeF (M.nAt ts j) j ts.length m = 0) :
    Calls Tryz.prog 136 #[.slice a0 ts.length cap] w fun e w' => e = .returned (.int .i64 (M.strayV ts : Nat)) ∧ Below w.heap.size w w' := by
  have hm : ts.length ≤ 9223372036854775807 := h.1
  have HR := hide h.2
  have HF := hide hf
  clear h hf
  have SH : Hid (∀ i, i < ts.length → 0 < i → M.ups ts i ≠ 1 → (∀ j, 0 < j → j < i → M.ups ts j = 1) → M.strayV ts = i) := fun i h1 h2 h3 h4 => M.stray_hit h1 h2 h3 h4
  have SM : Hid ((∀ j, 0 < j → j < ts.length → M.ups ts j = 1) → M.strayV ts = 0) := fun h => M.stray_miss h
  generalize M.strayV ts = sv at *
  go_enter Tryz.func136, Tryz.ntmps136
  go_wp2
  go_loopw [9] (fun i wr => ∃ k : Nat, k ≤ ts.length ∧ i = .int .i64 k ∧ Arr wr w.heap.size w.heap.size (M.upsL ts k) ∧ Below w.heap.size w wr) (fun i _ => ts.length - (intOf i).toNat)
  case atStart =>
    refine ⟨0, Nat.zero_le _, rfl, ?_, (Below.refl _ w).alloc (Nat.le_refl _) _⟩
    rw [M.upsL_zero]
    exact Arr.new w w.heap.size (Nat.le_refl _)
  case round =>
    obtain ⟨k, hk, rfl, hown, hbl⟩ := hrel
    by_cases hlt : k < ts.length
    · obtain ⟨b0, off, rfl, hb0, hc⟩ := HR.out (by intro e; subst e; simp at hlt)
      obtain ⟨s0, s1, s2, s3, s4, s5⟩ := (hc k hlt).below hbl hb0
      have C1 := hide (isleaf_any (M.nAt ts k))
      unfold ndV at C1
      have NB : Hid (∀ o W, Below (wr.alloc o).heap.size (wr.alloc o) W → Below w.heap.size w W) := fun o W hW => below_on (below_on hbl ((Below.refl _ wr).alloc (Nat.le_refl _) o)) hW
      by_cases hf : M.nf (M.nAt ts k) = -1
      · have e1 : M.leafB (M.nAt ts k) = true := decide_eq_true hf
        rw [e1] at C1
        have NA : Hid (∀ o W, Below (wr.alloc o).heap.size (wr.alloc o) W → Arr W w.heap.size w.heap.size (M.upsL ts (k + 1))) := fun o W hW => by
          rw [M.upsL_leaf hlt hf]; exact (hown.up ((Below.refl _ wr).alloc (Nat.le_refl _) o)).up hW
        clear hc e1 hf hown hbl
        generalize M.nf (M.nAt ts k) = f at *
        generalize M.nc (M.nAt ts k) = c at *
        generalize M.nl (M.nAt ts k) = l at *
        generalize M.nr (M.nAt ts k) = r at *
        generalize M.ns (M.nAt ts k) = sl at *
        generalize M.nv (M.nAt ts k) = v at *
        go_wp2_with (go_at_call 125; refine (C1.out _).mono ?_; rintro e w1 ⟨rfl, hb1⟩)
        go_roundw
        case rel => exact ⟨k + 1, by omega, by go_num, NA.out _ w1 hb1, NB.out _ w1 hb1⟩
        case measure => simp [intOf]; omega
      · have e1 : M.leafB (M.nAt ts k) = false := decide_eq_false hf
        rw [e1] at C1
        obtain ⟨a, b, ea, eb, h1, h2, h3, h4, hab⟩ := M.ask_at HF.out hlt hf
        rw [ea] at s2 C1
        rw [eb] at s3 C1
        have ha : a < 63 := by omega
        have hb : b < 63 := by omega
        have TW := hide (fun o W (hW : Below (wr.alloc o).heap.size (wr.alloc o) W) => two_cells (x := (M.upsL ts k).getD a 0 + 1) (y := (M.upsL ts k).getD b 0 + 1) hown hW ha hb hab)
        have NE := hide (M.upsL_ask hlt hf ea eb ha hb hab)
        have za : 0 ≤ (M.upsL ts k).getD a 0 ∧ (M.upsL ts k).getD a 0 ≤ 126 := by
          rw [M.upsL_at ts k ha]
          have := M.ups_le (ts.take k) (a : Int)
          rw [List.length_take] at this
          omega
        have zb : 0 ≤ (M.upsL ts k).getD b 0 ∧ (M.upsL ts k).getD b 0 ≤ 126 := by
          rw [M.upsL_at ts k hb]
          have := M.ups_le (ts.take k) (b : Int)
          rw [List.length_take] at this
          omega
        obtain ⟨za0, za1⟩ := za
        obtain ⟨zb0, zb1⟩ := zb
        clear hc e1 hf hown hbl ea eb
        generalize (M.upsL ts k).getD a 0 = xa at *
        generalize (M.upsL ts k).getD b 0 = xb at *
        generalize M.nf (M.nAt ts k) = f at *
        generalize M.nc (M.nAt ts k) = c at *
        generalize M.ns (M.nAt ts k) = sl at *
        generalize M.nv (M.nAt ts k) = v at *
        go_wp2_with (go_at_call 125; refine (C1.out _).mono ?_; rintro e w1 ⟨rfl, hb1⟩; obtain ⟨t1, t2, t3, t4, t5, t6⟩ := TW.out _ w1 hb1; have hcell : ∀ k, w1.cell? ⟨wr.heap.size, k, none⟩ = _ := fun k => hb1.cell (p := ⟨wr.heap.size, k, none⟩) (by simp))
        go_roundw
        case rel =>
          refine ⟨k + 1, by omega, by go_num, ?_, ((NB.out _ w1 hb1).setCell (Nat.le_refl _) _).setCell (Nat.le_refl _) _⟩
          rw [← NE.out]; exact t6
        case measure => simp [intOf]; omega
    · have hke : k = ts.length := by omega
      rw [hke] at hown
      have CE : Hid (∀ i, i < 63 → wr.cell? ⟨w.heap.size, i, none⟩ = some (.int .i64 ((M.ups ts (i : Int) : Nat) : Int))) := fun i hi => by
        rw [hown.cell hi, M.upsL_at ts _ hi, List.take_length]
      have UL : Hid (∀ i : Nat, M.ups ts i ≤ 126) := fun i => by have := M.ups_le ts (i : Int); omega
      clear hown hke
      go_wp2
      go_loop [6] (fun i => ∃ j : Nat, 0 < j ∧ j ≤ ts.length + 1 ∧ i = .int .i64 j ∧ Hid (∀ p, 0 < p → p < j → M.ups ts p = 1)) (fun i => ts.length + 1 - (intOf i).toNat)
      case atStart => exact ⟨1, by omega, by omega, rfl, fun p h1 h2 => by omega⟩
      case round =>
        obtain ⟨j, hj0, hj, rfl, I⟩ := hrel
        by_cases hlt2 : j < ts.length
        · have hc := CE.out j (by omega)
          by_cases hu : M.ups ts (j : Int) = 1
          · have N : Hid (∀ p, 0 < p → p < j + 1 → M.ups ts p = 1) := fun p h1 h2 => by
              by_cases e : p = j
              · subst e; exact hu
              · exact I.out p h1 (by omega)
            have q : (((M.ups ts (j : Int) : Nat) : Int) != 1) = false := by rw [bne_eq_false_iff_eq]; omega
            clear hu
            generalize ((M.ups ts (j : Int) : Nat) : Int) = u at *
            go_wp2
            go_round
            case rel => exact ⟨j + 1, by omega, by omega, by go_num, N⟩
            case measure => simp [intOf]; omega
          · have E := hide (SH.out j hlt2 hj0 hu I.out)
            have q : (((M.ups ts (j : Int) : Nat) : Int) != 1) = true := by rw [bne_iff_ne]; omega
            clear hu
            generalize ((M.ups ts (j : Int) : Nat) : Int) = u at *
            go_wp2
            go_ret
            exact ⟨ret_int (by rw [E.out]), hbl⟩
        · have E := hide (SM.out fun p h1 h2 => I.out p h1 (by omega))
          go_wp2
          go_ret
          exact ⟨ret_int (by rw [E.out]; rfl), hbl⟩
/-- a round's facts -/
theorem lev_cells {wr W : World} {B g : Nat} {F : List Int} {o : Obj} {a b k : Nat} (hA : Arr wr B g F) (hW : Below (wr.alloc o).heap.size (wr.alloc o) W) (hk : k < 63) (hak : a ≠ k) (ha : a < 63) (hb : b < 63) (x y : Int) :
    (∃ z, W.cell? ⟨g, a, none⟩ = some (.int .i64 z)) ∧ (∃ z, (W.setCell ⟨g, a, none⟩ (.int .i64 x)).cell? ⟨g, b, none⟩ = some (.int .i64 z)) ∧
    W.cell? ⟨g, k, none⟩ = some (.int .i64 (F.getD k 0)) ∧ W.frozen? ⟨g, a, none⟩ = false ∧
    (∀ j, (W.setCell ⟨g, a, none⟩ (.int .i64 x)).cell? ⟨wr.heap.size, j, none⟩ = W.cell? ⟨wr.heap.size, j, none⟩) ∧
    (W.setCell ⟨g, a, none⟩ (.int .i64 x)).cell? ⟨g, k, none⟩ = some (.int .i64 (F.getD k 0)) ∧ (W.setCell ⟨g, a, none⟩ (.int .i64 x)).frozen? ⟨g, b, none⟩ = false ∧
    Arr ((W.setCell ⟨g, a, none⟩ (.int .i64 x)).setCell ⟨g, b, none⟩ (.int .i64 y)) B g ((F.set a x).set b y) := by
  have h1 : Arr (wr.alloc o) B g F := hA.up ((Below.refl _ _).alloc (Nat.le_refl _) _)
  have h2 : Arr W B g F := h1.up hW
  have h3 := h2.set a x
  refine ⟨⟨_, h2.cell ha⟩, ⟨_, h3.cell hb⟩, h2.cell hk, h2.frozen a, fun k => cell_other (by have := hA.lt; omega), ?_, h3.frozen b, h3.set b y⟩
  rw [h3.cell hk]
  simp [List.getD, List.getElem?_set_ne hak]
theorem max_val {dk lv n : Nat} (h : n = max dk lv) : Value.int .i64 (if dk < lv then (lv : Int) else (dk : Int)) = .int .i64 (n : Nat) := by
  rw [h]; congr 1; split <;> omega

set_option maxHeartbeats 4000000 in
set_option maxRecDepth 10000 in
theorem depth_any (a0 : Option Addr) (ts : List M.Nd) (cap : Nat) (m : Int) (w : World) (h : RdN w a0 ts) (hl : ts.length ≤ 63) (hf : ∀ j, j < ts.length → M.nodeF (M.nAt ts j) j ts.length m = 0) :
    Calls Tryz.prog 137 #[.slice a0 ts.length cap] w fun e w' => e = .returned (.int .i64 (M.deepest ts ts.length : Nat)) ∧ Below w.heap.size w w' := by
  have hm : ts.length ≤ 9223372036854775807 := h.1
  have HR := hide h.2
  have HF := hide hf
  clear h hf
  have DE : Hid (∀ k, k = ts.length → M.deepest ts k = M.deepest ts ts.length) := fun k e => by rw [e]
  generalize M.deepest ts ts.length = dv at *
  go_enter Tryz.func137, Tryz.ntmps137
  go_wp2
  go_loopw [4, 9] (fun d i wr => ∃ k : Nat, k ≤ ts.length ∧ i = .int .i64 k ∧ d = .int .i64 (M.deepest ts k : Nat) ∧ Arr wr w.heap.size w.heap.size (M.levL ts k) ∧ Below w.heap.size w wr) (fun _ i _ => ts.length - (intOf i).toNat)
  case atStart =>
    refine ⟨0, Nat.zero_le _, rfl, rfl, ?_, (Below.refl _ w).alloc (Nat.le_refl _) _⟩
    rw [M.levL_zero]
    exact Arr.new w w.heap.size (Nat.le_refl _)
  case round =>
    obtain ⟨k, hk, rfl, rfl, hown, hbl⟩ := hrel
    by_cases hlt : k < ts.length
    · obtain ⟨b0, off, rfl, hb0, hc⟩ := HR.out (by intro e; subst e; simp at hlt)
      obtain ⟨s0, s1, s2, s3, s4, s5⟩ := (hc k hlt).below hbl hb0
      have C1 := hide (isleaf_any (M.nAt ts k))
      unfold ndV at C1
      have k63 : k < 63 := by omega
      have NB : Hid (∀ o W, Below (wr.alloc o).heap.size (wr.alloc o) W → Below w.heap.size w W) := fun o W hW => below_on (below_on hbl ((Below.refl _ wr).alloc (Nat.le_refl _) o)) hW
      have ck : wr.cell? ⟨w.heap.size, k, none⟩ = some (.int .i64 ((M.levL ts k).getD k 0)) := hown.cell k63
      have glt : w.heap.size < wr.heap.size := hown.lt.2
      have DN : Hid (M.deepest ts (k + 1) = max (M.deepest ts k) (M.lev ts k k)) := rfl
      have LV : Hid ((M.levL ts k).getD k 0 = ((M.lev ts k k : Nat) : Int)) := M.levL_at ts k k63
      have DB := M.deep_le ts k
      have LB := M.lev_le ts k k
      by_cases hf : M.nf (M.nAt ts k) = -1
      · have e1 : M.leafB (M.nAt ts k) = true := decide_eq_true hf
        rw [e1] at C1
        have NA : Hid (∀ o W, Below (wr.alloc o).heap.size (wr.alloc o) W → Arr W w.heap.size w.heap.size (M.levL ts (k + 1))) := fun o W hW => by
          rw [M.levL_leaf hf]; exact (hown.up ((Below.refl _ wr).alloc (Nat.le_refl _) o)).up hW
        rw [LV.out] at ck
        clear hc e1 hf hown hbl LV
        generalize M.lev ts k k = lv at *
        generalize M.deepest ts k = dk at *
        generalize M.nf (M.nAt ts k) = f at *
        generalize M.nc (M.nAt ts k) = c at *
        generalize M.nl (M.nAt ts k) = l at *
        generalize M.nr (M.nAt ts k) = r at *
        generalize M.ns (M.nAt ts k) = sl at *
        generalize M.nv (M.nAt ts k) = v at *
        go_wp2_with (go_at_call 125; refine (C1.out _).mono ?_; rintro e w1 ⟨rfl, hb1⟩)
        go_roundw
        case rel => exact ⟨k + 1, by omega, by go_num, max_val DN.out, NA.out _ w1 hb1, NB.out _ w1 hb1⟩
        case measure => simp [intOf]; omega
      · have e1 : M.leafB (M.nAt ts k) = false := decide_eq_false hf
        rw [e1] at C1
        obtain ⟨a, b, ea, eb, h1, h2, h3, h4, hab⟩ := M.ask_at HF.out hlt hf
        rw [ea] at s2 C1
        rw [eb] at s3 C1
        have ha : a < 63 := by omega
        have hb : b < 63 := by omega
        have TW := hide (fun o W (hW : Below (wr.alloc o).heap.size (wr.alloc o) W) => lev_cells (a := a) (b := b) (x := (M.levL ts k).getD k 0 + 1) (y := (M.levL ts k).getD k 0 + 1) hown hW k63 (by omega) ha hb)
        have NE := hide (M.levL_ask hf ea eb k63)
        rw [LV.out] at ck TW NE
        clear hc e1 hf hown hbl LV ea eb
        generalize M.lev ts k k = lv at *
        generalize M.deepest ts k = dk at *
        generalize M.nf (M.nAt ts k) = f at *
        generalize M.nc (M.nAt ts k) = c at *
        generalize M.ns (M.nAt ts k) = sl at *
        generalize M.nv (M.nAt ts k) = v at *
        go_wp2_with (go_at_call 125; refine (C1.out _).mono ?_; rintro e w1 ⟨rfl, hb1⟩; have hcell : ∀ k, w1.cell? ⟨wr.heap.size, k, none⟩ = _ := fun k => hb1.cell (p := ⟨wr.heap.size, k, none⟩) (by simp); have TT := TW.out _ w1 hb1; obtain ⟨q1, q2, t1, t2, t3, t4, t5, t6⟩ := TT; obtain ⟨za, c1⟩ := q1; obtain ⟨zb, c2⟩ := q2; generalize hmx : (if dk < lv then (lv : Int) else (dk : Int)) = mx; have HM := hide hmx; clear hmx)
        go_region
        all_goals go_wp2_with fail
        all_goals go_region
        all_goals go_wp2_with fail
        go_roundw
        case rel =>
          refine ⟨k + 1, by omega, by go_num, by rw [← HM.out]; exact max_val DN.out, ?_, (((NB.out _ w1 hb1).setCell (Nat.le_refl _) _).setCell (Nat.le_refl _) _).drew.drew⟩
          rw [← NE.out]; exact (t6.up (Below.refl _ _).drew).up (Below.refl _ _).drew
        case measure => simp [intOf]; omega
    · have E := hide (DE.out k (by omega))
      go_wp2
      go_ret
      exact ⟨ret_int (by rw [E.out]), hbl⟩
theorem two_val {n : Nat} {c : Int} {tf : Nat × Int} (h : tf = (n, c)) : Ending.returned (.tuple #[.int .i64 (n : Nat), errV c]) = .returned (.tuple #[.int .i64 (tf.1 : Nat), errV tf.2]) := by rw [h]

set_option maxHeartbeats 4000000 in
set_option maxRecDepth 10000 in
theorem tcheck_any (a0 : Option Addr) (ts : List M.Nd) (cap : Nat) (m : Int) (w : World) (h : RdN w a0 ts) :
    Calls Tryz.prog 123 #[.slice a0 ts.length cap, .int .i64 m] w fun e w' => e = .returned (.tuple #[.int .i64 ((M.treeF ts m).1 : Nat), errV (M.treeF ts m).2]) ∧ Below w.heap.size w w' := by
  have hm : ts.length ≤ 9223372036854775807 := h.1
  by_cases h63 : 63 < ts.length
  · have E := hide (M.tree_full (m := m) h63)
    have hd : decide ((63 : Int) < (ts.length : Int)) = true := decide_eq_true (by omega)
    clear h h63
    generalize M.treeF ts m = tf at *
    go_enter Tryz.func123, Tryz.ntmps123
    go_wp2
    go_ret2
    exact ⟨two_val E.out, Below.refl _ _⟩
  · have hd : decide ((63 : Int) < (ts.length : Int)) = false := decide_eq_false (by omega)
    by_cases h0 : ts.length = 0
    · have E := hide (M.tree_none (m := m) h0)
      have q0 : ((ts.length : Int) == 0) = true := by rw [beq_iff_eq]; omega
      clear h h63 h0
      generalize M.treeF ts m = tf at *
      generalize ts.length = len at *
      go_enter Tryz.func123, Tryz.ntmps123
      go_wp2
      go_ret2
      exact ⟨two_val E.out, Below.refl _ _⟩
    · have q0 : ((ts.length : Int) == 0) = false := by rw [beq_eq_false_iff_ne]; omega
      by_cases h1 : m < 0
      · have E := hide (M.tree_range h63 h0 (.inl h1))
        have q1 : decide (m < 0) = true := decide_eq_true h1
        clear h h63 h0 h1
        generalize M.treeF ts m = tf at *
        generalize ts.length = len at *
        go_enter Tryz.func123, Tryz.ntmps123
        go_wp2
        go_ret2
        exact ⟨two_val E.out, Below.refl _ _⟩
      · have q1 : decide (m < 0) = false := decide_eq_false h1
        by_cases h2 : 8 < m
        · have E := hide (M.tree_range h63 h0 (.inr h2))
          have q2 : decide (8 < m) = true := decide_eq_true h2
          clear h h63 h0 h1 h2
          generalize M.treeF ts m = tf at *
          generalize ts.length = len at *
          go_enter Tryz.func123, Tryz.ntmps123
          go_wp2
          go_ret2
          exact ⟨two_val E.out, Below.refl _ _⟩
        · have q2 : decide (8 < m) = false := decide_eq_false h2
          have l63 : ts.length ≤ 63 := by omega
          have TN : Hid (∀ i, i < ts.length → M.nodeF (M.nAt ts i) i ts.length m ≠ 0 → (∀ j, j < i → M.nodeF (M.nAt ts j) j ts.length m = 0) → M.treeF ts m = (i, M.nodeF (M.nAt ts i) i ts.length m)) := fun i hi hb hj => M.tree_node h63 h0 (by omega) hi hb hj
          have TS : Hid ((∀ j, j < ts.length → M.nodeF (M.nAt ts j) j ts.length m = 0) → 0 < M.strayV ts → M.treeF ts m = (M.strayV ts, 7)) := fun hb hs => M.stray_tree h63 h0 (by omega) hb hs
          have TF : Hid ((∀ j, j < ts.length → M.nodeF (M.nAt ts j) j ts.length m = 0) → M.strayV ts = 0 → M.treeF ts m = if 10 < M.deepest ts ts.length then (0, 4) else (0, 0)) := fun hb hs => by
            have F : M.Fair ts m := ⟨by omega, by omega, by omega, by omega, hb, M.stray_zero hs⟩
            rw [M.deepest_eq F]; exact M.tree_fair F
          have CS : Hid (∀ W, Below w.heap.size w W → (∀ j, j < ts.length → M.nodeF (M.nAt ts j) j ts.length m = 0) → Calls Tryz.prog 136 #[.slice a0 ts.length cap] W fun e w' => e = .returned (.int .i64 (M.strayV ts : Nat)) ∧ Below W.heap.size W w') := fun W hW hb => stray_any a0 ts cap m W (h.below hW) l63 hb
          have CD : Hid (∀ W, Below w.heap.size w W → (∀ j, j < ts.length → M.nodeF (M.nAt ts j) j ts.length m = 0) → Calls Tryz.prog 137 #[.slice a0 ts.length cap] W fun e w' => e = .returned (.int .i64 (M.deepest ts ts.length : Nat)) ∧ Below W.heap.size W w') := fun W hW hb => depth_any a0 ts cap m W (h.below hW) l63 hb
          have DB := M.deep_le ts ts.length
          have SB : M.strayV ts ≤ 63 := by
            rcases Nat.eq_zero_or_pos (M.strayV ts) with e | e
            · omega
            · unfold M.strayV
              cases q : M.firstN (M.strayP ts) ts.length with
              | none => simp
              | some k => have := (M.first_some q).1; simp; omega
          have HR := hide h.2
          clear h h63 h0 h1 h2
          generalize M.treeF ts m = tf at *
          generalize M.strayV ts = sv at *
          generalize M.deepest ts ts.length = dv at *
          go_enter Tryz.func123, Tryz.ntmps123
          go_wp2
          go_loopw [27] (fun i wr => ∃ k : Nat, k ≤ ts.length ∧ i = .int .i64 k ∧ Below w.heap.size w wr ∧ Hid (∀ j, j < k → M.nodeF (M.nAt ts j) j ts.length m = 0)) (fun i _ => ts.length - (intOf i).toNat)
          case atStart => exact ⟨0, Nat.zero_le _, rfl, Below.refl _ _, fun j hj => by omega⟩
          case round =>
            obtain ⟨k, hk, rfl, hbl, I⟩ := hrel
            by_cases hlt : k < ts.length
            · obtain ⟨b0, off, rfl, hb0, hc⟩ := HR.out (by intro e; subst e; simp at hlt)
              obtain ⟨s0, s1, s2, s3, s4, s5⟩ := (hc k hlt).below hbl hb0
              have C1 := hide (fun W => checknode_any (M.nAt ts k) k ts.length (k : Int) ((ts.length : Int) - 1) m W rfl rfl)
              unfold ndV at C1
              have NB : Hid (∀ o W, Below (wr.alloc o).heap.size (wr.alloc o) W → Below w.heap.size w W) := fun o W hW => below_on (below_on hbl ((Below.refl _ wr).alloc (Nat.le_refl _) o)) hW
              by_cases hf : M.nodeF (M.nAt ts k) k ts.length m = 0
              · have N : Hid (∀ j, j < k + 1 → M.nodeF (M.nAt ts j) j ts.length m = 0) := fun j hj => by
                  by_cases e : j = k
                  · subst e; exact hf
                  · exact I.out j (by omega)
                rw [err_nil hf] at C1
                clear hc hf hbl
                generalize M.nf (M.nAt ts k) = f at *
                generalize M.nc (M.nAt ts k) = c at *
                generalize M.nl (M.nAt ts k) = l at *
                generalize M.nr (M.nAt ts k) = r at *
                generalize M.ns (M.nAt ts k) = sl at *
                generalize M.nv (M.nAt ts k) = v at *
                go_wp2_with (go_at_call 135; refine (C1.out _).mono ?_; rintro e w1 ⟨rfl, hb1⟩)
                go_roundw
                case rel => exact ⟨k + 1, by omega, by go_num, NB.out _ w1 hb1, N⟩
                case measure => simp [intOf]; omega
              · have E := hide (TN.out k hlt hf I.out)
                have EE : Hid (errV (M.nodeF (M.nAt ts k) k ts.length m) = .iface 87 (.int .i64 (M.nodeF (M.nAt ts k) k ts.length m))) := err_some hf
                rw [err_some hf] at C1
                clear hc hf hbl TN
                generalize M.nodeF (M.nAt ts k) k ts.length m = cc at *
                generalize M.nf (M.nAt ts k) = f at *
                generalize M.nc (M.nAt ts k) = c at *
                generalize M.nl (M.nAt ts k) = l at *
                generalize M.nr (M.nAt ts k) = r at *
                generalize M.ns (M.nAt ts k) = sl at *
                generalize M.nv (M.nAt ts k) = v at *
                go_wp2_with (go_at_call 135; refine (C1.out _).mono ?_; rintro e w1 ⟨rfl, hb1⟩)
                go_ret2
                exact ⟨by rw [← EE.out]; exact two_val E.out, NB.out _ w1 hb1⟩
            · have A : Hid (∀ j, j < ts.length → M.nodeF (M.nAt ts j) j ts.length m = 0) := fun j hj => I.out j (by omega)
              have S1 := hide (CS.out wr hbl A.out)
              have D1 := hide (fun W (hW : Below w.heap.size w W) => CD.out W hW A.out)
              by_cases hs : sv = 0
              · have qs : decide (0 < sv) = false := decide_eq_false (by omega)
                have E1 := hide (TF.out A.out hs)
                by_cases h10 : 10 < dv
                · have qd : decide ((10 : Int) < (dv : Int)) = true := decide_eq_true (by omega)
                  have E : Hid (tf = (0, 4)) := by have := E1.out; rw [if_pos h10] at this; exact this
                  clear E1 TN TS TF A CS CD HR hs h10
                  go_wp2_with (first
                    | (go_at_call 136; refine S1.out.mono ?_; rintro e w1 ⟨rfl, hb1⟩)
                    | (go_at_call 137; refine (D1.out _ (below_on hbl hb1)).mono ?_; rintro e w2 ⟨rfl, hb2⟩))
                  go_ret2
                  exact ⟨two_val E.out, below_on (below_on hbl hb1) hb2⟩
                · have qd : decide ((10 : Int) < (dv : Int)) = false := decide_eq_false (by omega)
                  have E : Hid (tf = (0, 0)) := by have := E1.out; rw [if_neg h10] at this; exact this
                  clear E1 TN TS TF A CS CD HR hs h10
                  go_wp2_with (first
                    | (go_at_call 136; refine S1.out.mono ?_; rintro e w1 ⟨rfl, hb1⟩)
                    | (go_at_call 137; refine (D1.out _ (below_on hbl hb1)).mono ?_; rintro e w2 ⟨rfl, hb2⟩))
                  go_ret2
                  exact ⟨two_val E.out, below_on (below_on hbl hb1) hb2⟩
              · have qs : decide (0 < sv) = true := decide_eq_true (by omega)
                have E := hide (TS.out A.out (by omega))
                clear TN TS TF A CS CD HR hs D1
                go_wp2_with (go_at_call 136; refine S1.out.mono ?_; rintro e w1 ⟨rfl, hb1⟩)
                go_ret2
                exact ⟨two_val E.out, below_on hbl hb1⟩
end Go.Proofs.YtjjfmepinpmkfaaGreatDoor
