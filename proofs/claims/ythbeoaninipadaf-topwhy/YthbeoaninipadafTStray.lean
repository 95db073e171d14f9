/-
  What package tree's strayNode answers for every list of nodes each of which is right: the first place but the root that is not below just one, 0 if there is none.
-/
import Derived.Test.YthbeoaninipadafTNode
namespace Go.Proofs.Ythbeoaninipadaf
open Go.ChangeShapes Go.WideShapes Go.ChangeAt Go.RowKit Go.Lib
set_option linter.unusedVariables false

/-- an array of 63 numbers of our own -/
def Arr (w : World) (B g : Nat) (F : List Int) : Prop := F.length = 63 ∧ w.ownsRow B 36 1 (.slice (some ⟨g, 0, none⟩) 63 63) 63 (F.map (Value.int .i64))
theorem Arr.cell {w : World} {B g : Nat} {F : List Int} (h : Arr w B g F) {i : Nat} (hi : i < 63) : w.cell? ⟨g, i, none⟩ = some (.int .i64 (F.getD i 0)) := by
  rw [h.2.cellAt i (by omega)]
  have := h.1
  simp [List.getD, show i < F.length by omega]
theorem Arr.frozen {w : World} {B g : Nat} {F : List Int} (h : Arr w B g F) (i : Nat) : w.frozen? ⟨g, i, none⟩ = false := h.2.frozenAt i
theorem Arr.set {w : World} {B g : Nat} {F : List Int} (h : Arr w B g F) (i : Nat) (x : Int) : Arr (w.setCell ⟨g, i, none⟩ (.int .i64 x)) B g (F.set i x) := by
  refine ⟨by rw [List.length_set]; exact h.1, ?_⟩
  rw [List.map_set]
  exact (h.2.stored i (.int .i64 x)).1
theorem Arr.up {w w' : World} {B g : Nat} {F : List Int} (h : Arr w B g F) (hb : Below w.heap.size w w') : Arr w' B g F := ⟨h.1, own_up h.2 hb⟩
theorem Arr.lt {w : World} {B g : Nat} {F : List Int} (h : Arr w B g F) : B ≤ g ∧ g < w.heap.size := h.2.lt g rfl
theorem Arr.new (w : World) (B : Nat) (hB : B ≤ w.heap.size) : Arr (w.alloc (.cells ((List.replicate 63 (Value.int .i64 0)).toArray) 36)) B w.heap.size (List.replicate 63 0) := by
  refine ⟨by simp, ?_⟩
  have := World.ownsRow_lit (base := B) (e := 36) (size := 1) w ((List.replicate 63 (Value.int .i64 0)).toArray) 63 hB (by unfold maxLen; omega) (by simp)
  rw [List.map_replicate]
  exact this
theorem cell_other {w : World} {g h a k : Nat} {v : Value} (hn : h ≠ g) : (w.setCell ⟨g, a, none⟩ v).cell? ⟨h, k, none⟩ = w.cell? ⟨h, k, none⟩ := by
  unfold World.cell? World.setCell
  simp [Array.getElem?_modify, hn.symm]

/-- a round's facts -/
theorem two_cells {wr W : World} {B g : Nat} {F : List Int} {o : Obj} {a b : Nat} (hA : Arr wr B g F) (hW : Below (wr.alloc o).heap.size (wr.alloc o) W) (ha : a < 63) (hb : b < 63) (hab : a ≠ b) (x y : Int) :
    W.cell? ⟨g, a, none⟩ = some (.int .i64 (F.getD a 0)) ∧ W.frozen? ⟨g, a, none⟩ = false ∧
    (∀ k, (W.setCell ⟨g, a, none⟩ (.int .i64 x)).cell? ⟨wr.heap.size, k, none⟩ = W.cell? ⟨wr.heap.size, k, none⟩) ∧
    (W.setCell ⟨g, a, none⟩ (.int .i64 x)).cell? ⟨g, b, none⟩ = some (.int .i64 (F.getD b 0)) ∧ (W.setCell ⟨g, a, none⟩ (.int .i64 x)).frozen? ⟨g, b, none⟩ = false ∧
    Arr ((W.setCell ⟨g, a, none⟩ (.int .i64 x)).setCell ⟨g, b, none⟩ (.int .i64 y)) B g ((F.set a x).set b y) := by
  have h1 : Arr (wr.alloc o) B g F := hA.up ((Below.refl _ _).alloc (Nat.le_refl _) _)
  have h2 : Arr W B g F := h1.up hW
  have h3 := h2.set a x
  refine ⟨h2.cell ha, h2.frozen a, fun k => cell_other (by have := hA.lt; omega), ?_, h3.frozen b, h3.set b y⟩
  rw [h3.cell hb]
  simp [List.getD, List.getElem?_set_ne hab]

set_option maxHeartbeats 4000000 in
set_option maxRecDepth 10000 in
theorem stray_any (a0 : Option Addr) (ts : List M.Nd) (cap : Nat) (m : Int) (w : World) (h : RdN w a0 ts) (hl : ts.length ≤ 63) (hf : ∀ j, j < ts.length → M.nodeF (M.nAt ts j) j ts.length m = 0) :
    Calls Try.prog 24 #[.slice a0 ts.length cap] w fun e w' => e = .returned (.int .i64 (M.strayV ts : Nat)) ∧ Below w.heap.size w w' := by
  have hm : ts.length ≤ 9223372036854775807 := h.1
  have HR := hide h.2
  have HF := hide hf
  clear h hf
  have SH : Hid (∀ i, i < ts.length → 0 < i → M.ups ts i ≠ 1 → (∀ j, 0 < j → j < i → M.ups ts j = 1) → M.strayV ts = i) := fun i h1 h2 h3 h4 => M.stray_hit h1 h2 h3 h4
  have SM : Hid ((∀ j, 0 < j → j < ts.length → M.ups ts j = 1) → M.strayV ts = 0) := fun h => M.stray_miss h
  generalize M.strayV ts = sv at *
  go_enter Try.func24, Try.ntmps24
  go_wp2
  go_loopw [9] (fun i wr => ∃ k : Nat, k ≤ ts.length ∧ i = .int .i64 k ∧ Arr wr w.heap.size w.heap.size (M.upsL ts k) ∧ Below w.heap.size w wr) (fun i _ => ts.length - (intOf i).toNat)
  case atStart =>
    refine ⟨0, Nat.zero_le _, rfl, ?_, (Below.refl _ w).alloc (Nat.le_refl _) _⟩
    rw [M.upsL_zero]
    exact Arr.new w w.heap.size (Nat.le_refl _)
  case round =>
    obtain ⟨k, hk, rfl, hown, hbl⟩ := hrel
    by_cases hlt : k < ts.length
    · obtain ⟨b0, off, rfl, hb0, hc⟩ := HR.out (by intro e; subst e; simp at hlt)
      obtain ⟨s0, s1, s2, s3, s4, s5⟩ := (hc k hlt).below hbl hb0
      have C1 := hide (isleaf_any (M.nAt ts k))
      unfold ndV at C1
      have NB : Hid (∀ o W, Below (wr.alloc o).heap.size (wr.alloc o) W → Below w.heap.size w W) := fun o W hW => below_on (below_on hbl ((Below.refl _ wr).alloc (Nat.le_refl _) o)) hW
      by_cases hf : M.nf (M.nAt ts k) = -1
      · have e1 : M.leafB (M.nAt ts k) = true := decide_eq_true hf
        rw [e1] at C1
        have NA : Hid (∀ o W, Below (wr.alloc o).heap.size (wr.alloc o) W → Arr W w.heap.size w.heap.size (M.upsL ts (k + 1))) := fun o W hW => by
          rw [M.upsL_leaf hlt hf]; exact (hown.up ((Below.refl _ wr).alloc (Nat.le_refl _) o)).up hW
        clear hc e1 hf hown hbl
        generalize M.nf (M.nAt ts k) = f at *
        generalize M.nc (M.nAt ts k) = c at *
        generalize M.nl (M.nAt ts k) = l at *
        generalize M.nr (M.nAt ts k) = r at *
        generalize M.ns (M.nAt ts k) = sl at *
        generalize M.nv (M.nAt ts k) = v at *
        go_wp2_with (go_at_call 26; refine (C1.out _).mono ?_; rintro e w1 ⟨rfl, hb1⟩)
        go_roundw
        case rel => exact ⟨k + 1, by omega, by go_num, NA.out _ w1 hb1, NB.out _ w1 hb1⟩
        case measure => simp [intOf]; omega
      · have e1 : M.leafB (M.nAt ts k) = false := decide_eq_false hf
        rw [e1] at C1
        obtain ⟨a, b, ea, eb, h1, h2, h3, h4, hab⟩ := M.ask_at HF.out hlt hf
        rw [ea] at s2 C1
        rw [eb] at s3 C1
        have ha : a < 63 := by omega
        have hb : b < 63 := by omega
        have TW := hide (fun o W (hW : Below (wr.alloc o).heap.size (wr.alloc o) W) => two_cells (x := (M.upsL ts k).getD a 0 + 1) (y := (M.upsL ts k).getD b 0 + 1) hown hW ha hb hab)
        have NE := hide (M.upsL_ask hlt hf ea eb ha hb hab)
        have za : 0 ≤ (M.upsL ts k).getD a 0 ∧ (M.upsL ts k).getD a 0 ≤ 126 := by
          rw [M.upsL_at ts k ha]
          have := M.ups_le (ts.take k) (a : Int)
          rw [List.length_take] at this
          omega
        have zb : 0 ≤ (M.upsL ts k).getD b 0 ∧ (M.upsL ts k).getD b 0 ≤ 126 := by
          rw [M.upsL_at ts k hb]
          have := M.ups_le (ts.take k) (b : Int)
          rw [List.length_take] at this
          omega
        obtain ⟨za0, za1⟩ := za
        obtain ⟨zb0, zb1⟩ := zb
        clear hc e1 hf hown hbl ea eb
        generalize (M.upsL ts k).getD a 0 = xa at *
        generalize (M.upsL ts k).getD b 0 = xb at *
        generalize M.nf (M.nAt ts k) = f at *
        generalize M.nc (M.nAt ts k) = c at *
        generalize M.ns (M.nAt ts k) = sl at *
        generalize M.nv (M.nAt ts k) = v at *
        go_wp2_with (go_at_call 26; refine (C1.out _).mono ?_; rintro e w1 ⟨rfl, hb1⟩; obtain ⟨t1, t2, t3, t4, t5, t6⟩ := TW.out _ w1 hb1; have hcell : ∀ k, w1.cell? ⟨wr.heap.size, k, none⟩ = _ := fun k => hb1.cell (p := ⟨wr.heap.size, k, none⟩) (by simp))
        go_roundw
        case rel =>
          refine ⟨k + 1, by omega, by go_num, ?_, ((NB.out _ w1 hb1).setCell (Nat.le_refl _) _).setCell (Nat.le_refl _) _⟩
          rw [← NE.out]; exact t6
        case measure => simp [intOf]; omega
    · have hke : k = ts.length := by omega
      rw [hke] at hown
      have CE : Hid (∀ i, i < 63 → wr.cell? ⟨w.heap.size, i, none⟩ = some (.int .i64 ((M.ups ts (i : Int) : Nat) : Int))) := fun i hi => by
        rw [hown.cell hi, M.upsL_at ts _ hi, List.take_length]
      have UL : Hid (∀ i : Nat, M.ups ts i ≤ 126) := fun i => by have := M.ups_le ts (i : Int); omega
      clear hown hke
      go_wp2
      go_loop [6] (fun i => ∃ j : Nat, 0 < j ∧ j ≤ ts.length + 1 ∧ i = .int .i64 j ∧ Hid (∀ p, 0 < p → p < j → M.ups ts p = 1)) (fun i => ts.length + 1 - (intOf i).toNat)
      case atStart => exact ⟨1, by omega, by omega, rfl, fun p h1 h2 => by omega⟩
      case round =>
        obtain ⟨j, hj0, hj, rfl, I⟩ := hrel
        by_cases hlt2 : j < ts.length
        · have hc := CE.out j (by omega)
          by_cases hu : M.ups ts (j : Int) = 1
          · have N : Hid (∀ p, 0 < p → p < j + 1 → M.ups ts p = 1) := fun p h1 h2 => by
              by_cases e : p = j
              · subst e; exact hu
              · exact I.out p h1 (by omega)
            have q : (((M.ups ts (j : Int) : Nat) : Int) != 1) = false := by rw [bne_eq_false_iff_eq]; omega
            clear hu
            generalize ((M.ups ts (j : Int) : Nat) : Int) = u at *
            go_wp2
            go_round
            case rel => exact ⟨j + 1, by omega, by omega, by go_num, N⟩
            case measure => simp [intOf]; omega
          · have E := hide (SH.out j hlt2 hj0 hu I.out)
            have q : (((M.ups ts (j : Int) : Nat) : Int) != 1) = true := by rw [bne_iff_ne]; omega
            clear hu
            generalize ((M.ups ts (j : Int) : Nat) : Int) = u at *
            go_wp2
            go_ret
            exact ⟨ret_int (by rw [E.out]), hbl⟩
        · have E := hide (SM.out fun p h1 h2 => I.out p h1 (by omega))
          go_wp2
          go_ret
          exact ⟨ret_int (by rw [E.out]; rfl), hbl⟩

end Go.Proofs.Ythbeoaninipadaf
