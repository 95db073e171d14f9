/-
  What package prune's comeTo answers: of each place whether a row comes to it.
-/
import Derived.Test.YtcaljnhdfbjpnaeDoorNodes
import Derived.Test.YtcaljnhdfbjpnaeDoorPruneMath
import Derived.Laws.Rows
import Derived.RegionTactic
import Derived.Deep.Cut
import Derived.Deep.CutRange
namespace Go.Proofs.YtcaljnhdfbjpnaeDoor
open Go.ChangeShapes Go.WideShapes Go.ChangeAt Go.RowKit Go.Lib
set_option linter.unusedVariables false

/-- an array of 63 answers of our own -/
def ArrB (w : World) (B g : Nat) (F : List Bool) : Prop := F.length = 63 ∧ w.ownsRow B 91 1 (.slice (some ⟨g, 0, none⟩) 63 63) 63 (F.map Value.bool)
theorem ArrB.cell {w : World} {B g : Nat} {F : List Bool} (h : ArrB w B g F) {i : Nat} (hi : i < 63) : w.cell? ⟨g, i, none⟩ = some (.bool (F.getD i false)) := by
  rw [h.2.cellAt i (by omega)]
  have := h.1
  simp [List.getD, show i < F.length by omega]
theorem ArrB.frozen {w : World} {B g : Nat} {F : List Bool} (h : ArrB w B g F) (i : Nat) : w.frozen? ⟨g, i, none⟩ = false := h.2.frozenAt i
theorem ArrB.set {w : World} {B g : Nat} {F : List Bool} (h : ArrB w B g F) (i : Nat) (x : Bool) : ArrB (w.setCell ⟨g, i, none⟩ (.bool x)) B g (F.set i x) := by
  refine ⟨by rw [List.length_set]; exact h.1, ?_⟩
  rw [List.map_set]
  exact (h.2.stored i (.bool x)).1
theorem ArrB.up {w w' : World} {B g : Nat} {F : List Bool} (h : ArrB w B g F) (hb : Below w.heap.size w w') : ArrB w' B g F := ⟨h.1, own_up h.2 hb⟩
theorem ArrB.lt {w : World} {B g : Nat} {F : List Bool} (h : ArrB w B g F) : B ≤ g ∧ g < w.heap.size := h.2.lt g rfl
theorem ArrB.of {w : World} {B g : Nat} {F : List Bool} (hl : F.length = 63) (hB : B ≤ g) (hg : w.heap[g]? = some (.cells (F.map Value.bool).toArray 91 (0, 0))) : ArrB w B g F :=
  ⟨hl, by simp [hl], .inr ⟨g, 63, _, rfl, hB, hg, Nat.le_refl _, by unfold maxLen; omega, by simp [hl], by rw [List.toList_toArray, List.take_of_length_le (by simp [hl])]⟩⟩
theorem ArrB.block {w : World} {B g : Nat} {F : List Bool} (h : ArrB w B g F) : w.heap[g]? = some (.cells (F.map Value.bool).toArray 91 (0, 0)) := by
  rcases h.2.2 with ⟨h0, _⟩ | ⟨g', cap, cur, e, h1, h2, h3, h4, h5, h6⟩
  · cases h0
  · cases e
    rw [h2]
    have : cur = (F.map Value.bool).toArray := by
      apply Array.toList_inj.1
      rw [← h6, List.take_of_length_le (by simp [h5])]
    rw [this]
theorem ArrB.new (w : World) (B : Nat) (hB : B ≤ w.heap.size) : ArrB (w.alloc (.cells ((List.replicate 63 (Value.bool false)).toArray) 91)) B w.heap.size (List.replicate 63 false) := by
  refine ⟨by simp, ?_⟩
  have := World.ownsRow_lit (base := B) (e := 91) (size := 1) w ((List.replicate 63 (Value.bool false)).toArray) 63 hB (by unfold maxLen; omega) (by simp)
  rw [List.map_replicate]
  exact this
theorem infoB : (Tryd.prog.info? 91).map (·.size) = some 63 := by kernel_rfl
theorem bools_one (F : List Bool) : (F.map Value.bool).toArray.all (·.oneCell') = true := by
  simp [Value.oneCell']
/-- what was there is stored again -/
theorem setRow_same {w : World} {g : Nat} {cs : Array Value} {t : TypeId} {fr : Nat × Nat} (hg : w.heap[g]? = some (.cells cs t fr)) : w.setRow g cs = w := by
  obtain ⟨h, e⟩ := Array.getElem?_eq_some_iff.1 hg
  unfold World.setRow
  have q : ∀ h : Array Obj, h = w.heap → ({ w with heap := h } : World) = w := fun h e => by rw [e]
  apply q
  apply Array.ext
  · simp
  · intro i h1 h2
    rw [Array.getElem_modify]
    split
    · rename_i q
      subst q
      rw [e]
    · rfl

set_option maxHeartbeats 4000000 in
set_option maxRecDepth 10000 in
theorem come_any (a0 : Option Addr) (ts : List M.Nd) (cap m : Nat) (ra : Option Addr) (rc : Nat) (w : World) (h : RdN w a0 ts) (F : M.Fair ts (m : Int)) (hr : Rd w ra (M.rch ts m ts.length)) :
    Calls Tryd.prog 54 #[.slice a0 ts.length cap, .slice ra (M.rch ts m ts.length).length rc] w fun e w' => e = .returned (.agg ((M.cmLs ts m 0).map Value.bool).toArray) ∧ Below w.heap.size w w' := by
  have l63 := F.1
  have l0 := F.2.1
  have HF := hide F
  have RM : Hid (∀ x ∈ M.rch ts m ts.length, ∃ j : Nat, x = (j : Int) ∧ j < 63) := fun x hx => by
    obtain ⟨i, h1, h2, h3⟩ := (M.rch_has ts m ts.length x).1 hx
    exact ⟨i, h2, by omega⟩
  have RA : Hid (M.cmR ts (M.rch ts m ts.length) = M.cmLs ts m ts.length) := M.cmR_all ts m
  have R63 : (M.rch ts m ts.length).length ≤ 63 := Nat.le_trans (M.rch_len ts m ts.length) l63
  obtain ⟨b0, off, rfl, hb0, hc⟩ := h.2 (by intro e; rw [e] at l0; simp at l0)
  have HN : Hid (∀ W, Below w.heap.size w W → ∀ j, j < ts.length → SixAt W b0 (off + j * 6) (M.nAt ts j)) := fun W hW j hj => (hc j hj).below hW hb0
  have HR : Hid (∀ W, Below w.heap.size w W → Rd W ra (M.rch ts m ts.length)) := fun W hW => hr.below hW
  have CA : Hid (∀ i a b : Nat, i < ts.length → M.nf (M.nAt ts i) ≠ -1 → M.nl (M.nAt ts i) = a → M.nr (M.nAt ts i) = b → M.cmV ts m i = (M.cmV ts m a || M.cmV ts m b)) := fun i a b h1 h2 h3 h4 => M.cm_ask F h1 h2 h3 h4
  have HA : Hid (∀ i, i < ts.length → M.nf (M.nAt ts i) ≠ -1 → ∃ a b : Nat, M.nl (M.nAt ts i) = a ∧ M.nr (M.nAt ts i) = b ∧ i < a ∧ a < ts.length ∧ i < b ∧ b < ts.length) := fun i h1 h2 => by
    obtain ⟨a, b, ea, eb, q1, q2, q3, q4, _⟩ := M.ask_at F.2.2.2.2.1 h1 h2
    exact ⟨a, b, ea, eb, q1, q2, q3, q4⟩
  clear h hc hr F
  generalize hRL : M.rch ts m ts.length = RL at *
  clear hRL
  go_enter Tryd.func54, Tryd.ntmps54
  go_wp2
  go_loopw [6, 10] (fun _ i wr => ∃ k : Nat, k ≤ RL.length ∧ i = .int .i64 k ∧ Hid (ArrB wr w.heap.size w.heap.size (M.cmR ts (RL.take k))) ∧ Hid (Below w.heap.size w wr)) (fun _ i _ => RL.length - (intOf i).toNat)
  case atStart =>
    refine ⟨0, Nat.zero_le _, rfl, ?_, (Below.refl _ w).alloc (Nat.le_refl _) _⟩
    rw [List.take_zero, M.cmR_nil]
    exact ArrB.new w w.heap.size (Nat.le_refl _)
  case round =>
    obtain ⟨k, hk, rfl, AB, HB⟩ := hrel
    by_cases hlt : k < RL.length
    · obtain ⟨j, ej, hj⟩ := RM.out RL[k] (List.getElem_mem hlt)
      obtain ⟨rb, ro, era, hrb, hrc⟩ := (HR.out wr HB.out).2 (by intro e; rw [e] at hlt; simp at hlt)
      have c1 := hrc k hlt
      rw [show RL.getD k 0 = RL[k] by simp [List.getD, hlt], ej] at c1
      have kz : (k : Int) < (RL.length : Int) := by omega
      have c2 := AB.out.cell hj
      have f2 := AB.out.frozen j
      have N : Hid (ArrB (wr.setCell ⟨w.heap.size, j, none⟩ (.bool true)) w.heap.size w.heap.size (M.cmR ts (RL.take (k + 1)))) := by
        have := AB.out.set j true
        rw [M.cmR_more _ _ _ hj] at this
        rw [List.take_add_one, List.getElem?_eq_getElem hlt, ej]
        exact this
      have jz : (j : Int) < 63 := by omega
      subst era
      clear hrc RM HR HN HA CA RA AB ej
      go_wp2
      go_roundw
      case rel => exact ⟨k + 1, by omega, by go_num, N, HB.out.setCell (p := ⟨w.heap.size, j, none⟩) (Nat.le_refl _) _⟩
      case measure => simp [intOf] <;> omega
    · have hke : k = RL.length := by omega
      have A0 : Hid (ArrB wr w.heap.size w.heap.size (M.cmLs ts m ts.length)) := by
        have := AB.out
        rw [hke, List.take_length, RA.out] at this
        exact this
      have kz : ¬ ((k : Int) < (RL.length : Int)) := by omega
      clear hke RM HR RA AB
      go_wp2
      go_loopw [7] (fun i wr => ∃ k : Nat, k ≤ ts.length ∧ i = .int .i64 ((k : Int) - 1) ∧ Hid (ArrB wr w.heap.size w.heap.size (M.cmLs ts m k)) ∧ Hid (Below w.heap.size w wr)) (fun i _ => (intOf i + 1).toNat)
      case atStart => exact ⟨ts.length, Nat.le_refl _, by go_num, A0, HB⟩
      case round =>
        clear A0 HB
        obtain ⟨k2, hk2, hi, AB, HB⟩ := hrel
        rcases k2 with _ | i
        · replace hi : _ = Value.int .i64 (-1) := hi
          subst hi
          have hbk := AB.out.block
          clear HN HA CA
          go_upto_region 11 with fail
          go_wp2_with (first
            | (refine wpList_load_row rfl 91 (.tmp 4) rfl w.heap.size rfl 91 _ (0, 0) _ hbk Tryd.underlying91 rfl (by rw [infoB]; simp [M.cmLs_len]) ?_)
            | (refine wpList_store_row rfl 91 (.tmp 4) (.tmp 48) rfl w.heap.size _ rfl rfl 91 _ hbk (by rw [infoB]; simp [M.cmLs_len]) rfl (bools_one _) ?_; rw [setRow_same hbk]))
          refine bodyPost_ret (v := .agg ((M.cmLs ts m 0).map Value.bool).toArray) (results_cell_row rfl _ wr w.heap.size 91 _ (0, 0) _ rfl hbk Tryd.underlying91 rfl (by rw [infoB]; simp [M.cmLs_len])) rfl ⟨rfl, HB.out⟩
        · have e0 : ((i + 1 : Nat) : Int) - 1 = (i : Int) := by omega
          rw [e0] at hi
          subst hi
          clear e0
          have hil : i < ts.length := by omega
          have iz : (i : Int) < (ts.length : Int) := by omega
          obtain ⟨s0, s1, s2, s3, s4, s5⟩ := HN.out wr HB.out i hil
          by_cases hf : M.nf (M.nAt ts i) = -1
          · have q : (M.nf (M.nAt ts i) != -1) = false := by rw [bne_eq_false_iff_eq]; exact hf
            have N : Hid (ArrB wr w.heap.size w.heap.size (M.cmLs ts m i)) := by
              have := AB.out
              rw [M.cmLs_leaf hil hf] at this
              exact this
            clear HN HA CA AB hf s1 s2 s3 s4 s5
            go_wp2
            go_roundw
            case rel => exact ⟨i, by omega, by go_num, N, HB⟩
            case measure => simp [intOf] <;> omega
          · have q : (M.nf (M.nAt ts i) != -1) = true := by rw [bne_iff_ne]; exact hf
            obtain ⟨a, b, ea, eb, h1, h2, h3, h4⟩ := HA.out i hil hf
            have ce := CA.out i a b hil hf ea eb
            rw [ea] at s2
            rw [eb] at s3
            have az : (a : Int) < 63 := by omega
            have bz : (b : Int) < 63 := by omega
            have i63 : (i : Int) < 63 := by omega
            have ca := AB.out.cell (show a < 63 by omega)
            have cb := AB.out.cell (show b < 63 by omega)
            have ci := AB.out.cell (show i < 63 by omega)
            have fi := AB.out.frozen i
            rw [M.cmLs_at h2 l63, show M.cmK ts m (i + 1) a = M.cmV ts m a by unfold M.cmK; rw [if_pos (by omega)]] at ca
            rw [M.cmLs_at h4 l63, show M.cmK ts m (i + 1) b = M.cmV ts m b by unfold M.cmK; rw [if_pos (by omega)]] at cb
            have N : Hid (ArrB (wr.setCell ⟨w.heap.size, i, none⟩ (.bool (M.cmV ts m a || M.cmV ts m b))) w.heap.size w.heap.size (M.cmLs ts m i)) := by
              have := AB.out.set i (M.cmV ts m a || M.cmV ts m b)
              rw [← ce, M.cmLs_set hil l63] at this
              rw [← ce]
              exact this
            clear HN HA CA AB hf s1 s4 s5 ea eb ce
            generalize M.cmV ts m a = va at *
            generalize M.cmV ts m b = vb at *
            cases va with
            | true =>
              go_wp2
              go_roundw
              case rel => exact ⟨i, by omega, by go_num, N, HB.out.setCell (p := ⟨w.heap.size, i, none⟩) (Nat.le_refl _) _⟩
              case measure => simp [intOf] <;> omega
            | false =>
              go_wp2
              go_roundw
              case rel => exact ⟨i, by omega, by go_num, N, HB.out.setCell (p := ⟨w.heap.size, i, none⟩) (Nat.le_refl _) _⟩
              case measure => simp [intOf] <;> omega

end Go.Proofs.YtcaljnhdfbjpnaeDoor
