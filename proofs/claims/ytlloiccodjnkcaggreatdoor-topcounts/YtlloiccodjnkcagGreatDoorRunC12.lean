/-
  Several texts as one: TDepth, TCheck, TLeft, MathWk, WeiCnt, AppendUs, PLayN, MathO.
-/
import Derived.Test.YtlloiccodjnkcagGreatDoorRunC11
import Derived.ChangeAlike
import Derived.Deep.RegionWith
import Derived.RegionTactic
import Derived.Test.YtlloiccodjnkcagGreatDoorRunC8
import Derived.Test.YtlloiccodjnkcagGreatDoorRunC7
import Derived.Test.YtlloiccodjnkcagGreatDoorRunC9
import Derived.Deep.Cut
import Derived.Deep.CutRange
import Derived.Laws.Rows
import Derived.Laws.AppendOwnNone
import Derived.OwnWalk
import Derived.Test.YtlloiccodjnkcagGreatDoorRunC4
namespace Go.Proofs.YtlloiccodjnkcagGreatDoor
open Go.ChangeShapes Go.WideShapes Go.ChangeAt Go.RowKit Go.Lib
set_option linter.unusedVariables false

/-- a round's facts -/
theorem lev_cells {wr W : World} {B g : Nat} {F : List Int} {o : Obj} {a b k : Nat} (hA : Arr wr B g F) (hW : Below (wr.alloc o).heap.size (wr.alloc o) W) (hk : k < 63) (hak : a ≠ k) (ha : a < 63) (hb : b < 63) (x y : Int) :
    (∃ z, W.cell? ⟨g, a, none⟩ = some (.int .i64 z)) ∧ (∃ z, (W.setCell ⟨g, a, none⟩ (.int .i64 x)).cell? ⟨g, b, none⟩ = some (.int .i64 z)) ∧
    W.cell? ⟨g, k, none⟩ = some (.int .i64 (F.getD k 0)) ∧ W.frozen? ⟨g, a, none⟩ = false ∧
    (∀ j, (W.setCell ⟨g, a, none⟩ (.int .i64 x)).cell? ⟨wr.heap.size, j, none⟩ = W.cell? ⟨wr.heap.size, j, none⟩) ∧
    (W.setCell ⟨g, a, none⟩ (.int .i64 x)).cell? ⟨g, k, none⟩ = some (.int .i64 (F.getD k 0)) ∧ (W.setCell ⟨g, a, none⟩ (.int .i64 x)).frozen? ⟨g, b, none⟩ = false ∧
    Arr ((W.setCell ⟨g, a, none⟩ (.int .i64 x)).setCell ⟨g, b, none⟩ (.int .i64 y)) B g ((F.set a x).set b y) := by
  have h1 : Arr (wr.alloc o) B g F := hA.up ((Below.refl _ _).alloc (Nat.le_refl _) _)
  have h2 : Arr W B g F := h1.up hW
  have h3 := h2.set a x
  refine ⟨⟨_, h2.cell ha⟩, ⟨_, h3.cell hb⟩, h2.cell hk, h2.frozen a, fun k => cell_other (by have := hA.lt; omega), ?_, h3.frozen b, h3.set b y⟩
  rw [h3.cell hk]
  simp [List.getD, List.getElem?_set_ne hak]
theorem max_val {dk lv n : Nat} (h : n = max dk lv) : Value.int .i64 (if dk < lv then (lv : Int) else (dk : Int)) = .int .i64 (n : Nat) := by
  rw [h]; congr 1; split <;> omega

set_option maxHeartbeats 4000000 in
set_option maxRecDepth 10000 in
theorem depth_any (a0 : Option Addr) (ts : List M.Nd) (cap : Nat) (m : Int) (w : World) (h : RdN w a0 ts) (hl : ts.length ≤ 63) (hf : ∀ j, j < ts.length → M.nodeF (M.nAt ts j) j ts.length m = 0) :
    Calls Tryz.prog 79 #[.slice a0 ts.length cap] w fun e w' => e = .returned (.int .i64 (M.deepest ts ts.length : Nat)) ∧ Below w.heap.size w w' := by
  have hm : ts.length ≤ 9223372036854775807 := h.1
  have HR := hide h.2
  have HF := hide hf
  clear h hf
  have DE : Hid (∀ k, k = ts.length → M.deepest ts k = M.deepest ts ts.length) := fun k e => by rw [e]
  generalize M.deepest ts ts.length = dv at *
  go_enter Tryz.func79, Tryz.ntmps79
  go_wp2
  go_loopw [4, 9] (fun d i wr => ∃ k : Nat, k ≤ ts.length ∧ i = .int .i64 k ∧ d = .int .i64 (M.deepest ts k : Nat) ∧ Arr wr w.heap.size w.heap.size (M.levL ts k) ∧ Below w.heap.size w wr) (fun _ i _ => ts.length - (intOf i).toNat)
  case atStart =>
    refine ⟨0, Nat.zero_le _, rfl, rfl, ?_, (Below.refl _ w).alloc (Nat.le_refl _) _⟩
    rw [M.levL_zero]
    exact Arr.new w w.heap.size (Nat.le_refl _)
  case round =>
    obtain ⟨k, hk, rfl, rfl, hown, hbl⟩ := hrel
    by_cases hlt : k < ts.length
    · obtain ⟨b0, off, rfl, hb0, hc⟩ := HR.out (by intro e; subst e; simp at hlt)
      obtain ⟨s0, s1, s2, s3, s4, s5⟩ := (hc k hlt).below hbl hb0
      have C1 := hide (isleaf_any (M.nAt ts k))
      unfold ndV at C1
      have k63 : k < 63 := by omega
      have NB : Hid (∀ o W, Below (wr.alloc o).heap.size (wr.alloc o) W → Below w.heap.size w W) := fun o W hW => below_on (below_on hbl ((Below.refl _ wr).alloc (Nat.le_refl _) o)) hW
      have ck : wr.cell? ⟨w.heap.size, k, none⟩ = some (.int .i64 ((M.levL ts k).getD k 0)) := hown.cell k63
      have glt : w.heap.size < wr.heap.size := hown.lt.2
      have DN : Hid (M.deepest ts (k + 1) = max (M.deepest ts k) (M.lev ts k k)) := rfl
      have LV : Hid ((M.levL ts k).getD k 0 = ((M.lev ts k k : Nat) : Int)) := M.levL_at ts k k63
      have DB := M.deep_le ts k
      have LB := M.lev_le ts k k
      by_cases hf : M.nf (M.nAt ts k) = -1
      · have e1 : M.leafB (M.nAt ts k) = true := decide_eq_true hf
        rw [e1] at C1
        have NA : Hid (∀ o W, Below (wr.alloc o).heap.size (wr.alloc o) W → Arr W w.heap.size w.heap.size (M.levL ts (k + 1))) := fun o W hW => by
          rw [M.levL_leaf hf]; exact (hown.up ((Below.refl _ wr).alloc (Nat.le_refl _) o)).up hW
        rw [LV.out] at ck
        clear hc e1 hf hown hbl LV
        generalize M.lev ts k k = lv at *
        generalize M.deepest ts k = dk at *
        generalize M.nf (M.nAt ts k) = f at *
        generalize M.nc (M.nAt ts k) = c at *
        generalize M.nl (M.nAt ts k) = l at *
        generalize M.nr (M.nAt ts k) = r at *
        generalize M.ns (M.nAt ts k) = sl at *
        generalize M.nv (M.nAt ts k) = v at *
        go_wp2_with (go_at_call 92; refine (C1.out _).mono ?_; rintro e w1 ⟨rfl, hb1⟩)
        go_roundw
        case rel => exact ⟨k + 1, by omega, by go_num, max_val DN.out, NA.out _ w1 hb1, NB.out _ w1 hb1⟩
        case measure => simp [intOf]; omega
      · have e1 : M.leafB (M.nAt ts k) = false := decide_eq_false hf
        rw [e1] at C1
        obtain ⟨a, b, ea, eb, h1, h2, h3, h4, hab⟩ := M.ask_at HF.out hlt hf
        rw [ea] at s2 C1
        rw [eb] at s3 C1
        have ha : a < 63 := by omega
        have hb : b < 63 := by omega
        have TW := hide (fun o W (hW : Below (wr.alloc o).heap.size (wr.alloc o) W) => lev_cells (a := a) (b := b) (x := (M.levL ts k).getD k 0 + 1) (y := (M.levL ts k).getD k 0 + 1) hown hW k63 (by omega) ha hb)
        have NE := hide (M.levL_ask hf ea eb k63)
        rw [LV.out] at ck TW NE
        clear hc e1 hf hown hbl LV ea eb
        generalize M.lev ts k k = lv at *
        generalize M.deepest ts k = dk at *
        generalize M.nf (M.nAt ts k) = f at *
        generalize M.nc (M.nAt ts k) = c at *
        generalize M.ns (M.nAt ts k) = sl at *
        generalize M.nv (M.nAt ts k) = v at *
        go_wp2_with (go_at_call 92; refine (C1.out _).mono ?_; rintro e w1 ⟨rfl, hb1⟩; have hcell : ∀ k, w1.cell? ⟨wr.heap.size, k, none⟩ = _ := fun k => hb1.cell (p := ⟨wr.heap.size, k, none⟩) (by simp); have TT := TW.out _ w1 hb1; obtain ⟨q1, q2, t1, t2, t3, t4, t5, t6⟩ := TT; obtain ⟨za, c1⟩ := q1; obtain ⟨zb, c2⟩ := q2; generalize hmx : (if dk < lv then (lv : Int) else (dk : Int)) = mx; have HM := hide hmx; clear hmx)
        go_region
        all_goals go_wp2_with fail
        all_goals go_region
        all_goals go_wp2_with fail
        go_roundw
        case rel =>
          refine ⟨k + 1, by omega, by go_num, by rw [← HM.out]; exact max_val DN.out, ?_, (((NB.out _ w1 hb1).setCell (Nat.le_refl _) _).setCell (Nat.le_refl _) _).drew.drew⟩
          rw [← NE.out]; exact (t6.up (Below.refl _ _).drew).up (Below.refl _ _).drew
        case measure => simp [intOf]; omega
    · have E := hide (DE.out k (by omega))
      go_wp2
      go_ret
      exact ⟨ret_int (by rw [E.out]), hbl⟩

end Go.Proofs.YtlloiccodjnkcagGreatDoor

namespace Go.Proofs.YtlloiccodjnkcagGreatDoor
open Go.ChangeShapes Go.WideShapes Go.ChangeAt Go.RowKit Go.Lib
set_option linter.unusedVariables false

theorem two_val {n : Nat} {c : Int} {tf : Nat × Int} (h : tf = (n, c)) : Ending.returned (.tuple #[.int .i64 (n : Nat), errV c]) = .returned (.tuple #[.int .i64 (tf.1 : Nat), errV tf.2]) := by rw [h]

set_option maxHeartbeats 4000000 in
set_option maxRecDepth 10000 in
theorem tcheck_any (a0 : Option Addr) (ts : List M.Nd) (cap : Nat) (m : Int) (w : World) (h : RdN w a0 ts) :
    Calls Tryz.prog 54 #[.slice a0 ts.length cap, .int .i64 m] w fun e w' => e = .returned (.tuple #[.int .i64 ((M.treeF ts m).1 : Nat), errV (M.treeF ts m).2]) ∧ Below w.heap.size w w' := by
  have hm : ts.length ≤ 9223372036854775807 := h.1
  by_cases h63 : 63 < ts.length
  · have E := hide (M.tree_full (m := m) h63)
    have hd : decide ((63 : Int) < (ts.length : Int)) = true := decide_eq_true (by omega)
    clear h h63
    generalize M.treeF ts m = tf at *
    go_enter Tryz.func54, Tryz.ntmps54
    go_wp2
    go_ret2
    exact ⟨two_val E.out, Below.refl _ _⟩
  · have hd : decide ((63 : Int) < (ts.length : Int)) = false := decide_eq_false (by omega)
    by_cases h0 : ts.length = 0
    · have E := hide (M.tree_none (m := m) h0)
      have q0 : ((ts.length : Int) == 0) = true := by rw [beq_iff_eq]; omega
      clear h h63 h0
      generalize M.treeF ts m = tf at *
      generalize ts.length = len at *
      go_enter Tryz.func54, Tryz.ntmps54
      go_wp2
      go_ret2
      exact ⟨two_val E.out, Below.refl _ _⟩
    · have q0 : ((ts.length : Int) == 0) = false := by rw [beq_eq_false_iff_ne]; omega
      by_cases h1 : m < 0
      · have E := hide (M.tree_range h63 h0 (.inl h1))
        have q1 : decide (m < 0) = true := decide_eq_true h1
        clear h h63 h0 h1
        generalize M.treeF ts m = tf at *
        generalize ts.length = len at *
        go_enter Tryz.func54, Tryz.ntmps54
        go_wp2
        go_ret2
        exact ⟨two_val E.out, Below.refl _ _⟩
      · have q1 : decide (m < 0) = false := decide_eq_false h1
        by_cases h2 : 8 < m
        · have E := hide (M.tree_range h63 h0 (.inr h2))
          have q2 : decide (8 < m) = true := decide_eq_true h2
          clear h h63 h0 h1 h2
          generalize M.treeF ts m = tf at *
          generalize ts.length = len at *
          go_enter Tryz.func54, Tryz.ntmps54
          go_wp2
          go_ret2
          exact ⟨two_val E.out, Below.refl _ _⟩
        · have q2 : decide (8 < m) = false := decide_eq_false h2
          have l63 : ts.length ≤ 63 := by omega
          have TN : Hid (∀ i, i < ts.length → M.nodeF (M.nAt ts i) i ts.length m ≠ 0 → (∀ j, j < i → M.nodeF (M.nAt ts j) j ts.length m = 0) → M.treeF ts m = (i, M.nodeF (M.nAt ts i) i ts.length m)) := fun i hi hb hj => M.tree_node h63 h0 (by omega) hi hb hj
          have TS : Hid ((∀ j, j < ts.length → M.nodeF (M.nAt ts j) j ts.length m = 0) → 0 < M.strayV ts → M.treeF ts m = (M.strayV ts, 7)) := fun hb hs => M.stray_tree h63 h0 (by omega) hb hs
          have TF : Hid ((∀ j, j < ts.length → M.nodeF (M.nAt ts j) j ts.length m = 0) → M.strayV ts = 0 → M.treeF ts m = if 10 < M.deepest ts ts.length then (0, 4) else (0, 0)) := fun hb hs => by
            have F : M.Fair ts m := ⟨by omega, by omega, by omega, by omega, hb, M.stray_zero hs⟩
            rw [M.deepest_eq F]; exact M.tree_fair F
          have CS : Hid (∀ W, Below w.heap.size w W → (∀ j, j < ts.length → M.nodeF (M.nAt ts j) j ts.length m = 0) → Calls Tryz.prog 78 #[.slice a0 ts.length cap] W fun e w' => e = .returned (.int .i64 (M.strayV ts : Nat)) ∧ Below W.heap.size W w') := fun W hW hb => stray_any a0 ts cap m W (h.below hW) l63 hb
          have CD : Hid (∀ W, Below w.heap.size w W → (∀ j, j < ts.length → M.nodeF (M.nAt ts j) j ts.length m = 0) → Calls Tryz.prog 79 #[.slice a0 ts.length cap] W fun e w' => e = .returned (.int .i64 (M.deepest ts ts.length : Nat)) ∧ Below W.heap.size W w') := fun W hW hb => depth_any a0 ts cap m W (h.below hW) l63 hb
          have DB := M.deep_le ts ts.length
          have SB : M.strayV ts ≤ 63 := by
            rcases Nat.eq_zero_or_pos (M.strayV ts) with e | e
            · omega
            · unfold M.strayV
              cases q : M.firstN (M.strayP ts) ts.length with
              | none => simp
              | some k => have := (M.first_some q).1; simp; omega
          have HR := hide h.2
          clear h h63 h0 h1 h2
          generalize M.treeF ts m = tf at *
          generalize M.strayV ts = sv at *
          generalize M.deepest ts ts.length = dv at *
          go_enter Tryz.func54, Tryz.ntmps54
          go_wp2
          go_loopw [27] (fun i wr => ∃ k : Nat, k ≤ ts.length ∧ i = .int .i64 k ∧ Below w.heap.size w wr ∧ Hid (∀ j, j < k → M.nodeF (M.nAt ts j) j ts.length m = 0)) (fun i _ => ts.length - (intOf i).toNat)
          case atStart => exact ⟨0, Nat.zero_le _, rfl, Below.refl _ _, fun j hj => by omega⟩
          case round =>
            obtain ⟨k, hk, rfl, hbl, I⟩ := hrel
            by_cases hlt : k < ts.length
            · obtain ⟨b0, off, rfl, hb0, hc⟩ := HR.out (by intro e; subst e; simp at hlt)
              obtain ⟨s0, s1, s2, s3, s4, s5⟩ := (hc k hlt).below hbl hb0
              have C1 := hide (fun W => checknode_any (M.nAt ts k) k ts.length (k : Int) ((ts.length : Int) - 1) m W rfl rfl)
              unfold ndV at C1
              have NB : Hid (∀ o W, Below (wr.alloc o).heap.size (wr.alloc o) W → Below w.heap.size w W) := fun o W hW => below_on (below_on hbl ((Below.refl _ wr).alloc (Nat.le_refl _) o)) hW
              by_cases hf : M.nodeF (M.nAt ts k) k ts.length m = 0
              · have N : Hid (∀ j, j < k + 1 → M.nodeF (M.nAt ts j) j ts.length m = 0) := fun j hj => by
                  by_cases e : j = k
                  · subst e; exact hf
                  · exact I.out j (by omega)
                rw [err_nil hf] at C1
                clear hc hf hbl
                generalize M.nf (M.nAt ts k) = f at *
                generalize M.nc (M.nAt ts k) = c at *
                generalize M.nl (M.nAt ts k) = l at *
                generalize M.nr (M.nAt ts k) = r at *
                generalize M.ns (M.nAt ts k) = sl at *
                generalize M.nv (M.nAt ts k) = v at *
                go_wp2_with (go_at_call 77; refine (C1.out _).mono ?_; rintro e w1 ⟨rfl, hb1⟩)
                go_roundw
                case rel => exact ⟨k + 1, by omega, by go_num, NB.out _ w1 hb1, N⟩
                case measure => simp [intOf]; omega
              · have E := hide (TN.out k hlt hf I.out)
                have EE : Hid (errV (M.nodeF (M.nAt ts k) k ts.length m) = .iface 68 (.int .i64 (M.nodeF (M.nAt ts k) k ts.length m))) := err_some hf
                rw [err_some hf] at C1
                clear hc hf hbl TN
                generalize M.nodeF (M.nAt ts k) k ts.length m = cc at *
                generalize M.nf (M.nAt ts k) = f at *
                generalize M.nc (M.nAt ts k) = c at *
                generalize M.nl (M.nAt ts k) = l at *
                generalize M.nr (M.nAt ts k) = r at *
                generalize M.ns (M.nAt ts k) = sl at *
                generalize M.nv (M.nAt ts k) = v at *
                go_wp2_with (go_at_call 77; refine (C1.out _).mono ?_; rintro e w1 ⟨rfl, hb1⟩)
                go_ret2
                exact ⟨by rw [← EE.out]; exact two_val E.out, NB.out _ w1 hb1⟩
            · have A : Hid (∀ j, j < ts.length → M.nodeF (M.nAt ts j) j ts.length m = 0) := fun j hj => I.out j (by omega)
              have S1 := hide (CS.out wr hbl A.out)
              have D1 := hide (fun W (hW : Below w.heap.size w W) => CD.out W hW A.out)
              by_cases hs : sv = 0
              · have qs : decide (0 < sv) = false := decide_eq_false (by omega)
                have E1 := hide (TF.out A.out hs)
                by_cases h10 : 10 < dv
                · have qd : decide ((10 : Int) < (dv : Int)) = true := decide_eq_true (by omega)
                  have E : Hid (tf = (0, 4)) := by have := E1.out; rw [if_pos h10] at this; exact this
                  clear E1 TN TS TF A CS CD HR hs h10
                  go_wp2_with (first
                    | (go_at_call 78; refine S1.out.mono ?_; rintro e w1 ⟨rfl, hb1⟩)
                    | (go_at_call 79; refine (D1.out _ (below_on hbl hb1)).mono ?_; rintro e w2 ⟨rfl, hb2⟩))
                  go_ret2
                  exact ⟨two_val E.out, below_on (below_on hbl hb1) hb2⟩
                · have qd : decide ((10 : Int) < (dv : Int)) = false := decide_eq_false (by omega)
                  have E : Hid (tf = (0, 0)) := by have := E1.out; rw [if_neg h10] at this; exact this
                  clear E1 TN TS TF A CS CD HR hs h10
                  go_wp2_with (first
                    | (go_at_call 78; refine S1.out.mono ?_; rintro e w1 ⟨rfl, hb1⟩)
                    | (go_at_call 79; refine (D1.out _ (below_on hbl hb1)).mono ?_; rintro e w2 ⟨rfl, hb2⟩))
                  go_ret2
                  exact ⟨two_val E.out, below_on (below_on hbl hb1) hb2⟩
              · have qs : decide (0 < sv) = true := decide_eq_true (by omega)
                have E := hide (TS.out A.out (by omega))
                clear TN TS TF A CS CD HR hs D1
                go_wp2_with (go_at_call 78; refine S1.out.mono ?_; rintro e w1 ⟨rfl, hb1⟩)
                go_ret2
                exact ⟨two_val E.out, below_on hbl hb1⟩

end Go.Proofs.YtlloiccodjnkcagGreatDoor

namespace Go.Proofs.YtlloiccodjnkcagGreatDoor
open Go.ChangeShapes Go.WideShapes Go.ChangeAt Go.RowKit Go.Lib
set_option linter.unusedVariables false

theorem toleft_any (n : M.Nd) (x : Int) (w : World) :
    Calls Tryz.prog 65 #[ndV n, .int .i64 x] w fun e w' => e = .returned (.bool (M.lessC n x)) ∧ Below w.heap.size w w' := by
  have NX : Hid (M.lessC n x = if x = M.nilI then M.ns n else decide (x < M.nc n)) := rfl
  unfold ndV
  generalize M.lessC n x = o at *
  generalize M.nc n = c at *
  generalize M.ns n = s at *
  by_cases hn : x = M.nilI
  · have q : (x == -1125899906842624) = true := by rw [beq_iff_eq]; exact hn
    have E : Hid (s = o) := by have := NX.out; rw [if_pos hn] at this; exact this.symm
    clear NX hn
    go_enter Tryz.func65, Tryz.ntmps65
    go_wp2
    go_ret
    exact ⟨ret_bool E.out, (Below.refl _ _).alloc (Nat.le_refl _) _⟩
  · have q : (x == -1125899906842624) = false := by rw [beq_eq_false_iff_ne]; exact hn
    have E : Hid (decide (x < c) = o) := by have := NX.out; rw [if_neg hn] at this; exact this.symm
    clear NX hn
    go_enter Tryz.func65, Tryz.ntmps65
    go_wp2
    go_ret
    exact ⟨ret_bool E.out, (Below.refl _ _).alloc (Nat.le_refl _) _⟩

end Go.Proofs.YtlloiccodjnkcagGreatDoor

namespace Go.Proofs.YtlloiccodjnkcagGreatDoor.M
set_option linter.unusedVariables false

/-- what is counted of eight features -/
def cU (c : Nat → Nat) (g : Nat → Int) : List Us := (List.range 8).map fun (i : Nat) => ((i : Int), ((c i : Nat) : Int), g i)
/-- .. as it lies: nothing of a feature in no node -/
def bU (c : Nat → Nat) (g : Nat → Int) : List Us := (List.range 8).map fun (i : Nat) => if c i = 0 then ((0 : Int), (0 : Int), (0 : Int)) else ((i : Int), ((c i : Nat) : Int), g i)
theorem bU_len (c : Nat → Nat) (g : Nat → Int) : (bU c g).length = 8 := by simp [bU]
theorem bU_at {c : Nat → Nat} {g : Nat → Int} {i : Nat} (h : i < 8) : (bU c g).getD i (0, 0, 0) = if c i = 0 then ((0 : Int), (0 : Int), (0 : Int)) else ((i : Int), ((c i : Nat) : Int), g i) := by
  unfold bU
  rw [List.getD_eq_getElem?_getD, List.getElem?_map, List.getElem?_range h]
  rfl
theorem bU_zero {c : Nat → Nat} (g : Nat → Int) (h : ∀ i, i < 8 → c i = 0) : bU c g = List.replicate 8 (0, 0, 0) := by
  unfold bU
  rw [show List.replicate 8 ((0 : Int), (0 : Int), (0 : Int)) = (List.range 8).map fun _ => ((0 : Int), (0 : Int), (0 : Int)) from rfl]
  exact List.map_congr_left fun i hi => by rw [if_pos (h i (by simpa using hi))]
theorem bU_same {c c' : Nat → Nat} {g g' : Nat → Int} (hc : ∀ i, i < 8 → c' i = c i) (hg : ∀ i, i < 8 → g' i = g i) : bU c' g' = bU c g := by
  unfold bU
  exact List.map_congr_left fun i hi => by rw [hc i (by simpa using hi), hg i (by simpa using hi)]
theorem bU_add {c c' : Nat → Nat} {g g' : Nat → Int} {f : Nat} {x : Int} (hf : f < 8) (h0 : c f = 0 → g f = 0) (hc : ∀ i, i < 8 → c' i = if i = f then c i + 1 else c i) (hg : ∀ i, i < 8 → g' i = if i = f then g i + x else g i) :
    (bU c g).set f ((f : Int), ((bU c g).getD f (0, 0, 0)).2.1 + 1, ((bU c g).getD f (0, 0, 0)).2.2 + x) = bU c' g' := by
  obtain ⟨u, hu⟩ : ∃ u, u = (bU c g).getD f (0, 0, 0) := ⟨_, rfl⟩
  rw [← hu]
  rw [bU_at hf] at hu
  refine List.ext_getElem (by rw [List.length_set, bU_len, bU_len]) fun i h1 h2 => ?_
  have hi : i < 8 := by rw [bU_len] at h2; exact h2
  have e2 : (bU c' g')[i] = if c' i = 0 then ((0 : Int), (0 : Int), (0 : Int)) else ((i : Int), ((c' i : Nat) : Int), g' i) := by rw [← bU_at hi, List.getD_eq_getElem?_getD, List.getElem?_eq_getElem h2]; rfl
  refine Eq.trans ?_ e2.symm
  rw [List.getElem_set, hc i hi, hg i hi]
  by_cases e : f = i
  · subst e
    rw [if_pos rfl, if_pos rfl, if_pos rfl, if_neg (by omega)]
    by_cases z : c f = 0
    · rw [if_pos z] at hu; rw [hu, h0 z, z]; simp
    · rw [if_neg z] at hu; rw [hu]; simp
  · have q : ¬ i = f := fun q => e q.symm
    simp only [if_neg e, if_neg q]
    have e1 : i < (bU c g).length := by rw [bU_len]; exact hi
    rw [← bU_at hi, List.getD_eq_getElem?_getD, List.getElem?_eq_getElem e1]; rfl
theorem cU_rise (c : Nat → Nat) (g : Nat → Int) : RiseU (cU c g) := by
  unfold RiseU cU
  rw [List.pairwise_map]
  exact (List.pairwise_lt_range).imp fun {a b} h => (show ((a : Nat) : Int) < ((b : Nat) : Int) by omega)
/-- those that are in some node -/
def askU (l : List Us) : List Us := l.filter fun u => decide (0 < u.2.1)
theorem asked_len (l : List Us) : (askU l).length ≤ l.length := List.length_filter_le _ _
theorem ask_more {l : List Us} {k : Nat} (hk : k < l.length) : askU (l.take (k + 1)) = if 0 < (l.getD k (0, 0, 0)).2.1 then askU (l.take k) ++ [l.getD k (0, 0, 0)] else askU (l.take k) := by
  unfold askU
  rw [List.take_succ_eq_append_getElem hk, List.filter_append, usAt l hk]
  by_cases h : 0 < l[k].2.1
  · rw [if_pos h, List.filter_cons_of_pos (by simpa using h)]; rfl
  · rw [if_neg h, List.filter_cons_of_neg (by simpa using h)]; simp
theorem ask_same (c : Nat → Nat) (g : Nat → Int) : askU (bU c g) = askU (cU c g) := by
  unfold askU bU cU
  rw [List.filter_map, List.filter_map]
  have e : ((fun u : Us => decide (0 < u.2.1)) ∘ fun (i : Nat) => if c i = 0 then ((0 : Int), (0 : Int), (0 : Int)) else ((i : Int), ((c i : Nat) : Int), g i)) = ((fun u : Us => decide (0 < u.2.1)) ∘ fun (i : Nat) => ((i : Int), ((c i : Nat) : Int), g i)) := by
    funext i
    show decide (0 < (if c i = 0 then ((0 : Int), (0 : Int), (0 : Int)) else ((i : Int), ((c i : Nat) : Int), g i)).2.1) = decide (0 < ((c i : Nat) : Int))
    by_cases z : c i = 0
    · rw [if_pos z, z]; rfl
    · rw [if_neg z]
  rw [e]
  refine List.map_congr_left fun i hi => ?_
  have hp : 0 < ((c i : Nat) : Int) := by simpa using (List.mem_filter.1 hi).2
  rw [if_neg (by omega)]
theorem ask_mem {c : Nat → Nat} {g : Nat → Int} {x : Us} : x ∈ askU (bU c g) ↔ x ∈ cU c g ∧ x.2.1 ≠ 0 := by
  rw [ask_same]
  unfold askU
  rw [List.mem_filter, decide_eq_true_iff]
  constructor
  · rintro ⟨a, b⟩; exact ⟨a, by omega⟩
  · rintro ⟨a, b⟩
    refine ⟨a, ?_⟩
    unfold cU at a
    obtain ⟨i, _, rfl⟩ := List.mem_map.1 a
    have : ((c i : Nat) : Int) ≠ 0 := b
    show 0 < ((c i : Nat) : Int)
    omega
theorem ask_rise (c : Nat → Nat) (g : Nat → Int) : RiseU (askU (bU c g)) := by
  rw [ask_same]
  exact (cU_rise c g).sublist List.filter_sublist
/-- put in order it is ranked -/
theorem sorted_rank {gb : Bool} {c : Nat → Nat} {g : Nat → Int} {r : List Us} (hp : r.Perm (askU (bU c g))) (hs : ∀ i j (hi : i < j) (hj : j < r.length), ¬ RkU gb r[j] (r[i]'(by omega))) : r = rankU gb (cU c g) := by
  refine rank_only (cU_rise c g) ?_ fun x => hp.mem_iff.trans ask_mem
  have d : r.Pairwise (fun a b => a.1 ≠ b.1) := by
    refine (hp.pairwise_iff (R := fun a b : Us => a.1 ≠ b.1) (fun {a b} h => fun e => h e.symm)).2 ?_
    exact (ask_rise c g).imp fun {a b} h => by omega
  rw [List.pairwise_iff_getElem] at d ⊢
  intro i j hi hj hij
  have h1 := hs i j hij hj
  have h2 := d i j hi hj hij
  unfold RkU at h1 ⊢
  have h3 : ¬ keyU gb r[i] < keyU gb r[j] := fun q => h1 (.inl q)
  by_cases e : keyU gb r[j] = keyU gb r[i]
  · refine .inr ⟨e.symm, ?_⟩
    have h4 : ¬ r[j].1 < r[i].1 := fun q => h1 (.inr ⟨e, q⟩)
    omega
  · exact .inl (by omega)
theorem rank_len (gb : Bool) (c : Nat → Nat) (g : Nat → Int) : (rankU gb (cU c g)).length ≤ 8 := by
  have h : ∀ (l : List Us) k, (rankK gb l k).length ≤ k := fun l k => by
    induction k with
    | zero => exact Nat.le_refl _
    | succ k ih =>
      unfold rankK
      split
      · omega
      · unfold insU
        have := toU_le gb (rankK gb l k) (l.getD k (0, 0, 0)) (rankK gb l k).length
        rw [List.length_append, List.length_append, List.length_take, List.length_drop]
        simp
        omega
  have := h (cU c g) (cU c g).length
  rw [show (cU c g).length = 8 by simp [cU]] at this
  unfold rankU
  rw [show (cU c g).length = 8 by simp [cU]]
  exact this

/-! ### counted node by node -/
theorem cntN_more (f : Int) {t : List Nd} {j : Nat} (h : j < t.length) : cntN f (t.take (j + 1)) = cntN f (t.take j) + if nf (nAt t j) = f then 1 else 0 := by
  rw [List.take_succ_eq_append_getElem h, cntN_app]
  have e : nAt t j = t[j] := by unfold nAt; rw [getD_at h]
  rw [e]
  show _ + ((if nf t[j] = f then 1 else 0) + 0) = _
  omega
theorem cntN_le (f : Int) : ∀ t : List Nd, cntN f t ≤ t.length
  | [] => Nat.le_refl _
  | n :: t => by
    have := cntN_le f t
    show (if nf n = f then 1 else 0) + cntN f t ≤ t.length + 1
    split <;> omega
theorem cntG_app (f : Int) : ∀ (a : List (List Nd)) (t : List Nd), cntG f (a ++ [t]) = cntG f a + cntN f t
  | [], t => by show cntN f t + 0 = 0 + cntN f t; omega
  | s :: a, t => by
    show cntN f s + cntG f (a ++ [t]) = cntN f s + cntG f a + cntN f t
    rw [cntG_app f a t]; omega
theorem cntGr_le (f : Int) {b : Nat} : ∀ l : List (List Nd), (∀ t ∈ l, t.length ≤ b) → cntG f l ≤ b * l.length
  | [], _ => Nat.zero_le _
  | t :: l, h => by
    have h1 := cntGr_le f l fun s hs => h s (List.mem_cons_of_mem _ hs)
    have h2 := cntN_le f t
    have h3 := h t (List.mem_cons_self ..)
    show cntN f t + cntG f l ≤ b * (l.length + 1)
    rw [Nat.mul_add]
    omega
/-- of k trees, and j nodes of the next -/
def cK (l : List (List Nd)) (k j : Nat) (i : Nat) : Nat := cntG (i : Int) (l.take k) + cntN (i : Int) ((l.getD k []).take j)
theorem cK_none (l : List (List Nd)) (i : Nat) : cK l 0 0 i = 0 := by unfold cK; simp [cntG, cntN]
theorem cK_node {l : List (List Nd)} {k j : Nat} (h : j < (l.getD k []).length) (i : Nat) : cK l k (j + 1) i = cK l k j i + if nf (nAt (l.getD k []) j) = (i : Int) then 1 else 0 := by
  unfold cK; rw [cntN_more _ h]; omega
theorem cK_tree {l : List (List Nd)} {k : Nat} (h : k < l.length) (i : Nat) : cK l k (l.getD k []).length i = cK l (k + 1) 0 i := by
  unfold cK
  rw [List.take_length, List.take_succ_eq_append_getElem h, cntG_app]
  have e : l.getD k [] = l[k] := by simp [List.getD, h]
  rw [e]
  simp [cntN]
theorem cK_all (l : List (List Nd)) (i : Nat) : cK l l.length 0 i = cntG (i : Int) l := by
  unfold cK; rw [List.take_length]; simp [cntN]
theorem cK_le {l : List (List Nd)} (h : ∀ t ∈ l, t.length ≤ 63) (hl : l.length ≤ 12) (k j i : Nat) : cK l k j i ≤ 1000 := by
  unfold cK
  have h1 := cntGr_le (i : Int) (b := 63) (l.take k) fun t ht => h t (List.mem_of_mem_take ht)
  have h2 := cntN_le (i : Int) ((l.getD k []).take j)
  have h3 : (l.take k).length ≤ 12 := Nat.le_trans (by rw [List.length_take]; exact Nat.min_le_right ..) hl
  have h4 : ((l.getD k []).take j).length ≤ 63 := by
    refine Nat.le_trans (by rw [List.length_take]; exact Nat.min_le_right ..) ?_
    by_cases q : k < l.length
    · have e : l.getD k [] = l[k] := by simp [List.getD, q]
      rw [e]; exact h _ (List.getElem_mem q)
    · have e : l.getD k [] = [] := by simp [List.getD, List.getElem?_eq_none (Nat.le_of_not_lt q)]
      rw [e]; simp
  have h5 : 63 * (l.take k).length ≤ 63 * 12 := Nat.mul_le_mul_left _ h3
  omega

end Go.Proofs.YtlloiccodjnkcagGreatDoor.M

namespace Go.Proofs.YtlloiccodjnkcagGreatDoor
open Go.ChangeShapes Go.WideShapes Go.ChangeAt Go.RowKit Go.Lib
set_option linter.unusedVariables false

/-- an array of eight uses of our own -/
def ArrU (w : World) (B g : Nat) (F : List M.Us) : Prop := F.length = 8 ∧ w.ownsRow B 62 1 (.slice (some ⟨g, 0, none⟩) 24 24) 24 (usCells F)
theorem ArrU.cells {w : World} {B g : Nat} {F : List M.Us} (h : ArrU w B g F) {i : Nat} (hi : i < 8) : w.cell? ⟨g, i * 3, none⟩ = some (.int .i64 (M.uAt F i).1) ∧ w.cell? ⟨g, i * 3 + 1, none⟩ = some (.int .i64 (M.uAt F i).2.1) ∧ w.cell? ⟨g, i * 3 + 2, none⟩ = some (.int .i64 (M.uAt F i).2.2) := by
  have hl := h.1
  obtain ⟨q0, q1, q2⟩ := usCells_at F i (by omega)
  exact ⟨(h.2.cellAt (i * 3) (by omega)).trans q0, (h.2.cellAt (i * 3 + 1) (by omega)).trans q1, (h.2.cellAt (i * 3 + 2) (by omega)).trans q2⟩
theorem ArrU.frozen {w : World} {B g : Nat} {F : List M.Us} (h : ArrU w B g F) (i : Nat) : w.frozen? ⟨g, i, none⟩ = false := h.2.frozenAt i
theorem usCells_setF : ∀ (ts : List M.Us) (i : Nat), i < ts.length → ∀ n : Int, (usCells ts).set (i * 3) (.int .i64 n) = usCells (ts.set i (n, (M.uAt ts i).2.1, (M.uAt ts i).2.2))
  | [], i, h, n => by simp at h
  | s :: t, 0, h, n => rfl
  | s :: t, i + 1, h, n => by
    have ih := usCells_setF t i (by simpa using h) n
    have e : M.uAt (s :: t) (i + 1) = M.uAt t i := by simp [M.uAt]
    rw [e, List.set_cons_succ, usCells_cons, usCells_cons, ← ih, show (i + 1) * 3 = (i * 3) + 1 + 1 + 1 by omega]
    simp only [List.set_cons_succ]
theorem ArrU.setF {w : World} {B g : Nat} {F : List M.Us} (h : ArrU w B g F) {i : Nat} (hi : i < 8) (n : Int) : ArrU (w.setCell ⟨g, i * 3, none⟩ (.int .i64 n)) B g (F.set i (n, (M.uAt F i).2.1, (M.uAt F i).2.2)) := by
  have hl := h.1
  refine ⟨by rw [List.length_set]; exact h.1, ?_⟩
  rw [← usCells_setF F i (by omega)]
  exact (h.2.stored (i * 3) _).1
theorem ArrU.setN {w : World} {B g : Nat} {F : List M.Us} (h : ArrU w B g F) {i : Nat} (hi : i < 8) (n : Int) : ArrU (w.setCell ⟨g, i * 3 + 1, none⟩ (.int .i64 n)) B g (F.set i ((M.uAt F i).1, n, (M.uAt F i).2.2)) := by
  have hl := h.1
  refine ⟨by rw [List.length_set]; exact h.1, ?_⟩
  rw [← usCells_setN F i (by omega)]
  exact (h.2.stored (i * 3 + 1) _).1
theorem ArrU.setG {w : World} {B g : Nat} {F : List M.Us} (h : ArrU w B g F) {i : Nat} (hi : i < 8) (n : Int) : ArrU (w.setCell ⟨g, i * 3 + 2, none⟩ (.int .i64 n)) B g (F.set i ((M.uAt F i).1, (M.uAt F i).2.1, n)) := by
  have hl := h.1
  refine ⟨by rw [List.length_set]; exact h.1, ?_⟩
  rw [← usCells_setG F i (by omega)]
  exact (h.2.stored (i * 3 + 2) _).1
theorem ArrU.up {w w' : World} {B g : Nat} {F : List M.Us} (h : ArrU w B g F) (hb : Below w.heap.size w w') : ArrU w' B g F := ⟨h.1, own_up h.2 hb⟩
theorem ArrU.lt {w : World} {B g : Nat} {F : List M.Us} (h : ArrU w B g F) : B ≤ g ∧ g < w.heap.size := h.2.lt g rfl
theorem ArrU.block {w : World} {B g : Nat} {F : List M.Us} (h : ArrU w B g F) : w.heap[g]? = some (.cells (usCells F).toArray 62 (0, 0)) := by
  have hl := h.1
  rcases h.2.2 with ⟨h0, _⟩ | ⟨g', cap, cur, e, h1, h2, h3, h4, h5, h6⟩
  · cases h0
  · cases e
    rw [h2]
    have : cur = (usCells F).toArray := by
      apply Array.toList_inj.1
      rw [← h6, List.take_of_length_le (by simp [h5])]
    rw [this]
theorem ArrU.new (w : World) (B : Nat) (hB : B ≤ w.heap.size) : ArrU (w.alloc (.cells (usCells (List.replicate 8 (0, 0, 0))).toArray 62)) B w.heap.size (List.replicate 8 (0, 0, 0)) :=
  ⟨rfl, World.ownsRow_lit (base := B) (e := 62) (size := 1) w (usCells (List.replicate 8 (0, 0, 0))).toArray 24 hB (by unfold maxLen; omega) rfl⟩
theorem infoCnt : (Tryz.prog.info? 62).map (·.size) = some 24 := by kernel_rfl
theorem M.uAt_set (F : List M.Us) {i : Nat} (hi : i < F.length) (u : M.Us) : M.uAt (F.set i u) i = u := by unfold M.uAt; simp [List.getD, hi]
theorem M.set_set (F : List M.Us) (i : Nat) (u v : M.Us) : (F.set i u).set i v = F.set i v := by simp

theorem wrap_in8 (x : Int) (h1 : -9223372036854775808 ≤ x) (h2 : x ≤ 9223372036854775807) : IntKind.i64.wrap x = x := by
  simp [IntKind.wrap, IntKind.bits, IntKind.signed]; omega

set_option maxHeartbeats 4000000 in
set_option maxRecDepth 10000 in
theorem wadd_any (B g f : Nat) (F : List M.Us) (x : Int) (w : World) (h : ArrU w B g F) (hf : f < 8) (n0 : 0 ≤ (M.uAt F f).2.1) (n1 : (M.uAt F f).2.1 ≤ 1000000) (g0 : 0 ≤ (M.uAt F f).2.2) (g1 : (M.uAt F f).2.2 ≤ 1000000000000) (x0 : 0 ≤ x) (x1 : x ≤ 1000000000000) :
    Calls Tryz.prog 25 #[.pointer (some ⟨g, 0, none⟩), .int .i64 f, .int .i64 x] w fun e w' => e = .returned (.tuple #[]) ∧ ArrU w' B g (F.set f ((f : Int), (M.uAt F f).2.1 + 1, (M.uAt F f).2.2 + x)) ∧ w.grownBy w' (some g) := by
  have hl : f < F.length := by have := h.1; omega
  have fz : (f : Int) < 8 := by omega
  have f0 : (0 : Int) ≤ (f : Int) := by omega
  obtain ⟨c0, c1, c2⟩ := h.cells hf
  have z0 := h.frozen (f * 3)
  obtain ⟨u, hu⟩ : ∃ u, u = M.uAt F f := ⟨_, rfl⟩
  rw [← hu] at c0 c1 c2 n0 n1 g0 g1 ⊢
  have A1 := h.setF hf (f : Int)
  rw [← hu] at A1
  have HU := hide hu
  have HL := hide hl
  obtain ⟨w1, hw1⟩ : ∃ W, W = w.setCell ⟨g, f * 3, none⟩ (.int .i64 (f : Int)) := ⟨_, rfl⟩
  rw [← hw1] at A1
  have G1 : Hid (w.grownBy w1 (some g)) := by rw [hw1]; exact grown_set
  obtain ⟨e0, e1, e2⟩ := A1.cells hf
  rw [M.uAt_set F hl] at e1 e2
  have d1 : w1.cell? ⟨g, f * 3 + 1, none⟩ = some (.int .i64 u.2.1) := e1
  have d2 : w1.cell? ⟨g, f * 3 + 2, none⟩ = some (.int .i64 u.2.2) := e2
  have z1 := A1.frozen (f * 3 + 1)
  have A2 : Hid (∀ n : Int, ArrU (w1.setCell ⟨g, f * 3 + 1, none⟩ (.int .i64 n)) B g (F.set f ((f : Int), n, u.2.2))) := fun n => by
    have := A1.setN hf n
    rw [M.uAt_set F hl, M.set_set] at this
    exact this
  have wp1 : IntKind.i64.wrap (u.2.1 + 1) = u.2.1 + 1 := wrap_in8 _ (by omega) (by omega)
  clear h hu A1 e0 e1 e2 c2
  go_enter Tryz.func25, Tryz.ntmps25
  go_upto_region 1 with fail
  rw [← hw1]
  clear hw1 c0 c1 z0
  go_region
  go_upto_region 2 with fail
  obtain ⟨w2, hw2⟩ : ∃ W, W = (w1.setCell ⟨g, f * 3 + 1, none⟩ (.int .i64 (u.2.1 + 1))).drew := ⟨_, rfl⟩
  rw [← hw2]
  have B2 : Hid (ArrU w2 B g (F.set f ((f : Int), u.2.1 + 1, u.2.2))) := by rw [hw2]; exact (A2.out _).up (Below.refl _ _).drew
  have G2 : Hid (w.grownBy w2 (some g)) := by rw [hw2]; exact grown_drew (grown_trans G1.out grown_set (.inl rfl))
  obtain ⟨e0, e1, e2⟩ := B2.out.cells hf
  rw [M.uAt_set F HL.out] at e2
  have y2 : w2.cell? ⟨g, f * 3 + 2, none⟩ = some (.int .i64 u.2.2) := e2
  have z2 := B2.out.frozen (f * 3 + 2)
  have wp2 : IntKind.i64.wrap (u.2.2 + x) = u.2.2 + x := wrap_in8 _ (by omega) (by omega)
  have A3 : Hid (ArrU (w2.setCell ⟨g, f * 3 + 2, none⟩ (.int .i64 (u.2.2 + x))) B g (F.set f ((f : Int), u.2.1 + 1, u.2.2 + x))) := by
    have := B2.out.setG hf (u.2.2 + x)
    rw [M.uAt_set F HL.out, M.set_set] at this
    exact this
  clear hw2 d1 d2 z1 e0 e1 e2 wp1
  go_region
  go_wp2
  go_end0
  exact ⟨rfl, A3.out.up (Below.refl _ _).drew, grown_drew (grown_trans G2.out grown_set (.inl rfl))⟩

end Go.Proofs.YtlloiccodjnkcagGreatDoor

namespace Go.Proofs.YtlloiccodjnkcagGreatDoor
open Go.ChangeShapes Go.WideShapes Go.ChangeAt Go.RowKit Go.Lib
set_option linter.unusedVariables false

theorem wpList_append_us {w : World} {ops : Array Oper} {rest : List Oper} {o : Oper} {act : Act} {Q : Exit → Act → World → Prop} (hgd : o.guard = none) (s x : Operand)
    (ho : o.op = .call { callee := .builtin .append, args := #[s, x], argTypes := #[29, 29] })
    (base : Nat) (v : Value) (n : Nat) (zs : List M.Us) (hs : act.eval s = v) (hown : w.ownsRow base 50 3 v n (usCells zs))
    (a : Option Addr) (ys : List M.Us) (m cap : Nat) (hm : ys.length = m) (hx : act.eval x = .slice a m cap) (hr : ys ≠ [] → ∃ ad, a = some ad ∧ ∀ j u, (usCells ys)[j]? = some u → w.cell? (ad.add j) = some u) (hnil : a = none → cap = 0) (hlen : n + ys.length ≤ 1000) (hbase : base ≤ w.heap.size)
    (h : ∀ va vc w', w'.ownsRow base 50 3 (.slice va (n + m) vc) (n + m) (usCells (zs ++ ys)) → Below base w w' → w.grownBy w' v.ownBlock → wpList Tryz.prog ops Q rest (act.put o.dst (.slice va (n + m) vc)) w') : wpList Tryz.prog ops Q (o :: rest) act w := by
  subst hm
  obtain ⟨i0, hi, hz0, hz1, hz2⟩ := info_parts infoU
  cases a with
  | none =>
    have e : ys = [] := by
      by_cases hy : ys = []
      · exact hy
      · obtain ⟨ad, e, _⟩ := hr hy; cases e
    subst e
    have hc := hnil rfl
    subst hc
    refine wpList_append_own_none hgd s x 29 ho base 50 i0 3 Tryz.underlying29 hi v n (usCells zs) hs hown hx ?_
    obtain ⟨va, vc, e⟩ : ∃ va vc, v = .slice va n vc := by
      rcases hown.2 with ⟨hv, h0⟩ | ⟨g, cap, cur, hv, _⟩
      · exact ⟨none, 0, by rw [hv, h0]⟩
      · exact ⟨some ⟨g, 0, none⟩, cap, hv⟩
    subst e
    have := h va vc w (by simpa using hown) (Below.refl _ _) ⟨rfl, rfl, rfl, Nat.le_refl _, fun _ _ _ => rfl⟩
    simpa using this
  | some ad =>
    have hnews : ∀ j u, (usCells ys)[j]? = some u → w.cell? (ad.add j) = some u := by
      by_cases hy : ys = []
      · subst hy; intro j u hj; simp [usCells] at hj
      · obtain ⟨ad', e, hc⟩ := hr hy
        cases e
        exact hc
    refine wpList_append_own _ hgd s x 29 ho base 50 i0 (.agg #[.int .i64 0, .int .i64 0, .int .i64 0]) 3 24 Tryz.underlying29 hi hz0 hz1 hz2 rfl (by decide) v n (usCells zs) hs hown ad ys.length cap (usCells ys) hx (usCells_len ys) hnews (usCells_one ys) (by unfold maxLen; omega) (by omega) hbase ?_
    intro v' w' hown' hgrow _
    obtain ⟨va, vc, e⟩ : ∃ va vc, v' = .slice va (n + ys.length) vc := by
      rcases hown'.2 with ⟨hv, h0⟩ | ⟨g, cap, cur, hv, _⟩
      · exact ⟨none, 0, by rw [hv, h0]⟩
      · exact ⟨some ⟨g, 0, none⟩, cap, hv⟩
    subst e
    exact h va vc w' (by rw [usCells_app]; exact hown') ((Below.refl _ w).grown hgrow hbase (fun k hk => (hown.lt k hk).1)) hgrow

end Go.Proofs.YtlloiccodjnkcagGreatDoor

namespace Go.Proofs.YtlloiccodjnkcagGreatDoor
open Go.ChangeShapes Go.WideShapes Go.ChangeAt Go.RowKit Go.Lib
set_option linter.unusedVariables false

theorem nAt_last (O : List M.Nd) (n : M.Nd) (C : List M.Nd) : M.nAt (O ++ n :: C) O.length = n := by unfold M.nAt; simp [List.getD]
theorem set_last (O : List M.Nd) (n n' : M.Nd) (C : List M.Nd) : (O ++ n :: C).set O.length n' = O ++ n' :: C := by
  rw [List.set_append_right _ _ (Nat.le_refl _), Nat.sub_self, List.set_cons_zero]
theorem six_keep {w W : World} {b off : Nat} {n : M.Nd} (hb : W.heap[b]? = w.heap[b]?) (h : SixAt w b off n) : SixAt W b off n := by
  obtain ⟨h0, h1, h2, h3, h4, h5⟩ := h
  exact ⟨(World.cell?_of_block (a := ⟨b, _, none⟩) hb).trans h0, (World.cell?_of_block (a := ⟨b, _, none⟩) hb).trans h1, (World.cell?_of_block (a := ⟨b, _, none⟩) hb).trans h2, (World.cell?_of_block (a := ⟨b, _, none⟩) hb).trans h3, (World.cell?_of_block (a := ⟨b, _, none⟩) hb).trans h4, (World.cell?_of_block (a := ⟨b, _, none⟩) hb).trans h5⟩

theorem six_alloc (w : World) (n : M.Nd) (t : TypeId) : SixAt ((w.alloc (.cells #[.int .i64 (M.nf n), .int .i64 (M.nc n), .int .i64 (M.nl n), .int .i64 (M.nr n), .bool (M.ns n), .int .i64 (M.nv n)] t)).drew) w.heap.size 0 n :=
  ⟨World.cell?_alloc_at _ _ _ 0 rfl, World.cell?_alloc_at _ _ _ 1 rfl, World.cell?_alloc_at _ _ _ 2 rfl, World.cell?_alloc_at _ _ _ 3 rfl, World.cell?_alloc_at _ _ _ 4 rfl, World.cell?_alloc_at _ _ _ 5 rfl⟩

end Go.Proofs.YtlloiccodjnkcagGreatDoor

namespace Go.Proofs.YtlloiccodjnkcagGreatDoor.M
set_option linter.unusedVariables false

theorem vld_some {m : Nat} (h : m ≤ 8) : ∃ x, vld m x := by
  refine ⟨List.replicate m 0, (row_ok _).2 ⟨by simpa using h, fun x hx => ?_⟩, by simp⟩
  rw [(List.mem_replicate.1 hx).2]
  exact good_cell (out_in (by omega) (by omega))
/-- bare as a whole, it is so below each place, and each place has a row -/
theorem bare_at {t : List Nd} {m : Nat} (F : Fair t (m : Int)) (hb : Bare (vld m) (bt t 0)) : ∀ (k i : Nat), i < k → i < t.length → Bare (Pw t m i) (bt t i) ∧ ∃ x, Pw t m i x
  | 0, i, hk, hi => by omega
  | k + 1, i, hk, hi => by
    have hR := F.2.2.2.2.1
    rcases Nat.eq_zero_or_pos i with h0 | h0
    · subst h0
      rw [pw_root F]
      exact ⟨hb, vld_some (by have := F.2.2.2.1; omega)⟩
    · obtain ⟨u, hu, c⟩ := up_some (F.2.2.2.2.2 i h0 hi)
      have lu := ch_lt hR hu c
      obtain ⟨b1, _⟩ := bare_at F hb k u (by omega) hu
      obtain ⟨a, b, ea, eb, h1, h2, h3, h4, _⟩ := ask_at hR hu c.1
      obtain ⟨p1, p2⟩ := pw_sides F hu c.1 ea eb
      rw [bt_ask hR hu c.1 ea eb] at b1
      obtain ⟨x1, x2, _, y1, y2⟩ := b1
      rw [p1] at y1
      rw [p2] at y2
      rcases c.2 with q | q
      · have e : a = i := by omega
        subst e
        refine ⟨y1, ?_⟩
        rw [← p1]
        exact x1
      · have e : b = i := by omega
        subst e
        refine ⟨y2, ?_⟩
        rw [← p2]
        exact x2
/-- what is pruned is bare -/
theorem prun_bare {t : List Nd} {m : Int} (h : (treeF t m).2 = 0) : Fair (prunV t m) ((m.toNat : Nat) : Int) ∧ Bare (vld m.toNat) (bt (prunV t m) 0) := by
  have F := (tree_ok h).1
  have ok := bt_ok F.2.2.2.2.1 t.length 0 F.2.1 (by omega)
  have pt := (prun_tree h).1
  refine ⟨(fair_nat pt).1, ?_⟩
  have e : prunV t m = lay (prn (vld m.toNat) (bt t 0)) 0 := by unfold prunV; rw [if_pos h]
  rw [e, bt_of_lay (prn_ok _ _ ok)]
  exact bare_prn _ _
theorem prun_reached {t : List Nd} {m : Int} (h : (treeF t m).2 = 0) {i : Nat} (hi : i < (prunV t m).length) : anyS (region (prunV t m) m.toNat i) = true := by
  obtain ⟨F, hb⟩ := prun_bare h
  exact (reach_iff F hi).2 (bare_at F hb (i + 1) i (by omega) hi).2
/-- all leaves are reached -/
theorem rch_all {t : List Nd} {m : Nat} : ∀ k, k ≤ t.length → (∀ i, i < t.length → anyS (region t m i) = true) → rch t m k = lvs t k
  | 0, _, _ => rfl
  | k + 1, hk, h => by
    unfold rch lvs
    rw [rch_all k (by omega) h, h k (by omega)]
    simp
/-- no two leaves side by side are alike -/
theorem prun_apart {t : List Nd} {m : Int} (h : (treeF t m).2 = 0) {i a b : Nat} (hi : i < (prunV t m).length) (hf : nf (nAt (prunV t m) i) ≠ -1) (ea : nl (nAt (prunV t m) i) = a) (eb : nr (nAt (prunV t m) i) = b) : ¬ (nf (nAt (prunV t m) a) = -1 ∧ nf (nAt (prunV t m) b) = -1 ∧ nv (nAt (prunV t m) a) = nv (nAt (prunV t m) b)) := by
  obtain ⟨F, hb⟩ := prun_bare h
  have hR := F.2.2.2.2.1
  rintro ⟨l1, l2, l3⟩
  obtain ⟨a', b', ea', eb', h1, h2, h3, h4, _⟩ := ask_at hR hi hf
  have e1 : a' = a := by omega
  have e2 : b' = b := by omega
  subst e1
  subst e2
  have bi := (bare_at F hb (i + 1) i (by omega) hi).1
  rw [bt_ask hR hi hf ea eb] at bi
  exact bi.2.2.1 (nv (nAt (prunV t m) a')) ⟨bt_leaf h2 l1, by rw [bt_leaf h4 l2, l3]⟩
/-- in order each Left is right behind its node -/
theorem lay_left {m : Int} : ∀ (T : BT) (k j : Nat), okB m T → j < T.size → nf (nAt (lay T k) j) ≠ -1 → nl (nAt (lay T k) j) = ((k + j + 1 : Nat) : Int)
  | .lf v, k, j, h, hj, hf => by
    have hj' : j < 1 := hj
    obtain rfl : j = 0 := by omega
    exact absurd rfl hf
  | .nd f c s l r, k, j, ⟨g0, g1, g2, g3, g4⟩, hj, hf => by
    have es : (BT.nd f c s l r).size = 1 + l.size + r.size := rfl
    rw [es] at hj
    have e : lay (.nd f c s l r) k = (f, c, ((k + 1 : Nat) : Int), ((k + 1 + l.size : Nat) : Int), s, 0) :: (lay l (k + 1) ++ lay r (k + 1 + l.size)) := rfl
    rw [e] at hf ⊢
    rcases j with _ | j
    · rfl
    · have e2 : nAt ((f, c, ((k + 1 : Nat) : Int), ((k + 1 + l.size : Nat) : Int), s, (0 : Int)) :: (lay l (k + 1) ++ lay r (k + 1 + l.size))) (j + 1) = nAt (lay l (k + 1) ++ lay r (k + 1 + l.size)) j := by simp [nAt]
      rw [e2] at hf ⊢
      by_cases hl : j < l.size
      · have e3 : nAt (lay l (k + 1) ++ lay r (k + 1 + l.size)) j = nAt (lay l (k + 1)) j := by
          unfold nAt; simp [List.getD, List.getElem?_append_left (show j < (lay l (k + 1)).length by rw [lay_len]; exact hl)]
        rw [e3] at hf ⊢
        rw [lay_left l (k + 1) j g3 hl hf]
        omega
      · have e3 : nAt (lay l (k + 1) ++ lay r (k + 1 + l.size)) j = nAt (lay r (k + 1 + l.size)) (j - l.size) := by
          unfold nAt
          simp only [List.getD]
          rw [List.getElem?_append_right (by rw [lay_len]; omega), lay_len]
        rw [e3] at hf ⊢
        rw [lay_left r (k + 1 + l.size) (j - l.size) g4 (by omega) hf]
        omega
theorem prun_left {t : List Nd} {m : Int} (h : (treeF t m).2 = 0) {i : Nat} (hi : i < (prunV t m).length) (hf : nf (nAt (prunV t m) i) ≠ -1) : nl (nAt (prunV t m) i) = ((i + 1 : Nat) : Int) := by
  have F := (tree_ok h).1
  have ok := bt_ok F.2.2.2.2.1 t.length 0 F.2.1 (by omega)
  have e : prunV t m = lay (prn (vld m.toNat) (bt t 0)) 0 := by unfold prunV; rw [if_pos h]
  rw [e] at hi hf ⊢
  rw [lay_len] at hi
  rw [lay_left _ 0 i (prn_ok _ _ ok) hi hf]
  omega

/-! ### one value -/
theorem bt_all {t : List Nd} {m : Int} (h : Right t m) {v : Int} (hv : ∀ i, i < t.length → nf (nAt t i) = -1 → nv (nAt t i) = v) : ∀ (k i : Nat), i < t.length → t.length ≤ k + i → allV v (bt t i)
  | 0, i, hi, hk => by omega
  | k + 1, i, hi, hk => by
    by_cases hl : nf (nAt t i) = -1
    · rw [bt_leaf hi hl]; exact hv i hi hl
    · obtain ⟨a, b, ea, eb, h1, h2, h3, h4, _⟩ := ask_at h hi hl
      rw [bt_ask h hi hl ea eb]
      exact ⟨bt_all h hv k a h2 (by omega), bt_all h hv k b h4 (by omega)⟩
/-- where all leaves say one thing nothing is asked -/
theorem prun_one {t : List Nd} {m v : Int} (h : (treeF t m).2 = 0) (hv : ∀ i, i < t.length → nf (nAt t i) = -1 → nv (nAt t i) = v) : prunV t m = [(-1, 0, 0, 0, false, v)] := by
  have F := (tree_ok h).1
  unfold prunV
  rw [if_pos h, prn_one _ _ v (bt_all F.2.2.2.2.1 hv t.length 0 F.2.1 (by omega))]
  rfl

/-! ### no question twice on a way -/
/-- does a place stand below another one? -/
def ancB (t : List Nd) (i : Nat) : Nat → Nat → Bool
  | 0, j => decide (j = i)
  | f + 1, j => if j ≤ i then decide (j = i) else match abv t j with
    | none => false
    | some u => ancB t i f u
/-- who comes to a place below another one came by there, and all went one way -/
theorem anc_side {t : List Nd} {m : Nat} (F : Fair t (m : Int)) {i : Nat} (hi : i < t.length) : ∀ (f j : Nat), ancB t i f j = true → i < j → j < t.length → ∃ s : Bool, ∀ x, j ∈ way t x 0 → i ∈ way t x 0 ∧ lessC (nAt t i) (x.getD (nf (nAt t i)).toNat 0) = s
  | 0, j, h, hij, hj => by
    unfold ancB at h
    have := of_decide_eq_true h
    omega
  | f + 1, j, h, hij, hj => by
    have hR := F.2.2.2.2.1
    unfold ancB at h
    rw [if_neg (by omega)] at h
    obtain ⟨u, hu⟩ := abv_some F hj (by omega)
    rw [hu] at h
    obtain ⟨hul, c⟩ := (abv_iff F hj).1 hu
    have lu := ch_lt hR hul c
    obtain ⟨a, b, ea, eb, h1, h2, h3, h4, h5⟩ := ask_at hR hul c.1
    have up : ∀ x, j ∈ way t x 0 → u ∈ way t x 0 ∧ lessC (nAt t u) (x.getD (nf (nAt t u)).toNat 0) = decide (nl (nAt t u) = (j : Int)) := fun x hx => by
      have wl := way_left F x hul c.1 ea eb
      rcases c.2 with q | q
      · have e : a = j := by omega
        subst e
        rw [decide_eq_true ea]
        exact wl.1.1 hx
      · have e : b = j := by omega
        subst e
        rw [decide_eq_false (by rw [ea]; omega)]
        exact wl.2.1 hx
    rcases Nat.lt_trichotomy u i with q | q | q
    · have h' : ancB t i f u = true := h
      have : ancB t i f u = decide (u = i) := by
        cases f with
        | zero => rfl
        | succ f => unfold ancB; rw [if_pos (by omega)]
      rw [this] at h'
      have := of_decide_eq_true h'
      omega
    · subst q
      exact ⟨_, fun x hx => up x hx⟩
    · obtain ⟨s, hs⟩ := anc_side F hi f u h q hul
      exact ⟨s, fun x hx => hs x (up x hx).1⟩
/-- on no way a question stands twice -/
theorem prun_twice {t : List Nd} {m : Int} (h : (treeF t m).2 = 0) {i k f : Nat} (hik : i < k) (hk : k < (prunV t m).length) (hf : nf (nAt (prunV t m) k) ≠ -1) (e1 : nf (nAt (prunV t m) k) = nf (nAt (prunV t m) i)) (e2 : nc (nAt (prunV t m) k) = nc (nAt (prunV t m) i)) (e3 : ns (nAt (prunV t m) k) = ns (nAt (prunV t m) i)) : ancB (prunV t m) i f k = false := by
  obtain ⟨F, hb⟩ := prun_bare h
  have hR := F.2.2.2.2.1
  cases q : ancB (prunV t m) i f k with
  | false => rfl
  | true =>
    obtain ⟨s, hs⟩ := anc_side F (show i < (prunV t m).length by omega) f k q hik hk
    obtain ⟨a, b, ea, eb, _⟩ := ask_at hR hk hf
    have bk := (bare_at F hb (k + 1) k (by omega) hk).1
    rw [bt_ask hR hk hf ea eb] at bk
    obtain ⟨⟨x, px, gx⟩, ⟨y, py, gy⟩, _⟩ := bk
    have same : ∀ z, goes (nf (nAt (prunV t m) k)) (nc (nAt (prunV t m) k)) (ns (nAt (prunV t m) k)) z = lessC (nAt (prunV t m) i) (z.getD (nf (nAt (prunV t m) i)).toNat 0) := fun z => by rw [e1, e2, e3]; rfl
    rw [same] at gx gy
    have h1 := (hs x px.2).2
    have h2 := (hs y py.2).2
    rw [gx] at h1
    rw [gy] at h2
    rw [← h1] at h2
    cases h2

end Go.Proofs.YtlloiccodjnkcagGreatDoor.M
