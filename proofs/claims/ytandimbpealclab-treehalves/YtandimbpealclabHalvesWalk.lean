/-
  TreeHalves's own walk: at any tree, any row and any two numbers it answers true.
-/
import Derived.Test.YtandimbpealclabMathH
import Derived.Test.YtandimbpealclabTEval
import Derived.Test.YtandimbpealclabTLeaves
namespace Go.Proofs.Ytandimbpealclab
open Go.ChangeShapes Go.WideShapes Go.ChangeAt Go.RowKit Go.Lib
set_option linter.unusedVariables false

abbrev oneObj : Obj := .cells #[.int .i64 0, .int .i64 5, .int .i64 1, .int .i64 2, .bool false, .int .i64 0, .int .i64 (-1), .int .i64 0, .int .i64 0, .int .i64 0, .bool false, .int .i64 7, .int .i64 (-1), .int .i64 0, .int .i64 0, .int .i64 0, .bool false, .int .i64 9] 42
theorem one_rdn (w : World) : RdN (w.alloc oneObj) (some ⟨w.heap.size, 0, none⟩) M.oneT := by
  refine ⟨by show 3 ≤ maxLen; unfold maxLen; decide, fun _ => ⟨w.heap.size, 0, rfl, by simp, fun i hi => ?_⟩⟩
  have c : ∀ j, (w.alloc oneObj).cell? ⟨w.heap.size, j, none⟩ = _ := fun j => World.cell?_alloc_at _ _ _ j rfl
  have hi' : i < 3 := hi
  rcases i with _ | _ | _ | i
  · exact ⟨c _, c _, c _, c _, c _, c _⟩
  · exact ⟨c _, c _, c _, c _, c _, c _⟩
  · exact ⟨c _, c _, c _, c _, c _, c _⟩
  · omega

theorem one_eval (x y : Int) (w W : World) (g : Nat) (hg : g = W.heap.size) (hW : Below (w.alloc oneObj).heap.size (w.alloc oneObj) W) (h0 : M.readyF M.oneT [x] = 0) (h1 : M.evalV M.oneT [x] = y) :
    Calls Try.prog 13 #[.slice (some ⟨w.heap.size, 0, none⟩) 3 3, .slice (some ⟨g, 0, none⟩) 1 1] (W.alloc (.cells #[.int .i64 x] 3)) fun e w' => e = .returned (.tuple #[.int .i64 y, .nilIface]) ∧ Below W.heap.size W w' := by
  subst hg
  have h := eval_any (some ⟨w.heap.size, 0, none⟩) (some ⟨W.heap.size, 0, none⟩) M.oneT [x] 3 1 (W.alloc (.cells #[.int .i64 x] 3)) (((one_rdn w).below hW).below ((Below.refl _ W).alloc (Nat.le_refl _) _)) (one_rd W x 3)
  rw [h1, err_nil h0] at h
  exact h.mono fun e w' h => ⟨h.1, below_on ((Below.refl _ W).alloc (Nat.le_refl _) _) h.2⟩

set_option maxHeartbeats 8000000 in
set_option maxRecDepth 10000 in
theorem halves_walk (a0 b0 : Option Addr) (ts : List M.Nd) (xs : List Int) (ca cb : Nat) (ft c : Int) (w : World) (ht : RdN w a0 ts) (hr : Rd w b0 xs) :
    Calls Try.prog 5 #[.slice a0 ts.length ca, .slice b0 xs.length cb, .int .i64 ft, .int .i64 c] w fun e w' => e = .returned (.bool true) ∧ Below w.heap.size w w' := by
  have hm : ts.length ≤ 9223372036854775807 := ht.1
  have hm2 : xs.length ≤ 9223372036854775807 := hr.1
  have B0 : Hid (Below w.heap.size w (w.alloc oneObj)) := (Below.refl _ w).alloc (Nat.le_refl _) _
  have E4 := hide (fun W g (hg : g = W.heap.size) (hW : Below (w.alloc oneObj).heap.size (w.alloc oneObj) W) => one_eval 4 7 w W g hg hW (M.one_ready 4 (.inl rfl)) M.one_four)
  have E5 := hide (fun W g (hg : g = W.heap.size) (hW : Below (w.alloc oneObj).heap.size (w.alloc oneObj) W) => one_eval 5 9 w W g hg hW (M.one_ready 5 (.inr rfl)) M.one_five)
  have C1 : Hid (∀ W, Below w.heap.size w W → Calls Try.prog 14 #[.slice a0 ts.length ca] W fun e w' => ∃ ag cg, e = .returned (.tuple #[.slice ag (M.leavesV ts).length cg, errV (M.treeF ts 8).2]) ∧ Rd w' ag (M.leavesV ts) ∧ Below W.heap.size W w') := fun W hW => leaves_any a0 ts ca W (ht.below hW)
  have C2 : Hid (∀ W b ys cy, Below w.heap.size w W → Rd W b ys → Calls Try.prog 15 #[.slice a0 ts.length ca, .slice b ys.length cy] W fun e w' => e = .returned (.tuple #[.int .i64 (M.leafV ts ys : Nat), errV (M.readyF ts ys)]) ∧ Below W.heap.size W w') := fun W b ys cy hW hy => leaf_any a0 b ts ys ca cy W (ht.below hW) hy
  have C3 : Hid (∀ W, Below w.heap.size w W → Calls Try.prog 15 #[.slice a0 ts.length ca, .slice b0 xs.length cb] W fun e w' => e = .returned (.tuple #[.int .i64 (M.leafV ts xs : Nat), errV (M.readyF ts xs)]) ∧ Below W.heap.size W w') := fun W hW => leaf_any a0 b0 ts xs ca cb W (ht.below hW) (hr.below hW)
  by_cases h8 : (M.treeF ts 8).2 = 0
  · rw [err_nil h8] at C1
    have LH := M.leaves_half h8
    by_cases h1 : M.readyF ts xs = 0
    · have AM := hide (M.leaf_among h1 h8)
      have RS : Hid (∀ k c, M.outI c = false → M.readyF ts (xs.set k c) = 0) := fun k c hc => M.ready_set h1 hc
      have LS : Hid (∀ (k : Nat) c, M.outI c = false → (∀ j, j < ts.length → M.nf (M.nAt ts j) ≠ (k : Int)) → M.leafV ts (xs.set k c) = M.leafV ts xs) := fun k c hc hn => M.leaf_set h1 hc hn
      rw [err_nil h1] at C3
      have q2 : (2 * ((M.leavesV ts).length : Int) != (ts.length : Int) + 1) = false := by rw [bne_eq_false_iff_eq]; omega
      have l63 : ts.length ≤ 63 := (M.tree_ok h8).1.1
      have l8 : xs.length ≤ 8 := ((M.row_ok xs).1 (M.ready_ok h1).1).1
      have x63 : M.leafV ts xs < 63 := by have := (leaf_lt h1).1; omega
      have HT := hide ht
      have HX := hide hr
      clear h8 h1 ht hr
      generalize M.leavesV ts = L at *
      generalize hxx : M.leafV ts xs = x at *
      clear hxx
      go_enter Try.func5, Try.ntmps5
      go_wp2_with fail
      refine (E4.out _ _ (by simp) (Below.refl _ _)).mono ?_
      rintro e w1 ⟨rfl, hb1⟩
      go_wp2_with fail
      refine (E5.out _ _ rfl hb1).mono ?_
      rintro e w2 ⟨rfl, hb2⟩
      have k2 := below_on (below_on B0.out hb1) hb2
      clear E4 E5
      go_wp2_with (first
        | (go_at_call 14; refine (C1.out _ k2).mono ?_; rintro e w3 ⟨ag, cg, rfl, R3, hb3⟩; have k3 := below_on k2 hb3)
        | (go_at_call 15; refine (C3.out _ k3).mono ?_; rintro e w4 ⟨rfl, hb4⟩; have k4 := below_on k3 hb4))
      have R4 := hide (R3.below hb4)
      clear R3 hb4 hb3 hb2 hb1 k2 C1 C3 k3
      go_loop [18, 19] (fun v i => ∃ k : Nat, k ≤ L.length ∧ i = .int .i64 k ∧ v = .bool ((L.take k).any (· == (x : Int)))) (fun _ i => L.length - (intOf i).toNat)
      case atStart => exact ⟨0, Nat.zero_le _, rfl, by simp⟩
      case round =>
        obtain ⟨k, hk, rfl, rfl⟩ := hrel
        by_cases hlt : k < L.length
        · obtain ⟨bl, ol, rfl, hbl, hcl⟩ := R4.out.2 (by intro e; subst e; simp at hlt)
          have hck := Rd.at hcl k hlt
          have NX := hide (M.any_take (x := (x : Int)) hlt)
          clear hcl
          cases hin : (L.take k).any (· == (x : Int)) with
          | true =>
            have N : Hid (true = (L.take (k + 1)).any (· == (x : Int))) := by unfold Hid; rw [NX.out, hin]; rfl
            clear NX hin
            generalize L[k] = y at *
            go_wp2
            go_round
            case rel => exact ⟨k + 1, by omega, by go_num, by rw [← N.out]⟩
            case measure => simp [intOf]; omega
          | false =>
            have N : Hid ((L[k] == (x : Int)) = (L.take (k + 1)).any (· == (x : Int))) := by unfold Hid; rw [NX.out, hin]; rfl
            clear NX hin
            generalize L[k] = y at *
            go_wp2
            go_round
            case rel => exact ⟨k + 1, by omega, by go_num, by rw [← N.out]⟩
            case measure => simp [intOf]; omega
        · have e : (L.take k).any (· == (x : Int)) = true := by rw [List.take_of_length_le (by omega)]; exact AM.out
          rw [e]
          clear e AM
          by_cases h1 : ft < 0
          · have g1 : decide (ft < 0) = true := decide_eq_true h1
            go_wp2
            go_ret
            exact ⟨rfl, k4⟩
          · have g1 : decide (ft < 0) = false := decide_eq_false h1
            by_cases h2 : (xs.length : Int) ≤ ft
            · have g2 : decide ((xs.length : Int) ≤ ft) = true := decide_eq_true h2
              go_wp2
              go_ret
              exact ⟨rfl, k4⟩
            · have g2 : decide ((xs.length : Int) ≤ ft) = false := decide_eq_false h2
              by_cases h3 : c < -1000000
              · have g3 : decide (c < -1000000) = true := decide_eq_true h3
                go_wp2
                go_ret
                exact ⟨rfl, k4⟩
              · have g3 : decide (c < -1000000) = false := decide_eq_false h3
                by_cases h4 : 1000000 < c
                · have g4 : decide (1000000 < c) = true := decide_eq_true h4
                  go_wp2
                  go_ret
                  exact ⟨rfl, k4⟩
                · have g4 : decide (1000000 < c) = false := decide_eq_false h4
                  obtain ⟨f, rfl⟩ : ∃ f : Nat, ft = f := ⟨ft.toNat, by omega⟩
                  have hfl : f < xs.length := by omega
                  have hfz : (f : Int) < (xs.length : Int) := by omega
                  have oc : M.outI c = false := by unfold M.outI; rw [g3, g4]; rfl
                  have RS1 := hide (RS.out f c oc)
                  have LS1 := hide (LS.out f c oc)
                  clear h1 h2 h3 h4 oc RS LS
                  go_wp2
                  go_loop [20] (fun i => ∃ j : Nat, j ≤ ts.length ∧ i = .int .i64 j ∧ Hid (∀ p, p < j → M.nf (M.nAt ts p) ≠ (f : Int))) (fun i => ts.length - (intOf i).toNat)
                  case atStart => exact ⟨0, Nat.zero_le _, rfl, fun p hp => by omega⟩
                  case round =>
                    obtain ⟨j, hj, rfl, I⟩ := hrel
                    by_cases hjl : j < ts.length
                    · obtain ⟨b1, off, rfl, hb1, hc⟩ := HT.out.2 (by intro e; subst e; simp at hjl)
                      have s0 := ((hc j hjl).below k4 hb1).1
                      clear hc
                      by_cases hq : M.nf (M.nAt ts j) = (f : Int)
                      · have q : (M.nf (M.nAt ts j) == (f : Int)) = true := by rw [beq_iff_eq]; exact hq
                        clear hq
                        generalize M.nf (M.nAt ts j) = y at *
                        go_wp2
                        go_ret
                        exact ⟨rfl, k4⟩
                      · have q : (M.nf (M.nAt ts j) == (f : Int)) = false := by rw [beq_eq_false_iff_ne]; exact hq
                        have N : Hid (∀ p, p < j + 1 → M.nf (M.nAt ts p) ≠ (f : Int)) := fun p hp => by
                          by_cases e : p = j
                          · subst e; exact hq
                          · exact I.out p (by omega)
                        clear hq
                        generalize M.nf (M.nAt ts j) = y at *
                        go_wp2
                        go_round
                        case rel => exact ⟨j + 1, by omega, by go_num, N⟩
                        case measure => simp [intOf]; omega
                    · have LE := hide (LS1.out fun p hp => I.out p (by omega))
                      obtain ⟨i0, hi, hz0, hz1, hz2⟩ := info_parts info3
                      have I0 := hide hi
                      obtain ⟨bb, ob, rfl, hbb, hcb⟩ := (HX.out.below k4).2 (by intro e; subst e; simp at hfl)
                      have SC := hide (src_cells hcb)
                      have OC := hide (one_cells xs)
                      have ks := k4.size
                      clear hi hcb
                      go_wp2_with (at_builtin; refine wpList_append_lies _ rfl (.tmp 121) (.tmp 122) 22 rfl w.heap.size 3 i0 (.int .i64 0) 1 8 Try.underlying22 I0.out hz0 hz1 hz2 rfl (by omega) (.slice none 0 0) 0 [] rfl (World.ownsRow_nil _ _ _ _) ⟨bb, ob, none⟩ xs.length cb (xs.map (Value.int .i64)) rfl (by simp) SC.out OC.out (by omega) (by unfold maxLen; omega) (by omega) ks w4.heap.size rfl ?_)
                      intro g cap w5 hov hgrow hat hlt5
                      have ho : w5.ownsRow w.heap.size 3 1 (.slice (some ⟨g, 0, none⟩) xs.length cap) xs.length (xs.map (Value.int .i64)) := by simpa using hov
                      have hcell := own_at ho rfl f hfl
                      have hfr := ho.frozenAt f
                      have hst := (ho.stored f (.int .i64 c)).1
                      have k5 : Below w.heap.size w w5 := k4.grown hgrow ks (fun k hk => by cases hk)
                      have k6 : Below w.heap.size w (w5.setCell ⟨g, f, none⟩ (.int .i64 c)) := k5.setCell (ho.lt g rfl).1 _
                      have C5 : Calls Try.prog 15 #[.slice a0 ts.length ca, .slice (some ⟨g, 0, none⟩) xs.length cap] (w5.setCell ⟨g, f, none⟩ (.int .i64 c)) fun e w' => e = .returned (.tuple #[.int .i64 x, .nilIface]) ∧ Below (w5.setCell ⟨g, f, none⟩ (.int .i64 c)).heap.size (w5.setCell ⟨g, f, none⟩ (.int .i64 c)) w' := by
                        obtain ⟨a', cap', e, R, _⟩ := own_rd (F := xs.set f c) (by rw [List.length_set, List.map_set]; exact hst)
                        have := C2.out _ a' (xs.set f c) cap' k6 R
                        rw [← e, LE.out, err_nil RS1.out] at this
                        exact this
                      have D5 := hide C5
                      generalize xs[f] = y at *
                      clear hov ho hst hgrow hat C5 C2 LE RS1
                      go_wp2_with (go_at_call 15; refine D5.out.mono ?_; rintro e w7 ⟨rfl, hb7⟩)
                      go_ret
                      exact ⟨rfl, below_on k6 hb7⟩
    · rw [err_some h1] at C3
      have q2 : (2 * ((M.leavesV ts).length : Int) != (ts.length : Int) + 1) = false := by rw [bne_eq_false_iff_eq]; omega
      have l63 : ts.length ≤ 63 := (M.tree_ok h8).1.1
      clear h8 h1 ht hr C2
      generalize M.leavesV ts = L at *
      generalize M.leafV ts xs = x at *
      generalize M.readyF ts xs = rf at *
      go_enter Try.func5, Try.ntmps5
      go_wp2_with fail
      refine (E4.out _ _ (by simp) (Below.refl _ _)).mono ?_
      rintro e w1 ⟨rfl, hb1⟩
      go_wp2_with fail
      refine (E5.out _ _ rfl hb1).mono ?_
      rintro e w2 ⟨rfl, hb2⟩
      have k2 := below_on (below_on B0.out hb1) hb2
      clear E4 E5
      go_wp2_with (first
        | (go_at_call 14; refine (C1.out _ k2).mono ?_; rintro e w3 ⟨ag, cg, rfl, R3, hb3⟩; have k3 := below_on k2 hb3)
        | (go_at_call 15; refine (C3.out _ k3).mono ?_; rintro e w4 ⟨rfl, hb4⟩))
      go_ret
      exact ⟨rfl, below_on k3 hb4⟩
  · rw [err_some h8] at C1
    clear h8 C2 C3 ht hr
    generalize M.leavesV ts = L at *
    generalize (M.treeF ts 8).2 = tf at *
    go_enter Try.func5, Try.ntmps5
    go_wp2_with fail
    refine (E4.out _ _ (by simp) (Below.refl _ _)).mono ?_
    rintro e w1 ⟨rfl, hb1⟩
    go_wp2_with fail
    refine (E5.out _ _ rfl hb1).mono ?_
    rintro e w2 ⟨rfl, hb2⟩
    have k2 := below_on (below_on B0.out hb1) hb2
    clear E4 E5
    go_wp2_with (go_at_call 14; refine (C1.out _ k2).mono ?_; rintro e w3 ⟨ag, cg, rfl, R3, hb3⟩)
    go_ret
    exact ⟨rfl, below_on k2 hb3⟩

end Go.Proofs.Ytandimbpealclab
