/-
  PathRegions's own walk: at any tree and any row it answers true, where path.Region, path.Reach and path.Witness answer what the chapter says.
-/
import Derived.Test.YtandimbpealclacMathZ
import Derived.Test.YtandimbpealclacTLeaf
import Derived.Test.YtandimbpealclacFits
namespace Go.Proofs.Ytandimbpealclac
open Go.ChangeShapes Go.WideShapes Go.ChangeAt Go.RowKit Go.Lib
set_option linter.unusedVariables false

/-- what package path's calls answer -/
def RegionGives : Prop := ∀ (a : Option Addr) (ts : List M.Nd) (ca : Nat) (m k : Int) (W : World), RdN W a ts → Calls Try.prog 6 #[.slice a ts.length ca, .int .i64 m, .int .i64 k] W fun e w' =>
  ∃ ag cg, e = .returned (.tuple #[.slice ag (M.regV ts m k).length cg, .bool (M.regB ts m k), errV (M.regF ts m k)]) ∧ RdS w' ag (M.regV ts m k) ∧ Below W.heap.size W w'
def ReachGives : Prop := ∀ (a : Option Addr) (ts : List M.Nd) (ca : Nat) (m : Int) (W : World), RdN W a ts → Calls Try.prog 8 #[.slice a ts.length ca, .int .i64 m] W fun e w' =>
  ∃ ag cg, e = .returned (.tuple #[.slice ag (M.rchV ts m).length cg, errV (M.treeF ts m).2]) ∧ Rd w' ag (M.rchV ts m) ∧ Below W.heap.size W w'
def WitnessGives : Prop := ∀ (a : Option Addr) (ss : List M.Sp) (ca : Nat) (W : World), RdS W a ss → Calls Try.prog 10 #[.slice a ss.length ca] W fun e w' =>
  ∃ ag cg, e = .returned (.tuple #[.slice ag (M.witV ss).length cg, errV (M.spF ss)]) ∧ Rd w' ag (M.witV ss) ∧ Below W.heap.size W w'

abbrev oneTObj : Obj := .cells #[.int .i64 0, .int .i64 5, .int .i64 1, .int .i64 2, .bool false, .int .i64 0, .int .i64 (-1), .int .i64 0, .int .i64 0, .int .i64 0, .bool false, .int .i64 7, .int .i64 (-1), .int .i64 0, .int .i64 0, .int .i64 0, .bool false, .int .i64 9] 25
theorem oneT_rdn (w : World) : RdN (w.alloc oneTObj) (some ⟨w.heap.size, 0, none⟩) M.oneT := by
  refine ⟨by show 3 ≤ maxLen; unfold maxLen; decide, fun _ => ⟨w.heap.size, 0, rfl, by simp, fun i hi => ?_⟩⟩
  have c : ∀ j, (w.alloc oneTObj).cell? ⟨w.heap.size, j, none⟩ = _ := fun j => World.cell?_alloc_at _ _ _ j rfl
  have hi' : i < 3 := hi
  rcases i with _ | _ | _ | i
  · exact ⟨c _, c _, c _, c _, c _, c _⟩
  · exact ⟨c _, c _, c _, c _, c _, c _⟩
  · exact ⟨c _, c _, c _, c _, c _, c _⟩
  · omega
/-- the spans of that tree's last leaf -/
theorem oneT_region (hG : RegionGives) (w : World) : Calls Try.prog 6 #[.slice (some ⟨w.heap.size, 0, none⟩) 3 3, .int .i64 1, .int .i64 2] (w.alloc oneTObj) fun e w' =>
    ∃ b off cg, e = .returned (.tuple #[.slice (some ⟨b, off, none⟩) 1 cg, .bool true, .nilIface]) ∧ w'.cell? ⟨b, off, none⟩ = some (.int .i64 5) ∧ w'.cell? ⟨b, off + 2, none⟩ = some (.bool true) ∧ Below (w.alloc oneTObj).heap.size (w.alloc oneTObj) w' := by
  have h := hG (some ⟨w.heap.size, 0, none⟩) M.oneT 3 1 2 (w.alloc oneTObj) (oneT_rdn w)
  rw [M.one_region.2.1, M.one_region.2.2, err_nil M.one_region.1] at h
  refine h.mono ?_
  rintro e w' ⟨ag, cg, rfl, R, hb⟩
  obtain ⟨b, off, rfl, _, hc⟩ := R.2 (by simp)
  have q := hc 0 (by simp)
  exact ⟨b, off, cg, rfl, by simpa using q.1, by simpa using q.2.2, hb⟩

set_option maxHeartbeats 16000000 in
set_option maxRecDepth 10000 in
theorem regions_walk (hG : RegionGives) (hC : ReachGives) (hI : WitnessGives) (a b : Option Addr) (ts : List M.Nd) (xs : List Int) (ca cb : Nat) (w : World) (ht : RdN w a ts) (hr : Rd w b xs) :
    Calls Try.prog 3 #[.slice a ts.length ca, .slice b xs.length cb] w fun e w' => e = .returned (.bool true) ∧ Below w.heap.size w w' := by
  have hm : ts.length ≤ 9223372036854775807 := ht.1
  have hm2 : xs.length ≤ 9223372036854775807 := hr.1
  have B0 : Hid (Below w.heap.size w (w.alloc oneTObj)) := (Below.refl _ w).alloc (Nat.le_refl _) _
  have E1 := hide (oneT_region hG w)
  have C1 := hide (fun W (hW : Below w.heap.size w W) => leaf_any a b ts xs ca cb W (ht.below hW) (hr.below hW))
  by_cases h0 : M.readyF ts xs = 0
  · rw [err_nil h0] at C1
    have C2 := hide (fun W (hW : Below w.heap.size w W) => hC a ts ca (xs.length : Int) W (ht.below hW))
    rw [err_nil (M.ready_ok h0).2] at C2
    have CG := hide (fun k W (hW : Below w.heap.size w W) => hG a ts ca (xs.length : Int) k W (ht.below hW))
    have CW := hide hI
    have CF := hide (fun ag cg ss W (hW : Below w.heap.size w W) (hs : RdS W ag ss) => fits_any b ag xs ss cb cg W (hr.below hW) hs)
    have CL := hide (fun bg ys cg W (hW : Below w.heap.size w W) (hs : Rd W bg ys) => leaf_any a bg ts ys ca cg W (ht.below hW) hs)
    have LP : Hid (∀ k, k < ts.length → M.nf (M.nAt ts k) = -1 → _) := fun k hk hl => M.leaf_place h0 hk hl
    have WP : Hid (∀ k, k < ts.length → M.nf (M.nAt ts k) = -1 → M.regB ts (xs.length : Int) (k : Int) = true → _) := fun k hk hl hb => M.wit_place h0 hk hl hb
    have LL := M.leafV_leaf h0
    have LN := hide LL.2
    have lx := LL.1
    have l63 : ts.length ≤ 63 := (M.tree_ok (M.ready_ok h0).2).1.1
    have RL : (M.rchV ts (xs.length : Int)).length ≤ 63 := by
      unfold M.rchV
      rw [if_pos (M.ready_ok h0).2]
      have := M.rch_len ts (xs.length : Int).toNat ts.length
      omega
    have HT := hide ht
    clear h0 ht hr LL
    generalize M.rchV ts (xs.length : Int) = R at *
    generalize M.leafV ts xs = x at *
    go_enter Try.func3, Try.ntmps3
    go_wp2_with fail
    refine E1.out.mono ?_
    rintro e w1 ⟨b1, off1, cg1, rfl, c50, c52, hb1⟩
    have k1 := below_on B0.out hb1
    clear E1
    go_wp2_with (first
      | (go_at_call 7; refine (C1.out _ k1).mono ?_; rintro e w2 ⟨rfl, hb2⟩; have k2 := below_on k1 hb2)
      | (go_at_call 8; refine (C2.out _ k2).mono ?_; rintro e w3 ⟨ar, cr, rfl, R3, hb3⟩; have k3 := below_on k2 hb3))
    have HR := hide R3
    clear C1 C2 hb1 hb2 k1 k2 c50 c52 hb3 R3
    go_loopw [14, 15] (fun h i wr => ∃ k : Nat, k ≤ ts.length ∧ i = .int .i64 k ∧ h = .bool (decide (x < k)) ∧ Below w3.heap.size w3 wr) (fun _ i _ => ts.length - (intOf i).toNat)
    case atStart => exact ⟨0, Nat.zero_le _, rfl, rfl, Below.refl _ _⟩
    case round =>
      obtain ⟨k, hk, rfl, rfl, hbl⟩ := hrel
      have kw := below_on k3 hbl
      by_cases hlt : k < ts.length
      · obtain ⟨b5, off5, rfl, hb5, hc5⟩ := (HT.out.below kw).2 (by intro e; subst e; simp at hlt)
        have s0 := (hc5 k hlt).1
        clear hc5
        by_cases hf : M.nf (M.nAt ts k) = -1
        · have q : (M.nf (M.nAt ts k) != -1) = false := by rw [bne_eq_false_iff_eq]; exact hf
          obtain ⟨p1, p2, p3, p4, p5⟩ := LP.out k hlt hf
          have WK := hide (WP.out k hlt hf)
          have G1 := hide (CG.out (k : Int) wr kw)
          rw [err_nil p1] at G1
          have F1 := hide (fun ag cg W (hW : Below w.heap.size w W) (hs : RdS W ag (M.regV ts (xs.length : Int) (k : Int))) => CF.out ag cg _ W hW hs)
          rw [p3, err_nil p2] at F1
          have W1 := hide (fun ag cg W (hs : RdS W ag (M.regV ts (xs.length : Int) (k : Int))) => CW.out ag _ cg W hs)
          have P4 := hide p4
          have P5 := hide p5
          clear p1 p2 p3 p4 p5 hf LP WP CG CF CW
          generalize M.nf (M.nAt ts k) = y at *
          generalize M.regB ts (xs.length : Int) (k : Int) = B at *
          generalize M.spF (M.regV ts (xs.length : Int) (k : Int)) = sf at *
          generalize M.witV (M.regV ts (xs.length : Int) (k : Int)) = wv at *
          generalize M.regV ts (xs.length : Int) (k : Int) = V at *
          by_cases hkx : k = x
          · have q1 : ((k : Int) == (x : Int)) = true := by rw [beq_iff_eq]; omega
            have HN : Hid (true = decide (x < k + 1)) := (decide_eq_true (by omega)).symm
            have hB := P5.out hkx
            rw [decide_eq_true hkx] at F1
            rw [decide_eq_false (show ¬ x < k by omega)]
            subst hB
            clear hkx
            obtain ⟨t1, t2, t3⟩ := WK.out rfl
            have W2 := hide (fun ag cg W (hs : RdS W ag V) => W1.out ag cg W hs)
            rw [err_nil t1] at W2
            have L2 := hide (fun bg cg W (hW : Below w.heap.size w W) (hs : Rd W bg wv) => CL.out bg wv cg W hW hs)
            rw [err_nil t2, t3] at L2
            clear t1 t2 t3
            clear WK W1 CL P5
            go_wp2_with (first
              | (go_at_call 6; refine G1.out.mono ?_; rintro e w4 ⟨ag, cg, rfl, S4, hb4⟩; have k4 := below_on kw hb4)
              | (go_at_call 9; refine (F1.out ag cg _ k4 S4).mono ?_; rintro e w6 ⟨rfl, hb6⟩; have k6 := below_on k4 hb6))
            have R6 := hide (((HR.out.below hbl).below hb4).below hb6)
            have S6 := hide (S4.below hb6)
            have K6 := hide (below_on (below_on hbl hb4) hb6)
            clear S4 hb4 hb6 k4 G1 F1
            go_loop [21, 22] (fun v i => ∃ j : Nat, j ≤ R.length ∧ i = .int .i64 j ∧ v = .bool ((R.take j).any (· == (k : Int)))) (fun _ i => R.length - (intOf i).toNat)
            case atStart => exact ⟨0, Nat.zero_le _, rfl, by simp⟩
            case round =>
              obtain ⟨j, hj, rfl, rfl⟩ := hrel
              by_cases hjl : j < R.length
              · obtain ⟨bl, ol, rfl, hbl2, hcl⟩ := R6.out.2 (by intro e; subst e; simp at hjl)
                have hck := Rd.at hcl j hjl
                have NX := hide (M.any_take (x := (k : Int)) hjl)
                clear hcl
                cases hin : (R.take j).any (· == (k : Int)) with
                | true =>
                  have N : Hid (true = (R.take (j + 1)).any (· == (k : Int))) := by unfold Hid; rw [NX.out, hin]; rfl
                  clear NX hin
                  generalize R[j] = z at *
                  go_wp2
                  go_round
                  case rel => exact ⟨j + 1, by omega, by go_num, by rw [← N.out]⟩
                  case measure => simp [intOf]; omega
                | false =>
                  have N : Hid ((R[j] == (k : Int)) = (R.take (j + 1)).any (· == (k : Int))) := by unfold Hid; rw [NX.out, hin]; rfl
                  clear NX hin
                  generalize R[j] = z at *
                  go_wp2
                  go_round
                  case rel => exact ⟨j + 1, by omega, by go_num, by rw [← N.out]⟩
                  case measure => simp [intOf]; omega
              · have e : (R.take j).any (· == (k : Int)) = true := by rw [List.take_of_length_le (by omega)]; exact P4.out.symm
                rw [e]
                clear e P4
                go_wp2_with (first
                  | (go_at_call 10; refine (W2.out ag cg _ S6.out).mono ?_; rintro e w7 ⟨aw, cw, rfl, R7, hb7⟩; have k7 := below_on k6 hb7)
                  | (go_at_call 7; refine (L2.out aw cw _ k7 R7).mono ?_; rintro e w8 ⟨rfl, hb8⟩))
                go_roundw
                case rel => exact ⟨k + 1, by omega, by go_num, by rw [← HN.out], below_on (below_on K6.out hb7) hb8⟩
                case measure => simp [intOf]; omega
          · have q1 : ((k : Int) == (x : Int)) = false := by rw [beq_eq_false_iff_ne]; omega
            have HN : Hid (decide (x < k) = decide (x < k + 1)) := decide_eq_decide.2 ⟨fun h => by omega, fun h => by omega⟩
            rw [decide_eq_false hkx] at F1
            clear hkx
            generalize decide (x < k) = hb at *
            cases B with
            | true =>
              cases hb with
              | true =>
                obtain ⟨t1, t2, t3⟩ := WK.out rfl
                have W2 := hide (fun ag cg W (hs : RdS W ag V) => W1.out ag cg W hs)
                rw [err_nil t1] at W2
                have L2 := hide (fun bg cg W (hW : Below w.heap.size w W) (hs : Rd W bg wv) => CL.out bg wv cg W hW hs)
                rw [err_nil t2, t3] at L2
                clear t1 t2 t3
                clear WK W1 CL P5
                go_wp2_with (first
                  | (go_at_call 6; refine G1.out.mono ?_; rintro e w4 ⟨ag, cg, rfl, S4, hb4⟩; have k4 := below_on kw hb4)
                  | (go_at_call 9; refine (F1.out ag cg _ k4 S4).mono ?_; rintro e w6 ⟨rfl, hb6⟩; have k6 := below_on k4 hb6))
                have R6 := hide (((HR.out.below hbl).below hb4).below hb6)
                have S6 := hide (S4.below hb6)
                have K6 := hide (below_on (below_on hbl hb4) hb6)
                clear S4 hb4 hb6 k4 G1 F1
                go_loop [21, 22] (fun v i => ∃ j : Nat, j ≤ R.length ∧ i = .int .i64 j ∧ v = .bool ((R.take j).any (· == (k : Int)))) (fun _ i => R.length - (intOf i).toNat)
                case atStart => exact ⟨0, Nat.zero_le _, rfl, by simp⟩
                case round =>
                  obtain ⟨j, hj, rfl, rfl⟩ := hrel
                  by_cases hjl : j < R.length
                  · obtain ⟨bl, ol, rfl, hbl2, hcl⟩ := R6.out.2 (by intro e; subst e; simp at hjl)
                    have hck := Rd.at hcl j hjl
                    have NX := hide (M.any_take (x := (k : Int)) hjl)
                    clear hcl
                    cases hin : (R.take j).any (· == (k : Int)) with
                    | true =>
                      have N : Hid (true = (R.take (j + 1)).any (· == (k : Int))) := by unfold Hid; rw [NX.out, hin]; rfl
                      clear NX hin
                      generalize R[j] = z at *
                      go_wp2
                      go_round
                      case rel => exact ⟨j + 1, by omega, by go_num, by rw [← N.out]⟩
                      case measure => simp [intOf]; omega
                    | false =>
                      have N : Hid ((R[j] == (k : Int)) = (R.take (j + 1)).any (· == (k : Int))) := by unfold Hid; rw [NX.out, hin]; rfl
                      clear NX hin
                      generalize R[j] = z at *
                      go_wp2
                      go_round
                      case rel => exact ⟨j + 1, by omega, by go_num, by rw [← N.out]⟩
                      case measure => simp [intOf]; omega
                  · have e : (R.take j).any (· == (k : Int)) = true := by rw [List.take_of_length_le (by omega)]; exact P4.out.symm
                    rw [e]
                    clear e P4
                    go_wp2_with (first
                      | (go_at_call 10; refine (W2.out ag cg _ S6.out).mono ?_; rintro e w7 ⟨aw, cw, rfl, R7, hb7⟩; have k7 := below_on k6 hb7)
                      | (go_at_call 7; refine (L2.out aw cw _ k7 R7).mono ?_; rintro e w8 ⟨rfl, hb8⟩))
                    go_roundw
                    case rel => exact ⟨k + 1, by omega, by go_num, by rw [← HN.out], below_on (below_on K6.out hb7) hb8⟩
                    case measure => simp [intOf]; omega
              | false =>
                obtain ⟨t1, t2, t3⟩ := WK.out rfl
                have W2 := hide (fun ag cg W (hs : RdS W ag V) => W1.out ag cg W hs)
                rw [err_nil t1] at W2
                have L2 := hide (fun bg cg W (hW : Below w.heap.size w W) (hs : Rd W bg wv) => CL.out bg wv cg W hW hs)
                rw [err_nil t2, t3] at L2
                clear t1 t2 t3
                clear WK W1 CL P5
                go_wp2_with (first
                  | (go_at_call 6; refine G1.out.mono ?_; rintro e w4 ⟨ag, cg, rfl, S4, hb4⟩; have k4 := below_on kw hb4)
                  | (go_at_call 9; refine (F1.out ag cg _ k4 S4).mono ?_; rintro e w6 ⟨rfl, hb6⟩; have k6 := below_on k4 hb6))
                have R6 := hide (((HR.out.below hbl).below hb4).below hb6)
                have S6 := hide (S4.below hb6)
                have K6 := hide (below_on (below_on hbl hb4) hb6)
                clear S4 hb4 hb6 k4 G1 F1
                go_loop [21, 22] (fun v i => ∃ j : Nat, j ≤ R.length ∧ i = .int .i64 j ∧ v = .bool ((R.take j).any (· == (k : Int)))) (fun _ i => R.length - (intOf i).toNat)
                case atStart => exact ⟨0, Nat.zero_le _, rfl, by simp⟩
                case round =>
                  obtain ⟨j, hj, rfl, rfl⟩ := hrel
                  by_cases hjl : j < R.length
                  · obtain ⟨bl, ol, rfl, hbl2, hcl⟩ := R6.out.2 (by intro e; subst e; simp at hjl)
                    have hck := Rd.at hcl j hjl
                    have NX := hide (M.any_take (x := (k : Int)) hjl)
                    clear hcl
                    cases hin : (R.take j).any (· == (k : Int)) with
                    | true =>
                      have N : Hid (true = (R.take (j + 1)).any (· == (k : Int))) := by unfold Hid; rw [NX.out, hin]; rfl
                      clear NX hin
                      generalize R[j] = z at *
                      go_wp2
                      go_round
                      case rel => exact ⟨j + 1, by omega, by go_num, by rw [← N.out]⟩
                      case measure => simp [intOf]; omega
                    | false =>
                      have N : Hid ((R[j] == (k : Int)) = (R.take (j + 1)).any (· == (k : Int))) := by unfold Hid; rw [NX.out, hin]; rfl
                      clear NX hin
                      generalize R[j] = z at *
                      go_wp2
                      go_round
                      case rel => exact ⟨j + 1, by omega, by go_num, by rw [← N.out]⟩
                      case measure => simp [intOf]; omega
                  · have e : (R.take j).any (· == (k : Int)) = true := by rw [List.take_of_length_le (by omega)]; exact P4.out.symm
                    rw [e]
                    clear e P4
                    go_wp2_with (first
                      | (go_at_call 10; refine (W2.out ag cg _ S6.out).mono ?_; rintro e w7 ⟨aw, cw, rfl, R7, hb7⟩; have k7 := below_on k6 hb7)
                      | (go_at_call 7; refine (L2.out aw cw _ k7 R7).mono ?_; rintro e w8 ⟨rfl, hb8⟩))
                    go_roundw
                    case rel => exact ⟨k + 1, by omega, by go_num, by rw [← HN.out], below_on (below_on K6.out hb7) hb8⟩
                    case measure => simp [intOf]; omega
            | false =>
              cases hb with
              | true =>
                clear WK W1 CL P5
                go_wp2_with (first
                  | (go_at_call 6; refine G1.out.mono ?_; rintro e w4 ⟨ag, cg, rfl, S4, hb4⟩; have k4 := below_on kw hb4)
                  | (go_at_call 9; refine (F1.out ag cg _ k4 S4).mono ?_; rintro e w6 ⟨rfl, hb6⟩; have k6 := below_on k4 hb6))
                have R6 := hide (((HR.out.below hbl).below hb4).below hb6)
                have S6 := hide (S4.below hb6)
                have K6 := hide (below_on (below_on hbl hb4) hb6)
                clear S4 hb4 hb6 k4 G1 F1
                go_loop [21, 22] (fun v i => ∃ j : Nat, j ≤ R.length ∧ i = .int .i64 j ∧ v = .bool ((R.take j).any (· == (k : Int)))) (fun _ i => R.length - (intOf i).toNat)
                case atStart => exact ⟨0, Nat.zero_le _, rfl, by simp⟩
                case round =>
                  obtain ⟨j, hj, rfl, rfl⟩ := hrel
                  by_cases hjl : j < R.length
                  · obtain ⟨bl, ol, rfl, hbl2, hcl⟩ := R6.out.2 (by intro e; subst e; simp at hjl)
                    have hck := Rd.at hcl j hjl
                    have NX := hide (M.any_take (x := (k : Int)) hjl)
                    clear hcl
                    cases hin : (R.take j).any (· == (k : Int)) with
                    | true =>
                      have N : Hid (true = (R.take (j + 1)).any (· == (k : Int))) := by unfold Hid; rw [NX.out, hin]; rfl
                      clear NX hin
                      generalize R[j] = z at *
                      go_wp2
                      go_round
                      case rel => exact ⟨j + 1, by omega, by go_num, by rw [← N.out]⟩
                      case measure => simp [intOf]; omega
                    | false =>
                      have N : Hid ((R[j] == (k : Int)) = (R.take (j + 1)).any (· == (k : Int))) := by unfold Hid; rw [NX.out, hin]; rfl
                      clear NX hin
                      generalize R[j] = z at *
                      go_wp2
                      go_round
                      case rel => exact ⟨j + 1, by omega, by go_num, by rw [← N.out]⟩
                      case measure => simp [intOf]; omega
                  · have e : (R.take j).any (· == (k : Int)) = false := by rw [List.take_of_length_le (by omega)]; exact P4.out.symm
                    rw [e]
                    clear e P4
                    go_wp2
                    go_roundw
                    case rel => exact ⟨k + 1, by omega, by go_num, by rw [← HN.out], K6.out⟩
                    case measure => simp [intOf]; omega
              | false =>
                clear WK W1 CL P5
                go_wp2_with (first
                  | (go_at_call 6; refine G1.out.mono ?_; rintro e w4 ⟨ag, cg, rfl, S4, hb4⟩; have k4 := below_on kw hb4)
                  | (go_at_call 9; refine (F1.out ag cg _ k4 S4).mono ?_; rintro e w6 ⟨rfl, hb6⟩; have k6 := below_on k4 hb6))
                have R6 := hide (((HR.out.below hbl).below hb4).below hb6)
                have S6 := hide (S4.below hb6)
                have K6 := hide (below_on (below_on hbl hb4) hb6)
                clear S4 hb4 hb6 k4 G1 F1
                go_loop [21, 22] (fun v i => ∃ j : Nat, j ≤ R.length ∧ i = .int .i64 j ∧ v = .bool ((R.take j).any (· == (k : Int)))) (fun _ i => R.length - (intOf i).toNat)
                case atStart => exact ⟨0, Nat.zero_le _, rfl, by simp⟩
                case round =>
                  obtain ⟨j, hj, rfl, rfl⟩ := hrel
                  by_cases hjl : j < R.length
                  · obtain ⟨bl, ol, rfl, hbl2, hcl⟩ := R6.out.2 (by intro e; subst e; simp at hjl)
                    have hck := Rd.at hcl j hjl
                    have NX := hide (M.any_take (x := (k : Int)) hjl)
                    clear hcl
                    cases hin : (R.take j).any (· == (k : Int)) with
                    | true =>
                      have N : Hid (true = (R.take (j + 1)).any (· == (k : Int))) := by unfold Hid; rw [NX.out, hin]; rfl
                      clear NX hin
                      generalize R[j] = z at *
                      go_wp2
                      go_round
                      case rel => exact ⟨j + 1, by omega, by go_num, by rw [← N.out]⟩
                      case measure => simp [intOf]; omega
                    | false =>
                      have N : Hid ((R[j] == (k : Int)) = (R.take (j + 1)).any (· == (k : Int))) := by unfold Hid; rw [NX.out, hin]; rfl
                      clear NX hin
                      generalize R[j] = z at *
                      go_wp2
                      go_round
                      case rel => exact ⟨j + 1, by omega, by go_num, by rw [← N.out]⟩
                      case measure => simp [intOf]; omega
                  · have e : (R.take j).any (· == (k : Int)) = false := by rw [List.take_of_length_le (by omega)]; exact P4.out.symm
                    rw [e]
                    clear e P4
                    go_wp2
                    go_roundw
                    case rel => exact ⟨k + 1, by omega, by go_num, by rw [← HN.out], K6.out⟩
                    case measure => simp [intOf]; omega
        · have q : (M.nf (M.nAt ts k) != -1) = true := by rw [bne_iff_ne]; exact hf
          have HN : Hid (decide (x < k) = decide (x < k + 1)) := by
            have hkx : x ≠ k := by intro e; subst e; exact hf LN.out
            exact decide_eq_decide.2 ⟨fun h => by omega, fun h => by omega⟩
          clear hf LP WP CG CF CW
          generalize decide (x < k) = hb at *
          generalize M.nf (M.nAt ts k) = y at *
          go_wp2
          go_roundw
          case rel => exact ⟨k + 1, by omega, by go_num, by rw [← HN.out], hbl⟩
          case measure => simp [intOf]; omega
      · have e : decide (x < k) = true := decide_eq_true (by omega)
        rw [e]
        clear e
        go_wp2
        go_ret
        exact ⟨rfl, kw⟩
  · rw [err_some h0] at C1
    clear h0 ht hr hG hC hI
    generalize M.leafV ts xs = x at *
    generalize M.readyF ts xs = rf at *
    go_enter Try.func3, Try.ntmps3
    go_wp2_with fail
    refine E1.out.mono ?_
    rintro e w1 ⟨b1, off1, cg1, rfl, c50, c52, hb1⟩
    have k1 := below_on B0.out hb1
    clear E1
    go_wp2_with (go_at_call 7; refine (C1.out _ k1).mono ?_; rintro e w2 ⟨rfl, hb2⟩)
    go_ret
    exact ⟨rfl, below_on k1 hb2⟩

end Go.Proofs.Ytandimbpealclac
