/-
  Several texts as one: LimIn.
-/
import Derived.Test.YtelncekgjfpogahGreatDoorRunT16
import Derived.Test.YtelncekgjfpogahGreatDoorRunT13
import Derived.OwnWalk
import Derived.BigRegion
import Derived.Deep.RegionHeld3
namespace Go.Proofs.YtelncekgjfpogahGreatDoor
open Go.ChangeShapes Go.WideShapes Go.ChangeAt Go.RowKit Go.Lib
set_option linter.unusedVariables false
def M.fillX (X : List M.Sp) (k : Nat) : List M.Sp := X.take k ++ List.replicate (X.length - k) M.zeroS
theorem fillX_zero (X : List M.Sp) : M.fillX X 0 = List.replicate X.length M.zeroS := by unfold M.fillX; simp
theorem fillX_all (X : List M.Sp) : M.fillX X X.length = X := by unfold M.fillX; simp
theorem fillX_len (X : List M.Sp) {k : Nat} (h : k ≤ X.length) : (M.fillX X k).length = X.length := by unfold M.fillX; simp; omega
theorem fillX_set (X : List M.Sp) {k : Nat} (h : k < X.length) : (M.fillX X k).set k (X.getD k (0, 0, false)) = M.fillX X (k + 1) := by
 unfold M.fillX
 have hl : (X.take k).length = k := by rw [List.length_take]; omega
 rw [M.getD_at h, List.set_append_right _ _ (by omega), hl, Nat.sub_self, show X.length - k = (X.length - (k + 1)) + 1 by omega, List.replicate_succ, List.set_cons_zero, List.take_succ_eq_append_getElem h, List.append_assoc]
 rfl
theorem take_at {P : Program} {ops : Array Oper} {Q : Exit → Act → World → Prop} {md : Region.Mode} {S : World → Prop} {i : Nat} {d : Option Tmp} {oi : Oper} {v : Value} {fuel : Nat} {listed : Array Bool} {a : Act} {w : World} (hi : ops[i]? = some oi) (hd : oi.dst = d)
 (hs : Region.noSelect ops = true) (hf : Region.free md ops listed i = true) (hr : (Region.ready md ops listed).contains i = true)
 (hQ : ∀ c a w, Q (.panic c) (a.put d v) w → Q (.panic c) a w) (hy : YieldsIf P ops S oi v a) (hS : S w)
 (h : wpAnyH P md ops Q S fuel (listed.setIfInBounds i true) (a.put d v) w) : wpAnyH P md ops Q S (fuel + 1) listed a w := by
 subst hd
 exact wpAnyH_take hi hs hf hr hQ hy hS h
set_option maxHeartbeats 8000000 in
set_option maxRecDepth 10000 in
theorem common_any (a b : Option Addr) (ss us : List M.Sp) (ca cb : Nat) (w : World) (ha : RdS w a ss) (hb : RdS w b us) (hl : ss.length = us.length) (h8 : ss.length ≤ 8) :
 Calls Tryz.prog 118 #[.slice a ss.length ca, .slice b us.length cb] w fun e w' => ∃ ag cg, e = .returned (.slice ag (M.meet ss us).length cg) ∧ RdS w' ag (M.meet ss us) ∧ Below w.heap.size w w' := by
 have HA := hide ha.2
 have HB := hide hb.2
 have HL := hide hl
 have ML : Hid ((M.meet ss us).length = ss.length) := M.meet_len hl
 have MA : Hid (∀ k, k < ss.length → (M.meet ss us).getD k (0, 0, false) = M.meetS (ss.getD k (0, 0, false)) (us.getD k (0, 0, false))) := fun k hk => M.meet_at hl hk
 obtain ⟨i0, hi, hz0, hz1, hz2⟩ := info_parts info33
 have I0 := hide hi
 rw [← hl]
 obtain ⟨n, hn⟩ : ∃ n, n = ss.length := ⟨_, rfl⟩
 have HN := hide hn
 rw [← hn] at h8 ⊢
 clear ha hb hi hl hn
 generalize M.meet ss us = X at *
 go_enter Tryz.func118, Tryz.ntmps118
 go_wp2_with (at_make; refine wpList_make_full _ rfl (.tmp 8) (.tmp 8) 61 rfl w.heap.size 63 i0 (.agg #[.int .i64 0, .int .i64 0, .bool false]) 3 Tryz.underlying61 I0.out hz0 hz1 .i64 .i64 _ _ n rfl rfl (by omega) (by omega) (by rw [hz2]; omega) (by unfold maxLen; omega) (Nat.le_refl _) ?_; intro w3 hown hgrow)
 have hb3 : Below w.heap.size w w3 := (Below.refl _ w).grown hgrow (Nat.le_refl _) (fun k hk => by cases hk)
 have HO : Hid (w3.ownsRow w.heap.size 63 3 (.slice (some ⟨w.heap.size, 0, none⟩) n n) n (spCells (M.fillX X 0))) := by
  unfold Hid; rw [fillX_zero, ML.out, ← HN.out, ← madeS]; exact hown
 clear hown hgrow
 go_loopw [12] (fun i wr => ∃ k : Nat, k ≤ n ∧ i = .int .i64 k ∧ Hid (wr.ownsRow w.heap.size 63 3 (.slice (some ⟨w.heap.size, 0, none⟩) n n) n (spCells (M.fillX X k))) ∧ Hid (Below w.heap.size w wr)) (fun i _ => n - (intOf i).toNat)
 case atStart => exact ⟨0, Nat.zero_le _, rfl, HO, hb3⟩
 case round =>
  clear HO hb3
  obtain ⟨k, hk, rfl, HO, K⟩ := hrel
  by_cases hlt : k < n
  · have kz : (k : Int) < (n : Int) := by omega
    have ks : k < ss.length := by rw [← HN.out]; exact hlt
    have ku : k < us.length := by have := HL.out; omega
    obtain ⟨b1, o1, rfl, hb1, hc1⟩ := HA.out (by intro e; rw [e] at ks; simp at ks)
    obtain ⟨b2, o2, rfl, hb2, hc2⟩ := HB.out (by intro e; rw [e] at ku; simp at ku)
    obtain ⟨d0, d1, d2⟩ := hc1 k ks
    obtain ⟨e0, e1, e2⟩ := hc2 k ku
    have s0 := (K.out.cell (p := ⟨b1, o1 + k * 3, none⟩) hb1).trans d0
    have s1 := (K.out.cell (p := ⟨b1, o1 + k * 3 + 1, none⟩) hb1).trans d1
    have s2 := (K.out.cell (p := ⟨b1, o1 + k * 3 + 2, none⟩) hb1).trans d2
    have t0 := (K.out.cell (p := ⟨b2, o2 + k * 3, none⟩) hb2).trans e0
    have t1 := (K.out.cell (p := ⟨b2, o2 + k * 3 + 1, none⟩) hb2).trans e1
    have t2 := (K.out.cell (p := ⟨b2, o2 + k * 3 + 2, none⟩) hb2).trans e2
    have kX : k < X.length := by rw [ML.out]; exact ks
    have XK : Hid (X.getD k (0, 0, false) = (if (ss.getD k (0, 0, false)).1 < (us.getD k (0, 0, false)).1 then (us.getD k (0, 0, false)).1 else (ss.getD k (0, 0, false)).1, if (us.getD k (0, 0, false)).2.1 < (ss.getD k (0, 0, false)).2.1 then (us.getD k (0, 0, false)).2.1 else (ss.getD k (0, 0, false)).2.1, (ss.getD k (0, 0, false)).2.2 && (us.getD k (0, 0, false)).2.2)) := by
     unfold Hid; rw [MA.out k ks]; rfl
    have R := own_setS HO.out k (X.getD k (0, 0, false))
    rw [fillX_set X kX, XK.out] at R
    have RR := hide R
    have fl := fillX_len X (k := k) (by omega)
    rw [ML.out, ← HN.out] at fl
    have sl := spCells_len (M.fillX X k)
    obtain ⟨q0, q1, q2⟩ := spCells_at (M.fillX X k) k (by omega)
    have g0 := (HO.out.cellAt (k * 3) (by omega)).trans q0
    have g1 := (HO.out.cellAt (k * 3 + 1) (by omega)).trans q1
    have g2 := (HO.out.cellAt (k * 3 + 2) (by omega)).trans q2
    have z0 := HO.out.frozenAt (k * 3)
    have z1 := HO.out.frozenAt (k * 3 + 1)
    have z2 := HO.out.frozenAt (k * 3 + 2)
    clear hc1 hc2 d0 d1 d2 e0 e1 e2 R fl sl q0 q1 q2 XK MA kX
    generalize ((M.fillX X k).getD k (0, 0, false)).1 = y0 at *
    generalize ((M.fillX X k).getD k (0, 0, false)).2.1 = y1 at *
    generalize ((M.fillX X k).getD k (0, 0, false)).2.2 = y2 at *
    generalize (ss.getD k (0, 0, false)).1 = lo at *
    generalize (ss.getD k (0, 0, false)).2.1 = hi at *
    generalize (ss.getD k (0, 0, false)).2.2 = nl at *
    generalize (us.getD k (0, 0, false)).1 = lo2 at *
    generalize (us.getD k (0, 0, false)).2.1 = hi2 at *
    generalize (us.getD k (0, 0, false)).2.2 = nl2 at *
    have e1 : (if lo < lo2 then lo2 else lo) = max lo lo2 := by rw [Int.max_def]; split <;> split <;> omega
    have e2 : (if hi2 < hi then hi2 else hi) = min hi hi2 := by rw [Int.min_def]; split <;> split <;> omega
    rw [e1, e2] at RR
    have BW : Hid (∀ v0 v1 v2, Below w.heap.size w (((wr.setCell ⟨w.heap.size, k * 3, none⟩ v0).setCell ⟨w.heap.size, k * 3 + 1, none⟩ v1).setCell ⟨w.heap.size, k * 3 + 2, none⟩ v2).drew) := fun v0 v1 v2 =>
     (((K.out.setCell (p := ⟨w.heap.size, k * 3, none⟩) (Nat.le_refl _) v0).setCell (p := ⟨w.heap.size, k * 3 + 1, none⟩) (Nat.le_refl _) v1).setCell (p := ⟨w.heap.size, k * 3 + 2, none⟩) (Nat.le_refl _) v2).drew
    clear e1 e2 ks ku HA HB HL
    cases nl with
    | true =>
      have RT : Hid (((((wr.setCell ⟨w.heap.size, k * 3, none⟩ (.int .i64 (max lo lo2))).setCell ⟨w.heap.size, k * 3 + 1, none⟩ (.int .i64 (min hi hi2))).setCell ⟨w.heap.size, k * 3 + 2, none⟩ (.bool nl2)).drew).ownsRow w.heap.size 63 3 (.slice (some ⟨w.heap.size, 0, none⟩) n n) n (spCells (M.fillX X (k + 1)))) := RR.out.drew
      have RB := BW.out (.int .i64 (max lo lo2)) (.int .i64 (min hi hi2)) (.bool nl2)
      have BT := hide RB
      clear RR BW RB
      go_upto_region 5 with fail
      have k0 : (0 : Int) ≤ (k : Int) := by omega
      have n1 : ¬ b1 = w.heap.size := by omega
      have n2 : ¬ b2 = w.heap.size := by omega
      have n3 : ¬ w.heap.size = b1 := by omega
      have n4 : ¬ w.heap.size = b2 := by omega
      go_region_held3 (fun V => V.cell? ⟨b1, o1 + k * 3, none⟩ = some (.int .i64 lo) ∧ V.cell? ⟨b1, o1 + k * 3 + 1, none⟩ = some (.int .i64 hi) ∧ V.cell? ⟨b1, o1 + k * 3 + 2, none⟩ = some (.bool true) ∧ V.cell? ⟨b2, o2 + k * 3, none⟩ = some (.int .i64 lo2) ∧ V.cell? ⟨b2, o2 + k * 3 + 1, none⟩ = some (.int .i64 hi2) ∧ V.cell? ⟨b2, o2 + k * 3 + 2, none⟩ = some (.bool nl2)) (go_keep) (fail)
      all_goals (clear s0 s1 s2 t0 t1 t2 g0 g1 g2 z0 z1 z2 n1 n2 n3 n4 k0)
      all_goals (try go_wp2)
      all_goals exact ⟨⟨k + 1, by omega, by go_num, RT, BT⟩, by simp [intOf]; omega⟩
    | false =>
      have RT : Hid (((((wr.setCell ⟨w.heap.size, k * 3, none⟩ (.int .i64 (max lo lo2))).setCell ⟨w.heap.size, k * 3 + 1, none⟩ (.int .i64 (min hi hi2))).setCell ⟨w.heap.size, k * 3 + 2, none⟩ (.bool false)).drew).ownsRow w.heap.size 63 3 (.slice (some ⟨w.heap.size, 0, none⟩) n n) n (spCells (M.fillX X (k + 1)))) := RR.out.drew
      have RB := BW.out (.int .i64 (max lo lo2)) (.int .i64 (min hi hi2)) (.bool false)
      have BT := hide RB
      clear RR BW RB
      have k0 : (0 : Int) ≤ (k : Int) := by omega
      have n1 : ¬ b1 = w.heap.size := by omega
      have n2 : ¬ b2 = w.heap.size := by omega
      have n3 : ¬ w.heap.size = b1 := by omega
      have n4 : ¬ w.heap.size = b2 := by omega
      go_upto_region 5 with fail
      refine wp_region_held_drew (S := (fun V => V.cell? ⟨b1, o1 + k * 3, none⟩ = some (.int .i64 lo) ∧ V.cell? ⟨b1, o1 + k * 3 + 1, none⟩ = some (.int .i64 hi) ∧ V.cell? ⟨b1, o1 + k * 3 + 2, none⟩ = some (.bool false) ∧ V.cell? ⟨b2, o2 + k * 3, none⟩ = some (.int .i64 lo2) ∧ V.cell? ⟨b2, o2 + k * 3 + 1, none⟩ = some (.int .i64 hi2) ∧ V.cell? ⟨b2, o2 + k * 3 + 2, none⟩ = some (.bool nl2))) (by kernel_rfl) ?_ (fun hHeld => ?_)
      · exact ⟨s0, s1, s2, t0, t1, t2⟩
      refine take_at (i := 0) (d := some 15) (v := ?v0) rfl rfl (by kernel_rfl) (by kernel_rfl) (by kernel_rfl) (fun _ _ _ h => h) (Or.inl ⟨by rfl, ?h0⟩) (by assumption) ?r0
      case h0 => (intro w hSw; (try dsimp only at hSw); go_simp; (try with_reducible rfl))
      simp only [Act.put, List.setIfInBounds_toArray, List.set_cons_zero, List.set_cons_succ]
      refine take_at (i := 1) (d := some 16) (v := ?v1) rfl rfl (by kernel_rfl) (by kernel_rfl) (by kernel_rfl) (fun _ _ _ h => h) (Or.inl ⟨by rfl, ?h1⟩) (by assumption) ?r1
      case h1 => (intro w hSw; (try dsimp only at hSw); go_simp; (try with_reducible rfl))
      simp only [Act.put, List.setIfInBounds_toArray, List.set_cons_zero, List.set_cons_succ]
      refine take_at (i := 2) (d := some 17) (v := ?v2) rfl rfl (by kernel_rfl) (by kernel_rfl) (by kernel_rfl) (fun _ _ _ h => h) (Or.inl ⟨by rfl, ?h2⟩) (by assumption) ?r2
      case h2 => (intro w hSw; (try dsimp only at hSw); go_simp; (try with_reducible rfl))
      simp only [Act.put, List.setIfInBounds_toArray, List.set_cons_zero, List.set_cons_succ]
      refine take_at (i := 3) (d := some 18) (v := ?v3) rfl rfl (by kernel_rfl) (by kernel_rfl) (by kernel_rfl) (fun _ _ _ h => h) (Or.inl ⟨by rfl, ?h3⟩) (by assumption) ?r3
      case h3 => (intro w hSw; (try dsimp only at hSw); go_simp; (try with_reducible rfl))
      simp only [Act.put, List.setIfInBounds_toArray, List.set_cons_zero, List.set_cons_succ]
      refine take_at (i := 4) (d := some 19) (v := ?v4) rfl rfl (by kernel_rfl) (by kernel_rfl) (by kernel_rfl) (fun _ _ _ h => h) (Or.inl ⟨by rfl, ?h4⟩) (by assumption) ?r4
      case h4 => (intro w hSw; (try dsimp only at hSw); go_simp; (try with_reducible rfl))
      simp only [Act.put, List.setIfInBounds_toArray, List.set_cons_zero, List.set_cons_succ]
      refine take_at (i := 5) (d := some 20) (v := ?v5) rfl rfl (by kernel_rfl) (by kernel_rfl) (by kernel_rfl) (fun _ _ _ h => h) (Or.inl ⟨by rfl, ?h5⟩) (by assumption) ?r5
      case h5 => (intro w hSw; (try dsimp only at hSw); go_simp; (try with_reducible rfl))
      simp only [Act.put, List.setIfInBounds_toArray, List.set_cons_zero, List.set_cons_succ]
      refine take_at (i := 6) (d := some 21) (v := ?v6) rfl rfl (by kernel_rfl) (by kernel_rfl) (by kernel_rfl) (fun _ _ _ h => h) (Or.inl ⟨by rfl, ?h6⟩) (by assumption) ?r6
      case h6 => (intro w hSw; (try dsimp only at hSw); go_simp; (try with_reducible rfl))
      simp only [Act.put, List.setIfInBounds_toArray, List.set_cons_zero, List.set_cons_succ]
      refine take_at (i := 7) (d := some 22) (v := ?v7) rfl rfl (by kernel_rfl) (by kernel_rfl) (by kernel_rfl) (fun _ _ _ h => h) (Or.inl ⟨by rfl, ?h7⟩) (by assumption) ?r7
      case h7 => (intro w hSw; (try dsimp only at hSw); go_simp; (try with_reducible rfl))
      simp only [Act.put, List.setIfInBounds_toArray, List.set_cons_zero, List.set_cons_succ]
      refine take_at (i := 8) (d := some 23) (v := ?v8) rfl rfl (by kernel_rfl) (by kernel_rfl) (by kernel_rfl) (fun _ _ _ h => h) (Or.inl ⟨by rfl, ?h8⟩) (by assumption) ?r8
      case h8 => (intro w hSw; (try dsimp only at hSw); go_simp; (try with_reducible rfl))
      simp only [Act.put, List.setIfInBounds_toArray, List.set_cons_zero, List.set_cons_succ]
      refine take_at (i := 9) (d := some 24) (v := ?v9) rfl rfl (by kernel_rfl) (by kernel_rfl) (by kernel_rfl) (fun _ _ _ h => h) (Or.inl ⟨by rfl, ?h9⟩) (by assumption) ?r9
      case h9 => (intro w hSw; (try dsimp only at hSw); go_simp; (try with_reducible rfl))
      simp only [Act.put, List.setIfInBounds_toArray, List.set_cons_zero, List.set_cons_succ]
      refine take_at (i := 10) (d := some 25) (v := ?v10) rfl rfl (by kernel_rfl) (by kernel_rfl) (by kernel_rfl) (fun _ _ _ h => h) (Or.inl ⟨by rfl, ?h10⟩) (by assumption) ?r10
      case h10 => (intro w hSw; (try dsimp only at hSw); go_simp; (try with_reducible rfl))
      simp only [Act.put, List.setIfInBounds_toArray, List.set_cons_zero, List.set_cons_succ]
      refine take_at (i := 11) (d := some 26) (v := ?v11) rfl rfl (by kernel_rfl) (by kernel_rfl) (by kernel_rfl) (fun _ _ _ h => h) (Or.inl ⟨by rfl, ?h11⟩) (by assumption) ?r11
      case h11 => (intro w hSw; (try dsimp only at hSw); go_simp; (try with_reducible rfl))
      simp only [Act.put, List.setIfInBounds_toArray, List.set_cons_zero, List.set_cons_succ]
      refine take_at (i := 12) (d := some 27) (v := ?v12) rfl rfl (by kernel_rfl) (by kernel_rfl) (by kernel_rfl) (fun _ _ _ h => h) (Or.inl ⟨by rfl, ?h12⟩) (by assumption) ?r12
      case h12 => (intro w hSw; (try dsimp only at hSw); go_simp; (try with_reducible rfl))
      simp only [Act.put, List.setIfInBounds_toArray, List.set_cons_zero, List.set_cons_succ]
      refine take_at (i := 13) (d := some 28) (v := ?v13) rfl rfl (by kernel_rfl) (by kernel_rfl) (by kernel_rfl) (fun _ _ _ h => h) (Or.inl ⟨by rfl, ?h13⟩) (by assumption) ?r13
      case h13 => (intro w hSw; (try dsimp only at hSw); go_simp; (try with_reducible rfl))
      simp only [Act.put, List.setIfInBounds_toArray, List.set_cons_zero, List.set_cons_succ]
      refine take_at (i := 14) (d := some 29) (v := ?v14) rfl rfl (by kernel_rfl) (by kernel_rfl) (by kernel_rfl) (fun _ _ _ h => h) (Or.inl ⟨by rfl, ?h14⟩) (by assumption) ?r14
      case h14 => (intro w hSw; (try dsimp only at hSw); go_simp; (try with_reducible rfl))
      simp only [Act.put, List.setIfInBounds_toArray, List.set_cons_zero, List.set_cons_succ]
      refine take_at (i := 15) (d := some 30) (v := ?v15) rfl rfl (by kernel_rfl) (by kernel_rfl) (by kernel_rfl) (fun _ _ _ h => h) (Or.inl ⟨by rfl, ?h15⟩) (by assumption) ?r15
      case h15 => (intro w hSw; (try dsimp only at hSw); go_simp; (try with_reducible rfl))
      simp only [Act.put, List.setIfInBounds_toArray, List.set_cons_zero, List.set_cons_succ]
      refine take_at (i := 16) (d := some 31) (v := ?v16) rfl rfl (by kernel_rfl) (by kernel_rfl) (by kernel_rfl) (fun _ _ _ h => h) (Or.inl ⟨by rfl, ?h16⟩) (by assumption) ?r16
      case h16 => (intro w hSw; (try dsimp only at hSw); go_simp; (try with_reducible rfl))
      simp only [Act.put, List.setIfInBounds_toArray, List.set_cons_zero, List.set_cons_succ]
      refine take_at (i := 17) (d := some 32) (v := ?v17) rfl rfl (by kernel_rfl) (by kernel_rfl) (by kernel_rfl) (fun _ _ _ h => h) (Or.inl ⟨by rfl, ?h17⟩) (by assumption) ?r17
      case h17 => (intro w hSw; (try dsimp only at hSw); go_simp; (try with_reducible rfl))
      simp only [Act.put, List.setIfInBounds_toArray, List.set_cons_zero, List.set_cons_succ]
      refine take_at (i := 18) (d := some 33) (v := ?v18) rfl rfl (by kernel_rfl) (by kernel_rfl) (by kernel_rfl) (fun _ _ _ h => h) (Or.inl ⟨by rfl, ?h18⟩) (by assumption) ?r18
      case h18 => (intro w hSw; (try dsimp only at hSw); go_simp; (try with_reducible rfl))
      simp only [Act.put, List.setIfInBounds_toArray, List.set_cons_zero, List.set_cons_succ]
      refine take_at (i := 19) (d := some 34) (v := ?v19) rfl rfl (by kernel_rfl) (by kernel_rfl) (by kernel_rfl) (fun _ _ _ h => h) (Or.inl ⟨by rfl, ?h19⟩) (by assumption) ?r19
      case h19 => (intro w hSw; (try dsimp only at hSw); go_simp; (try with_reducible rfl))
      simp only [Act.put, List.setIfInBounds_toArray, List.set_cons_zero, List.set_cons_succ]
      refine take_at (i := 20) (d := some 35) (v := ?v20) rfl rfl (by kernel_rfl) (by kernel_rfl) (by kernel_rfl) (fun _ _ _ h => h) (Or.inl ⟨by rfl, ?h20⟩) (by assumption) ?r20
      case h20 => (intro w hSw; (try dsimp only at hSw); go_simp; (try with_reducible rfl))
      simp only [Act.put, List.setIfInBounds_toArray, List.set_cons_zero, List.set_cons_succ]
      refine take_at (i := 21) (d := some 36) (v := ?v21) rfl rfl (by kernel_rfl) (by kernel_rfl) (by kernel_rfl) (fun _ _ _ h => h) (Or.inl ⟨by rfl, ?h21⟩) (by assumption) ?r21
      case h21 => (intro w hSw; (try dsimp only at hSw); go_simp; (try with_reducible rfl))
      simp only [Act.put, List.setIfInBounds_toArray, List.set_cons_zero, List.set_cons_succ]
      refine take_at (i := 22) (d := some 37) (v := ?v22) rfl rfl (by kernel_rfl) (by kernel_rfl) (by kernel_rfl) (fun _ _ _ h => h) (Or.inl ⟨by rfl, ?h22⟩) (by assumption) ?r22
      case h22 => (intro w hSw; (try dsimp only at hSw); go_simp; (try with_reducible rfl))
      simp only [Act.put, List.setIfInBounds_toArray, List.set_cons_zero, List.set_cons_succ]
      refine take_at (i := 23) (d := some 38) (v := ?v23) rfl rfl (by kernel_rfl) (by kernel_rfl) (by kernel_rfl) (fun _ _ _ h => h) (Or.inl ⟨by rfl, ?h23⟩) (by assumption) ?r23
      case h23 => (intro w hSw; (try dsimp only at hSw); go_simp; (try with_reducible rfl))
      simp only [Act.put, List.setIfInBounds_toArray, List.set_cons_zero, List.set_cons_succ]
      refine take_at (i := 24) (d := some 39) (v := ?v24) rfl rfl (by kernel_rfl) (by kernel_rfl) (by kernel_rfl) (fun _ _ _ h => h) (Or.inl ⟨by rfl, ?h24⟩) (by assumption) ?r24
      case h24 => (intro w hSw; (try dsimp only at hSw); go_simp; (try with_reducible rfl))
      simp only [Act.put, List.setIfInBounds_toArray, List.set_cons_zero, List.set_cons_succ]
      refine take_at (i := 25) (d := some 40) (v := ?v25) rfl rfl (by kernel_rfl) (by kernel_rfl) (by kernel_rfl) (fun _ _ _ h => h) (Or.inl ⟨by rfl, ?h25⟩) (by assumption) ?r25
      case h25 => (intro w hSw; (try dsimp only at hSw); go_simp; (try with_reducible rfl))
      simp only [Act.put, List.setIfInBounds_toArray, List.set_cons_zero, List.set_cons_succ]
      refine take_at (i := 26) (d := some 41) (v := ?v26) rfl rfl (by kernel_rfl) (by kernel_rfl) (by kernel_rfl) (fun _ _ _ h => h) (Or.inl ⟨by rfl, ?h26⟩) (by assumption) ?r26
      case h26 => (intro w hSw; (try dsimp only at hSw); go_simp; (try with_reducible rfl))
      simp only [Act.put, List.setIfInBounds_toArray, List.set_cons_zero, List.set_cons_succ]
      refine take_at (i := 27) (d := some 42) (v := ?v27) rfl rfl (by kernel_rfl) (by kernel_rfl) (by kernel_rfl) (fun _ _ _ h => h) (Or.inl ⟨by rfl, ?h27⟩) (by assumption) ?r27
      case h27 => (intro w hSw; (try dsimp only at hSw); go_simp; (try with_reducible rfl))
      simp only [Act.put, List.setIfInBounds_toArray, List.set_cons_zero, List.set_cons_succ]
      refine take_at (i := 28) (d := some 43) (v := ?v28) rfl rfl (by kernel_rfl) (by kernel_rfl) (by kernel_rfl) (fun _ _ _ h => h) (Or.inl ⟨by rfl, ?h28⟩) (by assumption) ?r28
      case h28 => (intro w hSw; (try dsimp only at hSw); go_simp; (try with_reducible rfl))
      simp only [Act.put, List.setIfInBounds_toArray, List.set_cons_zero, List.set_cons_succ]
      refine take_at (i := 29) (d := some 44) (v := ?v29) rfl rfl (by kernel_rfl) (by kernel_rfl) (by kernel_rfl) (fun _ _ _ h => h) (Or.inl ⟨by rfl, ?h29⟩) (by assumption) ?r29
      case h29 => (intro w hSw; (try dsimp only at hSw); go_simp; (try with_reducible rfl))
      simp only [Act.put, List.setIfInBounds_toArray, List.set_cons_zero, List.set_cons_succ]
      refine take_at (i := 30) (d := some 45) (v := undef) rfl rfl (by kernel_rfl) (by kernel_rfl) (by kernel_rfl) (fun _ _ _ h => h) (Or.inr ⟨by rfl, rfl⟩) (by assumption) ?_
      simp only [Act.put, List.setIfInBounds_toArray, List.set_cons_zero, List.set_cons_succ]
      refine take_at (i := 31) (d := some 46) (v := undef) rfl rfl (by kernel_rfl) (by kernel_rfl) (by kernel_rfl) (fun _ _ _ h => h) (Or.inr ⟨by rfl, rfl⟩) (by assumption) ?_
      simp only [Act.put, List.setIfInBounds_toArray, List.set_cons_zero, List.set_cons_succ]
      refine take_at (i := 32) (d := some 47) (v := undef) rfl rfl (by kernel_rfl) (by kernel_rfl) (by kernel_rfl) (fun _ _ _ h => h) (Or.inr ⟨by rfl, rfl⟩) (by assumption) ?_
      simp only [Act.put, List.setIfInBounds_toArray, List.set_cons_zero, List.set_cons_succ]
      refine take_at (i := 33) (d := some 48) (v := undef) rfl rfl (by kernel_rfl) (by kernel_rfl) (by kernel_rfl) (fun _ _ _ h => h) (Or.inr ⟨by rfl, rfl⟩) (by assumption) ?_
      simp only [Act.put, List.setIfInBounds_toArray, List.set_cons_zero, List.set_cons_succ]
      refine take_at (i := 34) (d := some 49) (v := undef) rfl rfl (by kernel_rfl) (by kernel_rfl) (by kernel_rfl) (fun _ _ _ h => h) (Or.inr ⟨by rfl, rfl⟩) (by assumption) ?_
      simp only [Act.put, List.setIfInBounds_toArray, List.set_cons_zero, List.set_cons_succ]
      refine take_at (i := 35) (d := some 50) (v := ?v35) rfl rfl (by kernel_rfl) (by kernel_rfl) (by kernel_rfl) (fun _ _ _ h => h) (Or.inl ⟨by rfl, ?h35⟩) (by assumption) ?r35
      case h35 => (intro w hSw; (try dsimp only at hSw); go_simp; (try with_reducible rfl))
      simp only [Act.put, List.setIfInBounds_toArray, List.set_cons_zero, List.set_cons_succ]
      refine take_at (i := 36) (d := some 51) (v := ?v36) rfl rfl (by kernel_rfl) (by kernel_rfl) (by kernel_rfl) (fun _ _ _ h => h) (Or.inl ⟨by rfl, ?h36⟩) (by assumption) ?r36
      case h36 => (intro w hSw; (try dsimp only at hSw); go_simp; (try with_reducible rfl))
      simp only [Act.put, List.setIfInBounds_toArray, List.set_cons_zero, List.set_cons_succ]
      refine take_at (i := 37) (d := some 52) (v := ?v37) rfl rfl (by kernel_rfl) (by kernel_rfl) (by kernel_rfl) (fun _ _ _ h => h) (Or.inl ⟨by rfl, ?h37⟩) (by assumption) ?r37
      case h37 => (intro w hSw; (try dsimp only at hSw); go_simp; (try with_reducible rfl))
      simp only [Act.put, List.setIfInBounds_toArray, List.set_cons_zero, List.set_cons_succ]
      refine wpAnyH_ready (rs := [38]) (by kernel_rfl) (by simp) ?_
      refine AllReadyH.cons rfl (fun KK hKK => ?_) AllReadyH.nil
      simp only [List.getElem_toArray, List.getElem_cons_succ, List.getElem_cons_zero]
      go_simp
      refine hKK.out _ _ ?_ (fun hHeld2 => ?_)
      · (try dsimp only)
        go_keep
      clear hKK KK
      (try simp only [Act.put, List.setIfInBounds_toArray, List.set_cons_zero, List.set_cons_succ])
      refine wpAnyH_done (by kernel_rfl) ?_ _
      clear s0 s1 s2 t0 t1 t2 g0 g1 g2 z0 z1 z2 n1 n2 n3 n4 k0 hHeld hHeld2
      (try go_wp2)
      exact ⟨⟨k + 1, by omega, by go_num, RT, BT⟩, by simp [intOf]; omega⟩
  · have E : k = n := by omega
    have fa : M.fillX X n = X := by rw [HN.out, ← ML.out]; exact fillX_all X
    have ho := HO.out
    rw [E, fa] at ho
    obtain ⟨ga, gc, ev, hr⟩ := own_rdS (by rw [ML.out, ← HN.out]) (by unfold maxLen; omega) ho
    cases ev
    have HR := hide hr
    clear E fa ho HO hr
    go_wp2
    go_ret
    exact ⟨some ⟨w.heap.size, 0, none⟩, n, by rw [ML.out, ← HN.out]; rfl, HR.out, K.out⟩
end Go.Proofs.YtelncekgjfpogahGreatDoor
