/-
  Several texts as one: CaSame.
-/
import Derived.Test.YtodidokeblblgaaGreatDoorRunK8
import Derived.Test.YtodidokeblblgaaGreatDoorRunK3
import Derived.Test.YtodidokeblblgaaGreatDoorRunK2
import Derived.Deep.Cut
import Derived.Deep.CutRange
namespace Go.Proofs.YtodidokeblblgaaGreatDoor
open Go.ChangeShapes Go.WideShapes Go.ChangeAt Go.RowKit Go.Lib
set_option linter.unusedVariables false
set_option maxHeartbeats 8000000 in
theorem call_same (c : M.Ca) (a b : Option Addr) (ca cb : Nat) (w : World) (ha : RdB w a c.bys) (hb : RdB w b c.bys) :
    Calls Tryz.prog 30 #[caV c a ca, caV c b cb] w fun e w' => e = .returned (.bool true) ∧ Below w.heap.size w w' := by
  unfold caV
  obtain ⟨W1, hW1⟩ : ∃ X, X = (w.alloc (.cells #[.int .i64 c.what, .int .i64 c.ses, .int .i64 c.seq, .string (byStr c.name), .int .i64 c.num, .int .i64 c.share, .slice a c.bys.length ca] 36)).alloc (.cells #[.int .i64 c.what, .int .i64 c.ses, .int .i64 c.seq, .string (byStr c.name), .int .i64 c.num, .int .i64 c.share, .slice b c.bys.length cb] 36) := ⟨_, rfl⟩
  have z1 : (w.alloc (.cells #[.int .i64 c.what, .int .i64 c.ses, .int .i64 c.seq, .string (byStr c.name), .int .i64 c.num, .int .i64 c.share, .slice a c.bys.length ca] 36)).heap.size = w.heap.size + 1 := by simp
  have K1 : Below w.heap.size w W1 := by rw [hW1]; exact ((Below.refl _ _).alloc (Nat.le_refl _) _).alloc (by simp) _
  have x1 : Bx W1 w.heap.size [.int .i64 c.what, .int .i64 c.ses, .int .i64 c.seq, .string (byStr c.name), .int .i64 c.num, .int .i64 c.share, .slice a c.bys.length ca] := by
    rw [hW1]
    have bx := bx_new w [.int .i64 c.what, .int .i64 c.ses, .int .i64 c.seq, .string (byStr c.name), .int .i64 c.num, .int .i64 c.share, .slice a c.bys.length ca] 36
    exact bx.keep (((Below.refl _ _).alloc (Nat.le_refl _) _).block _ bx.lt)
  have x2 : Bx W1 (w.heap.size + 1) [.int .i64 c.what, .int .i64 c.ses, .int .i64 c.seq, .string (byStr c.name), .int .i64 c.num, .int .i64 c.share, .slice b c.bys.length cb] := by
    rw [hW1, ← z1]
    exact bx_new _ [.int .i64 c.what, .int .i64 c.ses, .int .i64 c.seq, .string (byStr c.name), .int .i64 c.num, .int .i64 c.share, .slice b c.bys.length cb] 36
  have p0 := x1.cell 0 _ rfl
  have p1 := x1.cell 1 _ rfl
  have p2 := x1.cell 2 _ rfl
  have p3 := x1.cell 3 _ rfl
  have p4 := x1.cell 4 _ rfl
  have p5 := x1.cell 5 _ rfl
  have p6 := x1.cell 6 _ rfl
  have q0 := x2.cell 0 _ rfl
  have q1 := x2.cell 1 _ rfl
  have q2 := x2.cell 2 _ rfl
  have q3 := x2.cell 3 _ rfl
  have q4 := x2.cell 4 _ rfl
  have q5 := x2.cell 5 _ rfl
  have q6 := x2.cell 6 _ rfl
  have v1 := conv_by (ha.below K1) ca
  have v2 := conv_by (hb.below K1) cb
  have KK := hide K1
  clear x1 x2 z1 K1 ha hb
  generalize byStr c.name = s1 at *
  generalize byStr c.bys = s2 at *
  generalize c.bys.length = n at *
  go_enter Tryz.func30, Tryz.ntmps30
  go_upto_region 1 with fail
  rw [← hW1]
  clear hW1
  go_wp2
  go_ret
  exact ⟨by first | rfl | simp, KK.out⟩

set_option maxHeartbeats 8000000 in
set_option maxRecDepth 10000 in
theorem calls_same (a b : Option Addr) (l m : List CaC) (ca cb : Nat) (w : World) (ha : RdC w a l) (hb : RdC w b m) (he : l.map (·.1) = m.map (·.1)) :
    Calls Tryz.prog 28 #[.slice a l.length ca, .slice b m.length cb] w fun e w' => e = .returned (.bool true) ∧ Below w.heap.size w w' := by
  have hl : l.length ≤ 9223372036854775807 := ha.1
  have e1 : m.length = l.length := by have := congrArg List.length he; rw [List.length_map, List.length_map] at this; exact this.symm
  have ec : Hid (∀ k, k < l.length → (m.getD k ca0).1 = (l.getD k ca0).1) := fun k hk => by
    have := congrArg (fun z => z[k]?) he
    simp only [List.getElem?_map] at this
    rw [List.getElem?_eq_getElem hk, List.getElem?_eq_getElem (by rw [e1]; exact hk)] at this
    have t2 : l[k].1 = (m[k]'(by rw [e1]; exact hk)).1 := by simpa using this
    rw [List.getD, List.getD, List.getElem?_eq_getElem hk, List.getElem?_eq_getElem (by rw [e1]; exact hk), Option.getD_some, Option.getD_some, t2]
  rw [e1]
  have HA := hide ha
  have HB := hide hb
  have ML := hide e1
  clear ha hb he e1
  go_enter Tryz.func28, Tryz.ntmps28
  go_wp2
  go_loopw [4, 5, 6] (fun _ i _ wr => ∃ k : Nat, k ≤ l.length ∧ i = .int .i64 k ∧ Hid (Below w.heap.size w wr)) (fun _ i _ _ => l.length - (intOf i).toNat)
  case atStart => exact ⟨0, Nat.zero_le _, rfl, Below.refl _ _⟩
  case round =>
    obtain ⟨k, hk, rfl, KK⟩ := hrel
    by_cases hlt : k < l.length
    · have kz : (k : Int) < (l.length : Int) := by omega
      obtain ⟨b1, o1, rfl, l1, s1, i1⟩ := (HA.out.below KK.out).at hlt
      obtain ⟨b2, o2, rfl, l2, s2, i2⟩ := (HB.out.below KK.out).at (k := k) (by rw [ML.out]; exact hlt)
      have ee := ec.out k hlt
      have CS := hide (fun V (hV : Below wr.heap.size wr V) => call_same (l.getD k ca0).1 (l.getD k ca0).2.1 (m.getD k ca0).2.1 (l.getD k ca0).2.2 (m.getD k ca0).2.2 V (i1.rd.below hV) (by have := i2.rd.below hV; rw [ee] at this; exact this))
      unfold caV at CS
      unfold SevenAt at s1 s2
      rw [ee] at s2
      have CF : Hid (∀ V, Below wr.heap.size wr V → (∀ j v, wr.cell? ⟨b1, j, none⟩ = some v → V.cell? ⟨b1, j, none⟩ = some v) ∧ (∀ j v, wr.cell? ⟨b2, j, none⟩ = some v → V.cell? ⟨b2, j, none⟩ = some v)) := fun V hV => ⟨fun j v hv => (hV.cell (p := ⟨b1, j, none⟩) l1).trans hv, fun j v hv => (hV.cell (p := ⟨b2, j, none⟩) l2).trans hv⟩
      have S1 := hide s1
      have S2 := hide s2
      clear s1 s2 i1 i2 ee HA HB ec ML l1 l2
      generalize l.getD k ca0 = x at *
      generalize m.getD k ca0 = y at *
      generalize x.1.bys.length = bn at *
      generalize byStr x.1.name = nm at *
      have kd : Below wr.heap.size wr wr.drew := (Below.refl _ wr).drew
      go_upto_region 6 with fail
      -- the drawn region
      refine wp_region_held_drew (S := fun V => Below wr.heap.size wr V) (by kernel_rfl) kd (fun hHeld => ?_)
      refine take_lg (i := 0) (d := some 18) (v := ?v1) rfl rfl (by kernel_rfl) (by kernel_rfl) (by kernel_rfl) (fun _ _ _ h => h) (Or.inl ⟨by rfl, ?h1⟩) (by assumption) ?r1
      case h1 => (intro V hSw; obtain ⟨f1, f2⟩ := CF.out V hSw; obtain ⟨p0, p1, p2, p3, p4, p5, p6⟩ := S1.out; obtain ⟨q0, q1, q2, q3, q4, q5, q6⟩ := S2.out; replace p0 := f1 _ _ p0; replace p1 := f1 _ _ p1; replace p2 := f1 _ _ p2; replace p3 := f1 _ _ p3; replace p4 := f1 _ _ p4; replace p5 := f1 _ _ p5; replace p6 := f1 _ _ p6; replace q0 := f2 _ _ q0; replace q1 := f2 _ _ q1; replace q2 := f2 _ _ q2; replace q3 := f2 _ _ q3; replace q4 := f2 _ _ q4; replace q5 := f2 _ _ q5; replace q6 := f2 _ _ q6; clear hSw f1 f2; go_simp; (try with_reducible rfl))
      simp only [Act.put, List.setIfInBounds_toArray, List.set_cons_zero, List.set_cons_succ]
      refine take_lg (i := 1) (d := some 19) (v := ?v2) rfl rfl (by kernel_rfl) (by kernel_rfl) (by kernel_rfl) (fun _ _ _ h => h) (Or.inl ⟨by rfl, ?h2⟩) (by assumption) ?r2
      case h2 => (intro V hSw; obtain ⟨f1, f2⟩ := CF.out V hSw; obtain ⟨p0, p1, p2, p3, p4, p5, p6⟩ := S1.out; obtain ⟨q0, q1, q2, q3, q4, q5, q6⟩ := S2.out; replace p0 := f1 _ _ p0; replace p1 := f1 _ _ p1; replace p2 := f1 _ _ p2; replace p3 := f1 _ _ p3; replace p4 := f1 _ _ p4; replace p5 := f1 _ _ p5; replace p6 := f1 _ _ p6; replace q0 := f2 _ _ q0; replace q1 := f2 _ _ q1; replace q2 := f2 _ _ q2; replace q3 := f2 _ _ q3; replace q4 := f2 _ _ q4; replace q5 := f2 _ _ q5; replace q6 := f2 _ _ q6; clear hSw f1 f2; go_simp; (try with_reducible rfl))
      simp only [Act.put, List.setIfInBounds_toArray, List.set_cons_zero, List.set_cons_succ]
      refine take_lg (i := 2) (d := some 20) (v := ?v3) rfl rfl (by kernel_rfl) (by kernel_rfl) (by kernel_rfl) (fun _ _ _ h => h) (Or.inl ⟨by rfl, ?h3⟩) (by assumption) ?r3
      case h3 => (intro V hSw; obtain ⟨f1, f2⟩ := CF.out V hSw; obtain ⟨p0, p1, p2, p3, p4, p5, p6⟩ := S1.out; obtain ⟨q0, q1, q2, q3, q4, q5, q6⟩ := S2.out; replace p0 := f1 _ _ p0; replace p1 := f1 _ _ p1; replace p2 := f1 _ _ p2; replace p3 := f1 _ _ p3; replace p4 := f1 _ _ p4; replace p5 := f1 _ _ p5; replace p6 := f1 _ _ p6; replace q0 := f2 _ _ q0; replace q1 := f2 _ _ q1; replace q2 := f2 _ _ q2; replace q3 := f2 _ _ q3; replace q4 := f2 _ _ q4; replace q5 := f2 _ _ q5; replace q6 := f2 _ _ q6; clear hSw f1 f2; go_simp; (try with_reducible rfl))
      simp only [Act.put, List.setIfInBounds_toArray, List.set_cons_zero, List.set_cons_succ]
      refine take_lg (i := 3) (d := some 21) (v := ?v4) rfl rfl (by kernel_rfl) (by kernel_rfl) (by kernel_rfl) (fun _ _ _ h => h) (Or.inl ⟨by rfl, ?h4⟩) (by assumption) ?r4
      case h4 => (intro V hSw; obtain ⟨f1, f2⟩ := CF.out V hSw; obtain ⟨p0, p1, p2, p3, p4, p5, p6⟩ := S1.out; obtain ⟨q0, q1, q2, q3, q4, q5, q6⟩ := S2.out; replace p0 := f1 _ _ p0; replace p1 := f1 _ _ p1; replace p2 := f1 _ _ p2; replace p3 := f1 _ _ p3; replace p4 := f1 _ _ p4; replace p5 := f1 _ _ p5; replace p6 := f1 _ _ p6; replace q0 := f2 _ _ q0; replace q1 := f2 _ _ q1; replace q2 := f2 _ _ q2; replace q3 := f2 _ _ q3; replace q4 := f2 _ _ q4; replace q5 := f2 _ _ q5; replace q6 := f2 _ _ q6; clear hSw f1 f2; go_simp; (try with_reducible rfl))
      simp only [Act.put, List.setIfInBounds_toArray, List.set_cons_zero, List.set_cons_succ]
      refine take_lg (i := 4) (d := some 22) (v := ?v5) rfl rfl (by kernel_rfl) (by kernel_rfl) (by kernel_rfl) (fun _ _ _ h => h) (Or.inl ⟨by rfl, ?h5⟩) (by assumption) ?r5
      case h5 => (intro V hSw; obtain ⟨f1, f2⟩ := CF.out V hSw; obtain ⟨p0, p1, p2, p3, p4, p5, p6⟩ := S1.out; obtain ⟨q0, q1, q2, q3, q4, q5, q6⟩ := S2.out; replace p0 := f1 _ _ p0; replace p1 := f1 _ _ p1; replace p2 := f1 _ _ p2; replace p3 := f1 _ _ p3; replace p4 := f1 _ _ p4; replace p5 := f1 _ _ p5; replace p6 := f1 _ _ p6; replace q0 := f2 _ _ q0; replace q1 := f2 _ _ q1; replace q2 := f2 _ _ q2; replace q3 := f2 _ _ q3; replace q4 := f2 _ _ q4; replace q5 := f2 _ _ q5; replace q6 := f2 _ _ q6; clear hSw f1 f2; go_simp; (try with_reducible rfl))
      simp only [Act.put, List.setIfInBounds_toArray, List.set_cons_zero, List.set_cons_succ]
      refine take_lg (i := 5) (d := some 23) (v := ?v6) rfl rfl (by kernel_rfl) (by kernel_rfl) (by kernel_rfl) (fun _ _ _ h => h) (Or.inl ⟨by rfl, ?h6⟩) (by assumption) ?r6
      case h6 => (intro V hSw; obtain ⟨f1, f2⟩ := CF.out V hSw; obtain ⟨p0, p1, p2, p3, p4, p5, p6⟩ := S1.out; obtain ⟨q0, q1, q2, q3, q4, q5, q6⟩ := S2.out; replace p0 := f1 _ _ p0; replace p1 := f1 _ _ p1; replace p2 := f1 _ _ p2; replace p3 := f1 _ _ p3; replace p4 := f1 _ _ p4; replace p5 := f1 _ _ p5; replace p6 := f1 _ _ p6; replace q0 := f2 _ _ q0; replace q1 := f2 _ _ q1; replace q2 := f2 _ _ q2; replace q3 := f2 _ _ q3; replace q4 := f2 _ _ q4; replace q5 := f2 _ _ q5; replace q6 := f2 _ _ q6; clear hSw f1 f2; go_simp; (try with_reducible rfl))
      simp only [Act.put, List.setIfInBounds_toArray, List.set_cons_zero, List.set_cons_succ]
      refine take_lg (i := 6) (d := some 24) (v := ?v7) rfl rfl (by kernel_rfl) (by kernel_rfl) (by kernel_rfl) (fun _ _ _ h => h) (Or.inl ⟨by rfl, ?h7⟩) (by assumption) ?r7
      case h7 => (intro V hSw; obtain ⟨f1, f2⟩ := CF.out V hSw; obtain ⟨p0, p1, p2, p3, p4, p5, p6⟩ := S1.out; obtain ⟨q0, q1, q2, q3, q4, q5, q6⟩ := S2.out; replace p0 := f1 _ _ p0; replace p1 := f1 _ _ p1; replace p2 := f1 _ _ p2; replace p3 := f1 _ _ p3; replace p4 := f1 _ _ p4; replace p5 := f1 _ _ p5; replace p6 := f1 _ _ p6; replace q0 := f2 _ _ q0; replace q1 := f2 _ _ q1; replace q2 := f2 _ _ q2; replace q3 := f2 _ _ q3; replace q4 := f2 _ _ q4; replace q5 := f2 _ _ q5; replace q6 := f2 _ _ q6; clear hSw f1 f2; go_simp; (try with_reducible rfl))
      simp only [Act.put, List.setIfInBounds_toArray, List.set_cons_zero, List.set_cons_succ]
      refine take_lg (i := 7) (d := some 25) (v := ?v8) rfl rfl (by kernel_rfl) (by kernel_rfl) (by kernel_rfl) (fun _ _ _ h => h) (Or.inl ⟨by rfl, ?h8⟩) (by assumption) ?r8
      case h8 => (intro V hSw; obtain ⟨f1, f2⟩ := CF.out V hSw; obtain ⟨p0, p1, p2, p3, p4, p5, p6⟩ := S1.out; obtain ⟨q0, q1, q2, q3, q4, q5, q6⟩ := S2.out; replace p0 := f1 _ _ p0; replace p1 := f1 _ _ p1; replace p2 := f1 _ _ p2; replace p3 := f1 _ _ p3; replace p4 := f1 _ _ p4; replace p5 := f1 _ _ p5; replace p6 := f1 _ _ p6; replace q0 := f2 _ _ q0; replace q1 := f2 _ _ q1; replace q2 := f2 _ _ q2; replace q3 := f2 _ _ q3; replace q4 := f2 _ _ q4; replace q5 := f2 _ _ q5; replace q6 := f2 _ _ q6; clear hSw f1 f2; go_simp; (try with_reducible rfl))
      simp only [Act.put, List.setIfInBounds_toArray, List.set_cons_zero, List.set_cons_succ]
      refine wpAnyH_ready (rs := [8]) (by kernel_rfl) (by simp) ?_
      refine AllReadyH.cons rfl (fun K hK => ?_) AllReadyH.nil
      go_simp
      go_at_call 30
      refine (CS.out _ kd).mono ?_
      rintro e w1 ⟨rfl, hb1⟩
      have k1 : Below wr.heap.size wr w1 := below_on kd hb1
      clear hb1
      try go_wp2_with fail
      refine hK.out _ _ k1 (fun hHeld3 => ?_)
      clear hK K
      try simp only [Act.put, List.setIfInBounds_toArray, List.set_cons_zero, List.set_cons_succ]
      refine take_lg (i := 9) (d := some 6) (v := ?v9) rfl rfl (by kernel_rfl) (by kernel_rfl) (by kernel_rfl) (fun _ _ _ h => h) (Or.inl ⟨by rfl, ?h9⟩) (by assumption) ?r9
      case h9 => (intro V hSw; obtain ⟨f1, f2⟩ := CF.out V hSw; obtain ⟨p0, p1, p2, p3, p4, p5, p6⟩ := S1.out; obtain ⟨q0, q1, q2, q3, q4, q5, q6⟩ := S2.out; replace p0 := f1 _ _ p0; replace p1 := f1 _ _ p1; replace p2 := f1 _ _ p2; replace p3 := f1 _ _ p3; replace p4 := f1 _ _ p4; replace p5 := f1 _ _ p5; replace p6 := f1 _ _ p6; replace q0 := f2 _ _ q0; replace q1 := f2 _ _ q1; replace q2 := f2 _ _ q2; replace q3 := f2 _ _ q3; replace q4 := f2 _ _ q4; replace q5 := f2 _ _ q5; replace q6 := f2 _ _ q6; clear hSw f1 f2; go_simp; (try with_reducible rfl))
      simp only [Act.put, List.setIfInBounds_toArray, List.set_cons_zero, List.set_cons_succ]
      refine wpAnyH_done (by kernel_rfl) ?_ _
      have K2 := hide (below_on KK.out k1)
      clear CS CF S1 S2 kd k1 KK
      go_wp2
      go_roundw
      case rel => exact ⟨k + 1, by omega, by go_num, K2⟩
      case measure => simp [intOf]; omega
    · have ek : k = l.length := by omega
      have kz : ¬ ((k : Int) < (l.length : Int)) := by omega
      go_wp2
      go_ret
      exact ⟨rfl, KK.out⟩
end Go.Proofs.YtodidokeblblgaaGreatDoor
