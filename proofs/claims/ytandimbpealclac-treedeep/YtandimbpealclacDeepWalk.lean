/-
  TreeDeep's own walk: at any tree and any row it answers true, where path.Path answers the way.
-/
import Derived.Test.YtandimbpealclacMathX
import Derived.Test.YtandimbpealclacTLeaves
import Derived.Test.YtandimbpealclacTDeep
namespace Go.Proofs.Ytandimbpealclac
open Go.ChangeShapes Go.WideShapes Go.ChangeAt Go.RowKit Go.Lib
set_option linter.unusedVariables false

abbrev oneDObj : Obj := .cells #[.int .i64 0, .int .i64 0, .int .i64 1, .int .i64 2, .bool false, .int .i64 0, .int .i64 (-1), .int .i64 0, .int .i64 0, .int .i64 0, .bool false, .int .i64 0, .int .i64 (-1), .int .i64 0, .int .i64 0, .int .i64 0, .bool false, .int .i64 0] 25
theorem oneD_rdn (w : World) : RdN (w.alloc oneDObj) (some ⟨w.heap.size, 0, none⟩) M.oneD := by
  refine ⟨by show 3 ≤ maxLen; unfold maxLen; decide, fun _ => ⟨w.heap.size, 0, rfl, by simp, fun i hi => ?_⟩⟩
  have c : ∀ j, (w.alloc oneDObj).cell? ⟨w.heap.size, j, none⟩ = _ := fun j => World.cell?_alloc_at _ _ _ j rfl
  have hi' : i < 3 := hi
  rcases i with _ | _ | _ | i
  · exact ⟨c _, c _, c _, c _, c _, c _⟩
  · exact ⟨c _, c _, c _, c _, c _, c _⟩
  · exact ⟨c _, c _, c _, c _, c _, c _⟩
  · omega

/-- what path.Path answers -/
def PathGives (a b : Option Addr) (ts : List M.Nd) (xs : List Int) (ca cb : Nat) (w : World) : Prop :=
  ∀ W, Below w.heap.size w W → Calls Try.prog 13 #[.slice a ts.length ca, .slice b xs.length cb] W fun e w' => ∃ ag cg, e = .returned (.tuple #[.slice ag (M.pathV ts xs).length cg, errV (M.readyF ts xs)]) ∧ Rd w' ag (M.pathV ts xs) ∧ Below W.heap.size W w'

set_option maxHeartbeats 8000000 in
set_option maxRecDepth 10000 in
theorem deep_walk (a b : Option Addr) (ts : List M.Nd) (xs : List Int) (ca cb : Nat) (w : World) (ht : RdN w a ts) (hr : Rd w b xs) (hP : PathGives a b ts xs ca cb w) :
    Calls Try.prog 4 #[.slice a ts.length ca, .slice b xs.length cb] w fun e w' => e = .returned (.bool true) ∧ Below w.heap.size w w' := by
  have hm : ts.length ≤ 9223372036854775807 := ht.1
  have hm2 : xs.length ≤ 9223372036854775807 := hr.1
  have B0 : Hid (Below w.heap.size w (w.alloc oneDObj)) := (Below.refl _ w).alloc (Nat.le_refl _) _
  have E1 : Hid (Calls Try.prog 11 #[.slice (some ⟨w.heap.size, 0, none⟩) 3 3] (w.alloc oneDObj) fun e w' => e = .returned (.tuple #[.int .i64 1, .nilIface]) ∧ Below (w.alloc oneDObj).heap.size (w.alloc oneDObj) w') := by
    have h := tdepth_any (some ⟨w.heap.size, 0, none⟩) M.oneD 3 (w.alloc oneDObj) (oneD_rdn w)
    rw [M.oneD_deep, err_nil M.oneD_ok] at h
    exact h
  have C1 := hide (fun W (hW : Below w.heap.size w W) => tdepth_any a ts ca W (ht.below hW))
  have C2 := hide (fun W (hW : Below w.heap.size w W) => leaves_any a ts ca W (ht.below hW))
  have C3 : Hid (∀ W, Below w.heap.size w W → Calls Try.prog 13 #[.slice a ts.length ca, .slice b xs.length cb] W fun e w' => ∃ ag cg, e = .returned (.tuple #[.slice ag (M.pathV ts xs).length cg, errV (M.readyF ts xs)]) ∧ Rd w' ag (M.pathV ts xs) ∧ Below W.heap.size W w') := hP
  clear hP
  by_cases h8 : (M.treeF ts 8).2 = 0
  · rw [err_nil h8] at C1 C2
    have F := (M.tree_ok h8).1
    have DV : M.depthV ts = M.depth ts 0 := by unfold M.depthV; rw [if_pos h8]
    have LV : M.leavesV ts = M.lvs ts ts.length := by unfold M.leavesV; rw [if_pos h8]
    have BD := M.deep_bounds F
    rw [← DV, ← LV] at BD
    have d10 : M.depthV ts ≤ 10 := by rw [DV]; exact M.tree_deep h8
    have l63 : (M.leavesV ts).length ≤ 63 := by rw [LV]; have := M.lvs_len ts ts.length; have := F.1; omega
    have PL : Hid (M.readyF ts xs = 0 → (M.pathV ts xs).length ≤ M.depthV ts + 1) := fun h => by rw [DV]; exact M.path_len h
    obtain ⟨bd1, bd2⟩ := BD
    have B1 := hide bd1
    have pw : ∀ k, k ≤ 10 → 2 ^ k ≤ 1024 := fun k hk => by
      have : 2 ^ k ≤ 2 ^ 10 := Nat.pow_le_pow_right (by omega) hk
      omega
    have PW := hide pw
    have hp : (M.pathV ts xs).length ≤ 9223372036854775807 ∨ True := .inr trivial
    clear h8 F DV LV ht hr bd1 pw hp
    generalize M.leavesV ts = L at *
    generalize M.depthV ts = d at *
    by_cases h0 : M.readyF ts xs = 0
    · have pl := PL.out h0
      rw [err_nil h0] at C3
      clear h0 PL
      generalize M.pathV ts xs = P at *
      go_enter Try.func4, Try.ntmps4
      go_wp2_with fail
      refine E1.out.mono ?_
      rintro e w1 ⟨rfl, hb1⟩
      have k1 := below_on B0.out hb1
      clear E1
      go_wp2_with (first
        | (go_at_call 11; refine (C1.out _ k1).mono ?_; rintro e w2 ⟨rfl, hb2⟩; have k2 := below_on k1 hb2)
        | (go_at_call 12; refine (C2.out _ k2).mono ?_; rintro e w3 ⟨ag, cg, rfl, R3, hb3⟩; have k3 := below_on k2 hb3))
      clear C1 C2 hb1 hb2 hb3 k1 k2 R3
      go_loop [9, 10] (fun v i => ∃ k : Nat, k ≤ d ∧ i = .int .i64 k ∧ v = .int .i64 ((2 ^ k : Nat) : Int)) (fun _ i => d - (intOf i).toNat)
      case atStart => exact ⟨0, Nat.zero_le _, rfl, rfl⟩
      case round =>
        obtain ⟨k, hk, rfl, rfl⟩ := hrel
        by_cases hlt : k < d
        · have N : Hid (2 ^ (k + 1) = 2 ^ k * 2) := Nat.pow_succ 2 k
          have pk := PW.out k (by omega)
          generalize hz : 2 ^ k = z at *
          have HZ := hide hz
          clear hz
          go_wp2
          go_round
          case rel => exact ⟨k + 1, by omega, by go_num, by rw [N.out]; go_num⟩
          case measure => simp [intOf]; omega
        · have hke : k = d := by omega
          have lz : L.length ≤ 2 ^ k := by rw [hke]; exact B1.out
          have pk := PW.out k (by omega)
          generalize hz : 2 ^ k = z at *
          have HZ := hide hz
          clear hz hke
          have q1 : decide ((z : Int) < (L.length : Int)) = false := decide_eq_false (by omega)
          have q2 : decide ((L.length : Int) < (d : Int) + 1) = false := decide_eq_false (by omega)
          have q3 : decide ((P.length : Int) ≤ (d : Int) + 1) = true := decide_eq_true (by omega)
          go_wp2_with (go_at_call 13; refine (C3.out _ k3).mono ?_; rintro e w4 ⟨ah, ch, rfl, R4, hb4⟩)
          go_ret
          exact ⟨rfl, below_on k3 hb4⟩
    · rw [err_some h0] at C3
      clear h0 PL
      generalize M.pathV ts xs = P at *
      generalize M.readyF ts xs = rf at *
      go_enter Try.func4, Try.ntmps4
      go_wp2_with fail
      refine E1.out.mono ?_
      rintro e w1 ⟨rfl, hb1⟩
      have k1 := below_on B0.out hb1
      clear E1
      go_wp2_with (first
        | (go_at_call 11; refine (C1.out _ k1).mono ?_; rintro e w2 ⟨rfl, hb2⟩; have k2 := below_on k1 hb2)
        | (go_at_call 12; refine (C2.out _ k2).mono ?_; rintro e w3 ⟨ag, cg, rfl, R3, hb3⟩; have k3 := below_on k2 hb3))
      clear C1 C2 hb1 hb2 hb3 k1 k2 R3
      go_loop [9, 10] (fun v i => ∃ k : Nat, k ≤ d ∧ i = .int .i64 k ∧ v = .int .i64 ((2 ^ k : Nat) : Int)) (fun _ i => d - (intOf i).toNat)
      case atStart => exact ⟨0, Nat.zero_le _, rfl, rfl⟩
      case round =>
        obtain ⟨k, hk, rfl, rfl⟩ := hrel
        by_cases hlt : k < d
        · have N : Hid (2 ^ (k + 1) = 2 ^ k * 2) := Nat.pow_succ 2 k
          have pk := PW.out k (by omega)
          generalize hz : 2 ^ k = z at *
          have HZ := hide hz
          clear hz
          go_wp2
          go_round
          case rel => exact ⟨k + 1, by omega, by go_num, by rw [N.out]; go_num⟩
          case measure => simp [intOf]; omega
        · have hke : k = d := by omega
          have lz : L.length ≤ 2 ^ k := by rw [hke]; exact B1.out
          have pk := PW.out k (by omega)
          generalize hz : 2 ^ k = z at *
          have HZ := hide hz
          clear hz hke
          have q1 : decide ((z : Int) < (L.length : Int)) = false := decide_eq_false (by omega)
          have q2 : decide ((L.length : Int) < (d : Int) + 1) = false := decide_eq_false (by omega)
          go_wp2_with (go_at_call 13; refine (C3.out _ k3).mono ?_; rintro e w4 ⟨ah, ch, rfl, R4, hb4⟩)
          go_ret
          exact ⟨rfl, below_on k3 hb4⟩
  · rw [err_some h8] at C1
    clear h8 C2 C3 ht hr
    generalize M.depthV ts = d at *
    generalize (M.treeF ts 8).2 = tf at *
    go_enter Try.func4, Try.ntmps4
    go_wp2_with fail
    refine E1.out.mono ?_
    rintro e w1 ⟨rfl, hb1⟩
    have k1 := below_on B0.out hb1
    clear E1
    go_wp2_with (go_at_call 11; refine (C1.out _ k1).mono ?_; rintro e w2 ⟨rfl, hb2⟩; have k2 := below_on k1 hb2)
    go_ret
    exact ⟨rfl, k2⟩

end Go.Proofs.Ytandimbpealclac
