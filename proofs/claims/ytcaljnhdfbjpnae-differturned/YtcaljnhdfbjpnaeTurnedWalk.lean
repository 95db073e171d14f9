/-
  DifferTurned's own walk, with what package differ answers as premises.
-/
import Derived.Test.YtcaljnhdfbjpnaeDifP
namespace Go.Proofs.Ytcaljnhdfbjpnae
open Go.ChangeShapes Go.WideShapes Go.ChangeAt Go.RowKit Go.Lib
set_option linter.unusedVariables false

def M.lf7 : List M.Nd := [(-1, 0, 0, 0, false, 7)]
def M.lf9 : List M.Nd := [(-1, 0, 0, 0, false, 9)]
theorem M.lf_moved : M.difF M.lf7 M.lf9 0 = 0 ∧ M.movedV M.lf7 M.lf9 0 = 1 := by decide +kernel
abbrev lfObj (v : Int) : Obj := .cells #[.int .i64 (-1), .int .i64 0, .int .i64 0, .int .i64 0, .bool false, .int .i64 v] 29
theorem lf_rdn (w : World) (v : Int) : RdN (w.alloc (lfObj v)) (some ⟨w.heap.size, 0, none⟩) [(-1, 0, 0, 0, false, v)] := by
  refine ⟨by show 1 ≤ maxLen; unfold maxLen; decide, fun _ => ⟨w.heap.size, 0, rfl, by simp, fun i hi => ?_⟩⟩
  have c : ∀ j x, #[Value.int .i64 (-1), .int .i64 0, .int .i64 0, .int .i64 0, .bool false, .int .i64 v][j]? = some x → (w.alloc (lfObj v)).cell? ⟨w.heap.size, j, none⟩ = some x := fun j x hx => by
    rw [World.cell?_alloc_at _ _ _ j rfl]; exact hx
  have hi' : i < 1 := hi
  obtain rfl : i = 0 := by omega
  exact ⟨c _ _ rfl, c _ _ rfl, c _ _ rfl, c _ _ rfl, c _ _ rfl, c _ _ rfl⟩
theorem lf_call (hM : DifMovedGives) (w : World) : Calls Try.prog 14 #[.slice (some ⟨w.heap.size, 0, none⟩) 1 1, .slice (some ⟨w.heap.size + 1, 0, none⟩) 1 1, .int .i64 0] ((w.alloc (lfObj 7)).alloc (lfObj 9)) fun e w' => e = .returned (.tuple #[.int .i64 1, .nilIface]) ∧ Below w.heap.size w w' := by
  have r2 := lf_rdn (w.alloc (lfObj 7)) 9
  rw [show (w.alloc (lfObj 7)).heap.size = w.heap.size + 1 by simp] at r2
  have h := hM (some ⟨w.heap.size, 0, none⟩) (some ⟨w.heap.size + 1, 0, none⟩) M.lf7 M.lf9 1 1 0 _ ((lf_rdn w 7).below ((Below.refl _ _).alloc (Nat.le_refl _) _)) r2
  rw [M.lf_moved.2, err_nil M.lf_moved.1] at h
  refine h.mono ?_
  rintro e w' ⟨rfl, hb⟩
  exact ⟨rfl, below_on (((Below.refl _ w).alloc (Nat.le_refl _) _).alloc (by simp) _) hb⟩

set_option maxHeartbeats 16000000 in
set_option maxRecDepth 10000 in
theorem turned_walk (hT : DifTreesGives) (hM : DifMovedGives) (a b : Option Addr) (ts us : List M.Nd) (ca cb : Nat) (m : Int) (w : World) (ha : RdN w a ts) (hb : RdN w b us) :
    Calls Try.prog 5 #[.slice a ts.length ca, .slice b us.length cb, .int .i64 m] w fun e w' => e = .returned (.bool true) ∧ Below w.heap.size w w' := by
  have hm : ts.length ≤ 9223372036854775807 := ha.1
  have hm2 : us.length ≤ 9223372036854775807 := hb.1
  have E1 := hide (lf_call hM w)
  have C1 := hide (fun W (hW : Below w.heap.size w W) => hM a b ts us ca cb m W (ha.below hW) (hb.below hW))
  have C2 := hide (fun W (hW : Below w.heap.size w W) => hM b a us ts cb ca m W (hb.below hW) (ha.below hW))
  have C3 := hide (fun W (hW : Below w.heap.size w W) => hM a a ts ts ca ca m W (ha.below hW) (ha.below hW))
  have T1 : Hid (∀ W, Below w.heap.size w W → Calls Try.prog 15 #[.slice a ts.length ca, .slice b us.length cb, .int .i64 m] W fun e w' => ∃ n wa wc, e = .returned (.tuple #[.slice wa n wc, errV (M.difTF ts us m)]) ∧ Below W.heap.size W w') := fun W hW => (hT a b ts us ca cb m W (ha.below hW) (hb.below hW)).mono (fun e w' q => by
    obtain ⟨L, wa, wc, q1, _, _, q4⟩ := q
    exact ⟨L.length, wa, wc, q1, q4⟩)
  have T2 : Hid (∀ W, Below w.heap.size w W → Calls Try.prog 15 #[.slice b us.length cb, .slice a ts.length ca, .int .i64 m] W fun e w' => ∃ n wa wc, e = .returned (.tuple #[.slice wa n wc, errV (M.difTF us ts m)]) ∧ Below W.heap.size W w') := fun W hW => (hT b a us ts cb ca m W (hb.below hW) (ha.below hW)).mono (fun e w' q => by
    obtain ⟨L, wa, wc, q1, _, _, q4⟩ := q
    exact ⟨L.length, wa, wc, q1, q4⟩)
  by_cases he : M.difF ts us m = 0
  · obtain ⟨he2, em⟩ := M.moved_turn he
    have hself := M.moved_self (M.dif_ok he).1
    have hss : M.difF ts ts m = 0 := M.dif_of (M.dif_ok he).1 (M.dif_ok he).1
    rw [err_nil he] at C1
    rw [err_nil he2, ← em] at C2
    rw [err_nil hss, hself] at C3
    by_cases h0 : M.movedV ts us m = 0
    · rw [M.dift_same he h0, err_some (show (5 : Int) ≠ 0 by decide)] at T1
      rw [M.dift_same he2 (by rw [← em]; exact h0), err_some (show (5 : Int) ≠ 0 by decide)] at T2
      rw [h0] at C1 C2
      clear he he2 em hself hss h0 ha hb hT hM
      go_enter Try.func5, Try.ntmps5
      go_wp2_with (first
        | (go_at_call 14; have lean := k5; refine (C3.out _ k5).mono ?_; rintro e w6 ⟨rfl, h6⟩; have k6 := below_on k5 h6)
        | (go_at_call 15; have lean := k4; refine (T2.out _ k4).mono ?_; rintro e w5 ⟨n5, wa5, wc5, rfl, h5⟩; have k5 := below_on k4 h5)
        | (go_at_call 15; refine (T1.out _ k3).mono ?_; rintro e w4 ⟨n4, wa4, wc4, rfl, h4⟩; have k4 := below_on k3 h4)
        | (go_at_call 14; have lean := k2; refine (C2.out _ k2).mono ?_; rintro e w3 ⟨rfl, h3⟩; have k3 := below_on k2 h3)
        | (go_at_call 14; have lean := k1; refine (C1.out _ k1).mono ?_; rintro e w2 ⟨rfl, h2⟩; have k2 := below_on k1 h2)
        | (go_at_call 14; refine E1.out.mono ?_; rintro e w1 ⟨rfl, k1⟩))
      go_ret
      exact ⟨rfl, k6⟩
    · rw [M.dift_not he h0, err_nil rfl] at T1
      rw [M.dift_not he2 (by rw [← em]; exact h0), err_nil rfl] at T2
      have hp : (0 : Int) < ((M.movedV ts us m : Nat) : Int) := by omega
      clear he he2 em hself hss h0 ha hb hT hM
      generalize ((M.movedV ts us m : Nat) : Int) = mv at *
      go_enter Try.func5, Try.ntmps5
      go_wp2_with (first
        | (go_at_call 14; have lean := k5; refine (C3.out _ k5).mono ?_; rintro e w6 ⟨rfl, h6⟩; have k6 := below_on k5 h6)
        | (go_at_call 15; have lean := k4; refine (T2.out _ k4).mono ?_; rintro e w5 ⟨n5, wa5, wc5, rfl, h5⟩; have k5 := below_on k4 h5)
        | (go_at_call 15; refine (T1.out _ k3).mono ?_; rintro e w4 ⟨n4, wa4, wc4, rfl, h4⟩; have k4 := below_on k3 h4)
        | (go_at_call 14; have lean := k2; refine (C2.out _ k2).mono ?_; rintro e w3 ⟨rfl, h3⟩; have k3 := below_on k2 h3)
        | (go_at_call 14; have lean := k1; refine (C1.out _ k1).mono ?_; rintro e w2 ⟨rfl, h2⟩; have k2 := below_on k1 h2)
        | (go_at_call 14; refine E1.out.mono ?_; rintro e w1 ⟨rfl, k1⟩))
      go_ret
      exact ⟨rfl, k6⟩
  · have he2 : M.difF us ts m ≠ 0 := fun q => he (M.moved_turn q).1
    rw [err_some he] at C1
    rw [err_some he2] at C2
    rw [M.dift_bad he, err_some he] at T1
    rw [M.dift_bad he2, err_some he2] at T2
    clear he he2 ha hb hT hM C3
    generalize M.difF ts us m = d1 at *
    generalize M.difF us ts m = d2 at *
    generalize ((M.movedV ts us m : Nat) : Int) = mv at *
    generalize ((M.movedV us ts m : Nat) : Int) = mv2 at *
    go_enter Try.func5, Try.ntmps5
    go_wp2_with (first
      | (go_at_call 15; have lean := k4; refine (T2.out _ k4).mono ?_; rintro e w5 ⟨n5, wa5, wc5, rfl, h5⟩; have k5 := below_on k4 h5)
      | (go_at_call 15; refine (T1.out _ k3).mono ?_; rintro e w4 ⟨n4, wa4, wc4, rfl, h4⟩; have k4 := below_on k3 h4)
      | (go_at_call 14; have lean := k2; refine (C2.out _ k2).mono ?_; rintro e w3 ⟨rfl, h3⟩; have k3 := below_on k2 h3)
      | (go_at_call 14; have lean := k1; refine (C1.out _ k1).mono ?_; rintro e w2 ⟨rfl, h2⟩; have k2 := below_on k1 h2)
      | (go_at_call 14; refine E1.out.mono ?_; rintro e w1 ⟨rfl, k1⟩))
    go_ret
    exact ⟨rfl, k5⟩

end Go.Proofs.Ytcaljnhdfbjpnae
