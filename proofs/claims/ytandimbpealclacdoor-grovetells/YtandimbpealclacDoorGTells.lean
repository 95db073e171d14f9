/-
  GroveTells' own walk, with its parts as premises.
-/
import Derived.Test.YtandimbpealclacDoorRefEachJ
import Derived.Test.YtandimbpealclacDoorRefBtw
import Derived.Test.YtandimbpealclacDoorGrSame
import Derived.Test.YtandimbpealclacDoorError
import Derived.Test.YtandimbpealclacDoorGrBoth
import Derived.OwnWalk
import Derived.Deep.CutBlock
namespace Go.Proofs.YtandimbpealclacDoor
open Go.ChangeShapes Go.WideShapes Go.ChangeAt Go.RowKit Go.Lib
set_option linter.unusedVariables false

theorem kept_pair {w W : World} {a0 a1 a2 a3 b0 b1 b2 b3 : Value} {t u : TypeId} (h : Below ((w.alloc (.cells #[a0, a1, a2, a3] t)).alloc (.cells #[b0, b1, b2, b3] u)).heap.size ((w.alloc (.cells #[a0, a1, a2, a3] t)).alloc (.cells #[b0, b1, b2, b3] u)) W) :
    Below w.heap.size w W ∧ (W.cell? ⟨w.heap.size, 0, none⟩ = some a0 ∧ W.cell? ⟨w.heap.size, 1, none⟩ = some a1 ∧ W.cell? ⟨w.heap.size, 2, none⟩ = some a2 ∧ W.cell? ⟨w.heap.size, 3, none⟩ = some a3) ∧
    (W.cell? ⟨w.heap.size + 1, 0, none⟩ = some b0 ∧ W.cell? ⟨w.heap.size + 1, 1, none⟩ = some b1 ∧ W.cell? ⟨w.heap.size + 1, 2, none⟩ = some b2 ∧ W.cell? ⟨w.heap.size + 1, 3, none⟩ = some b3) := by
  have e : (w.alloc (.cells #[a0, a1, a2, a3] t)).heap.size = w.heap.size + 1 := by simp
  have h2 : Below (w.alloc (.cells #[a0, a1, a2, a3] t)).heap.size (w.alloc (.cells #[a0, a1, a2, a3] t)) W := below_on ((Below.refl _ _).alloc (Nat.le_refl _) _) h
  have := kept_grove h
  rw [e] at this
  exact ⟨below_on ((Below.refl _ w).alloc (Nat.le_refl _) _) h2, kept_grove h2, this⟩

theorem cell_grown {w w' : World} {row : Option Nat} {g o : Nat} (hg : w.grownBy w' row) (hl : g < w.heap.size) (hne : row ≠ some g) : w'.cell? ⟨g, o, none⟩ = w.cell? ⟨g, o, none⟩ :=
  World.cell?_of_block (w := w) (a := ⟨g, o, none⟩) (hg.block g hl (fun e => hne e.symm))

set_option maxHeartbeats 32000000 in
set_option maxRecDepth 10000 in
theorem gtells_core (G O : Gr) (b : Option Addr) (xs : List Int) (cb : Nat) (w : World) (e f eo ej : Int) (EL LW HI : List Int) (V lo hi : Int) (JM : M.Gv)
    (RG : Hid (∀ W, Below w.heap.size w W → Calls Tryd.prog 9 #[.agg #[.int .i64 G.f, .int .i64 G.w, .slice G.wa G.ws.length G.wc, .slice G.ta G.ks.length G.tc]] W fun r w' => r = .returned (.int .i64 e) ∧ Below W.heap.size W w'))
    (RO : Hid (∀ W, Below w.heap.size w W → Calls Tryd.prog 9 #[.agg #[.int .i64 O.f, .int .i64 O.w, .slice O.wa O.ws.length O.wc, .slice O.ta O.ks.length O.tc]] W fun r w' => r = .returned (.int .i64 eo) ∧ Below W.heap.size W w'))
    (CK : Hid (∀ W, Below w.heap.size w W → Calls Tryd.prog 11 #[.agg #[.int .i64 G.f, .int .i64 G.w, .slice G.wa G.ws.length G.wc, .slice G.ta G.ks.length G.tc]] W fun r w' => r = .returned (errV e) ∧ Below W.heap.size W w'))
    (ER : Hid (∀ c W, Below w.heap.size w W → Calls Tryd.prog 10 #[errV c, .int .i64 c] W fun r w' => r = .returned (.bool true) ∧ Below W.heap.size W w'))
    (IN : Hid (∀ ag cg bg dg R W, Rd W ag R → Rd W bg R → Calls Tryd.prog 17 #[.slice ag R.length cg, .slice bg R.length dg] W fun r w' => r = .returned (.bool true) ∧ Below W.heap.size W w'))
    (RS : Hid (∀ W, Below w.heap.size w W → Calls Tryd.prog 12 #[.agg #[.int .i64 G.f, .int .i64 G.w, .slice G.wa G.ws.length G.wc, .slice G.ta G.ks.length G.tc], .slice b xs.length cb] W fun r w' => r = .returned (.int .i64 f) ∧ Below W.heap.size W w'))
    (RE : Hid (f = 0 → ∀ W, Below w.heap.size w W → Calls Tryd.prog 13 #[.agg #[.int .i64 G.f, .int .i64 G.w, .slice G.wa G.ws.length G.wc, .slice G.ta G.ks.length G.tc], .slice b xs.length cb] W fun r w' => ∃ ag cg, r = .returned (.slice ag EL.length cg) ∧ Rd w' ag EL ∧ Below W.heap.size W w'))
    (RT : Hid (f = 0 → ∀ ag cg W, Below w.heap.size w W → Rd W ag EL → Calls Tryd.prog 14 #[.agg #[.int .i64 G.f, .int .i64 G.w, .slice G.wa G.ws.length G.wc, .slice G.ta G.ks.length G.tc], .slice ag EL.length cg] W fun r w' => r = .returned (.int .i64 V) ∧ Below W.heap.size W w'))
    (RZ : Hid (f ≠ 0 → EL = [] ∧ V = 0))
    (PE : Hid (∀ W, Below w.heap.size w W → Calls Tryd.prog 15 #[.agg #[.int .i64 G.f, .int .i64 G.w, .slice G.wa G.ws.length G.wc, .slice G.ta G.ks.length G.tc], .slice b xs.length cb] W fun r w' => ∃ ag cg, r = .returned (.tuple #[.slice ag EL.length cg, errV f]) ∧ Rd w' ag EL ∧ Below W.heap.size W w'))
    (PV : Hid (∀ W, Below w.heap.size w W → Calls Tryd.prog 16 #[.agg #[.int .i64 G.f, .int .i64 G.w, .slice G.wa G.ws.length G.wc, .slice G.ta G.ks.length G.tc], .slice b xs.length cb] W fun r w' => r = .returned (.tuple #[.int .i64 V, errV f]) ∧ Below W.heap.size W w'))
    (n12 : Hid (e = 0 → G.ks.length ≤ 12))
    (TR : Hid (∀ W, Below w.heap.size w W → RdT W G.ta G.ks))
    (TB : Hid (e = 0 → ∀ k (h : k < G.ks.length), G.ks[k].2.1.length ≤ 63 ∧ 0 < (M.lvK G.ks[k].2.1 G.ks[k].2.1.length).length))
    (LK : Hid (∀ k (h : k < G.ks.length), LW.take (k + 1) = LW.take k ++ [M.lowL (M.lvK G.ks[k].2.1 G.ks[k].2.1.length)] ∧ HI.take (k + 1) = HI.take k ++ [M.highL (M.lvK G.ks[k].2.1 G.ks[k].2.1.length)]))
    (LN : Hid (LW.length = G.ks.length ∧ HI.length = G.ks.length))
    (BT : Hid (e = 0 → ∀ ag cg bg dg W, Below w.heap.size w W → Rd W ag LW → Rd W bg HI → Calls Tryd.prog 19 #[.agg #[.int .i64 G.f, .int .i64 G.w, .slice G.wa G.ws.length G.wc, .slice G.ta G.ks.length G.tc], .slice ag LW.length cg, .slice bg HI.length dg] W fun r w' => r = .returned (.tuple #[.int .i64 lo, .int .i64 hi]) ∧ Below W.heap.size W w'))
    (BN : Hid (e ≠ 0 → lo = 0 ∧ hi = 0))
    (PB : Hid (∀ W, Below w.heap.size w W → Calls Tryd.prog 20 #[.agg #[.int .i64 G.f, .int .i64 G.w, .slice G.wa G.ws.length G.wc, .slice G.ta G.ks.length G.tc]] W fun r w' => r = .returned (.tuple #[.int .i64 lo, .int .i64 hi, errV e]) ∧ Below W.heap.size W w'))
    (E1 : Hid (e ≠ 0 → ej = e)) (E2 : Hid (e = 0 → eo ≠ 0 → ej = eo)) (E3 : Hid (e = 0 → eo = 0 → (G.f ≠ O.f ∨ G.w ≠ O.w) → ej = 3)) (E4 : Hid (e = 0 → eo = 0 → G.f = O.f → G.w = O.w → 12 < G.ks.length + O.ks.length → ej = 4)) (E5 : Hid (e = 0 → eo = 0 → G.f = O.f → G.w = O.w → G.ks.length + O.ks.length ≤ 12 → ej = 0))
    (mo : O.ks.length ≤ 9223372036854775807) (o12 : Hid (eo = 0 → O.ks.length ≤ 12))
    (JZ : Hid (ej ≠ 0 → JM = (0, 0, [], [])))
    (PJ : Hid (∀ W, Below w.heap.size w W → Calls Tryd.prog 21 #[.agg #[.int .i64 G.f, .int .i64 G.w, .slice G.wa G.ws.length G.wc, .slice G.ta G.ks.length G.tc], .agg #[.int .i64 O.f, .int .i64 O.w, .slice O.wa O.ws.length O.wc, .slice O.ta O.ks.length O.tc]] W fun r w' => ∃ J : Gr, r = .returned (.tuple #[J.v, errV ej]) ∧ J.m = JM ∧ RdG w' J ∧ Below W.heap.size W w'))
    (GS : Hid (∀ (G1 G2 : Gr) W, RdG W G1 → RdG W G2 → G1.m = G2.m → Calls Tryd.prog 22 #[G1.v, G2.v] W fun r w' => r = .returned (.bool true) ∧ Below W.heap.size W w'))
    (PG : Hid (ej = 0 → RdG w G ∧ RdG w O ∧ 0 < G.ks.length ∧ 0 < O.ks.length ∧ G.ws.length = G.ks.length ∧ O.ws.length = O.ks.length)) (JG : Hid (ej = 0 → JM = M.joinG G.m O.m))
    :
    Calls Tryd.prog 4 #[.agg #[.int .i64 G.f, .int .i64 G.w, .slice G.wa G.ws.length G.wc, .slice G.ta G.ks.length G.tc], .agg #[.int .i64 O.f, .int .i64 O.w, .slice O.wa O.ws.length O.wc, .slice O.ta O.ks.length O.tc], .slice b xs.length cb] w fun r w' => r = .returned (.bool true) ∧ Below w.heap.size w w' := by
  have KP : Hid (∀ W, Below ((w.alloc (.cells #[.int .i64 G.f, .int .i64 G.w, .slice G.wa G.ws.length G.wc, .slice G.ta G.ks.length G.tc] 38)).alloc (.cells #[.int .i64 O.f, .int .i64 O.w, .slice O.wa O.ws.length O.wc, .slice O.ta O.ks.length O.tc] 38)).heap.size ((w.alloc (.cells #[.int .i64 G.f, .int .i64 G.w, .slice G.wa G.ws.length G.wc, .slice G.ta G.ks.length G.tc] 38)).alloc (.cells #[.int .i64 O.f, .int .i64 O.w, .slice O.wa O.ws.length O.wc, .slice O.ta O.ks.length O.tc] 38)) W → Below w.heap.size w W ∧ (W.cell? ⟨w.heap.size, 0, none⟩ = some (.int .i64 G.f) ∧ W.cell? ⟨w.heap.size, 1, none⟩ = some (.int .i64 G.w) ∧ W.cell? ⟨w.heap.size, 2, none⟩ = some (.slice G.wa G.ws.length G.wc) ∧ W.cell? ⟨w.heap.size, 3, none⟩ = some (.slice G.ta G.ks.length G.tc)) ∧ (W.cell? ⟨w.heap.size + 1, 0, none⟩ = some (.int .i64 O.f) ∧ W.cell? ⟨w.heap.size + 1, 1, none⟩ = some (.int .i64 O.w) ∧ W.cell? ⟨w.heap.size + 1, 2, none⟩ = some (.slice O.wa O.ws.length O.wc) ∧ W.cell? ⟨w.heap.size + 1, 3, none⟩ = some (.slice O.ta O.ks.length O.tc))) := fun W hW => kept_pair hW
  have B0 : Hid (Below ((w.alloc (.cells #[.int .i64 G.f, .int .i64 G.w, .slice G.wa G.ws.length G.wc, .slice G.ta G.ks.length G.tc] 38)).alloc (.cells #[.int .i64 O.f, .int .i64 O.w, .slice O.wa O.ws.length O.wc, .slice O.ta O.ks.length O.tc] 38)).heap.size ((w.alloc (.cells #[.int .i64 G.f, .int .i64 G.w, .slice G.wa G.ws.length G.wc, .slice G.ta G.ks.length G.tc] 38)).alloc (.cells #[.int .i64 O.f, .int .i64 O.w, .slice O.wa O.ws.length O.wc, .slice O.ta O.ks.length O.tc] 38)) ((w.alloc (.cells #[.int .i64 G.f, .int .i64 G.w, .slice G.wa G.ws.length G.wc, .slice G.ta G.ks.length G.tc] 38)).alloc (.cells #[.int .i64 O.f, .int .i64 O.w, .slice O.wa O.ws.length O.wc, .slice O.ta O.ks.length O.tc] 38))) := Below.refl _ _
  go_enter Tryd.func4, Tryd.ntmps4
  go_upto_region 6 with (first
    | (go_at_call 12; refine (RS.out _ k3).mono ?_; rintro r w4 ⟨rfl, h4⟩; have g4 := below_on g3 h4; have q4 := KP.out _ g4; have k4 := q4.1; have x40 := q4.2.1.1; have x41 := q4.2.1.2.1; have x42 := q4.2.1.2.2.1; have x43 := q4.2.1.2.2.2; clear q4)
    | (go_at_call 10; refine (ER.out _ _ k2).mono ?_; rintro r w3 ⟨rfl, h3⟩; have g3 := below_on g2 h3; have q3 := KP.out _ g3; have k3 := q3.1; have x30 := q3.2.1.1; have x31 := q3.2.1.2.1; have x32 := q3.2.1.2.2.1; have x33 := q3.2.1.2.2.2; clear q3)
    | (go_at_call 11; refine (CK.out _ k1).mono ?_; rintro r w2 ⟨rfl, h2⟩; have g2 := below_on g1 h2; have q2 := KP.out _ g2; have k2 := q2.1; have x20 := q2.2.1.1; have x21 := q2.2.1.2.1; have x22 := q2.2.1.2.2.1; have x23 := q2.2.1.2.2.2; clear q2)
    | (go_at_call 9; refine (RG.out _ (KP.out _ B0.out).1).mono ?_; rintro r w1 ⟨rfl, h1⟩; have g1 := below_on B0.out h1; have q1 := KP.out _ g1; have k1 := q1.1; have x10 := q1.2.1.1; have x11 := q1.2.1.2.1; have x12 := q1.2.1.2.2.1; have x13 := q1.2.1.2.2.2; clear q1))
  have G4 := hide g4
  clear g1 g2 g3 g4 k1 k2 k3 h1 h2 h3 h4 x10 x11 x12 x13 x20 x21 x22 x23 x30 x31 x32 x33 x40 x41 x42 x43 k4 RG CK RS B0
  go_cut [42] from 41 to 42 (fun v wx => ∃ q : Bool, v = .bool q ∧ Hid (q = decide (f = 0)) ∧ wx = w4)
  case first =>
    by_cases h : f = 0
    · have t : (f == 0) = true := by rw [beq_iff_eq]; exact h
      have E : Hid (true = decide (f = 0)) := (decide_eq_true h).symm
      clear h
      go_wp2
      go_meet
      case rel => exact ⟨true, rfl, E, rfl⟩
    · have t : (f == 0) = false := by rw [beq_eq_false_iff_ne]; exact h
      have E : Hid (false = decide (f = 0)) := (decide_eq_false h).symm
      clear h
      go_wp2
      go_meet
      case rel => exact ⟨false, rfl, E, rfl⟩
  case rest =>
    obtain ⟨q, rfl, HQ, rfl⟩ := hcut
    go_upto_if 42 with fail
    go_cut [10, 11] from 43 to 48 (fun u v wx => (∃ ag cg, u = .slice ag EL.length cg ∧ Hid (Rd wx ag EL)) ∧ v = .int .i64 V ∧ Hid (Below ((w.alloc (.cells #[.int .i64 G.f, .int .i64 G.w, .slice G.wa G.ws.length G.wc, .slice G.ta G.ks.length G.tc] 38)).alloc (.cells #[.int .i64 O.f, .int .i64 O.w, .slice O.wa O.ws.length O.wc, .slice O.ta O.ks.length O.tc] 38)).heap.size ((w.alloc (.cells #[.int .i64 G.f, .int .i64 G.w, .slice G.wa G.ws.length G.wc, .slice G.ta G.ks.length G.tc] 38)).alloc (.cells #[.int .i64 O.f, .int .i64 O.w, .slice O.wa O.ws.length O.wc, .slice O.ta O.ks.length O.tc] 38)) wx))
    case first =>
      cases q with
      | false =>
        have E := hide (RZ.out (of_decide_eq_false HQ.out.symm))
        have RN : Hid (Rd wc none EL) := by unfold Hid; rw [E.out.1]; exact ⟨Nat.zero_le _, fun h => absurd rfl h⟩
        clear HQ RE RT RZ PE PV ER IN RO KP
        go_wp2
        go_meet
        case rel => exact ⟨⟨none, 0, by rw [E.out.1]; rfl, RN⟩, by rw [E.out.2], G4⟩
      | true =>
        have f0 := of_decide_eq_true HQ.out.symm
        have R1 := hide (RE.out f0)
        have R2 := hide (RT.out f0)
        obtain ⟨k4, ⟨x0, x1, x2, x3⟩, _⟩ := KP.out _ G4.out
        clear HQ RE RT RZ PE PV ER IN RO f0
        go_wp2_with (first
          | (go_at_call 14; refine (R2.out _ _ _ k5 HR.out).mono ?_; rintro r w6 ⟨rfl, h6⟩; have g6 := below_on g5 h6; have HR6 := hide (HR.out.below h6))
          | (go_at_call 13; refine (R1.out _ k4).mono ?_; rintro r w5 ⟨ag, cg, rfl, hrd, h5⟩; have g5 := below_on G4.out h5; have q5 := KP.out _ g5; have k5 := q5.1; have y0 := q5.2.1.1; have y1 := q5.2.1.2.1; have y2 := q5.2.1.2.2.1; have y3 := q5.2.1.2.2.2; have HR := hide hrd; clear q5 hrd))
        go_meet
        case rel => exact ⟨⟨ag, cg, rfl, HR6⟩, rfl, g6⟩
    case rest =>
      obtain ⟨⟨ag, cg, rfl, HR⟩, rfl, G6⟩ := hcut
      obtain ⟨k6, ⟨x0, x1, x2, x3⟩, _⟩ := KP.out _ G6.out
      have g6 := G6.out
      clear RE RT RZ HQ G4
      go_upto_region 14 with (first
        | (go_at_call 17; refine (IN.out _ _ _ _ _ _ HL10.out HR10.out).mono ?_; rintro r w11 ⟨rfl, h11⟩; have g11 := below_on g10 h11)
        | (go_at_call 10; refine (ER.out _ _ k9).mono ?_; rintro r w10 ⟨rfl, h10⟩; have g10 := below_on g9 h10; have q10 := KP.out _ g10; have k10 := q10.1; have y100 := q10.2.1.1; have y101 := q10.2.1.2.1; have y102 := q10.2.1.2.2.1; have y103 := q10.2.1.2.2.2; have HL10 := hide (HL9.out.below h10); have HR10 := hide (HR9.out.below h10); clear q10)
        | (go_at_call 16; refine (PV.out _ k8).mono ?_; rintro r w9 ⟨rfl, h9⟩; have g9 := below_on g8 h9; have q9 := KP.out _ g9; have k9 := q9.1; have y90 := q9.2.1.1; have y91 := q9.2.1.2.1; have y92 := q9.2.1.2.2.1; have y93 := q9.2.1.2.2.2; have HL9 := hide (HL8.out.below h9); have HR9 := hide (HR8.out.below h9); clear q9)
        | (go_at_call 10; refine (ER.out _ _ k7).mono ?_; rintro r w8 ⟨rfl, h8⟩; have g8 := below_on g7 h8; have q8 := KP.out _ g8; have k8 := q8.1; have y80 := q8.2.1.1; have y81 := q8.2.1.2.1; have y82 := q8.2.1.2.2.1; have y83 := q8.2.1.2.2.2; have HL8 := hide (HL7.out.below h8); have HR8 := hide (HR7.out.below h8); clear q8)
        | (go_at_call 15; refine (PE.out _ k6).mono ?_; rintro r w7 ⟨al, cl, rfl, hl7, h7⟩; have g7 := below_on g6 h7; have q7 := KP.out _ g7; have k7 := q7.1; have y70 := q7.2.1.1; have y71 := q7.2.1.2.1; have y72 := q7.2.1.2.2.1; have y73 := q7.2.1.2.2.2; have HL7 := hide hl7; have HR7 := hide (HR.out.below h7); clear q7))
      have G11 := hide g11
      clear g6 g7 g8 g9 g10 g11 h7 h8 h9 h10 h11 k6 k7 k8 k9 k10 x0 x1 x2 x3 y70 y71 y72 y73 y80 y81 y82 y83 y90 y91 y92 y93 y100 y101 y102 y103 HL7 HL8 HL9 HL10 HR HR7 HR8 HR9 HR10 PE PV IN G6 hl7
      go_upto_region 16 with fail
      go_cut [71] from 70 to 71 (fun v wx => ∃ q : Bool, v = .bool q ∧ Hid (q = decide (e = 0)) ∧ wx = w11)
      case first =>
        by_cases h : e = 0
        · have t : (e == 0) = true := by rw [beq_iff_eq]; exact h
          have E : Hid (true = decide (e = 0)) := (decide_eq_true h).symm
          clear h
          go_wp2
          go_meet
          case rel => exact ⟨true, rfl, E, rfl⟩
        · have t : (e == 0) = false := by rw [beq_eq_false_iff_ne]; exact h
          have E : Hid (false = decide (e = 0)) := (decide_eq_false h).symm
          clear h
          go_wp2
          go_meet
          case rel => exact ⟨false, rfl, E, rfl⟩
      case rest =>
        obtain ⟨q, rfl, HQ, rfl⟩ := hcut
        go_upto_if 71 with fail
        go_cut [18, 19, 20, 21, 22, 23, 24] from 72 to 134 (fun u v _ _ _ _ _ wx => u = .int .i64 lo ∧ v = .int .i64 hi ∧ Hid (Below ((w.alloc (.cells #[.int .i64 G.f, .int .i64 G.w, .slice G.wa G.ws.length G.wc, .slice G.ta G.ks.length G.tc] 38)).alloc (.cells #[.int .i64 O.f, .int .i64 O.w, .slice O.wa O.ws.length O.wc, .slice O.ta O.ks.length O.tc] 38)).heap.size ((w.alloc (.cells #[.int .i64 G.f, .int .i64 G.w, .slice G.wa G.ws.length G.wc, .slice G.ta G.ks.length G.tc] 38)).alloc (.cells #[.int .i64 O.f, .int .i64 O.w, .slice O.wa O.ws.length O.wc, .slice O.ta O.ks.length O.tc] 38)) wx))
        case first =>
          cases q with
          | false =>
            have E := hide (BN.out (of_decide_eq_false HQ.out.symm))
            clear HQ n12 TR TB LK LN BT BN ER RO KP
            go_wp2
            go_meet
            case rel => exact ⟨by rw [E.out.1], by rw [E.out.2], G11⟩
          | true =>
            have e0 := of_decide_eq_true HQ.out.symm
            have m12 := n12.out e0
            have TB0 := hide (TB.out e0)
            have BT0 := hide (BT.out e0)
            obtain ⟨i0, hi, hz0, hz1, hz2⟩ := info_parts info3
            have I0 := hide hi
            clear HQ n12 TB BT BN ER RO e0 hi
            have eB : ((w.alloc (.cells #[.int .i64 G.f, .int .i64 G.w, .slice G.wa G.ws.length G.wc, .slice G.ta G.ks.length G.tc] 38)).alloc (.cells #[.int .i64 O.f, .int .i64 O.w, .slice O.wa O.ws.length O.wc, .slice O.ta O.ks.length O.tc] 38)).heap.size = (w.heap.size + 1 + 1) := by simp
            have KB : Hid (∀ W, Below (w.heap.size + 1 + 1) ((w.alloc (.cells #[.int .i64 G.f, .int .i64 G.w, .slice G.wa G.ws.length G.wc, .slice G.ta G.ks.length G.tc] 38)).alloc (.cells #[.int .i64 O.f, .int .i64 O.w, .slice O.wa O.ws.length O.wc, .slice O.ta O.ks.length O.tc] 38)) W → Below w.heap.size w W ∧ (W.cell? ⟨w.heap.size, 0, none⟩ = some (.int .i64 G.f) ∧ W.cell? ⟨w.heap.size, 1, none⟩ = some (.int .i64 G.w) ∧ W.cell? ⟨w.heap.size, 2, none⟩ = some (.slice G.wa G.ws.length G.wc) ∧ W.cell? ⟨w.heap.size, 3, none⟩ = some (.slice G.ta G.ks.length G.tc)) ∧ Hid (Below ((w.alloc (.cells #[.int .i64 G.f, .int .i64 G.w, .slice G.wa G.ws.length G.wc, .slice G.ta G.ks.length G.tc] 38)).alloc (.cells #[.int .i64 O.f, .int .i64 O.w, .slice O.wa O.ws.length O.wc, .slice O.ta O.ks.length O.tc] 38)).heap.size ((w.alloc (.cells #[.int .i64 G.f, .int .i64 G.w, .slice G.wa G.ws.length G.wc, .slice G.ta G.ks.length G.tc] 38)).alloc (.cells #[.int .i64 O.f, .int .i64 O.w, .slice O.wa O.ws.length O.wc, .slice O.ta O.ks.length O.tc] 38)) W) ∧ (w.heap.size + 1 + 1) ≤ W.heap.size) := fun W hW => by
              have hS := hW.size
              rw [eB] at hS
              rw [← eB] at hW
              have q := KP.out W hW
              exact ⟨q.1, q.2.1, hW, hS⟩
            have GB : Hid (Below (w.heap.size + 1 + 1) ((w.alloc (.cells #[.int .i64 G.f, .int .i64 G.w, .slice G.wa G.ws.length G.wc, .slice G.ta G.ks.length G.tc] 38)).alloc (.cells #[.int .i64 O.f, .int .i64 O.w, .slice O.wa O.ws.length O.wc, .slice O.ta O.ks.length O.tc] 38)) wc) := by have := G11.out; rw [eB] at this; exact this
            clear eB KP
            go_wp2
            go_loopw [20, 21, 22] (fun u v i wr => ∃ (k : Nat) (X Y : List Int), k ≤ G.ks.length ∧ i = .int .i64 k ∧ Hid (X = LW.take k ∧ Y = HI.take k ∧ X.length = k ∧ Y.length = k) ∧ wr.ownsRow (w.heap.size + 1 + 1) 3 1 u X.length (X.map (Value.int .i64)) ∧ wr.ownsRow (w.heap.size + 1 + 1) 3 1 v Y.length (Y.map (Value.int .i64)) ∧ Hid (u.ownBlock = none ∨ v.ownBlock = none ∨ u.ownBlock ≠ v.ownBlock) ∧ Hid (Below (w.heap.size + 1 + 1) ((w.alloc (.cells #[.int .i64 G.f, .int .i64 G.w, .slice G.wa G.ws.length G.wc, .slice G.ta G.ks.length G.tc] 38)).alloc (.cells #[.int .i64 O.f, .int .i64 O.w, .slice O.wa O.ws.length O.wc, .slice O.ta O.ks.length O.tc] 38)) wr)) (fun _ _ i _ => G.ks.length - (intOf i).toNat)
            case atStart => exact ⟨0, [], [], Nat.zero_le _, rfl, ⟨rfl, rfl, rfl, rfl⟩, World.ownsRow_nil _ _ _ _, World.ownsRow_nil _ _ _ _, .inl rfl, GB⟩
            case round =>
              obtain ⟨W0, hW0⟩ : ∃ W0, W0 = wr := ⟨_, rfl⟩
              subst hW0
              obtain ⟨k, X, Y, hk, rfl, HXY, hox, hoy, DJ, K⟩ := hrel
              obtain ⟨kw, ⟨x0, x1, x2, x3⟩, KW, ksz⟩ := KB.out _ K.out
              by_cases hlt : k < G.ks.length
              · have hT := TR.out _ kw
                obtain ⟨bt, ot, eta, hbt, hct⟩ := hT.2.2 (by intro e; rw [e] at hlt; simp at hlt)
                have rk := hT.2.1 _ (List.getElem_mem hlt)
                have ct := hct k hlt
                unfold tV at ct
                have HTA := hide eta
                obtain ⟨t63, l0⟩ := TB0.out k hlt
                obtain ⟨lk1, lk2⟩ := LK.out k hlt
                have kz : (k : Int) < (G.ks.length : Int) := by omega
                have NX : Hid ((X ++ [M.lowL (M.lvK G.ks[k].2.1 G.ks[k].2.1.length)] = LW.take (k + 1) ∧ Y ++ [M.highL (M.lvK G.ks[k].2.1 G.ks[k].2.1.length)] = HI.take (k + 1))) := by unfold Hid; rw [HXY.out.1, HXY.out.2.1, lk1, lk2]; exact ⟨rfl, rfl⟩
                obtain ⟨xa, xc, rfl, RX, _⟩ := own_rd hox
                obtain ⟨ya, yc, rfl, RY, _⟩ := own_rd hoy
                have HOX := hide hox
                have HOY := hide hoy
                rw [HTA.out] at x3
                have RK := hide rk
                have UP : Hid (∀ W, Below W0.heap.size W0 W → W.cell? ⟨w.heap.size, 3, none⟩ = some (.slice (some ⟨bt, ot, none⟩) G.ks.length G.tc) ∧ W.cell? ⟨bt, ot + k, none⟩ = some (.slice G.ks[k].1 G.ks[k].2.1.length G.ks[k].2.2)) := fun W hW => by
                  have q := (KB.out W (K.out.trans (hW.mono ksz))).2.1.2.2.2
                  rw [HTA.out] at q
                  exact ⟨q, (hW.cell (p := ⟨bt, ot + k, none⟩) hbt).trans ct⟩
                clear hT hct rk lk1 lk2 hox hoy RX RY LK TB0 eta TR
                go_wp2
                go_loopw [23, 24] (fun u j wx => ∃ (q : Nat) (Z : List Int), q ≤ G.ks[k].2.1.length ∧ j = .int .i64 q ∧ Hid (Z = M.lvK G.ks[k].2.1 q ∧ Z.length ≤ q) ∧ wx.ownsRow W0.heap.size 3 1 u Z.length (Z.map (Value.int .i64)) ∧ Hid (Below W0.heap.size W0 wx)) (fun _ j _ => G.ks[k].2.1.length - (intOf j).toNat)
                case atStart => exact ⟨0, [], Nat.zero_le _, rfl, ⟨rfl, Nat.le_refl _⟩, World.ownsRow_nil _ _ _ _, Below.refl _ _⟩
                case round =>
                  obtain ⟨q, Z, hq, rfl, HZ, hoz, KQ⟩ := hrel
                  obtain ⟨u3, ut⟩ := UP.out wr KQ.out
                  have zl := HZ.out.2
                  obtain ⟨za, zc, rfl, RZ', _⟩ := own_rd hoz
                  have HOZ := hide hoz
                  clear hoz RZ'
                  by_cases hql : q < G.ks[k].2.1.length
                  · have qz : (q : Int) < (G.ks[k].2.1.length : Int) := by omega
                    obtain ⟨bn, on, en, hbn, hcn⟩ := (RK.out.below KQ.out).2 (by intro e; rw [e] at hql; simp at hql)
                    obtain ⟨n0, n1, n2, n3, n4, n5⟩ := hcn q hql
                    rw [en] at ut
                    cases hf : M.leafB (M.nAt G.ks[k].2.1 q) with
                    | false =>
                      have qf : (M.nf (M.nAt G.ks[k].2.1 q) == -1) = false := by
                        unfold M.leafB at hf
                        rw [beq_eq_false_iff_ne]; exact of_decide_eq_false hf
                      have N : Hid (Z = M.lvK G.ks[k].2.1 (q + 1) ∧ Z.length ≤ q + 1) := by
                        refine ⟨?_, by omega⟩
                        rw [M.lvK, hf]; exact HZ.out.1
                      clear hcn hf HZ n1 n2 n3 n4 n5
                      generalize M.nf (M.nAt G.ks[k].2.1 q) = nf at *
                      go_wp2
                      go_roundw
                      case rel => exact ⟨q + 1, Z, by omega, by go_num, N, HOZ.out, KQ⟩
                      case measure => simp [intOf]; omega
                    | true =>
                      have qf : (M.nf (M.nAt G.ks[k].2.1 q) == -1) = true := by
                        unfold M.leafB at hf
                        rw [beq_iff_eq]; exact of_decide_eq_true hf
                      have N : Hid (Z ++ [M.nv (M.nAt G.ks[k].2.1 q)] = M.lvK G.ks[k].2.1 (q + 1) ∧ (Z ++ [M.nv (M.nAt G.ks[k].2.1 q)]).length ≤ q + 1) := by
                        refine ⟨?_, by rw [List.length_append]; simp; omega⟩
                        rw [M.lvK, if_pos hf, HZ.out.1]
                      have wq := KQ.out.size
                      clear hcn hf HZ n1 n2 n3 n4
                      generalize M.nv (M.nAt G.ks[k].2.1 q) = zv at *
                      generalize M.nf (M.nAt G.ks[k].2.1 q) = nf at *
                      go_wp2_with (at_builtin; refine wpList_append_lies _ rfl (.tmp 99) (.tmp 109) 23 rfl W0.heap.size 3 i0 (.int .i64 0) 1 8 Tryd.underlying23 I0.out hz0 hz1 hz2 rfl (by omega) (.slice za Z.length zc) Z.length (Z.map (Value.int .i64)) rfl (HOZ.out.alloc _) ⟨wr.heap.size, 0, none⟩ 1 1 [.int .i64 zv] rfl rfl (World.news_of_block (heap_alloc_new _ _)) (by simp [Value.oneCell']) (by omega) (by unfold maxLen; omega) (by omega) (by simp; omega) (wr.heap.size + 1) (by simp) ?_)
                      intro g cap w5 hov5 hgrow hat hlt5
                      have hb5 : Hid (Below W0.heap.size W0 w5) := (KQ.out.alloc wq _).grown hgrow (by simp; omega) (fun k hk => (HOZ.out.lt k hk).1)
                      have HO5 : Hid (w5.ownsRow W0.heap.size 3 1 (.slice (some ⟨g, 0, none⟩) (Z.length + 1) cap) (Z ++ [zv]).length ((Z ++ [zv]).map (Value.int .i64))) := by
                        unfold Hid; rw [List.map_append, List.length_append]; exact hov5
                      clear hov5 hgrow hat
                      go_wp2
                      go_roundw
                      case rel => exact ⟨q + 1, Z ++ [zv], by omega, by go_num, N, HO5.out, hb5⟩
                      case measure => simp [intOf]; omega
                  · have hqe : q = G.ks[k].2.1.length := by omega
                    have ZE : Hid (Z = M.lvK G.ks[k].2.1 G.ks[k].2.1.length) := by unfold Hid; rw [HZ.out.1, hqe]
                    rw [← ZE.out] at NX
                    have z0 : 0 < Z.length := by rw [ZE.out]; exact l0
                    obtain ⟨zg, zcap, ez, hz1', hz2'⟩ := own_shape HOZ.out z0
                    cases ez
                    have lx : ∀ c, (Value.slice xa X.length xc).ownBlock = some c → c < W0.heap.size := fun c hc => (HOX.out.lt c hc).2
                    have ly : ∀ c, (Value.slice ya Y.length yc).ownBlock = some c → c < W0.heap.size := fun c hc => (HOY.out.lt c hc).2
                    have LX := hide lx
                    have LY := hide ly
                    have xl : X.length ≤ 12 := by have := HXY.out.2.2.1; omega
                    have yl : Y.length ≤ 12 := by have := HXY.out.2.2.2; omega
                    have zl63 : Z.length ≤ 63 := by omega
                    have wq := KQ.out.size
                    have SO := hide (sorted_some zg 0 Z zc wr z0 (by omega) hz2' (fun i hi => by rw [Nat.zero_add, own_at HOZ.out rfl i hi]; simp [List.getD, List.getElem?_eq_getElem hi]))
                    have NE : Hid ((Value.slice ya Y.length yc).ownBlock = none ∨ (Value.slice ya Y.length yc).ownBlock ≠ (Value.slice xa X.length xc).ownBlock) := by
                      rcases DJ.out with q | q | q
                      · cases hy : (Value.slice ya Y.length yc).ownBlock with
                        | none => exact .inl rfl
                        | some c => exact .inr (by rw [q]; simp)
                      · exact .inl q
                      · exact .inr (fun e => q e.symm)
                    have XN : Hid ((X ++ [M.lowL Z]).length = k + 1 ∧ (Y ++ [M.highL Z]).length = k + 1) := by unfold Hid; rw [List.length_append, List.length_append, HXY.out.2.2.1, HXY.out.2.2.2]; exact ⟨rfl, rfl⟩
                    have LO : Hid (∀ (W : World) g cap, W.ownsRow wr.heap.size 3 1 (.slice (some ⟨g, 0, none⟩) Z.length cap) Z.length ((M.sortI Z).map (Value.int .i64)) → W.cell? ⟨g, 0, none⟩ = some (.int .i64 (M.lowL Z)) ∧ W.cell? ⟨g, Z.length - 1, none⟩ = some (.int .i64 (M.highL Z))) := fun W g cap ho => by
                      refine ⟨?_, ?_⟩
                      · rw [own_at ho (M.sort_length Z) 0 (by rw [M.sort_length]; exact z0)]
                        unfold M.lowL; rw [M.getD_at (by rw [M.sort_length]; exact z0)]
                      · rw [own_at ho (M.sort_length Z) (Z.length - 1) (by rw [M.sort_length]; omega)]
                        unfold M.highL; rw [M.getD_at (by rw [M.sort_length]; omega)]
                    clear lx ly HZ ZE HXY hqe zl t63 l0
                    generalize M.lowL Z = zlo at *
                    generalize M.highL Z = zhi at *
                    go_wp2_with (first
                      | (go_at_call 18; refine SO.out.mono ?_; rintro r w6 ⟨sg, sc, rfl, sg1, sg2, hos, h6⟩; have k06 := below_on KQ.out h6; have w06 := k06.size; have lo6 := (LO.out w6 sg sc hos).1; have hi6 := (LO.out w6 sg sc hos).2; have HOX6 := hide (own_up HOX.out k06); have HOY6 := hide (own_up HOY.out k06); have K6 := K.out.trans (k06.mono ksz); clear hos)
                      | (at_builtin; refine wpList_append_lies _ rfl (.tmp 113) (.tmp 117) 23 rfl (w.heap.size + 1 + 1) 3 i0 (.int .i64 0) 1 8 Tryd.underlying23 I0.out hz0 hz1 hz2 rfl (by omega) (.slice xa X.length xc) X.length (X.map (Value.int .i64)) rfl (HOX6.out.alloc _) ⟨w6.heap.size, 0, none⟩ 1 1 [.int .i64 zlo] rfl rfl (World.news_of_block (heap_alloc_new _ _)) (by simp [Value.oneCell']) (by omega) (by unfold maxLen; omega) (by omega) (by simp; omega) (w6.heap.size + 1) (by simp) ?_; intro g7 c7 w7 hov7 hgr7 hat7 hlt7; have hi7 := (cell_grown (o := Z.length - 1) hgr7 (show sg < (w6.alloc _).heap.size by simp; omega) (fun e => by have := LX.out _ e; omega)).trans (((Below.refl _ w6).alloc (Nat.le_refl _) _).cell (p := ⟨sg, Z.length - 1, none⟩) sg2 |>.trans hi6); have HOY7 := hide ((HOY6.out.alloc _).kept hgr7 NE.out); have K7 := hide ((K6.alloc (by omega) _).grown hgr7 (by simp; omega) (fun c hc => (HOX6.out.lt c hc).1)); have HG7 := hide hgr7; have HA7 := hide hat7; have HOV7 := hide hov7; have w67 : w6.heap.size + 1 ≤ w7.heap.size := (by have := hgr7.size; simpa using this); clear hov7 hgr7 hat7)
                      | (at_builtin; refine wpList_append_lies _ rfl (.tmp 119) (.tmp 126) 23 rfl (w.heap.size + 1 + 1) 3 i0 (.int .i64 0) 1 8 Tryd.underlying23 I0.out hz0 hz1 hz2 rfl (by omega) (.slice ya Y.length yc) Y.length (Y.map (Value.int .i64)) rfl (HOY7.out.alloc _) ⟨w7.heap.size, 0, none⟩ 1 1 [.int .i64 zhi] rfl rfl (World.news_of_block (heap_alloc_new _ _)) (by simp [Value.oneCell']) (by omega) (by unfold maxLen; omega) (by omega) (by simp; omega) (w7.heap.size + 1) (by simp) ?_; intro g8 c8 w8 hov8 hgr8 hat8 hlt8))
                    have N7 : Hid (some g7 ≠ (Value.slice ya Y.length yc).ownBlock) := fun e => by
                      rcases HA7.out with q | q
                      · rcases NE.out with p | p
                        · rw [p] at e; cases e
                        · exact p (by rw [q, e])
                      · have := LY.out g7 e.symm
                        omega
                    have HOX8 := hide ((HOV7.out.alloc (.cells #[.int .i64 zhi] 3)).kept hgr8 (.inr (fun e => N7.out (by simpa [Value.ownBlock] using e))))
                    have DJ8 : Hid ((Value.slice (some ⟨g7, 0, none⟩) (X.length + 1) c7).ownBlock = none ∨ (Value.slice (some ⟨g8, 0, none⟩) (Y.length + 1) c8).ownBlock = none ∨ (Value.slice (some ⟨g7, 0, none⟩) (X.length + 1) c7).ownBlock ≠ (Value.slice (some ⟨g8, 0, none⟩) (Y.length + 1) c8).ownBlock) := .inr (.inr (fun e => by
                      have e' : g7 = g8 := by simpa [Value.ownBlock] using e
                      rcases hat8 with q | q
                      · exact N7.out (by rw [q, e'])
                      · omega))
                    have K8 := hide ((K7.out.alloc (by omega) (.cells #[.int .i64 zhi] 3)).grown hgr8 (by simp; omega) (fun c hc => (HOY7.out.lt c hc).1))
                    have HX8 : Hid (w8.ownsRow (w.heap.size + 1 + 1) 3 1 (.slice (some ⟨g7, 0, none⟩) (X.length + 1) c7) (X ++ [zlo]).length ((X ++ [zlo]).map (Value.int .i64))) := by
                      unfold Hid; rw [List.map_append, List.length_append]; exact HOX8.out
                    have HY8 : Hid (w8.ownsRow (w.heap.size + 1 + 1) 3 1 (.slice (some ⟨g8, 0, none⟩) (Y.length + 1) c8) (Y ++ [zhi]).length ((Y ++ [zhi]).map (Value.int .i64))) := by
                      unfold Hid; rw [List.map_append, List.length_append]; exact hov8
                    clear hov8 hgr8 hat8 HOX8 HOV7 HG7 HA7 N7
                    go_wp2
                    go_roundw
                    case rel => exact ⟨k + 1, X ++ [zlo], Y ++ [zhi], by omega, by go_num, ⟨NX.out.1, NX.out.2, XN.out.1, XN.out.2⟩, HX8.out, HY8.out, DJ8, K8⟩
                    case measure => simp [intOf]; omega
              · have E : Hid (X = LW ∧ Y = HI) := by
                  refine ⟨?_, ?_⟩
                  · rw [HXY.out.1, List.take_of_length_le (by rw [LN.out.1]; omega)]
                  · rw [HXY.out.2.1, List.take_of_length_le (by rw [LN.out.2]; omega)]
                obtain ⟨xa, xc, rfl, RX, _⟩ := own_rd hox
                obtain ⟨ya, yc, rfl, RY, _⟩ := own_rd hoy
                have B1 := hide (BT0.out xa xc ya yc W0 kw (by rw [← E.out.1]; exact RX) (by rw [← E.out.2]; exact RY))
                rw [← E.out.1, ← E.out.2] at B1
                clear RX RY hox hoy LK TB0 TR LN BT0
                go_wp2_with (go_at_call 19; refine B1.out.mono ?_; rintro r w5 ⟨rfl, h5⟩; have g5 := hide (below_on KW.out h5))
                go_meet
                case rel => exact ⟨rfl, rfl, g5⟩
        case rest =>
          obtain ⟨rfl, rfl, G17⟩ := hcut
          obtain ⟨k17, ⟨x0, x1, x2, x3⟩, _⟩ := KP.out _ G17.out
          clear TR TB LK LN BT BN HQ G11
          go_upto_region 35 with (first
            | (go_at_call 10; refine (ER.out _ _ k19).mono ?_; rintro r w20 ⟨rfl, h20⟩; have g20 := below_on g19 h20)
            | (go_at_call 20; refine (PB.out _ k17).mono ?_; rintro r w19 ⟨rfl, h19⟩; have g19 := below_on G17.out h19; have k19 := (KP.out _ g19).1))
          have G20 := hide g20
          clear g19 k19 h19 h20 k17 x0 x1 x2 x3 PB g20 G17
          by_cases hne : ej ≠ 0
          · have ZG : Hid (∀ W, RdG W ⟨0, 0, none, [], 0, none, [], 0⟩) := fun W => ⟨⟨Nat.zero_le _, fun h => absurd rfl h⟩, Nat.zero_le _, (fun k hk => by cases hk), fun h => absurd rfl h⟩
            have JM0 := JZ.out hne
            have GSZ : Hid (∀ (J : Gr) W, RdG W J → J.m = JM → Calls Tryd.prog 22 #[.agg #[.int .i64 J.f, .int .i64 J.w, .slice J.wa J.ws.length J.wc, .slice J.ta J.ks.length J.tc], .agg #[.int .i64 0, .int .i64 0, .slice none 0 0, .slice none 0 0]] W fun r w' => r = .returned (.bool true) ∧ Below W.heap.size W w') := fun J W hJ hm => GS.out J ⟨0, 0, none, [], 0, none, [], 0⟩ W hJ (ZG.out W) (by rw [hm, JM0]; rfl)
            obtain ⟨k20, ⟨x0, x1, x2, x3⟩, ⟨y0', y1', y2', y3'⟩⟩ := KP.out _ G20.out
            have l1' : w.heap.size < w20.heap.size := by have := G20.out.size; simp at this; omega
            have l2' : w.heap.size + 1 < w20.heap.size := by have := G20.out.size; simp at this; omega
            unfold Gr.v at PJ
            clear GS ZG JM0 JZ
            by_cases h1 : e = 0
            · by_cases h2 : eo = 0
              · by_cases h3 : G.f = O.f ∧ G.w = O.w
                · by_cases h4 : 12 < G.ks.length + O.ks.length
                  · have EJ := hide (E4.out h1 h2 h3.1 h3.2 h4)
                    have p1 : (e == 0) = true := by rw [beq_iff_eq]; exact h1
                    have p2 : (eo == 0) = true := by rw [beq_iff_eq]; exact h2
                    have p3 : (G.f != O.f) = false := by rw [bne_eq_false_iff_eq]; exact h3.1
                    have p4 : (G.w != O.w) = false := by rw [bne_eq_false_iff_eq]; exact h3.2
                    have p5 : decide (12 < (G.ks.length : Int) + (O.ks.length : Int)) = true := decide_eq_true (by omega)
                    have os := o12.out h2
                    have gs' := n12.out h1
                    have wr9 : IntKind.i64.wrap ((G.ks.length : Int) + (O.ks.length : Int)) = (G.ks.length : Int) + (O.ks.length : Int) := wrap_in4 _ (by omega) (by omega)
                    clear h1 h2 h3 h4 E1 E2 E3 E4 E5 hne o12
                    rw [show ej = 4 from EJ.out] at PJ
                    go_wp2_with (first
                      | (go_at_call 22; refine (GSZ.out J _ (HJ.out.below (below_on ((Below.refl _ _).alloc (Nat.le_refl _) _) h5)) HM.out).mono ?_; rintro r w6 ⟨rfl, h6⟩)
                      | (go_at_call 10; refine (ER.out _ _ k4).mono ?_; rintro r w5 ⟨rfl, h5⟩; have b5 := below_on b4j h5; have z5 := kept_grove b5; have z0 := z5.1; have z1 := z5.2.1; have z2 := z5.2.2.1; have z3 := z5.2.2.2; have y5 := kept_grove h5; have y0 := y5.1; have y1 := y5.2.1; have y2 := y5.2.2.1; have y3 := y5.2.2.2; have k5 := below_on k4 h5; clear z5 y5)
                      | (go_at_call 21; refine (PJ.out _ (k21.alloc k21.size _)).mono ?_; rintro r w4 ⟨J, rfl, hJm, hJr, h4⟩; have HM := hide hJm; have HJ := hide hJr; have b4 := h4; have k4' := below_on (k21.alloc k21.size _) h4; have k4 := k4'.alloc k4'.size (.cells #[.int .i64 J.f, .int .i64 J.w, .slice J.wa J.ws.length J.wc, .slice J.ta J.ks.length J.tc] 38); have b4j := below_on b4 ((Below.refl _ w4).alloc (Nat.le_refl _) (.cells #[.int .i64 J.f, .int .i64 J.w, .slice J.wa J.ws.length J.wc, .slice J.ta J.ks.length J.tc] 38)); clear hJm hJr)
                      | (go_at_call 9; refine (RO.out _ k20).mono ?_; rintro r w21 ⟨rfl, h21⟩; have g21 := below_on G20.out h21; have q21 := KP.out _ g21; have k21 := q21.1; have v0 := q21.2.1.1; have v1 := q21.2.1.2.1; have v2 := q21.2.1.2.2.1; have v3 := q21.2.1.2.2.2; have u0 := q21.2.2.1; have u1 := q21.2.2.2.1; have u2 := q21.2.2.2.2.1; have u3 := q21.2.2.2.2.2; have l1 : w.heap.size < w21.heap.size := (by have := g21.size; simp at this; omega); have l2 : w.heap.size + 1 < w21.heap.size := (by have := g21.size; simp at this; omega); clear q21))
                    go_ret
                    exact ⟨rfl, below_on k5 h6⟩
                  · exact absurd (E5.out h1 h2 h3.1 h3.2 (by omega)) hne
                · by_cases h4 : G.f = O.f
                  · have EJ := hide (E3.out h1 h2 (.inr (fun h => h3 ⟨h4, h⟩)))
                    have p1 : (e == 0) = true := by rw [beq_iff_eq]; exact h1
                    have p2 : (eo == 0) = true := by rw [beq_iff_eq]; exact h2
                    have p3 : (G.f != O.f) = false := by rw [bne_eq_false_iff_eq]; exact h4
                    have p4 : (G.w != O.w) = true := by rw [bne_iff_ne]; exact fun h => h3 ⟨h4, h⟩
                    clear h1 h2 h3 h4 E1 E2 E3 E4 E5 hne o12
                    rw [show ej = 3 from EJ.out] at PJ
                    go_wp2_with (first
                      | (go_at_call 22; refine (GSZ.out J _ (HJ.out.below (below_on ((Below.refl _ _).alloc (Nat.le_refl _) _) h5)) HM.out).mono ?_; rintro r w6 ⟨rfl, h6⟩)
                      | (go_at_call 10; refine (ER.out _ _ k4).mono ?_; rintro r w5 ⟨rfl, h5⟩; have b5 := below_on b4j h5; have z5 := kept_grove b5; have z0 := z5.1; have z1 := z5.2.1; have z2 := z5.2.2.1; have z3 := z5.2.2.2; have y5 := kept_grove h5; have y0 := y5.1; have y1 := y5.2.1; have y2 := y5.2.2.1; have y3 := y5.2.2.2; have k5 := below_on k4 h5; clear z5 y5)
                      | (go_at_call 21; refine (PJ.out _ (k21.alloc k21.size _)).mono ?_; rintro r w4 ⟨J, rfl, hJm, hJr, h4⟩; have HM := hide hJm; have HJ := hide hJr; have b4 := h4; have k4' := below_on (k21.alloc k21.size _) h4; have k4 := k4'.alloc k4'.size (.cells #[.int .i64 J.f, .int .i64 J.w, .slice J.wa J.ws.length J.wc, .slice J.ta J.ks.length J.tc] 38); have b4j := below_on b4 ((Below.refl _ w4).alloc (Nat.le_refl _) (.cells #[.int .i64 J.f, .int .i64 J.w, .slice J.wa J.ws.length J.wc, .slice J.ta J.ks.length J.tc] 38)); clear hJm hJr)
                      | (go_at_call 9; refine (RO.out _ k20).mono ?_; rintro r w21 ⟨rfl, h21⟩; have g21 := below_on G20.out h21; have q21 := KP.out _ g21; have k21 := q21.1; have v0 := q21.2.1.1; have v1 := q21.2.1.2.1; have v2 := q21.2.1.2.2.1; have v3 := q21.2.1.2.2.2; have u0 := q21.2.2.1; have u1 := q21.2.2.2.1; have u2 := q21.2.2.2.2.1; have u3 := q21.2.2.2.2.2; have l1 : w.heap.size < w21.heap.size := (by have := g21.size; simp at this; omega); have l2 : w.heap.size + 1 < w21.heap.size := (by have := g21.size; simp at this; omega); clear q21))
                    go_ret
                    exact ⟨rfl, below_on k5 h6⟩
                  · have EJ := hide (E3.out h1 h2 (.inl h4))
                    have p1 : (e == 0) = true := by rw [beq_iff_eq]; exact h1
                    have p2 : (eo == 0) = true := by rw [beq_iff_eq]; exact h2
                    have p3 : (G.f != O.f) = true := by rw [bne_iff_ne]; exact h4
                    clear h1 h2 h3 h4 E1 E2 E3 E4 E5 hne o12
                    rw [show ej = 3 from EJ.out] at PJ
                    go_wp2_with (first
                      | (go_at_call 22; refine (GSZ.out J _ (HJ.out.below (below_on ((Below.refl _ _).alloc (Nat.le_refl _) _) h5)) HM.out).mono ?_; rintro r w6 ⟨rfl, h6⟩)
                      | (go_at_call 10; refine (ER.out _ _ k4).mono ?_; rintro r w5 ⟨rfl, h5⟩; have b5 := below_on b4j h5; have z5 := kept_grove b5; have z0 := z5.1; have z1 := z5.2.1; have z2 := z5.2.2.1; have z3 := z5.2.2.2; have y5 := kept_grove h5; have y0 := y5.1; have y1 := y5.2.1; have y2 := y5.2.2.1; have y3 := y5.2.2.2; have k5 := below_on k4 h5; clear z5 y5)
                      | (go_at_call 21; refine (PJ.out _ (k21.alloc k21.size _)).mono ?_; rintro r w4 ⟨J, rfl, hJm, hJr, h4⟩; have HM := hide hJm; have HJ := hide hJr; have b4 := h4; have k4' := below_on (k21.alloc k21.size _) h4; have k4 := k4'.alloc k4'.size (.cells #[.int .i64 J.f, .int .i64 J.w, .slice J.wa J.ws.length J.wc, .slice J.ta J.ks.length J.tc] 38); have b4j := below_on b4 ((Below.refl _ w4).alloc (Nat.le_refl _) (.cells #[.int .i64 J.f, .int .i64 J.w, .slice J.wa J.ws.length J.wc, .slice J.ta J.ks.length J.tc] 38)); clear hJm hJr)
                      | (go_at_call 9; refine (RO.out _ k20).mono ?_; rintro r w21 ⟨rfl, h21⟩; have g21 := below_on G20.out h21; have q21 := KP.out _ g21; have k21 := q21.1; have v0 := q21.2.1.1; have v1 := q21.2.1.2.1; have v2 := q21.2.1.2.2.1; have v3 := q21.2.1.2.2.2; have u0 := q21.2.2.1; have u1 := q21.2.2.2.1; have u2 := q21.2.2.2.2.1; have u3 := q21.2.2.2.2.2; have l1 : w.heap.size < w21.heap.size := (by have := g21.size; simp at this; omega); have l2 : w.heap.size + 1 < w21.heap.size := (by have := g21.size; simp at this; omega); clear q21))
                    go_ret
                    exact ⟨rfl, below_on k5 h6⟩
              · have EJ := hide (E2.out h1 h2)
                have p1 : (e == 0) = true := by rw [beq_iff_eq]; exact h1
                have p2 : (eo == 0) = false := by rw [beq_eq_false_iff_ne]; exact h2
                clear h1 h2 E1 E2 E3 E4 E5 hne o12
                rw [show ej = eo from EJ.out] at PJ
                go_wp2_with (first
                  | (go_at_call 22; refine (GSZ.out J _ (HJ.out.below (below_on ((Below.refl _ _).alloc (Nat.le_refl _) _) h5)) HM.out).mono ?_; rintro r w6 ⟨rfl, h6⟩)
                  | (go_at_call 10; refine (ER.out _ _ k4).mono ?_; rintro r w5 ⟨rfl, h5⟩; have b5 := below_on b4j h5; have z5 := kept_grove b5; have z0 := z5.1; have z1 := z5.2.1; have z2 := z5.2.2.1; have z3 := z5.2.2.2; have y5 := kept_grove h5; have y0 := y5.1; have y1 := y5.2.1; have y2 := y5.2.2.1; have y3 := y5.2.2.2; have k5 := below_on k4 h5; clear z5 y5)
                  | (go_at_call 21; refine (PJ.out _ (k21.alloc k21.size _)).mono ?_; rintro r w4 ⟨J, rfl, hJm, hJr, h4⟩; have HM := hide hJm; have HJ := hide hJr; have b4 := h4; have k4' := below_on (k21.alloc k21.size _) h4; have k4 := k4'.alloc k4'.size (.cells #[.int .i64 J.f, .int .i64 J.w, .slice J.wa J.ws.length J.wc, .slice J.ta J.ks.length J.tc] 38); have b4j := below_on b4 ((Below.refl _ w4).alloc (Nat.le_refl _) (.cells #[.int .i64 J.f, .int .i64 J.w, .slice J.wa J.ws.length J.wc, .slice J.ta J.ks.length J.tc] 38)); clear hJm hJr)
                  | (go_at_call 9; refine (RO.out _ k20).mono ?_; rintro r w21 ⟨rfl, h21⟩; have g21 := below_on G20.out h21; have q21 := KP.out _ g21; have k21 := q21.1; have v0 := q21.2.1.1; have v1 := q21.2.1.2.1; have v2 := q21.2.1.2.2.1; have v3 := q21.2.1.2.2.2; have u0 := q21.2.2.1; have u1 := q21.2.2.2.1; have u2 := q21.2.2.2.2.1; have u3 := q21.2.2.2.2.2; have l1 : w.heap.size < w21.heap.size := (by have := g21.size; simp at this; omega); have l2 : w.heap.size + 1 < w21.heap.size := (by have := g21.size; simp at this; omega); clear q21))
                go_ret
                exact ⟨rfl, below_on k5 h6⟩
            · have EJ := hide (E1.out h1)
              have p1 : (e == 0) = false := by rw [beq_eq_false_iff_ne]; exact h1
              clear h1 E1 E2 E3 E4 E5 hne o12 RO
              rw [show ej = e from EJ.out] at PJ
              go_wp2_with (first
                | (go_at_call 22; refine (GSZ.out J _ (HJ.out.below (below_on ((Below.refl _ _).alloc (Nat.le_refl _) _) h5)) HM.out).mono ?_; rintro r w6 ⟨rfl, h6⟩)
                | (go_at_call 10; refine (ER.out _ _ k4).mono ?_; rintro r w5 ⟨rfl, h5⟩; have b5 := below_on b4j h5; have z5 := kept_grove b5; have z0 := z5.1; have z1 := z5.2.1; have z2 := z5.2.2.1; have z3 := z5.2.2.2; have y5 := kept_grove h5; have y0 := y5.1; have y1 := y5.2.1; have y2 := y5.2.2.1; have y3 := y5.2.2.2; have k5 := below_on k4 h5; clear z5 y5)
                | (go_at_call 21; refine (PJ.out _ (k20.alloc k20.size _)).mono ?_; rintro r w4 ⟨J, rfl, hJm, hJr, h4⟩; have HM := hide hJm; have HJ := hide hJr; have b4 := h4; have k4' := below_on (k20.alloc k20.size _) h4; have k4 := k4'.alloc k4'.size (.cells #[.int .i64 J.f, .int .i64 J.w, .slice J.wa J.ws.length J.wc, .slice J.ta J.ks.length J.tc] 38); have b4j := below_on b4 ((Below.refl _ w4).alloc (Nat.le_refl _) (.cells #[.int .i64 J.f, .int .i64 J.w, .slice J.wa J.ws.length J.wc, .slice J.ta J.ks.length J.tc] 38)); clear hJm hJr))
              go_ret
              exact ⟨rfl, below_on k5 h6⟩
          · have ez : ej = 0 := Decidable.not_not.1 hne
            have h1 : e = 0 := by
              by_cases q : e = 0
              · exact q
              · exact absurd ((E1.out q).symm.trans ez) q
            have h2 : eo = 0 := by
              by_cases q : eo = 0
              · exact q
              · exact absurd ((E2.out h1 q).symm.trans ez) q
            have h3 : G.f = O.f ∧ G.w = O.w := by
              by_cases q : G.f = O.f ∧ G.w = O.w
              · exact q
              · have r := E3.out h1 h2 (by
                  by_cases s : G.f = O.f
                  · exact .inr (fun t => q ⟨s, t⟩)
                  · exact .inl s)
                rw [ez] at r
                cases r
            have h4 : G.ks.length + O.ks.length ≤ 12 := by
              by_cases q : 12 < G.ks.length + O.ks.length
              · have r := E4.out h1 h2 h3.1 h3.2 q
                rw [ez] at r
                cases r
              · omega
            obtain ⟨rg, ro, g0, o0, lg, lo'⟩ := PG.out ez
            have JE := hide (JG.out ez)
            obtain ⟨bt, ot, eta, hbt, hct⟩ := rg.2.2.2 (by intro q; rw [q] at g0; simp at g0)
            obtain ⟨bu, ou, etu, hbu, hcu⟩ := ro.2.2.2 (by intro q; rw [q] at o0; simp at o0)
            obtain ⟨bw, ow, ewa, hbw, hcw⟩ := rg.1.2 (by intro q; rw [q] at lg; simp at lg; omega)
            obtain ⟨bv, ov, ewo, hbv, hcv⟩ := ro.1.2 (by intro q; rw [q] at lo'; simp at lo'; omega)
            have p1 : (e == 0) = true := by rw [beq_iff_eq]; exact h1
            have p2 : (eo == 0) = true := by rw [beq_iff_eq]; exact h2
            have p3 : (G.f != O.f) = false := by rw [bne_eq_false_iff_eq]; exact h3.1
            have p4 : (G.w != O.w) = false := by rw [bne_eq_false_iff_eq]; exact h3.2
            have p5 : decide (12 < (G.ks.length : Int) + (O.ks.length : Int)) = false := decide_eq_false (by omega)
            have wr9 : IntKind.i64.wrap ((G.ks.length : Int) + (O.ks.length : Int)) = (G.ks.length : Int) + (O.ks.length : Int) := wrap_in4 _ (by omega) (by omega)
            obtain ⟨i0, hi, hz0, hz1, hz2⟩ := info_parts info3
            have I0 := hide hi
            obtain ⟨j0, hj, jz0, jz1, jz2⟩ := info_parts infoTr
            have J0 := hide hj
            unfold Gr.v at PJ
            rw [ewa, eta, ewo, etu] at KP PJ G20
            rw [ewo, etu] at RO
            have KW : Hid (∀ W, Below ((w.alloc (.cells #[.int .i64 G.f, .int .i64 G.w, .slice (some ⟨bw, ow, none⟩) G.ws.length G.wc, .slice (some ⟨bt, ot, none⟩) G.ks.length G.tc] 38)).alloc (.cells #[.int .i64 O.f, .int .i64 O.w, .slice (some ⟨bv, ov, none⟩) O.ws.length O.wc, .slice (some ⟨bu, ou, none⟩) O.ks.length O.tc] 38)).heap.size ((w.alloc (.cells #[.int .i64 G.f, .int .i64 G.w, .slice (some ⟨bw, ow, none⟩) G.ws.length G.wc, .slice (some ⟨bt, ot, none⟩) G.ks.length G.tc] 38)).alloc (.cells #[.int .i64 O.f, .int .i64 O.w, .slice (some ⟨bv, ov, none⟩) O.ws.length O.wc, .slice (some ⟨bu, ou, none⟩) O.ks.length O.tc] 38)) W → Below w.heap.size w W) := fun W hW => (KP.out W hW).1
            have SW1 : Hid (∀ W, Below ((w.alloc (.cells #[.int .i64 G.f, .int .i64 G.w, .slice (some ⟨bw, ow, none⟩) G.ws.length G.wc, .slice (some ⟨bt, ot, none⟩) G.ks.length G.tc] 38)).alloc (.cells #[.int .i64 O.f, .int .i64 O.w, .slice (some ⟨bv, ov, none⟩) O.ws.length O.wc, .slice (some ⟨bu, ou, none⟩) O.ks.length O.tc] 38)).heap.size ((w.alloc (.cells #[.int .i64 G.f, .int .i64 G.w, .slice (some ⟨bw, ow, none⟩) G.ws.length G.wc, .slice (some ⟨bt, ot, none⟩) G.ks.length G.tc] 38)).alloc (.cells #[.int .i64 O.f, .int .i64 O.w, .slice (some ⟨bv, ov, none⟩) O.ws.length O.wc, .slice (some ⟨bu, ou, none⟩) O.ks.length O.tc] 38)) W → ∀ j u, (G.ws.map (Value.int .i64))[j]? = some u → W.cell? ((⟨bw, ow, none⟩ : Addr).add j) = some u) := fun W hW => src_cells (fun i hi => ((KW.out W hW).cell (p := ⟨bw, ow + i, none⟩) hbw).trans (hcw i hi))
            have SW2 : Hid (∀ W, Below ((w.alloc (.cells #[.int .i64 G.f, .int .i64 G.w, .slice (some ⟨bw, ow, none⟩) G.ws.length G.wc, .slice (some ⟨bt, ot, none⟩) G.ks.length G.tc] 38)).alloc (.cells #[.int .i64 O.f, .int .i64 O.w, .slice (some ⟨bv, ov, none⟩) O.ws.length O.wc, .slice (some ⟨bu, ou, none⟩) O.ks.length O.tc] 38)).heap.size ((w.alloc (.cells #[.int .i64 G.f, .int .i64 G.w, .slice (some ⟨bw, ow, none⟩) G.ws.length G.wc, .slice (some ⟨bt, ot, none⟩) G.ks.length G.tc] 38)).alloc (.cells #[.int .i64 O.f, .int .i64 O.w, .slice (some ⟨bv, ov, none⟩) O.ws.length O.wc, .slice (some ⟨bu, ou, none⟩) O.ks.length O.tc] 38)) W → ∀ j u, (O.ws.map (Value.int .i64))[j]? = some u → W.cell? ((⟨bv, ov, none⟩ : Addr).add j) = some u) := fun W hW => src_cells (fun i hi => ((KW.out W hW).cell (p := ⟨bv, ov + i, none⟩) hbv).trans (hcv i hi))
            have ST1 : Hid (∀ W, Below ((w.alloc (.cells #[.int .i64 G.f, .int .i64 G.w, .slice (some ⟨bw, ow, none⟩) G.ws.length G.wc, .slice (some ⟨bt, ot, none⟩) G.ks.length G.tc] 38)).alloc (.cells #[.int .i64 O.f, .int .i64 O.w, .slice (some ⟨bv, ov, none⟩) O.ws.length O.wc, .slice (some ⟨bu, ou, none⟩) O.ks.length O.tc] 38)).heap.size ((w.alloc (.cells #[.int .i64 G.f, .int .i64 G.w, .slice (some ⟨bw, ow, none⟩) G.ws.length G.wc, .slice (some ⟨bt, ot, none⟩) G.ks.length G.tc] 38)).alloc (.cells #[.int .i64 O.f, .int .i64 O.w, .slice (some ⟨bv, ov, none⟩) O.ws.length O.wc, .slice (some ⟨bu, ou, none⟩) O.ks.length O.tc] 38)) W → ∀ j u, (G.ks.map tV)[j]? = some u → W.cell? ((⟨bt, ot, none⟩ : Addr).add j) = some u) := fun W hW => tr_cells (fun i hi => ((KW.out W hW).cell (p := ⟨bt, ot + i, none⟩) hbt).trans (hct i hi))
            have ST2 : Hid (∀ W, Below ((w.alloc (.cells #[.int .i64 G.f, .int .i64 G.w, .slice (some ⟨bw, ow, none⟩) G.ws.length G.wc, .slice (some ⟨bt, ot, none⟩) G.ks.length G.tc] 38)).alloc (.cells #[.int .i64 O.f, .int .i64 O.w, .slice (some ⟨bv, ov, none⟩) O.ws.length O.wc, .slice (some ⟨bu, ou, none⟩) O.ks.length O.tc] 38)).heap.size ((w.alloc (.cells #[.int .i64 G.f, .int .i64 G.w, .slice (some ⟨bw, ow, none⟩) G.ws.length G.wc, .slice (some ⟨bt, ot, none⟩) G.ks.length G.tc] 38)).alloc (.cells #[.int .i64 O.f, .int .i64 O.w, .slice (some ⟨bv, ov, none⟩) O.ws.length O.wc, .slice (some ⟨bu, ou, none⟩) O.ks.length O.tc] 38)) W → ∀ j u, (O.ks.map tV)[j]? = some u → W.cell? ((⟨bu, ou, none⟩ : Addr).add j) = some u) := fun W hW => tr_cells (fun i hi => ((KW.out W hW).cell (p := ⟨bu, ou + i, none⟩) hbu).trans (hcu i hi))
            have RK : Hid (∀ W, Below ((w.alloc (.cells #[.int .i64 G.f, .int .i64 G.w, .slice (some ⟨bw, ow, none⟩) G.ws.length G.wc, .slice (some ⟨bt, ot, none⟩) G.ks.length G.tc] 38)).alloc (.cells #[.int .i64 O.f, .int .i64 O.w, .slice (some ⟨bv, ov, none⟩) O.ws.length O.wc, .slice (some ⟨bu, ou, none⟩) O.ks.length O.tc] 38)).heap.size ((w.alloc (.cells #[.int .i64 G.f, .int .i64 G.w, .slice (some ⟨bw, ow, none⟩) G.ws.length G.wc, .slice (some ⟨bt, ot, none⟩) G.ks.length G.tc] 38)).alloc (.cells #[.int .i64 O.f, .int .i64 O.w, .slice (some ⟨bv, ov, none⟩) O.ws.length O.wc, .slice (some ⟨bu, ou, none⟩) O.ks.length O.tc] 38)) W → ∀ k ∈ ([] ++ G.ks) ++ O.ks, RdN W k.1 k.2.1) := fun W hW k hk => by
              rcases List.mem_append.1 hk with q | q
              · exact (rg.below (KW.out W hW)).2.2.1 k (by simpa using q)
              · exact (ro.below (KW.out W hW)).2.2.1 k q
            have GSB : Hid (∀ (J : Gr) W ga ca gt ct, RdG W J → J.m = JM → RdG W ⟨G.f, G.w, some ⟨ga, 0, none⟩, ([] ++ G.ws) ++ O.ws, ca, some ⟨gt, 0, none⟩, ([] ++ G.ks) ++ O.ks, ct⟩ → Calls Tryd.prog 22 #[.agg #[.int .i64 J.f, .int .i64 J.w, .slice J.wa J.ws.length J.wc, .slice J.ta J.ks.length J.tc], .agg #[.int .i64 G.f, .int .i64 G.w, .slice (some ⟨ga, 0, none⟩) (G.ws.length + O.ws.length) ca, .slice (some ⟨gt, 0, none⟩) (G.ks.length + O.ks.length) ct]] W fun r w' => r = .returned (.bool true) ∧ Below W.heap.size W w') := by
              intro J W ga ca gt ct hJ hm hB
              have q := GS.out J _ W hJ hB (by
                rw [hm, JE.out]
                unfold Gr.m M.joinG
                simp [tl, M.gf, M.gw, M.gs, M.gt])
              unfold Gr.v at q
              have l1 : (([] ++ G.ws) ++ O.ws).length = G.ws.length + O.ws.length := by simp
              have l2 : (([] ++ G.ks) ++ O.ks).length = G.ks.length + O.ks.length := by simp
              simp only [l1, l2] at q
              exact q
            have LW0 : Hid ((([] ++ G.ws) ++ O.ws).length = G.ws.length + O.ws.length) := by unfold Hid; simp
            have LK0 : Hid ((([] ++ G.ks) ++ O.ks).length = G.ks.length + O.ks.length) := by unfold Hid; simp
            have EZ := hide ez
            rw [show ej = 0 from EZ.out, err_nil rfl] at PJ
            have ER0 : Hid (∀ W, Below w.heap.size w W → Calls Tryd.prog 10 #[.nilIface, .int .i64 eo] W fun r w' => r = .returned (.bool true) ∧ Below W.heap.size W w') := fun W hW => by
              have q := ER.out eo W hW
              rw [err_nil h2] at q
              exact q
            have g12 : G.ws.length ≤ 12 := by omega
            have o12' : O.ws.length ≤ 12 := by omega
            have gw0 : 0 < G.ws.length := by omega
            have ow0 : 0 < O.ws.length := by omega
            obtain ⟨k20, ⟨x0, x1, x2, x3⟩, ⟨y0', y1', y2', y3'⟩⟩ := KP.out _ G20.out
            have l1' : w.heap.size < w20.heap.size := by have := G20.out.size; simp at this; omega
            have l2' : w.heap.size + 1 < w20.heap.size := by have := G20.out.size; simp at this; omega
            clear GS JZ h1 h2 h3 E1 E2 E3 E4 E5 hne o12 PG JG JE ez rg ro lg lo' eta etu ewa ewo hbt hct hbu hcu hbw hcw hbv hcv hi hj n12 ER
            go_wp2_with (first
              | (go_at_call 22; refine (GSB.out J _ _ _ _ _ (HJ.out.below (below_on ((Below.refl _ _).alloc (Nat.le_refl _) _) h5)) HM.out (S6.out.rdg LW0.out LK0.out (by omega) (RK.out _ S6.out.below))).mono ?_; rintro r w6 ⟨rfl, h6⟩)
              | (go_at_call 10; refine (ER0.out _ k4).mono ?_; rintro r w5 ⟨rfl, h5⟩; have y5 := kept_grove h5; have y0 := y5.1; have y1 := y5.2.1; have y2 := y5.2.2.1; have y3 := y5.2.2.2; have k5 := below_on k4 h5; have S6 := hide ((S5.out.up ((Below.refl _ w4).alloc (Nat.le_refl _) _)).up h5); have z0 := S6.out.c0; have z1 := S6.out.c1; have z2 := S6.out.c2; have z3 := S6.out.c3; clear y5)
              | (go_at_call 21; refine (PJ.out _ (KW.out _ S4.out.below)).mono ?_; rintro r w4 ⟨J, rfl, hJm, hJr, h4'⟩; have HM := hide hJm; have HJ := hide hJr; have S5 := hide (S4.out.up h4'); have k4' := below_on (KW.out _ S4.out.below) h4'; have k4 := k4'.alloc k4'.size (.cells #[.int .i64 J.f, .int .i64 J.w, .slice J.wa J.ws.length J.wc, .slice J.ta J.ks.length J.tc] 38); clear hJm hJr)
              | (at_builtin; have hone := S3; refine wpList_append_lies _ rfl (.tmp 236) (.tmp 238) 36 rfl (w21.heap.size + 1) 22 j0 (.slice none 0 0) 1 24 Tryd.underlying36 J0.out jz0 jz1 jz2 rfl (by decide) (.slice (some ⟨ga3, 0, none⟩) G.ks.length cp3) G.ks.length _ rfl S3.out.oy ⟨bu, ou, none⟩ O.ks.length O.tc (O.ks.map tV) rfl (by simp) (ST2.out _ S3.out.below) (tr_one O.ks) (by omega) (by unfold maxLen; omega) (by omega) S3.out.sz _ rfl ?_; intro ga4 cp4 wa4 ho4 hg4 hor4 hl4; obtain ⟨d4, e4, n4, bg4, T4⟩ := S3.out.moreY (ys := O.ks) hg4 (by rw [List.map_append]; exact ho4) hor4 hl4; have S4 := hide T4; have qb4 := KP.out _ (bg4); have ab40 := qb4.2.1.1; have ab41 := qb4.2.1.2.1; have ab42 := qb4.2.1.2.2.1; have ab43 := qb4.2.1.2.2.2; have ob40 := qb4.2.2.1; have ob41 := qb4.2.2.2.1; have ob42 := qb4.2.2.2.2.1; have ob43 := qb4.2.2.2.2.2; clear qb4; have qc4 := KP.out _ (S4.out.below); have ac40 := qc4.2.1.1; have ac41 := qc4.2.1.2.1; have ac42 := qc4.2.1.2.2.1; have ac43 := qc4.2.1.2.2.2; have oc40 := qc4.2.2.1; have oc41 := qc4.2.2.2.1; have oc42 := qc4.2.2.2.2.1; have oc43 := qc4.2.2.2.2.2; clear qc4; have m24 := S4.out.c2; have m34 := S4.out.c3; clear T4 ho4 hg4 hor4 hl4 hone)
              | (at_builtin; have hone := S2; refine wpList_append_lies _ rfl (.tmp 230) (.tmp 232) 36 rfl (w21.heap.size + 1) 22 j0 (.slice none 0 0) 1 24 Tryd.underlying36 J0.out jz0 jz1 jz2 rfl (by decide) (.slice none 0 0) 0 _ rfl S2.out.oy ⟨bt, ot, none⟩ G.ks.length G.tc (G.ks.map tV) rfl (by simp) (ST1.out _ S2.out.below) (tr_one G.ks) (by omega) (by unfold maxLen; omega) (by omega) S2.out.sz _ rfl ?_; intro ga3 cp3 wa3 ho3 hg3 hor3 hl3; rw [Nat.zero_add] at ho3; obtain ⟨d3, e3, n3, bg3, T3⟩ := S2.out.moreY (ys := G.ks) hg3 (by rw [List.map_append]; exact ho3) hor3 hl3; have S3 := hide T3; have qb3 := KP.out _ (bg3); have ab30 := qb3.2.1.1; have ab31 := qb3.2.1.2.1; have ab32 := qb3.2.1.2.2.1; have ab33 := qb3.2.1.2.2.2; have ob30 := qb3.2.2.1; have ob31 := qb3.2.2.2.1; have ob32 := qb3.2.2.2.2.1; have ob33 := qb3.2.2.2.2.2; clear qb3; have qc3 := KP.out _ (S3.out.below); have ac30 := qc3.2.1.1; have ac31 := qc3.2.1.2.1; have ac32 := qc3.2.1.2.2.1; have ac33 := qc3.2.1.2.2.2; have oc30 := qc3.2.2.1; have oc31 := qc3.2.2.2.1; have oc32 := qc3.2.2.2.2.1; have oc33 := qc3.2.2.2.2.2; clear qc3; have m23 := S3.out.c2; have m33 := S3.out.c3; clear T3 ho3 hg3 hor3 hl3 hone)
              | (at_builtin; have hone := S1; refine wpList_append_lies _ rfl (.tmp 224) (.tmp 226) 23 rfl (w21.heap.size + 1) 3 i0 (.int .i64 0) 1 8 Tryd.underlying23 I0.out hz0 hz1 hz2 rfl (by decide) (.slice (some ⟨ga1, 0, none⟩) G.ws.length cp1) G.ws.length _ rfl S1.out.ox ⟨bv, ov, none⟩ O.ws.length O.wc (O.ws.map (Value.int .i64)) rfl (by simp) (SW2.out _ S1.out.below) (one_cells O.ws) (by omega) (by unfold maxLen; omega) (by omega) S1.out.sz _ rfl ?_; intro ga2 cp2 wa2 ho2 hg2 hor2 hl2; obtain ⟨d2, e2, n2, bg2, T2⟩ := S1.out.moreX (ys := O.ws) hg2 (by rw [List.map_append]; exact ho2) hor2 hl2; have S2 := hide T2; have qb2 := KP.out _ (bg2); have ab20 := qb2.2.1.1; have ab21 := qb2.2.1.2.1; have ab22 := qb2.2.1.2.2.1; have ab23 := qb2.2.1.2.2.2; have ob20 := qb2.2.2.1; have ob21 := qb2.2.2.2.1; have ob22 := qb2.2.2.2.2.1; have ob23 := qb2.2.2.2.2.2; clear qb2; have qc2 := KP.out _ (S2.out.below); have ac20 := qc2.2.1.1; have ac21 := qc2.2.1.2.1; have ac22 := qc2.2.1.2.2.1; have ac23 := qc2.2.1.2.2.2; have oc20 := qc2.2.2.1; have oc21 := qc2.2.2.2.1; have oc22 := qc2.2.2.2.2.1; have oc23 := qc2.2.2.2.2.2; clear qc2; have m22 := S2.out.c2; have m32 := S2.out.c3; clear T2 ho2 hg2 hor2 hl2 hone)
              | (at_builtin; have hone := S0; refine wpList_append_lies _ rfl (.tmp 218) (.tmp 220) 23 rfl (w21.heap.size + 1) 3 i0 (.int .i64 0) 1 8 Tryd.underlying23 I0.out hz0 hz1 hz2 rfl (by decide) (.slice none 0 0) 0 _ rfl S0.out.ox ⟨bw, ow, none⟩ G.ws.length G.wc (G.ws.map (Value.int .i64)) rfl (by simp) (SW1.out _ S0.out.below) (one_cells G.ws) (by omega) (by unfold maxLen; omega) (by omega) S0.out.sz _ rfl ?_; intro ga1 cp1 wa1 ho1 hg1 hor1 hl1; rw [Nat.zero_add] at ho1; obtain ⟨d1, e1, n1, bg1, T1⟩ := S0.out.moreX (ys := G.ws) hg1 (by rw [List.map_append]; exact ho1) hor1 hl1; have S1 := hide T1; have qb1 := KP.out _ (bg1); have ab10 := qb1.2.1.1; have ab11 := qb1.2.1.2.1; have ab12 := qb1.2.1.2.2.1; have ab13 := qb1.2.1.2.2.2; have ob10 := qb1.2.2.1; have ob11 := qb1.2.2.2.1; have ob12 := qb1.2.2.2.2.1; have ob13 := qb1.2.2.2.2.2; clear qb1; have qc1 := KP.out _ (S1.out.below); have ac10 := qc1.2.1.1; have ac11 := qc1.2.1.2.1; have ac12 := qc1.2.1.2.2.1; have ac13 := qc1.2.1.2.2.2; have oc10 := qc1.2.2.1; have oc11 := qc1.2.2.2.1; have oc12 := qc1.2.2.2.2.1; have oc13 := qc1.2.2.2.2.2; clear qc1; have m21 := S1.out.c2; have m31 := S1.out.c3; clear T1 ho1 hg1 hor1 hl1 hone)
              | (go_at_call 9; refine (RO.out _ k20).mono ?_; rintro r w21 ⟨rfl, h21⟩; have g21 := below_on G20.out h21; have qz := KP.out _ (g21); have az0 := qz.2.1.1; have az1 := qz.2.1.2.1; have az2 := qz.2.1.2.2.1; have az3 := qz.2.1.2.2.2; have oz0 := qz.2.2.1; have oz1 := qz.2.2.2.1; have oz2 := qz.2.2.2.2.1; have oz3 := qz.2.2.2.2.2; clear qz; have l1 : w.heap.size < w21.heap.size := (by have := g21.size; simp at this; omega); have l2 : w.heap.size + 1 < w21.heap.size := (by have := g21.size; simp at this; omega); have S0 := hide (bo_start G.f G.w g21)))
            go_ret
            exact ⟨rfl, below_on k5 h6⟩

end Go.Proofs.YtandimbpealclacDoor
