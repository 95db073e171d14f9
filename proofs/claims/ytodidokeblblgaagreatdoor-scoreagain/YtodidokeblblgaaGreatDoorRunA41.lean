/-
  Several texts as one: AgaW, AgaAll.
-/
import Derived.Test.YtodidokeblblgaaGreatDoorRunA39
import Derived.Test.YtodidokeblblgaaGreatDoorRunA34
import Derived.Test.YtodidokeblblgaaGreatDoorRunA40
import Derived.BigQuiet
import Derived.Test.YtodidokeblblgaaGreatDoorRunA2
import Derived.Deep.Cut
import Derived.Deep.CutRange
import Derived.Test.YtodidokeblblgaaGreatDoorRunA18
namespace Go.Proofs.YtodidokeblblgaaGreatDoor
open Go.ChangeShapes Go.WideShapes Go.ChangeAt Go.RowKit Go.Lib Go.Maps
set_option linter.unusedVariables false
set_option maxHeartbeats 32000000 in
set_option maxRecDepth 10000 in
theorem again_walkS (a : Option Addr) (l : List CaC) (ca : Nat) (b : Option Addr) (xs : List Int) (cb : Nat) (d : Option Addr) (ks : List Int) (cd : Nat) (W : World) (h : RdC W a l) (hx : Rd W b xs) (hk : Rd W d ks) (hL : Lays W) :
    Calls Tryz.prog 5 #[.slice a l.length ca, .slice b xs.length cb, .slice d ks.length cd] W fun e w' => e = .returned (.bool true) ∧ Below W.heap.size W w' := by
  have ll : l.length ≤ 9223372036854775807 := h.1
  have lx : xs.length ≤ 9223372036854775807 := hx.1
  have lk : ks.length ≤ 9223372036854775807 := hk.1
  have HC := hide h
  have HX := hide hx
  have HK := hide hk
  have ER : Hid (∀ c n V, Below W.heap.size W V → Calls Tryz.prog 10 #[errV c, .int .i64 n] V fun e w' => e = .returned (.bool (c == n)) ∧ Below V.heap.size V w') := fun c n V hV => error_any c n V (hL.below hV)
  have NW := hide (sc_New (Below.refl W.heap.size W))
  clear h hx hk hL
  go_enter Tryz.func5, Tryz.ntmps5
  go_upto_region 2 with (go_at_call 31; refine NW.out.mono ?_; rintro e w1 ⟨s, B0, rfl, z1, b1, lo⟩; have Z1 := hide z1; clear z1 b1 lo)
  clear NW
  go_wp2
  go_loopw [8] (fun i wr => ∃ (k : Nat) (S : M.Sh) (B : Nat → Prop), k ≤ l.length ∧ k ≤ 30 ∧ i = .int .i64 k ∧ Hid (SZ W wr s S k B)) (fun i _ => 30 - (intOf i).toNat)
  case atStart => exact ⟨0, M.sh0, B0, Nat.zero_le _, by omega, rfl, Z1⟩
  case round =>
    clear Z1
    obtain ⟨k, S, B, hk, hk30, rfl, ZZ⟩ := hrel
    by_cases hlt : k < l.length ∧ k < 30
    case pos =>
      obtain ⟨hl1, hl2⟩ := hlt
      have g1 : decide ((k : Int) < (l.length : Int)) = true := decide_eq_true (by omega)
      have g2 : decide ((k : Int) < 30) = true := decide_eq_true (by omega)
      have g1' : decide (k < l.length) = true := decide_eq_true hl1
      have g2' : decide (k < 30) = true := decide_eq_true hl2
      have kz : (k : Int) < (l.length : Int) := by omega
      have i1 : IntKind.i64.wrap ((k : Int) + 1) = (k : Int) + 1 := i64_in (by omega) (by omega)
      have mem : l.getD k ca0 ∈ l := by rw [List.getD, List.getElem?_eq_getElem hl1]; exact List.getElem_mem hl1
      have ci := HC.out.2.1 _ mem
      obtain ⟨bb, off, rfl, hbl, sv, _⟩ := rdc_at (HC.out.below ZZ.out.bl) hl1
      obtain ⟨c0, c1, c2, c3, c4, c5, c6⟩ := sv
      have HE := hide (sc_Hear ZZ.out ci (by omega))
      clear mem ci hbl HC HX HK
      unfold caV at HE
      generalize l.getD k ca0 = ck at *
      go_wp2_with (go_at_call 32; refine HE.out.mono ?_; rintro e w5 ⟨rfl, B5, z5, k5⟩; have Z5 := hide z5; clear z5 k5)
      go_roundw
      case rel => exact ⟨k + 1, _, B5, by omega, by omega, by go_num, Z5⟩
      case measure => simp [intOf]; omega
    case neg =>
      have ways : (decide ((k : Int) < (l.length : Int)) = false ∧ decide (k < l.length) = false) ∨ (decide ((k : Int) < (l.length : Int)) = true ∧ decide (k < l.length) = true ∧ decide ((k : Int) < 30) = false ∧ decide (k < 30) = false) := by
        simp only [decide_eq_true_iff, decide_eq_false_iff_not]; omega
      clear hlt
      go_upto_region 3 with fail
      go_cut [25] from 18 to 25 (fun v wx => v = .bool false ∧ wx = wr)
      case first =>
        rcases ways with ⟨t1, t1'⟩ | ⟨t1, t1', t2, t2'⟩
        all_goals (
          go_wp2
          go_meet
          case rel => exact ⟨rfl, rfl⟩)
      case rest =>
      obtain ⟨rfl, ewr⟩ := hcut
      subst ewr
      obtain ⟨wr, hwr⟩ : ∃ X, X = wc := ⟨_, rfl⟩
      subst hwr
      clear ways
      have HN := hide (sc_Hear_no ZZ.out (.int .i64 0) (.int .i64 0) (.int .i64 0) (.string ⟨#[]⟩) (.int .i64 0) (.int .i64 0) (.slice none 0 0) 0 (by omega) (by unfold M.hrF; rw [if_pos (by omega)]; decide))
      have hf : M.hrF k 0 = 1 := by unfold M.hrF; rw [if_pos (by omega)]
      rw [hf] at HN
      have E1 : Hid (∀ V, Below W.heap.size W V → Calls Tryz.prog 10 #[errV 1, .int .i64 1] V fun e w' => e = .returned (.bool true) ∧ Below V.heap.size V w') := fun V hV => ER.out 1 1 V hV
      rw [err_some (show (1 : Int) ≠ 0 by decide)] at HN E1
      clear hf ER
      go_upto_region 10 with (first
        | (go_at_call 10; refine (E1.out w5 Z5.out.bl).mono ?_; rintro e w6 ⟨rfl, b6⟩; have Z6 := hide (Z5.out.up b6); clear b6)
        | (go_at_call 32; refine HN.out.mono ?_; rintro e w5 ⟨rfl, z5, b5⟩; have Z5 := hide z5; clear z5 b5))
      clear HN E1 ZZ Z5
      go_wp2
      go_loopw [10, 11, 12, 13, 14, 15, 16] (fun i _ _ _ _ _ _ wr => ∃ (m : Nat) (B : Nat → Prop), m ≤ ks.length ∧ m ≤ 6 ∧ i = .int .i64 m ∧ Hid (SZ W wr s S k B)) (fun i _ _ _ _ _ _ _ => 6 - (intOf i).toNat)
      case atStart => exact ⟨0, B, Nat.zero_le _, by omega, rfl, Z6⟩
      case round =>
        clear Z6
        obtain ⟨m, B, hm, hm6, rfl, Z7⟩ := hrel
        by_cases mlt : m < ks.length ∧ m < 6
        case neg =>
          have ways : (decide ((m : Int) < (ks.length : Int)) = false ∧ decide (m < ks.length) = false) ∨ (decide ((m : Int) < (ks.length : Int)) = true ∧ decide (m < ks.length) = true ∧ decide ((m : Int) < 6) = false ∧ decide (m < 6) = false) := by
            simp only [decide_eq_true_iff, decide_eq_false_iff_not]; omega
          have KB := hide Z7.out.bl
          clear mlt HC HX HK Z7
          rcases ways with ⟨t1, t1'⟩ | ⟨t1, t1', t2, t2'⟩
          all_goals (
            go_wp2
            go_ret
            exact ⟨rfl, KB.out⟩)
        case pos =>
          obtain ⟨ml1, ml2⟩ := mlt
          have m1 : decide ((m : Int) < (ks.length : Int)) = true := decide_eq_true (by omega)
          have m2 : decide ((m : Int) < 6) = true := decide_eq_true (by omega)
          have m1' : decide (m < ks.length) = true := decide_eq_true ml1
          have m2' : decide (m < 6) = true := decide_eq_true ml2
          have mz : (m : Int) < (ks.length : Int) := by omega
          obtain ⟨kb, ko, rfl, kbl, kcl⟩ := HK.out.2 (by intro e; rw [e] at ml1; simp at ml1)
          have KEY : Hid (∀ V, Below W.heap.size W V → ∀ q, q < ks.length → V.cell? ⟨kb, ko + q, none⟩ = some (.int .i64 (ks.getD q 0))) := fun V hV q hq => (hV.cell (p := ⟨kb, ko + q, none⟩) kbl).trans (kcl q hq)
          have KBL := hide kbl
          have SCG : Hid (∀ V B (nm : List Nat) (kv : Int), SZ W V s S k B → isB nm → nm.length ≤ 9223372036854775807 → Calls Tryz.prog 33 #[.pointer (some ⟨s, 0, none⟩), .string (byStr nm), .slice b xs.length cb, .int .i64 kv, .int .i64 0] V fun e w' => e = .returned (.tuple #[scoV (M.scV S k nm xs kv 0), errV (M.scF S k nm xs kv 0)]) ∧ ∃ B', SZ W w' s S k B' ∧ KeptS V B B' w') := fun V B nm kv hz hb hl => sc_Score hz hb hl b xs cb (HX.out.below hz.bl) kv 0 (by omega)
          clear kcl kbl HX HK
          obtain ⟨wo, hwo⟩ : ∃ X, X = wr := ⟨_, rfl⟩
          subst hwo
          go_wp2
          go_loopw [11, 12, 13, 14, 15, 16] (fun j _ _ _ _ _ wr => ∃ (j' : Nat) (B : Nat → Prop), j' ≤ l.length ∧ j' ≤ 8 ∧ j = .int .i64 j' ∧ Hid (SZ W wr s S k B)) (fun j _ _ _ _ _ _ => 8 - (intOf j).toNat)
          case atStart => exact ⟨0, B, Nat.zero_le _, by omega, rfl, Z7⟩
          case round =>
            clear Z7
            obtain ⟨j, B, hj, hj8, rfl, Z8⟩ := hrel
            by_cases jlt : j < l.length ∧ j < 8
            case neg =>
              have ways : (decide ((j : Int) < (l.length : Int)) = false ∧ decide (j < l.length) = false) ∨ (decide ((j : Int) < (l.length : Int)) = true ∧ decide (j < l.length) = true ∧ decide ((j : Int) < 8) = false ∧ decide (j < 8) = false) := by
                simp only [decide_eq_true_iff, decide_eq_false_iff_not]; omega
              clear jlt HC SCG KEY
              rcases ways with ⟨t1, t1'⟩ | ⟨t1, t1', t2, t2'⟩
              all_goals (
                go_wp2
                go_roundw
                case rel => exact ⟨m + 1, B, by omega, by omega, by go_num, Z8⟩
                case measure => simp [intOf]; omega)
            case pos =>
              obtain ⟨jl1, jl2⟩ := jlt
              have j1 : decide ((j : Int) < (l.length : Int)) = true := decide_eq_true (by omega)
              have j2 : decide ((j : Int) < 8) = true := decide_eq_true (by omega)
              have j1' : decide (j < l.length) = true := decide_eq_true jl1
              have j2' : decide (j < 8) = true := decide_eq_true jl2
              have jz : (j : Int) < (l.length : Int) := by omega
              obtain ⟨bb, off, rfl, hbl, _⟩ := HC.out.2.2 (by intro e; rw [e] at jl1; simp at jl1)
              have NAM : Hid (∀ V, Below W.heap.size W V → ∀ q, q < l.length → V.cell? ⟨bb, off + q * 7 + 3, none⟩ = some (.string (byStr (l.getD q ca0).1.name))) := fun V hV q hq => by
                obtain ⟨b2, o2, e2, _, sv, _⟩ := rdc_at (HC.out.below hV) hq
                cases e2
                exact sv.2.2.2.1
              have NIN : Hid (∀ q, q < l.length → isB (l.getD q ca0).1.name ∧ (l.getD q ca0).1.name.length ≤ 9223372036854775807) := fun q hq => by
                have ci := HC.out.2.1 (l.getD q ca0) (by rw [List.getD, List.getElem?_eq_getElem hq]; exact List.getElem_mem hq)
                exact ⟨ci.nb, ci.nl⟩
              have BBL := hide hbl
              have SCO : Hid (∀ V B, SZ W V s S k B → Calls Tryz.prog 33 #[.pointer (some ⟨s, 0, none⟩), .string (byStr (l.getD j ca0).1.name), .slice b xs.length cb, .int .i64 (ks.getD m 0), .int .i64 0] V fun e w' => e = .returned (.tuple #[scoV (M.scV S k (l.getD j ca0).1.name xs (ks.getD m 0) 0), errV (M.scF S k (l.getD j ca0).1.name xs (ks.getD m 0) 0)]) ∧ ∃ B', SZ W w' s S k B' ∧ KeptS V B B' w') := fun V B hz => SCG.out V B _ _ hz (NIN.out j jl1).1 (NIN.out j jl1).2
              have NJ : Hid (∀ V, Below W.heap.size W V → V.cell? ⟨bb, off + j * 7 + 3, none⟩ = some (.string (byStr (l.getD j ca0).1.name)) ∧ V.cell? ⟨kb, ko + m, none⟩ = some (.int .i64 (ks.getD m 0))) := fun V hV => ⟨NAM.out V hV j jl1, KEY.out V hV m ml1⟩
              clear hbl
              generalize M.scV S k (l.getD j ca0).1.name xs (ks.getD m 0) 0 = sv at *
              generalize M.scF S k (l.getD j ca0).1.name xs (ks.getD m 0) 0 = sf at *
              generalize byStr (l.getD j ca0).1.name = nm at *
              generalize ks.getD m 0 = kv at *
              unfold scoV at SCO
              go_upto_region 16 with fail
              go_cut [12, 13] from 63 to 77 (fun p e wx => ∃ (xa : Nat) (B' : Nat → Prop), p = .pointer (some ⟨xa, 0, none⟩) ∧ e = errV sf ∧ Hid (SZ W wx s S k B') ∧ Hid (¬ B' xa ∧ Bx wx xa [.int .i64 sv.1, .int .i64 sv.2.1, .int .i64 sv.2.2]))
              case first =>
                have zb := Z8.out.bl
                have SZA : Hid (SZ W (wr.alloc (.cells #[.int .i64 0, .int .i64 0, .int .i64 0] 77)).drew s S k B) := (Z8.out.up ((Below.refl _ wr).alloc (Nat.le_refl _) _)).up (Below.refl _ _).drew
                have SZB : Hid (SZ W wr.drew s S k B) := Z8.out.up (Below.refl _ _).drew
                obtain ⟨a0, a1⟩ := NJ.out _ zb
                obtain ⟨y0, y1⟩ := NJ.out _ SZA.out.bl
                obtain ⟨u0, u1⟩ := NJ.out _ SZB.out.bl
                have q0 : ∀ o, (wr.alloc o).cell? ⟨bb, off + j * 7 + 3, none⟩ = some (.string nm) := fun o => (NJ.out _ (zb.alloc zb.size o)).1
                have q1 : ∀ o, (wr.alloc o).cell? ⟨kb, ko + m, none⟩ = some (.int .i64 kv) := fun o => (NJ.out _ (zb.alloc zb.size o)).2
                have PN : Hid (∀ V, Below W.heap.size W V → ¬ V.heap.size = bb ∧ ¬ V.heap.size = kb) := fun V hV => by have := hV.size; have := BBL.out; have := KBL.out; exact ⟨by omega, by omega⟩
                obtain ⟨pn0, pn1⟩ := PN.out _ zb
                clear HC SCG NAM NIN KEY
                go_region_held3 (fun V => V.cell? ⟨bb, off + j * 7 + 3, none⟩ = some (.string nm) ∧ V.cell? ⟨kb, ko + m, none⟩ = some (.int .i64 kv)) (go_keep) (first
                  | (go_at_call 33; refine (SCO.out _ _ SZA.out).mono ?_; rintro e w5 ⟨rfl, B5, z5, k5⟩; obtain ⟨bx5, fin⟩ := box_a Z8.out z5 k5 (.int .i64 sv.1) (.int .i64 sv.2.1) (.int .i64 sv.2.2); have FIN := hide fin.out; have z0 := bx5.cell 0 _ rfl; have z1 := bx5.cell 1 _ rfl; have z2 := bx5.cell 2 _ rfl; have zf0 := bx5.free 0; have zf1 := bx5.free 1; have zf2 := bx5.free 2; obtain ⟨d0, d1⟩ := NJ.out w5 z5.bl; obtain ⟨pn3, pn4⟩ := PN.out w5 z5.bl; clear z5 k5 fin bx5)
                  | (go_at_call 33; refine (SCO.out _ _ SZB.out).mono ?_; rintro e w5 ⟨rfl, B5, z5, k5⟩; have fin := box_b (t := 77) z5 k5 (.int .i64 sv.1) (.int .i64 sv.2.1) (.int .i64 sv.2.2); have FIN := hide fin.out; obtain ⟨d0, d1⟩ := NJ.out w5 z5.bl; obtain ⟨pn3, pn4⟩ := PN.out w5 z5.bl; clear z5 k5 fin))
                all_goals go_wp2
                all_goals go_meet
                all_goals (case rel => exact ⟨_, B5, rfl, rfl, FIN.out.1, FIN.out.2.1⟩)
              case rest =>
                obtain ⟨xa, B1, rfl, rfl, Z9, X9⟩ := hcut
                obtain ⟨w9, hw9⟩ : ∃ X, X = wc := ⟨_, rfl⟩
                subst hw9
                clear Z8
                obtain ⟨wp, hwp⟩ : ∃ X, X = w9 := ⟨_, rfl⟩
                subst hwp
                go_wp2
                go_loopw [14] (fun q wr => ∃ (q' : Nat) (B : Nat → Prop), q' ≤ l.length ∧ q' ≤ 8 ∧ q = .int .i64 q' ∧ Hid (SZ W wr s S k B) ∧ Hid (¬ B xa ∧ Bx wr xa [.int .i64 sv.1, .int .i64 sv.2.1, .int .i64 sv.2.2])) (fun q _ => 8 - (intOf q).toNat)
                case atStart => exact ⟨0, B1, Nat.zero_le _, by omega, rfl, Z9, X9⟩
                case round =>
                  clear Z9 X9
                  obtain ⟨q, B, hq, hq8, rfl, Z10, X10⟩ := hrel
                  by_cases qlt : q < l.length ∧ q < 8
                  case pos =>
                    obtain ⟨ql1, ql2⟩ := qlt
                    have q1 : decide ((q : Int) < (l.length : Int)) = true := decide_eq_true (by omega)
                    have q2 : decide ((q : Int) < 8) = true := decide_eq_true (by omega)
                    have q1' : decide (q < l.length) = true := decide_eq_true ql1
                    have q2' : decide (q < 8) = true := decide_eq_true ql2
                    have qz : (q : Int) < (l.length : Int) := by omega
                    have mq : (m + q) % ks.length < ks.length := Nat.mod_lt _ (by omega)
                    have SQ := hide (fun V B hz => SCG.out V B _ (ks.getD ((m + q) % ks.length) 0) hz (NIN.out q ql1).1 (NIN.out q ql1).2)
                    have NQ : Hid (∀ V, Below W.heap.size W V → V.cell? ⟨bb, off + q * 7 + 3, none⟩ = some (.string (byStr (l.getD q ca0).1.name)) ∧ V.cell? ⟨kb, ko + (m + q) % ks.length, none⟩ = some (.int .i64 (ks.getD ((m + q) % ks.length) 0))) := fun V hV => ⟨NAM.out V hV q ql1, KEY.out V hV _ mq⟩
                    have w1 : IntKind.i64.wrap ((m : Int) + (q : Int)) = (m : Int) + (q : Int) := i64_in (by omega) (by omega)
                    have tm : ((m : Int) + (q : Int)).tmod (ks.length : Int) = (((m + q) % ks.length : Nat) : Int) := by
                      rw [← Int.natCast_add, ← Int.ofNat_tmod]
                    have tm2 : ((m : Int) + (q : Int)) % (ks.length : Int) = (((m + q) % ks.length : Nat) : Int) := by
                      rw [← Int.natCast_add]; exact (Int.natCast_emod _ _).symm
                    have kne : ¬ (ks.length : Int) = 0 := by omega
                    have kne3 : ¬ ks = [] := by intro e; rw [e] at kne; exact kne rfl
                    have kne4 : ¬ ks.length = 0 := by omega
                    have kne2 : ((ks.length : Int) == 0) = false := by rw [beq_eq_false_iff_ne]; exact kne
                    have mqz : (((m + q) % ks.length : Nat) : Int) < (ks.length : Int) := by omega
                    obtain ⟨a0, a1⟩ := NQ.out _ Z10.out.bl
                    have SZB : Hid (SZ W wr.drew s S k B) := Z10.out.up (Below.refl _ _).drew
                    have QD : Hid (∀ w5 B5, KeptS wr.drew B B5 w5 → ¬ B5 xa ∧ Bx w5 xa [.int .i64 sv.1, .int .i64 sv.2.1, .int .i64 sv.2.2]) := fun w5 B5 k5 => by
                      obtain ⟨c1, c2⟩ := k5.2 xa X10.out.2.lt X10.out.1
                      exact ⟨c1, X10.out.2.keep c2⟩
                    clear HC SCG NAM NIN KEY SCO NJ
                    generalize (m + q) % ks.length = mod at *
                    generalize M.scV S k (l.getD q ca0).1.name xs (ks.getD mod 0) 0 = sv2 at *
                    generalize M.scF S k (l.getD q ca0).1.name xs (ks.getD mod 0) 0 = sf2 at *
                    generalize byStr (l.getD q ca0).1.name = nm2 at *
                    generalize ks.getD mod 0 = kv2 at *
                    go_upto_region 20 with fail
                    go_region_with (go_at_call 33; refine (SQ.out _ _ SZB.out).mono ?_; rintro e w5 ⟨rfl, B5, z5, k5⟩; have Z5 := hide z5; have X5 := hide (QD.out w5 B5 k5); clear z5 k5)
                    all_goals (
                      go_wp2
                      go_roundw
                      case rel => exact ⟨q + 1, B5, by omega, by omega, by go_num, Z5, X5⟩
                      case measure => simp [intOf]; omega)
                  case neg =>
                    have ways : (decide ((q : Int) < (l.length : Int)) = false ∧ decide (q < l.length) = false) ∨ (decide ((q : Int) < (l.length : Int)) = true ∧ decide (q < l.length) = true ∧ decide ((q : Int) < 8) = false ∧ decide (q < 8) = false) := by
                      simp only [decide_eq_true_iff, decide_eq_false_iff_not]; omega
                    clear qlt
                    go_upto_region 18 with fail
                    go_cut [85] from 78 to 85 (fun v wx => v = .bool false ∧ wx = wr)
                    case first =>
                      rcases ways with ⟨t1, t1'⟩ | ⟨t1, t1', t2, t2'⟩
                      all_goals (
                        go_wp2
                        go_meet
                        case rel => exact ⟨rfl, rfl⟩)
                    case rest =>
                    obtain ⟨rfl, ewr⟩ := hcut
                    subst ewr
                    obtain ⟨wr, hwr⟩ : ∃ X, X = wc := ⟨_, rfl⟩
                    subst hwr
                    clear ways
                    go_upto_region 21 with fail
                    go_cut [15, 16] from 105 to 119 (fun p e wx => ∃ (xb : Nat) (B' : Nat → Prop), p = .pointer (some ⟨xb, 0, none⟩) ∧ e = errV sf ∧ Hid (SZ W wx s S k B') ∧ Hid (¬ B' xb ∧ Bx wx xb [.int .i64 sv.1, .int .i64 sv.2.1, .int .i64 sv.2.2]) ∧ Hid (Bx wx xa [.int .i64 sv.1, .int .i64 sv.2.1, .int .i64 sv.2.2]))
                    case first =>
                      have zb := Z10.out.bl
                      have SZA : Hid (SZ W (wr.alloc (.cells #[.int .i64 0, .int .i64 0, .int .i64 0] 77)).drew s S k B) := (Z10.out.up ((Below.refl _ wr).alloc (Nat.le_refl _) _)).up (Below.refl _ _).drew
                      have SZB : Hid (SZ W wr.drew s S k B) := Z10.out.up (Below.refl _ _).drew
                      obtain ⟨a0, a1⟩ := NJ.out _ zb
                      obtain ⟨y0, y1⟩ := NJ.out _ SZA.out.bl
                      obtain ⟨u0, u1⟩ := NJ.out _ SZB.out.bl
                      have q0 : ∀ o, (wr.alloc o).cell? ⟨bb, off + j * 7 + 3, none⟩ = some (.string nm) := fun o => (NJ.out _ (zb.alloc zb.size o)).1
                      have q1 : ∀ o, (wr.alloc o).cell? ⟨kb, ko + m, none⟩ = some (.int .i64 kv) := fun o => (NJ.out _ (zb.alloc zb.size o)).2
                      have PN : Hid (∀ V, Below W.heap.size W V → ¬ V.heap.size = bb ∧ ¬ V.heap.size = kb) := fun V hV => by have := hV.size; have := BBL.out; have := KBL.out; exact ⟨by omega, by omega⟩
                      obtain ⟨pn0, pn1⟩ := PN.out _ zb
                      have X9n : ∀ {B5 : Nat → Prop} {w6 : World}, KeptS wr B B5 w6 → Hid (Bx w6 xa [.int .i64 sv.1, .int .i64 sv.2.1, .int .i64 sv.2.2]) := fun k5 => X10.out.2.keep (k5.2 xa X10.out.2.lt X10.out.1).2
                      clear HC SCG NAM NIN KEY
                      go_region_held3 (fun V => V.cell? ⟨bb, off + j * 7 + 3, none⟩ = some (.string nm) ∧ V.cell? ⟨kb, ko + m, none⟩ = some (.int .i64 kv)) (go_keep) (first
                        | (go_at_call 33; refine (SCO.out _ _ SZA.out).mono ?_; rintro e w5 ⟨rfl, B5, z5, k5⟩; obtain ⟨bx5, fin⟩ := box_a Z10.out z5 k5 (.int .i64 sv.1) (.int .i64 sv.2.1) (.int .i64 sv.2.2); have FIN := hide fin.out; have z0 := bx5.cell 0 _ rfl; have z1 := bx5.cell 1 _ rfl; have z2 := bx5.cell 2 _ rfl; have zf0 := bx5.free 0; have zf1 := bx5.free 1; have zf2 := bx5.free 2; obtain ⟨d0, d1⟩ := NJ.out w5 z5.bl; obtain ⟨pn3, pn4⟩ := PN.out w5 z5.bl; clear z5 k5 fin bx5)
                        | (go_at_call 33; refine (SCO.out _ _ SZB.out).mono ?_; rintro e w5 ⟨rfl, B5, z5, k5⟩; have fin := box_b (t := 77) z5 k5 (.int .i64 sv.1) (.int .i64 sv.2.1) (.int .i64 sv.2.2); have FIN := hide fin.out; obtain ⟨d0, d1⟩ := NJ.out w5 z5.bl; obtain ⟨pn3, pn4⟩ := PN.out w5 z5.bl; clear z5 k5 fin))
                      all_goals go_wp2
                      all_goals go_meet
                      all_goals (case rel => exact ⟨_, B5, rfl, rfl, FIN.out.1, FIN.out.2.1, X9n FIN.out.2.2⟩)
                    case rest =>
                      obtain ⟨xb, B2, rfl, rfl, Z11, X11, Y11⟩ := hcut
                      obtain ⟨wz, hwz⟩ : ∃ X, X = wc := ⟨_, rfl⟩
                      subst hwz
                      have CAd := hide (sc_Cached (Z11.out.up (Below.refl _ wz).drew))
                      have ZD : Hid (SZ W wz.drew s S k B2) := Z11.out.up (Below.refl _ wz).drew
                      clear Z10 X10 HC SCG NAM NIN KEY SCO NJ
                      go_upto_region 22 with fail
                      by_cases hs : sf = 0
                      · rw [err_nil hs]
                        clear hs
                        have kd : Bx wz.drew xa [.int .i64 sv.1, .int .i64 sv.2.1, .int .i64 sv.2.2] ∧ Bx wz.drew xb [.int .i64 sv.1, .int .i64 sv.2.1, .int .i64 sv.2.2] := ⟨Y11.out.keep rfl, X11.out.2.keep rfl⟩
                        refine wp_region_held_drew (S := fun V => Bx V xa [.int .i64 sv.1, .int .i64 sv.2.1, .int .i64 sv.2.2] ∧ Bx V xb [.int .i64 sv.1, .int .i64 sv.2.1, .int .i64 sv.2.2]) (by kernel_rfl) kd (fun hHeld => ?_)
                        refine take_lg (i := 0) (d := some 120) (v := ?v501) rfl rfl (by kernel_rfl) (by kernel_rfl) (by kernel_rfl) (fun _ _ _ h => h) (Or.inl ⟨by rfl, ?h501⟩) (by assumption) ?r501
                        case h501 => (intro V hSw; have p0 := hSw.1.cell 0 _ rfl; have p1 := hSw.1.cell 1 _ rfl; have p2 := hSw.1.cell 2 _ rfl; have r0 := hSw.2.cell 0 _ rfl; have r1 := hSw.2.cell 1 _ rfl; have r2 := hSw.2.cell 2 _ rfl; clear hSw; go_simp; (try with_reducible rfl))
                        simp only [Act.put, List.setIfInBounds_toArray, List.set_cons_zero, List.set_cons_succ]
                        refine take_lg (i := 1) (d := some 121) (v := ?v502) rfl rfl (by kernel_rfl) (by kernel_rfl) (by kernel_rfl) (fun _ _ _ h => h) (Or.inl ⟨by rfl, ?h502⟩) (by assumption) ?r502
                        case h502 => (intro V hSw; have p0 := hSw.1.cell 0 _ rfl; have p1 := hSw.1.cell 1 _ rfl; have p2 := hSw.1.cell 2 _ rfl; have r0 := hSw.2.cell 0 _ rfl; have r1 := hSw.2.cell 1 _ rfl; have r2 := hSw.2.cell 2 _ rfl; clear hSw; go_simp; (try with_reducible rfl))
                        simp only [Act.put, List.setIfInBounds_toArray, List.set_cons_zero, List.set_cons_succ]
                        refine take_lg (i := 2) (d := some 122) (v := ?v503) rfl rfl (by kernel_rfl) (by kernel_rfl) (by kernel_rfl) (fun _ _ _ h => h) (Or.inl ⟨by rfl, ?h503⟩) (by assumption) ?r503
                        case h503 => (intro V hSw; have p0 := hSw.1.cell 0 _ rfl; have p1 := hSw.1.cell 1 _ rfl; have p2 := hSw.1.cell 2 _ rfl; have r0 := hSw.2.cell 0 _ rfl; have r1 := hSw.2.cell 1 _ rfl; have r2 := hSw.2.cell 2 _ rfl; clear hSw; go_simp; (try with_reducible rfl))
                        simp only [Act.put, List.setIfInBounds_toArray, List.set_cons_zero, List.set_cons_succ]
                        refine take_lg (i := 3) (d := some 123) (v := ?v504) rfl rfl (by kernel_rfl) (by kernel_rfl) (by kernel_rfl) (fun _ _ _ h => h) (Or.inl ⟨by rfl, ?h504⟩) (by assumption) ?r504
                        case h504 => (intro V hSw; have p0 := hSw.1.cell 0 _ rfl; have p1 := hSw.1.cell 1 _ rfl; have p2 := hSw.1.cell 2 _ rfl; have r0 := hSw.2.cell 0 _ rfl; have r1 := hSw.2.cell 1 _ rfl; have r2 := hSw.2.cell 2 _ rfl; clear hSw; go_simp; (try with_reducible rfl))
                        simp only [Act.put, List.setIfInBounds_toArray, List.set_cons_zero, List.set_cons_succ]
                        refine take_lg (i := 4) (d := some 124) (v := ?v505) rfl rfl (by kernel_rfl) (by kernel_rfl) (by kernel_rfl) (fun _ _ _ h => h) (Or.inl ⟨by rfl, ?h505⟩) (by assumption) ?r505
                        case h505 => (intro V hSw; have p0 := hSw.1.cell 0 _ rfl; have p1 := hSw.1.cell 1 _ rfl; have p2 := hSw.1.cell 2 _ rfl; have r0 := hSw.2.cell 0 _ rfl; have r1 := hSw.2.cell 1 _ rfl; have r2 := hSw.2.cell 2 _ rfl; clear hSw; go_simp; (try with_reducible rfl))
                        simp only [Act.put, List.setIfInBounds_toArray, List.set_cons_zero, List.set_cons_succ]
                        refine take_lg (i := 5) (d := some 125) (v := ?v506) rfl rfl (by kernel_rfl) (by kernel_rfl) (by kernel_rfl) (fun _ _ _ h => h) (Or.inl ⟨by rfl, ?h506⟩) (by assumption) ?r506
                        case h506 => (intro V hSw; have p0 := hSw.1.cell 0 _ rfl; have p1 := hSw.1.cell 1 _ rfl; have p2 := hSw.1.cell 2 _ rfl; have r0 := hSw.2.cell 0 _ rfl; have r1 := hSw.2.cell 1 _ rfl; have r2 := hSw.2.cell 2 _ rfl; clear hSw; go_simp; (try with_reducible rfl))
                        simp only [Act.put, List.setIfInBounds_toArray, List.set_cons_zero, List.set_cons_succ]
                        refine take_lg (i := 6) (d := some 126) (v := ?v507) rfl rfl (by kernel_rfl) (by kernel_rfl) (by kernel_rfl) (fun _ _ _ h => h) (Or.inl ⟨by rfl, ?h507⟩) (by assumption) ?r507
                        case h507 => (intro V hSw; have p0 := hSw.1.cell 0 _ rfl; have p1 := hSw.1.cell 1 _ rfl; have p2 := hSw.1.cell 2 _ rfl; have r0 := hSw.2.cell 0 _ rfl; have r1 := hSw.2.cell 1 _ rfl; have r2 := hSw.2.cell 2 _ rfl; clear hSw; go_simp; (try with_reducible rfl))
                        simp only [Act.put, List.setIfInBounds_toArray, List.set_cons_zero, List.set_cons_succ]
                        refine take_lg (i := 7) (d := some 127) (v := ?v508) rfl rfl (by kernel_rfl) (by kernel_rfl) (by kernel_rfl) (fun _ _ _ h => h) (Or.inl ⟨by rfl, ?h508⟩) (by assumption) ?r508
                        case h508 => (intro V hSw; have p0 := hSw.1.cell 0 _ rfl; have p1 := hSw.1.cell 1 _ rfl; have p2 := hSw.1.cell 2 _ rfl; have r0 := hSw.2.cell 0 _ rfl; have r1 := hSw.2.cell 1 _ rfl; have r2 := hSw.2.cell 2 _ rfl; clear hSw; go_simp; (try with_reducible rfl))
                        simp only [Act.put, List.setIfInBounds_toArray, List.set_cons_zero, List.set_cons_succ]
                        refine take_lg (i := 8) (d := some 128) (v := ?v509) rfl rfl (by kernel_rfl) (by kernel_rfl) (by kernel_rfl) (fun _ _ _ h => h) (Or.inl ⟨by rfl, ?h509⟩) (by assumption) ?r509
                        case h509 => (intro V hSw; have p0 := hSw.1.cell 0 _ rfl; have p1 := hSw.1.cell 1 _ rfl; have p2 := hSw.1.cell 2 _ rfl; have r0 := hSw.2.cell 0 _ rfl; have r1 := hSw.2.cell 1 _ rfl; have r2 := hSw.2.cell 2 _ rfl; clear hSw; go_simp; (try with_reducible rfl))
                        simp only [Act.put, List.setIfInBounds_toArray, List.set_cons_zero, List.set_cons_succ]
                        refine take_lg (i := 9) (d := some 129) (v := ?v510) rfl rfl (by kernel_rfl) (by kernel_rfl) (by kernel_rfl) (fun _ _ _ h => h) (Or.inl ⟨by rfl, ?h510⟩) (by assumption) ?r510
                        case h510 => (intro V hSw; have p0 := hSw.1.cell 0 _ rfl; have p1 := hSw.1.cell 1 _ rfl; have p2 := hSw.1.cell 2 _ rfl; have r0 := hSw.2.cell 0 _ rfl; have r1 := hSw.2.cell 1 _ rfl; have r2 := hSw.2.cell 2 _ rfl; clear hSw; go_simp; (try with_reducible rfl))
                        simp only [Act.put, List.setIfInBounds_toArray, List.set_cons_zero, List.set_cons_succ]
                        refine take_lg (i := 10) (d := some 130) (v := ?v511) rfl rfl (by kernel_rfl) (by kernel_rfl) (by kernel_rfl) (fun _ _ _ h => h) (Or.inl ⟨by rfl, ?h511⟩) (by assumption) ?r511
                        case h511 => (intro V hSw; have p0 := hSw.1.cell 0 _ rfl; have p1 := hSw.1.cell 1 _ rfl; have p2 := hSw.1.cell 2 _ rfl; have r0 := hSw.2.cell 0 _ rfl; have r1 := hSw.2.cell 1 _ rfl; have r2 := hSw.2.cell 2 _ rfl; clear hSw; go_simp; (try with_reducible rfl))
                        simp only [Act.put, List.setIfInBounds_toArray, List.set_cons_zero, List.set_cons_succ]
                        refine take_lg (i := 11) (d := some 131) (v := ?v512) rfl rfl (by kernel_rfl) (by kernel_rfl) (by kernel_rfl) (fun _ _ _ h => h) (Or.inl ⟨by rfl, ?h512⟩) (by assumption) ?r512
                        case h512 => (intro V hSw; have p0 := hSw.1.cell 0 _ rfl; have p1 := hSw.1.cell 1 _ rfl; have p2 := hSw.1.cell 2 _ rfl; have r0 := hSw.2.cell 0 _ rfl; have r1 := hSw.2.cell 1 _ rfl; have r2 := hSw.2.cell 2 _ rfl; clear hSw; go_simp; (try with_reducible rfl))
                        simp only [Act.put, List.setIfInBounds_toArray, List.set_cons_zero, List.set_cons_succ]
                        refine wpAnyH_ready (rs := [12]) (by kernel_rfl) (by simp) ?_
                        refine AllReadyH.cons rfl (fun K hK => ?_) AllReadyH.nil
                        go_simp
                        go_at_call 34
                        refine CAd.out.mono ?_
                        rintro e w5 ⟨nc, rfl, n4, ew⟩
                        have ew2 := ew
                        subst ew2
                        have t4 : decide ((4 : Int) < (nc : Int)) = false := decide_eq_false (by omega)
                        have t4' : decide (4 < nc) = false := decide_eq_false (by omega)
                        try go_wp2_with fail
                        refine hK.out _ _ kd (fun hHeld2 => ?_)
                        clear hK K hHeld2
                        try simp only [Act.put, List.setIfInBounds_toArray, List.set_cons_zero, List.set_cons_succ]
                        refine take_lg (i := 13) (d := some 133) (v := ?v513) rfl rfl (by kernel_rfl) (by kernel_rfl) (by kernel_rfl) (fun _ _ _ h => h) (Or.inl ⟨by rfl, ?h513⟩) (by assumption) ?r513
                        case h513 => (intro V hSw; have p0 := hSw.1.cell 0 _ rfl; have p1 := hSw.1.cell 1 _ rfl; have p2 := hSw.1.cell 2 _ rfl; have r0 := hSw.2.cell 0 _ rfl; have r1 := hSw.2.cell 1 _ rfl; have r2 := hSw.2.cell 2 _ rfl; clear hSw; go_simp; (try with_reducible rfl))
                        simp only [Act.put, List.setIfInBounds_toArray, List.set_cons_zero, List.set_cons_succ]
                        refine take_lg (i := 14) (d := some 134) (v := ?v514) rfl rfl (by kernel_rfl) (by kernel_rfl) (by kernel_rfl) (fun _ _ _ h => h) (Or.inl ⟨by rfl, ?h514⟩) (by assumption) ?r514
                        case h514 => (intro V hSw; have p0 := hSw.1.cell 0 _ rfl; have p1 := hSw.1.cell 1 _ rfl; have p2 := hSw.1.cell 2 _ rfl; have r0 := hSw.2.cell 0 _ rfl; have r1 := hSw.2.cell 1 _ rfl; have r2 := hSw.2.cell 2 _ rfl; clear hSw; go_simp; (try with_reducible rfl))
                        simp only [Act.put, List.setIfInBounds_toArray, List.set_cons_zero, List.set_cons_succ]
                        refine wpAnyH_done (by kernel_rfl) ?_ _
                        clear kd CAd
                        go_wp2
                        go_roundw
                        case rel => exact ⟨j + 1, B2, by omega, by omega, by go_num, ZD⟩
                        case measure => simp [intOf]; omega
                      · rw [err_some hs]
                        clear hs
                        have kd : Bx wz.drew xa [.int .i64 sv.1, .int .i64 sv.2.1, .int .i64 sv.2.2] ∧ Bx wz.drew xb [.int .i64 sv.1, .int .i64 sv.2.1, .int .i64 sv.2.2] := ⟨Y11.out.keep rfl, X11.out.2.keep rfl⟩
                        refine wp_region_held_drew (S := fun V => Bx V xa [.int .i64 sv.1, .int .i64 sv.2.1, .int .i64 sv.2.2] ∧ Bx V xb [.int .i64 sv.1, .int .i64 sv.2.1, .int .i64 sv.2.2]) (by kernel_rfl) kd (fun hHeld => ?_)
                        refine take_lg (i := 0) (d := some 120) (v := ?v515) rfl rfl (by kernel_rfl) (by kernel_rfl) (by kernel_rfl) (fun _ _ _ h => h) (Or.inl ⟨by rfl, ?h515⟩) (by assumption) ?r515
                        case h515 => (intro V hSw; have p0 := hSw.1.cell 0 _ rfl; have p1 := hSw.1.cell 1 _ rfl; have p2 := hSw.1.cell 2 _ rfl; have r0 := hSw.2.cell 0 _ rfl; have r1 := hSw.2.cell 1 _ rfl; have r2 := hSw.2.cell 2 _ rfl; clear hSw; go_simp; (try with_reducible rfl))
                        simp only [Act.put, List.setIfInBounds_toArray, List.set_cons_zero, List.set_cons_succ]
                        refine take_lg (i := 1) (d := some 121) (v := ?v516) rfl rfl (by kernel_rfl) (by kernel_rfl) (by kernel_rfl) (fun _ _ _ h => h) (Or.inl ⟨by rfl, ?h516⟩) (by assumption) ?r516
                        case h516 => (intro V hSw; have p0 := hSw.1.cell 0 _ rfl; have p1 := hSw.1.cell 1 _ rfl; have p2 := hSw.1.cell 2 _ rfl; have r0 := hSw.2.cell 0 _ rfl; have r1 := hSw.2.cell 1 _ rfl; have r2 := hSw.2.cell 2 _ rfl; clear hSw; go_simp; (try with_reducible rfl))
                        simp only [Act.put, List.setIfInBounds_toArray, List.set_cons_zero, List.set_cons_succ]
                        refine take_lg (i := 2) (d := some 122) (v := ?v517) rfl rfl (by kernel_rfl) (by kernel_rfl) (by kernel_rfl) (fun _ _ _ h => h) (Or.inl ⟨by rfl, ?h517⟩) (by assumption) ?r517
                        case h517 => (intro V hSw; have p0 := hSw.1.cell 0 _ rfl; have p1 := hSw.1.cell 1 _ rfl; have p2 := hSw.1.cell 2 _ rfl; have r0 := hSw.2.cell 0 _ rfl; have r1 := hSw.2.cell 1 _ rfl; have r2 := hSw.2.cell 2 _ rfl; clear hSw; go_simp; (try with_reducible rfl))
                        simp only [Act.put, List.setIfInBounds_toArray, List.set_cons_zero, List.set_cons_succ]
                        refine take_lg (i := 3) (d := some 123) (v := ?v518) rfl rfl (by kernel_rfl) (by kernel_rfl) (by kernel_rfl) (fun _ _ _ h => h) (Or.inl ⟨by rfl, ?h518⟩) (by assumption) ?r518
                        case h518 => (intro V hSw; have p0 := hSw.1.cell 0 _ rfl; have p1 := hSw.1.cell 1 _ rfl; have p2 := hSw.1.cell 2 _ rfl; have r0 := hSw.2.cell 0 _ rfl; have r1 := hSw.2.cell 1 _ rfl; have r2 := hSw.2.cell 2 _ rfl; clear hSw; go_simp; (try with_reducible rfl))
                        simp only [Act.put, List.setIfInBounds_toArray, List.set_cons_zero, List.set_cons_succ]
                        refine take_lg (i := 4) (d := some 124) (v := ?v519) rfl rfl (by kernel_rfl) (by kernel_rfl) (by kernel_rfl) (fun _ _ _ h => h) (Or.inl ⟨by rfl, ?h519⟩) (by assumption) ?r519
                        case h519 => (intro V hSw; have p0 := hSw.1.cell 0 _ rfl; have p1 := hSw.1.cell 1 _ rfl; have p2 := hSw.1.cell 2 _ rfl; have r0 := hSw.2.cell 0 _ rfl; have r1 := hSw.2.cell 1 _ rfl; have r2 := hSw.2.cell 2 _ rfl; clear hSw; go_simp; (try with_reducible rfl))
                        simp only [Act.put, List.setIfInBounds_toArray, List.set_cons_zero, List.set_cons_succ]
                        refine take_lg (i := 5) (d := some 125) (v := ?v520) rfl rfl (by kernel_rfl) (by kernel_rfl) (by kernel_rfl) (fun _ _ _ h => h) (Or.inl ⟨by rfl, ?h520⟩) (by assumption) ?r520
                        case h520 => (intro V hSw; have p0 := hSw.1.cell 0 _ rfl; have p1 := hSw.1.cell 1 _ rfl; have p2 := hSw.1.cell 2 _ rfl; have r0 := hSw.2.cell 0 _ rfl; have r1 := hSw.2.cell 1 _ rfl; have r2 := hSw.2.cell 2 _ rfl; clear hSw; go_simp; (try with_reducible rfl))
                        simp only [Act.put, List.setIfInBounds_toArray, List.set_cons_zero, List.set_cons_succ]
                        refine take_lg (i := 6) (d := some 126) (v := ?v521) rfl rfl (by kernel_rfl) (by kernel_rfl) (by kernel_rfl) (fun _ _ _ h => h) (Or.inl ⟨by rfl, ?h521⟩) (by assumption) ?r521
                        case h521 => (intro V hSw; have p0 := hSw.1.cell 0 _ rfl; have p1 := hSw.1.cell 1 _ rfl; have p2 := hSw.1.cell 2 _ rfl; have r0 := hSw.2.cell 0 _ rfl; have r1 := hSw.2.cell 1 _ rfl; have r2 := hSw.2.cell 2 _ rfl; clear hSw; go_simp; (try with_reducible rfl))
                        simp only [Act.put, List.setIfInBounds_toArray, List.set_cons_zero, List.set_cons_succ]
                        refine take_lg (i := 7) (d := some 127) (v := ?v522) rfl rfl (by kernel_rfl) (by kernel_rfl) (by kernel_rfl) (fun _ _ _ h => h) (Or.inl ⟨by rfl, ?h522⟩) (by assumption) ?r522
                        case h522 => (intro V hSw; have p0 := hSw.1.cell 0 _ rfl; have p1 := hSw.1.cell 1 _ rfl; have p2 := hSw.1.cell 2 _ rfl; have r0 := hSw.2.cell 0 _ rfl; have r1 := hSw.2.cell 1 _ rfl; have r2 := hSw.2.cell 2 _ rfl; clear hSw; go_simp; (try with_reducible rfl))
                        simp only [Act.put, List.setIfInBounds_toArray, List.set_cons_zero, List.set_cons_succ]
                        refine take_lg (i := 8) (d := some 128) (v := ?v523) rfl rfl (by kernel_rfl) (by kernel_rfl) (by kernel_rfl) (fun _ _ _ h => h) (Or.inl ⟨by rfl, ?h523⟩) (by assumption) ?r523
                        case h523 => (intro V hSw; have p0 := hSw.1.cell 0 _ rfl; have p1 := hSw.1.cell 1 _ rfl; have p2 := hSw.1.cell 2 _ rfl; have r0 := hSw.2.cell 0 _ rfl; have r1 := hSw.2.cell 1 _ rfl; have r2 := hSw.2.cell 2 _ rfl; clear hSw; go_simp; (try with_reducible rfl))
                        simp only [Act.put, List.setIfInBounds_toArray, List.set_cons_zero, List.set_cons_succ]
                        refine take_lg (i := 9) (d := some 129) (v := ?v524) rfl rfl (by kernel_rfl) (by kernel_rfl) (by kernel_rfl) (fun _ _ _ h => h) (Or.inl ⟨by rfl, ?h524⟩) (by assumption) ?r524
                        case h524 => (intro V hSw; have p0 := hSw.1.cell 0 _ rfl; have p1 := hSw.1.cell 1 _ rfl; have p2 := hSw.1.cell 2 _ rfl; have r0 := hSw.2.cell 0 _ rfl; have r1 := hSw.2.cell 1 _ rfl; have r2 := hSw.2.cell 2 _ rfl; clear hSw; go_simp; (try with_reducible rfl))
                        simp only [Act.put, List.setIfInBounds_toArray, List.set_cons_zero, List.set_cons_succ]
                        refine take_lg (i := 10) (d := some 130) (v := ?v525) rfl rfl (by kernel_rfl) (by kernel_rfl) (by kernel_rfl) (fun _ _ _ h => h) (Or.inl ⟨by rfl, ?h525⟩) (by assumption) ?r525
                        case h525 => (intro V hSw; have p0 := hSw.1.cell 0 _ rfl; have p1 := hSw.1.cell 1 _ rfl; have p2 := hSw.1.cell 2 _ rfl; have r0 := hSw.2.cell 0 _ rfl; have r1 := hSw.2.cell 1 _ rfl; have r2 := hSw.2.cell 2 _ rfl; clear hSw; go_simp; (try with_reducible rfl))
                        simp only [Act.put, List.setIfInBounds_toArray, List.set_cons_zero, List.set_cons_succ]
                        refine take_lg (i := 11) (d := some 131) (v := ?v526) rfl rfl (by kernel_rfl) (by kernel_rfl) (by kernel_rfl) (fun _ _ _ h => h) (Or.inl ⟨by rfl, ?h526⟩) (by assumption) ?r526
                        case h526 => (intro V hSw; have p0 := hSw.1.cell 0 _ rfl; have p1 := hSw.1.cell 1 _ rfl; have p2 := hSw.1.cell 2 _ rfl; have r0 := hSw.2.cell 0 _ rfl; have r1 := hSw.2.cell 1 _ rfl; have r2 := hSw.2.cell 2 _ rfl; clear hSw; go_simp; (try with_reducible rfl))
                        simp only [Act.put, List.setIfInBounds_toArray, List.set_cons_zero, List.set_cons_succ]
                        refine wpAnyH_ready (rs := [12]) (by kernel_rfl) (by simp) ?_
                        refine AllReadyH.cons rfl (fun K hK => ?_) AllReadyH.nil
                        go_simp
                        go_at_call 34
                        refine CAd.out.mono ?_
                        rintro e w5 ⟨nc, rfl, n4, ew⟩
                        have ew2 := ew
                        subst ew2
                        have t4 : decide ((4 : Int) < (nc : Int)) = false := decide_eq_false (by omega)
                        have t4' : decide (4 < nc) = false := decide_eq_false (by omega)
                        try go_wp2_with fail
                        refine hK.out _ _ kd (fun hHeld2 => ?_)
                        clear hK K hHeld2
                        try simp only [Act.put, List.setIfInBounds_toArray, List.set_cons_zero, List.set_cons_succ]
                        refine take_lg (i := 13) (d := some 133) (v := ?v527) rfl rfl (by kernel_rfl) (by kernel_rfl) (by kernel_rfl) (fun _ _ _ h => h) (Or.inl ⟨by rfl, ?h527⟩) (by assumption) ?r527
                        case h527 => (intro V hSw; have p0 := hSw.1.cell 0 _ rfl; have p1 := hSw.1.cell 1 _ rfl; have p2 := hSw.1.cell 2 _ rfl; have r0 := hSw.2.cell 0 _ rfl; have r1 := hSw.2.cell 1 _ rfl; have r2 := hSw.2.cell 2 _ rfl; clear hSw; go_simp; (try with_reducible rfl))
                        simp only [Act.put, List.setIfInBounds_toArray, List.set_cons_zero, List.set_cons_succ]
                        refine take_lg (i := 14) (d := some 134) (v := ?v528) rfl rfl (by kernel_rfl) (by kernel_rfl) (by kernel_rfl) (fun _ _ _ h => h) (Or.inl ⟨by rfl, ?h528⟩) (by assumption) ?r528
                        case h528 => (intro V hSw; have p0 := hSw.1.cell 0 _ rfl; have p1 := hSw.1.cell 1 _ rfl; have p2 := hSw.1.cell 2 _ rfl; have r0 := hSw.2.cell 0 _ rfl; have r1 := hSw.2.cell 1 _ rfl; have r2 := hSw.2.cell 2 _ rfl; clear hSw; go_simp; (try with_reducible rfl))
                        simp only [Act.put, List.setIfInBounds_toArray, List.set_cons_zero, List.set_cons_succ]
                        refine wpAnyH_done (by kernel_rfl) ?_ _
                        clear kd CAd
                        go_wp2
                        go_roundw
                        case rel => exact ⟨j + 1, B2, by omega, by omega, by go_num, ZD⟩
                        case measure => simp [intOf]; omega
end Go.Proofs.YtodidokeblblgaaGreatDoor

namespace Go.Proofs.YtodidokeblblgaaGreatDoor
open Go.ChangeShapes Go.WideShapes Go.ChangeAt Go.RowKit Go.Lib
set_option linter.unusedVariables false
theorem scoreagain_all (a b d : Option Addr) (l : List CaC) (xs ks : List Int) (ca cb cd : Nat) (w : World) (h : RdC w a l) (hx : Rd w b xs) (hk : Rd w d ks) (hL : Lays w) :
    Calls Tryz.prog 5 #[.slice a l.length ca, .slice b xs.length cb, .slice d ks.length cd] w fun e w' => e = .returned (.bool true) ∧ Below w.heap.size w w' := again_walkS a l ca b xs cb d ks cd w h hx hk hL
end Go.Proofs.YtodidokeblblgaaGreatDoor
