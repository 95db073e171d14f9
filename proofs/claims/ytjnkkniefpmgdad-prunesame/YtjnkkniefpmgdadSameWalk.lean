/-
  PruneSame, walked.
-/
import Derived.Test.YtjnkkniefpmgdadPTree
import Derived.Test.YtjnkkniefpmgdadMathPS
import Derived.Test.YtjnkkniefpmgdadNdSame
import Derived.Test.YtjnkkniefpmgdadTEval
import Derived.Test.YtjnkkniefpmgdadTLeaves
import Derived.Test.YtjnkkniefpmgdadRowCheck
import Derived.Deep.CutBlock
namespace Go.Proofs.Ytjnkkniefpmgdad
open Go.ChangeShapes Go.WideShapes Go.ChangeAt Go.RowKit Go.Lib
set_option linter.unusedVariables false

abbrev twoTObj : Obj := .cells #[.int .i64 0, .int .i64 5, .int .i64 1, .int .i64 2, .bool false, .int .i64 0, .int .i64 (-1), .int .i64 0, .int .i64 0, .int .i64 0, .bool false, .int .i64 7, .int .i64 (-1), .int .i64 0, .int .i64 0, .int .i64 0, .bool false, .int .i64 7] 27
theorem twoT_rdn (w : World) : RdN (w.alloc twoTObj) (some ⟨w.heap.size, 0, none⟩) M.twoT := by
  refine ⟨by show 3 ≤ maxLen; unfold maxLen; decide, fun _ => ⟨w.heap.size, 0, rfl, by simp, fun i hi => ?_⟩⟩
  have c : ∀ j, (w.alloc twoTObj).cell? ⟨w.heap.size, j, none⟩ = _ := fun j => World.cell?_alloc_at _ _ _ j rfl
  have hi' : i < 3 := hi
  rcases i with _ | _ | _ | i
  · exact ⟨c _, c _, c _, c _, c _, c _⟩
  · exact ⟨c _, c _, c _, c _, c _, c _⟩
  · exact ⟨c _, c _, c _, c _, c _, c _⟩
  · omega
theorem twoT_tree (w : World) : Calls Try.prog 10 #[.slice (some ⟨w.heap.size, 0, none⟩) 3 3, .int .i64 1] (w.alloc twoTObj) fun e w' =>
    ∃ b off cg, e = .returned (.tuple #[.slice (some ⟨b, off, none⟩) 1 cg, .nilIface]) ∧ w'.cell? ⟨b, off + 5, none⟩ = some (.int .i64 7) ∧ Below (w.alloc twoTObj).heap.size (w.alloc twoTObj) w' := by
  have h := tree_gives (some ⟨w.heap.size, 0, none⟩) M.twoT 3 1 (w.alloc twoTObj) (twoT_rdn w)
  rw [M.two_one, err_nil M.two_ok] at h
  refine h.mono ?_
  rintro e w' ⟨ag, cg, rfl, R, hb⟩
  obtain ⟨b, off, rfl, _, hc⟩ := R.2 (by simp)
  have q := hc 0 (by simp)
  have q5 : w'.cell? ⟨b, off + 0 * 6 + 5, none⟩ = some (.int .i64 7) := q.2.2.2.2.2
  exact ⟨b, off, cg, rfl, by simpa using q5, hb⟩

set_option maxHeartbeats 16000000 in
set_option maxRecDepth 10000 in
theorem same_walk (a b : Option Addr) (ts : List M.Nd) (xs : List Int) (ca cb : Nat) (w : World) (ht : RdN w a ts) (hr : Rd w b xs) :
    Calls Try.prog 4 #[.slice a ts.length ca, .slice b xs.length cb] w fun e w' => e = .returned (.bool true) ∧ Below w.heap.size w w' := by
  have hm : ts.length ≤ 9223372036854775807 := ht.1
  have hm2 : xs.length ≤ 9223372036854775807 := hr.1
  have B0 : Hid (Below w.heap.size w (w.alloc twoTObj)) := (Below.refl _ w).alloc (Nat.le_refl _) _
  have E1 := hide (twoT_tree w)
  have C1 := hide (fun W (hW : Below w.heap.size w W) => tree_gives a ts ca (xs.length : Int) W (ht.below hW))
  by_cases he : (M.treeF ts (xs.length : Int)).2 = 0
  · have PT := M.prun_tree he
    have ST := M.sort_tree he
    have CS : Hid (∀ W, Below w.heap.size w W → Calls Try.prog 11 #[.slice a ts.length ca, .int .i64 (xs.length : Int)] W fun e w' => ∃ sa sc, e = .returned (.tuple #[.slice sa ts.length sc, .nilIface]) ∧ RdN w' sa (M.sortV ts (xs.length : Int)) ∧ Below W.heap.size W w') := fun W hW => by
      have := sort_gives a ts ca (xs.length : Int) W (ht.below hW)
      rw [err_nil he, ST.2] at this
      exact this
    have C2 : Hid (∀ pa pc W, RdN W pa (M.prunV ts (xs.length : Int)) → Calls Try.prog 10 #[.slice pa (M.prunV ts (xs.length : Int)).length pc, .int .i64 (xs.length : Int)] W fun e w' => ∃ qa qc, e = .returned (.tuple #[.slice qa (M.prunV ts (xs.length : Int)).length qc, .nilIface]) ∧ RdN w' qa (M.prunV ts (xs.length : Int)) ∧ Below W.heap.size W w') := fun pa pc W h => by
      have := tree_gives pa (M.prunV ts (xs.length : Int)) pc (xs.length : Int) W h
      rw [M.prun_again he, err_nil PT.1] at this
      exact this
    have CR : Hid (∀ pa pc W, RdN W pa (M.prunV ts (xs.length : Int)) → Calls Try.prog 13 #[.slice pa (M.prunV ts (xs.length : Int)).length pc, .int .i64 (xs.length : Int)] W fun e w' => ∃ qa qc, e = .returned (.tuple #[.slice qa (M.leavesV (M.prunV ts (xs.length : Int))).length qc, .nilIface]) ∧ Rd w' qa (M.leavesV (M.prunV ts (xs.length : Int))) ∧ Below W.heap.size W w') := fun pa pc W h => by
      have := reach_any pa (M.prunV ts (xs.length : Int)) pc (xs.length : Int) W h
      rw [M.prun_leaves he, err_nil PT.1] at this
      exact this
    have CL : Hid (∀ pa pc W, RdN W pa (M.prunV ts (xs.length : Int)) → Calls Try.prog 14 #[.slice pa (M.prunV ts (xs.length : Int)).length pc] W fun e w' => ∃ qa qc, e = .returned (.tuple #[.slice qa (M.leavesV (M.prunV ts (xs.length : Int))).length qc, .nilIface]) ∧ Rd w' qa (M.leavesV (M.prunV ts (xs.length : Int))) ∧ Below W.heap.size W w') := fun pa pc W h => by
      have := leaves_any pa (M.prunV ts (xs.length : Int)) pc W h
      rw [err_nil (M.prun_eight he)] at this
      exact this
    have CI : Hid (∀ (x y : Option Addr) (L : List Int) cx cy W, Rd W x L → Rd W y L → Calls Try.prog 15 #[.slice x L.length cx, .slice y L.length cy] W fun e w' => e = .returned (.bool true) ∧ Below W.heap.size W w') := fun x y L cx cy W h1 h2 => by
      have := ints_any x y L L cx cy W h1 h2
      rw [decide_eq_true rfl] at this
      exact this
    have ND := hide (fun (x y : Option Addr) (us : List M.Nd) cx cy W (h1 : RdN W x us) (h2 : RdN W y us) => nodesame_any x y us cx cy W h1 h2)
    have AN : Hid (∀ n, n < (M.prunV ts (xs.length : Int)).length → M.nf (M.nAt (M.prunV ts (xs.length : Int)) n) ≠ -1 → _) := fun n hn hf => M.prun_node he hn hf
    have CE := hide (fun W (hW : Below w.heap.size w W) => eval_any a b ts xs ca cb W (ht.below hW) (hr.below hW))
    have CK := hide (fun W (hW : Below w.heap.size w W) => rcheck_any b xs cb W (hr.below hW))
    have EP : Hid (∀ pa pc W, Below w.heap.size w W → RdN W pa (M.prunV ts (xs.length : Int)) → M.readyF ts xs = 0 → Calls Try.prog 8 #[.slice pa (M.prunV ts (xs.length : Int)).length pc, .slice b xs.length cb] W fun e w' => e = .returned (.tuple #[.int .i64 (M.evalV ts xs), .nilIface]) ∧ Below W.heap.size W w') := fun pa pc W hW h hy => by
      have := eval_any pa b (M.prunV ts (xs.length : Int)) xs pc cb W h (hr.below hW)
      rw [(M.prun_eval hy).2, err_nil (M.prun_eval hy).1] at this
      exact this
    have EQ : Hid (∀ sa sc W, Below w.heap.size w W → RdN W sa (M.sortV ts (xs.length : Int)) → M.readyF ts xs = 0 → Calls Try.prog 8 #[.slice sa ts.length sc, .slice b xs.length cb] W fun e w' => e = .returned (.tuple #[.int .i64 (M.evalV ts xs), .nilIface]) ∧ Below W.heap.size W w') := fun sa sc W hW h hy => by
      have := eval_any sa b (M.sortV ts (xs.length : Int)) xs sc cb W h (hr.below hW)
      rw [(M.sort_eval hy).2, err_nil (M.sort_eval hy).1, ST.2] at this
      exact this
    have RY : Hid (M.rowF xs ≠ 0 → M.readyF ts xs = M.rowF xs) := fun h => M.ready_row h
    have RZ : Hid (M.rowF xs = 0 → M.readyF ts xs = 0) := fun h => by rw [M.ready_tree h]; exact he
    have pl : (M.prunV ts (xs.length : Int)).length ≤ ts.length := PT.2
    have pm : (M.prunV ts (xs.length : Int)).length ≤ 9223372036854775807 := Nat.le_trans pl hm
    have p0 : Hid (0 < (M.prunV ts (xs.length : Int)).length) := (M.tree_ok PT.1).1.2.1
    rw [err_nil he] at C1
    have pz : ¬ ((ts.length : Int) < ((M.prunV ts (xs.length : Int)).length : Int)) := by omega
    clear PT ST he ht hr
    generalize M.leavesV (M.prunV ts (xs.length : Int)) = LV at *
    generalize M.prunV ts (xs.length : Int) = PV at *
    generalize M.sortV ts (xs.length : Int) = SV at *
    go_enter Try.func4, Try.ntmps4
    go_upto_region 19 with (first
      | (go_at_call 15; refine (CI.out _ _ LV _ _ _ HL6.out HL7.out).mono ?_; rintro e w8 ⟨rfl, h8⟩; have k8 := below_on k7 h8; have HP8 := hide (HP7.out.below h8); have HS8 := hide (HS7.out.below h8); clear h8)
      | (go_at_call 14; refine (CL.out _ _ _ HP6.out).mono ?_; rintro e w7 ⟨la, lc, rfl, hl7, h7⟩; have k7 := below_on k6 h7; have HP7 := hide (HP6.out.below h7); have HS7 := hide (HS6.out.below h7); have HL7 := hide hl7; have HL6 := hide (HL6'.out.below h7); clear hl7 h7)
      | (go_at_call 13; refine (CR.out _ _ _ HP5.out).mono ?_; rintro e w6 ⟨ga, gc, rfl, hl6, h6⟩; have k6 := below_on k5 h6; have HP6 := hide (HP5.out.below h6); have HS6 := hide (HS5.out.below h6); have HL6' := hide hl6; clear hl6 h6)
      | (go_at_call 12; refine (ND.out _ _ PV _ _ _ HQ4.out HP4.out).mono ?_; rintro e w5 ⟨rfl, h5⟩; have k5 := below_on k4 h5; have HP5 := hide (HP4.out.below h5); have HS5 := hide (HS4.out.below h5); clear h5)
      | (go_at_call 10; refine (C2.out _ _ _ HP3.out).mono ?_; rintro e w4 ⟨qa, qc, rfl, hq4, h4⟩; have k4 := below_on k3 h4; have HP4 := hide (HP3.out.below h4); have HS4 := hide (HS3.out.below h4); have HQ4 := hide hq4; clear hq4 h4)
      | (go_at_call 11; refine (CS.out _ k2).mono ?_; rintro e w3 ⟨sa, sc, rfl, hs3, h3⟩; have k3 := below_on k2 h3; have HP3 := hide (HP2.out.below h3); have HS3 := hide hs3; clear hs3 h3)
      | (go_at_call 10; refine (C1.out _ k1).mono ?_; rintro e w2 ⟨pa, pc, rfl, hp2, h2⟩; have k2 := below_on k1 h2; have HP2 := hide hp2; clear hp2 h2)
      | (go_at_call 10; refine E1.out.mono ?_; rintro e w1 ⟨tb, tq, tc, rfl, t5, h1⟩; have k1 := below_on B0.out h1; clear h1))
    have K8 := hide k8
    clear k1 k2 k3 k4 k5 k6 k7 k8 HP2 HP3 HP4 HP5 HP6 HP7 HS3 HS4 HS5 HS6 HS7 HL6 HL6' HL7 HQ4 CI CL CR ND C2 CS C1 E1 B0 t5
    obtain ⟨pb, po, epa, hpb, hpc⟩ := HP8.out.2 (by intro e; have := p0.out; rw [e] at this; simp at this)
    subst epa
    have HPN : Hid (∀ W, Below w8.heap.size w8 W → ∀ n, n < PV.length → SixAt W pb (po + n * 6) (M.nAt PV n)) := fun W hW n hn => (hpc n hn).below hW hpb
    clear hpc p0
    go_wp2
    go_loopw [19, 20, 21] (fun i _ _ wr => ∃ k : Nat, k ≤ PV.length ∧ i = .int .i64 k ∧ Hid (Below w8.heap.size w8 wr)) (fun i _ _ _ => PV.length - (intOf i).toNat)
    case atStart => exact ⟨0, Nat.zero_le _, rfl, Below.refl _ _⟩
    case round =>
      obtain ⟨n, hn, rfl, HB⟩ := hrel
      by_cases hnl : n < PV.length
      · have nz : (n : Int) < (PV.length : Int) := by omega
        clear CE CK EP EQ RY RZ HP8 HS8
        by_cases hf : M.nf (M.nAt PV n) = -1
        · have q : (M.nf (M.nAt PV n) == -1) = true := by rw [beq_iff_eq]; exact hf
          obtain ⟨s0, s1, s2, s3, s4, s5⟩ := HPN.out _ HB.out n hnl
          clear hf HPN AN s1 s2 s3 s4 s5
          go_wp2
          go_roundw
          case rel => exact ⟨n + 1, by omega, by go_num, HB⟩
          case measure => simp [intOf] <;> omega
        · have q : (M.nf (M.nAt PV n) == -1) = false := by rw [beq_eq_false_iff_ne]; exact hf
          obtain ⟨ea, h2, b, eb, h4, hne⟩ := AN.out n hnl hf
          obtain ⟨p, hp⟩ : ∃ p, p = n + 1 := ⟨_, rfl⟩
          rw [← hp] at ea h2 hne
          have q1 : ((p : Int) != (n : Int) + 1) = false := by rw [bne_eq_false_iff_eq]; omega
          have az : (p : Int) < (PV.length : Int) := by omega
          have bz : (b : Int) < (PV.length : Int) := by omega
          have NS : Hid (∀ W, Below w8.heap.size w8 W → W.cell? ⟨pb, po + n * 6, none⟩ = some (.int .i64 (M.nf (M.nAt PV n))) ∧ W.cell? ⟨pb, po + n * 6 + 2, none⟩ = some (.int .i64 (p : Int)) ∧ W.cell? ⟨pb, po + n * 6 + 3, none⟩ = some (.int .i64 (b : Int))) := fun W hW => by
            obtain ⟨s0, s1, s2, s3, s4, s5⟩ := HPN.out W hW n hnl
            rw [ea] at s2
            rw [eb] at s3
            exact ⟨s0, s2, s3⟩
          obtain ⟨s0, s2, s3⟩ := NS.out _ HB.out
          have A1 : Hid (∀ o, Below w8.heap.size w8 (wr.alloc o)) := fun o => HB.out.alloc HB.out.size o
          have A2 : Hid (∀ o1 o2, Below w8.heap.size w8 ((wr.alloc o1).alloc o2)) := fun o1 o2 => (A1.out o1).alloc (A1.out o1).size o2
          have x3 : ∀ o, (wr.alloc o).cell? ⟨pb, po + n * 6 + 3, none⟩ = some (.int .i64 (b : Int)) := fun o => (NS.out _ (A1.out o)).2.2
          have z2 : ∀ o1 o2, ((wr.alloc o1).alloc o2).cell? ⟨pb, po + n * 6 + 2, none⟩ = some (.int .i64 (p : Int)) := fun o1 o2 => (NS.out _ (A2.out o1 o2)).2.1
          obtain ⟨a0, a1, a2, a3, a4, a5⟩ := HPN.out _ HB.out p h2
          have BS : Hid (∀ o, SixAt (wr.alloc o) pb (po + b * 6) (M.nAt PV b)) := fun o => HPN.out _ (A1.out o) b h4
          have b0 : ∀ o, (wr.alloc o).cell? ⟨pb, po + b * 6, none⟩ = some (.int .i64 (M.nf (M.nAt PV b))) := fun o => (BS.out o).1
          have b1 : ∀ o, (wr.alloc o).cell? ⟨pb, po + b * 6 + 1, none⟩ = some (.int .i64 (M.nc (M.nAt PV b))) := fun o => (BS.out o).2.1
          have b2 : ∀ o, (wr.alloc o).cell? ⟨pb, po + b * 6 + 2, none⟩ = some (.int .i64 (M.nl (M.nAt PV b))) := fun o => (BS.out o).2.2.1
          have b3 : ∀ o, (wr.alloc o).cell? ⟨pb, po + b * 6 + 3, none⟩ = some (.int .i64 (M.nr (M.nAt PV b))) := fun o => (BS.out o).2.2.2.1
          have b4 : ∀ o, (wr.alloc o).cell? ⟨pb, po + b * 6 + 4, none⟩ = some (.bool (M.ns (M.nAt PV b))) := fun o => (BS.out o).2.2.2.2.1
          have b5 : ∀ o, (wr.alloc o).cell? ⟨pb, po + b * 6 + 5, none⟩ = some (.int .i64 (M.nv (M.nAt PV b))) := fun o => (BS.out o).2.2.2.2.2
          have HNE := hide hne
          clear hne HPN AN NS BS A1 ea eb hf hp
          generalize M.nf (M.nAt PV n) = nf at *
          generalize M.nf (M.nAt PV p) = af at *
          generalize M.nc (M.nAt PV p) = ac at *
          generalize M.nl (M.nAt PV p) = al at *
          generalize M.nr (M.nAt PV p) = ar at *
          generalize M.ns (M.nAt PV p) = asl at *
          generalize M.nv (M.nAt PV p) = av at *
          generalize M.nf (M.nAt PV b) = bf at *
          generalize M.nc (M.nAt PV b) = bc at *
          generalize M.nl (M.nAt PV b) = bl at *
          generalize M.nr (M.nAt PV b) = br at *
          generalize M.ns (M.nAt PV b) = bs at *
          generalize M.nv (M.nAt PV b) = bv at *
          by_cases c1 : af = -1
          · have t1 : (af == -1) = true := by rw [beq_iff_eq]; exact c1
            by_cases c2 : bf = -1
            · have t2 : (bf == -1) = true := by rw [beq_iff_eq]; exact c2
              have t3 : (av == bv) = false := by rw [beq_eq_false_iff_ne]; exact fun c3 => HNE.out ⟨c1, c2, c3⟩
              clear c1 c2 HNE
              go_wp2
              go_roundw
              case rel => exact ⟨n + 1, by omega, by go_num, A2.out _ _⟩
              case measure => simp [intOf] <;> omega
            · have t2 : (bf == -1) = false := by rw [beq_eq_false_iff_ne]; exact c2
              clear c1 c2 HNE
              go_wp2
              go_roundw
              case rel => exact ⟨n + 1, by omega, by go_num, A2.out _ _⟩
              case measure => simp [intOf] <;> omega
          · have t1 : (af == -1) = false := by rw [beq_eq_false_iff_ne]; exact c1
            clear c1 HNE
            go_wp2
            go_roundw
            case rel => exact ⟨n + 1, by omega, by go_num, A2.out _ _⟩
            case measure => simp [intOf] <;> omega
      · have nz : ¬ ((n : Int) < (PV.length : Int)) := by omega
        have k9 := hide (below_on K8.out HB.out)
        have HP9 := hide (HP8.out.below HB.out)
        have HS9 := hide (HS8.out.below HB.out)
        clear HPN AN HP8 HS8
        by_cases hrow : M.rowF xs = 0
        · have hy := RZ.out hrow
          rw [err_nil hy] at CE
          have EP' := hide (fun pa pc W h1 h2 => EP.out pa pc W h1 h2 hy)
          have EQ' := hide (fun pa pc W h1 h2 => EQ.out pa pc W h1 h2 hy)
          clear EP EQ RY RZ CK hrow hy
          generalize M.evalV ts xs = EV at *
          generalize M.readyF ts xs = rf at *
          go_wp2_with (first
            | (go_at_call 8; have lean := k11; refine (EQ'.out _ _ _ k11.out HS11.out).mono ?_; rintro e w12 ⟨rfl, h12⟩; have k12 := hide (below_on k11.out h12); clear h12)
            | (go_at_call 8; have lean := k10; refine (EP'.out _ _ _ k10.out HP10.out).mono ?_; rintro e w11 ⟨rfl, h11⟩; have k11 := hide (below_on k10.out h11); have HS11 := hide (HS10.out.below h11); clear h11)
            | (go_at_call 8; refine (CE.out _ k9.out).mono ?_; rintro e w10 ⟨rfl, h10⟩; have k10 := hide (below_on k9.out h10); have HP10 := hide (HP9.out.below h10); have HS10 := hide (HS9.out.below h10); clear h10))
          go_ret
          exact ⟨rfl, k12.out⟩
        · have hy := RY.out hrow
          rw [hy, err_some hrow] at CE
          rw [err_some hrow] at CK
          clear EP EQ RY RZ hrow hy
          generalize M.evalV ts xs = EV at *
          generalize M.rowF xs = rf at *
          go_wp2_with (first
            | (go_at_call 16; refine (CK.out _ k10.out).mono ?_; rintro e w11 ⟨rfl, h11⟩; have k11 := hide (below_on k10.out h11); clear h11)
            | (go_at_call 8; refine (CE.out _ k9.out).mono ?_; rintro e w10 ⟨rfl, h10⟩; have k10 := hide (below_on k9.out h10); clear h10))
          go_ret
          exact ⟨rfl, k11.out⟩
  · have ES := err_some he
    rw [ES] at C1
    clear he ES ht hr
    generalize (M.treeF ts (xs.length : Int)).2 = te at *
    generalize M.prunV ts (xs.length : Int) = PV at *
    go_enter Try.func4, Try.ntmps4
    go_wp2_with (first
      | (go_at_call 10; refine (C1.out _ k1).mono ?_; rintro e w2 ⟨pa, pc, rfl, hp2, h2⟩; have k2 := below_on k1 h2; clear hp2 h2)
      | (go_at_call 10; refine E1.out.mono ?_; rintro e w1 ⟨tb, tq, tc, rfl, t5, h1⟩; have k1 := below_on B0.out h1; clear h1))
    go_ret
    exact ⟨rfl, k2⟩

end Go.Proofs.Ytjnkkniefpmgdad
