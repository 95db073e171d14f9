/-
  PruneOne's own walk, with what prune.Tree and tree.Check answer as premises.
-/
import Derived.Test.YtjnkkniefpmgdadPruneP
import Derived.Test.YtjnkkniefpmgdadPBelow
import Derived.Test.YtjnkkniefpmgdadMathM
import Derived.Test.YtjnkkniefpmgdadNdCells
import Derived.Test.YtjnkkniefpmgdadGrown
import Derived.Deep.Cut
import Derived.Deep.CutBlock
import Derived.Deep.AppendLies
import Derived.BigQuiet
import Derived.Deep.QuietTactic
namespace Go.Proofs.Ytjnkkniefpmgdad
open Go.ChangeShapes Go.WideShapes Go.ChangeAt Go.RowKit Go.Lib
set_option linter.unusedVariables false

/-- what tree.Check answers -/
def CheckGives : Prop := ∀ (a0 : Option Addr) (ts : List M.Nd) (cap : Nat) (m : Int) (W : World), RdN W a0 ts → Calls Try.prog 17 #[.slice a0 ts.length cap, .int .i64 m] W fun e w' => e = .returned (.tuple #[.int .i64 ((M.treeF ts m).1 : Nat), errV (M.treeF ts m).2]) ∧ Below W.heap.size W w'

set_option maxHeartbeats 4000000 in
theorem one_bad (hT : TreeGives) (hC : CheckGives) (a0 : Option Addr) (ts : List M.Nd) (cap : Nat) (m v : Int) (w : World) (h : RdN w a0 ts) (he : (M.treeF ts m).2 ≠ 0) :
    Calls Try.prog 5 #[.slice a0 ts.length cap, .int .i64 m, .int .i64 v] w fun r w' => r = .returned (.bool true) ∧ Below w.heap.size w w' := by
  have P := hide (hT a0 ts cap m w h)
  have C := hide (fun W (hW : Below w.heap.size w W) => hC a0 ts cap m W (h.below hW))
  rw [err_some he] at P C
  clear hT hC h he
  generalize M.prunV ts m = PV at *
  generalize (M.treeF ts m).1 = tp at *
  generalize (M.treeF ts m).2 = te at *
  go_enter Try.func5, Try.ntmps5
  go_wp2_with (first
    | (go_at_call 17; refine (C.out _ h1).mono ?_; rintro r w2 ⟨rfl, h2⟩; have H2 := hide (below_on h1 h2))
    | (go_at_call 10; refine P.out.mono ?_; rintro r w1 ⟨a, c, rfl, _, h1⟩))
  go_ret
  exact ⟨rfl, H2.out⟩

set_option maxHeartbeats 32000000 in
set_option maxRecDepth 10000 in
theorem one_good (hT : TreeGives) (a0 : Option Addr) (ts : List M.Nd) (cap : Nat) (m v : Int) (w : World) (h : RdN w a0 ts) (he : (M.treeF ts m).2 = 0) :
    Calls Try.prog 5 #[.slice a0 ts.length cap, .int .i64 m, .int .i64 v] w fun r w' => r = .returned (.bool true) ∧ Below w.heap.size w w' := by
  have F := (M.tree_ok he).1
  have l63 := F.1
  have l0 := F.2.1
  have tz := (M.prun_tree he).1
  have F2 := (M.tree_ok tz).1
  have p63 := F2.1
  have p0 := F2.2.1
  have AB : Hid (∀ i k, i < k → k < (M.prunV ts m).length → M.nf (M.nAt (M.prunV ts m) k) ≠ -1 → M.nf (M.nAt (M.prunV ts m) k) = M.nf (M.nAt (M.prunV ts m) i) → M.nc (M.nAt (M.prunV ts m) k) = M.nc (M.nAt (M.prunV ts m) i) → M.ns (M.nAt (M.prunV ts m) k) = M.ns (M.nAt (M.prunV ts m) i) → M.ancB (M.prunV ts m) i k k = false) := fun i k hik hk hf e1 e2 e3 => M.prun_twice he hik hk hf e1 e2 e3
  have BW : Hid (∀ a c W, RdN W a (M.prunV ts m) → ∀ i k : Nat, k < (M.prunV ts m).length → Calls Try.prog 18 #[.slice a (M.prunV ts m).length c, .int .i64 (i : Nat), .int .i64 (k : Nat)] W fun e w' => e = .returned (.bool (M.ancB (M.prunV ts m) i k k)) ∧ w' = W) := fun a c W hW i k hk => below_any a (M.prunV ts m) c i k W hW hk (fun k u hk hu => M.abv_lt F2 hk hu)
  have P1 := hide (hT a0 ts cap m w h)
  rw [err_nil he] at P1
  have P2 : Hid (∀ a c W, RdN W a (ts.map (M.reV v)) → Calls Try.prog 10 #[.slice a ts.length c, .int .i64 m] W fun e w' => ∃ a' c', e = .returned (.tuple #[.slice a' (M.prunV (ts.map (M.reV v)) m).length c', errV (M.treeF (ts.map (M.reV v)) m).2]) ∧ RdN w' a' (M.prunV (ts.map (M.reV v)) m) ∧ Below W.heap.size W w') := fun a c W hW => by
    have := hT a (ts.map (M.reV v)) c m W hW
    rw [List.length_map] at this
    exact this
  have V1 : Hid (-1000000 ≤ v → v ≤ 1000000 → M.prunV (ts.map (M.reV v)) m = [(-1, 0, 0, 0, false, v)] ∧ (M.treeF (ts.map (M.reV v)) m).2 = 0) := fun h1 h2 => ⟨M.rev_one he ⟨h1, h2⟩, M.rev_tree he ⟨h1, h2⟩⟩
  obtain ⟨b, off, rfl, hb, hc⟩ := h.2 (by intro e; rw [e] at l0; simp at l0)
  have HN : Hid (∀ W, Below w.heap.size w W → ∀ k, k < ts.length → SixAt W b (off + k * 6) (M.nAt ts k)) := fun W hW k hk => (hc k hk).below hW hb
  have TK : Hid (∀ k, k < ts.length → (ts.map (M.reV v)).take (k + 1) = (ts.map (M.reV v)).take k ++ [M.reV v (M.nAt ts k)]) := fun k hk => by
    rw [List.take_add_one, List.getElem?_map, List.getElem?_eq_getElem hk, M.nAt_eq hk]; rfl
  have RL : Hid (∀ k, M.nf (M.nAt ts k) = -1 → M.reV v (M.nAt ts k) = (M.nf (M.nAt ts k), M.nc (M.nAt ts k), M.nl (M.nAt ts k), M.nr (M.nAt ts k), M.ns (M.nAt ts k), v)) := fun k q => by unfold M.reV; rw [if_pos q]
  have RA : Hid (∀ k, M.nf (M.nAt ts k) ≠ -1 → M.reV v (M.nAt ts k) = M.nAt ts k) := fun k q => M.rev_ask q
  have TA : Hid ((ts.map (M.reV v)).take ts.length = ts.map (M.reV v)) := List.take_of_length_le (by simp)
  have TL : Hid ((ts.map (M.reV v)).length = ts.length) := by simp [Hid]
  obtain ⟨j0, hj, hy0, hy1, hy2⟩ := info_parts infoN
  have J0 := hide hj
  clear hT h he F tz F2 hb hc hj
  generalize ts.map (M.reV v) = RV at *
  generalize M.prunV ts m = PV at *
  generalize M.prunV RV m = QV at *
  generalize (M.treeF RV m).2 = qe at *
  go_enter Try.func5, Try.ntmps5
  go_wp2_with (go_at_call 10; refine P1.out.mono ?_; rintro r w1 ⟨pa, pc, rfl, hp1, h1⟩; have HP1 := hide hp1; have H1 := hide h1; clear hp1 h1)
  clear P1
  obtain ⟨pb, po, rfl, hpb, hpc⟩ := HP1.out.2 (by intro e; rw [e] at p0; simp at p0)
  have HPN : Hid (∀ W, Below w1.heap.size w1 W → ∀ k, k < PV.length → SixAt W pb (po + k * 6) (M.nAt PV k)) := fun W hW k hk => (hpc k hk).below hW hpb
  clear hpb hpc
  go_loopw [11, 12, 13] (fun x i _ wr => ∃ k : Nat, k ≤ ts.length ∧ i = .int .i64 k ∧ wr.ownsRow w1.heap.size 27 6 x k (ndCells (RV.take k)) ∧ Hid (Below w1.heap.size w1 wr)) (fun _ i _ _ => ts.length - (intOf i).toNat)
  case atStart => exact ⟨0, Nat.zero_le _, rfl, World.ownsRow_nil _ _ _ _, Below.refl _ _⟩
  case round =>
    obtain ⟨k, hk, rfl, hown, HB⟩ := hrel
    have tkl : (RV.take k).length = k := by rw [List.length_take, TL.out]; omega
    obtain ⟨xa, xc, rfl, hrx, _⟩ := own_rdN tkl (by unfold maxLen; omega) hown
    have HO := hide hown
    have HRX := hide hrx
    have ksz := HB.out.size
    clear hown hrx tkl
    by_cases hlt : k < ts.length
    · obtain ⟨s0, s1, s2, s3, s4, s5⟩ := HN.out wr (below_on H1.out HB.out) k hlt
      have kz : (k : Int) < (ts.length : Int) := by omega
      have UPG : Hid (∀ (o1 o2 : Obj) w6, ((wr.alloc o1).alloc o2).grownBy w6 (Value.slice xa k xc).ownBlock → Below w1.heap.size w1 w6) := fun o1 o2 w6 hg => by
        have q := (HB.out.alloc HB.out.size o1).alloc (by simp; omega) o2
        exact q.grown hg q.size (fun z hz => (HO.out.lt z hz).1)
      have tk := TK.out k hlt
      by_cases hf : M.nf (M.nAt ts k) = -1
      · have q : (M.nf (M.nAt ts k) == -1) = true := by rw [beq_iff_eq]; exact hf
        rw [RL.out k hf] at tk
        have TKK := hide tk
        clear hf tk RL RA TK HN P2 V1 AB BW
        generalize M.nf (M.nAt ts k) = nf at *
        generalize M.nc (M.nAt ts k) = nc at *
        generalize M.nl (M.nAt ts k) = nl at *
        generalize M.nr (M.nAt ts k) = nr at *
        generalize M.ns (M.nAt ts k) = ns at *
        generalize M.nv (M.nAt ts k) = nv at *
        go_wp2_with (at_builtin; refine wpList_append_lies _ rfl (.tmp 49) (.tmp 51) 28 rfl w1.heap.size 27 j0 (.agg #[.int .i64 0, .int .i64 0, .int .i64 0, .int .i64 0, .bool false, .int .i64 0]) 6 48 Try.underlying28 J0.out hy0 hy1 hy2 rfl (by omega) (.slice xa k xc) k (ndCells (RV.take k)) rfl ((HO.out.alloc _).alloc _) ⟨wr.heap.size + 1, 0, none⟩ 1 1 [.int .i64 nf, .int .i64 nc, .int .i64 nl, .int .i64 nr, .bool ns, .int .i64 v] rfl rfl (World.news_of_block (by simpa using heap_alloc_new (wr.alloc _) _)) (by simp [Value.oneCell']) (by omega) (by unfold maxLen; omega) (by omega) (by simp; omega) (wr.heap.size + 1 + 1) (by simp) ?_)
        intro g1 c1 w6 hov hgrow hat hlt1
        have HO1 : Hid (w6.ownsRow w1.heap.size 27 6 (.slice (some ⟨g1, 0, none⟩) (k + 1) c1) (k + 1) (ndCells (RV.take (k + 1)))) := by
          unfold Hid; rw [TKK.out, ndCells_app]; exact hov
        have B6 := hide (UPG.out _ _ w6 hgrow)
        clear hov hgrow hat
        go_wp2
        go_roundw
        case rel => exact ⟨k + 1, by omega, by go_num, HO1.out, B6⟩
        case measure => simp [intOf]; omega
      · have q : (M.nf (M.nAt ts k) == -1) = false := by rw [beq_eq_false_iff_ne]; exact hf
        rw [RA.out k hf] at tk
        have NE : Hid (ndCells [M.nAt ts k] = [.int .i64 (M.nf (M.nAt ts k)), .int .i64 (M.nc (M.nAt ts k)), .int .i64 (M.nl (M.nAt ts k)), .int .i64 (M.nr (M.nAt ts k)), .bool (M.ns (M.nAt ts k)), .int .i64 (M.nv (M.nAt ts k))]) := rfl
        have TKK := hide tk
        clear hf tk RL RA TK HN P2 V1 AB BW
        generalize M.nf (M.nAt ts k) = nf at *
        generalize M.nc (M.nAt ts k) = nc at *
        generalize M.nl (M.nAt ts k) = nl at *
        generalize M.nr (M.nAt ts k) = nr at *
        generalize M.ns (M.nAt ts k) = ns at *
        generalize M.nv (M.nAt ts k) = nv at *
        go_wp2_with (at_builtin; refine wpList_append_lies _ rfl (.tmp 49) (.tmp 51) 28 rfl w1.heap.size 27 j0 (.agg #[.int .i64 0, .int .i64 0, .int .i64 0, .int .i64 0, .bool false, .int .i64 0]) 6 48 Try.underlying28 J0.out hy0 hy1 hy2 rfl (by omega) (.slice xa k xc) k (ndCells (RV.take k)) rfl ((HO.out.alloc _).alloc _) ⟨wr.heap.size + 1, 0, none⟩ 1 1 [.int .i64 nf, .int .i64 nc, .int .i64 nl, .int .i64 nr, .bool ns, .int .i64 nv] rfl rfl (World.news_of_block (by simpa using heap_alloc_new (wr.alloc _) _)) (by simp [Value.oneCell']) (by omega) (by unfold maxLen; omega) (by omega) (by simp; omega) (wr.heap.size + 1 + 1) (by simp) ?_)
        intro g1 c1 w6 hov hgrow hat hlt1
        have HO1 : Hid (w6.ownsRow w1.heap.size 27 6 (.slice (some ⟨g1, 0, none⟩) (k + 1) c1) (k + 1) (ndCells (RV.take (k + 1)))) := by
          unfold Hid; rw [TKK.out, ndCells_app, NE.out]; exact hov
        have B6 := hide (UPG.out _ _ w6 hgrow)
        clear hov hgrow hat
        go_wp2
        go_roundw
        case rel => exact ⟨k + 1, by omega, by go_num, HO1.out, B6⟩
        case measure => simp [intOf]; omega
    · have hke : k = ts.length := by omega
      have kz : ¬ ((k : Int) < (ts.length : Int)) := by omega
      have HQ := hide (P2.out xa xc wr (by have := HRX.out; rw [hke, TA.out] at this; exact this))
      clear P2 HN TK RL RA TA TL HO HRX hlt
      subst hke
      go_upto_region 13 with fail
      go_cut [14, 15] from 53 to 58 (fun x y wx => ∃ x' y', x = x' ∧ y = y' ∧ Hid (-1000000 ≤ v → v ≤ 1000000 → ∃ qb qo qc, x' = .slice (some ⟨qb, qo, none⟩) 1 qc ∧ y' = .nilIface ∧ wx.cell? ⟨qb, qo + 5, none⟩ = some (.int .i64 v)) ∧ Hid (Below wr.heap.size wr wx))
      case first =>
        clear BW AB HPN HP1
        go_wp2_with (go_at_call 10; refine HQ.out.mono ?_; rintro r w3 ⟨qa, qc, rfl, hq3, h3⟩; have HQ3 := hide hq3; have H3 := hide h3; clear hq3 h3)
        go_meet
        case rel =>
          refine ⟨_, _, rfl, rfl, fun r1 r2 => ?_, H3⟩
          obtain ⟨e1, e2⟩ := V1.out r1 r2
          have hq := HQ3.out
          subst e1
          obtain ⟨qb, qo, rfl, _, hqc⟩ := hq.2 (by simp)
          have t5 : w3.cell? ⟨qb, qo + 0 * 6 + 5, none⟩ = some (.int .i64 v) := (hqc 0 (by simp)).2.2.2.2.2
          exact ⟨qb, qo, qc, rfl, err_nil e2, by simpa using t5⟩
      case rest =>
        obtain ⟨x', y', rfl, rfl, HXY, H3⟩ := hcut
        clear HQ V1
        go_upto_region 14 with fail
        go_cut [81] from 59 to 81 (fun x wx => x = .bool false ∧ wx = wc)
        case first =>
          by_cases r1 : -1000000 ≤ v
          · by_cases r2 : v ≤ 1000000
            · obtain ⟨qb, qo, qc, e1, e2, t5⟩ := HXY.out r1 r2
              subst e1 e2
              have d1 : decide (-1000000 ≤ v) = true := decide_eq_true r1
              have d2 : decide (v ≤ 1000000) = true := decide_eq_true r2
              clear HXY AB BW HPN HP1
              go_wp2
              go_meet
              case rel => exact ⟨by simp, rfl⟩
            · have d1 : decide (-1000000 ≤ v) = true := decide_eq_true r1
              have d2 : decide (v ≤ 1000000) = false := decide_eq_false r2
              clear HXY AB BW HPN HP1
              go_wp2
              go_meet
              case rel => exact ⟨rfl, rfl⟩
          · have d1 : decide (-1000000 ≤ v) = false := decide_eq_false r1
            clear HXY AB BW HPN HP1
            go_wp2
            go_meet
            case rel => exact ⟨rfl, rfl⟩
        case rest =>
          obtain ⟨rfl, rfl⟩ := hcut
          clear HXY
          have K3 := hide (below_on HB.out H3.out)
          clear HB H3 ksz kz
          go_wp2
          go_loopw [16, 17] (fun i _ wq => ∃ n : Nat, n ≤ PV.length ∧ i = .int .i64 n ∧ Hid (Below w1.heap.size w1 wq)) (fun i _ _ => PV.length - (intOf i).toNat)
          case atStart => exact ⟨0, Nat.zero_le _, rfl, K3⟩
          case round =>
            obtain ⟨n, hn, rfl, HB⟩ := hrel
            by_cases hnl : n < PV.length
            · have nz : (n : Int) < (PV.length : Int) := by omega
              obtain ⟨s0, s1, s2, s3, s4, s5⟩ := HPN.out _ HB.out n hnl
              by_cases hf : M.nf (M.nAt PV n) = -1
              · have q : (M.nf (M.nAt PV n) == -1) = true := by rw [beq_iff_eq]; exact hf
                clear hf BW AB HPN HP1
                go_wp2
                go_roundw
                case rel => exact ⟨n + 1, by omega, by go_num, HB⟩
                case measure => simp [intOf]; omega
              · have q : (M.nf (M.nAt PV n) == -1) = false := by rw [beq_eq_false_iff_ne]; exact hf
                have HF := hide hf
                clear hf
                go_wp2
                clear s0 s1 s2 s3 s4 s5
                go_loopw [17] (fun i wq => ∃ j : Nat, n < j ∧ j ≤ PV.length ∧ i = .int .i64 j ∧ Hid (Below w1.heap.size w1 wq)) (fun i _ => PV.length - (intOf i).toNat)
                case atStart => exact ⟨n + 1, by omega, by omega, by go_num, HB⟩
                case round =>
                  obtain ⟨j, hj1, hj2, rfl, HBJ⟩ := hrel
                  by_cases hjl : j < PV.length
                  · have jz : (j : Int) < (PV.length : Int) := by omega
                    obtain ⟨s0, s1, s2, s3, s4, s5⟩ := HPN.out _ HBJ.out n hnl
                    obtain ⟨t0, t1, t2, t3, t4, t5⟩ := HPN.out _ HBJ.out j hjl
                    have CB := hide (fun W (hW : Below w1.heap.size w1 W) => BW.out (some ⟨pb, po, none⟩) pc W (HP1.out.below hW) n j hjl)
                    have A := hide (fun e1 e2 e3 => AB.out n j hj1 hjl (by rw [e1]; exact HF.out) e1 e2 e3)
                    clear BW AB HPN HP1 HF q
                    generalize M.ancB PV n j j = an at *
                    generalize M.nf (M.nAt PV n) = fn at *
                    generalize M.nc (M.nAt PV n) = cn at *
                    generalize M.ns (M.nAt PV n) = sn at *
                    generalize M.nf (M.nAt PV j) = fj at *
                    generalize M.nc (M.nAt PV j) = cj at *
                    generalize M.ns (M.nAt PV j) = sj at *
                    by_cases e1 : fj = fn
                    · have q1 : (fj == fn) = true := by rw [beq_iff_eq]; exact e1
                      by_cases e2 : cj = cn
                      · have q2 : (cj == cn) = true := by rw [beq_iff_eq]; exact e2
                        by_cases e3 : sj = sn
                        · have q3 : (sj == sn) = true := by rw [beq_iff_eq]; exact e3
                          have a := A.out e1 e2 e3
                          rw [a] at CB
                          clear e1 e2 e3 a A
                          go_wp2
                          go_quiet ((go_at_call 18; exact Calls.quiet_of_same (CB.out _ (below_drew HBJ.out _ HBJ.out.size))))
                          go_wp2
                          go_roundw
                          case rel => exact ⟨j + 1, by omega, by omega, by go_num, below_drew HBJ.out _ HBJ.out.size⟩
                          case measure => simp [intOf]; omega
                        · have q3 : (sj == sn) = false := by rw [beq_eq_false_iff_ne]; exact e3
                          clear e1 e2 e3 A CB
                          go_wp2
                          go_quiet (fail)
                          go_wp2
                          go_roundw
                          case rel => exact ⟨j + 1, by omega, by omega, by go_num, below_drew HBJ.out _ HBJ.out.size⟩
                          case measure => simp [intOf]; omega
                      · have q2 : (cj == cn) = false := by rw [beq_eq_false_iff_ne]; exact e2
                        clear e1 e2 A CB
                        go_wp2
                        go_quiet (fail)
                        go_wp2
                        go_roundw
                        case rel => exact ⟨j + 1, by omega, by omega, by go_num, below_drew HBJ.out _ HBJ.out.size⟩
                        case measure => simp [intOf]; omega
                    · have q1 : (fj == fn) = false := by rw [beq_eq_false_iff_ne]; exact e1
                      clear e1 A CB
                      go_wp2
                      go_quiet (fail)
                      go_wp2
                      go_roundw
                      case rel => exact ⟨j + 1, by omega, by omega, by go_num, below_drew HBJ.out _ HBJ.out.size⟩
                      case measure => simp [intOf]; omega
                  · have jz : ¬ ((j : Int) < (PV.length : Int)) := by omega
                    clear BW AB HPN HP1
                    go_wp2
                    go_roundw
                    case rel => exact ⟨n + 1, by omega, by go_num, HBJ⟩
                    case measure => simp [intOf]; omega
            · have nz : ¬ ((n : Int) < (PV.length : Int)) := by omega
              have HE := hide (below_on H1.out HB.out)
              clear BW AB HPN HP1
              go_wp2
              go_ret
              exact ⟨rfl, HE.out⟩

theorem one_walk (hT : TreeGives) (hC : CheckGives) (a0 : Option Addr) (ts : List M.Nd) (cap : Nat) (m v : Int) (w : World) (h : RdN w a0 ts) :
    Calls Try.prog 5 #[.slice a0 ts.length cap, .int .i64 m, .int .i64 v] w fun r w' => r = .returned (.bool true) ∧ Below w.heap.size w w' := by
  by_cases he : (M.treeF ts m).2 = 0
  · exact one_good hT a0 ts cap m v w h he
  · exact one_bad hT hC a0 ts cap m v w h he

end Go.Proofs.Ytjnkkniefpmgdad
