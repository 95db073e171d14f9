/-
  What the reference's Moved answers of two trees that are right with as many features.
-/
import Derived.Test.YtcaljnhdfbjpnaeDoorRefMeet
import Derived.Test.YtcaljnhdfbjpnaeDoorRefReg
import Derived.Test.YtcaljnhdfbjpnaeDoorLMathB
namespace Go.Proofs.YtcaljnhdfbjpnaeDoor
open Go.ChangeShapes Go.WideShapes Go.ChangeAt Go.RowKit
set_option linter.unusedVariables false

theorem M.cnB_le (p : Bool) : M.cnB p ≤ 1 := by cases p <;> decide
theorem M.mvR_leR (a b : List M.Nd) (m i : Nat) : ∀ k, M.mvR a b m i k ≤ k
  | 0 => Nat.le_refl _
  | k + 1 => by
    have h := M.mvR_leR a b m i k
    have q := M.cnB_le (M.mvB a b m i k)
    show M.mvR a b m i k + M.cnB (M.mvB a b m i k) ≤ k + 1
    omega
theorem M.mvK_le {a b : List M.Nd} {m : Nat} (h : b.length ≤ 63) : ∀ i, M.mvK a b m i ≤ i * 63
  | 0 => Nat.le_refl _
  | i + 1 => by
    have q := M.mvK_le (a := a) (m := m) h i
    have r := M.mvR_leR a b m i b.length
    show M.mvK a b m i + M.mvR a b m i b.length ≤ (i + 1) * 63
    omega

set_option maxHeartbeats 16000000 in
set_option maxRecDepth 10000 in
theorem rmoved_any (a b : Option Addr) (ts us : List M.Nd) (ca cb m : Nat) (w : World) (ha : RdN w a ts) (hb : RdN w b us) (FA : M.Fair ts (m : Int)) (FB : M.Fair us (m : Int)) :
    Calls Tryd.prog 12 #[.slice a ts.length ca, .slice b us.length cb, .int .i64 (m : Nat)] w fun e w' => e = .returned (.int .i64 (M.mvK ts us m ts.length : Nat)) ∧ Below w.heap.size w w' := by
  have hma : ts.length ≤ 9223372036854775807 := ha.1
  have hmb : us.length ≤ 9223372036854775807 := hb.1
  have a63 := FA.1
  have a0 := FA.2.1
  have b63 := FB.1
  have b0 := FB.2.1
  have s8 : m ≤ 8 := by have := FA.2.2.2.1; omega
  have RGA : Hid (∀ k W, k < ts.length → Below w.heap.size w W → Calls Tryd.prog 29 #[.slice a ts.length ca, .int .i64 (m : Nat), .int .i64 (k : Nat)] W fun e w' => ∃ ra rc, e = .returned (.slice ra (M.region ts m k).length rc) ∧ RdS w' ra (M.region ts m k) ∧ Below W.heap.size W w') := fun k W hk hW => by
    refine (rregion_any a ts ca m k W (ha.below hW) FA hk).mono ?_
    rintro e w' ⟨v, rfl, ho, hb⟩
    obtain ⟨ra, rc, rfl, hr⟩ := own_rdS (M.region_len _ _ _) (by unfold maxLen; omega) ho
    exact ⟨ra, rc, by rw [M.region_len], hr, hb⟩
  have RGB : Hid (∀ k W, k < us.length → Below w.heap.size w W → Calls Tryd.prog 29 #[.slice b us.length cb, .int .i64 (m : Nat), .int .i64 (k : Nat)] W fun e w' => ∃ ra rc, e = .returned (.slice ra (M.region us m k).length rc) ∧ RdS w' ra (M.region us m k) ∧ Below W.heap.size W w') := fun k W hk hW => by
    refine (rregion_any b us cb m k W (hb.below hW) FB hk).mono ?_
    rintro e w' ⟨v, rfl, ho, hb⟩
    obtain ⟨ra, rc, rfl, hr⟩ := own_rdS (M.region_len _ _ _) (by unfold maxLen; omega) ho
    exact ⟨ra, rc, by rw [M.region_len], hr, hb⟩
  have MT : Hid (∀ i k xa xc ya yc W, RdS W xa (M.region ts m i) → RdS W ya (M.region us m k) → Calls Tryd.prog 31 #[.slice xa (M.region ts m i).length xc, .slice ya (M.region us m k).length yc] W fun e w' => ∃ ga gc, e = .returned (.slice ga (M.meet (M.region ts m i) (M.region us m k)).length gc) ∧ RdS w' ga (M.meet (M.region ts m i) (M.region us m k)) ∧ Below W.heap.size W w') := fun i k xa xc ya yc W hx hy => rmeet_any xa ya _ _ xc yc W hx hy (by rw [M.region_len, M.region_len]) (by rw [M.region_len]; exact s8)
  have AN := hide (fun ga (L : List M.Sp) gc W (h : RdS W ga L) => any_any ga L gc W h)
  obtain ⟨ba, oa, rfl, hba, hca⟩ := ha.2 (by intro e; rw [e] at a0; simp at a0)
  obtain ⟨bb, ob, rfl, hbb, hcb⟩ := hb.2 (by intro e; rw [e] at b0; simp at b0)
  have HA : Hid (∀ W, Below w.heap.size w W → ∀ j, j < ts.length → SixAt W ba (oa + j * 6) (M.nAt ts j)) := fun W hW j hj => (hca j hj).below hW hba
  have HB : Hid (∀ W, Below w.heap.size w W → ∀ j, j < us.length → SixAt W bb (ob + j * 6) (M.nAt us j)) := fun W hW j hj => (hcb j hj).below hW hbb
  have KL : Hid (∀ i, M.mvK ts us m i ≤ i * 63) := fun i => M.mvK_le (by omega) i
  have RL : Hid (∀ i k, M.mvR ts us m i k ≤ k) := fun i k => M.mvR_leR ts us m i k
  have KS : Hid (∀ i, M.mvK ts us m (i + 1) = M.mvK ts us m i + M.mvR ts us m i us.length) := fun i => rfl
  have RS : Hid (∀ i k, M.mvR ts us m i (k + 1) = M.mvR ts us m i k + M.cnB (M.mvB ts us m i k)) := fun i k => rfl
  have R0 : Hid (∀ i, M.mvR ts us m i 0 = 0) := fun i => rfl
  clear ha hb FA FB hca hcb
  go_enter Tryd.func12, Tryd.ntmps12
  go_wp2
  go_loopw [7, 8, 9, 10, 11, 12] (fun n i _ _ _ _ wr => ∃ k : Nat, k ≤ ts.length ∧ i = .int .i64 k ∧ n = .int .i64 (M.mvK ts us m k : Nat) ∧ Hid (Below w.heap.size w wr)) (fun _ i _ _ _ _ _ => ts.length - (intOf i).toNat)
  case atStart => exact ⟨0, Nat.zero_le _, rfl, rfl, Below.refl _ _⟩
  case round =>
    obtain ⟨i, hi, rfl, rfl, K⟩ := hrel
    by_cases hlt : i < ts.length
    · have iz : (i : Int) < (ts.length : Int) := by omega
      have z0 := R0.out i
      go_wp2
      go_loopw [7, 9, 10, 11, 12] (fun n j _ _ _ wr => ∃ k : Nat, k ≤ us.length ∧ j = .int .i64 k ∧ n = .int .i64 ((M.mvK ts us m i + M.mvR ts us m i k : Nat) : Int) ∧ Hid (Below w.heap.size w wr)) (fun _ j _ _ _ _ => us.length - (intOf j).toNat)
      case atStart => exact ⟨0, Nat.zero_le _, rfl, by rw [z0]; rfl, K⟩
      case round =>
        clear K z0
        obtain ⟨k, hk, rfl, rfl, K⟩ := hrel
        by_cases hkt : k < us.length
        · have kz : (k : Int) < (us.length : Int) := by omega
          obtain ⟨s0, s1, s2, s3, s4, s5⟩ := HA.out _ K.out i hlt
          obtain ⟨t0, t1, t2, t3, t4, t5⟩ := HB.out _ K.out k hkt
          have rs := RS.out i k
          have bn : M.mvK ts us m i + M.mvR ts us m i k ≤ 4000 := by have := KL.out i; have := RL.out i k; omega
          by_cases hf : M.nf (M.nAt ts i) = -1
          · have q1 : (M.nf (M.nAt ts i) != -1) = false := by rw [bne_eq_false_iff_eq]; exact hf
            by_cases hg : M.nf (M.nAt us k) = -1
            · have q2 : (M.nf (M.nAt us k) != -1) = false := by rw [bne_eq_false_iff_eq]; exact hg
              by_cases hv : M.nv (M.nAt ts i) = M.nv (M.nAt us k)
              · have q3 : (M.nv (M.nAt ts i) == M.nv (M.nAt us k)) = true := by rw [beq_iff_eq]; exact hv
                have N : Hid (M.mvR ts us m i (k + 1) = M.mvR ts us m i k) := by
                  unfold Hid; rw [rs]; unfold M.mvB; rw [decide_eq_true hv]; simp [M.cnB]
                clear hf hg hv rs RGA RGB MT AN HA HB KL RL KS RS R0
                go_wp2
                go_quiet (fail)
                go_wp2
                go_roundw
                case rel => exact ⟨k + 1, by omega, by go_num, by rw [N.out], below_drew K.out _ K.out.size⟩
                case measure => simp [intOf]; omega
              · have q3 : (M.nv (M.nAt ts i) == M.nv (M.nAt us k)) = false := by rw [beq_eq_false_iff_ne]; exact hv
                have mb : M.mvB ts us m i k = M.anyS (M.meet (M.region ts m i) (M.region us m k)) := by
                  unfold M.mvB M.leafB; rw [decide_eq_true hf, decide_eq_true hg, decide_eq_false hv]; rfl
                rw [mb] at rs
                have RGA1 := hide (fun W h => RGA.out i W hlt h)
                have RGB1 := hide (fun W h => RGB.out k W hkt h)
                have MT1 := hide (fun xa xc ya yc W h1 h2 => MT.out i k xa xc ya yc W h1 h2)
                have AN1 := hide (fun ga gc W (h : RdS W ga (M.meet (M.region ts m i) (M.region us m k))) => AN.out ga _ gc W h)
                cases hA : M.anyS (M.meet (M.region ts m i) (M.region us m k)) with
                | false =>
                  rw [hA] at AN1 rs
                  have N : Hid (M.mvR ts us m i (k + 1) = M.mvR ts us m i k) := rs
                  clear hA mb hf hg hv rs RGA RGB MT AN HA HB KL RL KS RS R0
                  generalize M.meet (M.region ts m i) (M.region us m k) = ML at *
                  generalize M.region ts m i = XL at *
                  generalize M.region us m k = YL at *
                  go_wp2
                  go_quiet (fail)
                  have K0 := hide (fun q => below_drew K.out q K.out.size)
                  clear K s0 s1 s2 s3 s4 s5 t0 t1 t2 t3 t4 t5
                  go_wp2_with (first
                    | (go_at_call 30; refine (AN1.out _ _ _ HM3.out).mono ?_; rintro e w4 ⟨rfl, h4⟩; have k4 := hide (below_on k3.out h4))
                    | (go_at_call 31; refine (MT1.out _ _ _ _ _ HX2.out HY2.out).mono ?_; rintro e w3 ⟨ga, gc, rfl, hm3, h3⟩; have k3 := hide (below_on k2.out h3); have HM3 := hide hm3; clear hm3 h3)
                    | (go_at_call 29; have lean := HX1; refine (RGB1.out _ k1.out).mono ?_; rintro e w2 ⟨ya, yc, rfl, hy2, h2⟩; have k2 := hide (below_on k1.out h2); have HY2 := hide hy2; have HX2 := hide (HX1.out.below h2); clear hy2 h2)
                    | (go_at_call 29; refine (RGA1.out _ (K0.out _)).mono ?_; rintro e w1 ⟨xa, xc, rfl, hx1, h1⟩; have k1 := hide (below_on (K0.out _) h1); have HX1 := hide hx1; clear hx1 h1))
                  go_roundw
                  case rel => exact ⟨k + 1, by omega, by go_num, by rw [N.out]; simp, k4⟩
                  case measure => simp [intOf]; omega
                | true =>
                  rw [hA] at AN1 rs
                  have N : Hid (M.mvR ts us m i (k + 1) = M.mvR ts us m i k + 1) := rs
                  clear hA mb hf hg hv rs RGA RGB MT AN HA HB KL RL KS RS R0
                  generalize M.meet (M.region ts m i) (M.region us m k) = ML at *
                  generalize M.region ts m i = XL at *
                  generalize M.region us m k = YL at *
                  go_wp2
                  go_quiet (fail)
                  have K0 := hide (fun q => below_drew K.out q K.out.size)
                  clear K s0 s1 s2 s3 s4 s5 t0 t1 t2 t3 t4 t5
                  go_wp2_with (first
                    | (go_at_call 30; refine (AN1.out _ _ _ HM3.out).mono ?_; rintro e w4 ⟨rfl, h4⟩; have k4 := hide (below_on k3.out h4))
                    | (go_at_call 31; refine (MT1.out _ _ _ _ _ HX2.out HY2.out).mono ?_; rintro e w3 ⟨ga, gc, rfl, hm3, h3⟩; have k3 := hide (below_on k2.out h3); have HM3 := hide hm3; clear hm3 h3)
                    | (go_at_call 29; have lean := HX1; refine (RGB1.out _ k1.out).mono ?_; rintro e w2 ⟨ya, yc, rfl, hy2, h2⟩; have k2 := hide (below_on k1.out h2); have HY2 := hide hy2; have HX2 := hide (HX1.out.below h2); clear hy2 h2)
                    | (go_at_call 29; refine (RGA1.out _ (K0.out _)).mono ?_; rintro e w1 ⟨xa, xc, rfl, hx1, h1⟩; have k1 := hide (below_on (K0.out _) h1); have HX1 := hide hx1; clear hx1 h1))
                  go_roundw
                  case rel => exact ⟨k + 1, by omega, by go_num, by rw [N.out]; go_num, k4⟩
                  case measure => simp [intOf]; omega
            · have q2 : (M.nf (M.nAt us k) != -1) = true := by rw [bne_iff_ne]; exact hg
              have N : Hid (M.mvR ts us m i (k + 1) = M.mvR ts us m i k) := by
                unfold Hid; rw [rs]; unfold M.mvB M.leafB; rw [decide_eq_false hg]; simp [M.cnB]
              clear hf hg rs RGA RGB MT AN HA HB KL RL KS RS R0
              go_wp2
              go_quiet (fail)
              go_wp2
              go_roundw
              case rel => exact ⟨k + 1, by omega, by go_num, by rw [N.out], below_drew K.out _ K.out.size⟩
              case measure => simp [intOf]; omega
          · have q1 : (M.nf (M.nAt ts i) != -1) = true := by rw [bne_iff_ne]; exact hf
            have N : Hid (M.mvR ts us m i (k + 1) = M.mvR ts us m i k) := by
              unfold Hid; rw [rs]; unfold M.mvB M.leafB; rw [decide_eq_false hf]; simp [M.cnB]
            clear hf rs RGA RGB MT AN HA HB KL RL KS RS R0
            go_wp2
            go_quiet (fail)
            go_wp2
            go_roundw
            case rel => exact ⟨k + 1, by omega, by go_num, by rw [N.out], below_drew K.out _ K.out.size⟩
            case measure => simp [intOf]; omega
        · have kz : ¬ ((k : Int) < (us.length : Int)) := by omega
          have ke : k = us.length := by omega
          have ks := KS.out i
          clear RGA RGB MT AN HA HB KL RL KS RS R0
          go_wp2
          go_roundw
          case rel => exact ⟨i + 1, by omega, by go_num, by rw [ks, ke], K⟩
          case measure => simp [intOf]; omega
    · have iz : ¬ ((i : Int) < (ts.length : Int)) := by omega
      have ie : i = ts.length := by omega
      subst ie
      clear RGA RGB MT AN HA HB KL RL KS RS R0
      go_wp2
      go_ret
      exact ⟨rfl, K.out⟩

end Go.Proofs.YtcaljnhdfbjpnaeDoor
