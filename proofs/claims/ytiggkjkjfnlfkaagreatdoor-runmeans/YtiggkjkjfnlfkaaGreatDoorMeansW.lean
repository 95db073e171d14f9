/-
  RunMeans: the law's own walk.
-/
import Derived.Test.YtiggkjkjfnlfkaaGreatDoorRunAM
import Derived.Test.YtiggkjkjfnlfkaaGreatDoorRunRun
import Derived.Test.YtiggkjkjfnlfkaaGreatDoorRunMc
import Derived.Test.YtiggkjkjfnlfkaaGreatDoorRefDig
import Derived.Deep.Cut
import Derived.Deep.CutRange
namespace Go.Proofs.YtiggkjkjfnlfkaaGreatDoor
open Go.ChangeShapes Go.WideShapes Go.ChangeAt Go.RowKit Go.Lib
set_option linter.unusedVariables false

def mnO (l : List Int) (x y : Int) (q : Bool) : List UInt8 := if q = true then Lib.itoa (M.rndI x y) else Lib.itoa (M.avgI l)
theorem run_mean {w : World} {tb : Nat} {pb : Addr} (l : List Int) (x y : Int) (hL : LiesR w (badV tb pb)) (hl : l.length ≤ 40) (hv : ∀ z ∈ l, M.outI z = false) (hx : M.outI x = false) (hy : M.outI y = false) :
    Calls Tryz.prog 23 #[.string (bs (M.mnS l x y))] w fun e w' => e = .returned (.string (((bs (Lib.itoa (M.avgI l)) ++ ⟨#[10]⟩) ++ bs (Lib.itoa (M.rndI x y))) ++ ⟨#[10]⟩)) ∧ Below w.heap.size w w' := by
  have hv2 : ∀ z ∈ l, -1000000 ≤ z ∧ z ≤ 1000000 := fun z hz => M.out_false (hv z hz)
  have bx := M.out_false hx
  have oa : M.outI (M.avgI l) = false := by have := M.avg_in hv2; exact M.out_of (by omega) (by omega)
  have or' : M.outI (M.rndI x y) = false := by have := M.rnd_in (a := x) (b := y) (m := 1000000) (by omega) (by omega) (by omega) (by omega); exact M.out_of (by omega) (by omega)
  have n32 : (32 : UInt8) ∉ M.mnT l := M.mnT_no (by decide) l
  have := run_plain (w := w) (M.mnL l x y) (mnO l x y) [false, true] (M.mnS l x y) (M.mnS_lines l x y) (M.mnS_len hl hv hx hy) (fun q => by
      unfold mnO
      split
      · have := M.itoa_len or'; omega
      · have := M.itoa_len oa; omega) hL (fun q V o hV => by
      cases q with
      | true =>
        show Calls _ _ #[_, .string (bs ([114, 111, 117, 110, 100] ++ 32 :: (Lib.itoa x ++ 32 :: Lib.itoa y)))] _ _
        exact ans_round _ _ x y (M.itoa_far x (by decide)) (M.itoa_far y (by decide)) (by have := M.itoa_len hx; omega) (by have := M.itoa_len hy; omega) (hL.below hV) (M.numR_itoa hx) (M.numR_itoa hy)
      | false =>
        show Calls _ _ #[_, .string (bs ([109, 101, 97, 110] ++ 32 :: M.mnT l))] _ _
        exact ans_mean _ l n32 (by have := M.mnT_len hv; omega) (hL.below hV) (M.listR_mn hv) (by omega) hv2)
  refine this.mono ?_
  rintro e w' ⟨rfl, hb⟩
  refine ⟨?_, hb⟩
  have e10 : (⟨#[10]⟩ : ByteArray) = bs [10] := rfl
  have e1 : M.outR (mnO l x y) [false, true] = ((Lib.itoa (M.avgI l) ++ [10]) ++ Lib.itoa (M.rndI x y)) ++ [10] := by
    unfold M.outR mnO
    simp
  rw [e1, e10, bs_app, bs_app, bs_app]

set_option maxHeartbeats 8000000 in
set_option maxRecDepth 10000 in
theorem means_walk {tb : Nat} {pb : Addr} (a : Option Addr) (l : List Int) (cap : Nat) (x y : Int) (W : World) (hr : Rd W a l) (hL : LiesR W (badV tb pb)) :
    Calls Tryz.prog 7 #[.slice a l.length cap, .int .i64 x, .int .i64 y] W fun e w' => e = .returned (.bool true) ∧ Below W.heap.size W w' := by
  have HL := hide hL
  have HR := hide hr
  have ll : l.length ≤ 9223372036854775807 := hr.1
  have B0 := hide (Below.refl W.heap.size W)
  clear hL hr
  have e0 : (⟨#[]⟩ : ByteArray) = bs (M.mnT (l.take 0)) := rfl
  have E0 := hide e0
  clear e0
  go_enter Tryz.func7, Tryz.ntmps7
  go_wp2
  go_loop [7, 8, 9] (fun t i _ => ∃ k : Nat, k ≤ l.length ∧ k ≤ 40 ∧ t = .string (bs (M.mnT (l.take k))) ∧ i = .int .i64 (k : Int) ∧ Hid (∀ z ∈ l.take k, M.outI z = false)) (fun _ i _ => 40 - (intOf i).toNat)
  case atStart => exact ⟨0, Nat.zero_le _, by omega, by rw [E0.out], rfl, fun z hz => by simp at hz⟩
  case round =>
    obtain ⟨k, hk, hk40, rfl, rfl, HO⟩ := hrel
    clear E0
    by_cases klt : k < l.length ∧ k < 40
    case pos =>
      obtain ⟨k1, k2⟩ := klt
      have g1 : decide ((k : Int) < (l.length : Int)) = true := decide_eq_true (by omega)
      have g2 : decide ((k : Int) < 40) = true := decide_eq_true (by omega)
      have g1' : decide (k < l.length) = true := decide_eq_true k1
      have g2' : decide (k < 40) = true := decide_eq_true k2
      have kz : (k : Int) < (l.length : Int) := by omega
      obtain ⟨b, off, rfl, hb, hc⟩ := HR.out.2 (by intro e; rw [e] at k1; simp at k1)
      have ck := hc k k1
      have TK : l.take (k + 1) = l.take k ++ [l.getD k 0] := by
        rw [List.take_succ_eq_append_getElem k1]
        simp [List.getD, k1]
      have NX : Hid (M.outI (l.getD k 0) = false → ∀ z ∈ l.take (k + 1), M.outI z = false) := fun h z hz => by
        rw [TK] at hz
        rcases List.mem_append.1 hz with hz | hz
        · exact HO.out z hz
        · rw [List.mem_singleton.1 hz]; exact h
      have EE : Hid (if k = 0 then bs (M.mnT (l.take k)) ++ bs (Lib.itoa (l.getD k 0)) = bs (M.mnT (l.take (k + 1))) else (bs (M.mnT (l.take k)) ++ ⟨#[44]⟩) ++ bs (Lib.itoa (l.getD k 0)) = bs (M.mnT (l.take (k + 1)))) := by
        unfold Hid
        rw [TK, M.mnT_snoc]
        by_cases h0 : k = 0
        · rw [if_pos h0, if_pos (by rw [h0]; rfl), bs_app]
          subst h0
          rfl
        · rw [if_neg h0, if_neg (fun e => by have h := congrArg List.length e; rw [List.length_take, List.length_nil, Nat.min_eq_left (by omega)] at h; exact h0 h)]
          have e44 : (⟨#[44]⟩ : ByteArray) = bs [44] := rfl
          rw [e44, bs_app, bs_app]
          simp
      clear hc HR HL TK hb
      generalize l.getD k 0 = v at *
      by_cases ho : M.outI v = false
      case neg =>
        have ways : decide (v < -1000000) = true ∨ (decide (v < -1000000) = false ∧ decide (1000000 < v) = true) := by
          have := M.out_true (x := v) (by cases h : M.outI v; exact absurd h ho; rfl)
          simp only [decide_eq_true_iff, decide_eq_false_iff_not]; omega
        clear EE NX ho
        rcases ways with t1 | ⟨t1, t2⟩
        all_goals (
          go_wp2
          go_ret
          exact ⟨rfl, B0.out⟩)
      case pos =>
        have bv := M.out_false ho
        have t1 : decide (v < -1000000) = false := decide_eq_false (by omega)
        have t2 : decide (1000000 < v) = false := decide_eq_false (by omega)
        have DG := hide (digits_any v ho W)
        have NY := hide (NX.out ho)
        have sv : (bs (Lib.itoa v)).size ≤ 8 := by rw [bs_size]; exact M.itoa_len ho
        have sk : (bs (M.mnT (l.take k))).size ≤ 400 := by
          rw [bs_size]
          have := M.mnT_len HO.out
          rw [List.length_take] at this
          omega
        clear NX ho bv HO
        by_cases h0 : k = 0
        · have z0 : ¬ ((0 : Int) < (k : Int)) := by omega
          have z0' : ¬ (0 < k) := by omega
          have E1 := hide (by have := EE.out; rw [if_pos h0] at this; exact this)
          clear EE h0
          generalize bs (M.mnT (l.take k)) = tk at *
          generalize bs (Lib.itoa v) = tv at *
          go_wp2_with (go_at_call 27; refine DG.out.mono ?_; rintro e w2 ⟨rfl, ew⟩; have ew2 := ew.symm; subst ew2)
          go_round
          case rel => exact ⟨k + 1, by omega, by omega, by rw [← E1.out], by go_num, NY⟩
          case measure => simp [intOf]; omega
        · have z0 : (0 : Int) < (k : Int) := by omega
          have z0' : 0 < k := by omega
          have E1 := hide (by have := EE.out; rw [if_neg h0] at this; exact this)
          clear EE h0
          generalize bs (M.mnT (l.take k)) = tk at *
          generalize bs (Lib.itoa v) = tv at *
          go_wp2_with (go_at_call 27; refine DG.out.mono ?_; rintro e w2 ⟨rfl, ew⟩; have ew2 := ew.symm; subst ew2)
          go_round
          case rel => exact ⟨k + 1, by omega, by omega, by rw [← E1.out], by go_num, NY⟩
          case measure => simp [intOf]; omega
    case neg =>
      have ways : (decide ((k : Int) < (l.length : Int)) = false ∧ decide (k < l.length) = false) ∨ (decide ((k : Int) < (l.length : Int)) = true ∧ decide (k < l.length) = true ∧ decide ((k : Int) < 40) = false ∧ decide (k < 40) = false) := by
        simp only [decide_eq_true_iff, decide_eq_false_iff_not]; omega
      go_upto_region 3 with fail
      go_cut [22] from 15 to 22 (fun v wx => v = .bool false ∧ wx = W)
      case first =>
        rcases ways with ⟨t1, t1'⟩ | ⟨t1, t1', t2, t2'⟩
        all_goals (
          go_wp2
          go_meet
          case rel => exact ⟨rfl, rfl⟩)
      case rest =>
      obtain ⟨rfl, ewr⟩ := hcut
      subst ewr
      clear ways
      by_cases big : 40 < l.length
      case pos =>
        have d1 : decide ((40 : Int) < (l.length : Int)) = true := decide_eq_true (by omega)
        have d1' : decide (40 < l.length) = true := decide_eq_true big
        clear HO HR HL klt
        go_wp2
        go_ret
        exact ⟨rfl, B0.out⟩
      case neg =>
      have d1 : decide ((40 : Int) < (l.length : Int)) = false := decide_eq_false (by omega)
      have d1' : decide (40 < l.length) = false := decide_eq_false big
      by_cases oxy : M.outI x = false ∧ M.outI y = false
      case neg =>
        have ways : decide (x < -1000000) = true ∨ (decide (x < -1000000) = false ∧ decide (1000000 < x) = true) ∨ (decide (x < -1000000) = false ∧ decide (1000000 < x) = false ∧ decide (y < -1000000) = true) ∨ (decide (x < -1000000) = false ∧ decide (1000000 < x) = false ∧ decide (y < -1000000) = false ∧ decide (1000000 < y) = true) := by
          simp only [decide_eq_true_iff, decide_eq_false_iff_not]
          by_cases ox : M.outI x = false
          · have a1 := M.out_false ox
            have a2 := M.out_true (x := y) (by cases h : M.outI y; exact absurd ⟨ox, h⟩ oxy; rfl)
            omega
          · have a2 := M.out_true (x := x) (by cases h : M.outI x; exact absurd h ox; rfl)
            omega
        clear HO HR HL klt oxy
        rcases ways with t1 | ⟨t1, t2⟩ | ⟨t1, t2, t3⟩ | ⟨t1, t2, t3, t4⟩
        all_goals (
          go_wp2
          go_ret
          exact ⟨rfl, B0.out⟩)
      case pos =>
      obtain ⟨ox, oy⟩ := oxy
      have bx := M.out_false ox
      have by' := M.out_false oy
      have x1 : decide (x < -1000000) = false := decide_eq_false (by omega)
      have x2 : decide (1000000 < x) = false := decide_eq_false (by omega)
      have y1 : decide (y < -1000000) = false := decide_eq_false (by omega)
      have y2 : decide (1000000 < y) = false := decide_eq_false (by omega)
      have tk : l.take k = l := List.take_of_length_le (by omega)
      have hv : ∀ z ∈ l, M.outI z = false := by have := HO.out; rw [tk] at this; exact this
      have hv2 : ∀ z ∈ l, -1000000 ≤ z ∧ z ≤ 1000000 := fun z hz => M.out_false (hv z hz)
      have oa : M.outI (M.avgI l) = false := by have := M.avg_in hv2; exact M.out_of (by omega) (by omega)
      have or' : M.outI (M.rndI x y) = false := by have := M.rnd_in (a := x) (b := y) (m := 1000000) (by omega) (by omega) (by omega) (by omega); exact M.out_of (by omega) (by omega)
      have MN := hide (fmean_any a l cap wc HR.out (by omega) hv2)
      have RD := hide (fun V => fround_any x y V)
      have DA := hide (fun V => digits_any (M.avgI l) oa V)
      have DR := hide (fun V => digits_any (M.rndI x y) or' V)
      have DX := hide (fun V => digits_any x ox V)
      have DY := hide (fun V => digits_any y oy V)
      have RUN : Hid (∀ V, Below wc.heap.size wc V → Calls Tryz.prog 23 #[.string (bs (M.mnS l x y))] V fun e w' => e = .returned (.string (((bs (Lib.itoa (M.avgI l)) ++ ⟨#[10]⟩) ++ bs (Lib.itoa (M.rndI x y))) ++ ⟨#[10]⟩)) ∧ Below V.heap.size V w') := fun V hV => run_mean l x y (HL.out.below hV) (by omega) hv ox oy
      have s1 : (bs (M.mnT (l.take k))).size ≤ 400 := by rw [bs_size, tk]; have := M.mnT_len hv; omega
      have s2 : (bs (Lib.itoa (M.avgI l))).size ≤ 8 := by rw [bs_size]; exact M.itoa_len oa
      have s3 : (bs (Lib.itoa (M.rndI x y))).size ≤ 8 := by rw [bs_size]; exact M.itoa_len or'
      have s4 : (bs (Lib.itoa x)).size ≤ 8 := by rw [bs_size]; exact M.itoa_len ox
      have s5 : (bs (Lib.itoa y)).size ≤ 8 := by rw [bs_size]; exact M.itoa_len oy
      have ES : Hid ((((((⟨#[109, 101, 97, 110, 32]⟩ ++ bs (M.mnT (l.take k))) ++ ⟨#[10, 114, 111, 117, 110, 100, 32]⟩) ++ bs (Lib.itoa x)) ++ ⟨#[32]⟩) ++ bs (Lib.itoa y)) ++ ⟨#[10]⟩ = bs (M.mnS l x y)) := by
        unfold Hid
        have e1 : (⟨#[109, 101, 97, 110, 32]⟩ : ByteArray) = bs [109, 101, 97, 110, 32] := rfl
        have e2 : (⟨#[10, 114, 111, 117, 110, 100, 32]⟩ : ByteArray) = bs [10, 114, 111, 117, 110, 100, 32] := rfl
        have e3 : (⟨#[32]⟩ : ByteArray) = bs [32] := rfl
        have e4 : (⟨#[10]⟩ : ByteArray) = bs [10] := rfl
        rw [tk, e1, e2, e3, e4, bs_app, bs_app, bs_app, bs_app, bs_app, bs_app]
        unfold M.mnS
        simp
      clear ox oy bx by' tk hv hv2 oa or' HO HR HL klt big
      generalize M.avgI l = av at *
      generalize M.rndI x y = rv at *
      generalize bs (M.mnS l x y) = tS at *
      generalize bs (M.mnT (l.take k)) = tk at *
      generalize bs (Lib.itoa av) = tA at *
      generalize bs (Lib.itoa rv) = tR at *
      generalize bs (Lib.itoa x) = tX at *
      generalize bs (Lib.itoa y) = tY at *
      have sq : ∀ t : ByteArray, (t.toList == t.toList) = true := fun t => by rw [beq_iff_eq]
      go_upto_region 17 with (first
        | (go_at_call 28; refine MN.out.mono ?_; rintro e w2 ⟨rfl, hb2⟩; have B2 := hide hb2; clear hb2)
        | (go_at_call 29; refine (RD.out _).mono ?_; rintro e w3 ⟨rfl, ew⟩; have ew3 := ew.symm; subst ew3)
        | (go_at_call 27; refine (DA.out _).mono ?_; rintro e w3 ⟨rfl, ew⟩; have ew3 := ew.symm; subst ew3; clear DA)
        | (go_at_call 27; refine (DR.out _).mono ?_; rintro e w3 ⟨rfl, ew⟩; have ew3 := ew.symm; subst ew3; clear DR)
        | (go_at_call 27; refine (DX.out _).mono ?_; rintro e w3 ⟨rfl, ew⟩; have ew3 := ew.symm; subst ew3; clear DX)
        | (go_at_call 27; refine (DY.out _).mono ?_; rintro e w3 ⟨rfl, ew⟩; have ew3 := ew.symm; subst ew3; clear DY))
      go_wp2_with (go_at_call 23; rw [ES.out]; refine (RUN.out _ B2.out).mono ?_; rintro e w4 ⟨rfl, hb4⟩; have B4 := hide (below_on B2.out hb4); clear hb4)
      go_ret
      exact ⟨by first | rfl | simp [sq], B4.out⟩

end Go.Proofs.YtiggkjkjfnlfkaaGreatDoor
