/-
  Several texts as one: TelW, TelAll.
-/
import Derived.Test.YtodidokeblblgaaGreatDoorRunA39
import Derived.Test.YtodidokeblblgaaGreatDoorRunA34
import Derived.Test.YtodidokeblblgaaGreatDoorRunA40
import Derived.Test.YtodidokeblblgaaGreatDoorRunA2
import Derived.Deep.Cut
import Derived.Deep.CutRange
import Derived.BigQuiet
import Derived.Test.YtodidokeblblgaaGreatDoorRunA37
import Derived.Test.YtodidokeblblgaaGreatDoorRunA18
namespace Go.Proofs.YtodidokeblblgaaGreatDoor
open Go.ChangeShapes Go.WideShapes Go.ChangeAt Go.RowKit Go.Lib Go.Maps
set_option linter.unusedVariables false
/-- a scorer beside a shelf, their blocks apart -/
structure TS (W w : World) (s : Nat) (S : M.Sh) (n : Nat) (B : Nat → Prop) (f : Nat) (T : Nat → Nat) (S2 : M.Sh) : Prop where
  sz : SZ W w s S n B
  hs : Has W w f T S2
  ap : ∀ q, T q ≠ 0 → ¬ B q
theorem TS.up {W w w' : World} {s : Nat} {S : M.Sh} {n : Nat} {B : Nat → Prop} {f : Nat} {T : Nat → Nat} {S2 : M.Sh} (h : TS W w s S n B f T S2) (hb : Below w.heap.size w w') : TS W w' s S n B f T S2 := ⟨h.sz.up hb, h.hs.up hb, h.ap⟩
theorem TS.lt {W w : World} {s : Nat} {S : M.Sh} {n : Nat} {B : Nat → Prop} {f : Nat} {T : Nat → Nat} {S2 : M.Sh} (h : TS W w s S n B f T S2) {q : Nat} (hq : T q ≠ 0) : q < w.heap.size := by
  by_cases z : q < w.heap.size
  · exact z
  · exact absurd (h.hs.sa.lt (by omega)) hq
/-- the scorer has done something -/
theorem TS.score {W w w' : World} {s : Nat} {S S' : M.Sh} {n n' : Nat} {B B' : Nat → Prop} {f : Nat} {T : Nat → Nat} {S2 : M.Sh} (h : TS W w s S n B f T S2) (z : SZ W w' s S' n' B') (k : KeptS w B B' w') : TS W w' s S' n' B' f T S2 :=
  ⟨z, ⟨h.hs.sa.up (fun q hq => (k.2 q (h.lt hq) (h.ap q hq)).2) k.1, z.bl, h.hs.tn⟩, fun q hq => (k.2 q (h.lt hq) (h.ap q hq)).1⟩
/-- the shelf has -/
theorem TS.shelf {W w w' : World} {s : Nat} {S : M.Sh} {n : Nat} {B : Nat → Prop} {f : Nat} {T T' : Nat → Nat} {S2 S3 : M.Sh} (h : TS W w s S n B f T S2) (hs : Has W w' f T' S3) (hk : ∀ q, q < w.heap.size → T q = 0 → T' q = 0 ∧ w'.heap[q]? = w.heap[q]?) (hz : w.heap.size ≤ w'.heap.size) : TS W w' s S n B f T' S3 := by
  have z0 : ∀ q, B q → T q = 0 := fun q hq => by
    by_cases z : T q = 0
    · exact z
    · exact absurd hq (h.ap q z)
  exact ⟨h.sz.stay hs.bl hz (fun q hq => (hk q (h.sz.lt hq).2 (z0 q hq)).2), hs, fun q hq hB => hq (hk q (h.sz.lt hB).2 (z0 q hB)).1⟩
/-- a box that neither holds -/
theorem TS.free {W w w' : World} {s : Nat} {S S' : M.Sh} {n n' : Nat} {B B' : Nat → Prop} (h : SZ W w s S n B) (k : KeptS w B B' w') {q : Nat} (h1 : ¬ B q) (hq : q < w.heap.size) {V : List Value} (hb : Bx w q V) : ¬ B' q ∧ Bx w' q V := ⟨(k.2 q hq h1).1, hb.keep (k.2 q hq h1).2⟩

theorem scV_bad {S : M.Sh} {i : Int} {n : List Nat} {r : List Int} {key tok : Int} (h : M.scF S i n r key tok ≠ 0) : M.scV S i n r key tok = (0, 0, 0) := by unfold M.scV; rw [if_pos h]
theorem sc_first : M.scF M.sh0 ((0 : Nat) : Int) [97] [] 0 0 = 5 := by decide

set_option maxHeartbeats 32000000 in
set_option maxRecDepth 10000 in
theorem tells_walkS (a : Option Addr) (l : List CaC) (ca : Nat) (nl : List Nat) (b : Option Addr) (xs : List Int) (cb : Nat) (key tok times : Int) (W : World) (h : RdC W a l) (hn : isB nl) (hnl : nl.length ≤ 9223372036854775807) (hx : Rd W b xs) (hL : Lays W) :
    Calls Tryz.prog 6 #[.slice a l.length ca, .string (byStr nl), .slice b xs.length cb, .int .i64 key, .int .i64 tok, .int .i64 times] W fun e w' => e = .returned (.bool true) ∧ Below W.heap.size W w' := by
  have ll : l.length ≤ 9223372036854775807 := h.1
  have lx : xs.length ≤ 9223372036854775807 := hx.1
  have HC := hide h
  have HX := hide hx
  have HN := hide (And.intro hn hnl)
  have ER : Hid (∀ c n V, Below W.heap.size W V → Calls Tryz.prog 10 #[errV c, .int .i64 n] V fun e w' => e = .returned (.bool (c == n)) ∧ Below V.heap.size V w') := fun c n V hV => error_any c n V (hL.below hV)
  have NW := hide (sc_New (Below.refl W.heap.size W))
  clear h hx hL hn hnl
  go_enter Tryz.func6, Tryz.ntmps6
  go_upto_region 2 with (go_at_call 31; refine NW.out.mono ?_; rintro e w1 ⟨s, B0, rfl, z1, b1, lo⟩; have Z1 := hide z1; clear z1 b1 lo)
  clear NW
  have NS := hide (sh_New w1)
  go_upto_region 3 with (go_at_call 7; refine NS.out.mono ?_; rintro e w2 ⟨f, T0, rfl, sa, b2, tn⟩; have T1 : Hid (TS W w2 s M.sh0 0 B0 f T0 M.sh0) := ⟨Z1.out.up b2, ⟨sa, below_on Z1.out.bl b2, fun q hq => Nat.le_trans Z1.out.bl.size (tn q hq)⟩, fun q hq hB => by have := tn q hq; have := (Z1.out.lt hB).2; omega⟩; clear sa b2 tn)
  clear NS Z1
  have hf : M.hrF 0 2 = 6 := by decide
  have HE := hide (sc_Hear_no T1.out.sz (.int .i64 0) (.int .i64 0) (.int .i64 0) (.string ⟨#[]⟩) (.int .i64 0) (.int .i64 0) (.slice none 0 0) 2 (by omega) (by rw [hf]; decide))
  rw [hf, err_some (show (6 : Int) ≠ 0 by decide)] at HE
  have E6 : Hid (∀ V, Below W.heap.size W V → Calls Tryz.prog 10 #[errV 6, .int .i64 6] V fun e w' => e = .returned (.bool true) ∧ Below V.heap.size V w') := fun V hV => ER.out 6 6 V hV
  have E5 : Hid (∀ V, Below W.heap.size W V → Calls Tryz.prog 10 #[errV 5, .int .i64 5] V fun e w' => e = .returned (.bool true) ∧ Below V.heap.size V w') := fun V hV => ER.out 5 5 V hV
  rw [err_some (show (6 : Int) ≠ 0 by decide)] at E6
  rw [err_some (show (5 : Int) ≠ 0 by decide)] at E5
  clear hf
  go_upto_region 5 with (first
    | (go_at_call 10; refine (E6.out w3 T3.out.sz.bl).mono ?_; rintro e w4 ⟨rfl, b4⟩; have T4 := hide (T3.out.up b4); clear b4)
    | (go_at_call 32; refine HE.out.mono ?_; rintro e w3 ⟨rfl, _, b3⟩; have T3 := hide (T1.out.up b3); clear b3))
  clear HE E6 T1 T3
  have S0 := hide (sc_Score T4.out.sz (n := [97]) (by intro x hx; rw [List.mem_singleton] at hx; omega) (by show 1 ≤ _; omega) none [] 0 ⟨Nat.zero_le _, fun hh => absurd rfl hh⟩ 0 0 (by omega))
  rw [sc_first, scV_bad (by rw [sc_first]; decide), err_some (show (5 : Int) ≠ 0 by decide)] at S0
  have e97 : byStr [97] = ⟨#[97]⟩ := rfl
  rw [e97] at S0
  unfold scoV at S0
  clear e97
  go_upto_region 6 with (go_at_call 33; refine S0.out.mono ?_; rintro e w5 ⟨rfl, B5, z5, k5⟩; have T5 := hide (T4.out.score z5 k5); clear z5 k5)
  clear S0 T4
  have T6 : Hid (TS W (w5.alloc (.cells #[.int .i64 0, .int .i64 0, .int .i64 0] 77)) s M.sh0 0 B5 f T0 M.sh0) := T5.out.up ((Below.refl _ _).alloc (Nat.le_refl _) _)
  obtain ⟨w6, hw6⟩ : ∃ X, X = w5.alloc (.cells #[.int .i64 0, .int .i64 0, .int .i64 0] 77) := ⟨_, rfl⟩
  rw [← hw6] at T6 ⊢
  clear hw6 T5
  go_upto_region 10 with (go_at_call 10; refine (E5.out w6 T6.out.sz.bl).mono ?_; rintro e w7 ⟨rfl, b7⟩; have T7 := hide (T6.out.up b7); clear b7)
  clear E5 T6
  go_wp2
  go_loopw [1, 15, 16, 20, 21, 22, 23, 24, 25, 26, 27, 28] (fun nm _ _ i _ _ _ _ _ _ _ _ wr => ∃ (k : Nat) (S : M.Sh) (B : Nat → Prop) (T : Nat → Nat) (nl : List Nat), k ≤ l.length ∧ k ≤ 30 ∧ i = .int .i64 k ∧ nm = .string (byStr nl) ∧ Hid (isB nl ∧ nl.length ≤ 9223372036854775807) ∧ Hid (TS W wr s S k B f T S)) (fun _ _ _ i _ _ _ _ _ _ _ _ _ => 30 - (intOf i).toNat)
  case atStart => exact ⟨0, M.sh0, B5, T0, nl, Nat.zero_le _, by omega, rfl, rfl, HN, T7⟩
  case round =>
    clear T7 HN
    obtain ⟨k, S, B, T, nl, hk, hk30, rfl, rfl, HN, TT⟩ := hrel
    by_cases hlt : k < l.length ∧ k < 30
    case neg =>
      have ways : (decide ((k : Int) < (l.length : Int)) = false ∧ decide (k < l.length) = false) ∨ (decide ((k : Int) < (l.length : Int)) = true ∧ decide (k < l.length) = true ∧ decide ((k : Int) < 30) = false ∧ decide (k < 30) = false) := by
        simp only [decide_eq_true_iff, decide_eq_false_iff_not]; omega
      have KB := hide TT.out.sz.bl
      clear hlt HC HX TT HN
      rcases ways with ⟨t1, t1'⟩ | ⟨t1, t1', t2, t2'⟩
      all_goals (
        go_wp2
        go_ret
        exact ⟨rfl, KB.out⟩)
    case pos =>
      obtain ⟨hl1, hl2⟩ := hlt
      have g1 : decide ((k : Int) < (l.length : Int)) = true := decide_eq_true (by omega)
      have g2 : decide ((k : Int) < 30) = true := decide_eq_true (by omega)
      have g1' : decide (k < l.length) = true := decide_eq_true hl1
      have g2' : decide (k < 30) = true := decide_eq_true hl2
      have kz : (k : Int) < (l.length : Int) := by omega
      have i1 : IntKind.i64.wrap ((k : Int) + 1) = (k : Int) + 1 := i64_in (by omega) (by omega)
      have mem : l.getD k ca0 ∈ l := by rw [List.getD, List.getElem?_eq_getElem hl1]; exact List.getElem_mem hl1
      have ci := HC.out.2.1 _ mem
      obtain ⟨bb, off, rfl, hbl, _⟩ := HC.out.2.2 (by intro e; rw [e] at hl1; simp at hl1)
      have SV : Hid (∀ V, Below W.heap.size W V → SevenAt V bb (off + k * 7) (l.getD k ca0)) := fun V hV => by
        obtain ⟨b2, o2, e2, _, sv, _⟩ := rdc_at (HC.out.below hV) hl1
        cases e2
        exact sv
      have CI := hide ci
      have NIN : Hid (isB (l.getD k ca0).1.name ∧ (l.getD k ca0).1.name.length ≤ 9223372036854775807) := ⟨ci.nb, ci.nl⟩
      have IX : Hid (S.idx ≤ 900) := by
        obtain ⟨_, _, _, _, _, _, sc, _⟩ := TT.out.sz
        have := sc.ix
        unfold Hid
        omega
      have HE := hide (sc_Hear TT.out.sz ci (by omega))
      clear mem ci hbl
      generalize l.getD k ca0 = ck at *
      have s0 := SV.out wr TT.out.sz.bl
      obtain ⟨c0, c1, c2, c3, c4, c5, c6⟩ := s0
      unfold caV at HE
      go_upto_region 13 with (go_at_call 32; refine HE.out.mono ?_; rintro e w5 ⟨rfl, B5, z5, k5⟩; have T5 := hide (TT.out.score z5 k5); clear z5 k5)
      clear HE TT c0 c1 c2 c3 c4 c5 c6
      have DO := hide (T5.out.hs.doIt CI.out IX.out)
      have s0 := SV.out w5 T5.out.sz.bl
      obtain ⟨c0, c1, c2, c3, c4, c5, c6⟩ := s0
      unfold caV at DO
      generalize hS9 : (M.shDo S ck.1).2.2 = S9 at *
      clear hS9
      generalize errV (M.shDo S ck.1).2.1 = e9 at *
      generalize anV (M.shDo S ck.1).1 = a9 at *
      go_upto_region 14 with (go_at_call 9; refine DO.out.mono ?_; rintro e w6 ⟨rfl, T6', h6, k6, z6⟩; have T6 := hide (T5.out.shelf h6 k6 z6); clear h6 k6 z6)
      clear DO T5 c0 c1 c2 c3 c4 c5 c6 CI IX
      have ID := hide (sc_Index T6.out.sz)
      have pc : ((k + 1 : Nat) : Int) = (k : Int) + 1 := by omega
      rw [pc] at ID
      clear pc
      go_upto_region 16 with (go_at_call 35; refine ID.out.mono ?_; rintro e w7 ⟨rfl, ew⟩; have ew2 := ew.symm; subst ew2)
      clear ID
      have s0 := SV.out w6 T6.out.sz.bl
      have c3 := s0.2.2.2.1
      clear s0
      obtain ⟨nmk, hnmk⟩ : ∃ x, x = byStr ck.1.name := ⟨_, rfl⟩
      rw [← hnmk] at c3
      have HNM : Hid (nmk = byStr ck.1.name) := hnmk
      clear hnmk
      go_upto_if 88 with fail
      go_cut [1] from 89 to 93 (fun v wx => ∃ nl2 : List Nat, v = .string (byStr nl2) ∧ Hid (isB nl2 ∧ nl2.length ≤ 9223372036854775807) ∧ wx = w6)
      case first =>
        by_cases z : 0 < nmk.size
        · have t1 : decide (0 < (nmk.size : Int)) = true := decide_eq_true (by omega)
          have t2 : decide (0 < nmk.size) = true := decide_eq_true z
          go_wp2
          go_meet
          case rel => exact ⟨_, by rw [HNM.out], NIN, rfl⟩
        · have t1 : decide (0 < (nmk.size : Int)) = false := decide_eq_false (by omega)
          have t2 : decide (0 < nmk.size) = false := decide_eq_false z
          go_wp2
          go_meet
          case rel => exact ⟨_, rfl, HN, rfl⟩
      case rest =>
        obtain ⟨nl2, rfl, HM, ewr⟩ := hcut
        subst ewr
        obtain ⟨wo, hwo⟩ : ∃ X, X = wc := ⟨_, rfl⟩
        subst hwo
        clear HN NIN SV c3
        go_wp2
        go_loopw [16, 21, 22, 23, 24, 25, 26, 27, 28] (fun _ q _ _ _ _ _ _ _ wr => ∃ (m : Nat) (B : Nat → Prop), m ≤ 3 ∧ q = .int .i64 m ∧ Hid (TS W wr s S9 (k + 1) B f T6' S9)) (fun _ q _ _ _ _ _ _ _ _ => 3 - (intOf q).toNat)
        case atStart => exact ⟨0, B5, by omega, rfl, T6⟩
        case round =>
          clear T6
          obtain ⟨m, B, hm, rfl, TT⟩ := hrel
          by_cases mlt : (m : Int) < times ∧ m < 3
          case neg =>
            have ways : (decide ((m : Int) < times) = false) ∨ (decide ((m : Int) < times) = true ∧ decide ((m : Int) < 3) = false ∧ decide (m < 3) = false) := by
              simp only [decide_eq_true_iff, decide_eq_false_iff_not]; omega
            clear mlt HC HX
            go_upto_region 19 with fail
            go_cut [100] from 94 to 100 (fun v wx => v = .bool false ∧ wx = wr)
            case first =>
              rcases ways with t1 | ⟨t1, t2, t2'⟩
              all_goals (
                go_wp2
                go_meet
                case rel => exact ⟨rfl, rfl⟩)
            case rest =>
            obtain ⟨rfl, ewr⟩ := hcut
            subst ewr
            clear ways
            have CA := hide (sc_Cached TT.out.sz)
            go_wp2_with (go_at_call 34; refine CA.out.mono ?_; rintro e w8 ⟨nc, rfl, n4, ew⟩; have ew2 := ew; subst ew2; have t4 : decide ((4 : Int) < (nc : Int)) = false := decide_eq_false (by omega); have t4' : decide (4 < nc) = false := decide_eq_false (by omega))
            go_roundw
            case rel => exact ⟨k + 1, S9, B, T6', nl2, by omega, by omega, by go_num, rfl, HM, TT⟩
            case measure => simp [intOf]; omega
          case pos =>
            obtain ⟨ml1, ml2⟩ := mlt
            have m1 : decide ((m : Int) < times) = true := decide_eq_true ml1
            have m2 : decide ((m : Int) < 3) = true := decide_eq_true (by omega)
            have m2' : decide (m < 3) = true := decide_eq_true ml2
            have SCO := sc_Score TT.out.sz HM.out.1 HM.out.2 b xs cb (HX.out.below TT.out.sz.bl) key tok (by omega)
            have AFT : Hid (∀ w8 B8 (v : Int × Int × Int), SZ W w8 s S9 (k + 1) B8 → KeptS wr B B8 w8 → TS W (w8.alloc (.cells #[.int .i64 v.1, .int .i64 v.2.1, .int .i64 v.2.2] 77)) s S9 (k + 1) B8 f T6' S9 ∧ Bx (w8.alloc (.cells #[.int .i64 v.1, .int .i64 v.2.1, .int .i64 v.2.2] 77)) w8.heap.size [.int .i64 v.1, .int .i64 v.2.1, .int .i64 v.2.2]) := fun w8 B8 v z8 k8 => ⟨(TT.out.score z8 k8).up ((Below.refl _ _).alloc (Nat.le_refl _) _), bx_new w8 _ _⟩
            unfold scoV at SCO
            by_cases A : M.timeB tok = false
            · have hF : M.scF S9 ((k + 1 : Nat) : Int) nl2 xs key tok = 1 := by unfold M.scF; rw [if_pos A]
              have E1 : Hid (∀ V, Below W.heap.size W V → Calls Tryz.prog 10 #[errV 1, .int .i64 1] V fun e w' => e = .returned (.bool true) ∧ Below V.heap.size V w') := fun V hV => ER.out 1 1 V hV
              rw [hF, scV_bad (by rw [hF]; decide), err_some (show (1 : Int) ≠ 0 by decide)] at SCO
              rw [err_some (show (1 : Int) ≠ 0 by decide)] at E1
              have ways : decide (tok < 0) = true ∨ (decide (tok < 0) = false ∧ decide (1000000 < tok) = true) := by
                unfold M.timeB at A
                simp only [decide_eq_true_iff, decide_eq_false_iff_not, Bool.and_eq_false_iff] at A ⊢
                omega
              have SC1 := hide SCO
              have AF := hide (fun w8 B8 z8 k8 => AFT.out w8 B8 (0, 0, 0) z8 k8)
              clear SCO hF A HC HX ER AFT TT
              generalize byStr nl2 = nm at *
              rcases ways with t1 | ⟨t1, t2⟩
              all_goals (
                go_wp2_with (first
                  | (go_at_call 10; refine (E1.out _ T9.out.1.sz.bl).mono ?_; rintro e w9 ⟨rfl, b9⟩; have T10 := hide (T9.out.1.up b9); clear b9)
                  | (go_at_call 33; refine SC1.out.mono ?_; rintro e w8 ⟨rfl, B8, z8, k8⟩; have T9 := hide (AF.out w8 B8 z8 k8); clear z8 k8))
                go_roundw
                case rel => exact ⟨m + 1, B8, by omega, by go_num, T10⟩
                case measure => simp [intOf]; omega)
            · have kr : 0 ≤ tok ∧ tok ≤ 1000000 := by
                unfold M.timeB at A
                simp only [Bool.and_eq_false_iff, decide_eq_false_iff_not] at A
                omega
              have t1 : decide (tok < 0) = false := decide_eq_false (by omega)
              have t2 : decide (1000000 < tok) = false := decide_eq_false (by omega)
              by_cases C : (k : Int) + 1 < tok
              · have hF : M.scF S9 ((k + 1 : Nat) : Int) nl2 xs key tok = 6 := by unfold M.scF; rw [if_neg A, if_pos (by omega)]
                have E6 : Hid (∀ V, Below W.heap.size W V → Calls Tryz.prog 10 #[errV 6, .int .i64 6] V fun e w' => e = .returned (.bool true) ∧ Below V.heap.size V w') := fun V hV => ER.out 6 6 V hV
                rw [hF, scV_bad (by rw [hF]; decide), err_some (show (6 : Int) ≠ 0 by decide)] at SCO
                rw [err_some (show (6 : Int) ≠ 0 by decide)] at E6
                have t3 : decide ((k : Int) + 1 < tok) = true := decide_eq_true C
                have SC1 := hide SCO
                have AF := hide (fun w8 B8 z8 k8 => AFT.out w8 B8 (0, 0, 0) z8 k8)
                clear SCO hF A C kr HC HX ER AFT TT
                generalize byStr nl2 = nm at *
                go_wp2_with (first
                  | (go_at_call 10; refine (E6.out _ T9.out.1.sz.bl).mono ?_; rintro e w9 ⟨rfl, b9⟩; have T10 := hide (T9.out.1.up b9); clear b9)
                  | (go_at_call 33; refine SC1.out.mono ?_; rintro e w8 ⟨rfl, B8, z8, k8⟩; have T9 := hide (AF.out w8 B8 z8 k8); clear z8 k8))
                go_roundw
                case rel => exact ⟨m + 1, B8, by omega, by go_num, T10⟩
                case measure => simp [intOf]; omega
              · have t3 : decide ((k : Int) + 1 < tok) = false := decide_eq_false C
                have SF : M.scF S9 ((k + 1 : Nat) : Int) nl2 xs key tok = if M.pickF S9 nl2 key ≠ 0 then M.pickF S9 nl2 key else M.standF (M.grvO S9 (M.pickO S9 nl2 key)) xs := by unfold M.scF; rw [if_neg A, if_neg (by omega)]
                have PK : Hid (∀ w9 B9, TS W w9 s S9 (k + 1) B9 f T6' S9 → Calls Tryz.prog 16 #[.pointer (some ⟨f, 0, none⟩), .string (byStr nl2), .int .i64 key] w9 fun e w' => e = .returned (.tuple #[vnV (M.pickV S9 nl2 key), errV (M.pickF S9 nl2 key)]) ∧ Below w9.heap.size w9 w') := fun w9 B9 h9 => by
                  obtain ⟨mm, ml, D, E0, kb, mb, va, vc, G, sv⟩ := h9.hs.sa
                  exact sh_PickW sv HM.out.1 HM.out.2 key
                clear kr C A
                by_cases q3 : M.pickF S9 nl2 key ≠ 0
                · have hF : M.scF S9 ((k + 1 : Nat) : Int) nl2 xs key tok = M.pickF S9 nl2 key := by rw [SF, if_pos q3]
                  rw [hF, scV_bad (by rw [hF]; exact q3), err_some q3] at SCO
                  have SC1 := hide SCO
                  have AF := hide (fun w8 B8 z8 k8 => AFT.out w8 B8 (0, 0, 0) z8 k8)
                  unfold vnV at PK
                  simp only [err_some q3] at PK
                  clear SCO SF hF q3 HC HX ER AFT TT
                  generalize byStr nl2 = nm at *
                  generalize M.pickF S9 nl2 key = pf at *
                  generalize M.pickV S9 nl2 key = pv at *
                  go_wp2_with (first
                    | (go_at_call 16; refine (PK.out _ _ T9.out.1).mono ?_; rintro e w9 ⟨rfl, b9⟩; have T10 := hide ((T9.out.1.up b9).up ((Below.refl _ w9).alloc (Nat.le_refl _) (.cells #[.string (byStr pv.name), .int .i64 pv.num, .int .i64 pv.stage, .int .i64 pv.share] 49))); clear b9)
                    | (go_at_call 33; refine SC1.out.mono ?_; rintro e w8 ⟨rfl, B8, z8, k8⟩; have T9 := hide (AF.out w8 B8 z8 k8); clear z8 k8))
                  go_roundw
                  case rel => exact ⟨m + 1, B8, by omega, by go_num, T10⟩
                  case measure => simp [intOf]; omega
                · have p0 : M.pickF S9 nl2 key = 0 := by omega
                  have ⟨k', hk'⟩ : ∃ k', M.pickO S9 nl2 key = some k' := by
                    cases e : M.pickO S9 nl2 key with
                    | some k => exact ⟨k, rfl⟩
                    | none =>
                      unfold M.pickF at p0
                      rw [e] at p0
                      split at p0
                      · cases p0
                      · cases p0
                  obtain ⟨k1, k2, k3⟩ := M.pick_is hk'
                  have PV : M.pickV S9 nl2 key = vAt S9 k' := by
                    unfold M.pickV
                    unfold M.pickF at p0
                    split
                    · rename_i q; rw [if_pos q] at p0; cases p0
                    · rw [hk']; rfl
                  have GO : M.grvO S9 (M.pickO S9 nl2 key) = (S9.l.getD k' M.vg0).2 := by rw [hk']; rfl
                  have gg : M.groveF (S9.l.getD k' M.vg0).2 = 0 := by
                    obtain ⟨_, _, _, _, _, _, sc, _⟩ := TT.out.sz
                    exact sc.gg k' k1
                  have nu : M.numY (M.kyL S9.l) ∧ S9.l.length ≤ 1000000 := by
                    obtain ⟨_, _, _, _, _, _, sc, _⟩ := TT.out.sz
                    have ix := sc.ix
                    obtain ⟨mm, ml, D, E0, kb, mb, va, vc, G, sv⟩ := sc.has.sa
                    have := sv.inv.ll
                    exact ⟨sv.inv.nu, by omega⟩
                  have nmi := M.num_in nu.1 nu.2 k1
                  have lnm : (vAt S9 k').name.length ≤ 9223372036854775807 := by rw [k2]; exact HM.out.2
                  have GR : Hid (∀ w9 B9, TS W w9 s S9 (k + 1) B9 f T6' S9 → Calls Tryz.prog 20 #[.pointer (some ⟨f, 0, none⟩), .string (byStr (vAt S9 k').name), .int .i64 (vAt S9 k').num] w9 fun e w' => ∃ J : Gr, e = .returned (.tuple #[J.v, .nilIface]) ∧ Hid (J.m = (S9.l.getD k' M.vg0).2 ∧ RdG w' J) ∧ Below w9.heap.size w9 w') := fun w9 B9 h9 => by
                    obtain ⟨mm, ml, D, E0, kb, mb, va, vc, G, sv⟩ := h9.hs.sa
                    refine (sh_Grove sv lnm nmi (M.ver_at nu.1 k1) k3 gg).mono ?_
                    rintro e w' ⟨J, rfl, j1, j2, j3⟩
                    exact ⟨J, rfl, ⟨j1, j2 w' (Nat.le_refl _) (fun _ _ _ => rfl)⟩, j3⟩
                  have EV : Hid (∀ w9 (J : Gr), J.m = (S9.l.getD k' M.vg0).2 → RdG w9 J → Below W.heap.size W w9 → Calls Tryz.prog 36 #[J.v, .slice b xs.length cb] w9 fun e w' => e = .returned (.tuple #[.int .i64 (M.evalG (S9.l.getD k' M.vg0).2 xs), errV (M.standF (S9.l.getD k' M.vg0).2 xs)]) ∧ Below w9.heap.size w9 w') := fun w9 J hm hr hb => by
                    have := geval_any J b xs cb w9 hr (HX.out.below hb)
                    rw [hm] at this
                    exact this
                  have hF : M.scF S9 ((k + 1 : Nat) : Int) nl2 xs key tok = M.standF (S9.l.getD k' M.vg0).2 xs := by rw [SF, if_neg q3, GO]
                  have hV : M.standF (S9.l.getD k' M.vg0).2 xs = 0 → M.scV S9 ((k + 1 : Nat) : Int) nl2 xs key tok = (M.evalG (S9.l.getD k' M.vg0).2 xs, (vAt S9 k').num, (k : Int) + 1) := fun hz => by
                    unfold M.scV
                    rw [if_neg (by rw [hF, hz]; simp), GO, PV]
                    rfl
                  unfold Gr.v at GR EV
                  unfold vnV at PK
                  simp only [PV, p0, err_nil rfl] at PK
                  clear SF q3 p0 hk' k1 k2 k3 PV GO gg nu nmi lnm HC HX ER
                  by_cases q4 : M.standF (S9.l.getD k' M.vg0).2 xs = 0
                  · rw [hF, hV q4, q4, err_nil rfl] at SCO
                    simp only [q4, err_nil rfl] at EV
                    have SC1 := hide SCO
                    have AF := hide (fun w8 B8 z8 k8 => AFT.out w8 B8 (M.evalG (S9.l.getD k' M.vg0).2 xs, (vAt S9 k').num, (k : Int) + 1) z8 k8)
                    clear SCO hF hV q4 AFT TT
                    generalize M.evalG (S9.l.getD k' M.vg0).2 xs = ev at *
                    generalize byStr nl2 = nm at *
                    generalize byStr (vAt S9 k').name = x0 at *
                    generalize (vAt S9 k').num = x1 at *
                    generalize (vAt S9 k').stage = x2 at *
                    generalize (vAt S9 k').share = x3 at *
                    generalize (S9.l.getD k' M.vg0).2 = gv at *
                    go_upto_region 22 with (go_at_call 33; refine SC1.out.mono ?_; rintro e w8 ⟨rfl, B8, z8, k8⟩; have T9 := hide (AF.out w8 B8 z8 k8); clear z8 k8)
                    obtain ⟨w9, hw9⟩ : ∃ X, X = w8.alloc (.cells #[.int .i64 ev, .int .i64 x1, .int .i64 ((k : Int) + 1)] 77) := ⟨_, rfl⟩
                    obtain ⟨xa, hxa⟩ : ∃ x, x = w8.heap.size := ⟨_, rfl⟩
                    have T10 : Hid (TS W w9 s S9 (k + 1) B8 f T6' S9 ∧ Bx w9 xa [.int .i64 ev, .int .i64 x1, .int .i64 ((k : Int) + 1)]) := by unfold Hid; rw [hw9, hxa]; exact T9.out
                    rw [← hw9]
                    simp only [← hxa]
                    clear hw9 hxa T9 SC1 AF
                    have PK1 := hide (PK.out w9 B8 T10.out.1)
                    go_upto_region 31 with (go_at_call 16; refine PK1.out.mono ?_; rintro e w10 ⟨rfl, b10⟩; have T11 := hide (And.intro (T10.out.1.up b10) (T10.out.2.keep (b10.block _ T10.out.2.lt))); clear b10)
                    obtain ⟨w11, hw11⟩ : ∃ X, X = w10.alloc (.cells #[.string x0, .int .i64 x1, .int .i64 x2, .int .i64 x3] 49) := ⟨_, rfl⟩
                    obtain ⟨vb, hvb⟩ : ∃ x, x = w10.heap.size := ⟨_, rfl⟩
                    have T12 : Hid (TS W w11 s S9 (k + 1) B8 f T6' S9 ∧ Bx w11 xa [.int .i64 ev, .int .i64 x1, .int .i64 ((k : Int) + 1)] ∧ Bx w11 vb [.string x0, .int .i64 x1, .int .i64 x2, .int .i64 x3]) := by
                      have ba : Below w10.heap.size w10 w11 := by rw [hw11]; exact (Below.refl _ _).alloc (Nat.le_refl _) _
                      exact ⟨T11.out.1.up ba, T11.out.2.keep (ba.block _ T11.out.2.lt), by rw [hw11, hvb]; exact bx_new w10 _ _⟩
                    rw [← hw11]
                    simp only [← hvb]
                    clear hw11 hvb PK PK1 T10 T11
                    have GR1 := hide (GR.out w11 B8 T12.out.1)
                    have v0 := T12.out.2.2.cell 0 _ rfl
                    have v1 := T12.out.2.2.cell 1 _ rfl
                    go_upto_region 35 with (go_at_call 20; refine GR1.out.mono ?_; rintro e w12 ⟨J, rfl, jj, b12⟩; have JJ := hide jj.out; have T13 := hide (And.intro (T12.out.1.up b12) (And.intro (T12.out.2.1.keep (b12.block _ T12.out.2.1.lt)) (T12.out.2.2.keep (b12.block _ T12.out.2.2.lt)))); clear b12 jj)
                    obtain ⟨w13, hw13⟩ : ∃ X, X = w12.alloc (.cells #[.int .i64 J.f, .int .i64 J.w, .slice J.wa J.ws.length J.wc, .slice J.ta J.ks.length J.tc] 53) := ⟨_, rfl⟩
                    obtain ⟨gb, hgb⟩ : ∃ x, x = w12.heap.size := ⟨_, rfl⟩
                    have T14 : Hid ((TS W w13 s S9 (k + 1) B8 f T6' S9 ∧ Bx w13 xa [.int .i64 ev, .int .i64 x1, .int .i64 ((k : Int) + 1)] ∧ Bx w13 vb [.string x0, .int .i64 x1, .int .i64 x2, .int .i64 x3]) ∧ Bx w13 gb [.int .i64 J.f, .int .i64 J.w, .slice J.wa J.ws.length J.wc, .slice J.ta J.ks.length J.tc] ∧ RdG w13 J) := by
                      have ba : Below w12.heap.size w12 w13 := by rw [hw13]; exact (Below.refl _ _).alloc (Nat.le_refl _) _
                      exact ⟨⟨T13.out.1.up ba, T13.out.2.1.keep (ba.block _ T13.out.2.1.lt), T13.out.2.2.keep (ba.block _ T13.out.2.2.lt)⟩, by rw [hw13, hgb]; exact bx_new w12 _ _, JJ.out.2.below ba⟩
                    rw [← hw13]
                    simp only [← hgb]
                    clear hw13 hgb GR GR1 T12 T13 v0 v1
                    have y0 := T14.out.2.1.cell 0 _ rfl
                    have y1 := T14.out.2.1.cell 1 _ rfl
                    have y2 := T14.out.2.1.cell 2 _ rfl
                    have y3 := T14.out.2.1.cell 3 _ rfl
                    have EV1 := hide (EV.out w13 J JJ.out.1 T14.out.2.2 T14.out.1.1.sz.bl)
                    go_upto_region 36 with (go_at_call 36; refine EV1.out.mono ?_; rintro e w14 ⟨rfl, b14⟩; have T15 := hide (And.intro (T14.out.1.1.up b14) (And.intro (T14.out.1.2.1.keep (b14.block _ T14.out.1.2.1.lt)) (T14.out.1.2.2.keep (b14.block _ T14.out.1.2.2.lt)))); clear b14)
                    have u0 := T15.out.2.1.cell 0 _ rfl
                    have u1 := T15.out.2.1.cell 1 _ rfl
                    have u2 := T15.out.2.1.cell 2 _ rfl
                    have u3 := T15.out.2.2.cell 1 _ rfl
                    have TD : Hid (TS W w14.drew s S9 (k + 1) B8 f T6' S9) := T15.out.1.up (Below.refl _ _).drew
                    have TE : Hid (TS W w14 s S9 (k + 1) B8 f T6' S9) := T15.out.1
                    clear EV EV1 T14 T15 y0 y1 y2 y3 JJ
                    go_quiet (fail)
                    have TN : Hid (TS W (w14.drewN nq) s S9 (k + 1) B8 f T6' S9) := TE.out.up (below_drew (Below.refl _ w14) nq (Nat.le_refl _))
                    clear TD TE
                    go_wp2
                    go_roundw
                    case rel => exact ⟨m + 1, B8, by omega, by go_num, TN⟩
                    case measure => simp [intOf]; omega
                  · rw [hF, scV_bad (by rw [hF]; exact q4), err_some q4] at SCO
                    simp only [err_some q4] at EV
                    have SC1 := hide SCO
                    have AF := hide (fun w8 B8 z8 k8 => AFT.out w8 B8 (0, 0, 0) z8 k8)
                    clear SCO hF hV q4 AFT TT
                    generalize M.evalG (S9.l.getD k' M.vg0).2 xs = ev at *
                    generalize M.standF (S9.l.getD k' M.vg0).2 xs = sf at *
                    generalize byStr nl2 = nm at *
                    generalize byStr (vAt S9 k').name = x0 at *
                    generalize (vAt S9 k').num = x1 at *
                    generalize (vAt S9 k').stage = x2 at *
                    generalize (vAt S9 k').share = x3 at *
                    generalize (S9.l.getD k' M.vg0).2 = gv at *
                    go_upto_region 22 with (go_at_call 33; refine SC1.out.mono ?_; rintro e w8 ⟨rfl, B8, z8, k8⟩; have T9 := hide (AF.out w8 B8 z8 k8); clear z8 k8)
                    obtain ⟨w9, hw9⟩ : ∃ X, X = w8.alloc (.cells #[.int .i64 0, .int .i64 0, .int .i64 0] 77) := ⟨_, rfl⟩
                    obtain ⟨xa, hxa⟩ : ∃ x, x = w8.heap.size := ⟨_, rfl⟩
                    have T10 : Hid (TS W w9 s S9 (k + 1) B8 f T6' S9 ∧ Bx w9 xa [.int .i64 0, .int .i64 0, .int .i64 0]) := by unfold Hid; rw [hw9, hxa]; exact T9.out
                    rw [← hw9]
                    simp only [← hxa]
                    clear hw9 hxa T9 SC1 AF
                    have PK1 := hide (PK.out w9 B8 T10.out.1)
                    go_upto_region 31 with (go_at_call 16; refine PK1.out.mono ?_; rintro e w10 ⟨rfl, b10⟩; have T11 := hide (And.intro (T10.out.1.up b10) (T10.out.2.keep (b10.block _ T10.out.2.lt))); clear b10)
                    obtain ⟨w11, hw11⟩ : ∃ X, X = w10.alloc (.cells #[.string x0, .int .i64 x1, .int .i64 x2, .int .i64 x3] 49) := ⟨_, rfl⟩
                    obtain ⟨vb, hvb⟩ : ∃ x, x = w10.heap.size := ⟨_, rfl⟩
                    have T12 : Hid (TS W w11 s S9 (k + 1) B8 f T6' S9 ∧ Bx w11 xa [.int .i64 0, .int .i64 0, .int .i64 0] ∧ Bx w11 vb [.string x0, .int .i64 x1, .int .i64 x2, .int .i64 x3]) := by
                      have ba : Below w10.heap.size w10 w11 := by rw [hw11]; exact (Below.refl _ _).alloc (Nat.le_refl _) _
                      exact ⟨T11.out.1.up ba, T11.out.2.keep (ba.block _ T11.out.2.lt), by rw [hw11, hvb]; exact bx_new w10 _ _⟩
                    rw [← hw11]
                    simp only [← hvb]
                    clear hw11 hvb PK PK1 T10 T11
                    have GR1 := hide (GR.out w11 B8 T12.out.1)
                    have v0 := T12.out.2.2.cell 0 _ rfl
                    have v1 := T12.out.2.2.cell 1 _ rfl
                    go_upto_region 35 with (go_at_call 20; refine GR1.out.mono ?_; rintro e w12 ⟨J, rfl, jj, b12⟩; have JJ := hide jj.out; have T13 := hide (And.intro (T12.out.1.up b12) (And.intro (T12.out.2.1.keep (b12.block _ T12.out.2.1.lt)) (T12.out.2.2.keep (b12.block _ T12.out.2.2.lt)))); clear b12 jj)
                    obtain ⟨w13, hw13⟩ : ∃ X, X = w12.alloc (.cells #[.int .i64 J.f, .int .i64 J.w, .slice J.wa J.ws.length J.wc, .slice J.ta J.ks.length J.tc] 53) := ⟨_, rfl⟩
                    obtain ⟨gb, hgb⟩ : ∃ x, x = w12.heap.size := ⟨_, rfl⟩
                    have T14 : Hid ((TS W w13 s S9 (k + 1) B8 f T6' S9 ∧ Bx w13 xa [.int .i64 0, .int .i64 0, .int .i64 0] ∧ Bx w13 vb [.string x0, .int .i64 x1, .int .i64 x2, .int .i64 x3]) ∧ Bx w13 gb [.int .i64 J.f, .int .i64 J.w, .slice J.wa J.ws.length J.wc, .slice J.ta J.ks.length J.tc] ∧ RdG w13 J) := by
                      have ba : Below w12.heap.size w12 w13 := by rw [hw13]; exact (Below.refl _ _).alloc (Nat.le_refl _) _
                      exact ⟨⟨T13.out.1.up ba, T13.out.2.1.keep (ba.block _ T13.out.2.1.lt), T13.out.2.2.keep (ba.block _ T13.out.2.2.lt)⟩, by rw [hw13, hgb]; exact bx_new w12 _ _, JJ.out.2.below ba⟩
                    rw [← hw13]
                    simp only [← hgb]
                    clear hw13 hgb GR GR1 T12 T13 v0 v1
                    have y0 := T14.out.2.1.cell 0 _ rfl
                    have y1 := T14.out.2.1.cell 1 _ rfl
                    have y2 := T14.out.2.1.cell 2 _ rfl
                    have y3 := T14.out.2.1.cell 3 _ rfl
                    have EV1 := hide (EV.out w13 J JJ.out.1 T14.out.2.2 T14.out.1.1.sz.bl)
                    go_upto_region 36 with (go_at_call 36; refine EV1.out.mono ?_; rintro e w14 ⟨rfl, b14⟩; have T15 := hide (And.intro (T14.out.1.1.up b14) (And.intro (T14.out.1.2.1.keep (b14.block _ T14.out.1.2.1.lt)) (T14.out.1.2.2.keep (b14.block _ T14.out.1.2.2.lt)))); clear b14)
                    have u0 := T15.out.2.1.cell 0 _ rfl
                    have u1 := T15.out.2.1.cell 1 _ rfl
                    have u2 := T15.out.2.1.cell 2 _ rfl
                    have u3 := T15.out.2.2.cell 1 _ rfl
                    have TD : Hid (TS W w14.drew s S9 (k + 1) B8 f T6' S9) := T15.out.1.up (Below.refl _ _).drew
                    have TE : Hid (TS W w14 s S9 (k + 1) B8 f T6' S9) := T15.out.1
                    clear EV EV1 T14 T15 y0 y1 y2 y3 JJ
                    go_quiet (fail)
                    have TN : Hid (TS W (w14.drewN nq) s S9 (k + 1) B8 f T6' S9) := TE.out.up (below_drew (Below.refl _ w14) nq (Nat.le_refl _))
                    clear TD TE
                    go_wp2
                    go_roundw
                    case rel => exact ⟨m + 1, B8, by omega, by go_num, TN⟩
                    case measure => simp [intOf]; omega
end Go.Proofs.YtodidokeblblgaaGreatDoor

namespace Go.Proofs.YtodidokeblblgaaGreatDoor
open Go.ChangeShapes Go.WideShapes Go.ChangeAt Go.RowKit Go.Lib
set_option linter.unusedVariables false
theorem scoretells_all (a b : Option Addr) (l : List CaC) (xs : List Int) (ca cb : Nat) (name : ByteArray) (key tok times : Int) (w : World) (h : RdC w a l) (hx : Rd w b xs) (hn : name.size ≤ 9223372036854775807) (h1 : -9223372036854775808 ≤ key ∧ key ≤ 9223372036854775807) (h2 : -9223372036854775808 ≤ tok ∧ tok ≤ 9223372036854775807) (h3 : -9223372036854775808 ≤ times ∧ times ≤ 9223372036854775807) (hL : Lays w) :
    Calls Tryz.prog 6 #[.slice a l.length ca, .string name, .slice b xs.length cb, .int .i64 key, .int .i64 tok, .int .i64 times] w fun e w' => e = .returned (.bool true) ∧ Below w.heap.size w w' := by
  have z := tells_walkS a l ca (name.data.toList.map UInt8.toNat) b xs cb key tok times w h (str_isB name) (by simpa using hn) hx hL
  rwa [str_is] at z
end Go.Proofs.YtodidokeblblgaaGreatDoor
