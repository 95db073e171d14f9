/-
  Several texts as one: LogW.
-/
import Derived.Test.YtjjfmepinpmkfaaDoorRunP18
import Derived.Test.YtjjfmepinpmkfaaDoorRunP12
import Derived.Test.YtjjfmepinpmkfaaDoorRunP19
import Derived.Test.YtjjfmepinpmkfaaDoorRunP20
import Derived.BigQuiet
import Derived.Deep.Cut
import Derived.Deep.CutRange
import Derived.Deep.CutBlock
namespace Go.Proofs.YtjjfmepinpmkfaaDoor
open Go.ChangeShapes Go.WideShapes Go.ChangeAt Go.RowKit Go.Lib
set_option linter.unusedVariables false
/-- what stands at a place of two behind so many -/
def zAt (xs : List Int) (i j : Nat) : Int := if i < j then xs.getD i 0 else 0
theorem zAt_zero (xs : List Int) : [Value.int .i64 (zAt xs 0 0), Value.int .i64 (zAt xs 1 0)] = [.int .i64 0, .int .i64 0] := rfl
theorem zAt_set (xs : List Int) {j : Nat} (h : j < 2) : [Value.int .i64 (zAt xs 0 j), Value.int .i64 (zAt xs 1 j)].set j (.int .i64 (xs.getD j 0)) = [Value.int .i64 (zAt xs 0 (j + 1)), Value.int .i64 (zAt xs 1 (j + 1))] := by
  match j, h with
  | 0, _ => rfl
  | 1, _ => rfl
theorem zAt_in {xs : List Int} (h : ∀ z ∈ xs, M.I64 z) (i j : Nat) (hj : j ≤ xs.length) : M.I64 (zAt xs i j) := by
  unfold zAt
  split
  · rename_i q
    have hi : i < xs.length := by omega
    rw [List.getD, List.getElem?_eq_getElem hi]
    exact h _ (List.getElem_mem hi)
  · unfold M.I64; omega
theorem ca0_in (W : World) : CaIn W ca0.1 ca0.2.1 ca0.2.2 := ⟨(fun x hx => by cases hx), by show (0 : Nat) ≤ _; omega, ⟨Nat.zero_le _, (fun x hx => by cases hx), fun h => absurd rfl h⟩, Nat.le_refl _, by show (0 : Nat) ≤ _; omega, ⟨by show (-9223372036854775808 : Int) ≤ 0; omega, by show (0 : Int) ≤ 9223372036854775807; omega⟩, ⟨by show (-9223372036854775808 : Int) ≤ 0; omega, by show (0 : Int) ≤ 9223372036854775807; omega⟩, fun _ => rfl⟩

set_option maxHeartbeats 32000000 in
set_option maxRecDepth 10000 in
theorem plays_walk (a : Option Addr) (l : List CaC) (ca : Nat) (b : Option Addr) (ks : List Kc) (cb : Nat) (W : World) (h : RdC W a l) (hk : RdK W b ks) (hz : ∀ k ∈ ks, ∀ z ∈ k.2.1, M.I64 z) (hs : ∀ k ∈ l, k.1.name.length ≤ 1048576 ∧ k.1.bys.length ≤ 1048576) (hL : Lays W) :
    Calls Tryd.prog 3 #[.slice a l.length ca, .slice b ks.length cb] W fun e w' => e = .returned (.bool true) ∧ Below W.heap.size W w' := by
  have ll : l.length ≤ 9223372036854775807 := h.1
  have kl : ks.length ≤ 9223372036854775807 := hk.1
  have HC := hide h
  have HK := hide hk
  have HZ := hide hz
  have HS := hide hs
  have ER : Hid (∀ c n V, Below W.heap.size W V → Calls Tryd.prog 5 #[errV c, .int .i64 n] V fun e w' => e = .returned (.bool (c == n)) ∧ Below V.heap.size V w') := fun c n V hV => error_any c n V (hL.below hV)
  have NW := hide (HL.new (Below.refl W.heap.size W))
  clear h hk hz hs hL
  go_enter Tryd.func3, Tryd.ntmps3
  go_upto_region 2 with (go_at_call 4; refine NW.out.mono ?_; rintro e w1 ⟨f, rfl, h1, b1, ef⟩; have B1 := hide (Both.new h1 29); clear h1 b1 ef)
  clear NW
  go_upto_region 3 with fail
  obtain ⟨r, hr⟩ : ∃ x, x = w1.heap.size := ⟨_, rfl⟩
  rw [← hr] at B1
  simp only [← hr]
  obtain ⟨w2, hw2⟩ : ∃ X, X = w1.alloc (.cells #[.slice none 0 0, .slice none 0 0, .int .i64 0, .int .i64 0, .int .i64 (-1), .bool false] 29) := ⟨_, rfl⟩
  rw [← hw2] at B1 ⊢
  clear hw2 hr
  go_wp2
  go_loopw [7, 8, 9, 10, 11, 12, 13, 14] (fun i _ _ _ _ _ _ _ wr => ∃ (k : Nat) (va ca' ba' : Option Addr) (al : List CaC) (L : M.Lg), k ≤ ks.length ∧ k ≤ 40 ∧ i = .int .i64 k ∧ Hid (Both W wr f va r ca' ba' al L) ∧ Hid (∀ x ∈ al, CaIn W x.1 x.2.1 x.2.2)) (fun i _ _ _ _ _ _ _ _ => 40 - (intOf i).toNat)
  case atStart => exact ⟨0, none, none, none, [], M.lg0, Nat.zero_le _, by omega, rfl, B1, fun x hx => by cases hx⟩
  case round =>
    clear B1
    obtain ⟨k, va, ca', ba', al, L, hk, hk40, rfl, BB, AL⟩ := hrel
    by_cases hlt : k < ks.length ∧ k < 40
    case neg =>
      have ways : (decide ((k : Int) < (ks.length : Int)) = false ∧ decide (k < ks.length) = false) ∨ (decide ((k : Int) < (ks.length : Int)) = true ∧ decide (k < ks.length) = true ∧ decide ((k : Int) < 40) = false ∧ decide (k < 40) = false) := by
        simp only [decide_eq_true_iff, decide_eq_false_iff_not]; omega
      have KK := hide BB.out.hl.bl
      clear hlt HC HK HS HZ BB AL
      rcases ways with ⟨g1, g1'⟩ | ⟨g1, g1', g2, g2'⟩
      all_goals (
        go_wp2
        go_ret
        exact ⟨rfl, KK.out⟩)
    obtain ⟨hl1, hl2⟩ := hlt
    have g1 : decide ((k : Int) < (ks.length : Int)) = true := decide_eq_true (by omega)
    have g2 : decide ((k : Int) < 40) = true := decide_eq_true (by omega)
    have g1' : decide (k < ks.length) = true := decide_eq_true hl1
    have g2' : decide (k < 40) = true := decide_eq_true hl2
    have kz : (k : Int) < (ks.length : Int) := by omega
    have HKW := HK.out
    obtain ⟨bb, off, rfl, hbl, hce⟩ := HKW.2.2 (by intro e; rw [e] at hl1; simp at hl1)
    have ck := hce k hl1
    unfold kV at ck
    have CK : Hid (∀ w, Below W.heap.size W w → w.cell? ⟨bb, off + k, none⟩ = some (.slice ks[k].1 ks[k].2.1.length ks[k].2.2)) := fun w hw => (hw.cell (p := ⟨bb, off + k, none⟩) hbl).trans ck
    have RX := hide (HKW.2.1 _ (List.getElem_mem hl1))
    have IX := hide (HZ.out _ (List.getElem_mem hl1))
    clear HKW hce ck hbl
    generalize ks[k].1 = xa at *
    generalize ks[k].2.1 = xs at *
    generalize ks[k].2.2 = xc at *
    have xl : xs.length ≤ 9223372036854775807 := RX.out.1
    go_upto_region 7 with fail
    obtain ⟨wm, hwm⟩ : ∃ X, X = wr.alloc (.cells #[.int .i64 0, .int .i64 0] 30) := ⟨_, rfl⟩
    obtain ⟨vb, hvb⟩ : ∃ x, x = wr.heap.size := ⟨_, rfl⟩
    rw [← hwm]
    simp only [← hvb]
    have VB := hide hvb
    have BM : Hid (Below wr.heap.size wr wm) := by unfold Hid; rw [hwm]; exact (Below.refl _ _).alloc (Nat.le_refl _) _
    have V0 : Hid (Bx wm vb [.int .i64 (zAt xs 0 0), .int .i64 (zAt xs 1 0)]) := by unfold Hid; rw [hwm, hvb, zAt_zero]; exact bx_new wr _ _
    clear hwm hvb
    obtain ⟨wo, hwo⟩ : ∃ X, X = wr := ⟨_, rfl⟩
    subst hwo
    go_wp2
    go_loopw [9] (fun j wr => ∃ jn : Nat, jn ≤ xs.length ∧ jn ≤ 2 ∧ j = .int .i64 jn ∧ Hid (Below wo.heap.size wo wr) ∧ Hid (Bx wr vb [.int .i64 (zAt xs 0 jn), .int .i64 (zAt xs 1 jn)])) (fun j _ => 2 - (intOf j).toNat)
    case atStart => exact ⟨0, Nat.zero_le _, by omega, rfl, BM, V0⟩
    case round =>
      clear BM V0
      obtain ⟨jn, hj, hj2, rfl, BM, VX⟩ := hrel
      have cK := CK.out wr (below_on BB.out.hl.bl BM.out)
      by_cases jlt : jn < xs.length ∧ jn < 2
      case pos =>
        obtain ⟨j1, j2⟩ := jlt
        have t1 : decide ((jn : Int) < (xs.length : Int)) = true := decide_eq_true (by omega)
        have t2 : decide ((jn : Int) < 2) = true := decide_eq_true (by omega)
        have t1' : decide (jn < xs.length) = true := decide_eq_true j1
        have t2' : decide (jn < 2) = true := decide_eq_true j2
        have jz : (jn : Int) < (xs.length : Int) := by omega
        have jz2 : (jn : Int) < 2 := by omega
        obtain ⟨xb, xo, rfl, xbl, hxc⟩ := (RX.out.below (below_on BB.out.hl.bl BM.out)).2 (by intro e; rw [e] at j1; simp at j1)
        have cx := hxc jn j1
        have VN : Hid (Bx (wr.setCell ⟨vb, jn, none⟩ (.int .i64 (xs.getD jn 0))) vb [.int .i64 (zAt xs 0 (jn + 1)), .int .i64 (zAt xs 1 (jn + 1))]) := by
          unfold Hid
          rw [← zAt_set xs j2]
          exact VX.out.put
        have BN : Hid (Below wo.heap.size wo (wr.setCell ⟨vb, jn, none⟩ (.int .i64 (xs.getD jn 0)))) := BM.out.setCell (p := ⟨vb, jn, none⟩) (by rw [VB.out]; exact Nat.le_refl _) _
        have vc : ∃ u, wr.cell? ⟨vb, jn, none⟩ = some u := by
          match jn, j2 with
          | 0, _ => exact ⟨_, VX.out.cell 0 _ rfl⟩
          | 1, _ => exact ⟨_, VX.out.cell 1 _ rfl⟩
        obtain ⟨u, vc⟩ := vc
        have vf := VX.out.free jn
        clear hxc
        generalize xs.getD jn 0 = xj at *
        go_wp2
        go_roundw
        case rel => exact ⟨jn + 1, by omega, by omega, by go_num, BN, VN⟩
        case measure => simp [intOf]; omega
      case neg =>
        have ways : (decide ((jn : Int) < (xs.length : Int)) = false ∧ decide (jn < xs.length) = false) ∨ (decide ((jn : Int) < (xs.length : Int)) = true ∧ decide (jn < xs.length) = true ∧ decide ((jn : Int) < 2) = false ∧ decide (jn < 2) = false) := by
          simp only [decide_eq_true_iff, decide_eq_false_iff_not]; omega
        have I0 := hide (zAt_in IX.out 0 jn hj)
        have I1 := hide (zAt_in IX.out 1 jn hj)
        have B2 := hide (BB.out.up BM.out)
        have OV := hide (BB.out.out (w' := wr) (q := vb) (by rw [VB.out]; exact Nat.le_refl _) VX.out.lt)
        clear jlt IX RX
        generalize zAt xs 0 jn = x0 at *
        generalize zAt xs 1 jn = x1 at *
        have cv0 := VX.out.cell 0 _ rfl
        have cv1 := VX.out.cell 1 _ rfl
        go_upto_region 8 with fail
        go_cut [38] from 28 to 38 (fun v wx => v = .bool false ∧ wx = wr)
        case first =>
          rcases ways with ⟨t1, t1'⟩ | ⟨t1, t1', t2, t2'⟩
          all_goals (
            go_wp2
            go_meet
            case rel => exact ⟨rfl, rfl⟩)
        case rest =>
        obtain ⟨rfl, ewr⟩ := hcut
        subst ewr
        obtain ⟨wr, hwr⟩ : ∃ X, X = wc := ⟨_, rfl⟩
        subst hwr
        clear ways
        go_upto_block 4 with fail
        go_cut [10, 11, 12, 13] from 52 to 111 (fun told _ _ _ wx => told = .bool true ∧ ∃ (va2 ca2 ba2 : Option Addr) (al2 : List CaC) (L2 : M.Lg), Hid (Both W wx f va2 r ca2 ba2 al2 L2) ∧ Hid (∀ x ∈ al2, CaIn W x.1 x.2.1 x.2.2))
        case first =>
          have ERS : Hid (∀ c V, Below W.heap.size W V → Calls Tryd.prog 5 #[errV c, .int .i64 c] V fun e w' => e = .returned (.bool true) ∧ Below V.heap.size V w') := fun c V hV => by
            have := ER.out c c V hV
            rw [show (c == c) = true by simp] at this
            exact this
          clear ER HK CK HZ BM BB cK
          by_cases s03 : 0 ≤ x0 ∧ x0 ≤ 3
          case pos =>
            go_upto_if 63 with fail
            go_cut [63] from 64 to 67 (fun v wx => v = .bool true ∧ wx = wr)
            case first =>
              have w4 : x0 = 0 ∨ x0 = 1 ∨ x0 = 2 ∨ x0 = 3 := by omega
              clear s03
              rcases w4 with rfl | rfl | rfl | rfl
              all_goals (
                go_wp2
                go_meet
                case rel => exact ⟨rfl, rfl⟩)
            case rest =>
              obtain ⟨rfl, ewx⟩ := hcut
              subst ewx
              obtain ⟨wr, hwr⟩ : ∃ X, X = wc := ⟨_, rfl⟩
              subst hwr
              clear s03
              go_upto_region 23 with fail
              obtain ⟨w4, hw4⟩ : ∃ X, X = wr.alloc (.cells #[.int .i64 0, .int .i64 0, .int .i64 0, .string ⟨#[]⟩, .int .i64 0, .int .i64 0, .slice none 0 0] 33) := ⟨_, rfl⟩
              obtain ⟨cq, hcq⟩ : ∃ x, x = wr.heap.size := ⟨_, rfl⟩
              have cv1a : w4.cell? ⟨vb, 1, none⟩ = some (.int .i64 x1) := by rw [hw4]; exact (((Below.refl _ wr).alloc (Nat.le_refl _) _).cell (p := ⟨vb, 1, none⟩) VX.out.lt).trans cv1
              have BX4 : Hid (Bx w4 cq (ca7 ca0)) := by unfold Hid; rw [hw4, hcq]; exact bx_new wr (ca7 ca0) _
              have K4 : Hid (Below wr.heap.size wr w4) := by unfold Hid; rw [hw4]; exact (Below.refl _ _).alloc (Nat.le_refl _) _
              rw [← hw4]
              simp only [← hcq]
              clear cv0 cv1
              have CQ := hide hcq
              clear hw4 hcq
              have FIN : Hid (∀ (w5 : World) (kk : CaC), CaIn W kk.1 kk.2.1 kk.2.2 → (kk.1.name.length + kk.1.bys.length ≤ 140737488350000) → Bx w5 cq (ca7 kk) → Below wr.heap.size wr w5 → Both W w5.drew f va r ca' ba' al L ∧ Out w5.drew f va r ca' ba' cq ∧ Calls Tryd.prog 6 #[.pointer (some ⟨f, 0, none⟩), caV kk.1 kk.2.1 kk.2.2] w5.drew fun e w' => e = .returned (errV (M.apF L kk.1)) ∧ ∃ va', HL W w' f va' (M.apL L kk.1) ∧ HR W w' r ca' ba' al L ∧ (∀ q, LB f va' q → ¬ RBk r ca' ba' q) ∧ Bx w' cq (ca7 kk) ∧ Calls Tryd.prog 7 #[.pointer (some ⟨r, 0, none⟩), caV kk.1 kk.2.1 kk.2.2] w' fun e w7 => e = .returned (.int .i64 (M.apF L kk.1)) ∧ ∃ ca2 ba2, Both W w7 f va' r ca2 ba2 (if M.apF L kk.1 = 0 then al ++ [(kk.1, kk.2.1, kk.2.2)] else al) (M.apL L kk.1) ∧ Bx w7 cq (ca7 kk)) := fun w5 kk hi hl hb hk => by
                have b5 : Both W w5.drew f va r ca' ba' al L := (B2.out.up hk).up (Below.refl _ _).drew
                have o5 : Out w5.drew f va r ca' ba' cq := B2.out.out (w' := w5.drew) (by rw [CQ.out]; exact Nat.le_refl _) hb.lt
                have hb' : Bx w5.drew cq (ca7 kk) := hb.keep rfl
                refine ⟨b5, o5, (b5.hl.append (hi.below b5.hl.bl)).mono ?_⟩
                rintro e w6 ⟨rfl, va6, h6, k6⟩
                obtain ⟨hr6, ap6, ou6⟩ := b5.ours h6 k6
                refine ⟨rfl, va6, h6, hr6, ap6, hb'.keep (ou6 cq o5).2, (hr6.append (hi.below h6.bl) hl).mono ?_⟩
                rintro e w7 ⟨rfl, ca7', ba7', h7, k7⟩
                have th := HR.theirs h6 ap6 h7 k7
                exact ⟨rfl, ca7', ba7', th.1, (hb'.keep (ou6 cq o5).2).keep (th.2 cq (ou6 cq o5).1).2⟩
              have ALN : Hid (∀ kk : CaC, CaIn W kk.1 kk.2.1 kk.2.2 → ∀ x ∈ (if M.apF L kk.1 = 0 then al ++ [(kk.1, kk.2.1, kk.2.2)] else al), CaIn W x.1 x.2.1 x.2.2) := fun kk hi x hx => by
                split at hx
                · rcases List.mem_append.1 hx with z | z
                  · exact AL.out x z
                  · rw [List.mem_singleton] at z; subst z; exact hi
                · exact AL.out x hx
              have TWO : Hid (∃ (kk : CaC), CaIn W kk.1 kk.2.1 kk.2.2 ∧ (kk.1.name.length + kk.1.bys.length ≤ 140737488350000) ∧ ((kk = ca0 ∧ ¬ (0 ≤ x1 ∧ x1 < (l.length : Int))) ∨ (∃ j : Nat, x1 = (j : Int) ∧ j < l.length ∧ kk = l.getD j ca0))) := by
                by_cases inl : 0 ≤ x1 ∧ x1 < (l.length : Int)
                · have hj : x1.toNat < l.length := by omega
                  have mem : l.getD x1.toNat ca0 ∈ l := by rw [List.getD, List.getElem?_eq_getElem hj]; exact List.getElem_mem hj
                  refine ⟨l.getD x1.toNat ca0, HC.out.2.1 _ mem, by have := HS.out _ mem; omega, .inr ⟨x1.toNat, by omega, hj, rfl⟩⟩
                · exact ⟨ca0, ca0_in W, by show (0 : Nat) + 0 ≤ _; omega, .inl ⟨rfl, inl⟩⟩
              obtain ⟨kk, KI, KL, ways⟩ := TWO.out
              have FN := hide (fun w5 (h1 : Bx w5 cq (ca7 kk)) (h2 : Below wr.heap.size wr w5) => FIN.out w5 kk KI KL h1 h2)
              have AN := hide (ALN.out kk KI)
              clear FIN ALN TWO
              rcases ways with ⟨rfl, no⟩ | ⟨j, rfl, hj, hkk⟩
              · have tw : decide (0 ≤ x1) = false ∨ (decide (0 ≤ x1) = true ∧ decide (x1 < (l.length : Int)) = false) := by
                  simp only [decide_eq_true_iff, decide_eq_false_iff_not]; omega
                clear no KI KL HS
                have F5 := FN.out w4 BX4.out K4.out
                obtain ⟨b5, o5, AP5⟩ := F5
                have A5 := hide AP5
                clear b5 o5 AP5 FN
                have c0 := BX4.out.cell 0 _ rfl
                have c1 := BX4.out.cell 1 _ rfl
                have c2 := BX4.out.cell 2 _ rfl
                have c3 := BX4.out.cell 3 _ rfl
                have c4 := BX4.out.cell 4 _ rfl
                have c5 := BX4.out.cell 5 _ rfl
                have c6 := BX4.out.cell 6 _ rfl
                have BXS : Hid (Bx w4 cq (ca7 ca0)) := BX4
                clear K4 BX4 B2 OV VX c0 c1 c2 c3 c4 c5 c6
                unfold ca7 caV at *
                generalize M.apF L ca0.1 = ae at *
                generalize M.apL L ca0.1 = L9 at *
                generalize byStr ca0.1.name = sv at *
                generalize ca0.1.what = s0 at *
                generalize ca0.1.ses = s1 at *
                generalize ca0.1.seq = s2 at *
                generalize ca0.1.num = s4 at *
                generalize ca0.1.share = s5 at *
                generalize ca0.1.bys.length = s6 at *
                generalize ca0.2.1 = s7 at *
                generalize ca0.2.2 = s8 at *
                go_cut [77] from 68 to 77 (fun v wx => v = .bool false ∧ wx = w4)
                case first =>
                  rcases tw with t1 | ⟨t1, t2⟩
                  all_goals (
                    go_wp2
                    go_meet
                    case rel => exact ⟨rfl, rfl⟩)
                case rest =>
                obtain ⟨rfl, ewx⟩ := hcut
                subst ewx
                obtain ⟨w4, hq⟩ : ∃ X, X = wc := ⟨_, rfl⟩
                subst hq
                clear tw
                go_upto_region 25 with fail
                have kd : Bx w4.drew cq [.int .i64 s0, .int .i64 s1, .int .i64 s2, .string sv, .int .i64 s4, .int .i64 s5, .slice s7 s6 s8] := BXS.out.keep rfl
                refine wp_region_held_drew (S := fun V => Bx V cq [.int .i64 s0, .int .i64 s1, .int .i64 s2, .string sv, .int .i64 s4, .int .i64 s5, .slice s7 s6 s8]) (by kernel_rfl) kd (fun hHeld => ?_)
                refine take_lg (i := 0) (d := some 83) (v := ?v106) rfl rfl (by kernel_rfl) (by kernel_rfl) (by kernel_rfl) (fun _ _ _ h => h) (Or.inl ⟨by rfl, ?h106⟩) (by assumption) ?r106
                case h106 => (intro V hSw; have p0 := hSw.cell 0 _ rfl; have p1 := hSw.cell 1 _ rfl; have p2 := hSw.cell 2 _ rfl; have p3 := hSw.cell 3 _ rfl; have p4 := hSw.cell 4 _ rfl; have p5 := hSw.cell 5 _ rfl; have p6 := hSw.cell 6 _ rfl; clear hSw; go_simp; (try with_reducible rfl))
                simp only [Act.put, List.setIfInBounds_toArray, List.set_cons_zero, List.set_cons_succ]
                refine take_lg (i := 1) (d := some 84) (v := ?v107) rfl rfl (by kernel_rfl) (by kernel_rfl) (by kernel_rfl) (fun _ _ _ h => h) (Or.inl ⟨by rfl, ?h107⟩) (by assumption) ?r107
                case h107 => (intro V hSw; have p0 := hSw.cell 0 _ rfl; have p1 := hSw.cell 1 _ rfl; have p2 := hSw.cell 2 _ rfl; have p3 := hSw.cell 3 _ rfl; have p4 := hSw.cell 4 _ rfl; have p5 := hSw.cell 5 _ rfl; have p6 := hSw.cell 6 _ rfl; clear hSw; go_simp; (try with_reducible rfl))
                simp only [Act.put, List.setIfInBounds_toArray, List.set_cons_zero, List.set_cons_succ]
                refine take_lg (i := 3) (d := some 86) (v := ?v108) rfl rfl (by kernel_rfl) (by kernel_rfl) (by kernel_rfl) (fun _ _ _ h => h) (Or.inl ⟨by rfl, ?h108⟩) (by assumption) ?r108
                case h108 => (intro V hSw; have p0 := hSw.cell 0 _ rfl; have p1 := hSw.cell 1 _ rfl; have p2 := hSw.cell 2 _ rfl; have p3 := hSw.cell 3 _ rfl; have p4 := hSw.cell 4 _ rfl; have p5 := hSw.cell 5 _ rfl; have p6 := hSw.cell 6 _ rfl; clear hSw; go_simp; (try with_reducible rfl))
                simp only [Act.put, List.setIfInBounds_toArray, List.set_cons_zero, List.set_cons_succ]
                refine take_lg (i := 4) (d := some 87) (v := ?v109) rfl rfl (by kernel_rfl) (by kernel_rfl) (by kernel_rfl) (fun _ _ _ h => h) (Or.inl ⟨by rfl, ?h109⟩) (by assumption) ?r109
                case h109 => (intro V hSw; have p0 := hSw.cell 0 _ rfl; have p1 := hSw.cell 1 _ rfl; have p2 := hSw.cell 2 _ rfl; have p3 := hSw.cell 3 _ rfl; have p4 := hSw.cell 4 _ rfl; have p5 := hSw.cell 5 _ rfl; have p6 := hSw.cell 6 _ rfl; clear hSw; go_simp; (try with_reducible rfl))
                simp only [Act.put, List.setIfInBounds_toArray, List.set_cons_zero, List.set_cons_succ]
                refine wpAnyH_ready (rs := [2]) (by kernel_rfl) (by simp) ?_
                refine AllReadyH.cons rfl (fun K hK => ?_) AllReadyH.nil
                go_simp
                go_at_call 6
                refine A5.out.mono ?_
                rintro e w6 ⟨rfl, va6, h6, h6r, h6a, bx6, ap6⟩
                have A6 := hide ap6
                clear h6 h6r h6a ap6
                try go_wp2_with fail
                refine hK.out _ _ bx6 (fun hHeld2 => ?_)
                clear hK K hHeld2
                try simp only [Act.put, List.setIfInBounds_toArray, List.set_cons_zero, List.set_cons_succ]
                refine wpAnyH_ready (rs := [5]) (by kernel_rfl) (by simp) ?_
                refine AllReadyH.cons rfl (fun K hK => ?_) AllReadyH.nil
                go_simp
                go_at_call 7
                refine A6.out.mono ?_
                rintro e w7 ⟨rfl, ca7x, ba7x, b7, bx7⟩
                have B7 := hide b7
                clear b7
                try go_wp2_with fail
                refine hK.out _ _ bx7 (fun hHeld2 => ?_)
                clear hK K hHeld2
                try simp only [Act.put, List.setIfInBounds_toArray, List.set_cons_zero, List.set_cons_succ]
                refine wpAnyH_ready (rs := [6]) (by kernel_rfl) (by simp) ?_
                refine AllReadyH.cons rfl (fun K hK => ?_) AllReadyH.nil
                go_simp
                go_at_call 5
                refine (ERS.out ae w7 B7.out.hl.bl).mono ?_
                rintro e w8 ⟨rfl, b8⟩
                have B8 := hide (B7.out.up b8)
                have bx8 := bx7.keep (b8.block _ bx7.lt)
                clear b8
                try go_wp2_with fail
                refine hK.out _ _ bx8 (fun hHeld2 => ?_)
                clear hK K hHeld2
                try simp only [Act.put, List.setIfInBounds_toArray, List.set_cons_zero, List.set_cons_succ]
                refine take_lg (i := 7) (d := some 10) (v := ?v110) rfl rfl (by kernel_rfl) (by kernel_rfl) (by kernel_rfl) (fun _ _ _ h => h) (Or.inl ⟨by rfl, ?h110⟩) (by assumption) ?r110
                case h110 => (intro V hSw; have p0 := hSw.cell 0 _ rfl; have p1 := hSw.cell 1 _ rfl; have p2 := hSw.cell 2 _ rfl; have p3 := hSw.cell 3 _ rfl; have p4 := hSw.cell 4 _ rfl; have p5 := hSw.cell 5 _ rfl; have p6 := hSw.cell 6 _ rfl; clear hSw; go_simp; (try with_reducible rfl))
                simp only [Act.put, List.setIfInBounds_toArray, List.set_cons_zero, List.set_cons_succ]
                refine wpAnyH_done (by kernel_rfl) ?_ _
                clear kd bx6 bx7 bx8
                go_wp2
                go_meet
                case rel => exact ⟨rfl, va6, ca7x, ba7x, _, L9, B8, AN⟩
              · have mem : l.getD j ca0 ∈ l := by rw [List.getD, List.getElem?_eq_getElem hj]; exact List.getElem_mem hj
                have t1 : decide (0 ≤ (j : Int)) = true := decide_eq_true (by omega)
                have t2 : decide ((j : Int) < (l.length : Int)) = true := decide_eq_true (by omega)
                have t2' : decide (j < l.length) = true := decide_eq_true hj
                have jz : (j : Int) < (l.length : Int) := by omega
                obtain ⟨cb1, co1, rfl, cbl, sv, ci⟩ := (HC.out.below (below_on B2.out.hl.bl K4.out)).at hj
                rw [← hkk] at sv
                obtain ⟨c0, c1, c2, c3, c4, c5, c6⟩ := sv
                clear ci hkk KI KL mem HS
                obtain ⟨w5, hw5⟩ : ∃ X, X = ((((((w4.setCell ⟨cq, 0, none⟩ (.int .i64 kk.1.what)).setCell ⟨cq, 1, none⟩ (.int .i64 kk.1.ses)).setCell ⟨cq, 2, none⟩ (.int .i64 kk.1.seq)).setCell ⟨cq, 3, none⟩ (.string (byStr kk.1.name))).setCell ⟨cq, 4, none⟩ (.int .i64 kk.1.num)).setCell ⟨cq, 5, none⟩ (.int .i64 kk.1.share)).setCell ⟨cq, 6, none⟩ (.slice kk.2.1 kk.1.bys.length kk.2.2) := ⟨_, rfl⟩
                have BX5 : Hid (Bx w5 cq (ca7 kk)) := by
                  unfold Hid
                  rw [hw5]
                  exact ((((((BX4.out.put (j := 0)).put (j := 1)).put (j := 2)).put (j := 3)).put (j := 4)).put (j := 5)).put (j := 6)
                have K5 : Hid (Below wr.heap.size wr w5) := by
                  unfold Hid
                  rw [hw5]
                  have z : wr.heap.size ≤ cq := by rw [CQ.out]; exact Nat.le_refl _
                  exact ((((((K4.out.setCell z _).setCell z _).setCell z _).setCell z _).setCell z _).setCell z _).setCell z _
                have zc0 := BX4.out.cell 0 _ rfl
                have zc1 := BX4.out.cell 1 _ rfl
                have zc2 := BX4.out.cell 2 _ rfl
                have zc3 := BX4.out.cell 3 _ rfl
                have zc4 := BX4.out.cell 4 _ rfl
                have zc5 := BX4.out.cell 5 _ rfl
                have zc6 := BX4.out.cell 6 _ rfl
                have zf0 := BX4.out.free 0
                have zf1 := BX4.out.free 1
                have zf2 := BX4.out.free 2
                have zf3 := BX4.out.free 3
                have zf4 := BX4.out.free 4
                have zf5 := BX4.out.free 5
                have zf6 := BX4.out.free 6
                obtain ⟨b5, o5, AP5⟩ := FN.out w5 BX5.out K5.out
                have A5 := hide AP5
                clear b5 o5 AP5 FN
                have d0 := BX5.out.cell 0 _ rfl
                have d1 := BX5.out.cell 1 _ rfl
                have d2 := BX5.out.cell 2 _ rfl
                have d3 := BX5.out.cell 3 _ rfl
                have d4 := BX5.out.cell 4 _ rfl
                have d5 := BX5.out.cell 5 _ rfl
                have d6 := BX5.out.cell 6 _ rfl
                have BXS : Hid (Bx w5 cq (ca7 kk)) := BX5
                clear K4 K5 BX4 BX5 B2 OV VX d0 d1 d2 d3 d4 d5 d6
                unfold ca7 caV at *
                generalize M.apF L kk.1 = ae at *
                generalize M.apL L kk.1 = L9 at *
                go_upto_region 25 with fail
                rw [← hw5]
                clear hw5 c0 c1 c2 c3 c4 c5 c6 zc0 zc1 zc2 zc3 zc4 zc5 zc6 zf0 zf1 zf2 zf3 zf4 zf5 zf6
                have kd : Bx w5.drew cq [.int .i64 kk.1.what, .int .i64 kk.1.ses, .int .i64 kk.1.seq, .string (byStr kk.1.name), .int .i64 kk.1.num, .int .i64 kk.1.share, .slice kk.2.1 kk.1.bys.length kk.2.2] := BXS.out.keep rfl
                refine wp_region_held_drew (S := fun V => Bx V cq [.int .i64 kk.1.what, .int .i64 kk.1.ses, .int .i64 kk.1.seq, .string (byStr kk.1.name), .int .i64 kk.1.num, .int .i64 kk.1.share, .slice kk.2.1 kk.1.bys.length kk.2.2]) (by kernel_rfl) kd (fun hHeld => ?_)
                refine take_lg (i := 0) (d := some 83) (v := ?v101) rfl rfl (by kernel_rfl) (by kernel_rfl) (by kernel_rfl) (fun _ _ _ h => h) (Or.inl ⟨by rfl, ?h101⟩) (by assumption) ?r101
                case h101 => (intro V hSw; have p0 := hSw.cell 0 _ rfl; have p1 := hSw.cell 1 _ rfl; have p2 := hSw.cell 2 _ rfl; have p3 := hSw.cell 3 _ rfl; have p4 := hSw.cell 4 _ rfl; have p5 := hSw.cell 5 _ rfl; have p6 := hSw.cell 6 _ rfl; clear hSw; go_simp; (try with_reducible rfl))
                simp only [Act.put, List.setIfInBounds_toArray, List.set_cons_zero, List.set_cons_succ]
                refine take_lg (i := 1) (d := some 84) (v := ?v102) rfl rfl (by kernel_rfl) (by kernel_rfl) (by kernel_rfl) (fun _ _ _ h => h) (Or.inl ⟨by rfl, ?h102⟩) (by assumption) ?r102
                case h102 => (intro V hSw; have p0 := hSw.cell 0 _ rfl; have p1 := hSw.cell 1 _ rfl; have p2 := hSw.cell 2 _ rfl; have p3 := hSw.cell 3 _ rfl; have p4 := hSw.cell 4 _ rfl; have p5 := hSw.cell 5 _ rfl; have p6 := hSw.cell 6 _ rfl; clear hSw; go_simp; (try with_reducible rfl))
                simp only [Act.put, List.setIfInBounds_toArray, List.set_cons_zero, List.set_cons_succ]
                refine take_lg (i := 3) (d := some 86) (v := ?v103) rfl rfl (by kernel_rfl) (by kernel_rfl) (by kernel_rfl) (fun _ _ _ h => h) (Or.inl ⟨by rfl, ?h103⟩) (by assumption) ?r103
                case h103 => (intro V hSw; have p0 := hSw.cell 0 _ rfl; have p1 := hSw.cell 1 _ rfl; have p2 := hSw.cell 2 _ rfl; have p3 := hSw.cell 3 _ rfl; have p4 := hSw.cell 4 _ rfl; have p5 := hSw.cell 5 _ rfl; have p6 := hSw.cell 6 _ rfl; clear hSw; go_simp; (try with_reducible rfl))
                simp only [Act.put, List.setIfInBounds_toArray, List.set_cons_zero, List.set_cons_succ]
                refine take_lg (i := 4) (d := some 87) (v := ?v104) rfl rfl (by kernel_rfl) (by kernel_rfl) (by kernel_rfl) (fun _ _ _ h => h) (Or.inl ⟨by rfl, ?h104⟩) (by assumption) ?r104
                case h104 => (intro V hSw; have p0 := hSw.cell 0 _ rfl; have p1 := hSw.cell 1 _ rfl; have p2 := hSw.cell 2 _ rfl; have p3 := hSw.cell 3 _ rfl; have p4 := hSw.cell 4 _ rfl; have p5 := hSw.cell 5 _ rfl; have p6 := hSw.cell 6 _ rfl; clear hSw; go_simp; (try with_reducible rfl))
                simp only [Act.put, List.setIfInBounds_toArray, List.set_cons_zero, List.set_cons_succ]
                refine wpAnyH_ready (rs := [2]) (by kernel_rfl) (by simp) ?_
                refine AllReadyH.cons rfl (fun K hK => ?_) AllReadyH.nil
                go_simp
                go_at_call 6
                refine A5.out.mono ?_
                rintro e w6 ⟨rfl, va6, h6, h6r, h6a, bx6, ap6⟩
                have A6 := hide ap6
                clear h6 h6r h6a ap6
                try go_wp2_with fail
                refine hK.out _ _ bx6 (fun hHeld2 => ?_)
                clear hK K hHeld2
                try simp only [Act.put, List.setIfInBounds_toArray, List.set_cons_zero, List.set_cons_succ]
                refine wpAnyH_ready (rs := [5]) (by kernel_rfl) (by simp) ?_
                refine AllReadyH.cons rfl (fun K hK => ?_) AllReadyH.nil
                go_simp
                go_at_call 7
                refine A6.out.mono ?_
                rintro e w7 ⟨rfl, ca7x, ba7x, b7, bx7⟩
                have B7 := hide b7
                clear b7
                try go_wp2_with fail
                refine hK.out _ _ bx7 (fun hHeld2 => ?_)
                clear hK K hHeld2
                try simp only [Act.put, List.setIfInBounds_toArray, List.set_cons_zero, List.set_cons_succ]
                refine wpAnyH_ready (rs := [6]) (by kernel_rfl) (by simp) ?_
                refine AllReadyH.cons rfl (fun K hK => ?_) AllReadyH.nil
                go_simp
                go_at_call 5
                refine (ERS.out ae w7 B7.out.hl.bl).mono ?_
                rintro e w8 ⟨rfl, b8⟩
                have B8 := hide (B7.out.up b8)
                have bx8 := bx7.keep (b8.block _ bx7.lt)
                clear b8
                try go_wp2_with fail
                refine hK.out _ _ bx8 (fun hHeld2 => ?_)
                clear hK K hHeld2
                try simp only [Act.put, List.setIfInBounds_toArray, List.set_cons_zero, List.set_cons_succ]
                refine take_lg (i := 7) (d := some 10) (v := ?v105) rfl rfl (by kernel_rfl) (by kernel_rfl) (by kernel_rfl) (fun _ _ _ h => h) (Or.inl ⟨by rfl, ?h105⟩) (by assumption) ?r105
                case h105 => (intro V hSw; have p0 := hSw.cell 0 _ rfl; have p1 := hSw.cell 1 _ rfl; have p2 := hSw.cell 2 _ rfl; have p3 := hSw.cell 3 _ rfl; have p4 := hSw.cell 4 _ rfl; have p5 := hSw.cell 5 _ rfl; have p6 := hSw.cell 6 _ rfl; clear hSw; go_simp; (try with_reducible rfl))
                simp only [Act.put, List.setIfInBounds_toArray, List.set_cons_zero, List.set_cons_succ]
                refine wpAnyH_done (by kernel_rfl) ?_ _
                clear kd bx6 bx7 bx8
                go_wp2
                go_meet
                case rel => exact ⟨rfl, va6, ca7x, ba7x, _, L9, B8, AN⟩
          case neg =>
            have n0 : (x0 == 0) = false := by rw [beq_eq_false_iff_ne]; omega
            have n1 : (x0 == 1) = false := by rw [beq_eq_false_iff_ne]; omega
            have n2 : (x0 == 2) = false := by rw [beq_eq_false_iff_ne]; omega
            have n3 : (x0 == 3) = false := by rw [beq_eq_false_iff_ne]; omega
            clear HC HS
            by_cases s45 : x0 = 4 ∨ x0 = 5
            case pos =>
              have SY := hide B2.out.hl.sync
              clear s03 OV VX I0 I1
              rcases s45 with rfl | rfl
              all_goals (
                clear n0 n1 n2 n3
                go_wp2_with (first
                  | (go_at_call 5; refine (ERS.out (M.syF L) w6 B6.out.hl.bl).mono ?_; rintro e w7 ⟨rfl, b7⟩; have B7 := hide (B6.out.up b7); clear b7)
                  | (go_at_call 9; refine R5.out.sync.mono ?_; rintro e w6 ⟨rfl, h6, k6⟩; have B6 := hide (HR.theirs H5.out A5.out h6 k6).1; clear h6 k6)
                  | (go_at_call 8; refine SY.out.mono ?_; rintro e w5 ⟨rfl, h5, k5⟩; obtain ⟨q1, q2, q3⟩ := B2.out.ours h5 k5; have H5 := hide h5; have R5 := hide q1; have A5 := hide q2; clear q1 q2 q3 h5 k5))
                go_meet
                case rel => exact ⟨rfl, va, ca', ba', al, _, B7, AL⟩)
            case neg =>
            have n4 : (x0 == 4) = false := by rw [beq_eq_false_iff_ne]; omega
            have n5 : (x0 == 5) = false := by rw [beq_eq_false_iff_ne]; omega
            by_cases s6 : x0 = 6
            case pos =>
              subst s6
              clear n0 n1 n2 n3 n4 n5 s03 s45 ERS
              have vv : Hid (∀ w', KeptR wr r ca' ba' ca' ba' w' → w'.cell? ⟨vb, 1, none⟩ = some (.int .i64 x1)) := fun w' kr => (World.cell?_of_block (a := ⟨vb, 1, none⟩) (kr.2 vb OV.out.1 OV.out.2.2).2).trans cv1
              have FA := B2.out.hr.fail x1 I1.out
              obtain ⟨⟨u, cu⟩, cf, hr', kr⟩ := FA
              by_cases m : x1 < -1
              · rw [if_pos m] at hr' kr
                have t1 : decide (x1 < -1) = true := decide_eq_true m
                obtain ⟨h9, a9⟩ := B2.out.hl.kept hr'.bl kr B2.out.ap
                have cv9 := vv.out _ kr
                have F9 := hide (h9.fail x1 I1.out)
                have R9 := hide hr'
                have A9 := hide a9
                clear hr' kr h9 a9 m vv B2 OV VX
                obtain ⟨w9, hw9⟩ : ∃ X, X = wr.setCell ⟨r, 4, none⟩ (.int .i64 (-1)) := ⟨_, rfl⟩
                rw [← hw9] at cv9 F9 R9
                go_upto_region 34 with fail
                rw [← hw9]
                clear hw9 cv0 cv1 cu cf
                go_wp2_with (go_at_call 10; refine F9.out.mono ?_; rintro e w10 ⟨rfl, h10, k10⟩; have RK := R9.out.kept h10.bl k10 A9.out; have B10 : Hid (Both W w10 f va r ca' ba' al ⟨L.calls, L.tail, L.safe, x1, L.stop⟩) := ⟨h10, RK.1, RK.2⟩; clear h10 k10 RK)
                go_meet
                case rel => exact ⟨rfl, va, ca', ba', al, _, B10, AL⟩
              · rw [if_neg m] at hr' kr
                have t1 : decide (x1 < -1) = false := decide_eq_false m
                obtain ⟨h9, a9⟩ := B2.out.hl.kept hr'.bl kr B2.out.ap
                have cv9 := vv.out _ kr
                have F9 := hide (h9.fail x1 I1.out)
                have R9 := hide hr'
                have A9 := hide a9
                clear hr' kr h9 a9 m vv B2 OV VX
                obtain ⟨w9, hw9⟩ : ∃ X, X = wr.setCell ⟨r, 4, none⟩ (.int .i64 x1) := ⟨_, rfl⟩
                rw [← hw9] at cv9 F9 R9
                go_upto_region 34 with fail
                rw [← hw9]
                clear hw9 cv0 cv1 cu cf
                go_wp2_with (go_at_call 10; refine F9.out.mono ?_; rintro e w10 ⟨rfl, h10, k10⟩; have RK := R9.out.kept h10.bl k10 A9.out; have B10 : Hid (Both W w10 f va r ca' ba' al ⟨L.calls, L.tail, L.safe, x1, L.stop⟩) := ⟨h10, RK.1, RK.2⟩; clear h10 k10 RK)
                go_meet
                case rel => exact ⟨rfl, va, ca', ba', al, _, B10, AL⟩
            case neg =>
            have n6 : (x0 == 6) = false := by rw [beq_eq_false_iff_ne]; exact s6
            have AL2 : Hid (∀ x ∈ al.take (M.crL L x1).calls.length, CaIn W x.1 x.2.1 x.2.2) := fun x hx => AL.out x (List.mem_of_mem_take hx)
            have CRG : Hid (∀ n : Int, (n = x1 ∨ (n = 1000000 ∧ 1000000 < x1)) → Calls Tryd.prog 11 #[.pointer (some ⟨r, 0, none⟩), .int .i64 n] wr fun e w' => e = .returned (.tuple #[]) ∧ HR W w' r ca' ba' (al.take (M.crL L x1).calls.length) (M.crL L x1) ∧ w'.cell? ⟨vb, 1, none⟩ = some (.int .i64 x1) ∧ ∀ q, LB f va q → ¬ RBk r ca' ba' q ∧ True ∧ HL W w' f va L) := fun n hn => by
              have e : M.crL L x1 = M.crL L n := by
                rcases hn with rfl | ⟨rfl, h⟩
                · rfl
                · exact M.cr_more B2.out.hl.ok h
              have i : M.I64 n := by
                rcases hn with rfl | ⟨rfl, h⟩
                · exact I1.out
                · exact ⟨by decide, by decide⟩
              rw [e]
              refine (B2.out.hr.crash n i AL.out).mono ?_
              rintro e w5 ⟨rfl, h5, k5⟩
              obtain ⟨h9, a9⟩ := B2.out.hl.kept h5.bl k5 B2.out.ap
              exact ⟨rfl, h5, (World.cell?_of_block (a := ⟨vb, 1, none⟩) (k5.2 vb OV.out.1 OV.out.2.2).2).trans cv1, fun q hq => ⟨a9 q hq, trivial, h9⟩⟩
            clear s03 s45 s6 ERS OV VX AL
            by_cases m : 1000000 < x1
            · have t1 : decide (1000000 < x1) = true := decide_eq_true m
              have CR := hide (CRG.out 1000000 (.inr ⟨rfl, m⟩))
              clear CRG m
              go_wp2_with (first
                | (go_at_call 12; refine (H5.out.crash x1 I1.out).mono ?_; rintro e w6 ⟨rfl, h6, k6⟩; have RK := R5.out.kept h6.bl k6 A5.out; have B6 : Hid (Both W w6 f va r ca' ba' (al.take (M.crL L x1).calls.length) (M.crL L x1)) := ⟨h6, RK.1, RK.2⟩; clear h6 k6 RK)
                | (go_at_call 11; refine CR.out.mono ?_; rintro e w5 ⟨rfl, h5, cv5, a5⟩; have R5 := hide h5; have A5 : Hid (∀ q, LB f va q → ¬ RBk r ca' ba' q) := (fun q hq => (a5 q hq).1); have H5 : Hid (HL W w5 f va L) := (a5 f (.inl rfl)).2.2; clear h5 a5))
              go_meet
              case rel => exact ⟨rfl, va, ca', ba', _, _, B6, AL2⟩
            · have t1 : decide (1000000 < x1) = false := decide_eq_false m
              have CR := hide (CRG.out x1 (.inl rfl))
              clear CRG m
              go_wp2_with (first
                | (go_at_call 12; refine (H5.out.crash x1 I1.out).mono ?_; rintro e w6 ⟨rfl, h6, k6⟩; have RK := R5.out.kept h6.bl k6 A5.out; have B6 : Hid (Both W w6 f va r ca' ba' (al.take (M.crL L x1).calls.length) (M.crL L x1)) := ⟨h6, RK.1, RK.2⟩; clear h6 k6 RK)
                | (go_at_call 11; refine CR.out.mono ?_; rintro e w5 ⟨rfl, h5, cv5, a5⟩; have R5 := hide h5; have A5 : Hid (∀ q, LB f va q → ¬ RBk r ca' ba' q) := (fun q hq => (a5 q hq).1); have H5 : Hid (HL W w5 f va L) := (a5 f (.inl rfl)).2.2; clear h5 a5))
              go_meet
              case rel => exact ⟨rfl, va, ca', ba', _, _, B6, AL2⟩
        case rest =>
          obtain ⟨rfl, va2, ca2, ba2, al2, L2, B3, A3⟩ := hcut
          clear BB AL B2 OV VX I0 I1 BM cK
          obtain ⟨wt, hwt⟩ : ∃ X, X = wc := ⟨_, rfl⟩
          subst hwt
          have CLX : Hid (∀ V, Below wt.heap.size wt V → Calls Tryd.prog 14 #[.pointer (some ⟨f, 0, none⟩)] V fun e w' => ∃ a c l, e = .returned (.slice a L2.calls.length c) ∧ l.map (·.1) = L2.calls ∧ CW V w' a c l ∧ Below wt.heap.size wt w') := fun V hV => ((B3.out.up hV).hl.callsG).mono (by
            rintro e w' ⟨a, c, l, rfl, h1, h2, h3⟩
            exact ⟨a, c, l, rfl, h1, h2, below_on hV h3⟩)
          obtain ⟨rdc, emc, lnc⟩ := B3.out.hr.calls A3.out
          have RDC := hide rdc
          have EMC := hide emc
          clear rdc emc
          have RC : Hid (∀ V, Below wt.heap.size wt V → ∃ cc, V.cell? ⟨r, 0, none⟩ = some (.slice ca2 al2.length cc)) := fun V hV => by
            obtain ⟨cc, bc, left, h1⟩ := (B3.out.hr.up hV).rl
            exact ⟨cc, h1.box.cell 0 _ rfl⟩
          obtain ⟨cc, bc, left, rl⟩ := B3.out.hr.rl
          have c0 := rl.box.cell 0 _ rfl
          have c0a : Hid (∀ V, Below wt.heap.size wt V → V.cell? ⟨r, 0, none⟩ = some (.slice ca2 al2.length cc)) := fun V hV => (hV.cell (p := ⟨r, 0, none⟩) rl.box.lt).trans (rl.box.cell 0 _ rfl)
          have CE : Hid (∀ V, Below wt.heap.size wt V → V.cell? ⟨r, 1, none⟩ = some (.slice ba2 L2.bytes.length bc) ∧ V.cell? ⟨r, 3, none⟩ = some (.int .i64 (L2.safe : Int)) ∧ (convert 27 9 (.slice ba2 L2.bytes.length bc)).run Tryd.prog V = .ok (.string (byStr L2.bytes)) V) := fun V hV => by
            refine ⟨(hV.cell (p := ⟨r, 1, none⟩) rl.box.lt).trans (rl.box.cell 1 _ rfl), (hV.cell (p := ⟨r, 3, none⟩) rl.box.lt).trans (rl.box.cell 3 _ rfl), ?_⟩
            obtain ⟨a2, c2, ev, rd, _⟩ := own_rdB1 rfl (by have := rl.ok.len.2; unfold maxLen; omega) (M.LgOk.byte rl.ok) rl.bo
            cases ev
            exact conv_by (rd.below hV) _
          have YB : Hid (∀ x ∈ L2.bytes, x < 256) := M.LgOk.byte rl.ok
          have YL : Hid (L2.bytes.length ≤ maxLen) := by have := rl.ok.len.2; unfold Hid maxLen; omega
          have SMG : Hid (∀ V X a6 c6 (l6 : List CaC), Below wt.heap.size wt V → l6.map (·.1) = L2.calls → CW X V a6 c6 l6 → Calls Tryd.prog 13 #[.slice a6 L2.calls.length c6, .slice ca2 al2.length cc] V fun e w' => e = .returned (.bool true) ∧ Below V.heap.size V w') := fun V X a6 c6 l6 hV em cw => by
            have e6 : l6.length = L2.calls.length := by rw [← em, List.length_map]
            have := calls_same a6 ca2 l6 al2 c6 cc V (own_rdC rfl (by rw [e6, ← lnc]; exact RDC.out.1) cw.ci cw.own) (RDC.out.below hV) (by rw [em, EMC.out])
            rw [e6] at this
            exact this
          clear rl RC lnc
          generalize al2.length = an at *
          generalize hcn : L2.calls.length = cn at *
          clear hcn
          go_upto_region 35 with fail
          go_cut [14] from 112 to 118 (fun v wx => v = .bool true ∧ Hid (Below wt.heap.size wt wx))
          case first =>
            go_upto_region 35 with fail
            have c0d : wt.drew.cell? ⟨r, 0, none⟩ = some (.slice ca2 an cc) := c0
            go_region_with (first
              | (go_at_call 13; refine (SMG.out w6 _ a6 c6 l6 K6.out E6.out C6.out).mono ?_; rintro e w7 ⟨rfl, b7⟩; have K7 := hide (below_on K6.out b7); clear b7)
              | (go_at_call 14; refine (CLX.out _ (Below.refl _ wt).drew).mono ?_; rintro e w6 ⟨a6, c6, l6, rfl, em, cw, b6⟩; have E6 := hide em; have C6 := hide cw; have K6 := hide b6; have c06 := c0a.out w6 b6; clear em cw b6))
            all_goals (
              go_wp2
              go_meet
              case rel => exact ⟨rfl, K7⟩)
          case rest =>
          obtain ⟨rfl, K8⟩ := hcut
          obtain ⟨wq, hwq⟩ : ∃ X, X = wc := ⟨_, rfl⟩
          subst hwq
          have B8 := hide (B3.out.up K8.out)
          have CF : Hid (∀ V, Below wq.heap.size wq V → V.cell? ⟨r, 1, none⟩ = some (.slice ba2 L2.bytes.length bc) ∧ V.cell? ⟨r, 3, none⟩ = some (.int .i64 (L2.safe : Int)) ∧ (convert 27 9 (.slice ba2 L2.bytes.length bc)).run Tryd.prog V = .ok (.string (byStr L2.bytes)) V) := fun V hV => CE.out V (below_on K8.out hV)
          have BY : Hid (∀ V, Below wq.heap.size wq V → Calls Tryd.prog 15 #[.pointer (some ⟨f, 0, none⟩)] V fun e w' => ∃ a c, e = .returned (.slice a L2.bytes.length c) ∧ (convert 27 9 (.slice a L2.bytes.length c)).run Tryd.prog w' = .ok (.string (byStr L2.bytes)) w' ∧ Below V.heap.size V w') := fun V hV => ((B8.out.up hV).hl.bytesG).mono (by
            rintro e w' ⟨a, c, rfl, o, b⟩
            obtain ⟨a2, c2, ev, rd, _⟩ := own_rdB1 rfl YL.out YB.out o
            cases ev
            exact ⟨_, _, rfl, conv_by rd _, b⟩)
          have SF : Hid (∀ V, Below wq.heap.size wq V → Calls Tryd.prog 16 #[.pointer (some ⟨f, 0, none⟩)] V fun e w' => e = .returned (.int .i64 (L2.safe : Int)) ∧ w' = V) := fun V hV => (B8.out.up hV).hl.safe
          have B9 : Hid (∀ V, Below wq.heap.size wq V → Both W V f va2 r ca2 ba2 al2 L2) := fun V hV => B8.out.up hV
          clear CLX c0 c0a CE SMG RDC EMC B3 K8 B8 YB YL
          generalize byStr L2.bytes = bsv at *
          generalize L2.bytes.length = bn at *
          generalize (L2.safe : Int) = sfv at *
          go_upto_region 36 with fail
          have kd : Below wq.heap.size wq wq.drew := (Below.refl _ wq).drew
          refine wp_region_held_drew (S := fun V => Below wq.heap.size wq V) (by kernel_rfl) kd (fun hHeld => ?_)
          refine take_lg (i := 0) (d := some 119) (v := ?v1) rfl rfl (by kernel_rfl) (by kernel_rfl) (by kernel_rfl) (fun _ _ _ h => h) (Or.inl ⟨by rfl, ?h1⟩) (by assumption) ?r1
          case h1 => (intro V hSw; obtain ⟨p0, p1, p2⟩ := CF.out V hSw; clear hSw; go_simp; (try with_reducible rfl))
          simp only [Act.put, List.setIfInBounds_toArray, List.set_cons_zero, List.set_cons_succ]
          refine take_lg (i := 1) (d := some 120) (v := ?v2) rfl rfl (by kernel_rfl) (by kernel_rfl) (by kernel_rfl) (fun _ _ _ h => h) (Or.inl ⟨by rfl, ?h2⟩) (by assumption) ?r2
          case h2 => (intro V hSw; obtain ⟨p0, p1, p2⟩ := CF.out V hSw; clear hSw; go_simp; (try with_reducible rfl))
          simp only [Act.put, List.setIfInBounds_toArray, List.set_cons_zero, List.set_cons_succ]
          refine take_lg (i := 2) (d := some 121) (v := ?v3) rfl rfl (by kernel_rfl) (by kernel_rfl) (by kernel_rfl) (fun _ _ _ h => h) (Or.inl ⟨by rfl, ?h3⟩) (by assumption) ?r3
          case h3 => (intro V hSw; obtain ⟨p0, p1, p2⟩ := CF.out V hSw; clear hSw; go_simp; (try with_reducible rfl))
          simp only [Act.put, List.setIfInBounds_toArray, List.set_cons_zero, List.set_cons_succ]
          refine take_lg (i := 3) (d := some 122) (v := ?v4) rfl rfl (by kernel_rfl) (by kernel_rfl) (by kernel_rfl) (fun _ _ _ h => h) (Or.inl ⟨by rfl, ?h4⟩) (by assumption) ?r4
          case h4 => (intro V hSw; obtain ⟨p0, p1, p2⟩ := CF.out V hSw; clear hSw; go_simp; (try with_reducible rfl))
          simp only [Act.put, List.setIfInBounds_toArray, List.set_cons_zero, List.set_cons_succ]
          refine take_lg (i := 4) (d := some 123) (v := ?v5) rfl rfl (by kernel_rfl) (by kernel_rfl) (by kernel_rfl) (fun _ _ _ h => h) (Or.inl ⟨by rfl, ?h5⟩) (by assumption) ?r5
          case h5 => (intro V hSw; obtain ⟨p0, p1, p2⟩ := CF.out V hSw; clear hSw; go_simp; (try with_reducible rfl))
          simp only [Act.put, List.setIfInBounds_toArray, List.set_cons_zero, List.set_cons_succ]
          refine take_lg (i := 5) (d := some 124) (v := ?v6) rfl rfl (by kernel_rfl) (by kernel_rfl) (by kernel_rfl) (fun _ _ _ h => h) (Or.inl ⟨by rfl, ?h6⟩) (by assumption) ?r6
          case h6 => (intro V hSw; obtain ⟨p0, p1, p2⟩ := CF.out V hSw; clear hSw; go_simp; (try with_reducible rfl))
          simp only [Act.put, List.setIfInBounds_toArray, List.set_cons_zero, List.set_cons_succ]
          refine take_lg (i := 6) (d := some 125) (v := ?v7) rfl rfl (by kernel_rfl) (by kernel_rfl) (by kernel_rfl) (fun _ _ _ h => h) (Or.inl ⟨by rfl, ?h7⟩) (by assumption) ?r7
          case h7 => (intro V hSw; obtain ⟨p0, p1, p2⟩ := CF.out V hSw; clear hSw; go_simp; (try with_reducible rfl))
          simp only [Act.put, List.setIfInBounds_toArray, List.set_cons_zero, List.set_cons_succ]
          refine take_lg (i := 7) (d := some 126) (v := ?v8) rfl rfl (by kernel_rfl) (by kernel_rfl) (by kernel_rfl) (fun _ _ _ h => h) (Or.inl ⟨by rfl, ?h8⟩) (by assumption) ?r8
          case h8 => (intro V hSw; obtain ⟨p0, p1, p2⟩ := CF.out V hSw; clear hSw; go_simp; (try with_reducible rfl))
          simp only [Act.put, List.setIfInBounds_toArray, List.set_cons_zero, List.set_cons_succ]
          refine take_lg (i := 10) (d := some 129) (v := ?v9) rfl rfl (by kernel_rfl) (by kernel_rfl) (by kernel_rfl) (fun _ _ _ h => h) (Or.inl ⟨by rfl, ?h9⟩) (by assumption) ?r9
          case h9 => (intro V hSw; obtain ⟨p0, p1, p2⟩ := CF.out V hSw; clear hSw; go_simp; (try with_reducible rfl))
          simp only [Act.put, List.setIfInBounds_toArray, List.set_cons_zero, List.set_cons_succ]
          refine take_lg (i := 11) (d := some 130) (v := ?v10) rfl rfl (by kernel_rfl) (by kernel_rfl) (by kernel_rfl) (fun _ _ _ h => h) (Or.inl ⟨by rfl, ?h10⟩) (by assumption) ?r10
          case h10 => (intro V hSw; obtain ⟨p0, p1, p2⟩ := CF.out V hSw; clear hSw; go_simp; (try with_reducible rfl))
          simp only [Act.put, List.setIfInBounds_toArray, List.set_cons_zero, List.set_cons_succ]
          refine take_lg (i := 12) (d := some 131) (v := ?v11) rfl rfl (by kernel_rfl) (by kernel_rfl) (by kernel_rfl) (fun _ _ _ h => h) (Or.inl ⟨by rfl, ?h11⟩) (by assumption) ?r11
          case h11 => (intro V hSw; obtain ⟨p0, p1, p2⟩ := CF.out V hSw; clear hSw; go_simp; (try with_reducible rfl))
          simp only [Act.put, List.setIfInBounds_toArray, List.set_cons_zero, List.set_cons_succ]
          refine take_lg (i := 13) (d := some 132) (v := ?v12) rfl rfl (by kernel_rfl) (by kernel_rfl) (by kernel_rfl) (fun _ _ _ h => h) (Or.inl ⟨by rfl, ?h12⟩) (by assumption) ?r12
          case h12 => (intro V hSw; obtain ⟨p0, p1, p2⟩ := CF.out V hSw; clear hSw; go_simp; (try with_reducible rfl))
          simp only [Act.put, List.setIfInBounds_toArray, List.set_cons_zero, List.set_cons_succ]
          refine take_lg (i := 14) (d := some 133) (v := ?v13) rfl rfl (by kernel_rfl) (by kernel_rfl) (by kernel_rfl) (fun _ _ _ h => h) (Or.inl ⟨by rfl, ?h13⟩) (by assumption) ?r13
          case h13 => (intro V hSw; obtain ⟨p0, p1, p2⟩ := CF.out V hSw; clear hSw; go_simp; (try with_reducible rfl))
          simp only [Act.put, List.setIfInBounds_toArray, List.set_cons_zero, List.set_cons_succ]
          refine wpAnyH_ready (rs := [8]) (by kernel_rfl) (by simp) ?_
          refine AllReadyH.cons rfl (fun K hK => ?_) AllReadyH.nil
          go_simp
          go_at_call 15
          refine (BY.out _ kd).mono ?_
          rintro e w11 ⟨ya, yc, rfl, cvb, b11⟩
          have k11 : Below wq.heap.size wq w11 := below_on kd b11
          clear b11
          try go_wp2_with fail
          refine hK.out _ _ k11 (fun hHeld2 => ?_)
          clear hK K
          try simp only [Act.put, List.setIfInBounds_toArray, List.set_cons_zero, List.set_cons_succ]
          refine wpAnyH_ready (rs := [9]) (by kernel_rfl) (by simp) ?_
          refine AllReadyH.cons rfl (fun K hK => ?_) AllReadyH.nil
          go_simp
          refine hK.out _ _ k11 (fun hHeld4 => ?_)
          clear hK K hHeld4
          try simp only [Act.put, List.setIfInBounds_toArray, List.set_cons_zero, List.set_cons_succ]
          clear cvb
          refine take_lg (i := 15) (d := some 134) (v := ?v14) rfl rfl (by kernel_rfl) (by kernel_rfl) (by kernel_rfl) (fun _ _ _ h => h) (Or.inl ⟨by rfl, ?h14⟩) (by assumption) ?r14
          case h14 => (intro V hSw; obtain ⟨p0, p1, p2⟩ := CF.out V hSw; clear hSw; go_simp; (try with_reducible rfl))
          simp only [Act.put, List.setIfInBounds_toArray, List.set_cons_zero, List.set_cons_succ]
          refine take_lg (i := 16) (d := some 135) (v := ?v15) rfl rfl (by kernel_rfl) (by kernel_rfl) (by kernel_rfl) (fun _ _ _ h => h) (Or.inl ⟨by rfl, ?h15⟩) (by assumption) ?r15
          case h15 => (intro V hSw; obtain ⟨p0, p1, p2⟩ := CF.out V hSw; clear hSw; go_simp; (try with_reducible rfl))
          simp only [Act.put, List.setIfInBounds_toArray, List.set_cons_zero, List.set_cons_succ]
          refine take_lg (i := 17) (d := some 136) (v := ?v16) rfl rfl (by kernel_rfl) (by kernel_rfl) (by kernel_rfl) (fun _ _ _ h => h) (Or.inl ⟨by rfl, ?h16⟩) (by assumption) ?r16
          case h16 => (intro V hSw; obtain ⟨p0, p1, p2⟩ := CF.out V hSw; clear hSw; go_simp; (try with_reducible rfl))
          simp only [Act.put, List.setIfInBounds_toArray, List.set_cons_zero, List.set_cons_succ]
          refine take_lg (i := 18) (d := some 137) (v := ?v17) rfl rfl (by kernel_rfl) (by kernel_rfl) (by kernel_rfl) (fun _ _ _ h => h) (Or.inl ⟨by rfl, ?h17⟩) (by assumption) ?r17
          case h17 => (intro V hSw; obtain ⟨p0, p1, p2⟩ := CF.out V hSw; clear hSw; go_simp; (try with_reducible rfl))
          simp only [Act.put, List.setIfInBounds_toArray, List.set_cons_zero, List.set_cons_succ]
          refine take_lg (i := 20) (d := some 139) (v := ?v18) rfl rfl (by kernel_rfl) (by kernel_rfl) (by kernel_rfl) (fun _ _ _ h => h) (Or.inl ⟨by rfl, ?h18⟩) (by assumption) ?r18
          case h18 => (intro V hSw; obtain ⟨p0, p1, p2⟩ := CF.out V hSw; clear hSw; go_simp; (try with_reducible rfl))
          simp only [Act.put, List.setIfInBounds_toArray, List.set_cons_zero, List.set_cons_succ]
          refine take_lg (i := 21) (d := some 140) (v := ?v19) rfl rfl (by kernel_rfl) (by kernel_rfl) (by kernel_rfl) (fun _ _ _ h => h) (Or.inl ⟨by rfl, ?h19⟩) (by assumption) ?r19
          case h19 => (intro V hSw; obtain ⟨p0, p1, p2⟩ := CF.out V hSw; clear hSw; go_simp; (try with_reducible rfl))
          simp only [Act.put, List.setIfInBounds_toArray, List.set_cons_zero, List.set_cons_succ]
          refine take_lg (i := 22) (d := some 141) (v := ?v20) rfl rfl (by kernel_rfl) (by kernel_rfl) (by kernel_rfl) (fun _ _ _ h => h) (Or.inl ⟨by rfl, ?h20⟩) (by assumption) ?r20
          case h20 => (intro V hSw; obtain ⟨p0, p1, p2⟩ := CF.out V hSw; clear hSw; go_simp; (try with_reducible rfl))
          simp only [Act.put, List.setIfInBounds_toArray, List.set_cons_zero, List.set_cons_succ]
          refine take_lg (i := 23) (d := some 142) (v := ?v21) rfl rfl (by kernel_rfl) (by kernel_rfl) (by kernel_rfl) (fun _ _ _ h => h) (Or.inl ⟨by rfl, ?h21⟩) (by assumption) ?r21
          case h21 => (intro V hSw; obtain ⟨p0, p1, p2⟩ := CF.out V hSw; clear hSw; go_simp; (try with_reducible rfl))
          simp only [Act.put, List.setIfInBounds_toArray, List.set_cons_zero, List.set_cons_succ]
          refine wpAnyH_ready (rs := [19]) (by kernel_rfl) (by simp) ?_
          refine AllReadyH.cons rfl (fun K hK => ?_) AllReadyH.nil
          go_simp
          go_at_call 16
          refine (SF.out _ k11).mono ?_
          rintro e w12 ⟨rfl, ew⟩
          have ew2 := ew.symm
          subst ew2
          try go_wp2_with fail
          refine hK.out _ _ k11 (fun hHeld5 => ?_)
          clear hK K
          try simp only [Act.put, List.setIfInBounds_toArray, List.set_cons_zero, List.set_cons_succ]
          refine take_lg (i := 24) (d := some 143) (v := ?v22) rfl rfl (by kernel_rfl) (by kernel_rfl) (by kernel_rfl) (fun _ _ _ h => h) (Or.inl ⟨by rfl, ?h22⟩) (by assumption) ?r22
          case h22 => (intro V hSw; obtain ⟨p0, p1, p2⟩ := CF.out V hSw; clear hSw; go_simp; (try with_reducible rfl))
          simp only [Act.put, List.setIfInBounds_toArray, List.set_cons_zero, List.set_cons_succ]
          refine take_lg (i := 25) (d := some 144) (v := ?v23) rfl rfl (by kernel_rfl) (by kernel_rfl) (by kernel_rfl) (fun _ _ _ h => h) (Or.inl ⟨by rfl, ?h23⟩) (by assumption) ?r23
          case h23 => (intro V hSw; obtain ⟨p0, p1, p2⟩ := CF.out V hSw; clear hSw; go_simp; (try with_reducible rfl))
          simp only [Act.put, List.setIfInBounds_toArray, List.set_cons_zero, List.set_cons_succ]
          refine wpAnyH_done (by kernel_rfl) ?_ _
          have BE := hide (B9.out _ k11)
          clear CF BY SF kd B9
          go_wp2
          go_roundw
          case rel => exact ⟨k + 1, va2, ca2, ba2, al2, L2, by omega, by omega, by go_num, BE, A3⟩
          case measure => simp [intOf]; omega
end Go.Proofs.YtjjfmepinpmkfaaDoor
