/-
  Several texts as one: LgD.
-/
import Derived.Test.YtodidokeblblgaaGreatRunF20
import Derived.Test.YtodidokeblblgaaGreatRunF23
import Derived.Lib.AppendStr
namespace Go.Proofs.YtodidokeblblgaaGreat
open Go.ChangeShapes Go.WideShapes Go.ChangeAt Go.RowKit Go.Lib
set_option linter.unusedVariables false
theorem caBx (W : World) (c : M.Ca) (a : Option Addr) (cap : Nat) : Bx (W.alloc (.cells #[.int .i64 c.what, .int .i64 c.ses, .int .i64 c.seq, .string (byStr c.name), .int .i64 c.num, .int .i64 c.share, .slice a c.bys.length cap] 35)) W.heap.size [.int .i64 c.what, .int .i64 c.ses, .int .i64 c.seq, .string (byStr c.name), .int .i64 c.num, .int .i64 c.share, .slice a c.bys.length cap] := bx_new W _ _
theorem time_is (n : Int) : M.timeB n = true ↔ (¬ n < 0 ∧ ¬ 1000000 < n) := by
  unfold M.timeB
  rw [Bool.and_eq_true, decide_eq_true_iff, decide_eq_true_iff]
  omega

set_option maxHeartbeats 4000000 in
theorem lg_inRange (c : M.Ca) (a : Option Addr) (cap : Nat) (W : World) :
    Calls Tryz.prog 35 #[caV c a cap] W fun e w' => e = .returned (.bool (M.rngF c)) ∧ Below W.heap.size W w' := by
  unfold caV
  obtain ⟨W1, hW1⟩ : ∃ X, X = W.alloc (.cells #[.int .i64 c.what, .int .i64 c.ses, .int .i64 c.seq, .string (byStr c.name), .int .i64 c.num, .int .i64 c.share, .slice a c.bys.length cap] 35) := ⟨_, rfl⟩
  have b1 : Hid (Below W.heap.size W W1) := by unfold Hid; rw [hW1]; exact (Below.refl _ _).alloc (Nat.le_refl _) _
  have bx := caBx W c a cap
  rw [← hW1] at bx
  have c0 := bx.cell 0 _ rfl
  have c1 := bx.cell 1 _ rfl
  have c2 := bx.cell 2 _ rfl
  have c4 := bx.cell 4 _ rfl
  have c5 := bx.cell 5 _ rfl
  clear bx
  by_cases bad : c.what < 1 ∨ 4 < c.what
  · have F : M.rngF c = false := by
      unfold M.rngF
      rcases bad with q | q
      · rw [decide_eq_false (by omega : ¬ 1 ≤ c.what)]; simp
      · rw [decide_eq_false (by omega : ¬ c.what ≤ 4)]; simp
    rw [F]
    generalize c.what = x0 at *
    generalize c.ses = x1 at *
    generalize c.seq = x2 at *
    generalize c.num = x4 at *
    generalize c.share = x5 at *
    have ways : decide (x0 < 1) = true ∨ (decide (x0 < 1) = false ∧ decide (4 < x0) = true) := by simp only [decide_eq_true_iff, decide_eq_false_iff_not]; omega
    clear bad F
    rcases ways with g1 | ⟨g1, g2⟩
    all_goals (
      go_enter Tryz.func35, Tryz.ntmps35
      go_upto_region 1 with fail
      rw [← hW1]
      clear hW1
      go_wp2
      go_ret
      exact ⟨rfl, b1.out⟩)
  · have F : M.rngF c = ([c.ses, c.seq, c.num, c.share].all M.timeB) := by
      unfold M.rngF
      rw [decide_eq_true (by omega : 1 ≤ c.what), decide_eq_true (by omega : c.what ≤ 4)]
      simp [Bool.and_assoc]
    rw [F]
    have g1 : decide (c.what < 1) = false := decide_eq_false (by omega)
    have g2 : decide (4 < c.what) = false := decide_eq_false (by omega)
    clear bad F
    generalize c.what = x0 at *
    generalize c.ses = x1 at *
    generalize c.seq = x2 at *
    generalize c.num = x4 at *
    generalize c.share = x5 at *
    obtain ⟨res, hres⟩ : ∃ r, r = [x1, x2, x4, x5].all M.timeB := ⟨_, rfl⟩
    rw [← hres]
    have HR := hide hres
    clear hres
    go_enter Tryz.func35, Tryz.ntmps35
    go_upto_region 1 with fail
    rw [← hW1]
    clear hW1
    have R0 : Hid (Rd (W1.alloc (.cells #[.int .i64 x1, .int .i64 x2, .int .i64 x4, .int .i64 x5] 3)) (some ⟨W1.heap.size, 0, none⟩) [x1, x2, x4, x5]) := by
      have bx := bx_new W1 [.int .i64 x1, .int .i64 x2, .int .i64 x4, .int .i64 x5] 3
      refine ⟨by unfold maxLen; simp, fun _ => ⟨W1.heap.size, 0, rfl, bx.lt, fun i hi => ?_⟩⟩
      have hi' : i < 4 := hi
      match i, hi' with
      | 0, _ => exact bx.cell 0 _ rfl
      | 1, _ => exact bx.cell 1 _ rfl
      | 2, _ => exact bx.cell 2 _ rfl
      | 3, _ => exact bx.cell 3 _ rfl
    have K0 : Hid (Below W.heap.size W (W1.alloc (.cells #[.int .i64 x1, .int .i64 x2, .int .i64 x4, .int .i64 x5] 3))) := b1.out.alloc b1.out.size _
    have E4 : Hid ([x1, x2, x4, x5].length = 4) := rfl
    go_wp2
    generalize W1.alloc (.cells #[.int .i64 x1, .int .i64 x2, .int .i64 x4, .int .i64 x5] 3) = W2 at *
    generalize W1.heap.size = bl at *
    generalize [x1, x2, x4, x5] = ys at *
    clear c0 c1 c2 c4 c5 b1
    go_loopw [2, 4, 23] (fun _ _ i wr => ∃ k : Nat, k ≤ 4 ∧ i = .int .i64 k ∧ Hid (wr = W2) ∧ Hid (∀ j, j < k → M.timeB (ys.getD j 0) = true)) (fun _ _ i _ => 4 - (intOf i).toNat)
    case atStart => exact ⟨0, by omega, rfl, rfl, fun j hj => by omega⟩
    case round =>
      obtain ⟨k, hk, rfl, EW, AL⟩ := hrel
      have ew := EW.out
      subst ew
      by_cases hlt : k < 4
      · have kz : (k : Int) < 4 := by omega
        obtain ⟨b, off, e, hb, hc⟩ := R0.out.2 (by intro e; have := E4.out; rw [e] at this; cases this)
        cases e
        have cc := hc k (by rw [E4.out]; exact hlt)
        rw [Nat.zero_add] at cc
        clear hc
        by_cases tb : M.timeB (ys.getD k 0) = true
        · have t2 := (time_is _).1 tb
          have g3 : decide (ys.getD k 0 < 0) = false := decide_eq_false t2.1
          have g4 : decide (1000000 < ys.getD k 0) = false := decide_eq_false t2.2
          have AL2 : Hid (∀ j, j < k + 1 → M.timeB (ys.getD j 0) = true) := fun j hj => by
            by_cases z : j = k
            · subst z; exact tb
            · exact AL.out j (by omega)
          clear tb t2
          generalize ys.getD k 0 = y at *
          go_wp2
          go_roundw
          case rel => exact ⟨k + 1, by omega, by go_num, (by first | rfl | trivial), AL2⟩
          case measure => simp [intOf]; omega
        · have F : ys.all M.timeB = false := by
            rw [List.all_eq_false]
            refine ⟨ys.getD k 0, ?_, tb⟩
            have : k < ys.length := by rw [E4.out]; exact hlt
            rw [List.getD, List.getElem?_eq_getElem this]
            exact List.getElem_mem this
          have RF : Hid (res = false) := HR.out.trans F
          have ways : decide (ys.getD k 0 < 0) = true ∨ (decide (ys.getD k 0 < 0) = false ∧ decide (1000000 < ys.getD k 0) = true) := by
            have t2 : ¬ (¬ ys.getD k 0 < 0 ∧ ¬ 1000000 < ys.getD k 0) := fun z => tb ((time_is (ys.getD k 0)).2 z)
            simp only [decide_eq_true_iff, decide_eq_false_iff_not]
            omega
          clear tb F
          generalize ys.getD k 0 = y at *
          rcases ways with g1 | ⟨g1, g2⟩
          all_goals (
            go_wp2
            go_ret
            exact ⟨by rw [RF.out]; rfl, K0.out⟩)
      · have kz : ¬ ((k : Int) < 4) := by omega
        have F : ys.all M.timeB = true := by
          rw [List.all_eq_true]
          intro x hx
          obtain ⟨j, hj, e⟩ := List.mem_iff_getElem.1 hx
          have := AL.out j (by have := E4.out; omega)
          rw [List.getD, List.getElem?_eq_getElem hj, Option.getD_some, e] at this
          exact this
        have RF : Hid (res = true) := HR.out.trans F
        clear F AL
        go_wp2
        go_ret
        exact ⟨by rw [RF.out]; rfl, K0.out⟩

theorem strCells_by (n : List Nat) (h : isB n) : strCells (byStr n) = byCells n := by
  unfold strCells byCells
  rw [byStr_list, List.map_map]
  refine List.map_congr_left (fun x hx => ?_)
  have := h x hx
  show Value.int .u8 _ = Value.int .u8 _
  congr 1
  show ((UInt8.ofNat x).toNat : Int) = _
  simp
  omega

theorem byStr_sizeN (n : List Nat) : (byStr n).size = n.length := by
  have := congrArg List.length (byStr_list n)
  rw [List.length_map] at this
  exact this
theorem own_lowL {w : World} {b b' : Nat} {e : TypeId} {size n : Nat} {v : Value} {l : List Value} (hb : b ≤ b') (h : w.ownsRow b' e size v n l) : w.ownsRow b e size v n l := by
  refine ⟨h.1, ?_⟩
  rcases h.2 with z | ⟨g, cap, cur, hv, hg, r⟩
  · exact .inl z
  · exact .inr ⟨g, cap, cur, hv, Nat.le_trans hb hg, r⟩
theorem below_deep {b : Nat} {w w' w2 : World} (h : Below b w w') (k : Below w'.heap.size w' w2) (hb : b ≤ w'.heap.size) : Below b w w2 := h.trans (k.mono hb)

set_option maxHeartbeats 8000000 in
set_option maxRecDepth 10000 in
theorem lg_written (c : M.Ca) (a : Option Addr) (cap : Nat) (W : World) (hi : CaIn W c a cap) (ok : M.CaOk c) :
    Calls Tryz.prog 36 #[caV c a cap] W fun e w' => ∃ va vc, e = .returned (.slice va (M.recL c).length vc) ∧ w'.ownsRow W.heap.size 5 1 (.slice va (M.recL c).length vc) (M.recL c).length (byCells (M.recL c)) ∧ Below W.heap.size W w' := by
  unfold caV
  obtain ⟨W1, hW1⟩ : ∃ X, X = W.alloc (.cells #[.int .i64 c.what, .int .i64 c.ses, .int .i64 c.seq, .string (byStr c.name), .int .i64 c.num, .int .i64 c.share, .slice a c.bys.length cap] 35) := ⟨_, rfl⟩
  have b1 : Below W.heap.size W W1 := by rw [hW1]; exact (Below.refl _ _).alloc (Nat.le_refl _) _
  have bx := caBx W c a cap
  rw [← hW1] at bx
  have c0 := bx.cell 0 _ rfl
  have c1 := bx.cell 1 _ rfl
  have c2 := bx.cell 2 _ rfl
  have c3 := bx.cell 3 _ rfl
  have c4 := bx.cell 4 _ rfl
  have c5 := bx.cell 5 _ rfl
  have BX := hide bx
  have sz := byStr_sizeN c.name
  have SIX : Hid (M.sixL c = [c.what, c.ses, c.seq, c.num, c.share, (c.name.length : Int)]) := rfl
  have OK := hide ok
  have i6 := hide ok.i64
  have EB : Hid (M.bodL c = M.bysL (M.sixL c) ++ c.name ++ c.bys) := rfl
  have ER : Hid (M.recL c = M.numL ((M.bodL c).length : Int) ++ M.bodL c) := rfl
  have NI := hide ok.num_in
  have BL := hide ok.body_le
  have HB := hide (fun w (hw : Below W.heap.size W w) => hi.rd.below hw)
  have HN := hide hi.nil
  have NB := hide hi.nb
  have nl := ok.nl
  have bl := ok.bl
  clear bx ok hi
  obtain ⟨W2, hW2⟩ : ∃ X, X = W1.alloc (.cells #[.int .i64 c.what, .int .i64 c.ses, .int .i64 c.seq, .int .i64 c.num, .int .i64 c.share, .int .i64 (c.name.length : Int)] 3) := ⟨_, rfl⟩
  have b2 : Below W.heap.size W W2 := by rw [hW2]; exact b1.alloc b1.size _
  have R0 : Hid (Rd W2 (some ⟨W1.heap.size, 0, none⟩) (M.sixL c)) := by
    have bx := bx_new W1 [.int .i64 c.what, .int .i64 c.ses, .int .i64 c.seq, .int .i64 c.num, .int .i64 c.share, .int .i64 (c.name.length : Int)] 3
    unfold Hid
    rw [hW2]
    refine ⟨by unfold maxLen; rw [SIX.out]; simp, fun _ => ⟨W1.heap.size, 0, rfl, bx.lt, fun i hi => ?_⟩⟩
    have hi' : i < 6 := hi
    match i, hi' with
    | 0, _ => exact bx.cell 0 _ rfl
    | 1, _ => exact bx.cell 1 _ rfl
    | 2, _ => exact bx.cell 2 _ rfl
    | 3, _ => exact bx.cell 3 _ rfl
    | 4, _ => exact bx.cell 4 _ rfl
    | 5, _ => exact bx.cell 5 _ rfl
  have BX2 : Hid (Bx W2 W.heap.size [.int .i64 c.what, .int .i64 c.ses, .int .i64 c.seq, .string (byStr c.name), .int .i64 c.num, .int .i64 c.share, .slice a c.bys.length cap]) := by
    unfold Hid
    rw [hW2]
    exact BX.out.keep (((Below.refl _ W1).alloc (Nat.le_refl _) _).block _ BX.out.lt)
  have K2 := hide b2
  have z2 : Hid (W.heap.size ≤ W2.heap.size) := b2.size
  clear b1 b2 BX
  go_enter Tryz.func36, Tryz.ntmps36
  go_upto_region 2 with fail
  rw [← hW1]
  clear hW1
  go_wp2
  rw [← hW2]
  clear hW2 c0 c1 c2 c3 c4 c5
  obtain ⟨lb, hlb⟩ : ∃ x, x = W1.heap.size := ⟨_, rfl⟩
  rw [← hlb] at R0 ⊢
  clear hlb
  have EL : Hid ((M.sixL c).length = 6) := rfl
  have O0 : Hid (W2.ownsRow W2.heap.size 5 1 (.slice none 0 0) 0 (byCells [])) := World.ownsRow_nil _ _ _ _
  go_loopw [3, 5, 21] (fun v _ i wr => ∃ (k : Nat) (va : Option Addr) (vc : Nat), k ≤ 6 ∧ i = .int .i64 k ∧ v = .slice va (M.bysL ((M.sixL c).take k)).length vc ∧ Hid (wr.ownsRow W2.heap.size 5 1 v (M.bysL ((M.sixL c).take k)).length (byCells (M.bysL ((M.sixL c).take k)))) ∧ Hid (Below W2.heap.size W2 wr)) (fun _ _ i _ => 6 - (intOf i).toNat)
  case atStart => exact ⟨0, none, 0, by omega, rfl, rfl, O0, Below.refl _ _⟩
  case round =>
    clear O0
    obtain ⟨k, va, vc, hk, rfl, rfl, OO, KK⟩ := hrel
    by_cases hlt : k < 6
    · have kz : (k : Int) < 6 := by omega
      have hl6 : k < (M.sixL c).length := hlt
      have RK := R0.out.below KK.out
      obtain ⟨b, off, e, hb, hc⟩ := RK.2 (by rw [SIX.out]; simp)
      cases e
      have cc := hc k hl6
      rw [Nat.zero_add] at cc
      have eg : (M.sixL c).getD k 0 = (M.sixL c)[k] := by simp [List.getD, hl6]
      rw [eg] at cc
      have i64 := i6.out _ (List.getElem_mem hl6)
      have tk : M.bysL ((M.sixL c).take (k + 1)) = M.bysL ((M.sixL c).take k) ++ M.numL (M.sixL c)[k] := by
        rw [List.take_succ_eq_append_getElem hl6, M.bys_app, M.bys_cons]
        show _ ++ (_ ++ []) = _
        rw [List.append_nil]
      have ll : (M.bysL ((M.sixL c).take k)).length ≤ 60 := by
        have := M.bys_len ((M.sixL c).take k) (fun x hx => i6.out x (List.mem_of_mem_take hx))
        rw [List.length_take] at this
        omega
      obtain ⟨va', vc', ev, rb, rn, _⟩ := own_rdB0 rfl (by unfold maxLen; omega) (M.bys_byte _) OO.out
      cases ev
      have NU := hide (cdnum_any va (M.bysL ((M.sixL c).take k)) vc (M.sixL c)[k] wr rb rn (by omega) i64.1 i64.2)
      have TK := hide tk
      have zk := hide KK.out.size
      clear rb rn eg hc RK i64 tk OO BX2
      generalize M.bysL ((M.sixL c).take k) = P at *
      generalize (M.sixL c)[k] = x at *
      go_wp2_with (go_at_call 56; refine NU.out.mono ?_; rintro e w3 ⟨v3, rfl, ho3, hb3⟩; have O3 := hide (own_lowL zk.out ho3); have K3 := hide (below_deep KK.out hb3 zk.out); clear ho3 hb3)
      go_roundw
      case rel =>
        obtain ⟨va3, vc3, ev⟩ : ∃ va vc, v3 = .slice va (P ++ M.numL x).length vc := by
          rcases O3.out.2 with ⟨hv, h0⟩ | ⟨g, cap, cur, hv, _⟩
          · exact ⟨none, 0, by rw [hv, h0]⟩
          · exact ⟨some ⟨g, 0, none⟩, cap, hv⟩
        refine ⟨k + 1, va3, vc3, by omega, by go_num, by rw [TK.out]; exact ev, ?_, K3⟩
        unfold Hid
        rw [TK.out]
        exact O3.out
      case measure => simp [intOf]; omega
    · have kz : ¬ ((k : Int) < 6) := by omega
      have ek : k = 6 := by omega
      have tk : (M.sixL c).take k = M.sixL c := by rw [ek]; rfl
      rw [tk] at OO ⊢
      have ll : (M.bysL (M.sixL c)).length ≤ 60 := by
        have := M.bys_len (M.sixL c) (fun x hx => i6.out x hx)
        rw [EL.out] at this
        omega
      have P8 : Hid (∀ x ∈ M.bodL c, x < 256) := OK.out.body_byte
      have BW : Hid (∀ w, Below W2.heap.size W2 w → Bx w W.heap.size [.int .i64 c.what, .int .i64 c.ses, .int .i64 c.seq, .string (byStr c.name), .int .i64 c.num, .int .i64 c.share, .slice a c.bys.length cap] ∧ RdB w a c.bys ∧ Below W.heap.size W w ∧ W2.heap.size ≤ w.heap.size) := fun w hw => by
        have kw := K2.out.trans (hw.mono z2.out)
        exact ⟨BX2.out.keep (hw.block _ BX2.out.lt), HB.out w kw, kw, hw.size⟩
      have BI := BW.out wr KK.out
      have d3 := BI.1.cell 3 _ rfl
      have SC : Hid (strCells (byStr c.name) = byCells c.name) := strCells_by _ NB.out
      clear BI tk hlt R0 BX2 HB
      have SZ := hide sz
      clear sz
      have HL : Hid ((M.bysL (M.sixL c)).length ≤ 60 ∧ c.name.length ≤ 100 ∧ c.bys.length ≤ 6000) := ⟨ll, nl, bl⟩
      clear ll nl bl
      have EB2 : Hid (∀ P, P = M.bysL (M.sixL c) → M.bodL c = P ++ c.name ++ c.bys) := fun P e => by rw [e]; exact EB.out
      obtain ⟨P, hP⟩ : ∃ x, x = M.bysL (M.sixL c) := ⟨_, rfl⟩
      have EB3 := hide (EB2.out P hP)
      rw [← hP] at OO HL ⊢
      clear EB EB2 hP EL i6 SIX
      obtain ⟨pn, hpn⟩ : ∃ x, x = P.length := ⟨_, rfl⟩
      have PN := hide hpn
      rw [← hpn] at OO HL ⊢
      clear hpn
      obtain ⟨i0, hi0, hz0, hz1, hz2⟩ := info_parts info8
      have J0 := hide hi0
      clear hi0
      have L1 : Hid (pn + (byStr c.name).size ≤ maxLen) := by have := HL.out; have := SZ.out; unfold Hid maxLen; omega
      have L2 : Hid (pn + (byStr c.name).size ≤ 140737488355328) := by have := HL.out; have := SZ.out; unfold Hid; omega
      go_upto_region 8 with (at_builtin; refine wpList_append_own_string _ rfl (.tmp 29) (.tmp 31) 33 9 rfl W2.heap.size 5 i0 Tryz.underlying33 Tryz.underlying9 J0.out hz0 hz1 hz2 (.slice va pn vc) pn (byCells P) rfl OO.out (byStr c.name) rfl L1.out L2.out KK.out.size ?_; intro v3 w3 ho3 hg3 _; rw [SC.out, ← byCells_app, SZ.out] at ho3; have K3 := hide ((KK.out).grown hg3 KK.out.size (fun k hk => (OO.out.lt k hk).1)); have O3 := hide ho3; clear ho3 hg3)
      obtain ⟨va3, vc3, ev⟩ : ∃ va vc, v3 = .slice va (pn + c.name.length) vc := by
        rcases O3.out.2 with ⟨hv, h0⟩ | ⟨g, cap, cur, hv, _⟩
        · exact ⟨none, 0, by rw [hv, h0]⟩
        · exact ⟨some ⟨g, 0, none⟩, cap, hv⟩
      subst ev
      have BI := BW.out w3 K3.out
      have d6 := BI.1.cell 6 _ rfl
      have RB3 := hide BI.2.1
      have K3z := hide BI.2.2.2
      clear BI OO KK d3 SC SZ L1 L2 J0 hz0 hz1 hz2
      have L3 : Hid (pn + c.name.length + c.bys.length ≤ 140737488355328) := by have := HL.out; unfold Hid; omega
      have PL : Hid ((P ++ c.name ++ c.bys).length = pn + c.name.length + c.bys.length) := by unfold Hid; rw [List.length_append, List.length_append, PN.out]
      obtain ⟨n3, hn3⟩ : ∃ x, x = pn + c.name.length := ⟨_, rfl⟩
      rw [← hn3] at O3 L3 PL ⊢
      obtain ⟨bn, hbn⟩ : ∃ x, x = c.bys.length := ⟨_, rfl⟩
      have BN := hide hbn
      rw [← hbn] at L3 PL d6 ⊢
      clear hn3 hbn
      go_upto_region 9 with (at_builtin; refine wpList_append_by rfl (.tmp 33) (.tmp 35) rfl W2.heap.size (.slice va3 n3 vc3) n3 (P ++ c.name) rfl O3.out a c.bys bn cap BN.out.symm rfl RB3.out HN.out (by rw [← BN.out]; exact L3.out) K3z.out ?_; intro va4 vc4 w4 ho4 hb4 _; have K4 := hide (K3.out.trans hb4); have O4 := hide ho4; clear ho4 hb4)
      have E4 : Hid (n3 + bn = (M.bodL c).length) := by unfold Hid; rw [EB3.out, PL.out]
      have o4 := O4.out
      rw [← EB3.out] at o4
      generalize n3 + bn = n4 at *
      have e4 := E4.out
      obtain ⟨va', vc', ev, rb, rn, rl⟩ := own_rdB0 e4.symm (by have := BL.out; unfold maxLen; omega) P8.out o4
      cases ev
      have NU := hide (cdnum_any none [] 0 (n4 : Int) w4 ⟨Nat.zero_le _, (fun x hx => by cases hx), fun hn => absurd rfl hn⟩ (fun _ => rfl) (by simp) (by rw [e4]; exact NI.out.1) (by rw [e4]; exact NI.out.2))
      rw [List.nil_append] at NU
      have NL : Hid ((M.numL (n4 : Int)).length ≤ 10) := by unfold Hid; rw [e4]; exact (M.num_len NI.out.1 NI.out.2).2
      have RB := hide rb
      have RN := hide rn
      have z4 : Hid (W2.heap.size ≤ w4.heap.size) := K4.out.size
      have FIN : Hid (M.recL c = M.numL (n4 : Int) ++ M.bodL c) := by unfold Hid; rw [ER.out, e4]
      have LB : Hid ((M.numL (n4 : Int)).length + (M.bodL c).length ≤ 140737488355328) := by have := NL.out; have := BL.out; unfold Hid; omega
      clear rb rn rl o4 e4 O4 O3 K3 RB3 K3z d6 PL L3 BW HN
      generalize M.numL (n4 : Int) = Nn at *
      go_wp2_with (first
        | (go_at_call 56; refine NU.out.mono ?_; rintro e w5 ⟨v5, rfl, ho5, hb5⟩; have O5 := hide (own_lowL z4.out ho5); have K5 := hide (below_deep K4.out hb5 z4.out); have RB5 := hide (RB.out.below hb5); clear ho5 hb5)
        | (at_builtin; refine wpList_append_by rfl (.tmp 39) (.tmp 40) rfl W2.heap.size v5 Nn.length Nn rfl O5.out va4 (M.bodL c) n4 vc4 E4.out.symm rfl RB5.out RN.out LB.out K5.out.size ?_; intro va6 vc6 w6 ho6 hb6 _; have K6 := hide (K5.out.trans hb6); have O6 := hide ho6; clear ho6 hb6))
      go_ret
      have el : (M.recL c).length = Nn.length + n4 := by rw [FIN.out, List.length_append, E4.out]
      refine ⟨va6, vc6, by rw [el]; rfl, ?_, K2.out.trans (K6.out.mono z2.out)⟩
      rw [el, FIN.out]
      exact own_lowL z2.out O6.out
end Go.Proofs.YtodidokeblblgaaGreat
