/-
  What the reference's Region answers, for every place of a tree that is right.
-/
import Derived.Test.YtcaljnhdfbjpnaeDoorRefUp
import Derived.Test.YtcaljnhdfbjpnaeDoorRefAny
namespace Go.Proofs.YtcaljnhdfbjpnaeDoor
open Go.ChangeShapes Go.WideShapes Go.ChangeAt Go.RowKit
set_option linter.unusedVariables false

theorem M.reg_enough {t : List M.Nd} {m : Int} (F : M.Fair t m) : ∀ (f g k : Nat) (l : List M.Sp), k < t.length → k < f → k < g → M.regD t f k l = M.regD t g k l
  | 0, g, k, l, hk, hf, hg => by omega
  | f + 1, 0, k, l, hk, hf, hg => by omega
  | f + 1, g + 1, k, l, hk, hf, hg => by
    unfold M.regD
    cases e : M.abv t k with
    | none => rfl
    | some u =>
      have h1 := ((M.abv_iff F hk).1 e).1
      have h2 := M.abv_lt F hk e
      exact M.reg_enough F f g u _ h1 (by omega) (by omega)
theorem M.reg_none {t : List M.Nd} {k : Nat} {l : List M.Sp} (e : M.abv t k = none) : M.regD t t.length k l = l := by
  cases h : t.length with
  | zero => rfl
  | succ n => unfold M.regD; rw [e]
theorem M.reg_step {t : List M.Nd} {m : Int} (F : M.Fair t m) {k u : Nat} {l : List M.Sp} (hk : k < t.length) (e : M.abv t k = some u) :
    M.regD t t.length k l = M.regD t t.length u (l.set (M.nf (M.nAt t u)).toNat (M.narrow (M.nAt t u) (decide (M.nl (M.nAt t u) = (k : Int))) (l.getD (M.nf (M.nAt t u)).toNat (0, 0, false)))) := by
  have h1 := ((M.abv_iff F hk).1 e).1
  have h2 := M.abv_lt F hk e
  obtain ⟨f, q⟩ : ∃ f, t.length = f + 1 := ⟨t.length - 1, by omega⟩
  rw [show M.regD t t.length k l = M.regD t f u (l.set (M.nf (M.nAt t u)).toNat (M.narrow (M.nAt t u) (decide (M.nl (M.nAt t u) = (k : Int))) (l.getD (M.nf (M.nAt t u)).toNat (0, 0, false)))) by rw [q]; conv => lhs; unfold M.regD; rw [e]]
  exact M.reg_enough F f t.length u _ h1 (by omega) (by omega)
theorem M.up_none {t : List M.Nd} {k : Nat} (e : M.abv t k = none) : M.upI t k = -1 := by unfold M.upI; rw [e]
theorem M.up_some' {t : List M.Nd} {k u : Nat} (e : M.abv t k = some u) : M.upI t k = (u : Int) := by unfold M.upI; rw [e]
theorem own_shape3 {w : World} {base n e size : Nat} {v : Value} {l : List Value} (h : w.ownsRow base e size v n l) (hn : 0 < n) : ∃ g cap, v = .slice (some ⟨g, 0, none⟩) n cap ∧ base ≤ g ∧ g < w.heap.size := by
  rcases h.2 with ⟨_, h0⟩ | ⟨g, cap, cur, hv, hb, hg, _⟩
  · omega
  · exact ⟨g, cap, hv, hb, (Array.getElem?_eq_some_iff.1 hg).1⟩
/-- the cells of a span in such a row, behind new blocks -/
theorem own_spanAt {w : World} {base n g cap : Nat} {ss : List M.Sp} (h : w.ownsRow base 97 3 (.slice (some ⟨g, 0, none⟩) n cap) n (spCells ss)) (hn : ss.length = n) {i : Nat} (hi : i < ss.length) :
    w.cell? ⟨g, i * 3, none⟩ = some (.int .i64 ss[i].1) ∧ w.cell? ⟨g, i * 3 + 1, none⟩ = some (.int .i64 ss[i].2.1) ∧ w.cell? ⟨g, i * 3 + 2, none⟩ = some (.bool ss[i].2.2) := by
  obtain ⟨q0, q1, q2⟩ := spCells_at ss i hi
  rw [M.getD_at hi] at q0 q1 q2
  exact ⟨(h.cellAt (i * 3) (by omega)).trans q0, (h.cellAt (i * 3 + 1) (by omega)).trans q1, (h.cellAt (i * 3 + 2) (by omega)).trans q2⟩

set_option maxHeartbeats 16000000 in
set_option maxRecDepth 10000 in
theorem rregion_any (a0 : Option Addr) (ts : List M.Nd) (cap m k : Nat) (w : World) (h : RdN w a0 ts) (F : M.Fair ts (m : Int)) (hk : k < ts.length) :
    Calls Tryd.prog 29 #[.slice a0 ts.length cap, .int .i64 (m : Nat), .int .i64 (k : Nat)] w fun e w' => ∃ v, e = .returned v ∧ w'.ownsRow w.heap.size 97 3 v m (spCells (M.region ts m k)) ∧ Below w.heap.size w w' := by
  have hm : ts.length ≤ 9223372036854775807 := h.1
  have m8 : m ≤ 8 := by have := F.2.2.2.1; omega
  have l63 := F.1
  have HT := hide h
  have HF := hide F
  have R0 : Hid (M.regD ts ts.length k (List.replicate m M.all0) = M.region ts m k) := rfl
  have CU := hide (fun q W (hW : Below w.heap.size w W) => up_any a0 ts cap q W (h.below hW))
  obtain ⟨i0, hi, hz0, hz1, hz2⟩ := info_parts info33
  have I0 := hide hi
  clear h F hi
  generalize M.region ts m k = V at *
  go_enter Tryd.func29, Tryd.ntmps29
  go_wp2
  go_loopw [7, 8] (fun v i wr => ∃ j : Nat, j ≤ m ∧ i = .int .i64 j ∧ wr.ownsRow w.heap.size 97 3 v j (spCells (List.replicate j M.all0)) ∧ Below w.heap.size w wr) (fun _ i _ => m - (intOf i).toNat)
  case atStart => exact ⟨0, Nat.zero_le _, rfl, World.ownsRow_nil _ _ _ _, Below.refl _ _⟩
  case round =>
    obtain ⟨j, hj, rfl, hown, hbl⟩ := hrel
    rename_i u7
    have HO := hide hown
    have kw := hbl.size
    clear hown
    by_cases hlt : j < m
    · have NX : Hid (spCells (List.replicate (j + 1) M.all0) = spCells (List.replicate j M.all0) ++ [.int .i64 (-1000000), .int .i64 1000000, .bool true]) := by
        unfold Hid; rw [List.replicate_succ', spCells_snoc]; rfl
      go_wp2_with (at_builtin; refine wpList_append_lies _ rfl (.tmp 18) (.tmp 20) 65 rfl w.heap.size 97 i0 (.agg #[.int .i64 0, .int .i64 0, .bool false]) 3 24 Tryd.underlying65 I0.out hz0 hz1 hz2 rfl (by omega) u7 j (spCells (List.replicate j M.all0)) rfl (HO.out.alloc _) ⟨wr.heap.size, 0, none⟩ 1 1 [.int .i64 (-1000000), .int .i64 1000000, .bool true] rfl rfl (World.news_of_block (heap_alloc_new _ _)) (by simp [Value.oneCell']) (by omega) (by unfold maxLen; omega) (by omega) (by simp; omega) (wr.heap.size + 1) (by simp) ?_)
      intro g cap2 w5 hov hgrow hat hlt5
      have hb5 : Below w.heap.size w w5 := (hbl.alloc hbl.size _).grown hgrow (by simp; omega) (fun k hk => (HO.out.lt k hk).1)
      have HO5 : Hid (w5.ownsRow w.heap.size 97 3 (.slice (some ⟨g, 0, none⟩) (j + 1) cap2) (j + 1) (spCells (List.replicate (j + 1) M.all0))) := by
        unfold Hid; rw [NX.out]; exact hov
      clear hov hgrow hat
      go_wp2
      go_roundw
      case rel => exact ⟨j + 1, by omega, by go_num, HO5.out, hb5⟩
      case measure => simp [intOf]; omega
    · have hjm : j = m := by omega
      subst hjm
      have U1 := hide (CU.out k wr hbl)
      go_wp2_with (go_at_call 56; refine U1.out.mono ?_; rintro e w1 ⟨rfl, rfl⟩)
      go_loopw [9, 10] (fun kk up wx => ∃ (q : Nat) (l : List M.Sp), q < ts.length ∧ l.length = j ∧ kk = .int .i64 q ∧ up = .int .i64 (M.upI ts q) ∧ Hid (M.regD ts ts.length q l = V) ∧ wx.ownsRow w.heap.size 97 3 u7 j (spCells l) ∧ Below w.heap.size w wx) (fun kk _ _ => (intOf kk).toNat)
      case atStart => exact ⟨k, List.replicate j M.all0, hk, by simp, rfl, rfl, R0, HO.out, hbl⟩
      case round =>
        clear U1 HO R0 hbl kw
        obtain ⟨q, l, hq, hl, rfl, rfl, I, hown, hbl⟩ := hrel
        cases e : M.abv ts q with
        | none =>
          have EV : Hid (V = l) := by unfold Hid; rw [← I.out, M.reg_none e]
          have HO := hide hown
          rw [M.up_none e]
          clear e hown I
          go_wp2
          go_ret
          exact ⟨u7, rfl, by rw [EV.out]; exact HO.out, hbl⟩
        | some u =>
          obtain ⟨h1, h2⟩ := (M.abv_iff HF.out hq).1 e
          have hu := M.abv_lt HF.out hq e
          rw [M.up_some' e]
          have na := M.node_ask (HF.out.2.2.2.2.1 u h1) h2.1
          have hc := M.out_false na.2.2.1
          obtain ⟨fi, hfi⟩ : ∃ fi : Nat, M.nf (M.nAt ts u) = fi := ⟨(M.nf (M.nAt ts u)).toNat, by have := na.1; omega⟩
          have hfl : fi < l.length := by have := na.2.1; omega
          obtain ⟨g, cap2, rfl, hg1, hg2⟩ := own_shape3 hown (by omega)
          obtain ⟨p0, p1, p2⟩ := own_spanAt hown hl hfl
          have z0 := hown.frozenAt (fi * 3)
          have z1 := hown.frozenAt (fi * 3 + 1)
          have z2 := hown.frozenAt (fi * 3 + 2)
          have NR : Hid (M.regD ts ts.length u (l.set fi (M.narrow (M.nAt ts u) (decide (M.nl (M.nAt ts u) = (q : Int))) l[fi])) = V) := by
            unfold Hid
            have := M.reg_step HF.out (l := l) hq e
            rw [hfi, Int.toNat_natCast, M.getD_at hfl] at this
            rw [← this]; exact I.out
          obtain ⟨b0, off, rfl, hb0, hc6⟩ := (HT.out.below hbl).2 (by intro e; subst e; simp at hq)
          obtain ⟨s0, s1, s2, s3, s4, s5⟩ := hc6 u h1
          rw [hfi] at s0
          have OS : Hid (∀ (o1 o2 : Obj) (s : M.Sp), (((((wr.setCell ⟨g, fi * 3, none⟩ (.int .i64 s.1)).setCell ⟨g, fi * 3 + 1, none⟩ (.int .i64 s.2.1)).setCell ⟨g, fi * 3 + 2, none⟩ (.bool s.2.2)).alloc o1).alloc o2).ownsRow w.heap.size 97 3 (.slice (some ⟨g, 0, none⟩) j cap2) j (spCells (l.set fi s))) := fun o1 o2 s => ((own_setS hown fi s).alloc o1).alloc o2
          have BS : Hid (∀ (o1 o2 : Obj) (s : M.Sp), Below w.heap.size w (((((wr.setCell ⟨g, fi * 3, none⟩ (.int .i64 s.1)).setCell ⟨g, fi * 3 + 1, none⟩ (.int .i64 s.2.1)).setCell ⟨g, fi * 3 + 2, none⟩ (.bool s.2.2)).alloc o1).alloc o2)) := fun o1 o2 s => by
            have k1 := ((hbl.setCell (p := ⟨g, fi * 3, none⟩) hg1 (.int .i64 s.1)).setCell (p := ⟨g, fi * 3 + 1, none⟩) hg1 (.int .i64 s.2.1)).setCell (p := ⟨g, fi * 3 + 2, none⟩) hg1 (.bool s.2.2)
            exact (k1.alloc k1.size o1).alloc (k1.alloc k1.size o1).size o2
          have NW : Hid (∀ b s, M.narrow (M.nAt ts u) b s = if b = true then (s.1, if M.nc (M.nAt ts u) - 1 < s.2.1 then M.nc (M.nAt ts u) - 1 else s.2.1, s.2.2 && M.ns (M.nAt ts u)) else (if s.1 < M.nc (M.nAt ts u) then M.nc (M.nAt ts u) else s.1, s.2.1, s.2.2 && !M.ns (M.nAt ts u))) := fun b s => rfl
          have CU2 := hide (fun W (hW : Below w.heap.size w W) => CU.out u W hW)
          have ln : (l.set fi (M.narrow (M.nAt ts u) (decide (M.nl (M.nAt ts u) = (q : Int))) l[fi])).length = j := by rw [List.length_set]; exact hl
          have LN := hide ln
          obtain ⟨hc1, hc2⟩ := hc
          have fz : (fi : Int) < (j : Int) := by omega
          have uz : (u : Int) < (ts.length : Int) := by omega
          clear ln na hc6 hown I e h2 hfi CU HF HT
          rw [NW.out] at NR LN
          clear NW
          generalize M.nf (M.nAt ts u) = f at *
          generalize M.nc (M.nAt ts u) = c at *
          generalize M.nl (M.nAt ts u) = ll at *
          generalize M.nr (M.nAt ts u) = rr at *
          generalize M.ns (M.nAt ts u) = sl at *
          generalize M.nv (M.nAt ts u) = vv at *
          generalize l[fi].1 = lo at *
          generalize l[fi].2.1 = hi at *
          generalize l[fi].2.2 = nl at *
          by_cases hL : ll = (q : Int)
          · have qL : (ll == (q : Int)) = true := by rw [beq_iff_eq]; exact hL
            by_cases hC : c - 1 < hi
            · have qC : decide (c - 1 < hi) = true := decide_eq_true hC
              cases nl with
              | true =>
                have NR2 : Hid (M.regD ts ts.length u (l.set fi (lo, c - 1, sl)) = V) := by unfold Hid; rw [← NR.out]; simp [hL, hC]
                have LN2 : Hid ((l.set fi (lo, c - 1, sl)).length = j) := by unfold Hid; rw [List.length_set]; exact hl
                clear NR LN hL hC
                go_wp2_with (go_at_call 56; refine (CU2.out _ (BS.out _ _ (lo, c - 1, sl))).mono ?_; rintro e w1 ⟨rfl, rfl⟩)
                go_roundw
                case rel => exact ⟨u, l.set fi (lo, c - 1, sl), h1, LN2.out, rfl, rfl, NR2.out, OS.out _ _ (lo, c - 1, sl), BS.out _ _ (lo, c - 1, sl)⟩
                case measure => simp [intOf]; omega
              | false =>
                have NR2 : Hid (M.regD ts ts.length u (l.set fi (lo, c - 1, false)) = V) := by unfold Hid; rw [← NR.out]; simp [hL, hC]
                have LN2 : Hid ((l.set fi (lo, c - 1, false)).length = j) := by unfold Hid; rw [List.length_set]; exact hl
                clear NR LN hL hC
                go_wp2_with (go_at_call 56; refine (CU2.out _ (BS.out _ _ (lo, c - 1, false))).mono ?_; rintro e w1 ⟨rfl, rfl⟩)
                go_roundw
                case rel => exact ⟨u, l.set fi (lo, c - 1, false), h1, LN2.out, rfl, rfl, NR2.out, OS.out _ _ (lo, c - 1, false), BS.out _ _ (lo, c - 1, false)⟩
                case measure => simp [intOf]; omega
            · have qC : decide (c - 1 < hi) = false := decide_eq_false hC
              cases nl with
              | true =>
                have NR2 : Hid (M.regD ts ts.length u (l.set fi (lo, hi, sl)) = V) := by unfold Hid; rw [← NR.out]; simp [hL, hC]
                have LN2 : Hid ((l.set fi (lo, hi, sl)).length = j) := by unfold Hid; rw [List.length_set]; exact hl
                clear NR LN hL hC
                go_wp2_with (go_at_call 56; refine (CU2.out _ (BS.out _ _ (lo, hi, sl))).mono ?_; rintro e w1 ⟨rfl, rfl⟩)
                go_roundw
                case rel => exact ⟨u, l.set fi (lo, hi, sl), h1, LN2.out, rfl, rfl, NR2.out, OS.out _ _ (lo, hi, sl), BS.out _ _ (lo, hi, sl)⟩
                case measure => simp [intOf]; omega
              | false =>
                have NR2 : Hid (M.regD ts ts.length u (l.set fi (lo, hi, false)) = V) := by unfold Hid; rw [← NR.out]; simp [hL, hC]
                have LN2 : Hid ((l.set fi (lo, hi, false)).length = j) := by unfold Hid; rw [List.length_set]; exact hl
                clear NR LN hL hC
                go_wp2_with (go_at_call 56; refine (CU2.out _ (BS.out _ _ (lo, hi, false))).mono ?_; rintro e w1 ⟨rfl, rfl⟩)
                go_roundw
                case rel => exact ⟨u, l.set fi (lo, hi, false), h1, LN2.out, rfl, rfl, NR2.out, OS.out _ _ (lo, hi, false), BS.out _ _ (lo, hi, false)⟩
                case measure => simp [intOf]; omega
          · have qL : (ll == (q : Int)) = false := by rw [beq_eq_false_iff_ne]; exact hL
            by_cases hC : lo < c
            · have qC : decide (lo < c) = true := decide_eq_true hC
              cases nl with
              | true =>
                have NR2 : Hid (M.regD ts ts.length u (l.set fi (c, hi, !sl)) = V) := by unfold Hid; rw [← NR.out]; simp [hL, hC]
                have LN2 : Hid ((l.set fi (c, hi, !sl)).length = j) := by unfold Hid; rw [List.length_set]; exact hl
                clear NR LN hL hC
                go_wp2_with (go_at_call 56; refine (CU2.out _ (BS.out _ _ (c, hi, !sl))).mono ?_; rintro e w1 ⟨rfl, rfl⟩)
                go_roundw
                case rel => exact ⟨u, l.set fi (c, hi, !sl), h1, LN2.out, rfl, rfl, NR2.out, OS.out _ _ (c, hi, !sl), BS.out _ _ (c, hi, !sl)⟩
                case measure => simp [intOf]; omega
              | false =>
                have NR2 : Hid (M.regD ts ts.length u (l.set fi (c, hi, false)) = V) := by unfold Hid; rw [← NR.out]; simp [hL, hC]
                have LN2 : Hid ((l.set fi (c, hi, false)).length = j) := by unfold Hid; rw [List.length_set]; exact hl
                clear NR LN hL hC
                go_wp2_with (go_at_call 56; refine (CU2.out _ (BS.out _ _ (c, hi, false))).mono ?_; rintro e w1 ⟨rfl, rfl⟩)
                go_roundw
                case rel => exact ⟨u, l.set fi (c, hi, false), h1, LN2.out, rfl, rfl, NR2.out, OS.out _ _ (c, hi, false), BS.out _ _ (c, hi, false)⟩
                case measure => simp [intOf]; omega
            · have qC : decide (lo < c) = false := decide_eq_false hC
              cases nl with
              | true =>
                have NR2 : Hid (M.regD ts ts.length u (l.set fi (lo, hi, !sl)) = V) := by unfold Hid; rw [← NR.out]; simp [hL, hC]
                have LN2 : Hid ((l.set fi (lo, hi, !sl)).length = j) := by unfold Hid; rw [List.length_set]; exact hl
                clear NR LN hL hC
                go_wp2_with (go_at_call 56; refine (CU2.out _ (BS.out _ _ (lo, hi, !sl))).mono ?_; rintro e w1 ⟨rfl, rfl⟩)
                go_roundw
                case rel => exact ⟨u, l.set fi (lo, hi, !sl), h1, LN2.out, rfl, rfl, NR2.out, OS.out _ _ (lo, hi, !sl), BS.out _ _ (lo, hi, !sl)⟩
                case measure => simp [intOf]; omega
              | false =>
                have NR2 : Hid (M.regD ts ts.length u (l.set fi (lo, hi, false)) = V) := by unfold Hid; rw [← NR.out]; simp [hL, hC]
                have LN2 : Hid ((l.set fi (lo, hi, false)).length = j) := by unfold Hid; rw [List.length_set]; exact hl
                clear NR LN hL hC
                go_wp2_with (go_at_call 56; refine (CU2.out _ (BS.out _ _ (lo, hi, false))).mono ?_; rintro e w1 ⟨rfl, rfl⟩)
                go_roundw
                case rel => exact ⟨u, l.set fi (lo, hi, false), h1, LN2.out, rfl, rfl, NR2.out, OS.out _ _ (lo, hi, false), BS.out _ _ (lo, hi, false)⟩
                case measure => simp [intOf]; omega

end Go.Proofs.YtcaljnhdfbjpnaeDoor
