/-
  Several texts as one: RefShR, RefShD, RefShS.
-/
import Derived.Test.YtiggkjkjfnlfkaaGreatDoorRunP3
import Derived.Test.YtiggkjkjfnlfkaaGreatDoorRunS13
import Derived.Test.YtiggkjkjfnlfkaaGreatDoorRunS30
import Derived.BigQuiet
import Derived.Test.YtiggkjkjfnlfkaaGreatDoorRunS21
import Derived.Test.YtiggkjkjfnlfkaaGreatDoorRunS25
namespace Go.Proofs.YtiggkjkjfnlfkaaGreatDoor
open Go.ChangeShapes Go.WideShapes Go.ChangeAt Go.RowKit Go.Lib
set_option linter.unusedVariables false
theorem str_lt {v o : M.Vn} (hv : isB v.name) (ho : isB o.name) : Op.bytesLess (byStr v.name).toList (byStr o.name).toList = M.nmLt v.name o.name := by
  rw [byStr_bytes, byStr_bytes, less_is]
  have e1 := kv_name (a := v) hv
  have e2 := kv_name (a := o) ho
  show M.nmLt (M.kv v).name (M.kv o).name = _
  rw [e1, e2]
theorem str_ne {a b : List Nat} (ha : isB a) (hb : isB b) (h : a ≠ b) : ¬ (byStr a).toList = (byStr b).toList := fun z => by
  rw [ByteArray.toList_eq, ByteArray.toList_eq, byStr_list, byStr_list] at z
  exact h (ofs_inj _ _ ha hb z)
/-- one version ahead of another one, as the program asks -/
theorem vlt_ways {v o : M.Vn} (hv : isB v.name) (ho : isB o.name) : (M.vLt v o = true ∧ ((Op.bytesLess (byStr o.name).toList (byStr v.name).toList = false ∧ ((byStr o.name).toList == (byStr v.name).toList) = false) ∨ (byStr o.name = byStr v.name ∧ Op.bytesLess (byStr v.name).toList (byStr v.name).toList = false ∧ decide (v.num < o.num) = true))) ∨ (M.vLt v o = false ∧ ((Op.bytesLess (byStr o.name).toList (byStr v.name).toList = true ∧ ((byStr o.name).toList == (byStr v.name).toList) = false) ∨ (byStr o.name = byStr v.name ∧ Op.bytesLess (byStr v.name).toList (byStr v.name).toList = false ∧ decide (v.num < o.num) = false))) := by
  rw [str_lt ho hv, str_lt hv hv, M.nm_irr]
  by_cases e : o.name = v.name
  · have e2 : byStr o.name = byStr v.name := by rw [e]
    have ev : M.vLt v o = decide (v.num < o.num) := by unfold M.vLt; rw [e, M.nm_irr]; simp
    by_cases l : v.num < o.num
    · exact .inl ⟨by rw [ev]; exact decide_eq_true l, .inr ⟨e2, rfl, decide_eq_true l⟩⟩
    · exact .inr ⟨by rw [ev]; exact decide_eq_false l, .inr ⟨e2, rfl, decide_eq_false l⟩⟩
  · have ne : ((byStr o.name).toList == (byStr v.name).toList) = false := by rw [beq_eq_false_iff_ne]; exact str_ne ho hv e
    rw [ne]
    have ev : M.vLt v o = M.nmLt v.name o.name := by unfold M.vLt; rw [decide_eq_false (fun z => e z.symm)]; simp
    rcases M.nm_total v.name o.name (fun z => e z.symm) with q | q
    · exact .inl ⟨by rw [ev]; exact q, .inl ⟨M.nm_asym q, rfl⟩⟩
    · exact .inr ⟨by rw [ev]; exact M.nm_asym q, .inl ⟨q, rfl⟩⟩
theorem ver_len (l : List (M.Vn × M.Gv)) : ∀ k, (M.verK l k).length = k
  | 0 => rfl
  | k + 1 => by
    show (M.insV (M.verK l k) _).length = k + 1
    unfold M.insV
    have := M.kd_le (M.verK l k) ((l.map (·.1)).getD k M.vn0) (M.verK l k).length
    rw [List.length_append, List.length_cons, List.length_take, List.length_drop, ver_len l k] at *
    omega

theorem own_some {w : World} {base n oc : Nat} {oa : Option Addr} {R : List M.Vn} (h : w.ownsRow base 49 4 (.slice oa n oc) n (vnCells R)) (hn : 0 < n) : ∃ g, oa = some ⟨g, 0, none⟩ := by
  rcases h.2 with ⟨_, z⟩ | ⟨g, cap, cur, hv, _⟩
  · omega
  · rw [Value.slice.injEq] at hv
    exact ⟨g, hv.1⟩
theorem addO (g o j : Nat) : (⟨g, o, none⟩ : Addr).add j = ⟨g, o + j, none⟩ := by unfold Addr.add; simp
theorem add0 (g j : Nat) : (⟨g, 0, none⟩ : Addr).add j = ⟨g, j, none⟩ := by rw [addO, Nat.zero_add]
theorem src_take {w : World} {base n oc : Nat} {oa : Option Addr} {R : List M.Vn} (h : w.ownsRow base 49 4 (.slice oa n oc) n (vnCells R)) (hn : R.length = n) {m : Nat} (hm : m ≤ n) : R.take m ≠ [] → ∃ ad, oa = some ad ∧ ∀ j u, (vnCells (R.take m))[j]? = some u → w.cell? (ad.add j) = some u := by
  intro hne
  have n0 : 0 < n := by
    cases n with
    | zero => cases R with
      | nil => simp at hne
      | cons _ _ => simp at hn
    | succ _ => omega
  obtain ⟨g, rfl⟩ := own_some h n0
  refine ⟨_, rfl, fun j u hj => ?_⟩
  have e : vnCells R = vnCells (R.take m) ++ vnCells (R.drop m) := by rw [← vnCells_app, List.take_append_drop]
  obtain ⟨jl, _⟩ := List.getElem?_eq_some_iff.1 hj
  have jl2 := jl
  rw [vnCells_len, List.length_take] at jl2
  rw [add0, h.cellAt j (by omega), e, List.getElem?_append_left jl]
  exact hj
theorem src_drop {w : World} {base n oc : Nat} {oa : Option Addr} {R : List M.Vn} (h : w.ownsRow base 49 4 (.slice oa n oc) n (vnCells R)) (hn : R.length = n) {m : Nat} (hm : m ≤ n) (ho : n ≤ oc) : R.drop m ≠ [] → ∃ ad, (if oc = m then oa else Option.map (fun x => x.add (m * 4)) oa) = some ad ∧ ∀ j u, (vnCells (R.drop m))[j]? = some u → w.cell? (ad.add j) = some u := by
  intro hne
  have n0 : m < n := by
    by_cases q : m < n
    · exact q
    · exact absurd (List.drop_eq_nil_of_le (by omega)) hne
  obtain ⟨g, rfl⟩ := own_some h (by omega)
  rw [if_neg (by omega)]
  refine ⟨_, rfl, fun j u hj => ?_⟩
  have e : vnCells R = vnCells (R.take m) ++ vnCells (R.drop m) := by rw [← vnCells_app, List.take_append_drop]
  obtain ⟨jl, _⟩ := List.getElem?_eq_some_iff.1 hj
  rw [vnCells_len, List.length_drop] at jl
  have tl : (vnCells (R.take m)).length = m * 4 := by rw [vnCells_len, List.length_take]; omega
  have ea : ((⟨g, 0, none⟩ : Addr).add (m * 4)).add j = ⟨g, m * 4 + j, none⟩ := by rw [add0, addO]
  rw [ea, h.cellAt (m * 4 + j) (by omega), e, List.getElem?_append_right (by omega), tl, Nat.add_sub_cancel_left]
  exact hj
theorem no_cap {oa : Option Addr} {oc m d : Nat} (on : oa = none → oc = 0) (mo : m ≤ oc) : (if oc = m then oa else Option.map (fun x => x.add d) oa) = none → oc - m = 0 := fun z => by
  by_cases q : oc = m
  · omega
  · rw [if_neg q] at z
    cases oa with
    | none => have := on rfl; omega
    | some p => cases z
theorem src_one' {w : World} {v : M.Vn} {sv : ByteArray} {t : TypeId} (hs : byStr v.name = sv) : [v] ≠ [] → ∃ ad, (some ⟨w.heap.size, 0, none⟩ : Option Addr) = some ad ∧ ∀ j u, (vnCells [v])[j]? = some u → (w.alloc (.cells #[.string sv, .int .i64 v.num, .int .i64 v.stage, .int .i64 v.share] t)).cell? (ad.add j) = some u := by
  subst hs
  exact src_one

set_option maxHeartbeats 16000000 in
set_option maxRecDepth 10000 in
theorem rall_any {W : World} {s : Nat} {T : Nat → Nat} {S : M.Sh} {la : Option Addr} {lc : Nat} {da : Option Addr} {dc : Nat} {G : Nat → Gr} (h : RV W s T S la lc da dc G) (hi : S.idx ≤ 900) :
    Calls Tryz.prog 14 #[.pointer (some ⟨s, 0, none⟩)] W fun e w' => ∃ a cap, e = .returned (.slice a (M.allS S).length cap) ∧ RdV w' a (M.allS S) ∧ Below W.heap.size W w' := by
  have mx : S.l.length ≤ 900 := by have := h.inv.ll; omega
  have H := hide h
  clear h hi
  go_enter Tryz.func14, Tryz.ntmps14
  go_wp2
  go_loopw [3, 4] (fun y3 y4 wr => ∃ (k : Nat) (oa : Option Addr) (oc : Nat), k ≤ S.l.length ∧ y3 = .slice oa k oc ∧ y4 = .int .i64 (k : Int) ∧ Hid (wr.ownsRow W.heap.size 49 4 (.slice oa k oc) k (vnCells (M.verK S.l k))) ∧ Hid (Below W.heap.size W wr)) (fun _ y4 _ => S.l.length - (intOf y4).toNat)
  case atStart => exact ⟨0, none, 0, Nat.zero_le _, rfl, rfl, World.ownsRow_nil _ _ _ _, Below.refl _ _⟩
  case round =>
    obtain ⟨k, oa, oc, hk, rfl, rfl, OW, BW⟩ := hrel
    have HW := hide (H.out.below BW.out)
    have s1 := HW.out.box.cell 1 _ rfl
    by_cases hlt : k < S.l.length
    case neg =>
      have ek : k = S.l.length := by omega
      have kz : ¬ ((k : Int) < (S.l.length : Int)) := by omega
      subst ek
      clear HW
      go_wp2
      go_ret
      obtain ⟨a, cap, e, r, _⟩ := own_rdV (ver_len _ _) (by unfold maxLen; omega) OW.out
      cases e
      have al : (M.allS S).length = S.l.length := ver_len _ _
      exact ⟨oa, ⟨oc, by rw [al]; rfl⟩, r, BW.out⟩
    have kz : (k : Int) < (S.l.length : Int) := by omega
    obtain ⟨b, rfl, bl, hc⟩ := HW.out.item hlt
    have d0 := hc 0 _ (by omega) rfl
    have d1 := hc 1 _ (by omega) rfl
    have d2 := hc 2 _ (by omega) rfl
    have d3 := hc 3 _ (by omega) rfl
    rw [Nat.add_zero] at d0
    clear hc
    have ev : M.verK S.l (k + 1) = M.insV (M.verK S.l k) (vAt S k) := by
      show M.insV (M.verK S.l k) ((S.l.map (·.1)).getD k M.vn0) = _
      have : (S.l.map (·.1)).getD k M.vn0 = (S.l.getD k M.vg0).1 := by simp [List.getD, hlt]
      rw [this]
    have EV := hide ev
    have vb : isB (vAt S k).name := H.out.inv.nb k hlt
    have OB : Hid (∀ i, i < k → isB (M.vAtL (M.verK S.l k) i).name) := fun i hi => by
      have hi' : i < (M.verK S.l k).length := by rw [ver_len]; exact hi
      rw [vAtL_in _ hi']
      obtain ⟨j, hj, e⟩ := ((M.ver_spec (M.key_ky H.out.inv.nu) k (by omega)).2 _).1 (List.getElem_mem hi')
      rw [e]
      have hjl : j < S.l.length := by omega
      have : (S.l.map (·.1)).getD j M.vn0 = (S.l.getD j M.vg0).1 := by simp [List.getD, hjl]
      rw [this]
      exact H.out.inv.nb j hjl
    have LN : Hid ((M.verK S.l k).length = k) := ver_len _ _
    have RD : Hid (RdV wr oa (M.verK S.l k)) := by
      obtain ⟨a, cap, e, r, _⟩ := own_rdV (ver_len _ _) (by unfold maxLen; omega) OW.out
      cases e
      exact r
    have OR : Hid (k ≤ oc ∧ (oa = none → oc = 0)) := by
      rcases OW.out.2 with ⟨hv, z⟩ | ⟨g, cap, cur, hv, _, _, q1, q2, _⟩
      · rw [Value.slice.injEq] at hv
        exact ⟨by omega, fun _ => hv.2.2⟩
      · rw [Value.slice.injEq] at hv
        exact ⟨by omega, fun z => by rw [hv.1] at z; cases z⟩
    clear ev HW
    go_upto_region 6 with fail
    obtain ⟨X, hX⟩ : ∃ X, X = wr.alloc (.cells #[.string (byStr (vAt S k).name), .int .i64 (vAt S k).num, .int .i64 (vAt S k).stage, .int .i64 (vAt S k).share] 49) := ⟨_, rfl⟩
    rw [← hX]
    have BX : Hid (Below wr.heap.size wr X) := by unfold Hid; rw [hX]; exact (Below.refl _ _).alloc (Nat.le_refl _) _
    have VX : Hid (Bx X wr.heap.size [.string (byStr (vAt S k).name), .int .i64 (vAt S k).num, .int .i64 (vAt S k).stage, .int .i64 (vAt S k).share]) := by unfold Hid; rw [hX]; exact bx_new wr _ _
    clear hX s1 d0 d1 d2 d3
    generalize M.verK S.l k = R at *
    generalize vAt S k = v at *
    go_wp2
    go_loopw [6] (fun y6 wx => ∃ m : Nat, m ≤ k ∧ y6 = .int .i64 (m : Int) ∧ Hid (M.kDown R v m = M.kDown R v k) ∧ Hid (Below X.heap.size X wx)) (fun y6 _ => (intOf y6).toNat)
    case atStart => exact ⟨k, Nat.le_refl _, rfl, rfl, Below.refl _ _⟩
    case round =>
      obtain ⟨m, hm, rfl, KD, BX2⟩ := hrel
      have vx := VX.out.keep (BX2.out.block _ VX.out.lt)
      have v0 := vx.cell 0 _ rfl
      have v1 := vx.cell 1 _ rfl
      have rd2 := RD.out.below (below_on BX.out BX2.out)
      by_cases m0 : m = 0
      · have KK : Hid (M.kDown R v k = m) := by unfold Hid; rw [← KD.out, m0]; rfl
        have g0 : decide (0 < m) = false := decide_eq_false (by omega)
        clear rd2 OB KD m0
        generalize hsv : byStr v.name = sv at *
        go_upto_region 7 with fail
        go_quiet (fail)
        have K2 := hide (below_drew BX2.out nq BX2.out.size)
        obtain ⟨oz, on⟩ := OR.out
        have mk : m ≤ k := hm
        have mo : m ≤ oc := by omega
        have OZ : Hid ((wr.drewN nq).ownsRow W.heap.size 49 4 (.slice oa k oc) k (vnCells R)) := own_keep_at OW.out (fun q hq => (below_on BX.out K2.out).block q (OW.out.lt q hq).2)
        generalize wr.drewN nq = wz at *
        have vz := VX.out.keep (K2.out.block _ VX.out.lt)
        have e0 := vz.cell 0 _ rfl
        have e1 := vz.cell 1 _ rfl
        have e2 := vz.cell 2 _ rfl
        have e3 := vz.cell 3 _ rfl
        have BZ := hide (below_on (below_on BW.out BX.out) K2.out)
        have L0 := LN.out
        go_upto_region 10 with fail
        go_wp2_with (first
          | (at_builtin; refine wpList_append_vn rfl (.tmp 64) (.tmp 67) rfl wz.heap.size (.slice none 0 0) 0 [] rfl (World.ownsRow_nil _ _ _ _) oa (R.take m) m oc (by rw [List.length_take]; omega) rfl (src_take OZ.out LN.out mk) on (by rw [List.length_take]; omega) (Nat.le_refl _) ?_; intro va1 vc1 w1 ho1 hb1 hg1; rw [Nat.zero_add, List.nil_append] at ho1; have vw := vz.keep (hb1.block _ vz.lt); have f0 := vw.cell 0 _ rfl; have f1 := vw.cell 1 _ rfl; have f2 := vw.cell 2 _ rfl; have f3 := vw.cell 3 _ rfl)
          | (at_builtin; refine wpList_append_vn rfl (.tmp 69) (.tmp 71) rfl wz.heap.size (.slice va1 m vc1) m (R.take m) rfl (ho1.alloc _) (some ⟨w1.heap.size, 0, none⟩) [v] 1 1 rfl rfl (src_one' hsv) (fun e => by cases e) (by simp; omega) (by have := hb1.size; simp; omega) ?_; intro va2 vc2 w2 ho2 hb2 hg2)
          | (at_builtin; refine wpList_append_vn rfl (.tmp 73) (.tmp 76) rfl wz.heap.size (.slice va2 (m + 1) vc2) (m + 1) (R.take m ++ [v]) rfl ho2 _ (R.drop m) (k - m) _ (by rw [List.length_drop]; omega) rfl ?src3 ?nil3 (by rw [List.length_drop]; omega) (by have := hb1.size; have := hb2.size; simp at this; omega) ?_; (case src3 => exact src_drop (own_keep_at OZ.out (fun q hq => ((hb1.alloc hb1.size _).trans hb2).block q (OZ.out.lt q hq).2)) LN.out mk oz); (case nil3 => exact no_cap on mo); intro va3 vc3 w3 ho3 hb3 hg3)
          | go_in)
        have EL : Hid (R.take m ++ [v] ++ R.drop m = M.insV R v) := by
          unfold Hid M.insV
          rw [L0, KK.out]
          simp
        have LE : m + 1 + (k - m) = k + 1 := by omega
        rw [EL.out, LE] at ho3
        have B3 := below_on BZ.out (((hb1.alloc hb1.size _).trans hb2).trans hb3)
        have OW3 := hide ho3
        have HB3 := hide B3
        have bzs := BZ.out.size
        clear B3 ho1 ho2 ho3 hg1 hg2 hg3 vz vw e0 e1 e2 e3 f0 f1 f2 f3
        go_wp2
        go_roundw
        case rel => exact ⟨k + 1, va3, vc3, by omega, by rw [LE], by go_num, by (unfold Hid; rw [EV.out]; exact own_low bzs OW3.out), HB3.out⟩
        case measure => simp [intOf]; omega
      · obtain ⟨p, hp⟩ : ∃ p, m = p + 1 := ⟨m - 1, by omega⟩
        obtain ⟨b1, o1, rfl, hb1, hc1⟩ := rd2.2 (by intro e; have := LN.out; rw [e] at this; simp at this; omega)
        obtain ⟨r0, r1, _, _⟩ := hc1 p (by have := LN.out; omega)
        have pk : (p : Int) < (k : Int) := by omega
        have g0 : decide (0 < m) = true := decide_eq_true (by omega)
        have wp : IntKind.i64.wrap ((m : Int) - 1) = (p : Int) := by rw [wrap_i64n (by omega) (by omega)]; omega
        have st : M.kDown R v m = if M.vLt v (M.vAtL R p) then M.kDown R v p else m := by rw [hp]; rfl
        have ob := OB.out p (by omega)
        have HP := hide hp
        clear hc1 rd2 hp
        rcases vlt_ways vb ob with ⟨t, ways⟩ | ⟨t, ways⟩
        · have KD2 : Hid (M.kDown R v p = M.kDown R v k) := by
            unfold Hid
            rw [← KD.out, st, if_pos t]
          clear KD st OB t ob
          rcases ways with ⟨t1, t2⟩ | ⟨t0, t1, t2⟩
          · generalize byStr (M.vAtL R p).name = so at *
            generalize (M.vAtL R p).num = no at *
            generalize hsv : byStr v.name = sv at *
            go_upto_region 7 with fail
            go_quiet (fail)
            have K2 := hide (below_drew BX2.out nq BX2.out.size)
            go_wp2
            have hp := HP.out
            go_roundw
            case rel => exact ⟨p, by omega, by go_num, KD2, K2⟩
            case measure => simp [intOf]; omega
          · rw [t0] at r0
            generalize (M.vAtL R p).num = no at *
            clear t0
            generalize hsv : byStr v.name = sv at *
            go_upto_region 7 with fail
            go_quiet (fail)
            have K2 := hide (below_drew BX2.out nq BX2.out.size)
            go_wp2
            have hp := HP.out
            go_roundw
            case rel => exact ⟨p, by omega, by go_num, KD2, K2⟩
            case measure => simp [intOf]; omega
        · have KK : Hid (M.kDown R v k = m) := by
            unfold Hid
            rw [← KD.out, st, if_neg (by rw [t]; decide)]
          clear KD st OB t ob
          rcases ways with ⟨t1, t2⟩ | ⟨t0, t1, t2⟩
          · generalize byStr (M.vAtL R p).name = so at *
            generalize (M.vAtL R p).num = no at *
            generalize hsv : byStr v.name = sv at *
            go_upto_region 7 with fail
            go_quiet (fail)
            have K2 := hide (below_drew BX2.out nq BX2.out.size)
            generalize (some (⟨b1, o1, none⟩ : Addr)) = oa at *
            obtain ⟨oz, on⟩ := OR.out
            have mk : m ≤ k := hm
            have mo : m ≤ oc := by omega
            have OZ : Hid ((wr.drewN nq).ownsRow W.heap.size 49 4 (.slice oa k oc) k (vnCells R)) := own_keep_at OW.out (fun q hq => (below_on BX.out K2.out).block q (OW.out.lt q hq).2)
            generalize wr.drewN nq = wz at *
            have vz := VX.out.keep (K2.out.block _ VX.out.lt)
            have e0 := vz.cell 0 _ rfl
            have e1 := vz.cell 1 _ rfl
            have e2 := vz.cell 2 _ rfl
            have e3 := vz.cell 3 _ rfl
            have BZ := hide (below_on (below_on BW.out BX.out) K2.out)
            have L0 := LN.out
            go_upto_region 10 with fail
            go_wp2_with (first
              | (at_builtin; refine wpList_append_vn rfl (.tmp 64) (.tmp 67) rfl wz.heap.size (.slice none 0 0) 0 [] rfl (World.ownsRow_nil _ _ _ _) oa (R.take m) m oc (by rw [List.length_take]; omega) rfl (src_take OZ.out LN.out mk) on (by rw [List.length_take]; omega) (Nat.le_refl _) ?_; intro va1 vc1 w1 ho1 hb1 hg1; rw [Nat.zero_add, List.nil_append] at ho1; have vw := vz.keep (hb1.block _ vz.lt); have f0 := vw.cell 0 _ rfl; have f1 := vw.cell 1 _ rfl; have f2 := vw.cell 2 _ rfl; have f3 := vw.cell 3 _ rfl)
              | (at_builtin; refine wpList_append_vn rfl (.tmp 69) (.tmp 71) rfl wz.heap.size (.slice va1 m vc1) m (R.take m) rfl (ho1.alloc _) (some ⟨w1.heap.size, 0, none⟩) [v] 1 1 rfl rfl (src_one' hsv) (fun e => by cases e) (by simp; omega) (by have := hb1.size; simp; omega) ?_; intro va2 vc2 w2 ho2 hb2 hg2)
              | (at_builtin; refine wpList_append_vn rfl (.tmp 73) (.tmp 76) rfl wz.heap.size (.slice va2 (m + 1) vc2) (m + 1) (R.take m ++ [v]) rfl ho2 _ (R.drop m) (k - m) _ (by rw [List.length_drop]; omega) rfl ?src3 ?nil3 (by rw [List.length_drop]; omega) (by have := hb1.size; have := hb2.size; simp at this; omega) ?_; (case src3 => exact src_drop (own_keep_at OZ.out (fun q hq => ((hb1.alloc hb1.size _).trans hb2).block q (OZ.out.lt q hq).2)) LN.out mk oz); (case nil3 => exact no_cap on mo); intro va3 vc3 w3 ho3 hb3 hg3)
              | go_in)
            have EL : Hid (R.take m ++ [v] ++ R.drop m = M.insV R v) := by
              unfold Hid M.insV
              rw [L0, KK.out]
              simp
            have LE : m + 1 + (k - m) = k + 1 := by omega
            rw [EL.out, LE] at ho3
            have B3 := below_on BZ.out (((hb1.alloc hb1.size _).trans hb2).trans hb3)
            have OW3 := hide ho3
            have HB3 := hide B3
            have bzs := BZ.out.size
            clear B3 ho1 ho2 ho3 hg1 hg2 hg3 vz vw e0 e1 e2 e3 f0 f1 f2 f3
            go_wp2
            go_roundw
            case rel => exact ⟨k + 1, va3, vc3, by omega, by rw [LE], by go_num, by (unfold Hid; rw [EV.out]; exact own_low bzs OW3.out), HB3.out⟩
            case measure => simp [intOf]; omega
          · rw [t0] at r0
            generalize (M.vAtL R p).num = no at *
            clear t0
            generalize hsv : byStr v.name = sv at *
            go_upto_region 7 with fail
            go_quiet (fail)
            have K2 := hide (below_drew BX2.out nq BX2.out.size)
            generalize (some (⟨b1, o1, none⟩ : Addr)) = oa at *
            obtain ⟨oz, on⟩ := OR.out
            have mk : m ≤ k := hm
            have mo : m ≤ oc := by omega
            have OZ : Hid ((wr.drewN nq).ownsRow W.heap.size 49 4 (.slice oa k oc) k (vnCells R)) := own_keep_at OW.out (fun q hq => (below_on BX.out K2.out).block q (OW.out.lt q hq).2)
            generalize wr.drewN nq = wz at *
            have vz := VX.out.keep (K2.out.block _ VX.out.lt)
            have e0 := vz.cell 0 _ rfl
            have e1 := vz.cell 1 _ rfl
            have e2 := vz.cell 2 _ rfl
            have e3 := vz.cell 3 _ rfl
            have BZ := hide (below_on (below_on BW.out BX.out) K2.out)
            have L0 := LN.out
            go_upto_region 10 with fail
            go_wp2_with (first
              | (at_builtin; refine wpList_append_vn rfl (.tmp 64) (.tmp 67) rfl wz.heap.size (.slice none 0 0) 0 [] rfl (World.ownsRow_nil _ _ _ _) oa (R.take m) m oc (by rw [List.length_take]; omega) rfl (src_take OZ.out LN.out mk) on (by rw [List.length_take]; omega) (Nat.le_refl _) ?_; intro va1 vc1 w1 ho1 hb1 hg1; rw [Nat.zero_add, List.nil_append] at ho1; have vw := vz.keep (hb1.block _ vz.lt); have f0 := vw.cell 0 _ rfl; have f1 := vw.cell 1 _ rfl; have f2 := vw.cell 2 _ rfl; have f3 := vw.cell 3 _ rfl)
              | (at_builtin; refine wpList_append_vn rfl (.tmp 69) (.tmp 71) rfl wz.heap.size (.slice va1 m vc1) m (R.take m) rfl (ho1.alloc _) (some ⟨w1.heap.size, 0, none⟩) [v] 1 1 rfl rfl (src_one' hsv) (fun e => by cases e) (by simp; omega) (by have := hb1.size; simp; omega) ?_; intro va2 vc2 w2 ho2 hb2 hg2)
              | (at_builtin; refine wpList_append_vn rfl (.tmp 73) (.tmp 76) rfl wz.heap.size (.slice va2 (m + 1) vc2) (m + 1) (R.take m ++ [v]) rfl ho2 _ (R.drop m) (k - m) _ (by rw [List.length_drop]; omega) rfl ?src3 ?nil3 (by rw [List.length_drop]; omega) (by have := hb1.size; have := hb2.size; simp at this; omega) ?_; (case src3 => exact src_drop (own_keep_at OZ.out (fun q hq => ((hb1.alloc hb1.size _).trans hb2).block q (OZ.out.lt q hq).2)) LN.out mk oz); (case nil3 => exact no_cap on mo); intro va3 vc3 w3 ho3 hb3 hg3)
              | go_in)
            have EL : Hid (R.take m ++ [v] ++ R.drop m = M.insV R v) := by
              unfold Hid M.insV
              rw [L0, KK.out]
              simp
            have LE : m + 1 + (k - m) = k + 1 := by omega
            rw [EL.out, LE] at ho3
            have B3 := below_on BZ.out (((hb1.alloc hb1.size _).trans hb2).trans hb3)
            have OW3 := hide ho3
            have HB3 := hide B3
            have bzs := BZ.out.size
            clear B3 ho1 ho2 ho3 hg1 hg2 hg3 vz vw e0 e1 e2 e3 f0 f1 f2 f3
            go_wp2
            go_roundw
            case rel => exact ⟨k + 1, va3, vc3, by omega, by rw [LE], by go_num, by (unfold Hid; rw [EV.out]; exact own_low bzs OW3.out), HB3.out⟩
            case measure => simp [intOf]; omega
/-- which version the reference picks: its index, or 0 -/
def M.pickI (S : M.Sh) (n : List Nat) (key : Int) : Int := if M.timeB key = false then 0 else ((M.pickO S n key).getD 0 : Nat)
set_option maxHeartbeats 8000000 in
set_option maxRecDepth 10000 in
theorem rpick_any {W : World} {s : Nat} {T : Nat → Nat} {S : M.Sh} {la : Option Addr} {lc : Nat} {da : Option Addr} {dc : Nat} {G : Nat → Gr} (h : RV W s T S la lc da dc G) {n : List Nat} (hb : isB n) (key : Int) : Calls Tryz.prog 16 #[.pointer (some ⟨s, 0, none⟩), .string (byStr n), .int .i64 key] W fun e w' => e = .returned (.tuple #[.int .i64 (M.pickI S n key), .int .i64 (M.pickF S n key)]) ∧ w' = W := by
  have TM := hide (rtime_any key W)
  have AT := hide (fun x => rsat_any h hb x)
  have c1 := h.box.cell 1 _ rfl
  have mx := own_max h.lo
  have H := hide h
  clear h hb
  by_cases bad : M.timeB key = false
  · have E : Hid (M.pickI S n key = 0 ∧ M.pickF S n key = 1) := by unfold Hid M.pickI M.pickF; rw [if_pos bad, if_pos bad]; exact ⟨rfl, rfl⟩
    rw [E.out.1, E.out.2]
    rw [bad] at TM
    clear E H AT bad
    generalize byStr n = sn at *
    go_enter Tryz.func16, Tryz.ntmps16
    go_wp2_with (go_at_call 42; refine TM.out.mono ?_; rintro e w2 ⟨rfl, ew⟩; have ew2 := ew.symm; subst ew2)
    go_ret2
    exact ⟨rfl, rfl⟩
  have kr : 0 ≤ key ∧ key ≤ 1000000 := by
    unfold M.timeB at bad
    simp only [Bool.and_eq_false_iff, decide_eq_false_iff_not] at bad
    omega
  have tk : M.timeB key = true := by simpa using bad
  have k37 : IntKind.i64.wrap (key * 37) = key * 37 := wrap_i64n (by omega) (by omega)
  obtain ⟨kr1, kr2⟩ := kr
  have EI : Hid (M.pickI S n key = ((M.pickO S n key).getD 0 : Nat) ∧ M.pickF S n key = M.toldF (M.pickO S n key)) := by unfold Hid M.pickI M.pickF; rw [if_neg bad, if_neg bad]; exact ⟨rfl, rfl⟩
  rw [EI.out.1, EI.out.2]
  rw [tk] at TM
  clear EI bad tk
  cases e2 : M.atN S n 2 with
  | none =>
    have EO : Hid (M.pickO S n key = M.atN S n 3) := by unfold Hid M.pickO; rw [e2]
    have A2 := AT.out 2
    rw [e2] at A2
    have A2 := hide A2
    have A3 := hide (AT.out 3)
    rw [EO.out]
    clear EO AT H e2
    cases e3 : M.atN S n 3 with
    | none =>
      rw [e3] at A3
      clear e3
      generalize byStr n = sn at *
      go_enter Tryz.func16, Tryz.ntmps16
      go_wp2_with (first
        | (go_at_call 42; refine TM.out.mono ?_; rintro e w2 ⟨rfl, ew⟩; have ew2 := ew.symm; subst ew2; clear TM)
        | (go_at_call 18; refine A2.out.mono ?_; rintro e w2 ⟨rfl, ew⟩; have ew2 := ew.symm; subst ew2; clear A2)
        | (go_at_call 18; refine A3.out.mono ?_; rintro e w2 ⟨rfl, ew⟩; have ew2 := ew.symm; subst ew2; clear A3))
      go_ret2
      exact ⟨rfl, rfl⟩
    | some k =>
      rw [e3] at A3
      clear e3
      generalize byStr n = sn at *
      go_enter Tryz.func16, Tryz.ntmps16
      go_wp2_with (first
        | (go_at_call 42; refine TM.out.mono ?_; rintro e w2 ⟨rfl, ew⟩; have ew2 := ew.symm; subst ew2; clear TM)
        | (go_at_call 18; refine A2.out.mono ?_; rintro e w2 ⟨rfl, ew⟩; have ew2 := ew.symm; subst ew2; clear A2)
        | (go_at_call 18; refine A3.out.mono ?_; rintro e w2 ⟨rfl, ew⟩; have ew2 := ew.symm; subst ew2; clear A3))
      go_ret2
      exact ⟨rfl, rfl⟩
  | some c =>
    have cl : c < S.l.length := (M.at_is e2).1
    obtain ⟨b, rfl, bl, hc⟩ := H.out.item cl
    have d3 := hc 3 _ (by omega) rfl
    have cz : (c : Int) < (S.l.length : Int) := by omega
    have A2 := AT.out 2
    rw [e2] at A2
    have A2 := hide A2
    have A3 := hide (AT.out 3)
    by_cases lt : key * 37 % 100 < (vAt S c).share
    · have EO : Hid (M.pickO S n key = some c) := by unfold Hid M.pickO; rw [e2]; exact if_pos lt
      have t1 : decide (key * 37 % 100 < (vAt S c).share) = true := decide_eq_true lt
      rw [EO.out]
      clear EO AT H e2 hc lt A3
      generalize byStr n = sn at *
      generalize (vAt S c).share = y at *
      go_enter Tryz.func16, Tryz.ntmps16
      go_wp2_with (first
        | (go_at_call 42; refine TM.out.mono ?_; rintro e w2 ⟨rfl, ew⟩; have ew2 := ew.symm; subst ew2; clear TM)
        | (go_at_call 18; refine A2.out.mono ?_; unfold optI; rintro e w2 ⟨rfl, ew⟩; have ew2 := ew.symm; subst ew2; clear A2))
      go_ret2
      exact ⟨rfl, rfl⟩
    · have EO : Hid (M.pickO S n key = M.atN S n 3) := by unfold Hid M.pickO; rw [e2]; exact if_neg lt
      have t1 : decide (key * 37 % 100 < (vAt S c).share) = false := decide_eq_false lt
      rw [EO.out]
      clear EO AT H e2 hc lt
      cases e3 : M.atN S n 3 with
      | none =>
        rw [e3] at A3
        clear e3
        generalize byStr n = sn at *
        generalize (vAt S c).share = y at *
        go_enter Tryz.func16, Tryz.ntmps16
        go_wp2_with (first
          | (go_at_call 42; refine TM.out.mono ?_; rintro e w2 ⟨rfl, ew⟩; have ew2 := ew.symm; subst ew2; clear TM)
          | (go_at_call 18; refine A2.out.mono ?_; unfold optI; rintro e w2 ⟨rfl, ew⟩; have ew2 := ew.symm; subst ew2; clear A2)
          | (go_at_call 18; refine A3.out.mono ?_; unfold optI; rintro e w2 ⟨rfl, ew⟩; have ew2 := ew.symm; subst ew2; clear A3))
        go_ret2
        exact ⟨rfl, rfl⟩
      | some k =>
        rw [e3] at A3
        clear e3
        generalize byStr n = sn at *
        generalize (vAt S c).share = y at *
        go_enter Tryz.func16, Tryz.ntmps16
        go_wp2_with (first
          | (go_at_call 42; refine TM.out.mono ?_; rintro e w2 ⟨rfl, ew⟩; have ew2 := ew.symm; subst ew2; clear TM)
          | (go_at_call 18; refine A2.out.mono ?_; unfold optI; rintro e w2 ⟨rfl, ew⟩; have ew2 := ew.symm; subst ew2; clear A2)
          | (go_at_call 18; refine A3.out.mono ?_; unfold optI; rintro e w2 ⟨rfl, ew⟩; have ew2 := ew.symm; subst ew2; clear A3))
        go_ret2
        exact ⟨rfl, rfl⟩
end Go.Proofs.YtiggkjkjfnlfkaaGreatDoor

namespace Go.Proofs.YtiggkjkjfnlfkaaGreatDoor
open Go.ChangeShapes Go.WideShapes Go.ChangeAt Go.RowKit Go.Lib Go.Maps
set_option linter.unusedVariables false
theorem RA.lt {w : World} {s : Nat} {R : Nat → Nat} {S : M.Sh} (h : RA w s R S) {q : Nat} (hq : R q ≠ 0) : q < w.heap.size := by
  obtain ⟨la, lc, da, dc, G, h⟩ := h
  exact h.tlt q hq
theorem RA.up {w w' : World} {s : Nat} {R : Nat → Nat} {S : M.Sh} (h : RA w s R S) (hk : ∀ q, R q ≠ 0 → w'.heap[q]? = w.heap[q]?) (hz : w.heap.size ≤ w'.heap.size) : RA w' s R S := by
  obtain ⟨la, lc, da, dc, G, h⟩ := h
  exact ⟨la, lc, da, dc, G, h.up hk hz⟩
structure Side (W0 w : World) (f : Nat) (T : Nat → Nat) (s : Nat) (R : Nat → Nat) (S S' : M.Sh) : Prop where
  sh : Has W0 w f T S
  rf : RA w s R S'
  rn : ∀ q, R q ≠ 0 → W0.heap.size ≤ q
  ap : ∀ q, T q ≠ 0 → R q = 0
theorem Side.up {W0 w w' : World} {f : Nat} {T : Nat → Nat} {s : Nat} {R : Nat → Nat} {S S' : M.Sh} (h : Side W0 w f T s R S S') (hb : Below w.heap.size w w') : Side W0 w' f T s R S S' :=
  ⟨h.sh.up hb, h.rf.up (fun q hq => hb.block q (h.rf.lt hq)) hb.size, h.rn, h.ap⟩
/-- behind what the reference did -/
theorem Side.rdo {W0 w w' : World} {f : Nat} {T : Nat → Nat} {s : Nat} {R : Nat → Nat} {S S' S2 : M.Sh} (h : Side W0 w f T s R S S') (hl : RLeft w s R S2 w') : ∃ R', Side W0 w' f T s R' S S2 := by
  obtain ⟨R', a, b, c⟩ := hl
  have z := h.sh.bl.size
  have tlt : ∀ q, T q ≠ 0 → q < w.heap.size := fun q hq => by
    by_cases y : q < w.heap.size
    · exact y
    · exact absurd (h.sh.sa.lt (by omega)) hq
  refine ⟨R', ⟨h.sh.sa.up (fun q hq => b.block q (tlt q hq) (fun y => y (h.ap q hq))) b.size, ⟨b.os.trans h.sh.bl.os, b.tape.trans h.sh.bl.tape, b.output.trans h.sh.bl.output, Nat.le_trans z b.size, fun q hq => ?_⟩, h.sh.tn⟩, a, fun q hq => ?_, fun q hq => ?_⟩
  · rw [b.block q (by omega) (fun y => by have := h.rn q y; omega)]
    exact h.sh.bl.block q hq
  · rcases c q hq with y | y
    · exact h.rn q y
    · omega
  · by_cases y : R' q = 0
    · exact y
    · rcases c q y with x | x
      · exact absurd (h.ap q hq) x
      · have := tlt q hq; omega
/-- behind what package shelf did -/
theorem Side.sdo {W0 w w' : World} {f : Nat} {T : Nat → Nat} {s : Nat} {R : Nat → Nat} {S S' S2 : M.Sh} (h : Side W0 w f T s R S S') (hl : Left w f T S2 w') : ∃ T', Side W0 w' f T' s R S2 S' := by
  obtain ⟨T', a, b, z⟩ := h.sh.left hl
  have t0 : ∀ q, R q ≠ 0 → T q = 0 := fun q hq => by
    by_cases y : T q = 0
    · exact y
    · exact absurd (h.ap q y) hq
  refine ⟨T', a, h.rf.up (fun q hq => (b q (h.rf.lt hq) (t0 q hq)).2) z, h.rn, fun q hq => ?_⟩
  by_cases y : R q = 0
  · exact y
  · exact absurd (b q (h.rf.lt y) (t0 q y)).1 hq

/-- a cell of our own written -/
theorem Side.set {W0 w : World} {f : Nat} {T : Nat → Nat} {s : Nat} {R : Nat → Nat} {S S' : M.Sh} (h : Side W0 w f T s R S S') {q j : Nat} {v : Value} (hz : W0.heap.size ≤ q) (ht : T q = 0) (hr : R q = 0) : Side W0 (w.setCell ⟨q, j, none⟩ v) f T s R S S' := by
  have oth : ∀ x, x ≠ q → (w.setCell ⟨q, j, none⟩ v).heap[x]? = w.heap[x]? := fun x hx => heap_setCell_other _ _ _ _ hx
  have sz : (w.setCell ⟨q, j, none⟩ v).heap.size = w.heap.size := World.size_setCell ..
  exact ⟨⟨h.sh.sa.up (fun x hx => oth x (fun e => hx (by rw [e]; exact ht))) (by omega), h.sh.bl.setCell hz _, h.sh.tn⟩, h.rf.up (fun x hx => oth x (fun e => hx (by rw [e]; exact hr))) (by omega), h.rn, h.ap⟩
end Go.Proofs.YtiggkjkjfnlfkaaGreatDoor
