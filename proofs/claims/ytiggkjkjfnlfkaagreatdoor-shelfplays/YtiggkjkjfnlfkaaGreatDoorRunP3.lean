/-
  Several texts as one: RefShB, RefShE, RefShK, RefShL, RefShI, RefShM.
-/
import Derived.Test.YtiggkjkjfnlfkaaGreatDoorRunS21
import Derived.Test.YtiggkjkjfnlfkaaGreatDoorRunS20
import Derived.BigQuiet
import Derived.Test.YtiggkjkjfnlfkaaGreatDoorRunS15
namespace Go.Proofs.YtiggkjkjfnlfkaaGreatDoor
open Go.ChangeShapes Go.WideShapes Go.ChangeAt Go.RowKit Go.Lib
set_option linter.unusedVariables false
/-- an index, or -1 -/
def optI (o : Option Nat) : Int := match o with
  | none => -1
  | some k => k
theorem own_max {W : World} {B : Nat} {e : TypeId} {c n : Nat} {v : Value} {l : List Value} (h : W.ownsRow B e c v n l) : n ≤ 9223372036854775807 := by
  rcases h.2 with ⟨_, z⟩ | ⟨g, cap, cur, _, _, _, z1, z2, _⟩
  · omega
  · unfold maxLen at z2; omega
theorem last_here {S : M.Sh} {ses : Int} {k : Nat} (hk : k < S.done.length) (h1 : (S.done.getD k dn0).ses = ses) (h2 : ∀ i, i < k → (S.done.getD i dn0).ses ≠ ses) : M.lastN S ses = some k := by
  unfold M.lastN
  refine (M.find_some _ dn0 S.done 0 k hk (decide_eq_true h1) (fun i hi => decide_eq_false (h2 i hi))).trans (by rw [Nat.zero_add])
theorem last_not {S : M.Sh} {ses : Int} (h : ∀ i, i < S.done.length → (S.done.getD i dn0).ses ≠ ses) : M.lastN S ses = none := by
  unfold M.lastN
  refine M.find_no _ _ _ (fun x hx => decide_eq_false ?_)
  obtain ⟨j, hj, ej⟩ := M.mem_getD dn0 hx
  rw [← ej]
  exact h j hj
set_option maxHeartbeats 4000000 in
theorem rlast_any {W : World} {s : Nat} {T : Nat → Nat} {S : M.Sh} {la : Option Addr} {lc : Nat} {da : Option Addr} {dc : Nat} {G : Nat → Gr} (h : RV W s T S la lc da dc G) (ses : Int) : Calls Tryz.prog 31 #[.pointer (some ⟨s, 0, none⟩), .int .i64 ses] W fun e w' => e = .returned (.int .i64 (optI (M.lastN S ses))) ∧ w' = W := by
  have c2 := h.box.cell 2 _ rfl
  have mx := own_max h.dd
  have H := hide h
  clear h
  go_enter Tryz.func31, Tryz.ntmps31
  go_wp2
  go_loopw [5] (fun i wr => ∃ k : Nat, k ≤ S.done.length ∧ i = .int .i64 k ∧ Hid (∀ j, j < k → (S.done.getD j dn0).ses ≠ ses) ∧ Hid (wr = W)) (fun i _ => S.done.length - (intOf i).toNat)
  case atStart => exact ⟨0, Nat.zero_le _, rfl, (fun j hj => by omega), rfl⟩
  case round =>
    obtain ⟨k, hk, rfl, NO, EW⟩ := hrel
    have ew := EW.out
    subst ew
    by_cases hlt : k < S.done.length
    · have kz : (k : Int) < (S.done.length : Int) := by omega
      obtain ⟨b, rfl, bl, hc⟩ := H.out.did hlt
      have d0 := hc 0 _ (by omega) rfl
      rw [Nat.add_zero] at d0
      by_cases q : (S.done.getD k dn0).ses = ses
      · have E : Hid (M.lastN S ses = some k) := last_here hlt q NO.out
        have g : ((S.done.getD k dn0).ses == ses) = true := by rw [q]; simp
        clear hc q NO H
        generalize (S.done.getD k dn0).ses = x at *
        go_wp2
        go_ret
        exact ⟨by rw [E.out]; rfl, rfl⟩
      · have g : ((S.done.getD k dn0).ses == ses) = false := by rw [beq_eq_false_iff_ne]; exact q
        have NO2 : Hid (∀ j, j < k + 1 → (S.done.getD j dn0).ses ≠ ses) := fun j hj => by
          by_cases z : j < k
          · exact NO.out j z
          · rw [show j = k by omega]; exact q
        clear hc q NO H
        generalize (S.done.getD k dn0).ses = x at *
        go_wp2
        go_roundw
        case rel => exact ⟨k + 1, by omega, by go_num, NO2, trivial⟩
        case measure => simp [intOf]; omega
    · have ek : k = S.done.length := by omega
      have kz : ¬ ((k : Int) < (S.done.length : Int)) := by omega
      have E : Hid (M.lastN S ses = none) := last_not (by rw [← ek]; exact NO.out)
      clear ek NO H
      go_wp2
      go_ret
      exact ⟨by rw [E.out]; rfl, rfl⟩

theorem rsat_here {S : M.Sh} {n : List Nat} {x : Int} {k : Nat} (hk : k < S.l.length) (h1 : (vAt S k).name = n ∧ (vAt S k).stage = x) (h2 : ∀ i, i < k → ¬ ((vAt S i).name = n ∧ (vAt S i).stage = x)) : M.atN S n x = some k := by
  unfold M.atN
  refine (M.find_some _ M.vg0 S.l 0 k hk (decide_eq_true h1) (fun i hi => decide_eq_false (h2 i hi))).trans (by rw [Nat.zero_add])
theorem rsat_not {S : M.Sh} {n : List Nat} {x : Int} (h : ∀ i, i < S.l.length → ¬ ((vAt S i).name = n ∧ (vAt S i).stage = x)) : M.atN S n x = none := by
  unfold M.atN
  refine M.find_no _ _ _ (fun y hy => decide_eq_false ?_)
  obtain ⟨j, hj, ej⟩ := M.mem_getD M.vg0 hy
  rw [← ej]
  exact h j hj
set_option maxHeartbeats 4000000 in
theorem rsat_any {W : World} {s : Nat} {T : Nat → Nat} {S : M.Sh} {la : Option Addr} {lc : Nat} {da : Option Addr} {dc : Nat} {G : Nat → Gr} (h : RV W s T S la lc da dc G) {n : List Nat} (hb : isB n) (x : Int) : Calls Tryz.prog 18 #[.pointer (some ⟨s, 0, none⟩), .string (byStr n), .int .i64 x] W fun e w' => e = .returned (.int .i64 (optI (M.atN S n x))) ∧ w' = W := by
  have c1 := h.box.cell 1 _ rfl
  have mx := own_max h.lo
  have H := hide h
  have STR : Hid (∀ k, k < S.l.length → ((byStr (vAt S k).name).toList = (byStr n).toList ↔ (vAt S k).name = n)) := fun k hk => by
    rw [ByteArray.toList_eq, ByteArray.toList_eq, byStr_list, byStr_list]
    exact ⟨fun z => ofs_inj _ _ (h.inv.nb k hk) hb z, fun z => by rw [z]⟩
  clear h hb
  go_enter Tryz.func18, Tryz.ntmps18
  go_wp2
  go_loopw [7] (fun i wr => ∃ k : Nat, k ≤ S.l.length ∧ i = .int .i64 k ∧ Hid (∀ j, j < k → ¬ ((vAt S j).name = n ∧ (vAt S j).stage = x)) ∧ Hid (wr = W)) (fun i _ => S.l.length - (intOf i).toNat)
  case atStart => exact ⟨0, Nat.zero_le _, rfl, (fun j hj => by omega), rfl⟩
  case round =>
    obtain ⟨k, hk, rfl, NO, EW⟩ := hrel
    have ew := EW.out
    subst ew
    by_cases hlt : k < S.l.length
    · have kz : (k : Int) < (S.l.length : Int) := by omega
      obtain ⟨b, rfl, bl, hc⟩ := H.out.item hlt
      have d0 := hc 0 _ (by omega) rfl
      have d2 := hc 2 _ (by omega) rfl
      rw [Nat.add_zero] at d0
      have st := STR.out k hlt
      by_cases q1 : (vAt S k).name = n
      · rw [q1] at d0
        by_cases q2 : (vAt S k).stage = x
        · have E : Hid (M.atN S n x = some k) := rsat_here hlt ⟨q1, q2⟩ NO.out
          have g : ((vAt S k).stage == x) = true := by rw [q2]; simp
          clear hc q1 q2 NO H STR st
          generalize (vAt S k).stage = y at *
          generalize byStr n = sn at *
          go_wp2
          go_ret
          exact ⟨by rw [E.out]; rfl, rfl⟩
        · have g : ((vAt S k).stage == x) = false := by rw [beq_eq_false_iff_ne]; exact q2
          have NO2 : Hid (∀ j, j < k + 1 → ¬ ((vAt S j).name = n ∧ (vAt S j).stage = x)) := fun j hj => by
            by_cases z : j < k
            · exact NO.out j z
            · rw [show j = k by omega]; exact fun y => q2 y.2
          clear hc q1 q2 NO H STR st
          generalize (vAt S k).stage = y at *
          generalize byStr n = sn at *
          go_wp2
          go_roundw
          case rel => exact ⟨k + 1, by omega, by go_num, NO2, trivial⟩
          case measure => simp [intOf]; omega
      · have t1 : ((byStr (vAt S k).name).toList == (byStr n).toList) = false := by rw [beq_eq_false_iff_ne]; exact fun z => q1 (st.1 z)
        have t2 : ¬ (byStr (vAt S k).name).toList = (byStr n).toList := fun z => q1 (st.1 z)
        have NO2 : Hid (∀ j, j < k + 1 → ¬ ((vAt S j).name = n ∧ (vAt S j).stage = x)) := fun j hj => by
          by_cases z : j < k
          · exact NO.out j z
          · rw [show j = k by omega]; exact fun y => q1 y.1
        clear hc q1 NO H STR st
        generalize (vAt S k).stage = y at *
        generalize byStr (vAt S k).name = sk at *
        generalize byStr n = sn at *
        go_wp2
        go_roundw
        case rel => exact ⟨k + 1, by omega, by go_num, NO2, trivial⟩
        case measure => simp [intOf]; omega
    · have ek : k = S.l.length := by omega
      have kz : ¬ ((k : Int) < (S.l.length : Int)) := by omega
      have E : Hid (M.atN S n x = none) := rsat_not (by rw [← ek]; exact NO.out)
      clear ek NO H STR
      go_wp2
      go_ret
      exact ⟨by rw [E.out]; rfl, rfl⟩

theorem rsver_here {S : M.Sh} {n : List Nat} {x : Int} {k : Nat} (hk : k < S.l.length) (h1 : (vAt S k).name = n ∧ (vAt S k).num = x) (h2 : ∀ i, i < k → ¬ ((vAt S i).name = n ∧ (vAt S i).num = x)) : M.verN S n x = some k := by
  unfold M.verN
  refine (M.find_some _ M.vg0 S.l 0 k hk (decide_eq_true h1) (fun i hi => decide_eq_false (h2 i hi))).trans (by rw [Nat.zero_add])
theorem rsver_not {S : M.Sh} {n : List Nat} {x : Int} (h : ∀ i, i < S.l.length → ¬ ((vAt S i).name = n ∧ (vAt S i).num = x)) : M.verN S n x = none := by
  unfold M.verN
  refine M.find_no _ _ _ (fun y hy => decide_eq_false ?_)
  obtain ⟨j, hj, ej⟩ := M.mem_getD M.vg0 hy
  rw [← ej]
  exact h j hj
set_option maxHeartbeats 4000000 in
theorem rsver_any {W : World} {s : Nat} {T : Nat → Nat} {S : M.Sh} {la : Option Addr} {lc : Nat} {da : Option Addr} {dc : Nat} {G : Nat → Gr} (h : RV W s T S la lc da dc G) {n : List Nat} (hb : isB n) (x : Int) : Calls Tryz.prog 20 #[.pointer (some ⟨s, 0, none⟩), .string (byStr n), .int .i64 x] W fun e w' => e = .returned (.int .i64 (optI (M.verN S n x))) ∧ w' = W := by
  have c1 := h.box.cell 1 _ rfl
  have mx := own_max h.lo
  have H := hide h
  have STR : Hid (∀ k, k < S.l.length → ((byStr (vAt S k).name).toList = (byStr n).toList ↔ (vAt S k).name = n)) := fun k hk => by
    rw [ByteArray.toList_eq, ByteArray.toList_eq, byStr_list, byStr_list]
    exact ⟨fun z => ofs_inj _ _ (h.inv.nb k hk) hb z, fun z => by rw [z]⟩
  clear h hb
  go_enter Tryz.func20, Tryz.ntmps20
  go_wp2
  go_loopw [7] (fun i wr => ∃ k : Nat, k ≤ S.l.length ∧ i = .int .i64 k ∧ Hid (∀ j, j < k → ¬ ((vAt S j).name = n ∧ (vAt S j).num = x)) ∧ Hid (wr = W)) (fun i _ => S.l.length - (intOf i).toNat)
  case atStart => exact ⟨0, Nat.zero_le _, rfl, (fun j hj => by omega), rfl⟩
  case round =>
    obtain ⟨k, hk, rfl, NO, EW⟩ := hrel
    have ew := EW.out
    subst ew
    by_cases hlt : k < S.l.length
    · have kz : (k : Int) < (S.l.length : Int) := by omega
      obtain ⟨b, rfl, bl, hc⟩ := H.out.item hlt
      have d0 := hc 0 _ (by omega) rfl
      have d2 := hc 1 _ (by omega) rfl
      rw [Nat.add_zero] at d0
      have st := STR.out k hlt
      by_cases q1 : (vAt S k).name = n
      · rw [q1] at d0
        by_cases q2 : (vAt S k).num = x
        · have E : Hid (M.verN S n x = some k) := rsver_here hlt ⟨q1, q2⟩ NO.out
          have g : ((vAt S k).num == x) = true := by rw [q2]; simp
          clear hc q1 q2 NO H STR st
          generalize (vAt S k).num = y at *
          generalize byStr n = sn at *
          go_wp2
          go_ret
          exact ⟨by rw [E.out]; rfl, rfl⟩
        · have g : ((vAt S k).num == x) = false := by rw [beq_eq_false_iff_ne]; exact q2
          have NO2 : Hid (∀ j, j < k + 1 → ¬ ((vAt S j).name = n ∧ (vAt S j).num = x)) := fun j hj => by
            by_cases z : j < k
            · exact NO.out j z
            · rw [show j = k by omega]; exact fun y => q2 y.2
          clear hc q1 q2 NO H STR st
          generalize (vAt S k).num = y at *
          generalize byStr n = sn at *
          go_wp2
          go_roundw
          case rel => exact ⟨k + 1, by omega, by go_num, NO2, trivial⟩
          case measure => simp [intOf]; omega
      · have t1 : ((byStr (vAt S k).name).toList == (byStr n).toList) = false := by rw [beq_eq_false_iff_ne]; exact fun z => q1 (st.1 z)
        have t2 : ¬ (byStr (vAt S k).name).toList = (byStr n).toList := fun z => q1 (st.1 z)
        have NO2 : Hid (∀ j, j < k + 1 → ¬ ((vAt S j).name = n ∧ (vAt S j).num = x)) := fun j hj => by
          by_cases z : j < k
          · exact NO.out j z
          · rw [show j = k by omega]; exact fun y => q1 y.1
        clear hc q1 NO H STR st
        generalize (vAt S k).num = y at *
        generalize byStr (vAt S k).name = sk at *
        generalize byStr n = sn at *
        go_wp2
        go_roundw
        case rel => exact ⟨k + 1, by omega, by go_num, NO2, trivial⟩
        case measure => simp [intOf]; omega
    · have ek : k = S.l.length := by omega
      have kz : ¬ ((k : Int) < (S.l.length : Int)) := by omega
      have E : Hid (M.verN S n x = none) := rsver_not (by rw [← ek]; exact NO.out)
      clear ek NO H STR
      go_wp2
      go_ret
      exact ⟨by rw [E.out]; rfl, rfl⟩
/-- what the reference's Shelf leaves -/
def RLeft (W : World) (s : Nat) (T : Nat → Nat) (S : M.Sh) (w' : World) : Prop := ∃ T', RA w' s T' S ∧ StayBut (fun q => T q ≠ 0) W w' ∧ ∀ q, T' q ≠ 0 → T q ≠ 0 ∨ W.heap.size ≤ q
theorem RV.below {W W' : World} {s : Nat} {T : Nat → Nat} {S : M.Sh} {la : Option Addr} {lc : Nat} {da : Option Addr} {dc : Nat} {G : Nat → Gr} (h : RV W s T S la lc da dc G) (hb : Below W.heap.size W W') : RV W' s T S la lc da dc G := h.up (fun q hq => hb.block q (h.tlt q hq)) hb.size
abbrev itF (V : Nat → M.Vn) (G : Nat → Gr) (n : Nat) : List Value := flatR (fun k => kpL (V k) (G k)) n
theorem it_put2 {W : World} {b lc n : Nat} {V V' : Nat → M.Vn} {G : Nat → Gr} (h : W.ownsRow 0 55 8 (.slice (some ⟨b, 0, none⟩) n lc) n (itF V G n)) {k : Nat} (hk : k < n) (st : Int) (hV : ∀ i, i < n → V' i = if i = k then ⟨(V k).name, (V k).num, st, (V k).share⟩ else V i) :
    (W.setCell ⟨b, k * 8 + 2, none⟩ (.int .i64 st)).ownsRow 0 55 8 (.slice (some ⟨b, 0, none⟩) n lc) n (itF V' G n) := by
  have := (h.stored (k * 8 + 2) (.int .i64 st)).1
  unfold itF at this ⊢
  rw [flatR_set (c := 8) (fun _ => rfl) _ n k 2 hk (by omega)] at this
  rw [flatR_same n (g := fun i => if i = k then (kpL (V k) (G k)).set 2 (.int .i64 st) else kpL (V i) (G i)) (fun i hi => by
    rw [hV i hi]
    by_cases q : i = k
    · subst q; rw [if_pos rfl, if_pos rfl]; rfl
    · rw [if_neg q, if_neg q])]
  exact this
theorem it_put3 {W : World} {b lc n : Nat} {V V' : Nat → M.Vn} {G : Nat → Gr} (h : W.ownsRow 0 55 8 (.slice (some ⟨b, 0, none⟩) n lc) n (itF V G n)) {k : Nat} (hk : k < n) (sh : Int) (hV : ∀ i, i < n → V' i = if i = k then ⟨(V k).name, (V k).num, (V k).stage, sh⟩ else V i) :
    (W.setCell ⟨b, k * 8 + 3, none⟩ (.int .i64 sh)).ownsRow 0 55 8 (.slice (some ⟨b, 0, none⟩) n lc) n (itF V' G n) := by
  have := (h.stored (k * 8 + 3) (.int .i64 sh)).1
  unfold itF at this ⊢
  rw [flatR_set (c := 8) (fun _ => rfl) _ n k 3 hk (by omega)] at this
  rw [flatR_same n (g := fun i => if i = k then (kpL (V k) (G k)).set 3 (.int .i64 sh) else kpL (V i) (G i)) (fun i hi => by
    rw [hV i hi]
    by_cases q : i = k
    · subst q; rw [if_pos rfl, if_pos rfl]; rfl
    · rw [if_neg q, if_neg q])]
  exact this
/-- a version turned, where its row lies -/
theorem it_both {W : World} {b lc n : Nat} {l : List (M.Vn × M.Gv)} {G : Nat → Gr} (hn : l.length = n) (h : W.ownsRow 0 55 8 (.slice (some ⟨b, 0, none⟩) n lc) n (itF (fun i => (l.getD i M.vg0).1) G n)) {k : Nat} (hk : k < n) (st sh : Int) :
    ((W.setCell ⟨b, k * 8 + 2, none⟩ (.int .i64 st)).setCell ⟨b, k * 8 + 3, none⟩ (.int .i64 sh)).ownsRow 0 55 8 (.slice (some ⟨b, 0, none⟩) n lc) n (itF (fun i => ((M.setV l k st sh).getD i M.vg0).1) G n) :=
  it_put3 (it_put2 (V' := fun i => if i = k then ⟨(l.getD k M.vg0).1.name, (l.getD k M.vg0).1.num, st, (l.getD k M.vg0).1.share⟩ else (l.getD i M.vg0).1) h hk st (fun i hi => rfl)) hk sh (fun i hi => by
    rw [M.getD_setV l k st sh (by omega)]
    by_cases q : i = k
    · subst q; rw [if_pos rfl, if_pos rfl, if_pos rfl]
    · have q' : ¬ k = i := fun z => q z.symm
      rw [if_neg q', if_neg q, if_neg q])
/-- a stage alone, where there is no share -/
theorem it_stage {W : World} {b lc n : Nat} {l : List (M.Vn × M.Gv)} {G : Nat → Gr} (hn : l.length = n) (h : W.ownsRow 0 55 8 (.slice (some ⟨b, 0, none⟩) n lc) n (itF (fun i => (l.getD i M.vg0).1) G n)) {k : Nat} (hk : k < n) (st : Int) (hz : (l.getD k M.vg0).1.share = 0) :
    (W.setCell ⟨b, k * 8 + 2, none⟩ (.int .i64 st)).ownsRow 0 55 8 (.slice (some ⟨b, 0, none⟩) n lc) n (itF (fun i => ((M.setV l k st 0).getD i M.vg0).1) G n) :=
  it_put2 h hk st (fun i hi => by
    rw [M.getD_setV l k st 0 (by omega)]
    by_cases q : i = k
    · subst q; rw [if_pos rfl, if_pos rfl, hz]
    · have q' : ¬ k = i := fun z => q z.symm
      rw [if_neg q', if_neg q])
theorem RV.turned {W W' : World} {s : Nat} {T : Nat → Nat} {S : M.Sh} {la : Option Addr} {lc : Nat} {da : Option Addr} {dc : Nat} {G : Nat → Gr} (h : RV W s T S la lc da dc G) {l : List (M.Vn × M.Gv)} (hi : Inv ⟨S.idx, l, S.done⟩) (hl : l.length = S.l.length)
    (ho : W'.ownsRow 0 55 8 (.slice la S.l.length lc) S.l.length (itF (fun i => (l.getD i M.vg0).1) G S.l.length)) (hg : ∀ i, i < S.l.length → (l.getD i M.vg0).2 = (S.l.getD i M.vg0).2) (hw : StayBut (fun q => T q = 2) W W') : RV W' s T ⟨S.idx, l, S.done⟩ la lc da dc G where
  inv := hi
  tlt := fun q hq => Nat.lt_of_lt_of_le (h.tlt q hq) hw.size
  box := by
    show Bx W' s [.int .i64 S.idx, .slice la l.length lc, .slice da S.done.length dc]
    rw [hl]
    exact h.box.keep (hw.block s (h.tlt s (by rw [h.ts]; decide)) (by show ¬ T s = 2; rw [h.ts]; decide))
  ts := h.ts
  lo := by
    show W'.ownsRow 0 55 8 (.slice la l.length lc) l.length (itF (fun i => (l.getD i M.vg0).1) G l.length)
    rw [hl]
    exact ho
  tl := h.tl
  dd := own_keep_at h.dd (fun q hq => by
    obtain ⟨p, hp, e⟩ := own_block hq
    have tq : T q = 3 := by rw [← e, h.td p hp]
    exact hw.block q (h.tlt q (by rw [tq]; decide)) (by show ¬ T q = 2; rw [tq]; decide))
  td := h.td
  kg := fun k hk' => by
    have hk2 : k < S.l.length := by rw [← hl]; exact hk'
    refine ⟨(h.kg k hk2).1.trans (hg k hk2).symm, (h.kg k hk2).2.up hw.size (fun q hq => hw.block q (h.tlt q (by rw [hq]; decide)) (by show ¬ T q = 2; rw [hq]; decide)) (fun q hq => hq)⟩

theorem M.setV_two (l : List (M.Vn × M.Gv)) (k : Nat) (st sh : Int) {i : Nat} (hi : i < l.length) : ((M.setV l k st sh).getD i M.vg0).2 = (l.getD i M.vg0).2 := by
  rw [M.getD_setV l k st sh hi]
  by_cases q : k = i
  · rw [if_pos q]
  · rw [if_neg q]
/-- one version turned, in the reference's row -/
theorem RV.one {W W1 : World} {s : Nat} {T : Nat → Nat} {S : M.Sh} {b : Nat} {lc : Nat} {da : Option Addr} {dc : Nat} {G : Nat → Gr} (h : RV W s T S (some ⟨b, 0, none⟩) lc da dc G) (hb : Below W.heap.size W W1) {k : Nat} {st sh : Int} (hk : k < S.l.length) (ho : M.oneL (M.setV S.l k st sh)) (h1 : 0 < sh ↔ st = 2) (h2 : st ≠ 2 → sh = 0) :
    RLeft W s T ⟨S.idx, M.setV S.l k st sh, S.done⟩ ((W1.setCell ⟨b, k * 8 + 2, none⟩ (.int .i64 st)).setCell ⟨b, k * 8 + 3, none⟩ (.int .i64 sh)) := by
  have g := h.below hb
  have tb : T b = 2 := h.tl ⟨b, 0, none⟩ rfl
  have hw : ∀ {K : Nat → Prop}, K b → StayBut K W1 ((W1.setCell ⟨b, k * 8 + 2, none⟩ (.int .i64 st)).setCell ⟨b, k * 8 + 3, none⟩ (.int .i64 sh)) := fun hp => (stay_set hp).trans (stay_set hp)
  exact ⟨T, ⟨_, _, _, _, _, g.turned (h.inv.set hk ho h1 h2) (M.len_setV _ _ _ _) (it_both rfl g.lo hk st sh) (fun i hi => M.setV_two _ _ _ _ hi) (hw tb)⟩, (stay_of hb (Nat.le_refl _)).trans (hw (by show ¬ T b = 0; rw [tb]; decide)), fun q hq => .inl hq⟩
/-- the one that was live retired, and another one live -/
theorem RV.two {W W1 : World} {s : Nat} {T : Nat → Nat} {S : M.Sh} {b : Nat} {lc : Nat} {da : Option Addr} {dc : Nat} {G : Nat → Gr} (h : RV W s T S (some ⟨b, 0, none⟩) lc da dc G) (hb : Below W.heap.size W W1) {k o : Nat} (hk : k < S.l.length) (ho : o < S.l.length) (hz : (vAt S o).stage ≠ 2) (h3 : M.oneL (M.setV (M.setV S.l o 4 0) k 3 0)) (h4 : M.oneL (M.setV S.l o 4 0)) :
    RLeft W s T ⟨S.idx, M.setV (M.setV S.l o 4 0) k 3 0, S.done⟩ (((W1.setCell ⟨b, o * 8 + 2, none⟩ (.int .i64 4)).setCell ⟨b, k * 8 + 2, none⟩ (.int .i64 3)).setCell ⟨b, k * 8 + 3, none⟩ (.int .i64 0)) := by
  have g := h.below hb
  have tb : T b = 2 := h.tl ⟨b, 0, none⟩ rfl
  have hw : ∀ {K : Nat → Prop}, K b → StayBut K W1 (((W1.setCell ⟨b, o * 8 + 2, none⟩ (.int .i64 4)).setCell ⟨b, k * 8 + 2, none⟩ (.int .i64 3)).setCell ⟨b, k * 8 + 3, none⟩ (.int .i64 0)) := fun hp => ((stay_set hp).trans (stay_set hp)).trans (stay_set hp)
  have i1 := h.inv.set (st := 4) (sh := 0) ho h4 (by constructor <;> intro z <;> omega) (fun _ => rfl)
  have i2 := i1.set (k := k) (st := 3) (sh := 0) (by show k < (M.setV S.l o 4 0).length; rw [M.len_setV]; exact hk) h3 (by constructor <;> intro z <;> omega) (fun _ => rfl)
  exact ⟨T, ⟨_, _, _, _, _, g.turned i2 ((M.len_setV _ _ _ _).trans (M.len_setV _ _ _ _)) (it_both (M.len_setV _ _ _ _) (it_stage rfl g.lo ho 4 (h.inv.zr o ho hz)) hk 3 0) (fun i hi => (M.setV_two _ _ _ _ (by rw [M.len_setV]; exact hi)).trans (M.setV_two _ _ _ _ hi)) (hw tb)⟩, (stay_of hb (Nat.le_refl _)).trans (hw (by show ¬ T b = 0; rw [tb]; decide)), fun q hq => .inl hq⟩

theorem RLeft.drew {W : World} {s : Nat} {T : Nat → Nat} {S : M.Sh} {w : World} (h : RLeft W s T S w) : RLeft W s T S w.drew := by
  obtain ⟨T', ⟨la, lc, da, dc, G, h1⟩, h2, h3⟩ := h
  have hb : Below w.heap.size w w.drew := (Below.refl _ _).drew
  exact ⟨T', ⟨la, lc, da, dc, G, h1.below hb⟩, h2.trans (stay_of hb (Nat.le_refl _)), h3⟩
theorem row_put {W : World} {b n dc c : Nat} {e : TypeId} {f f' : Nat → List Value} (hf : ∀ k, (f k).length = c) (h : W.ownsRow 0 e c (.slice (some ⟨b, 0, none⟩) n dc) n (flatR f n)) {k : Nat} (hk : k < n) (j : Nat) (hj : j < c) (v : Value) (hg : ∀ i, i < n → f' i = if i = k then (f k).set j v else f i) :
    (W.setCell ⟨b, k * c + j, none⟩ v).ownsRow 0 e c (.slice (some ⟨b, 0, none⟩) n dc) n (flatR f' n) := by
  have := (h.stored (k * c + j) v).1
  rw [flatR_set hf v n k j hk hj] at this
  rw [flatR_same n hg]
  exact this
theorem ifL {P : Prop} [Decidable P] {a b : List Value} {n : Nat} (ha : a.length = n) (hb : b.length = n) : (if P then a else b).length = n := by
  by_cases q : P
  · rw [if_pos q]; exact ha
  · rw [if_neg q]; exact hb
/-- five cells of what was done, written -/
theorem dn_put {W : World} {b n dc : Nat} {D : Nat → M.Dn} (h : W.ownsRow 0 83 5 (.slice (some ⟨b, 0, none⟩) n dc) n (flatR (fun k => dnL (D k)) n)) {k : Nat} (hk : k < n) (d : M.Dn) {D' : Nat → M.Dn} (hD : ∀ i, i < n → D' i = if i = k then d else D i) :
    (((((W.setCell ⟨b, k * 5, none⟩ (.int .i64 d.ses)).setCell ⟨b, k * 5 + 1, none⟩ (.int .i64 d.seq)).setCell ⟨b, k * 5 + 2, none⟩ (.int .i64 d.ans.num)).setCell ⟨b, k * 5 + 3, none⟩ (.int .i64 d.ans.idx)).setCell ⟨b, k * 5 + 4, none⟩ (.int .i64 d.bad)).ownsRow 0 83 5 (.slice (some ⟨b, 0, none⟩) n dc) n (flatR (fun k => dnL (D' k)) n) := by
  have l0 : ∀ i, (dnL (D i)).length = 5 := fun _ => rfl
  have a1 := row_put (f' := fun i => if i = k then [.int .i64 d.ses, .int .i64 (D k).seq, .int .i64 (D k).ans.num, .int .i64 (D k).ans.idx, .int .i64 (D k).bad] else dnL (D i)) l0 h hk 0 (by omega) (.int .i64 d.ses) (fun i hi => by by_cases q : i = k <;> simp [q, dnL])
  have l1 : ∀ i, ((fun i => if i = k then [.int .i64 d.ses, .int .i64 (D k).seq, .int .i64 (D k).ans.num, .int .i64 (D k).ans.idx, .int .i64 (D k).bad] else dnL (D i)) i).length = 5 := fun i => ifL rfl rfl
  have a2 := row_put (f' := fun i => if i = k then [.int .i64 d.ses, .int .i64 d.seq, .int .i64 (D k).ans.num, .int .i64 (D k).ans.idx, .int .i64 (D k).bad] else dnL (D i)) l1 a1 hk 1 (by omega) (.int .i64 d.seq) (fun i hi => by by_cases q : i = k <;> simp [q, dnL])
  have l2 : ∀ i, ((fun i => if i = k then [.int .i64 d.ses, .int .i64 d.seq, .int .i64 (D k).ans.num, .int .i64 (D k).ans.idx, .int .i64 (D k).bad] else dnL (D i)) i).length = 5 := fun i => ifL rfl rfl
  have a3 := row_put (f' := fun i => if i = k then [.int .i64 d.ses, .int .i64 d.seq, .int .i64 d.ans.num, .int .i64 (D k).ans.idx, .int .i64 (D k).bad] else dnL (D i)) l2 a2 hk 2 (by omega) (.int .i64 d.ans.num) (fun i hi => by by_cases q : i = k <;> simp [q, dnL])
  have l3 : ∀ i, ((fun i => if i = k then [.int .i64 d.ses, .int .i64 d.seq, .int .i64 d.ans.num, .int .i64 (D k).ans.idx, .int .i64 (D k).bad] else dnL (D i)) i).length = 5 := fun i => ifL rfl rfl
  have a4 := row_put (f' := fun i => if i = k then [.int .i64 d.ses, .int .i64 d.seq, .int .i64 d.ans.num, .int .i64 d.ans.idx, .int .i64 (D k).bad] else dnL (D i)) l3 a3 hk 3 (by omega) (.int .i64 d.ans.idx) (fun i hi => by by_cases q : i = k <;> simp [q, dnL])
  have l4 : ∀ i, ((fun i => if i = k then [.int .i64 d.ses, .int .i64 d.seq, .int .i64 d.ans.num, .int .i64 d.ans.idx, .int .i64 (D k).bad] else dnL (D i)) i).length = 5 := fun i => ifL rfl rfl
  exact row_put (f' := fun k => dnL (D' k)) l4 a4 hk 4 (by omega) (.int .i64 d.bad) (fun i hi => by
    rw [hD i hi]
    by_cases q : i = k <;> simp [q, dnL])

theorem getD_said (l : List M.Dn) (k : Nat) (d : M.Dn) {i : Nat} (hi : i < l.length) : (l.set k d).getD i dn0 = if i = k then d else l.getD i dn0 := by
  by_cases q : i = k
  · subst q; simp [List.getD, hi]
  · have q' : ¬ k = i := fun e => q e.symm
    simp [List.getD, q, List.getElem?_set_ne q']
/-- what was said to a session, where it had been told before -/
theorem RV.said {W W1 : World} {s : Nat} {T : Nat → Nat} {S : M.Sh} {la : Option Addr} {lc b dc : Nat} {G : Nat → Gr} (h : RV W s T S la lc (some ⟨b, 0, none⟩) dc G) (hb : Below W.heap.size W W1) {k : Nat} (hk : k < S.done.length) (d : M.Dn) (hi : Inv ⟨S.idx, S.l, S.done.set k d⟩) :
    RLeft W s T ⟨S.idx, S.l, S.done.set k d⟩ (((((W1.setCell ⟨b, k * 5, none⟩ (.int .i64 d.ses)).setCell ⟨b, k * 5 + 1, none⟩ (.int .i64 d.seq)).setCell ⟨b, k * 5 + 2, none⟩ (.int .i64 d.ans.num)).setCell ⟨b, k * 5 + 3, none⟩ (.int .i64 d.ans.idx)).setCell ⟨b, k * 5 + 4, none⟩ (.int .i64 d.bad)) := by
  have g := h.below hb
  have tb : T b = 3 := h.td ⟨b, 0, none⟩ rfl
  have row := dn_put g.dd hk d (D' := fun i => (S.done.set k d).getD i dn0) (fun i hi' => getD_said S.done k d hi')
  have hw : ∀ {K : Nat → Prop}, K b → StayBut K W1 (((((W1.setCell ⟨b, k * 5, none⟩ (.int .i64 d.ses)).setCell ⟨b, k * 5 + 1, none⟩ (.int .i64 d.seq)).setCell ⟨b, k * 5 + 2, none⟩ (.int .i64 d.ans.num)).setCell ⟨b, k * 5 + 3, none⟩ (.int .i64 d.ans.idx)).setCell ⟨b, k * 5 + 4, none⟩ (.int .i64 d.bad)) := fun hp => ((((stay_set hp).trans (stay_set hp)).trans (stay_set hp)).trans (stay_set hp)).trans (stay_set hp)
  refine ⟨T, ⟨la, lc, some ⟨b, 0, none⟩, dc, G, ?_⟩, (stay_of hb (Nat.le_refl _)).trans (hw (by show ¬ T b = 0; rw [tb]; decide)), fun q hq => .inl hq⟩
  have st := hw (K := fun q => T q = 3) tb
  generalize (((((W1.setCell ⟨b, k * 5, none⟩ (.int .i64 d.ses)).setCell ⟨b, k * 5 + 1, none⟩ (.int .i64 d.seq)).setCell ⟨b, k * 5 + 2, none⟩ (.int .i64 d.ans.num)).setCell ⟨b, k * 5 + 3, none⟩ (.int .i64 d.ans.idx)).setCell ⟨b, k * 5 + 4, none⟩ (.int .i64 d.bad)) = W' at *
  have keep : ∀ {q v : Nat}, T q = v → v ≠ 0 → v ≠ 3 → W'.heap[q]? = W1.heap[q]? := fun {q v} hq h0 h3 => st.block q (g.tlt q (by rw [hq]; exact h0)) (fun z => h3 (hq.symm.trans z))
  exact {
    inv := hi
    tlt := fun q hq => Nat.lt_of_lt_of_le (g.tlt q hq) st.size
    box := by
      show Bx W' s [.int .i64 S.idx, .slice la S.l.length lc, .slice (some ⟨b, 0, none⟩) (S.done.set k d).length dc]
      rw [List.length_set]
      exact g.box.keep (keep g.ts (by decide) (by decide))
    ts := g.ts
    lo := own_keep_at g.lo (fun q hq => by
      obtain ⟨p, hp, e⟩ := own_block hq
      exact keep (v := 2) (by rw [← e, g.tl p hp]) (by decide) (by decide))
    tl := g.tl
    dd := by
      show W'.ownsRow 0 83 5 (.slice (some ⟨b, 0, none⟩) (S.done.set k d).length dc) (S.done.set k d).length (flatR (fun i => dnL ((S.done.set k d).getD i dn0)) (S.done.set k d).length)
      rw [List.length_set]
      exact row
    td := g.td
    kg := fun j hj => ⟨(g.kg j hj).1, (g.kg j hj).2.up st.size (fun q hq => keep hq (by decide) (by decide)) (fun q hq => hq)⟩ }
def tagD (T : Nat → Nat) (r q : Nat) : Nat := if q = r then 3 else if T q = 3 then 0 else T q
theorem tagD_t {T : Nat → Nat} {r q : Nat} (hr : q ≠ r) (h3 : T q ≠ 3) : tagD T r q = T q := by unfold tagD; rw [if_neg hr, if_neg h3]
theorem tagD_ne {T : Nat → Nat} {r q : Nat} (h : tagD T r q ≠ 0) : T q ≠ 0 ∨ q = r := by
  by_cases q1 : q = r
  · exact .inr q1
  · refine .inl fun z => h ?_
    rw [tagD_t q1 (by rw [z]; decide), z]
theorem RV.told {W W' : World} {s : Nat} {T : Nat → Nat} {S : M.Sh} {la : Option Addr} {lc : Nat} {da : Option Addr} {dc : Nat} {G : Nat → Gr} (h : RV W s T S la lc da dc G) (d : M.Dn) (hi : Inv ⟨S.idx, S.l, S.done ++ [d]⟩) {r c : Nat} (hr : r < W'.heap.size) (hrT : T r = 0 ∨ T r = 3)
    (ho : W'.ownsRow 0 83 5 (.slice (some ⟨r, 0, none⟩) (S.done.length + 1) c) (S.done.length + 1) (flatR (fun k => dnL (S.done.getD k dn0)) S.done.length ++ dnL d))
    (hbx : Bx W' s [.int .i64 S.idx, .slice la S.l.length lc, .slice (some ⟨r, 0, none⟩) (S.done.length + 1) c]) (hw : StayBut (fun q => q = s ∨ T q = 3) W W') :
    RV W' s (tagD T r) ⟨S.idx, S.l, S.done ++ [d]⟩ la lc (some ⟨r, 0, none⟩) c G := by
  have ne : ∀ {q v : Nat}, T q = v → v ≠ 0 → v ≠ 3 → q ≠ r := fun {q v} hq h0 h3 e => by
    subst e
    rcases hrT with z | z
    · exact h0 (hq.symm.trans z)
    · exact h3 (hq.symm.trans z)
  have keep : ∀ {q v : Nat}, T q = v → v ≠ 0 → v ≠ 1 → v ≠ 3 → W'.heap[q]? = W.heap[q]? := fun {q v} hq h0 h1 h3 => hw.block q (h.tlt q (by rw [hq]; exact h0)) (fun z => by
    rcases z with z | z
    · subst z; exact h1 (hq.symm.trans h.ts)
    · exact h3 (hq.symm.trans z))
  have tag : ∀ {q v : Nat}, T q = v → v ≠ 0 → v ≠ 3 → tagD T r q = v := fun {q v} hq h0 h3 => (tagD_t (ne hq h0 h3) (by rw [hq]; exact h3)).trans hq
  have ln : (S.done ++ [d]).length = S.done.length + 1 := by rw [List.length_append, List.length_singleton]
  exact {
    inv := hi
    tlt := fun q hq => by
      rcases tagD_ne hq with z | z
      · exact Nat.lt_of_lt_of_le (h.tlt q z) hw.size
      · rw [z]; exact hr
    box := by
      show Bx W' s [.int .i64 S.idx, .slice la S.l.length lc, .slice (some ⟨r, 0, none⟩) (S.done ++ [d]).length c]
      rw [ln]
      exact hbx
    ts := tag h.ts (by decide) (by decide)
    lo := own_keep_at h.lo (fun q hq => by
      obtain ⟨p, hp, e⟩ := own_block hq
      exact keep (v := 2) (by rw [← e, h.tl p hp]) (by decide) (by decide) (by decide))
    tl := fun p hp => tag (h.tl p hp) (by decide) (by decide)
    dd := by
      show W'.ownsRow 0 83 5 (.slice (some ⟨r, 0, none⟩) (S.done ++ [d]).length c) (S.done ++ [d]).length (flatR (fun k => dnL ((S.done ++ [d]).getD k dn0)) (S.done ++ [d]).length)
      rw [ln, flatR]
      rw [flatR_same S.done.length (g := fun k => dnL (S.done.getD k dn0)) (fun k hk => by simp [List.getD, List.getElem?_append_left hk])]
      have e : dnL ((S.done ++ [d]).getD S.done.length dn0) = dnL d := by simp [List.getD]
      rw [e]
      exact ho
    td := fun p hp => by
      cases hp
      exact if_pos rfl
    kg := fun k hk => ⟨(h.kg k hk).1, (h.kg k hk).2.up hw.size (fun q hq => keep hq (by decide) (by decide) (by decide)) (fun q hq => tag hq (by decide) (by decide))⟩ }
open Classical in
/-- whose a block is, then -/
noncomputable def tagA (T : Nat → Nat) (r : Nat) (P : Nat → Prop) (q : Nat) : Nat := if q = r then 2 else if P q then 7 else if T q = 2 then 0 else T q
theorem tagA_r (T : Nat → Nat) (r : Nat) (P : Nat → Prop) : tagA T r P r = 2 := if_pos rfl
theorem tagA_p {T : Nat → Nat} {r : Nat} {P : Nat → Prop} {q : Nat} (h : P q) (hr : q ≠ r) : tagA T r P q = 7 := by unfold tagA; rw [if_neg hr, if_pos h]
theorem tagA_t {T : Nat → Nat} {r : Nat} {P : Nat → Prop} {q : Nat} (hr : q ≠ r) (hp : ¬ P q) (h2 : T q ≠ 2) : tagA T r P q = T q := by unfold tagA; rw [if_neg hr, if_neg hp, if_neg h2]
theorem tagA_ne {T : Nat → Nat} {r : Nat} {P : Nat → Prop} {q : Nat} (h : tagA T r P q ≠ 0) : T q ≠ 0 ∨ q = r ∨ P q := by
  by_cases q1 : q = r
  · exact .inr (.inl q1)
  · by_cases q2 : P q
    · exact .inr (.inr q2)
    · refine .inl fun z => h ?_
      rw [tagA_t q1 q2 (by rw [z]; decide), z]
theorem vAt_old (S : M.Sh) (x : M.Vn × M.Gv) {k : Nat} (hk : k < S.l.length) : (S.l ++ [x]).getD k M.vg0 = S.l.getD k M.vg0 := by
  simp [List.getD, List.getElem?_append_left hk]
theorem vAt_new (S : M.Sh) (x : M.Vn × M.Gv) : (S.l ++ [x]).getD S.l.length M.vg0 = x := by
  simp [List.getD]
theorem RV.added {W W' : World} {s : Nat} {T : Nat → Nat} {S : M.Sh} {la : Option Addr} {lc : Nat} {da : Option Addr} {dc : Nat} {G : Nat → Gr} (h : RV W s T S la lc da dc G) {n : List Nat} (hb : isB n) {J : Gr} (hl : (S.l.length : Int) + 1 ≤ S.idx) {P : Nat → Prop} (hg : GIn P W' J) (hP : ∀ q, P q → T q = 0 ∧ q < W'.heap.size) {r c : Nat} (hr : r < W'.heap.size) (hrT : T r = 0 ∨ T r = 2) (hrP : ¬ P r)
    (ho : W'.ownsRow 0 55 8 (.slice (some ⟨r, 0, none⟩) (S.l.length + 1) c) (S.l.length + 1) (flatR (fun k => kpL (vAt S k) (G k)) S.l.length ++ kpL (M.newV S n J.m).1 J))
    (hbx : Bx W' s [.int .i64 S.idx, .slice (some ⟨r, 0, none⟩) (S.l.length + 1) c, .slice da S.done.length dc]) (hw : StayBut (fun q => q = s ∨ T q = 2) W W') :
    RV W' s (tagA T r P) (M.addS S n J.m) (some ⟨r, 0, none⟩) c da dc (fun k => if k = S.l.length then J else G k) := by
  have ne : ∀ {q v : Nat}, T q = v → v ≠ 0 → v ≠ 2 → q ≠ r ∧ ¬ P q := fun {q v} hq h0 h2 => ⟨fun e => by
    subst e
    rcases hrT with z | z
    · exact h0 (hq.symm.trans z)
    · exact h2 (hq.symm.trans z), fun hp => h0 (hq.symm.trans (hP q hp).1)⟩
  have ln : (M.addS S n J.m).l.length = S.l.length + 1 := by
    show (S.l ++ [M.newV S n J.m]).length = _
    rw [List.length_append, List.length_singleton]
  have keep : ∀ {q v : Nat}, T q = v → v ≠ 0 → v ≠ 1 → v ≠ 2 → W'.heap[q]? = W.heap[q]? := fun {q v} hq h0 h1 h2 => hw.block q (h.tlt q (by rw [hq]; exact h0)) (fun z => by
    rcases z with z | z
    · subst z; exact h1 (hq.symm.trans h.ts)
    · exact h2 (hq.symm.trans z))
  exact {
    inv := h.inv.add hb J.m hl
    tlt := fun q hq => by
      rcases tagA_ne hq with z | z | z
      · exact Nat.lt_of_lt_of_le (h.tlt q z) hw.size
      · rw [z]; exact hr
      · exact (hP q z).2
    box := by
      rw [ln]
      exact hbx
    ts := by
      obtain ⟨a1, a2⟩ := ne h.ts (by decide) (by decide)
      rw [tagA_t a1 a2 (by rw [h.ts]; decide)]
      exact h.ts
    lo := by
      rw [ln, flatR]
      rw [flatR_same S.l.length (g := fun k => kpL (vAt S k) (G k)) (fun k hk => by
        show kpL ((S.l ++ [M.newV S n J.m]).getD k M.vg0).1 (if k = S.l.length then J else G k) = _
        rw [vAt_old S _ hk, if_neg (by omega)])]
      have e : kpL (vAt (M.addS S n J.m) S.l.length) (if S.l.length = S.l.length then J else G S.l.length) = kpL (M.newV S n J.m).1 J := by
        show kpL ((S.l ++ [M.newV S n J.m]).getD S.l.length M.vg0).1 _ = _
        rw [vAt_new, if_pos rfl]
      rw [e]
      exact ho
    tl := fun p hp => by
      cases hp
      exact tagA_r T r P
    dd := own_keep_at h.dd (fun q hq => by
      obtain ⟨p, hp, e⟩ := own_block hq
      exact keep (v := 3) (by rw [← e, h.td p hp]) (by decide) (by decide) (by decide))
    td := fun p hp => by
      have t := h.td p hp
      obtain ⟨a1, a2⟩ := ne t (by decide) (by decide)
      rw [tagA_t a1 a2 (by rw [t]; decide)]
      exact t
    kg := fun k hk => by
      rw [ln] at hk
      show (if k = S.l.length then J else G k).m = ((S.l ++ [M.newV S n J.m]).getD k M.vg0).2 ∧ GIn (fun q => tagA T r P q = 7) W' (if k = S.l.length then J else G k)
      by_cases q : k = S.l.length
      · subst q
        rw [if_pos rfl, vAt_new]
        exact ⟨rfl, hg.up (Nat.le_refl _) (fun _ _ => rfl) (fun q hq => tagA_p hq (fun e => hrP (by rw [← e]; exact hq)))⟩
      · have hk2 : k < S.l.length := by omega
        rw [if_neg q, vAt_old S _ hk2]
        exact ⟨(h.kg k hk2).1, (h.kg k hk2).2.up hw.size (fun q hq => keep hq (by decide) (by decide) (by decide)) (fun q hq => by
          have t : T q = 7 := hq
          obtain ⟨a1, a2⟩ := ne t (by decide) (by decide)
          show tagA T r P q = 7
          rw [tagA_t a1 a2 (by rw [t]; decide)]
          exact t)⟩ }
theorem own_in {W : World} {B n g : Nat} {e : TypeId} {size c : Nat} {l : List Value} (h : W.ownsRow B e size (.slice (some ⟨g, 0, none⟩) n c) n l) : g < W.heap.size := by
  rcases h.2 with ⟨hv, _⟩ | ⟨g', cap, cur, hv, hb, hg, _⟩
  · cases hv
  · rw [Value.slice.injEq] at hv
    have := hv.1
    cases this
    exact (Array.getElem?_eq_some_iff.1 hg).1
/-- an item appended to its row, and the row put where the shelf has it -/
theorem RV.appended {W W1 w2 V w12 : World} {s : Nat} {T : Nat → Nat} {S : M.Sh} {la : Option Addr} {lc : Nat} {da : Option Addr} {dc : Nat} {G : Nat → Gr} (h : RV W s T S la lc da dc G) {n : List Nat} (hb : isB n) {O : Gr} (nh : NewH W1 w2 O) (z1 : W.heap.size ≤ W1.heap.size) (b2 : Below w2.heap.size w2 V) (bW : Below W.heap.size W V) (hl : (S.l.length : Int) + 1 ≤ S.idx) {g cg : Nat}
    (ho : w12.ownsRow 0 55 8 (.slice (some ⟨g, 0, none⟩) (S.l.length + 1) cg) (S.l.length + 1) (flatR (fun k => kpL (vAt S k) (G k)) S.l.length ++ kpL (M.newV S n O.m).1 O))
    (hg : V.grownBy w12 (Value.slice la S.l.length lc).ownBlock) (ha : (Value.slice la S.l.length lc).ownBlock = some g ∨ V.heap.size ≤ g) :
    Bx w12 s [.int .i64 S.idx, .slice la S.l.length lc, .slice da S.done.length dc] ∧ RLeft W s T (M.addS S n O.m) (w12.setCell ⟨s, 1, none⟩ (.slice (some ⟨g, 0, none⟩) (S.l.length + 1) cg)) := by
  have sl : s < W.heap.size := h.tlt s (by rw [h.ts]; decide)
  have zV := bW.size
  have z2 := b2.size
  have z12 := hg.size
  have own2 : ∀ {q}, (Value.slice la S.l.length lc).ownBlock = some q → T q = 2 ∧ q < W.heap.size := fun {q} hq => by
    obtain ⟨p, hp, e⟩ := own_block hq
    have t : T q = 2 := by rw [← e, h.tl p hp]
    exact ⟨t, h.tlt q (by rw [t]; decide)⟩
  have keep : ∀ q, q < V.heap.size → (Value.slice la S.l.length lc).ownBlock ≠ some q → w12.heap[q]? = V.heap[q]? := fun q hq hn => hg.block q hq (fun e => hn e.symm)
  have so : (Value.slice la S.l.length lc).ownBlock ≠ some s := fun e => by
    have := (own2 e).1
    rw [h.ts] at this
    cases this
  have gs : g ≠ s := fun e => by
    rcases ha with z | z
    · exact so (by rw [z, e])
    · omega
  have bx := (h.below bW).box.keep (keep s (by omega) so)
  have oth : ∀ q, q ≠ s → (w12.setCell ⟨s, 1, none⟩ (.slice (some ⟨g, 0, none⟩) (S.l.length + 1) cg)).heap[q]? = w12.heap[q]? := fun q hq => heap_setCell_other _ _ _ _ hq
  have bxp := bx.put (j := 1) (v := .slice (some ⟨g, 0, none⟩) (S.l.length + 1) cg)
  have hw : ∀ {K : Nat → Prop}, K s → (∀ q, T q = 2 → K q) → StayBut K W (w12.setCell ⟨s, 1, none⟩ (.slice (some ⟨g, 0, none⟩) (S.l.length + 1) cg)) := fun {K} k1 k2 => by
    have a : StayBut K W w12 := ⟨hg.os.trans bW.os, hg.tape.trans bW.tape, hg.output.trans bW.output, Nat.le_trans zV z12, fun q hq hn => (keep q (by omega) (fun e => hn (k2 q (own2 e).1))).trans (bW.block q hq)⟩
    exact a.trans (stay_set k1)
  refine ⟨bx, tagA T g (fun q => W1.heap.size ≤ q ∧ q < w2.heap.size), ⟨some ⟨g, 0, none⟩, cg, da, dc, (fun k => if k = S.l.length then O else G k), ?_⟩, hw (by show ¬ T s = 0; rw [h.ts]; decide) (fun q hq => by show ¬ T q = 0; rw [hq]; decide), fun q hq => ?_⟩
  · have sz : (w12.setCell ⟨s, 1, none⟩ (.slice (some ⟨g, 0, none⟩) (S.l.length + 1) cg)).heap.size = w12.heap.size := World.size_setCell ..
    refine h.added hb hl (P := fun q => W1.heap.size ≤ q ∧ q < w2.heap.size) ?_ (fun q hq => ⟨?_, ?_⟩) ?_ ?_ ?_ (own_keep_at ho (fun q hq => oth q (by cases hq; exact gs))) bxp (hw (.inl rfl) (fun q hq => .inr hq))
    · refine fun W'' hz hq => nh W'' (by omega) (fun b h1 h2 => (hq b ⟨h1, h2⟩).trans ((oth b (by omega)).trans ((keep b (by omega) (fun e => by have := (own2 e).2; omega)).trans (b2.block b h2))))
    · by_cases t : T q = 0
      · exact t
      · have := h.tlt q t
        omega
    · rw [sz]; omega
    · rw [sz]
      have := own_in ho
      exact this
    · rcases ha with z | z
      · exact .inr (own2 z).1
      · left
        by_cases t : T g = 0
        · exact t
        · have := h.tlt g t
          omega
    · rintro ⟨p1, p2⟩
      rcases ha with z | z
      · have := (own2 z).2; omega
      · omega
  · rcases tagA_ne hq with z | z | z
    · exact .inl z
    · rcases ha with y | y
      · left
        rw [z, (own2 y).1]
        decide
      · right; omega
    · right
      have := z.1
      omega
end Go.Proofs.YtiggkjkjfnlfkaaGreatDoor
