/-
  What the reference's Plan answers, for all bytes and all sizes.
-/
import Derived.Test.YtelncekgjfpogahDoorRefKs
import Derived.Test.YtelncekgjfpogahDoorPtCells
import Derived.Test.YtelncekgjfpogahDoorBySlice
import Derived.Deep.Cut
import Derived.Deep.CutRange
namespace Go.Proofs.YtelncekgjfpogahDoor
open Go.ChangeShapes Go.WideShapes Go.ChangeAt Go.RowKit Go.Lib
set_option linter.unusedVariables false

set_option maxHeartbeats 8000000 in
set_option maxRecDepth 10000 in
theorem rplan_any (a : Option Addr) (bs : List Nat) (ca : Nat) (size : Int) (w : World) (h : RdB w a bs) (hl : bs.length ≤ ca) (hca : ca ≤ 9223372036854775807) (s1 : -9223372036854775808 ≤ size) (s2 : size ≤ 9223372036854775807) :
    Calls Tryd.prog 19 #[.slice a bs.length ca, .int .i64 size] w fun e w' => ∃ v, e = .returned (.tuple #[v, .int .i64 (M.planF bs size)]) ∧ w'.ownsRow w.heap.size 43 2 v (M.planV bs size).length (ptCells (M.planV bs size)) ∧ Below w.heap.size w w' := by
  have bl : bs.length ≤ 9223372036854775807 := h.1
  by_cases q2 : 6000 < bs.length
  · have E : Hid (M.planF bs size = 4) := by unfold Hid M.planF; rw [if_pos q2]
    have E2 : Hid (M.planV bs size = []) := by unfold Hid M.planV; rw [E.out]; rfl
    have t3 : decide ((6000 : Int) < (bs.length : Int)) = true := decide_eq_true (by omega)
    have t3' : decide (6000 < bs.length) = true := decide_eq_true q2
    clear q2 h
    go_enter Tryd.func19, Tryd.ntmps19
    go_wp2
    go_ret2
    exact ⟨.slice none 0 0, by rw [E.out]; rfl, by rw [E2.out]; exact World.ownsRow_nil _ _ _ _, Below.refl _ _⟩
  have t3 : decide ((6000 : Int) < (bs.length : Int)) = false := decide_eq_false (by omega)
  have t3' : decide (6000 < bs.length) = false := decide_eq_false q2
  by_cases q0 : size < 1
  · have E : Hid (M.planF bs size = 1) := by unfold Hid M.planF; rw [if_neg q2, if_pos (.inl q0)]
    have E2 : Hid (M.planV bs size = []) := by unfold Hid M.planV; rw [E.out]; rfl
    have t1 : decide (size < 1) = true := decide_eq_true q0
    clear q2 q0 h
    go_enter Tryd.func19, Tryd.ntmps19
    go_wp2
    go_ret2
    exact ⟨.slice none 0 0, by rw [E.out]; rfl, by rw [E2.out]; exact World.ownsRow_nil _ _ _ _, Below.refl _ _⟩
  have t1 : decide (size < 1) = false := decide_eq_false q0
  by_cases q1 : 6000 < size
  · have E : Hid (M.planF bs size = 1) := by unfold Hid M.planF; rw [if_neg q2, if_pos (.inr q1)]
    have E2 : Hid (M.planV bs size = []) := by unfold Hid M.planV; rw [E.out]; rfl
    have t2 : decide (6000 < size) = true := decide_eq_true q1
    clear q2 q0 q1 h
    go_enter Tryd.func19, Tryd.ntmps19
    go_wp2
    go_ret2
    exact ⟨.slice none 0 0, by rw [E.out]; rfl, by rw [E2.out]; exact World.ownsRow_nil _ _ _ _, Below.refl _ _⟩
  have t2 : decide (6000 < size) = false := decide_eq_false q1
  obtain ⟨s, rfl⟩ : ∃ s : Nat, size = (s : Int) := ⟨size.toNat, by omega⟩
  have sp : 1 ≤ s := by omega
  have EP : Hid (M.planF bs (s : Int) = if 100 < (M.planL bs s).length then 4 else 0) := by
    unfold Hid M.planF; rw [if_neg q2, if_neg (by omega), Int.toNat_natCast]
  have EV : Hid (M.planV bs (s : Int) = if M.planF bs (s : Int) = 0 then M.planL bs s else []) := by unfold Hid M.planV; rw [Int.toNat_natCast]
  have PL := hide (M.plan_len sp bs.length bs (Nat.le_refl _))
  have PG : Hid (∀ b : List Nat, b ≠ [] → M.planL b s = (((min s b.length : Nat) : Int), (M.sumF (b.take s) : Int)) :: M.planL (b.drop s) s) := fun b hb => M.plan_go sp hb
  have L6 : bs.length ≤ 6000 := by omega
  have S6 : s ≤ 6000 := by omega
  have HB := hide h
  obtain ⟨i0, hi0, hz0, hz1, hz2⟩ := info_parts infoP
  have J0 := hide hi0
  clear h q0 q1 q2 hi0
  generalize M.planF bs (s : Int) = pF at *
  generalize M.planV bs (s : Int) = pV at *
  obtain ⟨PP, hPP⟩ : ∃ P, P = M.planL bs s := ⟨_, rfl⟩
  rw [← hPP] at EP EV PL
  have P0 : Hid (PP = [] ++ M.planL (bs.drop 0) s) := by unfold Hid; rw [hPP]; rfl
  clear hPP
  go_enter Tryd.func19, Tryd.ntmps19
  go_wp2
  go_loopw [6, 7] (fun v i wr => ∃ (k f : Nat) (L : List M.Pt) (va : Option Addr) (vc : Nat), i = .int .i64 f ∧ f ≤ 12000 ∧ k ≤ f ∧ v = .slice va k vc ∧ Hid (L.length = k) ∧ Hid (PP = L ++ M.planL (bs.drop f) s) ∧ Hid (wr.ownsRow w.heap.size 43 2 (.slice va k vc) k (ptCells L)) ∧ Hid (Below w.heap.size w wr)) (fun _ i _ => bs.length - (intOf i).toNat)
  case atStart => exact ⟨0, 0, [], none, 0, rfl, by omega, Nat.le_refl _, rfl, rfl, P0, World.ownsRow_nil _ _ _ _, Below.refl _ _⟩
  case round =>
    obtain ⟨k, f, L, va, vc, rfl, f12, kf, rfl, LK, EE, OO, K⟩ := hrel
    by_cases hlt : f < bs.length
    · have fz : (f : Int) < (bs.length : Int) := by omega
      have ne : bs.drop f ≠ [] := fun e => by have := congrArg List.length e; rw [List.length_drop] at this; simp at this; omega
      have ee := EE.out
      rw [PG.out _ ne, List.length_drop, List.drop_drop] at ee
      obtain ⟨m, hm⟩ : ∃ m, m = min s (bs.length - f) := ⟨_, rfl⟩
      rw [← hm] at ee
      have m1 : m ≤ bs.length - f := by omega
      have ms : m ≤ s := by omega
      have tk : (bs.drop f).take m = (bs.drop f).take s := by
        rw [hm]
        by_cases q : s ≤ bs.length - f
        · rw [Nat.min_eq_left q]
        · rw [Nat.min_eq_right (by omega), List.take_of_length_le (by rw [List.length_drop]; omega), List.take_of_length_le (by rw [List.length_drop]; omega)]
      rw [← tk] at ee
      have tl : ((bs.drop f).take m).length = m := by rw [List.length_take, List.length_drop]; omega
      have SS : Hid (∀ a' n' c', n' = m → RdB wr a' ((bs.drop f).take m) → Calls Tryd.prog 18 #[.slice a' n' c'] wr fun e w' => e = .returned (.int .i64 (M.sumF ((bs.drop f).take m) : Nat)) ∧ w' = wr) := fun a' n' c' hn h' => by
        rw [hn]
        have := rsum_any a' ((bs.drop f).take m) c' wr h'
        rw [tl] at this
        exact this
      have RS : Hid (RdB wr (Option.map (fun x => x.add f) a) ((bs.drop f).take m)) := by
        have := (rdB_slice (k := f) (HB.out.below K.out) hl).take m
        rwa [if_neg (by omega)] at this
      have E2 : Hid (PP = (L ++ [((m : Int), (M.sumF ((bs.drop f).take m) : Int))]) ++ M.planL (bs.drop (f + s)) s) := by
        unfold Hid; rw [ee, List.append_assoc, Nat.add_comm]; rfl
      have L2 : Hid ((L ++ [((m : Int), (M.sumF ((bs.drop f).take m) : Int))]).length = k + 1) := by unfold Hid; rw [List.length_append, LK.out]; rfl
      have NC := hide (ptCells_snoc L ((m : Int), (M.sumF ((bs.drop f).take m) : Int)))
      have sl := M.sum_lt ((bs.drop f).take m)
      have z0 : (0 : Int) ≤ (f : Int) := by omega
      have z2 : (f : Int) ≤ (ca : Int) := by omega
      clear ee tk tl ne EE PG HB PL
      generalize M.sumF ((bs.drop f).take m) = sm at *
      by_cases q : bs.length < f + s
      · have g1 : decide ((bs.length : Int) < (f : Int) + (s : Int)) = true := decide_eq_true (by omega)
        have em : m = bs.length - f := by omega
        have z1 : (f : Int) ≤ (bs.length : Int) := by omega
        have z3 : (bs.length : Int) ≤ (ca : Int) := by omega
        have MI : Hid ((bs.length : Int) - (f : Int) = (m : Int)) := by unfold Hid; omega
        have MN : Hid (bs.length - f = m) := by unfold Hid; omega
        clear em hm m1 ms
        go_upto_region 13 with (go_at_call 18; refine (SS.out _ _ _ MN.out RS.out).mono ?_; rintro e w2 ⟨rfl, ew⟩; have ew2 := ew.symm; subst ew2)
        clear SS RS
        go_wp2_with (at_builtin; refine wpList_append_lies _ rfl (.tmp 40) (.tmp 46) 39 rfl w.heap.size 43 i0 (.agg #[.int .i64 0, .int .i64 0]) 2 16 Tryd.underlying39 J0.out hz0 hz1 hz2 rfl (by omega) (.slice va k vc) k (ptCells L) rfl (OO.out.alloc _) ⟨wr.heap.size, 0, none⟩ 1 1 [.int .i64 ((bs.length : Int) - (f : Int)), .int .i64 (sm : Int)] rfl rfl (World.news_of_block (heap_alloc_new _ _)) (by simp [Value.oneCell']) (by omega) (by unfold maxLen; omega) (by omega) (by have := K.out.size; simp; omega) (wr.heap.size + 1) (by simp) ?_; intro g3 cap3 w3 ho3 hg3 _ _; have O3 := hide ho3; have K3 := hide ((K.out.alloc K.out.size _).grown hg3 (by have := K.out.size; simp; omega) (fun q hq => (OO.out.lt q hq).1)); clear ho3 hg3)
        exact ⟨⟨k + 1, f + s, L ++ [((m : Int), (sm : Int))], _, _, by go_num, by omega, by omega, rfl, L2, E2, (by unfold Hid; rw [NC.out]; have o3 := O3.out; rw [MI.out] at o3; exact o3), K3⟩, by show bs.length - ((f : Int) + (s : Int)).toNat < bs.length - ((f : Int)).toNat; omega⟩
      · have g1 : decide ((bs.length : Int) < (f : Int) + (s : Int)) = false := decide_eq_false (by omega)
        have em : m = s := by omega
        subst em
        have z1 : (f : Int) ≤ (f : Int) + (m : Int) := by omega
        have z3 : (f : Int) + (m : Int) ≤ (ca : Int) := by omega
        have z4 : (f : Int) + (m : Int) ≤ (bs.length : Int) := by omega
        clear hm m1 ms
        go_upto_region 13 with (go_at_call 18; refine (SS.out _ _ _ rfl RS.out).mono ?_; rintro e w2 ⟨rfl, ew⟩; have ew2 := ew.symm; subst ew2)
        clear SS RS
        go_wp2_with (at_builtin; refine wpList_append_lies _ rfl (.tmp 40) (.tmp 46) 39 rfl w.heap.size 43 i0 (.agg #[.int .i64 0, .int .i64 0]) 2 16 Tryd.underlying39 J0.out hz0 hz1 hz2 rfl (by omega) (.slice va k vc) k (ptCells L) rfl (OO.out.alloc _) ⟨wr.heap.size, 0, none⟩ 1 1 [.int .i64 ((f : Int) + (m : Int) - (f : Int)), .int .i64 (sm : Int)] rfl rfl (World.news_of_block (heap_alloc_new _ _)) (by simp [Value.oneCell']) (by omega) (by unfold maxLen; omega) (by omega) (by have := K.out.size; simp; omega) (wr.heap.size + 1) (by simp) ?_; intro g3 cap3 w3 ho3 hg3 _ _; have O3 := hide ho3; have K3 := hide ((K.out.alloc K.out.size _).grown hg3 (by have := K.out.size; simp; omega) (fun q hq => (OO.out.lt q hq).1)); clear ho3 hg3)
        exact ⟨⟨k + 1, f + m, L ++ [((m : Int), (sm : Int))], _, _, by go_num, by omega, by omega, rfl, L2, E2, (by unfold Hid; rw [NC.out]; have o3 := O3.out; rw [show (f : Int) + (m : Int) - (f : Int) = (m : Int) by omega] at o3; exact o3), K3⟩, by show bs.length - ((f : Int) + (m : Int)).toNat < bs.length - ((f : Int)).toNat; omega⟩
    · have fz : ¬ ((f : Int) < (bs.length : Int)) := by omega
      have ee : PP = L := by
        have := EE.out
        rw [List.drop_eq_nil_of_le (by omega), M.plan_nil, List.append_nil] at this
        exact this
      subst ee
      have lk := LK.out
      subst lk
      clear EE PG HB LK
      by_cases q : 100 < PP.length
      · have g1 : decide ((100 : Int) < (PP.length : Int)) = true := decide_eq_true (by omega)
        have g1' : decide (100 < PP.length) = true := decide_eq_true q
        rw [if_pos q] at EP
        have E2 : Hid (pV = []) := by unfold Hid; rw [EV.out, EP.out]; rfl
        clear q EV PL
        go_wp2
        go_ret2
        exact ⟨.slice none 0 0, by rw [EP.out]; rfl, by rw [E2.out]; exact World.ownsRow_nil _ _ _ _, K.out⟩
      · have g1 : decide ((100 : Int) < (PP.length : Int)) = false := decide_eq_false (by omega)
        have g1' : decide (100 < PP.length) = false := decide_eq_false q
        rw [if_neg q] at EP
        have E2 : Hid (pV = PP) := by unfold Hid; rw [EV.out, EP.out]; rfl
        clear q EV PL
        go_wp2
        go_ret2
        exact ⟨_, by rw [EP.out]; rfl, by rw [E2.out]; exact OO.out, K.out⟩

end Go.Proofs.YtelncekgjfpogahDoor
