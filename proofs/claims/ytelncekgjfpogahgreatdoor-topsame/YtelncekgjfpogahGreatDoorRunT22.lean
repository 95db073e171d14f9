/-
  Several texts as one: PtCells, ChP, ChPlan, ChCheck.
-/
import Derived.Test.YtelncekgjfpogahGreatDoorRunT1
import Derived.Test.YtelncekgjfpogahGreatDoorRunT0
import Derived.ChangeSame
import Derived.Deep.AppendLies
import Derived.Lib.SmallJoins
import Derived.Test.YtelncekgjfpogahGreatDoorRunT2
import Derived.Deep.Cut
import Derived.Deep.CutRange
namespace Go.Proofs.YtelncekgjfpogahGreatDoor
open Go.ChangeShapes Go.WideShapes Go.ChangeAt Go.RowKit Go.Lib Go.Deep
set_option linter.unusedVariables false
def ptCells (l : List M.Pt) : List Value := l.flatMap fun p => [.int .i64 p.1, .int .i64 p.2]
theorem ptCells_snoc (l : List M.Pt) (p : M.Pt) : ptCells (l ++ [p]) = ptCells l ++ [.int .i64 p.1, .int .i64 p.2] := by simp [ptCells]
theorem ptCells_at : ∀ (l : List M.Pt) (i : Nat), i < l.length → (ptCells l)[i * 2]? = some (.int .i64 (l.getD i (0, 0)).1) ∧ (ptCells l)[i * 2 + 1]? = some (.int .i64 (l.getD i (0, 0)).2)
 | [], i, h => by simp at h
 | x :: t, 0, h => ⟨rfl, rfl⟩
 | x :: t, i + 1, h => by
   have := ptCells_at t i (by simpa using h)
   have e : ptCells (x :: t) = .int .i64 x.1 :: .int .i64 x.2 :: ptCells t := rfl
   rw [e, show (i + 1) * 2 = i * 2 + 1 + 1 by omega]
   simpa using this
theorem infoP : (Tryz.prog.info? 52).map (fun i => (i.zero, i.size, i.bytes)) = some (some (.agg #[.int .i64 0, .int .i64 0]), 2, 16) := by kernel_rfl
def RdP (w : World) (a : Option Addr) (l : List M.Pt) : Prop :=
 l.length ≤ maxLen ∧ (l ≠ [] → ∃ b off, a = some ⟨b, off, none⟩ ∧ b < w.heap.size ∧ ∀ i, i < l.length → w.cell? ⟨b, off + i * 2, none⟩ = some (.int .i64 (l.getD i (0, 0)).1) ∧ w.cell? ⟨b, off + i * 2 + 1, none⟩ = some (.int .i64 (l.getD i (0, 0)).2))
theorem RdP.below {w w' : World} {a : Option Addr} {l : List M.Pt} (h : RdP w a l) (hb : Below w.heap.size w w') : RdP w' a l :=
 ⟨h.1, fun hn => by
  obtain ⟨b, off, e, hl, hc⟩ := h.2 hn
  exact ⟨b, off, e, Nat.lt_of_lt_of_le hl hb.size, fun i hi => ⟨(hb.cell (p := ⟨b, off + i * 2, none⟩) hl).trans (hc i hi).1, (hb.cell (p := ⟨b, off + i * 2 + 1, none⟩) hl).trans (hc i hi).2⟩⟩⟩
theorem own_rdP {w : World} {base n : Nat} {v : Value} {l : List M.Pt} (hn : l.length = n) (hm : n ≤ maxLen) (h : w.ownsRow base 52 2 v n (ptCells l)) : ∃ a cap, v = .slice a n cap ∧ RdP w a l ∧ (∀ p, a = some p → base ≤ p.block) ∧ (a = none → cap = 0) := by
 subst hn
 rcases h.2 with ⟨hv, h0⟩ | ⟨g, cap, cur, hv, hb, hg, h1, h2, h3, h4⟩
 · have e : l = [] := List.length_eq_zero_iff.1 h0
   subst e
   exact ⟨none, 0, hv, ⟨Nat.zero_le _, fun h => absurd rfl h⟩, (fun p hp => by cases hp), fun _ => rfl⟩
 · subst hv
   refine ⟨_, cap, rfl, ⟨hm, fun _ => ⟨g, 0, rfl, (Array.getElem?_eq_some_iff.1 hg).1, fun i hi => ?_⟩⟩, (fun p hp => by cases hp; exact hb), (fun e => by cases e)⟩
   obtain ⟨q0, q1⟩ := ptCells_at l i hi
   rw [Nat.zero_add]
   exact ⟨(h.cellAt (i * 2) (by omega)).trans q0, (h.cellAt (i * 2 + 1) (by omega)).trans q1⟩
end Go.Proofs.YtelncekgjfpogahGreatDoor
namespace Go.Proofs.YtelncekgjfpogahGreatDoor
open Go.ChangeShapes Go.WideShapes Go.ChangeAt Go.RowKit Go.Lib
set_option linter.unusedVariables false
def ChPlanGives : Prop := ∀ (a : Option Addr) (bs : List Nat) (c : Nat) (size : Int) (W : World), RdB W a bs → bs.length ≤ c → c ≤ 9223372036854775807 → -9223372036854775808 ≤ size → size ≤ 9223372036854775807 → Calls Tryz.prog 12 #[.slice a bs.length c, .int .i64 size] W fun e w' => ∃ v, e = .returned (.tuple #[v, errV (M.planF bs size)]) ∧ w'.ownsRow W.heap.size 52 2 v (M.planV bs size).length (ptCells (M.planV bs size)) ∧ Below W.heap.size W w'
def ChCheckGives : Prop := ∀ (a : Option Addr) (l : List M.Pt) (c : Nat) (W : World), RdP W a l → Calls Tryz.prog 41 #[.slice a l.length c] W fun e w' => e = .returned (errV (M.partsF l)) ∧ Below W.heap.size W w'
set_option maxHeartbeats 8000000 in
set_option maxRecDepth 10000 in
theorem chplan_any : ChPlanGives := by
 intro a bs ca size w h hl hca s1 s2
 have bl : bs.length ≤ 9223372036854775807 := h.1
 by_cases q2 : 6000 < bs.length
 · have E : Hid (M.planF bs size = 4) := by unfold Hid M.planF; rw [if_pos q2]
   have E2 : Hid (M.planV bs size = []) := by unfold Hid M.planV; rw [E.out]; rfl
   have t3 : decide ((6000 : Int) < (bs.length : Int)) = true := decide_eq_true (by omega)
   have t3' : decide (6000 < bs.length) = true := decide_eq_true q2
   clear q2 h
   go_enter Tryz.func12, Tryz.ntmps12
   go_wp2
   go_ret2
   exact ⟨.slice none 0 0, by rw [E.out]; rfl, by rw [E2.out]; exact World.ownsRow_nil _ _ _ _, Below.refl _ _⟩
 have t3 : decide ((6000 : Int) < (bs.length : Int)) = false := decide_eq_false (by omega)
 have t3' : decide (6000 < bs.length) = false := decide_eq_false q2
 by_cases q0 : 1 ≤ size ∧ size ≤ 6000
 case neg =>
  have E : Hid (M.planF bs size = 1) := by unfold Hid M.planF; rw [if_neg q2, if_pos (by omega)]
  have E2 : Hid (M.planV bs size = []) := by unfold Hid M.planV; rw [E.out]; rfl
  have E3 : Hid (decide (1 ≤ size ∧ size ≤ 6000) = false) := decide_eq_false q0
  clear q2 q0 h
  go_enter Tryz.func12, Tryz.ntmps12
  go_wp2_with (go_at_call 39; refine (chsize_any _ _).mono ?_; rintro e w2 ⟨rfl, ew⟩; have ew2 := ew.symm; subst ew2; rw [E3.out])
  go_ret2
  exact ⟨.slice none 0 0, by rw [E.out]; rfl, by rw [E2.out]; exact World.ownsRow_nil _ _ _ _, Below.refl _ _⟩
 have E3 : Hid (decide (1 ≤ size ∧ size ≤ 6000) = true) := decide_eq_true q0
 obtain ⟨s, rfl⟩ : ∃ s : Nat, size = (s : Int) := ⟨size.toNat, by omega⟩
 have sp : 1 ≤ s := by omega
 have EP : Hid (M.planF bs (s : Int) = if 100 < (M.planL bs s).length then 4 else 0) := by
  unfold Hid M.planF; rw [if_neg q2, if_neg (by omega), Int.toNat_natCast]
 have EV : Hid (M.planV bs (s : Int) = if M.planF bs (s : Int) = 0 then M.planL bs s else []) := by unfold Hid M.planV; rw [Int.toNat_natCast]
 have PG : Hid (∀ b : List Nat, b ≠ [] → M.planL b s = (((min s b.length : Nat) : Int), (M.sumF (b.take s) : Int)) :: M.planL (b.drop s) s) := fun b hb => M.plan_go sp hb
 have L6 : bs.length ≤ 6000 := by omega
 have S6 : s ≤ 6000 := by omega
 have HB := hide h
 obtain ⟨i0, hi0, hz0, hz1, hz2⟩ := info_parts infoP
 have J0 := hide hi0
 clear h q0 q2 hi0
 generalize M.planF bs (s : Int) = pF at *
 generalize M.planV bs (s : Int) = pV at *
 obtain ⟨PP, hPP⟩ : ∃ P, P = M.planL bs s := ⟨_, rfl⟩
 rw [← hPP] at EP EV
 have P0 : Hid (PP = [] ++ M.planL bs s) := by unfold Hid; rw [hPP]; rfl
 clear hPP
 go_enter Tryz.func12, Tryz.ntmps12
 go_wp2_with (go_at_call 39; refine (chsize_any _ _).mono ?_; rintro e w2 ⟨rfl, ew⟩; have ew2 := ew.symm; subst ew2; rw [E3.out])
 go_loopw [0, 6] (fun u v wr => ∃ (k m : Nat) (B : List Nat) (L : List M.Pt) (ba : Option Addr) (bc : Nat) (va : Option Addr) (vc : Nat), u = .slice ba m bc ∧ m ≤ 6000 ∧ k + m ≤ 6000 ∧ v = .slice va k vc ∧ Hid (L.length = k) ∧ Hid (B.length = m) ∧ Hid (RdB w ba B) ∧ m ≤ bc ∧ bc ≤ 9223372036854775807 ∧ Hid (PP = L ++ M.planL B s) ∧ Hid (wr.ownsRow w.heap.size 52 2 (.slice va k vc) k (ptCells L)) ∧ Hid (Below w.heap.size w wr)) (fun u _ _ => match u with | .slice _ m _ => m | _ => 0)
 case atStart => exact ⟨0, bs.length, bs, [], a, ca, none, 0, rfl, L6, by omega, rfl, rfl, rfl, HB, hl, hca, P0, World.ownsRow_nil _ _ _ _, Below.refl _ _⟩
 case round =>
  obtain ⟨k, m, B, L, ba, bc, va, vc, rfl, m6, km, rfl, LK, LB, RB, mb, bx, EE, OO, K⟩ := hrel
  by_cases hlt : 0 < m
  · have mz : (0 : Int) < (m : Int) := by omega
    have ne : B ≠ [] := fun e => by have := LB.out; rw [e] at this; simp at this; omega
    have ee := EE.out
    rw [PG.out _ ne, LB.out] at ee
    obtain ⟨n, hn⟩ : ∃ n, n = min s m := ⟨_, rfl⟩
    rw [← hn] at ee
    have n1 : 1 ≤ n := by omega
    have n2 : n ≤ m := by omega
    have n3 : n ≤ s := by omega
    have tk : B.take n = B.take s := by
     rw [hn]
     by_cases q : s ≤ m
     · rw [Nat.min_eq_left q]
     · rw [Nat.min_eq_right (by omega), List.take_of_length_le (by rw [LB.out]; omega), List.take_of_length_le (by rw [LB.out]; omega)]
    have dk : B.drop n = B.drop s := by
     rw [hn]
     by_cases q : s ≤ m
     · rw [Nat.min_eq_left q]
     · rw [Nat.min_eq_right (by omega), List.drop_eq_nil_of_le (by rw [LB.out]; omega), List.drop_eq_nil_of_le (by rw [LB.out]; omega)]
    rw [← tk, ← dk] at ee
    have tl : (B.take n).length = n := by rw [List.length_take, LB.out]; omega
    have SS : Hid (∀ c', Calls Tryz.prog 40 #[.slice ba n c'] wr fun e w' => e = .returned (.agg #[.int .i64 (n : Nat), .int .i64 (M.sumF (B.take n) : Nat)]) ∧ Below wr.heap.size wr w') := fun c' => by
     have := chpart_any ba (B.take n) c' wr ((RB.out.below K.out).take n)
     rw [tl] at this
     exact this
    have RD : Hid (RdB w (if bc = n then ba else Option.map (fun x => x.add n) ba) (B.drop n)) := rdB_slice RB.out (by rw [LB.out]; exact mb)
    have LD : Hid ((B.drop n).length = m - n) := by unfold Hid; rw [List.length_drop, LB.out]
    have E2 : Hid (PP = (L ++ [((n : Int), (M.sumF (B.take n) : Int))]) ++ M.planL (B.drop n) s) := by
     unfold Hid; rw [ee, List.append_assoc]; rfl
    have L2 : Hid ((L ++ [((n : Int), (M.sumF (B.take n) : Int))]).length = k + 1) := by unfold Hid; rw [List.length_append, LK.out]; rfl
    have NC := hide (ptCells_snoc L ((n : Int), (M.sumF (B.take n) : Int)))
    have sl := M.sum_lt (B.take n)
    have nz : (n : Int) ≤ (m : Int) := by omega
    have nz2 : (n : Int) ≤ (bc : Int) := by omega
    have mi : (if m < s then (m : Int) else (s : Int)) = (n : Int) := by split <;> omega
    have K0 := K.out.size
    clear ee tk dk tl ne EE PG HB RB hn EP EV P0 E3 t3 t3'
    generalize M.sumF (B.take n) = sm at *
    go_wp2_with (first
     | (go_at_call 40; refine (SS.out _).mono ?_; rintro e w2 ⟨rfl, hw2⟩; have K2 := hide (below_on K.out hw2); have O2 := hide (own_up OO.out hw2); have Z2 := K2.out.size)
     | (at_builtin; refine wpList_append_lies _ rfl (.tmp 23) (.tmp 28) 43 rfl w.heap.size 52 i0 (.agg #[.int .i64 0, .int .i64 0]) 2 16 Tryz.underlying43 J0.out hz0 hz1 hz2 rfl (by omega) (.slice va k vc) k (ptCells L) rfl (O2.out.alloc _) ⟨w2.heap.size, 0, none⟩ 1 1 [.int .i64 (n : Int), .int .i64 (sm : Int)] rfl rfl (World.news_of_block (heap_alloc_new _ _)) (by simp [Value.oneCell']) (by omega) (by unfold maxLen; omega) (by omega) (by simp; omega) (w2.heap.size + 1) (by simp) ?_; intro g3 cap3 w3 ho3 hg3 _ _; have O3 := hide ho3; have K3 := hide ((K2.out.alloc Z2 _).grown hg3 (by simp; omega) (fun q hq => (O2.out.lt q hq).1)); clear ho3 hg3))
    exact ⟨⟨k + 1, m - n, B.drop n, L ++ [((n : Int), (sm : Int))], _, bc - n, _, _, by first | rfl | (congr 1; omega), by omega, by omega, rfl, L2, LD, RD, by omega, by omega, E2, (by unfold Hid; rw [NC.out]; exact O3.out), K3⟩, by show m - n < m; omega⟩
  · have m0 : m = 0 := by omega
    subst m0
    have bn : B = [] := List.length_eq_zero_iff.1 LB.out
    have ee : PP = L := by
     have := EE.out
     rw [bn, M.plan_nil, List.append_nil] at this
     exact this
    subst ee
    have lk := LK.out
    subst lk
    clear EE PG HB LK P0 bn LB RB E3
    by_cases q : 100 < PP.length
    · have g1 : decide ((100 : Int) < (PP.length : Int)) = true := decide_eq_true (by omega)
      have g1' : decide (100 < PP.length) = true := decide_eq_true q
      rw [if_pos q] at EP
      have E2 : Hid (pV = []) := by unfold Hid; rw [EV.out, EP.out]; rfl
      clear q EV
      go_wp2
      go_ret2
      exact ⟨.slice none 0 0, by rw [EP.out]; rfl, by rw [E2.out]; exact World.ownsRow_nil _ _ _ _, K.out⟩
    · have g1 : decide ((100 : Int) < (PP.length : Int)) = false := decide_eq_false (by omega)
      have g1' : decide (100 < PP.length) = false := decide_eq_false q
      rw [if_neg q] at EP
      have E2 : Hid (pV = PP) := by unfold Hid; rw [EV.out, EP.out]; rfl
      clear q EV
      go_wp2
      go_ret2
      exact ⟨_, by rw [EP.out]; rfl, by rw [E2.out]; exact OO.out, K.out⟩
theorem M.ptc_take {l : List M.Pt} {k : Nat} (h : k < l.length) : M.ptSum (l.take (k + 1)) = M.ptSum (l.take k) + (l.getD k (0, 0)).1 ∧ (l.take (k + 1)).any M.ptBad = ((l.take k).any M.ptBad || M.ptBad (l.getD k (0, 0))) := by
 have e : l.getD k (0, 0) = l[k] := by simp [List.getD, h]
 rw [List.take_succ_eq_append_getElem h, M.ptSum_app, e]
 refine ⟨?_, by simp only [List.any_append, List.any_cons, List.any_nil, Bool.or_false]⟩
 show _ + (l[k].1 + 0) = _
 omega
theorem M.ptc_in : ∀ (l : List M.Pt), l.any M.ptBad = false → 0 ≤ M.ptSum l ∧ M.ptSum l ≤ 6000 * (l.length : Int)
 | [], _ => ⟨Int.le_refl _, Int.le_refl _⟩
 | p :: l, h => by
   rw [List.any_cons, Bool.or_eq_false_iff] at h
   have a := M.ptc_in l h.2
   have b : ¬ (p.1 < 1 ∨ 6000 < p.1 ∨ p.2 < 0 ∨ 1000002 < p.2) := of_decide_eq_false h.1
   rw [M.ptSum_cons, List.length_cons]
   constructor <;> omega
set_option maxHeartbeats 8000000 in
set_option maxRecDepth 10000 in
theorem chcheck_any : ChCheckGives := by
 intro a l ca w h
 have hm : l.length ≤ 9223372036854775807 := h.1
 by_cases big : 100 < l.length
 · have E : Hid (M.partsF l = 4) := by unfold Hid M.partsF; rw [if_pos big]
   have t1 : decide ((100 : Int) < (l.length : Int)) = true := decide_eq_true (by omega)
   have t1' : decide (100 < l.length) = true := decide_eq_true big
   clear h big
   go_enter Tryz.func41, Tryz.ntmps41
   go_wp2
   go_ret
   exact ⟨by rw [E.out]; rfl, Below.refl _ _⟩
 · have t1 : decide ((100 : Int) < (l.length : Int)) = false := decide_eq_false (by omega)
   have t1' : decide (100 < l.length) = false := decide_eq_false big
   have EP : Hid (M.partsF l = if l.any M.ptBad then 1 else if 6000 < M.ptSum l then 4 else 0) := by unfold Hid M.partsF; rw [if_neg big]
   have l100 : l.length ≤ 100 := by omega
   have HP := hide h
   have ST := hide (fun k (hk : k < l.length) => M.ptc_take (l := l) hk)
   clear h big
   go_enter Tryz.func41, Tryz.ntmps41
   go_wp2
   go_loopw [3, 12] (fun v i wr => ∃ k : Nat, k ≤ l.length ∧ i = .int .i64 k ∧ v = .int .i64 (M.ptSum (l.take k)) ∧ Hid ((l.take k).any M.ptBad = false) ∧ Hid (Below w.heap.size w wr)) (fun _ i _ => l.length - (intOf i).toNat)
   case atStart => exact ⟨0, Nat.zero_le _, rfl, rfl, rfl, Below.refl _ _⟩
   case round =>
    obtain ⟨k, hk, rfl, rfl, OK, KK⟩ := hrel
    have sb := M.ptc_in _ OK.out
    rw [List.length_take] at sb
    have S1 : 0 ≤ M.ptSum (l.take k) := sb.1
    have S2 : M.ptSum (l.take k) ≤ 600000 := by omega
    clear sb
    by_cases hlt : k < l.length
    · have kz : (k : Int) < (l.length : Int) := by omega
      have KZ := KK.out.size
      obtain ⟨b, off, rfl, hb, hc⟩ := (HP.out.below KK.out).2 (by intro e; rw [e] at hlt; simp at hlt)
      obtain ⟨c0, c1⟩ := hc k hlt
      have st := hide (ST.out k hlt)
      have KN : Hid (∀ o, Below w.heap.size w (wr.alloc o)) := fun o => KK.out.alloc KZ _
      by_cases bad : M.ptBad (l.getD k (0, 0)) = true
      · have E : Hid (M.partsF l = 1) := by
         unfold Hid
         rw [EP.out, if_pos]
         rw [List.any_eq_true]
         exact ⟨l.getD k (0, 0), by rw [show l.getD k (0, 0) = l[k] by simp [List.getD, hlt]]; exact List.getElem_mem hlt, bad⟩
        have bd : (l.getD k (0, 0)).1 < 1 ∨ 6000 < (l.getD k (0, 0)).1 ∨ (l.getD k (0, 0)).2 < 0 ∨ 1000002 < (l.getD k (0, 0)).2 := of_decide_eq_true bad
        clear bad st ST EP HP hc OK
        generalize M.ptSum (l.take k) = S at *
        generalize (l.getD k (0, 0)).1 = x at *
        generalize (l.getD k (0, 0)).2 = y at *
        have ways : (Hid (decide (1 ≤ x ∧ x ≤ 6000) = false)) ∨ (Hid (decide (1 ≤ x ∧ x ≤ 6000) = true) ∧ decide (y < 0) = true) ∨ (Hid (decide (1 ≤ x ∧ x ≤ 6000) = true) ∧ decide (y < 0) = false ∧ decide (1000003 ≤ y) = true) := by
         unfold Hid
         simp only [decide_eq_true_iff, decide_eq_false_iff_not]
         omega
        clear bd
        rcases ways with g1 | ⟨g1, g2⟩ | ⟨g1, g2, g3⟩
        all_goals (
         go_wp2_with (go_at_call 39; refine (chsize_any _ _).mono ?_; rintro e w2 ⟨rfl, ew⟩; have ew2 := ew.symm; subst ew2; rw [g1.out])
         go_ret
         exact ⟨by rw [E.out]; rfl, KN.out _⟩)
      · have bf : M.ptBad (l.getD k (0, 0)) = false := by simpa using bad
        have bd : ¬ ((l.getD k (0, 0)).1 < 1 ∨ 6000 < (l.getD k (0, 0)).1 ∨ (l.getD k (0, 0)).2 < 0 ∨ 1000002 < (l.getD k (0, 0)).2) := of_decide_eq_false bf
        have OK2 : Hid ((l.take (k + 1)).any M.ptBad = false) := by unfold Hid; rw [st.out.2, OK.out, bf]; rfl
        have SE : Hid (M.ptSum (l.take (k + 1)) = M.ptSum (l.take k) + (l.getD k (0, 0)).1) := st.out.1
        clear bad bf st ST EP HP hc OK
        generalize M.ptSum (l.take k) = S at *
        generalize (l.getD k (0, 0)).1 = x at *
        generalize (l.getD k (0, 0)).2 = y at *
        have g1 : Hid (decide (1 ≤ x ∧ x ≤ 6000) = true) := decide_eq_true (by omega)
        have g3 : decide (y < 0) = false := decide_eq_false (by omega)
        have g4 : decide (1000003 ≤ y) = false := decide_eq_false (by omega)
        have x1 : 1 ≤ x := by omega
        have x2 : x ≤ 6000 := by omega
        clear bd
        go_wp2_with (go_at_call 39; refine (chsize_any _ _).mono ?_; rintro e w2 ⟨rfl, ew⟩; have ew2 := ew.symm; subst ew2; rw [g1.out])
        go_roundw
        case rel => exact ⟨k + 1, by omega, by go_num, by rw [SE.out], OK2, KN.out _⟩
        case measure => simp [intOf]; omega
    · have ek : k = l.length := by omega
      have kz : ¬ ((k : Int) < (l.length : Int)) := by omega
      have et : l.take k = l := by rw [ek, List.take_length]
      rw [et] at S1 S2 OK ⊢
      rw [OK.out, if_neg (by simp)] at EP
      clear ek et ST HP OK
      by_cases q : 6000 < M.ptSum l
      · have g1 : decide (6000 < M.ptSum l) = true := decide_eq_true q
        rw [if_pos q] at EP
        clear q
        go_wp2
        go_ret
        exact ⟨by rw [EP.out]; rfl, KK.out⟩
      · have g1 : decide (6000 < M.ptSum l) = false := decide_eq_false q
        rw [if_neg q] at EP
        clear q
        go_wp2
        go_ret
        exact ⟨by rw [EP.out]; rfl, KK.out⟩
end Go.Proofs.YtelncekgjfpogahGreatDoor
