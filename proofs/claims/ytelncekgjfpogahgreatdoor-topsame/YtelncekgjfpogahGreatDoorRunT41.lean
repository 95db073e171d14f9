/-
  Several texts as one: FetNew, FetPut.
-/
import Derived.Test.YtelncekgjfpogahGreatDoorRunT32
import Derived.Test.YtelncekgjfpogahGreatDoorRunT36
import Derived.Test.YtelncekgjfpogahGreatDoorRunT22
import Derived.Carry
import Derived.Test.YtelncekgjfpogahGreatDoorRunT2
import Derived.Test.YtelncekgjfpogahGreatDoorRunT33
import Derived.Test.YtelncekgjfpogahGreatDoorRunT1
import Derived.RegionTactic
import Derived.BigQuiet
import Derived.Deep.QuietTactic
import Derived.Deep.RegionHeld3
import Derived.Deep.RegionLaw
namespace Go.Proofs.YtelncekgjfpogahGreatDoor
open Go.ChangeShapes Go.WideShapes Go.ChangeAt Go.RowKit Go.Lib Go.Maps
set_option linter.unusedVariables false
theorem has0_none (l : List M.Pt) (i : Nat) : (M.has0 l).getD i none = none := by
 unfold M.has0
 by_cases q : i < l.length
 · simp [List.getD, q]
 · simp [List.getD, show l.length ≤ i by omega]
theorem has0_count (l : List M.Pt) : hasC (M.has0 l) = 0 := by
 unfold hasC M.has0
 induction l with
 | nil => rfl
 | cons p l ih => simpa using ih
set_option maxHeartbeats 2000000 in
theorem fet_new (a : Option Addr) (l : List M.Pt) (c : Nat) (W : World) (h : RdP W a l) (h0 : M.partsF l = 0) : Calls Tryz.prog 13 #[.slice a l.length c] W fun e w' => ∃ f K, e = .returned (.tuple #[.pointer (some ⟨f, 0, none⟩), .nilIface]) ∧ FA w' f K l (M.has0 l) ∧ (∀ q, K q → W.heap.size ≤ q) ∧ Below W.heap.size W w' := by
 have CH := hide (chcheck_any a l c W h)
 rw [h0] at CH
 have z0 : errV 0 = .nilIface := if_pos rfl
 rw [z0] at CH
 have CL : Hid (∀ w1, Below W.heap.size W w1 → Calls Tryz.prog 42 #[.slice a l.length c] w1 fun e w' => ∃ va vc, e = .returned (.slice va l.length vc) ∧ RdP w' va l ∧ (∀ p, va = some p → w1.heap.size ≤ p.block ∧ p.block < w'.heap.size) ∧ Below w1.heap.size w1 w') := fun w1 hb => clone_pt a l c w1 (h.below hb) (M.parts_le h0)
 have hmm := @run_makeMap Tryz.prog
 have H0 := hide h0
 clear h h0 z0
 go_enter Tryz.func13, Tryz.ntmps13
 go_wp2_with (first
  | (go_at_call 41; refine CH.out.mono ?_; rintro e w1 ⟨rfl, hb1⟩; have K1 := hide hb1; have Z1 := hide hb1.size; clear hb1)
  | (go_at_call 42; refine (CL.out _ K1.out).mono ?_; rintro e w2 ⟨va, vc, rfl, hr2, hp2, hb2⟩; have R2 := hide hr2; have P2 := hide hp2; have K2 := hide (below_on K1.out hb2); have Z2 := hide hb2.size; clear hb2 hr2 hp2))
 have KK : Below W.heap.size W ((w2.alloc (.map #[] 0)).alloc (.cells #[.slice va l.length vc, .map (some w2.heap.size)] 100)) := (K2.out.alloc K2.out.size _).alloc (by have := K2.out.size; simp; omega) _
 have ZZ : W.heap.size ≤ w2.heap.size := K2.out.size
 have B2 : Below w2.heap.size w2 ((w2.alloc (.map #[] 0)).alloc (.cells #[.slice va l.length vc, .map (some w2.heap.size)] 100)) := ((Below.refl _ _).alloc (Nat.le_refl _) _).alloc (by simp) _
 have OM : ((w2.alloc (.map #[] 0)).alloc (.cells #[.slice va l.length vc, .map (some w2.heap.size)] 100)).ownsMap Tryz.prog 3 selfE w2.heap.size 0 (.map []) := (World.ownsMap_made w2 Tryz.prog 3 selfE).alloc _
 have C0 : ((w2.alloc (.map #[] 0)).alloc (.cells #[.slice va l.length vc, .map (some w2.heap.size)] 100)).cell? ⟨(w2.alloc (.map #[] 0)).heap.size, 0, none⟩ = some (.slice va l.length vc) := World.cell?_alloc_at _ _ _ 0 rfl
 have C1 : ((w2.alloc (.map #[] 0)).alloc (.cells #[.slice va l.length vc, .map (some w2.heap.size)] 100)).cell? ⟨(w2.alloc (.map #[] 0)).heap.size, 1, none⟩ = some (.map (some w2.heap.size)) := World.cell?_alloc_at _ _ _ 1 rfl
 have SZ : (w2.alloc (.map #[] 0)).heap.size = w2.heap.size + 1 := by simp
 rw [SZ] at C0 C1
 have pb : ∀ p, va = some p → W.heap.size ≤ p.block ∧ p.block < w2.heap.size := fun p hp => ⟨Nat.le_trans Z1.out (P2.out p hp).1, (P2.out p hp).2⟩
 go_ret2
 refine ⟨w2.heap.size + 1, fun q => W.heap.size ≤ q ∧ q < w2.heap.size + 1 + 1, rfl, ⟨va, vc, w2.heap.size, .map [], ?_⟩, (fun q hq => hq.1), KK⟩
 exact { right := H0.out, len := by simp [M.has0], c0 := C0, c1 := C1, rd := R2.out.below B2, own := by rw [has0_count]; exact OM, many := by rw [has0_count]; rfl
         kf := ⟨by omega, by omega⟩, km := ⟨by omega, by omega⟩, ka := fun p hp => ⟨(pb p hp).1, by have := (pb p hp).2; omega⟩, fm := by omega, am := fun p hp => by have := (pb p hp).2; omega
         lt := fun q hq => by have := hq.2; simp; omega, here := fun i bs e => (by rw [has0_none] at e; cases e), away := fun i _ => rfl }
theorem stay_below {K : Nat → Prop} {W W' : World} (h : Below W.heap.size W W') : StayBut K W W' := ⟨h.os, h.tape, h.output, h.size, fun q hq _ => h.block q hq⟩
theorem hasC_set : ∀ (h : M.Has) (n : Nat) (bs : List Nat), n < h.length → h.getD n none = none → hasC (h.set n (some bs)) = hasC h + 1
 | [], n, bs, hn, _ => by simp at hn
 | x :: h, 0, bs, _, e => by
   have : x = none := by simpa using e
   subst this
   rfl
 | x :: h, n + 1, bs, hn, e => by
   have ih := hasC_set h n bs (by simpa using hn) (by simpa using e)
   unfold hasC at ih ⊢
   rw [List.set_cons_succ]
   cases x with
   | none => exact ih
   | some y =>
     show (List.filter (·.isSome) (h.set n (some bs))).length + 1 = (List.filter (·.isSome) h).length + 1 + 1
     rw [ih]
theorem hasC_le (h : M.Has) : hasC h ≤ h.length := List.length_filter_le _ _
theorem FB.put {W w2 w3 : World} {f : Nat} {K : Nat → Prop} {l : List M.Pt} {h : M.Has} {a : Option Addr} {c m : Nat} {D : DataW Value} (F : FB W f K l h a c m D) (hb : Below W.heap.size W w2) {n B : Nat} {bs : List Nat} {va : Option Addr} {vc : Nat} (nl : n < l.length) (hp : M.ptIs l n bs = true) (hno : h.getD n none = none) (hB : W.heap.size ≤ B) (h8 : ∀ x ∈ bs, x < 256) (hz : bs.length ≤ maxLen)
 (ho : w2.ownsRow B 5 1 (.slice va bs.length vc) bs.length (byCells bs)) (hm : w3.ownsMap Tryz.prog 3 selfE m (hasC h + 1) (D.put (.int .i64 (n : Int)) (.held (.slice va bs.length vc)))) (hg : w2.grownBy w3 (some m)) :
 FB w3 f (fun q => K q ∨ (W.heap.size ≤ q ∧ q < w3.heap.size)) l (h.set n (some bs)) a c m (D.put (.int .i64 (n : Int)) (.held (.slice va bs.length vc))) := by
 have F2 := F.below hb
 have lm : n < h.length := by rw [F.len]; exact nl
 have mW := F.lt m F.km
 have keep : ∀ q, K q → q ≠ m → w3.heap[q]? = w2.heap[q]? := fun q hq hne => hg.block q (F2.lt q hq) (fun e => hne (by cases e; rfl))
 have cnt := hasC_set h n bs lm hno
 have kl : WideAt.IsKeyLit (.int .i64 (n : Int)) := keyF.key (keyOfF (by have := M.parts_le F.right; omega))
 obtain ⟨a', c', e, hr, hn', _⟩ := own_rdB0 rfl hz h8 ho
 have lts : ∀ p, va = some p → B ≤ p.block ∧ p.block < w2.heap.size := fun p hp => by subst hp; exact ho.lt p.block rfl
 cases e
 exact {
  right := F.right
  len := by rw [List.length_set]; exact F.len
  c0 := (World.cell?_of_block (a := ⟨f, 0, none⟩) (keep f F.kf F.fm)).trans F2.c0
  c1 := (World.cell?_of_block (a := ⟨f, 1, none⟩) (keep f F.kf F.fm)).trans F2.c1
  rd := rdP_keep F2.rd (fun p hp => keep _ (F.ka p hp) (F.am p hp)) hg.size
  own := by rw [cnt]; exact hm
  many := by rw [cnt, size_put (F.own.tidy keyF), F.away n hno, F.many]; rfl
  kf := .inl F.kf
  km := .inl F.km
  ka := fun p hp => .inl (F.ka p hp)
  fm := F.fm
  am := F.am
  lt := fun q hq => by
   rcases hq with hq | hq
   · exact Nat.lt_of_lt_of_le (F2.lt q hq) hg.size
   · exact hq.2
  here := fun i bs' e => by
   by_cases q : n = i
   · subst q
     have e' : bs = bs' := by simpa [List.getD, lm] using e
     subst e'
     refine ⟨hp, va, vc, fun z => atKey_put_same F.own.isMap kl _ z, rdB_stay hr (fun p hp => hg.block p.block (lts p hp).2 (fun e => ?_)) hg.size, hn', fun p hp => ⟨.inr ⟨Nat.le_trans hB (lts p hp).1, Nat.lt_of_lt_of_le (lts p hp).2 hg.size⟩, ?_⟩⟩
     · have := (lts p hp).1
       cases e
       omega
     · have := (lts p hp).1
       omega
   · have e2 : h.getD i none = some bs' := by simpa [List.getD, List.getElem?_set_ne q] using e
     obtain ⟨g1, pa, pc, g2, g3, g4, g5⟩ := F2.here i bs' e2
     refine ⟨g1, pa, pc, fun z => ?_, rdB_stay g3 (fun p hp => keep _ (g5 p hp).1 (g5 p hp).2) hg.size, g4, fun p hp => ⟨.inl (g5 p hp).1, (g5 p hp).2⟩⟩
     rw [atKey_put_other (by intro z; cases z; exact q rfl)]
     exact g2 z
  away := fun i e => by
   by_cases q : n = i
   · subst q
     simp [List.getD, lm] at e
   · have e2 : h.getD i none = none := by simpa [List.getD, List.getElem?_set_ne q] using e
     rw [has_put_other (by intro z; cases z; exact q rfl)]
     exact F.away i e2 }
theorem stay_put {K : Nat → Prop} {W w2 w3 : World} {m : Nat} (hb : Below W.heap.size W w2) (hg : w2.grownBy w3 (some m)) (km : K m) : StayBut K W w3 :=
 ⟨hg.os.trans hb.os, hg.tape.trans hb.tape, hg.output.trans hb.output, Nat.le_trans hb.size hg.size, fun q hq hk => (hg.block q (Nat.lt_of_lt_of_le hq hb.size) (fun e => hk (by cases e; exact km))).trans (hb.block q hq)⟩
set_option maxHeartbeats 4000000 in
set_option maxRecDepth 20000 in
theorem fet_put {W : World} {f : Nat} {K : Nat → Prop} {l : List M.Pt} {h : M.Has} (i : Int) (a : Option Addr) (bs : List Nat) (c : Nat) (F0 : FA W f K l h) (hr : RdB W a bs) (hl : bs.length ≤ c) (hc : c ≤ 9223372036854775807) (hn : a = none → c = 0) (i1 : -9223372036854775808 ≤ i) (i2 : i ≤ 9223372036854775807) : Calls Tryz.prog 14 #[.pointer (some ⟨f, 0, none⟩), .int .i64 i, .slice a bs.length c] W fun e w' => ∃ K', e = .returned (.tuple #[.bool (M.putN l h i bs), errV (M.putF l i bs)]) ∧ FA w' f K' l (M.putH l h i bs) ∧ StayBut K W w' ∧ (∀ q, K' q → K q ∨ W.heap.size ≤ q) := by
 have F1 := hide F0
 obtain ⟨pa, pc, m, D, F⟩ := F0
 have l100 := M.parts_le F.right
 have c0 := F.c0
 by_cases q1 : i < 0 ∨ (l.length : Int) ≤ i
 · have E1 : Hid (M.putF l i bs = 1) := by unfold Hid M.putF; rw [if_pos q1]
   have E2 : Hid (M.putN l h i bs = false) := by unfold Hid M.putN; rw [E1.out]; rfl
   have E3 : Hid (M.putH l h i bs = h) := by unfold Hid M.putH; rw [E2.out]; rfl
   have e1 : errV 1 = .iface 74 (.int .i64 1) := err_some (by decide)
   rw [E1.out, E2.out, E3.out, e1]
   have ways : (decide (i < 0) = true) ∨ (decide (i < 0) = false ∧ decide ((l.length : Int) ≤ i) = true) := by
    simp only [decide_eq_true_iff, decide_eq_false_iff_not]
    omega
   clear E1 E2 E3 e1 q1 hr hl hn F
   rcases ways with g1 | ⟨g1, g2⟩
   all_goals (
    go_enter Tryz.func14, Tryz.ntmps14
    go_wp2
    go_ret2
    exact ⟨K, rfl, F1.out, stay_below (Below.refl _ _), fun q hq => .inl hq⟩)
 obtain ⟨n, rfl⟩ : ∃ n : Nat, i = (n : Int) := ⟨i.toNat, by omega⟩
 have nl : n < l.length := by omega
 have nz : (n : Int) < (l.length : Int) := by omega
 have g1 : decide ((n : Int) < 0) = false := decide_eq_false (by omega)
 have g2 : decide ((l.length : Int) ≤ (n : Int)) = false := decide_eq_false (by omega)
 obtain ⟨pb, po, epa, pbl, pcs⟩ := F.rd.2 (by intro e; rw [e] at nl; simp at nl)
 obtain ⟨d0, d1⟩ := pcs n nl
 have PI : Hid (Calls Tryz.prog 43 #[.slice a bs.length c, .agg #[.int .i64 (l.getD n (0, 0)).1, .int .i64 (l.getD n (0, 0)).2]] W fun e w' => e = .returned (.bool (M.ptIs l n bs)) ∧ Below W.heap.size W w') := chpiece_any a bs c _ _ W hr
 have FF := hide F
 by_cases q2 : M.ptIs l n bs = true
 case neg =>
  have q2 : M.ptIs l n bs = false := by simpa using q2
  have E1 : Hid (M.putF l (n : Int) bs = 3) := by unfold Hid M.putF; rw [if_neg q1, Int.toNat_natCast, q2]; rfl
  have E2 : Hid (M.putN l h (n : Int) bs = false) := by unfold Hid M.putN; rw [E1.out]; rfl
  have E3 : Hid (M.putH l h (n : Int) bs = h) := by unfold Hid M.putH; rw [E2.out]; rfl
  have e1 : errV 3 = .iface 74 (.int .i64 3) := err_some (by decide)
  rw [E1.out, E2.out, E3.out, e1]
  rw [q2] at PI
  subst epa
  clear E1 E2 E3 e1 q1 q2 hr hl hn F pcs
  generalize (l.getD n (0, 0)).1 = x at *
  generalize (l.getD n (0, 0)).2 = y at *
  go_enter Tryz.func14, Tryz.ntmps14
  go_wp2_with (go_at_call 43; refine PI.out.mono ?_; rintro e w1 ⟨rfl, hb1⟩; have K1 := hide hb1; clear hb1)
  go_ret2
  exact ⟨K, rfl, ⟨_, _, _, _, FF.out.below K1.out⟩, stay_below K1.out, fun q hq => .inl hq⟩
 have E1 : Hid (M.putF l (n : Int) bs = 0) := by unfold Hid M.putF; rw [if_neg q1, Int.toNat_natCast, q2]; rfl
 have E2 : Hid (M.putN l h (n : Int) bs = (h.getD n none).isNone) := by unfold Hid M.putN; rw [E1.out, Int.toNat_natCast]; rfl
 have z0 : errV 0 = .nilIface := if_pos rfl
 rw [E1.out, z0]
 clear z0
 rw [q2] at PI
 have HH : Hid (∀ w1, Below W.heap.size W w1 → Calls Tryz.prog 44 #[.pointer (some ⟨f, 0, none⟩), .int .i64 (n : Int)] w1 fun e w' => e = .returned (.bool (h.getD n none).isSome) ∧ w' = w1) := fun w1 hb => fet_has (FF.out.below hb) (by omega)
 by_cases q3 : (h.getD n none).isSome = true
 · have q3' : (h.getD n none).isNone = false := by cases q : h.getD n none with | none => rw [q] at q3; cases q3 | some _ => rfl
   rw [q3'] at E2
   have E3 : Hid (M.putH l h (n : Int) bs = h) := by unfold Hid M.putH; rw [E2.out]; rfl
   rw [E2.out, E3.out]
   rw [q3] at HH
   subst epa
   clear E1 E2 E3 q1 q2 q3 q3' hr hl hn F pcs
   generalize (l.getD n (0, 0)).1 = x at *
   generalize (l.getD n (0, 0)).2 = y at *
   go_enter Tryz.func14, Tryz.ntmps14
   go_wp2_with (first
    | (go_at_call 43; refine PI.out.mono ?_; rintro e w1 ⟨rfl, hb1⟩; have K1 := hide hb1; clear hb1)
    | (go_at_call 44; refine (HH.out _ K1.out).mono ?_; rintro e w2 ⟨rfl, ew⟩; have ew2 := ew.symm; subst ew2))
   go_ret2
   exact ⟨K, rfl, ⟨_, _, _, _, FF.out.below K1.out⟩, stay_below K1.out, fun q hq => .inl hq⟩
 · have q3' : (h.getD n none).isNone = true := by cases q : h.getD n none with | none => rfl | some _ => rw [q] at q3; simp at q3
   have q3 : (h.getD n none).isSome = false := by simpa using q3
   rw [q3'] at E2
   have E3 : Hid (M.putH l h (n : Int) bs = h.set n (some bs)) := by unfold Hid M.putH; rw [E2.out, Int.toNat_natCast]; rfl
   rw [E2.out, E3.out]
   rw [q3] at HH
   have hz : bs.length ≤ 140737488351232 := by
    have g : (bs.length : Int) = (l.getD n (0, 0)).1 ∧ (M.sumF bs : Int) = (l.getD n (0, 0)).2 := of_decide_eq_true q2
    have := (M.parts_one F.right nl).2
    omega
   have CB : Hid (∀ w1, Below W.heap.size W w1 → ∀ V, V.heap = w1.heap → Calls Tryz.prog 45 #[.slice a bs.length c] V fun e w' => ∃ va vc, e = .returned (.slice va bs.length vc) ∧ w'.ownsRow V.heap.size 5 1 (.slice va bs.length vc) bs.length (byCells bs) ∧ Below V.heap.size V w') := fun w1 hb V hV => clone_by a bs c V (rdB_heap (hr.below hb) hV) hn hz
   have q4 : h.getD n none = none := by cases q : h.getD n none with | none => rfl | some _ => rw [q] at q3; cases q3
   have PT := hide q2
   subst epa
   clear E1 E2 E3 q1 q2 q3 q3' hl hn F pcs
   generalize (l.getD n (0, 0)).1 = x at *
   generalize (l.getD n (0, 0)).2 = y at *
   go_enter Tryz.func14, Tryz.ntmps14
   go_wp2_with (first
    | (go_at_call 43; refine PI.out.mono ?_; rintro e w1 ⟨rfl, hb1⟩; have K1 := hide hb1; clear hb1)
    | (go_at_call 44; refine (HH.out _ K1.out).mono ?_; rintro e w2 ⟨rfl, ew⟩; have ew2 := ew.symm; subst ew2))
   have m1 := (FF.out.below K1.out).c1
   have NO : Hid (h.getD n none = none) := q4
   have ST : Hid (∀ w2 va vc, Below W.heap.size W w2 → ∃ w3, (Instr.mapUpdate 98 (.map (some m)) (.int .i64 (n : Int)) (.slice va bs.length vc)).run Tryz.prog w2 = .ok () w3 ∧ w3.ownsMap Tryz.prog 3 selfE m (hasC h + 1) (D.put (.int .i64 (n : Int)) (.held (.slice va bs.length vc))) ∧ w2.grownBy w3 (some m)) := fun w2 va vc hb => (FF.out.below hb).own.update keyF Tryz.underlying98 (by have := hasC_le h; rw [FF.out.len] at this; unfold maxLen; omega) (keyOfF (by omega)) rfl
   clear q4
   go_region_with (go_at_call 45; refine (CB.out _ K1.out w1.drew rfl).mono ?_; rintro e w2 ⟨va, vc, rfl, ho2, hb2⟩; have K2 := hide (below_on K1.out (below_on (Below.refl _ w1).drew hb2)); have m2 := (FF.out.below K2.out).c1; have O2 := hide ho2; obtain ⟨w3, hrun, hm3, hg3⟩ := ST.out w2 va vc K2.out; have M3 := hide hm3; have G3 := hide hg3; clear ho2 hb2 hm3 hg3)
   all_goals (
    go_wp2
    go_ret2
    exact ⟨_, rfl, ⟨_, _, _, _, FF.out.put K2.out nl PT.out NO.out (by have := K1.out.size; simpa using this) hr.2.1 hr.1 O2.out M3.out G3.out⟩, stay_put K2.out G3.out FF.out.km, (fun q hq => hq.imp_right (·.1))⟩)
end Go.Proofs.YtelncekgjfpogahGreatDoor
