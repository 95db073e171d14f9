/-
  Several texts as one: MapSelf, ShBx, ShMove.
-/
import Derived.Test.YtiggkjkjfnlfkaaGreatDoorRunS1
import Derived.Maps.OwnOps
import Derived.Maps.OwnSet
import Derived.Maps.Views
import Derived.LaidEqlPtr
namespace Go.Proofs.YtiggkjkjfnlfkaaGreatDoor
open Go.ChangeShapes Go.WideShapes Go.ChangeAt Go.RowKit Go.Lib Go.Maps
set_option linter.unusedVariables false
/-- how an element reads: as itself -/
def selfE (v : Value) : Option (DataW Value × List MemPlace) := some (.held v, [])
theorem ownsMap_keep {W W' : World} {P : Program} {k : TypeId} {R : Value → Option (DataW Value × List MemPlace)} {b n : Nat} {D : DataW Value} (h : W.ownsMap P k R b n D) (hk : W'.heap[b]? = W.heap[b]?) : W'.ownsMap P k R b n D := by
  obtain ⟨es, clock, hb, r⟩ := h
  exact ⟨es, clock, hk.trans hb, r⟩
end Go.Proofs.YtiggkjkjfnlfkaaGreatDoor

namespace Go.Proofs.YtiggkjkjfnlfkaaGreatDoor
open Go.ChangeShapes Go.WideShapes Go.ChangeAt Go.RowKit Go.Lib
set_option linter.unusedVariables false
/-- a block's cells, free to be written -/
def Bx (W : World) (b : Nat) (l : List Value) : Prop := ∃ t, W.heap[b]? = some (.cells l.toArray t (0, 0))
theorem Bx.cell {W : World} {b : Nat} {l : List Value} (h : Bx W b l) (j : Nat) (v : Value) (hv : l[j]? = some v) : W.cell? ⟨b, j, none⟩ = some v := by
  obtain ⟨t, h⟩ := h
  rw [cell_of_row _ _ _ _ _ _ h]
  simpa using hv
theorem Bx.free {W : World} {b : Nat} {l : List Value} (h : Bx W b l) (j : Nat) : W.frozen? ⟨b, j, none⟩ = false := by
  obtain ⟨t, h⟩ := h
  simp [World.frozen?, h]
theorem Bx.keep {W W' : World} {b : Nat} {l : List Value} (h : Bx W b l) (hk : W'.heap[b]? = W.heap[b]?) : Bx W' b l := by
  obtain ⟨t, h⟩ := h
  exact ⟨t, hk.trans h⟩
theorem Bx.lt {W : World} {b : Nat} {l : List Value} (h : Bx W b l) : b < W.heap.size := by
  obtain ⟨t, h⟩ := h
  exact (Array.getElem?_eq_some_iff.1 h).1
theorem Bx.put {W : World} {b : Nat} {l : List Value} (h : Bx W b l) {j : Nat} {v : Value} : Bx (W.setCell ⟨b, j, none⟩ v) b (l.set j v) := by
  obtain ⟨t, h⟩ := h
  refine ⟨t, ?_⟩
  rw [heap_setCell_same _ _ _ _ _ _ h]
  simp
theorem Bx.else {W : World} {b : Nat} {l : List Value} (h : Bx W b l) {p j : Nat} {v : Value} (hne : b ≠ p) : Bx (W.setCell ⟨p, j, none⟩ v) b l := h.keep (heap_setCell_other _ _ _ _ hne)
theorem bx_new (W : World) (l : List Value) (t : TypeId) : Bx (W.alloc (.cells l.toArray t)) W.heap.size l := ⟨t, Array.getElem?_push_size⟩
theorem Bx.any {W : World} {b : Nat} {l : List Value} (h : Bx W b l) (p j : Nat) (v : Value) : ∃ l', Bx (W.setCell ⟨p, j, none⟩ v) b l' := by
  by_cases q : b = p
  · subst q; exact ⟨_, h.put⟩
  · exact ⟨_, h.else q⟩
/-- pointers to blocks are the same where the blocks are -/
theorem bx_eql {W : World} {a b : Nat} {l r : List Value} {tp te : TypeId} {n : Nat} (hp : Tryz.prog.underlying tp = some (.pointer te)) (hs : (Tryz.prog.info? te).map (fun i => i.size) = some n) (hn : n ≠ 0) (ha : Bx W a l) (hb : Bx W b r) :
    (binOp .eql tp (.pointer (some ⟨a, 0, none⟩)) (.pointer (some ⟨b, 0, none⟩))).run Tryz.prog W = .ok (.bool (decide (a = b))) W := by
  obtain ⟨j, hj, hjs⟩ := Option.map_eq_some_iff.1 hs
  obtain ⟨ta, ha⟩ := ha
  obtain ⟨tb, hb⟩ := hb
  by_cases q : a = b
  · subst q
    simpa using run_eql_ptr_same (P := Tryz.prog) W ⟨a, 0, none⟩ hp hj
  · rw [decide_eq_false q]
    exact run_eql_ptr_other (P := Tryz.prog) W hp hj (by rw [hjs]; exact hn) (by intro e; cases e; exact q rfl) ha hb
/-- a pointer to a block, or none -/
def ptB (o : Option Nat) : Value := .pointer (o.map fun b => ⟨b, 0, none⟩)
theorem StayBut.refl (K : Nat → Prop) (W : World) : StayBut K W W := ⟨rfl, rfl, rfl, Nat.le_refl _, fun _ _ _ => rfl⟩
theorem StayBut.trans {K : Nat → Prop} {a b c : World} (h : StayBut K a b) (k : StayBut K b c) : StayBut K a c :=
  ⟨k.os.trans h.os, k.tape.trans h.tape, k.output.trans h.output, Nat.le_trans h.size k.size, fun q hq hk => (k.block q (Nat.lt_of_lt_of_le hq h.size) hk).trans (h.block q hq hk)⟩
theorem StayBut.mono {K L : Nat → Prop} {a b : World} (h : StayBut K a b) (hl : ∀ q, q < a.heap.size → K q → L q) : StayBut L a b :=
  ⟨h.os, h.tape, h.output, h.size, fun q hq hk => h.block q hq (fun z => hk (hl q hq z))⟩
theorem stay_grown {K : Nat → Prop} {a b : World} {p : Nat} (h : a.grownBy b (some p)) (hp : K p) : StayBut K a b :=
  ⟨h.os, h.tape, h.output, h.size, fun q hq hk => h.block q hq (fun e => hk (by cases e; exact hp))⟩
theorem stay_set {K : Nat → Prop} {W : World} {p j : Nat} {v : Value} (hp : K p) : StayBut K W (W.setCell ⟨p, j, none⟩ v) := stay_grown grown_set hp
theorem stay_of {K : Nat → Prop} {B : Nat} {W W' : World} (h : Below B W W') (hB : W.heap.size ≤ B) : StayBut K W W' := ⟨h.os, h.tape, h.output, h.size, fun q hq _ => h.block q (Nat.lt_of_lt_of_le hq hB)⟩
theorem stay_low {K : Nat → Prop} {B : Nat} {W W' : World} (h : Below B W W') (hB : ∀ q, B ≤ q → q < W.heap.size → K q) : StayBut K W W' := ⟨h.os, h.tape, h.output, h.size, fun q hq hk => h.block q (by
  by_cases z : q < B
  · exact z
  · exact absurd (hB q (by omega) hq) hk)⟩
def mvC (o : Option Nat) (k : Nat) (st st' : Int) : Option Nat := if st = st' then some k else if o = some k then none else o
def mvG (st : Int) (g0 g1 g2 g3 : Value) : List Value := if st = 4 then [.int .i64 0, .int .i64 0, .slice none 0 0, .slice none 0 0] else [g0, g1, g2, g3]
theorem sizeK : (Tryz.prog.info? 98).map (fun i => i.size) = some 8 := by kernel_rfl
/-- how a pointer is to a block -/
theorem pt_ways (o : Option Nat) (k : Nat) : o = none ∨ o = some k ∨ ∃ c, o = some c ∧ c ≠ k := by
  cases o with
  | none => exact .inl rfl
  | some c =>
    by_cases h : c = k
    · exact .inr (.inl (by rw [h]))
    · exact .inr (.inr ⟨c, rfl, h⟩)

/-- what is left, cell by cell -/
def mvA (W : World) (m k : Nat) (a b : Bool) (st : Int) : World :=
  ((bif b then (bif a then W.setCell ⟨m, 1, none⟩ (.pointer none) else W).setCell ⟨m, 2, none⟩ (.pointer none) else bif a then W.setCell ⟨m, 1, none⟩ (.pointer none) else W).setCell ⟨k, 2, none⟩ (.int .i64 st)).setCell ⟨k, 3, none⟩ (.int .i64 0)
theorem mvA_is {W : World} {m k : Nat} {x n0 n1 s0 s1 g0 g1 g2 g3 pc pl : Value} (hm : Bx W m [x, pc, pl]) (hk : Bx W k [n0, n1, s0, s1, g0, g1, g2, g3]) (mk : m ≠ k) (a b : Bool) (st : Int) :
    Bx (mvA W m k a b st) m [x, bif a then .pointer none else pc, bif b then .pointer none else pl] ∧ Bx (mvA W m k a b st) k [n0, n1, .int .i64 st, .int .i64 0, g0, g1, g2, g3] ∧ StayBut (fun q => q = m ∨ q = k) W (mvA W m k a b st) := by
  have mk' : k ≠ m := Ne.symm mk
  have S : ∀ {V : World} {p j : Nat} {v : Value}, (p = m ∨ p = k) → StayBut (fun q => q = m ∨ q = k) V (V.setCell ⟨p, j, none⟩ v) := fun h => stay_set h
  cases a <;> cases b
  · exact ⟨(hm.else mk).else mk, (hk.put (j := 2)).put (j := 3), (S (.inr rfl)).trans (S (.inr rfl))⟩
  · exact ⟨((hm.put (j := 2) (v := .pointer none)).else mk).else mk, ((hk.else mk').put (j := 2)).put (j := 3), ((S (.inl rfl)).trans (S (.inr rfl))).trans (S (.inr rfl))⟩
  · exact ⟨((hm.put (j := 1) (v := .pointer none)).else mk).else mk, ((hk.else mk').put (j := 2)).put (j := 3), ((S (.inl rfl)).trans (S (.inr rfl))).trans (S (.inr rfl))⟩
  · exact ⟨(((hm.put (j := 1) (v := .pointer none)).put (j := 2) (v := .pointer none)).else mk).else mk, (((hk.else mk').else mk').put (j := 2)).put (j := 3), (((S (.inl rfl)).trans (S (.inl rfl))).trans (S (.inr rfl))).trans (S (.inr rfl))⟩
def MvGives (W : World) (m k : Nat) (x n0 n1 g0 g1 g2 g3 : Value) (oc ol : Option Nat) (st : Int) (w' : World) : Prop :=
  Bx w' m [x, ptB (mvC oc k st 2), ptB (mvC ol k st 3)] ∧ Bx w' k ([n0, n1, .int .i64 st, .int .i64 0] ++ mvG st g0 g1 g2 g3) ∧ StayBut (fun q => q = m ∨ q = k) W w'
theorem mv_two {W : World} {m k : Nat} {x n0 n1 s0 s1 g0 g1 g2 g3 : Value} {oc ol : Option Nat} (hm : Bx W m [x, ptB oc, ptB ol]) (hk : Bx W k [n0, n1, s0, s1, g0, g1, g2, g3]) (mk : m ≠ k) (a b : Bool) (hb : ptB (mvC ol k 2 3) = bif b then .pointer none else ptB ol) :
    MvGives W m k x n0 n1 g0 g1 g2 g3 oc ol 2 ((mvA W m k a b 2).setCell ⟨m, 1, none⟩ (.pointer (some ⟨k, 0, none⟩))) := by
  obtain ⟨h1, h2, h3⟩ := mvA_is hm hk mk a b 2
  refine ⟨?_, ?_, h3.trans (stay_set (.inl rfl))⟩
  · rw [hb]
    exact h1.put (j := 1) (v := .pointer (some ⟨k, 0, none⟩))
  · exact h2.else (Ne.symm mk)
theorem mv_three {W : World} {m k : Nat} {x n0 n1 s0 s1 g0 g1 g2 g3 : Value} {oc ol : Option Nat} (hm : Bx W m [x, ptB oc, ptB ol]) (hk : Bx W k [n0, n1, s0, s1, g0, g1, g2, g3]) (mk : m ≠ k) (a b : Bool) (ha : ptB (mvC oc k 3 2) = bif a then .pointer none else ptB oc) :
    MvGives W m k x n0 n1 g0 g1 g2 g3 oc ol 3 ((mvA W m k a b 3).setCell ⟨m, 2, none⟩ (.pointer (some ⟨k, 0, none⟩))) := by
  obtain ⟨h1, h2, h3⟩ := mvA_is hm hk mk a b 3
  refine ⟨?_, ?_, h3.trans (stay_set (.inl rfl))⟩
  · rw [ha]
    exact h1.put (j := 2) (v := .pointer (some ⟨k, 0, none⟩))
  · exact h2.else (Ne.symm mk)
theorem mv_four {W : World} {m k : Nat} {x n0 n1 s0 s1 g0 g1 g2 g3 : Value} {oc ol : Option Nat} (hm : Bx W m [x, ptB oc, ptB ol]) (hk : Bx W k [n0, n1, s0, s1, g0, g1, g2, g3]) (mk : m ≠ k) (a b : Bool) (ha : ptB (mvC oc k 4 2) = bif a then .pointer none else ptB oc) (hb : ptB (mvC ol k 4 3) = bif b then .pointer none else ptB ol) :
    MvGives W m k x n0 n1 g0 g1 g2 g3 oc ol 4 (((((mvA W m k a b 4).setCell ⟨k, 4, none⟩ (.int .i64 0)).setCell ⟨k, 5, none⟩ (.int .i64 0)).setCell ⟨k, 6, none⟩ (.slice none 0 0)).setCell ⟨k, 7, none⟩ (.slice none 0 0)) := by
  obtain ⟨h1, h2, h3⟩ := mvA_is hm hk mk a b 4
  refine ⟨?_, ?_, (((h3.trans (stay_set (.inr rfl))).trans (stay_set (.inr rfl))).trans (stay_set (.inr rfl))).trans (stay_set (.inr rfl))⟩
  · rw [ha, hb]
    exact (((h1.else mk).else mk).else mk).else mk
  · exact (((h2.put (j := 4)).put (j := 5)).put (j := 6)).put (j := 7)
theorem mv_flag (o : Option Nat) (k : Nat) (st st' : Int) (h : st ≠ st') : ptB (mvC o k st st') = bif decide (o = some k) then .pointer none else ptB o := by
  unfold mvC
  rw [if_neg h]
  by_cases q : o = some k
  · rw [if_pos q, decide_eq_true q]; rfl
  · rw [if_neg q, decide_eq_false q]; rfl

set_option maxHeartbeats 16000000 in
set_option maxRecDepth 20000 in
theorem mv_any {W : World} {m k : Nat} {x n0 n1 s0 s1 g0 g1 g2 g3 : Value} {oc ol : Option Nat} (st : Int) (hm : Bx W m [x, ptB oc, ptB ol]) (hk : Bx W k [n0, n1, s0, s1, g0, g1, g2, g3]) (mk : m ≠ k) (hoc : ∀ c, oc = some c → ∃ l, Bx W c l) (hol : ∀ c, ol = some c → ∃ l, Bx W c l) (hs : st = 2 ∨ st = 3 ∨ st = 4) :
    Calls Tryz.prog 155 #[.pointer (some ⟨m, 0, none⟩), .pointer (some ⟨k, 0, none⟩), .int .i64 st] W fun e w' => e = .returned (.tuple #[]) ∧ MvGives W m k x n0 n1 g0 g1 g2 g3 oc ol st w' := by
  have m1 := hm.cell 1 _ rfl
  have m2 := hm.cell 2 _ rfl
  have k2 := hk.cell 2 _ rfl
  have k3 := hk.cell 3 _ rfl
  have k4 := hk.cell 4 _ rfl
  have k5 := hk.cell 5 _ rfl
  have k6 := hk.cell 6 _ rfl
  have k7 := hk.cell 7 _ rfl
  have fm1 := hm.free 1
  have fm2 := hm.free 2
  have fk2 := hk.free 2
  have fk3 := hk.free 3
  have fk4 := hk.free 4
  have fk5 := hk.free 5
  have fk6 := hk.free 6
  have fk7 := hk.free 7
  have n1' : ¬ m = k := mk
  have n2' : ¬ k = m := Ne.symm mk
  have M2 : Hid (∀ a b, ptB (mvC ol k 2 3) = (bif b then .pointer none else ptB ol) → MvGives W m k x n0 n1 g0 g1 g2 g3 oc ol 2 ((mvA W m k a b 2).setCell ⟨m, 1, none⟩ (.pointer (some ⟨k, 0, none⟩)))) := fun a b hb => mv_two hm hk mk a b hb
  have M3 : Hid (∀ a b, ptB (mvC oc k 3 2) = (bif a then .pointer none else ptB oc) → MvGives W m k x n0 n1 g0 g1 g2 g3 oc ol 3 ((mvA W m k a b 3).setCell ⟨m, 2, none⟩ (.pointer (some ⟨k, 0, none⟩)))) := fun a b ha => mv_three hm hk mk a b ha
  have M4 : Hid (∀ a b, ptB (mvC oc k 4 2) = (bif a then .pointer none else ptB oc) → ptB (mvC ol k 4 3) = (bif b then .pointer none else ptB ol) → MvGives W m k x n0 n1 g0 g1 g2 g3 oc ol 4 (((((mvA W m k a b 4).setCell ⟨k, 4, none⟩ (.int .i64 0)).setCell ⟨k, 5, none⟩ (.int .i64 0)).setCell ⟨k, 6, none⟩ (.slice none 0 0)).setCell ⟨k, 7, none⟩ (.slice none 0 0))) := fun a b ha hb => mv_four hm hk mk a b ha hb
  have F2 : Hid (∀ st, st ≠ 2 → ptB (mvC oc k st 2) = bif decide (oc = some k) then .pointer none else ptB oc) := fun st h => mv_flag oc k st 2 h
  have F3 : Hid (∀ st, st ≠ 3 → ptB (mvC ol k st 3) = bif decide (ol = some k) then .pointer none else ptB ol) := fun st h => mv_flag ol k st 3 h
  have E : Hid (∀ V c l, (∃ l', Bx V k l') → Bx V c l → (binOp .eql 94 (.pointer (some ⟨k, 0, none⟩)) (.pointer (some ⟨c, 0, none⟩))).run Tryz.prog V = .ok (.bool (decide (k = c))) V) := fun V c l ⟨l', h1⟩ h2 => bx_eql Tryz.underlying94 sizeK (by decide) h1 h2
  have EK : Hid (∀ V, (V = W ∨ V = W.setCell ⟨m, 1, none⟩ (.pointer none)) → ∃ l', Bx V k l') := fun V hV => by
    rcases hV with rfl | rfl
    · exact ⟨_, hk⟩
    · exact hk.any _ _ _
  have EO : Hid (∀ V c, (∃ l, Bx W c l) → (V = W ∨ V = W.setCell ⟨m, 1, none⟩ (.pointer none)) → (binOp .eql 94 (.pointer (some ⟨k, 0, none⟩)) (.pointer (some ⟨c, 0, none⟩))).run Tryz.prog V = .ok (.bool (decide (k = c))) V) := fun V c ⟨l, h⟩ hV => by
    obtain ⟨l2, h2⟩ : ∃ l2, Bx V c l2 := by
      rcases hV with rfl | rfl
      · exact ⟨_, h⟩
      · exact h.any _ _ _
    exact E.out V c l2 (EK.out V hV) h2
  have HC := hide hoc
  have HL := hide hol
  clear hm hk hoc hol E EK
  obtain rfl | rfl | ⟨c, rfl, hc⟩ := pt_ways oc k
  · obtain rfl | rfl | ⟨d, rfl, hd⟩ := pt_ways ol k
    · have A : Hid (decide ((none : Option Nat) = some k) = false) := rfl
      have B : Hid (decide ((none : Option Nat) = some k) = false) := rfl
      rw [A.out] at F2
      rw [B.out] at F3
      replace m1 : W.cell? ⟨m, 1, none⟩ = some (.pointer none) := m1
      replace m2 : W.cell? ⟨m, 2, none⟩ = some (.pointer none) := m2
      obtain rfl | rfl | rfl := hs
      · go_enter Tryz.func155, Tryz.ntmps155
        go_wp2
        go_end0
        exact ⟨rfl, M2.out false false (F3.out 2 (by decide))⟩
      · go_enter Tryz.func155, Tryz.ntmps155
        go_wp2
        go_end0
        exact ⟨rfl, M3.out false false (F2.out 3 (by decide))⟩
      · go_enter Tryz.func155, Tryz.ntmps155
        go_wp2
        go_end0
        exact ⟨rfl, M4.out false false (F2.out 4 (by decide)) (F3.out 4 (by decide))⟩
    · have A : Hid (decide ((none : Option Nat) = some k) = false) := rfl
      have B : Hid (decide (some k = some k) = true) := decide_eq_true rfl
      rw [A.out] at F2
      rw [B.out] at F3
      replace m1 : W.cell? ⟨m, 1, none⟩ = some (.pointer none) := m1
      replace m2 : W.cell? ⟨m, 2, none⟩ = some (.pointer (some ⟨k, 0, none⟩)) := m2
      have q2 := EO.out W k (HL.out k rfl) (.inl rfl)
      rw [show decide (k = k) = true from decide_eq_true rfl] at q2
      obtain rfl | rfl | rfl := hs
      · go_enter Tryz.func155, Tryz.ntmps155
        go_wp2
        go_end0
        exact ⟨rfl, M2.out false true (F3.out 2 (by decide))⟩
      · go_enter Tryz.func155, Tryz.ntmps155
        go_wp2
        go_end0
        exact ⟨rfl, M3.out false true (F2.out 3 (by decide))⟩
      · go_enter Tryz.func155, Tryz.ntmps155
        go_wp2
        go_end0
        exact ⟨rfl, M4.out false true (F2.out 4 (by decide)) (F3.out 4 (by decide))⟩
    · have A : Hid (decide ((none : Option Nat) = some k) = false) := rfl
      have B : Hid (decide (some d = some k) = false) := decide_eq_false (fun e => hd (by cases e; rfl))
      rw [A.out] at F2
      rw [B.out] at F3
      replace m1 : W.cell? ⟨m, 1, none⟩ = some (.pointer none) := m1
      replace m2 : W.cell? ⟨m, 2, none⟩ = some (.pointer (some ⟨d, 0, none⟩)) := m2
      have q2 := EO.out W d (HL.out d rfl) (.inl rfl)
      rw [show decide (k = d) = false from decide_eq_false (fun e => hd e.symm)] at q2
      obtain rfl | rfl | rfl := hs
      · go_enter Tryz.func155, Tryz.ntmps155
        go_wp2
        go_end0
        exact ⟨rfl, M2.out false false (F3.out 2 (by decide))⟩
      · go_enter Tryz.func155, Tryz.ntmps155
        go_wp2
        go_end0
        exact ⟨rfl, M3.out false false (F2.out 3 (by decide))⟩
      · go_enter Tryz.func155, Tryz.ntmps155
        go_wp2
        go_end0
        exact ⟨rfl, M4.out false false (F2.out 4 (by decide)) (F3.out 4 (by decide))⟩
  · obtain rfl | rfl | ⟨d, rfl, hd⟩ := pt_ways ol k
    · have A : Hid (decide (some k = some k) = true) := decide_eq_true rfl
      have B : Hid (decide ((none : Option Nat) = some k) = false) := rfl
      rw [A.out] at F2
      rw [B.out] at F3
      replace m1 : W.cell? ⟨m, 1, none⟩ = some (.pointer (some ⟨k, 0, none⟩)) := m1
      replace m2 : W.cell? ⟨m, 2, none⟩ = some (.pointer none) := m2
      have q1 := EO.out W k (HC.out k rfl) (.inl rfl)
      rw [show decide (k = k) = true from decide_eq_true rfl] at q1
      obtain rfl | rfl | rfl := hs
      · go_enter Tryz.func155, Tryz.ntmps155
        go_wp2
        go_end0
        exact ⟨rfl, M2.out true false (F3.out 2 (by decide))⟩
      · go_enter Tryz.func155, Tryz.ntmps155
        go_wp2
        go_end0
        exact ⟨rfl, M3.out true false (F2.out 3 (by decide))⟩
      · go_enter Tryz.func155, Tryz.ntmps155
        go_wp2
        go_end0
        exact ⟨rfl, M4.out true false (F2.out 4 (by decide)) (F3.out 4 (by decide))⟩
    · have A : Hid (decide (some k = some k) = true) := decide_eq_true rfl
      have B : Hid (decide (some k = some k) = true) := decide_eq_true rfl
      rw [A.out] at F2
      rw [B.out] at F3
      replace m1 : W.cell? ⟨m, 1, none⟩ = some (.pointer (some ⟨k, 0, none⟩)) := m1
      replace m2 : W.cell? ⟨m, 2, none⟩ = some (.pointer (some ⟨k, 0, none⟩)) := m2
      have q1 := EO.out W k (HC.out k rfl) (.inl rfl)
      rw [show decide (k = k) = true from decide_eq_true rfl] at q1
      have q2 := EO.out (W.setCell ⟨m, 1, none⟩ (.pointer none)) k (HL.out k rfl) (.inr rfl)
      rw [show decide (k = k) = true from decide_eq_true rfl] at q2
      obtain rfl | rfl | rfl := hs
      · go_enter Tryz.func155, Tryz.ntmps155
        go_wp2
        go_end0
        exact ⟨rfl, M2.out true true (F3.out 2 (by decide))⟩
      · go_enter Tryz.func155, Tryz.ntmps155
        go_wp2
        go_end0
        exact ⟨rfl, M3.out true true (F2.out 3 (by decide))⟩
      · go_enter Tryz.func155, Tryz.ntmps155
        go_wp2
        go_end0
        exact ⟨rfl, M4.out true true (F2.out 4 (by decide)) (F3.out 4 (by decide))⟩
    · have A : Hid (decide (some k = some k) = true) := decide_eq_true rfl
      have B : Hid (decide (some d = some k) = false) := decide_eq_false (fun e => hd (by cases e; rfl))
      rw [A.out] at F2
      rw [B.out] at F3
      replace m1 : W.cell? ⟨m, 1, none⟩ = some (.pointer (some ⟨k, 0, none⟩)) := m1
      replace m2 : W.cell? ⟨m, 2, none⟩ = some (.pointer (some ⟨d, 0, none⟩)) := m2
      have q1 := EO.out W k (HC.out k rfl) (.inl rfl)
      rw [show decide (k = k) = true from decide_eq_true rfl] at q1
      have q2 := EO.out (W.setCell ⟨m, 1, none⟩ (.pointer none)) d (HL.out d rfl) (.inr rfl)
      rw [show decide (k = d) = false from decide_eq_false (fun e => hd e.symm)] at q2
      obtain rfl | rfl | rfl := hs
      · go_enter Tryz.func155, Tryz.ntmps155
        go_wp2
        go_end0
        exact ⟨rfl, M2.out true false (F3.out 2 (by decide))⟩
      · go_enter Tryz.func155, Tryz.ntmps155
        go_wp2
        go_end0
        exact ⟨rfl, M3.out true false (F2.out 3 (by decide))⟩
      · go_enter Tryz.func155, Tryz.ntmps155
        go_wp2
        go_end0
        exact ⟨rfl, M4.out true false (F2.out 4 (by decide)) (F3.out 4 (by decide))⟩
  · obtain rfl | rfl | ⟨d, rfl, hd⟩ := pt_ways ol k
    · have A : Hid (decide (some c = some k) = false) := decide_eq_false (fun e => hc (by cases e; rfl))
      have B : Hid (decide ((none : Option Nat) = some k) = false) := rfl
      rw [A.out] at F2
      rw [B.out] at F3
      replace m1 : W.cell? ⟨m, 1, none⟩ = some (.pointer (some ⟨c, 0, none⟩)) := m1
      replace m2 : W.cell? ⟨m, 2, none⟩ = some (.pointer none) := m2
      have q1 := EO.out W c (HC.out c rfl) (.inl rfl)
      rw [show decide (k = c) = false from decide_eq_false (fun e => hc e.symm)] at q1
      obtain rfl | rfl | rfl := hs
      · go_enter Tryz.func155, Tryz.ntmps155
        go_wp2
        go_end0
        exact ⟨rfl, M2.out false false (F3.out 2 (by decide))⟩
      · go_enter Tryz.func155, Tryz.ntmps155
        go_wp2
        go_end0
        exact ⟨rfl, M3.out false false (F2.out 3 (by decide))⟩
      · go_enter Tryz.func155, Tryz.ntmps155
        go_wp2
        go_end0
        exact ⟨rfl, M4.out false false (F2.out 4 (by decide)) (F3.out 4 (by decide))⟩
    · have A : Hid (decide (some c = some k) = false) := decide_eq_false (fun e => hc (by cases e; rfl))
      have B : Hid (decide (some k = some k) = true) := decide_eq_true rfl
      rw [A.out] at F2
      rw [B.out] at F3
      replace m1 : W.cell? ⟨m, 1, none⟩ = some (.pointer (some ⟨c, 0, none⟩)) := m1
      replace m2 : W.cell? ⟨m, 2, none⟩ = some (.pointer (some ⟨k, 0, none⟩)) := m2
      have q1 := EO.out W c (HC.out c rfl) (.inl rfl)
      rw [show decide (k = c) = false from decide_eq_false (fun e => hc e.symm)] at q1
      have q2 := EO.out W k (HL.out k rfl) (.inl rfl)
      rw [show decide (k = k) = true from decide_eq_true rfl] at q2
      obtain rfl | rfl | rfl := hs
      · go_enter Tryz.func155, Tryz.ntmps155
        go_wp2
        go_end0
        exact ⟨rfl, M2.out false true (F3.out 2 (by decide))⟩
      · go_enter Tryz.func155, Tryz.ntmps155
        go_wp2
        go_end0
        exact ⟨rfl, M3.out false true (F2.out 3 (by decide))⟩
      · go_enter Tryz.func155, Tryz.ntmps155
        go_wp2
        go_end0
        exact ⟨rfl, M4.out false true (F2.out 4 (by decide)) (F3.out 4 (by decide))⟩
    · have A : Hid (decide (some c = some k) = false) := decide_eq_false (fun e => hc (by cases e; rfl))
      have B : Hid (decide (some d = some k) = false) := decide_eq_false (fun e => hd (by cases e; rfl))
      rw [A.out] at F2
      rw [B.out] at F3
      replace m1 : W.cell? ⟨m, 1, none⟩ = some (.pointer (some ⟨c, 0, none⟩)) := m1
      replace m2 : W.cell? ⟨m, 2, none⟩ = some (.pointer (some ⟨d, 0, none⟩)) := m2
      have q1 := EO.out W c (HC.out c rfl) (.inl rfl)
      rw [show decide (k = c) = false from decide_eq_false (fun e => hc e.symm)] at q1
      have q2 := EO.out W d (HL.out d rfl) (.inl rfl)
      rw [show decide (k = d) = false from decide_eq_false (fun e => hd e.symm)] at q2
      obtain rfl | rfl | rfl := hs
      · go_enter Tryz.func155, Tryz.ntmps155
        go_wp2
        go_end0
        exact ⟨rfl, M2.out false false (F3.out 2 (by decide))⟩
      · go_enter Tryz.func155, Tryz.ntmps155
        go_wp2
        go_end0
        exact ⟨rfl, M3.out false false (F2.out 3 (by decide))⟩
      · go_enter Tryz.func155, Tryz.ntmps155
        go_wp2
        go_end0
        exact ⟨rfl, M4.out false false (F2.out 4 (by decide)) (F3.out 4 (by decide))⟩
end Go.Proofs.YtiggkjkjfnlfkaaGreatDoor
