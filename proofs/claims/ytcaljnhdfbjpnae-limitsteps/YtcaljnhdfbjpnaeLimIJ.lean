/-
  Several texts as one: IntClone, LimTi, LimRi.
-/
import Derived.Test.YtcaljnhdfbjpnaeNodes
import Derived.Lib.SliceRun
import Derived.OwnWalk
import Derived.Test.YtcaljnhdfbjpnaeSpans
import Derived.Test.YtcaljnhdfbjpnaeLMathB
import Derived.RegionTactic
namespace Go.Proofs.Ytcaljnhdfbjpnae
open Go.ChangeShapes Go.WideShapes Go.ChangeAt Go.RowKit Go.Lib
set_option linter.unusedVariables false

set_option maxHeartbeats 1000000 in
set_option maxRecDepth 10000 in
theorem clone_new (b off c : Nat) (xs : List Int) (w : World) (hc : ∀ i, i < xs.length → w.cell? ⟨b, off + i, none⟩ = some (.int .i64 (xs.getD i 0))) (h63 : xs.length ≤ 1000000) (hb : b < w.heap.size) :
    Calls Try.prog 19 #[.slice (some ⟨b, off, none⟩) xs.length c] w fun e w' => ∃ v, e = .returned v ∧ w'.ownsRow w.heap.size 3 1 v xs.length (xs.map (Value.int .i64)) ∧ Below w.heap.size w w' := by
  obtain ⟨i0, hi, hz0, hz1, hz2⟩ := info_parts info3
  have SR := hide (src_cells hc)
  have S2 : Hid (∀ o, ∀ j u, (xs.map (Value.int .i64))[j]? = some u → (w.alloc o).cell? ((⟨b, off, none⟩ : Addr).add j) = some u) := fun o j u hj => by
    have := SR.out j u hj
    rw [add_flat] at this ⊢
    exact (((Below.refl w.heap.size w).alloc (Nat.le_refl _) o).cell (p := ⟨b, off + j, none⟩) hb).trans this
  have q22 : ∀ (w : World) (a : Option Addr) (n c n' c' : Nat), (binOp .eql 23 (.slice a n c) (.slice none n' c')).run Try.prog w = .ok (.bool a.isNone) w := fun w a n c n' c' => Lib.run_eql_slice_nil w _ _ a n c n' c' Try.underlying23
  clear hc SR
  go_enter Try.func19, Try.ntmps19
  go_wp2_with (at_builtin; (refine wpList_append_own _ rfl (.tmp 5) (.tmp 6) 23 rfl w.heap.size 3 i0 (.int .i64 0) 1 8 Try.underlying23 hi hz0 hz1 hz2 rfl (by decide) _ 0 [] rfl (World.ownsRow_made w #[] 0 (Nat.le_refl _) (Nat.zero_le _) (by simp)) ⟨b, off, none⟩ xs.length c (xs.map (Value.int .i64)) rfl (by simp) (S2.out _) (one_cells xs) (by unfold maxLen; omega) (by omega) (by simp) ?_); intro v' w1 hown hgrow hnil)
  have hb1 : Below w.heap.size w w1 := ((RowKit.Below.refl _ w).alloc (Nat.le_refl _) _).grown hgrow (by simp) (fun k hk => by cases hk; exact Nat.le_refl _)
  have HO := hide hown
  clear hown hgrow hnil
  go_wp2
  go_ret
  have h := HO.out
  rw [Nat.zero_add, List.nil_append] at h
  exact ⟨_, rfl, h, hb1⟩
theorem clone_ints (b off c : Nat) (xs : List Int) (w : World) (hc : ∀ i, i < xs.length → w.cell? ⟨b, off + i, none⟩ = some (.int .i64 (xs.getD i 0))) (h63 : xs.length ≤ 1000000) (hb : b < w.heap.size) :
    Calls Try.prog 19 #[.slice (some ⟨b, off, none⟩) xs.length c] w fun e w' => ∃ a cap, e = .returned (.slice a xs.length cap) ∧ Rd w' a xs ∧ (∀ p, a = some p → w.heap.size ≤ p.block) ∧ Below w.heap.size w w' := by
  refine (clone_new b off c xs w hc h63 hb).mono ?_
  rintro e w' ⟨v, rfl, h, hb1⟩
  obtain ⟨a, cap, e, hr, _⟩ := own_rd h
  subst e
  refine ⟨a, cap, rfl, hr, fun p hp => ?_, hb1⟩
  subst hp
  exact (h.lt p.block rfl).1

end Go.Proofs.Ytcaljnhdfbjpnae

namespace Go.Proofs.Ytcaljnhdfbjpnae
open Go.ChangeShapes Go.WideShapes Go.ChangeAt Go.RowKit Go.Lib
set_option linter.unusedVariables false

/-- what the closure finds: the least and the greatest so far, each in a block of its own -/
structure TI (w : World) (B p q : Nat) (s : M.EndsS) (W : World) : Prop where
  c0 : W.cell? ⟨p, 0, none⟩ = some (.int .i64 (M.loS s))
  c1 : W.cell? ⟨q, 0, none⟩ = some (.int .i64 (M.hiS s))
  f0 : W.frozen? ⟨p, 0, none⟩ = false
  f1 : W.frozen? ⟨q, 0, none⟩ = false
  size : B ≤ W.heap.size
  below : Below w.heap.size w W
theorem TI.up {w : World} {B p q : Nat} {s : M.EndsS} {W W' : World} (h : TI w B p q s W) (hp : p < B) (hq : q < B) (hb : Below W.heap.size W W') : TI w B p q s W' := by
  have hs := h.size
  exact ⟨(hb.cell (p := ⟨p, 0, none⟩) (show p < _ by omega)).trans h.c0, (hb.cell (p := ⟨q, 0, none⟩) (show q < _ by omega)).trans h.c1, (hb.frozen (p := ⟨p, 0, none⟩) (show p < _ by omega)).trans h.f0, (hb.frozen (p := ⟨q, 0, none⟩) (show q < _ by omega)).trans h.f1, Nat.le_trans hs hb.size, below_on h.below hb⟩
theorem far_cell' {W : World} {p q o o' : Nat} {v : Value} (h : p ≠ q) : (W.setCell ⟨p, o, none⟩ v).cell? ⟨q, o', none⟩ = W.cell? ⟨q, o', none⟩ := World.cell?_setCell_other _ _ _ _ (by intro e; cases e; exact h rfl)
/-- what lies from a block on is as it was -/
def Far (B : Nat) (W W' : World) : Prop := W.heap.size ≤ W'.heap.size ∧ ∀ b o, B ≤ b → b < W.heap.size → W'.cell? ⟨b, o, none⟩ = W.cell? ⟨b, o, none⟩
theorem Far.refl (B : Nat) (W : World) : Far B W W := ⟨Nat.le_refl _, fun _ _ _ _ => rfl⟩
theorem Far.trans {B : Nat} {W1 W2 W3 : World} (h1 : Far B W1 W2) (h2 : Far B W2 W3) : Far B W1 W3 := ⟨Nat.le_trans h1.1 h2.1, fun b o hb hl => (h2.2 b o hb (Nat.lt_of_lt_of_le hl h1.1)).trans (h1.2 b o hb hl)⟩
theorem Far.set (B : Nat) (W : World) {p o : Nat} (hp : p < B) (v : Value) : Far B W (W.setCell ⟨p, o, none⟩ v) := ⟨by simp, fun b o' hb _ => far_cell' (by omega)⟩
theorem Far.of {B : Nat} {W W' : World} (h : Below W.heap.size W W') : Far B W W' := ⟨h.size, fun b o _ hl => h.cell (p := ⟨b, o, none⟩) hl⟩
theorem Far.drew {B : Nat} {W W' : World} (h : Far B W W') : Far B W W'.drew := h
theorem Rd.far {B : Nat} {W W' : World} {ra : Option Addr} {L : List Int} (h : Rd W ra L) (hB : ∀ x, ra = some x → B ≤ x.block) (hf : Far B W W') : Rd W' ra L := by
  refine ⟨h.1, fun hn => ?_⟩
  obtain ⟨b, off, rfl, hb, hc⟩ := h.2 hn
  exact ⟨b, off, rfl, Nat.lt_of_lt_of_le hb hf.1, fun i hi => (hf.2 b _ (hB _ rfl) hb).trans (hc i hi)⟩
theorem TI.more {w : World} {B p q : Nat} {s s' : M.EndsS} {W : World} (h : TI w B p q s W) (hpq : p ≠ q) (hp : w.heap.size ≤ p) (hq : w.heap.size ≤ q) : TI w B p q s' ((W.setCell ⟨p, 0, none⟩ (.int .i64 (M.loS s'))).setCell ⟨q, 0, none⟩ (.int .i64 (M.hiS s'))) := by
  refine ⟨?_, ?_, ?_, ?_, ?_, ?_⟩
  · rw [far_cell' (fun e => hpq e.symm)]; exact World.cell?_setCell_same _ _ _ h.c0
  · exact World.cell?_setCell_same (u := .int .i64 (M.hiS s)) _ _ _ (by rw [far_cell' hpq]; exact h.c1)
  · simpa using h.f0
  · simpa using h.f1
  · simpa using h.size
  · exact (h.below.setCell (p := ⟨p, 0, none⟩) hp _).setCell (p := ⟨q, 0, none⟩) hq _
theorem TI.drew {w : World} {B p q : Nat} {s : M.EndsS} {W : World} (h : TI w B p q s W) : TI w B p q s W.drew := ⟨h.c0, h.c1, h.f0, h.f1, h.size, h.below.drew⟩

set_option maxHeartbeats 2000000 in
theorem tree1_any (w : World) (B p q : Nat) (s : M.EndsS) (v : Int) (P : List Int) (pa : Option Addr) (pc : Nat) (W : World) (h : TI w B p q s W) (hp : p < B) (hq : q < B) (hpq : p ≠ q) (gp : w.heap.size ≤ p) (gq : w.heap.size ≤ q) (v0 : -1000000 ≤ v) (v1 : v ≤ 1000000) :
    Calls Try.prog 17 #[.int .i64 v, .slice pa P.length pc, .pointer (some ⟨p, 0, none⟩), .pointer (some ⟨q, 0, none⟩)] W fun e w' => e = .returned (.tuple #[]) ∧ TI w B p q (M.endS s v P) w' ∧ Far B W w' := by
  have c0 := h.c0
  have c1 := h.c1
  have f0 := h.f0
  have f1 := h.f1
  have EL := hide (M.lo_more (s := s) (p := P) v1)
  have EH := hide (M.hi_more (s := s) (p := P) v0)
  have MO := hide (h.more (s' := M.endS s v P) hpq gp gq)
  clear h
  generalize M.loS s = lo at *
  generalize M.hiS s = hi at *
  go_enter Try.func17, Try.ntmps17
  go_region
  go_end0
  have := MO.out
  rw [EL.out, EH.out] at this
  exact ⟨rfl, this.drew, ((Far.set B W hp _).trans (Far.set B _ hq _)).drew⟩

end Go.Proofs.Ytcaljnhdfbjpnae

namespace Go.Proofs.Ytcaljnhdfbjpnae
open Go.ChangeShapes Go.WideShapes Go.ChangeAt Go.RowKit Go.Lib
set_option linter.unusedVariables false

/-- four blocks, apart from one another -/
structure Apart (n B p a q b : Nat) : Prop where
  pa : p ≠ a
  pq : p ≠ q
  pb : p ≠ b
  aq : a ≠ q
  ab : a ≠ b
  qb : q ≠ b
  lp : p < B
  la : a < B
  lq : q < B
  lb : b < B
  gp : n ≤ p
  ga : n ≤ a
  gq : n ≤ q
  gb : n ≤ b
/-- a row whose slice lies in a block, its numbers further on -/
def RowAt (W : World) (B a : Nat) (L : List Int) : Prop := ∃ ra rc, W.cell? ⟨a, 0, none⟩ = some (.slice ra L.length rc) ∧ Rd W ra L ∧ (∀ x, ra = some x → B ≤ x.block)
theorem rd_far {W : World} {B p : Nat} {ra : Option Addr} {L : List Int} {v : Value} (h : Rd W ra L) (hB : ∀ x, ra = some x → B ≤ x.block) (hp : p < B) : Rd (W.setCell ⟨p, 0, none⟩ v) ra L := by
  refine ⟨h.1, fun hn => ?_⟩
  obtain ⟨b, off, rfl, hb, hc⟩ := h.2 hn
  have hB' : B ≤ b := hB _ rfl
  exact ⟨b, off, rfl, by simpa using hb, fun i hi => by rw [far_cell' (by omega)]; exact hc i hi⟩
theorem RowAt.far {W : World} {B a p : Nat} {L : List Int} {v : Value} (h : RowAt W B a L) (hpa : p ≠ a) (hp : p < B) : RowAt (W.setCell ⟨p, 0, none⟩ v) B a L := by
  obtain ⟨ra, rc, h1, h2, h3⟩ := h
  exact ⟨ra, rc, by rw [far_cell' hpa]; exact h1, rd_far h2 h3 hp, h3⟩
theorem RowAt.up {W W' : World} {B a : Nat} {L : List Int} (h : RowAt W B a L) (ha : a < W.heap.size) (hb : Below W.heap.size W W') : RowAt W' B a L := by
  obtain ⟨ra, rc, h1, h2, h3⟩ := h
  exact ⟨ra, rc, (hb.cell (p := ⟨a, 0, none⟩) ha).trans h1, h2.below hb, h3⟩
theorem RowAt.put {W : World} {B a : Nat} {L : List Int} {u : Value} {ra : Option Addr} {rc : Nat} (hu : W.cell? ⟨a, 0, none⟩ = some u) (ha : a < B) (h : Rd W ra L) (h3 : ∀ x, ra = some x → B ≤ x.block) : RowAt (W.setCell ⟨a, 0, none⟩ (.slice ra L.length rc)) B a L :=
  ⟨ra, rc, World.cell?_setCell_same _ _ _ hu, rd_far h h3 ha, h3⟩

/-- what the closure finds -/
structure RJ (w : World) (B p a q b : Nat) (lo hi : Int) (A C : List Int) (W : World) : Prop where
  c0 : W.cell? ⟨p, 0, none⟩ = some (.int .i64 lo)
  c1 : W.cell? ⟨q, 0, none⟩ = some (.int .i64 hi)
  c2 : RowAt W B a A
  c3 : RowAt W B b C
  f0 : W.frozen? ⟨p, 0, none⟩ = false
  f1 : W.frozen? ⟨q, 0, none⟩ = false
  f2 : W.frozen? ⟨a, 0, none⟩ = false
  f3 : W.frozen? ⟨b, 0, none⟩ = false
  size : B ≤ W.heap.size
  below : Below w.heap.size w W
theorem RJ.up {w : World} {B p a q b : Nat} {lo hi : Int} {A C : List Int} {W W' : World} (h : RJ w B p a q b lo hi A C W) (K : Apart w.heap.size B p a q b) (hb : Below W.heap.size W W') : RJ w B p a q b lo hi A C W' := by
  have hs := h.size
  have lp := K.lp
  have la := K.la
  have lq := K.lq
  have lb := K.lb
  exact ⟨(hb.cell (p := ⟨p, 0, none⟩) (show p < _ by omega)).trans h.c0, (hb.cell (p := ⟨q, 0, none⟩) (show q < _ by omega)).trans h.c1, h.c2.up (by omega) hb, h.c3.up (by omega) hb,
    (hb.frozen (p := ⟨p, 0, none⟩) (show p < _ by omega)).trans h.f0, (hb.frozen (p := ⟨q, 0, none⟩) (show q < _ by omega)).trans h.f1, (hb.frozen (p := ⟨a, 0, none⟩) (show a < _ by omega)).trans h.f2, (hb.frozen (p := ⟨b, 0, none⟩) (show b < _ by omega)).trans h.f3, Nat.le_trans hs hb.size, below_on h.below hb⟩
theorem RJ.low {w : World} {B p a q b : Nat} {lo hi v : Int} {A C P : List Int} {W : World} {ra : Option Addr} {rc : Nat} (h : RJ w B p a q b lo hi A C W) (K : Apart w.heap.size B p a q b) (hr : Rd W ra P) (rB : ∀ x, ra = some x → B ≤ x.block) :
    RJ w B p a q b v hi P C ((W.setCell ⟨p, 0, none⟩ (.int .i64 v)).setCell ⟨a, 0, none⟩ (.slice ra P.length rc)) := by
  obtain ⟨u, uc, u1, _⟩ := h.c2
  refine ⟨?_, ?_, ?_, ?_, ?_, ?_, ?_, ?_, ?_, ?_⟩
  · rw [far_cell' (fun e => K.pa e.symm)]; exact World.cell?_setCell_same _ _ _ h.c0
  · rw [far_cell' K.aq, far_cell' K.pq]; exact h.c1
  · exact RowAt.put (u := .slice u A.length uc) (by rw [far_cell' K.pa]; exact u1) K.la (rd_far hr rB K.lp) rB
  · exact (h.c3.far K.pb K.lp).far K.ab K.la
  · simpa using h.f0
  · simpa using h.f1
  · simpa using h.f2
  · simpa using h.f3
  · simpa using h.size
  · exact (h.below.setCell (p := ⟨p, 0, none⟩) K.gp _).setCell (p := ⟨a, 0, none⟩) K.ga _
theorem RJ.high {w : World} {B p a q b : Nat} {lo hi v : Int} {A C P : List Int} {W : World} {ra : Option Addr} {rc : Nat} (h : RJ w B p a q b lo hi A C W) (K : Apart w.heap.size B p a q b) (hr : Rd W ra P) (rB : ∀ x, ra = some x → B ≤ x.block) :
    RJ w B p a q b lo v A P ((W.setCell ⟨q, 0, none⟩ (.int .i64 v)).setCell ⟨b, 0, none⟩ (.slice ra P.length rc)) := by
  obtain ⟨u, uc, u1, _⟩ := h.c3
  refine ⟨?_, ?_, ?_, ?_, ?_, ?_, ?_, ?_, ?_, ?_⟩
  · rw [far_cell' (fun e => K.pb e.symm), far_cell' (fun e => K.pq e.symm)]; exact h.c0
  · rw [far_cell' (fun e => K.qb e.symm)]; exact World.cell?_setCell_same _ _ _ h.c1
  · exact (h.c2.far (fun e => K.aq e.symm) K.lq).far (fun e => K.ab e.symm) K.lb
  · exact RowAt.put (u := .slice u C.length uc) (by rw [far_cell' K.qb]; exact u1) K.lb (rd_far hr rB K.lq) rB
  · simpa using h.f0
  · simpa using h.f1
  · simpa using h.f2
  · simpa using h.f3
  · simpa using h.size
  · exact (h.below.setCell (p := ⟨q, 0, none⟩) K.gq _).setCell (p := ⟨b, 0, none⟩) K.gb _
abbrev RI (w : World) (B p a q b : Nat) (s : M.EndsS) (W : World) : Prop := RJ w B p a q b (M.loS s) (M.hiS s) s.2.2.2.1 s.2.2.2.2 W

set_option maxHeartbeats 4000000 in
set_option maxRecDepth 10000 in
theorem rows1_any (w : World) (B p a q b : Nat) (s : M.EndsS) (v : Int) (P : List Int) (rb rc : Nat) (W : World) (h : RI w B p a q b s W) (K : Apart w.heap.size B p a q b) (hr : Rd W (some ⟨rb, 0, none⟩) P) (rB : B ≤ rb) (rs : rb < W.heap.size) (p8 : P.length ≤ 8) (v0 : -1000000 ≤ v) (v1 : v ≤ 1000000) :
    Calls Try.prog 18 #[.int .i64 v, .slice (some ⟨rb, 0, none⟩) P.length rc, .pointer (some ⟨p, 0, none⟩), .pointer (some ⟨a, 0, none⟩), .pointer (some ⟨q, 0, none⟩), .pointer (some ⟨b, 0, none⟩)] W fun e w' => e = .returned (.tuple #[]) ∧ RI w B p a q b (M.endS s v P) w' ∧ Far B W w' := by
  have RB : Hid (∀ x, (some ⟨rb, 0, none⟩ : Option Addr) = some x → B ≤ x.block) := fun x hx => by cases hx; exact rB
  have CL : Hid (∀ W', Rd W' (some ⟨rb, 0, none⟩) P → rb < W'.heap.size → Calls Try.prog 19 #[.slice (some ⟨rb, 0, none⟩) P.length rc] W' fun e w' => ∃ a cap, e = .returned (.slice a P.length cap) ∧ Rd w' a P ∧ (∀ p, a = some p → W'.heap.size ≤ p.block) ∧ Below W'.heap.size W' w') := fun W' h' hs => by
    refine clone_ints rb 0 rc P W' (fun i hi => ?_) (by omega) hs
    obtain ⟨b', off, e, _, hc⟩ := h'.2 (by intro e; rw [e] at hi; simp at hi)
    cases e
    exact hc i hi
  have EL := M.lo_more (s := s) (p := P) v1
  have EH := M.hi_more (s := s) (p := P) v0
  have EA := M.rowA_more (s := s) (p := P) v1
  have EC := M.rowB_more (s := s) (p := P) v0
  show Calls _ _ _ _ fun e w' => e = .returned (.tuple #[]) ∧ RJ w B p a q b (M.loS (M.endS s v P)) (M.hiS (M.endS s v P)) (M.endS s v P).2.2.2.1 (M.endS s v P).2.2.2.2 w' ∧ Far B W w'
  rw [EL, EH, EA, EC]
  have H0 : Hid (RJ w B p a q b (M.loS s) (M.hiS s) s.2.2.2.1 s.2.2.2.2 W) := h
  clear EL EH EA EC h
  generalize M.loS s = lo at *
  generalize M.hiS s = hi at *
  generalize s.2.2.2.1 = A at *
  generalize s.2.2.2.2 = C at *
  have KK := hide K
  have HR := hide hr
  have RS := hide rs
  have lp := K.lp
  have la := K.la
  have lq := K.lq
  have lb := K.lb
  have e1 := K.pa
  have e2 := K.pq
  have e3 := K.pb
  have e4 := K.aq
  have e5 := K.ab
  have e6 := K.qb
  have c0 := H0.out.c0
  have c1 := H0.out.c1
  have f0 := H0.out.f0
  have f1 := H0.out.f1
  have f2 := H0.out.f2
  have f3 := H0.out.f3
  obtain ⟨ua, uc, c2, _⟩ := H0.out.c2
  obtain ⟨xa, xc, c3, _⟩ := H0.out.c3
  have sz := H0.out.size
  by_cases hl : v < lo
  · have q1 : decide (v < lo) = true := decide_eq_true hl
    rw [if_pos hl, if_pos hl]
    have H1 := hide (H0.out.low (v := v) (rc := rc) K hr RB.out)
    have c1' := H1.out.c1
    have R1 : Hid (Rd ((W.setCell ⟨p, 0, none⟩ (.int .i64 v)).setCell ⟨a, 0, none⟩ (.slice (some ⟨rb, 0, none⟩) P.length rc)) (some ⟨rb, 0, none⟩) P) := rd_far (rd_far hr RB.out lp) RB.out la
    have S1 : Hid (rb < ((W.setCell ⟨p, 0, none⟩ (.int .i64 v)).setCell ⟨a, 0, none⟩ (.slice (some ⟨rb, 0, none⟩) P.length rc)).heap.size) := by unfold Hid; simpa using rs
    by_cases hh : hi < v
    · have q2 : decide (hi < v) = true := decide_eq_true hh
      rw [if_pos hh, if_pos hh]
      clear K hr rs hl hh
      go_enter Try.func18, Try.ntmps18
      go_wp2_with (go_at_call 19; refine (CL.out _ R1.out S1.out).mono ?_; rintro e w2 ⟨g, cap, rfl, g1, g2, g3⟩; have H2 := hide (H1.out.up KK.out g3); have d0 := H2.out.c1; have d1 := H2.out.f1; have d2 := H2.out.f3; obtain ⟨xa2, xc2, d3, _⟩ := H2.out.c3; have G1 := hide g1; have G2 := hide g2; have G3 := hide g3; clear g1 g2 g3)
      go_end0
      exact ⟨rfl, H2.out.high KK.out G1.out (fun x hx => Nat.le_trans H1.out.size (G2.out x hx)), (((Far.set B W lp _).trans (Far.set B _ la _)).trans (Far.of G3.out)).trans ((Far.set B _ lq _).trans (Far.set B _ lb _))⟩
    · have q2 : decide (hi < v) = false := decide_eq_false hh
      rw [if_neg hh, if_neg hh]
      clear K hr rs hl hh
      go_enter Try.func18, Try.ntmps18
      go_wp2
      go_end0
      exact ⟨rfl, H1.out, (Far.set B W lp _).trans (Far.set B _ la _)⟩
  · have q1 : decide (v < lo) = false := decide_eq_false hl
    rw [if_neg hl, if_neg hl]
    by_cases hh : hi < v
    · have q2 : decide (hi < v) = true := decide_eq_true hh
      rw [if_pos hh, if_pos hh]
      clear K hr rs hl hh
      go_enter Try.func18, Try.ntmps18
      go_wp2_with (go_at_call 19; refine (CL.out _ HR.out RS.out).mono ?_; rintro e w2 ⟨g, cap, rfl, g1, g2, g3⟩; have H2 := hide (H0.out.up KK.out g3); have d0 := H2.out.c1; have d1 := H2.out.f1; have d2 := H2.out.f3; obtain ⟨xa2, xc2, d3, _⟩ := H2.out.c3; have G1 := hide g1; have G2 := hide g2; have G3 := hide g3; clear g1 g2 g3)
      go_end0
      exact ⟨rfl, H2.out.high KK.out G1.out (fun x hx => Nat.le_trans H0.out.size (G2.out x hx)), (Far.of G3.out).trans ((Far.set B _ lq _).trans (Far.set B _ lb _))⟩
    · have q2 : decide (hi < v) = false := decide_eq_false hh
      rw [if_neg hh, if_neg hh]
      clear K hr rs hl hh
      go_enter Try.func18, Try.ntmps18
      go_wp2
      go_end0
      exact ⟨rfl, H0.out, Far.refl _ _⟩

end Go.Proofs.Ytcaljnhdfbjpnae
