/-
  Several texts as one: NdClone, IntClone, PShort.
-/
import Derived.Test.YtelncekgjfpogahGreatDoorRunT6
import Derived.Lib.SliceRun
import Derived.OwnWalk
import Derived.Deep.AppendLies
import Derived.Test.YtelncekgjfpogahGreatDoorRunT4
import Derived.Test.YtelncekgjfpogahGreatDoorRunT10
import Derived.Test.YtelncekgjfpogahGreatDoorRunT8
import Derived.Deep.RegionWith
import Derived.Deep.RegionHeld3
import Derived.Deep.QuietTactic
import Derived.BigQuiet
import Derived.Deep.WholeRow
namespace Go.Proofs.YtelncekgjfpogahGreatDoor
open Go.ChangeShapes Go.WideShapes Go.ChangeAt Go.RowKit Go.Lib
set_option linter.unusedVariables false
set_option maxHeartbeats 1000000 in
set_option maxRecDepth 10000 in
theorem clone_own (b off c : Nat) (ts : List M.Nd) (w : World) (hc : ∀ i, i < ts.length → SixAt w b (off + i * 6) (M.nAt ts i)) (h63 : ts.length ≤ 63) (h0 : 0 < ts.length) (hb : b < w.heap.size) :
 Calls Tryz.prog 105 #[.slice (some ⟨b, off, none⟩) ts.length c] w fun e w' => ∃ g cap, e = .returned (.slice (some ⟨g, 0, none⟩) ts.length cap) ∧ w'.ownsRow w.heap.size 86 6 (.slice (some ⟨g, 0, none⟩) ts.length cap) ts.length (ndCells ts) ∧ Below w.heap.size w w' := by
 obtain ⟨i0, hi, hz0, hz1, hz2⟩ := info_parts infoN
 have SR := hide (nd_src hc)
 have S2 : Hid (∀ o, ∀ j u, (ndCells ts)[j]? = some u → (w.alloc o).cell? ((⟨b, off, none⟩ : Addr).add j) = some u) := fun o j u hj => by
  have := SR.out j u hj
  rw [add_flat] at this ⊢
  exact (((Below.refl w.heap.size w).alloc (Nat.le_refl _) o).cell (p := ⟨b, off + j, none⟩) hb).trans this
 have q22 : ∀ (w : World) (a : Option Addr) (n c n' c' : Nat), (binOp .eql 66 (.slice a n c) (.slice none n' c')).run Tryz.prog w = .ok (.bool a.isNone) w := fun w a n c n' c' => Lib.run_eql_slice_nil w _ _ a n c n' c' Tryz.underlying66
 clear hc SR
 go_enter Tryz.func105, Tryz.ntmps105
 go_wp2_with (at_builtin; (refine wpList_append_own _ rfl (.tmp 5) (.tmp 6) 66 rfl w.heap.size 86 i0 (.agg #[.int .i64 0, .int .i64 0, .int .i64 0, .int .i64 0, .bool false, .int .i64 0]) 6 48 Tryz.underlying66 hi hz0 hz1 hz2 (by simp [Value.cells]) (by decide) _ 0 [] rfl (World.ownsRow_made w #[] 0 (Nat.le_refl _) (Nat.zero_le _) (by simp)) ⟨b, off, none⟩ ts.length c (ndCells ts) rfl (ndCells_len ts) (S2.out _) (ndCells_one ts) (by unfold maxLen; omega) (by omega) (by simp) ?_); intro v' w1 hown hgrow hnil)
 have hb1 : Below w.heap.size w w1 := ((RowKit.Below.refl _ w).alloc (Nat.le_refl _) _).grown hgrow (by simp) (fun k hk => by cases hk; exact Nat.le_refl _)
 have HO := hide hown
 clear hown hgrow hnil
 go_wp2
 go_ret
 have h := HO.out
 rw [Nat.zero_add, List.nil_append] at h
 obtain ⟨g, cap, e, _, _⟩ := h.form h0
 subst e
 exact ⟨g, cap, rfl, h, hb1⟩
set_option maxHeartbeats 1000000 in
set_option maxRecDepth 10000 in
theorem clone_new (b off c : Nat) (xs : List Int) (w : World) (hc : ∀ i, i < xs.length → w.cell? ⟨b, off + i, none⟩ = some (.int .i64 (xs.getD i 0))) (h63 : xs.length ≤ 1000000) (hb : b < w.heap.size) :
 Calls Tryz.prog 29 #[.slice (some ⟨b, off, none⟩) xs.length c] w fun e w' => ∃ v, e = .returned v ∧ w'.ownsRow w.heap.size 3 1 v xs.length (xs.map (Value.int .i64)) ∧ Below w.heap.size w w' := by
 obtain ⟨i0, hi, hz0, hz1, hz2⟩ := info_parts info3
 have SR := hide (src_cells hc)
 have S2 : Hid (∀ o, ∀ j u, (xs.map (Value.int .i64))[j]? = some u → (w.alloc o).cell? ((⟨b, off, none⟩ : Addr).add j) = some u) := fun o j u hj => by
  have := SR.out j u hj
  rw [add_flat] at this ⊢
  exact (((Below.refl w.heap.size w).alloc (Nat.le_refl _) o).cell (p := ⟨b, off + j, none⟩) hb).trans this
 have q22 : ∀ (w : World) (a : Option Addr) (n c n' c' : Nat), (binOp .eql 23 (.slice a n c) (.slice none n' c')).run Tryz.prog w = .ok (.bool a.isNone) w := fun w a n c n' c' => Lib.run_eql_slice_nil w _ _ a n c n' c' Tryz.underlying23
 clear hc SR
 go_enter Tryz.func29, Tryz.ntmps29
 go_wp2_with (at_builtin; (refine wpList_append_own _ rfl (.tmp 5) (.tmp 6) 23 rfl w.heap.size 3 i0 (.int .i64 0) 1 8 Tryz.underlying23 hi hz0 hz1 hz2 rfl (by decide) _ 0 [] rfl (World.ownsRow_made w #[] 0 (Nat.le_refl _) (Nat.zero_le _) (by simp)) ⟨b, off, none⟩ xs.length c (xs.map (Value.int .i64)) rfl (by simp) (S2.out _) (one_cells xs) (by unfold maxLen; omega) (by omega) (by simp) ?_); intro v' w1 hown hgrow hnil)
 have hb1 : Below w.heap.size w w1 := ((RowKit.Below.refl _ w).alloc (Nat.le_refl _) _).grown hgrow (by simp) (fun k hk => by cases hk; exact Nat.le_refl _)
 have HO := hide hown
 clear hown hgrow hnil
 go_wp2
 go_ret
 have h := HO.out
 rw [Nat.zero_add, List.nil_append] at h
 exact ⟨_, rfl, h, hb1⟩
theorem clone_ints (b off c : Nat) (xs : List Int) (w : World) (hc : ∀ i, i < xs.length → w.cell? ⟨b, off + i, none⟩ = some (.int .i64 (xs.getD i 0))) (h63 : xs.length ≤ 1000000) (hb : b < w.heap.size) :
 Calls Tryz.prog 29 #[.slice (some ⟨b, off, none⟩) xs.length c] w fun e w' => ∃ a cap, e = .returned (.slice a xs.length cap) ∧ Rd w' a xs ∧ (∀ p, a = some p → w.heap.size ≤ p.block) ∧ Below w.heap.size w w' := by
 refine (clone_new b off c xs w hc h63 hb).mono ?_
 rintro e w' ⟨v, rfl, h, hb1⟩
 obtain ⟨a, cap, e, hr, _⟩ := own_rd h
 subst e
 refine ⟨a, cap, rfl, hr, fun p hp => ?_, hb1⟩
 subst hp
 exact (h.lt p.block rfl).1
def M.sameB (a b : M.Nd) : Bool := decide (M.nf a = -1 ∧ M.nf b = -1 ∧ M.nv a = M.nv b)
set_option maxHeartbeats 1000000 in
theorem same_any (x y : M.Nd) (w : World) : Calls Tryz.prog 107 #[ndV x, ndV y] w fun e w' => e = .returned (.bool (M.sameB x y)) ∧ Below w.heap.size w w' := by
 have B2 : Hid (∀ o1 o2, Below w.heap.size w ((w.alloc o1).alloc o2)) := fun o1 o2 => ((Below.refl _ w).alloc (Nat.le_refl _) o1).alloc (by simp) o2
 have E : Hid (((M.nf x == -1) && (M.nf y == -1) && (M.nv x == M.nv y)) = M.sameB x y) := by
  unfold Hid M.sameB
  by_cases h1 : M.nf x = -1 <;> by_cases h2 : M.nf y = -1 <;> by_cases h3 : M.nv x = M.nv y <;> simp [h1, h2, h3]
 unfold ndV
 generalize M.sameB x y = o at *
 generalize M.nf x = xf at *
 generalize M.nf y = yf at *
 generalize M.nv x = xv at *
 generalize M.nv y = yv at *
 cases t1 : (xf == -1) with
 | false =>
   go_enter Tryz.func107, Tryz.ntmps107
   go_wp2
   go_ret
   exact ⟨by rw [← E.out, t1]; rfl, B2.out _ _⟩
 | true =>
   cases t2 : (yf == -1) with
   | false =>
     go_enter Tryz.func107, Tryz.ntmps107
     go_wp2
     go_ret
     exact ⟨by rw [← E.out, t1, t2]; rfl, B2.out _ _⟩
   | true =>
     go_enter Tryz.func107, Tryz.ntmps107
     go_wp2
     go_ret
     exact ⟨by rw [← E.out, t1, t2]; rfl, B2.out _ _⟩
theorem own_apart {w : World} {base n e size p o : Nat} {v x : Value} {l : List Value} (h : w.ownsRow base e size v n l) (hp : v.ownBlock ≠ some p) : (w.setCell ⟨p, o, none⟩ x).ownsRow base e size v n l := by
 refine ⟨h.1, ?_⟩
 rcases h.2 with h0 | ⟨g, cap, cur, hv, h1, h2, h3⟩
 · exact .inl h0
 · refine .inr ⟨g, cap, cur, hv, h1, ?_, h3⟩
   rw [← h2]
   have : ¬ p = g := fun e => hp (by rw [hv, e]; rfl)
   simp [World.setCell, Array.getElem?_modify, this]
theorem Arr.apart {w : World} {B g p o : Nat} {F : List Int} {x : Value} (h : Arr w B g F) (hp : p ≠ g) : Arr (w.setCell ⟨p, o, none⟩ x) B g F := ⟨h.1, own_apart h.2 (fun e => hp (by cases e; rfl))⟩
theorem ArrB.apart {w : World} {B g p o : Nat} {F : List Bool} {x : Value} (h : ArrB w B g F) (hp : p ≠ g) : ArrB (w.setCell ⟨p, o, none⟩ x) B g F := ⟨h.1, own_apart h.2 (fun e => hp (by cases e; rfl))⟩
structure Sh (w W : World) (len g c p q : Nat) (sh : List M.Nd) (ins : List Int) (cs : List Bool) : Prop where
 own : W.ownsRow w.heap.size 86 6 (.slice (some ⟨g, 0, none⟩) len c) len (ndCells sh)
 ar : Arr W w.heap.size q ins
 ab : ArrB W w.heap.size p cs
 below : Below w.heap.size w W
theorem Sh.up {w W W' : World} {len g c p q : Nat} {sh : List M.Nd} {ins : List Int} {cs : List Bool} (h : Sh w W len g c p q sh ins cs) (hb : Below W.heap.size W W') : Sh w W' len g c p q sh ins cs :=
 ⟨own_up h.own hb, h.ar.up hb, h.ab.up hb, below_on h.below hb⟩
theorem Sh.setI {w W : World} {len g c p q : Nat} {sh : List M.Nd} {ins : List Int} {cs : List Bool} (h : Sh w W len g c p q sh ins cs) (hg : g ≠ q) (hp : p ≠ q) (i : Nat) (x : Int) : Sh w (W.setCell ⟨q, i, none⟩ (.int .i64 x)) len g c p q sh (ins.set i x) cs :=
 ⟨own_apart h.own (fun e => hg (by cases e; rfl)), h.ar.set i x, h.ab.apart (fun e => hp e.symm), h.below.setCell (p := ⟨q, i, none⟩) h.ar.lt.1 _⟩
theorem Sh.setL {w W : World} {len g c p q : Nat} {sh : List M.Nd} {ins : List Int} {cs : List Bool} (h : Sh w W len g c p q sh ins cs) (hg : g ≠ q) (hp : g ≠ p) (i : Nat) (hi : i < sh.length) (x y : Int) : Sh w ((W.setCell ⟨g, i * 6 + 2, none⟩ (.int .i64 x)).setCell ⟨g, i * 6 + 3, none⟩ (.int .i64 y)) len g c p q (sh.set i (M.turned (M.nAt sh i) x y)) ins cs := by
 refine ⟨?_, (h.ar.apart hg).apart hg, (h.ab.apart hp).apart hp, (h.below.setCell (p := ⟨g, i * 6 + 2, none⟩) (h.own.lt g rfl).1 _).setCell (p := ⟨g, i * 6 + 3, none⟩) (h.own.lt g rfl).1 _⟩
 have s1 := (h.own.stored (i * 6 + 2) (.int .i64 x)).1
 rw [ndCells_setL _ i hi] at s1
 have s2 := (s1.stored (i * 6 + 3) (.int .i64 y)).1
 rw [ndCells_setR _ i (by rw [List.length_set]; exact hi), List.set_set, M.set_at hi] at s2
 exact s2
theorem Sh.six {w W : World} {len g c p q : Nat} {sh : List M.Nd} {ins : List Int} {cs : List Bool} (h : Sh w W len g c p q sh ins cs) (hl : sh.length = len) {i : Nat} (hi : i < len) : SixAt W g (i * 6) (M.nAt sh i) := by
 obtain ⟨q0, q1, q2, q3, q4, q5⟩ := ndCells_at sh i (by omega)
 have := h.own
 exact ⟨(this.cellAt (i * 6) (by omega)).trans q0, (this.cellAt (i * 6 + 1) (by omega)).trans q1, (this.cellAt (i * 6 + 2) (by omega)).trans q2, (this.cellAt (i * 6 + 3) (by omega)).trans q3, (this.cellAt (i * 6 + 4) (by omega)).trans q4, (this.cellAt (i * 6 + 5) (by omega)).trans q5⟩
theorem Sh.fro {w W : World} {len g c p q : Nat} {sh : List M.Nd} {ins : List Int} {cs : List Bool} (h : Sh w W len g c p q sh ins cs) (o : Nat) : W.frozen? ⟨g, o, none⟩ = false := h.own.frozenAt o
theorem M.insV_left {cb : Bool} {sh : List M.Nd} {k ja jb : Nat} : M.insV false cb sh k ja jb = jb := by unfold M.insV; rw [if_pos rfl]
theorem M.insV_right {sh : List M.Nd} {k ja jb : Nat} : M.insV true false sh k ja jb = ja := by unfold M.insV; rw [if_neg (by decide), if_pos rfl]
theorem M.insV_same {sh : List M.Nd} {k ja jb : Nat} (h : M.sameB (M.nAt sh ja) (M.nAt sh jb) = true) : M.insV true true sh k ja jb = ja := by
 unfold M.insV; rw [if_neg (by decide), if_neg (by decide), if_pos (of_decide_eq_true h)]
theorem M.insV_stay {sh : List M.Nd} {k ja jb : Nat} (h : M.sameB (M.nAt sh ja) (M.nAt sh jb) = false) : M.insV true true sh k ja jb = k := by
 unfold M.insV; rw [if_neg (by decide), if_neg (by decide), if_neg (of_decide_eq_false h)]
set_option maxHeartbeats 8000000 in
set_option maxRecDepth 10000 in
theorem short_any (b0 off : Nat) (ts : List M.Nd) (cap m : Nat) (ra : Option Addr) (rc : Nat) (w : World) (hb0 : b0 < w.heap.size) (hc : ∀ i, i < ts.length → SixAt w b0 (off + i * 6) (M.nAt ts i)) (F : M.Fair ts (m : Int)) (hr : Rd w ra (M.rch ts m ts.length)) :
 Calls Tryz.prog 72 #[.slice (some ⟨b0, off, none⟩) ts.length cap, .slice ra (M.rch ts m ts.length).length rc] w fun e w' => ∃ (g c j : Nat) (sh : List M.Nd), e = .returned (.tuple #[.slice (some ⟨g, 0, none⟩) ts.length c, .int .i64 (j : Nat)]) ∧ sh.length = ts.length ∧ g < w'.heap.size ∧ (∀ i, i < ts.length → SixAt w' g (i * 6) (M.nAt sh i)) ∧ M.Den sh (M.prn (M.vld m) (M.bt ts 0)) j ∧ Below w.heap.size w w' := by
 have l63 := F.1
 have l0 := F.2.1
 have HF := hide F
 have CL := hide (clone_own b0 off cap ts w hc l63 l0 hb0)
 have CO := hide (fun W (hW : Below w.heap.size w W) => come_any (some ⟨b0, off, none⟩) ts cap m ra rc W ⟨by unfold maxLen; omega, fun _ => ⟨b0, off, rfl, Nat.lt_of_lt_of_le hb0 hW.size, fun i hi => (hc i hi).below hW hb0⟩⟩ F (hr.below hW))
 clear hc hr F
 generalize hRL : (M.rch ts m ts.length).length = RL at *
 clear hRL
 go_enter Tryz.func72, Tryz.ntmps72
 go_wp2_with (first
  | (go_at_call 105; refine CL.out.mono ?_; rintro r w1 ⟨g, c, rfl, ho1, hb1⟩; have HO1 := hide ho1; clear ho1)
  | (go_at_call 106; refine (CO.out _ hb1).mono ?_; rintro r w2 ⟨rfl, hb2⟩; have HO2 := hide (own_up HO1.out hb2); have HB2 := hide (below_on hb1 hb2))
  | (refine wpList_store_row rfl 164 (.tmp 6) (.tmp 16) rfl w2.heap.size _ rfl rfl 164 _ (heap_alloc_last w2 _) (by rw [infoB]; simp [M.cmLs_len]) (by simp [M.cmLs_len]) (bools_one _) ?_; rw [World.setRow_alloc_new]))
 have gl : Hid (w.heap.size ≤ g ∧ g < w2.heap.size) := HO2.out.lt g rfl
 have g1 : ¬ g = w2.heap.size := by have := gl.out; omega
 have g2 : ¬ g = w2.heap.size + 1 := by have := gl.out; omega
 have BQ : Hid (∀ o1 o2, Below w2.heap.size w2 ((w2.alloc o1).alloc o2)) := fun o1 o2 => ((Below.refl _ w2).alloc (Nat.le_refl _) o1).alloc (by simp) o2
 clear CL CO hb1 hb2 HO1
 go_loopw [8, 9, 10, 11] (fun i _ _ _ wr => ∃ k : Nat, k ≤ ts.length ∧ i = .int .i64 ((k : Int) - 1) ∧ ∃ sh ins, Hid (M.Shr ts m k sh ins) ∧ Hid (Sh w wr ts.length g c w2.heap.size (w2.heap.size + 1) sh ins (M.cmLs ts m 0))) (fun i _ _ _ _ => (intOf i + 1).toNat)
 case atStart =>
  refine ⟨ts.length, Nat.le_refl _, by go_num, ts, _, M.Shr.start, ⟨own_up HO2.out (BQ.out _ _), ?_, ?_, below_on HB2.out (BQ.out _ _)⟩⟩
  · have h := Arr.new (w2.alloc (.cells (List.map Value.bool (M.cmLs ts m 0)).toArray 164)) w.heap.size (by have := gl.out; simp; omega)
    rw [show (w2.alloc (.cells (List.map Value.bool (M.cmLs ts m 0)).toArray 164)).heap.size = w2.heap.size + 1 by simp] at h
    exact h
  · refine ArrB.of (M.cmLs_len _ _ _) (by have := gl.out; omega) ?_
    refine (Below.heap_alloc _ _ _ (by simp)).trans ?_
    exact heap_alloc_last w2 _
 case round =>
  clear HO2 HB2 BQ
  obtain ⟨k, hk, hi, sh, ins, HS, S⟩ := hrel
  rcases k with _ | i
  · replace hi : _ = Value.int .i64 (-1) := hi
    subst hi
    obtain ⟨j, ej, hj, hD⟩ := M.Shr.done HF.out HS.out
    have HD := hide hD
    have c0 := S.out.ar.cell (show 0 < 63 by omega)
    rw [ej] at c0
    have lsh : Hid (sh.length = ts.length) := HS.out.len
    clear hD ej HS HF
    go_wp2
    go_quiet (fail)
    go_wp2
    go_ret2
    have bd := below_drew (Below.refl _ wr) nq (Nat.le_refl _)
    have S2 := S.out.up bd
    exact ⟨g, c, j, sh, rfl, lsh.out, (S2.own.lt g rfl).2, fun i hi => S2.six lsh.out hi, HD.out, S2.below⟩
  · have e0 : ((i + 1 : Nat) : Int) - 1 = (i : Int) := by omega
    rw [e0] at hi
    subst hi
    clear e0
    have hil : i < ts.length := by omega
    have iz : (i : Int) < (ts.length : Int) := by omega
    have i63 : (i : Int) < 63 := by omega
    have ci := S.out.ar.cell (show i < 63 by omega)
    have fi := S.out.ar.frozen i
    go_upto_region 9 with fail
    obtain ⟨w8, hw8⟩ : ∃ W, W = wr.setCell ⟨w2.heap.size + 1, i, none⟩ (.int .i64 (i : Int)) := ⟨_, rfl⟩
    rw [← hw8]
    have S8 : Hid (Sh w w8 ts.length g c w2.heap.size (w2.heap.size + 1) sh (ins.set i (i : Int)) (M.cmLs ts m 0)) := by
     rw [hw8]
     exact S.out.setI g2 (by omega) i _
    have hold : M.nAt sh i = M.nAt ts i := HS.out.old i (by omega)
    have sx := S8.out.six HS.out.len hil
    rw [hold] at sx
    clear hw8 ci fi S
    by_cases hf : M.nf (M.nAt ts i) = -1
    · have q : (M.nf (M.nAt ts i) == -1) = true := by rw [beq_iff_eq]; exact hf
      have N := hide (HS.out.stay HF.out hil hf)
      obtain ⟨s0, s1, s2, s3, s4, s5⟩ := sx
      clear HS HF hf hold s1 s2 s3 s4 s5
      go_wp2
      go_roundw
      case rel => exact ⟨i, by omega, by go_num, sh, ins.set i (i : Int), N, S8⟩
      case measure => simp [intOf] <;> omega
    · have q : (M.nf (M.nAt ts i) == -1) = false := by rw [beq_eq_false_iff_ne]; exact hf
      obtain ⟨a, b, ea, eb, _⟩ := M.ask_at HF.out.2.2.2.2.1 hil hf
      obtain ⟨h1, h2, h3, h4, ja, jb, ej, ek, h5, h6, h7, h8, hN⟩ := HS.out.sides HF.out hil hf ea eb
      obtain ⟨s0, s1, s2, s3, s4, s5⟩ := sx
      rw [ea] at s2
      rw [eb] at s3
      have HN := hide hN
      have az : (a : Int) < 63 := by omega
      have bz : (b : Int) < 63 := by omega
      have ca := S8.out.ar.cell (show a < 63 by omega)
      have cb := S8.out.ar.cell (show b < 63 by omega)
      rw [M.getD_set_ne (by omega), ej] at ca
      rw [M.getD_set_ne (by omega), ek] at cb
      have f2 := S8.out.fro (i * 6 + 2)
      have f3 := S8.out.fro (i * 6 + 3)
      have SL : Hid (∀ n, Sh w (((w8.drewN n).setCell ⟨g, i * 6 + 2, none⟩ (.int .i64 (ja : Int))).setCell ⟨g, i * 6 + 3, none⟩ (.int .i64 (jb : Int))) ts.length g c w2.heap.size (w2.heap.size + 1) (sh.set i (M.turned (M.nAt ts i) (ja : Int) (jb : Int))) (ins.set i (i : Int)) (M.cmLs ts m 0)) := fun n => by
       have := (S8.out.up (below_drew (Below.refl _ w8) n (Nat.le_refl _))).setL g2 g1 i (by rw [HS.out.len]; exact hil) (ja : Int) (jb : Int)
       rw [hold] at this
       exact this
      have LS : Hid ((sh.set i (M.turned (M.nAt ts i) (ja : Int) (jb : Int))).length = ts.length) := by unfold Hid; rw [List.length_set]; exact HS.out.len
      have KN : Hid (M.nAt (sh.set i (M.turned (M.nAt ts i) (ja : Int) (jb : Int))) i = M.turned (M.nAt ts i) (ja : Int) (jb : Int)) := M.set_at (by rw [HS.out.len]; exact hil)
      have CA : Hid (∀ j, j < ts.length → (M.cmLs ts m 0).getD j false = M.cmV ts m j) := fun j hj => by
       rw [M.cmLs_at hj l63]; unfold M.cmK; rw [if_pos (Nat.zero_le _)]
      have II : Hid (∀ x : Int, (ins.set i (i : Int)).set i x = ins.set i x) := fun x => by rw [List.set_set]
      clear HS HF hf hold hN ea eb ej ek s1 s4 s5
      generalize M.nf (M.nAt ts i) = nf at *
      generalize hsh : sh.set i (M.turned (M.nAt ts i) (ja : Int) (jb : Int)) = sh' at *
      clear hsh
      go_upto_region 10 with fail
      go_quiet (fail)
      go_upto_region 11 with fail
      go_cut [10, 11] from 43 to 54 (fun x y wx => x = .int .i64 (a : Int) ∧ y = .int .i64 (b : Int) ∧ Hid (Sh w wx ts.length g c w2.heap.size (w2.heap.size + 1) sh' (ins.set i (i : Int)) (M.cmLs ts m 0)))
      case first =>
       go_region
       all_goals (
        go_wp2
        go_meet
        case rel => exact ⟨rfl, rfl, SL.out _⟩)
      case rest =>
       obtain ⟨rfl, rfl, SC⟩ := hcut
       clear s0 s2 s3 ca cb f2 f3 SL S8
       have pa := SC.out.ab.cell (show a < 63 by omega)
       have pb := SC.out.ab.cell (show b < 63 by omega)
       rw [CA.out a h2] at pa
       rw [CA.out b h4] at pb
       have ci := SC.out.ar.cell (show i < 63 by omega)
       have fi := SC.out.ar.frozen i
       have sn := SC.out.six LS.out hil
       rw [KN.out] at sn
       have n2 : wc.cell? ⟨g, i * 6 + 2, none⟩ = some (.int .i64 (ja : Int)) := sn.2.2.1
       have n3 : wc.cell? ⟨g, i * 6 + 3, none⟩ = some (.int .i64 (jb : Int)) := sn.2.2.2.1
       have NX : Hid (∀ W (x : Int), Below wc.heap.size wc W → Sh w (W.setCell ⟨w2.heap.size + 1, i, none⟩ (.int .i64 x)) ts.length g c w2.heap.size (w2.heap.size + 1) sh' (ins.set i x) (M.cmLs ts m 0)) := fun W x hW => by
        have := (SC.out.up hW).setI g2 (by omega) i x
        rw [II.out] at this
        exact this
       clear sn CA KN
       generalize M.cmV ts m a = va at *
       generalize M.cmV ts m b = vb at *
       cases va with
       | false =>
         have HN' := HN
         rw [M.insV_left] at HN'
         clear HN
         go_wp2
         go_roundw
         case rel => exact ⟨i, by omega, by go_num, sh', _, HN', NX.out _ _ (Below.refl _ _)⟩
         case measure => simp [intOf] <;> omega
       | true =>
         cases vb with
         | false =>
           have HN' := HN
           rw [M.insV_right] at HN'
           clear HN
           go_upto_region 14 with fail
           go_quiet (fail)
           go_wp2
           go_roundw
           case rel => exact ⟨i, by omega, by go_num, sh', _, HN', NX.out _ _ (below_drew (Below.refl _ _) _ (Nat.le_refl _))⟩
           case measure => simp [intOf] <;> omega
         | true =>
           have jaz : (ja : Int) < (ts.length : Int) := by omega
           have jbz : (jb : Int) < (ts.length : Int) := by omega
           obtain ⟨x0, x1, x2, x3, x4, x5⟩ := SC.out.six LS.out h6
           obtain ⟨y0, y1, y2, y3, y4, y5⟩ := SC.out.six LS.out h8
           have SM := hide (fun W => same_any (M.nAt sh' ja) (M.nAt sh' jb) W)
           unfold ndV at SM
           have UP : Hid (∀ W, Below wc.heap.size wc W → (W.cell? ⟨w2.heap.size + 1, i, none⟩ = some (.int .i64 ((ins.set i (i : Int)).getD i 0)) ∧ W.frozen? ⟨w2.heap.size + 1, i, none⟩ = false) ∧ W.cell? ⟨w2.heap.size, b, none⟩ = some (.bool true) ∧ W.cell? ⟨g, i * 6 + 2, none⟩ = some (.int .i64 (ja : Int)) ∧ W.cell? ⟨g, i * 6 + 3, none⟩ = some (.int .i64 (jb : Int)) ∧ W.cell? ⟨g, ja * 6, none⟩ = some (.int .i64 (M.nf (M.nAt sh' ja))) ∧ W.cell? ⟨g, ja * 6 + 1, none⟩ = some (.int .i64 (M.nc (M.nAt sh' ja))) ∧ W.cell? ⟨g, ja * 6 + 2, none⟩ = some (.int .i64 (M.nl (M.nAt sh' ja))) ∧ W.cell? ⟨g, ja * 6 + 3, none⟩ = some (.int .i64 (M.nr (M.nAt sh' ja))) ∧ W.cell? ⟨g, ja * 6 + 4, none⟩ = some (.bool (M.ns (M.nAt sh' ja))) ∧ W.cell? ⟨g, ja * 6 + 5, none⟩ = some (.int .i64 (M.nv (M.nAt sh' ja))) ∧ W.cell? ⟨g, jb * 6, none⟩ = some (.int .i64 (M.nf (M.nAt sh' jb))) ∧ W.cell? ⟨g, jb * 6 + 1, none⟩ = some (.int .i64 (M.nc (M.nAt sh' jb))) ∧ W.cell? ⟨g, jb * 6 + 2, none⟩ = some (.int .i64 (M.nl (M.nAt sh' jb))) ∧ W.cell? ⟨g, jb * 6 + 3, none⟩ = some (.int .i64 (M.nr (M.nAt sh' jb))) ∧ W.cell? ⟨g, jb * 6 + 4, none⟩ = some (.bool (M.ns (M.nAt sh' jb))) ∧ W.cell? ⟨g, jb * 6 + 5, none⟩ = some (.int .i64 (M.nv (M.nAt sh' jb)))) := fun W hW => by
            have q := SC.out.up hW
            have gw : g < wc.heap.size := (SC.out.own.lt g rfl).2
            obtain ⟨x0, x1, x2, x3, x4, x5⟩ := q.six LS.out h6
            obtain ⟨y0, y1, y2, y3, y4, y5⟩ := q.six LS.out h8
            exact ⟨⟨q.ar.cell (by omega), q.ar.frozen i⟩, (hW.cell (p := ⟨w2.heap.size, b, none⟩) SC.out.ab.lt.2).trans pb, (hW.cell (p := ⟨g, i * 6 + 2, none⟩) gw).trans n2, (hW.cell (p := ⟨g, i * 6 + 3, none⟩) gw).trans n3, x0, x1, x2, x3, x4, x5, y0, y1, y2, y3, y4, y5⟩
           have SCU : Hid (∀ W, Below wc.heap.size wc W → Sh w W ts.length g c w2.heap.size (w2.heap.size + 1) sh' (ins.set i (i : Int)) (M.cmLs ts m 0)) := fun W hW => SC.out.up hW
           cases hsm : M.sameB (M.nAt sh' ja) (M.nAt sh' jb) with
           | true =>
             have HN' := HN
             rw [M.insV_same hsm] at HN'
             rw [hsm] at SM
             clear HN hsm SC
             go_upto_region 14 with fail
             go_region_held3 (fun W => W.cell? ⟨w2.heap.size, b, none⟩ = some (.bool true) ∧ W.cell? ⟨g, i * 6 + 2, none⟩ = some (.int .i64 (ja : Int)) ∧ W.cell? ⟨g, i * 6 + 3, none⟩ = some (.int .i64 (jb : Int)) ∧ W.cell? ⟨g, ja * 6, none⟩ = some (.int .i64 (M.nf (M.nAt sh' ja))) ∧ W.cell? ⟨g, ja * 6 + 1, none⟩ = some (.int .i64 (M.nc (M.nAt sh' ja))) ∧ W.cell? ⟨g, ja * 6 + 2, none⟩ = some (.int .i64 (M.nl (M.nAt sh' ja))) ∧ W.cell? ⟨g, ja * 6 + 3, none⟩ = some (.int .i64 (M.nr (M.nAt sh' ja))) ∧ W.cell? ⟨g, ja * 6 + 4, none⟩ = some (.bool (M.ns (M.nAt sh' ja))) ∧ W.cell? ⟨g, ja * 6 + 5, none⟩ = some (.int .i64 (M.nv (M.nAt sh' ja))) ∧ W.cell? ⟨g, jb * 6, none⟩ = some (.int .i64 (M.nf (M.nAt sh' jb))) ∧ W.cell? ⟨g, jb * 6 + 1, none⟩ = some (.int .i64 (M.nc (M.nAt sh' jb))) ∧ W.cell? ⟨g, jb * 6 + 2, none⟩ = some (.int .i64 (M.nl (M.nAt sh' jb))) ∧ W.cell? ⟨g, jb * 6 + 3, none⟩ = some (.int .i64 (M.nr (M.nAt sh' jb))) ∧ W.cell? ⟨g, jb * 6 + 4, none⟩ = some (.bool (M.ns (M.nAt sh' jb))) ∧ W.cell? ⟨g, jb * 6 + 5, none⟩ = some (.int .i64 (M.nv (M.nAt sh' jb)))) (go_keep) (first
              | (go_at_call 107; refine (SM.out _).mono ?_; rintro e w5 ⟨rfl, hb5⟩; have k5 := hide (((Below.refl _ _).drew).trans hb5); obtain ⟨⟨zi, zf⟩, z0, z2, z3, u0, u1, u2, u3, u4, u5, v0, v1, v2, v3, v4, v5⟩ := UP.out _ k5.out))
             all_goals (
              go_wp2
              go_roundw
              case rel => exact ⟨i, by omega, by go_num, sh', _, HN', NX.out _ _ k5.out⟩
              case measure => simp [intOf] <;> omega)
           | false =>
             have HN' := HN
             rw [M.insV_stay hsm] at HN'
             rw [hsm] at SM
             clear HN hsm SC
             go_upto_region 14 with fail
             go_region_held3 (fun W => W.cell? ⟨w2.heap.size, b, none⟩ = some (.bool true) ∧ W.cell? ⟨g, i * 6 + 2, none⟩ = some (.int .i64 (ja : Int)) ∧ W.cell? ⟨g, i * 6 + 3, none⟩ = some (.int .i64 (jb : Int)) ∧ W.cell? ⟨g, ja * 6, none⟩ = some (.int .i64 (M.nf (M.nAt sh' ja))) ∧ W.cell? ⟨g, ja * 6 + 1, none⟩ = some (.int .i64 (M.nc (M.nAt sh' ja))) ∧ W.cell? ⟨g, ja * 6 + 2, none⟩ = some (.int .i64 (M.nl (M.nAt sh' ja))) ∧ W.cell? ⟨g, ja * 6 + 3, none⟩ = some (.int .i64 (M.nr (M.nAt sh' ja))) ∧ W.cell? ⟨g, ja * 6 + 4, none⟩ = some (.bool (M.ns (M.nAt sh' ja))) ∧ W.cell? ⟨g, ja * 6 + 5, none⟩ = some (.int .i64 (M.nv (M.nAt sh' ja))) ∧ W.cell? ⟨g, jb * 6, none⟩ = some (.int .i64 (M.nf (M.nAt sh' jb))) ∧ W.cell? ⟨g, jb * 6 + 1, none⟩ = some (.int .i64 (M.nc (M.nAt sh' jb))) ∧ W.cell? ⟨g, jb * 6 + 2, none⟩ = some (.int .i64 (M.nl (M.nAt sh' jb))) ∧ W.cell? ⟨g, jb * 6 + 3, none⟩ = some (.int .i64 (M.nr (M.nAt sh' jb))) ∧ W.cell? ⟨g, jb * 6 + 4, none⟩ = some (.bool (M.ns (M.nAt sh' jb))) ∧ W.cell? ⟨g, jb * 6 + 5, none⟩ = some (.int .i64 (M.nv (M.nAt sh' jb)))) (go_keep) (first
              | (go_at_call 107; refine (SM.out _).mono ?_; rintro e w5 ⟨rfl, hb5⟩; have k5 := hide (((Below.refl _ _).drew).trans hb5); obtain ⟨⟨zi, zf⟩, z0, z2, z3, u0, u1, u2, u3, u4, u5, v0, v1, v2, v3, v4, v5⟩ := UP.out _ k5.out))
             all_goals (
              go_wp2
              go_roundw
              case rel => exact ⟨i, by omega, by go_num, sh', _, HN', SCU.out _ k5.out⟩
              case measure => simp [intOf] <;> omega)
end Go.Proofs.YtelncekgjfpogahGreatDoor
