/-
  Several texts as one: DifDo, PEnds, PWit, LimPT, LimTi.
-/
import Derived.Test.YtelncekgjfpogahGreatDoorRunT13
import Derived.Deep.AppendLies
import Derived.OwnWalk
import Derived.Test.YtelncekgjfpogahGreatDoorRunT11
import Derived.Test.YtelncekgjfpogahGreatDoorRunT4
import Derived.RegionTactic
namespace Go.Proofs.YtelncekgjfpogahGreatDoor
open Go.ChangeShapes Go.WideShapes Go.ChangeAt Go.RowKit Go.Lib
set_option linter.unusedVariables false
def DoGives (did q : Nat) (Inv : (Nat → Prop) → Nat → World → Prop) (P : List Int → Prop) : Prop := ∀ (K : Nat → Prop) (s pb pc : Nat) (L : List Int) (W : World), s < 100000 → K pb → pb < W.heap.size → Inv K s W → P L → Rd W (some ⟨pb, 0, none⟩) L → Calls Tryz.prog did #[.slice (some ⟨pb, 0, none⟩) L.length pc, .pointer (some ⟨q, 0, none⟩)] W fun e w' => e = .returned (.tuple #[]) ∧ Inv K (s + 1) w' ∧ Keeps K W w'
theorem infoRow : (Tryz.prog.info? 23).map (fun i => (i.zero, i.size, i.bytes)) = some (some (.slice none 0 0), 1, 24) := by kernel_rfl
set_option maxHeartbeats 4000000 in
theorem trees1_any (w : World) (p : Nat) (P : List Int → Prop) : DoGives 81 p (TV w P p) P := by
 intro K n pb pc L W hn hK hl h hP hr
 obtain ⟨v, Vs, c0, ho, ok, fr⟩ := h.rows
 have f0 := h.froz
 obtain ⟨i1, hi1, he1⟩ := Option.map_eq_some_iff.1 infoRow
 have jz0 : i1.zero = some (.slice none 0 0) := congrArg Prod.fst he1
 have jz1 : i1.size = 1 := congrArg (fun x => x.2.1) he1
 have jz2 : i1.bytes = 24 := congrArg (fun x => x.2.2) he1
 have I1 := hide hi1
 have HO := hide ho
 have plt := h.lt
 have pK := h.out
 have ne : p ≠ pb := fun e => pK (e ▸ hK)
 have fin : Hid (∀ (o : Obj) (w5 : World) (g cap : Nat), w5.ownsRow (p + 1) 23 1 (.slice (some ⟨g, 0, none⟩) (n + 1) cap) (n + 1) (Vs ++ [.slice (some ⟨pb, 0, none⟩) L.length pc]) → (W.alloc o).grownBy w5 v.ownBlock → (v.ownBlock = some g ∨ g = W.heap.size + 1) →
  (w5.cell? ⟨p, 0, none⟩ = some v ∧ w5.frozen? ⟨p, 0, none⟩ = false) ∧ TV w P p K (n + 1) (w5.setCell ⟨p, 0, none⟩ (.slice (some ⟨g, 0, none⟩) (n + 1) cap)) ∧ Keeps K W (w5.setCell ⟨p, 0, none⟩ (.slice (some ⟨g, 0, none⟩) (n + 1) cap))) := by
  intro o w5 g cap hown hgrow hat
  have vp : v.ownBlock ≠ some p := fun e => by have := (ho.lt p e).1; omega
  have hgr : W.grownBy w5 v.ownBlock := grown_trans (World.grownBy_alloc W o v.ownBlock) hgrow (.inl rfl)
  have cp : w5.cell? ⟨p, 0, none⟩ = some v := (hgr.cell_far ⟨p, 0, none⟩ plt (fun e => vp e.symm)).trans c0
  have fp : w5.frozen? ⟨p, 0, none⟩ = false := (hgr.frozen_far ⟨p, 0, none⟩ plt (fun e => vp e.symm)).trans f0
  have gp : p + 1 ≤ g := (hown.lt g rfl).1
  have vK : ∀ b, K b → v.ownBlock ≠ some b := fun b hb e => ok b e hb
  have ke : Keeps K W w5 := ⟨hgr.size, fun b o hb hl => hgr.cell_far ⟨b, o, none⟩ hl (fun e => vK b hb e.symm)⟩
  have bl : Below w.heap.size w w5 := h.below.grown hgr h.below.size (fun k hk => by have := (ho.lt k hk).1; have := h.ge; omega)
  refine ⟨⟨cp, fp⟩, ⟨?_, h.ge, pK, ?_, ?_, bl.setCell (p := ⟨p, 0, none⟩) h.ge _, ⟨_, _, World.cell?_setCell_same (u := v) _ _ _ cp, hown.kept grown_set (.inr fun e => absurd (show g = p by simpa [Value.ownBlock] using e) (by omega)), ?_, ?_⟩⟩, ke.set pK _⟩
  · have := hgr.size; simp; omega
  · intro b hb; have := h.kb b hb; have := hgr.size; simp; omega
  · simpa using fp
  · intro g' hg' hk'
    have : g = g' := by simpa [Value.ownBlock] using hg'
    subst this
    rcases hat with e | e
    · exact ok g e hk'
    · have := h.kb g hk'; omega
  · intro _
    by_cases h0 : 0 < n
    · obtain ⟨qb, qc, Q, f1, f2, f3, f4, f5, f6⟩ := fr h0
      have f2' : Rd (w5.setCell ⟨p, 0, none⟩ (.slice (some ⟨g, 0, none⟩) (n + 1) cap)) (some ⟨qb, 0, none⟩) Q := by
       refine f2.keeps (K := fun b => b = qb) (fun _ x hx => by cases hx; rfl) ?_
       refine Keeps.set (K := fun b => b = qb) (p := p) ⟨hgr.size, fun b o hb hl => ?_⟩ (fun e => f4 e) _
       exact hgr.cell_far ⟨b, o, none⟩ hl (fun e => f6 (by rw [← e, hb]))
      refine ⟨qb, qc, Q, ?_, f2', f3, f4, ?_, ?_⟩
      · rw [List.getElem?_append_left (by have := (List.getElem?_eq_some_iff.1 f1).1; exact this)]; exact f1
      · have := hgr.size; simp; omega
      · intro e
        have : g = qb := by simpa [Value.ownBlock] using e
        subst this
        rcases hat with e | e
        · exact f6 e
        · omega
    · have n0 : n = 0 := by omega
      have vl : Vs.length = n := by have := ho.1; omega
      have ve : Vs = [] := List.length_eq_zero_iff.1 (by omega)
      refine ⟨pb, pc, L, by rw [ve]; rfl, hr.keeps (K := K) (fun _ x hx => by cases hx; exact hK) (ke.set pK _), hP, ne, ?_, ?_⟩
      · have := hgr.size; simp; omega
      · intro e
        have : g = pb := by simpa [Value.ownBlock] using e
        subst this
        rcases hat with e | e
        · exact ok g e hK
        · omega
 clear h hr hK ok fr ho hi1
 go_enter Tryz.func81, Tryz.ntmps81
 go_wp2_with (at_builtin; refine wpList_append_lies _ rfl (.tmp 3) (.tmp 5) 138 rfl (p + 1) 23 i1 (.slice none 0 0) 1 24 Tryz.underlying138 I1.out jz0 jz1 jz2 rfl (by omega) v n Vs rfl (HO.out.alloc _) ⟨W.heap.size, 0, none⟩ 1 1 [.slice (some ⟨pb, 0, none⟩) L.length pc] rfl rfl (World.news_of_block (heap_alloc_new _ _)) (by simp [Value.oneCell']) (by omega) (by unfold maxLen; omega) (by omega) (by simp; omega) (W.heap.size + 1) (by simp) ?_; intro g cap w5 hown hgrow hat hlt; have FF := hide (fin.out _ w5 g cap hown hgrow hat); have c5 := FF.out.1.1; have f5 := FF.out.1.2; clear hown hgrow hat)
 go_end0
 exact ⟨rfl, FF.out.2.1, FF.out.2.2⟩
structure EV (ba bl bd did q : Nat) (a : Option Addr) (n ca i : Nat) (Inv : (Nat → Prop) → Nat → World → Prop) (K : Nat → Prop) (s : Nat) (W : World) : Prop where
 inv : Inv K s W
 ka : K ba
 kl : K bl
 kd : K bd
 la : ba < W.heap.size
 ll : bl < W.heap.size
 ld : bd < W.heap.size
 ca : W.cell? ⟨ba, 0, none⟩ = some (.slice a n ca)
 cl : W.cell? ⟨bl, 0, none⟩ = some (.int .i64 (i : Nat))
 cd : W.cell? ⟨bd, 0, none⟩ = some (.func (.func did) #[] #[.pointer (some ⟨q, 0, none⟩)])
theorem EV.keeps {ba bl bd did q : Nat} {a : Option Addr} {n ca i : Nat} {Inv : (Nat → Prop) → Nat → World → Prop} {K : Nat → Prop} {s s' : Nat} {W W' : World} (h : EV ba bl bd did q a n ca i Inv K s W) (hi : Inv K s' W') (hk : Keeps K W W') : EV ba bl bd did q a n ca i Inv K s' W' :=
 ⟨hi, h.ka, h.kl, h.kd, Nat.lt_of_lt_of_le h.la hk.1, Nat.lt_of_lt_of_le h.ll hk.1, Nat.lt_of_lt_of_le h.ld hk.1, (hk.2 ba 0 h.ka h.la).trans h.ca, (hk.2 bl 0 h.kl h.ll).trans h.cl, (hk.2 bd 0 h.kd h.ld).trans h.cd⟩
set_option maxHeartbeats 4000000 in
theorem each1_any (w : World) (ba bl bd did q : Nat) (a : Option Addr) (ts us : List M.Nd) (ca i j : Nat) (Inv : (Nat → Prop) → Nat → World → Prop) (P : List Int → Prop) (D : Doer w Inv) (G : DoGives did q Inv P) (hfn : ∀ args w, (callFunc did args).run Tryz.prog w = .ok (.enter did args) w)
 (ht : RdN w a ts) (hi : i < ts.length) (K : Nat → Prop) (s pb pc : Nat) (L : List Int) (W : World) (hs : s < 100000) (hK : K pb) (hl : pb < W.heap.size) (h : EV ba bl bd did q a ts.length ca i Inv K s W) (hP : M.nv (M.nAt us j) ≠ M.nv (M.nAt ts i) → P L) (hr : Rd W (some ⟨pb, 0, none⟩) L) :
 Calls Tryz.prog 115 #[.int .i64 (M.nv (M.nAt us j)), .slice (some ⟨pb, 0, none⟩) L.length pc, .pointer (some ⟨ba, 0, none⟩), .pointer (some ⟨bl, 0, none⟩), .pointer (some ⟨bd, 0, none⟩)] W fun e w' => e = .returned (.tuple #[]) ∧ EV ba bl bd did q a ts.length ca i Inv K (s + M.tmC ts us i j) w' ∧ Keeps K W w' := by
 have c0 := h.ca
 have c1 := h.cl
 have c2 := h.cd
 obtain ⟨b0, off, rfl, hb0, hc⟩ := (ht.below (D.below h.inv)).2 (by intro e; rw [e] at hi; simp at hi)
 have c3 := (hc i hi).2.2.2.2.2
 have H := hide h
 have iz : (i : Int) < (ts.length : Int) := by omega
 by_cases e : M.nv (M.nAt us j) = M.nv (M.nAt ts i)
 · have q1 : (M.nv (M.nAt us j) != M.nv (M.nAt ts i)) = false := by simp [e]
   have t0 : M.tmC ts us i j = 0 := by unfold M.tmC; rw [if_pos e]
   rw [t0]
   clear h hc ht hP hr t0 e G
   generalize M.nv (M.nAt us j) = v at *
   generalize M.nv (M.nAt ts i) = u at *
   go_enter Tryz.func115, Tryz.ntmps115
   go_wp2
   go_end0
   exact ⟨rfl, H.out, Keeps.refl _ _⟩
 · have q1 : (M.nv (M.nAt us j) != M.nv (M.nAt ts i)) = true := by simp [e]
   have t0 : M.tmC ts us i j = 1 := by unfold M.tmC; rw [if_neg e]
   rw [t0]
   have C := hide (G K s pb pc L W hs hK hl h.inv (hP e) hr)
   clear h hc ht hP hr t0 e G
   generalize M.nv (M.nAt us j) = v at *
   generalize M.nv (M.nAt ts i) = u at *
   go_enter Tryz.func115, Tryz.ntmps115
   go_wp2_with (refine C.out.mono ?_; rintro e w1 ⟨rfl, hi1, hk1⟩; have N1 := hide (H.out.keeps hi1 hk1); have K1 := hide hk1; clear hi1 hk1)
   go_end0
   exact ⟨rfl, N1.out, K1.out⟩
theorem isend_any (x : Int) (w : World) : Calls Tryz.prog 139 #[.int .i64 x] w fun e w' => e = .returned (.bool (!M.outI x)) ∧ w' = w := by
 by_cases h1 : -1000000 ≤ x
 · have E : Hid (decide (x ≤ 1000000) = !M.outI x) := by
    unfold Hid M.outI
    rw [show decide (x < -1000000) = false from decide_eq_false (by omega), Bool.false_or]
    by_cases h2 : x ≤ 1000000
    · simp [h2]
    · simp [h2]; omega
   have h1' : decide (-1000000 ≤ x) = true := decide_eq_true h1
   clear h1
   go_enter Tryz.func139, Tryz.ntmps139
   go_wp2
   go_ret
   exact ⟨ret_bool E.out, rfl⟩
 · have E : Hid (false = !M.outI x) := by
    unfold Hid M.outI
    rw [show decide (x < -1000000) = true from decide_eq_true (by omega)]; rfl
   have h1' : decide (-1000000 ≤ x) = false := decide_eq_false h1
   clear h1
   go_enter Tryz.func139, Tryz.ntmps139
   go_wp2
   go_ret
   exact ⟨ret_bool E.out, rfl⟩
theorem firstof_any (s : M.Sp) (w : World) : Calls Tryz.prog 140 #[spV s] w fun e w' => e = .returned (.int .i64 (M.pickC s)) ∧ Below w.heap.size w w' := by
 have C := hide (nonum_any s)
 have B0 : Hid (∀ o W, Below (w.alloc o).heap.size (w.alloc o) W → Below w.heap.size w W) := fun o W hW => below_on ((Below.refl _ w).alloc (Nat.le_refl _) o) hW
 by_cases hd : s.2.1 < s.1
 · have E : Hid (M.nilI = M.pickC s) := by unfold Hid M.pickC; rw [if_neg (by omega)]
   rw [decide_eq_true hd] at C
   clear hd
   generalize M.pickC s = o at *
   obtain ⟨lo, hi, n⟩ := s
   unfold spV at C ⊢
   go_enter Tryz.func140, Tryz.ntmps140
   go_wp2_with (go_at_call 148; refine (C.out _).mono ?_; rintro e w1 ⟨rfl, hb1⟩)
   go_ret
   exact ⟨ret_int E.out, B0.out _ _ hb1⟩
 · have E : Hid (s.1 = M.pickC s) := by unfold Hid M.pickC; rw [if_pos (by omega)]
   rw [decide_eq_false hd] at C
   clear hd
   generalize M.pickC s = o at *
   obtain ⟨lo, hi, n⟩ := s
   unfold spV at C ⊢
   have CL : Hid (∀ O W, Below (w.alloc O).heap.size (w.alloc O) W → W.cell? ⟨w.heap.size, 0, none⟩ = (w.alloc O).cell? ⟨w.heap.size, 0, none⟩) := fun O W hW => hW.cell (p := ⟨w.heap.size, 0, none⟩) (by simp)
   go_enter Tryz.func140, Tryz.ntmps140
   go_wp2_with (go_at_call 148; refine (C.out _).mono ?_; rintro e w1 ⟨rfl, hb1⟩; have c1 := CL.out _ _ hb1; rw [World.cell?_alloc_at _ _ _ 0 rfl] at c1; simp at c1)
   go_ret
   exact ⟨ret_int E.out, B0.out _ _ hb1⟩
theorem fillw_own {wr : World} {B g n : Nat} {F : List Int} {k : Nat} (hk : k < F.length)
 (hown : wr.ownsRow B 3 1 (.slice (some ⟨g, 0, none⟩) n n) n ((M.fillI F k).map (Value.int .i64))) :
 (wr.setCell ⟨g, k, none⟩ (.int .i64 F[k])).ownsRow B 3 1 (.slice (some ⟨g, 0, none⟩) n n) n ((M.fillI F (k + 1)).map (Value.int .i64)) := by
 have := (hown.stored k (.int .i64 F[k])).1
 rw [← M.fill_set F k hk, List.map_set]
 exact this
theorem fillw_cell {wr : World} {B g n : Nat} {F : List Int} {k : Nat} (hk : k < F.length) (hn : F.length = n)
 (hown : wr.ownsRow B 3 1 (.slice (some ⟨g, 0, none⟩) n n) n ((M.fillI F k).map (Value.int .i64))) : ∃ z, wr.cell? ⟨g, k, none⟩ = some (.int .i64 z) := by
 have hl : (M.fillI F k).length = n := by rw [M.fill_len F k (by omega), hn]
 exact ⟨_, own_at hown hl k (by omega)⟩
theorem M.sp_at {l : List M.Sp} (h8 : l.length ≤ 8) {k : Nat} (hk : k < l.length) (h : ∀ j, j < k → M.sp1F (l.getD j (0, 0, false)) = 0) (hn : M.sp1F (l.getD k (0, 0, false)) ≠ 0) : M.spF l = M.sp1F (l.getD k (0, 0, false)) := by
 unfold M.spF
 rw [if_neg (by omega), M.first_hit (k := k) (by show (!decide (M.sp1F (l.getD k (0, 0, false)) = 0)) = true; rw [decide_eq_false hn]; rfl) (fun j hj => by show (!decide (M.sp1F (l.getD j (0, 0, false)) = 0)) = false; rw [decide_eq_true (h j hj)]; rfl) hk]
theorem M.sp_all {l : List M.Sp} (h8 : l.length ≤ 8) (h : ∀ j, j < l.length → M.sp1F (l.getD j (0, 0, false)) = 0) : M.spF l = 0 := by
 unfold M.spF
 rw [if_neg (by omega), M.first_miss (fun j hj => by show (!decide (M.sp1F (l.getD j (0, 0, false)) = 0)) = false; rw [decide_eq_true (h j hj)]; rfl)]
theorem M.pick_at {l : List M.Sp} {k : Nat} (hk : k < l.length) (h' : k < (M.pick l).length) : (M.pick l)[k] = M.pickC (l.getD k (0, 0, false)) := by
 show (l.map M.pickC)[k]'(by simpa [M.pick] using h') = _
 rw [M.getD_at hk, List.getElem_map]
theorem kept_span {w W : World} {a0 a1 a2 : Value} {t : TypeId} (h : Below (w.alloc (.cells #[a0, a1, a2] t)).heap.size (w.alloc (.cells #[a0, a1, a2] t)) W) :
 W.cell? ⟨w.heap.size, 0, none⟩ = some a0 ∧ W.cell? ⟨w.heap.size, 1, none⟩ = some a1 ∧ W.cell? ⟨w.heap.size, 2, none⟩ = some a2 := by
 have hs : w.heap.size < (w.alloc (.cells #[a0, a1, a2] t)).heap.size := by simp
 exact ⟨(h.cell (p := ⟨w.heap.size, 0, none⟩) hs).trans (World.cell?_alloc_at _ _ _ 0 rfl), (h.cell (p := ⟨w.heap.size, 1, none⟩) hs).trans (World.cell?_alloc_at _ _ _ 1 rfl), (h.cell (p := ⟨w.heap.size, 2, none⟩) hs).trans (World.cell?_alloc_at _ _ _ 2 rfl)⟩
set_option maxHeartbeats 8000000 in
set_option maxRecDepth 10000 in
theorem witness_new (a0 : Option Addr) (ss : List M.Sp) (ca : Nat) (w : World) (h : RdS w a0 ss) :
 Calls Tryz.prog 117 #[.slice a0 ss.length ca] w fun e w' =>
  ∃ ag cg, e = .returned (.tuple #[.slice ag (M.witV ss).length cg, errV (M.spF ss)]) ∧ Rd w' ag (M.witV ss) ∧ Below w.heap.size w w' ∧ (M.spF ss = 0 → ag = some ⟨w.heap.size, 0, none⟩ ∧ w.heap.size < w'.heap.size) := by
 have hm : ss.length ≤ 9223372036854775807 := h.1
 have RN : ∀ W, Rd W none [] := fun W => ⟨Nat.zero_le _, fun h => absurd rfl h⟩
 have HRN := hide RN
 clear RN
 by_cases h8 : 8 < ss.length
 · have e4 : M.spF ss = 4 := by unfold M.spF; rw [if_pos h8]
   have VE : Hid (M.witV ss = []) := by unfold Hid M.witV; rw [if_neg (by rw [e4]; decide)]
   rw [e4, err_some (show (4 : Int) ≠ 0 by decide)]
   have q : decide (8 < (ss.length : Int)) = true := decide_eq_true (by omega)
   clear h e4
   generalize M.witV ss = V at *
   go_enter Tryz.func117, Tryz.ntmps117
   go_wp2
   go_ret2
   exact ⟨none, 0, by rw [VE.out]; rfl, by rw [VE.out]; exact HRN.out _, Below.refl _ _, fun e => absurd e (by decide)⟩
 · have l8 : ss.length ≤ 8 := by omega
   have q : decide (8 < (ss.length : Int)) = false := decide_eq_false (by omega)
   have HT := hide h
   obtain ⟨i0, hi, hz0, hz1, hz2⟩ := info_parts info3
   have I0 := hide hi
   have FA : Hid (∀ k, k < ss.length → (∀ j, j < k → M.sp1F (ss.getD j (0, 0, false)) = 0) → M.sp1F (ss.getD k (0, 0, false)) ≠ 0 → M.spF ss = M.sp1F (ss.getD k (0, 0, false))) := fun k hk h hn => M.sp_at l8 hk h hn
   have FZ : Hid ((∀ j, j < ss.length → M.sp1F (ss.getD j (0, 0, false)) = 0) → M.spF ss = 0) := fun h => M.sp_all l8 h
   have VN : Hid (M.spF ss ≠ 0 → M.witV ss = []) := fun h => by unfold M.witV; rw [if_neg h]
   have VY : Hid (M.spF ss = 0 → M.witV ss = M.pick ss) := fun h => by unfold M.witV; rw [if_pos h]
   have PA : Hid (∀ k (hk : k < ss.length) (h' : k < (M.pick ss).length), (M.pick ss)[k] = M.pickC (ss.getD k (0, 0, false))) := fun k hk h' => M.pick_at hk h'
   have FL : Hid ((M.pick ss).length = ss.length) := by unfold Hid M.pick; simp
   clear h hi h8
   generalize M.witV ss = V at *
   generalize M.spF ss = SF at *
   generalize M.pick ss = L at *
   go_enter Tryz.func117, Tryz.ntmps117
   go_wp2_with (at_make; refine wpList_make_full _ rfl (.tmp 12) (.tmp 12) 23 rfl w.heap.size 3 i0 (.int .i64 0) 1 Tryz.underlying23 I0.out hz0 hz1 .i64 .i64 _ _ ss.length rfl rfl (by omega) (by omega) (by rw [hz2]; omega) (by unfold maxLen; omega) (Nat.le_refl _) ?_; intro w3 hown hgrow)
   rw [made] at hown
   have hb3 : Below w.heap.size w w3 := (Below.refl _ w).grown hgrow (Nat.le_refl _) (fun k hk => by cases hk)
   have ho : w3.ownsRow w.heap.size 3 1 (.slice (some ⟨w.heap.size, 0, none⟩) ss.length ss.length) ss.length ((M.fillI L 0).map (Value.int .i64)) := by
    rw [M.fill_zero, FL.out]; exact hown
   clear hgrow hown
   go_loopw [16] (fun i wr => ∃ k : Nat, k ≤ ss.length ∧ i = .int .i64 k ∧ wr.ownsRow w.heap.size 3 1 (.slice (some ⟨w.heap.size, 0, none⟩) ss.length ss.length) ss.length ((M.fillI L k).map (Value.int .i64)) ∧ Below w.heap.size w wr ∧ Hid (∀ j, j < k → M.sp1F (ss.getD j (0, 0, false)) = 0)) (fun i _ => ss.length - (intOf i).toNat)
   case atStart => exact ⟨0, Nat.zero_le _, rfl, ho, hb3, fun j hj => by omega⟩
   case round =>
    clear ho hb3
    obtain ⟨k, hk, rfl, hown, hbl, I⟩ := hrel
    by_cases hlt : k < ss.length
    · obtain ⟨b1, off, rfl, hb1, hc⟩ := (HT.out.below hbl).2 (by intro e; subst e; simp at hlt)
      obtain ⟨s0, s1, s2⟩ := hc k hlt
      have hLl : k < L.length := by rw [FL.out]; exact hlt
      have eL := PA.out k hlt hLl
      have B1 : Hid (∀ o, Below w.heap.size w (wr.alloc o)) := fun o => below_on hbl ((Below.refl _ wr).alloc (Nat.le_refl _) o)
      have CE := hide isend_any
      have CH := hide (nothing_any (ss.getD k (0, 0, false)))
      have CF := hide (firstof_any (ss.getD k (0, 0, false)))
      have FAK := hide (FA.out k hlt I.out)
      have kz : (k : Int) < (ss.length : Int) := by omega
      unfold spV at CH CF
      cases hlo : M.outI (ss.getD k (0, 0, false)).1 with
      | true =>
        have EE : M.sp1F (ss.getD k (0, 0, false)) = 1 := by unfold M.sp1F; rw [if_pos (.inl hlo)]
        have SFE : Hid (SF = 1) := by unfold Hid; rw [FAK.out (by rw [EE]; decide), EE]
        have VE : Hid (V = []) := VN.out (by rw [SFE.out]; decide)
        have q1 : M.outI (ss.getD k (0, 0, false)).1 = true := hlo
        have E1 := hide (CE.out (ss.getD k (0, 0, false)).1)
        rw [q1] at E1
        clear hc EE I FAK FA FZ CE hlo hown eL q1
        generalize M.pickC (ss.getD k (0, 0, false)) = pk at *
        generalize (ss.getD k (0, 0, false)).1 = lo at *
        generalize (ss.getD k (0, 0, false)).2.1 = hi at *
        generalize (ss.getD k (0, 0, false)).2.2 = nl at *
        go_wp2_with (go_at_call 139; refine (E1.out _).mono ?_; rintro e w4 ⟨rfl, e4⟩; subst w4; clear E1)
        go_ret2
        exact ⟨none, 0, by rw [VE.out, SFE.out]; rfl, by rw [VE.out]; exact HRN.out _, B1.out _, fun e => absurd e (by rw [SFE.out]; decide)⟩
      | false =>
        cases hhi : M.outI (ss.getD k (0, 0, false)).2.1 with
        | true =>
          have EE : M.sp1F (ss.getD k (0, 0, false)) = 1 := by unfold M.sp1F; rw [if_pos (.inr hhi)]
          have SFE : Hid (SF = 1) := by unfold Hid; rw [FAK.out (by rw [EE]; decide), EE]
          have VE : Hid (V = []) := VN.out (by rw [SFE.out]; decide)
          have q1 : M.outI (ss.getD k (0, 0, false)).1 = false := hlo
          have E1 := hide (CE.out (ss.getD k (0, 0, false)).1)
          rw [q1] at E1
          have q2 : M.outI (ss.getD k (0, 0, false)).2.1 = true := hhi
          have E2 := hide (CE.out (ss.getD k (0, 0, false)).2.1)
          rw [q2] at E2
          clear hc EE I FAK FA FZ CE hlo hown eL hhi q2 q1
          generalize M.pickC (ss.getD k (0, 0, false)) = pk at *
          generalize (ss.getD k (0, 0, false)).1 = lo at *
          generalize (ss.getD k (0, 0, false)).2.1 = hi at *
          generalize (ss.getD k (0, 0, false)).2.2 = nl at *
          go_wp2_with (first | (go_at_call 139; refine (E1.out _).mono ?_; rintro e w4 ⟨rfl, e4⟩; subst w4; clear E1) | (go_at_call 139; refine (E2.out _).mono ?_; rintro e w4 ⟨rfl, e4⟩; subst w4; clear E2))
          go_ret2
          exact ⟨none, 0, by rw [VE.out, SFE.out]; rfl, by rw [VE.out]; exact HRN.out _, B1.out _, fun e => absurd e (by rw [SFE.out]; decide)⟩
        | false =>
          cases hh : M.hasS (ss.getD k (0, 0, false)) with
          | false =>
            have EE : M.sp1F (ss.getD k (0, 0, false)) = 5 := by unfold M.sp1F; rw [if_neg (by rw [hlo, hhi]; decide), if_pos hh]
            have SFE : Hid (SF = 5) := by unfold Hid; rw [FAK.out (by rw [EE]; decide), EE]
            have VE : Hid (V = []) := VN.out (by rw [SFE.out]; decide)
            have q1 : M.outI (ss.getD k (0, 0, false)).1 = false := hlo
            have E1 := hide (CE.out (ss.getD k (0, 0, false)).1)
            rw [q1] at E1
            have q2 : M.outI (ss.getD k (0, 0, false)).2.1 = false := hhi
            have E2 := hide (CE.out (ss.getD k (0, 0, false)).2.1)
            rw [q2] at E2
            rw [hh] at CH
            clear hc EE I FAK FA FZ CE hlo hown eL hhi q2 hh q1
            generalize M.pickC (ss.getD k (0, 0, false)) = pk at *
            generalize (ss.getD k (0, 0, false)).1 = lo at *
            generalize (ss.getD k (0, 0, false)).2.1 = hi at *
            generalize (ss.getD k (0, 0, false)).2.2 = nl at *
            go_wp2_with (first | (go_at_call 139; refine (E1.out _).mono ?_; rintro e w4 ⟨rfl, e4⟩; subst w4; clear E1) | (go_at_call 139; refine (E2.out _).mono ?_; rintro e w4 ⟨rfl, e4⟩; subst w4; clear E2) | (go_at_call 130; refine (CH.out _).mono ?_; rintro e w5 ⟨rfl, hb5⟩))
            go_ret2
            exact ⟨none, 0, by rw [VE.out, SFE.out]; rfl, by rw [VE.out]; exact HRN.out _, below_on (B1.out _) hb5, fun e => absurd e (by rw [SFE.out]; decide)⟩
          | true =>
            have EE : M.sp1F (ss.getD k (0, 0, false)) = 0 := by unfold M.sp1F; rw [if_neg (by rw [hlo, hhi]; decide), if_neg (by rw [hh]; decide)]
            have N : Hid (∀ j, j < k + 1 → M.sp1F (ss.getD j (0, 0, false)) = 0) := fun j hj => by
             by_cases e : j = k
             · rw [e]; exact EE
             · exact I.out j (by omega)
            have R := hide (fun W (hW : Below wr.heap.size wr W) => fillw_own hLl (own_keep hown hW))
            have CC := hide (fun W (hW : Below wr.heap.size wr W) => fillw_cell hLl FL.out (own_keep hown hW))
            have FZN := hide (fun W (hW : Below wr.heap.size wr W) => (own_keep hown hW).frozenAt k)
            have NB : Hid (∀ o W, Below (wr.alloc o).heap.size (wr.alloc o) W → Below wr.heap.size wr W) := fun o W hW => below_on ((Below.refl _ wr).alloc (Nat.le_refl _) o) hW
            rw [eL] at R
            have q1 : M.outI (ss.getD k (0, 0, false)).1 = false := hlo
            have E1 := hide (CE.out (ss.getD k (0, 0, false)).1)
            rw [q1] at E1
            have q2 : M.outI (ss.getD k (0, 0, false)).2.1 = false := hhi
            have E2 := hide (CE.out (ss.getD k (0, 0, false)).2.1)
            rw [q2] at E2
            rw [hh] at CH
            clear hc EE I FAK FA FZ CE hlo hown eL hhi q2 hh q1
            generalize M.pickC (ss.getD k (0, 0, false)) = pk at *
            generalize (ss.getD k (0, 0, false)).1 = lo at *
            generalize (ss.getD k (0, 0, false)).2.1 = hi at *
            generalize (ss.getD k (0, 0, false)).2.2 = nl at *
            go_wp2_with (first | (go_at_call 139; refine (E1.out _).mono ?_; rintro e w4 ⟨rfl, e4⟩; subst w4; clear E1) | (go_at_call 139; refine (E2.out _).mono ?_; rintro e w4 ⟨rfl, e4⟩; subst w4; clear E2) | (go_at_call 130; refine (CH.out _).mono ?_; rintro e w5 ⟨rfl, hb5⟩; have ks := kept_span hb5; have y0 := ks.1; have y1 := ks.2.1; have y2 := ks.2.2; have k5 := NB.out _ _ hb5; clear ks hb5) | (go_at_call 140; refine (CF.out _).mono ?_; rintro e w6 ⟨rfl, hb6⟩; have k6 := below_on k5 hb6; obtain ⟨zz, hcell⟩ := CC.out w6 k6; have hfz := FZN.out w6 k6))
            go_roundw
            case rel => exact ⟨k + 1, by omega, by go_num, R.out w6 k6, (below_on hbl k6).setCell (p := ⟨w.heap.size, k, none⟩) (Nat.le_refl _) _, N⟩
            case measure => simp [intOf]; omega
    · have hke : k = ss.length := by omega
      subst hke
      have SFE : Hid (SF = 0) := FZ.out I.out
      have VE : Hid (V = L) := VY.out SFE.out
      rw [show M.fillI L ss.length = L by rw [← FL.out]; exact M.fill_all L] at hown
      have hown2 : wr.ownsRow w.heap.size 3 1 (.slice (some ⟨w.heap.size, 0, none⟩) L.length ss.length) L.length (L.map (Value.int .i64)) := by rw [FL.out]; exact hown
      obtain ⟨va, vc, ev, RV, _⟩ := own_rd hown2
      cases ev
      have HR := hide RV
      have LT := hide (hown.lt w.heap.size rfl).2
      clear hown hown2 RV FA FZ PA
      go_wp2
      go_ret2
      exact ⟨some ⟨w.heap.size, 0, none⟩, ss.length, by rw [VE.out, SFE.out, FL.out]; rfl, by rw [VE.out]; exact HR.out, hbl, fun _ => ⟨rfl, LT.out⟩⟩
theorem witness_any (a0 : Option Addr) (ss : List M.Sp) (ca : Nat) (w : World) (h : RdS w a0 ss) :
 Calls Tryz.prog 117 #[.slice a0 ss.length ca] w fun e w' =>
  ∃ ag cg, e = .returned (.tuple #[.slice ag (M.witV ss).length cg, errV (M.spF ss)]) ∧ Rd w' ag (M.witV ss) ∧ Below w.heap.size w w' := by
 refine (witness_new a0 ss ca w h).mono ?_
 rintro e w' ⟨ag, cg, rfl, h1, h2, _⟩
 exact ⟨ag, cg, rfl, h1, h2⟩
def LimTreeGives : Prop := ∀ (a bl : Option Addr) (ts : List M.Nd) (ss : List M.Sp) (ca cl : Nat) (W : World), RdN W a ts → RdS W bl ss → Calls Tryz.prog 57 #[.slice a ts.length ca, .slice bl ss.length cl] W fun e w' => e = .returned (.tuple #[.int .i64 (M.limLo ts ss), .int .i64 (M.limHi ts ss), errV (M.limF ts ss)]) ∧ Below W.heap.size W w'
structure TI (w : World) (B p q : Nat) (s : M.EndsS) (W : World) : Prop where
 c0 : W.cell? ⟨p, 0, none⟩ = some (.int .i64 (M.loS s))
 c1 : W.cell? ⟨q, 0, none⟩ = some (.int .i64 (M.hiS s))
 f0 : W.frozen? ⟨p, 0, none⟩ = false
 f1 : W.frozen? ⟨q, 0, none⟩ = false
 size : B ≤ W.heap.size
 below : Below w.heap.size w W
theorem TI.up {w : World} {B p q : Nat} {s : M.EndsS} {W W' : World} (h : TI w B p q s W) (hp : p < B) (hq : q < B) (hb : Below W.heap.size W W') : TI w B p q s W' := by
 have hs := h.size
 exact ⟨(hb.cell (p := ⟨p, 0, none⟩) (show p < _ by omega)).trans h.c0, (hb.cell (p := ⟨q, 0, none⟩) (show q < _ by omega)).trans h.c1, (hb.frozen (p := ⟨p, 0, none⟩) (show p < _ by omega)).trans h.f0, (hb.frozen (p := ⟨q, 0, none⟩) (show q < _ by omega)).trans h.f1, Nat.le_trans hs hb.size, below_on h.below hb⟩
theorem far_cell' {W : World} {p q o o' : Nat} {v : Value} (h : p ≠ q) : (W.setCell ⟨p, o, none⟩ v).cell? ⟨q, o', none⟩ = W.cell? ⟨q, o', none⟩ := World.cell?_setCell_other _ _ _ _ (by intro e; cases e; exact h rfl)
def Far (B : Nat) (W W' : World) : Prop := W.heap.size ≤ W'.heap.size ∧ ∀ b o, B ≤ b → b < W.heap.size → W'.cell? ⟨b, o, none⟩ = W.cell? ⟨b, o, none⟩
theorem Far.trans {B : Nat} {W1 W2 W3 : World} (h1 : Far B W1 W2) (h2 : Far B W2 W3) : Far B W1 W3 := ⟨Nat.le_trans h1.1 h2.1, fun b o hb hl => (h2.2 b o hb (Nat.lt_of_lt_of_le hl h1.1)).trans (h1.2 b o hb hl)⟩
theorem Far.set (B : Nat) (W : World) {p o : Nat} (hp : p < B) (v : Value) : Far B W (W.setCell ⟨p, o, none⟩ v) := ⟨by simp, fun b o' hb _ => far_cell' (by omega)⟩
theorem Far.drew {B : Nat} {W W' : World} (h : Far B W W') : Far B W W'.drew := h
theorem Rd.far {B : Nat} {W W' : World} {ra : Option Addr} {L : List Int} (h : Rd W ra L) (hB : ∀ x, ra = some x → B ≤ x.block) (hf : Far B W W') : Rd W' ra L := by
 refine ⟨h.1, fun hn => ?_⟩
 obtain ⟨b, off, rfl, hb, hc⟩ := h.2 hn
 exact ⟨b, off, rfl, Nat.lt_of_lt_of_le hb hf.1, fun i hi => (hf.2 b _ (hB _ rfl) hb).trans (hc i hi)⟩
theorem TI.more {w : World} {B p q : Nat} {s s' : M.EndsS} {W : World} (h : TI w B p q s W) (hpq : p ≠ q) (hp : w.heap.size ≤ p) (hq : w.heap.size ≤ q) : TI w B p q s' ((W.setCell ⟨p, 0, none⟩ (.int .i64 (M.loS s'))).setCell ⟨q, 0, none⟩ (.int .i64 (M.hiS s'))) := by
 refine ⟨?_, ?_, ?_, ?_, ?_, ?_⟩
 · rw [far_cell' (fun e => hpq e.symm)]; exact World.cell?_setCell_same _ _ _ h.c0
 · exact World.cell?_setCell_same (u := .int .i64 (M.hiS s)) _ _ _ (by rw [far_cell' hpq]; exact h.c1)
 · simpa using h.f0
 · simpa using h.f1
 · simpa using h.size
 · exact (h.below.setCell (p := ⟨p, 0, none⟩) hp _).setCell (p := ⟨q, 0, none⟩) hq _
theorem TI.drew {w : World} {B p q : Nat} {s : M.EndsS} {W : World} (h : TI w B p q s W) : TI w B p q s W.drew := ⟨h.c0, h.c1, h.f0, h.f1, h.size, h.below.drew⟩
set_option maxHeartbeats 2000000 in
theorem tree1_any (w : World) (B p q : Nat) (s : M.EndsS) (v : Int) (P : List Int) (pa : Option Addr) (pc : Nat) (W : World) (h : TI w B p q s W) (hp : p < B) (hq : q < B) (hpq : p ≠ q) (gp : w.heap.size ≤ p) (gq : w.heap.size ≤ q) (v0 : -1000000 ≤ v) (v1 : v ≤ 1000000) :
 Calls Tryz.prog 90 #[.int .i64 v, .slice pa P.length pc, .pointer (some ⟨p, 0, none⟩), .pointer (some ⟨q, 0, none⟩)] W fun e w' => e = .returned (.tuple #[]) ∧ TI w B p q (M.endS s v P) w' ∧ Far B W w' := by
 have c0 := h.c0
 have c1 := h.c1
 have f0 := h.f0
 have f1 := h.f1
 have EL := hide (M.lo_more (s := s) (p := P) v1)
 have EH := hide (M.hi_more (s := s) (p := P) v0)
 have MO := hide (h.more (s' := M.endS s v P) hpq gp gq)
 clear h
 generalize M.loS s = lo at *
 generalize M.hiS s = hi at *
 go_enter Tryz.func90, Tryz.ntmps90
 go_region
 go_end0
 have := MO.out
 rw [EL.out, EH.out] at this
 exact ⟨rfl, this.drew, ((Far.set B W hp _).trans (Far.set B _ hq _)).drew⟩
end Go.Proofs.YtelncekgjfpogahGreatDoor
