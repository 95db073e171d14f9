/-
  What package differ's own closures do with one row more: Moved's counts it, Trees' lays it behind those that are there, and that of all pairs hands on a row of leaves that say different values.
-/
import Derived.Test.YtcaljnhdfbjpnaeKeeps
import Derived.Test.YtcaljnhdfbjpnaeLMathB
import Derived.Deep.AppendLies
import Derived.OwnWalk
namespace Go.Proofs.Ytcaljnhdfbjpnae
open Go.ChangeShapes Go.WideShapes Go.ChangeAt Go.RowKit Go.Lib
set_option linter.unusedVariables false

/-- what is done with a row -/
def DoGives (did q : Nat) (Inv : (Nat → Prop) → Nat → World → Prop) (P : List Int → Prop) : Prop := ∀ (K : Nat → Prop) (s pb pc : Nat) (L : List Int) (W : World), s < 100000 → K pb → pb < W.heap.size → Inv K s W → P L → Rd W (some ⟨pb, 0, none⟩) L → Calls Try.prog did #[.slice (some ⟨pb, 0, none⟩) L.length pc, .pointer (some ⟨q, 0, none⟩)] W fun e w' => e = .returned (.tuple #[]) ∧ Inv K (s + 1) w' ∧ Keeps K W w'

set_option maxHeartbeats 2000000 in
theorem moved1_any (w : World) (p : Nat) (P : List Int → Prop) : DoGives 38 p (MV w p) P := by
  intro K n pb pc L W hn hK hl h hP hr
  have c0 := h.cell
  have f0 := h.froz
  have MO := hide h.more
  have KE := hide ((Keeps.refl K W).set h.out (o := 0) (.int .i64 ((n : Int) + 1)))
  clear h hr hK
  go_enter Try.func38, Try.ntmps38
  go_wp2
  go_end0
  exact ⟨rfl, MO.out, KE.out⟩

theorem infoRow : (Try.prog.info? 23).map (fun i => (i.zero, i.size, i.bytes)) = some (some (.slice none 0 0), 1, 24) := by kernel_rfl

set_option maxHeartbeats 4000000 in
theorem trees1_any (w : World) (p : Nat) (P : List Int → Prop) : DoGives 39 p (TV w P p) P := by
  intro K n pb pc L W hn hK hl h hP hr
  obtain ⟨v, Vs, c0, ho, ok, fr⟩ := h.rows
  have f0 := h.froz
  obtain ⟨i1, hi1, he1⟩ := Option.map_eq_some_iff.1 infoRow
  have jz0 : i1.zero = some (.slice none 0 0) := congrArg Prod.fst he1
  have jz1 : i1.size = 1 := congrArg (fun x => x.2.1) he1
  have jz2 : i1.bytes = 24 := congrArg (fun x => x.2.2) he1
  have I1 := hide hi1
  have HO := hide ho
  have plt := h.lt
  have pK := h.out
  have ne : p ≠ pb := fun e => pK (e ▸ hK)
  have fin : Hid (∀ (o : Obj) (w5 : World) (g cap : Nat), w5.ownsRow (p + 1) 23 1 (.slice (some ⟨g, 0, none⟩) (n + 1) cap) (n + 1) (Vs ++ [.slice (some ⟨pb, 0, none⟩) L.length pc]) → (W.alloc o).grownBy w5 v.ownBlock → (v.ownBlock = some g ∨ g = W.heap.size + 1) →
      (w5.cell? ⟨p, 0, none⟩ = some v ∧ w5.frozen? ⟨p, 0, none⟩ = false) ∧ TV w P p K (n + 1) (w5.setCell ⟨p, 0, none⟩ (.slice (some ⟨g, 0, none⟩) (n + 1) cap)) ∧ Keeps K W (w5.setCell ⟨p, 0, none⟩ (.slice (some ⟨g, 0, none⟩) (n + 1) cap))) := by
    intro o w5 g cap hown hgrow hat
    have vp : v.ownBlock ≠ some p := fun e => by have := (ho.lt p e).1; omega
    have hgr : W.grownBy w5 v.ownBlock := grown_trans (World.grownBy_alloc W o v.ownBlock) hgrow (.inl rfl)
    have cp : w5.cell? ⟨p, 0, none⟩ = some v := (hgr.cell_far ⟨p, 0, none⟩ plt (fun e => vp e.symm)).trans c0
    have fp : w5.frozen? ⟨p, 0, none⟩ = false := (hgr.frozen_far ⟨p, 0, none⟩ plt (fun e => vp e.symm)).trans f0
    have gp : p + 1 ≤ g := (hown.lt g rfl).1
    have vK : ∀ b, K b → v.ownBlock ≠ some b := fun b hb e => ok b e hb
    have ke : Keeps K W w5 := ⟨hgr.size, fun b o hb hl => hgr.cell_far ⟨b, o, none⟩ hl (fun e => vK b hb e.symm)⟩
    have bl : Below w.heap.size w w5 := h.below.grown hgr h.below.size (fun k hk => by have := (ho.lt k hk).1; have := h.ge; omega)
    refine ⟨⟨cp, fp⟩, ⟨?_, h.ge, pK, ?_, ?_, bl.setCell (p := ⟨p, 0, none⟩) h.ge _, ⟨_, _, World.cell?_setCell_same (u := v) _ _ _ cp, hown.kept grown_set (.inr fun e => absurd (show g = p by simpa [Value.ownBlock] using e) (by omega)), ?_, ?_⟩⟩, ke.set pK _⟩
    · have := hgr.size; simp; omega
    · intro b hb; have := h.kb b hb; have := hgr.size; simp; omega
    · simpa using fp
    · intro g' hg' hk'
      have : g = g' := by simpa [Value.ownBlock] using hg'
      subst this
      rcases hat with e | e
      · exact ok g e hk'
      · have := h.kb g hk'; omega
    · intro _
      by_cases h0 : 0 < n
      · obtain ⟨qb, qc, Q, f1, f2, f3, f4, f5, f6⟩ := fr h0
        have f2' : Rd (w5.setCell ⟨p, 0, none⟩ (.slice (some ⟨g, 0, none⟩) (n + 1) cap)) (some ⟨qb, 0, none⟩) Q := by
          refine f2.keeps (K := fun b => b = qb) (fun _ x hx => by cases hx; rfl) ?_
          refine Keeps.set (K := fun b => b = qb) (p := p) ⟨hgr.size, fun b o hb hl => ?_⟩ (fun e => f4 e) _
          exact hgr.cell_far ⟨b, o, none⟩ hl (fun e => f6 (by rw [← e, hb]))
        refine ⟨qb, qc, Q, ?_, f2', f3, f4, ?_, ?_⟩
        · rw [List.getElem?_append_left (by have := (List.getElem?_eq_some_iff.1 f1).1; exact this)]; exact f1
        · have := hgr.size; simp; omega
        · intro e
          have : g = qb := by simpa [Value.ownBlock] using e
          subst this
          rcases hat with e | e
          · exact f6 e
          · omega
      · have n0 : n = 0 := by omega
        have vl : Vs.length = n := by have := ho.1; omega
        have ve : Vs = [] := List.length_eq_zero_iff.1 (by omega)
        refine ⟨pb, pc, L, by rw [ve]; rfl, hr.keeps (K := K) (fun _ x hx => by cases hx; exact hK) (ke.set pK _), hP, ne, ?_, ?_⟩
        · have := hgr.size; simp; omega
        · intro e
          have : g = pb := by simpa [Value.ownBlock] using e
          subst this
          rcases hat with e | e
          · exact ok g e hK
          · omega
  clear h hr hK ok fr ho hi1
  go_enter Try.func39, Try.ntmps39
  go_wp2_with (at_builtin; refine wpList_append_lies _ rfl (.tmp 3) (.tmp 5) 72 rfl (p + 1) 23 i1 (.slice none 0 0) 1 24 Try.underlying72 I1.out jz0 jz1 jz2 rfl (by omega) v n Vs rfl (HO.out.alloc _) ⟨W.heap.size, 0, none⟩ 1 1 [.slice (some ⟨pb, 0, none⟩) L.length pc] rfl rfl (World.news_of_block (heap_alloc_new _ _)) (by simp [Value.oneCell']) (by omega) (by unfold maxLen; omega) (by omega) (by simp; omega) (W.heap.size + 1) (by simp) ?_; intro g cap w5 hown hgrow hat hlt; have FF := hide (fin.out _ w5 g cap hown hgrow hat); have c5 := FF.out.1.1; have f5 := FF.out.1.2; clear hown hgrow hat)
  go_end0
  exact ⟨rfl, FF.out.2.1, FF.out.2.2⟩

/-- what the closure of all pairs finds: a tree, a leaf, and what is to be done -/
structure EV (ba bl bd did q : Nat) (a : Option Addr) (n ca i : Nat) (Inv : (Nat → Prop) → Nat → World → Prop) (K : Nat → Prop) (s : Nat) (W : World) : Prop where
  inv : Inv K s W
  ka : K ba
  kl : K bl
  kd : K bd
  la : ba < W.heap.size
  ll : bl < W.heap.size
  ld : bd < W.heap.size
  ca : W.cell? ⟨ba, 0, none⟩ = some (.slice a n ca)
  cl : W.cell? ⟨bl, 0, none⟩ = some (.int .i64 (i : Nat))
  cd : W.cell? ⟨bd, 0, none⟩ = some (.func (.func did) #[] #[.pointer (some ⟨q, 0, none⟩)])
theorem EV.keeps {ba bl bd did q : Nat} {a : Option Addr} {n ca i : Nat} {Inv : (Nat → Prop) → Nat → World → Prop} {K : Nat → Prop} {s s' : Nat} {W W' : World} (h : EV ba bl bd did q a n ca i Inv K s W) (hi : Inv K s' W') (hk : Keeps K W W') : EV ba bl bd did q a n ca i Inv K s' W' :=
  ⟨hi, h.ka, h.kl, h.kd, Nat.lt_of_lt_of_le h.la hk.1, Nat.lt_of_lt_of_le h.ll hk.1, Nat.lt_of_lt_of_le h.ld hk.1, (hk.2 ba 0 h.ka h.la).trans h.ca, (hk.2 bl 0 h.kl h.ll).trans h.cl, (hk.2 bd 0 h.kd h.ld).trans h.cd⟩

set_option maxHeartbeats 4000000 in
theorem each1_any (w : World) (ba bl bd did q : Nat) (a : Option Addr) (ts us : List M.Nd) (ca i j : Nat) (Inv : (Nat → Prop) → Nat → World → Prop) (P : List Int → Prop) (D : Doer w Inv) (G : DoGives did q Inv P) (hfn : ∀ args w, (callFunc did args).run Try.prog w = .ok (.enter did args) w)
    (ht : RdN w a ts) (hi : i < ts.length) (K : Nat → Prop) (s pb pc : Nat) (L : List Int) (W : World) (hs : s < 100000) (hK : K pb) (hl : pb < W.heap.size) (h : EV ba bl bd did q a ts.length ca i Inv K s W) (hP : M.nv (M.nAt us j) ≠ M.nv (M.nAt ts i) → P L) (hr : Rd W (some ⟨pb, 0, none⟩) L) :
    Calls Try.prog 65 #[.int .i64 (M.nv (M.nAt us j)), .slice (some ⟨pb, 0, none⟩) L.length pc, .pointer (some ⟨ba, 0, none⟩), .pointer (some ⟨bl, 0, none⟩), .pointer (some ⟨bd, 0, none⟩)] W fun e w' => e = .returned (.tuple #[]) ∧ EV ba bl bd did q a ts.length ca i Inv K (s + M.tmC ts us i j) w' ∧ Keeps K W w' := by
  have c0 := h.ca
  have c1 := h.cl
  have c2 := h.cd
  obtain ⟨b0, off, rfl, hb0, hc⟩ := (ht.below (D.below h.inv)).2 (by intro e; rw [e] at hi; simp at hi)
  have c3 := (hc i hi).2.2.2.2.2
  have H := hide h
  have iz : (i : Int) < (ts.length : Int) := by omega
  by_cases e : M.nv (M.nAt us j) = M.nv (M.nAt ts i)
  · have q1 : (M.nv (M.nAt us j) != M.nv (M.nAt ts i)) = false := by simp [e]
    have t0 : M.tmC ts us i j = 0 := by unfold M.tmC; rw [if_pos e]
    rw [t0]
    clear h hc ht hP hr t0 e G
    generalize M.nv (M.nAt us j) = v at *
    generalize M.nv (M.nAt ts i) = u at *
    go_enter Try.func65, Try.ntmps65
    go_wp2
    go_end0
    exact ⟨rfl, H.out, Keeps.refl _ _⟩
  · have q1 : (M.nv (M.nAt us j) != M.nv (M.nAt ts i)) = true := by simp [e]
    have t0 : M.tmC ts us i j = 1 := by unfold M.tmC; rw [if_neg e]
    rw [t0]
    have C := hide (G K s pb pc L W hs hK hl h.inv (hP e) hr)
    clear h hc ht hP hr t0 e G
    generalize M.nv (M.nAt us j) = v at *
    generalize M.nv (M.nAt ts i) = u at *
    go_enter Try.func65, Try.ntmps65
    go_wp2_with (refine C.out.mono ?_; rintro e w1 ⟨rfl, hi1, hk1⟩; have N1 := hide (H.out.keeps hi1 hk1); have K1 := hide hk1; clear hi1 hk1)
    go_end0
    exact ⟨rfl, N1.out, K1.out⟩

end Go.Proofs.Ytcaljnhdfbjpnae
