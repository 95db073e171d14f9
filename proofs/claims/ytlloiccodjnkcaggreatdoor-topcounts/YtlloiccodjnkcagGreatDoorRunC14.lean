/-
  Several texts as one: Keeps, MathLb, MathLc, MathDh, DifDo.
-/
import Derived.Test.YtlloiccodjnkcagGreatDoorRunC3
import Derived.Test.YtlloiccodjnkcagGreatDoorRunC13
import Derived.Test.YtlloiccodjnkcagGreatDoorRunC9
import Derived.RegionTactic
import Derived.Test.YtlloiccodjnkcagGreatDoorRunC8
import Derived.Deep.AppendLies
import Derived.OwnWalk
namespace Go.Proofs.YtlloiccodjnkcagGreatDoor
open Go.ChangeShapes Go.WideShapes Go.ChangeAt Go.RowKit Go.Lib
set_option linter.unusedVariables false

/-- some blocks hold what they held -/
def Keeps (K : Nat → Prop) (W W' : World) : Prop := W.heap.size ≤ W'.heap.size ∧ ∀ b o, K b → b < W.heap.size → W'.cell? ⟨b, o, none⟩ = W.cell? ⟨b, o, none⟩
theorem Keeps.refl (K : Nat → Prop) (W : World) : Keeps K W W := ⟨Nat.le_refl _, fun _ _ _ _ => rfl⟩
theorem Keeps.trans {K : Nat → Prop} {W1 W2 W3 : World} (h1 : Keeps K W1 W2) (h2 : Keeps K W2 W3) : Keeps K W1 W3 := ⟨Nat.le_trans h1.1 h2.1, fun b o hb hl => (h2.2 b o hb (Nat.lt_of_lt_of_le hl h1.1)).trans (h1.2 b o hb hl)⟩
theorem Keeps.of {K : Nat → Prop} {W W' : World} (h : Below W.heap.size W W') : Keeps K W W' := ⟨h.size, fun b o _ hl => h.cell (p := ⟨b, o, none⟩) hl⟩
theorem Keeps.mono {K K' : Nat → Prop} {W W' : World} (h : Keeps K W W') (hk : ∀ b, K' b → K b) : Keeps K' W W' := ⟨h.1, fun b o hb hl => h.2 b o (hk b hb) hl⟩
theorem Keeps.drew {K : Nat → Prop} {W W' : World} (h : Keeps K W W') : Keeps K W W'.drew := h
theorem Keeps.set {K : Nat → Prop} {W W' : World} (h : Keeps K W W') {p o : Nat} (hp : ¬ K p) (v : Value) : Keeps K W (W'.setCell ⟨p, o, none⟩ v) :=
  ⟨by simpa using h.1, fun b o' hb hl => (World.cell?_setCell_other _ _ _ _ (by intro e; cases e; exact hp hb)).trans (h.2 b o' hb hl)⟩
theorem Rd.keeps {K : Nat → Prop} {W W' : World} {ra : Option Addr} {L : List Int} (h : Rd W ra L) (hB : L ≠ [] → ∀ x, ra = some x → K x.block) (hf : Keeps K W W') : Rd W' ra L := by
  refine ⟨h.1, fun hn => ?_⟩
  obtain ⟨b, off, rfl, hb, hc⟩ := h.2 hn
  exact ⟨b, off, rfl, Nat.lt_of_lt_of_le hb hf.1, fun i hi => (hf.2 b _ (hB hn _ rfl) hb).trans (hc i hi)⟩
theorem RdS.keeps {K : Nat → Prop} {W W' : World} {ra : Option Addr} {L : List M.Sp} (h : RdS W ra L) (hB : L ≠ [] → ∀ x, ra = some x → K x.block) (hf : Keeps K W W') : RdS W' ra L := by
  refine ⟨h.1, fun hn => ?_⟩
  obtain ⟨b, off, rfl, hb, hc⟩ := h.2 hn
  refine ⟨b, off, rfl, Nat.lt_of_lt_of_le hb hf.1, fun i hi => ?_⟩
  obtain ⟨c0, c1, c2⟩ := hc i hi
  exact ⟨(hf.2 b _ (hB hn _ rfl) hb).trans c0, (hf.2 b _ (hB hn _ rfl) hb).trans c1, (hf.2 b _ (hB hn _ rfl) hb).trans c2⟩
/-- what is kept count of, in blocks that are not among some others -/
structure Doer (w : World) (Inv : (Nat → Prop) → Nat → World → Prop) : Prop where
  up : ∀ {K K' : Nat → Prop} {s : Nat} {W W' : World}, Inv K s W → (∀ b, K' b → K b ∨ (W.heap.size ≤ b ∧ b < W'.heap.size)) → Below W.heap.size W W' → Inv K' s W'
  kb : ∀ {K : Nat → Prop} {s : Nat} {W : World}, Inv K s W → ∀ b, K b → b < W.heap.size
  below : ∀ {K : Nat → Prop} {s : Nat} {W : World}, Inv K s W → Below w.heap.size w W
theorem Doer.on {w : World} {Inv : (Nat → Prop) → Nat → World → Prop} (D : Doer w Inv) {K : Nat → Prop} {s : Nat} {W W' : World} (h : Inv K s W) (hb : Below W.heap.size W W') : Inv K s W' := D.up h (fun b hk => .inl hk) hb
theorem Doer.less {w : World} {Inv : (Nat → Prop) → Nat → World → Prop} (D : Doer w Inv) {K K' : Nat → Prop} {s : Nat} {W : World} (h : Inv K s W) (hk : ∀ b, K' b → K b) : Inv K' s W := D.up h (fun b q => .inl (hk b q)) (Below.refl _ _)

/-- a number in a block of its own -/
structure MV (w : World) (p : Nat) (K : Nat → Prop) (n : Nat) (W : World) : Prop where
  cell : W.cell? ⟨p, 0, none⟩ = some (.int .i64 (n : Nat))
  froz : W.frozen? ⟨p, 0, none⟩ = false
  lt : p < W.heap.size
  ge : w.heap.size ≤ p
  out : ¬ K p
  kb : ∀ b, K b → b < W.heap.size
  below : Below w.heap.size w W
theorem up_kb {K K' : Nat → Prop} {W W' : World} (hk : ∀ b, K' b → K b ∨ (W.heap.size ≤ b ∧ b < W'.heap.size)) (h : ∀ b, K b → b < W.heap.size) (hb : W.heap.size ≤ W'.heap.size) : ∀ b, K' b → b < W'.heap.size := fun b q => by
  rcases hk b q with e | e
  · exact Nat.lt_of_lt_of_le (h b e) hb
  · exact e.2
theorem mv_doer (w : World) (p : Nat) : Doer w (MV w p) :=
  ⟨fun {K K' s W W'} h hk hb => ⟨(hb.cell (p := ⟨p, 0, none⟩) h.lt).trans h.cell, (hb.frozen (p := ⟨p, 0, none⟩) h.lt).trans h.froz, Nat.lt_of_lt_of_le h.lt hb.size, h.ge, fun q => by
      rcases hk p q with e | e
      · exact h.out e
      · exact absurd h.lt (by omega), up_kb hk h.kb hb.size, below_on h.below hb⟩, fun h => h.kb, fun h => h.below⟩
theorem MV.more {w : World} {p : Nat} {K : Nat → Prop} {n : Nat} {W : World} (h : MV w p K n W) : MV w p K (n + 1) (W.setCell ⟨p, 0, none⟩ (.int .i64 ((n : Int) + 1))) :=
  ⟨by rw [World.cell?_setCell_same _ _ _ h.cell]; rfl, by simpa using h.froz, by simpa using h.lt, h.ge, h.out, by simpa using h.kb, h.below.setCell (p := ⟨p, 0, none⟩) h.ge _⟩

/-- rows in a slice that grows, whose first shows something -/
structure TV (w : World) (P : List Int → Prop) (p : Nat) (K : Nat → Prop) (n : Nat) (W : World) : Prop where
  lt : p < W.heap.size
  ge : w.heap.size ≤ p
  out : ¬ K p
  kb : ∀ b, K b → b < W.heap.size
  froz : W.frozen? ⟨p, 0, none⟩ = false
  below : Below w.heap.size w W
  rows : ∃ v Vs, W.cell? ⟨p, 0, none⟩ = some v ∧ W.ownsRow (p + 1) 22 1 v n Vs ∧ (∀ g, v.ownBlock = some g → ¬ K g) ∧ (0 < n → ∃ pb pc L, Vs[0]? = some (.slice (some ⟨pb, 0, none⟩) L.length pc) ∧ Rd W (some ⟨pb, 0, none⟩) L ∧ P L ∧ p ≠ pb ∧ pb < W.heap.size ∧ v.ownBlock ≠ some pb)
theorem own_lt {W : World} {base n e size : Nat} {v : Value} {l : List Value} (h : W.ownsRow base e size v n l) {g : Nat} (hg : v.ownBlock = some g) : g < W.heap.size := (h.lt g hg).2
theorem tv_doer (w : World) (P : List Int → Prop) (p : Nat) : Doer w (TV w P p) := by
  refine ⟨fun {K K' s W W'} h hk hb => ⟨Nat.lt_of_lt_of_le h.lt hb.size, h.ge, fun q => ?_, up_kb hk h.kb hb.size, (hb.frozen (p := ⟨p, 0, none⟩) h.lt).trans h.froz, below_on h.below hb, ?_⟩, fun h => h.kb, fun h => h.below⟩
  · rcases hk p q with e | e
    · exact h.out e
    · exact absurd h.lt (by omega)
  · obtain ⟨v, Vs, c, o, ok, f⟩ := h.rows
    refine ⟨v, Vs, (hb.cell (p := ⟨p, 0, none⟩) h.lt).trans c, own_up o hb, fun g hg q => ?_, fun hn => ?_⟩
    · rcases hk g q with e | e
      · exact ok g hg e
      · exact absurd (own_lt o hg) (by omega)
    · obtain ⟨pb, pc, L, f1, f2, f3, f4, f5, f6⟩ := f hn
      exact ⟨pb, pc, L, f1, f2.below hb, f3, f4, Nat.lt_of_lt_of_le f5 hb.size, f6⟩

end Go.Proofs.YtlloiccodjnkcagGreatDoor

namespace Go.Proofs.YtlloiccodjnkcagGreatDoor.M
set_option linter.unusedVariables false

/-! ### rising, each once -/
def unqK (S : List Int) : Nat → List Int
  | 0 => []
  | k + 1 => if k = 0 ∨ S.getD k 0 ≠ S.getD (k - 1) 0 then unqK S k ++ [S.getD k 0] else unqK S k
theorem unq_len (S : List Int) : ∀ k, (unqK S k).length ≤ k
  | 0 => by unfold unqK; simp
  | k + 1 => by
    have := unq_len S k
    unfold unqK
    split
    · simp; omega
    · omega
theorem pw_le {S : List Int} (hs : S.Pairwise (fun a b => a ≤ b)) {i j : Nat} (hij : i ≤ j) (hj : j < S.length) : S.getD i 0 ≤ S.getD j 0 := by
  rw [getD_at hj, getD_at (show i < S.length by omega)]
  by_cases e : i = j
  · subst e; exact Int.le_refl _
  · exact List.pairwise_iff_getElem.1 hs i j (by omega) hj (by omega)
theorem unq_spec {S : List Int} (hs : S.Pairwise (fun a b => a ≤ b)) : ∀ k, k ≤ S.length → (unqK S k).Pairwise (fun a b => a < b) ∧ (∀ x, x ∈ unqK S k ↔ ∃ i, i < k ∧ S.getD i 0 = x)
  | 0, h => by unfold unqK; simp
  | k + 1, h => by
    obtain ⟨i1, i2⟩ := unq_spec hs k (by omega)
    unfold unqK
    by_cases c : k = 0 ∨ S.getD k 0 ≠ S.getD (k - 1) 0
    · rw [if_pos c]
      refine ⟨?_, fun x => ?_⟩
      · rw [List.pairwise_append]
        refine ⟨i1, by simp, fun a ha b hb => ?_⟩
        obtain ⟨i, hi, rfl⟩ := (i2 a).1 ha
        have hb' : b = S.getD k 0 := by simpa using hb
        subst hb'
        have h1 := pw_le hs (show i ≤ k - 1 by omega) (show k - 1 < S.length by omega)
        have h2 := pw_le hs (show k - 1 ≤ k by omega) (show k < S.length by omega)
        rcases c with c | c
        · omega
        · omega
      · rw [List.mem_append, i2]
        constructor
        · rintro (⟨i, hi, e⟩ | q)
          · exact ⟨i, by omega, e⟩
          · exact ⟨k, by omega, (List.mem_singleton.1 q).symm⟩
        · rintro ⟨i, hi, e⟩
          by_cases ik : i = k
          · subst ik; exact .inr (List.mem_singleton.2 e.symm)
          · exact .inl ⟨i, by omega, e⟩
    · rw [if_neg c]
      refine ⟨i1, fun x => ?_⟩
      rw [i2]
      constructor
      · rintro ⟨i, hi, e⟩; exact ⟨i, by omega, e⟩
      · rintro ⟨i, hi, e⟩
        by_cases ik : i = k
        · subst ik
          have c1 : i ≠ 0 := fun q => c (.inl q)
          have c2 : S.getD i 0 = S.getD (i - 1) 0 := Decidable.not_not.1 (fun q => c (.inr q))
          exact ⟨i - 1, by omega, by rw [← c2]; exact e⟩
        · exact ⟨i, by omega, e⟩
theorem rise_same : ∀ {a b : List Int}, a.Pairwise (fun x y => x < y) → b.Pairwise (fun x y => x < y) → (∀ x, x ∈ a ↔ x ∈ b) → a = b
  | [], [], _, _, _ => rfl
  | [], y :: b, _, _, h => absurd ((h y).2 (by simp)) (by simp)
  | x :: a, [], _, _, h => absurd ((h x).1 (by simp)) (by simp)
  | x :: a, y :: b, ha, hb, h => by
    rw [List.pairwise_cons] at ha hb
    have e : x = y := by
      rcases List.mem_cons.1 ((h x).1 (by simp)) with q | q
      · exact q
      · rcases List.mem_cons.1 ((h y).2 (by simp)) with p | p
        · exact p.symm
        · have := hb.1 x q; have := ha.1 y p; omega
    subst e
    rw [rise_same ha.2 hb.2 (fun z => ⟨fun hz => ?_, fun hz => ?_⟩)]
    · rcases List.mem_cons.1 ((h z).1 (List.mem_cons_of_mem _ hz)) with q | q
      · have := ha.1 z hz; omega
      · exact q
    · rcases List.mem_cons.1 ((h z).2 (List.mem_cons_of_mem _ hz)) with q | q
      · have := hb.1 z hz; omega
      · exact q

/-! ### a tree's cuts of a feature -/
def cutL (t : List Nd) (f : Int) : Nat → List Int
  | 0 => []
  | k + 1 => if nf (nAt t k) = f then cutL t f k ++ [nc (nAt t k)] else cutL t f k
theorem cutL_len (t : List Nd) (f : Int) : ∀ k, (cutL t f k).length ≤ k
  | 0 => by unfold cutL; simp
  | k + 1 => by
    have := cutL_len t f k
    unfold cutL
    split
    · simp; omega
    · omega
theorem cutL_mem (t : List Nd) (f : Int) : ∀ k x, x ∈ cutL t f k ↔ ∃ i, i < k ∧ nf (nAt t i) = f ∧ nc (nAt t i) = x
  | 0, x => by unfold cutL; simp
  | k + 1, x => by
    have ih := cutL_mem t f k x
    unfold cutL
    by_cases c : nf (nAt t k) = f
    · rw [if_pos c, List.mem_append, ih]
      constructor
      · rintro (⟨i, hi, e⟩ | q)
        · exact ⟨i, by omega, e⟩
        · exact ⟨k, by omega, c, (List.mem_singleton.1 q).symm⟩
      · rintro ⟨i, hi, e1, e2⟩
        by_cases ik : i = k
        · subst ik; exact .inr (by simp [e2])
        · exact .inl ⟨i, by omega, e1, e2⟩
    · rw [if_neg c, ih]
      constructor
      · rintro ⟨i, hi, e⟩; exact ⟨i, by omega, e⟩
      · rintro ⟨i, hi, e1, e2⟩
        by_cases ik : i = k
        · subst ik; exact absurd e1 c
        · exact ⟨i, by omega, e1, e2⟩
theorem cut_few {t : List Nd} {f : Int} (hf : 0 ≤ f) : ∀ k, (cutL t f k).length + (lvs t k).length ≤ k
  | 0 => by unfold cutL lvs; simp
  | k + 1 => by
    have ih := cut_few (t := t) hf k
    unfold cutL lvs
    by_cases c : leafB (nAt t k) = true
    · have c' : nf (nAt t k) = -1 := of_decide_eq_true c
      rw [if_pos c, if_neg (by omega), List.length_append]
      simp
      omega
    · rw [if_neg c]
      split
      · rw [List.length_append]; simp; omega
      · omega
def cutsS (t : List Nd) (f : Int) : List Int := unqK (sortI (cutL t f t.length)) (cutL t f t.length).length
theorem cutsS_pw (t : List Nd) (f : Int) : (cutsS t f).Pairwise (fun a b => a < b) := by
  unfold cutsS
  exact (unq_spec (sort_pw _) _ (by rw [sort_length]; exact Nat.le_refl _)).1
theorem cutsS_mem (t : List Nd) (f x : Int) : x ∈ cutsS t f ↔ ∃ i, i < t.length ∧ nf (nAt t i) = f ∧ nc (nAt t i) = x := by
  unfold cutsS
  rw [(unq_spec (sort_pw _) _ (by rw [sort_length]; exact Nat.le_refl _)).2, ← cutL_mem]
  constructor
  · rintro ⟨i, hi, e⟩
    rw [getD_at (by rw [sort_length]; exact hi)] at e
    rw [← e]
    exact (sort_perm _).mem_iff.1 (List.getElem_mem _)
  · intro h
    obtain ⟨i, hi, e⟩ := List.getElem_of_mem ((sort_perm (cutL t f t.length)).mem_iff.2 h)
    refine ⟨i, by rw [← sort_length]; exact hi, ?_⟩
    rw [getD_at hi]; exact e
theorem cutsS_ok {t : List Nd} {m f : Int} (F : Fair t m) (hf : 0 ≤ f) : cutsI (cutsS t f) = 0 := by
  rw [cuts_ok]
  have l63 := F.1
  refine ⟨?_, fun x hx => ?_, cutsS_pw t f⟩
  · have h1 := unq_len (sortI (cutL t f t.length)) (cutL t f t.length).length
    have h2 : (cutL t f t.length).length ≤ 60 := by
      have hk := cut_few (t := t) hf t.length
      have := halves F
      omega
    unfold cutsS
    omega
  · obtain ⟨i, hi, e1, e2⟩ := (cutsS_mem t f x).1 hx
    have := (node_ask (F.2.2.2.2.1 i hi) (by omega)).2.2.1
    rw [← e2]; exact this

/-! ### what comes with a cell -/
theorem to_agree {t : List Nd} {m : Int} (h : Right t m) {r s : List Int} (hq : ∀ i, i < t.length → nf (nAt t i) ≠ -1 → lessC (nAt t i) (r.getD (nf (nAt t i)).toNat 0) = lessC (nAt t i) (s.getD (nf (nAt t i)).toNat 0)) : ∀ k i, i < t.length → t.length ≤ k + i → toD t r i = toD t s i
  | 0, i, hi, hk => by omega
  | k + 1, i, hi, hk => by
    by_cases hl : nf (nAt t i) = -1
    · rw [to_leaf hi hl, to_leaf hi hl]
    · obtain ⟨j, ej, j1, j2⟩ := next_in h r hi hl
      have e2 : nextI (nAt t i) s = j := by
        rw [← ej]; unfold nextI; rw [hq i hi hl]
      rw [to_next h hi hl ej, to_next h hi hl e2]
      exact to_agree h hq k j j2 (by omega)
def valS (t : List Nd) (r : List Int) (f : Nat) (c : Int) : Int := nv (nAt t (toD t (r.set f c) 0))
def stepsF (t : List Nd) (r : List Int) (f : Int) : Int := if readyF t r ≠ 0 then readyF t r else if f < 0 ∨ (r.length : Int) ≤ f then 1 else 0
def valsS (t : List Nd) (r : List Int) (f : Nat) : List Int := valS t r f (-2000000) :: (cutsS t (f : Int)).map (valS t r f)
def stepsC (t : List Nd) (r : List Int) (f : Int) : List Int := if stepsF t r f = 0 then cutsS t f else []
def stepsV (t : List Nd) (r : List Int) (f : Int) : List Int := if stepsF t r f = 0 then valsS t r f.toNat else []
theorem steps_ok {t : List Nd} {r : List Int} {f : Int} (h : stepsF t r f = 0) : readyF t r = 0 ∧ 0 ≤ f ∧ f < (r.length : Int) := by
  unfold stepsF at h
  by_cases c : readyF t r = 0
  · rw [if_neg (by simp [c])] at h
    by_cases d : f < 0 ∨ (r.length : Int) ≤ f
    · rw [if_pos d] at h; cases h
    · exact ⟨c, by omega, by omega⟩
  · rw [if_pos c] at h; exact absurd h c
theorem row_set {r : List Int} {f : Nat} {c : Int} (h : rowF r = 0) (hc : outI c = false) : rowF (r.set f c) = 0 := by
  rw [row_ok] at h ⊢
  refine ⟨by rw [List.length_set]; exact h.1, fun x hx => ?_⟩
  rcases List.mem_or_eq_of_mem_set hx with q | q
  · exact h.2 x q
  · rw [q]; exact good_cell hc
/-- numbers between the same cuts come to the same -/
theorem val_same {t : List Nd} {m : Int} (F : Fair t m) {r : List Int} {f : Nat} {x y : Int} (hx : x ≠ nilI) (hy : y ≠ nilI) (h : ∀ q ∈ cutsS t (f : Int), x < q ↔ y < q) : valS t r f x = valS t r f y := by
  unfold valS
  rw [to_agree F.2.2.2.2.1 (r := r.set f x) (s := r.set f y) (fun i hi hl => ?_) t.length 0 F.2.1 (by omega)]
  have g0 := (node_ask (F.2.2.2.2.1 i hi) hl).1
  by_cases e : (nf (nAt t i)).toNat = f
  · have hm : nc (nAt t i) ∈ cutsS t (f : Int) := (cutsS_mem t _ _).2 ⟨i, hi, by omega, rfl⟩
    rw [e]
    by_cases hfl : f < r.length
    · rw [gd_self hfl, gd_self hfl]
      unfold lessC
      rw [if_neg hx, if_neg hy]
      have := h _ hm
      by_cases c : x < nc (nAt t i)
      · rw [decide_eq_true c, decide_eq_true (this.1 c)]
      · rw [decide_eq_false c, decide_eq_false (fun q => c (this.2 q))]
    · rw [List.set_eq_of_length_le (by omega), List.set_eq_of_length_le (by omega)]
  · rw [gd_ne e, gd_ne e]
theorem not_nil {x : Int} (h : -2000000 ≤ x) : x ≠ nilI := fun e => by unfold nilI at e; omega
/-- what comes with a cell is what is told of its bin -/
theorem steps_bin {t : List Nd} {r : List Int} {f : Int} {c : Int} (h : stepsF t r f = 0) (hc : outI c = false) : cutsI (cutsS t f) = 0 ∧ readyF t (r.set f.toNat c) = 0 ∧ (valsS t r f.toNat).length = (cutsS t f).length + 1 ∧ binI (cutsS t f) c < (valsS t r f.toNat).length ∧ (valsS t r f.toNat).getD (binI (cutsS t f) c) 0 = evalV t (r.set f.toNat c) := by
  obtain ⟨hy, f0, f1⟩ := steps_ok h
  obtain ⟨hr, ht⟩ := ready_ok hy
  obtain ⟨F, _⟩ := tree_ok ht
  obtain ⟨fn, rfl⟩ : ∃ fn : Nat, f = (fn : Int) := ⟨f.toNat, by omega⟩
  rw [Int.toNat_natCast]
  have ce := cutsS_ok F f0
  have rs : readyF t (r.set fn c) = 0 := by rw [ready_tree (row_set hr hc), List.length_set]; exact ht
  have vl : (valsS t r fn).length = (cutsS t (fn : Int)).length + 1 := by unfold valsS; simp
  have bl := bin_le (cutsS t (fn : Int)) c
  obtain ⟨c1, c2⟩ := out_false hc
  have pw := cutsS_pw t (fn : Int)
  have ev : evalV t (r.set fn c) = valS t r fn c := by unfold evalV valS; rw [if_pos rs]
  refine ⟨ce, rs, vl, by omega, ?_⟩
  rw [ev]
  rcases hk : binI (cutsS t (fn : Int)) c with _ | k
  · show valS t r fn (-2000000) = _
    refine val_same F (not_nil (by omega)) (not_nil (by omega)) (fun q hq => ?_)
    obtain ⟨i, hi, rfl⟩ := List.getElem_of_mem hq
    have h1 := bin_high _ c pw i hi (by omega)
    have h2 := out_false (((cuts_ok _).1 ce).2.1 _ (List.getElem_mem hi))
    omega
  · have hkl : k < (cutsS t (fn : Int)).length := by omega
    have e : (valsS t r fn).getD (k + 1) 0 = valS t r fn (cutsS t (fn : Int))[k] := by
      unfold valsS
      rw [List.getD_cons_succ, getD_at (by simpa using hkl)]
      simp
    rw [e]
    have h2 := out_false (((cuts_ok _).1 ce).2.1 _ (List.getElem_mem hkl))
    refine val_same F (not_nil (by omega)) (not_nil (by omega)) (fun q hq => ?_)
    obtain ⟨i, hi, rfl⟩ := List.getElem_of_mem hq
    have lk := bin_low _ c pw k hkl (by omega)
    by_cases c3 : i < binI (cutsS t (fn : Int)) c
    · have l1 := bin_low _ c pw i hi c3
      have l2 : (cutsS t (fn : Int))[i] ≤ (cutsS t (fn : Int))[k] := by
        by_cases ik : i = k
        · subst ik; exact Int.le_refl _
        · exact Int.le_of_lt (List.pairwise_iff_getElem.1 pw i k hi hkl (by omega))
      omega
    · have l1 := bin_high _ c pw i hi (by omega)
      have l2 := List.pairwise_iff_getElem.1 pw k i hkl hi (by omega)
      omega

end Go.Proofs.YtlloiccodjnkcagGreatDoor.M

namespace Go.Proofs.YtlloiccodjnkcagGreatDoor.M
set_option linter.unusedVariables false

theorem any_at {l : List Sp} : anyS l = true ↔ ∀ i, i < l.length → hasS (l.getD i (0, 0, false)) = true := by
  unfold anyS
  rw [List.all_eq_true]
  constructor
  · intro h i hi
    rw [getD_at hi]; exact h _ (List.getElem_mem hi)
  · intro h s hs
    obtain ⟨i, hi, rfl⟩ := List.getElem_of_mem hs
    have := h i hi
    rwa [getD_at hi] at this
theorem has_meet_left {a b : Sp} (h : hasS (meetS a b) = true) : hasS a = true := by
  unfold hasS meetS at *
  simp only [Bool.or_eq_true, decide_eq_true_eq, Bool.and_eq_true] at *
  rcases h with h | h
  · left; split at h <;> split at h <;> omega
  · exact .inr h.1
theorem any_left {a b : List Sp} (hl : a.length = b.length) (h : anyS (meet a b) = true) : anyS a = true := by
  rw [any_at] at h ⊢
  intro i hi
  have := h i (by rw [meet_len hl]; exact hi)
  rw [meet_at hl hi] at this
  exact has_meet_left this
theorem nrm_low {s : Sp} (h : s.1 ≤ s.2.1) : norm s = s := by unfold norm; rw [if_neg (by omega)]
theorem nrm_no {s : Sp} (h : s.2.1 < s.1) : (norm s).1 = 1 ∧ (norm s).2.1 = 0 ∧ (norm s).2.2 = s.2.2 := by unfold norm; rw [if_pos (by omega)]; exact ⟨rfl, rfl, rfl⟩
theorem meet_norm (a b : Sp) : hasS (meetS (norm a) b) = hasS (meetS a b) ∧ pickC (meetS (norm a) b) = pickC (meetS a b) := by
  by_cases h : a.1 ≤ a.2.1
  · rw [nrm_low h]; exact ⟨rfl, rfl⟩
  · obtain ⟨n1, n2, n3⟩ := nrm_no (s := a) (by omega)
    have e1 : ¬ (meetS (norm a) b).1 ≤ (meetS (norm a) b).2.1 := by
      unfold meetS; rw [n1, n2]; simp only; split <;> split <;> omega
    have e2 : ¬ (meetS a b).1 ≤ (meetS a b).2.1 := by
      unfold meetS; simp only; split <;> split <;> omega
    unfold hasS pickC
    rw [if_neg e1, if_neg e2, decide_eq_false e1, decide_eq_false e2]
    refine ⟨?_, rfl⟩
    show (false || ((norm a).2.2 && b.2.2)) = (false || (a.2.2 && b.2.2))
    rw [n3]
theorem nrm_len (a : List Sp) : (a.map norm).length = a.length := List.length_map _
theorem nrm_at {a : List Sp} {i : Nat} (hi : i < a.length) : (a.map norm).getD i (0, 0, false) = norm (a.getD i (0, 0, false)) := by
  rw [getD_at (by simpa using hi), getD_at hi]; simp
theorem any_meet_norm {a b : List Sp} (hl : a.length = b.length) : anyS (meet (a.map norm) b) = anyS (meet a b) := by
  have hl' : (a.map norm).length = b.length := by rw [nrm_len]; exact hl
  rw [Bool.eq_iff_iff, any_at, any_at, meet_len hl, meet_len hl', nrm_len]
  constructor
  · intro h i hi
    have := h i hi
    rw [meet_at hl' (by rw [nrm_len]; exact hi), nrm_at hi, (meet_norm _ _).1] at this
    rw [meet_at hl hi]; exact this
  · intro h i hi
    have := h i hi
    rw [meet_at hl hi] at this
    rw [meet_at hl' (by rw [nrm_len]; exact hi), nrm_at hi, (meet_norm _ _).1]; exact this
theorem pick_meet_norm {a b : List Sp} (hl : a.length = b.length) : pick (meet (a.map norm) b) = pick (meet a b) := by
  have hl' : (a.map norm).length = b.length := by rw [nrm_len]; exact hl
  unfold pick
  refine List.ext_getElem (by rw [List.length_map, List.length_map, meet_len hl, meet_len hl', nrm_len]) fun i h1 h2 => ?_
  have hi : i < a.length := by rw [List.length_map, meet_len hl] at h2; exact h2
  have g1 : i < (meet (a.map norm) b).length := by rw [meet_len hl', nrm_len]; exact hi
  have g2 : i < (meet a b).length := by rw [meet_len hl]; exact hi
  rw [List.getElem_map, List.getElem_map, ← getD_at g1, ← getD_at g2, meet_at hl' (by rw [nrm_len]; exact hi), nrm_at hi, (meet_norm _ _).2, meet_at hl hi]
/-- what both have in common is of a right form -/
theorem meet_in {a b : List Sp} (hl : a.length = b.length) (ha : ∀ i, i < a.length → okS (a.getD i (0, 0, false))) (hb : spF b = 0) : ∀ i, i < (meet (a.map norm) b).length → outI ((meet (a.map norm) b).getD i (0, 0, false)).1 = false ∧ outI ((meet (a.map norm) b).getD i (0, 0, false)).2.1 = false := by
  have hl' : (a.map norm).length = b.length := by rw [nrm_len]; exact hl
  intro i hi
  rw [meet_len hl', nrm_len] at hi
  rw [meet_at hl' (by rw [nrm_len]; exact hi), nrm_at hi]
  have h1 := ha i hi
  have h2 := sp1_zero ((sp_zero hb).2 i (by omega))
  have h3 := in_out h2.1
  have h4 := in_out h2.2.1
  unfold okS at h1
  generalize a.getD i (0, 0, false) = s at *
  generalize b.getD i (0, 0, false) = u at *
  have n1 : -1000000 ≤ (norm s).1 ∧ (norm s).1 ≤ 1000000 ∧ -1000000 ≤ (norm s).2.1 ∧ (norm s).2.1 ≤ 1000000 := by
    by_cases h : s.1 ≤ s.2.1
    · rw [nrm_low h]; omega
    · obtain ⟨q1, q2, q3⟩ := nrm_no (s := s) (by omega)
      rw [q1, q2]; omega
  unfold meetS
  simp only
  constructor
  · refine out_in ?_ ?_ <;> split <;> omega
  · refine out_in ?_ ?_ <;> split <;> omega
theorem meet_sp {t : List Nd} {l : List Sp} (F : Fair t (l.length : Int)) {j : Nat} (hj : j < t.length) (hs : spF l = 0) : spF (meet ((region t l.length j).map norm) l) = 0 ↔ anyS (meet (region t l.length j) l) = true := by
  have hl := region_len t l.length j
  have l8 := (sp_zero hs).1
  have ml : (meet ((region t l.length j).map norm) l).length = l.length := by rw [meet_len (by rw [nrm_len]; exact hl), nrm_len, hl]
  have ok := meet_in hl (fun i hi => by rw [getD_at hi]; exact region_ok F hj _ (List.getElem_mem hi)) hs
  rw [← any_meet_norm hl]
  constructor
  · intro h
    rw [any_at]
    exact fun i hi => (sp1_zero ((sp_zero h).2 i hi)).2.2
  · intro h
    refine sp_ok (by omega) fun s hs' => ?_
    obtain ⟨i, hi, rfl⟩ := List.getElem_of_mem hs'
    have o := ok i hi
    have p := any_at.1 h i hi
    rw [getD_at hi] at o p
    unfold sp1F
    rw [if_neg (by rw [o.1, o.2]; decide), if_neg (by rw [p]; decide)]
theorem meet_wit {t : List Nd} {l : List Sp} (F : Fair t (l.length : Int)) {j : Nat} (hj : j < t.length) (hs : spF l = 0) (h : anyS (meet (region t l.length j) l) = true) : witV (meet ((region t l.length j).map norm) l) = pick (meet (region t l.length j) l) := by
  unfold witV
  rw [if_pos ((meet_sp F hj hs).2 h), pick_meet_norm (region_len t l.length j)]

/-! ### leaf by leaf -/
abbrev EndsS := Bool × Int × Int × List Int × List Int
def fed (t : List Nd) (l : List Sp) (s : EndsS) (j : Nat) : EndsS := if anyS (meet (region t l.length j) l) = true then endS s (nv (nAt t j)) (pick (meet (region t l.length j) l)) else s
def fedL (t : List Nd) (l : List Sp) (L : List Int) : EndsS := L.foldl (fun s x => fed t l s x.toNat) ends0
theorem fed_more (t : List Nd) (l : List Sp) (L : List Int) {k : Nat} (hk : k < L.length) : fedL t l (L.take (k + 1)) = fed t l (fedL t l (L.take k)) (L.getD k 0).toNat := by
  unfold fedL
  rw [List.take_succ_eq_append_getElem hk, List.foldl_append, getD_at hk]
  rfl
theorem fed_rch (t : List Nd) (l : List Sp) : ∀ k, fedL t l (rch t l.length k) = endsK t l k
  | 0 => rfl
  | k + 1 => by
    have ih := fed_rch t l k
    unfold rch endsK cnt
    by_cases h1 : leafB (nAt t k) = true
    · by_cases h2 : anyS (region t l.length k) = true
      · rw [if_pos ⟨h1, h2⟩]
        unfold fedL at ih ⊢
        rw [List.foldl_append, ih]
        show fed t l (endsK t l k) ((k : Int)).toNat = _
        rw [Int.toNat_natCast, h1, Bool.true_and]
        rfl
      · rw [if_neg (fun q => h2 q.2), h1, Bool.true_and, if_neg (fun q => h2 (any_left (region_len _ _ _) q))]
        exact ih
    · rw [if_neg (fun q => h1 q.1)]
      have h1' : leafB (nAt t k) = false := by simpa using h1
      rw [h1', Bool.false_and, if_neg (by decide)]
      exact ih
/-- a reached leaf -/
theorem rch_at {t : List Nd} {m : Nat} {k : Nat} (hk : k < (rch t m t.length).length) : ∃ j : Nat, (rch t m t.length).getD k 0 = (j : Int) ∧ j < t.length ∧ leafB (nAt t j) = true := by
  have := (rch_mem t m t.length ((rch t m t.length).getD k 0)).1 (by rw [getD_at hk]; exact List.getElem_mem _)
  obtain ⟨j, e, h1, h2, _⟩ := this
  exact ⟨j, e, h1, h2⟩
theorem reg_at {t : List Nd} {m : Nat} {j : Nat} (ht : (treeF t (m : Int)).2 = 0) (hj : j < t.length) (hl : leafB (nAt t j) = true) : regF t (m : Int) (j : Int) = 0 ∧ regV t (m : Int) (j : Int) = (region t m j).map norm := by
  have e : regF t (m : Int) (j : Int) = 0 := by
    unfold regF isLf
    rw [if_neg (by simp [ht]), decide_eq_true (show (0 : Int) ≤ (j : Int) by omega), decide_eq_true (show (j : Int) < (t.length : Int) by omega), Int.toNat_natCast, hl]
    rfl
  refine ⟨e, ?_⟩
  unfold regV
  rw [if_pos e, Int.toNat_natCast, Int.toNat_natCast]

/-! ### as the program has them: numbers beyond all at first -/
def loS (s : EndsS) : Int := if s.1 = true then s.2.1 else 1000001
def hiS (s : EndsS) : Int := if s.1 = true then s.2.2.1 else -1000001
theorem lo_more {s : EndsS} {v : Int} {p : List Int} (h1 : v ≤ 1000000) : loS (endS s v p) = if v < loS s then v else loS s := by
  unfold loS endS
  simp only [if_true]
  cases s.1
  · simp; omega
  · simp
theorem hi_more {s : EndsS} {v : Int} {p : List Int} (h1 : -1000000 ≤ v) : hiS (endS s v p) = if hiS s < v then v else hiS s := by
  unfold hiS endS
  simp only [if_true]
  cases s.1
  · simp; omega
  · simp
theorem rowA_more {s : EndsS} {v : Int} {p : List Int} (h1 : v ≤ 1000000) : (endS s v p).2.2.2.1 = if v < loS s then p else s.2.2.2.1 := by
  unfold loS endS
  cases s.1
  · simp; intro; omega
  · simp
theorem rowB_more {s : EndsS} {v : Int} {p : List Int} (h1 : -1000000 ≤ v) : (endS s v p).2.2.2.2 = if hiS s < v then p else s.2.2.2.2 := by
  unfold hiS endS
  cases s.1
  · simp; intro; omega
  · simp
theorem leaf_in {t : List Nd} {m : Int} (F : Fair t m) {j : Nat} (hj : j < t.length) (hl : leafB (nAt t j) = true) : -1000000 ≤ nv (nAt t j) ∧ nv (nAt t j) ≤ 1000000 := by
  exact lv_in F _ ((lvK_mem t _ _).2 ⟨j, hj, hl, rfl⟩)

end Go.Proofs.YtlloiccodjnkcagGreatDoor.M

namespace Go.Proofs.YtlloiccodjnkcagGreatDoor.M
set_option linter.unusedVariables false

def sumL (f : Nat → Nat) (L : List Int) : Nat := L.foldl (fun s x => s + f x.toNat) 0
theorem sumL_more (f : Nat → Nat) (L : List Int) {k : Nat} (hk : k < L.length) : sumL f (L.take (k + 1)) = sumL f (L.take k) + f (L.getD k 0).toNat := by
  unfold sumL
  rw [List.take_succ_eq_append_getElem hk, List.foldl_append, getD_at hk]
  rfl
theorem sumL_rch (f : Nat → Nat) (t : List Nd) (m : Nat) : ∀ k, sumL f (rch t m k) = sumN (fun j => if leafB (nAt t j) = true ∧ anyS (region t m j) = true then f j else 0) k
  | 0 => rfl
  | k + 1 => by
    have ih := sumL_rch f t m k
    unfold rch sumN
    by_cases h : leafB (nAt t k) = true ∧ anyS (region t m k) = true
    · rw [if_pos h, if_pos h, ← ih]
      unfold sumL
      rw [List.foldl_append]
      show _ + f ((k : Int)).toNat = _
      rw [Int.toNat_natCast]
    · rw [if_neg h, if_neg h, ih]; rfl
theorem sumL_from {f : Nat → Nat} {c : Nat} (h : ∀ j, f j ≤ c) : ∀ (L : List Int) (s : Nat), L.foldl (fun s x => s + f x.toNat) s ≤ s + L.length * c
  | [], s => by simp
  | x :: L, s => by
    have ih := sumL_from h L (s + f x.toNat)
    have := h x.toNat
    rw [List.foldl_cons, List.length_cons, Nat.add_mul]
    omega
theorem sumL_le {f : Nat → Nat} {c : Nat} (h : ∀ j, f j ≤ c) (L : List Int) : sumL f L ≤ L.length * c := by
  have := sumL_from h L 0
  unfold sumL
  omega
/-- one more for a leaf of the other tree that says another value -/
def tmC (ts us : List Nd) (i j : Nat) : Nat := if nv (nAt us j) = nv (nAt ts i) then 0 else 1
theorem tmC_le (ts us : List Nd) (i j : Nat) : tmC ts us i j ≤ 1 := by unfold tmC; split <;> omega
/-- of those to which a row within spans comes -/
def inC (us : List Nd) (ss : List Sp) (c : Nat → Nat) (j : Nat) : Nat := if anyS (meet (region us ss.length j) ss) = true then c j else 0
theorem inC_le {us : List Nd} {ss : List Sp} {c : Nat → Nat} {n : Nat} (h : ∀ j, c j ≤ n) (j : Nat) : inC us ss c j ≤ n := by
  have := h j
  unfold inC; split <;> omega
theorem nrm_reg (ts : List Nd) (m i : Nat) : ((region ts m i).map norm).length = m := by rw [nrm_len, region_len]
theorem in_comm (ts us : List Nd) (m i j : Nat) : meet (region us m j) ((region ts m i).map norm) = meet ((region ts m i).map norm) (region us m j) := meet_comm _ _
theorem any_pair (ts us : List Nd) (m i j : Nat) : anyS (meet (region us m j) ((region ts m i).map norm)) = anyS (meet (region ts m i) (region us m j)) := by
  rw [in_comm, any_meet_norm (by rw [region_len, region_len])]
theorem pick_pair (ts us : List Nd) (m i j : Nat) : pick (meet (region us m j) ((region ts m i).map norm)) = pick (meet (region ts m i) (region us m j)) := by
  rw [in_comm, pick_meet_norm (by rw [region_len, region_len])]
theorem mvR_at {ts us : List Nd} {m i : Nat} (hl : leafB (nAt ts i) = true) : sumL (inC us ((region ts m i).map norm) (tmC ts us i)) (rch us m us.length) = mvR ts us m i us.length := by
  rw [sumL_rch]
  unfold mvR
  refine sum_same _ fun j hj => ?_
  unfold cnB mvB inC tmC
  rw [nrm_reg, any_pair, hl, Bool.true_and]
  by_cases h1 : leafB (nAt us j) = true
  · by_cases h2 : anyS (meet (region ts m i) (region us m j)) = true
    · have h3 : anyS (region us m j) = true := by
        rw [meet_comm] at h2
        exact any_left (by rw [region_len, region_len]) h2
      rw [if_pos ⟨h1, h3⟩, if_pos h2, h1, h2]
      by_cases h4 : nv (nAt us j) = nv (nAt ts i)
      · rw [if_pos h4, decide_eq_true h4.symm]; rfl
      · rw [if_neg h4, decide_eq_false (fun e => h4 e.symm)]; rfl
    · have h2' : anyS (meet (region ts m i) (region us m j)) = false := by simpa using h2
      rw [h2', Bool.and_false]
      simp
  · have h1' : leafB (nAt us j) = false := by simpa using h1
    rw [h1', if_neg (fun q => by cases q.1)]
    rfl
theorem mvR_no {ts us : List Nd} {m i : Nat} (h : ¬ (leafB (nAt ts i) = true ∧ anyS (region ts m i) = true)) : mvR ts us m i us.length = 0 := by
  unfold mvR
  have : ∀ j, cnB (mvB ts us m i j) = 0 := fun j => by
    unfold cnB
    refine if_neg fun e => h ?_
    unfold mvB at e
    rw [Bool.and_eq_true, Bool.and_eq_true, Bool.and_eq_true] at e
    exact ⟨e.1.1.1, any_left (by rw [region_len, region_len]) e.2⟩
  rw [sum_same (h := fun _ => 0) _ (fun j _ => this j), sum_none]
theorem mvK_at (ts us : List Nd) (m : Nat) : sumL (fun i => mvR ts us m i us.length) (rch ts m ts.length) = mvK ts us m ts.length := by
  rw [sumL_rch]
  unfold mvK
  refine sum_same _ fun i hi => ?_
  by_cases h : leafB (nAt ts i) = true ∧ anyS (region ts m i) = true
  · rw [if_pos h]
  · rw [if_neg h, mvR_no h]
theorem sumN_le {f : Nat → Nat} {c : Nat} (h : ∀ j, f j ≤ c) : ∀ n, sumN f n ≤ n * c
  | 0 => by unfold sumN; omega
  | n + 1 => by
    have ih := sumN_le h n
    have := h n
    unfold sumN
    rw [Nat.add_mul]
    omega
theorem mvR_le (ts us : List Nd) (m i : Nat) : mvR ts us m i us.length ≤ us.length := by
  have := sumN_le (f := fun k => cnB (mvB ts us m i k)) (c := 1) (fun j => by unfold cnB; split <;> omega) us.length
  unfold mvR
  omega
/-- a reached leaf's region has a row -/
theorem reg_sp {ts : List Nd} {m i : Nat} (F : Fair ts (m : Int)) (hi : i < ts.length) (ha : anyS (region ts m i) = true) : spF ((region ts m i).map norm) = 0 := by
  have m8 : m ≤ 8 := by have := F.2.2.2.1; omega
  refine sp_ok (by rw [nrm_reg]; exact m8) fun s hs => ?_
  have hh : hasS s = true := by
    have := any_norm (region ts m i)
    rw [ha] at this
    unfold anyS at this
    exact List.all_eq_true.1 this s hs
  obtain ⟨u, hu, rfl⟩ := List.mem_map.1 hs
  have ok := region_ok F hi u hu
  unfold okS at ok
  have n1 : -1000000 ≤ (norm u).1 ∧ (norm u).1 ≤ 1000000 ∧ -1000000 ≤ (norm u).2.1 ∧ (norm u).2.1 ≤ 1000000 := by
    by_cases h : u.1 ≤ u.2.1
    · rw [nrm_low h]; omega
    · obtain ⟨q1, q2, q3⟩ := nrm_no (s := u) (by omega)
      rw [q1, q2]; omega
  unfold sp1F
  rw [if_neg (by rw [out_in n1.1 n1.2.1, out_in n1.2.2.1 n1.2.2.2]; decide), if_neg (by rw [hh]; decide)]
theorem rch_any {t : List Nd} {m : Nat} {k : Nat} (hk : k < (rch t m t.length).length) : ∃ j : Nat, (rch t m t.length).getD k 0 = (j : Int) ∧ j < t.length ∧ leafB (nAt t j) = true ∧ anyS (region t m j) = true := by
  have := (rch_mem t m t.length ((rch t m t.length).getD k 0)).1 (by rw [getD_at hk]; exact List.getElem_mem _)
  obtain ⟨j, e, h1, h2, h3⟩ := this
  exact ⟨j, e, h1, h2, h3⟩
/-- the row of a pair of leaves whose values differ shows it -/
theorem pair_row {ts us : List Nd} {m : Nat} (ha : (treeF ts (m : Int)).2 = 0) (hb : (treeF us (m : Int)).2 = 0) {i j : Nat} (hi : i < ts.length) (hj : j < us.length) (hl : leafB (nAt ts i) = true) (hk : leafB (nAt us j) = true) (hn : nv (nAt us j) ≠ nv (nAt ts i)) (h : anyS (meet (region us m j) ((region ts m i).map norm)) = true) :
    rowF (pick (meet (region us m j) ((region ts m i).map norm))) = 0 ∧ (pick (meet (region us m j) ((region ts m i).map norm))).length = m ∧ evalV ts (pick (meet (region us m j) ((region ts m i).map norm))) ≠ evalV us (pick (meet (region us m j) ((region ts m i).map norm))) := by
  rw [any_pair] at h
  rw [pick_pair]
  have hm : mvB ts us m i j = true := by
    unfold mvB
    rw [hl, hk, h, decide_eq_false (fun e => hn e.symm)]; rfl
  obtain ⟨p1, p2, p3, p4, p5⟩ := mv_row ha hb hi hj hm
  exact ⟨p1, p2, by rw [p3, p4]; exact p5⟩
/-- some leaf is reached -/
theorem rch_some {ts : List Nd} {m : Nat} (ht : (treeF ts (m : Int)).2 = 0) : 0 < (rch ts m ts.length).length := by
  obtain ⟨F, _⟩ := tree_ok ht
  have m8 : m ≤ 8 := by have := F.2.2.2.1; omega
  have hx : rowF (List.replicate m 0) = 0 := (row_ok _).2 ⟨by simpa using m8, fun x hx => by rw [(List.mem_replicate.1 hx).2]; rfl⟩
  have hm : (List.replicate m (0 : Int)).length = m := by simp
  have y : readyF ts (List.replicate m 0) = 0 := by rw [ready_tree hx, hm]; exact ht
  obtain ⟨g1, g2⟩ := leafV_leaf' y
  have hw := (region_leaf F hx hm g1 g2).2 rfl
  have := (rch_mem ts m ts.length _).2 ⟨_, rfl, g1, decide_eq_true g2, any_within hw⟩
  exact List.length_pos_of_mem this
theorem lim_reg {ts us : List Nd} {m i : Nat} (F : Fair ts (m : Int)) (hi : i < ts.length) (ha : anyS (region ts m i) = true) : limF us ((region ts m i).map norm) = (treeF us (m : Int)).2 := by
  unfold limF
  rw [if_neg (by simp [reg_sp F hi ha]), nrm_reg]

end Go.Proofs.YtlloiccodjnkcagGreatDoor.M

namespace Go.Proofs.YtlloiccodjnkcagGreatDoor
open Go.ChangeShapes Go.WideShapes Go.ChangeAt Go.RowKit Go.Lib
set_option linter.unusedVariables false

/-- what is done with a row -/
def DoGives (did q : Nat) (Inv : (Nat → Prop) → Nat → World → Prop) (P : List Int → Prop) : Prop := ∀ (K : Nat → Prop) (s pb pc : Nat) (L : List Int) (W : World), s < 100000 → K pb → pb < W.heap.size → Inv K s W → P L → Rd W (some ⟨pb, 0, none⟩) L → Calls Tryz.prog did #[.slice (some ⟨pb, 0, none⟩) L.length pc, .pointer (some ⟨q, 0, none⟩)] W fun e w' => e = .returned (.tuple #[]) ∧ Inv K (s + 1) w' ∧ Keeps K W w'

theorem infoRow : (Tryz.prog.info? 22).map (fun i => (i.zero, i.size, i.bytes)) = some (some (.slice none 0 0), 1, 24) := by kernel_rfl

set_option maxHeartbeats 4000000 in
theorem trees1_any (w : World) (p : Nat) (P : List Int → Prop) : DoGives 76 p (TV w P p) P := by
  intro K n pb pc L W hn hK hl h hP hr
  obtain ⟨v, Vs, c0, ho, ok, fr⟩ := h.rows
  have f0 := h.froz
  obtain ⟨i1, hi1, he1⟩ := Option.map_eq_some_iff.1 infoRow
  have jz0 : i1.zero = some (.slice none 0 0) := congrArg Prod.fst he1
  have jz1 : i1.size = 1 := congrArg (fun x => x.2.1) he1
  have jz2 : i1.bytes = 24 := congrArg (fun x => x.2.2) he1
  have I1 := hide hi1
  have HO := hide ho
  have plt := h.lt
  have pK := h.out
  have ne : p ≠ pb := fun e => pK (e ▸ hK)
  have fin : Hid (∀ (o : Obj) (w5 : World) (g cap : Nat), w5.ownsRow (p + 1) 22 1 (.slice (some ⟨g, 0, none⟩) (n + 1) cap) (n + 1) (Vs ++ [.slice (some ⟨pb, 0, none⟩) L.length pc]) → (W.alloc o).grownBy w5 v.ownBlock → (v.ownBlock = some g ∨ g = W.heap.size + 1) →
      (w5.cell? ⟨p, 0, none⟩ = some v ∧ w5.frozen? ⟨p, 0, none⟩ = false) ∧ TV w P p K (n + 1) (w5.setCell ⟨p, 0, none⟩ (.slice (some ⟨g, 0, none⟩) (n + 1) cap)) ∧ Keeps K W (w5.setCell ⟨p, 0, none⟩ (.slice (some ⟨g, 0, none⟩) (n + 1) cap))) := by
    intro o w5 g cap hown hgrow hat
    have vp : v.ownBlock ≠ some p := fun e => by have := (ho.lt p e).1; omega
    have hgr : W.grownBy w5 v.ownBlock := grown_trans (World.grownBy_alloc W o v.ownBlock) hgrow (.inl rfl)
    have cp : w5.cell? ⟨p, 0, none⟩ = some v := (hgr.cell_far ⟨p, 0, none⟩ plt (fun e => vp e.symm)).trans c0
    have fp : w5.frozen? ⟨p, 0, none⟩ = false := (hgr.frozen_far ⟨p, 0, none⟩ plt (fun e => vp e.symm)).trans f0
    have gp : p + 1 ≤ g := (hown.lt g rfl).1
    have vK : ∀ b, K b → v.ownBlock ≠ some b := fun b hb e => ok b e hb
    have ke : Keeps K W w5 := ⟨hgr.size, fun b o hb hl => hgr.cell_far ⟨b, o, none⟩ hl (fun e => vK b hb e.symm)⟩
    have bl : Below w.heap.size w w5 := h.below.grown hgr h.below.size (fun k hk => by have := (ho.lt k hk).1; have := h.ge; omega)
    refine ⟨⟨cp, fp⟩, ⟨?_, h.ge, pK, ?_, ?_, bl.setCell (p := ⟨p, 0, none⟩) h.ge _, ⟨_, _, World.cell?_setCell_same (u := v) _ _ _ cp, hown.kept grown_set (.inr fun e => absurd (show g = p by simpa [Value.ownBlock] using e) (by omega)), ?_, ?_⟩⟩, ke.set pK _⟩
    · have := hgr.size; simp; omega
    · intro b hb; have := h.kb b hb; have := hgr.size; simp; omega
    · simpa using fp
    · intro g' hg' hk'
      have : g = g' := by simpa [Value.ownBlock] using hg'
      subst this
      rcases hat with e | e
      · exact ok g e hk'
      · have := h.kb g hk'; omega
    · intro _
      by_cases h0 : 0 < n
      · obtain ⟨qb, qc, Q, f1, f2, f3, f4, f5, f6⟩ := fr h0
        have f2' : Rd (w5.setCell ⟨p, 0, none⟩ (.slice (some ⟨g, 0, none⟩) (n + 1) cap)) (some ⟨qb, 0, none⟩) Q := by
          refine f2.keeps (K := fun b => b = qb) (fun _ x hx => by cases hx; rfl) ?_
          refine Keeps.set (K := fun b => b = qb) (p := p) ⟨hgr.size, fun b o hb hl => ?_⟩ (fun e => f4 e) _
          exact hgr.cell_far ⟨b, o, none⟩ hl (fun e => f6 (by rw [← e, hb]))
        refine ⟨qb, qc, Q, ?_, f2', f3, f4, ?_, ?_⟩
        · rw [List.getElem?_append_left (by have := (List.getElem?_eq_some_iff.1 f1).1; exact this)]; exact f1
        · have := hgr.size; simp; omega
        · intro e
          have : g = qb := by simpa [Value.ownBlock] using e
          subst this
          rcases hat with e | e
          · exact f6 e
          · omega
      · have n0 : n = 0 := by omega
        have vl : Vs.length = n := by have := ho.1; omega
        have ve : Vs = [] := List.length_eq_zero_iff.1 (by omega)
        refine ⟨pb, pc, L, by rw [ve]; rfl, hr.keeps (K := K) (fun _ x hx => by cases hx; exact hK) (ke.set pK _), hP, ne, ?_, ?_⟩
        · have := hgr.size; simp; omega
        · intro e
          have : g = pb := by simpa [Value.ownBlock] using e
          subst this
          rcases hat with e | e
          · exact ok g e hK
          · omega
  clear h hr hK ok fr ho hi1
  go_enter Tryz.func76, Tryz.ntmps76
  go_wp2_with (at_builtin; refine wpList_append_lies _ rfl (.tmp 3) (.tmp 5) 113 rfl (p + 1) 22 i1 (.slice none 0 0) 1 24 Tryz.underlying113 I1.out jz0 jz1 jz2 rfl (by omega) v n Vs rfl (HO.out.alloc _) ⟨W.heap.size, 0, none⟩ 1 1 [.slice (some ⟨pb, 0, none⟩) L.length pc] rfl rfl (World.news_of_block (heap_alloc_new _ _)) (by simp [Value.oneCell']) (by omega) (by unfold maxLen; omega) (by omega) (by simp; omega) (W.heap.size + 1) (by simp) ?_; intro g cap w5 hown hgrow hat hlt; have FF := hide (fin.out _ w5 g cap hown hgrow hat); have c5 := FF.out.1.1; have f5 := FF.out.1.2; clear hown hgrow hat)
  go_end0
  exact ⟨rfl, FF.out.2.1, FF.out.2.2⟩

/-- what the closure of all pairs finds: a tree, a leaf, and what is to be done -/
structure EV (ba bl bd did q : Nat) (a : Option Addr) (n ca i : Nat) (Inv : (Nat → Prop) → Nat → World → Prop) (K : Nat → Prop) (s : Nat) (W : World) : Prop where
  inv : Inv K s W
  ka : K ba
  kl : K bl
  kd : K bd
  la : ba < W.heap.size
  ll : bl < W.heap.size
  ld : bd < W.heap.size
  ca : W.cell? ⟨ba, 0, none⟩ = some (.slice a n ca)
  cl : W.cell? ⟨bl, 0, none⟩ = some (.int .i64 (i : Nat))
  cd : W.cell? ⟨bd, 0, none⟩ = some (.func (.func did) #[] #[.pointer (some ⟨q, 0, none⟩)])
theorem EV.keeps {ba bl bd did q : Nat} {a : Option Addr} {n ca i : Nat} {Inv : (Nat → Prop) → Nat → World → Prop} {K : Nat → Prop} {s s' : Nat} {W W' : World} (h : EV ba bl bd did q a n ca i Inv K s W) (hi : Inv K s' W') (hk : Keeps K W W') : EV ba bl bd did q a n ca i Inv K s' W' :=
  ⟨hi, h.ka, h.kl, h.kd, Nat.lt_of_lt_of_le h.la hk.1, Nat.lt_of_lt_of_le h.ll hk.1, Nat.lt_of_lt_of_le h.ld hk.1, (hk.2 ba 0 h.ka h.la).trans h.ca, (hk.2 bl 0 h.kl h.ll).trans h.cl, (hk.2 bd 0 h.kd h.ld).trans h.cd⟩

set_option maxHeartbeats 4000000 in
theorem each1_any (w : World) (ba bl bd did q : Nat) (a : Option Addr) (ts us : List M.Nd) (ca i j : Nat) (Inv : (Nat → Prop) → Nat → World → Prop) (P : List Int → Prop) (D : Doer w Inv) (G : DoGives did q Inv P) (hfn : ∀ args w, (callFunc did args).run Tryz.prog w = .ok (.enter did args) w)
    (ht : RdN w a ts) (hi : i < ts.length) (K : Nat → Prop) (s pb pc : Nat) (L : List Int) (W : World) (hs : s < 100000) (hK : K pb) (hl : pb < W.heap.size) (h : EV ba bl bd did q a ts.length ca i Inv K s W) (hP : M.nv (M.nAt us j) ≠ M.nv (M.nAt ts i) → P L) (hr : Rd W (some ⟨pb, 0, none⟩) L) :
    Calls Tryz.prog 100 #[.int .i64 (M.nv (M.nAt us j)), .slice (some ⟨pb, 0, none⟩) L.length pc, .pointer (some ⟨ba, 0, none⟩), .pointer (some ⟨bl, 0, none⟩), .pointer (some ⟨bd, 0, none⟩)] W fun e w' => e = .returned (.tuple #[]) ∧ EV ba bl bd did q a ts.length ca i Inv K (s + M.tmC ts us i j) w' ∧ Keeps K W w' := by
  have c0 := h.ca
  have c1 := h.cl
  have c2 := h.cd
  obtain ⟨b0, off, rfl, hb0, hc⟩ := (ht.below (D.below h.inv)).2 (by intro e; rw [e] at hi; simp at hi)
  have c3 := (hc i hi).2.2.2.2.2
  have H := hide h
  have iz : (i : Int) < (ts.length : Int) := by omega
  by_cases e : M.nv (M.nAt us j) = M.nv (M.nAt ts i)
  · have q1 : (M.nv (M.nAt us j) != M.nv (M.nAt ts i)) = false := by simp [e]
    have t0 : M.tmC ts us i j = 0 := by unfold M.tmC; rw [if_pos e]
    rw [t0]
    clear h hc ht hP hr t0 e G
    generalize M.nv (M.nAt us j) = v at *
    generalize M.nv (M.nAt ts i) = u at *
    go_enter Tryz.func100, Tryz.ntmps100
    go_wp2
    go_end0
    exact ⟨rfl, H.out, Keeps.refl _ _⟩
  · have q1 : (M.nv (M.nAt us j) != M.nv (M.nAt ts i)) = true := by simp [e]
    have t0 : M.tmC ts us i j = 1 := by unfold M.tmC; rw [if_neg e]
    rw [t0]
    have C := hide (G K s pb pc L W hs hK hl h.inv (hP e) hr)
    clear h hc ht hP hr t0 e G
    generalize M.nv (M.nAt us j) = v at *
    generalize M.nv (M.nAt ts i) = u at *
    go_enter Tryz.func100, Tryz.ntmps100
    go_wp2_with (refine C.out.mono ?_; rintro e w1 ⟨rfl, hi1, hk1⟩; have N1 := hide (H.out.keeps hi1 hk1); have K1 := hide hk1; clear hi1 hk1)
    go_end0
    exact ⟨rfl, N1.out, K1.out⟩

end Go.Proofs.YtlloiccodjnkcagGreatDoor
