/-
  Several texts as one: MathG, MathCb, Nodes, MathJ.
-/
import Derived.Test.YtdadjppdonephagDoorRunT4
import Derived.Test.YtdadjppdonephagDoorRunT0
import Derived.Test.YtdadjppdonephagDoorRunT1
import Derived.Test.YtdadjppdonephagDoorRunT3
import Derived.Deep.Matrix
import Derived.Deep.Strs
namespace Go.Proofs.YtdadjppdonephagDoor.M
set_option linter.unusedVariables false

/-- a grove: Features, Way, Weights, Trees -/
abbrev Gv := Int × Int × List Int × List (List Nd)
abbrev gf (g : Gv) : Int := g.1
abbrev gw (g : Gv) : Int := g.2.1
abbrev gs (g : Gv) : List Int := g.2.2.1
abbrev gt (g : Gv) : List (List Nd) := g.2.2.2

def wBad (w : Int) : Bool := decide (w < 1) || decide (1000 < w)
theorem wbad_false {w : Int} (h : wBad w = false) : 1 ≤ w ∧ w ≤ 1000 := by
  unfold wBad at h
  rw [Bool.or_eq_false_iff] at h
  have h1 := of_decide_eq_false h.1
  have h2 := of_decide_eq_false h.2
  omega
theorem wbad_ok {w : Int} (h1 : 1 ≤ w) (h2 : w ≤ 1000) : wBad w = false := by
  unfold wBad
  rw [decide_eq_false (by omega), decide_eq_false (by omega)]; rfl
/-- the fault of the first tree that has one -/
def treesF (f : Int) (ts : List (List Nd)) : Int := match firstN (fun i => !decide ((treeF (ts.getD i []) f).2 = 0)) ts.length with
  | some i => (treeF (ts.getD i []) f).2
  | none => 0
theorem trees_at {f : Int} {ts : List (List Nd)} {k : Nat} (hk : k < ts.length) (h : ∀ j, j < k → (treeF (ts.getD j []) f).2 = 0) (hn : (treeF (ts.getD k []) f).2 ≠ 0) : treesF f ts = (treeF (ts.getD k []) f).2 := by
  unfold treesF
  rw [first_hit (k := k) (by show (!decide ((treeF (ts.getD k []) f).2 = 0)) = true; rw [decide_eq_false hn]; rfl) (fun j hj => by show (!decide ((treeF (ts.getD j []) f).2 = 0)) = false; rw [decide_eq_true (h j hj)]; rfl) hk]
theorem trees_all {f : Int} {ts : List (List Nd)} (h : ∀ j, j < ts.length → (treeF (ts.getD j []) f).2 = 0) : treesF f ts = 0 := by
  unfold treesF
  rw [first_miss (fun j hj => by show (!decide ((treeF (ts.getD j []) f).2 = 0)) = false; rw [decide_eq_true (h j hj)]; rfl)]
theorem trees_zero {f : Int} {ts : List (List Nd)} (h : treesF f ts = 0) : ∀ j, j < ts.length → (treeF (ts.getD j []) f).2 = 0 := by
  unfold treesF at h
  split at h
  · rename_i i e
    have q := (first_some e).2
    rw [decide_eq_true h] at q
    cases q
  · rename_i e
    intro j hj
    have := first_none e j hj
    simpa using this

def groveF (g : Gv) : Int :=
  if gf g < 0 ∨ 8 < gf g ∨ gw g < 1 ∨ 3 < gw g then 1
  else if (gt g).length = 0 then 5
  else if 12 < (gt g).length then 4
  else if (gs g).length ≠ (gt g).length then 3
  else if (gs g).any wBad = true then 1
  else treesF (gf g) (gt g)
/-- all that is right with a grove that is right -/
structure Good (g : Gv) : Prop where
  f0 : 0 ≤ gf g
  f8 : gf g ≤ 8
  w1 : 1 ≤ gw g
  w3 : gw g ≤ 3
  t0 : 0 < (gt g).length
  t12 : (gt g).length ≤ 12
  len : (gs g).length = (gt g).length
  wts : ∀ w ∈ gs g, 1 ≤ w ∧ w ≤ 1000
  trees : ∀ t ∈ gt g, (treeF t (gf g)).2 = 0
theorem good_iff (g : Gv) : groveF g = 0 ↔ Good g := by
  constructor
  · intro h
    unfold groveF at h
    split at h
    · cases h
    · rename_i h1
      split at h
      · cases h
      · rename_i h2
        split at h
        · cases h
        · rename_i h3
          split at h
          · cases h
          · rename_i h4
            split at h
            · cases h
            · rename_i h5
              refine ⟨by omega, by omega, by omega, by omega, by omega, by omega, by omega, ?_, ?_⟩
              · intro w hw
                apply wbad_false
                cases e : wBad w with
                | false => rfl
                | true => exact absurd (List.any_eq_true.2 ⟨w, hw, e⟩) h5
              · intro t ht
                obtain ⟨i, hi, rfl⟩ := List.getElem_of_mem ht
                have := trees_zero h i hi
                rwa [getD_at hi] at this
  · intro h
    unfold groveF
    rw [if_neg (by have := h.f0; have := h.f8; have := h.w1; have := h.w3; omega), if_neg (by have := h.t0; omega), if_neg (by have := h.t12; omega), if_neg (by have := h.len; omega), if_neg, trees_all]
    · intro j hj
      rw [getD_at hj]; exact h.trees _ (List.getElem_mem hj)
    · intro hc
      obtain ⟨w, hw, e⟩ := List.any_eq_true.1 hc
      have := h.wts w hw
      rw [wbad_ok this.1 this.2] at e
      cases e

/-- the fault of a grove and a row -/
def standF (g : Gv) (r : List Int) : Int := if groveF g ≠ 0 then groveF g else if rowF r ≠ 0 then rowF r else if (r.length : Int) ≠ gf g then 3 else 0
theorem stand_ok {g : Gv} {r : List Int} (h : standF g r = 0) : Good g ∧ rowF r = 0 ∧ (r.length : Int) = gf g := by
  unfold standF at h
  split at h
  · rename_i h1; exact absurd h h1
  · rename_i h1
    split at h
    · rename_i h2; exact absurd h h2
    · rename_i h2
      split at h
      · cases h
      · rename_i h3
        exact ⟨(good_iff g).1 (by simpa using h1), by simpa using h2, by simpa using h3⟩
theorem stand_of {g : Gv} {r : List Int} (h1 : Good g) (h2 : rowF r = 0) (h3 : (r.length : Int) = gf g) : standF g r = 0 := by
  unfold standF
  rw [if_neg (by simp [(good_iff g).2 h1]), if_neg (by simp [h2]), if_neg (by simp [h3])]
theorem stand_ready {g : Gv} {r : List Int} (h : standF g r = 0) {t : List Nd} (ht : t ∈ gt g) : readyF t r = 0 := by
  obtain ⟨h1, h2, h3⟩ := stand_ok h
  rw [ready_tree h2, h3]
  exact h1.trees t ht

def eachL (g : Gv) (r : List Int) : List Int := (gt g).map fun t => evalV t r
def eachV (g : Gv) (r : List Int) : List Int := if standF g r = 0 then eachL g r else []
theorem each_len (g : Gv) (r : List Int) : (eachL g r).length = (gt g).length := by unfold eachL; simp
theorem each_at (g : Gv) (r : List Int) {i : Nat} (hi : i < (gt g).length) : (eachL g r).getD i 0 = evalV ((gt g).getD i []) r := by
  rw [getD_at (by rw [each_len]; exact hi), getD_at hi]; simp [eachL]

/-! ### together -/
def sumK (l ws : List Int) : Nat → Int
  | 0 => 0
  | k + 1 => sumK l ws k + l.getD k 0 * ws.getD k 0
def allK (ws : List Int) : Nat → Int
  | 0 => 0
  | k + 1 => allK ws k + ws.getD k 0
def votK (l ws : List Int) (v : Int) : Nat → Int
  | 0 => 0
  | k + 1 => votK l ws v k + if l.getD k 0 = v then ws.getD k 0 else 0
/-- of the first k values: the most votes, and who has them -/
def bestK (l ws : List Int) : Nat → Int × Int
  | 0 => (0, 0)
  | k + 1 => if (bestK l ws k).1 < votK l ws (l.getD k 0) l.length ∨ (votK l ws (l.getD k 0) l.length = (bestK l ws k).1 ∧ l.getD k 0 < (bestK l ws k).2) then (votK l ws (l.getD k 0) l.length, l.getD k 0) else bestK l ws k
def together (w : Int) (ws l : List Int) : Int := if w = 1 then sumK l ws l.length else if w = 2 then sumK l ws l.length / allK ws l.length else (bestK l ws l.length).2
def evalG (g : Gv) (r : List Int) : Int := if standF g r = 0 then together (gw g) (gs g) (eachL g r) else 0

theorem vot_pos {l ws : List Int} (hw : ∀ i, i < l.length → 1 ≤ ws.getD i 0) (v : Int) : ∀ k, k ≤ l.length → 0 ≤ votK l ws v k ∧ ∀ j, j < k → l.getD j 0 = v → 1 ≤ votK l ws v k
  | 0, _ => ⟨Int.le_refl _, fun j h => by omega⟩
  | k + 1, hk => by
    obtain ⟨h1, h2⟩ := vot_pos hw v k (by omega)
    have hwk := hw k (by omega)
    unfold votK
    refine ⟨by split <;> omega, fun j hj e => ?_⟩
    by_cases q : j = k
    · subst q; rw [if_pos e]; omega
    · have := h2 j (by omega) e
      split <;> omega
theorem best_spec {l ws : List Int} (hw : ∀ i, i < l.length → 1 ≤ ws.getD i 0) : ∀ k, 0 < k → k ≤ l.length → (∃ j, j < k ∧ (bestK l ws k).2 = l.getD j 0) ∧ (bestK l ws k).1 = votK l ws (bestK l ws k).2 l.length ∧ ∀ i, i < k → votK l ws (l.getD i 0) l.length < (bestK l ws k).1 ∨ (votK l ws (l.getD i 0) l.length = (bestK l ws k).1 ∧ (bestK l ws k).2 ≤ l.getD i 0)
  | 0, h, _ => by omega
  | k + 1, _, hk => by
    by_cases hc : (bestK l ws k).1 < votK l ws (l.getD k 0) l.length ∨ (votK l ws (l.getD k 0) l.length = (bestK l ws k).1 ∧ l.getD k 0 < (bestK l ws k).2)
    · have e : bestK l ws (k + 1) = (votK l ws (l.getD k 0) l.length, l.getD k 0) := by rw [bestK, if_pos hc]
      rw [e]
      refine ⟨⟨k, by omega, rfl⟩, rfl, fun i hi => ?_⟩
      by_cases q : i = k
      · subst q; exact .inr ⟨rfl, Int.le_refl _⟩
      · by_cases k0 : k = 0
        · omega
        · have := (best_spec hw k (by omega) (by omega)).2.2 i (by omega)
          show votK l ws (l.getD i 0) l.length < votK l ws (l.getD k 0) l.length ∨ (votK l ws (l.getD i 0) l.length = votK l ws (l.getD k 0) l.length ∧ l.getD k 0 ≤ l.getD i 0)
          omega
    · have e : bestK l ws (k + 1) = bestK l ws k := by rw [bestK, if_neg hc]
      rw [e]
      by_cases k0 : k = 0
      · subst k0
        have := (vot_pos hw (l.getD 0 0) l.length (Nat.le_refl _)).2 0 (by omega) rfl
        exact absurd (.inl (show (bestK l ws 0).1 < _ by show (0 : Int) < _; omega)) hc
      · obtain ⟨⟨j, h1, h2⟩, h3, h4⟩ := best_spec hw k (by omega) (by omega)
        refine ⟨⟨j, by omega, h2⟩, h3, fun i hi => ?_⟩
        by_cases q : i = k
        · subst q; omega
        · exact h4 i (by omega)
/-- who has most votes, and of equal ones is the least, is the one that is told -/
theorem best_unique {l ws : List Int} (hw : ∀ i, i < l.length → 1 ≤ ws.getD i 0) (h0 : 0 < l.length) {b : Int} (hb : ∃ j, j < l.length ∧ b = l.getD j 0) (hm : ∀ i, i < l.length → votK l ws (l.getD i 0) l.length < votK l ws b l.length ∨ (votK l ws (l.getD i 0) l.length = votK l ws b l.length ∧ b ≤ l.getD i 0)) : (bestK l ws l.length).2 = b := by
  obtain ⟨⟨j, h1, h2⟩, h3, h4⟩ := best_spec hw l.length h0 (Nat.le_refl _)
  obtain ⟨i, h5, h6⟩ := hb
  have a := hm j h1
  have c := h4 i h5
  rw [← h2] at a
  rw [← h6, h3] at c
  omega

/-! ### what is more stays more -/
theorem sum_mono {l m ws : List Int} : ∀ k, (∀ i, i < k → l.getD i 0 ≤ m.getD i 0 ∧ 0 ≤ ws.getD i 0) → sumK l ws k ≤ sumK m ws k
  | 0, _ => Int.le_refl _
  | k + 1, h => by
    have ih := sum_mono (l := l) (m := m) (ws := ws) k fun i hi => h i (by omega)
    obtain ⟨h1, h2⟩ := h k (by omega)
    have := Int.mul_le_mul_of_nonneg_right h1 h2
    unfold sumK
    omega
theorem all_pos {ws : List Int} : ∀ k, (∀ i, i < k → 1 ≤ ws.getD i 0 ∧ ws.getD i 0 ≤ 1000) → (k : Int) ≤ allK ws k ∧ allK ws k ≤ 1000 * k
  | 0, _ => by simp [allK]
  | k + 1, h => by
    have ih := all_pos k fun i hi => h i (by omega)
    have := h k (by omega)
    unfold allK
    omega
theorem sum_bound {l ws : List Int} : ∀ k, (∀ i, i < k → -1000000 ≤ l.getD i 0 ∧ l.getD i 0 ≤ 1000000 ∧ 1 ≤ ws.getD i 0 ∧ ws.getD i 0 ≤ 1000) → -1000000000 * (k : Int) ≤ sumK l ws k ∧ sumK l ws k ≤ 1000000000 * (k : Int)
  | 0, _ => by simp [sumK]
  | k + 1, h => by
    have ih := sum_bound k fun i hi => h i (by omega)
    obtain ⟨h1, h2, h3, h4⟩ := h k (by omega)
    have a : l.getD k 0 * ws.getD k 0 ≤ 1000000 * 1000 := by
      have q1 : l.getD k 0 * ws.getD k 0 ≤ 1000000 * ws.getD k 0 := Int.mul_le_mul_of_nonneg_right h2 (by omega)
      omega
    have b : -1000000 * 1000 ≤ l.getD k 0 * ws.getD k 0 := by
      have q1 : -1000000 * ws.getD k 0 ≤ l.getD k 0 * ws.getD k 0 := Int.mul_le_mul_of_nonneg_right h1 (by omega)
      omega
    unfold sumK
    omega
theorem vot_bound {l ws : List Int} (v : Int) : ∀ k, (∀ i, i < k → 1 ≤ ws.getD i 0 ∧ ws.getD i 0 ≤ 1000) → 0 ≤ votK l ws v k ∧ votK l ws v k ≤ 1000 * k
  | 0, _ => by simp [votK]
  | k + 1, h => by
    have ih := vot_bound (l := l) v k fun i hi => h i (by omega)
    have := h k (by omega)
    unfold votK
    split <;> omega

end Go.Proofs.YtdadjppdonephagDoor.M

namespace Go.Proofs.YtdadjppdonephagDoor.M
set_option linter.unusedVariables false

/-! ### written -/
def ndL (n : Nd) : List Int := if nf n = -1 then [nf n, nv n] else [nf n, nc n, nl n, nr n, if ns n = true then 1 else 0]
def trL (x : Int × List Nd) : List Int := x.1 :: (x.2.length : Int) :: x.2.flatMap ndL
def grL (g : Gv) : List Int := gf g :: gw g :: ((gt g).length : Int) :: ((gs g).zip (gt g)).flatMap trL
def encB (g : Gv) : List Nat := bysL (grL g)
def encF (g : Gv) : Int := if groveF g ≠ 0 then groveF g else if 6000 < (encB g).length then 4 else 0
def encV (g : Gv) : List Nat := if encF g = 0 then encB g else []

/-! ### read: where the last number begins, where it ends, what is wrong -/
structure In where
  at' : Nat
  fin : Nat
  bad : Int
def rNum (b : List Nat) (s : In) : Int × In := if s.bad ≠ 0 then (0, s) else ((getL (b.drop s.fin)).1, ⟨s.fin, s.fin + (getL (b.drop s.fin)).2.1, (getL (b.drop s.fin)).2.2⟩)
def rMany (b : List Nat) (most : Int) (s : In) : Int × In :=
  if (rNum b s).2.bad = 0 ∧ ((rNum b s).1 < 1 ∨ most < (rNum b s).1) then (0, { (rNum b s).2 with bad := 1 })
  else if (rNum b s).2.bad ≠ 0 then (0, (rNum b s).2) else rNum b s
def rAsk (b : List Nat) (f : Int) (s : In) : Nd × In :=
  let c := rNum b s
  let l := rNum b c.2
  let r := rNum b l.2
  let x := rNum b r.2
  ((f, c.1, l.1, r.1, decide (x.1 = 1), 0), if x.2.bad = 0 ∧ x.1 ≠ 0 ∧ x.1 ≠ 1 then { x.2 with bad := 2 } else x.2)
def rNode (b : List Nat) (s : In) : Nd × In :=
  if (rNum b s).2.bad = 0 ∧ (rNum b s).1 = -1 then (((rNum b s).1, 0, 0, 0, false, (rNum b (rNum b s).2).1), (rNum b (rNum b s).2).2)
  else rAsk b (rNum b s).1 (rNum b s).2
/-- so many nodes, as long as nothing is wrong -/
def rNodes (b : List Nat) : Nat → In → List Nd × In
  | 0, s => ([], s)
  | k + 1, s => if s.bad ≠ 0 then ([], s) else ((rNode b s).1 :: (rNodes b k (rNode b s).2).1, (rNodes b k (rNode b s).2).2)
def rTree (b : List Nat) (s : In) : (Int × List Nd) × In :=
  (((rNum b s).1, (rNodes b (rMany b 63 (rNum b s).2).1.toNat (rMany b 63 (rNum b s).2).2).1), (rNodes b (rMany b 63 (rNum b s).2).1.toNat (rMany b 63 (rNum b s).2).2).2)
def rTrees (b : List Nat) : Nat → In → List (Int × List Nd) × In
  | 0, s => ([], s)
  | k + 1, s => if s.bad ≠ 0 then ([], s) else ((rTree b s).1 :: (rTrees b k (rTree b s).2).1, (rTrees b k (rTree b s).2).2)
def in0 : In := ⟨0, 0, 0⟩
/-- features, way, and how many trees -/
def rHead (b : List Nat) : (Int × Int × Int) × In := (((rNum b in0).1, (rNum b (rNum b in0).2).1, (rMany b 12 (rNum b (rNum b in0).2).2).1), (rMany b 12 (rNum b (rNum b in0).2).2).2)
def rAll (b : List Nat) : List (Int × List Nd) × In := rTrees b (rHead b).1.2.2.toNat (rHead b).2
def rGrove (b : List Nat) : Gv := ((rHead b).1.1, (rHead b).1.2.1, (rAll b).1.map (·.1), (rAll b).1.map (·.2))
/-- the grove of bytes; where what is wrong begins; how -/
def decF (b : List Nat) : Nat × Int :=
  if 6000 < b.length then (0, 4)
  else if (rAll b).2.bad ≠ 0 then ((rAll b).2.at', (rAll b).2.bad)
  else if (rAll b).2.fin ≠ b.length then ((rAll b).2.fin, 2)
  else if groveF (rGrove b) ≠ 0 then ((rAll b).2.fin, groveF (rGrove b))
  else (0, 0)
def decV (b : List Nat) : Gv := if (decF b).2 = 0 then rGrove b else (0, 0, [], [])

/-! ### number by number along what was written -/
/-- from where the last number ends, bytes are the first m of those of these numbers -/
def Aln (b : List Nat) (s : In) (l : List Int) (m : Nat) : Prop := s.bad = 0 ∧ s.fin ≤ b.length ∧ b.drop s.fin = (bysL l).take m
/-- cut off: what is wrong begins within -/
def Cut8 (b : List Nat) (s : In) : Prop := s.bad = 8 ∧ s.at' ≤ b.length
theorem rNum_bad {b : List Nat} {s : In} (h : s.bad ≠ 0) : rNum b s = (0, s) := by unfold rNum; rw [if_pos h]
theorem rNum_go {b : List Nat} {s : In} (h : s.bad = 0) : rNum b s = ((getL (b.drop s.fin)).1, ⟨s.fin, s.fin + (getL (b.drop s.fin)).2.1, (getL (b.drop s.fin)).2.2⟩) := by unfold rNum; rw [if_neg (by simp [h])]
/-- whole: the number is read, and the rest lies behind it; cut off: it is told -/
theorem rNum_aln {b : List Nat} {s : In} {n : Int} {l : List Int} {m : Nat} (hn : I64 n) (h : Aln b s (n :: l) m) :
    ((numL n).length ≤ m ∧ (rNum b s).1 = n ∧ Aln b (rNum b s).2 l (m - (numL n).length) ∧ (rNum b s).2.fin = s.fin + (numL n).length) ∨ (m < (numL n).length ∧ Cut8 b (rNum b s).2) := by
  obtain ⟨h1, h2, h3⟩ := h
  rw [bys_cons] at h3
  rw [rNum_go h1]
  by_cases q : (numL n).length ≤ m
  · left
    rw [List.take_append, List.take_of_length_le q] at h3
    have e := get_num hn.1 hn.2 ((bysL l).take (m - (numL n).length))
    rw [h3, e]
    have hlen : b.length - s.fin = (numL n).length + ((bysL l).take (m - (numL n).length)).length := by
      have := congrArg List.length h3
      rw [List.length_drop, List.length_append] at this
      exact this
    refine ⟨q, rfl, ⟨rfl, ?_, ?_⟩, rfl⟩
    · show s.fin + (numL n).length ≤ b.length
      omega
    · show b.drop (s.fin + (numL n).length) = _
      rw [← List.drop_drop, h3, List.drop_left]
  · right
    have q' : m < (numL n).length := by omega
    rw [List.take_append_of_le_length (by omega)] at h3
    rw [h3, get_cut hn.1 hn.2 q']
    exact ⟨q', rfl, h2⟩
theorem rMany_aln {b : List Nat} {s : In} {n most : Int} {l : List Int} {m : Nat} (hn : I64 n) (h1 : 1 ≤ n) (h2 : n ≤ most) (h : Aln b s (n :: l) m) :
    ((numL n).length ≤ m ∧ (rMany b most s).1 = n ∧ Aln b (rMany b most s).2 l (m - (numL n).length) ∧ (rMany b most s).2.fin = s.fin + (numL n).length) ∨ (m < (numL n).length ∧ Cut8 b (rMany b most s).2) := by
  rcases rNum_aln hn h with ⟨a1, a2, a3, a4⟩ | ⟨a1, a2⟩
  · left
    unfold rMany
    rw [if_neg (by rw [a2]; omega), if_neg (by simp [a3.1])]
    exact ⟨a1, a2, a3, a4⟩
  · right
    unfold rMany
    rw [if_neg (by rw [a2.1]; omega), if_pos (by rw [a2.1]; decide)]
    exact ⟨a1, a2⟩
theorem cut_num {b : List Nat} {s : In} (h : Cut8 b s) : Cut8 b (rNum b s).2 := by rw [rNum_bad (by rw [h.1]; decide)]; exact h
theorem cut_many {b : List Nat} {s : In} {most : Int} (h : Cut8 b s) : Cut8 b (rMany b most s).2 := by
  have h' := cut_num h
  unfold rMany
  rw [if_neg (by rw [h'.1]; omega), if_pos (by rw [h'.1]; decide)]
  exact h'
theorem cut_ask {b : List Nat} {s : In} {f : Int} (h : Cut8 b s) : Cut8 b (rAsk b f s).2 := by
  have h' := cut_num (cut_num (cut_num (cut_num h)))
  unfold rAsk
  simp only
  rw [if_neg (by rw [h'.1]; omega)]
  exact h'
theorem cut_nodes {b : List Nat} {s : In} (h : Cut8 b s) (k : Nat) : rNodes b k s = ([], s) := by
  cases k with
  | zero => rfl
  | succ k => show (if _ then _ else _) = _; rw [if_pos (by rw [h.1]; decide)]
theorem cut_trees {b : List Nat} {s : In} (h : Cut8 b s) (k : Nat) : rTrees b k s = ([], s) := by
  cases k with
  | zero => rfl
  | succ k => show (if _ then _ else _) = _; rw [if_pos (by rw [h.1]; decide)]
/-- a node that may be written -/
def NdOk (n : Nd) : Prop := I64 (nf n) ∧ I64 (nc n) ∧ I64 (nl n) ∧ I64 (nr n) ∧ I64 (nv n) ∧ (nf n = -1 → n = (-1, 0, 0, 0, false, nv n)) ∧ (nf n ≠ -1 → nv n = 0)
theorem i64_01 (b : Bool) : I64 (if b = true then 1 else 0) := by unfold I64; split <;> omega
theorem rNode_aln {b : List Nat} {s : In} {n : Nd} {l : List Int} {m : Nat} (hn : NdOk n) (h : Aln b s (ndL n ++ l) m) :
    ((bysL (ndL n)).length ≤ m ∧ (rNode b s).1 = n ∧ Aln b (rNode b s).2 l (m - (bysL (ndL n)).length)) ∨ (m < (bysL (ndL n)).length ∧ Cut8 b (rNode b s).2) := by
  obtain ⟨i0, i1, i2, i3, i4, hl, ha⟩ := hn
  by_cases q : nf n = -1
  · have e : ndL n = [nf n, nv n] := by unfold ndL; rw [if_pos q]
    have el : (bysL (ndL n)).length = (numL (nf n)).length + (numL (nv n)).length := by rw [e, bys_cons, bys_cons, List.length_append, List.length_append]; rfl
    rw [e] at h
    rw [el]
    have h' : Aln b s (nf n :: (nv n :: l)) m := h
    rcases rNum_aln i0 h' with ⟨a1, a2, a3, a4⟩ | ⟨a1, a2⟩
    · have en : rNode b s = (((rNum b s).1, 0, 0, 0, false, (rNum b (rNum b s).2).1), (rNum b (rNum b s).2).2) := by unfold rNode; rw [if_pos ⟨a3.1, by rw [a2]; exact q⟩]
      rw [en]
      rcases rNum_aln i4 a3 with ⟨b1, b2, b3, b4⟩ | ⟨b1, b2⟩
      · left
        refine ⟨by omega, ?_, ?_⟩
        · show ((rNum b s).1, 0, 0, 0, false, (rNum b (rNum b s).2).1) = n
          rw [a2, b2, hl q]
          rfl
        · rw [show m - ((numL (nf n)).length + (numL (nv n)).length) = m - (numL (nf n)).length - (numL (nv n)).length by omega]
          exact b3
      · right
        exact ⟨by omega, b2⟩
    · right
      have en : rNode b s = rAsk b (rNum b s).1 (rNum b s).2 := by unfold rNode; rw [if_neg (by rw [a2.1]; omega)]
      rw [en]
      exact ⟨by omega, cut_ask a2⟩
  · have e : ndL n = [nf n, nc n, nl n, nr n, if ns n = true then 1 else 0] := by unfold ndL; rw [if_neg q]
    obtain ⟨x, hx⟩ : ∃ x : Int, x = if ns n = true then 1 else 0 := ⟨_, rfl⟩
    rw [← hx] at e
    have ix : I64 x := by rw [hx]; exact i64_01 _
    have el : (bysL (ndL n)).length = (numL (nf n)).length + (numL (nc n)).length + (numL (nl n)).length + (numL (nr n)).length + (numL x).length := by
      rw [e]
      simp only [bys_cons, List.length_append]
      show _ + (_ + (_ + (_ + (_ + 0)))) = _
      omega
    rw [e] at h
    rw [el]
    have h' : Aln b s (nf n :: (nc n :: (nl n :: (nr n :: (x :: l))))) m := h
    rcases rNum_aln i0 h' with ⟨a1, a2, a3, a4⟩ | ⟨a1, a2⟩
    · have en : rNode b s = rAsk b (rNum b s).1 (rNum b s).2 := by unfold rNode; rw [if_neg (by rw [a2]; exact fun z => q z.2)]
      rw [en]
      rcases rNum_aln i1 a3 with ⟨b1, b2, b3, b4⟩ | ⟨b1, b2⟩
      · rcases rNum_aln i2 b3 with ⟨c1, c2, c3, c4⟩ | ⟨c1, c2⟩
        · rcases rNum_aln i3 c3 with ⟨d1, d2, d3, d4⟩ | ⟨d1, d2⟩
          · rcases rNum_aln ix d3 with ⟨e1, e2, e3, e4⟩ | ⟨e1, e2⟩
            · left
              have x01 : ¬ (x ≠ 0 ∧ x ≠ 1) := by rw [hx]; split <;> omega
              refine ⟨by omega, ?_, ?_⟩
              · unfold rAsk
                simp only
                rw [a2, b2, c2, d2, e2]
                have es : decide (x = 1) = ns n := by rw [hx]; cases ns n <;> rfl
                rw [es]
                have ev := ha q
                show (nf n, nc n, nl n, nr n, ns n, (0 : Int)) = n
                rw [← ev]
                rfl
              · unfold rAsk
                simp only
                rw [if_neg (by rw [e2]; exact fun z => x01 z.2)]
                rw [show m - ((numL (nf n)).length + (numL (nc n)).length + (numL (nl n)).length + (numL (nr n)).length + (numL x).length) = m - (numL (nf n)).length - (numL (nc n)).length - (numL (nl n)).length - (numL (nr n)).length - (numL x).length by omega]
                exact e3
            · right
              refine ⟨by omega, ?_⟩
              unfold rAsk
              simp only
              rw [if_neg (by rw [e2.1]; omega)]
              exact e2
          · right
            refine ⟨by omega, ?_⟩
            have z := cut_num d2
            unfold rAsk
            simp only
            rw [if_neg (by rw [z.1]; omega)]
            exact z
        · right
          refine ⟨by omega, ?_⟩
          have z := cut_num (cut_num c2)
          unfold rAsk
          simp only
          rw [if_neg (by rw [z.1]; omega)]
          exact z
      · right
        refine ⟨by omega, ?_⟩
        have z := cut_num (cut_num (cut_num b2))
        unfold rAsk
        simp only
        rw [if_neg (by rw [z.1]; omega)]
        exact z
    · right
      have en : rNode b s = rAsk b (rNum b s).1 (rNum b s).2 := by unfold rNode; rw [if_neg (by rw [a2.1]; omega)]
      rw [en]
      exact ⟨by omega, cut_ask a2⟩
theorem rNodes_aln {b : List Nat} {l : List Int} : ∀ (t : List Nd) (s : In) (m : Nat), (∀ n ∈ t, NdOk n) → Aln b s (t.flatMap ndL ++ l) m →
    ((bysL (t.flatMap ndL)).length ≤ m ∧ (rNodes b t.length s).1 = t ∧ Aln b (rNodes b t.length s).2 l (m - (bysL (t.flatMap ndL)).length)) ∨ (m < (bysL (t.flatMap ndL)).length ∧ Cut8 b (rNodes b t.length s).2)
  | [], s, m, _, h => .inl ⟨Nat.zero_le _, rfl, h⟩
  | n :: t, s, m, ht, h => by
    have hb : s.bad = 0 := h.1
    have e : rNodes b (n :: t).length s = ((rNode b s).1 :: (rNodes b t.length (rNode b s).2).1, (rNodes b t.length (rNode b s).2).2) := by
      show (if _ then _ else _) = _
      rw [if_neg (by simp [hb])]
    have h' : Aln b s (ndL n ++ (t.flatMap ndL ++ l)) m := by rw [← List.append_assoc]; exact h
    have el : (bysL ((n :: t).flatMap ndL)).length = (bysL (ndL n)).length + (bysL (t.flatMap ndL)).length := by rw [List.flatMap_cons, bys_app, List.length_append]
    rw [e, el]
    rcases rNode_aln (ht n (List.mem_cons_self ..)) h' with ⟨a1, a2, a3⟩ | ⟨a1, a2⟩
    · rcases rNodes_aln t (rNode b s).2 _ (fun x hx => ht x (List.mem_cons_of_mem _ hx)) a3 with ⟨b1, b2, b3⟩ | ⟨b1, b2⟩
      · left
        refine ⟨by omega, by rw [a2, b2], ?_⟩
        rw [show m - ((bysL (ndL n)).length + (bysL (t.flatMap ndL)).length) = m - (bysL (ndL n)).length - (bysL (t.flatMap ndL)).length by omega]
        exact b3
      · right
        exact ⟨by omega, b2⟩
    · right
      rw [cut_nodes a2]
      exact ⟨by omega, a2⟩
/-- a tree and its weight that may be written -/
def TrOk (x : Int × List Nd) : Prop := I64 x.1 ∧ 1 ≤ x.2.length ∧ x.2.length ≤ 63 ∧ ∀ n ∈ x.2, NdOk n
theorem rTree_aln {b : List Nat} {s : In} {x : Int × List Nd} {l : List Int} {m : Nat} (hx : TrOk x) (h : Aln b s (trL x ++ l) m) :
    ((bysL (trL x)).length ≤ m ∧ (rTree b s).1 = x ∧ Aln b (rTree b s).2 l (m - (bysL (trL x)).length)) ∨ (m < (bysL (trL x)).length ∧ Cut8 b (rTree b s).2) := by
  obtain ⟨i0, h1, h2, hn⟩ := hx
  have el : (bysL (trL x)).length = (numL x.1).length + (numL (x.2.length : Int)).length + (bysL (x.2.flatMap ndL)).length := by
    unfold trL
    rw [bys_cons, bys_cons, List.length_append, List.length_append]
    omega
  have h' : Aln b s (x.1 :: ((x.2.length : Int) :: (x.2.flatMap ndL ++ l))) m := h
  rw [el]
  unfold rTree
  rcases rNum_aln i0 h' with ⟨a1, a2, a3, a4⟩ | ⟨a1, a2⟩
  · rcases rMany_aln (most := 63) (show I64 (x.2.length : Int) by unfold I64; omega) (by omega) (by omega) a3 with ⟨b1, b2, b3, b4⟩ | ⟨b1, b2⟩
    · rw [b2, Int.toNat_natCast]
      rcases rNodes_aln x.2 _ _ hn b3 with ⟨c1, c2, c3⟩ | ⟨c1, c2⟩
      · left
        refine ⟨by omega, by rw [a2, c2], ?_⟩
        rw [show m - ((numL x.1).length + (numL (x.2.length : Int)).length + (bysL (x.2.flatMap ndL)).length) = m - (numL x.1).length - (numL (x.2.length : Int)).length - (bysL (x.2.flatMap ndL)).length by omega]
        exact c3
      · right
        exact ⟨by omega, c2⟩
    · right
      rw [cut_nodes b2]
      exact ⟨by omega, b2⟩
  · right
    have z := cut_many (most := 63) a2
    rw [cut_nodes z]
    exact ⟨by omega, z⟩
theorem rTrees_aln {b : List Nat} {l : List Int} : ∀ (t : List (Int × List Nd)) (s : In) (m : Nat), (∀ x ∈ t, TrOk x) → Aln b s (t.flatMap trL ++ l) m →
    ((bysL (t.flatMap trL)).length ≤ m ∧ (rTrees b t.length s).1 = t ∧ Aln b (rTrees b t.length s).2 l (m - (bysL (t.flatMap trL)).length)) ∨ (m < (bysL (t.flatMap trL)).length ∧ Cut8 b (rTrees b t.length s).2)
  | [], s, m, _, h => .inl ⟨Nat.zero_le _, rfl, h⟩
  | n :: t, s, m, ht, h => by
    have hb : s.bad = 0 := h.1
    have e : rTrees b (n :: t).length s = ((rTree b s).1 :: (rTrees b t.length (rTree b s).2).1, (rTrees b t.length (rTree b s).2).2) := by
      show (if _ then _ else _) = _
      rw [if_neg (by simp [hb])]
    have h' : Aln b s (trL n ++ (t.flatMap trL ++ l)) m := by rw [← List.append_assoc]; exact h
    have el : (bysL ((n :: t).flatMap trL)).length = (bysL (trL n)).length + (bysL (t.flatMap trL)).length := by rw [List.flatMap_cons, bys_app, List.length_append]
    rw [e, el]
    rcases rTree_aln (ht n (List.mem_cons_self ..)) h' with ⟨a1, a2, a3⟩ | ⟨a1, a2⟩
    · rcases rTrees_aln t (rTree b s).2 _ (fun x hx => ht x (List.mem_cons_of_mem _ hx)) a3 with ⟨b1, b2, b3⟩ | ⟨b1, b2⟩
      · left
        refine ⟨by omega, by rw [a2, b2], ?_⟩
        rw [show m - ((bysL (trL n)).length + (bysL (t.flatMap trL)).length) = m - (bysL (trL n)).length - (bysL (t.flatMap trL)).length by omega]
        exact b3
      · right
        exact ⟨by omega, b2⟩
    · right
      rw [cut_trees a2]
      exact ⟨by omega, a2⟩

end Go.Proofs.YtdadjppdonephagDoor.M

namespace Go.Proofs.YtdadjppdonephagDoor
open Go.ChangeShapes Go.WideShapes Go.ChangeAt Go.RowKit Go.Deep
set_option linter.unusedVariables false

def ndV (n : M.Nd) : Value := .agg #[.int .i64 (M.nf n), .int .i64 (M.nc n), .int .i64 (M.nl n), .int .i64 (M.nr n), .bool (M.ns n), .int .i64 (M.nv n)]
/-- a node's six cells -/
def SixAt (w : World) (b off : Nat) (n : M.Nd) : Prop :=
  w.cell? ⟨b, off, none⟩ = some (.int .i64 (M.nf n)) ∧ w.cell? ⟨b, off + 1, none⟩ = some (.int .i64 (M.nc n)) ∧ w.cell? ⟨b, off + 2, none⟩ = some (.int .i64 (M.nl n)) ∧
  w.cell? ⟨b, off + 3, none⟩ = some (.int .i64 (M.nr n)) ∧ w.cell? ⟨b, off + 4, none⟩ = some (.bool (M.ns n)) ∧ w.cell? ⟨b, off + 5, none⟩ = some (.int .i64 (M.nv n))
theorem SixAt.below {w w' : World} {b off : Nat} {n : M.Nd} {B : Nat} (h : SixAt w b off n) (hb : Below B w w') (hl : b < B) : SixAt w' b off n := by
  obtain ⟨h0, h1, h2, h3, h4, h5⟩ := h
  exact ⟨(hb.cell (p := ⟨b, off, none⟩) hl).trans h0, (hb.cell (p := ⟨b, off + 1, none⟩) hl).trans h1, (hb.cell (p := ⟨b, off + 2, none⟩) hl).trans h2,
    (hb.cell (p := ⟨b, off + 3, none⟩) hl).trans h3, (hb.cell (p := ⟨b, off + 4, none⟩) hl).trans h4, (hb.cell (p := ⟨b, off + 5, none⟩) hl).trans h5⟩
/-- nodes, where they lie -/
def RdN (w : World) (a : Option Addr) (ts : List M.Nd) : Prop :=
  ts.length ≤ maxLen ∧ (ts ≠ [] → ∃ b off, a = some ⟨b, off, none⟩ ∧ b < w.heap.size ∧ ∀ i, i < ts.length → SixAt w b (off + i * 6) (M.nAt ts i))
theorem RdN.below {w w' : World} {a : Option Addr} {ts : List M.Nd} (h : RdN w a ts) (hb : Below w.heap.size w w') : RdN w' a ts :=
  ⟨h.1, fun hn => by
    obtain ⟨b, off, e, hl, hc⟩ := h.2 hn
    exact ⟨b, off, e, Nat.lt_of_lt_of_le hl hb.size, fun i hi => (hc i hi).below hb hl⟩⟩

theorem cellsNode : Tryd.prog.cellsOf 48 = 6 := by kernel_rfl
theorem cellsInt : Tryd.prog.cellsOf 3 = 1 := by kernel_rfl
theorem cellsBool : Tryd.prog.cellsOf 4 = 1 := by kernel_rfl
theorem add_flat (b off i : Nat) : (⟨b, off, none⟩ : Addr).add i = ⟨b, off + i, none⟩ := by unfold Addr.add; simp

theorem struct6 {H : Type} {enc : TypeId × Value → H} {P : Program} {w : World} {base : Nat} {spare : Nat → Bool} {held : Bool} {t : TypeId} {f0 f1 f2 f3 f4 f5 : Field} {fuel : Nat} {cs : List Value} {x : DataW H × List MemPlace} (ht : P.underlying t = some (.struct #[f0, f1, f2, f3, f4, f5]))
    (h : DataW.trod enc P w base spare held fuel t cs = some x) :
    ∃ y0 y1 y2 y3 y4 y5 n, DataW.trod enc P w base spare held n f0.type ((cs.drop f0.offset).take (P.cellsOf f0.type)) = some y0 ∧
      DataW.trod enc P w base spare held n f1.type ((cs.drop f1.offset).take (P.cellsOf f1.type)) = some y1 ∧ DataW.trod enc P w base spare held n f2.type ((cs.drop f2.offset).take (P.cellsOf f2.type)) = some y2 ∧
      DataW.trod enc P w base spare held n f3.type ((cs.drop f3.offset).take (P.cellsOf f3.type)) = some y3 ∧ DataW.trod enc P w base spare held n f4.type ((cs.drop f4.offset).take (P.cellsOf f4.type)) = some y4 ∧
      DataW.trod enc P w base spare held n f5.type ((cs.drop f5.offset).take (P.cellsOf f5.type)) = some y5 := by
  obtain ⟨xs, n, _, rfl, hl, hlen, hf⟩ := DataW.trod_struct ht h
  match xs, hlen with
  | [y0, y1, y2, y3, y4, y5], _ => exact ⟨y0, y1, y2, y3, y4, y5, n, by simpa using hf 0 f0 rfl, by simpa using hf 1 f1 rfl, by simpa using hf 2 f2 rfl, by simpa using hf 3 f3 rfl, by simpa using hf 4 f4 rfl, by simpa using hf 5 f5 rfl⟩

theorem open_nodes {H : Type} {enc : TypeId × Value → H} {W : World} {base : Nat} {spare : Nat → Bool} {held : Bool} {fuel : Nat} {a : Option Addr} {len cap : Nat} {x : DataW H × List MemPlace}
    (h : DataW.trod enc Tryd.prog W base spare held fuel 46 [.slice a len cap] = some x) : ∃ ts : List M.Nd, ts.length = len ∧ RdN W a ts := by
  rcases open_slice Tryd.underlying46 h with ⟨hcs, _⟩ | ⟨a', len', cap', m, n, D, Pl, hcs, _, hl, hm, hmm, _, hx⟩
  · cases hcs
    exact ⟨[], rfl, ⟨Nat.zero_le _, fun h => absurd rfl h⟩⟩
  · cases hcs
    have hlm : len ≤ m := by rw [hmm]; split <;> omega
    have each : ∀ i, i < len → ∃ n : M.Nd, W.cell? (a'.add (i * 6)) = some (.int .i64 (M.nf n)) ∧ W.cell? (a'.add (i * 6 + 1)) = some (.int .i64 (M.nc n)) ∧ W.cell? (a'.add (i * 6 + 2)) = some (.int .i64 (M.nl n)) ∧
        W.cell? (a'.add (i * 6 + 3)) = some (.int .i64 (M.nr n)) ∧ W.cell? (a'.add (i * 6 + 4)) = some (.bool (M.ns n)) ∧ W.cell? (a'.add (i * 6 + 5)) = some (.int .i64 (M.nv n)) := by
      intro i hi
      obtain ⟨cs, h1, h2⟩ := hx i (by omega)
      rw [cellsNode] at h1
      obtain ⟨_, hlen, hcell⟩ := World.cells?_some h1
      obtain ⟨y0, y1, y2, y3, y4, y5, k, g0, g1, g2, g3, g4, g5⟩ := struct6 Tryd.underlying48 h2
      rw [cellsInt] at g0 g1 g2 g3 g5
      rw [cellsBool] at g4
      match cs, hlen with
      | [c0, c1, c2, c3, c4, c5], _ =>
        obtain ⟨n0, e0, _⟩ := DataW.trod_int Tryd.underlying3 g0
        obtain ⟨n1, e1, _⟩ := DataW.trod_int Tryd.underlying3 g1
        obtain ⟨n2, e2, _⟩ := DataW.trod_int Tryd.underlying3 g2
        obtain ⟨n3, e3, _⟩ := DataW.trod_int Tryd.underlying3 g3
        obtain ⟨n4, e4, _⟩ := DataW.trod_bool Tryd.underlying4 g4
        obtain ⟨n5, e5, _⟩ := DataW.trod_int Tryd.underlying3 g5
        simp at e0 e1 e2 e3 e4 e5
        have d0 := hcell 0 (by omega)
        have d1 := hcell 1 (by omega)
        have d2 := hcell 2 (by omega)
        have d3 := hcell 3 (by omega)
        have d4 := hcell 4 (by omega)
        have d5 := hcell 5 (by omega)
        rw [add_add] at d0 d1 d2 d3 d4 d5
        refine ⟨(n0, n1, n2, n3, n4, n5), ?_, ?_, ?_, ?_, ?_, ?_⟩
        · simpa [e0, M.nf] using d0
        · simpa [e1, M.nc] using d1
        · simpa [e2, M.nl] using d2
        · simpa [e3, M.nr] using d3
        · simpa [e4, M.ns] using d4
        · simpa [e5, M.nv] using d5
    obtain ⟨f, hf⟩ := choose_lt each
    refine ⟨(List.range len).map f, by simp, ⟨by simp; omega, fun hne => ?_⟩⟩
    have hp : 0 < len := by
      rcases Nat.eq_zero_or_pos len with h0 | h0
      · subst h0; exact absurd rfl hne
      · exact h0
    obtain ⟨b, off, spot⟩ := a'
    have hspot : spot = none := by
      have := World.cell?_spot (hf 0 hp).1
      simpa [Addr.add] using this
    subst hspot
    refine ⟨b, off, rfl, ?_, fun i hi => ?_⟩
    · have := (hf 0 hp).1
      rw [add_flat] at this
      exact block_lt_of_cell this
    · have hi' : i < len := by simpa using hi
      obtain ⟨q0, q1, q2, q3, q4, q5⟩ := hf i hi'
      rw [add_flat] at q0 q1 q2 q3 q4 q5
      have e : M.nAt ((List.range len).map f) i = f i := by unfold M.nAt; simp [List.getD, hi']
      rw [e]
      refine ⟨q0, ?_, ?_, ?_, ?_, ?_⟩
      · rw [Nat.add_assoc]; exact q1
      · rw [Nat.add_assoc]; exact q2
      · rw [Nat.add_assoc]; exact q3
      · rw [Nat.add_assoc]; exact q4
      · rw [Nat.add_assoc]; exact q5

end Go.Proofs.YtdadjppdonephagDoor

namespace Go.Proofs.YtdadjppdonephagDoor.M
set_option linter.unusedVariables false

/-! ### the leaves' values -/
def lvK (t : List Nd) : Nat → List Int
  | 0 => []
  | k + 1 => if leafB (nAt t k) = true then lvK t k ++ [nv (nAt t k)] else lvK t k
theorem lvK_mem (t : List Nd) : ∀ (k : Nat) (x : Int), x ∈ lvK t k ↔ ∃ j, j < k ∧ leafB (nAt t j) = true ∧ x = nv (nAt t j)
  | 0, x => by simp [lvK]
  | k + 1, x => by
    unfold lvK
    by_cases h : leafB (nAt t k) = true
    · rw [if_pos h, List.mem_append, lvK_mem t k x, List.mem_singleton]
      constructor
      · rintro (⟨j, h1, h2⟩ | rfl)
        · exact ⟨j, by omega, h2⟩
        · exact ⟨k, by omega, h, rfl⟩
      · rintro ⟨j, h1, h2, h3⟩
        by_cases q : j = k
        · subst q; exact .inr h3
        · exact .inl ⟨j, by omega, h2, h3⟩
    · rw [if_neg h, lvK_mem t k x]
      constructor
      · rintro ⟨j, h1, h2⟩
        exact ⟨j, by omega, h2⟩
      · rintro ⟨j, h1, h2, h3⟩
        by_cases q : j = k
        · subst q; exact absurd h2 h
        · exact ⟨j, by omega, h2, h3⟩
theorem lvK_len (t : List Nd) : ∀ k, (lvK t k).length ≤ k
  | 0 => Nat.le_refl _
  | k + 1 => by
    have := lvK_len t k
    unfold lvK
    split
    · simp; omega
    · omega
/-- the least, the greatest of a list -/
def lowL (l : List Int) : Int := (sortI l).getD 0 0
def highL (l : List Int) : Int := (sortI l).getD (l.length - 1) 0
theorem low_mem {l : List Int} (h : 0 < l.length) : lowL l ∈ l := by
  unfold lowL
  rw [getD_at (by rw [sort_length]; exact h)]
  exact (sort_perm l).mem_iff.1 (List.getElem_mem _)
theorem high_mem {l : List Int} (h : 0 < l.length) : highL l ∈ l := by
  unfold highL
  rw [getD_at (by rw [sort_length]; omega)]
  exact (sort_perm l).mem_iff.1 (List.getElem_mem _)
theorem low_le {l : List Int} {x : Int} (hx : x ∈ l) : lowL l ≤ x := by
  have hx' := (sort_perm l).mem_iff.2 hx
  obtain ⟨i, hi, rfl⟩ := List.getElem_of_mem hx'
  unfold lowL
  rw [getD_at (by omega)]
  rcases Nat.eq_zero_or_pos i with h | h
  · subst h; exact Int.le_refl _
  · exact List.pairwise_iff_getElem.1 (sort_pw l) 0 i (by omega) hi h
theorem high_ge {l : List Int} {x : Int} (hx : x ∈ l) : x ≤ highL l := by
  have hx' := (sort_perm l).mem_iff.2 hx
  obtain ⟨i, hi, rfl⟩ := List.getElem_of_mem hx'
  have hl : (sortI l).length = l.length := sort_length l
  unfold highL
  rw [getD_at (by omega)]
  by_cases h : i = l.length - 1
  · subst h; exact Int.le_refl _
  · exact List.pairwise_iff_getElem.1 (sort_pw l) i (l.length - 1) hi (by omega) (by omega)
theorem low_unique {l : List Int} {b : Int} (hb : b ∈ l) (h : ∀ x ∈ l, b ≤ x) : lowL l = b := by
  have h1 := low_le hb
  have h2 := h _ (low_mem (List.length_pos_of_mem hb))
  omega
theorem high_unique {l : List Int} {b : Int} (hb : b ∈ l) (h : ∀ x ∈ l, x ≤ b) : highL l = b := by
  have h1 := high_ge hb
  have h2 := h _ (high_mem (List.length_pos_of_mem hb))
  omega
def lowT (t : List Nd) : Int := lowL (lvK t t.length)
def highT (t : List Nd) : Int := highL (lvK t t.length)
theorem leafV_leaf' {t : List Nd} {r : List Int} (h : readyF t r = 0) : toD t r 0 < t.length ∧ nf (nAt t (toD t r 0)) = -1 := by
  have F := (tree_ok (ready_ok h).2).1
  exact to_end F.2.2.2.2.1 r t.length 0 F.2.1 (by omega)
theorem eval_mem {t : List Nd} {r : List Int} (h : readyF t r = 0) : evalV t r ∈ lvK t t.length := by
  have hl := leafV_leaf' h
  unfold evalV
  rw [if_pos h, lvK_mem]
  refine ⟨toD t r 0, hl.1, ?_, rfl⟩
  unfold leafB
  rw [hl.2]; rfl
theorem eval_between {t : List Nd} {r : List Int} (h : readyF t r = 0) : lowT t ≤ evalV t r ∧ evalV t r ≤ highT t := ⟨low_le (eval_mem h), high_ge (eval_mem h)⟩
theorem lv_in {t : List Nd} {m : Int} (F : Fair t m) : ∀ x ∈ lvK t t.length, -1000000 ≤ x ∧ x ≤ 1000000 := by
  intro x hx
  obtain ⟨j, h1, h2, rfl⟩ := (lvK_mem t _ x).1 hx
  have := F.2.2.2.2.1 j h1
  unfold leafB at h2
  unfold nodeF at this
  rw [if_pos (of_decide_eq_true h2)] at this
  unfold lfF at this
  split at this
  · cases this
  · rename_i hc
    exact out_false (by simpa using hc)
theorem lv_some {t : List Nd} {m : Int} (F : Fair t m) : 0 < (lvK t t.length).length := by
  have hR := F.2.2.2.2.1
  obtain ⟨h1, h2⟩ := to_end hR [] t.length 0 F.2.1 (by omega)
  exact List.length_pos_of_mem ((lvK_mem t _ _).2 ⟨_, h1, by unfold leafB; rw [h2]; rfl, rfl⟩)

/-! ### bounds -/
def between (w : Int) (ws least most : List Int) : Int × Int := if w ≠ 3 then (together w ws least, together w ws most) else (lowL least, highL most)
def boundsV (g : Gv) : Int × Int := if groveF g = 0 then between (gw g) (gs g) ((gt g).map lowT) ((gt g).map highT) else (0, 0)
theorem wt_at {g : Gv} (h : Good g) {i : Nat} (hi : i < (gt g).length) : 1 ≤ (gs g).getD i 0 ∧ (gs g).getD i 0 ≤ 1000 := by
  have hl := h.len
  rw [getD_at (by omega)]
  exact h.wts _ (List.getElem_mem _)
theorem ediv_mono {a b c : Int} (h : a ≤ b) (hc : 0 < c) : a / c ≤ b / c := Int.ediv_le_ediv hc h
theorem eval_bounds {g : Gv} {r : List Int} (h : standF g r = 0) : (boundsV g).1 ≤ evalG g r ∧ evalG g r ≤ (boundsV g).2 := by
  obtain ⟨G, h2, h3⟩ := stand_ok h
  have hE := each_len g r
  have t0 := G.t0
  have bt : ∀ i, i < (gt g).length → ((gt g).map lowT).getD i 0 ≤ (eachL g r).getD i 0 ∧ (eachL g r).getD i 0 ≤ ((gt g).map highT).getD i 0 := by
    intro i hi
    have e1 : ((gt g).map lowT).getD i 0 = lowT (gt g)[i] := by rw [getD_at (by simpa using hi)]; simp
    have e2 : ((gt g).map highT).getD i 0 = highT (gt g)[i] := by rw [getD_at (by simpa using hi)]; simp
    rw [each_at g r hi, e1, e2, getD_at hi]
    exact eval_between (stand_ready h (List.getElem_mem hi))
  have l1 : ((gt g).map lowT).length = (gt g).length := by simp
  have l2 : ((gt g).map highT).length = (gt g).length := by simp
  unfold boundsV evalG
  rw [if_pos ((good_iff g).2 G), if_pos h]
  unfold between
  by_cases hv : gw g = 3
  · rw [if_neg (by simp [hv])]
    unfold together
    rw [if_neg (by omega), if_neg (by omega), hE]
    obtain ⟨⟨j, j1, j2⟩, _, _⟩ := best_spec (l := eachL g r) (ws := gs g) (fun i hi => (wt_at G (by rw [← hE]; exact hi)).1) (gt g).length t0 (by omega)
    rw [j2]
    have b := bt j j1
    constructor
    · refine Int.le_trans (low_le (x := ((gt g).map lowT).getD j 0) ?_) b.1
      rw [getD_at (by omega)]; exact List.getElem_mem _
    · refine Int.le_trans b.2 (high_ge ?_)
      rw [getD_at (by omega)]; exact List.getElem_mem _
  · rw [if_pos hv]
    have m1 := sum_mono (l := (gt g).map lowT) (m := eachL g r) (ws := gs g) (gt g).length fun i hi => ⟨(bt i hi).1, by have := (wt_at G hi).1; omega⟩
    have m2 := sum_mono (l := eachL g r) (m := (gt g).map highT) (ws := gs g) (gt g).length fun i hi => ⟨(bt i hi).2, by have := (wt_at G hi).1; omega⟩
    have ap := (all_pos (ws := gs g) (gt g).length fun i hi => wt_at G hi).1
    unfold together
    rw [l1, l2, hE]
    by_cases h1 : gw g = 1
    · rw [if_pos h1, if_pos h1, if_pos h1]; exact ⟨m1, m2⟩
    · have h2' : gw g = 2 := by have := G.w1; have := G.w3; omega
      rw [if_neg h1, if_neg h1, if_neg h1, if_pos h2', if_pos h2', if_pos h2']
      exact ⟨ediv_mono m1 (by omega), ediv_mono m2 (by omega)⟩
theorem vote_in {g : Gv} {r : List Int} (h : standF g r = 0) (hv : gw g = 3) : ∃ j, j < (eachL g r).length ∧ (eachL g r).getD j 0 = evalG g r := by
  obtain ⟨G, _, _⟩ := stand_ok h
  have hE := each_len g r
  unfold evalG
  rw [if_pos h]
  unfold together
  rw [if_neg (by omega), if_neg (by omega)]
  obtain ⟨⟨j, j1, j2⟩, _, _⟩ := best_spec (l := eachL g r) (ws := gs g) (fun i hi => (wt_at G (by rw [← hE]; exact hi)).1) (eachL g r).length (by have := G.t0; omega) (Nat.le_refl _)
  exact ⟨j, j1, j2.symm⟩

/-! ### two as one -/
def joinF (a b : Gv) : Int := if groveF a ≠ 0 then groveF a else if groveF b ≠ 0 then groveF b else if gf a ≠ gf b ∨ gw a ≠ gw b then 3 else if 12 < (gt a).length + (gt b).length then 4 else 0
def joinG (a b : Gv) : Gv := (gf a, gw a, gs a ++ gs b, gt a ++ gt b)
def joinV (a b : Gv) : Gv := if joinF a b = 0 then joinG a b else (0, 0, [], [])
theorem join_ok {a b : Gv} (h : joinF a b = 0) : Good a ∧ Good b ∧ gf a = gf b ∧ gw a = gw b ∧ (gt a).length + (gt b).length ≤ 12 := by
  unfold joinF at h
  split at h
  · rename_i h1; exact absurd h h1
  · rename_i h1
    split at h
    · rename_i h2; exact absurd h h2
    · rename_i h2
      split at h
      · cases h
      · rename_i h3
        split at h
        · cases h
        · rename_i h4
          exact ⟨(good_iff a).1 (by simpa using h1), (good_iff b).1 (by simpa using h2), by omega, by omega, by omega⟩
theorem join_good {a b : Gv} (h : joinF a b = 0) : Good (joinG a b) := by
  obtain ⟨A, B, e1, e2, e3⟩ := join_ok h
  refine ⟨A.f0, A.f8, A.w1, A.w3, ?_, ?_, ?_, ?_, ?_⟩
  · show 0 < (gt a ++ gt b).length; rw [List.length_append]; have := A.t0; omega
  · show (gt a ++ gt b).length ≤ 12; rw [List.length_append]; exact e3
  · show (gs a ++ gs b).length = (gt a ++ gt b).length; rw [List.length_append, List.length_append, A.len, B.len]
  · intro w hw
    rcases List.mem_append.1 hw with q | q
    · exact A.wts w q
    · exact B.wts w q
  · intro t ht
    rcases List.mem_append.1 ht with q | q
    · exact A.trees t q
    · show (treeF t (gf a)).2 = 0
      rw [e1]; exact B.trees t q
theorem getD_left {l m : List Int} {i : Nat} (h : i < l.length) : (l ++ m).getD i 0 = l.getD i 0 := by
  rw [getD_at (by simp; omega), getD_at h, List.getElem_append_left h]
theorem getD_right {l m : List Int} {n i : Nat} (hn : l.length = n) : (l ++ m).getD (n + i) 0 = m.getD i 0 := by
  subst hn
  simp [List.getD, List.getElem?_append_right]
theorem sum_app {l m ws vs : List Int} {n : Nat} (hl : l.length = n) (hw : ws.length = n) : ∀ k, sumK (l ++ m) (ws ++ vs) (n + k) = sumK l ws n + sumK m vs k
  | 0 => by
    have : ∀ j, j ≤ n → sumK (l ++ m) (ws ++ vs) j = sumK l ws j := by
      intro j
      induction j with
      | zero => intro _; rfl
      | succ j ih =>
        intro hj
        rw [sumK, sumK, ih (by omega), getD_left (by omega), getD_left (by omega)]
    show sumK (l ++ m) (ws ++ vs) n = sumK l ws n + 0
    rw [this n (Nat.le_refl _)]; omega
  | k + 1 => by
    show sumK (l ++ m) (ws ++ vs) (n + k) + (l ++ m).getD (n + k) 0 * (ws ++ vs).getD (n + k) 0 = _
    rw [sum_app hl hw k, getD_right hl, getD_right hw, sumK]
    omega
theorem all_app {ws vs : List Int} {n : Nat} (hw : ws.length = n) : ∀ k, allK (ws ++ vs) (n + k) = allK ws n + allK vs k
  | 0 => by
    have : ∀ j, j ≤ n → allK (ws ++ vs) j = allK ws j := by
      intro j
      induction j with
      | zero => intro _; rfl
      | succ j ih =>
        intro hj
        rw [allK, allK, ih (by omega), getD_left (by omega)]
    show allK (ws ++ vs) n = allK ws n + 0
    rw [this n (Nat.le_refl _)]; omega
  | k + 1 => by
    show allK (ws ++ vs) (n + k) + (ws ++ vs).getD (n + k) 0 = _
    rw [all_app hw k, getD_right hw, allK]
    omega
theorem vot_app {l m ws vs : List Int} {n : Nat} (hl : l.length = n) (hw : ws.length = n) (v : Int) : ∀ k, votK (l ++ m) (ws ++ vs) v (n + k) = votK l ws v n + votK m vs v k
  | 0 => by
    have : ∀ j, j ≤ n → votK (l ++ m) (ws ++ vs) v j = votK l ws v j := by
      intro j
      induction j with
      | zero => intro _; rfl
      | succ j ih =>
        intro hj
        rw [votK, votK, ih (by omega), getD_left (by omega), getD_left (by omega)]
    show votK (l ++ m) (ws ++ vs) v n = votK l ws v n + 0
    rw [this n (Nat.le_refl _)]; omega
  | k + 1 => by
    show (votK (l ++ m) (ws ++ vs) v (n + k) + if (l ++ m).getD (n + k) 0 = v then (ws ++ vs).getD (n + k) 0 else 0) = _
    rw [vot_app hl hw v k, getD_right hl, getD_right hw, votK]
    omega
theorem each_app (a b : Gv) (r : List Int) : eachL (joinG a b) r = eachL a r ++ eachL b r := by
  unfold eachL joinG
  show List.map _ (gt a ++ gt b) = _
  rw [List.map_append]
theorem join_stand {a b : Gv} {r : List Int} (h : joinF a b = 0) (hs : standF a r = 0) : standF b r = 0 ∧ standF (joinG a b) r = 0 := by
  obtain ⟨A, B, e1, e2, e3⟩ := join_ok h
  obtain ⟨_, h2, h3⟩ := stand_ok hs
  exact ⟨stand_of B h2 (by rw [← e1]; exact h3), stand_of (join_good h) h2 h3⟩
theorem join_sum {a b : Gv} {r : List Int} (h : joinF a b = 0) (hs : standF a r = 0) (hw : gw a = 1) : evalG (joinG a b) r = evalG a r + evalG b r := by
  obtain ⟨A, B, e1, e2, e3⟩ := join_ok h
  obtain ⟨s1, s2⟩ := join_stand h hs
  unfold evalG
  rw [if_pos s2, if_pos hs, if_pos s1]
  unfold together
  rw [if_pos (show gw (joinG a b) = 1 from hw), if_pos hw, if_pos (by rw [← e2]; exact hw), each_app, List.length_append]
  exact sum_app rfl (by rw [each_len]; exact A.len) _
theorem twice {g : Gv} {r : List Int} (h : joinF g g = 0) (hs : standF g r = 0) : evalG (joinG g g) r = if gw g = 1 then 2 * evalG g r else evalG g r := by
  obtain ⟨A, _, _, _, _⟩ := join_ok h
  obtain ⟨_, s2⟩ := join_stand h hs
  by_cases h1 : gw g = 1
  · rw [if_pos h1, join_sum h hs h1]; omega
  · rw [if_neg h1]
    have hE := each_len g r
    have hl : (gs g).length = (eachL g r).length := by rw [hE]; exact A.len
    unfold evalG
    rw [if_pos s2, if_pos hs]
    unfold together
    have ew : gw (joinG g g) = gw g := rfl
    have es : gs (joinG g g) = gs g ++ gs g := rfl
    rw [ew, es, if_neg h1, if_neg h1, each_app, List.length_append]
    by_cases h2 : gw g = 2
    · rw [if_pos h2, if_pos h2, sum_app rfl hl, all_app hl]
      have ap := (all_pos (ws := gs g) (eachL g r).length fun i hi => wt_at A (by rw [← hE]; exact hi)).1
      have a0 : 0 < (eachL g r).length := by rw [hE]; exact A.t0
      rw [show sumK (eachL g r) (gs g) (eachL g r).length + sumK (eachL g r) (gs g) (eachL g r).length = 2 * sumK (eachL g r) (gs g) (eachL g r).length by omega,
        show allK (gs g) (eachL g r).length + allK (gs g) (eachL g r).length = 2 * allK (gs g) (eachL g r).length by omega]
      exact Int.mul_ediv_mul_of_pos _ _ (by omega)
    · rw [if_neg h2, if_neg h2]
      have w1 : ∀ i, i < (eachL g r).length → 1 ≤ (gs g).getD i 0 := fun i hi => (wt_at A (by rw [← hE]; exact hi)).1
      have a0 : 0 < (eachL g r).length := by rw [hE]; exact A.t0
      obtain ⟨⟨j, j1, j2⟩, j3, j4⟩ := best_spec w1 (eachL g r).length a0 (Nat.le_refl _)
      have key : ∀ i, i < (eachL g r).length + (eachL g r).length → ∃ i', i' < (eachL g r).length ∧ (eachL g r ++ eachL g r).getD i 0 = (eachL g r).getD i' 0 := by
        intro i hi
        by_cases q : i < (eachL g r).length
        · exact ⟨i, q, getD_left q⟩
        · refine ⟨i - (eachL g r).length, by omega, ?_⟩
          have := getD_right (l := eachL g r) (m := eachL g r) (i := i - (eachL g r).length) rfl
          rwa [show (eachL g r).length + (i - (eachL g r).length) = i by omega] at this
      have vt : ∀ v, votK (eachL g r ++ eachL g r) (gs g ++ gs g) v ((eachL g r).length + (eachL g r).length) = 2 * votK (eachL g r) (gs g) v (eachL g r).length := by
        intro v
        rw [vot_app rfl hl v]; omega
      have := best_unique (l := eachL g r ++ eachL g r) (ws := gs g ++ gs g) (b := (bestK (eachL g r) (gs g) (eachL g r).length).2)
        (fun i hi => by
          rw [List.length_append] at hi
          by_cases q : i < (eachL g r).length
          · rw [getD_left (by omega)]; exact w1 i q
          · have e := getD_right (l := gs g) (m := gs g) (i := i - (eachL g r).length) hl
            rw [show (eachL g r).length + (i - (eachL g r).length) = i by omega] at e
            rw [e]; exact w1 _ (by omega))
        (by rw [List.length_append]; omega)
        ⟨j, by rw [List.length_append]; omega, by rw [getD_left j1]; exact j2⟩
        (fun i hi => by
          rw [List.length_append] at hi ⊢
          obtain ⟨i', q1, q2⟩ := key i hi
          rw [q2, vt, vt, ← j3]
          have := j4 i' q1
          omega)
      rw [List.length_append] at this
      exact this

theorem join_self {g : Gv} (h : Good g) : joinF g g = 0 ∨ (joinF g g = 4 ∧ 12 < 2 * (gt g).length) := by
  unfold joinF
  rw [if_neg (by simp [(good_iff g).2 h]), if_neg (by simp [(good_iff g).2 h]), if_neg (by simp)]
  by_cases q : 12 < (gt g).length + (gt g).length
  · rw [if_pos q]; exact .inr ⟨rfl, by omega⟩
  · rw [if_neg q]; exact .inl rfl
theorem each_in {g : Gv} {r : List Int} (h : standF g r = 0) {i : Nat} (hi : i < (gt g).length) : -1000000 ≤ (eachL g r).getD i 0 ∧ (eachL g r).getD i 0 ≤ 1000000 := by
  rw [each_at g r hi, getD_at hi]
  have hr := stand_ready h (List.getElem_mem hi)
  exact lv_in (tree_ok (ready_ok hr).2).1 _ (eval_mem hr)
theorem eval_range {g : Gv} {r : List Int} (h : standF g r = 0) (hw : gw g = 1) : -12000000000 ≤ evalG g r ∧ evalG g r ≤ 12000000000 := by
  obtain ⟨G, _, _⟩ := stand_ok h
  unfold evalG
  rw [if_pos h]
  unfold together
  rw [if_pos hw, each_len]
  have := sum_bound (l := eachL g r) (ws := gs g) (gt g).length fun i hi => ⟨(each_in h hi).1, (each_in h hi).2, (wt_at G hi).1, (wt_at G hi).2⟩
  have := G.t12
  omega
def one7 : Gv := (0, 3, [1], [[(-1, 0, 0, 0, false, 7)]])
theorem one7_stand : standF one7 [] = 0 := by decide +kernel
theorem one7_each : eachV one7 [] = [7] := by decide +kernel
def two7 : Gv := (0, 2, [1, 3], [[(-1, 0, 0, 0, false, 7)], [(-1, 0, 0, 0, false, 7)]])
theorem two7_stand : standF two7 [] = 0 := by decide +kernel
theorem two7_eval : evalG two7 [] = 7 := by decide +kernel

end Go.Proofs.YtdadjppdonephagDoor.M
