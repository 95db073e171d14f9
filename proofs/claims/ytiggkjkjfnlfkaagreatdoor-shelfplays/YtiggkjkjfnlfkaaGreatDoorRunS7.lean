/-
  Several texts as one: MathG, MathCb, MathHa.
-/
import Derived.Test.YtiggkjkjfnlfkaaGreatDoorRunS6
import Derived.Test.YtiggkjkjfnlfkaaGreatDoorRunS0
namespace Go.Proofs.YtiggkjkjfnlfkaaGreatDoor.M
set_option linter.unusedVariables false
/-- a grove: Features, Way, Weights, Trees -/
abbrev Gv := Int × Int × List Int × List (List Nd)
abbrev gf (g : Gv) : Int := g.1
abbrev gw (g : Gv) : Int := g.2.1
abbrev gs (g : Gv) : List Int := g.2.2.1
abbrev gt (g : Gv) : List (List Nd) := g.2.2.2

def wBad (w : Int) : Bool := decide (w < 1) || decide (1000 < w)
theorem wbad_false {w : Int} (h : wBad w = false) : 1 ≤ w ∧ w ≤ 1000 := by
  unfold wBad at h
  rw [Bool.or_eq_false_iff] at h
  have h1 := of_decide_eq_false h.1
  have h2 := of_decide_eq_false h.2
  omega
theorem wbad_ok {w : Int} (h1 : 1 ≤ w) (h2 : w ≤ 1000) : wBad w = false := by
  unfold wBad
  rw [decide_eq_false (by omega), decide_eq_false (by omega)]; rfl
/-- the fault of the first tree that has one -/
def treesF (f : Int) (ts : List (List Nd)) : Int := match firstN (fun i => !decide ((treeF (ts.getD i []) f).2 = 0)) ts.length with
  | some i => (treeF (ts.getD i []) f).2
  | none => 0
theorem trees_at {f : Int} {ts : List (List Nd)} {k : Nat} (hk : k < ts.length) (h : ∀ j, j < k → (treeF (ts.getD j []) f).2 = 0) (hn : (treeF (ts.getD k []) f).2 ≠ 0) : treesF f ts = (treeF (ts.getD k []) f).2 := by
  unfold treesF
  rw [first_hit (k := k) (by show (!decide ((treeF (ts.getD k []) f).2 = 0)) = true; rw [decide_eq_false hn]; rfl) (fun j hj => by show (!decide ((treeF (ts.getD j []) f).2 = 0)) = false; rw [decide_eq_true (h j hj)]; rfl) hk]
theorem trees_all {f : Int} {ts : List (List Nd)} (h : ∀ j, j < ts.length → (treeF (ts.getD j []) f).2 = 0) : treesF f ts = 0 := by
  unfold treesF
  rw [first_miss (fun j hj => by show (!decide ((treeF (ts.getD j []) f).2 = 0)) = false; rw [decide_eq_true (h j hj)]; rfl)]
theorem trees_zero {f : Int} {ts : List (List Nd)} (h : treesF f ts = 0) : ∀ j, j < ts.length → (treeF (ts.getD j []) f).2 = 0 := by
  unfold treesF at h
  split at h
  · rename_i i e
    have q := (first_some e).2
    rw [decide_eq_true h] at q
    cases q
  · rename_i e
    intro j hj
    have := first_none e j hj
    simpa using this

def groveF (g : Gv) : Int :=
  if gf g < 0 ∨ 8 < gf g ∨ gw g < 1 ∨ 3 < gw g then 1
  else if (gt g).length = 0 then 5
  else if 12 < (gt g).length then 4
  else if (gs g).length ≠ (gt g).length then 3
  else if (gs g).any wBad = true then 1
  else treesF (gf g) (gt g)
/-- all that is right with a grove that is right -/
structure Good (g : Gv) : Prop where
  f0 : 0 ≤ gf g
  f8 : gf g ≤ 8
  w1 : 1 ≤ gw g
  w3 : gw g ≤ 3
  t0 : 0 < (gt g).length
  t12 : (gt g).length ≤ 12
  len : (gs g).length = (gt g).length
  wts : ∀ w ∈ gs g, 1 ≤ w ∧ w ≤ 1000
  trees : ∀ t ∈ gt g, (treeF t (gf g)).2 = 0
theorem good_iff (g : Gv) : groveF g = 0 ↔ Good g := by
  constructor
  · intro h
    unfold groveF at h
    split at h
    · cases h
    · rename_i h1
      split at h
      · cases h
      · rename_i h2
        split at h
        · cases h
        · rename_i h3
          split at h
          · cases h
          · rename_i h4
            split at h
            · cases h
            · rename_i h5
              refine ⟨by omega, by omega, by omega, by omega, by omega, by omega, by omega, ?_, ?_⟩
              · intro w hw
                apply wbad_false
                cases e : wBad w with
                | false => rfl
                | true => exact absurd (List.any_eq_true.2 ⟨w, hw, e⟩) h5
              · intro t ht
                obtain ⟨i, hi, rfl⟩ := List.getElem_of_mem ht
                have := trees_zero h i hi
                rwa [getD_at hi] at this
  · intro h
    unfold groveF
    rw [if_neg (by have := h.f0; have := h.f8; have := h.w1; have := h.w3; omega), if_neg (by have := h.t0; omega), if_neg (by have := h.t12; omega), if_neg (by have := h.len; omega), if_neg, trees_all]
    · intro j hj
      rw [getD_at hj]; exact h.trees _ (List.getElem_mem hj)
    · intro hc
      obtain ⟨w, hw, e⟩ := List.any_eq_true.1 hc
      have := h.wts w hw
      rw [wbad_ok this.1 this.2] at e
      cases e

/-- the fault of a grove and a row -/
def standF (g : Gv) (r : List Int) : Int := if groveF g ≠ 0 then groveF g else if rowF r ≠ 0 then rowF r else if (r.length : Int) ≠ gf g then 3 else 0
theorem stand_ok {g : Gv} {r : List Int} (h : standF g r = 0) : Good g ∧ rowF r = 0 ∧ (r.length : Int) = gf g := by
  unfold standF at h
  split at h
  · rename_i h1; exact absurd h h1
  · rename_i h1
    split at h
    · rename_i h2; exact absurd h h2
    · rename_i h2
      split at h
      · cases h
      · rename_i h3
        exact ⟨(good_iff g).1 (by simpa using h1), by simpa using h2, by simpa using h3⟩
theorem stand_of {g : Gv} {r : List Int} (h1 : Good g) (h2 : rowF r = 0) (h3 : (r.length : Int) = gf g) : standF g r = 0 := by
  unfold standF
  rw [if_neg (by simp [(good_iff g).2 h1]), if_neg (by simp [h2]), if_neg (by simp [h3])]
theorem stand_ready {g : Gv} {r : List Int} (h : standF g r = 0) {t : List Nd} (ht : t ∈ gt g) : readyF t r = 0 := by
  obtain ⟨h1, h2, h3⟩ := stand_ok h
  rw [ready_tree h2, h3]
  exact h1.trees t ht

def eachL (g : Gv) (r : List Int) : List Int := (gt g).map fun t => evalV t r
def eachV (g : Gv) (r : List Int) : List Int := if standF g r = 0 then eachL g r else []
theorem each_len (g : Gv) (r : List Int) : (eachL g r).length = (gt g).length := by unfold eachL; simp
theorem each_at (g : Gv) (r : List Int) {i : Nat} (hi : i < (gt g).length) : (eachL g r).getD i 0 = evalV ((gt g).getD i []) r := by
  rw [getD_at (by rw [each_len]; exact hi), getD_at hi]; simp [eachL]

/-! ### together -/
def sumK (l ws : List Int) : Nat → Int
  | 0 => 0
  | k + 1 => sumK l ws k + l.getD k 0 * ws.getD k 0
def allK (ws : List Int) : Nat → Int
  | 0 => 0
  | k + 1 => allK ws k + ws.getD k 0
def votK (l ws : List Int) (v : Int) : Nat → Int
  | 0 => 0
  | k + 1 => votK l ws v k + if l.getD k 0 = v then ws.getD k 0 else 0
/-- of the first k values: the most votes, and who has them -/
def bestK (l ws : List Int) : Nat → Int × Int
  | 0 => (0, 0)
  | k + 1 => if (bestK l ws k).1 < votK l ws (l.getD k 0) l.length ∨ (votK l ws (l.getD k 0) l.length = (bestK l ws k).1 ∧ l.getD k 0 < (bestK l ws k).2) then (votK l ws (l.getD k 0) l.length, l.getD k 0) else bestK l ws k
def together (w : Int) (ws l : List Int) : Int := if w = 1 then sumK l ws l.length else if w = 2 then sumK l ws l.length / allK ws l.length else (bestK l ws l.length).2
def evalG (g : Gv) (r : List Int) : Int := if standF g r = 0 then together (gw g) (gs g) (eachL g r) else 0

theorem vot_pos {l ws : List Int} (hw : ∀ i, i < l.length → 1 ≤ ws.getD i 0) (v : Int) : ∀ k, k ≤ l.length → 0 ≤ votK l ws v k ∧ ∀ j, j < k → l.getD j 0 = v → 1 ≤ votK l ws v k
  | 0, _ => ⟨Int.le_refl _, fun j h => by omega⟩
  | k + 1, hk => by
    obtain ⟨h1, h2⟩ := vot_pos hw v k (by omega)
    have hwk := hw k (by omega)
    unfold votK
    refine ⟨by split <;> omega, fun j hj e => ?_⟩
    by_cases q : j = k
    · subst q; rw [if_pos e]; omega
    · have := h2 j (by omega) e
      split <;> omega
theorem best_spec {l ws : List Int} (hw : ∀ i, i < l.length → 1 ≤ ws.getD i 0) : ∀ k, 0 < k → k ≤ l.length → (∃ j, j < k ∧ (bestK l ws k).2 = l.getD j 0) ∧ (bestK l ws k).1 = votK l ws (bestK l ws k).2 l.length ∧ ∀ i, i < k → votK l ws (l.getD i 0) l.length < (bestK l ws k).1 ∨ (votK l ws (l.getD i 0) l.length = (bestK l ws k).1 ∧ (bestK l ws k).2 ≤ l.getD i 0)
  | 0, h, _ => by omega
  | k + 1, _, hk => by
    by_cases hc : (bestK l ws k).1 < votK l ws (l.getD k 0) l.length ∨ (votK l ws (l.getD k 0) l.length = (bestK l ws k).1 ∧ l.getD k 0 < (bestK l ws k).2)
    · have e : bestK l ws (k + 1) = (votK l ws (l.getD k 0) l.length, l.getD k 0) := by rw [bestK, if_pos hc]
      rw [e]
      refine ⟨⟨k, by omega, rfl⟩, rfl, fun i hi => ?_⟩
      by_cases q : i = k
      · subst q; exact .inr ⟨rfl, Int.le_refl _⟩
      · by_cases k0 : k = 0
        · omega
        · have := (best_spec hw k (by omega) (by omega)).2.2 i (by omega)
          show votK l ws (l.getD i 0) l.length < votK l ws (l.getD k 0) l.length ∨ (votK l ws (l.getD i 0) l.length = votK l ws (l.getD k 0) l.length ∧ l.getD k 0 ≤ l.getD i 0)
          omega
    · have e : bestK l ws (k + 1) = bestK l ws k := by rw [bestK, if_neg hc]
      rw [e]
      by_cases k0 : k = 0
      · subst k0
        have := (vot_pos hw (l.getD 0 0) l.length (Nat.le_refl _)).2 0 (by omega) rfl
        exact absurd (.inl (show (bestK l ws 0).1 < _ by show (0 : Int) < _; omega)) hc
      · obtain ⟨⟨j, h1, h2⟩, h3, h4⟩ := best_spec hw k (by omega) (by omega)
        refine ⟨⟨j, by omega, h2⟩, h3, fun i hi => ?_⟩
        by_cases q : i = k
        · subst q; omega
        · exact h4 i (by omega)
/-- who has most votes, and of equal ones is the least, is the one that is told -/
theorem best_unique {l ws : List Int} (hw : ∀ i, i < l.length → 1 ≤ ws.getD i 0) (h0 : 0 < l.length) {b : Int} (hb : ∃ j, j < l.length ∧ b = l.getD j 0) (hm : ∀ i, i < l.length → votK l ws (l.getD i 0) l.length < votK l ws b l.length ∨ (votK l ws (l.getD i 0) l.length = votK l ws b l.length ∧ b ≤ l.getD i 0)) : (bestK l ws l.length).2 = b := by
  obtain ⟨⟨j, h1, h2⟩, h3, h4⟩ := best_spec hw l.length h0 (Nat.le_refl _)
  obtain ⟨i, h5, h6⟩ := hb
  have a := hm j h1
  have c := h4 i h5
  rw [← h2] at a
  rw [← h6, h3] at c
  omega

/-! ### what is more stays more -/
theorem sum_mono {l m ws : List Int} : ∀ k, (∀ i, i < k → l.getD i 0 ≤ m.getD i 0 ∧ 0 ≤ ws.getD i 0) → sumK l ws k ≤ sumK m ws k
  | 0, _ => Int.le_refl _
  | k + 1, h => by
    have ih := sum_mono (l := l) (m := m) (ws := ws) k fun i hi => h i (by omega)
    obtain ⟨h1, h2⟩ := h k (by omega)
    have := Int.mul_le_mul_of_nonneg_right h1 h2
    unfold sumK
    omega
theorem all_pos {ws : List Int} : ∀ k, (∀ i, i < k → 1 ≤ ws.getD i 0 ∧ ws.getD i 0 ≤ 1000) → (k : Int) ≤ allK ws k ∧ allK ws k ≤ 1000 * k
  | 0, _ => by simp [allK]
  | k + 1, h => by
    have ih := all_pos k fun i hi => h i (by omega)
    have := h k (by omega)
    unfold allK
    omega
theorem sum_bound {l ws : List Int} : ∀ k, (∀ i, i < k → -1000000 ≤ l.getD i 0 ∧ l.getD i 0 ≤ 1000000 ∧ 1 ≤ ws.getD i 0 ∧ ws.getD i 0 ≤ 1000) → -1000000000 * (k : Int) ≤ sumK l ws k ∧ sumK l ws k ≤ 1000000000 * (k : Int)
  | 0, _ => by simp [sumK]
  | k + 1, h => by
    have ih := sum_bound k fun i hi => h i (by omega)
    obtain ⟨h1, h2, h3, h4⟩ := h k (by omega)
    have a : l.getD k 0 * ws.getD k 0 ≤ 1000000 * 1000 := by
      have q1 : l.getD k 0 * ws.getD k 0 ≤ 1000000 * ws.getD k 0 := Int.mul_le_mul_of_nonneg_right h2 (by omega)
      omega
    have b : -1000000 * 1000 ≤ l.getD k 0 * ws.getD k 0 := by
      have q1 : -1000000 * ws.getD k 0 ≤ l.getD k 0 * ws.getD k 0 := Int.mul_le_mul_of_nonneg_right h1 (by omega)
      omega
    unfold sumK
    omega
theorem vot_bound {l ws : List Int} (v : Int) : ∀ k, (∀ i, i < k → 1 ≤ ws.getD i 0 ∧ ws.getD i 0 ≤ 1000) → 0 ≤ votK l ws v k ∧ votK l ws v k ≤ 1000 * k
  | 0, _ => by simp [votK]
  | k + 1, h => by
    have ih := vot_bound (l := l) v k fun i hi => h i (by omega)
    have := h k (by omega)
    unfold votK
    split <;> omega
/-! ### written -/
def ndL (n : Nd) : List Int := if nf n = -1 then [nf n, nv n] else [nf n, nc n, nl n, nr n, if ns n = true then 1 else 0]
def trL (x : Int × List Nd) : List Int := x.1 :: (x.2.length : Int) :: x.2.flatMap ndL
def grL (g : Gv) : List Int := gf g :: gw g :: ((gt g).length : Int) :: ((gs g).zip (gt g)).flatMap trL
def encB (g : Gv) : List Nat := bysL (grL g)
def encF (g : Gv) : Int := if groveF g ≠ 0 then groveF g else if 6000 < (encB g).length then 4 else 0
def encV (g : Gv) : List Nat := if encF g = 0 then encB g else []

/-! ### read: where the last number begins, where it ends, what is wrong -/
structure In where
  at' : Nat
  fin : Nat
  bad : Int
def rNum (b : List Nat) (s : In) : Int × In := if s.bad ≠ 0 then (0, s) else ((getL (b.drop s.fin)).1, ⟨s.fin, s.fin + (getL (b.drop s.fin)).2.1, (getL (b.drop s.fin)).2.2⟩)
def rMany (b : List Nat) (most : Int) (s : In) : Int × In :=
  if (rNum b s).2.bad = 0 ∧ ((rNum b s).1 < 1 ∨ most < (rNum b s).1) then (0, { (rNum b s).2 with bad := 1 })
  else if (rNum b s).2.bad ≠ 0 then (0, (rNum b s).2) else rNum b s
def rAsk (b : List Nat) (f : Int) (s : In) : Nd × In :=
  let c := rNum b s
  let l := rNum b c.2
  let r := rNum b l.2
  let x := rNum b r.2
  ((f, c.1, l.1, r.1, decide (x.1 = 1), 0), if x.2.bad = 0 ∧ x.1 ≠ 0 ∧ x.1 ≠ 1 then { x.2 with bad := 2 } else x.2)
def rNode (b : List Nat) (s : In) : Nd × In :=
  if (rNum b s).2.bad = 0 ∧ (rNum b s).1 = -1 then (((rNum b s).1, 0, 0, 0, false, (rNum b (rNum b s).2).1), (rNum b (rNum b s).2).2)
  else rAsk b (rNum b s).1 (rNum b s).2
/-- so many nodes, as long as nothing is wrong -/
def rNodes (b : List Nat) : Nat → In → List Nd × In
  | 0, s => ([], s)
  | k + 1, s => if s.bad ≠ 0 then ([], s) else ((rNode b s).1 :: (rNodes b k (rNode b s).2).1, (rNodes b k (rNode b s).2).2)
def rTree (b : List Nat) (s : In) : (Int × List Nd) × In :=
  (((rNum b s).1, (rNodes b (rMany b 63 (rNum b s).2).1.toNat (rMany b 63 (rNum b s).2).2).1), (rNodes b (rMany b 63 (rNum b s).2).1.toNat (rMany b 63 (rNum b s).2).2).2)
def rTrees (b : List Nat) : Nat → In → List (Int × List Nd) × In
  | 0, s => ([], s)
  | k + 1, s => if s.bad ≠ 0 then ([], s) else ((rTree b s).1 :: (rTrees b k (rTree b s).2).1, (rTrees b k (rTree b s).2).2)
def in0 : In := ⟨0, 0, 0⟩
/-- features, way, and how many trees -/
def rHead (b : List Nat) : (Int × Int × Int) × In := (((rNum b in0).1, (rNum b (rNum b in0).2).1, (rMany b 12 (rNum b (rNum b in0).2).2).1), (rMany b 12 (rNum b (rNum b in0).2).2).2)
def rAll (b : List Nat) : List (Int × List Nd) × In := rTrees b (rHead b).1.2.2.toNat (rHead b).2
def rGrove (b : List Nat) : Gv := ((rHead b).1.1, (rHead b).1.2.1, (rAll b).1.map (·.1), (rAll b).1.map (·.2))
/-- the grove of bytes; where what is wrong begins; how -/
def decF (b : List Nat) : Nat × Int :=
  if 6000 < b.length then (0, 4)
  else if (rAll b).2.bad ≠ 0 then ((rAll b).2.at', (rAll b).2.bad)
  else if (rAll b).2.fin ≠ b.length then ((rAll b).2.fin, 2)
  else if groveF (rGrove b) ≠ 0 then ((rAll b).2.fin, groveF (rGrove b))
  else (0, 0)
def decV (b : List Nat) : Gv := if (decF b).2 = 0 then rGrove b else (0, 0, [], [])

/-! ### number by number along what was written -/
/-- from where the last number ends, bytes are the first m of those of these numbers -/
def Aln (b : List Nat) (s : In) (l : List Int) (m : Nat) : Prop := s.bad = 0 ∧ s.fin ≤ b.length ∧ b.drop s.fin = (bysL l).take m
/-- cut off: what is wrong begins within -/
def Cut8 (b : List Nat) (s : In) : Prop := s.bad = 8 ∧ s.at' ≤ b.length
theorem rNum_bad {b : List Nat} {s : In} (h : s.bad ≠ 0) : rNum b s = (0, s) := by unfold rNum; rw [if_pos h]
theorem rNum_go {b : List Nat} {s : In} (h : s.bad = 0) : rNum b s = ((getL (b.drop s.fin)).1, ⟨s.fin, s.fin + (getL (b.drop s.fin)).2.1, (getL (b.drop s.fin)).2.2⟩) := by unfold rNum; rw [if_neg (by simp [h])]
/-- whole: the number is read, and the rest lies behind it; cut off: it is told -/
theorem rNum_aln {b : List Nat} {s : In} {n : Int} {l : List Int} {m : Nat} (hn : I64 n) (h : Aln b s (n :: l) m) :
    ((numL n).length ≤ m ∧ (rNum b s).1 = n ∧ Aln b (rNum b s).2 l (m - (numL n).length) ∧ (rNum b s).2.fin = s.fin + (numL n).length) ∨ (m < (numL n).length ∧ Cut8 b (rNum b s).2) := by
  obtain ⟨h1, h2, h3⟩ := h
  rw [bys_cons] at h3
  rw [rNum_go h1]
  by_cases q : (numL n).length ≤ m
  · left
    rw [List.take_append, List.take_of_length_le q] at h3
    have e := get_num hn.1 hn.2 ((bysL l).take (m - (numL n).length))
    rw [h3, e]
    have hlen : b.length - s.fin = (numL n).length + ((bysL l).take (m - (numL n).length)).length := by
      have := congrArg List.length h3
      rw [List.length_drop, List.length_append] at this
      exact this
    refine ⟨q, rfl, ⟨rfl, ?_, ?_⟩, rfl⟩
    · show s.fin + (numL n).length ≤ b.length
      omega
    · show b.drop (s.fin + (numL n).length) = _
      rw [← List.drop_drop, h3, List.drop_left]
  · right
    have q' : m < (numL n).length := by omega
    rw [List.take_append_of_le_length (by omega)] at h3
    rw [h3, get_cut hn.1 hn.2 q']
    exact ⟨q', rfl, h2⟩
theorem rMany_aln {b : List Nat} {s : In} {n most : Int} {l : List Int} {m : Nat} (hn : I64 n) (h1 : 1 ≤ n) (h2 : n ≤ most) (h : Aln b s (n :: l) m) :
    ((numL n).length ≤ m ∧ (rMany b most s).1 = n ∧ Aln b (rMany b most s).2 l (m - (numL n).length) ∧ (rMany b most s).2.fin = s.fin + (numL n).length) ∨ (m < (numL n).length ∧ Cut8 b (rMany b most s).2) := by
  rcases rNum_aln hn h with ⟨a1, a2, a3, a4⟩ | ⟨a1, a2⟩
  · left
    unfold rMany
    rw [if_neg (by rw [a2]; omega), if_neg (by simp [a3.1])]
    exact ⟨a1, a2, a3, a4⟩
  · right
    unfold rMany
    rw [if_neg (by rw [a2.1]; omega), if_pos (by rw [a2.1]; decide)]
    exact ⟨a1, a2⟩
theorem cut_num {b : List Nat} {s : In} (h : Cut8 b s) : Cut8 b (rNum b s).2 := by rw [rNum_bad (by rw [h.1]; decide)]; exact h
theorem cut_many {b : List Nat} {s : In} {most : Int} (h : Cut8 b s) : Cut8 b (rMany b most s).2 := by
  have h' := cut_num h
  unfold rMany
  rw [if_neg (by rw [h'.1]; omega), if_pos (by rw [h'.1]; decide)]
  exact h'
theorem cut_ask {b : List Nat} {s : In} {f : Int} (h : Cut8 b s) : Cut8 b (rAsk b f s).2 := by
  have h' := cut_num (cut_num (cut_num (cut_num h)))
  unfold rAsk
  simp only
  rw [if_neg (by rw [h'.1]; omega)]
  exact h'
theorem cut_nodes {b : List Nat} {s : In} (h : Cut8 b s) (k : Nat) : rNodes b k s = ([], s) := by
  cases k with
  | zero => rfl
  | succ k => show (if _ then _ else _) = _; rw [if_pos (by rw [h.1]; decide)]
theorem cut_trees {b : List Nat} {s : In} (h : Cut8 b s) (k : Nat) : rTrees b k s = ([], s) := by
  cases k with
  | zero => rfl
  | succ k => show (if _ then _ else _) = _; rw [if_pos (by rw [h.1]; decide)]
/-- a node that may be written -/
def NdOk (n : Nd) : Prop := I64 (nf n) ∧ I64 (nc n) ∧ I64 (nl n) ∧ I64 (nr n) ∧ I64 (nv n) ∧ (nf n = -1 → n = (-1, 0, 0, 0, false, nv n)) ∧ (nf n ≠ -1 → nv n = 0)
theorem i64_01 (b : Bool) : I64 (if b = true then 1 else 0) := by unfold I64; split <;> omega
theorem rNode_aln {b : List Nat} {s : In} {n : Nd} {l : List Int} {m : Nat} (hn : NdOk n) (h : Aln b s (ndL n ++ l) m) :
    ((bysL (ndL n)).length ≤ m ∧ (rNode b s).1 = n ∧ Aln b (rNode b s).2 l (m - (bysL (ndL n)).length)) ∨ (m < (bysL (ndL n)).length ∧ Cut8 b (rNode b s).2) := by
  obtain ⟨i0, i1, i2, i3, i4, hl, ha⟩ := hn
  by_cases q : nf n = -1
  · have e : ndL n = [nf n, nv n] := by unfold ndL; rw [if_pos q]
    have el : (bysL (ndL n)).length = (numL (nf n)).length + (numL (nv n)).length := by rw [e, bys_cons, bys_cons, List.length_append, List.length_append]; rfl
    rw [e] at h
    rw [el]
    have h' : Aln b s (nf n :: (nv n :: l)) m := h
    rcases rNum_aln i0 h' with ⟨a1, a2, a3, a4⟩ | ⟨a1, a2⟩
    · have en : rNode b s = (((rNum b s).1, 0, 0, 0, false, (rNum b (rNum b s).2).1), (rNum b (rNum b s).2).2) := by unfold rNode; rw [if_pos ⟨a3.1, by rw [a2]; exact q⟩]
      rw [en]
      rcases rNum_aln i4 a3 with ⟨b1, b2, b3, b4⟩ | ⟨b1, b2⟩
      · left
        refine ⟨by omega, ?_, ?_⟩
        · show ((rNum b s).1, 0, 0, 0, false, (rNum b (rNum b s).2).1) = n
          rw [a2, b2, hl q]
          rfl
        · rw [show m - ((numL (nf n)).length + (numL (nv n)).length) = m - (numL (nf n)).length - (numL (nv n)).length by omega]
          exact b3
      · right
        exact ⟨by omega, b2⟩
    · right
      have en : rNode b s = rAsk b (rNum b s).1 (rNum b s).2 := by unfold rNode; rw [if_neg (by rw [a2.1]; omega)]
      rw [en]
      exact ⟨by omega, cut_ask a2⟩
  · have e : ndL n = [nf n, nc n, nl n, nr n, if ns n = true then 1 else 0] := by unfold ndL; rw [if_neg q]
    obtain ⟨x, hx⟩ : ∃ x : Int, x = if ns n = true then 1 else 0 := ⟨_, rfl⟩
    rw [← hx] at e
    have ix : I64 x := by rw [hx]; exact i64_01 _
    have el : (bysL (ndL n)).length = (numL (nf n)).length + (numL (nc n)).length + (numL (nl n)).length + (numL (nr n)).length + (numL x).length := by
      rw [e]
      simp only [bys_cons, List.length_append]
      show _ + (_ + (_ + (_ + (_ + 0)))) = _
      omega
    rw [e] at h
    rw [el]
    have h' : Aln b s (nf n :: (nc n :: (nl n :: (nr n :: (x :: l))))) m := h
    rcases rNum_aln i0 h' with ⟨a1, a2, a3, a4⟩ | ⟨a1, a2⟩
    · have en : rNode b s = rAsk b (rNum b s).1 (rNum b s).2 := by unfold rNode; rw [if_neg (by rw [a2]; exact fun z => q z.2)]
      rw [en]
      rcases rNum_aln i1 a3 with ⟨b1, b2, b3, b4⟩ | ⟨b1, b2⟩
      · rcases rNum_aln i2 b3 with ⟨c1, c2, c3, c4⟩ | ⟨c1, c2⟩
        · rcases rNum_aln i3 c3 with ⟨d1, d2, d3, d4⟩ | ⟨d1, d2⟩
          · rcases rNum_aln ix d3 with ⟨e1, e2, e3, e4⟩ | ⟨e1, e2⟩
            · left
              have x01 : ¬ (x ≠ 0 ∧ x ≠ 1) := by rw [hx]; split <;> omega
              refine ⟨by omega, ?_, ?_⟩
              · unfold rAsk
                simp only
                rw [a2, b2, c2, d2, e2]
                have es : decide (x = 1) = ns n := by rw [hx]; cases ns n <;> rfl
                rw [es]
                have ev := ha q
                show (nf n, nc n, nl n, nr n, ns n, (0 : Int)) = n
                rw [← ev]
                rfl
              · unfold rAsk
                simp only
                rw [if_neg (by rw [e2]; exact fun z => x01 z.2)]
                rw [show m - ((numL (nf n)).length + (numL (nc n)).length + (numL (nl n)).length + (numL (nr n)).length + (numL x).length) = m - (numL (nf n)).length - (numL (nc n)).length - (numL (nl n)).length - (numL (nr n)).length - (numL x).length by omega]
                exact e3
            · right
              refine ⟨by omega, ?_⟩
              unfold rAsk
              simp only
              rw [if_neg (by rw [e2.1]; omega)]
              exact e2
          · right
            refine ⟨by omega, ?_⟩
            have z := cut_num d2
            unfold rAsk
            simp only
            rw [if_neg (by rw [z.1]; omega)]
            exact z
        · right
          refine ⟨by omega, ?_⟩
          have z := cut_num (cut_num c2)
          unfold rAsk
          simp only
          rw [if_neg (by rw [z.1]; omega)]
          exact z
      · right
        refine ⟨by omega, ?_⟩
        have z := cut_num (cut_num (cut_num b2))
        unfold rAsk
        simp only
        rw [if_neg (by rw [z.1]; omega)]
        exact z
    · right
      have en : rNode b s = rAsk b (rNum b s).1 (rNum b s).2 := by unfold rNode; rw [if_neg (by rw [a2.1]; omega)]
      rw [en]
      exact ⟨by omega, cut_ask a2⟩
theorem rNodes_aln {b : List Nat} {l : List Int} : ∀ (t : List Nd) (s : In) (m : Nat), (∀ n ∈ t, NdOk n) → Aln b s (t.flatMap ndL ++ l) m →
    ((bysL (t.flatMap ndL)).length ≤ m ∧ (rNodes b t.length s).1 = t ∧ Aln b (rNodes b t.length s).2 l (m - (bysL (t.flatMap ndL)).length)) ∨ (m < (bysL (t.flatMap ndL)).length ∧ Cut8 b (rNodes b t.length s).2)
  | [], s, m, _, h => .inl ⟨Nat.zero_le _, rfl, h⟩
  | n :: t, s, m, ht, h => by
    have hb : s.bad = 0 := h.1
    have e : rNodes b (n :: t).length s = ((rNode b s).1 :: (rNodes b t.length (rNode b s).2).1, (rNodes b t.length (rNode b s).2).2) := by
      show (if _ then _ else _) = _
      rw [if_neg (by simp [hb])]
    have h' : Aln b s (ndL n ++ (t.flatMap ndL ++ l)) m := by rw [← List.append_assoc]; exact h
    have el : (bysL ((n :: t).flatMap ndL)).length = (bysL (ndL n)).length + (bysL (t.flatMap ndL)).length := by rw [List.flatMap_cons, bys_app, List.length_append]
    rw [e, el]
    rcases rNode_aln (ht n (List.mem_cons_self ..)) h' with ⟨a1, a2, a3⟩ | ⟨a1, a2⟩
    · rcases rNodes_aln t (rNode b s).2 _ (fun x hx => ht x (List.mem_cons_of_mem _ hx)) a3 with ⟨b1, b2, b3⟩ | ⟨b1, b2⟩
      · left
        refine ⟨by omega, by rw [a2, b2], ?_⟩
        rw [show m - ((bysL (ndL n)).length + (bysL (t.flatMap ndL)).length) = m - (bysL (ndL n)).length - (bysL (t.flatMap ndL)).length by omega]
        exact b3
      · right
        exact ⟨by omega, b2⟩
    · right
      rw [cut_nodes a2]
      exact ⟨by omega, a2⟩
/-- a tree and its weight that may be written -/
def TrOk (x : Int × List Nd) : Prop := I64 x.1 ∧ 1 ≤ x.2.length ∧ x.2.length ≤ 63 ∧ ∀ n ∈ x.2, NdOk n
theorem rTree_aln {b : List Nat} {s : In} {x : Int × List Nd} {l : List Int} {m : Nat} (hx : TrOk x) (h : Aln b s (trL x ++ l) m) :
    ((bysL (trL x)).length ≤ m ∧ (rTree b s).1 = x ∧ Aln b (rTree b s).2 l (m - (bysL (trL x)).length)) ∨ (m < (bysL (trL x)).length ∧ Cut8 b (rTree b s).2) := by
  obtain ⟨i0, h1, h2, hn⟩ := hx
  have el : (bysL (trL x)).length = (numL x.1).length + (numL (x.2.length : Int)).length + (bysL (x.2.flatMap ndL)).length := by
    unfold trL
    rw [bys_cons, bys_cons, List.length_append, List.length_append]
    omega
  have h' : Aln b s (x.1 :: ((x.2.length : Int) :: (x.2.flatMap ndL ++ l))) m := h
  rw [el]
  unfold rTree
  rcases rNum_aln i0 h' with ⟨a1, a2, a3, a4⟩ | ⟨a1, a2⟩
  · rcases rMany_aln (most := 63) (show I64 (x.2.length : Int) by unfold I64; omega) (by omega) (by omega) a3 with ⟨b1, b2, b3, b4⟩ | ⟨b1, b2⟩
    · rw [b2, Int.toNat_natCast]
      rcases rNodes_aln x.2 _ _ hn b3 with ⟨c1, c2, c3⟩ | ⟨c1, c2⟩
      · left
        refine ⟨by omega, by rw [a2, c2], ?_⟩
        rw [show m - ((numL x.1).length + (numL (x.2.length : Int)).length + (bysL (x.2.flatMap ndL)).length) = m - (numL x.1).length - (numL (x.2.length : Int)).length - (bysL (x.2.flatMap ndL)).length by omega]
        exact c3
      · right
        exact ⟨by omega, c2⟩
    · right
      rw [cut_nodes b2]
      exact ⟨by omega, b2⟩
  · right
    have z := cut_many (most := 63) a2
    rw [cut_nodes z]
    exact ⟨by omega, z⟩
theorem rTrees_aln {b : List Nat} {l : List Int} : ∀ (t : List (Int × List Nd)) (s : In) (m : Nat), (∀ x ∈ t, TrOk x) → Aln b s (t.flatMap trL ++ l) m →
    ((bysL (t.flatMap trL)).length ≤ m ∧ (rTrees b t.length s).1 = t ∧ Aln b (rTrees b t.length s).2 l (m - (bysL (t.flatMap trL)).length)) ∨ (m < (bysL (t.flatMap trL)).length ∧ Cut8 b (rTrees b t.length s).2)
  | [], s, m, _, h => .inl ⟨Nat.zero_le _, rfl, h⟩
  | n :: t, s, m, ht, h => by
    have hb : s.bad = 0 := h.1
    have e : rTrees b (n :: t).length s = ((rTree b s).1 :: (rTrees b t.length (rTree b s).2).1, (rTrees b t.length (rTree b s).2).2) := by
      show (if _ then _ else _) = _
      rw [if_neg (by simp [hb])]
    have h' : Aln b s (trL n ++ (t.flatMap trL ++ l)) m := by rw [← List.append_assoc]; exact h
    have el : (bysL ((n :: t).flatMap trL)).length = (bysL (trL n)).length + (bysL (t.flatMap trL)).length := by rw [List.flatMap_cons, bys_app, List.length_append]
    rw [e, el]
    rcases rTree_aln (ht n (List.mem_cons_self ..)) h' with ⟨a1, a2, a3⟩ | ⟨a1, a2⟩
    · rcases rTrees_aln t (rTree b s).2 _ (fun x hx => ht x (List.mem_cons_of_mem _ hx)) a3 with ⟨b1, b2, b3⟩ | ⟨b1, b2⟩
      · left
        refine ⟨by omega, by rw [a2, b2], ?_⟩
        rw [show m - ((bysL (trL n)).length + (bysL (t.flatMap trL)).length) = m - (bysL (trL n)).length - (bysL (t.flatMap trL)).length by omega]
        exact b3
      · right
        exact ⟨by omega, b2⟩
    · right
      rw [cut_trees a2]
      exact ⟨by omega, a2⟩
/-! ### calls, versions, what a session said last -/
structure Ca where
  what : Int
  ses : Int
  seq : Int
  name : List Nat
  num : Int
  share : Int
  bys : List Nat
structure Vn where
  name : List Nat
  num : Int
  stage : Int
  share : Int
structure An where
  num : Int
  idx : Int
structure Dn where
  ses : Int
  seq : Int
  ans : An
  bad : Int
structure Sh where
  idx : Int
  l : List (Vn × Gv)
  done : List Dn
def an0 : An := ⟨0, 0⟩
def sh0 : Sh := ⟨0, [], []⟩
def timeB (n : Int) : Bool := decide (0 ≤ n) && decide (n ≤ 1000000)
def letB (c : Nat) : Bool := decide (97 ≤ c) && decide (c ≤ 122)
def callF (c : Ca) : Int := if c.what < 1 ∨ 4 < c.what ∨ timeB c.ses = false ∨ timeB c.seq = false ∨ c.seq = 0 then 1 else if c.name = [] ∨ 12 < c.name.length then 2 else if c.name.all letB then 0 else 2
/-- the first that is so, or none -/
def findN {α : Type} (p : α → Bool) : List α → Nat → Option Nat
  | [], _ => none
  | x :: l, k => if p x then some k else findN p l (k + 1)
def lastN (s : Sh) (ses : Int) : Option Nat := findN (fun d : Dn => decide (d.ses = ses)) s.done 0
def atN (s : Sh) (name : List Nat) (stage : Int) : Option Nat := findN (fun v : Vn × Gv => decide (v.1.name = name ∧ v.1.stage = stage)) s.l 0
def verN (s : Sh) (name : List Nat) (num : Int) : Option Nat := findN (fun v : Vn × Gv => decide (v.1.name = name ∧ v.1.num = num)) s.l 0
def names (s : Sh) : Nat := (s.l.filter fun v => decide (v.1.num = 1)).length
def many (s : Sh) (name : List Nat) : Nat := (s.l.filter fun v => decide (v.1.name = name)).length
/-- a version turned -/
def setV (l : List (Vn × Gv)) (k : Nat) (stage share : Int) : List (Vn × Gv) := l.modify k fun v => (⟨v.1.name, v.1.num, stage, share⟩, v.2)
def setS (l : List (Vn × Gv)) (k : Nat) (stage : Int) : List (Vn × Gv) := l.modify k fun v => (⟨v.1.name, v.1.num, stage, v.1.share⟩, v.2)
/-- what a call does: the number, the fault, the versions then -/
def act (s : Sh) (c : Ca) : Int × Int × List (Vn × Gv) :=
  if c.what = 1 then
    if (decF c.bys).2 ≠ 0 then (0, (decF c.bys).2, s.l)
    else if many s c.name = 0 ∧ 8 ≤ names s then (0, 4, s.l)
    else ((many s c.name : Int) + 1, 0, s.l ++ [(⟨c.name, (many s c.name : Int) + 1, 1, 0⟩, decV c.bys)])
  else match verN s c.name c.num with
    | none => (0, 5, s.l)
    | some k =>
      let st := (s.l.map fun v => v.1.stage).getD k 0
      if c.what = 2 then
        if c.share < 1 ∨ 99 < c.share then (0, 1, s.l) else if st ≠ 1 then (0, 6, s.l) else if (atN s c.name 2).isSome then (0, 7, s.l) else (0, 0, setV s.l k 2 c.share)
      else if c.what = 3 then
        if st ≠ 1 ∧ st ≠ 2 then (0, 6, s.l)
        else match atN s c.name 3 with
          | none => (0, 0, setV s.l k 3 0)
          | some o => (0, 0, setV (setS s.l o 4) k 3 0)
      else if st = 4 then (0, 6, s.l) else (0, 0, setV s.l k 4 0)
def say (done : List Dn) (k : Option Nat) (d : Dn) : List Dn := match k with
  | none => done ++ [d]
  | some i => done.set i d
/-- a call: the answer, the fault, the shelf then -/
def shDo (s : Sh) (c : Ca) : An × Int × Sh :=
  if callF c ≠ 0 then (an0, callF c, s)
  else match lastN s c.ses with
    | some k =>
      let d := s.done.getD k ⟨0, 0, an0, 0⟩
      if d.seq = c.seq then (d.ans, d.bad, s) else if c.seq < d.seq then (an0, 6, s)
      else
        let r := act s c
        let a : An := if r.2.1 = 0 then ⟨r.1, s.idx + 1⟩ else an0
        (a, r.2.1, ⟨s.idx + 1, r.2.2, s.done.set k ⟨c.ses, c.seq, a, r.2.1⟩⟩)
    | none =>
      let r := act s c
      let a : An := if r.2.1 = 0 then ⟨r.1, s.idx + 1⟩ else an0
      (a, r.2.1, ⟨s.idx + 1, r.2.2, s.done ++ [⟨c.ses, c.seq, a, r.2.1⟩]⟩)

/-! ### found -/
theorem find_more {α : Type} (p : α → Bool) : ∀ (l : List α) (k j : Nat), findN p l k = some j → k ≤ j ∧ j - k < l.length ∧ (∀ d, p (l.getD (j - k) d) = true)
  | [], k, j, h => by cases h
  | x :: l, k, j, h => by
    unfold findN at h
    by_cases q : p x = true
    · rw [if_pos q] at h
      cases h
      refine ⟨Nat.le_refl _, by simp, fun d => ?_⟩
      rw [Nat.sub_self]
      exact q
    · rw [if_neg q] at h
      obtain ⟨h1, h2, h3⟩ := find_more p l (k + 1) j h
      refine ⟨by omega, by simp; omega, fun d => ?_⟩
      have e : j - k = (j - (k + 1)) + 1 := by omega
      rw [e]
      exact h3 d
theorem find_app {α : Type} (p : α → Bool) (x : α) (hx : p x = true) : ∀ (l : List α) (k : Nat), findN p l k = none → findN p (l ++ [x]) k = some (k + l.length)
  | [], k, _ => by
    show (if p x then some k else _) = _
    rw [if_pos hx]
    rfl
  | y :: l, k, h => by
    unfold findN at h
    by_cases q : p y = true
    · rw [if_pos q] at h; cases h
    · rw [if_neg q] at h
      show (if p y then some k else findN p (l ++ [x]) (k + 1)) = _
      rw [if_neg q, find_app p x hx l (k + 1) h, List.length_cons]
      congr 1
      omega
theorem find_set {α : Type} (p : α → Bool) (x : α) (hx : p x = true) : ∀ (l : List α) (k j : Nat), findN p l k = some j → findN p (l.set (j - k) x) k = some j
  | [], k, j, h => by cases h
  | y :: l, k, j, h => by
    unfold findN at h
    by_cases q : p y = true
    · rw [if_pos q] at h
      cases h
      rw [Nat.sub_self, List.set_cons_zero]
      show (if p x then some k else _) = _
      rw [if_pos hx]
    · rw [if_neg q] at h
      have := (find_more p l (k + 1) j h).1
      rw [show j - k = (j - (k + 1)) + 1 by omega, List.set_cons_succ]
      show (if p y then some k else findN p (l.set (j - (k + 1)) x) (k + 1)) = _
      rw [if_neg q]
      exact find_set p x hx l (k + 1) j h

/-! ### said again -/
theorem sh_again (s : Sh) (c : Ca) : shDo (shDo s c).2.2 c = ((shDo s c).1, (shDo s c).2.1, (shDo s c).2.2) := by
  by_cases f : callF c = 0
  case neg =>
    have e : shDo s c = (an0, callF c, s) := by unfold shDo; rw [if_pos f]
    rw [e]
    exact e
  cases hl : lastN s c.ses with
  | none =>
    have e : shDo s c = (if (act s c).2.1 = 0 then ⟨(act s c).1, s.idx + 1⟩ else an0, (act s c).2.1, ⟨s.idx + 1, (act s c).2.2, s.done ++ [⟨c.ses, c.seq, if (act s c).2.1 = 0 then ⟨(act s c).1, s.idx + 1⟩ else an0, (act s c).2.1⟩]⟩) := by
      unfold shDo; rw [if_neg (by simp [f]), hl]
    rw [e]
    generalize (if (act s c).2.1 = 0 then (⟨(act s c).1, s.idx + 1⟩ : An) else an0) = a
    have hk : lastN ⟨s.idx + 1, (act s c).2.2, s.done ++ [⟨c.ses, c.seq, a, (act s c).2.1⟩]⟩ c.ses = some (0 + s.done.length) := find_app _ _ (by simp) s.done 0 hl
    unfold shDo
    rw [if_neg (by simp [f]), hk]
    simp [List.getD]
  | some k =>
    obtain ⟨h1, h2, h3⟩ := find_more _ s.done 0 k hl
    rw [Nat.sub_zero] at h2 h3
    by_cases q1 : (s.done.getD k ⟨0, 0, an0, 0⟩).seq = c.seq
    · have e : shDo s c = ((s.done.getD k ⟨0, 0, an0, 0⟩).ans, (s.done.getD k ⟨0, 0, an0, 0⟩).bad, s) := by
        unfold shDo; rw [if_neg (by simp [f]), hl]; simp only [q1, if_true]
      rw [e]
      exact e
    · by_cases q2 : c.seq < (s.done.getD k ⟨0, 0, an0, 0⟩).seq
      · have e : shDo s c = (an0, 6, s) := by
          unfold shDo; rw [if_neg (by simp [f]), hl]; simp only [if_neg q1, if_pos q2]
        rw [e]
        exact e
      · have e : shDo s c = (if (act s c).2.1 = 0 then ⟨(act s c).1, s.idx + 1⟩ else an0, (act s c).2.1, ⟨s.idx + 1, (act s c).2.2, s.done.set k ⟨c.ses, c.seq, if (act s c).2.1 = 0 then ⟨(act s c).1, s.idx + 1⟩ else an0, (act s c).2.1⟩⟩) := by
          unfold shDo; rw [if_neg (by simp [f]), hl]; simp only [if_neg q1, if_neg q2]
        rw [e]
        generalize (if (act s c).2.1 = 0 then (⟨(act s c).1, s.idx + 1⟩ : An) else an0) = a
        have hk : lastN ⟨s.idx + 1, (act s c).2.2, s.done.set k ⟨c.ses, c.seq, a, (act s c).2.1⟩⟩ c.ses = some k := by
          have := find_set (fun d : Dn => decide (d.ses = c.ses)) ⟨c.ses, c.seq, a, (act s c).2.1⟩ (by simp) s.done 0 k hl
          rwa [Nat.sub_zero] at this
        unfold shDo
        rw [if_neg (by simp [f]), hk]
        simp [List.getD, h2]
end Go.Proofs.YtiggkjkjfnlfkaaGreatDoor.M
