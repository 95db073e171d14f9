/-
  Several texts as one: Sams, MathG, MathJ, MathWa.
-/
import Derived.Test.YtlloiccodjnkcagRunN3
import Derived.Test.YtlloiccodjnkcagRunN5
import Derived.Test.YtlloiccodjnkcagRunN4
namespace Go.Proofs.Ytlloiccodjnkcag
open Go.ChangeShapes Go.WideShapes Go.ChangeAt Go.RowKit Go.Deep
set_option linter.unusedVariables false

/-- a sample: where its row lies, the row, the room, the target -/
abbrev Sx := Option Addr × List Int × Nat × Int
def sxV (x : Sx) : Value := .slice x.1 x.2.1.length x.2.2.1
def sm (x : Sx) : M.Sa := (x.2.1, x.2.2.2)
def sms (xs : List Sx) : List M.Sa := xs.map sm
theorem sms_len (xs : List Sx) : (sms xs).length = xs.length := by simp [sms]
theorem sms_at (xs : List Sx) {k : Nat} (h : k < xs.length) : M.sAt (sms xs) k = sm xs[k] := by
  unfold M.sAt; rw [M.getD_at (by rw [sms_len]; exact h)]; simp [sms]
/-- samples, where they lie -/
def RdL (w : World) (a : Option Addr) (xs : List Sx) : Prop :=
  xs.length ≤ maxLen ∧ (∀ x ∈ xs, Rd w x.1 x.2.1) ∧ (xs ≠ [] → ∃ b off, a = some ⟨b, off, none⟩ ∧ b < w.heap.size ∧ ∀ i (h : i < xs.length), w.cell? ⟨b, off + i * 2, none⟩ = some (sxV xs[i]) ∧ w.cell? ⟨b, off + i * 2 + 1, none⟩ = some (.int .i64 xs[i].2.2.2))
theorem RdL.below {w w' : World} {a : Option Addr} {xs : List Sx} (h : RdL w a xs) (hb : Below w.heap.size w w') : RdL w' a xs :=
  ⟨h.1, fun x hx => (h.2.1 x hx).below hb, fun hn => by
    obtain ⟨b, off, e, hl, hc⟩ := h.2.2 hn
    exact ⟨b, off, e, Nat.lt_of_lt_of_le hl hb.size, fun i hi => ⟨(hb.cell (p := ⟨b, off + i * 2, none⟩) hl).trans (hc i hi).1, (hb.cell (p := ⟨b, off + i * 2 + 1, none⟩) hl).trans (hc i hi).2⟩⟩⟩
theorem cellsSam : Try.prog.cellsOf 60 = 2 := by kernel_rfl
theorem cellsInts : Try.prog.cellsOf 23 = 1 := by kernel_rfl
theorem struct2 {H : Type} {enc : TypeId × Value → H} {P : Program} {w : World} {base : Nat} {spare : Nat → Bool} {held : Bool} {t : TypeId} {f0 f1 : Field} {fuel : Nat} {cs : List Value} {x : DataW H × List MemPlace} (ht : P.underlying t = some (.struct #[f0, f1]))
    (h : DataW.trod enc P w base spare held fuel t cs = some x) :
    ∃ y0 y1 n, DataW.trod enc P w base spare held n f0.type ((cs.drop f0.offset).take (P.cellsOf f0.type)) = some y0 ∧ DataW.trod enc P w base spare held n f1.type ((cs.drop f1.offset).take (P.cellsOf f1.type)) = some y1 := by
  obtain ⟨xs, n, _, rfl, hl, hlen, hf⟩ := DataW.trod_struct ht h
  match xs, hlen with
  | [y0, y1], _ => exact ⟨y0, y1, n, by simpa using hf 0 f0 rfl, by simpa using hf 1 f1 rfl⟩
set_option maxRecDepth 10000 in
theorem open_samples {H : Type} {enc : TypeId × Value → H} {W : World} {base : Nat} {held : Bool} {fuel : Nat} {a : Option Addr} {len cap : Nat} {x : DataW H × List MemPlace}
    (h : DataW.trod enc Try.prog W base (fun _ => true) held fuel 22 [.slice a len cap] = some x) : ∃ xs : List Sx, xs.length = len ∧ RdL W a xs := by
  rcases open_slice Try.underlying22 h with ⟨hcs, _⟩ | ⟨a', len', cap', m, n, D, Pl, hcs, _, hl, hm, hmm, _, hx⟩
  · cases hcs
    exact ⟨[], rfl, ⟨Nat.zero_le _, (fun k hk => by cases hk), fun h => absurd rfl h⟩⟩
  · cases hcs
    have hlm : len ≤ m := by rw [hmm]; split <;> omega
    have each : ∀ i, i < len → ∃ k : Sx, (W.cell? (a'.add (i * 2)) = some (sxV k) ∧ W.cell? (a'.add (i * 2 + 1)) = some (.int .i64 k.2.2.2)) ∧ Rd W k.1 k.2.1 := by
      intro i hi
      obtain ⟨cs, h1, h2⟩ := hx i (by omega)
      rw [cellsSam] at h1
      obtain ⟨_, hlen, hcell⟩ := World.cells?_some h1
      obtain ⟨y0, y1, k, g0, g1⟩ := struct2 Try.underlying60 h2
      rw [cellsInts] at g0
      rw [cellsInt] at g1
      match cs, hlen with
      | [c0, c1], _ =>
        obtain ⟨n1, e1, _⟩ := DataW.trod_int Try.underlying3 g1
        simp at e1 g0
        have d0 := hcell 0 (by omega)
        have d1 := hcell 1 (by omega)
        rw [add_add] at d0 d1
        obtain ⟨wa, ws, wc, rfl, hw⟩ : ∃ wa ws wc, c0 = .slice wa (List.length (α := Int) ws) wc ∧ Rd W wa ws := by
          rcases open_ints Try.underlying23 Try.underlying3 (by kernel_rfl) g0 with ⟨hcs, _⟩ | ⟨x, l, c, zs, hcs, _, hl, hm, hz, _, hcl, hwz⟩
          · cases hcs
            exact ⟨none, [], 0, rfl, ⟨Nat.zero_le _, fun h => absurd rfl h⟩⟩
          · cases hcs
            have y : IsRow .i64 W (some x) l c zs := .inr ⟨_, rfl, hl, hm, by simpa using hz, hcl, hwz⟩
            exact ⟨some x, zs.take l, c, by rw [(rd_of y).2], (rd_of y).1⟩
        exact ⟨(wa, ws, wc, n1), ⟨by simpa [sxV] using d0, by simpa [e1] using d1⟩, hw⟩
    obtain ⟨f, hf⟩ := choose_lt each
    refine ⟨(List.range len).map f, by simp, ⟨by simp; omega, ?_, fun hne => ?_⟩⟩
    · intro k hk
      rw [List.mem_map] at hk
      obtain ⟨i, hi, rfl⟩ := hk
      exact (hf i (by simpa using hi)).2
    · have hp : 0 < len := by
        rcases Nat.eq_zero_or_pos len with h0 | h0
        · subst h0; exact absurd rfl hne
        · exact h0
      obtain ⟨b, off, spot⟩ := a'
      have hspot : spot = none := by
        have := World.cell?_spot (hf 0 hp).1.1
        simpa [Addr.add] using this
      subst hspot
      refine ⟨b, off, rfl, ?_, fun i hi => ?_⟩
      · have := (hf 0 hp).1.1
        rw [add_flat] at this
        exact block_lt_of_cell this
      · have hi' : i < len := by simpa using hi
        obtain ⟨q0, q1⟩ := (hf i hi').1
        rw [add_flat] at q0 q1
        refine ⟨?_, ?_⟩
        · rw [q0]; simp
        · rw [Nat.add_assoc, q1]; simp

end Go.Proofs.Ytlloiccodjnkcag

namespace Go.Proofs.Ytlloiccodjnkcag.M
set_option linter.unusedVariables false

/-- a grove: Features, Way, Weights, Trees -/
abbrev Gv := Int × Int × List Int × List (List Nd)
abbrev gf (g : Gv) : Int := g.1
abbrev gw (g : Gv) : Int := g.2.1
abbrev gs (g : Gv) : List Int := g.2.2.1
abbrev gt (g : Gv) : List (List Nd) := g.2.2.2

def wBad (w : Int) : Bool := decide (w < 1) || decide (1000 < w)
theorem wbad_false {w : Int} (h : wBad w = false) : 1 ≤ w ∧ w ≤ 1000 := by
  unfold wBad at h
  rw [Bool.or_eq_false_iff] at h
  have h1 := of_decide_eq_false h.1
  have h2 := of_decide_eq_false h.2
  omega
theorem wbad_ok {w : Int} (h1 : 1 ≤ w) (h2 : w ≤ 1000) : wBad w = false := by
  unfold wBad
  rw [decide_eq_false (by omega), decide_eq_false (by omega)]; rfl
/-- the fault of the first tree that has one -/
def treesF (f : Int) (ts : List (List Nd)) : Int := match firstN (fun i => !decide ((treeF (ts.getD i []) f).2 = 0)) ts.length with
  | some i => (treeF (ts.getD i []) f).2
  | none => 0
theorem trees_at {f : Int} {ts : List (List Nd)} {k : Nat} (hk : k < ts.length) (h : ∀ j, j < k → (treeF (ts.getD j []) f).2 = 0) (hn : (treeF (ts.getD k []) f).2 ≠ 0) : treesF f ts = (treeF (ts.getD k []) f).2 := by
  unfold treesF
  rw [first_hit (k := k) (by show (!decide ((treeF (ts.getD k []) f).2 = 0)) = true; rw [decide_eq_false hn]; rfl) (fun j hj => by show (!decide ((treeF (ts.getD j []) f).2 = 0)) = false; rw [decide_eq_true (h j hj)]; rfl) hk]
theorem trees_all {f : Int} {ts : List (List Nd)} (h : ∀ j, j < ts.length → (treeF (ts.getD j []) f).2 = 0) : treesF f ts = 0 := by
  unfold treesF
  rw [first_miss (fun j hj => by show (!decide ((treeF (ts.getD j []) f).2 = 0)) = false; rw [decide_eq_true (h j hj)]; rfl)]
theorem trees_zero {f : Int} {ts : List (List Nd)} (h : treesF f ts = 0) : ∀ j, j < ts.length → (treeF (ts.getD j []) f).2 = 0 := by
  unfold treesF at h
  split at h
  · rename_i i e
    have q := (first_some e).2
    rw [decide_eq_true h] at q
    cases q
  · rename_i e
    intro j hj
    have := first_none e j hj
    simpa using this

def groveF (g : Gv) : Int :=
  if gf g < 0 ∨ 8 < gf g ∨ gw g < 1 ∨ 3 < gw g then 1
  else if (gt g).length = 0 then 5
  else if 12 < (gt g).length then 4
  else if (gs g).length ≠ (gt g).length then 3
  else if (gs g).any wBad = true then 1
  else treesF (gf g) (gt g)
/-- all that is right with a grove that is right -/
structure Good (g : Gv) : Prop where
  f0 : 0 ≤ gf g
  f8 : gf g ≤ 8
  w1 : 1 ≤ gw g
  w3 : gw g ≤ 3
  t0 : 0 < (gt g).length
  t12 : (gt g).length ≤ 12
  len : (gs g).length = (gt g).length
  wts : ∀ w ∈ gs g, 1 ≤ w ∧ w ≤ 1000
  trees : ∀ t ∈ gt g, (treeF t (gf g)).2 = 0
theorem good_iff (g : Gv) : groveF g = 0 ↔ Good g := by
  constructor
  · intro h
    unfold groveF at h
    split at h
    · cases h
    · rename_i h1
      split at h
      · cases h
      · rename_i h2
        split at h
        · cases h
        · rename_i h3
          split at h
          · cases h
          · rename_i h4
            split at h
            · cases h
            · rename_i h5
              refine ⟨by omega, by omega, by omega, by omega, by omega, by omega, by omega, ?_, ?_⟩
              · intro w hw
                apply wbad_false
                cases e : wBad w with
                | false => rfl
                | true => exact absurd (List.any_eq_true.2 ⟨w, hw, e⟩) h5
              · intro t ht
                obtain ⟨i, hi, rfl⟩ := List.getElem_of_mem ht
                have := trees_zero h i hi
                rwa [getD_at hi] at this
  · intro h
    unfold groveF
    rw [if_neg (by have := h.f0; have := h.f8; have := h.w1; have := h.w3; omega), if_neg (by have := h.t0; omega), if_neg (by have := h.t12; omega), if_neg (by have := h.len; omega), if_neg, trees_all]
    · intro j hj
      rw [getD_at hj]; exact h.trees _ (List.getElem_mem hj)
    · intro hc
      obtain ⟨w, hw, e⟩ := List.any_eq_true.1 hc
      have := h.wts w hw
      rw [wbad_ok this.1 this.2] at e
      cases e

/-- the fault of a grove and a row -/
def standF (g : Gv) (r : List Int) : Int := if groveF g ≠ 0 then groveF g else if rowF r ≠ 0 then rowF r else if (r.length : Int) ≠ gf g then 3 else 0
theorem stand_ok {g : Gv} {r : List Int} (h : standF g r = 0) : Good g ∧ rowF r = 0 ∧ (r.length : Int) = gf g := by
  unfold standF at h
  split at h
  · rename_i h1; exact absurd h h1
  · rename_i h1
    split at h
    · rename_i h2; exact absurd h h2
    · rename_i h2
      split at h
      · cases h
      · rename_i h3
        exact ⟨(good_iff g).1 (by simpa using h1), by simpa using h2, by simpa using h3⟩
theorem stand_of {g : Gv} {r : List Int} (h1 : Good g) (h2 : rowF r = 0) (h3 : (r.length : Int) = gf g) : standF g r = 0 := by
  unfold standF
  rw [if_neg (by simp [(good_iff g).2 h1]), if_neg (by simp [h2]), if_neg (by simp [h3])]
theorem stand_ready {g : Gv} {r : List Int} (h : standF g r = 0) {t : List Nd} (ht : t ∈ gt g) : readyF t r = 0 := by
  obtain ⟨h1, h2, h3⟩ := stand_ok h
  rw [ready_tree h2, h3]
  exact h1.trees t ht

def eachL (g : Gv) (r : List Int) : List Int := (gt g).map fun t => evalV t r
def eachV (g : Gv) (r : List Int) : List Int := if standF g r = 0 then eachL g r else []
theorem each_len (g : Gv) (r : List Int) : (eachL g r).length = (gt g).length := by unfold eachL; simp
theorem each_at (g : Gv) (r : List Int) {i : Nat} (hi : i < (gt g).length) : (eachL g r).getD i 0 = evalV ((gt g).getD i []) r := by
  rw [getD_at (by rw [each_len]; exact hi), getD_at hi]; simp [eachL]

/-! ### together -/
def sumK (l ws : List Int) : Nat → Int
  | 0 => 0
  | k + 1 => sumK l ws k + l.getD k 0 * ws.getD k 0
def allK (ws : List Int) : Nat → Int
  | 0 => 0
  | k + 1 => allK ws k + ws.getD k 0
def votK (l ws : List Int) (v : Int) : Nat → Int
  | 0 => 0
  | k + 1 => votK l ws v k + if l.getD k 0 = v then ws.getD k 0 else 0
/-- of the first k values: the most votes, and who has them -/
def bestK (l ws : List Int) : Nat → Int × Int
  | 0 => (0, 0)
  | k + 1 => if (bestK l ws k).1 < votK l ws (l.getD k 0) l.length ∨ (votK l ws (l.getD k 0) l.length = (bestK l ws k).1 ∧ l.getD k 0 < (bestK l ws k).2) then (votK l ws (l.getD k 0) l.length, l.getD k 0) else bestK l ws k
def together (w : Int) (ws l : List Int) : Int := if w = 1 then sumK l ws l.length else if w = 2 then sumK l ws l.length / allK ws l.length else (bestK l ws l.length).2
def evalG (g : Gv) (r : List Int) : Int := if standF g r = 0 then together (gw g) (gs g) (eachL g r) else 0

theorem vot_pos {l ws : List Int} (hw : ∀ i, i < l.length → 1 ≤ ws.getD i 0) (v : Int) : ∀ k, k ≤ l.length → 0 ≤ votK l ws v k ∧ ∀ j, j < k → l.getD j 0 = v → 1 ≤ votK l ws v k
  | 0, _ => ⟨Int.le_refl _, fun j h => by omega⟩
  | k + 1, hk => by
    obtain ⟨h1, h2⟩ := vot_pos hw v k (by omega)
    have hwk := hw k (by omega)
    unfold votK
    refine ⟨by split <;> omega, fun j hj e => ?_⟩
    by_cases q : j = k
    · subst q; rw [if_pos e]; omega
    · have := h2 j (by omega) e
      split <;> omega
theorem best_spec {l ws : List Int} (hw : ∀ i, i < l.length → 1 ≤ ws.getD i 0) : ∀ k, 0 < k → k ≤ l.length → (∃ j, j < k ∧ (bestK l ws k).2 = l.getD j 0) ∧ (bestK l ws k).1 = votK l ws (bestK l ws k).2 l.length ∧ ∀ i, i < k → votK l ws (l.getD i 0) l.length < (bestK l ws k).1 ∨ (votK l ws (l.getD i 0) l.length = (bestK l ws k).1 ∧ (bestK l ws k).2 ≤ l.getD i 0)
  | 0, h, _ => by omega
  | k + 1, _, hk => by
    by_cases hc : (bestK l ws k).1 < votK l ws (l.getD k 0) l.length ∨ (votK l ws (l.getD k 0) l.length = (bestK l ws k).1 ∧ l.getD k 0 < (bestK l ws k).2)
    · have e : bestK l ws (k + 1) = (votK l ws (l.getD k 0) l.length, l.getD k 0) := by rw [bestK, if_pos hc]
      rw [e]
      refine ⟨⟨k, by omega, rfl⟩, rfl, fun i hi => ?_⟩
      by_cases q : i = k
      · subst q; exact .inr ⟨rfl, Int.le_refl _⟩
      · by_cases k0 : k = 0
        · omega
        · have := (best_spec hw k (by omega) (by omega)).2.2 i (by omega)
          show votK l ws (l.getD i 0) l.length < votK l ws (l.getD k 0) l.length ∨ (votK l ws (l.getD i 0) l.length = votK l ws (l.getD k 0) l.length ∧ l.getD k 0 ≤ l.getD i 0)
          omega
    · have e : bestK l ws (k + 1) = bestK l ws k := by rw [bestK, if_neg hc]
      rw [e]
      by_cases k0 : k = 0
      · subst k0
        have := (vot_pos hw (l.getD 0 0) l.length (Nat.le_refl _)).2 0 (by omega) rfl
        exact absurd (.inl (show (bestK l ws 0).1 < _ by show (0 : Int) < _; omega)) hc
      · obtain ⟨⟨j, h1, h2⟩, h3, h4⟩ := best_spec hw k (by omega) (by omega)
        refine ⟨⟨j, by omega, h2⟩, h3, fun i hi => ?_⟩
        by_cases q : i = k
        · subst q; omega
        · exact h4 i (by omega)
/-- who has most votes, and of equal ones is the least, is the one that is told -/
theorem best_unique {l ws : List Int} (hw : ∀ i, i < l.length → 1 ≤ ws.getD i 0) (h0 : 0 < l.length) {b : Int} (hb : ∃ j, j < l.length ∧ b = l.getD j 0) (hm : ∀ i, i < l.length → votK l ws (l.getD i 0) l.length < votK l ws b l.length ∨ (votK l ws (l.getD i 0) l.length = votK l ws b l.length ∧ b ≤ l.getD i 0)) : (bestK l ws l.length).2 = b := by
  obtain ⟨⟨j, h1, h2⟩, h3, h4⟩ := best_spec hw l.length h0 (Nat.le_refl _)
  obtain ⟨i, h5, h6⟩ := hb
  have a := hm j h1
  have c := h4 i h5
  rw [← h2] at a
  rw [← h6, h3] at c
  omega

/-! ### what is more stays more -/
theorem sum_mono {l m ws : List Int} : ∀ k, (∀ i, i < k → l.getD i 0 ≤ m.getD i 0 ∧ 0 ≤ ws.getD i 0) → sumK l ws k ≤ sumK m ws k
  | 0, _ => Int.le_refl _
  | k + 1, h => by
    have ih := sum_mono (l := l) (m := m) (ws := ws) k fun i hi => h i (by omega)
    obtain ⟨h1, h2⟩ := h k (by omega)
    have := Int.mul_le_mul_of_nonneg_right h1 h2
    unfold sumK
    omega
theorem all_pos {ws : List Int} : ∀ k, (∀ i, i < k → 1 ≤ ws.getD i 0 ∧ ws.getD i 0 ≤ 1000) → (k : Int) ≤ allK ws k ∧ allK ws k ≤ 1000 * k
  | 0, _ => by simp [allK]
  | k + 1, h => by
    have ih := all_pos k fun i hi => h i (by omega)
    have := h k (by omega)
    unfold allK
    omega
theorem sum_bound {l ws : List Int} : ∀ k, (∀ i, i < k → -1000000 ≤ l.getD i 0 ∧ l.getD i 0 ≤ 1000000 ∧ 1 ≤ ws.getD i 0 ∧ ws.getD i 0 ≤ 1000) → -1000000000 * (k : Int) ≤ sumK l ws k ∧ sumK l ws k ≤ 1000000000 * (k : Int)
  | 0, _ => by simp [sumK]
  | k + 1, h => by
    have ih := sum_bound k fun i hi => h i (by omega)
    obtain ⟨h1, h2, h3, h4⟩ := h k (by omega)
    have a : l.getD k 0 * ws.getD k 0 ≤ 1000000 * 1000 := by
      have q1 : l.getD k 0 * ws.getD k 0 ≤ 1000000 * ws.getD k 0 := Int.mul_le_mul_of_nonneg_right h2 (by omega)
      omega
    have b : -1000000 * 1000 ≤ l.getD k 0 * ws.getD k 0 := by
      have q1 : -1000000 * ws.getD k 0 ≤ l.getD k 0 * ws.getD k 0 := Int.mul_le_mul_of_nonneg_right h1 (by omega)
      omega
    unfold sumK
    omega
theorem vot_bound {l ws : List Int} (v : Int) : ∀ k, (∀ i, i < k → 1 ≤ ws.getD i 0 ∧ ws.getD i 0 ≤ 1000) → 0 ≤ votK l ws v k ∧ votK l ws v k ≤ 1000 * k
  | 0, _ => by simp [votK]
  | k + 1, h => by
    have ih := vot_bound (l := l) v k fun i hi => h i (by omega)
    have := h k (by omega)
    unfold votK
    split <;> omega

end Go.Proofs.Ytlloiccodjnkcag.M

namespace Go.Proofs.Ytlloiccodjnkcag.M
set_option linter.unusedVariables false

/-! ### the leaves' values -/
def lvK (t : List Nd) : Nat → List Int
  | 0 => []
  | k + 1 => if leafB (nAt t k) = true then lvK t k ++ [nv (nAt t k)] else lvK t k
theorem lvK_mem (t : List Nd) : ∀ (k : Nat) (x : Int), x ∈ lvK t k ↔ ∃ j, j < k ∧ leafB (nAt t j) = true ∧ x = nv (nAt t j)
  | 0, x => by simp [lvK]
  | k + 1, x => by
    unfold lvK
    by_cases h : leafB (nAt t k) = true
    · rw [if_pos h, List.mem_append, lvK_mem t k x, List.mem_singleton]
      constructor
      · rintro (⟨j, h1, h2⟩ | rfl)
        · exact ⟨j, by omega, h2⟩
        · exact ⟨k, by omega, h, rfl⟩
      · rintro ⟨j, h1, h2, h3⟩
        by_cases q : j = k
        · subst q; exact .inr h3
        · exact .inl ⟨j, by omega, h2, h3⟩
    · rw [if_neg h, lvK_mem t k x]
      constructor
      · rintro ⟨j, h1, h2⟩
        exact ⟨j, by omega, h2⟩
      · rintro ⟨j, h1, h2, h3⟩
        by_cases q : j = k
        · subst q; exact absurd h2 h
        · exact ⟨j, by omega, h2, h3⟩
theorem lvK_len (t : List Nd) : ∀ k, (lvK t k).length ≤ k
  | 0 => Nat.le_refl _
  | k + 1 => by
    have := lvK_len t k
    unfold lvK
    split
    · simp; omega
    · omega
/-- the least, the greatest of a list -/
def lowL (l : List Int) : Int := (sortI l).getD 0 0
def highL (l : List Int) : Int := (sortI l).getD (l.length - 1) 0
theorem low_mem {l : List Int} (h : 0 < l.length) : lowL l ∈ l := by
  unfold lowL
  rw [getD_at (by rw [sort_length]; exact h)]
  exact (sort_perm l).mem_iff.1 (List.getElem_mem _)
theorem high_mem {l : List Int} (h : 0 < l.length) : highL l ∈ l := by
  unfold highL
  rw [getD_at (by rw [sort_length]; omega)]
  exact (sort_perm l).mem_iff.1 (List.getElem_mem _)
theorem low_le {l : List Int} {x : Int} (hx : x ∈ l) : lowL l ≤ x := by
  have hx' := (sort_perm l).mem_iff.2 hx
  obtain ⟨i, hi, rfl⟩ := List.getElem_of_mem hx'
  unfold lowL
  rw [getD_at (by omega)]
  rcases Nat.eq_zero_or_pos i with h | h
  · subst h; exact Int.le_refl _
  · exact List.pairwise_iff_getElem.1 (sort_pw l) 0 i (by omega) hi h
theorem high_ge {l : List Int} {x : Int} (hx : x ∈ l) : x ≤ highL l := by
  have hx' := (sort_perm l).mem_iff.2 hx
  obtain ⟨i, hi, rfl⟩ := List.getElem_of_mem hx'
  have hl : (sortI l).length = l.length := sort_length l
  unfold highL
  rw [getD_at (by omega)]
  by_cases h : i = l.length - 1
  · subst h; exact Int.le_refl _
  · exact List.pairwise_iff_getElem.1 (sort_pw l) i (l.length - 1) hi (by omega) (by omega)
theorem low_unique {l : List Int} {b : Int} (hb : b ∈ l) (h : ∀ x ∈ l, b ≤ x) : lowL l = b := by
  have h1 := low_le hb
  have h2 := h _ (low_mem (List.length_pos_of_mem hb))
  omega
theorem high_unique {l : List Int} {b : Int} (hb : b ∈ l) (h : ∀ x ∈ l, x ≤ b) : highL l = b := by
  have h1 := high_ge hb
  have h2 := h _ (high_mem (List.length_pos_of_mem hb))
  omega
def lowT (t : List Nd) : Int := lowL (lvK t t.length)
def highT (t : List Nd) : Int := highL (lvK t t.length)
theorem leafV_leaf' {t : List Nd} {r : List Int} (h : readyF t r = 0) : toD t r 0 < t.length ∧ nf (nAt t (toD t r 0)) = -1 := by
  have F := (tree_ok (ready_ok h).2).1
  exact to_end F.2.2.2.2.1 r t.length 0 F.2.1 (by omega)
theorem eval_mem {t : List Nd} {r : List Int} (h : readyF t r = 0) : evalV t r ∈ lvK t t.length := by
  have hl := leafV_leaf' h
  unfold evalV
  rw [if_pos h, lvK_mem]
  refine ⟨toD t r 0, hl.1, ?_, rfl⟩
  unfold leafB
  rw [hl.2]; rfl
theorem eval_between {t : List Nd} {r : List Int} (h : readyF t r = 0) : lowT t ≤ evalV t r ∧ evalV t r ≤ highT t := ⟨low_le (eval_mem h), high_ge (eval_mem h)⟩
theorem lv_in {t : List Nd} {m : Int} (F : Fair t m) : ∀ x ∈ lvK t t.length, -1000000 ≤ x ∧ x ≤ 1000000 := by
  intro x hx
  obtain ⟨j, h1, h2, rfl⟩ := (lvK_mem t _ x).1 hx
  have := F.2.2.2.2.1 j h1
  unfold leafB at h2
  unfold nodeF at this
  rw [if_pos (of_decide_eq_true h2)] at this
  unfold lfF at this
  split at this
  · cases this
  · rename_i hc
    exact out_false (by simpa using hc)
theorem lv_some {t : List Nd} {m : Int} (F : Fair t m) : 0 < (lvK t t.length).length := by
  have hR := F.2.2.2.2.1
  obtain ⟨h1, h2⟩ := to_end hR [] t.length 0 F.2.1 (by omega)
  exact List.length_pos_of_mem ((lvK_mem t _ _).2 ⟨_, h1, by unfold leafB; rw [h2]; rfl, rfl⟩)

/-! ### bounds -/
def between (w : Int) (ws least most : List Int) : Int × Int := if w ≠ 3 then (together w ws least, together w ws most) else (lowL least, highL most)
def boundsV (g : Gv) : Int × Int := if groveF g = 0 then between (gw g) (gs g) ((gt g).map lowT) ((gt g).map highT) else (0, 0)
theorem wt_at {g : Gv} (h : Good g) {i : Nat} (hi : i < (gt g).length) : 1 ≤ (gs g).getD i 0 ∧ (gs g).getD i 0 ≤ 1000 := by
  have hl := h.len
  rw [getD_at (by omega)]
  exact h.wts _ (List.getElem_mem _)
theorem ediv_mono {a b c : Int} (h : a ≤ b) (hc : 0 < c) : a / c ≤ b / c := Int.ediv_le_ediv hc h
theorem eval_bounds {g : Gv} {r : List Int} (h : standF g r = 0) : (boundsV g).1 ≤ evalG g r ∧ evalG g r ≤ (boundsV g).2 := by
  obtain ⟨G, h2, h3⟩ := stand_ok h
  have hE := each_len g r
  have t0 := G.t0
  have bt : ∀ i, i < (gt g).length → ((gt g).map lowT).getD i 0 ≤ (eachL g r).getD i 0 ∧ (eachL g r).getD i 0 ≤ ((gt g).map highT).getD i 0 := by
    intro i hi
    have e1 : ((gt g).map lowT).getD i 0 = lowT (gt g)[i] := by rw [getD_at (by simpa using hi)]; simp
    have e2 : ((gt g).map highT).getD i 0 = highT (gt g)[i] := by rw [getD_at (by simpa using hi)]; simp
    rw [each_at g r hi, e1, e2, getD_at hi]
    exact eval_between (stand_ready h (List.getElem_mem hi))
  have l1 : ((gt g).map lowT).length = (gt g).length := by simp
  have l2 : ((gt g).map highT).length = (gt g).length := by simp
  unfold boundsV evalG
  rw [if_pos ((good_iff g).2 G), if_pos h]
  unfold between
  by_cases hv : gw g = 3
  · rw [if_neg (by simp [hv])]
    unfold together
    rw [if_neg (by omega), if_neg (by omega), hE]
    obtain ⟨⟨j, j1, j2⟩, _, _⟩ := best_spec (l := eachL g r) (ws := gs g) (fun i hi => (wt_at G (by rw [← hE]; exact hi)).1) (gt g).length t0 (by omega)
    rw [j2]
    have b := bt j j1
    constructor
    · refine Int.le_trans (low_le (x := ((gt g).map lowT).getD j 0) ?_) b.1
      rw [getD_at (by omega)]; exact List.getElem_mem _
    · refine Int.le_trans b.2 (high_ge ?_)
      rw [getD_at (by omega)]; exact List.getElem_mem _
  · rw [if_pos hv]
    have m1 := sum_mono (l := (gt g).map lowT) (m := eachL g r) (ws := gs g) (gt g).length fun i hi => ⟨(bt i hi).1, by have := (wt_at G hi).1; omega⟩
    have m2 := sum_mono (l := eachL g r) (m := (gt g).map highT) (ws := gs g) (gt g).length fun i hi => ⟨(bt i hi).2, by have := (wt_at G hi).1; omega⟩
    have ap := (all_pos (ws := gs g) (gt g).length fun i hi => wt_at G hi).1
    unfold together
    rw [l1, l2, hE]
    by_cases h1 : gw g = 1
    · rw [if_pos h1, if_pos h1, if_pos h1]; exact ⟨m1, m2⟩
    · have h2' : gw g = 2 := by have := G.w1; have := G.w3; omega
      rw [if_neg h1, if_neg h1, if_neg h1, if_pos h2', if_pos h2', if_pos h2']
      exact ⟨ediv_mono m1 (by omega), ediv_mono m2 (by omega)⟩
theorem vote_in {g : Gv} {r : List Int} (h : standF g r = 0) (hv : gw g = 3) : ∃ j, j < (eachL g r).length ∧ (eachL g r).getD j 0 = evalG g r := by
  obtain ⟨G, _, _⟩ := stand_ok h
  have hE := each_len g r
  unfold evalG
  rw [if_pos h]
  unfold together
  rw [if_neg (by omega), if_neg (by omega)]
  obtain ⟨⟨j, j1, j2⟩, _, _⟩ := best_spec (l := eachL g r) (ws := gs g) (fun i hi => (wt_at G (by rw [← hE]; exact hi)).1) (eachL g r).length (by have := G.t0; omega) (Nat.le_refl _)
  exact ⟨j, j1, j2.symm⟩

/-! ### two as one -/
def joinF (a b : Gv) : Int := if groveF a ≠ 0 then groveF a else if groveF b ≠ 0 then groveF b else if gf a ≠ gf b ∨ gw a ≠ gw b then 3 else if 12 < (gt a).length + (gt b).length then 4 else 0
def joinG (a b : Gv) : Gv := (gf a, gw a, gs a ++ gs b, gt a ++ gt b)
def joinV (a b : Gv) : Gv := if joinF a b = 0 then joinG a b else (0, 0, [], [])
theorem join_ok {a b : Gv} (h : joinF a b = 0) : Good a ∧ Good b ∧ gf a = gf b ∧ gw a = gw b ∧ (gt a).length + (gt b).length ≤ 12 := by
  unfold joinF at h
  split at h
  · rename_i h1; exact absurd h h1
  · rename_i h1
    split at h
    · rename_i h2; exact absurd h h2
    · rename_i h2
      split at h
      · cases h
      · rename_i h3
        split at h
        · cases h
        · rename_i h4
          exact ⟨(good_iff a).1 (by simpa using h1), (good_iff b).1 (by simpa using h2), by omega, by omega, by omega⟩
theorem join_good {a b : Gv} (h : joinF a b = 0) : Good (joinG a b) := by
  obtain ⟨A, B, e1, e2, e3⟩ := join_ok h
  refine ⟨A.f0, A.f8, A.w1, A.w3, ?_, ?_, ?_, ?_, ?_⟩
  · show 0 < (gt a ++ gt b).length; rw [List.length_append]; have := A.t0; omega
  · show (gt a ++ gt b).length ≤ 12; rw [List.length_append]; exact e3
  · show (gs a ++ gs b).length = (gt a ++ gt b).length; rw [List.length_append, List.length_append, A.len, B.len]
  · intro w hw
    rcases List.mem_append.1 hw with q | q
    · exact A.wts w q
    · exact B.wts w q
  · intro t ht
    rcases List.mem_append.1 ht with q | q
    · exact A.trees t q
    · show (treeF t (gf a)).2 = 0
      rw [e1]; exact B.trees t q
theorem getD_left {l m : List Int} {i : Nat} (h : i < l.length) : (l ++ m).getD i 0 = l.getD i 0 := by
  rw [getD_at (by simp; omega), getD_at h, List.getElem_append_left h]
theorem getD_right {l m : List Int} {n i : Nat} (hn : l.length = n) : (l ++ m).getD (n + i) 0 = m.getD i 0 := by
  subst hn
  simp [List.getD, List.getElem?_append_right]
theorem sum_app {l m ws vs : List Int} {n : Nat} (hl : l.length = n) (hw : ws.length = n) : ∀ k, sumK (l ++ m) (ws ++ vs) (n + k) = sumK l ws n + sumK m vs k
  | 0 => by
    have : ∀ j, j ≤ n → sumK (l ++ m) (ws ++ vs) j = sumK l ws j := by
      intro j
      induction j with
      | zero => intro _; rfl
      | succ j ih =>
        intro hj
        rw [sumK, sumK, ih (by omega), getD_left (by omega), getD_left (by omega)]
    show sumK (l ++ m) (ws ++ vs) n = sumK l ws n + 0
    rw [this n (Nat.le_refl _)]; omega
  | k + 1 => by
    show sumK (l ++ m) (ws ++ vs) (n + k) + (l ++ m).getD (n + k) 0 * (ws ++ vs).getD (n + k) 0 = _
    rw [sum_app hl hw k, getD_right hl, getD_right hw, sumK]
    omega
theorem all_app {ws vs : List Int} {n : Nat} (hw : ws.length = n) : ∀ k, allK (ws ++ vs) (n + k) = allK ws n + allK vs k
  | 0 => by
    have : ∀ j, j ≤ n → allK (ws ++ vs) j = allK ws j := by
      intro j
      induction j with
      | zero => intro _; rfl
      | succ j ih =>
        intro hj
        rw [allK, allK, ih (by omega), getD_left (by omega)]
    show allK (ws ++ vs) n = allK ws n + 0
    rw [this n (Nat.le_refl _)]; omega
  | k + 1 => by
    show allK (ws ++ vs) (n + k) + (ws ++ vs).getD (n + k) 0 = _
    rw [all_app hw k, getD_right hw, allK]
    omega
theorem vot_app {l m ws vs : List Int} {n : Nat} (hl : l.length = n) (hw : ws.length = n) (v : Int) : ∀ k, votK (l ++ m) (ws ++ vs) v (n + k) = votK l ws v n + votK m vs v k
  | 0 => by
    have : ∀ j, j ≤ n → votK (l ++ m) (ws ++ vs) v j = votK l ws v j := by
      intro j
      induction j with
      | zero => intro _; rfl
      | succ j ih =>
        intro hj
        rw [votK, votK, ih (by omega), getD_left (by omega), getD_left (by omega)]
    show votK (l ++ m) (ws ++ vs) v n = votK l ws v n + 0
    rw [this n (Nat.le_refl _)]; omega
  | k + 1 => by
    show (votK (l ++ m) (ws ++ vs) v (n + k) + if (l ++ m).getD (n + k) 0 = v then (ws ++ vs).getD (n + k) 0 else 0) = _
    rw [vot_app hl hw v k, getD_right hl, getD_right hw, votK]
    omega
theorem each_app (a b : Gv) (r : List Int) : eachL (joinG a b) r = eachL a r ++ eachL b r := by
  unfold eachL joinG
  show List.map _ (gt a ++ gt b) = _
  rw [List.map_append]
theorem join_stand {a b : Gv} {r : List Int} (h : joinF a b = 0) (hs : standF a r = 0) : standF b r = 0 ∧ standF (joinG a b) r = 0 := by
  obtain ⟨A, B, e1, e2, e3⟩ := join_ok h
  obtain ⟨_, h2, h3⟩ := stand_ok hs
  exact ⟨stand_of B h2 (by rw [← e1]; exact h3), stand_of (join_good h) h2 h3⟩
theorem join_sum {a b : Gv} {r : List Int} (h : joinF a b = 0) (hs : standF a r = 0) (hw : gw a = 1) : evalG (joinG a b) r = evalG a r + evalG b r := by
  obtain ⟨A, B, e1, e2, e3⟩ := join_ok h
  obtain ⟨s1, s2⟩ := join_stand h hs
  unfold evalG
  rw [if_pos s2, if_pos hs, if_pos s1]
  unfold together
  rw [if_pos (show gw (joinG a b) = 1 from hw), if_pos hw, if_pos (by rw [← e2]; exact hw), each_app, List.length_append]
  exact sum_app rfl (by rw [each_len]; exact A.len) _
theorem twice {g : Gv} {r : List Int} (h : joinF g g = 0) (hs : standF g r = 0) : evalG (joinG g g) r = if gw g = 1 then 2 * evalG g r else evalG g r := by
  obtain ⟨A, _, _, _, _⟩ := join_ok h
  obtain ⟨_, s2⟩ := join_stand h hs
  by_cases h1 : gw g = 1
  · rw [if_pos h1, join_sum h hs h1]; omega
  · rw [if_neg h1]
    have hE := each_len g r
    have hl : (gs g).length = (eachL g r).length := by rw [hE]; exact A.len
    unfold evalG
    rw [if_pos s2, if_pos hs]
    unfold together
    have ew : gw (joinG g g) = gw g := rfl
    have es : gs (joinG g g) = gs g ++ gs g := rfl
    rw [ew, es, if_neg h1, if_neg h1, each_app, List.length_append]
    by_cases h2 : gw g = 2
    · rw [if_pos h2, if_pos h2, sum_app rfl hl, all_app hl]
      have ap := (all_pos (ws := gs g) (eachL g r).length fun i hi => wt_at A (by rw [← hE]; exact hi)).1
      have a0 : 0 < (eachL g r).length := by rw [hE]; exact A.t0
      rw [show sumK (eachL g r) (gs g) (eachL g r).length + sumK (eachL g r) (gs g) (eachL g r).length = 2 * sumK (eachL g r) (gs g) (eachL g r).length by omega,
        show allK (gs g) (eachL g r).length + allK (gs g) (eachL g r).length = 2 * allK (gs g) (eachL g r).length by omega]
      exact Int.mul_ediv_mul_of_pos _ _ (by omega)
    · rw [if_neg h2, if_neg h2]
      have w1 : ∀ i, i < (eachL g r).length → 1 ≤ (gs g).getD i 0 := fun i hi => (wt_at A (by rw [← hE]; exact hi)).1
      have a0 : 0 < (eachL g r).length := by rw [hE]; exact A.t0
      obtain ⟨⟨j, j1, j2⟩, j3, j4⟩ := best_spec w1 (eachL g r).length a0 (Nat.le_refl _)
      have key : ∀ i, i < (eachL g r).length + (eachL g r).length → ∃ i', i' < (eachL g r).length ∧ (eachL g r ++ eachL g r).getD i 0 = (eachL g r).getD i' 0 := by
        intro i hi
        by_cases q : i < (eachL g r).length
        · exact ⟨i, q, getD_left q⟩
        · refine ⟨i - (eachL g r).length, by omega, ?_⟩
          have := getD_right (l := eachL g r) (m := eachL g r) (i := i - (eachL g r).length) rfl
          rwa [show (eachL g r).length + (i - (eachL g r).length) = i by omega] at this
      have vt : ∀ v, votK (eachL g r ++ eachL g r) (gs g ++ gs g) v ((eachL g r).length + (eachL g r).length) = 2 * votK (eachL g r) (gs g) v (eachL g r).length := by
        intro v
        rw [vot_app rfl hl v]; omega
      have := best_unique (l := eachL g r ++ eachL g r) (ws := gs g ++ gs g) (b := (bestK (eachL g r) (gs g) (eachL g r).length).2)
        (fun i hi => by
          rw [List.length_append] at hi
          by_cases q : i < (eachL g r).length
          · rw [getD_left (by omega)]; exact w1 i q
          · have e := getD_right (l := gs g) (m := gs g) (i := i - (eachL g r).length) hl
            rw [show (eachL g r).length + (i - (eachL g r).length) = i by omega] at e
            rw [e]; exact w1 _ (by omega))
        (by rw [List.length_append]; omega)
        ⟨j, by rw [List.length_append]; omega, by rw [getD_left j1]; exact j2⟩
        (fun i hi => by
          rw [List.length_append] at hi ⊢
          obtain ⟨i', q1, q2⟩ := key i hi
          rw [q2, vt, vt, ← j3]
          have := j4 i' q1
          omega)
      rw [List.length_append] at this
      exact this

theorem join_self {g : Gv} (h : Good g) : joinF g g = 0 ∨ (joinF g g = 4 ∧ 12 < 2 * (gt g).length) := by
  unfold joinF
  rw [if_neg (by simp [(good_iff g).2 h]), if_neg (by simp [(good_iff g).2 h]), if_neg (by simp)]
  by_cases q : 12 < (gt g).length + (gt g).length
  · rw [if_pos q]; exact .inr ⟨rfl, by omega⟩
  · rw [if_neg q]; exact .inl rfl
theorem each_in {g : Gv} {r : List Int} (h : standF g r = 0) {i : Nat} (hi : i < (gt g).length) : -1000000 ≤ (eachL g r).getD i 0 ∧ (eachL g r).getD i 0 ≤ 1000000 := by
  rw [each_at g r hi, getD_at hi]
  have hr := stand_ready h (List.getElem_mem hi)
  exact lv_in (tree_ok (ready_ok hr).2).1 _ (eval_mem hr)
theorem eval_range {g : Gv} {r : List Int} (h : standF g r = 0) (hw : gw g = 1) : -12000000000 ≤ evalG g r ∧ evalG g r ≤ 12000000000 := by
  obtain ⟨G, _, _⟩ := stand_ok h
  unfold evalG
  rw [if_pos h]
  unfold together
  rw [if_pos hw, each_len]
  have := sum_bound (l := eachL g r) (ws := gs g) (gt g).length fun i hi => ⟨(each_in h hi).1, (each_in h hi).2, (wt_at G hi).1, (wt_at G hi).2⟩
  have := G.t12
  omega
def one7 : Gv := (0, 3, [1], [[(-1, 0, 0, 0, false, 7)]])
theorem one7_stand : standF one7 [] = 0 := by decide +kernel
theorem one7_each : eachV one7 [] = [7] := by decide +kernel
def two7 : Gv := (0, 2, [1, 3], [[(-1, 0, 0, 0, false, 7)], [(-1, 0, 0, 0, false, 7)]])
theorem two7_stand : standF two7 [] = 0 := by decide +kernel
theorem two7_eval : evalG two7 [] = 7 := by decide +kernel

end Go.Proofs.Ytlloiccodjnkcag.M

namespace Go.Proofs.Ytlloiccodjnkcag.M
set_option linter.unusedVariables false

/-! ### without a feature -/
def wo (f : Int) : BT → BT
  | .lf v => .lf v
  | .nd g c s l r => if g = f then (if s = true then wo f l else wo f r) else .nd g c s (wo f l) (wo f r)
def freeB (f : Int) : BT → Prop
  | .lf _ => True
  | .nd g _ _ l r => g ≠ f ∧ freeB f l ∧ freeB f r
theorem wo_hit {f c : Int} {s : Bool} {l r : BT} : wo f (.nd f c s l r) = if s = true then wo f l else wo f r := by
  show (if f = f then _ else _) = _
  rw [if_pos rfl]
theorem wo_miss {f g c : Int} {s : Bool} {l r : BT} (h : g ≠ f) : wo f (.nd g c s l r) = .nd g c s (wo f l) (wo f r) := by
  show (if g = f then _ else _) = _
  rw [if_neg h]
theorem wo_free (f : Int) : ∀ T : BT, freeB f (wo f T)
  | .lf _ => trivial
  | .nd g c s l r => by
    by_cases h : g = f
    · subst h; rw [wo_hit]; split
      · exact wo_free g l
      · exact wo_free g r
    · rw [wo_miss h]; exact ⟨h, wo_free f l, wo_free f r⟩
theorem wo_same {f : Int} : ∀ T : BT, freeB f T → wo f T = T
  | .lf _, _ => rfl
  | .nd g c s l r, h => by rw [wo_miss h.1, wo_same l h.2.1, wo_same r h.2.2]
theorem wo_ok {f m : Int} : ∀ T : BT, okB m T → okB m (wo f T)
  | .lf _, h => h
  | .nd g c s l r, h => by
    by_cases e : g = f
    · subst e; rw [wo_hit]; split
      · exact wo_ok l h.2.2.2.1
      · exact wo_ok r h.2.2.2.2
    · rw [wo_miss e]; exact ⟨h.1, h.2.1, h.2.2.1, wo_ok l h.2.2.2.1, wo_ok r h.2.2.2.2⟩
theorem wo_le (f : Int) : ∀ T : BT, (wo f T).size ≤ T.size ∧ (wo f T).deep ≤ T.deep
  | .lf _ => ⟨Nat.le_refl _, Nat.le_refl _⟩
  | .nd g c s l r => by
    have h1 := wo_le f l
    have h2 := wo_le f r
    by_cases e : g = f
    · subst e; rw [wo_hit]
      show _ ≤ 1 + l.size + r.size ∧ _ ≤ 1 + max l.deep r.deep
      split <;> omega
    · rw [wo_miss e]
      show 1 + _ + _ ≤ 1 + _ + _ ∧ 1 + max _ _ ≤ 1 + max _ _
      omega
/-- what it tells -/
theorem wo_ev {f : Nat} {x : List Int} (hx : f < x.length) {m : Int} : ∀ T : BT, okB m T → evB (wo (f : Int) T) x = evB T (x.set f nilI)
  | .lf _, _ => rfl
  | .nd g c s l r, h => by
    have h1 := wo_ev hx l h.2.2.2.1
    have h2 := wo_ev hx r h.2.2.2.2
    have gn : ((g.toNat : Nat) : Int) = g := Int.toNat_of_nonneg h.1
    by_cases e : g = (f : Int)
    · subst e
      rw [wo_hit]
      have eg : goes (f : Int) c s (x.set f nilI) = s := by
        unfold goes
        rw [Int.toNat_natCast, if_pos (by simp [List.getD, hx])]
      show _ = if goes (f : Int) c s (x.set f nilI) = true then _ else _
      rw [eg]
      split
      · exact h1
      · exact h2
    · rw [wo_miss e]
      have eg : goes g c s (x.set f nilI) = goes g c s x := by
        unfold goes
        have : (x.set f nilI).getD g.toNat 0 = x.getD g.toNat 0 := by
          have ne : f ≠ g.toNat := fun z => e (by omega)
          simp [List.getD, ne]
        rw [this]
      show (if goes g c s x = true then _ else _) = if goes g c s (x.set f nilI) = true then _ else _
      rw [eg, h1, h2]

/-! ### the features, as they are laid -/
def pre : BT → List Int
  | .lf _ => [-1]
  | .nd f _ _ l r => f :: (pre l ++ pre r)
theorem pre_len : ∀ T : BT, (pre T).length = T.size
  | .lf _ => rfl
  | .nd _ _ _ l r => by
    show (pre l ++ pre r).length + 1 = 1 + l.size + r.size
    rw [List.length_append, pre_len l, pre_len r]; omega
theorem pre_lay : ∀ (T : BT) (k : Nat), (lay T k).map nf = pre T
  | .lf _, k => rfl
  | .nd f c s l r, k => by
    show f :: (lay l (k + 1) ++ lay r (k + 1 + l.size)).map nf = f :: (pre l ++ pre r)
    rw [List.map_append, pre_lay l, pre_lay r]
theorem pre_free {f : Int} (hf : f ≠ -1) : ∀ T : BT, freeB f T ↔ ∀ g ∈ pre T, g ≠ f
  | .lf _ => ⟨fun _ g hg => by
      have : g = -1 := by simpa [pre] using hg
      subst this; exact fun e => hf e.symm, fun _ => trivial⟩
  | .nd g c s l r => by
    have h1 := pre_free hf l
    have h2 := pre_free hf r
    show (g ≠ f ∧ freeB f l ∧ freeB f r) ↔ ∀ x ∈ g :: (pre l ++ pre r), x ≠ f
    rw [h1, h2]
    constructor
    · rintro ⟨a, b, c⟩ x hx
      rcases List.mem_cons.1 hx with e | e
      · rw [e]; exact a
      · rcases List.mem_append.1 e with z | z
        · exact b x z
        · exact c x z
    · intro h
      exact ⟨h g (List.mem_cons_self ..), fun x hx => h x (List.mem_cons_of_mem _ (List.mem_append.2 (.inl hx))), fun x hx => h x (List.mem_cons_of_mem _ (List.mem_append.2 (.inr hx)))⟩

/-! ### the tree at a place, and another one there -/
def sub : BT → Nat → BT
  | T, 0 => T
  | .lf v, _ + 1 => .lf v
  | .nd _ _ _ l r, i + 1 => if i < l.size then sub l i else sub r (i - l.size)
def rep : BT → Nat → BT → BT
  | _, 0, V => V
  | .lf v, _ + 1, _ => .lf v
  | .nd f c s l r, i + 1, V => if i < l.size then .nd f c s (rep l i V) r else .nd f c s l (rep r (i - l.size) V)
theorem rep_zero (T V : BT) : rep T 0 V = V := by cases T <;> rfl
theorem sub_zero (T : BT) : sub T 0 = T := by cases T <;> rfl
theorem rep_pre : ∀ (T : BT) (i : Nat) (V : BT), i < T.size → (pre (rep T i V)).take i = (pre T).take i
  | T, 0, V, _ => by simp
  | .lf v, i + 1, V, h => by have : (BT.lf v).size = 1 := rfl; omega
  | .nd f c s l r, i + 1, V, h => by
    have hs : i + 1 < 1 + l.size + r.size := h
    unfold rep
    by_cases e : i < l.size
    · rw [if_pos e]
      show (f :: (pre (rep l i V) ++ pre r)).take (i + 1) = (f :: (pre l ++ pre r)).take (i + 1)
      rw [List.take_succ_cons, List.take_succ_cons]
      congr 1
      have ih := rep_pre l i V e
      have l1 : i ≤ (pre (rep l i V)).length := by
        have := congrArg List.length ih
        rw [List.length_take, List.length_take, pre_len l] at this
        omega
      rw [List.take_append_of_le_length l1, List.take_append_of_le_length (by rw [pre_len]; omega), ih]
    · rw [if_neg e]
      show (f :: (pre l ++ pre (rep r (i - l.size) V))).take (i + 1) = (f :: (pre l ++ pre r)).take (i + 1)
      rw [List.take_succ_cons, List.take_succ_cons]
      congr 1
      have ih := rep_pre r (i - l.size) V (by omega)
      rw [List.take_append, List.take_append, pre_len l, ih]
theorem rep_wo {f : Int} : ∀ (T : BT) (i : Nat) (V : BT), i < T.size → wo f V = wo f (sub T i) → wo f (rep T i V) = wo f T
  | T, 0, V, _, h => by rw [rep_zero, h, sub_zero]
  | .lf v, i + 1, V, h, _ => by have : (BT.lf v).size = 1 := rfl; omega
  | .nd g c s l r, i + 1, V, h, hv => by
    have hs : i + 1 < 1 + l.size + r.size := h
    unfold rep
    unfold sub at hv
    by_cases e : i < l.size
    · rw [if_pos e] at hv ⊢
      have ih := rep_wo l i V e hv
      by_cases q : g = f
      · subst q; rw [wo_hit, wo_hit, ih]
      · rw [wo_miss q, wo_miss q, ih]
    · rw [if_neg e] at hv ⊢
      have ih := rep_wo r (i - l.size) V (by omega) hv
      by_cases q : g = f
      · subst q; rw [wo_hit, wo_hit, ih]
      · rw [wo_miss q, wo_miss q, ih]
theorem rep_size : ∀ (T : BT) (i : Nat) (V : BT), i < T.size → V.size < (sub T i).size → (rep T i V).size < T.size
  | T, 0, V, _, h => by rw [rep_zero]; rw [sub_zero] at h; exact h
  | .lf v, i + 1, V, h, _ => by have : (BT.lf v).size = 1 := rfl; omega
  | .nd g c s l r, i + 1, V, h, hv => by
    have hs : i + 1 < 1 + l.size + r.size := h
    unfold rep
    unfold sub at hv
    by_cases e : i < l.size
    · rw [if_pos e] at hv ⊢
      have ih := rep_size l i V e hv
      show 1 + (rep l i V).size + r.size < 1 + l.size + r.size
      omega
    · rw [if_neg e] at hv ⊢
      have ih := rep_size r (i - l.size) V (by omega) hv
      show 1 + l.size + (rep r (i - l.size) V).size < 1 + l.size + r.size
      omega
theorem rep_deep : ∀ (T : BT) (i : Nat) (V : BT), i < T.size → V.deep ≤ (sub T i).deep → (rep T i V).deep ≤ T.deep
  | T, 0, V, _, h => by rw [rep_zero]; rw [sub_zero] at h; exact h
  | .lf v, i + 1, V, h, _ => by have : (BT.lf v).size = 1 := rfl; omega
  | .nd g c s l r, i + 1, V, h, hv => by
    have hs : i + 1 < 1 + l.size + r.size := h
    unfold rep
    unfold sub at hv
    by_cases e : i < l.size
    · rw [if_pos e] at hv ⊢
      have ih := rep_deep l i V e hv
      show 1 + max (rep l i V).deep r.deep ≤ 1 + max l.deep r.deep
      omega
    · rw [if_neg e] at hv ⊢
      have ih := rep_deep r (i - l.size) V (by omega) hv
      show 1 + max l.deep (rep r (i - l.size) V).deep ≤ 1 + max l.deep r.deep
      omega
theorem rep_ok {m : Int} : ∀ (T : BT) (i : Nat) (V : BT), i < T.size → okB m T → okB m V → okB m (rep T i V)
  | T, 0, V, _, _, h => by rw [rep_zero]; exact h
  | .lf v, i + 1, V, h, _, _ => by have : (BT.lf v).size = 1 := rfl; omega
  | .nd g c s l r, i + 1, V, h, hk, hv => by
    have hs : i + 1 < 1 + l.size + r.size := h
    unfold rep
    by_cases e : i < l.size
    · rw [if_pos e]; exact ⟨hk.1, hk.2.1, hk.2.2.1, rep_ok l i V e hk.2.2.2.1 hv, hk.2.2.2.2⟩
    · rw [if_neg e]; exact ⟨hk.1, hk.2.1, hk.2.2.1, hk.2.2.2.1, rep_ok r (i - l.size) V (by omega) hk.2.2.2.2 hv⟩
theorem sub_ok {m : Int} : ∀ (T : BT) (i : Nat), i < T.size → okB m T → okB m (sub T i)
  | T, 0, _, h => by rw [sub_zero]; exact h
  | .lf v, i + 1, h, _ => by have : (BT.lf v).size = 1 := rfl; omega
  | .nd g c s l r, i + 1, h, hk => by
    have hs : i + 1 < 1 + l.size + r.size := h
    unfold sub
    by_cases e : i < l.size
    · rw [if_pos e]; exact sub_ok l i e hk.2.2.2.1
    · rw [if_neg e]; exact sub_ok r (i - l.size) (by omega) hk.2.2.2.2

/-! ### a tree that sits at a place of what is laid -/
def Sits (t : List Nd) (k : Nat) (T : BT) : Prop := k + T.size ≤ t.length ∧ ∀ j, j < T.size → nAt t (k + j) = nAt (lay T k) j
theorem sits_lay (T : BT) : Sits (lay T 0) 0 T := ⟨by rw [lay_len]; omega, fun j _ => by rw [Nat.zero_add]⟩
theorem nAt_left (a b : List Nd) {j : Nat} (h : j < a.length) : nAt (a ++ b) j = nAt a j := by
  unfold nAt; simp [List.getD, List.getElem?_append_left h]
theorem nAt_right (a b : List Nd) {j : Nat} (h : a.length ≤ j) : nAt (a ++ b) j = nAt b (j - a.length) := by
  unfold nAt; simp [List.getD, List.getElem?_append_right h]
theorem Sits.sides {t : List Nd} {k : Nat} {f c : Int} {s : Bool} {l r : BT} (h : Sits t k (.nd f c s l r)) : nAt t k = (f, c, ((k + 1 : Nat) : Int), ((k + 1 + l.size : Nat) : Int), s, 0) ∧ Sits t (k + 1) l ∧ Sits t (k + 1 + l.size) r := by
  obtain ⟨h1, h2⟩ := h
  have hs : (BT.nd f c s l r).size = 1 + l.size + r.size := rfl
  rw [hs] at h1 h2
  have cut : ∀ j, nAt (lay (.nd f c s l r) k) (j + 1) = nAt (lay l (k + 1) ++ lay r (k + 1 + l.size)) j := fun j => by
    show nAt ((f, c, ((k + 1 : Nat) : Int), ((k + 1 + l.size : Nat) : Int), s, 0) :: (lay l (k + 1) ++ lay r (k + 1 + l.size))) (j + 1) = _
    unfold nAt; simp [List.getD]
  refine ⟨by have := h2 0 (by omega); rw [Nat.add_zero] at this; rw [this]; rfl, ⟨by omega, fun j hj => ?_⟩, ⟨by omega, fun j hj => ?_⟩⟩
  · have := h2 (j + 1) (by omega)
    rw [cut, nAt_left _ _ (by rw [lay_len]; exact hj)] at this
    rw [show k + 1 + j = k + (j + 1) by omega]; exact this
  · have := h2 (l.size + j + 1) (by omega)
    rw [cut, nAt_right _ _ (by rw [lay_len]; omega), lay_len, show l.size + j - l.size = j by omega] at this
    rw [show k + 1 + l.size + j = k + (l.size + j + 1) by omega]; exact this
theorem Sits.leaf {t : List Nd} {k : Nat} {v : Int} (h : Sits t k (.lf v)) : nAt t k = (-1, 0, 0, 0, false, v) := by
  have := h.2 0 Nat.one_pos
  rw [Nat.add_zero] at this
  rw [this]; rfl
theorem Sits.tree {t : List Nd} {m : Int} (hR : Right t m) : ∀ {T : BT} {k : Nat}, okB m T → Sits t k T → bt t k = T
  | .lf v, k, _, h => by
    have hk : k < t.length := by have := h.1; have : (BT.lf v).size = 1 := rfl; omega
    have e := h.leaf
    rw [bt_leaf hk (by rw [e]; rfl), e]; rfl
  | .nd f c s l r, k, ok, h => by
    have hk : k < t.length := by have := h.1; have : (BT.nd f c s l r).size = 1 + l.size + r.size := rfl; omega
    obtain ⟨e, h1, h2⟩ := h.sides
    have f0 : nf (nAt t k) ≠ -1 := by rw [e]; show f ≠ -1; have := ok.1; omega
    rw [bt_ask hR hk f0 (a := k + 1) (b := k + 1 + l.size) (by rw [e]; rfl) (by rw [e]; rfl), h1.tree hR ok.2.2.2.1, h2.tree hR ok.2.2.2.2, e]
    rfl
theorem Sits.under {t : List Nd} : ∀ {T : BT} {k i : Nat}, Sits t k T → i < T.size → Sits t (k + i) (sub T i)
  | T, k, 0, h, _ => by rw [sub_zero]; exact h
  | .lf v, k, i + 1, _, hi => by have : (BT.lf v).size = 1 := rfl; omega
  | .nd f c s l r, k, i + 1, h, hi => by
    have hs : i + 1 < 1 + l.size + r.size := hi
    obtain ⟨_, h1, h2⟩ := h.sides
    unfold sub
    by_cases e : i < l.size
    · rw [if_pos e, show k + (i + 1) = k + 1 + i by omega]; exact h1.under e
    · rw [if_neg e, show k + (i + 1) = k + 1 + l.size + (i - l.size) by omega]; exact h2.under (by omega)
/-- what sits there where nothing is turned -/
theorem Sits.kept {t u : List Nd} {k : Nat} {T : BT} {up : Nat} (h : Sits t k T) (hl : u.length = t.length) (hq : ∀ q, q ≠ up → nAt u q = nAt t q) (hu : up < k ∨ k + T.size ≤ up) : Sits u k T :=
  ⟨by rw [hl]; exact h.1, fun j hj => by rw [hq (k + j) (by omega)]; exact h.2 j hj⟩
/-- a node gave way: the tree at its place is another one -/
theorem Sits.turned {t u : List Nd} {m : Int} (hu : Right u m) (hl : u.length = t.length) {up at' tw : Nat} (hq : ∀ q, q ≠ up → nAt u q = nAt t q) (hn : nAt u up = turnN (nAt t up) at' tw) (hc : chL (nAt t up) (at' : Nat)) {V : BT} (hV : bt u tw = V) :
    ∀ {T : BT} {k : Nat}, okB m T → Sits t k T → k ≤ up → up < k + T.size → k < at' ∧ at' < k + T.size ∧ bt u k = rep T (at' - k) V
  | .lf v, k, _, h, h1, h2 => by
    have e := h.leaf
    have : up = k := by have : (BT.lf v).size = 1 := rfl; omega
    subst this
    exact absurd (by rw [e]; rfl) hc.1
  | .nd f c s l r, k, ok, h, h1, h2 => by
    have hs : up < k + (1 + l.size + r.size) := h2
    have lp := BT.size_pos l
    have rp := BT.size_pos r
    have hk : k < u.length := by rw [hl]; have := h.1; have : (BT.nd f c s l r).size = 1 + l.size + r.size := rfl; omega
    obtain ⟨e, s1, s2⟩ := h.sides
    have fz : f ≠ -1 := by have := ok.1; omega
    by_cases c0 : up = k
    · subst c0
      rw [e] at hn hc
      have k1 : Sits u (up + 1) l := s1.kept hl hq (.inl (by omega))
      have k2 : Sits u (up + 1 + l.size) r := s2.kept hl hq (.inl (by omega))
      have b1 := k1.tree hu ok.2.2.2.1
      have b2 := k2.tree hu ok.2.2.2.2
      by_cases ca : at' = up + 1
      · subst ca
        have en : nAt u up = (f, c, (tw : Int), ((up + 1 + l.size : Nat) : Int), s, 0) := by rw [hn]; unfold turnN; rw [if_pos (show nl (f, c, ((up + 1 : Nat) : Int), ((up + 1 + l.size : Nat) : Int), s, (0 : Int)) = ((up + 1 : Nat) : Int) from rfl)]; rfl
        refine ⟨by omega, by show up + 1 < up + (1 + l.size + r.size); omega, ?_⟩
        rw [bt_ask hu hk (a := tw) (b := up + 1 + l.size) (by rw [en]; exact fz) (by rw [en]; rfl) (by rw [en]; rfl), en, hV, b2]
        rw [show up + 1 - up = 0 + 1 by omega]
        show BT.nd f c s V r = if 0 < l.size then .nd f c s (rep l 0 V) r else _
        rw [if_pos lp, rep_zero]
      · have cb : at' = up + 1 + l.size := by
          rcases hc.2 with z | z
          · have : ((up + 1 : Nat) : Int) = (at' : Int) := z; omega
          · have : ((up + 1 + l.size : Nat) : Int) = (at' : Int) := z; omega
        subst cb
        have en : nAt u up = (f, c, ((up + 1 : Nat) : Int), (tw : Int), s, 0) := by
          rw [hn]; unfold turnN
          rw [if_neg (by show ¬ ((up + 1 : Nat) : Int) = ((up + 1 + l.size : Nat) : Int); omega)]; rfl
        refine ⟨by omega, by show up + 1 + l.size < up + (1 + l.size + r.size); omega, ?_⟩
        rw [bt_ask hu hk (a := up + 1) (b := tw) (by rw [en]; exact fz) (by rw [en]; rfl) (by rw [en]; rfl), en, hV, b1]
        rw [show up + 1 + l.size - up = l.size + 1 by omega]
        show BT.nd f c s l V = if l.size < l.size then _ else .nd f c s l (rep r (l.size - l.size) V)
        rw [if_neg (Nat.lt_irrefl _), Nat.sub_self, rep_zero]
    · have ek := hq k (fun z => c0 z.symm)
      rw [e] at ek
      by_cases cl : up < k + 1 + l.size
      · obtain ⟨p1, p2, p3⟩ := Sits.turned hu hl hq hn hc hV ok.2.2.2.1 s1 (by omega) cl
        have k2 : Sits u (k + 1 + l.size) r := s2.kept hl hq (.inl (by omega))
        refine ⟨by omega, by show at' < k + (1 + l.size + r.size); omega, ?_⟩
        rw [bt_ask hu hk (a := k + 1) (b := k + 1 + l.size) (by rw [ek]; exact fz) (by rw [ek]; rfl) (by rw [ek]; rfl), ek, p3, k2.tree hu ok.2.2.2.2]
        obtain ⟨d, hd⟩ : ∃ d, at' - k = d + 1 := ⟨at' - k - 1, by omega⟩
        rw [hd, show at' - (k + 1) = d by omega]
        show BT.nd f c s (rep l d V) r = if d < l.size then .nd f c s (rep l d V) r else _
        rw [if_pos (by omega)]
      · obtain ⟨p1, p2, p3⟩ := Sits.turned hu hl hq hn hc hV ok.2.2.2.2 s2 (by omega) (by omega)
        have k1 : Sits u (k + 1) l := s1.kept hl hq (.inr (by omega))
        refine ⟨by omega, by show at' < k + (1 + l.size + r.size); omega, ?_⟩
        rw [bt_ask hu hk (a := k + 1) (b := k + 1 + l.size) (by rw [ek]; exact fz) (by rw [ek]; rfl) (by rw [ek]; rfl), ek, p3, k1.tree hu ok.2.2.2.1]
        obtain ⟨d, hd⟩ : ∃ d, at' - k = d + 1 := ⟨at' - k - 1, by omega⟩
        rw [hd, show at' - (k + 1 + l.size) = d - l.size by omega]
        show BT.nd f c s l (rep r (d - l.size) V) = if d < l.size then _ else .nd f c s l (rep r (d - l.size) V)
        rw [if_neg (by omega)]

end Go.Proofs.Ytlloiccodjnkcag.M
