/-
  Several texts as one: Sams, MathG, MathJ, MathBa, MathBb.
-/
import Derived.Test.YtlloiccodjnkcagGreatDoorRunC3
import Derived.Test.YtlloiccodjnkcagGreatDoorRunC5
import Derived.Test.YtlloiccodjnkcagGreatDoorRunC4
namespace Go.Proofs.YtlloiccodjnkcagGreatDoor
open Go.ChangeShapes Go.WideShapes Go.ChangeAt Go.RowKit Go.Deep
set_option linter.unusedVariables false

/-- a sample: where its row lies, the row, the room, the target -/
abbrev Sx := Option Addr × List Int × Nat × Int
def sxV (x : Sx) : Value := .slice x.1 x.2.1.length x.2.2.1
def sm (x : Sx) : M.Sa := (x.2.1, x.2.2.2)
def sms (xs : List Sx) : List M.Sa := xs.map sm
theorem sms_len (xs : List Sx) : (sms xs).length = xs.length := by simp [sms]
theorem sms_at (xs : List Sx) {k : Nat} (h : k < xs.length) : M.sAt (sms xs) k = sm xs[k] := by
  unfold M.sAt; rw [M.getD_at (by rw [sms_len]; exact h)]; simp [sms]
/-- samples, where they lie -/
def RdL (w : World) (a : Option Addr) (xs : List Sx) : Prop :=
  xs.length ≤ maxLen ∧ (∀ x ∈ xs, Rd w x.1 x.2.1) ∧ (xs ≠ [] → ∃ b off, a = some ⟨b, off, none⟩ ∧ b < w.heap.size ∧ ∀ i (h : i < xs.length), w.cell? ⟨b, off + i * 2, none⟩ = some (sxV xs[i]) ∧ w.cell? ⟨b, off + i * 2 + 1, none⟩ = some (.int .i64 xs[i].2.2.2))
theorem RdL.below {w w' : World} {a : Option Addr} {xs : List Sx} (h : RdL w a xs) (hb : Below w.heap.size w w') : RdL w' a xs :=
  ⟨h.1, fun x hx => (h.2.1 x hx).below hb, fun hn => by
    obtain ⟨b, off, e, hl, hc⟩ := h.2.2 hn
    exact ⟨b, off, e, Nat.lt_of_lt_of_le hl hb.size, fun i hi => ⟨(hb.cell (p := ⟨b, off + i * 2, none⟩) hl).trans (hc i hi).1, (hb.cell (p := ⟨b, off + i * 2 + 1, none⟩) hl).trans (hc i hi).2⟩⟩⟩
theorem cellsSam : Tryz.prog.cellsOf 52 = 2 := by kernel_rfl
theorem cellsInts : Tryz.prog.cellsOf 22 = 1 := by kernel_rfl
theorem struct2 {H : Type} {enc : TypeId × Value → H} {P : Program} {w : World} {base : Nat} {spare : Nat → Bool} {held : Bool} {t : TypeId} {f0 f1 : Field} {fuel : Nat} {cs : List Value} {x : DataW H × List MemPlace} (ht : P.underlying t = some (.struct #[f0, f1]))
    (h : DataW.trod enc P w base spare held fuel t cs = some x) :
    ∃ y0 y1 n, DataW.trod enc P w base spare held n f0.type ((cs.drop f0.offset).take (P.cellsOf f0.type)) = some y0 ∧ DataW.trod enc P w base spare held n f1.type ((cs.drop f1.offset).take (P.cellsOf f1.type)) = some y1 := by
  obtain ⟨xs, n, _, rfl, hl, hlen, hf⟩ := DataW.trod_struct ht h
  match xs, hlen with
  | [y0, y1], _ => exact ⟨y0, y1, n, by simpa using hf 0 f0 rfl, by simpa using hf 1 f1 rfl⟩
set_option maxRecDepth 10000 in
theorem open_samples {H : Type} {enc : TypeId × Value → H} {W : World} {base : Nat} {held : Bool} {fuel : Nat} {a : Option Addr} {len cap : Nat} {x : DataW H × List MemPlace}
    (h : DataW.trod enc Tryz.prog W base (fun _ => true) held fuel 27 [.slice a len cap] = some x) : ∃ xs : List Sx, xs.length = len ∧ RdL W a xs := by
  rcases open_slice Tryz.underlying27 h with ⟨hcs, _⟩ | ⟨a', len', cap', m, n, D, Pl, hcs, _, hl, hm, hmm, _, hx⟩
  · cases hcs
    exact ⟨[], rfl, ⟨Nat.zero_le _, (fun k hk => by cases hk), fun h => absurd rfl h⟩⟩
  · cases hcs
    have hlm : len ≤ m := by rw [hmm]; split <;> omega
    have each : ∀ i, i < len → ∃ k : Sx, (W.cell? (a'.add (i * 2)) = some (sxV k) ∧ W.cell? (a'.add (i * 2 + 1)) = some (.int .i64 k.2.2.2)) ∧ Rd W k.1 k.2.1 := by
      intro i hi
      obtain ⟨cs, h1, h2⟩ := hx i (by omega)
      rw [cellsSam] at h1
      obtain ⟨_, hlen, hcell⟩ := World.cells?_some h1
      obtain ⟨y0, y1, k, g0, g1⟩ := struct2 Tryz.underlying52 h2
      rw [cellsInts] at g0
      rw [cellsInt] at g1
      match cs, hlen with
      | [c0, c1], _ =>
        obtain ⟨n1, e1, _⟩ := DataW.trod_int Tryz.underlying3 g1
        simp at e1 g0
        have d0 := hcell 0 (by omega)
        have d1 := hcell 1 (by omega)
        rw [add_add] at d0 d1
        obtain ⟨wa, ws, wc, rfl, hw⟩ : ∃ wa ws wc, c0 = .slice wa (List.length (α := Int) ws) wc ∧ Rd W wa ws := by
          rcases open_ints Tryz.underlying22 Tryz.underlying3 (by kernel_rfl) g0 with ⟨hcs, _⟩ | ⟨x, l, c, zs, hcs, _, hl, hm, hz, _, hcl, hwz⟩
          · cases hcs
            exact ⟨none, [], 0, rfl, ⟨Nat.zero_le _, fun h => absurd rfl h⟩⟩
          · cases hcs
            have y : IsRow .i64 W (some x) l c zs := .inr ⟨_, rfl, hl, hm, by simpa using hz, hcl, hwz⟩
            exact ⟨some x, zs.take l, c, by rw [(rd_of y).2], (rd_of y).1⟩
        exact ⟨(wa, ws, wc, n1), ⟨by simpa [sxV] using d0, by simpa [e1] using d1⟩, hw⟩
    obtain ⟨f, hf⟩ := choose_lt each
    refine ⟨(List.range len).map f, by simp, ⟨by simp; omega, ?_, fun hne => ?_⟩⟩
    · intro k hk
      rw [List.mem_map] at hk
      obtain ⟨i, hi, rfl⟩ := hk
      exact (hf i (by simpa using hi)).2
    · have hp : 0 < len := by
        rcases Nat.eq_zero_or_pos len with h0 | h0
        · subst h0; exact absurd rfl hne
        · exact h0
      obtain ⟨b, off, spot⟩ := a'
      have hspot : spot = none := by
        have := World.cell?_spot (hf 0 hp).1.1
        simpa [Addr.add] using this
      subst hspot
      refine ⟨b, off, rfl, ?_, fun i hi => ?_⟩
      · have := (hf 0 hp).1.1
        rw [add_flat] at this
        exact block_lt_of_cell this
      · have hi' : i < len := by simpa using hi
        obtain ⟨q0, q1⟩ := (hf i hi').1
        rw [add_flat] at q0 q1
        refine ⟨?_, ?_⟩
        · rw [q0]; simp
        · rw [Nat.add_assoc, q1]; simp

end Go.Proofs.YtlloiccodjnkcagGreatDoor

namespace Go.Proofs.YtlloiccodjnkcagGreatDoor.M
set_option linter.unusedVariables false

/-- a grove: Features, Way, Weights, Trees -/
abbrev Gv := Int × Int × List Int × List (List Nd)
abbrev gf (g : Gv) : Int := g.1
abbrev gw (g : Gv) : Int := g.2.1
abbrev gs (g : Gv) : List Int := g.2.2.1
abbrev gt (g : Gv) : List (List Nd) := g.2.2.2

def wBad (w : Int) : Bool := decide (w < 1) || decide (1000 < w)
theorem wbad_false {w : Int} (h : wBad w = false) : 1 ≤ w ∧ w ≤ 1000 := by
  unfold wBad at h
  rw [Bool.or_eq_false_iff] at h
  have h1 := of_decide_eq_false h.1
  have h2 := of_decide_eq_false h.2
  omega
theorem wbad_ok {w : Int} (h1 : 1 ≤ w) (h2 : w ≤ 1000) : wBad w = false := by
  unfold wBad
  rw [decide_eq_false (by omega), decide_eq_false (by omega)]; rfl
/-- the fault of the first tree that has one -/
def treesF (f : Int) (ts : List (List Nd)) : Int := match firstN (fun i => !decide ((treeF (ts.getD i []) f).2 = 0)) ts.length with
  | some i => (treeF (ts.getD i []) f).2
  | none => 0
theorem trees_at {f : Int} {ts : List (List Nd)} {k : Nat} (hk : k < ts.length) (h : ∀ j, j < k → (treeF (ts.getD j []) f).2 = 0) (hn : (treeF (ts.getD k []) f).2 ≠ 0) : treesF f ts = (treeF (ts.getD k []) f).2 := by
  unfold treesF
  rw [first_hit (k := k) (by show (!decide ((treeF (ts.getD k []) f).2 = 0)) = true; rw [decide_eq_false hn]; rfl) (fun j hj => by show (!decide ((treeF (ts.getD j []) f).2 = 0)) = false; rw [decide_eq_true (h j hj)]; rfl) hk]
theorem trees_all {f : Int} {ts : List (List Nd)} (h : ∀ j, j < ts.length → (treeF (ts.getD j []) f).2 = 0) : treesF f ts = 0 := by
  unfold treesF
  rw [first_miss (fun j hj => by show (!decide ((treeF (ts.getD j []) f).2 = 0)) = false; rw [decide_eq_true (h j hj)]; rfl)]
theorem trees_zero {f : Int} {ts : List (List Nd)} (h : treesF f ts = 0) : ∀ j, j < ts.length → (treeF (ts.getD j []) f).2 = 0 := by
  unfold treesF at h
  split at h
  · rename_i i e
    have q := (first_some e).2
    rw [decide_eq_true h] at q
    cases q
  · rename_i e
    intro j hj
    have := first_none e j hj
    simpa using this

def groveF (g : Gv) : Int :=
  if gf g < 0 ∨ 8 < gf g ∨ gw g < 1 ∨ 3 < gw g then 1
  else if (gt g).length = 0 then 5
  else if 12 < (gt g).length then 4
  else if (gs g).length ≠ (gt g).length then 3
  else if (gs g).any wBad = true then 1
  else treesF (gf g) (gt g)
/-- all that is right with a grove that is right -/
structure Good (g : Gv) : Prop where
  f0 : 0 ≤ gf g
  f8 : gf g ≤ 8
  w1 : 1 ≤ gw g
  w3 : gw g ≤ 3
  t0 : 0 < (gt g).length
  t12 : (gt g).length ≤ 12
  len : (gs g).length = (gt g).length
  wts : ∀ w ∈ gs g, 1 ≤ w ∧ w ≤ 1000
  trees : ∀ t ∈ gt g, (treeF t (gf g)).2 = 0
theorem good_iff (g : Gv) : groveF g = 0 ↔ Good g := by
  constructor
  · intro h
    unfold groveF at h
    split at h
    · cases h
    · rename_i h1
      split at h
      · cases h
      · rename_i h2
        split at h
        · cases h
        · rename_i h3
          split at h
          · cases h
          · rename_i h4
            split at h
            · cases h
            · rename_i h5
              refine ⟨by omega, by omega, by omega, by omega, by omega, by omega, by omega, ?_, ?_⟩
              · intro w hw
                apply wbad_false
                cases e : wBad w with
                | false => rfl
                | true => exact absurd (List.any_eq_true.2 ⟨w, hw, e⟩) h5
              · intro t ht
                obtain ⟨i, hi, rfl⟩ := List.getElem_of_mem ht
                have := trees_zero h i hi
                rwa [getD_at hi] at this
  · intro h
    unfold groveF
    rw [if_neg (by have := h.f0; have := h.f8; have := h.w1; have := h.w3; omega), if_neg (by have := h.t0; omega), if_neg (by have := h.t12; omega), if_neg (by have := h.len; omega), if_neg, trees_all]
    · intro j hj
      rw [getD_at hj]; exact h.trees _ (List.getElem_mem hj)
    · intro hc
      obtain ⟨w, hw, e⟩ := List.any_eq_true.1 hc
      have := h.wts w hw
      rw [wbad_ok this.1 this.2] at e
      cases e

/-- the fault of a grove and a row -/
def standF (g : Gv) (r : List Int) : Int := if groveF g ≠ 0 then groveF g else if rowF r ≠ 0 then rowF r else if (r.length : Int) ≠ gf g then 3 else 0
theorem stand_ok {g : Gv} {r : List Int} (h : standF g r = 0) : Good g ∧ rowF r = 0 ∧ (r.length : Int) = gf g := by
  unfold standF at h
  split at h
  · rename_i h1; exact absurd h h1
  · rename_i h1
    split at h
    · rename_i h2; exact absurd h h2
    · rename_i h2
      split at h
      · cases h
      · rename_i h3
        exact ⟨(good_iff g).1 (by simpa using h1), by simpa using h2, by simpa using h3⟩
theorem stand_of {g : Gv} {r : List Int} (h1 : Good g) (h2 : rowF r = 0) (h3 : (r.length : Int) = gf g) : standF g r = 0 := by
  unfold standF
  rw [if_neg (by simp [(good_iff g).2 h1]), if_neg (by simp [h2]), if_neg (by simp [h3])]
theorem stand_ready {g : Gv} {r : List Int} (h : standF g r = 0) {t : List Nd} (ht : t ∈ gt g) : readyF t r = 0 := by
  obtain ⟨h1, h2, h3⟩ := stand_ok h
  rw [ready_tree h2, h3]
  exact h1.trees t ht

def eachL (g : Gv) (r : List Int) : List Int := (gt g).map fun t => evalV t r
def eachV (g : Gv) (r : List Int) : List Int := if standF g r = 0 then eachL g r else []
theorem each_len (g : Gv) (r : List Int) : (eachL g r).length = (gt g).length := by unfold eachL; simp
theorem each_at (g : Gv) (r : List Int) {i : Nat} (hi : i < (gt g).length) : (eachL g r).getD i 0 = evalV ((gt g).getD i []) r := by
  rw [getD_at (by rw [each_len]; exact hi), getD_at hi]; simp [eachL]

/-! ### together -/
def sumK (l ws : List Int) : Nat → Int
  | 0 => 0
  | k + 1 => sumK l ws k + l.getD k 0 * ws.getD k 0
def allK (ws : List Int) : Nat → Int
  | 0 => 0
  | k + 1 => allK ws k + ws.getD k 0
def votK (l ws : List Int) (v : Int) : Nat → Int
  | 0 => 0
  | k + 1 => votK l ws v k + if l.getD k 0 = v then ws.getD k 0 else 0
/-- of the first k values: the most votes, and who has them -/
def bestK (l ws : List Int) : Nat → Int × Int
  | 0 => (0, 0)
  | k + 1 => if (bestK l ws k).1 < votK l ws (l.getD k 0) l.length ∨ (votK l ws (l.getD k 0) l.length = (bestK l ws k).1 ∧ l.getD k 0 < (bestK l ws k).2) then (votK l ws (l.getD k 0) l.length, l.getD k 0) else bestK l ws k
def together (w : Int) (ws l : List Int) : Int := if w = 1 then sumK l ws l.length else if w = 2 then sumK l ws l.length / allK ws l.length else (bestK l ws l.length).2
def evalG (g : Gv) (r : List Int) : Int := if standF g r = 0 then together (gw g) (gs g) (eachL g r) else 0

theorem vot_pos {l ws : List Int} (hw : ∀ i, i < l.length → 1 ≤ ws.getD i 0) (v : Int) : ∀ k, k ≤ l.length → 0 ≤ votK l ws v k ∧ ∀ j, j < k → l.getD j 0 = v → 1 ≤ votK l ws v k
  | 0, _ => ⟨Int.le_refl _, fun j h => by omega⟩
  | k + 1, hk => by
    obtain ⟨h1, h2⟩ := vot_pos hw v k (by omega)
    have hwk := hw k (by omega)
    unfold votK
    refine ⟨by split <;> omega, fun j hj e => ?_⟩
    by_cases q : j = k
    · subst q; rw [if_pos e]; omega
    · have := h2 j (by omega) e
      split <;> omega
theorem best_spec {l ws : List Int} (hw : ∀ i, i < l.length → 1 ≤ ws.getD i 0) : ∀ k, 0 < k → k ≤ l.length → (∃ j, j < k ∧ (bestK l ws k).2 = l.getD j 0) ∧ (bestK l ws k).1 = votK l ws (bestK l ws k).2 l.length ∧ ∀ i, i < k → votK l ws (l.getD i 0) l.length < (bestK l ws k).1 ∨ (votK l ws (l.getD i 0) l.length = (bestK l ws k).1 ∧ (bestK l ws k).2 ≤ l.getD i 0)
  | 0, h, _ => by omega
  | k + 1, _, hk => by
    by_cases hc : (bestK l ws k).1 < votK l ws (l.getD k 0) l.length ∨ (votK l ws (l.getD k 0) l.length = (bestK l ws k).1 ∧ l.getD k 0 < (bestK l ws k).2)
    · have e : bestK l ws (k + 1) = (votK l ws (l.getD k 0) l.length, l.getD k 0) := by rw [bestK, if_pos hc]
      rw [e]
      refine ⟨⟨k, by omega, rfl⟩, rfl, fun i hi => ?_⟩
      by_cases q : i = k
      · subst q; exact .inr ⟨rfl, Int.le_refl _⟩
      · by_cases k0 : k = 0
        · omega
        · have := (best_spec hw k (by omega) (by omega)).2.2 i (by omega)
          show votK l ws (l.getD i 0) l.length < votK l ws (l.getD k 0) l.length ∨ (votK l ws (l.getD i 0) l.length = votK l ws (l.getD k 0) l.length ∧ l.getD k 0 ≤ l.getD i 0)
          omega
    · have e : bestK l ws (k + 1) = bestK l ws k := by rw [bestK, if_neg hc]
      rw [e]
      by_cases k0 : k = 0
      · subst k0
        have := (vot_pos hw (l.getD 0 0) l.length (Nat.le_refl _)).2 0 (by omega) rfl
        exact absurd (.inl (show (bestK l ws 0).1 < _ by show (0 : Int) < _; omega)) hc
      · obtain ⟨⟨j, h1, h2⟩, h3, h4⟩ := best_spec hw k (by omega) (by omega)
        refine ⟨⟨j, by omega, h2⟩, h3, fun i hi => ?_⟩
        by_cases q : i = k
        · subst q; omega
        · exact h4 i (by omega)
/-- who has most votes, and of equal ones is the least, is the one that is told -/
theorem best_unique {l ws : List Int} (hw : ∀ i, i < l.length → 1 ≤ ws.getD i 0) (h0 : 0 < l.length) {b : Int} (hb : ∃ j, j < l.length ∧ b = l.getD j 0) (hm : ∀ i, i < l.length → votK l ws (l.getD i 0) l.length < votK l ws b l.length ∨ (votK l ws (l.getD i 0) l.length = votK l ws b l.length ∧ b ≤ l.getD i 0)) : (bestK l ws l.length).2 = b := by
  obtain ⟨⟨j, h1, h2⟩, h3, h4⟩ := best_spec hw l.length h0 (Nat.le_refl _)
  obtain ⟨i, h5, h6⟩ := hb
  have a := hm j h1
  have c := h4 i h5
  rw [← h2] at a
  rw [← h6, h3] at c
  omega

/-! ### what is more stays more -/
theorem sum_mono {l m ws : List Int} : ∀ k, (∀ i, i < k → l.getD i 0 ≤ m.getD i 0 ∧ 0 ≤ ws.getD i 0) → sumK l ws k ≤ sumK m ws k
  | 0, _ => Int.le_refl _
  | k + 1, h => by
    have ih := sum_mono (l := l) (m := m) (ws := ws) k fun i hi => h i (by omega)
    obtain ⟨h1, h2⟩ := h k (by omega)
    have := Int.mul_le_mul_of_nonneg_right h1 h2
    unfold sumK
    omega
theorem all_pos {ws : List Int} : ∀ k, (∀ i, i < k → 1 ≤ ws.getD i 0 ∧ ws.getD i 0 ≤ 1000) → (k : Int) ≤ allK ws k ∧ allK ws k ≤ 1000 * k
  | 0, _ => by simp [allK]
  | k + 1, h => by
    have ih := all_pos k fun i hi => h i (by omega)
    have := h k (by omega)
    unfold allK
    omega
theorem sum_bound {l ws : List Int} : ∀ k, (∀ i, i < k → -1000000 ≤ l.getD i 0 ∧ l.getD i 0 ≤ 1000000 ∧ 1 ≤ ws.getD i 0 ∧ ws.getD i 0 ≤ 1000) → -1000000000 * (k : Int) ≤ sumK l ws k ∧ sumK l ws k ≤ 1000000000 * (k : Int)
  | 0, _ => by simp [sumK]
  | k + 1, h => by
    have ih := sum_bound k fun i hi => h i (by omega)
    obtain ⟨h1, h2, h3, h4⟩ := h k (by omega)
    have a : l.getD k 0 * ws.getD k 0 ≤ 1000000 * 1000 := by
      have q1 : l.getD k 0 * ws.getD k 0 ≤ 1000000 * ws.getD k 0 := Int.mul_le_mul_of_nonneg_right h2 (by omega)
      omega
    have b : -1000000 * 1000 ≤ l.getD k 0 * ws.getD k 0 := by
      have q1 : -1000000 * ws.getD k 0 ≤ l.getD k 0 * ws.getD k 0 := Int.mul_le_mul_of_nonneg_right h1 (by omega)
      omega
    unfold sumK
    omega
theorem vot_bound {l ws : List Int} (v : Int) : ∀ k, (∀ i, i < k → 1 ≤ ws.getD i 0 ∧ ws.getD i 0 ≤ 1000) → 0 ≤ votK l ws v k ∧ votK l ws v k ≤ 1000 * k
  | 0, _ => by simp [votK]
  | k + 1, h => by
    have ih := vot_bound (l := l) v k fun i hi => h i (by omega)
    have := h k (by omega)
    unfold votK
    split <;> omega

end Go.Proofs.YtlloiccodjnkcagGreatDoor.M

namespace Go.Proofs.YtlloiccodjnkcagGreatDoor.M
set_option linter.unusedVariables false

/-! ### the leaves' values -/
def lvK (t : List Nd) : Nat → List Int
  | 0 => []
  | k + 1 => if leafB (nAt t k) = true then lvK t k ++ [nv (nAt t k)] else lvK t k
theorem lvK_mem (t : List Nd) : ∀ (k : Nat) (x : Int), x ∈ lvK t k ↔ ∃ j, j < k ∧ leafB (nAt t j) = true ∧ x = nv (nAt t j)
  | 0, x => by simp [lvK]
  | k + 1, x => by
    unfold lvK
    by_cases h : leafB (nAt t k) = true
    · rw [if_pos h, List.mem_append, lvK_mem t k x, List.mem_singleton]
      constructor
      · rintro (⟨j, h1, h2⟩ | rfl)
        · exact ⟨j, by omega, h2⟩
        · exact ⟨k, by omega, h, rfl⟩
      · rintro ⟨j, h1, h2, h3⟩
        by_cases q : j = k
        · subst q; exact .inr h3
        · exact .inl ⟨j, by omega, h2, h3⟩
    · rw [if_neg h, lvK_mem t k x]
      constructor
      · rintro ⟨j, h1, h2⟩
        exact ⟨j, by omega, h2⟩
      · rintro ⟨j, h1, h2, h3⟩
        by_cases q : j = k
        · subst q; exact absurd h2 h
        · exact ⟨j, by omega, h2, h3⟩
theorem lvK_len (t : List Nd) : ∀ k, (lvK t k).length ≤ k
  | 0 => Nat.le_refl _
  | k + 1 => by
    have := lvK_len t k
    unfold lvK
    split
    · simp; omega
    · omega
/-- the least, the greatest of a list -/
def lowL (l : List Int) : Int := (sortI l).getD 0 0
def highL (l : List Int) : Int := (sortI l).getD (l.length - 1) 0
theorem low_mem {l : List Int} (h : 0 < l.length) : lowL l ∈ l := by
  unfold lowL
  rw [getD_at (by rw [sort_length]; exact h)]
  exact (sort_perm l).mem_iff.1 (List.getElem_mem _)
theorem high_mem {l : List Int} (h : 0 < l.length) : highL l ∈ l := by
  unfold highL
  rw [getD_at (by rw [sort_length]; omega)]
  exact (sort_perm l).mem_iff.1 (List.getElem_mem _)
theorem low_le {l : List Int} {x : Int} (hx : x ∈ l) : lowL l ≤ x := by
  have hx' := (sort_perm l).mem_iff.2 hx
  obtain ⟨i, hi, rfl⟩ := List.getElem_of_mem hx'
  unfold lowL
  rw [getD_at (by omega)]
  rcases Nat.eq_zero_or_pos i with h | h
  · subst h; exact Int.le_refl _
  · exact List.pairwise_iff_getElem.1 (sort_pw l) 0 i (by omega) hi h
theorem high_ge {l : List Int} {x : Int} (hx : x ∈ l) : x ≤ highL l := by
  have hx' := (sort_perm l).mem_iff.2 hx
  obtain ⟨i, hi, rfl⟩ := List.getElem_of_mem hx'
  have hl : (sortI l).length = l.length := sort_length l
  unfold highL
  rw [getD_at (by omega)]
  by_cases h : i = l.length - 1
  · subst h; exact Int.le_refl _
  · exact List.pairwise_iff_getElem.1 (sort_pw l) i (l.length - 1) hi (by omega) (by omega)
theorem low_unique {l : List Int} {b : Int} (hb : b ∈ l) (h : ∀ x ∈ l, b ≤ x) : lowL l = b := by
  have h1 := low_le hb
  have h2 := h _ (low_mem (List.length_pos_of_mem hb))
  omega
theorem high_unique {l : List Int} {b : Int} (hb : b ∈ l) (h : ∀ x ∈ l, x ≤ b) : highL l = b := by
  have h1 := high_ge hb
  have h2 := h _ (high_mem (List.length_pos_of_mem hb))
  omega
def lowT (t : List Nd) : Int := lowL (lvK t t.length)
def highT (t : List Nd) : Int := highL (lvK t t.length)
theorem leafV_leaf' {t : List Nd} {r : List Int} (h : readyF t r = 0) : toD t r 0 < t.length ∧ nf (nAt t (toD t r 0)) = -1 := by
  have F := (tree_ok (ready_ok h).2).1
  exact to_end F.2.2.2.2.1 r t.length 0 F.2.1 (by omega)
theorem eval_mem {t : List Nd} {r : List Int} (h : readyF t r = 0) : evalV t r ∈ lvK t t.length := by
  have hl := leafV_leaf' h
  unfold evalV
  rw [if_pos h, lvK_mem]
  refine ⟨toD t r 0, hl.1, ?_, rfl⟩
  unfold leafB
  rw [hl.2]; rfl
theorem eval_between {t : List Nd} {r : List Int} (h : readyF t r = 0) : lowT t ≤ evalV t r ∧ evalV t r ≤ highT t := ⟨low_le (eval_mem h), high_ge (eval_mem h)⟩
theorem lv_in {t : List Nd} {m : Int} (F : Fair t m) : ∀ x ∈ lvK t t.length, -1000000 ≤ x ∧ x ≤ 1000000 := by
  intro x hx
  obtain ⟨j, h1, h2, rfl⟩ := (lvK_mem t _ x).1 hx
  have := F.2.2.2.2.1 j h1
  unfold leafB at h2
  unfold nodeF at this
  rw [if_pos (of_decide_eq_true h2)] at this
  unfold lfF at this
  split at this
  · cases this
  · rename_i hc
    exact out_false (by simpa using hc)
theorem lv_some {t : List Nd} {m : Int} (F : Fair t m) : 0 < (lvK t t.length).length := by
  have hR := F.2.2.2.2.1
  obtain ⟨h1, h2⟩ := to_end hR [] t.length 0 F.2.1 (by omega)
  exact List.length_pos_of_mem ((lvK_mem t _ _).2 ⟨_, h1, by unfold leafB; rw [h2]; rfl, rfl⟩)

/-! ### bounds -/
def between (w : Int) (ws least most : List Int) : Int × Int := if w ≠ 3 then (together w ws least, together w ws most) else (lowL least, highL most)
def boundsV (g : Gv) : Int × Int := if groveF g = 0 then between (gw g) (gs g) ((gt g).map lowT) ((gt g).map highT) else (0, 0)
theorem wt_at {g : Gv} (h : Good g) {i : Nat} (hi : i < (gt g).length) : 1 ≤ (gs g).getD i 0 ∧ (gs g).getD i 0 ≤ 1000 := by
  have hl := h.len
  rw [getD_at (by omega)]
  exact h.wts _ (List.getElem_mem _)
theorem ediv_mono {a b c : Int} (h : a ≤ b) (hc : 0 < c) : a / c ≤ b / c := Int.ediv_le_ediv hc h
theorem eval_bounds {g : Gv} {r : List Int} (h : standF g r = 0) : (boundsV g).1 ≤ evalG g r ∧ evalG g r ≤ (boundsV g).2 := by
  obtain ⟨G, h2, h3⟩ := stand_ok h
  have hE := each_len g r
  have t0 := G.t0
  have bt : ∀ i, i < (gt g).length → ((gt g).map lowT).getD i 0 ≤ (eachL g r).getD i 0 ∧ (eachL g r).getD i 0 ≤ ((gt g).map highT).getD i 0 := by
    intro i hi
    have e1 : ((gt g).map lowT).getD i 0 = lowT (gt g)[i] := by rw [getD_at (by simpa using hi)]; simp
    have e2 : ((gt g).map highT).getD i 0 = highT (gt g)[i] := by rw [getD_at (by simpa using hi)]; simp
    rw [each_at g r hi, e1, e2, getD_at hi]
    exact eval_between (stand_ready h (List.getElem_mem hi))
  have l1 : ((gt g).map lowT).length = (gt g).length := by simp
  have l2 : ((gt g).map highT).length = (gt g).length := by simp
  unfold boundsV evalG
  rw [if_pos ((good_iff g).2 G), if_pos h]
  unfold between
  by_cases hv : gw g = 3
  · rw [if_neg (by simp [hv])]
    unfold together
    rw [if_neg (by omega), if_neg (by omega), hE]
    obtain ⟨⟨j, j1, j2⟩, _, _⟩ := best_spec (l := eachL g r) (ws := gs g) (fun i hi => (wt_at G (by rw [← hE]; exact hi)).1) (gt g).length t0 (by omega)
    rw [j2]
    have b := bt j j1
    constructor
    · refine Int.le_trans (low_le (x := ((gt g).map lowT).getD j 0) ?_) b.1
      rw [getD_at (by omega)]; exact List.getElem_mem _
    · refine Int.le_trans b.2 (high_ge ?_)
      rw [getD_at (by omega)]; exact List.getElem_mem _
  · rw [if_pos hv]
    have m1 := sum_mono (l := (gt g).map lowT) (m := eachL g r) (ws := gs g) (gt g).length fun i hi => ⟨(bt i hi).1, by have := (wt_at G hi).1; omega⟩
    have m2 := sum_mono (l := eachL g r) (m := (gt g).map highT) (ws := gs g) (gt g).length fun i hi => ⟨(bt i hi).2, by have := (wt_at G hi).1; omega⟩
    have ap := (all_pos (ws := gs g) (gt g).length fun i hi => wt_at G hi).1
    unfold together
    rw [l1, l2, hE]
    by_cases h1 : gw g = 1
    · rw [if_pos h1, if_pos h1, if_pos h1]; exact ⟨m1, m2⟩
    · have h2' : gw g = 2 := by have := G.w1; have := G.w3; omega
      rw [if_neg h1, if_neg h1, if_neg h1, if_pos h2', if_pos h2', if_pos h2']
      exact ⟨ediv_mono m1 (by omega), ediv_mono m2 (by omega)⟩
theorem vote_in {g : Gv} {r : List Int} (h : standF g r = 0) (hv : gw g = 3) : ∃ j, j < (eachL g r).length ∧ (eachL g r).getD j 0 = evalG g r := by
  obtain ⟨G, _, _⟩ := stand_ok h
  have hE := each_len g r
  unfold evalG
  rw [if_pos h]
  unfold together
  rw [if_neg (by omega), if_neg (by omega)]
  obtain ⟨⟨j, j1, j2⟩, _, _⟩ := best_spec (l := eachL g r) (ws := gs g) (fun i hi => (wt_at G (by rw [← hE]; exact hi)).1) (eachL g r).length (by have := G.t0; omega) (Nat.le_refl _)
  exact ⟨j, j1, j2.symm⟩

/-! ### two as one -/
def joinF (a b : Gv) : Int := if groveF a ≠ 0 then groveF a else if groveF b ≠ 0 then groveF b else if gf a ≠ gf b ∨ gw a ≠ gw b then 3 else if 12 < (gt a).length + (gt b).length then 4 else 0
def joinG (a b : Gv) : Gv := (gf a, gw a, gs a ++ gs b, gt a ++ gt b)
def joinV (a b : Gv) : Gv := if joinF a b = 0 then joinG a b else (0, 0, [], [])
theorem join_ok {a b : Gv} (h : joinF a b = 0) : Good a ∧ Good b ∧ gf a = gf b ∧ gw a = gw b ∧ (gt a).length + (gt b).length ≤ 12 := by
  unfold joinF at h
  split at h
  · rename_i h1; exact absurd h h1
  · rename_i h1
    split at h
    · rename_i h2; exact absurd h h2
    · rename_i h2
      split at h
      · cases h
      · rename_i h3
        split at h
        · cases h
        · rename_i h4
          exact ⟨(good_iff a).1 (by simpa using h1), (good_iff b).1 (by simpa using h2), by omega, by omega, by omega⟩
theorem join_good {a b : Gv} (h : joinF a b = 0) : Good (joinG a b) := by
  obtain ⟨A, B, e1, e2, e3⟩ := join_ok h
  refine ⟨A.f0, A.f8, A.w1, A.w3, ?_, ?_, ?_, ?_, ?_⟩
  · show 0 < (gt a ++ gt b).length; rw [List.length_append]; have := A.t0; omega
  · show (gt a ++ gt b).length ≤ 12; rw [List.length_append]; exact e3
  · show (gs a ++ gs b).length = (gt a ++ gt b).length; rw [List.length_append, List.length_append, A.len, B.len]
  · intro w hw
    rcases List.mem_append.1 hw with q | q
    · exact A.wts w q
    · exact B.wts w q
  · intro t ht
    rcases List.mem_append.1 ht with q | q
    · exact A.trees t q
    · show (treeF t (gf a)).2 = 0
      rw [e1]; exact B.trees t q
theorem getD_left {l m : List Int} {i : Nat} (h : i < l.length) : (l ++ m).getD i 0 = l.getD i 0 := by
  rw [getD_at (by simp; omega), getD_at h, List.getElem_append_left h]
theorem getD_right {l m : List Int} {n i : Nat} (hn : l.length = n) : (l ++ m).getD (n + i) 0 = m.getD i 0 := by
  subst hn
  simp [List.getD, List.getElem?_append_right]
theorem sum_app {l m ws vs : List Int} {n : Nat} (hl : l.length = n) (hw : ws.length = n) : ∀ k, sumK (l ++ m) (ws ++ vs) (n + k) = sumK l ws n + sumK m vs k
  | 0 => by
    have : ∀ j, j ≤ n → sumK (l ++ m) (ws ++ vs) j = sumK l ws j := by
      intro j
      induction j with
      | zero => intro _; rfl
      | succ j ih =>
        intro hj
        rw [sumK, sumK, ih (by omega), getD_left (by omega), getD_left (by omega)]
    show sumK (l ++ m) (ws ++ vs) n = sumK l ws n + 0
    rw [this n (Nat.le_refl _)]; omega
  | k + 1 => by
    show sumK (l ++ m) (ws ++ vs) (n + k) + (l ++ m).getD (n + k) 0 * (ws ++ vs).getD (n + k) 0 = _
    rw [sum_app hl hw k, getD_right hl, getD_right hw, sumK]
    omega
theorem all_app {ws vs : List Int} {n : Nat} (hw : ws.length = n) : ∀ k, allK (ws ++ vs) (n + k) = allK ws n + allK vs k
  | 0 => by
    have : ∀ j, j ≤ n → allK (ws ++ vs) j = allK ws j := by
      intro j
      induction j with
      | zero => intro _; rfl
      | succ j ih =>
        intro hj
        rw [allK, allK, ih (by omega), getD_left (by omega)]
    show allK (ws ++ vs) n = allK ws n + 0
    rw [this n (Nat.le_refl _)]; omega
  | k + 1 => by
    show allK (ws ++ vs) (n + k) + (ws ++ vs).getD (n + k) 0 = _
    rw [all_app hw k, getD_right hw, allK]
    omega
theorem vot_app {l m ws vs : List Int} {n : Nat} (hl : l.length = n) (hw : ws.length = n) (v : Int) : ∀ k, votK (l ++ m) (ws ++ vs) v (n + k) = votK l ws v n + votK m vs v k
  | 0 => by
    have : ∀ j, j ≤ n → votK (l ++ m) (ws ++ vs) v j = votK l ws v j := by
      intro j
      induction j with
      | zero => intro _; rfl
      | succ j ih =>
        intro hj
        rw [votK, votK, ih (by omega), getD_left (by omega), getD_left (by omega)]
    show votK (l ++ m) (ws ++ vs) v n = votK l ws v n + 0
    rw [this n (Nat.le_refl _)]; omega
  | k + 1 => by
    show (votK (l ++ m) (ws ++ vs) v (n + k) + if (l ++ m).getD (n + k) 0 = v then (ws ++ vs).getD (n + k) 0 else 0) = _
    rw [vot_app hl hw v k, getD_right hl, getD_right hw, votK]
    omega
theorem each_app (a b : Gv) (r : List Int) : eachL (joinG a b) r = eachL a r ++ eachL b r := by
  unfold eachL joinG
  show List.map _ (gt a ++ gt b) = _
  rw [List.map_append]
theorem join_stand {a b : Gv} {r : List Int} (h : joinF a b = 0) (hs : standF a r = 0) : standF b r = 0 ∧ standF (joinG a b) r = 0 := by
  obtain ⟨A, B, e1, e2, e3⟩ := join_ok h
  obtain ⟨_, h2, h3⟩ := stand_ok hs
  exact ⟨stand_of B h2 (by rw [← e1]; exact h3), stand_of (join_good h) h2 h3⟩
theorem join_sum {a b : Gv} {r : List Int} (h : joinF a b = 0) (hs : standF a r = 0) (hw : gw a = 1) : evalG (joinG a b) r = evalG a r + evalG b r := by
  obtain ⟨A, B, e1, e2, e3⟩ := join_ok h
  obtain ⟨s1, s2⟩ := join_stand h hs
  unfold evalG
  rw [if_pos s2, if_pos hs, if_pos s1]
  unfold together
  rw [if_pos (show gw (joinG a b) = 1 from hw), if_pos hw, if_pos (by rw [← e2]; exact hw), each_app, List.length_append]
  exact sum_app rfl (by rw [each_len]; exact A.len) _
theorem twice {g : Gv} {r : List Int} (h : joinF g g = 0) (hs : standF g r = 0) : evalG (joinG g g) r = if gw g = 1 then 2 * evalG g r else evalG g r := by
  obtain ⟨A, _, _, _, _⟩ := join_ok h
  obtain ⟨_, s2⟩ := join_stand h hs
  by_cases h1 : gw g = 1
  · rw [if_pos h1, join_sum h hs h1]; omega
  · rw [if_neg h1]
    have hE := each_len g r
    have hl : (gs g).length = (eachL g r).length := by rw [hE]; exact A.len
    unfold evalG
    rw [if_pos s2, if_pos hs]
    unfold together
    have ew : gw (joinG g g) = gw g := rfl
    have es : gs (joinG g g) = gs g ++ gs g := rfl
    rw [ew, es, if_neg h1, if_neg h1, each_app, List.length_append]
    by_cases h2 : gw g = 2
    · rw [if_pos h2, if_pos h2, sum_app rfl hl, all_app hl]
      have ap := (all_pos (ws := gs g) (eachL g r).length fun i hi => wt_at A (by rw [← hE]; exact hi)).1
      have a0 : 0 < (eachL g r).length := by rw [hE]; exact A.t0
      rw [show sumK (eachL g r) (gs g) (eachL g r).length + sumK (eachL g r) (gs g) (eachL g r).length = 2 * sumK (eachL g r) (gs g) (eachL g r).length by omega,
        show allK (gs g) (eachL g r).length + allK (gs g) (eachL g r).length = 2 * allK (gs g) (eachL g r).length by omega]
      exact Int.mul_ediv_mul_of_pos _ _ (by omega)
    · rw [if_neg h2, if_neg h2]
      have w1 : ∀ i, i < (eachL g r).length → 1 ≤ (gs g).getD i 0 := fun i hi => (wt_at A (by rw [← hE]; exact hi)).1
      have a0 : 0 < (eachL g r).length := by rw [hE]; exact A.t0
      obtain ⟨⟨j, j1, j2⟩, j3, j4⟩ := best_spec w1 (eachL g r).length a0 (Nat.le_refl _)
      have key : ∀ i, i < (eachL g r).length + (eachL g r).length → ∃ i', i' < (eachL g r).length ∧ (eachL g r ++ eachL g r).getD i 0 = (eachL g r).getD i' 0 := by
        intro i hi
        by_cases q : i < (eachL g r).length
        · exact ⟨i, q, getD_left q⟩
        · refine ⟨i - (eachL g r).length, by omega, ?_⟩
          have := getD_right (l := eachL g r) (m := eachL g r) (i := i - (eachL g r).length) rfl
          rwa [show (eachL g r).length + (i - (eachL g r).length) = i by omega] at this
      have vt : ∀ v, votK (eachL g r ++ eachL g r) (gs g ++ gs g) v ((eachL g r).length + (eachL g r).length) = 2 * votK (eachL g r) (gs g) v (eachL g r).length := by
        intro v
        rw [vot_app rfl hl v]; omega
      have := best_unique (l := eachL g r ++ eachL g r) (ws := gs g ++ gs g) (b := (bestK (eachL g r) (gs g) (eachL g r).length).2)
        (fun i hi => by
          rw [List.length_append] at hi
          by_cases q : i < (eachL g r).length
          · rw [getD_left (by omega)]; exact w1 i q
          · have e := getD_right (l := gs g) (m := gs g) (i := i - (eachL g r).length) hl
            rw [show (eachL g r).length + (i - (eachL g r).length) = i by omega] at e
            rw [e]; exact w1 _ (by omega))
        (by rw [List.length_append]; omega)
        ⟨j, by rw [List.length_append]; omega, by rw [getD_left j1]; exact j2⟩
        (fun i hi => by
          rw [List.length_append] at hi ⊢
          obtain ⟨i', q1, q2⟩ := key i hi
          rw [q2, vt, vt, ← j3]
          have := j4 i' q1
          omega)
      rw [List.length_append] at this
      exact this

theorem join_self {g : Gv} (h : Good g) : joinF g g = 0 ∨ (joinF g g = 4 ∧ 12 < 2 * (gt g).length) := by
  unfold joinF
  rw [if_neg (by simp [(good_iff g).2 h]), if_neg (by simp [(good_iff g).2 h]), if_neg (by simp)]
  by_cases q : 12 < (gt g).length + (gt g).length
  · rw [if_pos q]; exact .inr ⟨rfl, by omega⟩
  · rw [if_neg q]; exact .inl rfl
theorem each_in {g : Gv} {r : List Int} (h : standF g r = 0) {i : Nat} (hi : i < (gt g).length) : -1000000 ≤ (eachL g r).getD i 0 ∧ (eachL g r).getD i 0 ≤ 1000000 := by
  rw [each_at g r hi, getD_at hi]
  have hr := stand_ready h (List.getElem_mem hi)
  exact lv_in (tree_ok (ready_ok hr).2).1 _ (eval_mem hr)
theorem eval_range {g : Gv} {r : List Int} (h : standF g r = 0) (hw : gw g = 1) : -12000000000 ≤ evalG g r ∧ evalG g r ≤ 12000000000 := by
  obtain ⟨G, _, _⟩ := stand_ok h
  unfold evalG
  rw [if_pos h]
  unfold together
  rw [if_pos hw, each_len]
  have := sum_bound (l := eachL g r) (ws := gs g) (gt g).length fun i hi => ⟨(each_in h hi).1, (each_in h hi).2, (wt_at G hi).1, (wt_at G hi).2⟩
  have := G.t12
  omega
def one7 : Gv := (0, 3, [1], [[(-1, 0, 0, 0, false, 7)]])
theorem one7_stand : standF one7 [] = 0 := by decide +kernel
theorem one7_each : eachV one7 [] = [7] := by decide +kernel
def two7 : Gv := (0, 2, [1, 3], [[(-1, 0, 0, 0, false, 7)], [(-1, 0, 0, 0, false, 7)]])
theorem two7_stand : standF two7 [] = 0 := by decide +kernel
theorem two7_eval : evalG two7 [] = 7 := by decide +kernel

end Go.Proofs.YtlloiccodjnkcagGreatDoor.M

namespace Go.Proofs.YtlloiccodjnkcagGreatDoor.M
set_option linter.unusedVariables false

/-! ### values turned -/
def scB (f : Int → Int) : BT → BT
  | .lf v => .lf (f v)
  | .nd a c s l r => .nd a c s (scB f l) (scB f r)
theorem sc_size (f : Int → Int) : ∀ T : BT, (scB f T).size = T.size
  | .lf _ => rfl
  | .nd _ _ _ l r => by unfold scB BT.size; rw [sc_size f l, sc_size f r]
theorem sc_deep (f : Int → Int) : ∀ T : BT, (scB f T).deep = T.deep
  | .lf _ => rfl
  | .nd _ _ _ l r => by unfold scB BT.deep; rw [sc_deep f l, sc_deep f r]
theorem sc_ev (f : Int → Int) (x : List Int) : ∀ T : BT, evB (scB f T) x = f (evB T x)
  | .lf _ => rfl
  | .nd a c s l r => by
    have h1 := sc_ev f x l
    have h2 := sc_ev f x r
    show (if goes a c s x = true then evB (scB f l) x else evB (scB f r) x) = f (if goes a c s x = true then evB l x else evB r x)
    split
    · exact h1
    · exact h2
def inV (B : Int) : BT → Prop
  | .lf v => -B ≤ v ∧ v ≤ B
  | .nd _ _ _ l r => inV B l ∧ inV B r
theorem sc_ok {f : Int → Int} {B m : Int} (hf : ∀ v, -B ≤ v → v ≤ B → outI (f v) = false) : ∀ T : BT, okB m T → inV B T → okB m (scB f T)
  | .lf v, _, h => hf v h.1 h.2
  | .nd a c s l r, h, k => ⟨h.1, h.2.1, h.2.2.1, sc_ok hf l h.2.2.2.1 k.1, sc_ok hf r h.2.2.2.2 k.2⟩
theorem sc_in {f : Int → Int} {B C : Int} (hf : ∀ v, -B ≤ v → v ≤ B → -C ≤ f v ∧ f v ≤ C) : ∀ T : BT, inV B T → inV C (scB f T)
  | .lf v, h => hf v h.1 h.2
  | .nd a c s l r, k => ⟨sc_in hf l k.1, sc_in hf r k.2⟩
theorem in_ev {B : Int} (x : List Int) : ∀ T : BT, inV B T → -B ≤ evB T x ∧ evB T x ≤ B
  | .lf v, h => h
  | .nd a c s l r, h => by
    have h1 := in_ev x l h.1
    have h2 := in_ev x r h.2
    show -B ≤ (if goes a c s x = true then evB l x else evB r x) ∧ (if goes a c s x = true then evB l x else evB r x) ≤ B
    split
    · exact h1
    · exact h2
theorem grow_in {m : Nat} {least : Int} (h1 : 1 ≤ least) : ∀ (d : Nat) {l : List Sa}, GoodS l m → 0 < l.length → inV 1000 (growT m least d l)
  | 0, l, h, hl => mean_in h hl
  | d + 1, l, h, hl => by
    unfold growT
    split
    · rename_i q
      obtain ⟨s1, ⟨i, hi, e⟩, s3, s4, _⟩ := grow_sides h1 hl q
      have n1 : 0 < (partS l (spV l m least).2.2.1 (spV l m least).2.2.2.1 true).length := by unfold nB at s3; omega
      have n2 : 0 < (partS l (spV l m least).2.2.1 (spV l m least).2.2.2.1 false).length := by unfold nB at s4; omega
      exact ⟨grow_in h1 d (h.part _ _ _) n1, grow_in h1 d (h.part _ _ _) n2⟩
    · exact mean_in h hl
def scN (f : Int → Int) (n : Nd) : Nd := (nf n, nc n, nl n, nr n, ns n, f (nv n))
theorem sc_lay {f : Int → Int} (h0 : f 0 = 0) : ∀ (T : BT) (k : Nat), lay (scB f T) k = (lay T k).map (scN f)
  | .lf v, k => rfl
  | .nd a c s l r, k => by
    show (a, c, ((k + 1 : Nat) : Int), ((k + 1 + (scB f l).size : Nat) : Int), s, 0) :: (lay (scB f l) (k + 1) ++ lay (scB f r) (k + 1 + (scB f l).size)) = ((a, c, ((k + 1 : Nat) : Int), ((k + 1 + l.size : Nat) : Int), s, 0) :: (lay l (k + 1) ++ lay r (k + 1 + l.size))).map (scN f)
    rw [sc_size, sc_lay h0 l, sc_lay h0 r, List.map_cons, List.map_append]
    congr 1
    show _ = (a, c, ((k + 1 : Nat) : Int), ((k + 1 + l.size : Nat) : Int), s, f 0)
    rw [h0]

/-! ### rounds -/
/-- made fit to what a target may be -/
def fitT (x : Int) : Int := if 1000 < x then 1000 else if x < -1000 then -1000 else x
theorem fit_in (x : Int) : -1000 ≤ fitT x ∧ fitT x ≤ 1000 := by unfold fitT; split <;> (try split) <;> omega
/-- samples with what is left of them -/
def lesS : List Sa → List Int → List Sa
  | s :: l, x :: r => (s.1, fitT x) :: lesS l r
  | _, _ => []
theorem les_len : ∀ (l : List Sa) (r : List Int), r.length = l.length → (lesS l r).length = l.length
  | [], [], _ => rfl
  | s :: l, x :: r, h => by
    show (lesS l r).length + 1 = l.length + 1
    rw [les_len l r (by simpa using h)]
  | [], _ :: _, h => by simp at h
  | _ :: _, [], h => by simp at h
theorem les_mem : ∀ (l : List Sa) (r : List Int) (s : Sa), s ∈ lesS l r → -1000 ≤ s.2 ∧ s.2 ≤ 1000 ∧ ∃ u ∈ l, s.1 = u.1
  | [], r, s, h => by unfold lesS at h; cases h
  | u :: l, [], s, h => by unfold lesS at h; cases h
  | u :: l, x :: r, s, h => by
    rcases List.mem_cons.1 h with rfl | h
    · exact ⟨(fit_in x).1, (fit_in x).2, u, List.mem_cons_self .., rfl⟩
    · obtain ⟨h1, h2, v, hv, e⟩ := les_mem l r s h
      exact ⟨h1, h2, v, List.mem_cons_of_mem _ hv, e⟩
theorem les_good {l : List Sa} {m : Nat} {r : List Int} (h : GoodS l m) (hr : r.length = l.length) : GoodS (lesS l r) m :=
  ⟨by rw [les_len l r hr]; exact h.le, h.m8, fun s hs => by
    obtain ⟨h1, h2, u, hu, e⟩ := les_mem l r s hs
    obtain ⟨z1, z2, z3, z4⟩ := h.each u hu
    rw [e]
    exact ⟨z1, z2, ⟨h1, h2⟩, z4⟩⟩
/-- so many hundredths, rounded towards 0 -/
def shrV (share v : Int) : Int := (v * share).tdiv 100
theorem shr_zero (share : Int) : shrV share 0 = 0 := by unfold shrV; simp
theorem shr_in {share : Int} (h1 : 1 ≤ share) (h2 : share ≤ 100) (v : Int) (a : -1000 ≤ v) (b : v ≤ 1000) : -1000 ≤ shrV share v ∧ shrV share v ≤ 1000 := by
  unfold shrV
  have e1 : v * share ≤ 1000 * share := Int.mul_le_mul_of_nonneg_right b (by omega)
  have e2 : -1000 * share ≤ v * share := Int.mul_le_mul_of_nonneg_right a (by omega)
  have c1 : v * share ≤ 100000 := by omega
  have c2 : -100000 ≤ v * share := by omega
  generalize v * share = x at *
  by_cases hx : 0 ≤ x
  · rw [Int.tdiv_eq_ediv_of_nonneg hx]; omega
  · have : x.tdiv 100 = -((-x) / 100) := by
      rw [← Int.tdiv_eq_ediv_of_nonneg (a := -x) (by omega), Int.neg_tdiv, Int.neg_neg]
    rw [this]; omega
def lessL (T : BT) : List Sa → List Int → List Int
  | s :: l, x :: r => (x - evB T s.1) :: lessL T l r
  | _, _ => []
theorem less_len (T : BT) : ∀ (l : List Sa) (r : List Int), r.length = l.length → (lessL T l r).length = l.length
  | [], [], _ => rfl
  | s :: l, x :: r, h => by
    show (lessL T l r).length + 1 = l.length + 1
    rw [less_len T l r (by simpa using h)]
  | [], _ :: _, h => by simp at h
  | _ :: _, [], h => by simp at h
theorem less_at (T : BT) : ∀ (l : List Sa) (r : List Int), r.length = l.length → ∀ i, i < l.length → (lessL T l r).getD i 0 = r.getD i 0 - evB T (sAt l i).1
  | [], [], _, i, hi => by simp at hi
  | s :: l, x :: r, h, 0, hi => rfl
  | s :: l, x :: r, h, i + 1, hi => less_at T l r (by simpa using h) i (by simpa using hi)
  | [], _ :: _, h, i, hi => by simp at h
  | _ :: _, [], h, i, hi => by simp at h
def sqs : List Int → Int
  | [] => 0
  | x :: r => x * x + sqs r
/-- trees so far, what is left, whether it has ended -/
abbrev BoS := List BT × List Int × Bool
def boT (m dp : Nat) (share : Int) (l : List Sa) (r : List Int) : BT := scB (shrV share) (growT m 1 dp (lesS l r))
def boN (m dp : Nat) (share : Int) (l : List Sa) (st : BoS) : BoS :=
  if st.2.2 = true then st else if sqs st.2.1 ≤ sqs (lessL (boT m dp share l st.2.1) l st.2.1) then (st.1, st.2.1, true) else (st.1 ++ [boT m dp share l st.2.1], lessL (boT m dp share l st.2.1) l st.2.1, false)
def bo0 (l : List Sa) : BoS := ([.lf (meanS l)], l.map (fun s => s.2 - meanS l), false)
def boR (m dp : Nat) (share : Int) (l : List Sa) : Nat → BoS
  | 0 => bo0 l
  | k + 1 => boN m dp share l (boR m dp share l k)
/-- what all trees so far tell together -/
def allB : List BT → List Int → Int
  | [], _ => 0
  | T :: L, x => evB T x + allB L x
theorem allB_app : ∀ (A B : List BT) (x : List Int), allB (A ++ B) x = allB A x + allB B x
  | [], B, x => by show allB B x = 0 + allB B x; omega
  | T :: A, B, x => by
    show evB T x + allB (A ++ B) x = evB T x + allB A x + allB B x
    rw [allB_app A B x]; omega
structure BoI (m dp : Nat) (l : List Sa) (k : Nat) (st : BoS) : Prop where
  t0 : 0 < st.1.length
  tk : st.1.length ≤ k + 1
  each : ∀ T ∈ st.1, okB (m : Int) T ∧ inV 1000 T ∧ T.deep ≤ dp ∧ T.size + 1 ≤ 2 ^ (dp + 1)
  len : st.2.1.length = l.length
  rest : ∀ i, i < l.length → st.2.1.getD i 0 = (sAt l i).2 - allB st.1 (sAt l i).1
theorem pow_one (dp : Nat) : 2 ≤ 2 ^ (dp + 1) := by
  have := Nat.one_le_two_pow (n := dp)
  rw [Nat.pow_succ]; omega
theorem bo_first {m dp : Nat} {l : List Sa} (h : GoodS l m) (hl : 0 < l.length) : BoI m dp l 0 (bo0 l) := by
  have mi := mean_in h hl
  refine ⟨Nat.one_pos, Nat.le_refl _, fun T hT => ?_, by unfold bo0; simp, fun i hi => ?_⟩
  · have : T = .lf (meanS l) := by unfold bo0 at hT; simpa using hT
    subst this
    exact ⟨out_in (by omega) (by omega), mi, Nat.zero_le _, pow_one dp⟩
  · show (l.map (fun s => s.2 - meanS l)).getD i 0 = (sAt l i).2 - (meanS l + 0)
    unfold sAt
    rw [getD_at (by simpa using hi), getD_at hi, List.getElem_map]; omega
theorem bo_next {m dp k : Nat} {share : Int} {l : List Sa} {st : BoS} (h : GoodS l m) (hl : 0 < l.length) (s1 : 1 ≤ share) (s2 : share ≤ 100) (I : BoI m dp l k st) : BoI m dp l (k + 1) (boN m dp share l st) := by
  unfold boN
  have up : BoI m dp l (k + 1) st := ⟨I.t0, by have := I.tk; omega, I.each, I.len, I.rest⟩
  split
  · exact up
  · split
    · exact ⟨up.t0, up.tk, up.each, up.len, up.rest⟩
    · have G := les_good h I.len
      have ll : 0 < (lesS l st.2.1).length := by rw [les_len l _ I.len]; exact hl
      have gi := grow_in (m := m) (least := 1) (Int.le_refl _) dp G ll
      have go := grow_ok (m := m) (least := 1) (Int.le_refl _) dp G ll
      have gd := grow_deep m 1 dp (lesS l st.2.1)
      have bi : inV 1000 (boT m dp share l st.2.1) := sc_in (fun v a b => shr_in s1 s2 v a b) _ gi
      refine ⟨by simp, by simp; have := I.tk; omega, fun T hT => ?_, less_len _ l _ I.len, fun i hi => ?_⟩
      · rcases List.mem_append.1 hT with q | q
        · exact I.each T q
        · have : T = boT m dp share l st.2.1 := by simpa using q
          subst this
          refine ⟨sc_ok (fun v a b => ?_) _ go gi, bi, ?_, ?_⟩
          · have := shr_in s1 s2 v a b
            exact out_in (by omega) (by omega)
          · unfold boT; rw [sc_deep]; exact gd.1
          · unfold boT; rw [sc_size]; exact gd.2
      · rw [less_at _ l _ I.len i hi, I.rest i hi, allB_app]
        show _ = _ - (allB st.1 _ + (evB (boT m dp share l st.2.1) _ + 0))
        omega
theorem bo_all {m dp : Nat} {share : Int} {l : List Sa} (h : GoodS l m) (hl : 0 < l.length) (s1 : 1 ≤ share) (s2 : share ≤ 100) : ∀ k, BoI m dp l k (boR m dp share l k)
  | 0 => bo_first h hl
  | k + 1 => bo_next h hl s1 s2 (bo_all h hl s1 s2 k)
/-- a round more: one tree more, and less is left; or all stays -/
theorem bo_step (m dp : Nat) (share : Int) (l : List Sa) (k : Nat) : ((boR m dp share l (k + 1)).1 = (boR m dp share l k).1 ∧ (boR m dp share l (k + 1)).2.1 = (boR m dp share l k).2.1) ∨ (∃ T, (boR m dp share l (k + 1)).1 = (boR m dp share l k).1 ++ [T]) ∧ sqs (boR m dp share l (k + 1)).2.1 < sqs (boR m dp share l k).2.1 := by
  show ((boN m dp share l (boR m dp share l k)).1 = _ ∧ (boN m dp share l (boR m dp share l k)).2.1 = _) ∨ (∃ T, (boN m dp share l (boR m dp share l k)).1 = _) ∧ sqs (boN m dp share l (boR m dp share l k)).2.1 < _
  unfold boN
  split
  · exact .inl ⟨rfl, rfl⟩
  · split
    · exact .inl ⟨rfl, rfl⟩
    · rename_i q
      exact .inr ⟨⟨_, rfl⟩, Int.not_le.1 q⟩

end Go.Proofs.YtlloiccodjnkcagGreatDoor.M

namespace Go.Proofs.YtlloiccodjnkcagGreatDoor.M
set_option linter.unusedVariables false

def tmN (n : Nat) (v : Int) : Int := v * (n : Int)
theorem tm_zero (n : Nat) : tmN n 0 = 0 := by unfold tmN; simp
theorem tm_in {n : Nat} (hn : n ≤ 9) (v : Int) (a : -1000 ≤ v) (b : v ≤ 1000) : -9000 ≤ tmN n v ∧ tmN n v ≤ 9000 := by
  unfold tmN
  have e1 : v * (n : Int) ≤ 1000 * (n : Int) := Int.mul_le_mul_of_nonneg_right b (Int.natCast_nonneg n)
  have e2 : -1000 * (n : Int) ≤ v * (n : Int) := Int.mul_le_mul_of_nonneg_right a (Int.natCast_nonneg n)
  omega
/-- a tree of the grove -/
def boL (n : Nat) (T : BT) : List Nd := lay (scB (tmN n) T) 0
def boG (m : Int) (L : List BT) : Gv := (m, 2, List.replicate L.length 1, L.map (boL L.length))
structure BoL (m : Int) (L : List BT) : Prop where
  m0 : 0 ≤ m
  m8 : m ≤ 8
  t0 : 0 < L.length
  t9 : L.length ≤ 9
  each : ∀ T ∈ L, okB m T ∧ inV 1000 T ∧ T.deep ≤ 4 ∧ T.size ≤ 31
theorem boL_tree {m : Int} {L : List BT} (h : BoL m L) {T : BT} (hT : T ∈ L) : (treeF (boL L.length T) m).2 = 0 ∧ okB m (scB (tmN L.length) T) := by
  obtain ⟨h1, h2, h3, h4⟩ := h.each T hT
  have ok : okB m (scB (tmN L.length) T) := sc_ok (fun v a b => by have := tm_in h.t9 v a b; exact out_in (by omega) (by omega)) T h1 h2
  exact ⟨lay_tree ok h.m0 h.m8 (by rw [sc_size]; omega) (by rw [sc_deep]; omega), ok⟩
theorem boG_good {m : Int} {L : List BT} (h : BoL m L) : Good (boG m L) := by
  refine ⟨h.m0, h.m8, by show (1 : Int) ≤ 2; decide, by show (2 : Int) ≤ 3; decide, ?_, ?_, ?_, ?_, ?_⟩
  · show 0 < (L.map _).length; rw [List.length_map]; exact h.t0
  · show (L.map _).length ≤ 12; rw [List.length_map]; have := h.t9; omega
  · show (List.replicate L.length (1 : Int)).length = (L.map _).length; rw [List.length_map, List.length_replicate]
  · intro w hw
    have : w = 1 := (List.mem_replicate.1 (show w ∈ List.replicate L.length (1 : Int) from hw)).2
    omega
  · intro t ht
    obtain ⟨T, hT, rfl⟩ := List.mem_map.1 (show t ∈ L.map (boL L.length) from ht)
    exact (boL_tree h hT).1
theorem sumK_ones {l : List Int} {n : Nat} : ∀ k, k ≤ l.length → k ≤ n → sumK l (List.replicate n 1) k = (l.take k).sum
  | 0, _, _ => by simp [sumK]
  | k + 1, h, hn => by
    have ih := sumK_ones (l := l) (n := n) k (by omega) (by omega)
    unfold sumK
    rw [ih, getD_at (show k < (List.replicate n (1 : Int)).length by rw [List.length_replicate]; omega), List.getElem_replicate, getD_at (by omega), List.take_succ_eq_append_getElem (by omega), List.sum_append]
    simp
theorem allK_ones {n : Nat} : ∀ k, k ≤ n → allK (List.replicate n 1) k = (k : Nat)
  | 0, _ => rfl
  | k + 1, hn => by
    have ih := allK_ones (n := n) k (by omega)
    unfold allK
    rw [ih, getD_at (show k < (List.replicate n (1 : Int)).length by rw [List.length_replicate]; omega), List.getElem_replicate]
    omega
theorem sum_tm (n : Nat) (x : List Int) : ∀ L : List BT, (L.map (fun T => tmN n (evB T x))).sum = allB L x * (n : Int)
  | [] => by show (0 : Int) = 0 * _; simp
  | T :: L => by
    have ih := sum_tm n x L
    show tmN n (evB T x) + (L.map _).sum = (evB T x + allB L x) * (n : Int)
    rw [ih, Int.add_mul]; rfl
/-- the grove tells of a row what its trees tell together -/
theorem boG_eval {m : Int} {L : List BT} (h : BoL m L) {x : List Int} (hx : rowF x = 0) (hm : (x.length : Int) = m) : evalG (boG m L) x = allB L x := by
  have hs : standF (boG m L) x = 0 := stand_of (boG_good h) hx hm
  have he : eachL (boG m L) x = L.map (fun T => tmN L.length (evB T x)) := by
    show (L.map (boL L.length)).map (fun t => evalV t x) = _
    rw [List.map_map]
    refine List.map_congr_left (fun T hT => ?_)
    obtain ⟨t1, t2⟩ := boL_tree h hT
    rw [← hm] at t1 t2
    have := (lay_eval t2 t1 hx).2
    show evalV (lay (scB (tmN L.length) T) 0) x = _
    rw [this, sc_ev]
  unfold evalG
  rw [if_pos hs, he]
  show together 2 (List.replicate L.length 1) _ = _
  unfold together
  rw [if_neg (by decide), if_pos rfl, List.length_map, sumK_ones _ (by rw [List.length_map]; exact Nat.le_refl _) (Nat.le_refl _), allK_ones _ (Nat.le_refl _), List.take_of_length_le (by rw [List.length_map]; exact Nat.le_refl _), sum_tm]
  have := h.t0
  exact Int.mul_ediv_cancel _ (by omega)

/-! ### numbers that have an end -/
def sqF (r : List Int) : Int := totalI (r.map fun x => mulI x x)
theorem mulI_sq {x : Int} (h1 : -1000000 ≤ x) (h2 : x ≤ 1000000) : mulI x x = x * x ∧ 0 ≤ x * x ∧ x * x ≤ 1000000000000 := by
  have e := Int.natAbs_mul_self' x
  have b : x.natAbs ≤ 1000000 := by omega
  have := Nat.mul_le_mul b b
  have e2 : ((x.natAbs * x.natAbs : Nat) : Int) = x * x := by simp
  have q : 0 ≤ x * x ∧ x * x ≤ 1000000000000 := by omega
  refine ⟨?_, q⟩
  unfold mulI
  rw [show fitI x = x from fit_id ⟨by omega, by omega⟩]
  exact fit_id ⟨by omega, by omega⟩
theorem sq_from : ∀ (r : List Int) (s : Int), (∀ x ∈ r, -100000 ≤ x ∧ x ≤ 100000) → 0 ≤ s → s + 10000000000 * (r.length : Int) ≤ 1099511627776 → (r.map fun x => mulI x x).foldl addI s = s + sqs r ∧ 0 ≤ sqs r
  | [], s, _, _, _ => ⟨by show s = s + 0; omega, Int.le_refl _⟩
  | x :: r, s, h, h0, hb => by
    obtain ⟨x1, x2⟩ := h x (List.mem_cons_self ..)
    obtain ⟨m1, m2, m3⟩ := mulI_sq (x := x) (by omega) (by omega)
    have m4 : x * x ≤ 10000000000 := by
      have e := Int.natAbs_mul_self' x
      have b : x.natAbs ≤ 100000 := by omega
      have := Nat.mul_le_mul b b
      have e2 : ((x.natAbs * x.natAbs : Nat) : Int) = x * x := by simp
      omega
    rw [List.length_cons] at hb
    have hp : (0 : Int) ≤ (r.length : Int) := Int.natCast_nonneg _
    have hb' : s + 10000000000 * (r.length : Int) + 10000000000 ≤ 1099511627776 := by
      have : (((r.length + 1 : Nat) : Int)) = (r.length : Int) + 1 := by simp
      omega
    have a1 : addI s (mulI x x) = s + x * x := by
      rw [m1]
      unfold addI
      rw [show fitI s = s from fit_id ⟨by omega, by omega⟩, show fitI (x * x) = x * x from fit_id ⟨by omega, by omega⟩]
      exact fit_id ⟨by omega, by omega⟩
    obtain ⟨i1, i2⟩ := sq_from r (s + x * x) (fun y hy => h y (List.mem_cons_of_mem _ hy)) (by omega) (by omega)
    show ((r.map fun x => mulI x x).foldl addI (addI s (mulI x x))) = s + (x * x + sqs r) ∧ 0 ≤ x * x + sqs r
    rw [a1, i1]
    omega
theorem sqF_in {r : List Int} (h : ∀ x ∈ r, -100000 ≤ x ∧ x ≤ 100000) (hl : r.length ≤ 60) : sqF r = sqs r := by
  have := (sq_from r 0 h (Int.le_refl _) (by omega)).1
  unfold sqF totalI
  rw [this]; omega

/-! ### behind a grove -/
def restF (g : Gv) (l : List Sa) : Int := if groveF g ≠ 0 then groveF g else (samF l (gf g)).2
def restV (g : Gv) (l : List Sa) : List Int := if restF g l = 0 then l.map (fun s => s.2 - evalG g s.1) else []
def wrgG (g : Gv) (l : List Sa) : Int := if restF g l = 0 then sqF (restV g l) else 0
def booF (l : List Sa) (m r d s : Int) : Int := if (samF l m).2 ≠ 0 then (samF l m).2 else if r < 0 ∨ 8 < r ∨ d < 1 ∨ 4 < d ∨ s < 1 ∨ 100 < s then 1 else 0
def booS (l : List Sa) (m r d s : Int) : BoS := boR m.toNat d.toNat s l r.toNat
def booG (l : List Sa) (m r d s : Int) : Gv := if booF l m r d s = 0 then boG m (booS l m r d s).1 else (0, 0, [], [])
theorem boo_ok {l : List Sa} {m r d s : Int} (h : booF l m r d s = 0) : (samF l m).2 = 0 ∧ 0 ≤ r ∧ r ≤ 8 ∧ 1 ≤ d ∧ d ≤ 4 ∧ 1 ≤ s ∧ s ≤ 100 := by
  unfold booF at h
  by_cases c : (samF l m).2 = 0
  · rw [if_neg (by simp [c])] at h
    by_cases k : r < 0 ∨ 8 < r ∨ d < 1 ∨ 4 < d ∨ s < 1 ∨ 100 < s
    · rw [if_pos k] at h; cases h
    · exact ⟨c, by omega, by omega, by omega, by omega, by omega, by omega⟩
  · rw [if_pos c] at h; exact absurd h c
theorem boo_inv {l : List Sa} {m r d s : Int} (h : booF l m r d s = 0) : BoI m.toNat d.toNat l r.toNat (booS l m r d s) ∧ BoL m (booS l m r d s).1 := by
  obtain ⟨h1, r0, r8, d1, d4, s1, s2⟩ := boo_ok h
  obtain ⟨G, hl, hm, _⟩ := sam_ok h1
  have I := bo_all (m := m.toNat) (dp := d.toNat) (share := s) G hl s1 s2 r.toNat
  refine ⟨I, ⟨by omega, by have := G.m8; omega, I.t0, by have := I.tk; unfold booS; omega, fun T hT => ?_⟩⟩
  obtain ⟨e1, e2, e3, e4⟩ := I.each T hT
  rw [hm] at e1
  have d4' : d.toNat ≤ 4 := by omega
  have p : 2 ^ (d.toNat + 1) ≤ 2 ^ (4 + 1) := Nat.pow_le_pow_right (by omega) (by omega)
  exact ⟨e1, e2, by omega, by omega⟩
theorem allB_in {x : List Int} : ∀ {L : List BT}, (∀ T ∈ L, inV 1000 T) → -1000 * (L.length : Int) ≤ allB L x ∧ allB L x ≤ 1000 * (L.length : Int)
  | [], _ => by show _ ≤ (0 : Int) ∧ (0 : Int) ≤ _; simp
  | T :: L, h => by
    have ih := allB_in (x := x) (L := L) fun U hU => h U (List.mem_cons_of_mem _ hU)
    have := in_ev x T (h T (List.mem_cons_self ..))
    show _ ≤ evB T x + allB L x ∧ evB T x + allB L x ≤ _
    rw [List.length_cons]
    omega
/-- what is left behind the grove is what was left behind its trees -/
theorem boo_rest {l : List Sa} {m r d s : Int} (h : booF l m r d s = 0) : restF (booG l m r d s) l = 0 ∧ restV (booG l m r d s) l = (booS l m r d s).2.1 ∧ wrgG (booG l m r d s) l = sqs (booS l m r d s).2.1 ∧ groveF (booG l m r d s) = 0 := by
  obtain ⟨h1, r0, r8, d1, d4, s1, s2⟩ := boo_ok h
  obtain ⟨G, hl, hm, _⟩ := sam_ok h1
  obtain ⟨I, B⟩ := boo_inv h
  have eg : booG l m r d s = boG m (booS l m r d s).1 := by unfold booG; rw [if_pos h]
  have gz : groveF (booG l m r d s) = 0 := by rw [eg]; exact (good_iff _).2 (boG_good B)
  have f0 : restF (booG l m r d s) l = 0 := by
    unfold restF
    rw [if_neg (by simp [gz]), eg]
    exact h1
  have rv : restV (booG l m r d s) l = (booS l m r d s).2.1 := by
    unfold restV
    rw [if_pos f0]
    refine List.ext_getElem (by rw [List.length_map]; exact I.len.symm) fun i q1 q2 => ?_
    have hi : i < l.length := by rw [List.length_map] at q1; exact q1
    have e := I.rest i hi
    rw [getD_at q2] at e
    have es : sAt l i = l[i] := by unfold sAt; rw [getD_at hi]
    rw [es] at e
    obtain ⟨z1, z2, z3, z4⟩ := G.each l[i] (List.getElem_mem hi)
    have ev := boG_eval B z1 (by omega)
    rw [← eg] at ev
    rw [List.getElem_map, e, ev]
  refine ⟨f0, rv, ?_, gz⟩
  unfold wrgG
  rw [if_pos f0, rv]
  refine sqF_in (fun x hx => ?_) (by rw [I.len]; exact G.le)
  obtain ⟨i, hi, rfl⟩ := List.getElem_of_mem hx
  have hi' : i < l.length := by rw [← I.len]; exact hi
  have e := I.rest i hi'
  rw [getD_at hi] at e
  have es : sAt l i = l[i] := by unfold sAt; rw [getD_at hi']
  rw [es] at e
  have z3 := (G.each l[i] (List.getElem_mem hi')).2.2.1
  have q := allB_in (x := l[i].1) (L := (booS l m r d s).1) fun T hT => (B.each T hT).2.1
  have t9 := B.t9
  omega

end Go.Proofs.YtlloiccodjnkcagGreatDoor.M
