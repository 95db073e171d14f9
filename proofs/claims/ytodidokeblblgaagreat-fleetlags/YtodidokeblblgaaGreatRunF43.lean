/-
  Several texts as one: LgS, FlA.
-/
import Derived.Test.YtodidokeblblgaaGreatRunF28
import Derived.Test.YtodidokeblblgaaGreatRunF9
import Derived.Test.YtodidokeblblgaaGreatRunF40
import Derived.Test.YtodidokeblblgaaGreatRunF42
namespace Go.Proofs.YtodidokeblblgaaGreat
open Go.ChangeShapes Go.WideShapes Go.ChangeAt Go.RowKit Go.Lib Go.Maps
set_option linter.unusedVariables false
theorem CaIn.keepG {w w' : World} {c : M.Ca} {a : Option Addr} {cap : Nat} (h : CaIn w c a cap) (hk : ∀ p, a = some p → w'.heap[p.block]? = w.heap[p.block]?) (hz : w.heap.size ≤ w'.heap.size) : CaIn w' c a cap := h.keep hk hz
/-- calls that lie apart from a shelf -/
structure Apart (T : Nat → Nat) (w : World) (a : Option Addr) (l : List CaC) : Prop where
  rd : RdC w a l
  ra : ∀ p, a = some p → T p.block = 0 ∧ p.block < w.heap.size
  rk : ∀ k ∈ l, ∀ p, k.2.1 = some p → T p.block = 0 ∧ p.block < w.heap.size
theorem Apart.keep {T T' : Nat → Nat} {w w' : World} {a : Option Addr} {l : List CaC} (h : Apart T w a l) (hz : w.heap.size ≤ w'.heap.size) (hk : ∀ q, q < w.heap.size → T q = 0 → T' q = 0 ∧ w'.heap[q]? = w.heap[q]?) : Apart T' w' a l := by
  refine ⟨⟨h.rd.1, fun k hm => (h.rd.2.1 k hm).keepG (fun p hp => (hk _ (h.rk k hm p hp).2 (h.rk k hm p hp).1).2) hz, fun hne => ?_⟩, fun p hp => ⟨(hk _ (h.ra p hp).2 (h.ra p hp).1).1, Nat.lt_of_lt_of_le (h.ra p hp).2 hz⟩, fun k hm p hp => ⟨(hk _ (h.rk k hm p hp).2 (h.rk k hm p hp).1).1, Nat.lt_of_lt_of_le (h.rk k hm p hp).2 hz⟩⟩
  obtain ⟨b, off, e, hl, hc⟩ := h.rd.2.2 hne
  have eb := (hk b hl (h.ra _ e).1).2
  have key : ∀ j v, w.cell? ⟨b, j, none⟩ = some v → w'.cell? ⟨b, j, none⟩ = some v := fun j v hv => (World.cell?_of_block (a := ⟨b, j, none⟩) eb).trans hv
  exact ⟨b, off, e, Nat.lt_of_lt_of_le hl hz, fun i hi => ⟨key _ _ (hc i hi).1, key _ _ (hc i hi).2.1, key _ _ (hc i hi).2.2.1, key _ _ (hc i hi).2.2.2.1, key _ _ (hc i hi).2.2.2.2.1, key _ _ (hc i hi).2.2.2.2.2.1, key _ _ (hc i hi).2.2.2.2.2.2⟩⟩
def flL (lf sf : Nat) (ra : Option Addr) (n rc : Nat) (lost : Bool) : List Value := [.pointer (some ⟨lf, 0, none⟩), .pointer (some ⟨sf, 0, none⟩), .slice ra n rc, .bool lost]
def ptS (s : Nat) : Value := .pointer (some ⟨s, 0, none⟩)
structure FA (W w : World) (f : Nat) (L : M.Lg) (S : M.Sh) (lost : Bool) (ks : List Nat) (C : List M.Ca) (Z : Nat → Nat) (lf : Nat) (va : Option Addr) (sf : Nat) (T : Nat → Nat) (ra : Option Addr) (rc : Nat) (ss : List Nat) (B : Nat → Nat → Prop) : Prop where
  len : ss.length = ks.length
  hl : HL W w lf va L
  hs : Has W w sf T S
  sc : ∀ k, k < ks.length → SZ W w (ss.getD k 0) (M.shN C (ks.getD k 0)) (ks.getD k 0) (B k)
  ro : w.ownsRow W.heap.size 52 1 (.slice ra ss.length rc) ss.length (ss.map ptS)
  box : Bx w f (flL lf sf ra ss.length rc lost)
  zf : Z f = 1
  zl : ∀ q, LB lf va q → Z q = 2
  zs : ∀ q, T q ≠ 0 → Z q = 3
  zr : ∀ p, ra = some p → Z p.block = 4
  zb : ∀ k q, k < ks.length → B k q → Z q = 5 + k
  tn : ∀ q, Z q ≠ 0 → W.heap.size ≤ q ∧ q < w.heap.size
theorem FA.bl {W w : World} {f : Nat} {L : M.Lg} {S : M.Sh} {lost : Bool} {ks : List Nat} {C : List M.Ca} {Z : Nat → Nat} {lf : Nat} {va : Option Addr} {sf : Nat} {T : Nat → Nat} {ra : Option Addr} {rc : Nat} {ss : List Nat} {B : Nat → Nat → Prop} (h : FA W w f L S lost ks C Z lf va sf T ra rc ss B) : Below W.heap.size W w := h.hl.bl
theorem FA.stay {W w w' : World} {f : Nat} {L : M.Lg} {S : M.Sh} {lost : Bool} {ks : List Nat} {C : List M.Ca} {Z : Nat → Nat} {lf : Nat} {va : Option Addr} {sf : Nat} {T : Nat → Nat} {ra : Option Addr} {rc : Nat} {ss : List Nat} {B : Nat → Nat → Prop} (h : FA W w f L S lost ks C Z lf va sf T ra rc ss B) (hb : Below W.heap.size W w') (hz : w.heap.size ≤ w'.heap.size) (hk : ∀ q, Z q ≠ 0 → w'.heap[q]? = w.heap[q]?) : FA W w' f L S lost ks C Z lf va sf T ra rc ss B where
  len := h.len
  hl := by
    obtain ⟨vc, h1⟩ := h.hl.la
    exact ⟨⟨vc, h1.up (fun q hq => hk q (by rw [h.zl q hq]; decide))⟩, hb, h.hl.tn⟩
  hs := ⟨h.hs.sa.up (fun q hq => hk q (by rw [h.zs q hq]; decide)) hz, hb, h.hs.tn⟩
  sc := fun k hk' => (h.sc k hk').stay hb hz (fun q hq => hk q (by rw [h.zb k q hk' hq]; omega))
  ro := sp_stay h.ro (fun p hp => hk _ (by rw [h.zr p hp]; decide))
  box := h.box.keep (hk f (by rw [h.zf]; decide))
  zf := h.zf
  zl := h.zl
  zs := h.zs
  zr := h.zr
  zb := h.zb
  tn := fun q hq => ⟨(h.tn q hq).1, Nat.lt_of_lt_of_le (h.tn q hq).2 hz⟩
theorem FA.up {W w w' : World} {f : Nat} {L : M.Lg} {S : M.Sh} {lost : Bool} {ks : List Nat} {C : List M.Ca} {Z : Nat → Nat} {lf : Nat} {va : Option Addr} {sf : Nat} {T : Nat → Nat} {ra : Option Addr} {rc : Nat} {ss : List Nat} {B : Nat → Nat → Prop} (h : FA W w f L S lost ks C Z lf va sf T ra rc ss B) (hb : Below w.heap.size w w') : FA W w' f L S lost ks C Z lf va sf T ra rc ss B := h.stay (below_on h.bl hb) hb.size (fun q hq => hb.block q (h.tn q hq).2)
/-- the scorers' calls may be told otherwise -/
theorem FA.calls {W w : World} {f : Nat} {L : M.Lg} {S : M.Sh} {lost : Bool} {ks : List Nat} {C C' : List M.Ca} {Z : Nat → Nat} {lf : Nat} {va : Option Addr} {sf : Nat} {T : Nat → Nat} {ra : Option Addr} {rc : Nat} {ss : List Nat} {B : Nat → Nat → Prop} (h : FA W w f L S lost ks C Z lf va sf T ra rc ss B) (hc : ∀ k, k < ks.length → M.shN C' (ks.getD k 0) = M.shN C (ks.getD k 0)) : FA W w f L S lost ks C' Z lf va sf T ra rc ss B :=
  ⟨h.len, h.hl, h.hs, fun k hk => by rw [hc k hk]; exact h.sc k hk, h.ro, h.box, h.zf, h.zl, h.zs, h.zr, h.zb, h.tn⟩
/-- a fleet between calls -/
def FH (W w : World) (f : Nat) (X : M.Fl) (Z : Nat → Nat) : Prop := M.FlOk X ∧ ∃ lf va sf T ra rc ss B, FA W w f X.L X.S X.lost X.ks X.L.calls Z lf va sf T ra rc ss B
/-- what stays of all else -/
def KeptF (w : World) (Z Z' : Nat → Nat) (w' : World) : Prop := w.heap.size ≤ w'.heap.size ∧ ∀ q, q < w.heap.size → Z q = 0 → Z' q = 0 ∧ w'.heap[q]? = w.heap[q]?
theorem KeptF.refl {w w' : World} {Z : Nat → Nat} (hb : Below w.heap.size w w') : KeptF w Z Z w' := ⟨hb.size, fun q hq hz => ⟨hz, hb.block q hq⟩⟩
theorem KeptF.trans {a b c : World} {Z Z' Z'' : Nat → Nat} (h : KeptF a Z Z' b) (k : KeptF b Z' Z'' c) : KeptF a Z Z'' c := ⟨Nat.le_trans h.1 k.1, fun q hq hz => by
  obtain ⟨h1, h2⟩ := h.2 q hq hz
  obtain ⟨k1, k2⟩ := k.2 q (Nat.lt_of_lt_of_le hq h.1) h1
  exact ⟨k1, k2.trans h2⟩⟩
theorem tag_new (Z : Nat → Nat) (n t : Nat) (P : Nat → Prop) : ∃ Z' : Nat → Nat, (∀ q, q < n → Z' q = Z q) ∧ (∀ q, n ≤ q → P q → Z' q = t) ∧ (∀ q, n ≤ q → ¬ P q → Z' q = 0) := by
  classical
  refine ⟨fun q => if q < n then Z q else if P q then t else 0, fun q hq => if_pos hq, fun q hq hp => ?_, fun q hq hp => ?_⟩
  · show (if q < n then _ else if P q then t else 0) = _
    rw [if_neg (by omega), if_pos hp]
  · show (if q < n then _ else if P q then t else 0) = _
    rw [if_neg (by omega), if_neg hp]
/-- the log has done something -/
theorem FA.log {W w w' : World} {f : Nat} {L L' : M.Lg} {S : M.Sh} {lost : Bool} {ks : List Nat} {C : List M.Ca} {Z : Nat → Nat} {lf : Nat} {va va' : Option Addr} {sf : Nat} {T : Nat → Nat} {ra : Option Addr} {rc : Nat} {ss : List Nat} {B : Nat → Nat → Prop} (h : FA W w f L S lost ks C Z lf va sf T ra rc ss B) (hl : HL W w' lf va' L') (hk : KeptL w lf va va' w') : ∃ Z', FA W w' f L' S lost ks C Z' lf va' sf T ra rc ss B ∧ KeptF w Z Z' w' := by
  obtain ⟨Z', z1, z2, z3⟩ := tag_new Z w.heap.size 2 (LB lf va')
  have old : ∀ q, Z q ≠ 0 → Z' q = Z q := fun q hq => z1 q (h.tn q hq).2
  have same : ∀ q, Z q ≠ 0 → Z q ≠ 2 → w'.heap[q]? = w.heap[q]? := fun q hq h2 => (hk.2 q (h.tn q hq).2 (fun y => h2 (h.zl q y))).2
  have hz := hk.1
  refine ⟨Z', ⟨h.len, hl, ⟨h.hs.sa.up (fun q hq => same q (by rw [h.zs q hq]; decide) (by rw [h.zs q hq]; decide)) hz, hl.bl, h.hs.tn⟩, fun k hk' => (h.sc k hk').stay hl.bl hz (fun q hq => same q (by rw [h.zb k q hk' hq]; omega) (by rw [h.zb k q hk' hq]; omega)), sp_stay h.ro (fun p hp => same _ (by rw [h.zr p hp]; decide) (by rw [h.zr p hp]; decide)), h.box.keep (same f (by rw [h.zf]; decide) (by rw [h.zf]; decide)), ?_, fun q hq => ?_, fun q hq => ?_, fun p hp => ?_, fun k q hk' hq => ?_, fun q hq => ?_⟩, hz, fun q hq h0 => ?_⟩
  · rw [old f (by rw [h.zf]; decide)]; exact h.zf
  · by_cases y : q < w.heap.size
    · rw [z1 q y]
      by_cases x : LB lf va q
      · exact h.zl q x
      · exact absurd hq (hk.2 q y x).1
    · exact z2 q (by omega) hq
  · rw [old q (by rw [h.zs q hq]; decide)]; exact h.zs q hq
  · rw [old _ (by rw [h.zr p hp]; decide)]; exact h.zr p hp
  · rw [old q (by rw [h.zb k q hk' hq]; omega)]; exact h.zb k q hk' hq
  · by_cases y : q < w.heap.size
    · rw [z1 q y] at hq
      exact ⟨(h.tn q hq).1, by omega⟩
    · by_cases x : LB lf va' q
      · exact ⟨hl.tn q x, hl.lt x⟩
      · exact absurd (z3 q (by omega) x) hq
  · exact ⟨by rw [z1 q hq]; exact h0, (hk.2 q hq (fun y => by rw [h.zl q y] at h0; cases h0)).2⟩
/-- the shelf has done something -/
theorem FA.shelf {W w w' : World} {f : Nat} {L : M.Lg} {S S' : M.Sh} {lost : Bool} {ks : List Nat} {C : List M.Ca} {Z : Nat → Nat} {lf : Nat} {va : Option Addr} {sf : Nat} {T T' : Nat → Nat} {ra : Option Addr} {rc : Nat} {ss : List Nat} {B : Nat → Nat → Prop} (h : FA W w f L S lost ks C Z lf va sf T ra rc ss B) (hs : Has W w' sf T' S') (hk : ∀ q, q < w.heap.size → T q = 0 → T' q = 0 ∧ w'.heap[q]? = w.heap[q]?) (hz : w.heap.size ≤ w'.heap.size) : ∃ Z', FA W w' f L S' lost ks C Z' lf va sf T' ra rc ss B ∧ KeptF w Z Z' w' := by
  obtain ⟨Z', z1, z2, z3⟩ := tag_new Z w.heap.size 3 (fun q => T' q ≠ 0)
  have old : ∀ q, Z q ≠ 0 → Z' q = Z q := fun q hq => z1 q (h.tn q hq).2
  have t0 : ∀ q, Z q ≠ 3 → T q = 0 := fun q hq => by
    by_cases y : T q = 0
    · exact y
    · exact absurd (h.zs q y) hq
  have same : ∀ q, Z q ≠ 0 → Z q ≠ 3 → w'.heap[q]? = w.heap[q]? := fun q hq h2 => (hk q (h.tn q hq).2 (t0 q h2)).2
  have hb := hs.bl
  refine ⟨Z', ⟨h.len, ?_, hs, fun k hk' => (h.sc k hk').stay hb hz (fun q hq => same q (by rw [h.zb k q hk' hq]; omega) (by rw [h.zb k q hk' hq]; omega)), sp_stay h.ro (fun p hp => same _ (by rw [h.zr p hp]; decide) (by rw [h.zr p hp]; decide)), h.box.keep (same f (by rw [h.zf]; decide) (by rw [h.zf]; decide)), ?_, fun q hq => ?_, fun q hq => ?_, fun p hp => ?_, fun k q hk' hq => ?_, fun q hq => ?_⟩, hz, fun q hq h0 => ?_⟩
  · obtain ⟨vc, h1⟩ := h.hl.la
    exact ⟨⟨vc, h1.up (fun q hq => same q (by rw [h.zl q hq]; decide) (by rw [h.zl q hq]; decide))⟩, hb, h.hl.tn⟩
  · rw [old f (by rw [h.zf]; decide)]; exact h.zf
  · rw [old q (by rw [h.zl q hq]; decide)]; exact h.zl q hq
  · by_cases y : q < w.heap.size
    · rw [z1 q y]
      by_cases x : T q = 0
      · exact absurd (hk q y x).1 hq
      · exact h.zs q x
    · exact z2 q (by omega) hq
  · rw [old _ (by rw [h.zr p hp]; decide)]; exact h.zr p hp
  · rw [old q (by rw [h.zb k q hk' hq]; omega)]; exact h.zb k q hk' hq
  · by_cases y : q < w.heap.size
    · rw [z1 q y] at hq
      exact ⟨(h.tn q hq).1, by omega⟩
    · by_cases x : T' q = 0
      · exact absurd (z3 q (by omega) (fun g => g x)) hq
      · refine ⟨hs.tn q x, ?_⟩
        by_cases g : q < w'.heap.size
        · exact g
        · exact absurd (hs.sa.lt (by omega)) x
  · have g := hk q hq (t0 q (by rw [h0]; decide))
    exact ⟨by rw [z1 q hq]; exact h0, g.2⟩
/-- a scorer has done something -/
theorem FA.score {W w w' : World} {f : Nat} {L : M.Lg} {S : M.Sh} {lost : Bool} {ks : List Nat} {C : List M.Ca} {Z : Nat → Nat} {lf : Nat} {va : Option Addr} {sf : Nat} {T : Nat → Nat} {ra : Option Addr} {rc : Nat} {ss : List Nat} {B : Nat → Nat → Prop} (h : FA W w f L S lost ks C Z lf va sf T ra rc ss B) {k i' : Nat} {B' : Nat → Prop} (hk1 : k < ks.length) (hs : SZ W w' (ss.getD k 0) (M.shN C i') i' B') (hk : KeptS w (B k) B' w') : ∃ Z' B2, FA W w' f L S lost (ks.set k i') C Z' lf va sf T ra rc ss B2 ∧ KeptF w Z Z' w' := by
  obtain ⟨Z', z1, z2, z3⟩ := tag_new Z w.heap.size (5 + k) B'
  have old : ∀ q, Z q ≠ 0 → Z' q = Z q := fun q hq => z1 q (h.tn q hq).2
  have nb : ∀ q, Z q ≠ 5 + k → ¬ B k q := fun q hq y => hq (h.zb k q hk1 y)
  have same : ∀ q, Z q ≠ 0 → Z q ≠ 5 + k → w'.heap[q]? = w.heap[q]? := fun q hq h2 => (hk.2 q (h.tn q hq).2 (nb q h2)).2
  have hb := hs.bl
  have hz := hk.1
  refine ⟨Z', fun j => if j = k then B' else B j, ⟨by rw [List.length_set]; exact h.len, ?_, ⟨h.hs.sa.up (fun q hq => same q (by rw [h.zs q hq]; decide) (by rw [h.zs q hq]; omega)) hz, hb, h.hs.tn⟩, fun j hj => ?_, sp_stay h.ro (fun p hp => same _ (by rw [h.zr p hp]; decide) (by rw [h.zr p hp]; omega)), h.box.keep (same f (by rw [h.zf]; decide) (by rw [h.zf]; omega)), ?_, fun q hq => ?_, fun q hq => ?_, fun p hp => ?_, fun j q hj hq => ?_, fun q hq => ?_⟩, hz, fun q hq h0 => ?_⟩
  · obtain ⟨vc, h1⟩ := h.hl.la
    exact ⟨⟨vc, h1.up (fun q hq => same q (by rw [h.zl q hq]; decide) (by rw [h.zl q hq]; omega))⟩, hb, h.hl.tn⟩
  · rw [List.length_set] at hj
    by_cases e : j = k
    · subst e
      rw [if_pos rfl, show (ks.set j i').getD j 0 = i' by simp [List.getD, hj]]
      exact hs
    · rw [if_neg e, show (ks.set k i').getD j 0 = ks.getD j 0 by simp [List.getD, List.getElem?_set_ne (Ne.symm e)]]
      exact (h.sc j hj).stay hb hz (fun q hq => same q (by rw [h.zb j q hj hq]; omega) (by rw [h.zb j q hj hq]; omega))
  · rw [old f (by rw [h.zf]; decide)]; exact h.zf
  · rw [old q (by rw [h.zl q hq]; decide)]; exact h.zl q hq
  · rw [old q (by rw [h.zs q hq]; decide)]; exact h.zs q hq
  · rw [old _ (by rw [h.zr p hp]; decide)]; exact h.zr p hp
  · rw [List.length_set] at hj
    by_cases e : j = k
    · subst e
      rw [if_pos rfl] at hq
      by_cases y : q < w.heap.size
      · rw [z1 q y]
        by_cases x : B j q
        · exact h.zb j q hj x
        · exact absurd hq (hk.2 q y x).1
      · exact z2 q (by omega) hq
    · rw [if_neg e] at hq
      rw [old q (by rw [h.zb j q hj hq]; omega)]; exact h.zb j q hj hq
  · by_cases y : q < w.heap.size
    · rw [z1 q y] at hq
      exact ⟨(h.tn q hq).1, by omega⟩
    · by_cases x : B' q
      · exact hs.lt x
      · exact absurd (z3 q (by omega) x) hq
  · exact ⟨by rw [z1 q hq]; exact h0, (hk.2 q hq (nb q (by rw [h0]; omega))).2⟩
/-- whether something was lost is told anew -/
theorem FA.put {W w : World} {f : Nat} {L : M.Lg} {S : M.Sh} {lost : Bool} {ks : List Nat} {C : List M.Ca} {Z : Nat → Nat} {lf : Nat} {va : Option Addr} {sf : Nat} {T : Nat → Nat} {ra : Option Addr} {rc : Nat} {ss : List Nat} {B : Nat → Nat → Prop} (h : FA W w f L S lost ks C Z lf va sf T ra rc ss B) (b : Bool) : FA W (w.setCell ⟨f, 3, none⟩ (.bool b)) f L S b ks C Z lf va sf T ra rc ss B ∧ KeptF w Z Z (w.setCell ⟨f, 3, none⟩ (.bool b)) := by
  have fz : W.heap.size ≤ f := (h.tn f (by rw [h.zf]; decide)).1
  have hb : Below W.heap.size W (w.setCell ⟨f, 3, none⟩ (.bool b)) := h.bl.setCell fz _
  have z : (w.setCell ⟨f, 3, none⟩ (.bool b)).heap.size = w.heap.size := World.size_setCell ..
  have oth : ∀ q, q ≠ f → (w.setCell ⟨f, 3, none⟩ (.bool b)).heap[q]? = w.heap[q]? := fun q hq => heap_setCell_other _ _ _ _ hq
  have nf : ∀ q t, Z q = t → t ≠ 1 → q ≠ f := fun q t h1 h2 e => h2 (by rw [← h1, e, h.zf])
  refine ⟨⟨h.len, ?_, ⟨h.hs.sa.up (fun q hq => oth q (nf q 3 (h.zs q hq) (by decide))) (by rw [z]; exact Nat.le_refl _), hb, h.hs.tn⟩, fun k hk => (h.sc k hk).stay hb (by rw [z]; exact Nat.le_refl _) (fun q hq => oth q (nf q _ (h.zb k q hk hq) (by omega))), sp_stay h.ro (fun p hp => oth _ (nf _ 4 (h.zr p hp) (by decide))), h.box.put (j := 3) (v := .bool b), h.zf, h.zl, h.zs, h.zr, h.zb, fun q hq => ⟨(h.tn q hq).1, by rw [z]; exact (h.tn q hq).2⟩⟩, by rw [z]; exact Nat.le_refl _, fun q hq h0 => ⟨h0, oth q (fun e => by rw [e, h.zf] at h0; cases h0)⟩⟩
  obtain ⟨vc, h1⟩ := h.hl.la
  exact ⟨⟨vc, h1.up (fun q hq => oth q (nf q 2 (h.zl q hq) (by decide)))⟩, hb, h.hl.tn⟩
/-- another shelf, in new blocks -/
theorem FA.anew {W w : World} {f : Nat} {L : M.Lg} {S S' : M.Sh} {lost : Bool} {ks : List Nat} {C : List M.Ca} {Z : Nat → Nat} {lf : Nat} {va : Option Addr} {sf s' : Nat} {T T' : Nat → Nat} {ra : Option Addr} {rc : Nat} {ss : List Nat} {B : Nat → Nat → Prop} {n : Nat} (h : FA W w f L S lost ks C Z lf va sf T ra rc ss B) (hs : Has W w s' T' S') (hn : ∀ q, T' q ≠ 0 → n ≤ q) (hZ : ∀ q, n ≤ q → Z q = 0) : ∃ Z', FA W (w.setCell ⟨f, 1, none⟩ (.pointer (some ⟨s', 0, none⟩))) f L S' lost ks C Z' lf va s' T' ra rc ss B ∧ (∀ q, q < n → Z' q = Z q) ∧ (w.setCell ⟨f, 1, none⟩ (.pointer (some ⟨s', 0, none⟩))).heap.size = w.heap.size ∧ (∀ q, q ≠ f → (w.setCell ⟨f, 1, none⟩ (.pointer (some ⟨s', 0, none⟩))).heap[q]? = w.heap[q]?) := by
  obtain ⟨Z', z1, z2, z3⟩ := tag_new Z n 3 (fun q => T' q ≠ 0)
  have fz : W.heap.size ≤ f := (h.tn f (by rw [h.zf]; decide)).1
  have hb : Below W.heap.size W (w.setCell ⟨f, 1, none⟩ (.pointer (some ⟨s', 0, none⟩))) := h.bl.setCell fz _
  have z : (w.setCell ⟨f, 1, none⟩ (.pointer (some ⟨s', 0, none⟩))).heap.size = w.heap.size := World.size_setCell ..
  have oth : ∀ q, q ≠ f → (w.setCell ⟨f, 1, none⟩ (.pointer (some ⟨s', 0, none⟩))).heap[q]? = w.heap[q]? := fun q hq => heap_setCell_other _ _ _ _ hq
  have nf : ∀ q t, Z q = t → t ≠ 1 → q ≠ f := fun q t h1 h2 e => h2 (by rw [← h1, e, h.zf])
  have ltn : ∀ q, Z q ≠ 0 → q < n := fun q hq => by
    by_cases y : q < n
    · exact y
    · exact absurd (hZ q (by omega)) hq
  have old : ∀ q, Z q ≠ 0 → Z' q = Z q := fun q hq => z1 q (ltn q hq)
  have ftn : f < n := ltn f (by rw [h.zf]; decide)
  refine ⟨Z', ⟨h.len, ?_, ⟨hs.sa.up (fun q hq => oth q (fun e => by have := hn q hq; omega)) (by rw [z]; exact Nat.le_refl _), hb, hs.tn⟩, fun k hk => (h.sc k hk).stay hb (by rw [z]; exact Nat.le_refl _) (fun q hq => oth q (nf q _ (h.zb k q hk hq) (by omega))), sp_stay h.ro (fun p hp => oth _ (nf _ 4 (h.zr p hp) (by decide))), h.box.put (j := 1) (v := .pointer (some ⟨s', 0, none⟩)), ?_, fun q hq => ?_, fun q hq => z2 q (hn q hq) hq, fun p hp => ?_, fun k q hk hq => ?_, fun q hq => ?_⟩, z1, z, oth⟩
  · obtain ⟨vc, h1⟩ := h.hl.la
    exact ⟨⟨vc, h1.up (fun q hq => oth q (nf q 2 (h.zl q hq) (by decide)))⟩, hb, h.hl.tn⟩
  · rw [old f (by rw [h.zf]; decide)]; exact h.zf
  · rw [old q (by rw [h.zl q hq]; decide)]; exact h.zl q hq
  · rw [old _ (by rw [h.zr p hp]; decide)]; exact h.zr p hp
  · rw [old q (by rw [h.zb k q hk hq]; omega)]; exact h.zb k q hk hq
  · by_cases y : q < n
    · rw [z1 q y] at hq
      exact ⟨(h.tn q hq).1, by rw [z]; exact (h.tn q hq).2⟩
    · by_cases x : T' q = 0
      · exact absurd (z3 q (by omega) (fun g => g x)) hq
      · refine ⟨hs.tn q x, ?_⟩
        rw [z]
        by_cases g : q < w.heap.size
        · exact g
        · exact absurd (hs.sa.lt (by omega)) x
/-- another scorer, in new blocks -/
theorem FA.other {W w : World} {f : Nat} {L : M.Lg} {S : M.Sh} {lost : Bool} {ks : List Nat} {C : List M.Ca} {Z : Nat → Nat} {lf : Nat} {va : Option Addr} {sf : Nat} {T : Nat → Nat} {ra : Option Addr} {rc : Nat} {ss : List Nat} {B : Nat → Nat → Prop} {n : Nat} (h : FA W w f L S lost ks C Z lf va sf T ra rc ss B) {k s' : Nat} {B' : Nat → Prop} (hk1 : k < ks.length) (hs : SZ W w s' M.sh0 0 B') (hn : ∀ q, B' q → n ≤ q) (hZ : ∀ q, n ≤ q → Z q = 0) : ∃ g, ra = some ⟨g, 0, none⟩ ∧ ∃ Z' B2, FA W (w.setCell ⟨g, k, none⟩ (ptS s')) f L S lost (ks.set k 0) C Z' lf va sf T ra rc (ss.set k s') B2 ∧ (∀ q, q < n → Z' q = Z q) ∧ (w.setCell ⟨g, k, none⟩ (ptS s')).heap.size = w.heap.size ∧ (∀ q, q ≠ g → (w.setCell ⟨g, k, none⟩ (ptS s')).heap[q]? = w.heap[q]?) ∧ Z g = 4 := by
  have hk2 : k < ss.length := by rw [h.len]; exact hk1
  obtain ⟨g, era⟩ : ∃ g, ra = some ⟨g, 0, none⟩ := by
    rcases h.ro.2 with ⟨_, z⟩ | ⟨g, cap, cur, hv, _⟩
    · rw [z] at hk2; exact absurd hk2 (Nat.not_lt_zero _)
    · cases hv; exact ⟨g, rfl⟩
  have zg : Z g = 4 := h.zr _ era
  refine ⟨g, era, ?_⟩
  obtain ⟨Z', z1, z2, z3⟩ := tag_new Z n (5 + k) B'
  have gz : W.heap.size ≤ g := (h.tn g (by rw [zg]; decide)).1
  have hb : Below W.heap.size W (w.setCell ⟨g, k, none⟩ (ptS s')) := h.bl.setCell gz _
  have z : (w.setCell ⟨g, k, none⟩ (ptS s')).heap.size = w.heap.size := World.size_setCell ..
  have oth : ∀ q, q ≠ g → (w.setCell ⟨g, k, none⟩ (ptS s')).heap[q]? = w.heap[q]? := fun q hq => heap_setCell_other _ _ _ _ hq
  have nf : ∀ q t, Z q = t → t ≠ 4 → q ≠ g := fun q t h1 h2 e => h2 (by rw [← h1, e, zg])
  have ltn : ∀ q, Z q ≠ 0 → q < n := fun q hq => by
    by_cases y : q < n
    · exact y
    · exact absurd (hZ q (by omega)) hq
  have old : ∀ q, Z q ≠ 0 → Z' q = Z q := fun q hq => z1 q (ltn q hq)
  have gn : g < n := ltn g (by rw [zg]; decide)
  have sk : ∀ j, j ≠ k → (ss.set k s').getD j 0 = ss.getD j 0 := fun j hj => by simp [List.getD, List.getElem?_set_ne (Ne.symm hj)]
  refine ⟨Z', fun j => if j = k then B' else B j, ⟨by rw [List.length_set, List.length_set]; exact h.len, ?_, ⟨h.hs.sa.up (fun q hq => oth q (nf q 3 (h.zs q hq) (by decide))) (by rw [z]; exact Nat.le_refl _), hb, h.hs.tn⟩, fun j hj => ?_, ?_, ?_, ?_, fun q hq => ?_, fun q hq => ?_, fun p hp => ?_, fun j q hj hq => ?_, fun q hq => ?_⟩, z1, z, oth, zg⟩
  · obtain ⟨vc, h1⟩ := h.hl.la
    exact ⟨⟨vc, h1.up (fun q hq => oth q (nf q 2 (h.zl q hq) (by decide)))⟩, hb, h.hl.tn⟩
  · rw [List.length_set] at hj
    by_cases e : j = k
    · subst e
      rw [if_pos rfl, show (ks.set j 0).getD j 0 = 0 by simp [List.getD, hj], show (ss.set j s').getD j 0 = s' by simp [List.getD, hk2]]
      exact hs.stay hb (by rw [z]; exact Nat.le_refl _) (fun q hq => oth q (fun e => by have := hn q hq; omega))
    · rw [if_neg e, sk j e, show (ks.set k 0).getD j 0 = ks.getD j 0 by simp [List.getD, List.getElem?_set_ne (Ne.symm e)]]
      exact (h.sc j hj).stay hb (by rw [z]; exact Nat.le_refl _) (fun q hq => oth q (nf q _ (h.zb j q hj hq) (by omega)))
  · rw [List.length_set, List.map_set]
    subst era
    exact (h.ro.stored k (ptS s')).1
  · rw [List.length_set]
    exact h.box.keep (oth f (nf f 1 h.zf (by decide)))
  · rw [old f (by rw [h.zf]; decide)]; exact h.zf
  · rw [old q (by rw [h.zl q hq]; decide)]; exact h.zl q hq
  · rw [old q (by rw [h.zs q hq]; decide)]; exact h.zs q hq
  · rw [old _ (by rw [h.zr p hp]; decide)]; exact h.zr p hp
  · rw [List.length_set] at hj
    by_cases e : j = k
    · subst e
      rw [if_pos rfl] at hq
      exact z2 q (hn q hq) hq
    · rw [if_neg e] at hq
      rw [old q (by rw [h.zb j q hj hq]; omega)]; exact h.zb j q hj hq
  · by_cases y : q < n
    · rw [z1 q y] at hq
      exact ⟨(h.tn q hq).1, by rw [z]; exact (h.tn q hq).2⟩
    · by_cases x : B' q
      · have := hs.lt x
        rw [z]
        exact this
      · exact absurd (z3 q (by omega) x) hq
end Go.Proofs.YtodidokeblblgaaGreat
