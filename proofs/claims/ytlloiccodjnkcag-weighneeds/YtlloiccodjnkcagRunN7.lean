/-
  Several texts as one: MathWb, UsCells, MathWc, MathWe, MathWg, MathBa, MathBb.
-/
import Derived.Test.YtlloiccodjnkcagRunN6
import Derived.Test.YtlloiccodjnkcagRunN1
import Derived.Test.YtlloiccodjnkcagRunN5
import Derived.Test.YtlloiccodjnkcagRunN4
namespace Go.Proofs.Ytlloiccodjnkcag.M
set_option linter.unusedVariables false

/-- a feature, its nodes, its gain -/
abbrev Us := Int × Int × Int
def keyU (g : Bool) (u : Us) : Int := if g = true then u.2.2 else u.2.1
/-- the greater one first, of equal ones the lesser feature -/
def RkU (g : Bool) (a b : Us) : Prop := keyU g b < keyU g a ∨ (keyU g a = keyU g b ∧ a.1 < b.1)
theorem rk_irr {g : Bool} {a : Us} (h : RkU g a a) : False := by rcases h with h | ⟨_, h⟩ <;> omega
theorem rk_asym {g : Bool} {a b : Us} (h : RkU g a b) (k : RkU g b a) : False := by
  rcases h with h | ⟨h1, h2⟩ <;> rcases k with k | ⟨k1, k2⟩ <;> omega
/-- in that order there is one list alone -/
theorem rk_same {g : Bool} : ∀ {a b : List Us}, a.Pairwise (RkU g) → b.Pairwise (RkU g) → (∀ x, x ∈ a ↔ x ∈ b) → a = b
  | [], [], _, _, _ => rfl
  | [], y :: b, _, _, h => by have := (h y).2 (List.mem_cons_self ..); cases this
  | x :: a, [], _, _, h => by have := (h x).1 (List.mem_cons_self ..); cases this
  | x :: a, y :: b, ha, hb, h => by
    obtain ⟨a1, a2⟩ := List.pairwise_cons.1 ha
    obtain ⟨b1, b2⟩ := List.pairwise_cons.1 hb
    have e : x = y := by
      rcases List.mem_cons.1 ((h x).1 (List.mem_cons_self ..)) with e | e
      · exact e
      · rcases List.mem_cons.1 ((h y).2 (List.mem_cons_self ..)) with z | z
        · exact z.symm
        · exact absurd (a1 y z) (fun q => rk_asym q (b1 x e))
    subst e
    congr 1
    refine rk_same a2 b2 fun z => ⟨fun hz => ?_, fun hz => ?_⟩
    · rcases List.mem_cons.1 ((h z).1 (List.mem_cons_of_mem _ hz)) with e | e
      · subst e; exact absurd (a1 z hz) rk_irr
      · exact e
    · rcases List.mem_cons.1 ((h z).2 (List.mem_cons_of_mem _ hz)) with e | e
      · subst e; exact absurd (b1 z hz) rk_irr
      · exact e

/-! ### one by one, as the document has it -/
/-- how many of those that are there stay ahead, counted from behind -/
def toU (g : Bool) (out : List Us) (u : Us) : Nat → Nat
  | 0 => 0
  | k + 1 => if keyU g (out.getD k (0, 0, 0)) < keyU g u then toU g out u k else k + 1
theorem toU_le (g : Bool) (out : List Us) (u : Us) : ∀ k, toU g out u k ≤ k
  | 0 => Nat.le_refl _
  | k + 1 => by
    unfold toU
    split
    · have := toU_le g out u k; omega
    · exact Nat.le_refl _
def insU (g : Bool) (out : List Us) (u : Us) : List Us := out.take (toU g out u out.length) ++ [u] ++ out.drop (toU g out u out.length)
def rankK (g : Bool) (l : List Us) : Nat → List Us
  | 0 => []
  | k + 1 => if (l.getD k (0, 0, 0)).2.1 = 0 then rankK g l k else insU g (rankK g l k) (l.getD k (0, 0, 0))
def rankU (g : Bool) (l : List Us) : List Us := rankK g l l.length
theorem toU_behind {g : Bool} {out : List Us} {u : Us} : ∀ k, ∀ j, toU g out u k ≤ j → j < k → keyU g (out.getD j (0, 0, 0)) < keyU g u
  | 0, j, _, h => by omega
  | k + 1, j, h1, h2 => by
    unfold toU at h1
    by_cases c : keyU g (out.getD k (0, 0, 0)) < keyU g u
    · rw [if_pos c] at h1
      by_cases e : j = k
      · subst e; exact c
      · exact toU_behind k j h1 (by omega)
    · rw [if_neg c] at h1; omega
theorem toU_ahead {g : Bool} {out : List Us} {u : Us} : ∀ k, 0 < toU g out u k → ¬ keyU g (out.getD (toU g out u k - 1) (0, 0, 0)) < keyU g u
  | 0, h => by simp [toU] at h
  | k + 1, h => by
    unfold toU at h ⊢
    by_cases c : keyU g (out.getD k (0, 0, 0)) < keyU g u
    · rw [if_pos c] at h ⊢; exact toU_ahead k h
    · rw [if_neg c] at h ⊢; exact c
theorem usAt (l : List Us) {k : Nat} (h : k < l.length) : l.getD k (0, 0, 0) = l[k] := by simp [List.getD, List.getElem?_eq_getElem h]
theorem insU_mem {g : Bool} {out : List Us} {u x : Us} : x ∈ insU g out u ↔ x ∈ out ∨ x = u := by
  unfold insU
  rw [List.mem_append, List.mem_append, List.mem_singleton]
  have e : x ∈ out ↔ x ∈ out.take (toU g out u out.length) ∨ x ∈ out.drop (toU g out u out.length) := by
    conv => lhs; rw [← List.take_append_drop (toU g out u out.length) out]
    rw [List.mem_append]
  rw [e]
  constructor
  · rintro ((h | h) | h)
    · exact .inl (.inl h)
    · exact .inr h
    · exact .inl (.inr h)
  · rintro ((h | h) | h)
    · exact .inl (.inl h)
    · exact .inr h
    · exact .inl (.inr h)
theorem insU_pw {g : Bool} {out : List Us} {u : Us} (hp : out.Pairwise (RkU g)) (hu : ∀ x ∈ out, x.1 < u.1) : (insU g out u).Pairwise (RkU g) := by
  unfold insU
  have le := toU_le g out u out.length
  generalize hk : toU g out u out.length = k at *
  have beh : ∀ x ∈ out.drop k, RkU g u x := fun x hx => by
    obtain ⟨j, hj, e⟩ := List.getElem_of_mem hx
    rw [List.getElem_drop] at e
    rw [List.length_drop] at hj
    have := toU_behind (g := g) (out := out) (u := u) out.length (k + j) (by omega) (by omega)
    rw [usAt out (by omega), e] at this
    exact .inl this
  have ahd : ∀ x ∈ out.take k, RkU g x u := fun x hx => by
    rcases Nat.eq_zero_or_pos k with z | z
    · rw [z] at hx; simp at hx
    · have q := toU_ahead (g := g) (out := out) (u := u) out.length (by omega)
      rw [hk, usAt out (by omega)] at q
      have hm := List.mem_of_mem_take hx
      have hu' := hu x hm
      obtain ⟨j, hj, e⟩ := List.getElem_of_mem hx
      rw [List.getElem_take] at e
      rw [List.length_take] at hj
      have kx : keyU g out[k - 1] ≤ keyU g x := by
        by_cases ej : j = k - 1
        · subst ej; rw [e]; omega
        · have := (List.pairwise_iff_getElem.1 hp) j (k - 1) (by omega) (by omega) (by omega)
          rw [e] at this
          rcases this with h | ⟨h, _⟩ <;> omega
      by_cases c : keyU g u < keyU g x
      · exact .inl c
      · exact .inr ⟨by omega, hu'⟩
  rw [List.append_assoc, List.pairwise_append]
  refine ⟨hp.sublist (List.take_sublist _ _), ?_, fun a ha b hb => ?_⟩
  · show (u :: out.drop k).Pairwise (RkU g)
    exact List.pairwise_cons.2 ⟨beh, hp.sublist (List.drop_sublist _ _)⟩
  · rcases List.mem_cons.1 (show b ∈ u :: out.drop k from hb) with e | e
    · subst e; exact ahd a ha
    · have s := (List.take_append_drop k out)
      rw [← s, List.pairwise_append] at hp
      exact hp.2.2 a ha b e
/-- features rising -/
def RiseU (l : List Us) : Prop := l.Pairwise (fun a b => a.1 < b.1)
theorem rankK_spec {g : Bool} {l : List Us} (hr : RiseU l) : ∀ k, k ≤ l.length → (rankK g l k).Pairwise (RkU g) ∧ ∀ x, x ∈ rankK g l k ↔ x ∈ l.take k ∧ x.2.1 ≠ 0
  | 0, _ => ⟨List.Pairwise.nil, fun x => by simp [rankK]⟩
  | k + 1, hk => by
    obtain ⟨p, q⟩ := rankK_spec (g := g) hr k (by omega)
    have hk' : k < l.length := by omega
    have tk : l.take (k + 1) = l.take k ++ [l[k]] := List.take_succ_eq_append_getElem hk'
    unfold rankK
    rw [usAt l hk']
    by_cases z : l[k].2.1 = 0
    · rw [if_pos z]
      refine ⟨p, fun x => ?_⟩
      rw [q, tk, List.mem_append, List.mem_singleton]
      constructor
      · rintro ⟨a, b⟩; exact ⟨.inl a, b⟩
      · rintro ⟨a | a, b⟩
        · exact ⟨a, b⟩
        · rw [a] at b; exact absurd z b
    · rw [if_neg z]
      refine ⟨insU_pw p fun x hx => ?_, fun x => ?_⟩
      · have hx' := ((q x).1 hx).1
        obtain ⟨j, hj, e⟩ := List.getElem_of_mem hx'
        rw [List.getElem_take] at e
        rw [List.length_take] at hj
        rw [← e]
        exact (List.pairwise_iff_getElem.1 hr) j k (by omega) hk' (by omega)
      · rw [insU_mem, q, tk, List.mem_append, List.mem_singleton]
        constructor
        · rintro (⟨a, b⟩ | a)
          · exact ⟨.inl a, b⟩
          · exact ⟨.inr a, by rw [a]; exact z⟩
        · rintro ⟨a | a, b⟩
          · exact .inl ⟨a, b⟩
          · exact .inr a
theorem rank_spec {g : Bool} {l : List Us} (hr : RiseU l) : (rankU g l).Pairwise (RkU g) ∧ ∀ x, x ∈ rankU g l ↔ x ∈ l ∧ x.2.1 ≠ 0 := by
  have := rankK_spec (g := g) hr l.length (Nat.le_refl _)
  rw [List.take_length] at this
  exact this
/-- what is ranked is known by its order and by who is there -/
theorem rank_only {g : Bool} {l r : List Us} (hr : RiseU l) (hp : r.Pairwise (RkU g)) (hm : ∀ x, x ∈ r ↔ x ∈ l ∧ x.2.1 ≠ 0) : r = rankU g l :=
  rk_same hp (rank_spec hr).1 fun x => by rw [hm, (rank_spec hr).2]

/-! ### how often -/
/-- nodes with a feature -/
def cntN (f : Int) : List Nd → Nat
  | [] => 0
  | n :: t => (if nf n = f then 1 else 0) + cntN f t
theorem cntN_app (f : Int) : ∀ a b : List Nd, cntN f (a ++ b) = cntN f a + cntN f b
  | [], b => by show cntN f b = 0 + cntN f b; omega
  | n :: a, b => by
    show (if nf n = f then 1 else 0) + cntN f (a ++ b) = (if nf n = f then 1 else 0) + cntN f a + cntN f b
    rw [cntN_app f a b]; omega
def cntG (f : Int) : List (List Nd) → Nat
  | [] => 0
  | t :: l => cntN f t + cntG f l
/-- the uses of eight features, gains 0 -/
def useL (l : List (List Nd)) : List Us := (List.range 8).map fun (i : Nat) => ((i : Int), ((cntG (i : Int) l : Nat) : Int), (0 : Int))
theorem useL_rise (l : List (List Nd)) : RiseU (useL l) := by
  unfold RiseU useL
  rw [List.pairwise_map]
  exact (List.pairwise_lt_range).imp fun {a b} h => (show ((a : Nat) : Int) < ((b : Nat) : Int) by omega)
def usesV (l : List (List Nd)) : List Us := rankU false (useL l)

end Go.Proofs.Ytlloiccodjnkcag.M

namespace Go.Proofs.Ytlloiccodjnkcag
open Go.ChangeShapes Go.WideShapes Go.ChangeAt Go.RowKit Go.Lib
set_option linter.unusedVariables false

theorem infoU : (Try.prog.info? 43).map (fun i => (i.zero, i.size, i.bytes)) = some (some (.agg #[.int .i64 0, .int .i64 0, .int .i64 0]), 3, 24) := by kernel_rfl
def usCells (xs : List M.Us) : List Value := xs.flatMap fun u => [.int .i64 u.1, .int .i64 u.2.1, .int .i64 u.2.2]
theorem usCells_cons (u : M.Us) (t : List M.Us) : usCells (u :: t) = .int .i64 u.1 :: .int .i64 u.2.1 :: .int .i64 u.2.2 :: usCells t := rfl
theorem usCells_app (a b : List M.Us) : usCells (a ++ b) = usCells a ++ usCells b := by unfold usCells; rw [List.flatMap_append]
theorem usCells_len (ts : List M.Us) : (usCells ts).length = ts.length * 3 := by
  induction ts with
  | nil => rfl
  | cons x t ih => rw [usCells_cons]; simp only [List.length_cons, ih]; omega
theorem usCells_one (ts : List M.Us) : ∀ v ∈ usCells ts, v.oneCell' = true := by
  intro v hv
  simp only [usCells, List.mem_flatMap] at hv
  obtain ⟨s, _, hs⟩ := hv
  simp only [List.mem_cons, List.not_mem_nil, or_false] at hs
  rcases hs with rfl | rfl | rfl <;> rfl
def M.uAt (l : List M.Us) (i : Nat) : M.Us := l.getD i (0, 0, 0)
theorem uAt_in (l : List M.Us) {i : Nat} (h : i < l.length) : M.uAt l i = l[i] := M.usAt l h
theorem usCells_at : ∀ (ts : List M.Us) (i : Nat), i < ts.length → (usCells ts)[i * 3]? = some (.int .i64 (M.uAt ts i).1) ∧ (usCells ts)[i * 3 + 1]? = some (.int .i64 (M.uAt ts i).2.1) ∧ (usCells ts)[i * 3 + 2]? = some (.int .i64 (M.uAt ts i).2.2)
  | [], i, h => by simp at h
  | s :: t, 0, h => ⟨rfl, rfl, rfl⟩
  | s :: t, i + 1, h => by
    have := usCells_at t i (by simpa using h)
    have e : M.uAt (s :: t) (i + 1) = M.uAt t i := by simp [M.uAt]
    rw [usCells_cons, e, show (i + 1) * 3 = i * 3 + 1 + 1 + 1 by omega]
    simpa using this
theorem usCells_setN : ∀ (ts : List M.Us) (i : Nat), i < ts.length → ∀ n : Int, (usCells ts).set (i * 3 + 1) (.int .i64 n) = usCells (ts.set i ((M.uAt ts i).1, n, (M.uAt ts i).2.2))
  | [], i, h, n => by simp at h
  | s :: t, 0, h, n => rfl
  | s :: t, i + 1, h, n => by
    have ih := usCells_setN t i (by simpa using h) n
    have e : M.uAt (s :: t) (i + 1) = M.uAt t i := by simp [M.uAt]
    rw [e, List.set_cons_succ, usCells_cons, usCells_cons, ← ih, show (i + 1) * 3 + 1 = (i * 3 + 1) + 1 + 1 + 1 by omega]
    simp only [List.set_cons_succ]
theorem usCells_setG : ∀ (ts : List M.Us) (i : Nat), i < ts.length → ∀ n : Int, (usCells ts).set (i * 3 + 2) (.int .i64 n) = usCells (ts.set i ((M.uAt ts i).1, (M.uAt ts i).2.1, n))
  | [], i, h, n => by simp at h
  | s :: t, 0, h, n => rfl
  | s :: t, i + 1, h, n => by
    have ih := usCells_setG t i (by simpa using h) n
    have e : M.uAt (s :: t) (i + 1) = M.uAt t i := by simp [M.uAt]
    rw [e, List.set_cons_succ, usCells_cons, usCells_cons, ← ih, show (i + 1) * 3 + 2 = (i * 3 + 2) + 1 + 1 + 1 by omega]
    simp only [List.set_cons_succ]
/-- uses, where they lie -/
def ThreeAt (w : World) (b off : Nat) (u : M.Us) : Prop := w.cell? ⟨b, off, none⟩ = some (.int .i64 u.1) ∧ w.cell? ⟨b, off + 1, none⟩ = some (.int .i64 u.2.1) ∧ w.cell? ⟨b, off + 2, none⟩ = some (.int .i64 u.2.2)
def RdU (w : World) (a : Option Addr) (xs : List M.Us) : Prop :=
  xs.length ≤ maxLen ∧ (xs ≠ [] → ∃ b off, a = some ⟨b, off, none⟩ ∧ b < w.heap.size ∧ ∀ i, i < xs.length → ThreeAt w b (off + i * 3) (M.uAt xs i))
theorem RdU.below {w w' : World} {a : Option Addr} {xs : List M.Us} (h : RdU w a xs) (hb : Below w.heap.size w w') : RdU w' a xs :=
  ⟨h.1, fun hn => by
    obtain ⟨b, off, e, hl, hc⟩ := h.2 hn
    exact ⟨b, off, e, Nat.lt_of_lt_of_le hl hb.size, fun i hi => ⟨(hb.cell (p := ⟨b, off + i * 3, none⟩) hl).trans (hc i hi).1, (hb.cell (p := ⟨b, off + i * 3 + 1, none⟩) hl).trans (hc i hi).2.1, (hb.cell (p := ⟨b, off + i * 3 + 2, none⟩) hl).trans (hc i hi).2.2⟩⟩⟩
theorem own_rdU {w : World} {base n : Nat} {v : Value} {xs : List M.Us} (hn : xs.length = n) (hm : n ≤ maxLen) (h : w.ownsRow base 43 3 v n (usCells xs)) : ∃ a cap, v = .slice a n cap ∧ RdU w a xs ∧ (∀ p, a = some p → base ≤ p.block) := by
  subst hn
  rcases h.2 with ⟨hv, h0⟩ | ⟨g, cap, cur, hv, hb, hg, h1, h2, h3, h4⟩
  · have e : xs = [] := List.length_eq_zero_iff.1 h0
    subst e
    exact ⟨none, 0, hv, ⟨Nat.zero_le _, fun h => absurd rfl h⟩, fun p hp => by cases hp⟩
  · subst hv
    refine ⟨_, cap, rfl, ⟨hm, fun _ => ⟨g, 0, rfl, (Array.getElem?_eq_some_iff.1 hg).1, fun i hi => ?_⟩⟩, fun p hp => by cases hp; exact hb⟩
    obtain ⟨q0, q1, q2⟩ := usCells_at xs i hi
    rw [Nat.zero_add]
    exact ⟨(h.cellAt (i * 3) (by omega)).trans q0, (h.cellAt (i * 3 + 1) (by omega)).trans q1, (h.cellAt (i * 3 + 2) (by omega)).trans q2⟩
/-- a part of them, as what is handed to append -/
theorem us_src {w : World} {b off k n : Nat} {xs : List M.Us} (hc : ∀ i, i < xs.length → ThreeAt w b (off + i * 3) (M.uAt xs i)) (hk : k + n ≤ xs.length) : ∀ j u, (usCells ((xs.drop k).take n))[j]? = some u → w.cell? ((⟨b, off + k * 3, none⟩ : Addr).add j) = some u := by
  intro j u hj
  have ln : ((xs.drop k).take n).length = n := by rw [List.length_take, List.length_drop]; omega
  have hl : j < n * 3 := by
    have := (List.getElem?_eq_some_iff.1 hj).1
    rwa [usCells_len, ln] at this
  have hi : j / 3 < n := by omega
  obtain ⟨h0, h1, h2⟩ := hc (k + j / 3) (by omega)
  obtain ⟨q0, q1, q2⟩ := usCells_at ((xs.drop k).take n) (j / 3) (by omega)
  have ea : M.uAt ((xs.drop k).take n) (j / 3) = M.uAt xs (k + j / 3) := by
    unfold M.uAt
    simp [List.getD, List.getElem?_drop, hi]
  rw [ea] at q0 q1 q2
  have add_flat : (⟨b, off + k * 3, none⟩ : Addr).add j = ⟨b, off + k * 3 + j, none⟩ := by unfold Addr.add; simp
  rw [add_flat]
  rcases (show j = j / 3 * 3 ∨ j = j / 3 * 3 + 1 ∨ j = j / 3 * 3 + 2 by omega) with e | e | e
  · rw [e, q0] at hj; rw [← hj, show off + k * 3 + j = off + (k + j / 3) * 3 by omega]; exact h0
  · rw [e, q1] at hj; rw [← hj, show off + k * 3 + j = off + (k + j / 3) * 3 + 1 by omega]; exact h1
  · rw [e, q2] at hj; rw [← hj, show off + k * 3 + j = off + (k + j / 3) * 3 + 2 by omega]; exact h2

end Go.Proofs.Ytlloiccodjnkcag

namespace Go.Proofs.Ytlloiccodjnkcag.M
set_option linter.unusedVariables false

/-- the sum of squares less the mean, rounded down -/
def sprd (l : List Sa) : Int := if l.length = 0 then 0 else ((l.length : Nat) * sqT l - sumT l * sumT l) / (l.length : Nat)
theorem sprd_some {l : List Sa} (h : 0 < l.length) : sprd l = ((l.length : Nat) * sqT l - sumT l * sumT l) / (l.length : Nat) := by unfold sprd; rw [if_neg (by omega)]
theorem sprd_none {l : List Sa} (h : l.length = 0) : sprd l = 0 := by unfold sprd; rw [if_pos h]
theorem sq_nonneg (x : Int) : 0 ≤ x * x := by
  by_cases h : 0 ≤ x
  · exact Int.mul_nonneg h h
  · have e : x * x = (-x) * (-x) := by grind
    rw [e]; exact Int.mul_nonneg (by omega) (by omega)
theorem sqT_bd : ∀ {l : List Sa}, (∀ s ∈ l, -1000 ≤ s.2 ∧ s.2 ≤ 1000) → 0 ≤ sqT l ∧ sqT l ≤ 1000000 * (l.length : Nat)
  | [], _ => by simp [sqT]
  | s :: l, h => by
    have ih := sqT_bd (l := l) fun x hx => h x (List.mem_cons_of_mem _ hx)
    have h1 := h s (List.mem_cons_self ..)
    have q0 := sq_nonneg s.2
    have q1 : s.2 * s.2 ≤ 1000000 := by
      have a : 0 ≤ (1000 - s.2) * (1000 + s.2) := Int.mul_nonneg (by omega) (by omega)
      have e : (1000 - s.2) * (1000 + s.2) = 1000000 - s.2 * s.2 := by grind
      omega
    show 0 ≤ s.2 * s.2 + sqT l ∧ s.2 * s.2 + sqT l ≤ 1000000 * ((l.length + 1 : Nat) : Int)
    omega
/-- the square of the sum is no more than as many times the sum of squares -/
theorem sum_sq : ∀ l : List Sa, sumT l * sumT l ≤ (l.length : Nat) * sqT l
  | [] => by simp [sumT, sqT]
  | s :: l => by
    have ih := sum_sq l
    show (s.2 + sumT l) * (s.2 + sumT l) ≤ ((l.length + 1 : Nat) : Int) * (s.2 * s.2 + sqT l)
    have e1 : ((l.length + 1 : Nat) : Int) = (l.length : Nat) + 1 := by omega
    rw [e1]
    -- 2 x S ≤ n x² + q where S² ≤ n q
    have k : 2 * s.2 * sumT l ≤ (l.length : Nat) * (s.2 * s.2) + sqT l := by
      rcases Nat.eq_zero_or_pos l.length with z | z
      · have : l = [] := List.length_eq_zero_iff.1 z
        subst this
        simp [sumT, sqT]
      · have hn : (0 : Int) < (l.length : Nat) := by omega
        generalize ((l.length : Nat) : Int) = n at *
        generalize sumT l = S at *
        generalize sqT l = q at *
        generalize s.2 = x at *
        have sq := sq_nonneg (n * x - S)
        have e : (n * x - S) * (n * x - S) = n * (n * (x * x)) - n * (2 * x * S) + S * S := by grind
        have : n * (2 * x * S) ≤ n * (n * (x * x) + q) := by
          have e3 : n * (n * (x * x) + q) = n * (n * (x * x)) + n * q := by grind
          omega
        exact Int.le_of_mul_le_mul_left this hn
    generalize ((l.length : Nat) : Int) = n at *
    have e2 : (s.2 + sumT l) * (s.2 + sumT l) = s.2 * s.2 + 2 * s.2 * sumT l + sumT l * sumT l := by grind
    have e3 : (n + 1) * (s.2 * s.2 + sqT l) = n * (s.2 * s.2) + s.2 * s.2 + n * sqT l + sqT l := by grind
    omega
theorem sprd_nonneg (l : List Sa) : 0 ≤ sprd l := by
  rcases Nat.eq_zero_or_pos l.length with z | z
  · rw [sprd_none z]; omega
  · rw [sprd_some z]
    have := sum_sq l
    exact Int.ediv_nonneg (by omega) (by omega)
/-- no more on both sides than at it -/
theorem sprd_part (l : List Sa) (f : Nat) (c : Int) : sprd (partS l f c true) + sprd (partS l f c false) ≤ sprd l := by
  obtain ⟨s1, s2⟩ := part_sum l f c
  have q := sqT_part l f c
  rcases Nat.eq_zero_or_pos (partS l f c true).length with z | z
  · have e : partS l f c true = [] := List.length_eq_zero_iff.1 z
    rw [e] at s1 s2 q
    rw [e]
    have z0 : sprd ([] : List Sa) = 0 := rfl
    have a1 : sumT (partS l f c false) = sumT l := by have : sumT ([] : List Sa) = 0 := rfl; omega
    have a2 : (partS l f c false).length = l.length := by simpa using s2
    have a3 : sqT (partS l f c false) = sqT l := by have : sqT ([] : List Sa) = 0 := rfl; omega
    have : sprd (partS l f c false) = sprd l := by unfold sprd; rw [a1, a2, a3]
    omega
  · rcases Nat.eq_zero_or_pos (partS l f c false).length with y | y
    · have e : partS l f c false = [] := List.length_eq_zero_iff.1 y
      rw [e] at s1 s2 q
      rw [e]
      have z0 : sprd ([] : List Sa) = 0 := rfl
      have a1 : sumT (partS l f c true) = sumT l := by have : sumT ([] : List Sa) = 0 := rfl; omega
      have a2 : (partS l f c true).length = l.length := by simpa using s2
      have a3 : sqT (partS l f c true) = sqT l := by have : sqT ([] : List Sa) = 0 := rfl; omega
      have : sprd (partS l f c true) = sprd l := by unfold sprd; rw [a1, a2, a3]
      omega
    · rw [sprd_some z, sprd_some y, sprd_some (l := l) (by omega)]
      have en : ((l.length : Nat) : Int) = ((partS l f c true).length : Nat) + ((partS l f c false).length : Nat) := by omega
      rw [← q, ← s1, en]
      have p1 : (0 : Int) < ((partS l f c true).length : Nat) := by omega
      have p2 : (0 : Int) < ((partS l f c false).length : Nat) := by omega
      generalize (((partS l f c true).length : Nat) : Int) = a at *
      generalize (((partS l f c false).length : Nat) : Int) = b at *
      generalize sumT (partS l f c true) = S1 at *
      generalize sumT (partS l f c false) = S2 at *
      generalize sqT (partS l f c true) = Q1 at *
      generalize sqT (partS l f c false) = Q2 at *
      have x1 : (a * Q1 - S1 * S1) / a * a ≤ a * Q1 - S1 * S1 := Int.ediv_mul_le _ (by omega)
      have y1 : (b * Q2 - S2 * S2) / b * b ≤ b * Q2 - S2 * S2 := Int.ediv_mul_le _ (by omega)
      generalize (a * Q1 - S1 * S1) / a = x at *
      generalize (b * Q2 - S2 * S2) / b = w at *
      refine (Int.le_ediv_iff_mul_le (by omega)).2 ?_
      have sq := sq_nonneg (b * S1 - a * S2)
      have ab : 0 < a * b := Int.mul_pos p1 p2
      have k1 : x * a * (b * (a + b)) ≤ (a * Q1 - S1 * S1) * (b * (a + b)) := Int.mul_le_mul_of_nonneg_right x1 (Int.mul_nonneg (by omega) (by omega))
      have k2 : w * b * (a * (a + b)) ≤ (b * Q2 - S2 * S2) * (a * (a + b)) := Int.mul_le_mul_of_nonneg_right y1 (Int.mul_nonneg (by omega) (by omega))
      have id : ((a + b) * (Q1 + Q2) - (S1 + S2) * (S1 + S2)) * (a * b) = (a * Q1 - S1 * S1) * (b * (a + b)) + (b * Q2 - S2 * S2) * (a * (a + b)) + (b * S1 - a * S2) * (b * S1 - a * S2) := by grind
      have fin : (x + w) * (a + b) * (a * b) ≤ ((a + b) * (Q1 + Q2) - (S1 + S2) * (S1 + S2)) * (a * b) := by
        have e : (x + w) * (a + b) * (a * b) = x * a * (b * (a + b)) + w * b * (a * (a + b)) := by grind
        omega
      exact Int.le_of_mul_le_mul_right fin ab

theorem sqT_app (a b : List Sa) : sqT (a ++ b) = sqT a + sqT b := by
  induction a with
  | nil => show sqT b = 0 + sqT b; omega
  | cons s a ih => show s.2 * s.2 + sqT (a ++ b) = s.2 * s.2 + sqT a + sqT b; rw [ih]; omega

end Go.Proofs.Ytlloiccodjnkcag.M

namespace Go.Proofs.Ytlloiccodjnkcag.M
set_option linter.unusedVariables false

/-! ### together -/
def sumU : List Us → Int
  | [] => 0
  | u :: l => u.2.1 + sumU l
theorem sumU_app : ∀ a b : List Us, sumU (a ++ b) = sumU a + sumU b
  | [], b => by show sumU b = 0 + sumU b; omega
  | u :: a, b => by
    show u.2.1 + sumU (a ++ b) = u.2.1 + sumU a + sumU b
    rw [sumU_app a b]; omega
theorem sumU_ins (g : Bool) (out : List Us) (u : Us) : sumU (insU g out u) = sumU out + u.2.1 := by
  unfold insU
  have e : sumU out = sumU (out.take (toU g out u out.length)) + sumU (out.drop (toU g out u out.length)) := by
    rw [← sumU_app, List.take_append_drop]
  rw [sumU_app, sumU_app, e]
  show _ + (u.2.1 + 0) + _ = _
  omega
theorem sumU_rankK (g : Bool) (l : List Us) : ∀ k, k ≤ l.length → sumU (rankK g l k) = sumU (l.take k)
  | 0, _ => by simp [rankK, sumU]
  | k + 1, hk => by
    have ih := sumU_rankK g l k (by omega)
    have hk' : k < l.length := by omega
    rw [List.take_succ_eq_append_getElem hk', sumU_app]
    unfold rankK
    rw [usAt l hk']
    by_cases z : l[k].2.1 = 0
    · rw [if_pos z, ih]
      show _ = _ + (l[k].2.1 + 0)
      omega
    · rw [if_neg z, sumU_ins, ih]
      show _ = _ + (l[k].2.1 + 0)
      omega
theorem sumU_rank (g : Bool) (l : List Us) : sumU (rankU g l) = sumU l := by
  unfold rankU
  rw [sumU_rankK g l l.length (Nat.le_refl _), List.take_length]
/-! ### how many ask -/
def askN : List Nd → Nat
  | [] => 0
  | n :: t => (if nf n = -1 then 0 else 1) + askN t
def lfN : List Nd → Nat
  | [] => 0
  | n :: t => (if nf n = -1 then 1 else 0) + lfN t
theorem ask_lf : ∀ t : List Nd, askN t + lfN t = t.length
  | [] => rfl
  | n :: t => by
    have := ask_lf t
    show (if nf n = -1 then 0 else 1) + askN t + ((if nf n = -1 then 1 else 0) + lfN t) = t.length + 1
    split <;> omega
theorem ask_lay : ∀ (T : BT) (k : Nat) {m : Int}, okB m T → askN (lay T k) + 1 = T.lvs
  | .lf v, k, m, _ => rfl
  | .nd f c s l r, k, m, h => by
    have h1 := ask_lay l (k + 1) h.2.2.2.1
    have h2 := ask_lay r (k + 1 + l.size) h.2.2.2.2
    have app : ∀ a b : List Nd, askN (a ++ b) = askN a + askN b := by
      intro a b
      induction a with
      | nil => show askN b = 0 + askN b; omega
      | cons n a ih => show (if nf n = -1 then 0 else 1) + askN (a ++ b) = (if nf n = -1 then 0 else 1) + askN a + askN b; rw [ih]; omega
    show (if f = -1 then 0 else 1) + askN (lay l (k + 1) ++ lay r (k + 1 + l.size)) + 1 = l.lvs + r.lvs
    rw [if_neg (by have := h.1; omega), app]
    omega
theorem ask_two (T : BT) (k : Nat) {m : Int} (h : okB m T) : 2 * askN (lay T k) + 1 = T.size := by
  have h1 := ask_lay T k h
  have h2 := BT.two T
  omega
/-- features within eight -/
theorem cnt_sum : ∀ t : List Nd, (∀ n ∈ t, nf n = -1 ∨ (0 ≤ nf n ∧ nf n < 8)) → ((List.range 8).map fun (i : Nat) => cntN (i : Int) t).sum = askN t
  | [], _ => rfl
  | n :: t, h => by
    have ih := cnt_sum t fun x hx => h x (List.mem_cons_of_mem _ hx)
    have hn := h n (List.mem_cons_self ..)
    have e : ∀ (l : List Nat), (l.map fun (i : Nat) => cntN (i : Int) (n :: t)).sum = (l.map fun (i : Nat) => if nf n = (i : Int) then 1 else 0).sum + (l.map fun (i : Nat) => cntN (i : Int) t).sum := by
      intro l
      induction l with
      | nil => rfl
      | cons a l ih =>
        rw [List.map_cons, List.sum_cons, ih, List.map_cons, List.sum_cons, List.map_cons, List.sum_cons]
        show (if nf n = (a : Int) then 1 else 0) + cntN (a : Int) t + _ = _
        omega
    rw [e, ih]
    show _ = (if nf n = -1 then 0 else 1) + askN t
    congr 1
    rcases hn with z | ⟨z1, z2⟩
    · rw [if_pos z, z]; decide
    · rw [if_neg (by omega)]
      obtain ⟨k, hk⟩ : ∃ k : Nat, nf n = (k : Int) := ⟨(nf n).toNat, by omega⟩
      rw [hk]
      have k8 : k < 8 := by omega
      have : k = 0 ∨ k = 1 ∨ k = 2 ∨ k = 3 ∨ k = 4 ∨ k = 5 ∨ k = 6 ∨ k = 7 := by omega
      rcases this with z | z | z | z | z | z | z | z <;> subst z <;> decide
def askG : List (List Nd) → Nat
  | [] => 0
  | t :: l => askN t + askG l
theorem use_sum : ∀ l : List (List Nd), (∀ t ∈ l, ∀ n ∈ t, nf n = -1 ∨ (0 ≤ nf n ∧ nf n < 8)) → ((List.range 8).map fun (i : Nat) => cntG (i : Int) l).sum = askG l
  | [], _ => rfl
  | t :: l, h => by
    have ih := use_sum l fun x hx => h x (List.mem_cons_of_mem _ hx)
    have ht := cnt_sum t (h t (List.mem_cons_self ..))
    have e : ∀ (r : List Nat), (r.map fun (i : Nat) => cntG (i : Int) (t :: l)).sum = (r.map fun (i : Nat) => cntN (i : Int) t).sum + (r.map fun (i : Nat) => cntG (i : Int) l).sum := by
      intro r
      induction r with
      | nil => rfl
      | cons a r ih =>
        rw [List.map_cons, List.sum_cons, ih, List.map_cons, List.sum_cons, List.map_cons, List.sum_cons]
        show cntN (a : Int) t + cntG (a : Int) l + _ = _
        omega
    rw [e, ht, ih]
    rfl
theorem uses_sum {l : List (List Nd)} (h : ∀ t ∈ l, ∀ n ∈ t, nf n = -1 ∨ (0 ≤ nf n ∧ nf n < 8)) : sumU (usesV l) = (askG l : Nat) := by
  unfold usesV
  rw [sumU_rank, ← use_sum l h]
  unfold useL
  generalize List.range 8 = r
  induction r with
  | nil => rfl
  | cons a r ih =>
    rw [List.map_cons, List.map_cons, List.sum_cons]
    show ((cntG (a : Int) l : Nat) : Int) + sumU _ = _
    rw [ih]; omega
/-! ### two lists -/
def sameN : List Int → List Int → Nat
  | x :: a, y :: b => (if x = y then 1 else 0) + sameN a b
  | _, _ => 0
def sameF (a b : List Int) : Int := if a.length ≠ b.length then 3 else if 1000 < a.length then 4 else 0
def sameV (a b : List Int) : Int := if sameF a b = 0 then (sameN a b : Nat) else 0
theorem same_turn : ∀ a b : List Int, sameN a b = sameN b a
  | [], [] => rfl
  | [], _ :: _ => rfl
  | _ :: _, [] => rfl
  | x :: a, y :: b => by
    show (if x = y then 1 else 0) + sameN a b = (if y = x then 1 else 0) + sameN b a
    rw [same_turn a b]
    by_cases e : x = y
    · rw [if_pos e, if_pos e.symm]
    · rw [if_neg e, if_neg (fun z => e z.symm)]
theorem same_self : ∀ a : List Int, sameN a a = a.length
  | [] => rfl
  | x :: a => by
    show (if x = x then 1 else 0) + sameN a a = a.length + 1
    rw [if_pos rfl, same_self a]; omega
theorem same_le : ∀ a b : List Int, sameN a b ≤ a.length
  | [], [] => Nat.le_refl _
  | [], _ :: _ => Nat.le_refl _
  | _ :: _, [] => Nat.zero_le _
  | x :: a, y :: b => by
    have := same_le a b
    show (if x = y then 1 else 0) + sameN a b ≤ a.length + 1
    split <;> omega
theorem same_app : ∀ (a b c d : List Int), a.length = b.length → sameN (a ++ c) (b ++ d) = sameN a b + sameN c d
  | [], [], c, d, _ => by show sameN c d = 0 + sameN c d; omega
  | [], _ :: _, _, _, h => by simp at h
  | _ :: _, [], _, _, h => by simp at h
  | x :: a, y :: b, c, d, h => by
    have ih := same_app a b c d (by simpa using h)
    show (if x = y then 1 else 0) + sameN (a ++ c) (b ++ d) = (if x = y then 1 else 0) + sameN a b + sameN c d
    rw [ih]; omega
theorem same_more {a b : List Int} (h : a.length = b.length) {k : Nat} (hk : k < a.length) : sameN (a.take (k + 1)) (b.take (k + 1)) = sameN (a.take k) (b.take k) + (if a.getD k 0 = b.getD k 0 then 1 else 0) := by
  rw [List.take_succ_eq_append_getElem hk, List.take_succ_eq_append_getElem (by omega), same_app _ _ _ _ (by rw [List.length_take, List.length_take, h]), getD_at hk, getD_at (by omega)]
  rfl

end Go.Proofs.Ytlloiccodjnkcag.M

namespace Go.Proofs.Ytlloiccodjnkcag.M
set_option linter.unusedVariables false

theorem way_rise {t : List Nd} {m : Int} (h : Right t m) (r : List Int) : ∀ (f i : Nat), i < t.length → t.length ≤ f + i → (way t r i).Pairwise (fun a b => a < b)
  | 0, i, hi, hf => by omega
  | f + 1, i, hi, hf => by
    by_cases hl : nf (nAt t i) = -1
    · rw [way_leaf hi hl]; exact List.pairwise_singleton _ _
    · obtain ⟨k, e, h1, h2⟩ := next_in h r hi hl
      rw [way_next h hi hl e]
      exact List.pairwise_cons.2 ⟨fun j hj => by have := way_mem h r f k h2 (by omega) j hj; omega, way_rise h r f k h2 (by omega)⟩
theorem path_rise {t : List Nd} {r : List Int} : (pathV t r).Pairwise (fun a b => a < b) := by
  unfold pathV
  split
  · rename_i hz
    have hR : ∃ m : Int, Right t m ∧ 0 < t.length := by
      unfold readyF at hz
      by_cases c : rowF r ≠ 0
      · rw [if_pos c] at hz; exact absurd hz c
      · rw [if_neg c] at hz
        exact ⟨(r.length : Int), (tree_ok hz).1.2.2.2.2.1, (tree_ok hz).1.2.1⟩
    obtain ⟨m, h1, h2⟩ := hR
    rw [List.pairwise_map]
    exact (way_rise h1 r t.length 0 h2 (by omega)).imp fun {a b} q => (show ((a : Nat) : Int) < ((b : Nat) : Int) by omega)
  · exact List.Pairwise.nil
/-- who comes over a node -/
def overB (t : List Nd) (i : Nat) (s : Sa) : Bool := decide ((i : Int) ∈ pathV t s.1)
def hereS (t : List Nd) (l : List Sa) (i : Nat) : List Sa := l.filter (overB t i)
/-- what a node gains -/
def gainN (t : List Nd) (l : List Sa) (i : Nat) : Int := sprd (hereS t l i) - sprd (partS (hereS t l i) (nf (nAt t i)).toNat (nc (nAt t i)) true) - sprd (partS (hereS t l i) (nf (nAt t i)).toNat (nc (nAt t i)) false)
def gnK (t : List Nd) (l : List Sa) (f : Int) : Nat → Int
  | 0 => 0
  | i + 1 => if nf (nAt t i) = f then gnK t l f i + gainN t l i else gnK t l f i
theorem gain_pos (t : List Nd) (l : List Sa) (i : Nat) : 0 ≤ gainN t l i := by
  unfold gainN
  have := sprd_part (hereS t l i) (nf (nAt t i)).toNat (nc (nAt t i))
  omega
theorem gnK_pos (t : List Nd) (l : List Sa) (f : Int) : ∀ i, 0 ≤ gnK t l f i
  | 0 => Int.le_refl _
  | i + 1 => by
    have := gnK_pos t l f i
    have := gain_pos t l i
    unfold gnK
    split <;> omega
theorem sprd_le {l : List Sa} (h : ∀ s ∈ l, -1000 ≤ s.2 ∧ s.2 ≤ 1000) (hl : l.length ≤ 60) : sprd l ≤ 60000000 := by
  rcases Nat.eq_zero_or_pos l.length with z | z
  · rw [sprd_none z]; omega
  · rw [sprd_some z]
    have q := sqT_bd h
    have sq := sq_nonneg (sumT l)
    have hp : (0 : Int) < (l.length : Nat) := by omega
    refine Int.le_of_lt_add_one (Int.ediv_lt_of_lt_mul hp ?_)
    have e : (60000000 + 1) * ((l.length : Nat) : Int) = 60000000 * (l.length : Nat) + (l.length : Nat) := by omega
    have m : ((l.length : Nat) : Int) * sqT l ≤ (l.length : Nat) * 60000000 := Int.mul_le_mul_of_nonneg_left (by omega) (by omega)
    omega
theorem gain_le {t : List Nd} {l : List Sa} (h : ∀ s ∈ l, -1000 ≤ s.2 ∧ s.2 ≤ 1000) (hl : l.length ≤ 60) (i : Nat) : gainN t l i ≤ 60000000 := by
  have a := sprd_le (l := hereS t l i) (fun s hs => h s (List.mem_filter.1 hs).1) (Nat.le_trans (List.length_filter_le _ _) hl)
  have b := sprd_nonneg (partS (hereS t l i) (nf (nAt t i)).toNat (nc (nAt t i)) true)
  have c := sprd_nonneg (partS (hereS t l i) (nf (nAt t i)).toNat (nc (nAt t i)) false)
  unfold gainN
  omega
theorem gnK_le {t : List Nd} {l : List Sa} (h : ∀ s ∈ l, -1000 ≤ s.2 ∧ s.2 ≤ 1000) (hl : l.length ≤ 60) (f : Int) : ∀ i, gnK t l f i ≤ 60000000 * (i : Nat)
  | 0 => Int.le_refl _
  | i + 1 => by
    have a := gnK_le (t := t) h hl f i
    have b := gain_le (t := t) h hl i
    unfold gnK
    split <;> omega
/-- the gains of eight features -/
def gainL (t : List Nd) (l : List Sa) : List Us := (List.range 8).map fun (i : Nat) => ((i : Int), ((cntN (i : Int) t : Nat) : Int), gnK t l (i : Int) t.length)
theorem gainL_rise (t : List Nd) (l : List Sa) : RiseU (gainL t l) := by
  unfold RiseU gainL
  rw [List.pairwise_map]
  exact (List.pairwise_lt_range).imp fun {a b} h => (show ((a : Nat) : Int) < ((b : Nat) : Int) by omega)
def gainsV (t : List Nd) (l : List Sa) : List Us := rankU true (gainL t l)
/-- gains are not below 0, and each is in some node -/
theorem gains_pos {t : List Nd} {l : List Sa} {u : Us} (h : u ∈ gainsV t l) : 0 ≤ u.2.2 ∧ 1 ≤ u.2.1 := by
  unfold gainsV at h
  rw [(rank_spec (gainL_rise t l)).2] at h
  obtain ⟨h1, h2⟩ := h
  unfold gainL at h1
  obtain ⟨i, _, rfl⟩ := List.mem_map.1 h1
  refine ⟨gnK_pos t l _ _, ?_⟩
  have : ((cntN (i : Int) t : Nat) : Int) ≠ 0 := h2
  show 1 ≤ ((cntN (i : Int) t : Nat) : Int)
  omega

end Go.Proofs.Ytlloiccodjnkcag.M

namespace Go.Proofs.Ytlloiccodjnkcag.M
set_option linter.unusedVariables false

/-! ### values turned -/
def scB (f : Int → Int) : BT → BT
  | .lf v => .lf (f v)
  | .nd a c s l r => .nd a c s (scB f l) (scB f r)
theorem sc_size (f : Int → Int) : ∀ T : BT, (scB f T).size = T.size
  | .lf _ => rfl
  | .nd _ _ _ l r => by unfold scB BT.size; rw [sc_size f l, sc_size f r]
theorem sc_deep (f : Int → Int) : ∀ T : BT, (scB f T).deep = T.deep
  | .lf _ => rfl
  | .nd _ _ _ l r => by unfold scB BT.deep; rw [sc_deep f l, sc_deep f r]
theorem sc_ev (f : Int → Int) (x : List Int) : ∀ T : BT, evB (scB f T) x = f (evB T x)
  | .lf _ => rfl
  | .nd a c s l r => by
    have h1 := sc_ev f x l
    have h2 := sc_ev f x r
    show (if goes a c s x = true then evB (scB f l) x else evB (scB f r) x) = f (if goes a c s x = true then evB l x else evB r x)
    split
    · exact h1
    · exact h2
def inV (B : Int) : BT → Prop
  | .lf v => -B ≤ v ∧ v ≤ B
  | .nd _ _ _ l r => inV B l ∧ inV B r
theorem sc_ok {f : Int → Int} {B m : Int} (hf : ∀ v, -B ≤ v → v ≤ B → outI (f v) = false) : ∀ T : BT, okB m T → inV B T → okB m (scB f T)
  | .lf v, _, h => hf v h.1 h.2
  | .nd a c s l r, h, k => ⟨h.1, h.2.1, h.2.2.1, sc_ok hf l h.2.2.2.1 k.1, sc_ok hf r h.2.2.2.2 k.2⟩
theorem sc_in {f : Int → Int} {B C : Int} (hf : ∀ v, -B ≤ v → v ≤ B → -C ≤ f v ∧ f v ≤ C) : ∀ T : BT, inV B T → inV C (scB f T)
  | .lf v, h => hf v h.1 h.2
  | .nd a c s l r, k => ⟨sc_in hf l k.1, sc_in hf r k.2⟩
theorem in_ev {B : Int} (x : List Int) : ∀ T : BT, inV B T → -B ≤ evB T x ∧ evB T x ≤ B
  | .lf v, h => h
  | .nd a c s l r, h => by
    have h1 := in_ev x l h.1
    have h2 := in_ev x r h.2
    show -B ≤ (if goes a c s x = true then evB l x else evB r x) ∧ (if goes a c s x = true then evB l x else evB r x) ≤ B
    split
    · exact h1
    · exact h2
theorem grow_in {m : Nat} {least : Int} (h1 : 1 ≤ least) : ∀ (d : Nat) {l : List Sa}, GoodS l m → 0 < l.length → inV 1000 (growT m least d l)
  | 0, l, h, hl => mean_in h hl
  | d + 1, l, h, hl => by
    unfold growT
    split
    · rename_i q
      obtain ⟨s1, ⟨i, hi, e⟩, s3, s4, _⟩ := grow_sides h1 hl q
      have n1 : 0 < (partS l (spV l m least).2.2.1 (spV l m least).2.2.2.1 true).length := by unfold nB at s3; omega
      have n2 : 0 < (partS l (spV l m least).2.2.1 (spV l m least).2.2.2.1 false).length := by unfold nB at s4; omega
      exact ⟨grow_in h1 d (h.part _ _ _) n1, grow_in h1 d (h.part _ _ _) n2⟩
    · exact mean_in h hl
def scN (f : Int → Int) (n : Nd) : Nd := (nf n, nc n, nl n, nr n, ns n, f (nv n))
theorem sc_lay {f : Int → Int} (h0 : f 0 = 0) : ∀ (T : BT) (k : Nat), lay (scB f T) k = (lay T k).map (scN f)
  | .lf v, k => rfl
  | .nd a c s l r, k => by
    show (a, c, ((k + 1 : Nat) : Int), ((k + 1 + (scB f l).size : Nat) : Int), s, 0) :: (lay (scB f l) (k + 1) ++ lay (scB f r) (k + 1 + (scB f l).size)) = ((a, c, ((k + 1 : Nat) : Int), ((k + 1 + l.size : Nat) : Int), s, 0) :: (lay l (k + 1) ++ lay r (k + 1 + l.size))).map (scN f)
    rw [sc_size, sc_lay h0 l, sc_lay h0 r, List.map_cons, List.map_append]
    congr 1
    show _ = (a, c, ((k + 1 : Nat) : Int), ((k + 1 + l.size : Nat) : Int), s, f 0)
    rw [h0]

/-! ### rounds -/
/-- made fit to what a target may be -/
def fitT (x : Int) : Int := if 1000 < x then 1000 else if x < -1000 then -1000 else x
theorem fit_in (x : Int) : -1000 ≤ fitT x ∧ fitT x ≤ 1000 := by unfold fitT; split <;> (try split) <;> omega
/-- samples with what is left of them -/
def lesS : List Sa → List Int → List Sa
  | s :: l, x :: r => (s.1, fitT x) :: lesS l r
  | _, _ => []
theorem les_len : ∀ (l : List Sa) (r : List Int), r.length = l.length → (lesS l r).length = l.length
  | [], [], _ => rfl
  | s :: l, x :: r, h => by
    show (lesS l r).length + 1 = l.length + 1
    rw [les_len l r (by simpa using h)]
  | [], _ :: _, h => by simp at h
  | _ :: _, [], h => by simp at h
theorem les_mem : ∀ (l : List Sa) (r : List Int) (s : Sa), s ∈ lesS l r → -1000 ≤ s.2 ∧ s.2 ≤ 1000 ∧ ∃ u ∈ l, s.1 = u.1
  | [], r, s, h => by unfold lesS at h; cases h
  | u :: l, [], s, h => by unfold lesS at h; cases h
  | u :: l, x :: r, s, h => by
    rcases List.mem_cons.1 h with rfl | h
    · exact ⟨(fit_in x).1, (fit_in x).2, u, List.mem_cons_self .., rfl⟩
    · obtain ⟨h1, h2, v, hv, e⟩ := les_mem l r s h
      exact ⟨h1, h2, v, List.mem_cons_of_mem _ hv, e⟩
theorem les_good {l : List Sa} {m : Nat} {r : List Int} (h : GoodS l m) (hr : r.length = l.length) : GoodS (lesS l r) m :=
  ⟨by rw [les_len l r hr]; exact h.le, h.m8, fun s hs => by
    obtain ⟨h1, h2, u, hu, e⟩ := les_mem l r s hs
    obtain ⟨z1, z2, z3, z4⟩ := h.each u hu
    rw [e]
    exact ⟨z1, z2, ⟨h1, h2⟩, z4⟩⟩
/-- so many hundredths, rounded towards 0 -/
def shrV (share v : Int) : Int := (v * share).tdiv 100
theorem shr_zero (share : Int) : shrV share 0 = 0 := by unfold shrV; simp
theorem shr_in {share : Int} (h1 : 1 ≤ share) (h2 : share ≤ 100) (v : Int) (a : -1000 ≤ v) (b : v ≤ 1000) : -1000 ≤ shrV share v ∧ shrV share v ≤ 1000 := by
  unfold shrV
  have e1 : v * share ≤ 1000 * share := Int.mul_le_mul_of_nonneg_right b (by omega)
  have e2 : -1000 * share ≤ v * share := Int.mul_le_mul_of_nonneg_right a (by omega)
  have c1 : v * share ≤ 100000 := by omega
  have c2 : -100000 ≤ v * share := by omega
  generalize v * share = x at *
  by_cases hx : 0 ≤ x
  · rw [Int.tdiv_eq_ediv_of_nonneg hx]; omega
  · have : x.tdiv 100 = -((-x) / 100) := by
      rw [← Int.tdiv_eq_ediv_of_nonneg (a := -x) (by omega), Int.neg_tdiv, Int.neg_neg]
    rw [this]; omega
def lessL (T : BT) : List Sa → List Int → List Int
  | s :: l, x :: r => (x - evB T s.1) :: lessL T l r
  | _, _ => []
theorem less_len (T : BT) : ∀ (l : List Sa) (r : List Int), r.length = l.length → (lessL T l r).length = l.length
  | [], [], _ => rfl
  | s :: l, x :: r, h => by
    show (lessL T l r).length + 1 = l.length + 1
    rw [less_len T l r (by simpa using h)]
  | [], _ :: _, h => by simp at h
  | _ :: _, [], h => by simp at h
theorem less_at (T : BT) : ∀ (l : List Sa) (r : List Int), r.length = l.length → ∀ i, i < l.length → (lessL T l r).getD i 0 = r.getD i 0 - evB T (sAt l i).1
  | [], [], _, i, hi => by simp at hi
  | s :: l, x :: r, h, 0, hi => rfl
  | s :: l, x :: r, h, i + 1, hi => less_at T l r (by simpa using h) i (by simpa using hi)
  | [], _ :: _, h, i, hi => by simp at h
  | _ :: _, [], h, i, hi => by simp at h
def sqs : List Int → Int
  | [] => 0
  | x :: r => x * x + sqs r
/-- trees so far, what is left, whether it has ended -/
abbrev BoS := List BT × List Int × Bool
def boT (m dp : Nat) (share : Int) (l : List Sa) (r : List Int) : BT := scB (shrV share) (growT m 1 dp (lesS l r))
def boN (m dp : Nat) (share : Int) (l : List Sa) (st : BoS) : BoS :=
  if st.2.2 = true then st else if sqs st.2.1 ≤ sqs (lessL (boT m dp share l st.2.1) l st.2.1) then (st.1, st.2.1, true) else (st.1 ++ [boT m dp share l st.2.1], lessL (boT m dp share l st.2.1) l st.2.1, false)
def bo0 (l : List Sa) : BoS := ([.lf (meanS l)], l.map (fun s => s.2 - meanS l), false)
def boR (m dp : Nat) (share : Int) (l : List Sa) : Nat → BoS
  | 0 => bo0 l
  | k + 1 => boN m dp share l (boR m dp share l k)
/-- what all trees so far tell together -/
def allB : List BT → List Int → Int
  | [], _ => 0
  | T :: L, x => evB T x + allB L x
theorem allB_app : ∀ (A B : List BT) (x : List Int), allB (A ++ B) x = allB A x + allB B x
  | [], B, x => by show allB B x = 0 + allB B x; omega
  | T :: A, B, x => by
    show evB T x + allB (A ++ B) x = evB T x + allB A x + allB B x
    rw [allB_app A B x]; omega
structure BoI (m dp : Nat) (l : List Sa) (k : Nat) (st : BoS) : Prop where
  t0 : 0 < st.1.length
  tk : st.1.length ≤ k + 1
  each : ∀ T ∈ st.1, okB (m : Int) T ∧ inV 1000 T ∧ T.deep ≤ dp ∧ T.size + 1 ≤ 2 ^ (dp + 1)
  len : st.2.1.length = l.length
  rest : ∀ i, i < l.length → st.2.1.getD i 0 = (sAt l i).2 - allB st.1 (sAt l i).1
theorem pow_one (dp : Nat) : 2 ≤ 2 ^ (dp + 1) := by
  have := Nat.one_le_two_pow (n := dp)
  rw [Nat.pow_succ]; omega
theorem bo_first {m dp : Nat} {l : List Sa} (h : GoodS l m) (hl : 0 < l.length) : BoI m dp l 0 (bo0 l) := by
  have mi := mean_in h hl
  refine ⟨Nat.one_pos, Nat.le_refl _, fun T hT => ?_, by unfold bo0; simp, fun i hi => ?_⟩
  · have : T = .lf (meanS l) := by unfold bo0 at hT; simpa using hT
    subst this
    exact ⟨out_in (by omega) (by omega), mi, Nat.zero_le _, pow_one dp⟩
  · show (l.map (fun s => s.2 - meanS l)).getD i 0 = (sAt l i).2 - (meanS l + 0)
    unfold sAt
    rw [getD_at (by simpa using hi), getD_at hi, List.getElem_map]; omega
theorem bo_next {m dp k : Nat} {share : Int} {l : List Sa} {st : BoS} (h : GoodS l m) (hl : 0 < l.length) (s1 : 1 ≤ share) (s2 : share ≤ 100) (I : BoI m dp l k st) : BoI m dp l (k + 1) (boN m dp share l st) := by
  unfold boN
  have up : BoI m dp l (k + 1) st := ⟨I.t0, by have := I.tk; omega, I.each, I.len, I.rest⟩
  split
  · exact up
  · split
    · exact ⟨up.t0, up.tk, up.each, up.len, up.rest⟩
    · have G := les_good h I.len
      have ll : 0 < (lesS l st.2.1).length := by rw [les_len l _ I.len]; exact hl
      have gi := grow_in (m := m) (least := 1) (Int.le_refl _) dp G ll
      have go := grow_ok (m := m) (least := 1) (Int.le_refl _) dp G ll
      have gd := grow_deep m 1 dp (lesS l st.2.1)
      have bi : inV 1000 (boT m dp share l st.2.1) := sc_in (fun v a b => shr_in s1 s2 v a b) _ gi
      refine ⟨by simp, by simp; have := I.tk; omega, fun T hT => ?_, less_len _ l _ I.len, fun i hi => ?_⟩
      · rcases List.mem_append.1 hT with q | q
        · exact I.each T q
        · have : T = boT m dp share l st.2.1 := by simpa using q
          subst this
          refine ⟨sc_ok (fun v a b => ?_) _ go gi, bi, ?_, ?_⟩
          · have := shr_in s1 s2 v a b
            exact out_in (by omega) (by omega)
          · unfold boT; rw [sc_deep]; exact gd.1
          · unfold boT; rw [sc_size]; exact gd.2
      · rw [less_at _ l _ I.len i hi, I.rest i hi, allB_app]
        show _ = _ - (allB st.1 _ + (evB (boT m dp share l st.2.1) _ + 0))
        omega
theorem bo_all {m dp : Nat} {share : Int} {l : List Sa} (h : GoodS l m) (hl : 0 < l.length) (s1 : 1 ≤ share) (s2 : share ≤ 100) : ∀ k, BoI m dp l k (boR m dp share l k)
  | 0 => bo_first h hl
  | k + 1 => bo_next h hl s1 s2 (bo_all h hl s1 s2 k)
/-- a round more: one tree more, and less is left; or all stays -/
theorem bo_step (m dp : Nat) (share : Int) (l : List Sa) (k : Nat) : ((boR m dp share l (k + 1)).1 = (boR m dp share l k).1 ∧ (boR m dp share l (k + 1)).2.1 = (boR m dp share l k).2.1) ∨ (∃ T, (boR m dp share l (k + 1)).1 = (boR m dp share l k).1 ++ [T]) ∧ sqs (boR m dp share l (k + 1)).2.1 < sqs (boR m dp share l k).2.1 := by
  show ((boN m dp share l (boR m dp share l k)).1 = _ ∧ (boN m dp share l (boR m dp share l k)).2.1 = _) ∨ (∃ T, (boN m dp share l (boR m dp share l k)).1 = _) ∧ sqs (boN m dp share l (boR m dp share l k)).2.1 < _
  unfold boN
  split
  · exact .inl ⟨rfl, rfl⟩
  · split
    · exact .inl ⟨rfl, rfl⟩
    · rename_i q
      exact .inr ⟨⟨_, rfl⟩, Int.not_le.1 q⟩

end Go.Proofs.Ytlloiccodjnkcag.M

namespace Go.Proofs.Ytlloiccodjnkcag.M
set_option linter.unusedVariables false

def tmN (n : Nat) (v : Int) : Int := v * (n : Int)
theorem tm_zero (n : Nat) : tmN n 0 = 0 := by unfold tmN; simp
theorem tm_in {n : Nat} (hn : n ≤ 9) (v : Int) (a : -1000 ≤ v) (b : v ≤ 1000) : -9000 ≤ tmN n v ∧ tmN n v ≤ 9000 := by
  unfold tmN
  have e1 : v * (n : Int) ≤ 1000 * (n : Int) := Int.mul_le_mul_of_nonneg_right b (Int.natCast_nonneg n)
  have e2 : -1000 * (n : Int) ≤ v * (n : Int) := Int.mul_le_mul_of_nonneg_right a (Int.natCast_nonneg n)
  omega
/-- a tree of the grove -/
def boL (n : Nat) (T : BT) : List Nd := lay (scB (tmN n) T) 0
def boG (m : Int) (L : List BT) : Gv := (m, 2, List.replicate L.length 1, L.map (boL L.length))
structure BoL (m : Int) (L : List BT) : Prop where
  m0 : 0 ≤ m
  m8 : m ≤ 8
  t0 : 0 < L.length
  t9 : L.length ≤ 9
  each : ∀ T ∈ L, okB m T ∧ inV 1000 T ∧ T.deep ≤ 4 ∧ T.size ≤ 31
theorem boL_tree {m : Int} {L : List BT} (h : BoL m L) {T : BT} (hT : T ∈ L) : (treeF (boL L.length T) m).2 = 0 ∧ okB m (scB (tmN L.length) T) := by
  obtain ⟨h1, h2, h3, h4⟩ := h.each T hT
  have ok : okB m (scB (tmN L.length) T) := sc_ok (fun v a b => by have := tm_in h.t9 v a b; exact out_in (by omega) (by omega)) T h1 h2
  exact ⟨lay_tree ok h.m0 h.m8 (by rw [sc_size]; omega) (by rw [sc_deep]; omega), ok⟩
theorem boG_good {m : Int} {L : List BT} (h : BoL m L) : Good (boG m L) := by
  refine ⟨h.m0, h.m8, by show (1 : Int) ≤ 2; decide, by show (2 : Int) ≤ 3; decide, ?_, ?_, ?_, ?_, ?_⟩
  · show 0 < (L.map _).length; rw [List.length_map]; exact h.t0
  · show (L.map _).length ≤ 12; rw [List.length_map]; have := h.t9; omega
  · show (List.replicate L.length (1 : Int)).length = (L.map _).length; rw [List.length_map, List.length_replicate]
  · intro w hw
    have : w = 1 := (List.mem_replicate.1 (show w ∈ List.replicate L.length (1 : Int) from hw)).2
    omega
  · intro t ht
    obtain ⟨T, hT, rfl⟩ := List.mem_map.1 (show t ∈ L.map (boL L.length) from ht)
    exact (boL_tree h hT).1
theorem sumK_ones {l : List Int} {n : Nat} : ∀ k, k ≤ l.length → k ≤ n → sumK l (List.replicate n 1) k = (l.take k).sum
  | 0, _, _ => by simp [sumK]
  | k + 1, h, hn => by
    have ih := sumK_ones (l := l) (n := n) k (by omega) (by omega)
    unfold sumK
    rw [ih, getD_at (show k < (List.replicate n (1 : Int)).length by rw [List.length_replicate]; omega), List.getElem_replicate, getD_at (by omega), List.take_succ_eq_append_getElem (by omega), List.sum_append]
    simp
theorem allK_ones {n : Nat} : ∀ k, k ≤ n → allK (List.replicate n 1) k = (k : Nat)
  | 0, _ => rfl
  | k + 1, hn => by
    have ih := allK_ones (n := n) k (by omega)
    unfold allK
    rw [ih, getD_at (show k < (List.replicate n (1 : Int)).length by rw [List.length_replicate]; omega), List.getElem_replicate]
    omega
theorem sum_tm (n : Nat) (x : List Int) : ∀ L : List BT, (L.map (fun T => tmN n (evB T x))).sum = allB L x * (n : Int)
  | [] => by show (0 : Int) = 0 * _; simp
  | T :: L => by
    have ih := sum_tm n x L
    show tmN n (evB T x) + (L.map _).sum = (evB T x + allB L x) * (n : Int)
    rw [ih, Int.add_mul]; rfl
/-- the grove tells of a row what its trees tell together -/
theorem boG_eval {m : Int} {L : List BT} (h : BoL m L) {x : List Int} (hx : rowF x = 0) (hm : (x.length : Int) = m) : evalG (boG m L) x = allB L x := by
  have hs : standF (boG m L) x = 0 := stand_of (boG_good h) hx hm
  have he : eachL (boG m L) x = L.map (fun T => tmN L.length (evB T x)) := by
    show (L.map (boL L.length)).map (fun t => evalV t x) = _
    rw [List.map_map]
    refine List.map_congr_left (fun T hT => ?_)
    obtain ⟨t1, t2⟩ := boL_tree h hT
    rw [← hm] at t1 t2
    have := (lay_eval t2 t1 hx).2
    show evalV (lay (scB (tmN L.length) T) 0) x = _
    rw [this, sc_ev]
  unfold evalG
  rw [if_pos hs, he]
  show together 2 (List.replicate L.length 1) _ = _
  unfold together
  rw [if_neg (by decide), if_pos rfl, List.length_map, sumK_ones _ (by rw [List.length_map]; exact Nat.le_refl _) (Nat.le_refl _), allK_ones _ (Nat.le_refl _), List.take_of_length_le (by rw [List.length_map]; exact Nat.le_refl _), sum_tm]
  have := h.t0
  exact Int.mul_ediv_cancel _ (by omega)

/-! ### numbers that have an end -/
def sqF (r : List Int) : Int := totalI (r.map fun x => mulI x x)
theorem mulI_sq {x : Int} (h1 : -1000000 ≤ x) (h2 : x ≤ 1000000) : mulI x x = x * x ∧ 0 ≤ x * x ∧ x * x ≤ 1000000000000 := by
  have e := Int.natAbs_mul_self' x
  have b : x.natAbs ≤ 1000000 := by omega
  have := Nat.mul_le_mul b b
  have e2 : ((x.natAbs * x.natAbs : Nat) : Int) = x * x := by simp
  have q : 0 ≤ x * x ∧ x * x ≤ 1000000000000 := by omega
  refine ⟨?_, q⟩
  unfold mulI
  rw [show fitI x = x from fit_id ⟨by omega, by omega⟩]
  exact fit_id ⟨by omega, by omega⟩
theorem sq_from : ∀ (r : List Int) (s : Int), (∀ x ∈ r, -100000 ≤ x ∧ x ≤ 100000) → 0 ≤ s → s + 10000000000 * (r.length : Int) ≤ 1099511627776 → (r.map fun x => mulI x x).foldl addI s = s + sqs r ∧ 0 ≤ sqs r
  | [], s, _, _, _ => ⟨by show s = s + 0; omega, Int.le_refl _⟩
  | x :: r, s, h, h0, hb => by
    obtain ⟨x1, x2⟩ := h x (List.mem_cons_self ..)
    obtain ⟨m1, m2, m3⟩ := mulI_sq (x := x) (by omega) (by omega)
    have m4 : x * x ≤ 10000000000 := by
      have e := Int.natAbs_mul_self' x
      have b : x.natAbs ≤ 100000 := by omega
      have := Nat.mul_le_mul b b
      have e2 : ((x.natAbs * x.natAbs : Nat) : Int) = x * x := by simp
      omega
    rw [List.length_cons] at hb
    have hp : (0 : Int) ≤ (r.length : Int) := Int.natCast_nonneg _
    have hb' : s + 10000000000 * (r.length : Int) + 10000000000 ≤ 1099511627776 := by
      have : (((r.length + 1 : Nat) : Int)) = (r.length : Int) + 1 := by simp
      omega
    have a1 : addI s (mulI x x) = s + x * x := by
      rw [m1]
      unfold addI
      rw [show fitI s = s from fit_id ⟨by omega, by omega⟩, show fitI (x * x) = x * x from fit_id ⟨by omega, by omega⟩]
      exact fit_id ⟨by omega, by omega⟩
    obtain ⟨i1, i2⟩ := sq_from r (s + x * x) (fun y hy => h y (List.mem_cons_of_mem _ hy)) (by omega) (by omega)
    show ((r.map fun x => mulI x x).foldl addI (addI s (mulI x x))) = s + (x * x + sqs r) ∧ 0 ≤ x * x + sqs r
    rw [a1, i1]
    omega
theorem sqF_in {r : List Int} (h : ∀ x ∈ r, -100000 ≤ x ∧ x ≤ 100000) (hl : r.length ≤ 60) : sqF r = sqs r := by
  have := (sq_from r 0 h (Int.le_refl _) (by omega)).1
  unfold sqF totalI
  rw [this]; omega

/-! ### behind a grove -/
def restF (g : Gv) (l : List Sa) : Int := if groveF g ≠ 0 then groveF g else (samF l (gf g)).2
def restV (g : Gv) (l : List Sa) : List Int := if restF g l = 0 then l.map (fun s => s.2 - evalG g s.1) else []
def wrgG (g : Gv) (l : List Sa) : Int := if restF g l = 0 then sqF (restV g l) else 0
def booF (l : List Sa) (m r d s : Int) : Int := if (samF l m).2 ≠ 0 then (samF l m).2 else if r < 0 ∨ 8 < r ∨ d < 1 ∨ 4 < d ∨ s < 1 ∨ 100 < s then 1 else 0
def booS (l : List Sa) (m r d s : Int) : BoS := boR m.toNat d.toNat s l r.toNat
def booG (l : List Sa) (m r d s : Int) : Gv := if booF l m r d s = 0 then boG m (booS l m r d s).1 else (0, 0, [], [])
theorem boo_ok {l : List Sa} {m r d s : Int} (h : booF l m r d s = 0) : (samF l m).2 = 0 ∧ 0 ≤ r ∧ r ≤ 8 ∧ 1 ≤ d ∧ d ≤ 4 ∧ 1 ≤ s ∧ s ≤ 100 := by
  unfold booF at h
  by_cases c : (samF l m).2 = 0
  · rw [if_neg (by simp [c])] at h
    by_cases k : r < 0 ∨ 8 < r ∨ d < 1 ∨ 4 < d ∨ s < 1 ∨ 100 < s
    · rw [if_pos k] at h; cases h
    · exact ⟨c, by omega, by omega, by omega, by omega, by omega, by omega⟩
  · rw [if_pos c] at h; exact absurd h c
theorem boo_inv {l : List Sa} {m r d s : Int} (h : booF l m r d s = 0) : BoI m.toNat d.toNat l r.toNat (booS l m r d s) ∧ BoL m (booS l m r d s).1 := by
  obtain ⟨h1, r0, r8, d1, d4, s1, s2⟩ := boo_ok h
  obtain ⟨G, hl, hm, _⟩ := sam_ok h1
  have I := bo_all (m := m.toNat) (dp := d.toNat) (share := s) G hl s1 s2 r.toNat
  refine ⟨I, ⟨by omega, by have := G.m8; omega, I.t0, by have := I.tk; unfold booS; omega, fun T hT => ?_⟩⟩
  obtain ⟨e1, e2, e3, e4⟩ := I.each T hT
  rw [hm] at e1
  have d4' : d.toNat ≤ 4 := by omega
  have p : 2 ^ (d.toNat + 1) ≤ 2 ^ (4 + 1) := Nat.pow_le_pow_right (by omega) (by omega)
  exact ⟨e1, e2, by omega, by omega⟩
theorem allB_in {x : List Int} : ∀ {L : List BT}, (∀ T ∈ L, inV 1000 T) → -1000 * (L.length : Int) ≤ allB L x ∧ allB L x ≤ 1000 * (L.length : Int)
  | [], _ => by show _ ≤ (0 : Int) ∧ (0 : Int) ≤ _; simp
  | T :: L, h => by
    have ih := allB_in (x := x) (L := L) fun U hU => h U (List.mem_cons_of_mem _ hU)
    have := in_ev x T (h T (List.mem_cons_self ..))
    show _ ≤ evB T x + allB L x ∧ evB T x + allB L x ≤ _
    rw [List.length_cons]
    omega
/-- what is left behind the grove is what was left behind its trees -/
theorem boo_rest {l : List Sa} {m r d s : Int} (h : booF l m r d s = 0) : restF (booG l m r d s) l = 0 ∧ restV (booG l m r d s) l = (booS l m r d s).2.1 ∧ wrgG (booG l m r d s) l = sqs (booS l m r d s).2.1 ∧ groveF (booG l m r d s) = 0 := by
  obtain ⟨h1, r0, r8, d1, d4, s1, s2⟩ := boo_ok h
  obtain ⟨G, hl, hm, _⟩ := sam_ok h1
  obtain ⟨I, B⟩ := boo_inv h
  have eg : booG l m r d s = boG m (booS l m r d s).1 := by unfold booG; rw [if_pos h]
  have gz : groveF (booG l m r d s) = 0 := by rw [eg]; exact (good_iff _).2 (boG_good B)
  have f0 : restF (booG l m r d s) l = 0 := by
    unfold restF
    rw [if_neg (by simp [gz]), eg]
    exact h1
  have rv : restV (booG l m r d s) l = (booS l m r d s).2.1 := by
    unfold restV
    rw [if_pos f0]
    refine List.ext_getElem (by rw [List.length_map]; exact I.len.symm) fun i q1 q2 => ?_
    have hi : i < l.length := by rw [List.length_map] at q1; exact q1
    have e := I.rest i hi
    rw [getD_at q2] at e
    have es : sAt l i = l[i] := by unfold sAt; rw [getD_at hi]
    rw [es] at e
    obtain ⟨z1, z2, z3, z4⟩ := G.each l[i] (List.getElem_mem hi)
    have ev := boG_eval B z1 (by omega)
    rw [← eg] at ev
    rw [List.getElem_map, e, ev]
  refine ⟨f0, rv, ?_, gz⟩
  unfold wrgG
  rw [if_pos f0, rv]
  refine sqF_in (fun x hx => ?_) (by rw [I.len]; exact G.le)
  obtain ⟨i, hi, rfl⟩ := List.getElem_of_mem hx
  have hi' : i < l.length := by rw [← I.len]; exact hi
  have e := I.rest i hi'
  rw [getD_at hi] at e
  have es : sAt l i = l[i] := by unfold sAt; rw [getD_at hi']
  rw [es] at e
  have z3 := (G.each l[i] (List.getElem_mem hi')).2.2.1
  have q := allB_in (x := l[i].1) (L := (booS l m r d s).1) fun T hT => (B.each T hT).2.1
  have t9 := B.t9
  omega

end Go.Proofs.Ytlloiccodjnkcag.M
