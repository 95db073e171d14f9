/-
  Bytes, where they lie, and as cells; an append of bytes that are read to a row of our own; no condition beyond those named.
-/
import Derived.Test.YtnnhpbnnombpmaaDoorBase
import Derived.Laws.AppendOwnNone
import Derived.OwnWalk
namespace Go.Proofs.YtnnhpbnnombpmaaDoor
open Go.ChangeShapes Go.WideShapes Go.ChangeAt Go.RowKit Go.Lib
set_option linter.unusedVariables false

theorem info8 : (Tryd.prog.info? 5).map (fun i => (i.zero, i.size, i.bytes)) = some (some (.int .u8 0), 1, 1) := by kernel_rfl
def byV (x : Nat) : Value := .int .u8 (x : Int)
def byCells (xs : List Nat) : List Value := xs.map byV
theorem byCells_app (a b : List Nat) : byCells (a ++ b) = byCells a ++ byCells b := by unfold byCells; rw [List.map_append]
theorem byCells_len (xs : List Nat) : (byCells xs).length = xs.length := by simp [byCells]
theorem byCells_one (xs : List Nat) : ∀ v ∈ byCells xs, v.oneCell' = true := by
  intro v hv
  obtain ⟨x, _, rfl⟩ := List.mem_map.1 hv
  rfl
/-- bytes, where they lie -/
def RdB (w : World) (a : Option Addr) (xs : List Nat) : Prop :=
  xs.length ≤ maxLen ∧ (∀ x ∈ xs, x < 256) ∧ (xs ≠ [] → ∃ b off, a = some ⟨b, off, none⟩ ∧ b < w.heap.size ∧ ∀ i, i < xs.length → w.cell? ⟨b, off + i, none⟩ = some (byV (xs.getD i 0)))
theorem RdB.below {w w' : World} {a : Option Addr} {xs : List Nat} (h : RdB w a xs) (hb : Below w.heap.size w w') : RdB w' a xs :=
  ⟨h.1, h.2.1, fun hn => by
    obtain ⟨b, off, e, hl, hc⟩ := h.2.2 hn
    exact ⟨b, off, e, Nat.lt_of_lt_of_le hl hb.size, fun i hi => (hb.cell (p := ⟨b, off + i, none⟩) hl).trans (hc i hi)⟩⟩
theorem own_rdB {w : World} {base n : Nat} {v : Value} {xs : List Nat} (hn : xs.length = n) (hm : n ≤ maxLen) (h8 : ∀ x ∈ xs, x < 256) (h : w.ownsRow base 5 1 v n (byCells xs)) : ∃ a cap, v = .slice a n cap ∧ RdB w a xs ∧ (∀ p, a = some p → base ≤ p.block) := by
  subst hn
  rcases h.2 with ⟨hv, h0⟩ | ⟨g, cap, cur, hv, hb, hg, h1, h2, h3, h4⟩
  · have e : xs = [] := List.length_eq_zero_iff.1 h0
    subst e
    exact ⟨none, 0, hv, ⟨Nat.zero_le _, h8, fun h => absurd rfl h⟩, fun p hp => by cases hp⟩
  · subst hv
    refine ⟨_, cap, rfl, ⟨hm, h8, fun _ => ⟨g, 0, rfl, (Array.getElem?_eq_some_iff.1 hg).1, fun i hi => ?_⟩⟩, fun p hp => by cases hp; exact hb⟩
    rw [Nat.zero_add, h.cellAt i (by omega)]
    simp [byCells, List.getD, hi]
/-- behind the first of them -/
theorem RdB.drop {w : World} {b off : Nat} {xs : List Nat} (h : RdB w (some ⟨b, off, none⟩) xs) (k : Nat) : RdB w (some ⟨b, off + k, none⟩) (xs.drop k) := by
  refine ⟨by rw [List.length_drop]; exact Nat.le_trans (Nat.sub_le _ _) h.1, fun x hx => h.2.1 x (List.mem_of_mem_drop hx), fun hn => ?_⟩
  have hk : k < xs.length := by
    by_cases q : k < xs.length
    · exact q
    · exact absurd (List.drop_eq_nil_of_le (by omega)) hn
  obtain ⟨b', off', e, hl, hc⟩ := h.2.2 (by intro e; rw [e] at hk; simp at hk)
  cases e
  refine ⟨b, off + k, rfl, hl, fun i hi => ?_⟩
  rw [List.length_drop] at hi
  have := hc (k + i) (by omega)
  rw [show off + k + i = off + (k + i) by omega, this]
  congr 2
  simp [List.getD]
theorem RdB.take {w : World} {a : Option Addr} {xs : List Nat} (h : RdB w a xs) (k : Nat) : RdB w a (xs.take k) := by
  refine ⟨by rw [List.length_take]; exact Nat.le_trans (Nat.min_le_right ..) h.1, fun x hx => h.2.1 x (List.mem_of_mem_take hx), fun hn => ?_⟩
  obtain ⟨b, off, e, hl, hc⟩ := h.2.2 (by intro e; rw [e] at hn; simp at hn)
  refine ⟨b, off, e, hl, fun i hi => ?_⟩
  rw [List.length_take] at hi
  rw [hc i (by omega)]
  congr 2
  have : i < k := by omega
  simp [List.getD, this]
theorem by_src {w : World} {b off : Nat} {xs : List Nat} (hc : ∀ i, i < xs.length → w.cell? ⟨b, off + i, none⟩ = some (byV (xs.getD i 0))) : ∀ j u, (byCells xs)[j]? = some u → w.cell? ((⟨b, off, none⟩ : Addr).add j) = some u := by
  intro j u hj
  have hl : j < xs.length := by
    have := (List.getElem?_eq_some_iff.1 hj).1
    rwa [byCells_len] at this
  have add_flat : (⟨b, off, none⟩ : Addr).add j = ⟨b, off + j, none⟩ := by unfold Addr.add; simp
  rw [add_flat, hc j hl, ← hj]
  simp [byCells, List.getD, hl]
theorem wpList_append_by {w : World} {ops : Array Oper} {rest : List Oper} {o : Oper} {act : Act} {Q : Exit → Act → World → Prop} (hgd : o.guard = none) (s x : Operand)
    (ho : o.op = .call { callee := .builtin .append, args := #[s, x], argTypes := #[23, 23] })
    (base : Nat) (v : Value) (n : Nat) (zs : List Nat) (hs : act.eval s = v) (hown : w.ownsRow base 5 1 v n (byCells zs))
    (a : Option Addr) (ys : List Nat) (m cap : Nat) (hm : ys.length = m) (hx : act.eval x = .slice a m cap) (hr : RdB w a ys) (hnil : a = none → cap = 0) (hlen : n + ys.length ≤ 140737488355328) (hbase : base ≤ w.heap.size)
    (h : ∀ va vc w', w'.ownsRow base 5 1 (.slice va (n + m) vc) (n + m) (byCells (zs ++ ys)) → Below base w w' → w.grownBy w' v.ownBlock → wpList Tryd.prog ops Q rest (act.put o.dst (.slice va (n + m) vc)) w') : wpList Tryd.prog ops Q (o :: rest) act w := by
  subst hm
  obtain ⟨i0, hi, hz0, hz1, hz2⟩ := info_parts info8
  cases a with
  | none =>
    have e : ys = [] := by
      by_cases hy : ys = []
      · exact hy
      · obtain ⟨b, off, e, _⟩ := hr.2.2 hy; cases e
    subst e
    have hc := hnil rfl
    subst hc
    refine wpList_append_own_none hgd s x 23 ho base 5 i0 1 Tryd.underlying23 hi v n (byCells zs) hs hown hx ?_
    obtain ⟨va, vc, e⟩ : ∃ va vc, v = .slice va n vc := by
      rcases hown.2 with ⟨hv, h0⟩ | ⟨g, cap, cur, hv, _⟩
      · exact ⟨none, 0, by rw [hv, h0]⟩
      · exact ⟨some ⟨g, 0, none⟩, cap, hv⟩
    subst e
    have := h va vc w (by simpa using hown) (Below.refl _ _) ⟨rfl, rfl, rfl, Nat.le_refl _, fun _ _ _ => rfl⟩
    simpa using this
  | some ad =>
    have hnews : ∀ j u, (byCells ys)[j]? = some u → w.cell? (ad.add j) = some u := by
      by_cases hy : ys = []
      · subst hy; intro j u hj; simp [byCells] at hj
      · obtain ⟨b, off, e, _, hc⟩ := hr.2.2 hy
        cases e
        exact by_src hc
    refine wpList_append_own _ hgd s x 23 ho base 5 i0 (.int .u8 0) 1 1 Tryd.underlying23 hi hz0 hz1 hz2 rfl (by decide) v n (byCells zs) hs hown ad ys.length cap (byCells ys) hx (by rw [byCells_len]; omega) hnews (byCells_one ys) (by unfold maxLen; omega) (by omega) hbase ?_
    intro v' w' hown' hgrow _
    obtain ⟨va, vc, e⟩ : ∃ va vc, v' = .slice va (n + ys.length) vc := by
      rcases hown'.2 with ⟨hv, h0⟩ | ⟨g, cap, cur, hv, _⟩
      · exact ⟨none, 0, by rw [hv, h0]⟩
      · exact ⟨some ⟨g, 0, none⟩, cap, hv⟩
    subst e
    exact h va vc w' (by rw [byCells_app]; exact hown') ((Below.refl _ w).grown hgrow hbase (fun k hk => (hown.lt k hk).1)) hgrow
/-- one byte in a new block -/
theorem rdB_one (w : World) (x : Nat) (hx : x < 256) (t : TypeId) : RdB (w.alloc (.cells #[.int .u8 (x : Int)] t)) (some ⟨w.heap.size, 0, none⟩) [x] :=
  ⟨by unfold maxLen; simp, fun y hy => by rw [List.mem_singleton] at hy; omega, fun _ => ⟨w.heap.size, 0, rfl, by simp, fun i hi => by
    have : i = 0 := by simpa using hi
    subst this
    exact World.cell?_alloc_at _ _ _ 0 rfl⟩⟩

end Go.Proofs.YtnnhpbnnombpmaaDoor
