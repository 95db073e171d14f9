/-
  An append of a slice that is read to a row of our own.
-/
import Derived.Test.YthbeoaninipadafBase
import Derived.Laws.AppendOwnNone
namespace Go.Proofs.Ythbeoaninipadaf
open Go.ChangeShapes Go.WideShapes Go.ChangeAt Go.RowKit Go.Lib
set_option linter.unusedVariables false

/-- an append of a slice that is read to a row of our own -/
theorem wpList_append_rd {w : World} {ops : Array Oper} {rest : List Oper} {o : Oper} {act : Act} {Q : Exit → Act → World → Prop} (hgd : o.guard = none) (s x : Operand)
    (ho : o.op = .call { callee := .builtin .append, args := #[s, x], argTypes := #[23, 23] })
    (base : Nat) (v : Value) (n : Nat) (zs : List Int) (hs : act.eval s = v) (hown : w.ownsRow base 3 1 v n (zs.map (Value.int .i64)))
    (a : Option Addr) (ys : List Int) (cap : Nat) (hx : act.eval x = .slice a ys.length cap) (hr : Rd w a ys) (hnil : a = none → cap = 0) (hlen : n + ys.length ≤ 1000000) (hbase : base ≤ w.heap.size)
    (h : ∀ v' w', w'.ownsRow base 3 1 v' (n + ys.length) ((zs ++ ys).map (Value.int .i64)) → Below base w w' → wpList Try.prog ops Q rest (act.put o.dst v') w') : wpList Try.prog ops Q (o :: rest) act w := by
  obtain ⟨i0, hi, hz0, hz1, hz2⟩ := info_parts info3
  cases a with
  | none =>
    have e : ys = [] := by
      by_cases hy : ys = []
      · exact hy
      · obtain ⟨b, off, e, _⟩ := hr.2 hy; cases e
    subst e
    have hc := hnil rfl
    subst hc
    refine wpList_append_own_none hgd s x 23 ho base 3 i0 1 Try.underlying23 hi v n (zs.map (Value.int .i64)) hs hown hx ?_
    have := h v w (by simpa using hown) (Below.refl _ _)
    exact this
  | some ad =>
    have hnews : ∀ j u, (ys.map (Value.int .i64))[j]? = some u → w.cell? (ad.add j) = some u := by
      by_cases hy : ys = []
      · subst hy; intro j u hj; simp at hj
      · obtain ⟨b, off, e, hb, hc⟩ := hr.2 hy
        cases e
        exact src_cells hc
    refine wpList_append_own _ hgd s x 23 ho base 3 i0 (.int .i64 0) 1 8 Try.underlying23 hi hz0 hz1 hz2 rfl (by decide) v n (zs.map (Value.int .i64)) hs hown ad ys.length cap (ys.map (Value.int .i64)) hx (by simp) hnews (one_cells ys) (by unfold maxLen; omega) (by omega) hbase ?_
    intro v' w' hown' hgrow _
    refine h v' w' (by rw [List.map_append]; exact hown') ((Below.refl _ w).grown hgrow hbase (fun k hk => (hown.lt k hk).1))

end Go.Proofs.Ythbeoaninipadaf
