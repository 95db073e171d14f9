/-
  Several texts as one: TCheck, VnCells, MathHg, VnSame.
-/
import Derived.Test.YtodidokeblblgaaRunS12
import Derived.Test.YtodidokeblblgaaRunS1
import Derived.Test.YtodidokeblblgaaRunS9
import Derived.Laws.AppendOwnNone
import Derived.OwnWalk
import Derived.BigQuiet
import Derived.Deep.QuietTactic
import Derived.Deep.Cut
import Derived.Deep.CutRange
namespace Go.Proofs.Ytodidokeblblgaa
open Go.ChangeShapes Go.WideShapes Go.ChangeAt Go.RowKit Go.Lib
set_option linter.unusedVariables false
theorem two_val {n : Nat} {c : Int} {tf : Nat × Int} (h : tf = (n, c)) : Ending.returned (.tuple #[.int .i64 (n : Nat), errV c]) = .returned (.tuple #[.int .i64 (tf.1 : Nat), errV tf.2]) := by rw [h]

set_option maxHeartbeats 4000000 in
set_option maxRecDepth 10000 in
theorem tcheck_any (a0 : Option Addr) (ts : List M.Nd) (cap : Nat) (m : Int) (w : World) (h : RdN w a0 ts) :
    Calls Try.prog 60 #[.slice a0 ts.length cap, .int .i64 m] w fun e w' => e = .returned (.tuple #[.int .i64 ((M.treeF ts m).1 : Nat), errV (M.treeF ts m).2]) ∧ Below w.heap.size w w' := by
  have hm : ts.length ≤ 9223372036854775807 := h.1
  by_cases h63 : 63 < ts.length
  · have E := hide (M.tree_full (m := m) h63)
    have hd : decide ((63 : Int) < (ts.length : Int)) = true := decide_eq_true (by omega)
    clear h h63
    generalize M.treeF ts m = tf at *
    go_enter Try.func60, Try.ntmps60
    go_wp2
    go_ret2
    exact ⟨two_val E.out, Below.refl _ _⟩
  · have hd : decide ((63 : Int) < (ts.length : Int)) = false := decide_eq_false (by omega)
    by_cases h0 : ts.length = 0
    · have E := hide (M.tree_none (m := m) h0)
      have q0 : ((ts.length : Int) == 0) = true := by rw [beq_iff_eq]; omega
      clear h h63 h0
      generalize M.treeF ts m = tf at *
      generalize ts.length = len at *
      go_enter Try.func60, Try.ntmps60
      go_wp2
      go_ret2
      exact ⟨two_val E.out, Below.refl _ _⟩
    · have q0 : ((ts.length : Int) == 0) = false := by rw [beq_eq_false_iff_ne]; omega
      by_cases h1 : m < 0
      · have E := hide (M.tree_range h63 h0 (.inl h1))
        have q1 : decide (m < 0) = true := decide_eq_true h1
        clear h h63 h0 h1
        generalize M.treeF ts m = tf at *
        generalize ts.length = len at *
        go_enter Try.func60, Try.ntmps60
        go_wp2
        go_ret2
        exact ⟨two_val E.out, Below.refl _ _⟩
      · have q1 : decide (m < 0) = false := decide_eq_false h1
        by_cases h2 : 8 < m
        · have E := hide (M.tree_range h63 h0 (.inr h2))
          have q2 : decide (8 < m) = true := decide_eq_true h2
          clear h h63 h0 h1 h2
          generalize M.treeF ts m = tf at *
          generalize ts.length = len at *
          go_enter Try.func60, Try.ntmps60
          go_wp2
          go_ret2
          exact ⟨two_val E.out, Below.refl _ _⟩
        · have q2 : decide (8 < m) = false := decide_eq_false h2
          have l63 : ts.length ≤ 63 := by omega
          have TN : Hid (∀ i, i < ts.length → M.nodeF (M.nAt ts i) i ts.length m ≠ 0 → (∀ j, j < i → M.nodeF (M.nAt ts j) j ts.length m = 0) → M.treeF ts m = (i, M.nodeF (M.nAt ts i) i ts.length m)) := fun i hi hb hj => M.tree_node h63 h0 (by omega) hi hb hj
          have TS : Hid ((∀ j, j < ts.length → M.nodeF (M.nAt ts j) j ts.length m = 0) → 0 < M.strayV ts → M.treeF ts m = (M.strayV ts, 7)) := fun hb hs => M.stray_tree h63 h0 (by omega) hb hs
          have TF : Hid ((∀ j, j < ts.length → M.nodeF (M.nAt ts j) j ts.length m = 0) → M.strayV ts = 0 → M.treeF ts m = if 10 < M.deepest ts ts.length then (0, 4) else (0, 0)) := fun hb hs => by
            have F : M.Fair ts m := ⟨by omega, by omega, by omega, by omega, hb, M.stray_zero hs⟩
            rw [M.deepest_eq F]; exact M.tree_fair F
          have CS : Hid (∀ W, Below w.heap.size w W → (∀ j, j < ts.length → M.nodeF (M.nAt ts j) j ts.length m = 0) → Calls Try.prog 64 #[.slice a0 ts.length cap] W fun e w' => e = .returned (.int .i64 (M.strayV ts : Nat)) ∧ Below W.heap.size W w') := fun W hW hb => stray_any a0 ts cap m W (h.below hW) l63 hb
          have CD : Hid (∀ W, Below w.heap.size w W → (∀ j, j < ts.length → M.nodeF (M.nAt ts j) j ts.length m = 0) → Calls Try.prog 65 #[.slice a0 ts.length cap] W fun e w' => e = .returned (.int .i64 (M.deepest ts ts.length : Nat)) ∧ Below W.heap.size W w') := fun W hW hb => depth_any a0 ts cap m W (h.below hW) l63 hb
          have DB := M.deep_le ts ts.length
          have SB : M.strayV ts ≤ 63 := by
            rcases Nat.eq_zero_or_pos (M.strayV ts) with e | e
            · omega
            · unfold M.strayV
              cases q : M.firstN (M.strayP ts) ts.length with
              | none => simp
              | some k => have := (M.first_some q).1; simp; omega
          have HR := hide h.2
          clear h h63 h0 h1 h2
          generalize M.treeF ts m = tf at *
          generalize M.strayV ts = sv at *
          generalize M.deepest ts ts.length = dv at *
          go_enter Try.func60, Try.ntmps60
          go_wp2
          go_loopw [27] (fun i wr => ∃ k : Nat, k ≤ ts.length ∧ i = .int .i64 k ∧ Below w.heap.size w wr ∧ Hid (∀ j, j < k → M.nodeF (M.nAt ts j) j ts.length m = 0)) (fun i _ => ts.length - (intOf i).toNat)
          case atStart => exact ⟨0, Nat.zero_le _, rfl, Below.refl _ _, fun j hj => by omega⟩
          case round =>
            obtain ⟨k, hk, rfl, hbl, I⟩ := hrel
            by_cases hlt : k < ts.length
            · obtain ⟨b0, off, rfl, hb0, hc⟩ := HR.out (by intro e; subst e; simp at hlt)
              obtain ⟨s0, s1, s2, s3, s4, s5⟩ := (hc k hlt).below hbl hb0
              have C1 := hide (fun W => checknode_any (M.nAt ts k) k ts.length (k : Int) ((ts.length : Int) - 1) m W rfl rfl)
              unfold ndV at C1
              have NB : Hid (∀ o W, Below (wr.alloc o).heap.size (wr.alloc o) W → Below w.heap.size w W) := fun o W hW => below_on (below_on hbl ((Below.refl _ wr).alloc (Nat.le_refl _) o)) hW
              by_cases hf : M.nodeF (M.nAt ts k) k ts.length m = 0
              · have N : Hid (∀ j, j < k + 1 → M.nodeF (M.nAt ts j) j ts.length m = 0) := fun j hj => by
                  by_cases e : j = k
                  · subst e; exact hf
                  · exact I.out j (by omega)
                rw [err_nil hf] at C1
                clear hc hf hbl
                generalize M.nf (M.nAt ts k) = f at *
                generalize M.nc (M.nAt ts k) = c at *
                generalize M.nl (M.nAt ts k) = l at *
                generalize M.nr (M.nAt ts k) = r at *
                generalize M.ns (M.nAt ts k) = sl at *
                generalize M.nv (M.nAt ts k) = v at *
                go_wp2_with (go_at_call 63; refine (C1.out _).mono ?_; rintro e w1 ⟨rfl, hb1⟩)
                go_roundw
                case rel => exact ⟨k + 1, by omega, by go_num, NB.out _ w1 hb1, N⟩
                case measure => simp [intOf]; omega
              · have E := hide (TN.out k hlt hf I.out)
                have EE : Hid (errV (M.nodeF (M.nAt ts k) k ts.length m) = .iface 67 (.int .i64 (M.nodeF (M.nAt ts k) k ts.length m))) := err_some hf
                rw [err_some hf] at C1
                clear hc hf hbl TN
                generalize M.nodeF (M.nAt ts k) k ts.length m = cc at *
                generalize M.nf (M.nAt ts k) = f at *
                generalize M.nc (M.nAt ts k) = c at *
                generalize M.nl (M.nAt ts k) = l at *
                generalize M.nr (M.nAt ts k) = r at *
                generalize M.ns (M.nAt ts k) = sl at *
                generalize M.nv (M.nAt ts k) = v at *
                go_wp2_with (go_at_call 63; refine (C1.out _).mono ?_; rintro e w1 ⟨rfl, hb1⟩)
                go_ret2
                exact ⟨by rw [← EE.out]; exact two_val E.out, NB.out _ w1 hb1⟩
            · have A : Hid (∀ j, j < ts.length → M.nodeF (M.nAt ts j) j ts.length m = 0) := fun j hj => I.out j (by omega)
              have S1 := hide (CS.out wr hbl A.out)
              have D1 := hide (fun W (hW : Below w.heap.size w W) => CD.out W hW A.out)
              by_cases hs : sv = 0
              · have qs : decide (0 < sv) = false := decide_eq_false (by omega)
                have E1 := hide (TF.out A.out hs)
                by_cases h10 : 10 < dv
                · have qd : decide ((10 : Int) < (dv : Int)) = true := decide_eq_true (by omega)
                  have E : Hid (tf = (0, 4)) := by have := E1.out; rw [if_pos h10] at this; exact this
                  clear E1 TN TS TF A CS CD HR hs h10
                  go_wp2_with (first
                    | (go_at_call 64; refine S1.out.mono ?_; rintro e w1 ⟨rfl, hb1⟩)
                    | (go_at_call 65; refine (D1.out _ (below_on hbl hb1)).mono ?_; rintro e w2 ⟨rfl, hb2⟩))
                  go_ret2
                  exact ⟨two_val E.out, below_on (below_on hbl hb1) hb2⟩
                · have qd : decide ((10 : Int) < (dv : Int)) = false := decide_eq_false (by omega)
                  have E : Hid (tf = (0, 0)) := by have := E1.out; rw [if_neg h10] at this; exact this
                  clear E1 TN TS TF A CS CD HR hs h10
                  go_wp2_with (first
                    | (go_at_call 64; refine S1.out.mono ?_; rintro e w1 ⟨rfl, hb1⟩)
                    | (go_at_call 65; refine (D1.out _ (below_on hbl hb1)).mono ?_; rintro e w2 ⟨rfl, hb2⟩))
                  go_ret2
                  exact ⟨two_val E.out, below_on (below_on hbl hb1) hb2⟩
              · have qs : decide (0 < sv) = true := decide_eq_true (by omega)
                have E := hide (TS.out A.out (by omega))
                clear TN TS TF A CS CD HR hs D1
                go_wp2_with (go_at_call 64; refine S1.out.mono ?_; rintro e w1 ⟨rfl, hb1⟩)
                go_ret2
                exact ⟨two_val E.out, below_on hbl hb1⟩
theorem infoV : (Try.prog.info? 40).map (fun i => (i.zero, i.size, i.bytes)) = some (some (.agg #[.string ⟨#[]⟩, .int .i64 0, .int .i64 0, .int .i64 0]), 4, 40) := by kernel_rfl
def encN (v : M.Vn) : List Value := [.string (byStr v.name), .int .i64 v.num, .int .i64 v.stage, .int .i64 v.share]
def vnCells (xs : List M.Vn) : List Value := xs.flatMap encN
theorem vnCells_cons (u : M.Vn) (t : List M.Vn) : vnCells (u :: t) = .string (byStr u.name) :: .int .i64 u.num :: .int .i64 u.stage :: .int .i64 u.share :: vnCells t := rfl
theorem vnCells_app (a b : List M.Vn) : vnCells (a ++ b) = vnCells a ++ vnCells b := by unfold vnCells; rw [List.flatMap_append]
theorem vnCells_len (ts : List M.Vn) : (vnCells ts).length = ts.length * 4 := by
  induction ts with
  | nil => rfl
  | cons x t ih => rw [vnCells_cons]; simp only [List.length_cons, ih]; omega
theorem vnCells_one (ts : List M.Vn) : ∀ v ∈ vnCells ts, v.oneCell' = true := by
  intro v hv
  simp only [vnCells, List.mem_flatMap] at hv
  obtain ⟨s, _, hs⟩ := hv
  simp only [encN, List.mem_cons, List.not_mem_nil, or_false] at hs
  rcases hs with rfl | rfl | rfl | rfl <;> rfl
def M.vAtL (l : List M.Vn) (i : Nat) : M.Vn := l.getD i M.vn0
theorem vAtL_in (l : List M.Vn) {i : Nat} (h : i < l.length) : M.vAtL l i = l[i] := by simp [M.vAtL, List.getD, h]
theorem vnCells_at : ∀ (ts : List M.Vn) (i : Nat), i < ts.length → (vnCells ts)[i * 4]? = some (.string (byStr (M.vAtL ts i).name)) ∧ (vnCells ts)[i * 4 + 1]? = some (.int .i64 (M.vAtL ts i).num) ∧ (vnCells ts)[i * 4 + 2]? = some (.int .i64 (M.vAtL ts i).stage) ∧ (vnCells ts)[i * 4 + 3]? = some (.int .i64 (M.vAtL ts i).share)
  | [], i, h => by simp at h
  | s :: t, 0, h => ⟨rfl, rfl, rfl, rfl⟩
  | s :: t, i + 1, h => by
    have := vnCells_at t i (by simpa using h)
    have e : M.vAtL (s :: t) (i + 1) = M.vAtL t i := by simp [M.vAtL]
    rw [vnCells_cons, e, show (i + 1) * 4 = i * 4 + 1 + 1 + 1 + 1 by omega]
    simpa using this
/-- versions, where they lie -/
def FourAt (w : World) (b off : Nat) (u : M.Vn) : Prop := w.cell? ⟨b, off, none⟩ = some (.string (byStr u.name)) ∧ w.cell? ⟨b, off + 1, none⟩ = some (.int .i64 u.num) ∧ w.cell? ⟨b, off + 2, none⟩ = some (.int .i64 u.stage) ∧ w.cell? ⟨b, off + 3, none⟩ = some (.int .i64 u.share)
def RdV (w : World) (a : Option Addr) (xs : List M.Vn) : Prop :=
  xs.length ≤ maxLen ∧ (xs ≠ [] → ∃ b off, a = some ⟨b, off, none⟩ ∧ b < w.heap.size ∧ ∀ i, i < xs.length → FourAt w b (off + i * 4) (M.vAtL xs i))
theorem RdV.below {w w' : World} {a : Option Addr} {xs : List M.Vn} (h : RdV w a xs) (hb : Below w.heap.size w w') : RdV w' a xs :=
  ⟨h.1, fun hn => by
    obtain ⟨b, off, e, hl, hc⟩ := h.2 hn
    exact ⟨b, off, e, Nat.lt_of_lt_of_le hl hb.size, fun i hi => ⟨(hb.cell (p := ⟨b, off + i * 4, none⟩) hl).trans (hc i hi).1, (hb.cell (p := ⟨b, off + i * 4 + 1, none⟩) hl).trans (hc i hi).2.1, (hb.cell (p := ⟨b, off + i * 4 + 2, none⟩) hl).trans (hc i hi).2.2.1, (hb.cell (p := ⟨b, off + i * 4 + 3, none⟩) hl).trans (hc i hi).2.2.2⟩⟩⟩
/-- versions stay while their block does -/
theorem RdV.keep {w w' : World} {a : Option Addr} {xs : List M.Vn} (h : RdV w a xs) (hz : w.heap.size ≤ w'.heap.size) (hk : ∀ p, a = some p → w'.heap[p.block]? = w.heap[p.block]?) : RdV w' a xs :=
  ⟨h.1, fun hn => by
    obtain ⟨b, off, e, hl, hc⟩ := h.2 hn
    have hb : w'.heap[b]? = w.heap[b]? := hk _ e
    have k : ∀ j v, w.cell? ⟨b, j, none⟩ = some v → w'.cell? ⟨b, j, none⟩ = some v := fun j v hv => (World.cell?_of_block (a := ⟨b, j, none⟩) hb).trans hv
    exact ⟨b, off, e, Nat.lt_of_lt_of_le hl hz, fun i hi => ⟨k _ _ (hc i hi).1, k _ _ (hc i hi).2.1, k _ _ (hc i hi).2.2.1, k _ _ (hc i hi).2.2.2⟩⟩⟩
theorem own_rdV {w : World} {base n : Nat} {v : Value} {xs : List M.Vn} (hn : xs.length = n) (hm : n ≤ maxLen) (h : w.ownsRow base 40 4 v n (vnCells xs)) : ∃ a cap, v = .slice a n cap ∧ RdV w a xs ∧ (∀ p, a = some p → base ≤ p.block) := by
  subst hn
  rcases h.2 with ⟨hv, h0⟩ | ⟨g, cap, cur, hv, hb, hg, h1, h2, h3, h4⟩
  · have e : xs = [] := List.length_eq_zero_iff.1 h0
    subst e
    exact ⟨none, 0, hv, ⟨Nat.zero_le _, fun h => absurd rfl h⟩, (fun p hp => by cases hp)⟩
  · subst hv
    refine ⟨_, cap, rfl, ⟨hm, fun _ => ⟨g, 0, rfl, (Array.getElem?_eq_some_iff.1 hg).1, fun i hi => ?_⟩⟩, (fun p hp => by cases hp; exact hb)⟩
    obtain ⟨q0, q1, q2, q3⟩ := vnCells_at xs i hi
    rw [Nat.zero_add]
    exact ⟨(h.cellAt (i * 4) (by omega)).trans q0, (h.cellAt (i * 4 + 1) (by omega)).trans q1, (h.cellAt (i * 4 + 2) (by omega)).trans q2, (h.cellAt (i * 4 + 3) (by omega)).trans q3⟩

theorem wpList_append_vn {w : World} {ops : Array Oper} {rest : List Oper} {o : Oper} {act : Act} {Q : Exit → Act → World → Prop} (hgd : o.guard = none) (s x : Operand)
    (ho : o.op = .call { callee := .builtin .append, args := #[s, x], argTypes := #[36, 36] })
    (base : Nat) (v : Value) (n : Nat) (zs : List M.Vn) (hs : act.eval s = v) (hown : w.ownsRow base 40 4 v n (vnCells zs))
    (a : Option Addr) (ys : List M.Vn) (m cap : Nat) (hm : ys.length = m) (hx : act.eval x = .slice a m cap) (hr : ys ≠ [] → ∃ ad, a = some ad ∧ ∀ j u, (vnCells ys)[j]? = some u → w.cell? (ad.add j) = some u) (hnil : a = none → cap = 0) (hlen : n + ys.length ≤ 1000000) (hbase : base ≤ w.heap.size)
    (h : ∀ va vc w', w'.ownsRow base 40 4 (.slice va (n + m) vc) (n + m) (vnCells (zs ++ ys)) → Below base w w' → w.grownBy w' v.ownBlock → wpList Try.prog ops Q rest (act.put o.dst (.slice va (n + m) vc)) w') : wpList Try.prog ops Q (o :: rest) act w := by
  subst hm
  obtain ⟨i0, hi, hz0, hz1, hz2⟩ := info_parts infoV
  cases a with
  | none =>
    have e : ys = [] := by
      by_cases hy : ys = []
      · exact hy
      · obtain ⟨ad, e, _⟩ := hr hy; cases e
    subst e
    have hc := hnil rfl
    subst hc
    refine wpList_append_own_none hgd s x 36 ho base 40 i0 4 Try.underlying36 hi v n (vnCells zs) hs hown hx ?_
    obtain ⟨va, vc, e⟩ : ∃ va vc, v = .slice va n vc := by
      rcases hown.2 with ⟨hv, h0⟩ | ⟨g, cap, cur, hv, _⟩
      · exact ⟨none, 0, by rw [hv, h0]⟩
      · exact ⟨some ⟨g, 0, none⟩, cap, hv⟩
    subst e
    have := h va vc w (by simpa using hown) (Below.refl _ _) ⟨rfl, rfl, rfl, Nat.le_refl _, fun _ _ _ => rfl⟩
    simpa using this
  | some ad =>
    have hnews : ∀ j u, (vnCells ys)[j]? = some u → w.cell? (ad.add j) = some u := by
      by_cases hy : ys = []
      · subst hy; intro j u hj; simp [vnCells] at hj
      · obtain ⟨ad', e, hc⟩ := hr hy
        cases e
        exact hc
    refine wpList_append_own _ hgd s x 36 ho base 40 i0 (.agg #[.string ⟨#[]⟩, .int .i64 0, .int .i64 0, .int .i64 0]) 4 40 Try.underlying36 hi hz0 hz1 hz2 rfl (by decide) v n (vnCells zs) hs hown ad ys.length cap (vnCells ys) hx (vnCells_len ys) hnews (vnCells_one ys) (by unfold maxLen; omega) (by omega) hbase ?_
    intro v' w' hown' hgrow _
    obtain ⟨va, vc, e⟩ : ∃ va vc, v' = .slice va (n + ys.length) vc := by
      rcases hown'.2 with ⟨hv, h0⟩ | ⟨g, cap, cur, hv, _⟩
      · exact ⟨none, 0, by rw [hv, h0]⟩
      · exact ⟨some ⟨g, 0, none⟩, cap, hv⟩
    subst e
    exact h va vc w' (by rw [vnCells_app]; exact hown') ((Below.refl _ w).grown hgrow hbase (fun k hk => (hown.lt k hk).1)) hgrow
end Go.Proofs.Ytodidokeblblgaa

namespace Go.Proofs.Ytodidokeblblgaa.M
set_option linter.unusedVariables false
theorem all_mem {s : Sh} (h : numY (kyL s.l)) (x : Vn) : x ∈ allS s ↔ ∃ i, i < s.l.length ∧ x = (s.l.map (·.1)).getD i vn0 := (ver_spec (key_ky h) s.l.length (Nat.le_refl _)).2 x
theorem all_at {s : Sh} (h : numY (kyL s.l)) {i : Nat} (hi : i < (allS s).length) : ∃ k, k < s.l.length ∧ (allS s).getD i vn0 = (s.l.getD k vg0).1 := by
  have := (all_mem h ((allS s).getD i vn0)).1 (by rw [List.getD, List.getElem?_eq_getElem hi]; exact List.getElem_mem hi)
  obtain ⟨k, k1, k2⟩ := this
  exact ⟨k, k1, by rw [k2]; simp [List.getD, k1]⟩
theorem all_one {s : Sh} (h : numY (kyL s.l)) (ho : oneL s.l) {i j : Nat} (hij : i < j) (hj : j < (allS s).length) : ¬ (((allS s).getD i vn0).name = ((allS s).getD j vn0).name ∧ ((allS s).getD i vn0).stage = ((allS s).getD j vn0).stage ∧ (((allS s).getD i vn0).stage = 3 ∨ ((allS s).getD i vn0).stage = 2)) := by
  intro z
  obtain ⟨k, k1, k2⟩ := all_at h (show i < (allS s).length by omega)
  obtain ⟨m, m1, m2⟩ := all_at h hj
  have lt : vLt ((allS s).getD i vn0) ((allS s).getD j vn0) = true := by
    have := (ver_spec (key_ky h) s.l.length (Nat.le_refl _)).1
    unfold SortV at this
    rw [List.pairwise_iff_getElem] at this
    have q := this i j (by show i < (allS s).length; omega) hj hij
    have e1 : (allS s).getD i vn0 = (allS s)[i] := by simp [List.getD, show i < (allS s).length by omega]
    have e2 : (allS s).getD j vn0 = (allS s)[j] := by simp [List.getD, hj]
    rw [e1, e2]
    exact q
  have km : k ≠ m := fun e => by
    subst e
    rw [k2, m2] at lt
    have := v_asym lt
    rw [lt] at this
    cases this
  rw [k2, m2] at z
  rcases Nat.lt_or_gt_of_ne km with q | q
  · exact ho k m vg0 q m1 z
  · exact ho m k vg0 q k1 ⟨z.1.symm, z.2.1.symm, by rw [← z.2.1]; exact z.2.2⟩
theorem all_shr {s : Sh} (h : numY (kyL s.l)) (ho : shrL s.l) {i : Nat} (hi : i < (allS s).length) : (0 < ((allS s).getD i vn0).share ↔ ((allS s).getD i vn0).stage = 2) := by
  obtain ⟨k, k1, k2⟩ := all_at h hi
  rw [k2]
  exact ho k vg0 k1
end Go.Proofs.Ytodidokeblblgaa.M

namespace Go.Proofs.Ytodidokeblblgaa
open Go.ChangeShapes Go.WideShapes Go.ChangeAt Go.RowKit Go.Lib
set_option linter.unusedVariables false
set_option maxHeartbeats 8000000 in
set_option maxRecDepth 10000 in
theorem vnsame_any (a b : Option Addr) (l : List M.Vn) (ca cb : Nat) (w : World) (ha : RdV w a l) (hb : RdV w b l) :
    Calls Try.prog 8 #[.slice a l.length ca, .slice b l.length cb] w fun e w' => e = .returned (.bool true) ∧ Below w.heap.size w w' := by
  have hm : l.length ≤ 9223372036854775807 := ha.1
  have HA := hide ha
  have HB := hide hb
  have z1 : ((l.length : Int) != (l.length : Int)) = false := by simp
  clear ha hb
  go_enter Try.func8, Try.ntmps8
  go_wp2
  go_loopw [5] (fun i wr => ∃ k : Nat, k ≤ l.length ∧ i = .int .i64 k ∧ Hid (Below w.heap.size w wr)) (fun i _ => l.length - (intOf i).toNat)
  case atStart => exact ⟨0, Nat.zero_le _, rfl, Below.refl _ _⟩
  case round =>
    obtain ⟨k, hk, rfl, K⟩ := hrel
    by_cases hlt : k < l.length
    · have kz : (k : Int) < (l.length : Int) := by omega
      obtain ⟨b1, o1, rfl, hb1, hc1⟩ := (HA.out.below K.out).2 (by intro e; rw [e] at hlt; simp at hlt)
      obtain ⟨b2, o2, rfl, hb2, hc2⟩ := (HB.out.below K.out).2 (by intro e; rw [e] at hlt; simp at hlt)
      obtain ⟨c0, c1, c2, c3⟩ := hc1 k hlt
      obtain ⟨d0, d1, d2, d3⟩ := hc2 k hlt
      clear hc1 hc2 HA HB
      generalize byStr (M.vAtL l k).name = x0 at *
      generalize (M.vAtL l k).num = x1 at *
      generalize (M.vAtL l k).stage = x2 at *
      generalize (M.vAtL l k).share = x3 at *
      go_upto_region 6 with fail
      go_quiet (fail)
      have K2 := hide (below_drew K.out nq K.out.size)
      go_wp2
      go_roundw
      case rel => exact ⟨k + 1, by omega, by go_num, K2⟩
      case measure => simp [intOf]; omega
    · have ek : k = l.length := by omega
      have kz : ¬ ((k : Int) < (l.length : Int)) := by omega
      clear ek HA HB
      go_wp2
      go_ret
      exact ⟨rfl, K.out⟩
end Go.Proofs.Ytodidokeblblgaa
