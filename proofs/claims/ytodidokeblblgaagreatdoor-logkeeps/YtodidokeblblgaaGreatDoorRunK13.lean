/-
  Several texts as one: TCheck, VnCells, LgMs, LgMk, CaA, VnSame.
-/
import Derived.Test.YtodidokeblblgaaGreatDoorRunK12
import Derived.Test.YtodidokeblblgaaGreatDoorRunK1
import Derived.Test.YtodidokeblblgaaGreatDoorRunK9
import Derived.Laws.AppendOwnNone
import Derived.OwnWalk
import Derived.Test.YtodidokeblblgaaGreatDoorRunK8
import Derived.BigQuiet
import Derived.Deep.QuietTactic
import Derived.Deep.Cut
import Derived.Deep.CutRange
namespace Go.Proofs.YtodidokeblblgaaGreatDoor
open Go.ChangeShapes Go.WideShapes Go.ChangeAt Go.RowKit Go.Lib
set_option linter.unusedVariables false
theorem two_val {n : Nat} {c : Int} {tf : Nat × Int} (h : tf = (n, c)) : Ending.returned (.tuple #[.int .i64 (n : Nat), errV c]) = .returned (.tuple #[.int .i64 (tf.1 : Nat), errV tf.2]) := by rw [h]

set_option maxHeartbeats 4000000 in
set_option maxRecDepth 10000 in
theorem tcheck_any (a0 : Option Addr) (ts : List M.Nd) (cap : Nat) (m : Int) (w : World) (h : RdN w a0 ts) :
    Calls Tryz.prog 149 #[.slice a0 ts.length cap, .int .i64 m] w fun e w' => e = .returned (.tuple #[.int .i64 ((M.treeF ts m).1 : Nat), errV (M.treeF ts m).2]) ∧ Below w.heap.size w w' := by
  have hm : ts.length ≤ 9223372036854775807 := h.1
  by_cases h63 : 63 < ts.length
  · have E := hide (M.tree_full (m := m) h63)
    have hd : decide ((63 : Int) < (ts.length : Int)) = true := decide_eq_true (by omega)
    clear h h63
    generalize M.treeF ts m = tf at *
    go_enter Tryz.func149, Tryz.ntmps149
    go_wp2
    go_ret2
    exact ⟨two_val E.out, Below.refl _ _⟩
  · have hd : decide ((63 : Int) < (ts.length : Int)) = false := decide_eq_false (by omega)
    by_cases h0 : ts.length = 0
    · have E := hide (M.tree_none (m := m) h0)
      have q0 : ((ts.length : Int) == 0) = true := by rw [beq_iff_eq]; omega
      clear h h63 h0
      generalize M.treeF ts m = tf at *
      generalize ts.length = len at *
      go_enter Tryz.func149, Tryz.ntmps149
      go_wp2
      go_ret2
      exact ⟨two_val E.out, Below.refl _ _⟩
    · have q0 : ((ts.length : Int) == 0) = false := by rw [beq_eq_false_iff_ne]; omega
      by_cases h1 : m < 0
      · have E := hide (M.tree_range h63 h0 (.inl h1))
        have q1 : decide (m < 0) = true := decide_eq_true h1
        clear h h63 h0 h1
        generalize M.treeF ts m = tf at *
        generalize ts.length = len at *
        go_enter Tryz.func149, Tryz.ntmps149
        go_wp2
        go_ret2
        exact ⟨two_val E.out, Below.refl _ _⟩
      · have q1 : decide (m < 0) = false := decide_eq_false h1
        by_cases h2 : 8 < m
        · have E := hide (M.tree_range h63 h0 (.inr h2))
          have q2 : decide (8 < m) = true := decide_eq_true h2
          clear h h63 h0 h1 h2
          generalize M.treeF ts m = tf at *
          generalize ts.length = len at *
          go_enter Tryz.func149, Tryz.ntmps149
          go_wp2
          go_ret2
          exact ⟨two_val E.out, Below.refl _ _⟩
        · have q2 : decide (8 < m) = false := decide_eq_false h2
          have l63 : ts.length ≤ 63 := by omega
          have TN : Hid (∀ i, i < ts.length → M.nodeF (M.nAt ts i) i ts.length m ≠ 0 → (∀ j, j < i → M.nodeF (M.nAt ts j) j ts.length m = 0) → M.treeF ts m = (i, M.nodeF (M.nAt ts i) i ts.length m)) := fun i hi hb hj => M.tree_node h63 h0 (by omega) hi hb hj
          have TS : Hid ((∀ j, j < ts.length → M.nodeF (M.nAt ts j) j ts.length m = 0) → 0 < M.strayV ts → M.treeF ts m = (M.strayV ts, 7)) := fun hb hs => M.stray_tree h63 h0 (by omega) hb hs
          have TF : Hid ((∀ j, j < ts.length → M.nodeF (M.nAt ts j) j ts.length m = 0) → M.strayV ts = 0 → M.treeF ts m = if 10 < M.deepest ts ts.length then (0, 4) else (0, 0)) := fun hb hs => by
            have F : M.Fair ts m := ⟨by omega, by omega, by omega, by omega, hb, M.stray_zero hs⟩
            rw [M.deepest_eq F]; exact M.tree_fair F
          have CS : Hid (∀ W, Below w.heap.size w W → (∀ j, j < ts.length → M.nodeF (M.nAt ts j) j ts.length m = 0) → Calls Tryz.prog 162 #[.slice a0 ts.length cap] W fun e w' => e = .returned (.int .i64 (M.strayV ts : Nat)) ∧ Below W.heap.size W w') := fun W hW hb => stray_any a0 ts cap m W (h.below hW) l63 hb
          have CD : Hid (∀ W, Below w.heap.size w W → (∀ j, j < ts.length → M.nodeF (M.nAt ts j) j ts.length m = 0) → Calls Tryz.prog 163 #[.slice a0 ts.length cap] W fun e w' => e = .returned (.int .i64 (M.deepest ts ts.length : Nat)) ∧ Below W.heap.size W w') := fun W hW hb => depth_any a0 ts cap m W (h.below hW) l63 hb
          have DB := M.deep_le ts ts.length
          have SB : M.strayV ts ≤ 63 := by
            rcases Nat.eq_zero_or_pos (M.strayV ts) with e | e
            · omega
            · unfold M.strayV
              cases q : M.firstN (M.strayP ts) ts.length with
              | none => simp
              | some k => have := (M.first_some q).1; simp; omega
          have HR := hide h.2
          clear h h63 h0 h1 h2
          generalize M.treeF ts m = tf at *
          generalize M.strayV ts = sv at *
          generalize M.deepest ts ts.length = dv at *
          go_enter Tryz.func149, Tryz.ntmps149
          go_wp2
          go_loopw [27] (fun i wr => ∃ k : Nat, k ≤ ts.length ∧ i = .int .i64 k ∧ Below w.heap.size w wr ∧ Hid (∀ j, j < k → M.nodeF (M.nAt ts j) j ts.length m = 0)) (fun i _ => ts.length - (intOf i).toNat)
          case atStart => exact ⟨0, Nat.zero_le _, rfl, Below.refl _ _, fun j hj => by omega⟩
          case round =>
            obtain ⟨k, hk, rfl, hbl, I⟩ := hrel
            by_cases hlt : k < ts.length
            · obtain ⟨b0, off, rfl, hb0, hc⟩ := HR.out (by intro e; subst e; simp at hlt)
              obtain ⟨s0, s1, s2, s3, s4, s5⟩ := (hc k hlt).below hbl hb0
              have C1 := hide (fun W => checknode_any (M.nAt ts k) k ts.length (k : Int) ((ts.length : Int) - 1) m W rfl rfl)
              unfold ndV at C1
              have NB : Hid (∀ o W, Below (wr.alloc o).heap.size (wr.alloc o) W → Below w.heap.size w W) := fun o W hW => below_on (below_on hbl ((Below.refl _ wr).alloc (Nat.le_refl _) o)) hW
              by_cases hf : M.nodeF (M.nAt ts k) k ts.length m = 0
              · have N : Hid (∀ j, j < k + 1 → M.nodeF (M.nAt ts j) j ts.length m = 0) := fun j hj => by
                  by_cases e : j = k
                  · subst e; exact hf
                  · exact I.out j (by omega)
                rw [err_nil hf] at C1
                clear hc hf hbl
                generalize M.nf (M.nAt ts k) = f at *
                generalize M.nc (M.nAt ts k) = c at *
                generalize M.nl (M.nAt ts k) = l at *
                generalize M.nr (M.nAt ts k) = r at *
                generalize M.ns (M.nAt ts k) = sl at *
                generalize M.nv (M.nAt ts k) = v at *
                go_wp2_with (go_at_call 161; refine (C1.out _).mono ?_; rintro e w1 ⟨rfl, hb1⟩)
                go_roundw
                case rel => exact ⟨k + 1, by omega, by go_num, NB.out _ w1 hb1, N⟩
                case measure => simp [intOf]; omega
              · have E := hide (TN.out k hlt hf I.out)
                have EE : Hid (errV (M.nodeF (M.nAt ts k) k ts.length m) = .iface 97 (.int .i64 (M.nodeF (M.nAt ts k) k ts.length m))) := err_some hf
                rw [err_some hf] at C1
                clear hc hf hbl TN
                generalize M.nodeF (M.nAt ts k) k ts.length m = cc at *
                generalize M.nf (M.nAt ts k) = f at *
                generalize M.nc (M.nAt ts k) = c at *
                generalize M.nl (M.nAt ts k) = l at *
                generalize M.nr (M.nAt ts k) = r at *
                generalize M.ns (M.nAt ts k) = sl at *
                generalize M.nv (M.nAt ts k) = v at *
                go_wp2_with (go_at_call 161; refine (C1.out _).mono ?_; rintro e w1 ⟨rfl, hb1⟩)
                go_ret2
                exact ⟨by rw [← EE.out]; exact two_val E.out, NB.out _ w1 hb1⟩
            · have A : Hid (∀ j, j < ts.length → M.nodeF (M.nAt ts j) j ts.length m = 0) := fun j hj => I.out j (by omega)
              have S1 := hide (CS.out wr hbl A.out)
              have D1 := hide (fun W (hW : Below w.heap.size w W) => CD.out W hW A.out)
              by_cases hs : sv = 0
              · have qs : decide (0 < sv) = false := decide_eq_false (by omega)
                have E1 := hide (TF.out A.out hs)
                by_cases h10 : 10 < dv
                · have qd : decide ((10 : Int) < (dv : Int)) = true := decide_eq_true (by omega)
                  have E : Hid (tf = (0, 4)) := by have := E1.out; rw [if_pos h10] at this; exact this
                  clear E1 TN TS TF A CS CD HR hs h10
                  go_wp2_with (first
                    | (go_at_call 162; refine S1.out.mono ?_; rintro e w1 ⟨rfl, hb1⟩)
                    | (go_at_call 163; refine (D1.out _ (below_on hbl hb1)).mono ?_; rintro e w2 ⟨rfl, hb2⟩))
                  go_ret2
                  exact ⟨two_val E.out, below_on (below_on hbl hb1) hb2⟩
                · have qd : decide ((10 : Int) < (dv : Int)) = false := decide_eq_false (by omega)
                  have E : Hid (tf = (0, 0)) := by have := E1.out; rw [if_neg h10] at this; exact this
                  clear E1 TN TS TF A CS CD HR hs h10
                  go_wp2_with (first
                    | (go_at_call 162; refine S1.out.mono ?_; rintro e w1 ⟨rfl, hb1⟩)
                    | (go_at_call 163; refine (D1.out _ (below_on hbl hb1)).mono ?_; rintro e w2 ⟨rfl, hb2⟩))
                  go_ret2
                  exact ⟨two_val E.out, below_on (below_on hbl hb1) hb2⟩
              · have qs : decide (0 < sv) = true := decide_eq_true (by omega)
                have E := hide (TS.out A.out (by omega))
                clear TN TS TF A CS CD HR hs D1
                go_wp2_with (go_at_call 162; refine S1.out.mono ?_; rintro e w1 ⟨rfl, hb1⟩)
                go_ret2
                exact ⟨two_val E.out, below_on hbl hb1⟩
theorem infoV : (Tryz.prog.info? 49).map (fun i => (i.zero, i.size, i.bytes)) = some (some (.agg #[.string ⟨#[]⟩, .int .i64 0, .int .i64 0, .int .i64 0]), 4, 40) := by kernel_rfl
def encN (v : M.Vn) : List Value := [.string (byStr v.name), .int .i64 v.num, .int .i64 v.stage, .int .i64 v.share]
def vnCells (xs : List M.Vn) : List Value := xs.flatMap encN
theorem vnCells_cons (u : M.Vn) (t : List M.Vn) : vnCells (u :: t) = .string (byStr u.name) :: .int .i64 u.num :: .int .i64 u.stage :: .int .i64 u.share :: vnCells t := rfl
theorem vnCells_app (a b : List M.Vn) : vnCells (a ++ b) = vnCells a ++ vnCells b := by unfold vnCells; rw [List.flatMap_append]
theorem vnCells_len (ts : List M.Vn) : (vnCells ts).length = ts.length * 4 := by
  induction ts with
  | nil => rfl
  | cons x t ih => rw [vnCells_cons]; simp only [List.length_cons, ih]; omega
theorem vnCells_one (ts : List M.Vn) : ∀ v ∈ vnCells ts, v.oneCell' = true := by
  intro v hv
  simp only [vnCells, List.mem_flatMap] at hv
  obtain ⟨s, _, hs⟩ := hv
  simp only [encN, List.mem_cons, List.not_mem_nil, or_false] at hs
  rcases hs with rfl | rfl | rfl | rfl <;> rfl
def M.vAtL (l : List M.Vn) (i : Nat) : M.Vn := l.getD i M.vn0
theorem vAtL_in (l : List M.Vn) {i : Nat} (h : i < l.length) : M.vAtL l i = l[i] := by simp [M.vAtL, List.getD, h]
theorem vnCells_at : ∀ (ts : List M.Vn) (i : Nat), i < ts.length → (vnCells ts)[i * 4]? = some (.string (byStr (M.vAtL ts i).name)) ∧ (vnCells ts)[i * 4 + 1]? = some (.int .i64 (M.vAtL ts i).num) ∧ (vnCells ts)[i * 4 + 2]? = some (.int .i64 (M.vAtL ts i).stage) ∧ (vnCells ts)[i * 4 + 3]? = some (.int .i64 (M.vAtL ts i).share)
  | [], i, h => by simp at h
  | s :: t, 0, h => ⟨rfl, rfl, rfl, rfl⟩
  | s :: t, i + 1, h => by
    have := vnCells_at t i (by simpa using h)
    have e : M.vAtL (s :: t) (i + 1) = M.vAtL t i := by simp [M.vAtL]
    rw [vnCells_cons, e, show (i + 1) * 4 = i * 4 + 1 + 1 + 1 + 1 by omega]
    simpa using this
/-- versions, where they lie -/
def FourAt (w : World) (b off : Nat) (u : M.Vn) : Prop := w.cell? ⟨b, off, none⟩ = some (.string (byStr u.name)) ∧ w.cell? ⟨b, off + 1, none⟩ = some (.int .i64 u.num) ∧ w.cell? ⟨b, off + 2, none⟩ = some (.int .i64 u.stage) ∧ w.cell? ⟨b, off + 3, none⟩ = some (.int .i64 u.share)
def RdV (w : World) (a : Option Addr) (xs : List M.Vn) : Prop :=
  xs.length ≤ maxLen ∧ (xs ≠ [] → ∃ b off, a = some ⟨b, off, none⟩ ∧ b < w.heap.size ∧ ∀ i, i < xs.length → FourAt w b (off + i * 4) (M.vAtL xs i))
theorem RdV.below {w w' : World} {a : Option Addr} {xs : List M.Vn} (h : RdV w a xs) (hb : Below w.heap.size w w') : RdV w' a xs :=
  ⟨h.1, fun hn => by
    obtain ⟨b, off, e, hl, hc⟩ := h.2 hn
    exact ⟨b, off, e, Nat.lt_of_lt_of_le hl hb.size, fun i hi => ⟨(hb.cell (p := ⟨b, off + i * 4, none⟩) hl).trans (hc i hi).1, (hb.cell (p := ⟨b, off + i * 4 + 1, none⟩) hl).trans (hc i hi).2.1, (hb.cell (p := ⟨b, off + i * 4 + 2, none⟩) hl).trans (hc i hi).2.2.1, (hb.cell (p := ⟨b, off + i * 4 + 3, none⟩) hl).trans (hc i hi).2.2.2⟩⟩⟩
/-- versions stay while their block does -/
theorem RdV.keep {w w' : World} {a : Option Addr} {xs : List M.Vn} (h : RdV w a xs) (hz : w.heap.size ≤ w'.heap.size) (hk : ∀ p, a = some p → w'.heap[p.block]? = w.heap[p.block]?) : RdV w' a xs :=
  ⟨h.1, fun hn => by
    obtain ⟨b, off, e, hl, hc⟩ := h.2 hn
    have hb : w'.heap[b]? = w.heap[b]? := hk _ e
    have k : ∀ j v, w.cell? ⟨b, j, none⟩ = some v → w'.cell? ⟨b, j, none⟩ = some v := fun j v hv => (World.cell?_of_block (a := ⟨b, j, none⟩) hb).trans hv
    exact ⟨b, off, e, Nat.lt_of_lt_of_le hl hz, fun i hi => ⟨k _ _ (hc i hi).1, k _ _ (hc i hi).2.1, k _ _ (hc i hi).2.2.1, k _ _ (hc i hi).2.2.2⟩⟩⟩
theorem own_rdV {w : World} {base n : Nat} {v : Value} {xs : List M.Vn} (hn : xs.length = n) (hm : n ≤ maxLen) (h : w.ownsRow base 49 4 v n (vnCells xs)) : ∃ a cap, v = .slice a n cap ∧ RdV w a xs ∧ (∀ p, a = some p → base ≤ p.block) := by
  subst hn
  rcases h.2 with ⟨hv, h0⟩ | ⟨g, cap, cur, hv, hb, hg, h1, h2, h3, h4⟩
  · have e : xs = [] := List.length_eq_zero_iff.1 h0
    subst e
    exact ⟨none, 0, hv, ⟨Nat.zero_le _, fun h => absurd rfl h⟩, (fun p hp => by cases hp)⟩
  · subst hv
    refine ⟨_, cap, rfl, ⟨hm, fun _ => ⟨g, 0, rfl, (Array.getElem?_eq_some_iff.1 hg).1, fun i hi => ?_⟩⟩, (fun p hp => by cases hp; exact hb)⟩
    obtain ⟨q0, q1, q2, q3⟩ := vnCells_at xs i hi
    rw [Nat.zero_add]
    exact ⟨(h.cellAt (i * 4) (by omega)).trans q0, (h.cellAt (i * 4 + 1) (by omega)).trans q1, (h.cellAt (i * 4 + 2) (by omega)).trans q2, (h.cellAt (i * 4 + 3) (by omega)).trans q3⟩

theorem wpList_append_vn {w : World} {ops : Array Oper} {rest : List Oper} {o : Oper} {act : Act} {Q : Exit → Act → World → Prop} (hgd : o.guard = none) (s x : Operand)
    (ho : o.op = .call { callee := .builtin .append, args := #[s, x], argTypes := #[43, 43] })
    (base : Nat) (v : Value) (n : Nat) (zs : List M.Vn) (hs : act.eval s = v) (hown : w.ownsRow base 49 4 v n (vnCells zs))
    (a : Option Addr) (ys : List M.Vn) (m cap : Nat) (hm : ys.length = m) (hx : act.eval x = .slice a m cap) (hr : ys ≠ [] → ∃ ad, a = some ad ∧ ∀ j u, (vnCells ys)[j]? = some u → w.cell? (ad.add j) = some u) (hnil : a = none → cap = 0) (hlen : n + ys.length ≤ 1000000) (hbase : base ≤ w.heap.size)
    (h : ∀ va vc w', w'.ownsRow base 49 4 (.slice va (n + m) vc) (n + m) (vnCells (zs ++ ys)) → Below base w w' → w.grownBy w' v.ownBlock → wpList Tryz.prog ops Q rest (act.put o.dst (.slice va (n + m) vc)) w') : wpList Tryz.prog ops Q (o :: rest) act w := by
  subst hm
  obtain ⟨i0, hi, hz0, hz1, hz2⟩ := info_parts infoV
  cases a with
  | none =>
    have e : ys = [] := by
      by_cases hy : ys = []
      · exact hy
      · obtain ⟨ad, e, _⟩ := hr hy; cases e
    subst e
    have hc := hnil rfl
    subst hc
    refine wpList_append_own_none hgd s x 43 ho base 49 i0 4 Tryz.underlying43 hi v n (vnCells zs) hs hown hx ?_
    obtain ⟨va, vc, e⟩ : ∃ va vc, v = .slice va n vc := by
      rcases hown.2 with ⟨hv, h0⟩ | ⟨g, cap, cur, hv, _⟩
      · exact ⟨none, 0, by rw [hv, h0]⟩
      · exact ⟨some ⟨g, 0, none⟩, cap, hv⟩
    subst e
    have := h va vc w (by simpa using hown) (Below.refl _ _) ⟨rfl, rfl, rfl, Nat.le_refl _, fun _ _ _ => rfl⟩
    simpa using this
  | some ad =>
    have hnews : ∀ j u, (vnCells ys)[j]? = some u → w.cell? (ad.add j) = some u := by
      by_cases hy : ys = []
      · subst hy; intro j u hj; simp [vnCells] at hj
      · obtain ⟨ad', e, hc⟩ := hr hy
        cases e
        exact hc
    refine wpList_append_own _ hgd s x 43 ho base 49 i0 (.agg #[.string ⟨#[]⟩, .int .i64 0, .int .i64 0, .int .i64 0]) 4 40 Tryz.underlying43 hi hz0 hz1 hz2 rfl (by decide) v n (vnCells zs) hs hown ad ys.length cap (vnCells ys) hx (vnCells_len ys) hnews (vnCells_one ys) (by unfold maxLen; omega) (by omega) hbase ?_
    intro v' w' hown' hgrow _
    obtain ⟨va, vc, e⟩ : ∃ va vc, v' = .slice va (n + ys.length) vc := by
      rcases hown'.2 with ⟨hv, h0⟩ | ⟨g, cap, cur, hv, _⟩
      · exact ⟨none, 0, by rw [hv, h0]⟩
      · exact ⟨some ⟨g, 0, none⟩, cap, hv⟩
    subst e
    exact h va vc w' (by rw [vnCells_app]; exact hown') ((Below.refl _ w).grown hgrow hbase (fun k hk => (hown.lt k hk).1)) hgrow
end Go.Proofs.YtodidokeblblgaaGreatDoor

namespace Go.Proofs.YtodidokeblblgaaGreatDoor.M
set_option linter.unusedVariables false
def JS (after : Int) (L : Lg) (n : Nat) : Prop := L.stop = false → (after < 0 ∧ L.ahead = after) ∨ (0 ≤ after ∧ (n : Int) ≤ after ∧ L.ahead = after - n)
theorem JS.lost {after : Int} {L : Lg} {n : Nat} (h : JS after L n) : stpF L = (L.stop || (decide (0 ≤ after) && decide ((n : Int) = after))) := by
  unfold stpF
  cases hs : L.stop with
  | true => rfl
  | false =>
    rw [Bool.false_or, Bool.false_or]
    rcases h hs with ⟨a, b⟩ | ⟨a, b, c⟩
    · rw [decide_eq_false (by omega : ¬ L.ahead = 0), decide_eq_false (by omega : ¬ 0 ≤ after), Bool.false_and]
    · rw [decide_eq_true a, Bool.true_and]
      exact decide_eq_decide.2 (by omega)
theorem JS.ways {after : Int} {L : Lg} {n : Nat} (h : JS after L n) : (L.stop = true ∧ stpF L = true) ∨ (L.stop = false ∧ decide (0 ≤ after) = false ∧ stpF L = false) ∨ (L.stop = false ∧ decide (0 ≤ after) = true ∧ ((n : Int) == after) = true ∧ stpF L = true) ∨ (L.stop = false ∧ decide (0 ≤ after) = true ∧ ((n : Int) == after) = false ∧ stpF L = false) := by
  have e := h.lost
  cases hs : L.stop with
  | true => exact .inl ⟨rfl, by rw [e, hs]; rfl⟩
  | false =>
    rw [hs, Bool.false_or] at e
    by_cases q : 0 ≤ after
    · rw [decide_eq_true q, Bool.true_and] at e
      by_cases z : (n : Int) = after
      · exact .inr (.inr (.inl ⟨rfl, decide_eq_true q, beq_iff_eq.2 z, by rw [e]; exact decide_eq_true z⟩))
      · exact .inr (.inr (.inr ⟨rfl, decide_eq_true q, beq_eq_false_iff_ne.2 z, by rw [e]; exact decide_eq_false z⟩))
    · exact .inr (.inl ⟨rfl, decide_eq_false q, by rw [e, decide_eq_false q]; rfl⟩)
theorem JS.step {after : Int} {L L' : Lg} {n : Nat} (h : JS after L n) (h1 : L'.stop = stpF L) (h2 : stpF L = false → L'.ahead = (stpL L).ahead) : JS after L' (n + 1) := fun hs => by
  have e : stpF L = false := h1.symm.trans hs
  have e2 := h2 e
  unfold stpL at e2
  simp only [e, Bool.false_eq_true, if_false] at e2
  have st : L.stop = false ∧ ¬ L.ahead = 0 := by
    unfold stpF at e
    rw [Bool.or_eq_false_iff, decide_eq_false_iff_not] at e
    exact e
  rcases h st.1 with ⟨a, b⟩ | ⟨a, b, c⟩
  · left
    rw [if_neg (by omega)] at e2
    exact ⟨a, by omega⟩
  · right
    rw [if_pos (by omega)] at e2
    exact ⟨a, by omega, by omega⟩
theorem ap_step {L : Lg} {c : Ca} (h1 : apF L c ≠ 1) (h4 : apF L c ≠ 4) : (apF L c = if stpF L = true then 9 else 0) ∧ (apL L c).stop = stpF L ∧ (stpF L = false → (apL L c).ahead = (stpL L).ahead) := by
  have e : apF L c = if stpF L = true then 9 else 0 := by
    unfold apF at *
    by_cases q : rngF c = false
    · rw [if_pos q] at h1; exact absurd rfl h1
    · rw [if_neg q] at h4 ⊢
      by_cases z : 100 < c.name.length ∨ 6000 < c.bys.length ∨ 100000 < L.whole + (recL c).length
      · rw [if_pos z] at h4; exact absurd rfl h4
      · rw [if_neg z]
  refine ⟨e, ?_⟩
  unfold apL
  by_cases hs : L.stop = true
  · rw [if_pos (.inr (.inr hs))]
    have : stpF L = true := by unfold stpF; rw [hs]; rfl
    exact ⟨hs.trans this.symm, fun z => by rw [this] at z; cases z⟩
  · have hs' : L.stop = false := by simpa using hs
    rw [if_neg (fun z => z.elim h1 (fun y => y.elim h4 hs))]
    by_cases a0 : L.ahead = 0
    · rw [if_pos a0]
      have : stpF L = true := by unfold stpF; rw [decide_eq_true a0, Bool.or_true]
      exact ⟨this.symm, fun z => by rw [this] at z; cases z⟩
    · rw [if_neg a0]
      have : stpF L = false := by unfold stpF; rw [hs', decide_eq_false a0]; rfl
      refine ⟨hs'.trans this.symm, fun _ => ?_⟩
      unfold stpL
      simp only [this, Bool.false_eq_true, if_false]
theorem sy_step (L : Lg) : (syL L).stop = stpF L ∧ (stpF L = false → (syL L).ahead = (stpL L).ahead) := by
  unfold syL
  by_cases q : stpF L = true
  · rw [if_pos q]
    exact ⟨rfl, fun _ => rfl⟩
  · rw [if_neg q]
    exact ⟨by simpa using q, fun _ => rfl⟩
theorem ap_same {L : Lg} {c : Ca} (h : apF L c = 1 ∨ apF L c = 4) : apL L c = L := by
  unfold apL
  rw [if_pos (h.elim .inl (fun z => .inr (.inl z)))]
/-- which numbers of faults there are -/
theorem ap_faults (L : Lg) (c : Ca) : apF L c = 1 ∨ apF L c = 4 ∨ (apF L c ≠ 1 ∧ apF L c ≠ 4) := by omega
/-- so many calls are safe -/
def KS (L : Lg) (s : Nat) : Prop := s ≤ L.calls.length ∧ (recs (L.calls.take s)).length ≤ L.safe
theorem recs_take_le (l : List Ca) (k : Nat) : (recs (l.take k)).length ≤ (recs l).length := by
  have := congrArg List.length (recs_split l k)
  rw [List.length_append] at this
  omega
theorem ap_calls {L : Lg} {c : Ca} (nz : apF L c ≠ 0) : (apL L c).calls = L.calls := by
  unfold apL
  by_cases q : apF L c = 1 ∨ apF L c = 4 ∨ L.stop = true
  · rw [if_pos q]
  · rw [if_neg q]
    by_cases z : L.ahead = 0
    · rw [if_pos z]
    · exfalso
      refine nz ?_
      have h := (ap_step (L := L) (c := c) (fun e => q (.inl e)) (fun e => q (.inr (.inl e)))).1
      rw [h, if_neg]
      unfold stpF
      rw [decide_eq_false z]
      cases hs : L.stop with
      | true => exact absurd (.inr (.inr hs)) q
      | false => decide
theorem ap_push {L : Lg} {c : Ca} (z : apF L c = 0) : apL L c = ⟨L.calls ++ [c], [], min L.safe L.whole, if 0 < L.ahead then L.ahead - 1 else L.ahead, L.stop⟩ := by
  have h := (ap_step (L := L) (c := c) (by omega) (by omega)).1
  have f : ¬ stpF L = true := fun e => by rw [if_pos e] at h; omega
  unfold stpF at f
  rw [Bool.or_eq_true, decide_eq_true_iff] at f
  unfold apL
  rw [if_neg (by rw [z]; intro y; rcases y with y | y | y; cases y; cases y; exact f (.inl y)), if_neg (fun e => f (.inr e))]
theorem KS.ap {L : Lg} {s : Nat} (h : KS L s) (c : Ca) : KS (apL L c) s := by
  obtain ⟨h1, h2⟩ := h
  have w : (recs (L.calls.take s)).length ≤ L.whole := recs_take_le _ _
  by_cases z : apF L c = 0
  · rw [ap_push z]
    refine ⟨by show s ≤ (L.calls ++ [c]).length; rw [List.length_append]; omega, ?_⟩
    show (recs ((L.calls ++ [c]).take s)).length ≤ min L.safe L.whole
    rw [List.take_append_of_le_length h1]
    omega
  · refine ⟨by rw [ap_calls z]; exact h1, ?_⟩
    rw [ap_calls z]
    unfold apL
    by_cases q : apF L c = 1 ∨ apF L c = 4 ∨ L.stop = true
    · rw [if_pos q]; exact h2
    · rw [if_neg q]
      by_cases a0 : L.ahead = 0
      · rw [if_pos a0]; show _ ≤ min L.safe L.whole; omega
      · rw [if_neg a0]; show _ ≤ min L.safe L.whole; omega
theorem sy_calls (L : Lg) : (syL L).calls = L.calls := by unfold syL; split <;> rfl
theorem KS.sy {L : Lg} {s : Nat} (h : KS L s) (ok : LgOk L) : KS (syL L) s := by
  refine ⟨by rw [sy_calls]; exact h.1, ?_⟩
  rw [sy_calls]
  unfold syL
  split
  · exact h.2
  · show _ ≤ L.bytes.length
    have a := ok.sf
    have b := h.2
    omega
theorem KS.sy0 {L : Lg} (z : syF L = 0) (ok : LgOk L) : KS (syL L) L.calls.length := by
  refine ⟨by rw [sy_calls]; exact Nat.le_refl _, ?_⟩
  rw [sy_calls, List.take_length]
  have f : ¬ stpF L = true := fun e => by unfold syF at z; rw [if_pos e] at z; cases z
  unfold syL
  rw [if_neg f]
  exact ok.len.1
theorem fitN_ge : ∀ (l : List Ca) (s n : Nat), s ≤ l.length → (recs (l.take s)).length ≤ n → s ≤ fitN l n
  | _, 0, _, _, _ => Nat.zero_le _
  | [], s + 1, _, h, _ => by simp at h
  | c :: l, s + 1, n, h, hn => by
    rw [List.take_succ_cons, recs_cons, List.length_append] at hn
    unfold fitN
    rw [if_pos (by omega)]
    have := fitN_ge l s (n - (recL c).length) (by simpa using h) (by omega)
    omega
theorem cr_calls (L : Lg) (keep : Int) : (crL L keep).calls = L.calls.take (fitN L.calls (crN L keep)) := rfl
theorem KS.cr {L : Lg} {s : Nat} (h : KS L s) (ok : LgOk L) (keep : Int) : s ≤ (crL L keep).calls.length ∧ (crL L keep).calls.length ≤ L.calls.length := by
  have a := fitN_ge L.calls s (crN L keep) h.1 (Nat.le_trans h.2 (crN_le ok keep).1)
  rw [cr_calls, List.length_take]
  have := h.1
  omega
/-- Synced and crashed, all calls are there -/
theorem sync_crash {L : Lg} (ok : LgOk L) (f : stpF L = false) : (crL (syL L) 0).calls = L.calls := by
  have es : syL L = ⟨L.calls, L.tail, L.bytes.length, (stpL L).ahead, false⟩ := by unfold syL; rw [if_neg (by rw [f]; decide)]
  rw [cr_calls, sy_calls]
  have e : fitN L.calls (crN (syL L) 0) = L.calls.length := by
    refine fitN_all _ _ ?_
    rw [es]
    unfold crN
    show (recs L.calls).length ≤ L.bytes.length + _
    have := ok.len.1
    unfold Lg.whole at this
    omega
  rw [e, List.take_length]
/-- behind a crash a call is kept, or there is no room -/
theorem again {L : Lg} {c : Ca} (f : stpF L = false) (hc : CaOk c) : apF L c = 4 ∨ apF L c = 0 := by
  unfold apF
  rw [if_neg (by rw [hc.rng]; decide)]
  split
  · exact .inl rfl
  · rw [f]; exact .inr rfl
end Go.Proofs.YtodidokeblblgaaGreatDoor.M

namespace Go.Proofs.YtodidokeblblgaaGreatDoor
open Go.ChangeShapes Go.WideShapes Go.ChangeAt Go.RowKit Go.Lib
set_option linter.unusedVariables false
/-- the law's own call -/
def caA : M.Ca := ⟨4, 0, 1, [97], 0, 0, []⟩
theorem caA_in (W : World) : CaIn W caA none 0 := ⟨by unfold isB caA; decide, by decide, ⟨Nat.zero_le _, (fun x hx => by cases hx), fun hn => absurd rfl hn⟩, Nat.le_refl _, by omega, ⟨by decide, by decide⟩, ⟨by decide, by decide⟩, fun _ => rfl⟩
theorem caA_ok : M.CaOk caA := ⟨by decide, by decide, by decide, by decide, by decide⟩
theorem caA_str : byStr [97] = ⟨#[97]⟩ := by kernel_rfl
set_option maxHeartbeats 8000000 in
set_option maxRecDepth 10000 in
theorem vnsame_any (a b : Option Addr) (l : List M.Vn) (ca cb : Nat) (w : World) (ha : RdV w a l) (hb : RdV w b l) :
    Calls Tryz.prog 11 #[.slice a l.length ca, .slice b l.length cb] w fun e w' => e = .returned (.bool true) ∧ Below w.heap.size w w' := by
  have hm : l.length ≤ 9223372036854775807 := ha.1
  have HA := hide ha
  have HB := hide hb
  have z1 : ((l.length : Int) != (l.length : Int)) = false := by simp
  clear ha hb
  go_enter Tryz.func11, Tryz.ntmps11
  go_wp2
  go_loopw [5] (fun i wr => ∃ k : Nat, k ≤ l.length ∧ i = .int .i64 k ∧ Hid (Below w.heap.size w wr)) (fun i _ => l.length - (intOf i).toNat)
  case atStart => exact ⟨0, Nat.zero_le _, rfl, Below.refl _ _⟩
  case round =>
    obtain ⟨k, hk, rfl, K⟩ := hrel
    by_cases hlt : k < l.length
    · have kz : (k : Int) < (l.length : Int) := by omega
      obtain ⟨b1, o1, rfl, hb1, hc1⟩ := (HA.out.below K.out).2 (by intro e; rw [e] at hlt; simp at hlt)
      obtain ⟨b2, o2, rfl, hb2, hc2⟩ := (HB.out.below K.out).2 (by intro e; rw [e] at hlt; simp at hlt)
      obtain ⟨c0, c1, c2, c3⟩ := hc1 k hlt
      obtain ⟨d0, d1, d2, d3⟩ := hc2 k hlt
      clear hc1 hc2 HA HB
      generalize byStr (M.vAtL l k).name = x0 at *
      generalize (M.vAtL l k).num = x1 at *
      generalize (M.vAtL l k).stage = x2 at *
      generalize (M.vAtL l k).share = x3 at *
      go_upto_region 6 with fail
      go_quiet (fail)
      have K2 := hide (below_drew K.out nq K.out.size)
      go_wp2
      go_roundw
      case rel => exact ⟨k + 1, by omega, by go_num, K2⟩
      case measure => simp [intOf]; omega
    · have ek : k = l.length := by omega
      have kz : ¬ ((k : Int) < (l.length : Int)) := by omega
      clear ek HA HB
      go_wp2
      go_ret
      exact ⟨rfl, K.out⟩
end Go.Proofs.YtodidokeblblgaaGreatDoor
