/-
  Several texts as one: VnCells, RefIn, RefMany, Put6, TCheck, NdSame, VnSame.
-/
import Derived.Test.YtiggkjkjfnlfkaaGreatDoorRunS1
import Derived.Test.YtiggkjkjfnlfkaaGreatDoorRunS9
import Derived.Laws.AppendOwnNone
import Derived.OwnWalk
import Derived.Test.YtiggkjkjfnlfkaaGreatDoorRunS2
import Derived.Test.YtiggkjkjfnlfkaaGreatDoorRunS11
import Derived.BigQuiet
import Derived.Deep.QuietTactic
import Derived.Test.YtiggkjkjfnlfkaaGreatDoorRunS10
import Derived.Test.YtiggkjkjfnlfkaaGreatDoorRunS12
import Derived.Deep.Cut
import Derived.Deep.CutRange
import Derived.Deep.RegionWith
import Derived.RegionTactic
namespace Go.Proofs.YtiggkjkjfnlfkaaGreatDoor
open Go.ChangeShapes Go.WideShapes Go.ChangeAt Go.RowKit Go.Lib
set_option linter.unusedVariables false
theorem infoV : (Tryz.prog.info? 49).map (fun i => (i.zero, i.size, i.bytes)) = some (some (.agg #[.string ⟨#[]⟩, .int .i64 0, .int .i64 0, .int .i64 0]), 4, 40) := by kernel_rfl
def encN (v : M.Vn) : List Value := [.string (byStr v.name), .int .i64 v.num, .int .i64 v.stage, .int .i64 v.share]
def vnCells (xs : List M.Vn) : List Value := xs.flatMap encN
theorem vnCells_cons (u : M.Vn) (t : List M.Vn) : vnCells (u :: t) = .string (byStr u.name) :: .int .i64 u.num :: .int .i64 u.stage :: .int .i64 u.share :: vnCells t := rfl
theorem vnCells_app (a b : List M.Vn) : vnCells (a ++ b) = vnCells a ++ vnCells b := by unfold vnCells; rw [List.flatMap_append]
theorem vnCells_len (ts : List M.Vn) : (vnCells ts).length = ts.length * 4 := by
  induction ts with
  | nil => rfl
  | cons x t ih => rw [vnCells_cons]; simp only [List.length_cons, ih]; omega
theorem vnCells_one (ts : List M.Vn) : ∀ v ∈ vnCells ts, v.oneCell' = true := by
  intro v hv
  simp only [vnCells, List.mem_flatMap] at hv
  obtain ⟨s, _, hs⟩ := hv
  simp only [encN, List.mem_cons, List.not_mem_nil, or_false] at hs
  rcases hs with rfl | rfl | rfl | rfl <;> rfl
def M.vAtL (l : List M.Vn) (i : Nat) : M.Vn := l.getD i M.vn0
theorem vAtL_in (l : List M.Vn) {i : Nat} (h : i < l.length) : M.vAtL l i = l[i] := by simp [M.vAtL, List.getD, h]
theorem vnCells_at : ∀ (ts : List M.Vn) (i : Nat), i < ts.length → (vnCells ts)[i * 4]? = some (.string (byStr (M.vAtL ts i).name)) ∧ (vnCells ts)[i * 4 + 1]? = some (.int .i64 (M.vAtL ts i).num) ∧ (vnCells ts)[i * 4 + 2]? = some (.int .i64 (M.vAtL ts i).stage) ∧ (vnCells ts)[i * 4 + 3]? = some (.int .i64 (M.vAtL ts i).share)
  | [], i, h => by simp at h
  | s :: t, 0, h => ⟨rfl, rfl, rfl, rfl⟩
  | s :: t, i + 1, h => by
    have := vnCells_at t i (by simpa using h)
    have e : M.vAtL (s :: t) (i + 1) = M.vAtL t i := by simp [M.vAtL]
    rw [vnCells_cons, e, show (i + 1) * 4 = i * 4 + 1 + 1 + 1 + 1 by omega]
    simpa using this
/-- versions, where they lie -/
def FourAt (w : World) (b off : Nat) (u : M.Vn) : Prop := w.cell? ⟨b, off, none⟩ = some (.string (byStr u.name)) ∧ w.cell? ⟨b, off + 1, none⟩ = some (.int .i64 u.num) ∧ w.cell? ⟨b, off + 2, none⟩ = some (.int .i64 u.stage) ∧ w.cell? ⟨b, off + 3, none⟩ = some (.int .i64 u.share)
def RdV (w : World) (a : Option Addr) (xs : List M.Vn) : Prop :=
  xs.length ≤ maxLen ∧ (xs ≠ [] → ∃ b off, a = some ⟨b, off, none⟩ ∧ b < w.heap.size ∧ ∀ i, i < xs.length → FourAt w b (off + i * 4) (M.vAtL xs i))
theorem RdV.below {w w' : World} {a : Option Addr} {xs : List M.Vn} (h : RdV w a xs) (hb : Below w.heap.size w w') : RdV w' a xs :=
  ⟨h.1, fun hn => by
    obtain ⟨b, off, e, hl, hc⟩ := h.2 hn
    exact ⟨b, off, e, Nat.lt_of_lt_of_le hl hb.size, fun i hi => ⟨(hb.cell (p := ⟨b, off + i * 4, none⟩) hl).trans (hc i hi).1, (hb.cell (p := ⟨b, off + i * 4 + 1, none⟩) hl).trans (hc i hi).2.1, (hb.cell (p := ⟨b, off + i * 4 + 2, none⟩) hl).trans (hc i hi).2.2.1, (hb.cell (p := ⟨b, off + i * 4 + 3, none⟩) hl).trans (hc i hi).2.2.2⟩⟩⟩
/-- versions stay while their block does -/
theorem RdV.keep {w w' : World} {a : Option Addr} {xs : List M.Vn} (h : RdV w a xs) (hz : w.heap.size ≤ w'.heap.size) (hk : ∀ p, a = some p → w'.heap[p.block]? = w.heap[p.block]?) : RdV w' a xs :=
  ⟨h.1, fun hn => by
    obtain ⟨b, off, e, hl, hc⟩ := h.2 hn
    have hb : w'.heap[b]? = w.heap[b]? := hk _ e
    have k : ∀ j v, w.cell? ⟨b, j, none⟩ = some v → w'.cell? ⟨b, j, none⟩ = some v := fun j v hv => (World.cell?_of_block (a := ⟨b, j, none⟩) hb).trans hv
    exact ⟨b, off, e, Nat.lt_of_lt_of_le hl hz, fun i hi => ⟨k _ _ (hc i hi).1, k _ _ (hc i hi).2.1, k _ _ (hc i hi).2.2.1, k _ _ (hc i hi).2.2.2⟩⟩⟩
theorem own_rdV {w : World} {base n : Nat} {v : Value} {xs : List M.Vn} (hn : xs.length = n) (hm : n ≤ maxLen) (h : w.ownsRow base 49 4 v n (vnCells xs)) : ∃ a cap, v = .slice a n cap ∧ RdV w a xs ∧ (∀ p, a = some p → base ≤ p.block) := by
  subst hn
  rcases h.2 with ⟨hv, h0⟩ | ⟨g, cap, cur, hv, hb, hg, h1, h2, h3, h4⟩
  · have e : xs = [] := List.length_eq_zero_iff.1 h0
    subst e
    exact ⟨none, 0, hv, ⟨Nat.zero_le _, fun h => absurd rfl h⟩, (fun p hp => by cases hp)⟩
  · subst hv
    refine ⟨_, cap, rfl, ⟨hm, fun _ => ⟨g, 0, rfl, (Array.getElem?_eq_some_iff.1 hg).1, fun i hi => ?_⟩⟩, (fun p hp => by cases hp; exact hb)⟩
    obtain ⟨q0, q1, q2, q3⟩ := vnCells_at xs i hi
    rw [Nat.zero_add]
    exact ⟨(h.cellAt (i * 4) (by omega)).trans q0, (h.cellAt (i * 4 + 1) (by omega)).trans q1, (h.cellAt (i * 4 + 2) (by omega)).trans q2, (h.cellAt (i * 4 + 3) (by omega)).trans q3⟩

theorem wpList_append_vn {w : World} {ops : Array Oper} {rest : List Oper} {o : Oper} {act : Act} {Q : Exit → Act → World → Prop} (hgd : o.guard = none) (s x : Operand)
    (ho : o.op = .call { callee := .builtin .append, args := #[s, x], argTypes := #[43, 43] })
    (base : Nat) (v : Value) (n : Nat) (zs : List M.Vn) (hs : act.eval s = v) (hown : w.ownsRow base 49 4 v n (vnCells zs))
    (a : Option Addr) (ys : List M.Vn) (m cap : Nat) (hm : ys.length = m) (hx : act.eval x = .slice a m cap) (hr : ys ≠ [] → ∃ ad, a = some ad ∧ ∀ j u, (vnCells ys)[j]? = some u → w.cell? (ad.add j) = some u) (hnil : a = none → cap = 0) (hlen : n + ys.length ≤ 1000000) (hbase : base ≤ w.heap.size)
    (h : ∀ va vc w', w'.ownsRow base 49 4 (.slice va (n + m) vc) (n + m) (vnCells (zs ++ ys)) → Below base w w' → w.grownBy w' v.ownBlock → wpList Tryz.prog ops Q rest (act.put o.dst (.slice va (n + m) vc)) w') : wpList Tryz.prog ops Q (o :: rest) act w := by
  subst hm
  obtain ⟨i0, hi, hz0, hz1, hz2⟩ := info_parts infoV
  cases a with
  | none =>
    have e : ys = [] := by
      by_cases hy : ys = []
      · exact hy
      · obtain ⟨ad, e, _⟩ := hr hy; cases e
    subst e
    have hc := hnil rfl
    subst hc
    refine wpList_append_own_none hgd s x 43 ho base 49 i0 4 Tryz.underlying43 hi v n (vnCells zs) hs hown hx ?_
    obtain ⟨va, vc, e⟩ : ∃ va vc, v = .slice va n vc := by
      rcases hown.2 with ⟨hv, h0⟩ | ⟨g, cap, cur, hv, _⟩
      · exact ⟨none, 0, by rw [hv, h0]⟩
      · exact ⟨some ⟨g, 0, none⟩, cap, hv⟩
    subst e
    have := h va vc w (by simpa using hown) (Below.refl _ _) ⟨rfl, rfl, rfl, Nat.le_refl _, fun _ _ _ => rfl⟩
    simpa using this
  | some ad =>
    have hnews : ∀ j u, (vnCells ys)[j]? = some u → w.cell? (ad.add j) = some u := by
      by_cases hy : ys = []
      · subst hy; intro j u hj; simp [vnCells] at hj
      · obtain ⟨ad', e, hc⟩ := hr hy
        cases e
        exact hc
    refine wpList_append_own _ hgd s x 43 ho base 49 i0 (.agg #[.string ⟨#[]⟩, .int .i64 0, .int .i64 0, .int .i64 0]) 4 40 Tryz.underlying43 hi hz0 hz1 hz2 rfl (by decide) v n (vnCells zs) hs hown ad ys.length cap (vnCells ys) hx (vnCells_len ys) hnews (vnCells_one ys) (by unfold maxLen; omega) (by omega) hbase ?_
    intro v' w' hown' hgrow _
    obtain ⟨va, vc, e⟩ : ∃ va vc, v' = .slice va (n + ys.length) vc := by
      rcases hown'.2 with ⟨hv, h0⟩ | ⟨g, cap, cur, hv, _⟩
      · exact ⟨none, 0, by rw [hv, h0]⟩
      · exact ⟨some ⟨g, 0, none⟩, cap, hv⟩
    subst e
    exact h va vc w' (by rw [vnCells_app]; exact hown') ((Below.refl _ w).grown hgrow hbase (fun k hk => (hown.lt k hk).1)) hgrow
/-- the reader, where it lies -/
structure InAt (W : World) (g : Nat) (v : Value) (s : M.In) : Prop where
  c0 : W.cell? ⟨g, 0, none⟩ = some v
  c1 : W.cell? ⟨g, 1, none⟩ = some (.int .i64 (s.at' : Nat))
  c2 : W.cell? ⟨g, 2, none⟩ = some (.int .i64 (s.fin : Nat))
  c3 : W.cell? ⟨g, 3, none⟩ = some (.int .i64 s.bad)
  fr : ∀ j, W.frozen? ⟨g, j, none⟩ = false
theorem InAt.lt {W : World} {g : Nat} {v : Value} {s : M.In} (h : InAt W g v s) : g < W.heap.size := block_lt_of_cell h.c0
theorem InAt.same {W W' : World} {g : Nat} {v : Value} {s : M.In} (h : InAt W g v s) (e : W'.heap[g]? = W.heap[g]?) : InAt W' g v s :=
  ⟨(World.cell?_of_block (a := ⟨g, 0, none⟩) e).trans h.c0, (World.cell?_of_block (a := ⟨g, 1, none⟩) e).trans h.c1, (World.cell?_of_block (a := ⟨g, 2, none⟩) e).trans h.c2, (World.cell?_of_block (a := ⟨g, 3, none⟩) e).trans h.c3, fun j => (World.frozen?_of_block (a := ⟨g, j, none⟩) e).trans (h.fr j)⟩
theorem InAt.up {W W' : World} {g : Nat} {v : Value} {s : M.In} (h : InAt W g v s) (hb : Below W.heap.size W W') : InAt W' g v s := h.same (hb.block g h.lt)
theorem InAt.set1 {W : World} {g : Nat} {v : Value} {s : M.In} (h : InAt W g v s) (n : Nat) : InAt (W.setCell ⟨g, 1, none⟩ (.int .i64 (n : Nat))) g v { s with at' := n } :=
  ⟨cell_set_other h.c0 (by decide), cell_set_same h.c1, cell_set_other h.c2 (by decide), cell_set_other h.c3 (by decide), fun j => frozen_set (h.fr j)⟩
theorem InAt.set2 {W : World} {g : Nat} {v : Value} {s : M.In} (h : InAt W g v s) (n : Nat) : InAt (W.setCell ⟨g, 2, none⟩ (.int .i64 (n : Nat))) g v { s with fin := n } :=
  ⟨cell_set_other h.c0 (by decide), cell_set_other h.c1 (by decide), cell_set_same h.c2, cell_set_other h.c3 (by decide), fun j => frozen_set (h.fr j)⟩
theorem InAt.set3 {W : World} {g : Nat} {v : Value} {s : M.In} (h : InAt W g v s) (n : Int) : InAt (W.setCell ⟨g, 3, none⟩ (.int .i64 n)) g v { s with bad := n } :=
  ⟨cell_set_other h.c0 (by decide), cell_set_other h.c1 (by decide), cell_set_other h.c2 (by decide), cell_set_same h.c3, fun j => frozen_set (h.fr j)⟩

set_option maxHeartbeats 8000000 in
set_option maxRecDepth 10000 in
theorem rinum_any (g : Nat) (a : Option Addr) (bs : List Nat) (c : Nat) (s : M.In) (w : World) (h : InAt w g (.slice a bs.length c) s) (hb : RdB w a bs) (hc : bs.length ≤ c) (h63 : c ≤ 9223372036854775807) (hf : s.fin ≤ bs.length) (hne : bs ≠ [] → ∀ p, a = some p → p.block ≠ g) :
    Calls Tryz.prog 109 #[.pointer (some ⟨g, 0, none⟩)] w fun e w' => e = .returned (.int .i64 (M.rNum bs s).1) ∧ InAt w' g (.slice a bs.length c) (M.rNum bs s).2 ∧ w.grownBy w' (some g) := by
  have y3 := h.c3
  by_cases q : s.bad = 0
  · rw [M.rNum_go q]
    have q1 : (s.bad != 0) = false := by rw [bne_eq_false_iff_eq]; exact q
    have y0 := h.c0
    have y1 := h.c1
    have y2 := h.c2
    have f1 := h.fr 1
    have H1 := hide (h.set1 s.fin)
    obtain ⟨R, hR⟩ : ∃ R, R = M.getL (bs.drop s.fin) := ⟨_, rfl⟩
    have RL : Hid (s.fin + R.2.1 ≤ bs.length) := by
      have := M.get_le (bs.drop s.fin)
      rw [← hR, List.length_drop] at this
      unfold Hid
      omega
    obtain ⟨w1, hw1⟩ : ∃ X, X = w.setCell ⟨g, 1, none⟩ (.int .i64 (s.fin : Nat)) := ⟨_, rfl⟩
    rw [← hw1] at H1
    have G1 : Hid (w.grownBy w1 (some g)) := by rw [hw1]; exact grown_set
    have R1 : Hid (RdB w1 a bs) := rdB_keep hb (fun hn p hp => (G1.out.block p.block (by
      obtain ⟨b, off, e, hl, _⟩ := hb.2.2 hn
      rw [hp] at e
      cases e
      exact hl) (fun e => hne hn p hp (by cases e; rfl)))) G1.out.size
    have GT : Hid (∀ (W : World) a' n' c', n' = bs.length - s.fin → RdB W a' (bs.drop s.fin) → Calls Tryz.prog 151 #[.slice a' n' c'] W fun e w' => e = .returned (.tuple #[.int .i64 R.1, .int .i64 (R.2.1 : Nat), .int .i64 R.2.2]) ∧ w' = W) := fun W a' n' c' hn h' => by
      have := rget_any a' (bs.drop s.fin) c' W h'
      rw [List.length_drop, ← hn, ← hR] at this
      exact this
    have RS : Hid (∀ n, RdB (w1.drewN n) (if c = s.fin then a else Option.map (fun x => x.add s.fin) a) (bs.drop s.fin)) := fun n => rdB_slice (R1.out.below (below_drew (Below.refl _ _) n (Nat.le_refl _))) hc
    have z0 : (0 : Int) ≤ (s.fin : Int) := by omega
    have z1 : (s.fin : Int) ≤ (bs.length : Int) := by omega
    have z2 : (s.fin : Int) ≤ (c : Int) := by omega
    have RR := hide hR
    have x0 := H1.out.c0
    have x1 : w1.cell? ⟨g, 1, none⟩ = some (.int .i64 (s.fin : Nat)) := H1.out.c1
    rw [← hR]
    clear h hb hne hR q
    go_enter Tryz.func109, Tryz.ntmps109
    go_upto_region 4 with fail
    rw [← hw1]
    clear hw1 y0 y1 y2 y3
    go_quiet ((go_at_call 151; exact Calls.quiet_of_same (GT.out _ _ _ _ rfl (RS.out _))))
    generalize (if c = s.fin then a else Option.map (fun x => x.add s.fin) a) = ad
    obtain ⟨w2, hw2⟩ : ∃ X, X = w1.drewN nq := ⟨_, rfl⟩
    rw [← hw2]
    have H2 : Hid (InAt w2 g (.slice a bs.length c) { s with at' := s.fin }) := by rw [hw2]; exact H1.out.up (below_drew (Below.refl _ _) nq (Nat.le_refl _))
    have G2 : Hid (w.grownBy w2 (some g)) := by rw [hw2]; exact grown_trans G1.out (grown_of (below_drew (Below.refl _ _) nq (Nat.le_refl _)) (some g)) (.inl rfl)
    have v1 : w2.cell? ⟨g, 1, none⟩ = some (.int .i64 (s.fin : Nat)) := H2.out.c1
    have v2 : w2.cell? ⟨g, 2, none⟩ = some (.int .i64 (s.fin : Nat)) := H2.out.c2
    have f2 := H2.out.fr 2
    have rl := RL.out
    have S3 : Hid (InAt (w2.setCell ⟨g, 2, none⟩ (.int .i64 ((s.fin + R.2.1 : Nat) : Int))) g (.slice a bs.length c) ⟨s.fin, s.fin + R.2.1, s.bad⟩) := H2.out.set2 (s.fin + R.2.1)
    have ei : ((s.fin + R.2.1 : Nat) : Int) = (s.fin : Int) + (R.2.1 : Int) := by omega
    rw [ei] at S3
    clear hw2 x0 x1 RR RL ei
    go_upto_region 6 with fail
    obtain ⟨w3, hw3⟩ : ∃ X, X = w2.setCell ⟨g, 2, none⟩ (.int .i64 ((s.fin : Int) + (R.2.1 : Int))) := ⟨_, rfl⟩
    rw [← hw3] at S3 ⊢
    have G3 : Hid (w.grownBy w3 (some g)) := by rw [hw3]; exact grown_trans G2.out grown_set (.inl rfl)
    have u3 := S3.out.c3
    have f3 := S3.out.fr 3
    have S4 := hide (S3.out.set3 R.2.2)
    clear hw3 v1 v2 f2
    go_wp2
    go_ret
    exact ⟨rfl, S4.out, grown_trans G3.out grown_set (.inl rfl)⟩
  · rw [M.rNum_bad q]
    have q1 : (s.bad != 0) = true := by rw [bne_iff_ne]; exact q
    have HI := hide h
    clear h hb q
    go_enter Tryz.func109, Tryz.ntmps109
    go_wp2
    go_ret
    exact ⟨rfl, HI.out, World.grownBy.refl _ _⟩
set_option maxHeartbeats 8000000 in
set_option maxRecDepth 10000 in
theorem rimany_any (g : Nat) (a : Option Addr) (bs : List Nat) (c : Nat) (most : Int) (s : M.In) (w : World) (h : InAt w g (.slice a bs.length c) s) (hb : RdB w a bs) (hc : bs.length ≤ c) (h63 : c ≤ 9223372036854775807) (hf : s.fin ≤ bs.length) (hne : bs ≠ [] → ∀ p, a = some p → p.block ≠ g) :
    Calls Tryz.prog 110 #[.pointer (some ⟨g, 0, none⟩), .int .i64 most] w fun e w' => e = .returned (.int .i64 (M.rMany bs most s).1) ∧ InAt w' g (.slice a bs.length c) (M.rMany bs most s).2 ∧ w.grownBy w' (some g) := by
  have NM := hide (rinum_any g a bs c s w h hb hc h63 hf hne)
  have EM : Hid (M.rMany bs most s = if (M.rNum bs s).2.bad = 0 ∧ ((M.rNum bs s).1 < 1 ∨ most < (M.rNum bs s).1) then (0, { (M.rNum bs s).2 with bad := 1 }) else if (M.rNum bs s).2.bad ≠ 0 then (0, (M.rNum bs s).2) else M.rNum bs s) := rfl
  generalize M.rMany bs most s = Z at *
  generalize M.rNum bs s = R at *
  obtain ⟨n, t⟩ := R
  clear h hb hc hf hne
  by_cases h1 : t.bad = 0
  · have q1 : (t.bad == 0) = true := by rw [beq_iff_eq]; exact h1
    have q1' : (t.bad != 0) = false := by rw [bne_eq_false_iff_eq]; exact h1
    by_cases h2 : n < 1 ∨ most < n
    · have e1 := EM.out
      rw [if_pos ⟨h1, h2⟩] at e1
      have EZ := hide e1
      clear e1 EM
      by_cases h3 : n < 1
      · have q2 : decide (n < 1) = true := decide_eq_true h3
        clear h1 h2 h3
        go_enter Tryz.func110, Tryz.ntmps110
        go_upto_region 3 with (go_at_call 109; refine NM.out.mono ?_; rintro e w1 ⟨rfl, i1, g1⟩; have I1 := hide i1; have G1 := hide g1; have c3 := i1.c3; have f3 := i1.fr 3; have S3 := hide (i1.set3 1); clear i1 g1)
        obtain ⟨w2, hw2⟩ : ∃ X, X = w1.setCell ⟨g, 3, none⟩ (.int .i64 1) := ⟨_, rfl⟩
        rw [← hw2] at S3
        have G2 : Hid (w.grownBy w2 (some g)) := by rw [hw2]; exact grown_trans G1.out grown_set (.inl rfl)
        have u3 : w2.cell? ⟨g, 3, none⟩ = some (.int .i64 1) := S3.out.c3
        go_upto_region 4 with fail
        rw [← hw2]
        clear hw2 c3 f3
        go_wp2
        go_ret
        exact ⟨by rw [EZ.out]; rfl, by rw [EZ.out]; exact S3.out, G2.out⟩
      · have q2 : decide (n < 1) = false := decide_eq_false h3
        have q3 : decide (most < n) = true := decide_eq_true (by omega)
        clear h1 h2 h3
        go_enter Tryz.func110, Tryz.ntmps110
        go_upto_region 3 with (go_at_call 109; refine NM.out.mono ?_; rintro e w1 ⟨rfl, i1, g1⟩; have I1 := hide i1; have G1 := hide g1; have c3 := i1.c3; have f3 := i1.fr 3; have S3 := hide (i1.set3 1); clear i1 g1)
        obtain ⟨w2, hw2⟩ : ∃ X, X = w1.setCell ⟨g, 3, none⟩ (.int .i64 1) := ⟨_, rfl⟩
        rw [← hw2] at S3
        have G2 : Hid (w.grownBy w2 (some g)) := by rw [hw2]; exact grown_trans G1.out grown_set (.inl rfl)
        have u3 : w2.cell? ⟨g, 3, none⟩ = some (.int .i64 1) := S3.out.c3
        go_upto_region 4 with fail
        rw [← hw2]
        clear hw2 c3 f3
        go_wp2
        go_ret
        exact ⟨by rw [EZ.out]; rfl, by rw [EZ.out]; exact S3.out, G2.out⟩
    · have e1 := EM.out
      rw [if_neg (fun z => h2 z.2), if_neg (by simp [h1])] at e1
      have EZ := hide e1
      have q2 : decide (n < 1) = false := decide_eq_false (by omega)
      have q3 : decide (most < n) = false := decide_eq_false (by omega)
      clear e1 EM h1 h2
      go_enter Tryz.func110, Tryz.ntmps110
      go_wp2_with (go_at_call 109; refine NM.out.mono ?_; rintro e w1 ⟨rfl, i1, g1⟩; have I1 := hide i1; have G1 := hide g1; have c3 := i1.c3; clear i1 g1)
      go_ret
      exact ⟨by rw [EZ.out]; rfl, by rw [EZ.out]; exact I1.out, G1.out⟩
  · have q1 : (t.bad == 0) = false := by rw [beq_eq_false_iff_ne]; exact h1
    have q1' : (t.bad != 0) = true := by rw [bne_iff_ne]; exact h1
    have e1 := EM.out
    rw [if_neg (fun z => h1 z.1), if_pos h1] at e1
    have EZ := hide e1
    clear e1 EM h1
    go_enter Tryz.func110, Tryz.ntmps110
    go_wp2_with (go_at_call 109; refine NM.out.mono ?_; rintro e w1 ⟨rfl, i1, g1⟩; have I1 := hide i1; have G1 := hide g1; have c3 := i1.c3; clear i1 g1)
    go_ret
    exact ⟨by rw [EZ.out]; rfl, by rw [EZ.out]; exact I1.out, G1.out⟩
/-- a node's block, written over -/
abbrev put6 (W : World) (p : Nat) (x0 x1 x2 x3 x4 x5 : Value) : World := (((((W.setCell ⟨p, 0, none⟩ x0).setCell ⟨p, 1, none⟩ x1).setCell ⟨p, 2, none⟩ x2).setCell ⟨p, 3, none⟩ x3).setCell ⟨p, 4, none⟩ x4).setCell ⟨p, 5, none⟩ x5
theorem put6_cells {W : World} {p : Nat} {x0 x1 x2 x3 x4 x5 y0 y1 y2 y3 y4 y5 : Value} (h : W.cell? ⟨p, 0, none⟩ = some y0 ∧ W.cell? ⟨p, 1, none⟩ = some y1 ∧ W.cell? ⟨p, 2, none⟩ = some y2 ∧ W.cell? ⟨p, 3, none⟩ = some y3 ∧ W.cell? ⟨p, 4, none⟩ = some y4 ∧ W.cell? ⟨p, 5, none⟩ = some y5) :
    (put6 W p x0 x1 x2 x3 x4 x5).cell? ⟨p, 0, none⟩ = some x0 ∧ (put6 W p x0 x1 x2 x3 x4 x5).cell? ⟨p, 1, none⟩ = some x1 ∧ (put6 W p x0 x1 x2 x3 x4 x5).cell? ⟨p, 2, none⟩ = some x2 ∧ (put6 W p x0 x1 x2 x3 x4 x5).cell? ⟨p, 3, none⟩ = some x3 ∧ (put6 W p x0 x1 x2 x3 x4 x5).cell? ⟨p, 4, none⟩ = some x4 ∧ (put6 W p x0 x1 x2 x3 x4 x5).cell? ⟨p, 5, none⟩ = some x5 := by
  obtain ⟨h0, h1, h2, h3, h4, h5⟩ := h
  have o : ∀ (V : World) (i j : Nat) (v : Value), i ≠ j → (V.setCell ⟨p, i, none⟩ v).cell? ⟨p, j, none⟩ = V.cell? ⟨p, j, none⟩ := fun V i j v hij => World.cell?_setCell_other _ _ _ _ (by intro e; cases e; exact hij rfl)
  have s : ∀ (V : World) (j : Nat) (v u : Value), V.cell? ⟨p, j, none⟩ = some u → (V.setCell ⟨p, j, none⟩ v).cell? ⟨p, j, none⟩ = some v := fun V j v u hu => World.cell?_setCell_same (u := u) _ _ _ hu
  refine ⟨?_, ?_, ?_, ?_, ?_, ?_⟩
  · rw [o _ _ _ _ (by decide), o _ _ _ _ (by decide), o _ _ _ _ (by decide), o _ _ _ _ (by decide), o _ _ _ _ (by decide), s _ _ _ y0 h0]
  · rw [o _ _ _ _ (by decide), o _ _ _ _ (by decide), o _ _ _ _ (by decide), o _ _ _ _ (by decide), s _ _ _ y1 (by rw [o _ _ _ _ (by decide)]; exact h1)]
  · rw [o _ _ _ _ (by decide), o _ _ _ _ (by decide), o _ _ _ _ (by decide), s _ _ _ y2 (by rw [o _ _ _ _ (by decide), o _ _ _ _ (by decide)]; exact h2)]
  · rw [o _ _ _ _ (by decide), o _ _ _ _ (by decide), s _ _ _ y3 (by rw [o _ _ _ _ (by decide), o _ _ _ _ (by decide), o _ _ _ _ (by decide)]; exact h3)]
  · rw [o _ _ _ _ (by decide), s _ _ _ y4 (by rw [o _ _ _ _ (by decide), o _ _ _ _ (by decide), o _ _ _ _ (by decide), o _ _ _ _ (by decide)]; exact h4)]
  · rw [s _ _ _ y5 (by rw [o _ _ _ _ (by decide), o _ _ _ _ (by decide), o _ _ _ _ (by decide), o _ _ _ _ (by decide), o _ _ _ _ (by decide)]; exact h5)]
theorem put6_below {B : Nat} {w W : World} {p : Nat} {x0 x1 x2 x3 x4 x5 : Value} (h : Below B w W) (hp : B ≤ p) : Below B w (put6 W p x0 x1 x2 x3 x4 x5) :=
  (((((h.setCell (p := ⟨p, 0, none⟩) hp _).setCell (p := ⟨p, 1, none⟩) hp _).setCell (p := ⟨p, 2, none⟩) hp _).setCell (p := ⟨p, 3, none⟩) hp _).setCell (p := ⟨p, 4, none⟩) hp _).setCell (p := ⟨p, 5, none⟩) hp _
theorem put6_frozen {W : World} {p j : Nat} {x0 x1 x2 x3 x4 x5 : Value} (h : W.frozen? ⟨p, j, none⟩ = false) : (put6 W p x0 x1 x2 x3 x4 x5).frozen? ⟨p, j, none⟩ = false := by simpa using h
theorem put6_size {W : World} {p : Nat} {x0 x1 x2 x3 x4 x5 : Value} : (put6 W p x0 x1 x2 x3 x4 x5).heap.size = W.heap.size := by simp

/-- the node in a block -/
def Six (W : World) (p : Nat) (n : M.Nd) : Prop := W.cell? ⟨p, 0, none⟩ = some (.int .i64 (M.nf n)) ∧ W.cell? ⟨p, 1, none⟩ = some (.int .i64 (M.nc n)) ∧ W.cell? ⟨p, 2, none⟩ = some (.int .i64 (M.nl n)) ∧ W.cell? ⟨p, 3, none⟩ = some (.int .i64 (M.nr n)) ∧ W.cell? ⟨p, 4, none⟩ = some (.bool (M.ns n)) ∧ W.cell? ⟨p, 5, none⟩ = some (.int .i64 (M.nv n))
theorem Six.below {W W' : World} {p : Nat} {n : M.Nd} (h : Six W p n) (hb : Below W.heap.size W W') (hp : p < W.heap.size) : Six W' p n :=
  ⟨(hb.cell (p := ⟨p, 0, none⟩) hp).trans h.1, (hb.cell (p := ⟨p, 1, none⟩) hp).trans h.2.1, (hb.cell (p := ⟨p, 2, none⟩) hp).trans h.2.2.1, (hb.cell (p := ⟨p, 3, none⟩) hp).trans h.2.2.2.1, (hb.cell (p := ⟨p, 4, none⟩) hp).trans h.2.2.2.2.1, (hb.cell (p := ⟨p, 5, none⟩) hp).trans h.2.2.2.2.2⟩
theorem Six.drew {W : World} {p : Nat} {n : M.Nd} (h : Six W p n) : Six W.drew p n := h
theorem froz_drew {W : World} {p j : Nat} (h : W.frozen? ⟨p, j, none⟩ = false) : W.drew.frozen? ⟨p, j, none⟩ = false := h
theorem size_drew {W : World} {n : Nat} (h : n < W.heap.size) : n < W.drew.heap.size := h
/-- how far the node in a block is from the end -/
def vFar (p : Nat) (W : World) : Nat :=
  if intOf ((W.cell? ⟨p, 0, none⟩).getD (.int .i64 0)) = -1 then 0 else 2000 - min (intOf ((W.cell? ⟨p, 2, none⟩).getD (.int .i64 0))).toNat (intOf ((W.cell? ⟨p, 3, none⟩).getD (.int .i64 0))).toNat
theorem vFar_six {W : World} {p : Nat} {n : M.Nd} (h : Six W p n) : vFar p W = if M.nf n = -1 then 0 else 2000 - min (M.nl n).toNat (M.nr n).toNat := by
  unfold vFar; rw [h.1, h.2.2.1, h.2.2.2.1]; rfl
theorem two_val {n : Nat} {c : Int} {tf : Nat × Int} (h : tf = (n, c)) : Ending.returned (.tuple #[.int .i64 (n : Nat), errV c]) = .returned (.tuple #[.int .i64 (tf.1 : Nat), errV tf.2]) := by rw [h]

set_option maxHeartbeats 4000000 in
set_option maxRecDepth 10000 in
theorem tcheck_any (a0 : Option Addr) (ts : List M.Nd) (cap : Nat) (m : Int) (w : World) (h : RdN w a0 ts) :
    Calls Tryz.prog 177 #[.slice a0 ts.length cap, .int .i64 m] w fun e w' => e = .returned (.tuple #[.int .i64 ((M.treeF ts m).1 : Nat), errV (M.treeF ts m).2]) ∧ Below w.heap.size w w' := by
  have hm : ts.length ≤ 9223372036854775807 := h.1
  by_cases h63 : 63 < ts.length
  · have E := hide (M.tree_full (m := m) h63)
    have hd : decide ((63 : Int) < (ts.length : Int)) = true := decide_eq_true (by omega)
    clear h h63
    generalize M.treeF ts m = tf at *
    go_enter Tryz.func177, Tryz.ntmps177
    go_wp2
    go_ret2
    exact ⟨two_val E.out, Below.refl _ _⟩
  · have hd : decide ((63 : Int) < (ts.length : Int)) = false := decide_eq_false (by omega)
    by_cases h0 : ts.length = 0
    · have E := hide (M.tree_none (m := m) h0)
      have q0 : ((ts.length : Int) == 0) = true := by rw [beq_iff_eq]; omega
      clear h h63 h0
      generalize M.treeF ts m = tf at *
      generalize ts.length = len at *
      go_enter Tryz.func177, Tryz.ntmps177
      go_wp2
      go_ret2
      exact ⟨two_val E.out, Below.refl _ _⟩
    · have q0 : ((ts.length : Int) == 0) = false := by rw [beq_eq_false_iff_ne]; omega
      by_cases h1 : m < 0
      · have E := hide (M.tree_range h63 h0 (.inl h1))
        have q1 : decide (m < 0) = true := decide_eq_true h1
        clear h h63 h0 h1
        generalize M.treeF ts m = tf at *
        generalize ts.length = len at *
        go_enter Tryz.func177, Tryz.ntmps177
        go_wp2
        go_ret2
        exact ⟨two_val E.out, Below.refl _ _⟩
      · have q1 : decide (m < 0) = false := decide_eq_false h1
        by_cases h2 : 8 < m
        · have E := hide (M.tree_range h63 h0 (.inr h2))
          have q2 : decide (8 < m) = true := decide_eq_true h2
          clear h h63 h0 h1 h2
          generalize M.treeF ts m = tf at *
          generalize ts.length = len at *
          go_enter Tryz.func177, Tryz.ntmps177
          go_wp2
          go_ret2
          exact ⟨two_val E.out, Below.refl _ _⟩
        · have q2 : decide (8 < m) = false := decide_eq_false h2
          have l63 : ts.length ≤ 63 := by omega
          have TN : Hid (∀ i, i < ts.length → M.nodeF (M.nAt ts i) i ts.length m ≠ 0 → (∀ j, j < i → M.nodeF (M.nAt ts j) j ts.length m = 0) → M.treeF ts m = (i, M.nodeF (M.nAt ts i) i ts.length m)) := fun i hi hb hj => M.tree_node h63 h0 (by omega) hi hb hj
          have TS : Hid ((∀ j, j < ts.length → M.nodeF (M.nAt ts j) j ts.length m = 0) → 0 < M.strayV ts → M.treeF ts m = (M.strayV ts, 7)) := fun hb hs => M.stray_tree h63 h0 (by omega) hb hs
          have TF : Hid ((∀ j, j < ts.length → M.nodeF (M.nAt ts j) j ts.length m = 0) → M.strayV ts = 0 → M.treeF ts m = if 10 < M.deepest ts ts.length then (0, 4) else (0, 0)) := fun hb hs => by
            have F : M.Fair ts m := ⟨by omega, by omega, by omega, by omega, hb, M.stray_zero hs⟩
            rw [M.deepest_eq F]; exact M.tree_fair F
          have CS : Hid (∀ W, Below w.heap.size w W → (∀ j, j < ts.length → M.nodeF (M.nAt ts j) j ts.length m = 0) → Calls Tryz.prog 206 #[.slice a0 ts.length cap] W fun e w' => e = .returned (.int .i64 (M.strayV ts : Nat)) ∧ Below W.heap.size W w') := fun W hW hb => stray_any a0 ts cap m W (h.below hW) l63 hb
          have CD : Hid (∀ W, Below w.heap.size w W → (∀ j, j < ts.length → M.nodeF (M.nAt ts j) j ts.length m = 0) → Calls Tryz.prog 207 #[.slice a0 ts.length cap] W fun e w' => e = .returned (.int .i64 (M.deepest ts ts.length : Nat)) ∧ Below W.heap.size W w') := fun W hW hb => depth_any a0 ts cap m W (h.below hW) l63 hb
          have DB := M.deep_le ts ts.length
          have SB : M.strayV ts ≤ 63 := by
            rcases Nat.eq_zero_or_pos (M.strayV ts) with e | e
            · omega
            · unfold M.strayV
              cases q : M.firstN (M.strayP ts) ts.length with
              | none => simp
              | some k => have := (M.first_some q).1; simp; omega
          have HR := hide h.2
          clear h h63 h0 h1 h2
          generalize M.treeF ts m = tf at *
          generalize M.strayV ts = sv at *
          generalize M.deepest ts ts.length = dv at *
          go_enter Tryz.func177, Tryz.ntmps177
          go_wp2
          go_loopw [27] (fun i wr => ∃ k : Nat, k ≤ ts.length ∧ i = .int .i64 k ∧ Below w.heap.size w wr ∧ Hid (∀ j, j < k → M.nodeF (M.nAt ts j) j ts.length m = 0)) (fun i _ => ts.length - (intOf i).toNat)
          case atStart => exact ⟨0, Nat.zero_le _, rfl, Below.refl _ _, fun j hj => by omega⟩
          case round =>
            obtain ⟨k, hk, rfl, hbl, I⟩ := hrel
            by_cases hlt : k < ts.length
            · obtain ⟨b0, off, rfl, hb0, hc⟩ := HR.out (by intro e; subst e; simp at hlt)
              obtain ⟨s0, s1, s2, s3, s4, s5⟩ := (hc k hlt).below hbl hb0
              have C1 := hide (fun W => checknode_any (M.nAt ts k) k ts.length (k : Int) ((ts.length : Int) - 1) m W rfl rfl)
              unfold ndV at C1
              have NB : Hid (∀ o W, Below (wr.alloc o).heap.size (wr.alloc o) W → Below w.heap.size w W) := fun o W hW => below_on (below_on hbl ((Below.refl _ wr).alloc (Nat.le_refl _) o)) hW
              by_cases hf : M.nodeF (M.nAt ts k) k ts.length m = 0
              · have N : Hid (∀ j, j < k + 1 → M.nodeF (M.nAt ts j) j ts.length m = 0) := fun j hj => by
                  by_cases e : j = k
                  · subst e; exact hf
                  · exact I.out j (by omega)
                rw [err_nil hf] at C1
                clear hc hf hbl
                generalize M.nf (M.nAt ts k) = f at *
                generalize M.nc (M.nAt ts k) = c at *
                generalize M.nl (M.nAt ts k) = l at *
                generalize M.nr (M.nAt ts k) = r at *
                generalize M.ns (M.nAt ts k) = sl at *
                generalize M.nv (M.nAt ts k) = v at *
                go_wp2_with (go_at_call 205; refine (C1.out _).mono ?_; rintro e w1 ⟨rfl, hb1⟩)
                go_roundw
                case rel => exact ⟨k + 1, by omega, by go_num, NB.out _ w1 hb1, N⟩
                case measure => simp [intOf]; omega
              · have E := hide (TN.out k hlt hf I.out)
                have EE : Hid (errV (M.nodeF (M.nAt ts k) k ts.length m) = .iface 90 (.int .i64 (M.nodeF (M.nAt ts k) k ts.length m))) := err_some hf
                rw [err_some hf] at C1
                clear hc hf hbl TN
                generalize M.nodeF (M.nAt ts k) k ts.length m = cc at *
                generalize M.nf (M.nAt ts k) = f at *
                generalize M.nc (M.nAt ts k) = c at *
                generalize M.nl (M.nAt ts k) = l at *
                generalize M.nr (M.nAt ts k) = r at *
                generalize M.ns (M.nAt ts k) = sl at *
                generalize M.nv (M.nAt ts k) = v at *
                go_wp2_with (go_at_call 205; refine (C1.out _).mono ?_; rintro e w1 ⟨rfl, hb1⟩)
                go_ret2
                exact ⟨by rw [← EE.out]; exact two_val E.out, NB.out _ w1 hb1⟩
            · have A : Hid (∀ j, j < ts.length → M.nodeF (M.nAt ts j) j ts.length m = 0) := fun j hj => I.out j (by omega)
              have S1 := hide (CS.out wr hbl A.out)
              have D1 := hide (fun W (hW : Below w.heap.size w W) => CD.out W hW A.out)
              by_cases hs : sv = 0
              · have qs : decide (0 < sv) = false := decide_eq_false (by omega)
                have E1 := hide (TF.out A.out hs)
                by_cases h10 : 10 < dv
                · have qd : decide ((10 : Int) < (dv : Int)) = true := decide_eq_true (by omega)
                  have E : Hid (tf = (0, 4)) := by have := E1.out; rw [if_pos h10] at this; exact this
                  clear E1 TN TS TF A CS CD HR hs h10
                  go_wp2_with (first
                    | (go_at_call 206; refine S1.out.mono ?_; rintro e w1 ⟨rfl, hb1⟩)
                    | (go_at_call 207; refine (D1.out _ (below_on hbl hb1)).mono ?_; rintro e w2 ⟨rfl, hb2⟩))
                  go_ret2
                  exact ⟨two_val E.out, below_on (below_on hbl hb1) hb2⟩
                · have qd : decide ((10 : Int) < (dv : Int)) = false := decide_eq_false (by omega)
                  have E : Hid (tf = (0, 0)) := by have := E1.out; rw [if_neg h10] at this; exact this
                  clear E1 TN TS TF A CS CD HR hs h10
                  go_wp2_with (first
                    | (go_at_call 206; refine S1.out.mono ?_; rintro e w1 ⟨rfl, hb1⟩)
                    | (go_at_call 207; refine (D1.out _ (below_on hbl hb1)).mono ?_; rintro e w2 ⟨rfl, hb2⟩))
                  go_ret2
                  exact ⟨two_val E.out, below_on (below_on hbl hb1) hb2⟩
              · have qs : decide (0 < sv) = true := decide_eq_true (by omega)
                have E := hide (TS.out A.out (by omega))
                clear TN TS TF A CS CD HR hs D1
                go_wp2_with (go_at_call 206; refine S1.out.mono ?_; rintro e w1 ⟨rfl, hb1⟩)
                go_ret2
                exact ⟨two_val E.out, below_on hbl hb1⟩
set_option maxHeartbeats 8000000 in
set_option maxRecDepth 10000 in
theorem nodesame_any (a b : Option Addr) (ts : List M.Nd) (ca cb : Nat) (w : World) (ha : RdN w a ts) (hb : RdN w b ts) :
    Calls Tryz.prog 48 #[.slice a ts.length ca, .slice b ts.length cb] w fun e w' => e = .returned (.bool true) ∧ Below w.heap.size w w' := by
  have hm : ts.length ≤ 9223372036854775807 := ha.1
  have HA := hide ha
  have HB := hide hb
  clear ha hb
  go_enter Tryz.func48, Tryz.ntmps48
  go_wp2
  go_loopw [5] (fun i wr => ∃ k : Nat, k ≤ ts.length ∧ i = .int .i64 k ∧ Hid (Below w.heap.size w wr)) (fun i _ => ts.length - (intOf i).toNat)
  case atStart => exact ⟨0, Nat.zero_le _, rfl, Below.refl _ _⟩
  case round =>
    obtain ⟨k, hk, rfl, K⟩ := hrel
    by_cases hlt : k < ts.length
    · have kz : (k : Int) < (ts.length : Int) := by omega
      obtain ⟨b1, o1, rfl, h1, hc1⟩ := (HA.out.below K.out).2 (by intro e; subst e; simp at hlt)
      obtain ⟨b2, o2, rfl, h2, hc2⟩ := (HB.out.below K.out).2 (by intro e; subst e; simp at hlt)
      obtain ⟨s0, s1, s2, s3, s4, s5⟩ := hc1 k hlt
      obtain ⟨u0, u1, u2, u3, u4, u5⟩ := hc2 k hlt
      clear hc1 hc2 HA HB
      generalize M.nf (M.nAt ts k) = f at *
      generalize M.nc (M.nAt ts k) = c at *
      generalize M.nl (M.nAt ts k) = l at *
      generalize M.nr (M.nAt ts k) = r at *
      generalize M.ns (M.nAt ts k) = sl at *
      generalize M.nv (M.nAt ts k) = v at *
      go_upto_region 6 with fail
      go_cut [25] from 17 to 24 (fun t wx => t = .bool false ∧ Hid (Below wr.heap.size wr wx))
      case first =>
        go_region
        all_goals go_wp2
        all_goals go_meet
        all_goals (case rel => exact ⟨by simp, (Below.refl wr.heap.size wr).drew⟩)
      case rest =>
        obtain ⟨rfl, K6⟩ := hcut
        have K7 := hide (below_on K.out K6.out)
        go_wp2
        go_roundw
        case rel => exact ⟨k + 1, by omega, by go_num, K7⟩
        case measure => simp [intOf]; omega
    · go_wp2
      go_ret
      exact ⟨rfl, K.out⟩
set_option maxHeartbeats 8000000 in
set_option maxRecDepth 10000 in
theorem vnsame_any (a b : Option Addr) (l : List M.Vn) (ca cb : Nat) (w : World) (ha : RdV w a l) (hb : RdV w b l) :
    Calls Tryz.prog 12 #[.slice a l.length ca, .slice b l.length cb] w fun e w' => e = .returned (.bool true) ∧ Below w.heap.size w w' := by
  have hm : l.length ≤ 9223372036854775807 := ha.1
  have HA := hide ha
  have HB := hide hb
  have z1 : ((l.length : Int) != (l.length : Int)) = false := by simp
  clear ha hb
  go_enter Tryz.func12, Tryz.ntmps12
  go_wp2
  go_loopw [5] (fun i wr => ∃ k : Nat, k ≤ l.length ∧ i = .int .i64 k ∧ Hid (Below w.heap.size w wr)) (fun i _ => l.length - (intOf i).toNat)
  case atStart => exact ⟨0, Nat.zero_le _, rfl, Below.refl _ _⟩
  case round =>
    obtain ⟨k, hk, rfl, K⟩ := hrel
    by_cases hlt : k < l.length
    · have kz : (k : Int) < (l.length : Int) := by omega
      obtain ⟨b1, o1, rfl, hb1, hc1⟩ := (HA.out.below K.out).2 (by intro e; rw [e] at hlt; simp at hlt)
      obtain ⟨b2, o2, rfl, hb2, hc2⟩ := (HB.out.below K.out).2 (by intro e; rw [e] at hlt; simp at hlt)
      obtain ⟨c0, c1, c2, c3⟩ := hc1 k hlt
      obtain ⟨d0, d1, d2, d3⟩ := hc2 k hlt
      clear hc1 hc2 HA HB
      generalize byStr (M.vAtL l k).name = x0 at *
      generalize (M.vAtL l k).num = x1 at *
      generalize (M.vAtL l k).stage = x2 at *
      generalize (M.vAtL l k).share = x3 at *
      go_upto_region 6 with fail
      go_quiet (fail)
      have K2 := hide (below_drew K.out nq K.out.size)
      go_wp2
      go_roundw
      case rel => exact ⟨k + 1, by omega, by go_num, K2⟩
      case measure => simp [intOf]; omega
    · have ek : k = l.length := by omega
      have kz : ¬ ((k : Int) < (l.length : Int)) := by omega
      clear ek HA HB
      go_wp2
      go_ret
      exact ⟨rfl, K.out⟩
end Go.Proofs.YtiggkjkjfnlfkaaGreatDoor
