/-
  What ChunkTells' walk carries: a Fetch that is filled beside a row of bytes that were put, and two rows that grow side by side. No condition beyond those named.
-/
import Derived.Test.YtelncekgjfpogahDoorByRows
import Derived.Test.YtelncekgjfpogahDoorFetA
import Derived.Test.YtelncekgjfpogahDoorFetLck
import Derived.Test.YtelncekgjfpogahDoorFetByt
import Derived.Deep.OwnRows
import Derived.Maps.AppendAt
namespace Go.Proofs.YtelncekgjfpogahDoor
open Go.ChangeShapes Go.WideShapes Go.ChangeAt Go.RowKit Go.Lib
set_option linter.unusedVariables false

/-! ### what was put, as the law has it -/
def hasB (c : Bc) : Option (List Nat) := if c.1.isNone then none else some c.2.1
def hvL (HV : List Bc) : M.Has := HV.map hasB
def none3 : Bc := (none, [], 0)
theorem hvL_len (HV : List Bc) : (hvL HV).length = HV.length := by simp [hvL]
theorem hvL_zero (l : List M.Pt) : M.has0 l = hvL (List.replicate l.length none3) := by
  unfold M.has0 hvL
  refine List.ext_getElem (by simp) fun i h1 h2 => ?_
  simp [hasB, none3]
theorem hvL_at {HV : List Bc} {i : Nat} (h : i < HV.length) : (hvL HV).getD i none = hasB (HV.getD i none3) := by
  simp [hvL, List.getD, h]
theorem hvL_set {HV : List Bc} {i : Nat} {c : Bc} : (hvL HV).set i (hasB c) = hvL (HV.set i c) := by
  unfold hvL
  rw [List.map_set]
structure HvOk (w : World) (HV : List Bc) : Prop where
  rd : ∀ i, i < HV.length → RdB w (HV.getD i none3).1 (HV.getD i none3).2.1
  nil : ∀ i, i < HV.length → (HV.getD i none3).1 = none → (HV.getD i none3).2.1 = [] ∧ (HV.getD i none3).2.2 = 0
  len : ∀ i, i < HV.length → (HV.getD i none3).2.1.length ≤ 6000
theorem hvok_zero (w : World) (n : Nat) : HvOk w (List.replicate n none3) := by
  have e : ∀ i, i < n → (List.replicate n none3).getD i none3 = none3 := fun i hi => by simp [List.getD, hi]
  refine ⟨fun i hi => ?_, fun i hi _ => ?_, fun i hi => ?_⟩
  all_goals (rw [List.length_replicate] at hi; rw [e i hi])
  · exact ⟨Nat.zero_le _, (fun x hx => by cases hx), fun hn => absurd rfl hn⟩
  · exact ⟨rfl, rfl⟩
  · exact Nat.zero_le _
theorem hvok_set {w : World} {HV : List Bc} (h : HvOk w HV) {k : Nat} {c : Bc} (hr : RdB w c.1 c.2.1) (hn : c.1 = none → c.2.1 = [] ∧ c.2.2 = 0) (hl : c.2.1.length ≤ 6000) : HvOk w (HV.set k c) := by
  have e : ∀ i, i < HV.length → (HV.set k c).getD i none3 = if k = i then c else HV.getD i none3 := fun i hi => by
    by_cases q : k = i
    · subst q; simp [List.getD, hi]
    · simp [List.getD, List.getElem?_set_ne q, q]
  refine ⟨fun i hi => ?_, fun i hi => ?_, fun i hi => ?_⟩
  all_goals (rw [List.length_set] at hi; rw [e i hi])
  · split
    · exact hr
    · exact h.rd i hi
  · split
    · exact hn
    · exact h.nil i hi
  · split
    · exact hl
    · exact h.len i hi
/-- what lacks, and what is there, place by place -/
theorem lackK_hv {HV : List Bc} {k : Nat} (h : k < HV.length) : lackK (hvL HV) (k + 1) = if (HV.getD k none3).1.isNone then lackK (hvL HV) k ++ [(k : Int)] else lackK (hvL HV) k := by
  have e := hvL_at h
  cases q : (HV.getD k none3).1.isNone with
  | true =>
    rw [if_pos rfl]
    exact lackK_none (by rw [e]; unfold hasB; rw [q]; rfl)
  | false =>
    rw [if_neg (by simp)]
    exact lackK_some (by rw [e]; unfold hasB; rw [q]; rfl)
theorem bytK_hv {w : World} {HV : List Bc} (ok : HvOk w HV) {k : Nat} (h : k < HV.length) : bytK (hvL HV) (k + 1) = bytK (hvL HV) k ++ (HV.getD k none3).2.1 := by
  have e := hvL_at h
  cases q : (HV.getD k none3).1 with
  | some p =>
    refine bytK_go ?_
    rw [e]
    unfold hasB
    rw [q]
    rfl
  | none =>
    rw [(ok.nil k h q).1, List.append_nil]
    have hk : k < (hvL HV).length := by rw [hvL_len]; exact h
    have e2 : (hvL HV)[k] = none := by
      have : (hvL HV).getD k none = (hvL HV)[k] := by simp [List.getD, hk]
      rw [← this, e]
      unfold hasB
      rw [q]
      rfl
    unfold bytK
    rw [List.take_succ_eq_append_getElem hk, List.flatMap_append, e2]
    simp
theorem lack_bytes (h : M.Has) : M.bytF h = (if 0 < (M.lackL h).length then 5 else 0) := by
  unfold M.bytF
  have : h.any (·.isNone) = decide (0 < (M.lackL h).length) := by
    rw [Bool.eq_iff_iff, decide_eq_true_iff, List.any_eq_true]
    unfold M.lackL
    rw [List.length_map, List.length_pos_iff_exists_mem]
    constructor
    · rintro ⟨x, hx, hn⟩
      obtain ⟨i, hi, rfl⟩ := List.getElem_of_mem hx
      exact ⟨i, List.mem_filter.2 ⟨List.mem_range.2 hi, by simpa [List.getD, hi] using hn⟩⟩
    · rintro ⟨i, hi⟩
      obtain ⟨h1, h2⟩ := List.mem_filter.1 hi
      have hi' := List.mem_range.1 h1
      exact ⟨h[i], List.getElem_mem hi', by simpa [List.getD, hi'] using h2⟩
  rw [this]
  by_cases q : 0 < (M.lackL h).length
  · rw [decide_eq_true q]; rw [if_pos rfl, if_pos q]
  · rw [decide_eq_false q, if_neg q]; rfl
theorem byt_is {h : M.Has} {n : Nat} (hn : h.length = n) : M.bytV h = if 0 < (M.lackL h).length then [] else bytK h n := by
  subst hn
  have e := lack_bytes h
  unfold M.bytV bytK
  rw [List.take_length]
  by_cases q : 0 < (M.lackL h).length
  · rw [if_pos q] at e ⊢
    rw [e]
    rfl
  · rw [if_neg q] at e ⊢
    rw [e]
    rfl
theorem bytK_8 {w : World} {HV : List Bc} (ok : HvOk w HV) : ∀ k, k ≤ HV.length → (∀ x ∈ bytK (hvL HV) k, x < 256) ∧ (bytK (hvL HV) k).length ≤ 6000 * k
  | 0, _ => ⟨(fun x hx => by simp [bytK] at hx), by simp [bytK]⟩
  | k + 1, hk => by
    obtain ⟨g1, g2⟩ := bytK_8 ok k (by omega)
    rw [bytK_hv ok (by omega)]
    refine ⟨fun x hx => ?_, ?_⟩
    · rcases List.mem_append.1 hx with z | z
      · exact g1 x z
      · exact (ok.rd k (by omega)).2.1 x z
    · rw [List.length_append]
      have := ok.len k (by omega)
      omega

/-! ### the Fetch and the row beside it -/
structure TW (w wN : World) (f : Nat) (K : Nat → Prop) (hb : Nat) (l : List M.Pt) (h : M.Has) (HV : List Bc) (W : World) : Prop where
  fa : FA W f K l h
  kk : ∀ q, K q → wN.heap.size ≤ q ∧ q ≠ hb
  bel : Below w.heap.size w W
  sn : W.ownsRow wN.heap.size 26 1 (.slice (some ⟨hb, 0, none⟩) HV.length HV.length) HV.length (HV.map bV)
  sz : wN.heap.size ≤ W.heap.size
  wn : w.heap.size ≤ wN.heap.size
  sg : wN.heap.size ≤ hb ∧ hb < W.heap.size
theorem ownY_same {W W' : World} {base e size n cap g : Nat} {l : List Value} (h : W.ownsRow base e size (.slice (some ⟨g, 0, none⟩) n cap) n l) (he : W'.heap[g]? = W.heap[g]?) : W'.ownsRow base e size (.slice (some ⟨g, 0, none⟩) n cap) n l := by
  refine ⟨h.1, ?_⟩
  rcases h.2 with ⟨h', h0⟩ | ⟨g', cap', cur, h', hb, hg, rest⟩
  · exact .inl ⟨h', h0⟩
  · have h2 := h'
    rw [Value.slice.injEq] at h2
    have eg : g = g' := by have := h2.1; cases this; rfl
    subst eg
    exact .inr ⟨g, cap', cur, h', hb, he.trans hg, rest⟩
theorem fa_lt {W : World} {f : Nat} {K : Nat → Prop} {l : List M.Pt} {h : M.Has} (F : FA W f K l h) : ∀ q, K q → q < W.heap.size := by obtain ⟨_, _, _, _, F⟩ := F; exact F.lt
theorem fa_up {W W' : World} {f : Nat} {K : Nat → Prop} {l : List M.Pt} {h : M.Has} (F : FA W f K l h) (hk : ∀ q, K q → W'.heap[q]? = W.heap[q]?) (hz : W.heap.size ≤ W'.heap.size) : FA W' f K l h := by obtain ⟨a, c, m, D, F⟩ := F; exact ⟨a, c, m, D, F.up hk hz⟩
theorem fa_len {W : World} {f : Nat} {K : Nat → Prop} {l : List M.Pt} {h : M.Has} (F : FA W f K l h) : h.length = l.length := by obtain ⟨_, _, _, _, F⟩ := F; exact F.len
theorem TW.up {w wN : World} {f : Nat} {K : Nat → Prop} {hb : Nat} {l : List M.Pt} {h : M.Has} {HV : List Bc} {W W' : World} (k : TW w wN f K hb l h HV W) (b : Below W.heap.size W W') : TW w wN f K hb l h HV W' :=
  ⟨fa_up k.fa (fun q hq => b.block q (fa_lt k.fa q hq)) b.size, k.kk, below_on k.bel b, ownY_same k.sn (b.block hb k.sg.2), Nat.le_trans k.sz b.size, k.wn, ⟨k.sg.1, Nat.lt_of_lt_of_le k.sg.2 b.size⟩⟩
theorem TW.put {w wN : World} {f : Nat} {K : Nat → Prop} {hb : Nat} {l : List M.Pt} {h : M.Has} {HV : List Bc} {W W' : World} {K' : Nat → Prop} {h' : M.Has} (k : TW w wN f K hb l h HV W) (fa : FA W' f K' l h') (s : StayBut K W W') (hk : ∀ q, K' q → K q ∨ W.heap.size ≤ q) : TW w wN f K' hb l h' HV W' := by
  have sg := k.sg
  have sz := k.sz
  have wn := k.wn
  have nk : ¬ K hb := fun q => (k.kk hb q).2 rfl
  refine ⟨fa, fun q hq => ?_, ⟨s.os.trans k.bel.os, s.tape.trans k.bel.tape, s.output.trans k.bel.output, Nat.le_trans k.bel.size s.size, fun q hq => (s.block q (by have := k.bel.size; omega) (fun z => by have := (k.kk q z).1; omega)).trans (k.bel.block q hq)⟩, ownY_same k.sn (s.block hb sg.2 nk), by have := s.size; omega, wn, ⟨sg.1, Nat.lt_of_lt_of_le sg.2 s.size⟩⟩
  rcases hk q hq with z | z
  · exact k.kk q z
  · exact ⟨by omega, by omega⟩
theorem TW.set {w wN : World} {f : Nat} {K : Nat → Prop} {hb : Nat} {l : List M.Pt} {h : M.Has} {HV : List Bc} {W : World} (k : TW w wN f K hb l h HV W) (i : Nat) (c : Bc) : TW w wN f K hb l h (HV.set i c) (W.setCell ⟨hb, i, none⟩ (bV c)) := by
  have gs : W.grownBy (W.setCell ⟨hb, i, none⟩ (bV c)) (some hb) := grown_set
  have sg := k.sg
  have sz := k.sz
  have wn := k.wn
  refine ⟨fa_up k.fa (fun q hq => gs.block q (fa_lt k.fa q hq) (fun e => by cases e; exact (k.kk _ hq).2 rfl)) gs.size, k.kk, k.bel.setCell (p := ⟨hb, i, none⟩) (by show w.heap.size ≤ hb; omega) _, ?_, by have := gs.size; omega, wn, ⟨sg.1, by have := gs.size; omega⟩⟩
  rw [List.length_set, List.map_set]
  exact (k.sn.stored i (bV c)).1
theorem TW.cell {w wN : World} {f : Nat} {K : Nat → Prop} {hb : Nat} {l : List M.Pt} {h : M.Has} {HV : List Bc} {W : World} (k : TW w wN f K hb l h HV W) {i : Nat} (hi : i < HV.length) : W.cell? ⟨hb, i, none⟩ = some (bV (HV.getD i none3)) := by
  rw [k.sn.cellAt i (by omega)]
  simp [List.getD, hi]
theorem made_rows (W : World) (n : Nat) (base : Nat) (hb : base ≤ W.heap.size) (hn : n ≤ 1000) : (W.alloc (.cells (madeCells #[Value.slice none 0 0] n) 26)).ownsRow base 26 1 (.slice (some ⟨W.heap.size, 0, none⟩) n n) n ((List.replicate n none3).map bV) := by
  have e : (madeCells #[Value.slice none 0 0] n).toList = (List.replicate n none3).map bV := by
    refine List.ext_getElem (by simp [size_madeCells]) fun i h1 h2 => ?_
    simp [madeCells, Nat.mod_one, bV, none3]
  refine ⟨by rw [← e]; simp [size_madeCells], .inr ⟨W.heap.size, n, madeCells #[Value.slice none 0 0] n, rfl, hb, (MapKept.heap_alloc W _).1, Nat.le_refl _, by unfold maxLen; omega, by simp [size_madeCells], ?_⟩⟩
  rw [Nat.mul_one, e, List.take_of_length_le]
  simp

/-! ### numbers and bytes that grow side by side -/
structure TB (w0 W : World) (x y : Value) (X : List Int) (Y : List Nat) : Prop where
  ox : W.ownsRow w0.heap.size 3 1 x X.length (X.map (Value.int .i64))
  oy : W.ownsRow w0.heap.size 5 1 y Y.length (byCells Y)
  dj : x.ownBlock = none ∨ y.ownBlock = none ∨ x.ownBlock ≠ y.ownBlock
  b : Below w0.heap.size w0 W
theorem TB.begin (w0 : World) : TB w0 w0 (.slice none 0 0) (.slice none 0 0) [] [] := ⟨World.ownsRow_nil _ _ _ _, World.ownsRow_nil _ _ _ _, .inl rfl, Below.refl _ _⟩
theorem TB.first {w0 W w7 : World} {x y : Value} {X : List Int} {Y : List Nat} {o : Obj} {g c : Nat} {u : Int} (h : TB w0 W x y X Y) (hg : (W.alloc o).grownBy w7 x.ownBlock) (ho : w7.ownsRow w0.heap.size 3 1 (.slice (some ⟨g, 0, none⟩) (X.length + 1) c) (X.length + 1) (X.map (Value.int .i64) ++ [.int .i64 u])) (hat : x.ownBlock = some g ∨ g = W.heap.size + 1) :
    TB w0 w7 (.slice (some ⟨g, 0, none⟩) (X.length + 1) c) y (X ++ [u]) Y := by
  have hs := h.b.size
  have ne : y.ownBlock = none ∨ y.ownBlock ≠ x.ownBlock := by
    rcases h.dj with q | q | q
    · cases hy : y.ownBlock with
      | none => exact .inl rfl
      | some z => exact .inr (by rw [q]; simp)
    · exact .inl q
    · exact .inr (fun e => q e.symm)
  refine ⟨by rw [List.map_append, List.length_append]; exact ho, (h.oy.alloc _).kept hg ne, ?_, ?_⟩
  · rcases ne with q | q
    · exact .inr (.inl q)
    · refine .inr (.inr (fun e => ?_))
      have e' : some g = y.ownBlock := e
      rcases hat with p | p
      · exact q (by rw [p, e'])
      · have := (h.oy.lt g e'.symm).2; omega
  · exact (h.b.alloc (by omega) _).grown hg (by simp; omega) (fun k hk => (h.ox.lt k hk).1)
theorem TB.second {w0 W w7 : World} {x y y' : Value} {X : List Int} {Y Z : List Nat} (h : TB w0 W x y X Y) (hg : W.grownBy w7 y.ownBlock) (ho : w7.ownsRow w0.heap.size 5 1 y' (Y ++ Z).length (byCells (Y ++ Z))) (hat : y'.ownBlock = y.ownBlock ∨ y'.ownBlock = some W.heap.size) : TB w0 w7 x y' X (Y ++ Z) := by
  have hs := h.b.size
  have ne : x.ownBlock = none ∨ x.ownBlock ≠ y.ownBlock := by
    rcases h.dj with q | q | q
    · exact .inl q
    · cases hx : x.ownBlock with
      | none => exact .inl rfl
      | some z => exact .inr (by rw [q]; simp)
    · exact .inr q
  refine ⟨h.ox.kept hg ne, ho, ?_, ?_⟩
  · rcases ne with q | q
    · exact .inl q
    · refine .inr (.inr (fun e => ?_))
      rcases hat with p | p
      · exact q (by rw [e, p])
      · have := (h.ox.lt W.heap.size (by rw [e, p])).2; omega
  · exact h.b.grown hg (by omega) (fun k hk => (h.oy.lt k hk).1)
theorem wpList_append_byat {w : World} {ops : Array Oper} {rest : List Oper} {o : Oper} {act : Act} {Q : Exit → Act → World → Prop} (hgd : o.guard = none) (s x : Operand)
    (ho : o.op = .call { callee := .builtin .append, args := #[s, x], argTypes := #[26, 26] })
    (base : Nat) (v : Value) (n : Nat) (zs : List Nat) (hs : act.eval s = v) (hown : w.ownsRow base 5 1 v n (byCells zs))
    (a : Option Addr) (ys : List Nat) (m cap : Nat) (hm : ys.length = m) (hx : act.eval x = .slice a m cap) (hr : RdB w a ys) (hnil : a = none → cap = 0) (hlen : n + ys.length ≤ 140737488355328) (hbase : base ≤ w.heap.size)
    (h : ∀ va vc w', w'.ownsRow base 5 1 (.slice va (n + m) vc) (n + m) (byCells (zs ++ ys)) → w.grownBy w' v.ownBlock → ((Value.slice va (n + m) vc).ownBlock = v.ownBlock ∨ (Value.slice va (n + m) vc).ownBlock = some w.heap.size) → wpList Tryd.prog ops Q rest (act.put o.dst (.slice va (n + m) vc)) w') : wpList Tryd.prog ops Q (o :: rest) act w := by
  subst hm
  obtain ⟨i0, hi, hz0, hz1, hz2⟩ := info_parts info8
  cases a with
  | none =>
    have e : ys = [] := by
      by_cases hy : ys = []
      · exact hy
      · obtain ⟨b, off, e, _⟩ := hr.2.2 hy; cases e
    subst e
    have hc := hnil rfl
    subst hc
    refine wpList_append_own_none hgd s x 26 ho base 5 i0 1 Tryd.underlying26 hi v n (byCells zs) hs hown hx ?_
    obtain ⟨va, vc, e⟩ : ∃ va vc, v = .slice va n vc := by
      rcases hown.2 with ⟨hv, h0⟩ | ⟨g, cap, cur, hv, _⟩
      · exact ⟨none, 0, by rw [hv, h0]⟩
      · exact ⟨some ⟨g, 0, none⟩, cap, hv⟩
    subst e
    have := h va vc w (by simpa using hown) ⟨rfl, rfl, rfl, Nat.le_refl _, fun _ _ _ => rfl⟩ (.inl (by cases va <;> rfl))
    simpa using this
  | some ad =>
    have hnews : ∀ j u, (byCells ys)[j]? = some u → w.cell? (ad.add j) = some u := by
      by_cases hy : ys = []
      · subst hy; intro j u hj; simp [byCells] at hj
      · obtain ⟨b, off, e, _, hc⟩ := hr.2.2 hy
        cases e
        exact by_src hc
    refine wpList_append_own_at _ hgd s x 26 ho base 5 i0 (.int .u8 0) 1 1 Tryd.underlying26 hi hz0 hz1 hz2 rfl (by decide) v n (byCells zs) hs hown ad ys.length cap (byCells ys) hx (by rw [byCells_len]; omega) hnews (byCells_one ys) (by unfold maxLen; omega) (by omega) hbase ?_
    intro v' w' hown' hgrow _ hat
    obtain ⟨va, vc, e⟩ : ∃ va vc, v' = .slice va (n + ys.length) vc := by
      rcases hown'.2 with ⟨hv, h0⟩ | ⟨g, cap, cur, hv, _⟩
      · exact ⟨none, 0, by rw [hv, h0]⟩
      · exact ⟨some ⟨g, 0, none⟩, cap, hv⟩
    subst e
    exact h va vc w' (by rw [byCells_app]; exact hown') hgrow hat

end Go.Proofs.YtelncekgjfpogahDoor
