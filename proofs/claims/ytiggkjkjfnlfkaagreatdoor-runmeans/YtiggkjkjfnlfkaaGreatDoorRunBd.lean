/-
  A strings.Builder in a block of its own: copyCheck, WriteString, String, each with the blocks that stay.
-/
import Derived.Test.YtiggkjkjfnlfkaaGreatDoorBase
import Derived.Test.YtiggkjkjfnlfkaaGreatDoorBs
import Derived.Lib.Builder
import Derived.Shelf.Strings.Builder1
import Derived.RegionTactic
import Derived.Deep.QuietTactic
import Derived.BigQuiet
import Derived.RangeFuncOwn
import Derived.Deep.Cut
namespace Go.Proofs.YtiggkjkjfnlfkaaGreatDoor
open Go.ChangeShapes Go.WideShapes Go.ChangeAt Go.RowKit Go.Shelf Go.Lib
set_option linter.unusedVariables false

theorem infoBy8 : (Tryz.prog.info? 5).map (fun i => (i.zero, i.size, i.bytes)) = some (some (.int .u8 0), 1, 1) := by kernel_rfl
theorem infoBld : (Tryz.prog.info? 119).map (fun i => i.size) = some 2 := by kernel_rfl
theorem liesBld : liesAt Tryz.prog Tryz.prog.depth 119 (2 / Tryz.prog.cellsOf 119) 0 119 1 = true := by kernel_rfl
theorem row_stay {W W' : World} {B n : Nat} {e : TypeId} {size : Nat} {v : Value} {l : List Value} (h : W.ownsRow B e size v n l) (hk : ∀ q, v.ownBlock = some q → W'.heap[q]? = W.heap[q]?) : W'.ownsRow B e size v n l := by
  refine ⟨h.1, ?_⟩
  rcases h.2 with z | ⟨g, cap, cur, hv, hb, hg, r⟩
  · exact .inl z
  · exact .inr ⟨g, cap, cur, hv, hb, by rw [hk g (by rw [hv]; rfl)]; exact hg, r⟩
/-- a builder: its block b, its bytes l in a row of their own; R: its blocks -/
structure BdW (B b : Nat) (R : Nat → Prop) (l : List UInt8) (w : World) : Prop where
  hB : B ≤ b
  ex : ∃ p v, (p = .pointer none ∨ p = .pointer (some ⟨b, 0, none⟩)) ∧ w.heap[b]? = some (.cells #[p, v] 119 (0, 0)) ∧ w.ownsRow B 5 1 v l.length (Lib.byteCells l) ∧ v.ownBlock ≠ some b ∧ (l = [] → v = .slice none 0 0) ∧ ∀ q, R q ↔ (q = b ∨ v.ownBlock = some q)
theorem BdW.lt {B b : Nat} {R : Nat → Prop} {l : List UInt8} {w : World} (h : BdW B b R l w) {q : Nat} (hq : R q) : B ≤ q ∧ q < w.heap.size := by
  obtain ⟨p, v, _, hb, ho, hn, _, hr⟩ := h.ex
  rcases (hr q).1 hq with rfl | e
  · exact ⟨h.hB, (Array.getElem?_eq_some_iff.1 hb).1⟩
  · exact ho.lt q e
theorem BdW.blt {B b : Nat} {R : Nat → Prop} {l : List UInt8} {w : World} (h : BdW B b R l w) : b < w.heap.size := by
  obtain ⟨p, v, _, hb, _⟩ := h.ex
  exact (Array.getElem?_eq_some_iff.1 hb).1
theorem BdW.keep {B b : Nat} {R : Nat → Prop} {l : List UInt8} {w w' : World} (h : BdW B b R l w) (hk : ∀ q, R q → w'.heap[q]? = w.heap[q]?) : BdW B b R l w' := by
  obtain ⟨p, v, hp, hb, ho, hn, h0, hr⟩ := h.ex
  refine ⟨h.hB, p, v, hp, (hk b ((hr b).2 (.inl rfl))).trans hb, ?_, hn, h0, hr⟩
  exact row_stay ho (fun q hq => hk q ((hr q).2 (.inr hq)))
theorem BdW.cells {B b : Nat} {R : Nat → Prop} {l : List UInt8} {w : World} (h : BdW B b R l w) {q : Nat} (hq : R q) : ∃ c t f, w.heap[q]? = some (.cells c t f) := by
  obtain ⟨p, v, _, hb, ho, hn, _, hr⟩ := h.ex
  rcases (hr q).1 hq with rfl | e
  · exact ⟨_, _, _, hb⟩
  · rcases ho.2 with ⟨hv, _⟩ | ⟨g, cap, cur, hv, _, hg, _⟩
    · rw [hv] at e; cases e
    · rw [hv] at e; cases e; exact ⟨_, _, _, hg⟩
theorem BdW.grown {B b : Nat} {R : Nat → Prop} {l : List UInt8} {w w' : World} {row : Option Nat} (h : BdW B b R l w) (hg : w.grownBy w' row) (hr : ∀ r, row = some r → ∃ o : Obj, w.heap[r]? = some o ∧ o.isCells = false) : BdW B b R l w' :=
  h.keep fun q hq => hg.block q (h.lt hq).2 fun e => by
    obtain ⟨ob, h1, h2⟩ := hr q e.symm
    obtain ⟨c, t, f, h3⟩ := h.cells hq
    rw [h3] at h1
    cases h1
    cases h2
/-- what is no cells stays where all but a builder's blocks stays -/
theorem BdW.others {B b : Nat} {R : Nat → Prop} {l : List UInt8} {w w' : World} (h : BdW B b R l w) (hz : w.heap.size ≤ w'.heap.size) (hk : ∀ q, q < w.heap.size → ¬ R q → w'.heap[q]? = w.heap[q]?) : KeepsOthers w w' :=
  ⟨hz, fun k o hko ho => by
    by_cases q : R k
    · obtain ⟨c, t, f, h3⟩ := h.cells q
      rw [h3] at hko
      cases hko
      cases ho
    · exact (hk k (Array.getElem?_eq_some_iff.1 hko).1 q).trans hko⟩
theorem BdW.new (w : World) : BdW w.heap.size w.heap.size (fun q => q = w.heap.size) [] (w.alloc (.cells #[.pointer none, .slice none 0 0] 119)) :=
  ⟨Nat.le_refl _, _, _, .inl rfl, Array.getElem?_push_size, World.ownsRow_nil _ _ _ _, (fun h => by cases h), fun _ => rfl, fun q => ⟨.inl, fun h => by rcases h with h | h; exact h; cases h⟩⟩

set_option maxHeartbeats 2000000 in
set_option maxRecDepth 100000 in
theorem bd_check {B b : Nat} {R : Nat → Prop} {l : List UInt8} {w : World} (h : BdW B b R l w) :
    Calls Tryz.prog 92 #[.pointer (some ⟨b, 0, none⟩)] w fun e w' => e = .returned (.tuple #[]) ∧ BdW B b R l w' ∧ Below B w w' ∧ w'.heap.size = w.heap.size ∧ (∀ q, q ≠ b → w'.heap[q]? = w.heap[q]?) ∧ w'.cell? ⟨b, 0, none⟩ = some (.pointer (some ⟨b, 0, none⟩)) := by
  obtain ⟨p, v, hp, hb, ho, hn, h0, hr⟩ := h.ex
  have hB := h.hB
  obtain ⟨j, hj, hjs⟩ := Option.map_eq_some_iff.1 infoBld
  have c0 : w.cell? ⟨b, 0, none⟩ = some p := by rw [Lib.cell_of_heap hb]; rfl
  have fz : w.frozen? ⟨b, 0, none⟩ = false := Lib.frozen_of_heap hb 0
  have hsh : w.shape? b = some (119, 2) := by simp [World.shape?, hb]
  rcases hp with rfl | rfl
  · have FIN : Hid (BdW B b R l (w.setCell ⟨b, 0, none⟩ (.pointer (some ⟨b, 0, none⟩))) ∧ Below B w (w.setCell ⟨b, 0, none⟩ (.pointer (some ⟨b, 0, none⟩))) ∧ (w.setCell ⟨b, 0, none⟩ (.pointer (some ⟨b, 0, none⟩))).heap.size = w.heap.size ∧ (∀ q, q ≠ b → (w.setCell ⟨b, 0, none⟩ (.pointer (some ⟨b, 0, none⟩))).heap[q]? = w.heap[q]?) ∧ (w.setCell ⟨b, 0, none⟩ (.pointer (some ⟨b, 0, none⟩))).cell? ⟨b, 0, none⟩ = some (.pointer (some ⟨b, 0, none⟩))) := by
      have hb2 : (w.setCell ⟨b, 0, none⟩ (.pointer (some ⟨b, 0, none⟩))).heap[b]? = some (.cells #[.pointer (some ⟨b, 0, none⟩), v] 119 (0, 0)) := by
        simp [World.setCell, Array.getElem?_modify, hb]
      have far : ∀ q, q ≠ b → (w.setCell ⟨b, 0, none⟩ (.pointer (some ⟨b, 0, none⟩))).heap[q]? = w.heap[q]? := fun q hq => heap_setCell_other _ _ _ _ hq
      refine ⟨⟨hB, _, v, .inr rfl, hb2, row_stay ho (fun q hq => far q (fun e => hn (by rw [← e]; exact hq))), hn, h0, hr⟩, (Below.refl B w).setCell (p := ⟨b, 0, none⟩) hB _, by simp, far, by rw [Lib.cell_of_heap hb2]; rfl⟩
    clear h ho hn h0 hr hb hB
    go_enter Tryz.func92, Tryz.ntmps92
    go_wp2
    rw [Lib.run_to_unsafe w ⟨b, 0, none⟩ Tryz.underlying117 Tryz.underlying182 hj (by rw [hjs]; decide) hsh (Nat.zero_lt_succ 1)]
    simp only [Result.andThen]
    rw [Oper.upon_value]
    go_wp2
    rw [run_callFunc_extern Tryz.func132 (by kernel_rfl) (by kernel_rfl) (by kernel_rfl) (e := Extern.AbiNoEscape.same) (by kernel_rfl)]
    rw [Lib.run_noEscape]
    simp only [Result.andThen]
    rw [Oper.upon_value]
    go_wp2
    rw [Lib.run_from_unsafe w ⟨b, 0, none⟩ Tryz.underlying182 Tryz.underlying117 hj hsh liesBld]
    simp only [Result.andThen]
    rw [Oper.upon_value]
    go_wp2
    go_end0
    exact ⟨rfl, FIN.out⟩
  · have HH := hide h
    clear h ho hn h0 hr hb
    go_enter Tryz.func92, Tryz.ntmps92
    go_wp2
    rw [Lib.run_neq_ptr_same _ _ Tryz.underlying117 hj]
    go_wp2
    go_end0
    exact ⟨rfl, HH.out, Below.refl _ _, rfl, fun _ _ => rfl, c0⟩

/-- where a row lies behind an append of a text -/
theorem app_str_at {P : Program} {w : World} {base : Nat} {t u ty e : TypeId} {i : TypeInfo} (ht : P.underlying t = some (.slice e)) (hu : P.underlying u = some .string) (hi : P.info? e = some i) (hz : i.zero = some (.int .u8 0)) (hsize : i.size = 1) (hby : i.bytes = 1)
    {v : Value} {n : Nat} {xs : List Value} (hown : w.ownsRow base e 1 v n xs) (s : ByteArray) (h63 : n + s.size ≤ maxLen) (hbytes : n + s.size ≤ 140737488355328) (hbase : base ≤ w.heap.size) {v' : Value} {w' : World}
    (hr : (Builtin.append_ #[t, u] ty #[v, .string s]).run P w = .ok v' w') (hn : v' = .slice none 0 0 ↔ v = .slice none 0 0 ∧ s.size = 0) : v'.ownBlock = v.ownBlock ∨ v'.ownBlock = some w.heap.size := by
  have hsmall : n + s.size ≤ 9223372036854775807 := by simp only [maxLen] at h63; omega
  have hxl : xs.length = n := by simpa using hown.1
  have same : ∀ {a : Value} {b : World}, (Builtin.append_ #[t, u] ty #[v, .string s]).run P w = .ok a b → v' = a := fun h => by
    rw [hr] at h
    injection h
  rcases hown.2 with ⟨rfl, rfl⟩ | ⟨g, cap, cur, rfl, hbg, hg, hnc, hcm, hcs, htake⟩
  · by_cases hm : s.size = 0
    · left
      rw [hn.2 ⟨rfl, hm⟩]
    · right
      have := Go.run_append_nil_string (P := P) w t u ty e i (.int .u8 0) ht hu hi hz s (by omega) (by omega) (by rw [hby]; omega)
      rw [same this]
      rfl
  · by_cases hroom : n + s.size ≤ cap
    · left
      have hcs' : cur.size = cap := by simpa using hcs
      rw [same (Lib.run_append_room_string (P := P) w t u ty e i ht hu hi hsize g n cap cur hg s hroom (by omega))]
      rfl
    · right
      rw [same (Lib.run_append_grow_string (P := P) w t u ty e i (.int .u8 0) ht hu hi hz ⟨g, 0, none⟩ n cap xs (by rw [hsize]; simpa using hxl) (hown.cells (g := g) rfl) s (by omega) (by omega) (by rw [hby]; exact growslice_fits (by omega) (by omega)))]
      rfl
theorem wp_app_str {P : Program} {w : World} {ops : Array Oper} {rest : List Oper} {o : Oper} {a : Act} {Q : Exit → Act → World → Prop} (hgd : o.guard = none) (sl x : Operand) (t u : TypeId)
    (ho : o.op = .call { callee := .builtin .append, args := #[sl, x], argTypes := #[t, u] })
    (base : Nat) (e : TypeId) (i : TypeInfo) (ht : P.underlying t = some (.slice e)) (hu : P.underlying u = some .string) (hi : P.info? e = some i) (hz : i.zero = some (.int .u8 0)) (hsize : i.size = 1) (hby : i.bytes = 1)
    (v : Value) (n : Nat) (xs : List Value) (hs : a.eval sl = v) (hown : w.ownsRow base e 1 v n xs) (s : ByteArray) (hx : a.eval x = .string s)
    (h63 : n + s.size ≤ maxLen) (hbytes : n + s.size ≤ 140737488355328) (hbase : base ≤ w.heap.size)
    (h : ∀ v' w', w'.ownsRow base e 1 v' (n + s.size) (xs ++ Lib.strCells s) → w.grownBy w' v.ownBlock → (v' = .slice none 0 0 ↔ v = .slice none 0 0 ∧ s.size = 0) → (v'.ownBlock = v.ownBlock ∨ v'.ownBlock = some w.heap.size) → wpList P ops Q rest (a.put o.dst v') w') : wpList P ops Q (o :: rest) a w := by
  refine wpList_plain hgd fun K hK => ?_
  obtain ⟨v', w', hr, h2, h3, h4⟩ := Lib.run_append_own_string (P := P) w base t u o.type e i ht hu hi hz hsize hby v n xs hown s h63 hbytes hbase
  have h5 := app_str_at ht hu hi hz hsize hby hown s h63 hbytes hbase hr h4
  unfold Oper.wp execOp
  simp only [ho, resolve, invoke, builtin, Sem.run_bind, Sem.run_pure, Result.andThen_ok, List.map_toArray, List.map_cons, List.map_nil, hs, hx, hr]
  exact hK _ _ (h v' w' h2 h3 h4 h5)

set_option maxHeartbeats 4000000 in
set_option maxRecDepth 100000 in
theorem bd_write {B b : Nat} {R : Nat → Prop} {l : List UInt8} {w : World} (h : BdW B b R l w) (s : ByteArray) (hlen : l.length + s.size ≤ 140737488355328) (hBw : B ≤ w.heap.size) :
    Calls Tryz.prog 50 #[.pointer (some ⟨b, 0, none⟩), .string s] w fun e w' => e = .returned (.tuple #[.int .i64 s.size, .nilIface]) ∧ ∃ R', BdW B b R' (l ++ s.data.toList) w' ∧ Below B w w' ∧ w.heap.size ≤ w'.heap.size ∧ ∀ q, q < w.heap.size → ¬ R q → ¬ R' q ∧ w'.heap[q]? = w.heap[q]? := by
  obtain ⟨i0, hi, hz0, hz1, hz2⟩ := info_parts infoBy8
  have CC := hide (bd_check h)
  have HR : Hid (∀ q, R q → q < w.heap.size) := fun q hq => (h.lt hq).2
  have RB : Hid (R b) := by
    obtain ⟨p, v, hp, hb, ho, hn, h0, hr⟩ := h.ex
    exact (hr b).2 (.inl rfl)
  clear h
  go_enter Tryz.func50, Tryz.ntmps50
  go_upto_region 2 with (go_at_call 92; refine CC.out.mono ?_; rintro e w1 ⟨rfl, h1, hb1, z1, far1, c0⟩; obtain ⟨p, v, hp, hbk, hown, hne, h0, hr⟩ := h1.ex; have hB := h1.hB)
  have hp2 : p = .pointer (some ⟨b, 0, none⟩) := by
    rw [Lib.cell_of_heap hbk] at c0
    simpa using c0
  subst hp2
  clear hp CC
  have c1 : w1.cell? ⟨b, 1, none⟩ = some v := by rw [Lib.cell_of_heap hbk]; rfl
  go_wp2_with (at_builtin; refine wp_app_str rfl _ _ 34 9 rfl B 5 i0 Tryz.underlying34 Tryz.underlying9 hi hz0 hz1 hz2 _ _ _ rfl hown s rfl ?c3 ?c4 ?c5 ?_)
  case c3 => unfold maxLen; omega
  case c4 => omega
  case c5 => have := hb1.size; omega
  intro v' w2 hown' hgrow hnil hat
  have hlt : b < w1.heap.size := (Array.getElem?_eq_some_iff.1 hbk).1
  have hb2 : w2.heap[b]? = some (.cells #[.pointer (some ⟨b, 0, none⟩), v] 119 (0, 0)) := by
    rw [hgrow.block b hlt (fun e => hne e.symm)]
    exact hbk
  have d0 : w2.cell? ⟨b, 0, none⟩ = some (.pointer (some ⟨b, 0, none⟩)) := by rw [Lib.cell_of_heap hb2]; rfl
  have d1 : w2.cell? ⟨b, 1, none⟩ = some v := by rw [Lib.cell_of_heap hb2]; rfl
  have f1 : w2.frozen? ⟨b, 1, none⟩ = false := Lib.frozen_of_heap hb2 1
  have e1 : Lib.byteCells l ++ Lib.strCells s = Lib.byteCells (l ++ s.data.toList) := by simp [Lib.byteCells, Lib.strCells]
  have e2 : l.length + s.size = (l ++ s.data.toList).length := by rw [List.length_append]; rfl
  rw [e1, e2] at hown'
  have hneb : v'.ownBlock ≠ some b := fun e => by
    rcases hat with z | z
    · rw [e] at z; exact hne z.symm
    · rw [e] at z; cases z; omega
  obtain ⟨ao, n', cap, rfl⟩ : ∃ ao n' cap, v' = .slice ao n' cap := by
    rcases hown'.2 with ⟨hv, _⟩ | ⟨g, cap, cur, hv, _⟩
    · exact ⟨_, _, _, hv⟩
    · exact ⟨_, _, _, hv⟩
  have FIN : Hid (∃ R', BdW B b R' (l ++ s.data.toList) (w2.setCell ⟨b, 1, none⟩ (.slice ao n' cap)) ∧ Below B w (w2.setCell ⟨b, 1, none⟩ (.slice ao n' cap)) ∧ w.heap.size ≤ (w2.setCell ⟨b, 1, none⟩ (.slice ao n' cap)).heap.size ∧ ∀ q, q < w.heap.size → ¬ R q → ¬ R' q ∧ (w2.setCell ⟨b, 1, none⟩ (.slice ao n' cap)).heap[q]? = w.heap[q]?) := by
    have hb3 : (w2.setCell ⟨b, 1, none⟩ (.slice ao n' cap)).heap[b]? = some (.cells #[.pointer (some ⟨b, 0, none⟩), .slice ao n' cap] 119 (0, 0)) := by
      simp [World.setCell, Array.getElem?_modify, hb2]
    have far : ∀ q, q ≠ b → (w2.setCell ⟨b, 1, none⟩ (.slice ao n' cap)).heap[q]? = w2.heap[q]? := fun q hq => heap_setCell_other _ _ _ _ hq
    have zz : (w2.setCell ⟨b, 1, none⟩ (.slice ao n' cap)).heap.size = w2.heap.size := by simp
    have gz := hgrow.size
    refine ⟨fun q => q = b ∨ (Value.slice ao n' cap).ownBlock = some q, ⟨hB, _, _, .inr rfl, hb3, ?_, hneb, fun hl => ?_, fun q => Iff.rfl⟩, ?_, by omega, fun q hq hnq => ?_⟩
    · exact row_stay hown' (fun q hq => far q (fun e => hneb (by rw [← e]; exact hq)))
    · have z1 : l = [] := (List.append_eq_nil_iff.1 hl).1
      have z2 : s.data.toList = [] := (List.append_eq_nil_iff.1 hl).2
      exact hnil.2 ⟨h0 z1, bs_eq (by rw [z2]; rfl)⟩
    · exact (hb1.grown hgrow (by have := hb1.size; omega) (fun k hk => (hown.lt k hk).1)).setCell (p := ⟨b, 1, none⟩) hB _
    · have nb : q ≠ b := fun e => hnq (by rw [e]; exact RB.out)
      have nv : v.ownBlock ≠ some q := fun e => hnq ((hr q).2 (.inr e))
      refine ⟨fun z => ?_, ?_⟩
      · rcases z with z | z
        · exact nb z
        · rcases hat with y | y
          · exact nv (y.symm.trans z)
          · rw [z] at y; cases y; omega
      · rw [far q nb, hgrow.block q (by omega) (fun e => nv e.symm), far1 q nb]
  clear hown hgrow hnil hat hneb hown' hb2 hbk h1 far1 hr h0
  go_wp2
  go_ret2
  exact ⟨rfl, FIN.out⟩

set_option maxHeartbeats 4000000 in
set_option maxRecDepth 100000 in
theorem bd_string {B b : Nat} {R : Nat → Prop} {l : List UInt8} {w : World} (h : BdW B b R l w) :
    Calls Tryz.prog 52 #[.pointer (some ⟨b, 0, none⟩)] w fun e w' => e = .returned (.string (bs l)) ∧ Below B w w' ∧ ∀ q, ¬ R q → w'.heap[q]? = w.heap[q]? := by
  obtain ⟨p, v, hp, hbk, hown, hne, h0, hr⟩ := h.ex
  have hB := h.hB
  have HR := hide hr
  clear h hp hr hne
  have c1 : w.drew.cell? ⟨b, 1, none⟩ = some v := by
    have : w.drew.heap[b]? = some (.cells #[p, v] 119 (0, 0)) := hbk
    rw [Lib.cell_of_heap this]; rfl
  clear hbk
  by_cases hl : l = []
  · subst hl
    have hv := h0 rfl
    subst hv
    have hUS : (Builtin.unsafeString_ #[165, 3] 9 #[.pointer none, .int .i64 0]).run Tryz.prog w.drew = .ok (.string .empty) w.drew := Lib.run_unsafeString_none _ _ _ _ none
    have hSD : (Builtin.unsafeSliceData_ #[34] 165 #[.slice none 0 0]).run Tryz.prog w.drew = .ok (.pointer none) w.drew := rfl
    have FB : Hid (Below B w w.drew ∧ ∀ q, ¬ R q → w.drew.heap[q]? = w.heap[q]?) := ⟨Below.drew (Below.refl B w), fun _ _ => rfl⟩
    clear hown h0 HR
    have mixed : Tryz.prog.follows .mixedOrders = true := by kernel_rfl
    go_enter Tryz.func52, Tryz.ntmps52
    go_wp2
    go_region_o
    all_goals (go_wp2; go_ret; exact ⟨rfl, FB.out⟩)
  · have hl0 : l.length ≠ 0 := by simpa using hl
    obtain ⟨g, cap, cur, rfl, hbg, hg, hnc, hcm, hcs, htake⟩ : ∃ g cap cur, v = .slice (some ⟨g, 0, none⟩) l.length cap ∧ B ≤ g ∧ w.heap[g]? = some (.cells cur 5 (0, 0)) ∧ l.length ≤ cap ∧ cap ≤ maxLen ∧ cur.size = cap * 1 ∧ cur.toList.take (l.length * 1) = Lib.byteCells l := by
      rcases hown.2 with ⟨_, hz⟩ | ⟨g, cap, cur, hv, r⟩
      · exact absurd hz hl0
      · exact ⟨g, cap, cur, hv, r⟩
    have hSD : (Builtin.unsafeSliceData_ #[34] 165 #[.slice (some ⟨g, 0, none⟩) l.length cap]).run Tryz.prog w.drew = .ok (.pointer (some ⟨g, 0, none⟩)) w.drew :=
      Lib.run_unsafeSliceData_row _ _ _ _ _ _ (by omega)
    have hUS : (Builtin.unsafeString_ #[165, 3] 9 #[.pointer (some ⟨g, 0, none⟩), .int .i64 l.length]).run Tryz.prog w.drew = .ok (.string (bs l)) (w.drew.freeze ⟨g, 0, none⟩ l.length) := by
      refine Lib.run_unsafeString_row w.drew 165 3 9 5 Tryz.underlying165 (by kernel_rfl) g cur.size (by have hg' : w.drew.heap[g]? = some (.cells cur 5 (0, 0)) := hg; simp [World.shape?, hg']) l hl (by omega) (by unfold maxLen at hcm; omega) ?_
      intro j x hx
      exact hown.cells (g := g) rfl j (.int .u8 x.toNat) (by simp [Lib.byteCells, hx])
    have FB : Hid (Below B w (w.drew.freeze ⟨g, 0, none⟩ l.length) ∧ ∀ q, ¬ R q → (w.drew.freeze ⟨g, 0, none⟩ l.length).heap[q]? = w.heap[q]?) := ⟨Lib.below_freeze (Below.drew (Below.refl B w)) (p := ⟨g, 0, none⟩) hbg _, fun q hq => by
      have ne : g ≠ q := fun e => hq ((HR.out q).2 (.inr (by rw [← e]; rfl)))
      unfold World.freeze
      split
      · rfl
      · show (w.heap.modify g _)[q]? = _
        rw [Array.getElem?_modify, if_neg ne]⟩
    clear hown h0 hg htake hcs HR
    generalize bs l = t at *
    generalize l.length = n at *
    have mixed : Tryz.prog.follows .mixedOrders = true := by kernel_rfl
    go_enter Tryz.func52, Tryz.ntmps52
    go_wp2
    go_region_o
    all_goals (go_wp2; go_ret; exact ⟨rfl, FB.out⟩)

end Go.Proofs.YtiggkjkjfnlfkaaGreatDoor
