/-
  Several texts as one: RefShJ, RefShN, RefShQ.
-/
import Derived.Test.YtiggkjkjfnlfkaaGreatDoorRefShF
import Derived.Test.YtiggkjkjfnlfkaaGreatDoorRunP4
import Derived.Test.YtiggkjkjfnlfkaaGreatDoorRunP3
import Derived.Test.YtiggkjkjfnlfkaaGreatDoorRunS20
import Derived.Test.YtiggkjkjfnlfkaaGreatDoorRefShO
import Derived.Test.YtiggkjkjfnlfkaaGreatDoorRunS24
import Derived.RegionTactic
import Derived.Deep.RegionWith
namespace Go.Proofs.YtiggkjkjfnlfkaaGreatDoor
open Go.ChangeShapes Go.WideShapes Go.ChangeAt Go.RowKit Go.Lib
set_option linter.unusedVariables false
theorem ract_stays (hR : RGrvGives) {W : World} {s : Nat} {T : Nat → Nat} {S : M.Sh} {la : Option Addr} {lc : Nat} {da : Option Addr} {dc : Nat} {G : Nat → Gr} (h : RV W s T S la lc da dc G) (c : M.Ca) (a : Option Addr) (cap : Nat) (hb : isB c.name) (hr : RdB W a c.bys) (hc : c.bys.length ≤ cap) (h63 : cap ≤ 9223372036854775807) (hi : S.idx ≤ 1000000) (hw : 1 ≤ c.what ∧ c.what ≤ 4)
    (hn : c.what = 1 → (M.decF c.bys).2 = 0 → M.many S c.name = 0 ∧ 8 ≤ M.names S) :
    Calls Tryz.prog 32 #[.pointer (some ⟨s, 0, none⟩), caV c a cap] W fun e w' => e = .returned (.tuple #[.int .i64 (M.act S c).1, .int .i64 (M.act S c).2.1]) ∧ RLeft W s T ⟨S.idx, (M.act S c).2.2, S.done⟩ w' := by
  by_cases w1 : c.what = 1
  · by_cases d : (M.decF c.bys).2 = 0
    · have m8 := hn w1 d
      have e : M.act S c = (0, 4, S.l) := by unfold M.act; rw [if_pos w1, if_neg (fun z => z d), if_pos m8]
      rw [e]
      exact ract_many hR h c a cap hb hr hc h63 w1 d hi m8
    · have e : M.act S c = (0, (M.decF c.bys).2, S.l) := by unfold M.act; rw [if_pos w1, if_pos d]
      rw [e]
      exact ract_bad hR h c a cap hr hc h63 w1 d
  · rw [M.act_ch h.inv w1]
    exact ract_ch h c a cap hb (by omega)
theorem Inv.count {S : M.Sh} (h : Inv S) : Inv ⟨S.idx + 1, S.l, S.done⟩ :=
  ⟨⟨h.ok.one, h.ok.shr, by have := h.ok.i0; show (0 : Int) ≤ S.idx + 1; omega, fun d hd hb => by have := h.ok.ans d hd hb; refine ⟨this.1, ?_⟩; show d.ans.idx ≤ S.idx + 1; omega⟩, h.zr, h.nu, by have := h.ll; show (S.l.length : Int) ≤ S.idx + 1; omega, by have := h.dl; show (S.done.length : Int) ≤ S.idx + 1; omega, h.nb⟩
theorem Inv.say {S : M.Sh} (h : Inv S) {d : M.Dn} (hd : (S.done.length : Int) + 1 ≤ S.idx) (ha : d.bad = 0 → 1 ≤ d.ans.idx ∧ d.ans.idx ≤ S.idx) : Inv ⟨S.idx, S.l, M.say S.done (M.lastN S d.ses) d⟩ :=
  ⟨⟨h.ok.one, h.ok.shr, h.ok.i0, fun x hx hb => by
      rcases say_mem hx with z | z
      · exact h.ok.ans x z hb
      · subst z; exact ha hb⟩, h.zr, h.nu, h.ll, by have := say_len (S := S) (d := d); show ((M.say S.done (M.lastN S d.ses) d).length : Int) ≤ S.idx; omega, h.nb⟩
theorem RV.count {W V : World} {s : Nat} {T : Nat → Nat} {S : M.Sh} {la : Option Addr} {lc : Nat} {da : Option Addr} {dc : Nat} {G : Nat → Gr} (h : RV W s T S la lc da dc G) (hb : Below W.heap.size W V) : RV (V.setCell ⟨s, 0, none⟩ (.int .i64 (S.idx + 1))) s T ⟨S.idx + 1, S.l, S.done⟩ la lc da dc G := by
  have g := h.below hb
  have keep : ∀ q, T q ≠ 1 → (V.setCell ⟨s, 0, none⟩ (.int .i64 (S.idx + 1))).heap[q]? = V.heap[q]? := fun q hq => heap_setCell_other _ _ _ _ (fun e => hq (by rw [e]; exact h.ts))
  have sz : (V.setCell ⟨s, 0, none⟩ (.int .i64 (S.idx + 1))).heap.size = V.heap.size := World.size_setCell ..
  exact {
    inv := h.inv.count
    tlt := fun q hq => by rw [sz]; exact g.tlt q hq
    box := g.box.put (j := 0)
    ts := h.ts
    lo := own_keep_at g.lo (fun q hq => by
      obtain ⟨p, hp, e⟩ := own_block hq
      exact keep q (by rw [← e, h.tl p hp]; decide))
    tl := h.tl
    dd := own_keep_at g.dd (fun q hq => by
      obtain ⟨p, hp, e⟩ := own_block hq
      exact keep q (by rw [← e, h.td p hp]; decide))
    td := h.td
    kg := fun k hk => ⟨(g.kg k hk).1, (g.kg k hk).2.up (by rw [sz]; exact Nat.le_refl _) (fun q hq => keep q (by rw [hq]; decide)) (fun q hq => hq)⟩ }
/-- what is left, with what is new from a block on -/
def RLeftN (W : World) (s : Nat) (T : Nat → Nat) (N : Nat) (S : M.Sh) (w : World) : Prop := ∃ T', RA w s T' S ∧ StayBut (fun q => T q ≠ 0) W w ∧ (∀ q, T' q ≠ 0 → T q ≠ 0 ∨ N ≤ q)
theorem RLeftN.left {W : World} {s : Nat} {T : Nat → Nat} {N : Nat} {S : M.Sh} {w : World} (h : RLeftN W s T N S w) (hN : W.heap.size ≤ N) : RLeft W s T S w := by
  obtain ⟨T', a, b, c⟩ := h
  exact ⟨T', a, b, fun q hq => (c q hq).imp id (fun z => Nat.le_trans hN z)⟩
theorem RLeftN.set {W : World} {s : Nat} {T : Nat → Nat} {N : Nat} {S : M.Sh} {w : World} (h : RLeftN W s T N S w) {q0 j : Nat} {v : Value} (h1 : T q0 = 0) (h2 : q0 < N) (h3 : W.heap.size ≤ q0) : RLeftN W s T N S (w.setCell ⟨q0, j, none⟩ v) := by
  obtain ⟨T', ⟨la, lc, da, dc, G, a⟩, b, c⟩ := h
  refine ⟨T', ⟨la, lc, da, dc, G, a.up (fun q hq => heap_setCell_other _ _ _ _ (fun e => ?_)) (by rw [World.size_setCell]; exact Nat.le_refl _)⟩, ?_, c⟩
  · subst e
    rcases c _ hq with z | z
    · exact z h1
    · omega
  · refine ⟨b.os, b.tape, b.output, by rw [World.size_setCell]; exact b.size, fun q hq hk => ?_⟩
    rw [heap_setCell_other _ _ _ _ (show q ≠ q0 by omega)]
    exact b.block q hq hk
theorem RLeftN.drew {W : World} {s : Nat} {T : Nat → Nat} {N : Nat} {S : M.Sh} {w : World} (h : RLeftN W s T N S w) : RLeftN W s T N S w.drew := by
  obtain ⟨T', ⟨la, lc, da, dc, G, a⟩, b, c⟩ := h
  exact ⟨T', ⟨la, lc, da, dc, G, a.up (fun q hq => rfl) (Nat.le_refl _)⟩, ⟨b.os, b.tape, b.output, b.size, b.block⟩, c⟩
/-- what was left, left further -/
theorem RLeft.trans {W V5 w1 w2 : World} {s : Nat} {T T1 : Nat → Nat} {S2 : M.Sh} (h5 : StayBut (fun q => T q ≠ 0) W V5) (h1 : StayBut (fun q => T q ≠ 0) V5 w1) (h2 : ∀ q, T1 q ≠ 0 → T q ≠ 0 ∨ V5.heap.size ≤ q) (h : RLeft w1 s T1 S2 w2) : RLeftN W s T V5.heap.size S2 w2 := by
  obtain ⟨T2, a, b, c⟩ := h
  have z5 := h5.size
  have z := h1.size
  have hh := h5.trans h1
  refine ⟨T2, a, ⟨b.os.trans hh.os, b.tape.trans hh.tape, b.output.trans hh.output, Nat.le_trans hh.size b.size, fun q hq hn => ?_⟩, fun q hq => ?_⟩
  · exact (b.block q (by omega) (fun y => by
      rcases h2 q y with x | x
      · exact hn x
      · omega)).trans (hh.block q hq hn)
  · rcases c q hq with x | x
    · exact h2 q x
    · right; omega
/-- the index raised: what stays -/
theorem stay_count {W V : World} {s : Nat} {T : Nat → Nat} (hs : T s ≠ 0) (hb : Below W.heap.size W V) (v : Value) : StayBut (fun q => T q ≠ 0) W (V.setCell ⟨s, 0, none⟩ v) := (stay_of hb (Nat.le_refl _)).trans (stay_set hs)
/-- a call's answer said where the session had been told before -/
theorem done_set {W V5 w6 : World} {s : Nat} {T : Nat → Nat} {i : Int} {l : List (M.Vn × M.Gv)} {done : List M.Dn} {k : Nat} (h : RLeft V5 s T ⟨i, l, done⟩ w6) (h5 : StayBut (fun q => T q ≠ 0) W V5) (hk : k < done.length) (d : M.Dn) (hl : M.lastN ⟨i, l, done⟩ d.ses = some k) (hd : (done.length : Int) + 1 ≤ i) (ha : d.bad = 0 → 1 ≤ d.ans.idx ∧ d.ans.idx ≤ i) :
    ∃ lav b dc, Bx w6 s [.int .i64 i, lav, .slice (some ⟨b, 0, none⟩) done.length dc] ∧ b < w6.heap.size ∧ b ≠ s ∧ (T b ≠ 0 ∨ V5.heap.size ≤ b) ∧ (∀ w7, Below w6.heap.size w6 w7 → (∀ j, j < 5 → ∃ v, w7.cell? ⟨b, k * 5 + j, none⟩ = some v) ∧ (∀ j, w7.frozen? ⟨b, j, none⟩ = false) ∧
      RLeftN W s T V5.heap.size ⟨i, l, M.say done (some k) d⟩ (((((w7.setCell ⟨b, k * 5, none⟩ (.int .i64 d.ses)).setCell ⟨b, k * 5 + 1, none⟩ (.int .i64 d.seq)).setCell ⟨b, k * 5 + 2, none⟩ (.int .i64 d.ans.num)).setCell ⟨b, k * 5 + 3, none⟩ (.int .i64 d.ans.idx)).setCell ⟨b, k * 5 + 4, none⟩ (.int .i64 d.bad))) := by
  obtain ⟨T', ⟨la, lc, da, dc, G, h6⟩, s6, n6⟩ := h
  obtain ⟨b, rfl, bl, hc⟩ := h6.did hk
  have tb : T' b = 3 := h6.td ⟨b, 0, none⟩ rfl
  have iv := h6.inv.say (d := d) hd ha
  rw [hl] at iv
  refine ⟨_, b, dc, h6.box, bl, fun e => ?_, n6 b (by rw [tb]; decide), fun w7 hw => ⟨fun j hj => ?_, fun j => (h6.below hw).dd.frozenAt j, RLeft.trans h5 s6 n6 (h6.said hw hk d iv)⟩⟩
  · have := h6.ts
    rw [← e, tb] at this
    cases this
  · have : ∃ v, (dnL (done.getD k dn0))[j]? = some v := by
      have : j < (dnL (done.getD k dn0)).length := hj
      exact ⟨_, List.getElem?_eq_getElem this⟩
    obtain ⟨v, hv⟩ := this
    exact ⟨v, (hw.cell (p := ⟨b, k * 5 + j, none⟩) bl).trans (hc j v hj hv)⟩
/-- a call's answer said where the session had not been told before -/
theorem done_add {W V5 w6 : World} {s : Nat} {T : Nat → Nat} {i : Int} {l : List (M.Vn × M.Gv)} {done : List M.Dn} (h : RLeft V5 s T ⟨i, l, done⟩ w6) (h5 : StayBut (fun q => T q ≠ 0) W V5) (d : M.Dn) (hl : M.lastN ⟨i, l, done⟩ d.ses = none) (hd : (done.length : Int) + 1 ≤ i) (ha : d.bad = 0 → 1 ≤ d.ans.idx ∧ d.ans.idx ≤ i) :
    ∃ lav da dc, Bx w6 s [.int .i64 i, lav, .slice da done.length dc] ∧ w6.ownsRow 0 83 5 (.slice da done.length dc) done.length (flatR (fun k => dnL (done.getD k dn0)) done.length) ∧
      ∀ V g cg w12, Below w6.heap.size w6 V → V.grownBy w12 (Value.slice da done.length dc).ownBlock → w12.ownsRow 0 83 5 (.slice (some ⟨g, 0, none⟩) (done.length + 1) cg) (done.length + 1) (flatR (fun k => dnL (done.getD k dn0)) done.length ++ dnL d) → ((Value.slice da done.length dc).ownBlock = some g ∨ V.heap.size ≤ g) →
        (w12.cell? ⟨s, 2, none⟩ = some (.slice da done.length dc) ∧ w12.frozen? ⟨s, 2, none⟩ = false) ∧ RLeftN W s T V5.heap.size ⟨i, l, M.say done none d⟩ (w12.setCell ⟨s, 2, none⟩ (.slice (some ⟨g, 0, none⟩) (done.length + 1) cg)) ∧ ∀ q, ((T q = 0 ∧ q < V5.heap.size) ∨ w6.heap.size ≤ q) → q < V.heap.size → w12.heap[q]? = V.heap[q]? := by
  obtain ⟨T', ⟨la, lc, da, dc, G, h6⟩, s6, n6⟩ := h
  have iv := h6.inv.say (d := d) hd ha
  rw [hl] at iv
  refine ⟨_, da, dc, h6.box, h6.dd, fun V g cg w12 bW hg ho ha' => ?_⟩
  have sl : s < w6.heap.size := h6.tlt s (by rw [h6.ts]; decide)
  have zV := bW.size
  have z12 := hg.size
  have own2 : ∀ {q}, (Value.slice da done.length dc).ownBlock = some q → T' q = 3 ∧ q < w6.heap.size := fun {q} hq => by
    obtain ⟨p, hp, e⟩ := own_block hq
    have t : T' q = 3 := by rw [← e, h6.td p hp]
    exact ⟨t, h6.tlt q (by rw [t]; decide)⟩
  have keep : ∀ q, q < V.heap.size → (Value.slice da done.length dc).ownBlock ≠ some q → w12.heap[q]? = V.heap[q]? := fun q hq hn => hg.block q hq (fun e => hn e.symm)
  have so : (Value.slice da done.length dc).ownBlock ≠ some s := fun e => by
    have := (own2 e).1
    rw [h6.ts] at this
    cases this
  have gs : g ≠ s := fun e => by
    rcases ha' with z | z
    · exact so (by rw [z, e])
    · omega
  have bx := (h6.below bW).box.keep (keep s (by omega) so)
  have oth : ∀ q, q ≠ s → (w12.setCell ⟨s, 2, none⟩ (.slice (some ⟨g, 0, none⟩) (done.length + 1) cg)).heap[q]? = w12.heap[q]? := fun q hq => heap_setCell_other _ _ _ _ hq
  have hw : ∀ {K : Nat → Prop}, K s → (∀ q, T' q = 3 → K q) → StayBut K w6 (w12.setCell ⟨s, 2, none⟩ (.slice (some ⟨g, 0, none⟩) (done.length + 1) cg)) := fun {K} k1 k2 => by
    have a : StayBut K w6 w12 := ⟨hg.os.trans bW.os, hg.tape.trans bW.tape, hg.output.trans bW.output, Nat.le_trans zV z12, fun q hq hn => (keep q (by omega) (fun e => hn (k2 q (own2 e).1))).trans (bW.block q hq)⟩
    exact a.trans (stay_set k1)
  have sz : (w12.setCell ⟨s, 2, none⟩ (.slice (some ⟨g, 0, none⟩) (done.length + 1) cg)).heap.size = w12.heap.size := World.size_setCell ..
  refine ⟨⟨bx.cell 2 _ rfl, bx.free 2⟩, RLeft.trans h5 s6 n6 ⟨tagD T' g, ⟨la, lc, some ⟨g, 0, none⟩, cg, G, h6.told d iv (r := g) (c := cg) ?_ ?_ (own_keep_at ho (fun q hq => oth q (by cases hq; exact gs))) (bx.put (j := 2)) (hw (.inl rfl) (fun q hq => .inr hq))⟩, hw (by show ¬ T' s = 0; rw [h6.ts]; decide) (fun q hq => by show ¬ T' q = 0; rw [hq]; decide), fun q hq => ?_⟩, fun q hq hv => keep q hv (fun e => ?_)⟩
  · rw [sz]
    exact own_in ho
  · rcases ha' with z | z
    · exact .inr (own2 z).1
    · left
      by_cases t : T' g = 0
      · exact t
      · have := h6.tlt g t
        omega
  · rcases tagD_ne hq with z | z
    · exact .inl z
    · rcases ha' with y | y
      · left
        rw [z, (own2 y).1]
        decide
      · right; omega
  · have o := own2 e
    rcases hq with ⟨z, y⟩ | z
    · rcases n6 q (by rw [o.1]; decide) with x | x
      · exact x z
      · omega
    · omega
theorem ract_any (hR : RGrvGives) {W : World} {s : Nat} {T : Nat → Nat} {S : M.Sh} {la : Option Addr} {lc : Nat} {da : Option Addr} {dc : Nat} {G : Nat → Gr} (h : RV W s T S la lc da dc G) (c : M.Ca) (a : Option Addr) (cap : Nat) (hb : isB c.name) (hr : RdB W a c.bys) (hc : c.bys.length ≤ cap) (h63 : cap ≤ 9223372036854775807) (hi : S.idx ≤ 1000000) (hl : (S.l.length : Int) + 1 ≤ S.idx) (hw : 1 ≤ c.what ∧ c.what ≤ 4) :
    Calls Tryz.prog 32 #[.pointer (some ⟨s, 0, none⟩), caV c a cap] W fun e w' => e = .returned (.tuple #[.int .i64 (M.act S c).1, .int .i64 (M.act S c).2.1]) ∧ RLeft W s T ⟨S.idx, (M.act S c).2.2, S.done⟩ w' := by
  by_cases q : c.what = 1 ∧ (M.decF c.bys).2 = 0 ∧ ¬ (M.many S c.name = 0 ∧ 8 ≤ M.names S)
  · obtain ⟨w1, d0, m8⟩ := q
    have e : M.act S c = ((M.many S c.name : Int) + 1, 0, (M.addS S c.name (M.decV c.bys)).l) := by
      unfold M.act
      rw [if_pos w1, if_neg (fun z => z d0), if_neg m8]
      rfl
    rw [e]
    exact ract_put hR h c a cap hb hr hc h63 w1 d0 hi hl m8
  · exact ract_stays hR h c a cap hb hr hc h63 hi hw (fun w1 d0 => by
      by_cases m8 : M.many S c.name = 0 ∧ 8 ≤ M.names S
      · exact m8
      · exact absurd ⟨w1, d0, m8⟩ q)

/-- two cells of an answer, in a block that is new -/
theorem two_fin {W W1 w : World} {x0 x1 y0 y1 : Value} (b1 : Below W.heap.size W W1) (ba : Bx W1 (W.heap.size + 1) [x0, x1]) (hw : Below W1.heap.size W1 w) : ((w.cell? ⟨W.heap.size + 1, 0, none⟩ = some x0 ∧ w.cell? ⟨W.heap.size + 1, 1, none⟩ = some x1) ∧ w.frozen? ⟨W.heap.size + 1, 0, none⟩ = false ∧ w.frozen? ⟨W.heap.size + 1, 1, none⟩ = false) ∧ ((((w.setCell ⟨W.heap.size + 1, 0, none⟩ y0).setCell ⟨W.heap.size + 1, 1, none⟩ y1).cell? ⟨W.heap.size + 1, 0, none⟩ = some y0 ∧ ((w.setCell ⟨W.heap.size + 1, 0, none⟩ y0).setCell ⟨W.heap.size + 1, 1, none⟩ y1).cell? ⟨W.heap.size + 1, 1, none⟩ = some y1)) ∧ Below W.heap.size W ((w.setCell ⟨W.heap.size + 1, 0, none⟩ y0).setCell ⟨W.heap.size + 1, 1, none⟩ y1) := by
  have b := ba.keep (hw.block _ ba.lt)
  have f := (b.put (j := 0) (v := y0)).put (j := 1) (v := y1)
  exact ⟨⟨⟨b.cell 0 _ rfl, b.cell 1 _ rfl⟩, b.free 0, b.free 1⟩, ⟨f.cell 0 _ rfl, f.cell 1 _ rfl⟩, ((below_on b1 hw).setCell (show W.heap.size ≤ W.heap.size + 1 by omega) _).setCell (show W.heap.size ≤ W.heap.size + 1 by omega) _⟩

set_option maxHeartbeats 16000000 in
set_option maxRecDepth 10000 in
theorem rDo_no {W : World} {s : Nat} {T : Nat → Nat} {S : M.Sh} {la : Option Addr} {lc : Nat} {da : Option Addr} {dc : Nat} {G : Nat → Gr} (h : RV W s T S la lc da dc G) (c : M.Ca) (a : Option Addr) (cap : Nat) (hb : isB c.name) (hl : c.name.length ≤ 9223372036854775807) (hq : M.callF c ≠ 0 ∨ (M.was S c.ses).seq = c.seq ∨ c.seq < (M.was S c.ses).seq) :
    Calls Tryz.prog 9 #[.pointer (some ⟨s, 0, none⟩), caV c a cap] W fun e w' => e = .returned (.tuple #[anV (M.shDo S c).1, .int .i64 (M.shDo S c).2.1]) ∧ Below W.heap.size W w' := by
  unfold caV
  obtain ⟨W1, hW1⟩ : ∃ X, X = (W.alloc (.cells #[.int .i64 c.what, .int .i64 c.ses, .int .i64 c.seq, .string (byStr c.name), .int .i64 c.num, .int .i64 c.share, .slice a c.bys.length cap] 36)).alloc (.cells #[.int .i64 0, .int .i64 0] 31) := ⟨_, rfl⟩
  have b1 : Hid (Below W.heap.size W W1) := by unfold Hid; rw [hW1]; exact ((Below.refl _ _).alloc (Nat.le_refl _) _).alloc (by simp) _
  have bx : Bx W1 W.heap.size [.int .i64 c.what, .int .i64 c.ses, .int .i64 c.seq, .string (byStr c.name), .int .i64 c.num, .int .i64 c.share, .slice a c.bys.length cap] := by rw [hW1]; exact (bx_new W _ _).keep (((Below.refl _ _).alloc (Nat.le_refl _) _).block _ (by simp))
  have ba : Bx W1 (W.heap.size + 1) [.int .i64 0, .int .i64 0] := by
    rw [hW1]
    have := bx_new (W.alloc (.cells #[.int .i64 c.what, .int .i64 c.ses, .int .i64 c.seq, .string (byStr c.name), .int .i64 c.num, .int .i64 c.share, .slice a c.bys.length cap] 36)) [.int .i64 0, .int .i64 0] 31
    rwa [show (W.alloc (.cells #[.int .i64 c.what, .int .i64 c.ses, .int .i64 c.seq, .string (byStr c.name), .int .i64 c.num, .int .i64 c.share, .slice a c.bys.length cap] 36)).heap.size = W.heap.size + 1 by simp] at this
  have CF := hide (rcall_any c a cap hb hl W1)
  unfold caV at CF
  have FIN : Hid (∀ w, Below W1.heap.size W1 w → ∀ y0 y1, ((w.cell? ⟨W.heap.size + 1, 0, none⟩ = some (.int .i64 0) ∧ w.cell? ⟨W.heap.size + 1, 1, none⟩ = some (.int .i64 0)) ∧ w.frozen? ⟨W.heap.size + 1, 0, none⟩ = false ∧ w.frozen? ⟨W.heap.size + 1, 1, none⟩ = false) ∧ ((((w.setCell ⟨W.heap.size + 1, 0, none⟩ y0).setCell ⟨W.heap.size + 1, 1, none⟩ y1).cell? ⟨W.heap.size + 1, 0, none⟩ = some y0 ∧ ((w.setCell ⟨W.heap.size + 1, 0, none⟩ y0).setCell ⟨W.heap.size + 1, 1, none⟩ y1).cell? ⟨W.heap.size + 1, 1, none⟩ = some y1)) ∧ Below W.heap.size W ((w.setCell ⟨W.heap.size + 1, 0, none⟩ y0).setCell ⟨W.heap.size + 1, 1, none⟩ y1)) := fun w hw y0 y1 => two_fin b1.out ba hw
  have BX := hide bx
  have c0 := bx.cell 0 _ rfl
  have c1 := bx.cell 1 _ rfl
  have c2 := bx.cell 2 _ rfl
  have c3 := bx.cell 3 _ rfl
  have c4 := bx.cell 4 _ rfl
  have c5 := bx.cell 5 _ rfl
  have c6 := bx.cell 6 _ rfl
  have H := hide h
  clear bx ba h
  by_cases q1 : M.callF c = 0
  case neg =>
    have ED : Hid (M.shDo S c = (M.an0, M.callF c, S)) := by unfold Hid M.shDo; rw [if_pos q1]
    rw [ED.out]
    have g1 : (M.callF c != 0) = true := by simp [q1]
    simp only
    show Calls _ _ _ _ fun e w' => e = .returned (.tuple #[.agg #[.int .i64 0, .int .i64 0], .int .i64 (M.callF c)]) ∧ _
    clear ED hb hl hq H
    generalize M.callF c = f at *
    generalize byStr c.name = sn at *
    go_enter Tryz.func9, Tryz.ntmps9
    go_upto_region 1 with fail
    rw [← hW1]
    clear hW1
    go_upto_region 3 with (go_at_call 30; refine CF.out.mono ?_; rintro e w2 ⟨rfl, h2⟩; obtain ⟨⟨⟨r0, r1⟩, f0, f1⟩, ⟨e0, e1⟩, fb⟩ := FIN.out w2 h2 (.int .i64 0) (.int .i64 0); have FB := hide fb; clear fb h2)
    go_wp2
    refine bodyPost_ret (v := .tuple #[.agg #[.int .i64 0, .int .i64 0], .int .i64 f]) (by simp [results, Tryz.results9, go_sem, e0, e1]) rfl ?_
    exact ⟨rfl, FB.out⟩
  have g1 : (M.callF c != 0) = false := by simp [q1]
  obtain ⟨wh, ses1, seq1, nl⟩ := M.call_seq q1
  rw [q1] at CF
  cases hk : M.lastN S c.ses with
  | none =>
    exfalso
    have w0 : M.was S c.ses = dn0 := by unfold M.was; rw [hk]
    rw [w0] at hq
    rcases hq with z | z | z
    · exact z q1
    · have : (0 : Int) = c.seq := z; omega
    · have : c.seq < (0 : Int) := z; omega
  | some k =>
    obtain ⟨_, kl, kp⟩ := M.find_more _ S.done 0 k hk
    rw [Nat.sub_zero] at kl
    have w0 : M.was S c.ses = S.done.getD k dn0 := by unfold M.was; rw [hk]
    have kz : (k : Int) < (S.done.length : Int) := by omega
    have k0 : decide ((0 : Int) ≤ (k : Int)) = true := decide_eq_true (by omega)
    have mx := own_max H.out.dd
    have FACT : Hid (∀ w, Below W1.heap.size W1 w → ∃ b, da = some ⟨b, 0, none⟩ ∧ w.cell? ⟨s, 2, none⟩ = some (.slice da S.done.length dc) ∧ (w.cell? ⟨b, k * 5 + 1, none⟩ = some (.int .i64 (S.done.getD k dn0).seq) ∧ w.cell? ⟨b, k * 5 + 2, none⟩ = some (.int .i64 (S.done.getD k dn0).ans.num) ∧ w.cell? ⟨b, k * 5 + 3, none⟩ = some (.int .i64 (S.done.getD k dn0).ans.idx) ∧ w.cell? ⟨b, k * 5 + 4, none⟩ = some (.int .i64 (S.done.getD k dn0).bad)) ∧ ¬ b = W.heap.size + 1 ∧ ¬ s = W.heap.size + 1 ∧ Bx w W.heap.size [.int .i64 c.what, .int .i64 c.ses, .int .i64 c.seq, .string (byStr c.name), .int .i64 c.num, .int .i64 c.share, .slice a c.bys.length cap] ∧ Calls Tryz.prog 31 #[.pointer (some ⟨s, 0, none⟩), .int .i64 c.ses] w fun e w' => e = .returned (.int .i64 (k : Int)) ∧ w' = w) := fun w hw => by
      have hv := H.out.below (below_on b1.out hw)
      obtain ⟨b, eb, bl, hc⟩ := hv.did kl
      have la := rlast_any hv c.ses
      rw [hk] at la
      have tb := H.out.td _ eb
      have tb' : T b = 3 := tb
      have l1 := H.out.tlt b (by rw [tb']; decide)
      have l2 := H.out.tlt s (by rw [H.out.ts]; decide)
      exact ⟨b, eb, hv.box.cell 2 _ rfl, ⟨hc 1 _ (by omega) rfl, hc 2 _ (by omega) rfl, hc 3 _ (by omega) rfl, hc 4 _ (by omega) rfl⟩, by omega, by omega, BX.out.keep (hw.block _ BX.out.lt), la⟩
    by_cases q2 : (M.was S c.ses).seq = c.seq
    · have ED : Hid (M.shDo S c = ((S.done.getD k dn0).ans, (S.done.getD k dn0).bad, S)) := by unfold Hid; rw [M.do_is q1, if_pos q2, w0]
      rw [ED.out]
      rw [w0] at q2
      have r1 : ((S.done.getD k dn0).seq == c.seq) = true := by rw [q2]; simp
      simp only
      unfold anV
      clear ED hb hl hq H q1 wh ses1 seq1 nl hk kl kp w0
      generalize hx1 : (S.done.getD k dn0).seq = dq at *
      generalize (S.done.getD k dn0).ans.num = d2 at *
      generalize (S.done.getD k dn0).ans.idx = d3 at *
      generalize (S.done.getD k dn0).bad = d4 at *
      clear hx1
      subst q2
      generalize byStr c.name = sn at *
      go_enter Tryz.func9, Tryz.ntmps9
      go_upto_region 1 with fail
      rw [← hW1]
      clear hW1
      go_upto_region 2 with (go_at_call 30; refine CF.out.mono ?_; rintro e w2 ⟨rfl, h2⟩; have H2 := hide h2; obtain ⟨b, rfl, x2, ⟨x3, x4, x5, x6⟩, n1, n2, bX, ls⟩ := FACT.out w2 h2; have LS := hide ls; have d1 := bX.cell 1 _ rfl; have d2' := bX.cell 2 _ rfl; clear ls h2 bX)
      clear c0 c1 c2 c3 c4 c5 c6 CF
      go_upto_region 5 with (go_at_call 31; refine LS.out.mono ?_; rintro e w3 ⟨rfl, ew⟩; have ew2 := ew.symm; subst ew2)
      clear LS
      go_quiet (fail)
      have H4 := hide (below_drew H2.out nq H2.out.size)
      clear x2 x3 x4 x5 x6 d1 d2' H2
      generalize w2.drewN nq = w4 at *
      obtain ⟨b', eb, x2, ⟨x3, x4, x5, x6⟩, n3, n4, bX, _⟩ := FACT.out w4 H4.out
      cases eb
      obtain ⟨⟨⟨r0, r1⟩, f0, f1⟩, ⟨e0, e1⟩, fb⟩ := FIN.out w4 H4.out (.int .i64 d2) (.int .i64 d3)
      have E0 := hide e0
      have E1 := hide e1
      have FB := hide fb
      have DB : Hid (∀ V, Below W.heap.size W V → Below W.heap.size W V.drew) := fun V h => h.drew
      clear e0 e1 fb bX FACT FIN n3 n4
      go_upto_region 6 with fail
      go_region_with fail
      all_goals (
        go_wp2
        have e0 := E0.out
        have e1 := E1.out
        refine bodyPost_ret (v := .tuple #[.agg #[.int .i64 d2, .int .i64 d3], .int .i64 d4]) (by simp [results, Tryz.results9, go_sem, e0, e1]) rfl ?_
        refine ⟨rfl, ?_⟩
        repeat (first | exact FB.out | refine DB.out _ ?_))
    · have q3 : c.seq < (M.was S c.ses).seq := by
        rcases hq with z | z | z
        · exact absurd q1 z
        · exact absurd z q2
        · exact z
      have ED : Hid (M.shDo S c = (M.an0, 6, S)) := by unfold Hid; rw [M.do_is q1, if_neg q2, if_pos q3]
      rw [ED.out]
      rw [w0] at q2 q3
      have r1 : ((S.done.getD k dn0).seq == c.seq) = false := by rw [beq_eq_false_iff_ne]; exact q2
      have r3 : decide (c.seq < (S.done.getD k dn0).seq) = true := decide_eq_true q3
      simp only
      show Calls _ _ _ _ fun e w' => e = .returned (.tuple #[.agg #[.int .i64 0, .int .i64 0], .int .i64 6]) ∧ _
      clear ED hb hl hq H q1 wh ses1 seq1 nl hk kl kp w0
      generalize (S.done.getD k dn0).seq = dq at *
      generalize (S.done.getD k dn0).ans.num = d2 at *
      generalize (S.done.getD k dn0).ans.idx = d3 at *
      generalize (S.done.getD k dn0).bad = d4 at *
      generalize byStr c.name = sn at *
      go_enter Tryz.func9, Tryz.ntmps9
      go_upto_region 1 with fail
      rw [← hW1]
      clear hW1
      go_upto_region 2 with (go_at_call 30; refine CF.out.mono ?_; rintro e w2 ⟨rfl, h2⟩; have H2 := hide h2; obtain ⟨b, rfl, x2, ⟨x3, x4, x5, x6⟩, n1, n2, bX, ls⟩ := FACT.out w2 h2; have LS := hide ls; have d1 := bX.cell 1 _ rfl; have d2' := bX.cell 2 _ rfl; clear ls h2 bX)
      clear c0 c1 c2 c3 c4 c5 c6 CF
      go_upto_region 5 with (go_at_call 31; refine LS.out.mono ?_; rintro e w3 ⟨rfl, ew⟩; have ew2 := ew.symm; subst ew2)
      clear LS
      go_quiet (fail)
      have H4 := hide (below_drew H2.out nq H2.out.size)
      clear x2 x3 x4 x5 x6 d1 d2' H2
      generalize w2.drewN nq = w4 at *
      obtain ⟨b', eb, x2, ⟨x3, x4, x5, x6⟩, n3, n4, bX, _⟩ := FACT.out w4 H4.out
      cases eb
      have d1 := bX.cell 1 _ rfl
      have d2' := bX.cell 2 _ rfl
      go_upto_region 7 with fail
      go_quiet (fail)
      have H5 := hide (below_drew H4.out nq H4.out.size)
      clear x2 x3 x4 x5 x6 d1 d2' H4 bX
      generalize w4.drewN nq = w5 at *
      obtain ⟨⟨⟨r0, r1⟩, f0, f1⟩, ⟨e0, e1⟩, fb⟩ := FIN.out w5 H5.out (.int .i64 0) (.int .i64 0)
      go_wp2
      refine bodyPost_ret (v := .tuple #[.agg #[.int .i64 0, .int .i64 0], .int .i64 6]) (by simp [results, Tryz.results9, go_sem, e0, e1]) rfl ?_
      exact ⟨rfl, fb⟩
end Go.Proofs.YtiggkjkjfnlfkaaGreatDoor
