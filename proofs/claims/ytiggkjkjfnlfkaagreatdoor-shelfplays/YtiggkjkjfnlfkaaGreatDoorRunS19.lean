/-
  Several texts as one: ShA, ShStep, ShTurn, ShCh.
-/
import Derived.Test.YtiggkjkjfnlfkaaGreatDoorRunS3
import Derived.Test.YtiggkjkjfnlfkaaGreatDoorRunS9
import Derived.Test.YtiggkjkjfnlfkaaGreatDoorRunS15
import Derived.StringKeys
import Derived.Test.YtiggkjkjfnlfkaaGreatDoorRunS2
namespace Go.Proofs.YtiggkjkjfnlfkaaGreatDoor
open Go.ChangeShapes Go.WideShapes Go.ChangeAt Go.RowKit Go.Lib Go.Maps
set_option linter.unusedVariables false
theorem keyI : Keyed Tryz.prog 3 := int_keyed Tryz.underlying3
theorem keyS : Keyed Tryz.prog 9 := string_keyed Tryz.underlying9
def nmK (n : List Nat) : Lit := .string (n.map UInt8.ofNat)
theorem nmK_inj {a b : List Nat} (ha : isB a) (hb : isB b) (h : nmK a = nmK b) : a = b := by
  unfold nmK at h
  injection h with h
  exact ofs_inj a b ha hb h
theorem keyOfS {n : List Nat} (h : n.length ≤ 140737488351232) : keyOf Tryz.prog 9 (.string (byStr n)) = some (nmK n) := by
  have e := Go.WideMaps.keyOf_string_mk (P := Tryz.prog) (k := 9) Tryz.underlying9 (s := byStr n) (by
    have : (byStr n).size = n.length := by
      have := congrArg List.length (byStr_list n)
      simpa using this
    rw [this]; unfold maxLen; omega)
  rw [e, byStr_list]
  rfl
theorem isKeyS (n : List Nat) : WideAt.IsKeyLit (nmK n) := by
  unfold nmK
  trivial
def anV (a : M.An) : Value := .agg #[.int .i64 a.num, .int .i64 a.idx]
def lastV (d : M.Dn) : Value := .agg #[.int .i64 d.seq, .int .i64 d.ans.num, .int .i64 d.ans.idx, errV d.bad]
/-- a grove that is read as long as these blocks stay -/
def GIn (P : Nat → Prop) (W : World) (G : Gr) : Prop := ∀ W' : World, W.heap.size ≤ W'.heap.size → (∀ q, P q → W'.heap[q]? = W.heap[q]?) → RdG W' G
theorem GIn.up {P Q : Nat → Prop} {W W' : World} {G : Gr} (h : GIn P W G) (hz : W.heap.size ≤ W'.heap.size) (hk : ∀ q, P q → W'.heap[q]? = W.heap[q]?) (hq : ∀ q, P q → Q q) : GIn Q W' G := fun W'' h1 h2 => h W'' (Nat.le_trans hz h1) (fun q hp => (h2 q (hq q hp)).trans (hk q hp))
theorem GIn.rd {P : Nat → Prop} {W : World} {G : Gr} (h : GIn P W G) : RdG W G := h W (Nat.le_refl _) (fun _ _ => rfl)
/-- what is kept of a version, cell by cell -/
def kpL (v : M.Vn) (G : Gr) : List Value := [.string (byStr v.name), .int .i64 v.num, .int .i64 v.stage, .int .i64 v.share, .int .i64 G.f, .int .i64 G.w, .slice G.wa G.ws.length G.wc, .slice G.ta G.ks.length G.tc]
abbrev vAt (S : M.Sh) (k : Nat) : M.Vn := (S.l.getD k M.vg0).1
/-- what a shelf always is -/
structure Inv (S : M.Sh) : Prop where
  ok : M.ShOk S
  zr : M.zerL S.l
  nu : M.numY (M.kyL S.l)
  ll : (S.l.length : Int) ≤ S.idx
  dl : (S.done.length : Int) ≤ S.idx
  nb : ∀ k, k < S.l.length → isB (vAt S k).name
structure SV (W : World) (f : Nat) (T : Nat → Nat) (S : M.Sh) (mm ml : Nat) (D E : DataW Value) (kb : Nat → Nat) (mb : List Nat → Nat) (va : List Nat → Option Addr) (vc : List Nat → Nat) (G : Nat → Gr) : Prop where
  inv : Inv S
  tlt : ∀ q, T q ≠ 0 → q < W.heap.size
  box : Bx W f [.map (some mm), .map (some ml), .int .i64 S.idx]
  tf : T f = 1
  tm : T mm = 2
  tl : T ml = 3
  lo : ∃ m : Nat, W.ownsMap Tryz.prog 3 selfE ml m E
  lz : Maps.size E = S.done.length
  la : ∀ ses k, M.lastN S ses = some k → ∀ z, E.atKey (.int .i64 ses) z = .held (lastV (S.done.getD k dn0))
  ln : ∀ ses, M.lastN S ses = none → Maps.has E (.int .i64 ses) = false
  mo : W.ownsMap Tryz.prog 9 selfE mm (M.names S) D
  mz : Maps.size D = M.names S
  mn : ∀ n, isB n → M.posL S.l n = [] → Maps.has D (nmK n) = false
  ms : ∀ n, M.posL S.l n ≠ [] → ∀ z, D.atKey (nmK n) z = .held (ptB (some (mb n)))
  tb : ∀ n, M.posL S.l n ≠ [] → T (mb n) = 4
  mi : ∀ n n', M.posL S.l n ≠ [] → M.posL S.l n' ≠ [] → mb n = mb n' → n = n'
  mc : ∀ n, M.posL S.l n ≠ [] → Bx W (mb n) [.slice (va n) (M.posL S.l n).length (vc n), ptB ((M.atN S n 2).map kb), ptB ((M.atN S n 3).map kb)]
  ro : ∀ n, M.posL S.l n ≠ [] → W.ownsRow 0 94 1 (.slice (va n) (M.posL S.l n).length (vc n)) (M.posL S.l n).length ((M.posL S.l n).map fun k => ptB (some (kb k)))
  rt : ∀ n p, M.posL S.l n ≠ [] → va n = some p → T p.block = 5
  ri : ∀ n n' p p', M.posL S.l n ≠ [] → M.posL S.l n' ≠ [] → va n = some p → va n' = some p' → p.block = p'.block → n = n'
  tk : ∀ k, k < S.l.length → T (kb k) = 6
  ki : ∀ k j, k < S.l.length → j < S.l.length → kb k = kb j → k = j
  kc : ∀ k, k < S.l.length → Bx W (kb k) (kpL (vAt S k) (G k))
  kg : ∀ k, k < S.l.length → (vAt S k).stage ≠ 4 → (G k).m = (S.l.getD k M.vg0).2 ∧ GIn (fun q => T q = 7) W (G k)
def SA (W : World) (f : Nat) (T : Nat → Nat) (S : M.Sh) : Prop := ∃ mm ml D E kb mb va vc G, SV W f T S mm ml D E kb mb va vc G

theorem ownsMap_tight {W : World} {P : Program} {k : TypeId} {R : Value → Option (DataW Value × List MemPlace)} {b n : Nat} {D : DataW Value} (h : W.ownsMap P k R b n D) : W.ownsMap P k R b (Maps.size D) D := by
  obtain ⟨es, clock, hb, F, hs, e⟩ := h
  refine ⟨es, clock, hb, F, ?_, e⟩
  rw [e]
  simp [Maps.size, length_sorted]
theorem own_keep_at {W W' : World} {B : Nat} {e : TypeId} {size n : Nat} {v : Value} {l : List Value} (h : W.ownsRow B e size v n l) (hk : ∀ q, v.ownBlock = some q → W'.heap[q]? = W.heap[q]?) : W'.ownsRow B e size v n l := by
  refine ⟨h.1, ?_⟩
  rcases h.2 with z | ⟨g, cap, cur, hv, hb, hg, r⟩
  · exact .inl z
  · refine .inr ⟨g, cap, cur, hv, hb, ?_, r⟩
    rw [hk g (by rw [hv]; rfl)]
    exact hg
theorem SV.up {W W' : World} {f : Nat} {T : Nat → Nat} {S : M.Sh} {mm ml : Nat} {D E : DataW Value} {kb : Nat → Nat} {mb : List Nat → Nat} {va : List Nat → Option Addr} {vc : List Nat → Nat} {G : Nat → Gr} (h : SV W f T S mm ml D E kb mb va vc G) (hk : ∀ q, T q ≠ 0 → W'.heap[q]? = W.heap[q]?) (hz : W.heap.size ≤ W'.heap.size) : SV W' f T S mm ml D E kb mb va vc G where
  inv := h.inv
  tlt := fun q hq => Nat.lt_of_lt_of_le (h.tlt q hq) hz
  box := h.box.keep (hk f (by rw [h.tf]; decide))
  tf := h.tf
  tm := h.tm
  tl := h.tl
  lo := by
    obtain ⟨m, h1⟩ := h.lo
    exact ⟨m, ownsMap_keep h1 (hk ml (by rw [h.tl]; decide))⟩
  lz := h.lz
  la := h.la
  ln := h.ln
  mo := ownsMap_keep h.mo (hk mm (by rw [h.tm]; decide))
  mz := h.mz
  mn := h.mn
  ms := h.ms
  tb := h.tb
  mi := h.mi
  mc := fun n hn => (h.mc n hn).keep (hk _ (by rw [h.tb n hn]; decide))
  ro := fun n hn => own_keep_at (h.ro n hn) (fun q hq => hk q (by
    cases e : va n with
    | none => rw [e] at hq; cases hq
    | some p =>
      rw [e] at hq
      have hq' : p.block = q := by cases hq; rfl
      rw [← hq', h.rt n p hn e]
      decide))
  rt := h.rt
  ri := h.ri
  tk := h.tk
  ki := h.ki
  kc := fun k hk' => (h.kc k hk').keep (hk _ (by rw [h.tk k hk']; decide))
  kg := fun k hk' hs => ⟨(h.kg k hk' hs).1, (h.kg k hk' hs).2.up hz (fun q hq => hk q (by rw [hq]; decide)) (fun q hq => hq)⟩
theorem SA.up {W W' : World} {f : Nat} {T : Nat → Nat} {S : M.Sh} (h : SA W f T S) (hk : ∀ q, T q ≠ 0 → W'.heap[q]? = W.heap[q]?) (hz : W.heap.size ≤ W'.heap.size) : SA W' f T S := by
  obtain ⟨mm, ml, D, E, kb, mb, va, vc, G, h⟩ := h
  exact ⟨mm, ml, D, E, kb, mb, va, vc, G, h.up hk hz⟩
theorem SV.below {W W' : World} {f : Nat} {T : Nat → Nat} {S : M.Sh} {mm ml : Nat} {D E : DataW Value} {kb : Nat → Nat} {mb : List Nat → Nat} {va : List Nat → Option Addr} {vc : List Nat → Nat} {G : Nat → Gr} (h : SV W f T S mm ml D E kb mb va vc G) (hb : Below W.heap.size W W') : SV W' f T S mm ml D E kb mb va vc G := h.up (fun q hq => hb.block q (h.tlt q hq)) hb.size
theorem SV.lt {W : World} {f : Nat} {T : Nat → Nat} {S : M.Sh} {mm ml : Nat} {D E : DataW Value} {kb : Nat → Nat} {mb : List Nat → Nat} {va : List Nat → Option Addr} {vc : List Nat → Nat} {G : Nat → Gr} (h : SV W f T S mm ml D E kb mb va vc G) : f < W.heap.size := h.tlt f (by rw [h.tf]; decide)
def Gr.nil : Gr := ⟨0, 0, none, [], 0, none, [], 0⟩
theorem M.names_setV (s : M.Sh) (k : Nat) (st sh : Int) (i : Int) (ds : List M.Dn) : M.names ⟨i, M.setV s.l k st sh, ds⟩ = M.names s := by
  have e : ∀ l : List (M.Vn × M.Gv), (l.filter fun v => decide (v.1.num = 1)).length = ((M.kyL l).filter fun x => decide (x.2 = 1)).length := fun l => by
    unfold M.kyL
    rw [List.filter_map, List.length_map]
    rfl
  unfold M.names
  rw [e, e, M.ky_setV]
theorem Inv.set {S : M.Sh} (h : Inv S) {k : Nat} {st sh : Int} (hk : k < S.l.length) (ho : M.oneL (M.setV S.l k st sh)) (h1 : 0 < sh ↔ st = 2) (h2 : st ≠ 2 → sh = 0) : Inv ⟨S.idx, M.setV S.l k st sh, S.done⟩ where
  ok := ⟨ho, M.shr_set h.ok.shr h1, h.ok.i0, h.ok.ans⟩
  zr := M.zer_set h.zr h2
  nu := by
    show M.numY (M.kyL (M.setV S.l k st sh))
    rw [M.ky_setV]; exact h.nu
  ll := by
    show ((M.setV S.l k st sh).length : Int) ≤ S.idx
    rw [M.len_setV]; exact h.ll
  dl := h.dl
  nb := fun j hj => by
    have hj' : j < S.l.length := by rw [← M.len_setV S.l k st sh]; exact hj
    show isB ((M.setV S.l k st sh).getD j M.vg0).1.name
    rw [M.getD_setV S.l k st sh hj']
    by_cases q : k = j
    · rw [if_pos q]; exact h.nb j hj'
    · rw [if_neg q]; exact h.nb j hj'
theorem mvC_map {kb : Nat → Nat} {n : Nat} (hi : ∀ k j, k < n → j < n → kb k = kb j → k = j) {o : Option Nat} (ho : ∀ c, o = some c → c < n) {k : Nat} (hk : k < n) (st st' : Int) : mvC (o.map kb) (kb k) st st' = (mvC o k st st').map kb := by
  unfold mvC
  by_cases q : st = st'
  · rw [if_pos q, if_pos q]; rfl
  · rw [if_neg q, if_neg q]
    cases o with
    | none => rfl
    | some c =>
      by_cases e : c = k
      · subst e; simp
      · rw [if_neg (by intro z; rw [Option.map_some, Option.some.injEq] at z; exact e (hi c k (ho c rfl) hk z)), if_neg (by intro z; cases z; exact e rfl)]
theorem at_set_mv {S : M.Sh} (h : M.oneL S.l) {k : Nat} {st sh : Int} (hk : k < S.l.length) (h' : M.oneL (M.setV S.l k st sh)) {st' : Int} (hs : st' = 3 ∨ st' = 2) : M.atN ⟨S.idx, M.setV S.l k st sh, S.done⟩ (vAt S k).name st' = mvC (M.atN S (vAt S k).name st') k st st' := by
  rw [M.at_set h hk 0 S.idx S.done h' hs, if_pos rfl]
  rfl
theorem at_set_no {S : M.Sh} (h : M.oneL S.l) {k : Nat} {st sh : Int} (hk : k < S.l.length) (h' : M.oneL (M.setV S.l k st sh)) {n : List Nat} (hn : (vAt S k).name ≠ n) {st' : Int} (hs : st' = 3 ∨ st' = 2) : M.atN ⟨S.idx, M.setV S.l k st sh, S.done⟩ n st' = M.atN S n st' := by
  rw [M.at_set h hk 0 S.idx S.done h' hs, if_neg hn]

theorem SV.posNe {W : World} {f : Nat} {T : Nat → Nat} {S : M.Sh} {mm ml : Nat} {D E : DataW Value} {kb : Nat → Nat} {mb : List Nat → Nat} {va : List Nat → Option Addr} {vc : List Nat → Nat} {G : Nat → Gr} (h : SV W f T S mm ml D E kb mb va vc G) {k : Nat} (hk : k < S.l.length) : M.posL S.l (vAt S k).name ≠ [] := fun e => by
  have := M.pos_mem.2 ⟨hk, rfl⟩
  rw [show (S.l.getD k M.vg0).1.name = (vAt S k).name from rfl, e] at this
  cases this
theorem SV.moved {W W' : World} {f : Nat} {T : Nat → Nat} {S : M.Sh} {mm ml : Nat} {D E : DataW Value} {kb : Nat → Nat} {mb : List Nat → Nat} {va : List Nat → Option Addr} {vc : List Nat → Nat} {G : Nat → Gr} (h : SV W f T S mm ml D E kb mb va vc G) {k : Nat} {st sh : Int} (hk : k < S.l.length) (hp : (vAt S k).stage ≠ 4)
    (hw : StayBut (fun q => q = mb (vAt S k).name ∨ q = kb k) W W')
    (hm : Bx W' (mb (vAt S k).name) [.slice (va (vAt S k).name) (M.posL S.l (vAt S k).name).length (vc (vAt S k).name), ptB (mvC ((M.atN S (vAt S k).name 2).map kb) (kb k) st 2), ptB (mvC ((M.atN S (vAt S k).name 3).map kb) (kb k) st 3)])
    (hb : Bx W' (kb k) ([.string (byStr (vAt S k).name), .int .i64 (vAt S k).num, .int .i64 st, .int .i64 sh] ++ mvG st (.int .i64 (G k).f) (.int .i64 (G k).w) (.slice (G k).wa (G k).ws.length (G k).wc) (.slice (G k).ta (G k).ks.length (G k).tc)))
    (ho : M.oneL (M.setV S.l k st sh)) (h1 : 0 < sh ↔ st = 2) (h2 : st ≠ 2 → sh = 0) :
    SV W' f T ⟨S.idx, M.setV S.l k st sh, S.done⟩ mm ml D E kb mb va vc (fun j => if j = k ∧ st = 4 then Gr.nil else G j) := by
  have ne := h.posNe hk
  have keep : ∀ q, T q ≠ 0 → T q ≠ 4 → T q ≠ 6 → W'.heap[q]? = W.heap[q]? := fun q h0 h4 h6 => hw.block q (h.tlt q h0) (fun e => by
    rcases e with rfl | rfl
    · exact h4 (h.tb _ ne)
    · exact h6 (h.tk k hk))
  have pl : ∀ n, M.posL (M.setV S.l k st sh) n = M.posL S.l n := fun n => M.pos_setV S.l k st sh n
  have ln : (M.setV S.l k st sh).length = S.l.length := M.len_setV S.l k st sh
  have gd : ∀ j, j < S.l.length → (M.setV S.l k st sh).getD j M.vg0 = if k = j then (⟨(S.l.getD j M.vg0).1.name, (S.l.getD j M.vg0).1.num, st, sh⟩, (S.l.getD j M.vg0).2) else S.l.getD j M.vg0 := fun j hj => M.getD_setV S.l k st sh hj
  have mbk : ∀ n, M.posL S.l n ≠ [] → n ≠ (vAt S k).name → W'.heap[mb n]? = W.heap[mb n]? := fun n hn hne => hw.block _ (h.tlt _ (by rw [h.tb n hn]; decide)) (fun e => by
    rcases e with e | e
    · exact hne (h.mi n _ hn ne e)
    · have a := h.tb n hn
      rw [e, h.tk k hk] at a
      cases a)
  have kbk : ∀ j, j < S.l.length → j ≠ k → W'.heap[kb j]? = W.heap[kb j]? := fun j hj hne => hw.block _ (h.tlt _ (by rw [h.tk j hj]; decide)) (fun e => by
    rcases e with e | e
    · have a := h.tb _ ne
      rw [← e, h.tk j hj] at a
      cases a
    · exact hne (h.ki j k hj hk e))
  exact {
    inv := h.inv.set hk ho h1 h2
    tlt := fun q hq => Nat.lt_of_lt_of_le (h.tlt q hq) hw.size
    box := h.box.keep (keep f (by rw [h.tf]; decide) (by rw [h.tf]; decide) (by rw [h.tf]; decide))
    tf := h.tf
    tm := h.tm
    tl := h.tl
    lo := by
      obtain ⟨m, h1⟩ := h.lo
      exact ⟨m, ownsMap_keep h1 (keep ml (by rw [h.tl]; decide) (by rw [h.tl]; decide) (by rw [h.tl]; decide))⟩
    lz := h.lz
    la := h.la
    ln := h.ln
    mo := by rw [M.names_setV]; exact ownsMap_keep h.mo (keep mm (by rw [h.tm]; decide) (by rw [h.tm]; decide) (by rw [h.tm]; decide))
    mz := by rw [M.names_setV]; exact h.mz
    mn := fun n hb hn => h.mn n hb ((pl n).symm.trans hn)
    ms := fun n hn => h.ms n (fun e => hn ((pl n).trans e))
    tb := fun n hn => h.tb n (fun e => hn ((pl n).trans e))
    mi := fun n n' hn hn' => h.mi n n' (fun e => hn ((pl n).trans e)) (fun e => hn' ((pl n').trans e))
    mc := fun n hn => by
      have hn0 : M.posL S.l n ≠ [] := fun e => hn ((pl n).trans e)
      show Bx W' (mb n) [.slice (va n) (M.posL (M.setV S.l k st sh) n).length (vc n), ptB ((M.atN ⟨S.idx, M.setV S.l k st sh, S.done⟩ n 2).map kb), ptB ((M.atN ⟨S.idx, M.setV S.l k st sh, S.done⟩ n 3).map kb)]
      rw [pl n]
      by_cases q : n = (vAt S k).name
      · subst q
        rw [at_set_mv h.inv.ok.one hk ho (.inr rfl), at_set_mv h.inv.ok.one hk ho (.inl rfl), ← mvC_map h.ki (fun c hc => (M.at_is hc).1) hk, ← mvC_map h.ki (fun c hc => (M.at_is hc).1) hk]
        exact hm
      · rw [at_set_no h.inv.ok.one hk ho (Ne.symm q) (.inr rfl), at_set_no h.inv.ok.one hk ho (Ne.symm q) (.inl rfl)]
        exact (h.mc n hn0).keep (mbk n hn0 q)
    ro := fun n hn => by
      have hn0 : M.posL S.l n ≠ [] := fun e => hn ((pl n).trans e)
      show W'.ownsRow 0 94 1 (.slice (va n) (M.posL (M.setV S.l k st sh) n).length (vc n)) (M.posL (M.setV S.l k st sh) n).length ((M.posL (M.setV S.l k st sh) n).map fun k => ptB (some (kb k)))
      rw [pl n]
      exact own_keep_at (h.ro n hn0) (fun q hq => by
        cases e : va n with
        | none => rw [e] at hq; cases hq
        | some p =>
          rw [e] at hq
          have hq' : p.block = q := by cases hq; rfl
          have t5 := h.rt n p hn0 e
          rw [hq'] at t5
          exact keep q (by rw [t5]; decide) (by rw [t5]; decide) (by rw [t5]; decide))
    rt := fun n p hn => h.rt n p (fun e => hn ((pl n).trans e))
    ri := fun n n' p p' hn hn' => h.ri n n' p p' (fun e => hn ((pl n).trans e)) (fun e => hn' ((pl n').trans e))
    tk := fun j hj => h.tk j (by rw [← ln]; exact hj)
    ki := fun i j hi hj => h.ki i j (by rw [← ln]; exact hi) (by rw [← ln]; exact hj)
    kc := fun j hj => by
      have hj' : j < S.l.length := by rw [← ln]; exact hj
      show Bx W' (kb j) (kpL ((M.setV S.l k st sh).getD j M.vg0).1 (if j = k ∧ st = 4 then Gr.nil else G j))
      rw [gd j hj']
      by_cases q : k = j
      · subst q
        rw [if_pos rfl]
        by_cases s4 : st = 4
        · rw [if_pos ⟨rfl, s4⟩]
          unfold mvG at hb
          rw [if_pos s4] at hb
          exact hb
        · rw [if_neg (fun z => s4 z.2)]
          unfold mvG at hb
          rw [if_neg s4] at hb
          exact hb
      · rw [if_neg q, if_neg (fun z => q z.1.symm)]
        exact (h.kc j hj').keep (kbk j hj' (Ne.symm q))
    kg := fun j hj hs => by
      have hj' : j < S.l.length := by rw [← ln]; exact hj
      have hs' : ((M.setV S.l k st sh).getD j M.vg0).1.stage ≠ 4 := hs
      show (if j = k ∧ st = 4 then Gr.nil else G j).m = ((M.setV S.l k st sh).getD j M.vg0).2 ∧ GIn (fun q => T q = 7) W' (if j = k ∧ st = 4 then Gr.nil else G j)
      have up : ∀ {g : Gr}, GIn (fun q => T q = 7) W g → GIn (fun q => T q = 7) W' g := fun hg => hg.up hw.size (fun q hq => keep q (by rw [hq]; decide) (by rw [hq]; decide) (by rw [hq]; decide)) (fun q hq => hq)
      rw [gd j hj'] at hs' ⊢
      by_cases q : k = j
      · subst q
        rw [if_pos rfl] at hs' ⊢
        rw [if_neg (fun z => hs' z.2)]
        exact ⟨(h.kg k hk hp).1, up (h.kg k hk hp).2⟩
      · rw [if_neg q] at hs' ⊢
        rw [if_neg (fun z => q z.1.symm)]
        exact ⟨(h.kg j hj' hs').1, up (h.kg j hj' hs').2⟩ }
def M.tryF (s : M.Sh) (k : Nat) (share : Int) : Int × List (M.Vn × M.Gv) :=
  if share < 1 ∨ 99 < share then (1, s.l) else if (vAt s k).stage ≠ 1 then (6, s.l) else if (M.atN s (vAt s k).name 2).isSome then (7, s.l) else (0, M.setV s.l k 2 share)
def M.proF (s : M.Sh) (k : Nat) : Int × List (M.Vn × M.Gv) :=
  if (vAt s k).stage ≠ 1 ∧ (vAt s k).stage ≠ 2 then (6, s.l) else match M.atN s (vAt s k).name 3 with
    | none => (0, M.setV s.l k 3 0)
    | some o => (0, M.setV (M.setV s.l o 4 0) k 3 0)
def M.retF (s : M.Sh) (k : Nat) : Int × List (M.Vn × M.Gv) := if (vAt s k).stage = 4 then (6, s.l) else (0, M.setV s.l k 4 0)
/-- what is left by what is done with a version -/
def TurnGives (W : World) (f : Nat) (T : Nat → Nat) (S : M.Sh) (mm ml : Nat) (D E : DataW Value) (kb : Nat → Nat) (mb : List Nat → Nat) (va : List Nat → Option Addr) (vc : List Nat → Nat) (r : Int × List (M.Vn × M.Gv)) (e : Ending) (w' : World) : Prop :=
  ∃ G', e = .returned (errV r.1) ∧ SV w' f T ⟨S.idx, r.2, S.done⟩ mm ml D E kb mb va vc G' ∧ StayBut (fun q => T q ≠ 0) W w'

theorem SV.stayMK {W w' : World} {f : Nat} {T : Nat → Nat} {S : M.Sh} {mm ml : Nat} {D E : DataW Value} {kb : Nat → Nat} {mb : List Nat → Nat} {va : List Nat → Option Addr} {vc : List Nat → Nat} {G : Nat → Gr} (h : SV W f T S mm ml D E kb mb va vc G) {k : Nat} (hk : k < S.l.length) (hw : StayBut (fun q => q = mb (vAt S k).name ∨ q = kb k) W w') : StayBut (fun q => T q ≠ 0) W w' :=
  hw.mono (fun q _ e => by
    rcases e with rfl | rfl
    · rw [h.tb _ (h.posNe hk)]; decide
    · rw [h.tk k hk]; decide)
theorem SV.mkNe {W : World} {f : Nat} {T : Nat → Nat} {S : M.Sh} {mm ml : Nat} {D E : DataW Value} {kb : Nat → Nat} {mb : List Nat → Nat} {va : List Nat → Option Addr} {vc : List Nat → Nat} {G : Nat → Gr} (h : SV W f T S mm ml D E kb mb va vc G) {k : Nat} (hk : k < S.l.length) : mb (vAt S k).name ≠ kb k := fun e => by
  have a := h.tb _ (h.posNe hk)
  rw [e, h.tk k hk] at a
  cases a
/-- move, of a version of a shelf -/
theorem SV.move {W : World} {f : Nat} {T : Nat → Nat} {S : M.Sh} {mm ml : Nat} {D E : DataW Value} {kb : Nat → Nat} {mb : List Nat → Nat} {va : List Nat → Option Addr} {vc : List Nat → Nat} {G : Nat → Gr} (h : SV W f T S mm ml D E kb mb va vc G) {k : Nat} (hk : k < S.l.length) (st : Int) (hs : st = 2 ∨ st = 3 ∨ st = 4) :
    Calls Tryz.prog 155 #[.pointer (some ⟨mb (vAt S k).name, 0, none⟩), .pointer (some ⟨kb k, 0, none⟩), .int .i64 st] W fun e w' => e = .returned (.tuple #[]) ∧ MvGives W (mb (vAt S k).name) (kb k) (.slice (va (vAt S k).name) (M.posL S.l (vAt S k).name).length (vc (vAt S k).name)) (.string (byStr (vAt S k).name)) (.int .i64 (vAt S k).num) (.int .i64 (G k).f) (.int .i64 (G k).w) (.slice (G k).wa (G k).ws.length (G k).wc) (.slice (G k).ta (G k).ks.length (G k).tc) ((M.atN S (vAt S k).name 2).map kb) ((M.atN S (vAt S k).name 3).map kb) st w' := by
  have at' : ∀ st' c, (M.atN S (vAt S k).name st').map kb = some c → ∃ l, Bx W c l := fun st' c hc => by
    cases e : M.atN S (vAt S k).name st' with
    | none => rw [e] at hc; cases hc
    | some o =>
      rw [e] at hc
      cases hc
      exact ⟨_, h.kc o (M.at_is e).1⟩
  exact mv_any st (h.mc _ (h.posNe hk)) (h.kc k hk) (h.mkNe hk) (at' 2) (at' 3) hs
theorem MvGives.sv {W w' : World} {f : Nat} {T : Nat → Nat} {S : M.Sh} {mm ml : Nat} {D E : DataW Value} {kb : Nat → Nat} {mb : List Nat → Nat} {va : List Nat → Option Addr} {vc : List Nat → Nat} {G : Nat → Gr} (h : SV W f T S mm ml D E kb mb va vc G) {k : Nat} (hk : k < S.l.length) {st : Int} (hp : (vAt S k).stage ≠ 4) (hs : st ≠ 2) (ho : M.oneL (M.setV S.l k st 0))
    (hm : MvGives W (mb (vAt S k).name) (kb k) (.slice (va (vAt S k).name) (M.posL S.l (vAt S k).name).length (vc (vAt S k).name)) (.string (byStr (vAt S k).name)) (.int .i64 (vAt S k).num) (.int .i64 (G k).f) (.int .i64 (G k).w) (.slice (G k).wa (G k).ws.length (G k).wc) (.slice (G k).ta (G k).ks.length (G k).tc) ((M.atN S (vAt S k).name 2).map kb) ((M.atN S (vAt S k).name 3).map kb) st w') :
    SV w' f T ⟨S.idx, M.setV S.l k st 0, S.done⟩ mm ml D E kb mb va vc (fun j => if j = k ∧ st = 4 then Gr.nil else G j) :=
  h.moved hk hp hm.2.2 hm.1 hm.2.1 ho (by constructor; intro z; cases z; intro z; exact absurd z hs) (fun _ => rfl)

theorem one_four {S : M.Sh} (h : M.oneL S.l) {k : Nat} (hk : k < S.l.length) : M.oneL (M.setV S.l k 4 0) := M.one_set h hk (fun z => by omega)
theorem one_new {S : M.Sh} (h : M.oneL S.l) {k : Nat} {st sh : Int} (hk : k < S.l.length) (hst : st = 3 ∨ st = 2) (hn : M.atN S (vAt S k).name st = none) : M.oneL (M.setV S.l k st sh) := M.one_set h hk (fun _ i d hi hne z => by
  have e1 : S.l.getD i d = S.l.getD i M.vg0 := by simp [List.getD, hi]
  have e2 : S.l.getD k d = S.l.getD k M.vg0 := by simp [List.getD, hk]
  rw [e1, e2] at z
  exact M.at_not hn hi z)

set_option maxHeartbeats 4000000 in
theorem sh_retire {W : World} {f : Nat} {T : Nat → Nat} {S : M.Sh} {mm ml : Nat} {D E : DataW Value} {kb : Nat → Nat} {mb : List Nat → Nat} {va : List Nat → Option Addr} {vc : List Nat → Nat} {G : Nat → Gr} (h : SV W f T S mm ml D E kb mb va vc G) {k : Nat} (hk : k < S.l.length) :
    Calls Tryz.prog 116 #[.pointer (some ⟨mb (vAt S k).name, 0, none⟩), .pointer (some ⟨kb k, 0, none⟩)] W (TurnGives W f T S mm ml D E kb mb va vc (M.retF S k)) := by
  have c2 := (h.kc k hk).cell 2 _ rfl
  have H := hide h
  by_cases q : (vAt S k).stage = 4
  · have e : Hid (M.retF S k = (6, S.l)) := by unfold Hid M.retF; rw [if_pos q]
    have g : ((vAt S k).stage == 4) = true := by rw [q]; rfl
    unfold TurnGives
    rw [e.out]
    clear e h
    generalize (vAt S k).stage = s at *
    generalize mb (vAt S k).name = m at *
    clear q
    go_enter Tryz.func116, Tryz.ntmps116
    go_wp2
    go_ret
    exact ⟨G, by rw [err_some (by decide)]; rfl, H.out, StayBut.refl _ _⟩
  · have e : Hid (M.retF S k = (0, M.setV S.l k 4 0)) := by unfold Hid M.retF; rw [if_neg q]
    have g : ((vAt S k).stage == 4) = false := by rw [beq_eq_false_iff_ne]; exact q
    have MV := hide (h.move hk 4 (.inr (.inr rfl)))
    have FIN : Hid (∀ w', MvGives W (mb (vAt S k).name) (kb k) (.slice (va (vAt S k).name) (M.posL S.l (vAt S k).name).length (vc (vAt S k).name)) (.string (byStr (vAt S k).name)) (.int .i64 (vAt S k).num) (.int .i64 (G k).f) (.int .i64 (G k).w) (.slice (G k).wa (G k).ws.length (G k).wc) (.slice (G k).ta (G k).ks.length (G k).tc) ((M.atN S (vAt S k).name 2).map kb) ((M.atN S (vAt S k).name 3).map kb) 4 w' → TurnGives W f T S mm ml D E kb mb va vc (M.retF S k) (.returned .nilIface) w') := fun w' hm => by
      unfold TurnGives
      rw [e.out]
      exact ⟨_, rfl, hm.sv h hk q (by decide) (one_four h.inv.ok.one hk), h.stayMK hk hm.2.2⟩
    clear e h H q
    generalize (vAt S k).stage = s at *
    generalize hmb : mb (vAt S k).name = m at *
    clear hmb
    go_enter Tryz.func116, Tryz.ntmps116
    go_wp2_with (go_at_call 155; refine MV.out.mono ?_; rintro e w1 ⟨rfl, h1⟩; have H1 := hide h1; clear h1)
    go_ret
    exact FIN.out _ H1.out

set_option maxHeartbeats 4000000 in
theorem sh_try {W : World} {f : Nat} {T : Nat → Nat} {S : M.Sh} {mm ml : Nat} {D E : DataW Value} {kb : Nat → Nat} {mb : List Nat → Nat} {va : List Nat → Option Addr} {vc : List Nat → Nat} {G : Nat → Gr} (h : SV W f T S mm ml D E kb mb va vc G) {k : Nat} (hk : k < S.l.length) (share : Int) (s1 : -9223372036854775808 ≤ share) (s2 : share ≤ 9223372036854775807) :
    Calls Tryz.prog 114 #[.pointer (some ⟨mb (vAt S k).name, 0, none⟩), .pointer (some ⟨kb k, 0, none⟩), .int .i64 share] W (TurnGives W f T S mm ml D E kb mb va vc (M.tryF S k share)) := by
  have c2 := (h.kc k hk).cell 2 _ rfl
  have m1 := (h.mc _ (h.posNe hk)).cell 1 _ rfl
  have H := hide h
  have BAD : Hid (∀ e, e ≠ 0 → M.tryF S k share = (e, S.l) → TurnGives W f T S mm ml D E kb mb va vc (M.tryF S k share) (.returned (.iface 90 (.int .i64 e))) W) := fun e he hr => by
    unfold TurnGives
    rw [hr]
    exact ⟨G, by rw [err_some he], h, StayBut.refl _ _⟩
  by_cases q1 : share < 1 ∨ 99 < share
  · have e : Hid (M.tryF S k share = (1, S.l)) := by unfold Hid M.tryF; rw [if_pos q1]
    have ways : decide (share < 1) = true ∨ (decide (share < 1) = false ∧ decide (100 ≤ share) = true) := by
      simp only [decide_eq_true_iff, decide_eq_false_iff_not]; omega
    clear h H q1
    generalize (vAt S k).stage = s at *
    generalize hmb : mb (vAt S k).name = m at *
    clear hmb
    rcases ways with g1 | ⟨g1, g2⟩
    all_goals (
      go_enter Tryz.func114, Tryz.ntmps114
      go_wp2
      go_ret
      exact BAD.out 1 (by decide) e.out)
  have g1 : decide (share < 1) = false := decide_eq_false (by omega)
  have g2 : decide (100 ≤ share) = false := decide_eq_false (by omega)
  by_cases q2 : (vAt S k).stage = 1
  case neg =>
    have e : Hid (M.tryF S k share = (6, S.l)) := by unfold Hid M.tryF; rw [if_neg q1, if_pos q2]
    have g3 : ((vAt S k).stage != 1) = true := by rw [bne_iff_ne]; exact q2
    clear h H q1 q2
    generalize (vAt S k).stage = s at *
    generalize hmb : mb (vAt S k).name = m at *
    clear hmb
    go_enter Tryz.func114, Tryz.ntmps114
    go_wp2
    go_ret
    exact BAD.out 6 (by decide) e.out
  have g3 : ((vAt S k).stage != 1) = false := by rw [q2]; rfl
  cases q3 : M.atN S (vAt S k).name 2 with
  | some o =>
    have e : Hid (M.tryF S k share = (7, S.l)) := by unfold Hid M.tryF; rw [if_neg q1, if_neg (by simp [q2]), q3]; rfl
    rw [q3] at m1
    replace m1 : W.cell? ⟨mb (vAt S k).name, 1, none⟩ = some (.pointer (some ⟨kb o, 0, none⟩)) := m1
    clear h H q1 q2 q3
    generalize (vAt S k).stage = s at *
    generalize hmb : mb (vAt S k).name = m at *
    clear hmb
    go_enter Tryz.func114, Tryz.ntmps114
    go_wp2
    go_ret
    exact BAD.out 7 (by decide) e.out
  | none =>
    have e : Hid (M.tryF S k share = (0, M.setV S.l k 2 share)) := by unfold Hid M.tryF; rw [if_neg q1, if_neg (by simp [q2]), q3]; rfl
    rw [q3] at m1
    replace m1 : W.cell? ⟨mb (vAt S k).name, 1, none⟩ = some (.pointer none) := m1
    have MV := hide (h.move hk 2 (.inl rfl))
    have FIN : Hid (∀ w', MvGives W (mb (vAt S k).name) (kb k) (.slice (va (vAt S k).name) (M.posL S.l (vAt S k).name).length (vc (vAt S k).name)) (.string (byStr (vAt S k).name)) (.int .i64 (vAt S k).num) (.int .i64 (G k).f) (.int .i64 (G k).w) (.slice (G k).wa (G k).ws.length (G k).wc) (.slice (G k).ta (G k).ks.length (G k).tc) ((M.atN S (vAt S k).name 2).map kb) ((M.atN S (vAt S k).name 3).map kb) 2 w' → ((w'.cell? ⟨kb k, 3, none⟩ = some (.int .i64 0)) ∧ w'.frozen? ⟨kb k, 3, none⟩ = false) ∧ TurnGives W f T S mm ml D E kb mb va vc (M.tryF S k share) (.returned .nilIface) (w'.setCell ⟨kb k, 3, none⟩ (.int .i64 share))) := fun w' hm => by
      refine ⟨⟨hm.2.1.cell 3 _ rfl, hm.2.1.free 3⟩, ?_⟩
      unfold TurnGives
      rw [e.out]
      have st := hm.2.2.trans (stay_set (K := fun q => q = mb (vAt S k).name ∨ q = kb k) (p := kb k) (j := 3) (v := .int .i64 share) (.inr rfl))
      exact ⟨_, rfl, h.moved hk (by rw [q2]; decide) st (hm.1.else (h.mkNe hk)) (hm.2.1.put (j := 3)) (one_new h.inv.ok.one hk (.inr rfl) q3) (by constructor; intro _; rfl; intro _; omega) (fun z => absurd rfl z), h.stayMK hk st⟩
    clear e h H q1 q2 q3 BAD
    generalize (vAt S k).stage = s at *
    generalize hmb : mb (vAt S k).name = m at *
    clear hmb
    go_enter Tryz.func114, Tryz.ntmps114
    go_wp2_with (go_at_call 155; refine MV.out.mono ?_; rintro e w1 ⟨rfl, h1⟩; obtain ⟨⟨d3, e3⟩, h2⟩ := FIN.out _ h1; have H2 := hide h2; clear h1 h2)
    go_ret
    exact H2.out

set_option maxHeartbeats 4000000 in
theorem sh_promote {W : World} {f : Nat} {T : Nat → Nat} {S : M.Sh} {mm ml : Nat} {D E : DataW Value} {kb : Nat → Nat} {mb : List Nat → Nat} {va : List Nat → Option Addr} {vc : List Nat → Nat} {G : Nat → Gr} (h : SV W f T S mm ml D E kb mb va vc G) {k : Nat} (hk : k < S.l.length) :
    Calls Tryz.prog 115 #[.pointer (some ⟨mb (vAt S k).name, 0, none⟩), .pointer (some ⟨kb k, 0, none⟩)] W (TurnGives W f T S mm ml D E kb mb va vc (M.proF S k)) := by
  have c2 := (h.kc k hk).cell 2 _ rfl
  have m2 := (h.mc _ (h.posNe hk)).cell 2 _ rfl
  by_cases q1 : (vAt S k).stage ≠ 1 ∧ (vAt S k).stage ≠ 2
  · have e : Hid (M.proF S k = (6, S.l)) := by unfold Hid M.proF; rw [if_pos q1]
    have g1 : ((vAt S k).stage != 1) = true := by rw [bne_iff_ne]; exact q1.1
    have g2 : ((vAt S k).stage != 2) = true := by rw [bne_iff_ne]; exact q1.2
    have BAD : Hid (TurnGives W f T S mm ml D E kb mb va vc (M.proF S k) (.returned (.iface 90 (.int .i64 6))) W) := by
      unfold Hid TurnGives
      rw [e.out]
      exact ⟨G, by rw [err_some (show (6 : Int) ≠ 0 by decide)], h, StayBut.refl _ _⟩
    clear h q1 e
    generalize (vAt S k).stage = s at *
    generalize hmb : mb (vAt S k).name = m at *
    clear hmb
    go_enter Tryz.func115, Tryz.ntmps115
    go_wp2
    go_ret
    exact BAD.out
  have hp : (vAt S k).stage ≠ 4 := fun z => q1 ⟨by rw [z]; decide, by rw [z]; decide⟩
  have ways : ((vAt S k).stage != 1) = false ∨ (((vAt S k).stage != 1) = true ∧ ((vAt S k).stage != 2) = false) := by
    by_cases z : (vAt S k).stage = 1
    · exact .inl (by rw [z]; rfl)
    · refine .inr ⟨by rw [bne_iff_ne]; exact z, ?_⟩
      have : (vAt S k).stage = 2 := by
        by_cases y : (vAt S k).stage = 2
        · exact y
        · exact absurd ⟨z, y⟩ q1
      rw [this]; rfl
  cases q3 : M.atN S (vAt S k).name 3 with
  | none =>
    have e : Hid (M.proF S k = (0, M.setV S.l k 3 0)) := by unfold Hid M.proF; rw [if_neg q1, q3]
    rw [q3] at m2
    replace m2 : W.cell? ⟨mb (vAt S k).name, 2, none⟩ = some (.pointer none) := m2
    have MV := hide (h.move hk 3 (.inr (.inl rfl)))
    have FIN : Hid (∀ w', MvGives W (mb (vAt S k).name) (kb k) (.slice (va (vAt S k).name) (M.posL S.l (vAt S k).name).length (vc (vAt S k).name)) (.string (byStr (vAt S k).name)) (.int .i64 (vAt S k).num) (.int .i64 (G k).f) (.int .i64 (G k).w) (.slice (G k).wa (G k).ws.length (G k).wc) (.slice (G k).ta (G k).ks.length (G k).tc) ((M.atN S (vAt S k).name 2).map kb) ((M.atN S (vAt S k).name 3).map kb) 3 w' → TurnGives W f T S mm ml D E kb mb va vc (M.proF S k) (.returned .nilIface) w') := fun w' hm => by
      unfold TurnGives
      rw [e.out]
      exact ⟨_, rfl, hm.sv h hk hp (by decide) (one_new h.inv.ok.one hk (.inl rfl) q3), h.stayMK hk hm.2.2⟩
    clear e h q1 q3 hp
    generalize (vAt S k).stage = s at *
    generalize hmb : mb (vAt S k).name = m at *
    clear hmb
    rcases ways with g1 | ⟨g1, g2⟩
    all_goals (
      go_enter Tryz.func115, Tryz.ntmps115
      go_wp2_with (go_at_call 155; refine MV.out.mono ?_; rintro e w1 ⟨rfl, h1⟩; have H1 := hide h1; clear h1)
      go_ret
      exact FIN.out _ H1.out)
  | some o =>
    obtain ⟨o1, o2, o3⟩ := M.at_is q3
    have e : Hid (M.proF S k = (0, M.setV (M.setV S.l o 4 0) k 3 0)) := by unfold Hid M.proF; rw [if_neg q1, q3]
    rw [q3] at m2
    replace m2 : W.cell? ⟨mb (vAt S k).name, 2, none⟩ = some (.pointer (some ⟨kb o, 0, none⟩)) := m2
    have on : (vAt S o).name = (vAt S k).name := o2
    have ok : o ≠ k := fun z => by
      subst z
      exact q1 ⟨by show (vAt S o).stage ≠ 1; rw [show (vAt S o).stage = 3 from o3]; decide, by show (vAt S o).stage ≠ 2; rw [show (vAt S o).stage = 3 from o3]; decide⟩
    have MV := hide (h.move o1 4 (.inr (.inr rfl)))
    rw [on] at MV
    have STEP : Hid (∀ w1, MvGives W (mb (vAt S k).name) (kb o) (.slice (va (vAt S k).name) (M.posL S.l (vAt S k).name).length (vc (vAt S k).name)) (.string (byStr (vAt S k).name)) (.int .i64 (vAt S o).num) (.int .i64 (G o).f) (.int .i64 (G o).w) (.slice (G o).wa (G o).ws.length (G o).wc) (.slice (G o).ta (G o).ks.length (G o).tc) ((M.atN S (vAt S k).name 2).map kb) ((M.atN S (vAt S k).name 3).map kb) 4 w1 → Calls Tryz.prog 155 #[.pointer (some ⟨mb (vAt S k).name, 0, none⟩), .pointer (some ⟨kb k, 0, none⟩), .int .i64 3] w1 fun e w' => e = .returned (.tuple #[]) ∧ TurnGives W f T S mm ml D E kb mb va vc (M.proF S k) (.returned .nilIface) w') := fun w1 hm => by
      have s4 : (vAt S o).stage ≠ 4 := by rw [show (vAt S o).stage = 3 from o3]; decide
      have sv1 := MvGives.sv h o1 s4 (st := 4) (by decide) (one_four h.inv.ok.one o1) (by rw [on]; exact hm)
      have hk1 : k < (M.setV S.l o 4 0).length := by rw [M.len_setV]; exact hk
      have vk : vAt ⟨S.idx, M.setV S.l o 4 0, S.done⟩ k = vAt S k := by
        show ((M.setV S.l o 4 0).getD k M.vg0).1 = (S.l.getD k M.vg0).1
        rw [M.getD_setV S.l o 4 0 hk, if_neg ok]
      have no3 : M.atN ⟨S.idx, M.setV S.l o 4 0, S.done⟩ (vAt S k).name 3 = none := by
        rw [← on, at_set_mv h.inv.ok.one o1 (one_four h.inv.ok.one o1) (.inl rfl), on, q3]
        unfold mvC
        rw [if_neg (show ¬ ((4 : Int) = 3) by decide), if_pos rfl]
      have mv := sv1.move hk1 3 (.inr (.inl rfl))
      rw [vk] at mv
      refine mv.mono ?_
      rintro e2 w2 ⟨rfl, h2⟩
      refine ⟨rfl, ?_⟩
      unfold TurnGives
      rw [e.out]
      have st1 : StayBut (fun q => T q ≠ 0) W w1 := h.stayMK o1 (by rw [on]; exact hm.2.2)
      have st2 : StayBut (fun q => T q ≠ 0) w1 w2 := sv1.stayMK hk1 (by rw [vk]; exact h2.2.2)
      refine ⟨_, rfl, MvGives.sv sv1 hk1 (by rw [vk]; exact hp) (by decide) (one_new sv1.inv.ok.one hk1 (.inl rfl) (by rw [vk]; exact no3)) (by rw [vk]; exact h2), st1.trans st2⟩
    clear e h q1 q3 hp o1 o2 o3 on ok
    generalize (vAt S k).stage = s at *
    generalize hmb : mb (vAt S k).name = m at *
    clear hmb
    rcases ways with g1 | ⟨g1, g2⟩
    all_goals (
      go_enter Tryz.func115, Tryz.ntmps115
      go_wp2_with (first
        | (go_at_call 155; refine (STEP.out _ H1.out).mono ?_; rintro e w2 ⟨rfl, h2⟩; have H2 := hide h2; clear h2)
        | (go_at_call 155; refine MV.out.mono ?_; rintro e w1 ⟨rfl, h1⟩; have H1 := hide h1; clear h1))
      go_ret
      exact H2.out)
theorem zeroM (w : World) : (zeroValue 92).run Tryz.prog w = .ok (.pointer none) w := by kernel_rfl
theorem SV.look {W : World} {f : Nat} {T : Nat → Nat} {S : M.Sh} {mm ml : Nat} {D E : DataW Value} {kb : Nat → Nat} {mb : List Nat → Nat} {va : List Nat → Option Addr} {vc : List Nat → Nat} {G : Nat → Gr} (h : SV W f T S mm ml D E kb mb va vc G) {n : List Nat} (hl : n.length ≤ 140737488351232) (hn : M.posL S.l n ≠ []) : (Instr.lookup 76 (.map (some mm)) (.string (byStr n)) false).run Tryz.prog W = .ok (.pointer (some ⟨mb n, 0, none⟩)) W := by
  obtain ⟨v, ps, hrun, hv⟩ := h.mo.lookup keyS Tryz.underlying76 (zeroM W) (zd := .held (.pointer none)) rfl (keyOfS hl)
  rw [h.ms n hn] at hv
  unfold selfE at hv
  simp only [Option.some.injEq, Prod.mk.injEq, DataW.held.injEq] at hv
  rw [hrun, hv.1]
  rfl
theorem SV.look0 {W : World} {f : Nat} {T : Nat → Nat} {S : M.Sh} {mm ml : Nat} {D E : DataW Value} {kb : Nat → Nat} {mb : List Nat → Nat} {va : List Nat → Option Addr} {vc : List Nat → Nat} {G : Nat → Gr} (h : SV W f T S mm ml D E kb mb va vc G) {n : List Nat} (hb : isB n) (hl : n.length ≤ 140737488351232) (hn : M.posL S.l n = []) : (Instr.lookup 76 (.map (some mm)) (.string (byStr n)) false).run Tryz.prog W = .ok (.pointer none) W := by
  obtain ⟨v, ps, hrun, hv⟩ := h.mo.lookup keyS Tryz.underlying76 (zeroM W) (zd := .held (.pointer none)) rfl (keyOfS hl)
  rw [atKey_of_not_has (h.mn n hb hn)] at hv
  unfold selfE at hv
  simp only [Option.some.injEq, Prod.mk.injEq, DataW.held.injEq] at hv
  rw [hrun, hv.1]

set_option maxHeartbeats 4000000 in
theorem sh_model {W : World} {f : Nat} {T : Nat → Nat} {S : M.Sh} {mm ml : Nat} {D E : DataW Value} {kb : Nat → Nat} {mb : List Nat → Nat} {va : List Nat → Option Addr} {vc : List Nat → Nat} {G : Nat → Gr} (h : SV W f T S mm ml D E kb mb va vc G) {n : List Nat} (hl : n.length ≤ 140737488351232) (hn : M.posL S.l n ≠ []) :
    Calls Tryz.prog 43 #[.pointer (some ⟨f, 0, none⟩), .string (byStr n)] W fun e w' => e = .returned (.pointer (some ⟨mb n, 0, none⟩)) ∧ w' = W := by
  have hrun := h.look hl hn
  have c0 := h.box.cell 0 _ rfl
  clear h hl hn
  generalize byStr n = s at *
  generalize mb n = b at *
  go_enter Tryz.func43, Tryz.ntmps43
  go_wp2
  go_ret
  exact ⟨rfl, rfl⟩
set_option maxHeartbeats 4000000 in
theorem sh_model0 {W : World} {f : Nat} {T : Nat → Nat} {S : M.Sh} {mm ml : Nat} {D E : DataW Value} {kb : Nat → Nat} {mb : List Nat → Nat} {va : List Nat → Option Addr} {vc : List Nat → Nat} {G : Nat → Gr} (h : SV W f T S mm ml D E kb mb va vc G) {n : List Nat} (hb : isB n) (hl : n.length ≤ 140737488351232) (hn : M.posL S.l n = []) :
    Calls Tryz.prog 43 #[.pointer (some ⟨f, 0, none⟩), .string (byStr n)] W fun e w' => e = .returned (.pointer (some ⟨W.heap.size, 0, none⟩)) ∧ w' = W.alloc (.cells #[.slice none 0 0, .pointer none, .pointer none] 96) := by
  have hrun := h.look0 hb hl hn
  have c0 := h.box.cell 0 _ rfl
  clear h hl hn hb
  generalize byStr n = s at *
  go_enter Tryz.func43, Tryz.ntmps43
  go_wp2
  go_ret
  exact ⟨rfl, rfl⟩

set_option maxHeartbeats 4000000 in
theorem sh_version0 {W : World} {m : Nat} {pc pl : Value} (hm : Bx W m [.slice none 0 0, pc, pl]) (num : Int) :
    Calls Tryz.prog 45 #[.pointer (some ⟨m, 0, none⟩), .int .i64 num] W fun e w' => e = .returned (.pointer none) ∧ w' = W := by
  have m0 := hm.cell 0 _ rfl
  have ways : decide (num < 1) = true ∨ (decide (num < 1) = false ∧ decide (0 < num) = true) := by
    simp only [decide_eq_true_iff, decide_eq_false_iff_not]; omega
  clear hm
  rcases ways with g1 | ⟨g1, g2⟩
  all_goals (
    go_enter Tryz.func45, Tryz.ntmps45
    go_wp2
    go_ret
    exact ⟨rfl, rfl⟩)
set_option maxHeartbeats 4000000 in
theorem sh_version {W : World} {f : Nat} {T : Nat → Nat} {S : M.Sh} {mm ml : Nat} {D E : DataW Value} {kb : Nat → Nat} {mb : List Nat → Nat} {va : List Nat → Option Addr} {vc : List Nat → Nat} {G : Nat → Gr} (h : SV W f T S mm ml D E kb mb va vc G) {n : List Nat} (hn : M.posL S.l n ≠ []) {num : Int} (hi : I64 num) :
    Calls Tryz.prog 45 #[.pointer (some ⟨mb n, 0, none⟩), .int .i64 num] W fun e w' => e = .returned (ptB ((M.verN S n num).map kb)) ∧ w' = W := by
  have m0 := (h.mc n hn).cell 0 _ rfl
  have ro := h.ro n hn
  rw [M.ver_pos h.inv.nu]
  have lm : (M.posL S.l n).length ≤ 9223372036854775807 := by
    rcases ro.2 with ⟨_, z⟩ | ⟨g, cap, cur, _, _, _, z1, z2, _⟩
    · omega
    · unfold maxLen at z2; omega
  obtain ⟨i1, i2⟩ := hi
  by_cases q : 1 ≤ num ∧ num ≤ (M.posL S.l n).length
  · rw [if_pos q]
    obtain ⟨i, rfl⟩ : ∃ i : Nat, num = (i : Int) + 1 := ⟨(num - 1).toNat, by omega⟩
    have il : i < (M.posL S.l n).length := by omega
    rw [show ((i : Int) + 1 - 1).toNat = i by omega]
    rcases ro.2 with ⟨_, z⟩ | ⟨g, cap, cur, hv, _, _, _, _, _⟩
    · omega
    · rw [Value.slice.injEq] at hv
      obtain ⟨ea, _, ec⟩ := hv
      have ro' := ro
      rw [ea, ec] at ro'
      rw [ea, ec] at m0
      have ce : W.cell? ⟨g, i, none⟩ = some (.pointer (some ⟨kb ((M.posL S.l n).getD i 0), 0, none⟩)) := by
        rw [ro'.cellAt i (by omega), List.getElem?_map, List.getElem?_eq_getElem il]
        simp [List.getD, il, ptB]
      have P : Hid (ptB (Option.map kb (some ((M.posL S.l n).getD i 0))) = .pointer (some ⟨kb ((M.posL S.l n).getD i 0), 0, none⟩)) := rfl
      rw [P.out]
      clear h ro ro' ea ec q P hn
      generalize kb ((M.posL S.l n).getD i 0) = b at *
      generalize hL : (M.posL S.l n).length = L at *
      clear hL
      generalize mb n = m at *
      have g1 : decide ((i : Int) + 1 < 1) = false := decide_eq_false (by omega)
      have g2 : decide ((L : Int) < (i : Int) + 1) = false := decide_eq_false (by omega)
      have g3 : (i : Int) < (L : Int) := by omega
      have w1 : IntKind.i64.wrap ((i : Int) + 1 - 1) = (i : Int) := by
        rw [show (i : Int) + 1 - 1 = (i : Int) by omega]
        exact wrap_i64n (by omega) (by omega)
      go_enter Tryz.func45, Tryz.ntmps45
      go_wp2
      go_ret
      exact ⟨rfl, rfl⟩
  · rw [if_neg q]
    have ways : decide (num < 1) = true ∨ (decide (num < 1) = false ∧ decide (((M.posL S.l n).length : Int) < num) = true) := by
      simp only [decide_eq_true_iff, decide_eq_false_iff_not]; omega
    clear h ro q hn
    generalize hL : (M.posL S.l n).length = L at *
    clear hL
    generalize mb n = m at *
    generalize va n = a at *
    generalize vc n = c at *
    rcases ways with g1 | ⟨g1, g2⟩
    all_goals (
      go_enter Tryz.func45, Tryz.ntmps45
      go_wp2
      go_ret
      exact ⟨rfl, rfl⟩)
end Go.Proofs.YtiggkjkjfnlfkaaGreatDoor
