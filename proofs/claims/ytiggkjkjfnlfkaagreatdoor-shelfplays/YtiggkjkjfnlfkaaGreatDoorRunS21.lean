/-
  Several texts as one: RefShA, ShPick, ShNew.
-/
import Derived.Test.YtiggkjkjfnlfkaaGreatDoorRunS19
import Derived.Deep.Cut
import Derived.Deep.CutRange
import Derived.Test.YtiggkjkjfnlfkaaGreatDoorRunS13
import Derived.Test.YtiggkjkjfnlfkaaGreatDoorRunS15
namespace Go.Proofs.YtiggkjkjfnlfkaaGreatDoor
open Go.ChangeShapes Go.WideShapes Go.ChangeAt Go.RowKit Go.Lib
set_option linter.unusedVariables false
/-- cells of elements of one size, one behind the other -/
def flatR (f : Nat → List Value) : Nat → List Value
  | 0 => []
  | n + 1 => flatR f n ++ f n
theorem flatR_len {f : Nat → List Value} {c : Nat} (hf : ∀ k, (f k).length = c) : ∀ n, (flatR f n).length = n * c
  | 0 => by simp [flatR]
  | n + 1 => by rw [flatR, List.length_append, flatR_len hf n, hf n, Nat.succ_mul]
theorem flatR_at {f : Nat → List Value} {c : Nat} (hf : ∀ k, (f k).length = c) : ∀ n i j, i < n → j < c → (flatR f n)[i * c + j]? = (f i)[j]?
  | 0, i, j, h, _ => by omega
  | n + 1, i, j, h, hj => by
    rw [flatR]
    by_cases q : i < n
    · have : i * c + j < n * c := by
        have : (i + 1) * c ≤ n * c := Nat.mul_le_mul_right c (by omega)
        rw [Nat.succ_mul] at this
        omega
      rw [List.getElem?_append_left (by rw [flatR_len hf n]; exact this)]
      exact flatR_at hf n i j q hj
    · have e : i = n := by omega
      subst e
      rw [List.getElem?_append_right (by rw [flatR_len hf i]; omega), flatR_len hf i, Nat.add_sub_cancel_left]
theorem flatR_same {f g : Nat → List Value} : ∀ n, (∀ k, k < n → f k = g k) → flatR f n = flatR g n
  | 0, _ => rfl
  | n + 1, h => by rw [flatR, flatR, flatR_same n (fun k hk => h k (by omega)), h n (by omega)]
theorem flatR_set {f : Nat → List Value} {c : Nat} (hf : ∀ k, (f k).length = c) (v : Value) : ∀ n i j, i < n → j < c → (flatR f n).set (i * c + j) v = flatR (fun k => if k = i then (f i).set j v else f k) n
  | 0, i, j, h, _ => by omega
  | n + 1, i, j, h, hj => by
    rw [flatR, flatR]
    by_cases q : i < n
    · have : i * c + j < n * c := by
        have : (i + 1) * c ≤ n * c := Nat.mul_le_mul_right c (by omega)
        rw [Nat.succ_mul] at this
        omega
      rw [List.set_append_left _ _ (by rw [flatR_len hf n]; exact this), flatR_set hf v n i j q hj, if_neg (show ¬ n = i by omega)]
    · have e : i = n := by omega
      subst e
      rw [List.set_append_right _ _ (by rw [flatR_len hf i]; omega), flatR_len hf i, Nat.add_sub_cancel_left, if_pos rfl]
      congr 1
      exact flatR_same i (fun k hk => by rw [if_neg (show ¬ k = i by omega)])
def dnL (d : M.Dn) : List Value := [.int .i64 d.ses, .int .i64 d.seq, .int .i64 d.ans.num, .int .i64 d.ans.idx, .int .i64 d.bad]
structure RV (W : World) (s : Nat) (T : Nat → Nat) (S : M.Sh) (la : Option Addr) (lc : Nat) (da : Option Addr) (dc : Nat) (G : Nat → Gr) : Prop where
  inv : Inv S
  tlt : ∀ q, T q ≠ 0 → q < W.heap.size
  box : Bx W s [.int .i64 S.idx, .slice la S.l.length lc, .slice da S.done.length dc]
  ts : T s = 1
  lo : W.ownsRow 0 55 8 (.slice la S.l.length lc) S.l.length (flatR (fun k => kpL (vAt S k) (G k)) S.l.length)
  tl : ∀ p, la = some p → T p.block = 2
  dd : W.ownsRow 0 83 5 (.slice da S.done.length dc) S.done.length (flatR (fun k => dnL (S.done.getD k dn0)) S.done.length)
  td : ∀ p, da = some p → T p.block = 3
  kg : ∀ k, k < S.l.length → (G k).m = (S.l.getD k M.vg0).2 ∧ GIn (fun q => T q = 7) W (G k)
def RA (W : World) (s : Nat) (T : Nat → Nat) (S : M.Sh) : Prop := ∃ la lc da dc G, RV W s T S la lc da dc G
theorem own_block {v : Option Addr} {n c q : Nat} (h : (Value.slice v n c).ownBlock = some q) : ∃ p, v = some p ∧ p.block = q := by
  cases v with
  | none => cases h
  | some p => exact ⟨p, rfl, by cases h; rfl⟩
theorem RV.up {W W' : World} {s : Nat} {T : Nat → Nat} {S : M.Sh} {la : Option Addr} {lc : Nat} {da : Option Addr} {dc : Nat} {G : Nat → Gr} (h : RV W s T S la lc da dc G) (hk : ∀ q, T q ≠ 0 → W'.heap[q]? = W.heap[q]?) (hz : W.heap.size ≤ W'.heap.size) : RV W' s T S la lc da dc G where
  inv := h.inv
  tlt := fun q hq => Nat.lt_of_lt_of_le (h.tlt q hq) hz
  box := h.box.keep (hk s (by rw [h.ts]; decide))
  ts := h.ts
  lo := own_keep_at h.lo (fun q hq => by
    obtain ⟨p, hp, e⟩ := own_block hq
    exact hk q (by rw [← e, h.tl p hp]; decide))
  tl := h.tl
  dd := own_keep_at h.dd (fun q hq => by
    obtain ⟨p, hp, e⟩ := own_block hq
    exact hk q (by rw [← e, h.td p hp]; decide))
  td := h.td
  kg := fun k hk' => ⟨(h.kg k hk').1, (h.kg k hk').2.up hz (fun q hq => hk q (by rw [hq]; decide)) (fun q hq => hq)⟩
/-- an item's cells -/
theorem RV.item {W : World} {s : Nat} {T : Nat → Nat} {S : M.Sh} {la : Option Addr} {lc : Nat} {da : Option Addr} {dc : Nat} {G : Nat → Gr} (h : RV W s T S la lc da dc G) {k : Nat} (hk : k < S.l.length) : ∃ b, la = some ⟨b, 0, none⟩ ∧ b < W.heap.size ∧ ∀ j v, j < 8 → (kpL (vAt S k) (G k))[j]? = some v → W.cell? ⟨b, k * 8 + j, none⟩ = some v := by
  rcases h.lo.2 with ⟨_, z⟩ | ⟨g, cap, cur, hv, _, hg, _⟩
  · omega
  · rw [Value.slice.injEq] at hv
    have lo := h.lo
    rw [hv.1] at lo
    refine ⟨g, hv.1, (Array.getElem?_eq_some_iff.1 hg).1, fun j v hj hvj => ?_⟩
    rw [lo.cellAt (k * 8 + j) (by omega)]
    exact (flatR_at (c := 8) (f := fun k => kpL (vAt S k) (G k)) (fun _ => rfl) _ _ _ hk hj).trans hvj
theorem RV.did {W : World} {s : Nat} {T : Nat → Nat} {S : M.Sh} {la : Option Addr} {lc : Nat} {da : Option Addr} {dc : Nat} {G : Nat → Gr} (h : RV W s T S la lc da dc G) {k : Nat} (hk : k < S.done.length) : ∃ b, da = some ⟨b, 0, none⟩ ∧ b < W.heap.size ∧ ∀ j v, j < 5 → (dnL (S.done.getD k dn0))[j]? = some v → W.cell? ⟨b, k * 5 + j, none⟩ = some v := by
  rcases h.dd.2 with ⟨_, z⟩ | ⟨g, cap, cur, hv, _, hg, _⟩
  · omega
  · rw [Value.slice.injEq] at hv
    have dd := h.dd
    rw [hv.1] at dd
    refine ⟨g, hv.1, (Array.getElem?_eq_some_iff.1 hg).1, fun j v hj hvj => ?_⟩
    rw [dd.cellAt (k * 5 + j) (by omega)]
    exact (flatR_at (c := 5) (f := fun k => dnL (S.done.getD k dn0)) (fun _ => rfl) _ _ _ hk hj).trans hvj
theorem rtime_any (x : Int) (W : World) : Calls Tryz.prog 42 #[.int .i64 x] W fun e w' => e = .returned (.bool (M.timeB x)) ∧ w' = W := by
  unfold M.timeB
  by_cases h1 : 0 ≤ x
  · have t1 : decide (0 ≤ x) = true := decide_eq_true h1
    rw [t1, Bool.true_and]
    clear h1
    go_enter Tryz.func42, Tryz.ntmps42
    go_wp2
    go_ret
    exact ⟨rfl, rfl⟩
  · have t1 : decide (0 ≤ x) = false := decide_eq_false h1
    rw [t1, Bool.false_and]
    clear h1
    go_enter Tryz.func42, Tryz.ntmps42
    go_wp2
    go_ret
    exact ⟨rfl, rfl⟩
end Go.Proofs.YtiggkjkjfnlfkaaGreatDoor

namespace Go.Proofs.YtiggkjkjfnlfkaaGreatDoor
open Go.ChangeShapes Go.WideShapes Go.ChangeAt Go.RowKit Go.Lib Go.Maps
set_option linter.unusedVariables false
def vnV (v : M.Vn) : Value := .agg #[.string (byStr v.name), .int .i64 v.num, .int .i64 v.stage, .int .i64 v.share]
/-- what is told of a version, if there is one -/
def M.told (S : M.Sh) (o : Option Nat) : M.Vn := match o with
  | none => M.vn0
  | some k => vAt S k
def M.toldF (o : Option Nat) : Int := match o with
  | none => 5
  | some _ => 0
theorem byNil : byStr [] = ⟨#[]⟩ := rfl
theorem four_box {W w : World} {x0 x1 x2 x3 : Value} {t : TypeId} (hb : Below (W.alloc (.cells #[x0, x1, x2, x3] t)).heap.size (W.alloc (.cells #[x0, x1, x2, x3] t)) w) : Bx w W.heap.size [x0, x1, x2, x3] := (bx_new W [x0, x1, x2, x3] t).keep (hb.block _ (by simp))
theorem four_put {w : World} {p : Nat} {x0 x1 x2 x3 y0 y1 y2 y3 : Value} (h : Bx w p [x0, x1, x2, x3]) : Bx ((((w.setCell ⟨p, 0, none⟩ y0).setCell ⟨p, 1, none⟩ y1).setCell ⟨p, 2, none⟩ y2).setCell ⟨p, 3, none⟩ y3) p [y0, y1, y2, y3] := (((h.put (j := 0)).put (j := 1)).put (j := 2)).put (j := 3)

set_option maxHeartbeats 4000000 in
theorem sh_versionOf0 (W : World) : Calls Tryz.prog 44 #[.pointer none] W fun e w' => e = .returned (.tuple #[vnV M.vn0, errV 5]) ∧ Below W.heap.size W w' := by
  have E5 : Hid (errV 5 = .iface 90 (.int .i64 5)) := err_some (by decide)
  have EV : Hid (vnV M.vn0 = .agg #[.string ⟨#[]⟩, .int .i64 0, .int .i64 0, .int .i64 0]) := rfl
  rw [E5.out, EV.out]
  go_enter Tryz.func44, Tryz.ntmps44
  go_wp2
  refine bodyPost_ret (v := .tuple #[.agg #[.string ⟨#[]⟩, .int .i64 0, .int .i64 0, .int .i64 0], .iface 90 (.int .i64 5)]) (by simp [results, Tryz.results44, go_sem]) rfl ?_
  refine ⟨rfl, ?_⟩
  repeat (first | exact Below.refl _ _ | refine Below.alloc ?_ (by simp) _ | refine Below.setCell ?_ (by simp) _)
set_option maxHeartbeats 4000000 in
theorem sh_versionOf {W : World} {f : Nat} {T : Nat → Nat} {S : M.Sh} {mm ml : Nat} {D E : DataW Value} {kb : Nat → Nat} {mb : List Nat → Nat} {va : List Nat → Option Addr} {vc : List Nat → Nat} {G : Nat → Gr} (h : SV W f T S mm ml D E kb mb va vc G) {k : Nat} (hk : k < S.l.length) : Calls Tryz.prog 44 #[.pointer (some ⟨kb k, 0, none⟩)] W fun e w' => e = .returned (.tuple #[vnV (vAt S k), errV 0]) ∧ Below W.heap.size W w' := by
  have bk := h.kc k hk
  have c0 := bk.cell 0 _ rfl
  have c1 := bk.cell 1 _ rfl
  have c2 := bk.cell 2 _ rfl
  have c3 := bk.cell 3 _ rfl
  have l1 : kb k < W.heap.size := bk.lt
  have l2 : ¬ kb k = W.heap.size := by omega
  have l3 : ¬ W.heap.size = kb k := by omega
  have E0 : Hid (errV 0 = .nilIface) := err_nil rfl
  unfold vnV
  rw [E0.out]
  clear h bk
  generalize byStr (vAt S k).name = x0 at *
  generalize (vAt S k).num = x1 at *
  generalize (vAt S k).stage = x2 at *
  generalize (vAt S k).share = x3 at *
  generalize kb k = q at *
  go_enter Tryz.func44, Tryz.ntmps44
  go_wp2
  refine bodyPost_ret (v := .tuple #[.agg #[.string x0, .int .i64 x1, .int .i64 x2, .int .i64 x3], .nilIface]) (by simp [results, Tryz.results44, go_sem]) rfl ?_
  refine ⟨rfl, ?_⟩
  repeat (first | exact Below.refl _ _ | refine Below.alloc ?_ (by simp) _ | refine Below.setCell ?_ (by simp) _)

/-- what versionOf answers of a version, or of none -/
theorem sh_told {W : World} {f : Nat} {T : Nat → Nat} {S : M.Sh} {mm ml : Nat} {D E : DataW Value} {kb : Nat → Nat} {mb : List Nat → Nat} {va : List Nat → Option Addr} {vc : List Nat → Nat} {G : Nat → Gr} (h : SV W f T S mm ml D E kb mb va vc G) {o : Option Nat} (ho : ∀ k, o = some k → k < S.l.length) : Calls Tryz.prog 44 #[ptB (o.map kb)] W fun e w' => e = .returned (.tuple #[vnV (M.told S o), errV (M.toldF o)]) ∧ Below W.heap.size W w' := by
  cases o with
  | none => exact sh_versionOf0 W
  | some k => exact sh_versionOf h (ho k rfl)
theorem at_no {S : M.Sh} {n : List Nat} (hn : M.posL S.l n = []) (st : Int) : M.atN S n st = none := M.at_none (fun k hk z => by
  have := M.pos_mem.2 ⟨hk, z.1⟩
  rw [hn] at this
  cases this)
/-- the box of an answer stays, and takes what is put there -/
theorem box_out {W w : World} {y0 y1 y2 y3 : Value} (hb : Below (W.alloc (.cells #[.string ⟨#[]⟩, .int .i64 0, .int .i64 0, .int .i64 0] 49)).heap.size (W.alloc (.cells #[.string ⟨#[]⟩, .int .i64 0, .int .i64 0, .int .i64 0] 49)) w) : (Bx w W.heap.size [.string ⟨#[]⟩, .int .i64 0, .int .i64 0, .int .i64 0] ∧ Bx ((((w.setCell ⟨W.heap.size, 0, none⟩ y0).setCell ⟨W.heap.size, 1, none⟩ y1).setCell ⟨W.heap.size, 2, none⟩ y2).setCell ⟨W.heap.size, 3, none⟩ y3) W.heap.size [y0, y1, y2, y3]) ∧ Below W.heap.size W ((((w.setCell ⟨W.heap.size, 0, none⟩ y0).setCell ⟨W.heap.size, 1, none⟩ y1).setCell ⟨W.heap.size, 2, none⟩ y2).setCell ⟨W.heap.size, 3, none⟩ y3) := by
  have b := four_box hb
  exact ⟨⟨b, four_put b⟩, ((((below_on ((Below.refl _ W).alloc (Nat.le_refl _) _) hb).setCell (Nat.le_refl _) _).setCell (Nat.le_refl _) _).setCell (Nat.le_refl _) _).setCell (Nat.le_refl _) _⟩

set_option maxHeartbeats 4000000 in
theorem sh_Live {W : World} {f : Nat} {T : Nat → Nat} {S : M.Sh} {mm ml : Nat} {D E : DataW Value} {kb : Nat → Nat} {mb : List Nat → Nat} {va : List Nat → Option Addr} {vc : List Nat → Nat} {G : Nat → Gr} (h : SV W f T S mm ml D E kb mb va vc G) {n : List Nat} (hb : isB n) (hl : n.length ≤ 140737488351232) :
    Calls Tryz.prog 19 #[.pointer (some ⟨f, 0, none⟩), .string (byStr n)] W fun e w' => e = .returned (.tuple #[vnV (M.told S (M.atN S n 3)), errV (M.toldF (M.atN S n 3))]) ∧ Below W.heap.size W w' := by
  obtain ⟨W1, hW1⟩ : ∃ X, X = W.alloc (.cells #[.string ⟨#[]⟩, .int .i64 0, .int .i64 0, .int .i64 0] 49) := ⟨_, rfl⟩
  have b1 : Below W.heap.size W W1 := by rw [hW1]; exact (Below.refl _ _).alloc (Nat.le_refl _) _
  have h1 := h.below b1
  have TD : Hid (∀ w, Below W.heap.size W w → Calls Tryz.prog 44 #[ptB ((M.atN S n 3).map kb)] w fun e w' => e = .returned (.tuple #[vnV (M.told S (M.atN S n 3)), errV (M.toldF (M.atN S n 3))]) ∧ Below w.heap.size w w') := fun w hw => sh_told (h.below hw) (fun k hk => (M.at_is hk).1)
  have FIN : Hid (∀ w, Below W1.heap.size W1 w → (Bx w W.heap.size [.string ⟨#[]⟩, .int .i64 0, .int .i64 0, .int .i64 0] ∧ Bx ((((w.setCell ⟨W.heap.size, 0, none⟩ (.string (byStr (M.told S (M.atN S n 3)).name))).setCell ⟨W.heap.size, 1, none⟩ (.int .i64 (M.told S (M.atN S n 3)).num)).setCell ⟨W.heap.size, 2, none⟩ (.int .i64 (M.told S (M.atN S n 3)).stage)).setCell ⟨W.heap.size, 3, none⟩ (.int .i64 (M.told S (M.atN S n 3)).share)) W.heap.size [.string (byStr (M.told S (M.atN S n 3)).name), .int .i64 (M.told S (M.atN S n 3)).num, .int .i64 (M.told S (M.atN S n 3)).stage, .int .i64 (M.told S (M.atN S n 3)).share]) ∧ Below W.heap.size W ((((w.setCell ⟨W.heap.size, 0, none⟩ (.string (byStr (M.told S (M.atN S n 3)).name))).setCell ⟨W.heap.size, 1, none⟩ (.int .i64 (M.told S (M.atN S n 3)).num)).setCell ⟨W.heap.size, 2, none⟩ (.int .i64 (M.told S (M.atN S n 3)).stage)).setCell ⟨W.heap.size, 3, none⟩ (.int .i64 (M.told S (M.atN S n 3)).share))) := fun w hw => by
    rw [hW1] at hw
    exact box_out hw
  have B1 := hide b1
  by_cases hn : M.posL S.l n = []
  · have MD := hide (sh_model0 h1 hb hl hn)
    have BM : Hid (Below W1.heap.size W1 (W1.alloc (.cells #[.slice none 0 0, .pointer none, .pointer none] 96))) := (Below.refl _ _).alloc (Nat.le_refl _) _
    have CM : Hid (Bx (W1.alloc (.cells #[.slice none 0 0, .pointer none, .pointer none] 96)) W1.heap.size [.slice none 0 0, .pointer none, .pointer none]) := bx_new W1 _ _
    have PN : Hid (ptB ((M.atN S n 3).map kb) = .pointer none) := by unfold Hid; rw [at_no hn]; rfl
    rw [PN.out] at TD
    unfold vnV at TD ⊢
    clear h h1 hb hl hn b1 PN
    generalize byStr n = s at *
    generalize byStr (M.told S (M.atN S n 3)).name = x0 at *
    generalize (M.told S (M.atN S n 3)).num = x1 at *
    generalize (M.told S (M.atN S n 3)).stage = x2 at *
    generalize (M.told S (M.atN S n 3)).share = x3 at *
    generalize errV (M.toldF (M.atN S n 3)) = ev at *
    go_enter Tryz.func19, Tryz.ntmps19
    go_upto_region 1 with fail
    rw [← hW1]
    clear hW1
    have m2 := CM.out.cell 2 _ rfl
    go_wp2_with (first
      | (go_at_call 43; refine MD.out.mono ?_; rintro e w2 ⟨rfl, e2⟩; have e2' := e2; subst e2')
      | (go_at_call 44; refine (TD.out _ (below_on B1.out BM.out)).mono ?_; rintro e w3 ⟨rfl, b3⟩; obtain ⟨⟨k0, k1⟩, k2⟩ := FIN.out _ (below_on BM.out b3); have r0 := k0.cell 0 _ rfl; have r1 := k0.cell 1 _ rfl; have r2 := k0.cell 2 _ rfl; have r3 := k0.cell 3 _ rfl; have f0 := k0.free 0; have f1 := k0.free 1; have f2 := k0.free 2; have f3 := k0.free 3; have e0 := k1.cell 0 _ rfl; have e1 := k1.cell 1 _ rfl; have e2 := k1.cell 2 _ rfl; have e3 := k1.cell 3 _ rfl; have K2 := hide k2; clear k0 k1 k2 b3))
    refine bodyPost_ret (v := .tuple #[.agg #[.string x0, .int .i64 x1, .int .i64 x2, .int .i64 x3], ev]) (by simp [results, Tryz.results19, go_sem, e0, e1, e2, e3]) rfl ?_
    exact ⟨rfl, K2.out⟩
  · have MD := hide (sh_model h1 hl hn)
    have m2 := (h1.mc n hn).cell 2 _ rfl
    have BM : Hid (Below W1.heap.size W1 W1) := Below.refl _ _
    unfold vnV at TD ⊢
    clear h h1 hb hl hn b1
    generalize ptB ((M.atN S n 3).map kb) = pv at *
    generalize byStr n = s at *
    generalize mb n = mq at *
    generalize byStr (M.told S (M.atN S n 3)).name = x0 at *
    generalize (M.told S (M.atN S n 3)).num = x1 at *
    generalize (M.told S (M.atN S n 3)).stage = x2 at *
    generalize (M.told S (M.atN S n 3)).share = x3 at *
    generalize errV (M.toldF (M.atN S n 3)) = ev at *
    go_enter Tryz.func19, Tryz.ntmps19
    go_upto_region 1 with fail
    rw [← hW1]
    clear hW1
    go_wp2_with (first
      | (go_at_call 43; refine MD.out.mono ?_; rintro e w2 ⟨rfl, e2⟩; have e2' := e2.symm; subst e2')
      | (go_at_call 44; refine (TD.out _ B1.out).mono ?_; rintro e w3 ⟨rfl, b3⟩; obtain ⟨⟨k0, k1⟩, k2⟩ := FIN.out _ b3; have r0 := k0.cell 0 _ rfl; have r1 := k0.cell 1 _ rfl; have r2 := k0.cell 2 _ rfl; have r3 := k0.cell 3 _ rfl; have f0 := k0.free 0; have f1 := k0.free 1; have f2 := k0.free 2; have f3 := k0.free 3; have e0 := k1.cell 0 _ rfl; have e1 := k1.cell 1 _ rfl; have e2 := k1.cell 2 _ rfl; have e3 := k1.cell 3 _ rfl; have K2 := hide k2; clear k0 k1 k2 b3))
    refine bodyPost_ret (v := .tuple #[.agg #[.string x0, .int .i64 x1, .int .i64 x2, .int .i64 x3], ev]) (by simp [results, Tryz.results19, go_sem, e0, e1, e2, e3]) rfl ?_
    exact ⟨rfl, K2.out⟩

def M.pickO (S : M.Sh) (n : List Nat) (key : Int) : Option Nat := match M.atN S n 2 with
  | none => M.atN S n 3
  | some k => if key * 37 % 100 < (vAt S k).share then some k else M.atN S n 3
def M.pickF (S : M.Sh) (n : List Nat) (key : Int) : Int := if M.timeB key = false then 1 else M.toldF (M.pickO S n key)
def M.pickV (S : M.Sh) (n : List Nat) (key : Int) : M.Vn := if M.timeB key = false then M.vn0 else M.told S (M.pickO S n key)
set_option maxHeartbeats 8000000 in
set_option maxRecDepth 10000 in
theorem sh_Pick {W : World} {f : Nat} {T : Nat → Nat} {S : M.Sh} {mm ml : Nat} {D E : DataW Value} {kb : Nat → Nat} {mb : List Nat → Nat} {va : List Nat → Option Addr} {vc : List Nat → Nat} {G : Nat → Gr} (h : SV W f T S mm ml D E kb mb va vc G) {n : List Nat} (hb : isB n) (hl : n.length ≤ 140737488351232) (key : Int) :
    Calls Tryz.prog 17 #[.pointer (some ⟨f, 0, none⟩), .string (byStr n), .int .i64 key] W fun e w' => e = .returned (.tuple #[vnV (M.pickV S n key), errV (M.pickF S n key)]) ∧ Below W.heap.size W w' := by
  obtain ⟨W1, hW1⟩ : ∃ X, X = W.alloc (.cells #[.string ⟨#[]⟩, .int .i64 0, .int .i64 0, .int .i64 0] 49) := ⟨_, rfl⟩
  have b1 : Below W.heap.size W W1 := by rw [hW1]; exact (Below.refl _ _).alloc (Nat.le_refl _) _
  have h1 := h.below b1
  have B1 := hide b1
  by_cases bad : M.timeB key = false
  · have E1 : Hid (M.pickV S n key = M.vn0 ∧ M.pickF S n key = 1) := by unfold Hid M.pickV M.pickF; rw [if_pos bad, if_pos bad]; exact ⟨rfl, rfl⟩
    rw [E1.out.1, E1.out.2, err_some (show (1 : Int) ≠ 0 by decide)]
    have ways : decide (key < 0) = true ∨ (decide (key < 0) = false ∧ decide (1000000 < key) = true) := by
      unfold M.timeB at bad
      simp only [decide_eq_true_iff, decide_eq_false_iff_not, Bool.and_eq_false_iff] at bad ⊢
      omega
    have FIN : Hid ((Bx W1 W.heap.size [.string ⟨#[]⟩, .int .i64 0, .int .i64 0, .int .i64 0] ∧ Bx ((((W1.setCell ⟨W.heap.size, 0, none⟩ (.string ⟨#[]⟩)).setCell ⟨W.heap.size, 1, none⟩ (.int .i64 0)).setCell ⟨W.heap.size, 2, none⟩ (.int .i64 0)).setCell ⟨W.heap.size, 3, none⟩ (.int .i64 0)) W.heap.size [.string ⟨#[]⟩, .int .i64 0, .int .i64 0, .int .i64 0]) ∧ Below W.heap.size W ((((W1.setCell ⟨W.heap.size, 0, none⟩ (.string ⟨#[]⟩)).setCell ⟨W.heap.size, 1, none⟩ (.int .i64 0)).setCell ⟨W.heap.size, 2, none⟩ (.int .i64 0)).setCell ⟨W.heap.size, 3, none⟩ (.int .i64 0))) := by
      rw [hW1]
      exact box_out (Below.refl _ _)
    have EV : Hid (vnV M.vn0 = .agg #[.string ⟨#[]⟩, .int .i64 0, .int .i64 0, .int .i64 0]) := rfl
    rw [EV.out]
    obtain ⟨⟨k0, k1⟩, k2⟩ := FIN.out
    have r0 := k0.cell 0 _ rfl
    have r1 := k0.cell 1 _ rfl
    have r2 := k0.cell 2 _ rfl
    have r3 := k0.cell 3 _ rfl
    have f0 := k0.free 0
    have f1 := k0.free 1
    have f2 := k0.free 2
    have f3 := k0.free 3
    have e0 := k1.cell 0 _ rfl
    have e1 := k1.cell 1 _ rfl
    have e2 := k1.cell 2 _ rfl
    have e3 := k1.cell 3 _ rfl
    have K2 := hide k2
    clear k0 k1 k2 FIN h h1 bad E1 b1 hb hl
    generalize byStr n = s at *
    rcases ways with g1 | ⟨g1, g2⟩
    all_goals (
      go_enter Tryz.func17, Tryz.ntmps17
      go_upto_region 1 with fail
      rw [← hW1]
      clear hW1
      go_wp2
      refine bodyPost_ret (v := .tuple #[.agg #[.string ⟨#[]⟩, .int .i64 0, .int .i64 0, .int .i64 0], .iface 90 (.int .i64 1)]) (by simp [results, Tryz.results17, go_sem, e0, e1, e2, e3]) rfl ?_
      exact ⟨rfl, K2.out⟩)
  have E1 : Hid (M.pickV S n key = M.told S (M.pickO S n key) ∧ M.pickF S n key = M.toldF (M.pickO S n key)) := by unfold Hid M.pickV M.pickF; rw [if_neg bad, if_neg bad]; exact ⟨rfl, rfl⟩
  rw [E1.out.1, E1.out.2]
  have kr : 0 ≤ key ∧ key ≤ 1000000 := by
    unfold M.timeB at bad
    simp only [Bool.and_eq_false_iff, decide_eq_false_iff_not] at bad
    omega
  have g1 : decide (key < 0) = false := decide_eq_false (by omega)
  have g2 : decide (1000000 < key) = false := decide_eq_false (by omega)
  have k37 : IntKind.i64.wrap (key * 37) = key * 37 := wrap_i64n (by omega) (by omega)
  obtain ⟨kr1, kr2⟩ := kr
  have TD : Hid (∀ o, (o = M.pickO S n key) → ∀ w, Below W.heap.size W w → Calls Tryz.prog 44 #[ptB (o.map kb)] w fun e w' => e = .returned (.tuple #[vnV (M.told S o), errV (M.toldF o)]) ∧ Below w.heap.size w w') := fun o ho w hw => sh_told (h.below hw) (fun k hk => by
    rw [ho] at hk
    unfold M.pickO at hk
    cases e : M.atN S n 2 with
    | none => rw [e] at hk; exact (M.at_is hk).1
    | some c =>
      rw [e] at hk
      simp only at hk
      split at hk
      · cases hk; exact (M.at_is e).1
      · exact (M.at_is hk).1)
  have FIN : Hid (∀ o, ∀ w, Below W1.heap.size W1 w → (Bx w W.heap.size [.string ⟨#[]⟩, .int .i64 0, .int .i64 0, .int .i64 0] ∧ Bx ((((w.setCell ⟨W.heap.size, 0, none⟩ (.string (byStr (M.told S o).name))).setCell ⟨W.heap.size, 1, none⟩ (.int .i64 (M.told S o).num)).setCell ⟨W.heap.size, 2, none⟩ (.int .i64 (M.told S o).stage)).setCell ⟨W.heap.size, 3, none⟩ (.int .i64 (M.told S o).share)) W.heap.size [.string (byStr (M.told S o).name), .int .i64 (M.told S o).num, .int .i64 (M.told S o).stage, .int .i64 (M.told S o).share]) ∧ Below W.heap.size W ((((w.setCell ⟨W.heap.size, 0, none⟩ (.string (byStr (M.told S o).name))).setCell ⟨W.heap.size, 1, none⟩ (.int .i64 (M.told S o).num)).setCell ⟨W.heap.size, 2, none⟩ (.int .i64 (M.told S o).stage)).setCell ⟨W.heap.size, 3, none⟩ (.int .i64 (M.told S o).share))) := fun o w hw => by
    rw [hW1] at hw
    exact box_out hw
  obtain ⟨o, ho⟩ : ∃ o, o = M.pickO S n key := ⟨_, rfl⟩
  have TD := hide (TD.out o ho)
  have FIN := hide (FIN.out o)
  rw [← ho]
  by_cases hn : M.posL S.l n = []
  · have EO : Hid (M.pickO S n key = none) := by unfold Hid M.pickO; rw [at_no hn, at_no hn]
    have MD := hide (sh_model0 h1 hb hl hn)
    have BM : Hid (Below W1.heap.size W1 (W1.alloc (.cells #[.slice none 0 0, .pointer none, .pointer none] 96))) := (Below.refl _ _).alloc (Nat.le_refl _) _
    have CM : Hid (Bx (W1.alloc (.cells #[.slice none 0 0, .pointer none, .pointer none] 96)) W1.heap.size [.slice none 0 0, .pointer none, .pointer none]) := bx_new W1 _ _
    have PN : Hid (ptB (o.map kb) = .pointer none) := by unfold Hid; rw [ho, EO.out]; rfl
    rw [PN.out] at TD
    unfold vnV at TD ⊢
    clear h h1 hb hl hn b1 PN EO E1 bad ho
    generalize byStr n = s at *
    generalize byStr (M.told S o).name = x0 at *
    generalize (M.told S o).num = x1 at *
    generalize (M.told S o).stage = x2 at *
    generalize (M.told S o).share = x3 at *
    generalize errV (M.toldF o) = ev at *
    go_enter Tryz.func17, Tryz.ntmps17
    go_upto_region 1 with fail
    rw [← hW1]
    clear hW1
    have m1 := CM.out.cell 1 _ rfl
    have m2 := CM.out.cell 2 _ rfl
    go_wp2_with (first
      | (go_at_call 43; refine MD.out.mono ?_; rintro e w2 ⟨rfl, e2⟩; have e2' := e2; subst e2')
      | (go_at_call 44; refine (TD.out _ (below_on B1.out BM.out)).mono ?_; rintro e w3 ⟨rfl, b3⟩; obtain ⟨⟨k0, k1⟩, k2⟩ := FIN.out _ (below_on BM.out b3); have r0 := k0.cell 0 _ rfl; have r1 := k0.cell 1 _ rfl; have r2 := k0.cell 2 _ rfl; have r3 := k0.cell 3 _ rfl; have f0 := k0.free 0; have f1 := k0.free 1; have f2 := k0.free 2; have f3 := k0.free 3; have e0 := k1.cell 0 _ rfl; have e1 := k1.cell 1 _ rfl; have e2 := k1.cell 2 _ rfl; have e3 := k1.cell 3 _ rfl; have K2 := hide k2; clear k0 k1 k2 b3))
    refine bodyPost_ret (v := .tuple #[.agg #[.string x0, .int .i64 x1, .int .i64 x2, .int .i64 x3], ev]) (by simp [results, Tryz.results17, go_sem, e0, e1, e2, e3]) rfl ?_
    exact ⟨rfl, K2.out⟩
  have MD := hide (sh_model h1 hl hn)
  have m1 := (h1.mc n hn).cell 1 _ rfl
  have m2 := (h1.mc n hn).cell 2 _ rfl
  cases hc : M.atN S n 2 with
  | none =>
    have EO : Hid (o = M.atN S n 3) := by unfold Hid; rw [ho]; unfold M.pickO; rw [hc]
    rw [hc] at m1
    replace m1 : W1.cell? ⟨mb n, 1, none⟩ = some (.pointer none) := m1
    rw [← EO.out] at m2
    unfold vnV at TD ⊢
    clear h h1 hb hl hn b1 EO E1 bad ho hc
    generalize ptB (o.map kb) = pv at *
    generalize byStr n = s at *
    generalize mb n = mq at *
    generalize byStr (M.told S o).name = x0 at *
    generalize (M.told S o).num = x1 at *
    generalize (M.told S o).stage = x2 at *
    generalize (M.told S o).share = x3 at *
    generalize errV (M.toldF o) = ev at *
    go_enter Tryz.func17, Tryz.ntmps17
    go_upto_region 1 with fail
    rw [← hW1]
    clear hW1
    go_wp2_with (first
      | (go_at_call 43; refine MD.out.mono ?_; rintro e w2 ⟨rfl, e2⟩; have e2' := e2.symm; subst e2')
      | (go_at_call 44; refine (TD.out _ B1.out).mono ?_; rintro e w3 ⟨rfl, b3⟩; obtain ⟨⟨k0, k1⟩, k2⟩ := FIN.out _ b3; have r0 := k0.cell 0 _ rfl; have r1 := k0.cell 1 _ rfl; have r2 := k0.cell 2 _ rfl; have r3 := k0.cell 3 _ rfl; have f0 := k0.free 0; have f1 := k0.free 1; have f2 := k0.free 2; have f3 := k0.free 3; have e0 := k1.cell 0 _ rfl; have e1 := k1.cell 1 _ rfl; have e2 := k1.cell 2 _ rfl; have e3 := k1.cell 3 _ rfl; have K2 := hide k2; clear k0 k1 k2 b3))
    refine bodyPost_ret (v := .tuple #[.agg #[.string x0, .int .i64 x1, .int .i64 x2, .int .i64 x3], ev]) (by simp [results, Tryz.results17, go_sem, e0, e1, e2, e3]) rfl ?_
    exact ⟨rfl, K2.out⟩
  | some c =>
    obtain ⟨k1', k2', k3'⟩ := M.at_is hc
    rw [hc] at m1
    replace m1 : W1.cell? ⟨mb n, 1, none⟩ = some (.pointer (some ⟨kb c, 0, none⟩)) := m1
    have s3 := (h1.kc c k1').cell 3 _ rfl
    by_cases lt : key * 37 % 100 < (vAt S c).share
    · have EO : Hid (o = some c) := by unfold Hid; rw [ho]; unfold M.pickO; rw [hc]; exact if_pos lt
      have t1 : decide (key * 37 % 100 < (vAt S c).share) = true := decide_eq_true lt
      have PN : Hid (ptB (o.map kb) = .pointer (some ⟨kb c, 0, none⟩)) := by unfold Hid; rw [EO.out]; rfl
      rw [PN.out] at TD
      unfold vnV at TD ⊢
      clear h h1 hb hl hn b1 EO E1 bad ho hc PN lt k1' k2' k3' m2
      generalize byStr n = s at *
      generalize mb n = mq at *
      generalize kb c = kq at *
      generalize (vAt S c).share = sh at *
      generalize byStr (M.told S o).name = x0 at *
      generalize (M.told S o).num = x1 at *
      generalize (M.told S o).stage = x2 at *
      generalize (M.told S o).share = x3 at *
      generalize errV (M.toldF o) = ev at *
      go_enter Tryz.func17, Tryz.ntmps17
      go_upto_region 1 with fail
      rw [← hW1]
      clear hW1
      go_wp2_with (first
        | (go_at_call 43; refine MD.out.mono ?_; rintro e w2 ⟨rfl, e2⟩; have e2' := e2.symm; subst e2')
        | (go_at_call 44; refine (TD.out _ B1.out).mono ?_; rintro e w3 ⟨rfl, b3⟩; obtain ⟨⟨k0, k1⟩, k2⟩ := FIN.out _ b3; have r0 := k0.cell 0 _ rfl; have r1 := k0.cell 1 _ rfl; have r2 := k0.cell 2 _ rfl; have r3 := k0.cell 3 _ rfl; have f0 := k0.free 0; have f1 := k0.free 1; have f2 := k0.free 2; have f3 := k0.free 3; have e0 := k1.cell 0 _ rfl; have e1 := k1.cell 1 _ rfl; have e2 := k1.cell 2 _ rfl; have e3 := k1.cell 3 _ rfl; have K2 := hide k2; clear k0 k1 k2 b3))
      refine bodyPost_ret (v := .tuple #[.agg #[.string x0, .int .i64 x1, .int .i64 x2, .int .i64 x3], ev]) (by simp [results, Tryz.results17, go_sem, e0, e1, e2, e3]) rfl ?_
      exact ⟨rfl, K2.out⟩
    · have EO : Hid (o = M.atN S n 3) := by unfold Hid; rw [ho]; unfold M.pickO; rw [hc]; exact if_neg lt
      have t1 : decide (key * 37 % 100 < (vAt S c).share) = false := decide_eq_false lt
      rw [← EO.out] at m2
      unfold vnV at TD ⊢
      clear h h1 hb hl hn b1 EO E1 bad ho hc lt k1' k2' k3'
      generalize ptB (o.map kb) = pv at *
      generalize byStr n = s at *
      generalize mb n = mq at *
      generalize kb c = kq at *
      generalize (vAt S c).share = sh at *
      generalize byStr (M.told S o).name = x0 at *
      generalize (M.told S o).num = x1 at *
      generalize (M.told S o).stage = x2 at *
      generalize (M.told S o).share = x3 at *
      generalize errV (M.toldF o) = ev at *
      go_enter Tryz.func17, Tryz.ntmps17
      go_upto_region 1 with fail
      rw [← hW1]
      clear hW1
      go_wp2_with (first
        | (go_at_call 43; refine MD.out.mono ?_; rintro e w2 ⟨rfl, e2⟩; have e2' := e2.symm; subst e2')
        | (go_at_call 44; refine (TD.out _ B1.out).mono ?_; rintro e w3 ⟨rfl, b3⟩; obtain ⟨⟨k0, k1⟩, k2⟩ := FIN.out _ b3; have r0 := k0.cell 0 _ rfl; have r1 := k0.cell 1 _ rfl; have r2 := k0.cell 2 _ rfl; have r3 := k0.cell 3 _ rfl; have f0 := k0.free 0; have f1 := k0.free 1; have f2 := k0.free 2; have f3 := k0.free 3; have e0 := k1.cell 0 _ rfl; have e1 := k1.cell 1 _ rfl; have e2 := k1.cell 2 _ rfl; have e3 := k1.cell 3 _ rfl; have K2 := hide k2; clear k0 k1 k2 b3))
      refine bodyPost_ret (v := .tuple #[.agg #[.string x0, .int .i64 x1, .int .i64 x2, .int .i64 x3], ev]) (by simp [results, Tryz.results17, go_sem, e0, e1, e2, e3]) rfl ?_
      exact ⟨rfl, K2.out⟩
theorem inv_zero : Inv M.sh0 where
  ok := M.ok_zero
  zr := fun k hk => by simp [M.sh0] at hk
  nu := fun k d hk => by simp [M.sh0, M.kyL] at hk
  ll := Int.le_refl _
  dl := Int.le_refl _
  nb := fun k hk => by simp [M.sh0] at hk
def newT (B : Nat) (q : Nat) : Nat := if q = B + 1 + 1 then 1 else if q = B then 2 else if q = B + 1 then 3 else 0
set_option maxHeartbeats 4000000 in
theorem sh_New (W : World) : Calls Tryz.prog 8 #[] W fun e w' => ∃ f T, e = .returned (.pointer (some ⟨f, 0, none⟩)) ∧ SA w' f T M.sh0 ∧ Below W.heap.size W w' ∧ ∀ q, T q ≠ 0 → W.heap.size ≤ q := by
  have hmm := @run_makeMap Tryz.prog
  have FIN : Hid (SA (((W.alloc (.map #[] 0)).alloc (.map #[] 0)).alloc (.cells #[.map (some W.heap.size), .map (some (W.heap.size + 1)), .int .i64 0] 79)) (W.heap.size + 1 + 1) (newT W.heap.size) M.sh0 ∧ Below W.heap.size W (((W.alloc (.map #[] 0)).alloc (.map #[] 0)).alloc (.cells #[.map (some W.heap.size), .map (some (W.heap.size + 1)), .int .i64 0] 79))) := by
    have z2 : ((W.alloc (.map #[] 0)).alloc (.map #[] 0)).heap.size = W.heap.size + 1 + 1 := by simp
    have z1 : (W.alloc (.map #[] 0)).heap.size = W.heap.size + 1 := by simp
    have o1 := World.ownsMap_made W Tryz.prog 9 selfE
    have o2 := World.ownsMap_made (W.alloc (.map #[] 0)) Tryz.prog 3 selfE
    rw [z1] at o2
    have bx := bx_new ((W.alloc (.map #[] 0)).alloc (.map #[] 0)) [.map (some W.heap.size), .map (some (W.heap.size + 1)), .int .i64 0] 79
    rw [z2] at bx
    have pn : ∀ n, M.posL M.sh0.l n = [] := fun n => rfl
    have t1 : newT W.heap.size (W.heap.size + 1 + 1) = 1 := by unfold newT; rw [if_pos rfl]
    have t2 : newT W.heap.size W.heap.size = 2 := by unfold newT; rw [if_neg (by omega), if_pos rfl]
    have t3 : newT W.heap.size (W.heap.size + 1) = 3 := by unfold newT; rw [if_neg (by omega), if_neg (by omega), if_pos rfl]
    refine ⟨⟨W.heap.size, W.heap.size + 1, .map [], .map [], fun _ => 0, fun _ => 0, fun _ => none, fun _ => 0, fun _ => ⟨0, 0, none, [], 0, none, [], 0⟩, ?_⟩, (((Below.refl _ _).alloc (Nat.le_refl _) _).alloc (by simp) _).alloc (by simp; omega) _⟩
    exact {
      inv := inv_zero
      tlt := fun q hq => by
        unfold newT at hq
        simp only [World.alloc]
        by_cases q1 : q = W.heap.size + 1 + 1
        · subst q1; simp
        · rw [if_neg q1] at hq
          by_cases q2 : q = W.heap.size
          · subst q2; simp; omega
          · rw [if_neg q2] at hq
            by_cases q3 : q = W.heap.size + 1
            · subst q3; simp
            · rw [if_neg q3] at hq; exact absurd rfl hq
      box := bx
      tf := t1
      tm := t2
      tl := t3
      lo := ⟨0, o2.alloc _⟩
      lz := rfl
      la := fun ses k hk => by cases hk
      ln := fun ses _ => rfl
      mo := (o1.alloc _).alloc _
      mz := rfl
      mn := fun n _ _ => rfl
      ms := fun n hn => absurd (pn n) hn
      tb := fun n hn => absurd (pn n) hn
      mi := fun n n' hn => absurd (pn n) hn
      mc := fun n hn => absurd (pn n) hn
      ro := fun n hn => absurd (pn n) hn
      rt := fun n p hn => absurd (pn n) hn
      ri := fun n n' p p' hn => absurd (pn n) hn
      tk := fun k hk => by simp [M.sh0] at hk
      ki := fun k j hk => by simp [M.sh0] at hk
      kc := fun k hk => by simp [M.sh0] at hk
      kg := fun k hk => by simp [M.sh0] at hk }
  go_enter Tryz.func8, Tryz.ntmps8
  go_wp2
  go_ret
  refine ⟨_, _, rfl, FIN.out.1, FIN.out.2, fun q hq => ?_⟩
  unfold newT at hq
  by_cases q1 : q = W.heap.size + 1 + 1
  · omega
  · rw [if_neg q1] at hq
    by_cases q2 : q = W.heap.size
    · omega
    · rw [if_neg q2] at hq
      by_cases q3 : q = W.heap.size + 1
      · omega
      · rw [if_neg q3] at hq; exact absurd rfl hq
theorem sh_Index {W : World} {f : Nat} {T : Nat → Nat} {S : M.Sh} (h : SA W f T S) : Calls Tryz.prog 15 #[.pointer (some ⟨f, 0, none⟩)] W fun e w' => e = .returned (.int .i64 S.idx) ∧ w' = W := by
  obtain ⟨mm, ml, D, E, kb, mb, va, vc, G, h⟩ := h
  have c2 := h.box.cell 2 _ rfl
  clear h
  go_enter Tryz.func15, Tryz.ntmps15
  go_wp2
  go_ret
  exact ⟨rfl, rfl⟩
end Go.Proofs.YtiggkjkjfnlfkaaGreatDoor
