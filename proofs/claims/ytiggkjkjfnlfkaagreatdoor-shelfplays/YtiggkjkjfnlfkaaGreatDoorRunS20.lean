/-
  Several texts as one: ShChg, ShAdd, ShSaid, ShUpF, ShUpL.
-/
import Derived.Test.YtiggkjkjfnlfkaaGreatDoorRunS19
namespace Go.Proofs.YtiggkjkjfnlfkaaGreatDoor
open Go.ChangeShapes Go.WideShapes Go.ChangeAt Go.RowKit Go.Lib Go.Maps
set_option linter.unusedVariables false
def M.turn (s : M.Sh) (k : Nat) (c : M.Ca) : Int × List (M.Vn × M.Gv) := if c.what = 2 then M.tryF s k c.share else if c.what = 3 then M.proF s k else M.retF s k
def M.chF (s : M.Sh) (c : M.Ca) : Int × List (M.Vn × M.Gv) := match M.verN s c.name c.num with
  | none => (5, s.l)
  | some k => M.turn s k c
/-- it is what a call does -/
theorem M.act_ch {S : M.Sh} (h : Inv S) {c : M.Ca} (hw : c.what ≠ 1) : M.act S c = (0, M.chF S c) := by
  unfold M.act M.chF
  rw [if_neg hw]
  cases hv : M.verN S c.name c.num with
  | none => rfl
  | some k =>
    obtain ⟨_, hk, hp⟩ := M.find_more _ S.l 0 k hv
    rw [Nat.sub_zero] at hk hp
    have nm : (vAt S k).name = c.name := (of_decide_eq_true (hp M.vg0)).1
    have st : (S.l.map fun v => v.1.stage).getD k 0 = (vAt S k).stage := by show _ = (S.l.getD k M.vg0).1.stage; simp [List.getD, hk]
    simp only
    rw [st]
    unfold M.turn
    by_cases w2 : c.what = 2
    · rw [if_pos w2, if_pos w2]
      unfold M.tryF
      rw [nm]
      by_cases a1 : c.share < 1 ∨ 99 < c.share
      · rw [if_pos a1, if_pos a1]
      · rw [if_neg a1, if_neg a1]
        by_cases a2 : (vAt S k).stage ≠ 1
        · rw [if_pos a2, if_pos a2]
        · rw [if_neg a2, if_neg a2]
          by_cases a3 : (M.atN S c.name 2).isSome = true
          · rw [if_pos a3, if_pos a3]
          · rw [if_neg a3, if_neg a3]
    · rw [if_neg w2, if_neg w2]
      by_cases w3 : c.what = 3
      · rw [if_pos w3, if_pos w3]
        unfold M.proF
        rw [nm]
        by_cases a1 : (vAt S k).stage ≠ 1 ∧ (vAt S k).stage ≠ 2
        · rw [if_pos a1, if_pos a1]
        · rw [if_neg a1, if_neg a1]
          cases ho : M.atN S c.name 3 with
          | none => rfl
          | some o =>
            obtain ⟨o1, o2, o3⟩ := M.at_is ho
            show (0, 0, M.setV (M.setS S.l o 4) k 3 0) = (0, 0, M.setV (M.setV S.l o 4 0) k 3 0)
            rw [M.setS_is (h.zr o o1 (by rw [o3]; decide))]
      · rw [if_neg w3, if_neg w3]
        unfold M.retF
        by_cases a1 : (vAt S k).stage = 4
        · rw [if_pos a1, if_pos a1]
        · rw [if_neg a1, if_neg a1]

theorem caCells (w : World) (c : M.Ca) (a : Option Addr) (cap : Nat) : Bx (w.alloc (.cells #[.int .i64 c.what, .int .i64 c.ses, .int .i64 c.seq, .string (byStr c.name), .int .i64 c.num, .int .i64 c.share, .slice a c.bys.length cap] 36)) w.heap.size [.int .i64 c.what, .int .i64 c.ses, .int .i64 c.seq, .string (byStr c.name), .int .i64 c.num, .int .i64 c.share, .slice a c.bys.length cap] := bx_new w _ _

set_option maxHeartbeats 4000000 in
theorem sh_change0 {W : World} {m : Nat} {pc pl : Value} (hm : Bx W m [.slice none 0 0, pc, pl]) (c : M.Ca) (a : Option Addr) (cap : Nat) :
    Calls Tryz.prog 82 #[.pointer (some ⟨m, 0, none⟩), caV c a cap] W fun e w' => e = .returned (errV 5) ∧ Below W.heap.size W w' := by
  unfold caV
  obtain ⟨W1, hW1⟩ : ∃ X, X = W.alloc (.cells #[.int .i64 c.what, .int .i64 c.ses, .int .i64 c.seq, .string (byStr c.name), .int .i64 c.num, .int .i64 c.share, .slice a c.bys.length cap] 36) := ⟨_, rfl⟩
  have b1 : Hid (Below W.heap.size W W1) := by unfold Hid; rw [hW1]; exact (Below.refl _ _).alloc (Nat.le_refl _) _
  have c4 := (caCells W c a cap).cell 4 _ rfl
  have VE := hide (sh_version0 (hm.keep (b1.out.block m hm.lt)) c.num)
  have E5 : Hid (errV 5 = .iface 90 (.int .i64 5)) := err_some (by decide)
  rw [← hW1] at c4
  clear hm
  go_enter Tryz.func82, Tryz.ntmps82
  go_upto_region 1 with fail
  rw [← hW1]
  clear hW1
  go_wp2_with (go_at_call 45; refine VE.out.mono ?_; rintro e w1 ⟨rfl, ew⟩; have ew2 := ew.symm; subst ew2)
  go_ret
  exact ⟨by rw [E5.out]; rfl, b1.out⟩

set_option maxHeartbeats 8000000 in
theorem sh_change {W : World} {f : Nat} {T : Nat → Nat} {S : M.Sh} {mm ml : Nat} {D E : DataW Value} {kb : Nat → Nat} {mb : List Nat → Nat} {va : List Nat → Option Addr} {vc : List Nat → Nat} {G : Nat → Gr} (h : SV W f T S mm ml D E kb mb va vc G) (c : M.Ca) (a : Option Addr) (cap : Nat) (hn : M.posL S.l c.name ≠ []) (hi : I64 c.num) (hs : I64 c.share) (hw : c.what = 2 ∨ c.what = 3 ∨ c.what = 4) :
    Calls Tryz.prog 82 #[.pointer (some ⟨mb c.name, 0, none⟩), caV c a cap] W (TurnGives W f T S mm ml D E kb mb va vc (M.chF S c)) := by
  unfold caV
  obtain ⟨W1, hW1⟩ : ∃ X, X = W.alloc (.cells #[.int .i64 c.what, .int .i64 c.ses, .int .i64 c.seq, .string (byStr c.name), .int .i64 c.num, .int .i64 c.share, .slice a c.bys.length cap] 36) := ⟨_, rfl⟩
  have b1 : Hid (Below W.heap.size W W1) := by unfold Hid; rw [hW1]; exact (Below.refl _ _).alloc (Nat.le_refl _) _
  have c4 := (caCells W c a cap).cell 4 _ rfl
  have c0 := (caCells W c a cap).cell 0 _ rfl
  have c5 := (caCells W c a cap).cell 5 _ rfl
  rw [← hW1] at c4 c0 c5
  have h1 := h.below b1.out
  have VE := hide (sh_version h1 hn hi)
  have S1 : Hid (StayBut (fun q => T q ≠ 0) W W1) := stay_of b1.out (Nat.le_refl _)
  have UP : Hid (∀ r e w', TurnGives W1 f T S mm ml D E kb mb va vc r e w' → TurnGives W f T S mm ml D E kb mb va vc r e w') := fun r e w' ⟨G', g1, g2, g3⟩ => ⟨G', g1, g2, S1.out.trans g3⟩
  cases hv : M.verN S c.name c.num with
  | none =>
    have ER : Hid (M.chF S c = (5, S.l)) := by unfold Hid M.chF; rw [hv]
    have FIN : Hid (TurnGives W f T S mm ml D E kb mb va vc (M.chF S c) (.returned (.iface 90 (.int .i64 5))) W1) := by
      unfold Hid TurnGives
      rw [ER.out]
      exact ⟨G, by rw [err_some (show (5 : Int) ≠ 0 by decide)], h1, S1.out⟩
    rw [hv] at VE
    have P : Hid (ptB (Option.map kb none) = .pointer none) := rfl
    rw [P.out] at VE
    clear h h1 hn hi hs hv ER P UP
    generalize mb c.name = m at *
    go_enter Tryz.func82, Tryz.ntmps82
    go_upto_region 1 with fail
    rw [← hW1]
    clear hW1
    go_wp2_with (go_at_call 45; refine VE.out.mono ?_; rintro e w1 ⟨rfl, ew⟩; have ew2 := ew.symm; subst ew2)
    go_ret
    exact FIN.out
  | some k =>
    obtain ⟨_, hk, hp⟩ := M.find_more _ S.l 0 k hv
    rw [Nat.sub_zero] at hk hp
    have nm : (vAt S k).name = c.name := (of_decide_eq_true (hp M.vg0)).1
    have ER : Hid (M.chF S c = M.turn S k c) := by unfold Hid M.chF; rw [hv]
    rw [hv] at VE
    have P : Hid (ptB (Option.map kb (some k)) = .pointer (some ⟨kb k, 0, none⟩)) := rfl
    rw [P.out] at VE
    have T2 := hide (sh_try h1 hk c.share hs.1 hs.2)
    have T3 := hide (sh_promote h1 hk)
    have T4 := hide (sh_retire h1 hk)
    rw [nm] at T2 T3 T4
    clear h h1 hn hi hs hv P hp nm
    generalize mb c.name = m at *
    rcases hw with w2 | w2 | w2
    · have ER2 : Hid (M.chF S c = M.tryF S k c.share) := by unfold Hid; rw [ER.out]; unfold M.turn; rw [if_pos w2]
      have g1 : (c.what == 2) = true := by rw [w2]; rfl
      rw [ER2.out]
      clear w2 ER ER2 T3 T4
      go_enter Tryz.func82, Tryz.ntmps82
      go_upto_region 1 with fail
      rw [← hW1]
      clear hW1
      go_wp2_with (first
        | (go_at_call 45; refine VE.out.mono ?_; rintro e w1 ⟨rfl, ew⟩; have ew2 := ew.symm; subst ew2)
        | (go_at_call 114; refine T2.out.mono ?_; rintro e w2 h2; have H2 := hide (UP.out _ _ _ h2); obtain ⟨G2, rfl, h3⟩ := h2; clear h3))
      go_ret
      exact H2.out
    · have ER2 : Hid (M.chF S c = M.proF S k) := by unfold Hid; rw [ER.out]; unfold M.turn; rw [if_neg (by rw [w2]; decide), if_pos w2]
      have g1 : (c.what == 2) = false := by rw [w2]; rfl
      have g2 : (c.what == 3) = true := by rw [w2]; rfl
      rw [ER2.out]
      clear w2 ER ER2 T2 T4
      go_enter Tryz.func82, Tryz.ntmps82
      go_upto_region 1 with fail
      rw [← hW1]
      clear hW1
      go_wp2_with (first
        | (go_at_call 45; refine VE.out.mono ?_; rintro e w1 ⟨rfl, ew⟩; have ew2 := ew.symm; subst ew2)
        | (go_at_call 115; refine T3.out.mono ?_; rintro e w2 h2; have H2 := hide (UP.out _ _ _ h2); obtain ⟨G2, rfl, h3⟩ := h2; clear h3))
      go_ret
      exact H2.out
    · have ER2 : Hid (M.chF S c = M.retF S k) := by unfold Hid; rw [ER.out]; unfold M.turn; rw [if_neg (by rw [w2]; decide), if_neg (by rw [w2]; decide)]
      have g1 : (c.what == 2) = false := by rw [w2]; rfl
      have g2 : (c.what == 3) = false := by rw [w2]; rfl
      rw [ER2.out]
      clear w2 ER ER2 T2 T3
      go_enter Tryz.func82, Tryz.ntmps82
      go_upto_region 1 with fail
      rw [← hW1]
      clear hW1
      go_wp2_with (first
        | (go_at_call 45; refine VE.out.mono ?_; rintro e w1 ⟨rfl, ew⟩; have ew2 := ew.symm; subst ew2)
        | (go_at_call 116; refine T4.out.mono ?_; rintro e w2 h2; have H2 := hide (UP.out _ _ _ h2); obtain ⟨G2, rfl, h3⟩ := h2; clear h3))
      go_ret
      exact H2.out
/-- a version that is new -/
def M.newV (S : M.Sh) (n : List Nat) (g : M.Gv) : M.Vn × M.Gv := (⟨n, (M.many S n : Int) + 1, 1, 0⟩, g)
/-- a version put to it -/
def M.addS (S : M.Sh) (n : List Nat) (g : M.Gv) : M.Sh := ⟨S.idx, S.l ++ [M.newV S n g], S.done⟩
theorem M.names_add (S : M.Sh) (n : List Nat) (g : M.Gv) : M.names (M.addS S n g) = if M.posL S.l n = [] then M.names S + 1 else M.names S := by
  have pl := M.pos_len S n
  show ((S.l ++ [M.newV S n g]).filter fun v => decide (v.1.num = 1)).length = _
  rw [List.filter_append, List.length_append]
  by_cases q : M.posL S.l n = []
  · rw [if_pos q]
    rw [q] at pl
    have m0 : M.many S n = 0 := pl.symm
    have : List.filter (fun v : M.Vn × M.Gv => decide (v.1.num = 1)) [M.newV S n g] = [M.newV S n g] := by
      rw [List.filter_cons_of_pos (by show decide ((M.many S n : Int) + 1 = 1) = true; rw [m0]; rfl)]; rfl
    rw [this]
    rfl
  · rw [if_neg q]
    have : 0 < (M.posL S.l n).length := by
      cases e : M.posL S.l n with
      | nil => exact absurd e q
      | cons _ _ => simp
    have m1 : M.many S n ≠ 0 := by omega
    have : List.filter (fun v : M.Vn × M.Gv => decide (v.1.num = 1)) [M.newV S n g] = [] := by
      rw [List.filter_cons_of_neg (by
        rw [decide_eq_true_iff]
        show ¬ ((M.many S n : Int) + 1 = 1)
        omega)]; rfl
    rw [this]
    rfl
theorem Inv.add {S : M.Sh} (h : Inv S) {n : List Nat} (hb : isB n) (g : M.Gv) (hl : (S.l.length : Int) + 1 ≤ S.idx) : Inv (M.addS S n g) where
  ok := ⟨M.one_app h.ok.one rfl, M.shr_app h.ok.shr (by show (0 : Int) < 0 ↔ (1 : Int) = 2; decide), h.ok.i0, h.ok.ans⟩
  zr := M.zer_app h.zr (fun _ => rfl)
  nu := by
    show M.numY (M.kyL (S.l ++ [M.newV S n g]))
    have e : M.kyL (S.l ++ [M.newV S n g]) = M.kyL S.l ++ [(n, (M.cntY (M.kyL S.l) n : Int) + 1)] := by
      unfold M.kyL
      rw [List.map_append]
      show _ ++ [(n, (M.many S n : Int) + 1)] = _
      rw [M.many_is]
      rfl
    rw [e]
    exact M.num_app h.nu n
  ll := by
    show ((S.l ++ [M.newV S n g]).length : Int) ≤ S.idx
    rw [List.length_append, List.length_singleton]
    omega
  dl := h.dl
  nb := fun j hj => by
    have hj' : j < S.l.length + 1 := by
      have : j < (S.l ++ [M.newV S n g]).length := hj
      simpa using this
    show isB ((S.l ++ [M.newV S n g]).getD j M.vg0).1.name
    by_cases q : j < S.l.length
    · rw [show (S.l ++ [M.newV S n g]).getD j M.vg0 = S.l.getD j M.vg0 by simp [List.getD, List.getElem?_append_left q]]
      exact h.nb j q
    · rw [show j = S.l.length by omega]
      simp [List.getD]
      exact hb

def addT (T : Nat → Nat) (a b kq mq pq : Nat) (q : Nat) : Nat := if q < a then T q else if q = kq then 6 else if q = mq then 4 else if q = pq then 5 else if q < b then 7 else 0

theorem SV.added {W W' : World} {f : Nat} {T : Nat → Nat} {S : M.Sh} {mm ml : Nat} {D E : DataW Value} {kb : Nat → Nat} {mb : List Nat → Nat} {va : List Nat → Option Addr} {vc : List Nat → Nat} {G : Nat → Gr} (h : SV W f T S mm ml D E kb mb va vc G) {n : List Nat} (hb : isB n) {O : Gr} {kq mq pq cq : Nat} {D' : DataW Value} (hl : (S.l.length : Int) + 1 ≤ S.idx)
    (c1 : ∀ q, q < W.heap.size → T q ≠ 0 → q ≠ mm → q ≠ mq → (∀ p, M.posL S.l n ≠ [] → va n = some p → q ≠ p.block) → W'.heap[q]? = W.heap[q]?)
    (c2 : (M.posL S.l n ≠ [] → mq = mb n) ∧ (M.posL S.l n = [] → W.heap.size ≤ mq))
    (c3 : Bx W' mq [.slice (some ⟨pq, 0, none⟩) ((M.posL S.l n).length + 1) cq, ptB ((M.atN S n 2).map kb), ptB ((M.atN S n 3).map kb)])
    (c4 : W'.ownsRow 0 94 1 (.slice (some ⟨pq, 0, none⟩) ((M.posL S.l n).length + 1) cq) ((M.posL S.l n).length + 1) (((M.posL S.l n).map fun k => ptB (some (kb k))) ++ [ptB (some kq)]))
    (c5 : (W.heap.size ≤ pq ∧ pq ≠ kq ∧ pq ≠ mq) ∨ (M.posL S.l n ≠ [] ∧ ∃ p, va n = some p ∧ p.block = pq))
    (c6 : Bx W' kq (kpL ⟨n, (M.many S n : Int) + 1, 1, 0⟩ O)) (c7 : W.heap.size ≤ kq) (c8 : kq ≠ mq)
    (c9 : W'.ownsMap Tryz.prog 9 selfE mm (M.names (M.addS S n O.m)) D') (cm : Maps.size D' = M.names (M.addS S n O.m)) (cd : (M.posL S.l n ≠ [] → D' = D) ∧ (M.posL S.l n = [] → D' = D.put (nmK n) (.held (ptB (some mq)))))
    (cg : GIn (fun q => W.heap.size ≤ q ∧ q < W'.heap.size ∧ q ≠ kq ∧ q ≠ mq ∧ q ≠ pq) W' O) (cz : W.heap.size ≤ W'.heap.size) :
    SV W' f (addT T W.heap.size W'.heap.size kq mq pq) (M.addS S n O.m) mm ml D' E (fun j => if j = S.l.length then kq else kb j) (fun x => if x = n then mq else mb x) (fun x => if x = n then some ⟨pq, 0, none⟩ else va x) (fun x => if x = n then cq else vc x) (fun j => if j = S.l.length then O else G j) := by
  have old : ∀ q, q < W.heap.size → addT T W.heap.size W'.heap.size kq mq pq q = T q := fun q hq => by unfold addT; rw [if_pos hq]
  have kbl : ∀ j, j < S.l.length → kb j < W.heap.size := fun j hj => h.tlt _ (by rw [h.tk j hj]; decide)
  have mbl : ∀ x, M.posL S.l x ≠ [] → mb x < W.heap.size := fun x hx => h.tlt _ (by rw [h.tb x hx]; decide)
  have val : ∀ x p, M.posL S.l x ≠ [] → va x = some p → p.block < W.heap.size := fun x p hx hp => h.tlt _ (by rw [h.rt x p hx hp]; decide)
  have mq4 : M.posL S.l n ≠ [] → T mq = 4 := fun hn => by rw [c2.1 hn]; exact h.tb n hn
  have mql : M.posL S.l n ≠ [] → mq < W.heap.size := fun hn => by rw [c2.1 hn]; exact mbl n hn
  have keep : ∀ q, T q ≠ 0 → T q ≠ 2 → T q ≠ 4 → T q ≠ 5 → W'.heap[q]? = W.heap[q]? := fun q h0 h2 h4 h5 => by
    have ql := h.tlt q h0
    refine c1 q ql h0 (fun e => h2 (by rw [e]; exact h.tm)) (fun e => ?_) (fun p hn hp e => h5 (by rw [e]; exact h.rt n p hn hp))
    by_cases hn : M.posL S.l n = []
    · have := c2.2 hn; omega
    · exact h4 (by rw [e]; exact mq4 hn)
  have pl : ∀ x, M.posL (M.addS S n O.m).l x = M.posL S.l x ++ (if n = x then [S.l.length] else []) := fun x => M.pos_app S.l _ x
  have pne : ∀ x, x ≠ n → M.posL (M.addS S n O.m).l x = M.posL S.l x := fun x hx => by rw [pl x, if_neg (Ne.symm hx), List.append_nil]
  have pn : M.posL (M.addS S n O.m).l n = M.posL S.l n ++ [S.l.length] := by rw [pl n, if_pos rfl]
  have ln : (M.addS S n O.m).l.length = S.l.length + 1 := by show (S.l ++ [_]).length = _; rw [List.length_append]; rfl
  have vo : ∀ j, j < S.l.length → vAt (M.addS S n O.m) j = vAt S j := fun j hj => by
    show ((S.l ++ [_]).getD j M.vg0).1 = (S.l.getD j M.vg0).1
    simp [List.getD, List.getElem?_append_left hj]
  have vn : vAt (M.addS S n O.m) S.l.length = ⟨n, (M.many S n : Int) + 1, 1, 0⟩ := by
    show ((S.l ++ [_]).getD S.l.length M.vg0).1 = _
    simp [List.getD, M.newV]
  have ats : ∀ x st', (st' = 3 ∨ st' = 2) → M.atN (M.addS S n O.m) x st' = M.atN S x st' := fun x st' hs => M.at_app h.inv.ok.one rfl S.idx S.done x hs
  have atk : ∀ x st', (M.atN S x st').map (fun j => if j = S.l.length then kq else kb j) = (M.atN S x st').map kb := fun x st' => by
    cases e : M.atN S x st' with
    | none => rfl
    | some o =>
      have := (M.at_is e).1
      show some (if o = S.l.length then kq else kb o) = some (kb o)
      rw [if_neg (by omega)]
  have rowk : ∀ x, (M.posL S.l x).map (fun k => ptB (some (if k = S.l.length then kq else kb k))) = (M.posL S.l x).map (fun k => ptB (some (kb k))) := fun x => List.map_congr_left (fun k hk => by
    have := (M.pos_mem.1 hk).1
    rw [if_neg (by omega)])
  have ky : ∀ x, isB x → x ≠ n → nmK x ≠ nmK n := fun x hx hne e => hne (nmK_inj hx hb e)
  have isBx : ∀ x, M.posL S.l x ≠ [] → isB x := fun x hx => by
    cases e : M.posL S.l x with
    | nil => exact absurd e hx
    | cons k r =>
      have := M.pos_mem.1 (show k ∈ M.posL S.l x by rw [e]; exact List.mem_cons_self ..)
      rw [← this.2]
      exact h.inv.nb k this.1
  have tkq : addT T W.heap.size W'.heap.size kq mq pq kq = 6 := by unfold addT; rw [if_neg (by omega), if_pos rfl]
  have tmq : addT T W.heap.size W'.heap.size kq mq pq mq = 4 := by
    unfold addT
    by_cases hn : M.posL S.l n = []
    · have := c2.2 hn
      rw [if_neg (by omega), if_neg (Ne.symm c8), if_pos rfl]
    · rw [if_pos (mql hn)]; exact mq4 hn
  have tpq : addT T W.heap.size W'.heap.size kq mq pq pq = 5 := by
    rcases c5 with ⟨z1, z2, z3⟩ | ⟨hn, p, hp, e⟩
    · unfold addT
      rw [if_neg (by omega), if_neg z2, if_neg z3, if_pos rfl]
    · subst e
      rw [old _ (val n p hn hp)]
      exact h.rt n p hn hp
  exact {
    inv := h.inv.add hb O.m hl
    tlt := fun q hq => by
      unfold addT at hq
      by_cases q1 : q < W.heap.size
      · omega
      · rw [if_neg q1] at hq
        by_cases q2 : q = kq
        · rw [q2]; exact c6.lt
        · rw [if_neg q2] at hq
          by_cases q3 : q = mq
          · rw [q3]; exact c3.lt
          · rw [if_neg q3] at hq
            by_cases q4 : q = pq
            · rw [q4]; exact (c4.lt pq rfl).2
            · rw [if_neg q4] at hq
              by_cases q5 : q < W'.heap.size
              · exact q5
              · rw [if_neg q5] at hq; exact absurd rfl hq
    box := h.box.keep (keep f (by rw [h.tf]; decide) (by rw [h.tf]; decide) (by rw [h.tf]; decide) (by rw [h.tf]; decide))
    tf := by rw [old f h.lt]; exact h.tf
    tm := by rw [old mm (h.tlt mm (by rw [h.tm]; decide))]; exact h.tm
    tl := by rw [old ml (h.tlt ml (by rw [h.tl]; decide))]; exact h.tl
    lo := by
      obtain ⟨m, h1⟩ := h.lo
      exact ⟨m, ownsMap_keep h1 (keep ml (by rw [h.tl]; decide) (by rw [h.tl]; decide) (by rw [h.tl]; decide) (by rw [h.tl]; decide))⟩
    lz := h.lz
    la := h.la
    ln := h.ln
    mo := c9
    mz := cm
    mn := fun x hx hpx => by
      have xn : x ≠ n := fun e => by rw [e, pn] at hpx; simp at hpx
      rw [pne x xn] at hpx
      by_cases hn : M.posL S.l n = []
      · rw [cd.2 hn, has_put_other (ky x hx xn)]
        exact h.mn x hx hpx
      · rw [cd.1 hn]
        exact h.mn x hx hpx
    ms := fun x hpx z => by
      by_cases xn : x = n
      · subst xn
        rw [if_pos rfl]
        by_cases hn : M.posL S.l x = []
        · rw [cd.2 hn]
          exact atKey_put_same h.mo.isMap (isKeyS x) _ z
        · rw [cd.1 hn, c2.1 hn]
          exact h.ms x hn z
      · rw [pne x xn] at hpx
        rw [if_neg xn]
        by_cases hn : M.posL S.l n = []
        · rw [cd.2 hn, atKey_put_other (ky x (isBx x hpx) xn)]
          exact h.ms x hpx z
        · rw [cd.1 hn]
          exact h.ms x hpx z
    tb := fun x hpx => by
      by_cases xn : x = n
      · rw [if_pos xn]; exact tmq
      · rw [pne x xn] at hpx
        rw [if_neg xn, old _ (mbl x hpx)]
        exact h.tb x hpx
    mi := fun x y hx hy e => by
      by_cases xn : x = n
      · by_cases yn : y = n
        · rw [xn, yn]
        · rw [pne y yn] at hy
          rw [if_pos xn, if_neg yn] at e
          by_cases hn : M.posL S.l n = []
          · have := c2.2 hn; have := mbl y hy; omega
          · rw [c2.1 hn] at e
            rw [xn]
            exact h.mi n y hn hy e
      · rw [pne x xn] at hx
        by_cases yn : y = n
        · rw [if_neg xn, if_pos yn] at e
          by_cases hn : M.posL S.l n = []
          · have := c2.2 hn; have := mbl x hx; omega
          · rw [c2.1 hn] at e
            rw [yn]
            exact h.mi x n hx hn e
        · rw [pne y yn] at hy
          rw [if_neg xn, if_neg yn] at e
          exact h.mi x y hx hy e
    mc := fun x hpx => by
      rw [ats x 2 (.inr rfl), ats x 3 (.inl rfl), atk x 2, atk x 3]
      by_cases xn : x = n
      · subst xn
        rw [if_pos rfl, if_pos rfl, if_pos rfl, pn, List.length_append]
        exact c3
      · rw [pne x xn] at hpx ⊢
        rw [if_neg xn, if_neg xn, if_neg xn]
        refine (h.mc x hpx).keep (c1 _ (mbl x hpx) (by rw [h.tb x hpx]; decide) (fun e => ?_) (fun e => ?_) (fun p hn hp e => ?_))
        · have a := h.tb x hpx
          rw [e, h.tm] at a
          cases a
        · by_cases hn : M.posL S.l n = []
          · have := c2.2 hn; have := mbl x hpx; omega
          · rw [c2.1 hn] at e
            exact xn (h.mi x n hpx hn e)
        · have a := h.tb x hpx
          rw [e, h.rt n p hn hp] at a
          cases a
    ro := fun x hpx => by
      by_cases xn : x = n
      · subst xn
        rw [if_pos rfl, if_pos rfl, pn, List.length_append, List.map_append, rowk x]
        show W'.ownsRow 0 94 1 (.slice (some ⟨pq, 0, none⟩) ((M.posL S.l x).length + 1) cq) ((M.posL S.l x).length + 1) (((M.posL S.l x).map fun k => ptB (some (kb k))) ++ [ptB (some (if S.l.length = S.l.length then kq else kb S.l.length))])
        rw [if_pos rfl]
        exact c4
      · rw [pne x xn] at hpx ⊢
        rw [if_neg xn, if_neg xn, rowk x]
        exact own_keep_at (h.ro x hpx) (fun q hq => by
          cases e : va x with
          | none => rw [e] at hq; cases hq
          | some p =>
            rw [e] at hq
            have hq' : p.block = q := by cases hq; rfl
            subst hq'
            have t5 := h.rt x p hpx e
            refine c1 _ (val x p hpx e) (by rw [t5]; decide) (fun z => ?_) (fun z => ?_) (fun p' hn hp' z => ?_)
            · rw [z, h.tm] at t5; cases t5
            · by_cases hn : M.posL S.l n = []
              · have := c2.2 hn; have := val x p hpx e; omega
              · rw [z, mq4 hn] at t5; cases t5
            · exact xn (h.ri x n p p' hpx hn e hp' z))
    rt := fun x p hpx hp => by
      by_cases xn : x = n
      · rw [if_pos xn] at hp
        cases hp
        exact tpq
      · rw [pne x xn] at hpx
        rw [if_neg xn] at hp
        rw [old _ (val x p hpx hp)]
        exact h.rt x p hpx hp
    ri := fun x y p p' hx hy hp hp' e => by
      have one : ∀ z pz, z ≠ n → M.posL S.l z ≠ [] → va z = some pz → pz.block = pq → False := fun z pz zn hz hpz ez => by
        rcases c5 with ⟨a, _⟩ | ⟨hn, p0, hp0, e0⟩
        · have := val z pz hz hpz; omega
        · exact zn (h.ri z n pz p0 hz hn hpz hp0 (ez.trans e0.symm))
      by_cases xn : x = n
      · by_cases yn : y = n
        · rw [xn, yn]
        · rw [pne y yn] at hy
          rw [if_pos xn] at hp
          rw [if_neg yn] at hp'
          cases hp
          exact absurd (one y p' yn hy hp' e.symm) id
      · rw [pne x xn] at hx
        rw [if_neg xn] at hp
        by_cases yn : y = n
        · rw [if_pos yn] at hp'
          cases hp'
          exact absurd (one x p xn hx hp e) id
        · rw [pne y yn] at hy
          rw [if_neg yn] at hp'
          exact h.ri x y p p' hx hy hp hp' e
    tk := fun j hj => by
      rw [ln] at hj
      by_cases q : j = S.l.length
      · rw [if_pos q]; exact tkq
      · rw [if_neg q, old _ (kbl j (by omega))]
        exact h.tk j (by omega)
    ki := fun i j hi hj e => by
      rw [ln] at hi hj
      by_cases q1 : i = S.l.length
      · by_cases q2 : j = S.l.length
        · rw [q1, q2]
        · rw [if_pos q1, if_neg q2] at e
          have := kbl j (by omega); omega
      · by_cases q2 : j = S.l.length
        · rw [if_neg q1, if_pos q2] at e
          have := kbl i (by omega); omega
        · rw [if_neg q1, if_neg q2] at e
          exact h.ki i j (by omega) (by omega) e
    kc := fun j hj => by
      rw [ln] at hj
      by_cases q : j = S.l.length
      · subst q
        rw [if_pos rfl, if_pos rfl, vn]
        exact c6
      · have hj' : j < S.l.length := by omega
        rw [if_neg q, if_neg q, vo j hj']
        have t6 := h.tk j hj'
        exact (h.kc j hj').keep (keep _ (by rw [t6]; decide) (by rw [t6]; decide) (by rw [t6]; decide) (by rw [t6]; decide))
    kg := fun j hj hs => by
      rw [ln] at hj
      by_cases q : j = S.l.length
      · subst q
        rw [if_pos rfl]
        refine ⟨?_, cg.up (Nat.le_refl _) (fun _ _ => rfl) (fun q hq => ?_)⟩
        · show O.m = ((S.l ++ [_]).getD S.l.length M.vg0).2
          simp [List.getD, M.newV]
        · obtain ⟨z1, z2, z3, z4, z5⟩ := hq
          unfold addT
          rw [if_neg (by omega), if_neg z3, if_neg z4, if_neg z5, if_pos z2]
      · have hj' : j < S.l.length := by omega
        rw [vo j hj'] at hs
        rw [if_neg q]
        obtain ⟨g1, g2⟩ := h.kg j hj' hs
        refine ⟨?_, g2.up cz (fun q hq => keep q (by rw [hq]; decide) (by rw [hq]; decide) (by rw [hq]; decide) (by rw [hq]; decide)) (fun q hq => ?_)⟩
        · rw [g1]
          show (S.l.getD j M.vg0).2 = ((S.l ++ [_]).getD j M.vg0).2
          simp [List.getD, List.getElem?_append_left hj']
        · rw [old q (h.tlt q (by rw [hq]; decide))]
          exact hq }
theorem SV.count {W : World} {f : Nat} {T : Nat → Nat} {S : M.Sh} {mm ml : Nat} {D E : DataW Value} {kb : Nat → Nat} {mb : List Nat → Nat} {va : List Nat → Option Addr} {vc : List Nat → Nat} {G : Nat → Gr} (h : SV W f T S mm ml D E kb mb va vc G) : SV (W.setCell ⟨f, 2, none⟩ (.int .i64 (S.idx + 1))) f T ⟨S.idx + 1, S.l, S.done⟩ mm ml D E kb mb va vc G := by
  have keep : ∀ q, T q ≠ 1 → (W.setCell ⟨f, 2, none⟩ (.int .i64 (S.idx + 1))).heap[q]? = W.heap[q]? := fun q hq => heap_setCell_other _ _ _ _ (fun e => hq (by rw [e]; exact h.tf))
  have sz : (W.setCell ⟨f, 2, none⟩ (.int .i64 (S.idx + 1))).heap.size = W.heap.size := World.size_setCell ..
  exact {
    inv := ⟨⟨h.inv.ok.one, h.inv.ok.shr, by have := h.inv.ok.i0; show (0 : Int) ≤ S.idx + 1; omega, fun d hd hb => by have := h.inv.ok.ans d hd hb; refine ⟨this.1, ?_⟩; show d.ans.idx ≤ S.idx + 1; omega⟩, h.inv.zr, h.inv.nu, by have := h.inv.ll; show (S.l.length : Int) ≤ S.idx + 1; omega, by have := h.inv.dl; show (S.done.length : Int) ≤ S.idx + 1; omega, h.inv.nb⟩
    tlt := fun q hq => by rw [sz]; exact h.tlt q hq
    box := h.box.put (j := 2)
    tf := h.tf
    tm := h.tm
    tl := h.tl
    lo := by
      obtain ⟨m, h1⟩ := h.lo
      exact ⟨m, ownsMap_keep h1 (keep ml (by rw [h.tl]; decide))⟩
    lz := h.lz
    la := h.la
    ln := h.ln
    mo := ownsMap_keep h.mo (keep mm (by rw [h.tm]; decide))
    mz := h.mz
    mn := h.mn
    ms := h.ms
    tb := h.tb
    mi := h.mi
    mc := fun n hn => (h.mc n hn).keep (keep _ (by rw [h.tb n hn]; decide))
    ro := fun n hn => own_keep_at (h.ro n hn) (fun q hq => keep q (by
      cases e : va n with
      | none => rw [e] at hq; cases hq
      | some p =>
        rw [e] at hq
        have hq' : p.block = q := by cases hq; rfl
        rw [← hq', h.rt n p hn e]
        decide))
    rt := h.rt
    ri := h.ri
    tk := h.tk
    ki := h.ki
    kc := fun k hk' => (h.kc k hk').keep (keep _ (by rw [h.tk k hk']; decide))
    kg := fun k hk' hs => ⟨(h.kg k hk' hs).1, (h.kg k hk' hs).2.up (by rw [sz]; exact Nat.le_refl _) (fun q hq => keep q (by rw [hq]; decide)) (fun q hq => hq)⟩ }

/-- whose call it was -/
theorem last_say {S : M.Sh} {d : M.Dn} (i : Int) (l : List (M.Vn × M.Gv)) (ses : Int) : M.lastN ⟨i, l, M.say S.done (M.lastN S d.ses) d⟩ ses = if d.ses = ses then some ((M.lastN S d.ses).getD S.done.length) else M.lastN S ses := by
  cases hl : M.lastN S d.ses with
  | none =>
    show M.findN (fun x : M.Dn => decide (x.ses = ses)) (S.done ++ [d]) 0 = _
    by_cases q : d.ses = ses
    · rw [if_pos q]
      subst q
      have := M.find_app (fun x : M.Dn => decide (x.ses = d.ses)) d (by simp) S.done 0 hl
      rw [this, Nat.zero_add]
      rfl
    · rw [if_neg q]
      show _ = M.findN (fun x : M.Dn => decide (x.ses = ses)) S.done 0
      have : ∀ (L : List M.Dn) (k : Nat), M.findN (fun x : M.Dn => decide (x.ses = ses)) (L ++ [d]) k = M.findN (fun x : M.Dn => decide (x.ses = ses)) L k := fun L => by
        induction L with
        | nil => intro k; show (if decide (d.ses = ses) = true then some k else none) = none; rw [if_neg (by simpa using q)]
        | cons y L ih => intro k; show (if decide (y.ses = ses) = true then some k else M.findN _ (L ++ [d]) (k + 1)) = (if decide (y.ses = ses) = true then some k else M.findN _ L (k + 1)); rw [ih]
      exact this _ _
  | some k =>
    show M.findN (fun x : M.Dn => decide (x.ses = ses)) (S.done.set k d) 0 = _
    obtain ⟨_, k2, k3⟩ := M.find_more _ S.done 0 k hl
    rw [Nat.sub_zero] at k2 k3
    by_cases q : d.ses = ses
    · rw [if_pos q]
      subst q
      have := M.find_set (fun x : M.Dn => decide (x.ses = d.ses)) d (by simp) S.done 0 k hl
      rw [Nat.sub_zero] at this
      exact this
    · rw [if_neg q]
      show _ = M.findN (fun x : M.Dn => decide (x.ses = ses)) S.done 0
      have : ∀ (L : List M.Dn) (j b : Nat), (∀ h : j < L.length, L[j].ses = d.ses) → M.findN (fun x : M.Dn => decide (x.ses = ses)) (L.set j d) b = M.findN (fun x : M.Dn => decide (x.ses = ses)) L b := fun L => by
        induction L with
        | nil => intro j b _; rfl
        | cons y L ih =>
          intro j b hj
          cases j with
          | zero =>
            have hy : y.ses = d.ses := hj (by simp)
            show (if decide (d.ses = ses) = true then some b else M.findN _ L (b + 1)) = (if decide (y.ses = ses) = true then some b else M.findN _ L (b + 1))
            rw [hy]
          | succ j =>
            show (if decide (y.ses = ses) = true then some b else M.findN _ (L.set j d) (b + 1)) = (if decide (y.ses = ses) = true then some b else M.findN _ L (b + 1))
            rw [ih j (b + 1) (fun h => hj (by simpa using h))]
      refine this _ _ _ (fun h => ?_)
      have := k3 d
      rw [List.getD, List.getElem?_eq_getElem h] at this
      exact of_decide_eq_true this
theorem done_say {S : M.Sh} {d : M.Dn} : (M.say S.done (M.lastN S d.ses) d).getD ((M.lastN S d.ses).getD S.done.length) dn0 = d ∧ ∀ ses k, M.lastN S ses = some k → ses ≠ d.ses → (M.say S.done (M.lastN S d.ses) d).getD k dn0 = S.done.getD k dn0 := by
  cases hl : M.lastN S d.ses with
  | none =>
    refine ⟨by show (S.done ++ [d]).getD S.done.length dn0 = d; simp [List.getD], fun ses k hk hne => ?_⟩
    obtain ⟨_, k2, _⟩ := M.find_more _ S.done 0 k hk
    rw [Nat.sub_zero] at k2
    show (S.done ++ [d]).getD k dn0 = _
    simp [List.getD, List.getElem?_append_left k2]
  | some j =>
    obtain ⟨_, j2, j3⟩ := M.find_more _ S.done 0 j hl
    rw [Nat.sub_zero] at j2 j3
    refine ⟨by show (S.done.set j d).getD j dn0 = d; simp [List.getD, j2], fun ses k hk hne => ?_⟩
    obtain ⟨_, k2, k3⟩ := M.find_more _ S.done 0 k hk
    rw [Nat.sub_zero] at k2 k3
    have jk : j ≠ k := fun e => by
      subst e
      have a := of_decide_eq_true (j3 dn0)
      have b := of_decide_eq_true (k3 dn0)
      exact hne (b.symm.trans a)
    show (S.done.set j d).getD k dn0 = _
    simp [List.getD, List.getElem?_set_ne jk]
theorem say_len {S : M.Sh} {d : M.Dn} : (M.say S.done (M.lastN S d.ses) d).length ≤ S.done.length + 1 := by
  cases M.lastN S d.ses with
  | none => show (S.done ++ [d]).length ≤ _; simp
  | some k => show (S.done.set k d).length ≤ _; simp
theorem say_mem {S : M.Sh} {d x : M.Dn} (h : x ∈ M.say S.done (M.lastN S d.ses) d) : x ∈ S.done ∨ x = d := by
  cases e : M.lastN S d.ses with
  | none =>
    rw [e] at h
    have h' : x ∈ S.done ++ [d] := h
    simpa using h'
  | some k =>
    rw [e] at h
    have h' : x ∈ S.done.set k d := h
    exact List.mem_or_eq_of_mem_set h'
theorem isKeyI (x : Int) (h1 : -9223372036854775808 ≤ x) (h2 : x ≤ 9223372036854775807) : WideAt.IsKeyLit (.int .i64 x) := keyI.key (keyOf_int_mk Tryz.underlying3 (WalkArith.wf_i64 ⟨h1, h2⟩))

theorem SV.said {W W' : World} {f : Nat} {T : Nat → Nat} {S : M.Sh} {mm ml : Nat} {D E : DataW Value} {kb : Nat → Nat} {mb : List Nat → Nat} {va : List Nat → Option Addr} {vc : List Nat → Nat} {G : Nat → Gr} (h : SV W f T S mm ml D E kb mb va vc G) {d : M.Dn} {m : Nat} (hd : (S.done.length : Int) + 1 ≤ S.idx) (hs : 0 ≤ d.ses ∧ d.ses ≤ 1000000) (ha : d.bad = 0 → 1 ≤ d.ans.idx ∧ d.ans.idx ≤ S.idx) (ho : W'.ownsMap Tryz.prog 3 selfE ml m (E.put (.int .i64 d.ses) (.held (lastV d)))) (hg : W.grownBy W' (some ml)) :
    SV W' f T ⟨S.idx, S.l, M.say S.done (M.lastN S d.ses) d⟩ mm ml D (E.put (.int .i64 d.ses) (.held (lastV d))) kb mb va vc G := by
  have keep : ∀ q, T q ≠ 0 → T q ≠ 3 → W'.heap[q]? = W.heap[q]? := fun q h0 hq => hg.block q (h.tlt q h0) (fun e => hq (by cases e; exact h.tl))
  have kd := isKeyI d.ses (by omega) (by omega)
  exact {
    inv := ⟨⟨h.inv.ok.one, h.inv.ok.shr, h.inv.ok.i0, fun x hx hb => by
      rcases say_mem hx with z | z
      · exact h.inv.ok.ans x z hb
      · subst z; exact ha hb⟩, h.inv.zr, h.inv.nu, h.inv.ll, by have := say_len (S := S) (d := d); show ((M.say S.done (M.lastN S d.ses) d).length : Int) ≤ S.idx; omega, h.inv.nb⟩
    tlt := fun q hq => Nat.lt_of_lt_of_le (h.tlt q hq) hg.size
    box := h.box.keep (keep f (by rw [h.tf]; decide) (by rw [h.tf]; decide))
    tf := h.tf
    tm := h.tm
    tl := h.tl
    lo := ⟨m, ho⟩
    lz := by
      obtain ⟨m0, h1⟩ := h.lo
      rw [size_put (h1.tidy keyI), h.lz]
      show _ = (M.say S.done (M.lastN S d.ses) d).length
      cases hl : M.lastN S d.ses with
      | none => rw [h.ln d.ses hl]; show _ = (S.done ++ [d]).length; simp
      | some k => rw [has_true_of_atKey (h.la d.ses k hl)]; show _ = (S.done.set k d).length; simp
    la := fun ses k hk z => by
      rw [last_say] at hk
      show _ = DataW.held (lastV ((M.say S.done (M.lastN S d.ses) d).getD k dn0))
      by_cases q : d.ses = ses
      · rw [if_pos q] at hk
        cases hk
        subst q
        obtain ⟨m0, h1⟩ := h.lo
        rw [atKey_put_same h1.isMap kd, done_say.1]
      · rw [if_neg q] at hk
        rw [atKey_put_other (by intro e; cases e; exact q rfl), done_say.2 ses k hk (Ne.symm q)]
        exact h.la ses k hk z
    ln := fun ses hk => by
      rw [last_say] at hk
      by_cases q : d.ses = ses
      · rw [if_pos q] at hk; cases hk
      · rw [if_neg q] at hk
        rw [has_put_other (by intro e; cases e; exact q rfl)]
        exact h.ln ses hk
    mo := ownsMap_keep h.mo (keep mm (by rw [h.tm]; decide) (by rw [h.tm]; decide))
    mz := h.mz
    mn := h.mn
    ms := h.ms
    tb := h.tb
    mi := h.mi
    mc := fun n hn => (h.mc n hn).keep (keep _ (by rw [h.tb n hn]; decide) (by rw [h.tb n hn]; decide))
    ro := fun n hn => own_keep_at (h.ro n hn) (fun q hq => by
      cases e : va n with
      | none => rw [e] at hq; cases hq
      | some p =>
        rw [e] at hq
        have hq' : p.block = q := by cases hq; rfl
        have t5 := h.rt n p hn e
        rw [hq'] at t5
        exact keep q (by rw [t5]; decide) (by rw [t5]; decide))
    rt := h.rt
    ri := h.ri
    tk := h.tk
    ki := h.ki
    kc := fun k hk' => (h.kc k hk').keep (keep _ (by rw [h.tk k hk']; decide) (by rw [h.tk k hk']; decide))
    kg := fun k hk' hs => ⟨(h.kg k hk' hs).1, (h.kg k hk' hs).2.up hg.size (fun q hq => keep q (by rw [hq]; decide) (by rw [hq]; decide)) (fun q hq => hq)⟩ }
theorem up_fin {W V w7 : World} {f : Nat} {T : Nat → Nat} {S : M.Sh} {mm ml : Nat} {D E : DataW Value} {kb : Nat → Nat} {mb : List Nat → Nat} {va : List Nat → Option Addr} {vc : List Nat → Nat} {G : Nat → Gr} (h : SV W f T S mm ml D E kb mb va vc G) {n : List Nat} (hb : isB n) {O : Gr} {mq pq cq s1 rc : Nat} {ra : Option Addr} {D' : DataW Value} (hl : (S.l.length : Int) + 1 ≤ S.idx)
    (vs : StayBut (fun q => q = mm ∧ M.posL S.l n = []) W V)
    (c2 : (M.posL S.l n ≠ [] → mq = mb n) ∧ (M.posL S.l n = [] → s1 ≤ mq)) (mv : mq < V.heap.size)
    (vm : Bx V mq [.slice ra (M.posL S.l n).length rc, ptB ((M.atN S n 2).map kb), ptB ((M.atN S n 3).map kb)])
    (vra : (M.posL S.l n ≠ [] → ra = va n) ∧ (M.posL S.l n = [] → ra = none))
    (vd : V.ownsMap Tryz.prog 9 selfE mm (M.names (M.addS S n O.m)) D') (cm : Maps.size D' = M.names (M.addS S n O.m)) (cd : (M.posL S.l n ≠ [] → D' = D) ∧ (M.posL S.l n = [] → D' = D.put (nmK n) (.held (ptB (some mq)))))
    (vg : GIn (fun q => W.heap.size ≤ q ∧ q < s1) V O) (z1 : W.heap.size ≤ s1) (z2 : s1 ≤ V.heap.size)
    (hov : w7.ownsRow 0 94 1 (.slice (some ⟨pq, 0, none⟩) ((M.posL S.l n).length + 1) cq) ((M.posL S.l n).length + 1) (((M.posL S.l n).map fun k => ptB (some (kb k))) ++ [ptB (some V.heap.size)]))
    (g1 : ∀ q, q < V.heap.size → (Value.slice ra (M.posL S.l n).length rc).ownBlock ≠ some q → w7.heap[q]? = V.heap[q]?)
    (g2 : Bx w7 V.heap.size (kpL ⟨n, (M.many S n : Int) + 1, 1, 0⟩ O)) (g3 : w7.os = V.os ∧ w7.tape = V.tape ∧ w7.output = V.output)
    (hat : (Value.slice ra (M.posL S.l n).length rc).ownBlock = some pq ∨ pq = V.heap.size + 1 + 1) :
    SV (w7.setCell ⟨mq, 0, none⟩ (.slice (some ⟨pq, 0, none⟩) ((M.posL S.l n).length + 1) cq)) f (addT T W.heap.size (w7.setCell ⟨mq, 0, none⟩ (.slice (some ⟨pq, 0, none⟩) ((M.posL S.l n).length + 1) cq)).heap.size V.heap.size mq pq) (M.addS S n O.m) mm ml D' E (fun j => if j = S.l.length then V.heap.size else kb j) (fun x => if x = n then mq else mb x) (fun x => if x = n then some ⟨pq, 0, none⟩ else va x) (fun x => if x = n then cq else vc x) (fun j => if j = S.l.length then O else G j) ∧ StayBut (fun q => T q ≠ 0) W (w7.setCell ⟨mq, 0, none⟩ (.slice (some ⟨pq, 0, none⟩) ((M.posL S.l n).length + 1) cq)) := by
  have zV := vs.size
  have z7 : V.heap.size < w7.heap.size := g2.lt
  -- where the row lies
  have rp : ∀ q, (Value.slice ra (M.posL S.l n).length rc).ownBlock = some q → M.posL S.l n ≠ [] ∧ ∃ p, va n = some p ∧ p.block = q := fun q hq => by
    by_cases hn : M.posL S.l n = []
    · rw [vra.2 hn] at hq; cases hq
    · refine ⟨hn, ?_⟩
      rw [vra.1 hn] at hq
      cases e : va n with
      | none => rw [e] at hq; cases hq
      | some p => rw [e] at hq; exact ⟨p, rfl, by cases hq; rfl⟩
  have rl : ∀ q, (Value.slice ra (M.posL S.l n).length rc).ownBlock = some q → q < W.heap.size ∧ T q = 5 := fun q hq => by
    obtain ⟨hn, p, hp, e⟩ := rp q hq
    subst e
    have t5 := h.rt n p hn hp
    exact ⟨h.tlt _ (by rw [t5]; decide), t5⟩
  have mqn : (Value.slice ra (M.posL S.l n).length rc).ownBlock ≠ some mq := fun e => by
    obtain ⟨hn, p, hp, e2⟩ := rp mq e
    have t5 := (rl mq e).2
    rw [c2.1 hn, h.tb n hn] at t5
    cases t5
  have mk : mq ≠ V.heap.size := by omega
  have mp : mq ≠ pq := fun e => by
    rcases hat with z | z
    · exact mqn (by rw [z, e])
    · omega
  have mmq : mm ≠ mq := fun e => by
    by_cases hn : M.posL S.l n = []
    · have := c2.2 hn
      have := h.tlt mm (by rw [h.tm]; decide)
      omega
    · have a := h.tb n hn
      rw [← c2.1 hn, ← e, h.tm] at a
      cases a
  have mmr : (Value.slice ra (M.posL S.l n).length rc).ownBlock ≠ some mm := fun e => by
    have t5 := (rl mm e).2
    rw [h.tm] at t5
    cases t5
  have mml : mm < V.heap.size := Nat.lt_of_lt_of_le (h.tlt mm (by rw [h.tm]; decide)) zV
  have oth : ∀ q, q ≠ mq → (w7.setCell ⟨mq, 0, none⟩ (.slice (some ⟨pq, 0, none⟩) ((M.posL S.l n).length + 1) cq)).heap[q]? = w7.heap[q]? := fun q hq => heap_setCell_other _ _ _ _ hq
  have m7 : Bx w7 mq [.slice ra (M.posL S.l n).length rc, ptB ((M.atN S n 2).map kb), ptB ((M.atN S n 3).map kb)] := vm.keep (g1 mq mv mqn)
  have z8 : (w7.setCell ⟨mq, 0, none⟩ (.slice (some ⟨pq, 0, none⟩) ((M.posL S.l n).length + 1) cq)).heap.size = w7.heap.size := World.size_setCell ..
  refine ⟨h.added hb hl (fun q q1 q2 q3 q4 q5 => ?_) ⟨c2.1, fun hn => Nat.le_trans z1 (c2.2 hn)⟩ (m7.put (j := 0)) (own_keep_at hov (fun q hq => oth q (by cases hq; exact Ne.symm mp))) ?_ (g2.else (Ne.symm mk)) zV (Ne.symm mk) (ownsMap_keep vd ((oth mm mmq).trans (g1 mm mml mmr))) cm cd ?_ (by omega), ?_⟩
  · rw [oth q q4, g1 q (by omega) (fun e => by
      obtain ⟨hn, p, hp, e2⟩ := rp q e
      exact q5 p hn hp e2.symm)]
    exact vs.block q q1 (fun z => q3 z.1)
  · rcases hat with z | z
    · exact .inr (rp pq z)
    · exact .inl ⟨by omega, by omega, Ne.symm mp⟩
  · refine vg.up (by omega) (fun q hq => ?_) (fun q hq => ⟨hq.1, by omega, by omega, fun e => ?_, fun e => ?_⟩)
    · rw [oth q (fun e => by
        by_cases hn : M.posL S.l n = []
        · have := c2.2 hn; omega
        · have := h.tlt (mb n) (by rw [h.tb n hn]; decide)
          rw [c2.1 hn] at e
          omega), g1 q (by omega) (fun e => by have := (rl q e).1; omega)]
    · by_cases hn : M.posL S.l n = []
      · have := c2.2 hn; omega
      · have := h.tlt (mb n) (by rw [h.tb n hn]; decide)
        rw [c2.1 hn] at e
        omega
    · rcases hat with z | z
      · have := (rl pq z).1; omega
      · omega
  · refine ⟨(by show w7.os = W.os; rw [g3.1]; exact vs.os), (by show w7.tape = W.tape; rw [g3.2.1]; exact vs.tape), (by show w7.output = W.output; rw [g3.2.2]; exact vs.output), by omega, fun q q1 q2 => ?_⟩
    have q2' : T q = 0 := by
      by_cases z : T q = 0
      · exact z
      · exact absurd z q2
    rw [oth q (fun e => by
      by_cases hn : M.posL S.l n = []
      · have := c2.2 hn; omega
      · rw [e, c2.1 hn, h.tb n hn] at q2'
        cases q2'), g1 q (by omega) (fun e => by
      have := (rl q e).2
      rw [q2'] at this
      cases this)]
    exact vs.block q q1 (fun z => by
      rw [z.1, h.tm] at q2'
      cases q2')
/-- what a call leaves of a shelf, and of the rest -/
def Left (W : World) (f : Nat) (T : Nat → Nat) (S : M.Sh) (w' : World) : Prop := ∃ T', SA w' f T' S ∧ StayBut (fun q => T q ≠ 0) W w' ∧ ∀ q, T' q ≠ 0 → T q ≠ 0 ∨ W.heap.size ≤ q
end Go.Proofs.YtiggkjkjfnlfkaaGreatDoor
