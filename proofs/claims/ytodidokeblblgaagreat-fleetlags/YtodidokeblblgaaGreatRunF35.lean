/-
  Several texts as one: ShUpF, ShUpL, ShChg, ShSaid, ShNew.
-/
import Derived.Test.YtodidokeblblgaaGreatRunF34
import Derived.Test.YtodidokeblblgaaGreatRunF33
namespace Go.Proofs.YtodidokeblblgaaGreat
open Go.ChangeShapes Go.WideShapes Go.ChangeAt Go.RowKit Go.Lib Go.Maps
set_option linter.unusedVariables false
theorem up_fin {W V w7 : World} {f : Nat} {T : Nat → Nat} {S : M.Sh} {mm ml : Nat} {D E : DataW Value} {kb : Nat → Nat} {mb : List Nat → Nat} {va : List Nat → Option Addr} {vc : List Nat → Nat} {G : Nat → Gr} (h : SV W f T S mm ml D E kb mb va vc G) {n : List Nat} (hb : isB n) {O : Gr} {mq pq cq s1 rc : Nat} {ra : Option Addr} {D' : DataW Value} (hl : (S.l.length : Int) + 1 ≤ S.idx)
    (vs : StayBut (fun q => q = mm ∧ M.posL S.l n = []) W V)
    (c2 : (M.posL S.l n ≠ [] → mq = mb n) ∧ (M.posL S.l n = [] → s1 ≤ mq)) (mv : mq < V.heap.size)
    (vm : Bx V mq [.slice ra (M.posL S.l n).length rc, ptB ((M.atN S n 2).map kb), ptB ((M.atN S n 3).map kb)])
    (vra : (M.posL S.l n ≠ [] → ra = va n) ∧ (M.posL S.l n = [] → ra = none))
    (vd : V.ownsMap Tryz.prog 9 selfE mm (M.names (M.addS S n O.m)) D') (cm : Maps.size D' = M.names (M.addS S n O.m)) (cd : (M.posL S.l n ≠ [] → D' = D) ∧ (M.posL S.l n = [] → D' = D.put (nmK n) (.held (ptB (some mq)))))
    (vg : GIn (fun q => W.heap.size ≤ q ∧ q < s1) V O) (z1 : W.heap.size ≤ s1) (z2 : s1 ≤ V.heap.size)
    (hov : w7.ownsRow 0 105 1 (.slice (some ⟨pq, 0, none⟩) ((M.posL S.l n).length + 1) cq) ((M.posL S.l n).length + 1) (((M.posL S.l n).map fun k => ptB (some (kb k))) ++ [ptB (some V.heap.size)]))
    (g1 : ∀ q, q < V.heap.size → (Value.slice ra (M.posL S.l n).length rc).ownBlock ≠ some q → w7.heap[q]? = V.heap[q]?)
    (g2 : Bx w7 V.heap.size (kpL ⟨n, (M.many S n : Int) + 1, 1, 0⟩ O)) (g3 : w7.os = V.os ∧ w7.tape = V.tape ∧ w7.output = V.output)
    (hat : (Value.slice ra (M.posL S.l n).length rc).ownBlock = some pq ∨ pq = V.heap.size + 1 + 1) :
    SV (w7.setCell ⟨mq, 0, none⟩ (.slice (some ⟨pq, 0, none⟩) ((M.posL S.l n).length + 1) cq)) f (addT T W.heap.size (w7.setCell ⟨mq, 0, none⟩ (.slice (some ⟨pq, 0, none⟩) ((M.posL S.l n).length + 1) cq)).heap.size V.heap.size mq pq) (M.addS S n O.m) mm ml D' E (fun j => if j = S.l.length then V.heap.size else kb j) (fun x => if x = n then mq else mb x) (fun x => if x = n then some ⟨pq, 0, none⟩ else va x) (fun x => if x = n then cq else vc x) (fun j => if j = S.l.length then O else G j) ∧ StayBut (fun q => T q ≠ 0) W (w7.setCell ⟨mq, 0, none⟩ (.slice (some ⟨pq, 0, none⟩) ((M.posL S.l n).length + 1) cq)) := by
  have zV := vs.size
  have z7 : V.heap.size < w7.heap.size := g2.lt
  -- where the row lies
  have rp : ∀ q, (Value.slice ra (M.posL S.l n).length rc).ownBlock = some q → M.posL S.l n ≠ [] ∧ ∃ p, va n = some p ∧ p.block = q := fun q hq => by
    by_cases hn : M.posL S.l n = []
    · rw [vra.2 hn] at hq; cases hq
    · refine ⟨hn, ?_⟩
      rw [vra.1 hn] at hq
      cases e : va n with
      | none => rw [e] at hq; cases hq
      | some p => rw [e] at hq; exact ⟨p, rfl, by cases hq; rfl⟩
  have rl : ∀ q, (Value.slice ra (M.posL S.l n).length rc).ownBlock = some q → q < W.heap.size ∧ T q = 5 := fun q hq => by
    obtain ⟨hn, p, hp, e⟩ := rp q hq
    subst e
    have t5 := h.rt n p hn hp
    exact ⟨h.tlt _ (by rw [t5]; decide), t5⟩
  have mqn : (Value.slice ra (M.posL S.l n).length rc).ownBlock ≠ some mq := fun e => by
    obtain ⟨hn, p, hp, e2⟩ := rp mq e
    have t5 := (rl mq e).2
    rw [c2.1 hn, h.tb n hn] at t5
    cases t5
  have mk : mq ≠ V.heap.size := by omega
  have mp : mq ≠ pq := fun e => by
    rcases hat with z | z
    · exact mqn (by rw [z, e])
    · omega
  have mmq : mm ≠ mq := fun e => by
    by_cases hn : M.posL S.l n = []
    · have := c2.2 hn
      have := h.tlt mm (by rw [h.tm]; decide)
      omega
    · have a := h.tb n hn
      rw [← c2.1 hn, ← e, h.tm] at a
      cases a
  have mmr : (Value.slice ra (M.posL S.l n).length rc).ownBlock ≠ some mm := fun e => by
    have t5 := (rl mm e).2
    rw [h.tm] at t5
    cases t5
  have mml : mm < V.heap.size := Nat.lt_of_lt_of_le (h.tlt mm (by rw [h.tm]; decide)) zV
  have oth : ∀ q, q ≠ mq → (w7.setCell ⟨mq, 0, none⟩ (.slice (some ⟨pq, 0, none⟩) ((M.posL S.l n).length + 1) cq)).heap[q]? = w7.heap[q]? := fun q hq => heap_setCell_other _ _ _ _ hq
  have m7 : Bx w7 mq [.slice ra (M.posL S.l n).length rc, ptB ((M.atN S n 2).map kb), ptB ((M.atN S n 3).map kb)] := vm.keep (g1 mq mv mqn)
  have z8 : (w7.setCell ⟨mq, 0, none⟩ (.slice (some ⟨pq, 0, none⟩) ((M.posL S.l n).length + 1) cq)).heap.size = w7.heap.size := World.size_setCell ..
  refine ⟨h.added hb hl (fun q q1 q2 q3 q4 q5 => ?_) ⟨c2.1, fun hn => Nat.le_trans z1 (c2.2 hn)⟩ (m7.put (j := 0)) (own_keep_at hov (fun q hq => oth q (by cases hq; exact Ne.symm mp))) ?_ (g2.else (Ne.symm mk)) zV (Ne.symm mk) (ownsMap_keep vd ((oth mm mmq).trans (g1 mm mml mmr))) cm cd ?_ (by omega), ?_⟩
  · rw [oth q q4, g1 q (by omega) (fun e => by
      obtain ⟨hn, p, hp, e2⟩ := rp q e
      exact q5 p hn hp e2.symm)]
    exact vs.block q q1 (fun z => q3 z.1)
  · rcases hat with z | z
    · exact .inr (rp pq z)
    · exact .inl ⟨by omega, by omega, Ne.symm mp⟩
  · refine vg.up (by omega) (fun q hq => ?_) (fun q hq => ⟨hq.1, by omega, by omega, fun e => ?_, fun e => ?_⟩)
    · rw [oth q (fun e => by
        by_cases hn : M.posL S.l n = []
        · have := c2.2 hn; omega
        · have := h.tlt (mb n) (by rw [h.tb n hn]; decide)
          rw [c2.1 hn] at e
          omega), g1 q (by omega) (fun e => by have := (rl q e).1; omega)]
    · by_cases hn : M.posL S.l n = []
      · have := c2.2 hn; omega
      · have := h.tlt (mb n) (by rw [h.tb n hn]; decide)
        rw [c2.1 hn] at e
        omega
    · rcases hat with z | z
      · have := (rl pq z).1; omega
      · omega
  · refine ⟨(by show w7.os = W.os; rw [g3.1]; exact vs.os), (by show w7.tape = W.tape; rw [g3.2.1]; exact vs.tape), (by show w7.output = W.output; rw [g3.2.2]; exact vs.output), by omega, fun q q1 q2 => ?_⟩
    have q2' : T q = 0 := by
      by_cases z : T q = 0
      · exact z
      · exact absurd z q2
    rw [oth q (fun e => by
      by_cases hn : M.posL S.l n = []
      · have := c2.2 hn; omega
      · rw [e, c2.1 hn, h.tb n hn] at q2'
        cases q2'), g1 q (by omega) (fun e => by
      have := (rl q e).2
      rw [q2'] at this
      cases this)]
    exact vs.block q q1 (fun z => by
      rw [z.1, h.tm] at q2'
      cases q2')
/-- what a call leaves of a shelf, and of the rest -/
def Left (W : World) (f : Nat) (T : Nat → Nat) (S : M.Sh) (w' : World) : Prop := ∃ T', SA w' f T' S ∧ StayBut (fun q => T q ≠ 0) W w' ∧ ∀ q, T' q ≠ 0 → T q ≠ 0 ∨ W.heap.size ≤ q
def M.turn (s : M.Sh) (k : Nat) (c : M.Ca) : Int × List (M.Vn × M.Gv) := if c.what = 2 then M.tryF s k c.share else if c.what = 3 then M.proF s k else M.retF s k
def M.chF (s : M.Sh) (c : M.Ca) : Int × List (M.Vn × M.Gv) := match M.verN s c.name c.num with
  | none => (5, s.l)
  | some k => M.turn s k c
/-- it is what a call does -/
theorem M.act_ch {S : M.Sh} (h : Inv S) {c : M.Ca} (hw : c.what ≠ 1) : M.act S c = (0, M.chF S c) := by
  unfold M.act M.chF
  rw [if_neg hw]
  cases hv : M.verN S c.name c.num with
  | none => rfl
  | some k =>
    obtain ⟨_, hk, hp⟩ := M.find_more _ S.l 0 k hv
    rw [Nat.sub_zero] at hk hp
    have nm : (vAt S k).name = c.name := (of_decide_eq_true (hp M.vg0)).1
    have st : (S.l.map fun v => v.1.stage).getD k 0 = (vAt S k).stage := by show _ = (S.l.getD k M.vg0).1.stage; simp [List.getD, hk]
    simp only
    rw [st]
    unfold M.turn
    by_cases w2 : c.what = 2
    · rw [if_pos w2, if_pos w2]
      unfold M.tryF
      rw [nm]
      by_cases a1 : c.share < 1 ∨ 99 < c.share
      · rw [if_pos a1, if_pos a1]
      · rw [if_neg a1, if_neg a1]
        by_cases a2 : (vAt S k).stage ≠ 1
        · rw [if_pos a2, if_pos a2]
        · rw [if_neg a2, if_neg a2]
          by_cases a3 : (M.atN S c.name 2).isSome = true
          · rw [if_pos a3, if_pos a3]
          · rw [if_neg a3, if_neg a3]
    · rw [if_neg w2, if_neg w2]
      by_cases w3 : c.what = 3
      · rw [if_pos w3, if_pos w3]
        unfold M.proF
        rw [nm]
        by_cases a1 : (vAt S k).stage ≠ 1 ∧ (vAt S k).stage ≠ 2
        · rw [if_pos a1, if_pos a1]
        · rw [if_neg a1, if_neg a1]
          cases ho : M.atN S c.name 3 with
          | none => rfl
          | some o =>
            obtain ⟨o1, o2, o3⟩ := M.at_is ho
            show (0, 0, M.setV (M.setS S.l o 4) k 3 0) = (0, 0, M.setV (M.setV S.l o 4 0) k 3 0)
            rw [M.setS_is (h.zr o o1 (by rw [o3]; decide))]
      · rw [if_neg w3, if_neg w3]
        unfold M.retF
        by_cases a1 : (vAt S k).stage = 4
        · rw [if_pos a1, if_pos a1]
        · rw [if_neg a1, if_neg a1]

theorem caCells (w : World) (c : M.Ca) (a : Option Addr) (cap : Nat) : Bx (w.alloc (.cells #[.int .i64 c.what, .int .i64 c.ses, .int .i64 c.seq, .string (byStr c.name), .int .i64 c.num, .int .i64 c.share, .slice a c.bys.length cap] 35)) w.heap.size [.int .i64 c.what, .int .i64 c.ses, .int .i64 c.seq, .string (byStr c.name), .int .i64 c.num, .int .i64 c.share, .slice a c.bys.length cap] := bx_new w _ _

set_option maxHeartbeats 4000000 in
theorem sh_change0 {W : World} {m : Nat} {pc pl : Value} (hm : Bx W m [.slice none 0 0, pc, pl]) (c : M.Ca) (a : Option Addr) (cap : Nat) :
    Calls Tryz.prog 43 #[.pointer (some ⟨m, 0, none⟩), caV c a cap] W fun e w' => e = .returned (errV 5) ∧ Below W.heap.size W w' := by
  unfold caV
  obtain ⟨W1, hW1⟩ : ∃ X, X = W.alloc (.cells #[.int .i64 c.what, .int .i64 c.ses, .int .i64 c.seq, .string (byStr c.name), .int .i64 c.num, .int .i64 c.share, .slice a c.bys.length cap] 35) := ⟨_, rfl⟩
  have b1 : Hid (Below W.heap.size W W1) := by unfold Hid; rw [hW1]; exact (Below.refl _ _).alloc (Nat.le_refl _) _
  have c4 := (caCells W c a cap).cell 4 _ rfl
  have VE := hide (sh_version0 (hm.keep (b1.out.block m hm.lt)) c.num)
  have E5 : Hid (errV 5 = .iface 44 (.int .i64 5)) := err_some (by decide)
  rw [← hW1] at c4
  clear hm
  go_enter Tryz.func43, Tryz.ntmps43
  go_upto_region 1 with fail
  rw [← hW1]
  clear hW1
  go_wp2_with (go_at_call 60; refine VE.out.mono ?_; rintro e w1 ⟨rfl, ew⟩; have ew2 := ew.symm; subst ew2)
  go_ret
  exact ⟨by rw [E5.out]; rfl, b1.out⟩

set_option maxHeartbeats 8000000 in
theorem sh_change {W : World} {f : Nat} {T : Nat → Nat} {S : M.Sh} {mm ml : Nat} {D E : DataW Value} {kb : Nat → Nat} {mb : List Nat → Nat} {va : List Nat → Option Addr} {vc : List Nat → Nat} {G : Nat → Gr} (h : SV W f T S mm ml D E kb mb va vc G) (c : M.Ca) (a : Option Addr) (cap : Nat) (hn : M.posL S.l c.name ≠ []) (hi : I64 c.num) (hs : I64 c.share) (hw : c.what = 2 ∨ c.what = 3 ∨ c.what = 4) :
    Calls Tryz.prog 43 #[.pointer (some ⟨mb c.name, 0, none⟩), caV c a cap] W (TurnGives W f T S mm ml D E kb mb va vc (M.chF S c)) := by
  unfold caV
  obtain ⟨W1, hW1⟩ : ∃ X, X = W.alloc (.cells #[.int .i64 c.what, .int .i64 c.ses, .int .i64 c.seq, .string (byStr c.name), .int .i64 c.num, .int .i64 c.share, .slice a c.bys.length cap] 35) := ⟨_, rfl⟩
  have b1 : Hid (Below W.heap.size W W1) := by unfold Hid; rw [hW1]; exact (Below.refl _ _).alloc (Nat.le_refl _) _
  have c4 := (caCells W c a cap).cell 4 _ rfl
  have c0 := (caCells W c a cap).cell 0 _ rfl
  have c5 := (caCells W c a cap).cell 5 _ rfl
  rw [← hW1] at c4 c0 c5
  have h1 := h.below b1.out
  have VE := hide (sh_version h1 hn hi)
  have S1 : Hid (StayBut (fun q => T q ≠ 0) W W1) := stay_of b1.out (Nat.le_refl _)
  have UP : Hid (∀ r e w', TurnGives W1 f T S mm ml D E kb mb va vc r e w' → TurnGives W f T S mm ml D E kb mb va vc r e w') := fun r e w' ⟨G', g1, g2, g3⟩ => ⟨G', g1, g2, S1.out.trans g3⟩
  cases hv : M.verN S c.name c.num with
  | none =>
    have ER : Hid (M.chF S c = (5, S.l)) := by unfold Hid M.chF; rw [hv]
    have FIN : Hid (TurnGives W f T S mm ml D E kb mb va vc (M.chF S c) (.returned (.iface 44 (.int .i64 5))) W1) := by
      unfold Hid TurnGives
      rw [ER.out]
      exact ⟨G, by rw [err_some (show (5 : Int) ≠ 0 by decide)], h1, S1.out⟩
    rw [hv] at VE
    have P : Hid (ptB (Option.map kb none) = .pointer none) := rfl
    rw [P.out] at VE
    clear h h1 hn hi hs hv ER P UP
    generalize mb c.name = m at *
    go_enter Tryz.func43, Tryz.ntmps43
    go_upto_region 1 with fail
    rw [← hW1]
    clear hW1
    go_wp2_with (go_at_call 60; refine VE.out.mono ?_; rintro e w1 ⟨rfl, ew⟩; have ew2 := ew.symm; subst ew2)
    go_ret
    exact FIN.out
  | some k =>
    obtain ⟨_, hk, hp⟩ := M.find_more _ S.l 0 k hv
    rw [Nat.sub_zero] at hk hp
    have nm : (vAt S k).name = c.name := (of_decide_eq_true (hp M.vg0)).1
    have ER : Hid (M.chF S c = M.turn S k c) := by unfold Hid M.chF; rw [hv]
    rw [hv] at VE
    have P : Hid (ptB (Option.map kb (some k)) = .pointer (some ⟨kb k, 0, none⟩)) := rfl
    rw [P.out] at VE
    have T2 := hide (sh_try h1 hk c.share hs.1 hs.2)
    have T3 := hide (sh_promote h1 hk)
    have T4 := hide (sh_retire h1 hk)
    rw [nm] at T2 T3 T4
    clear h h1 hn hi hs hv P hp nm
    generalize mb c.name = m at *
    rcases hw with w2 | w2 | w2
    · have ER2 : Hid (M.chF S c = M.tryF S k c.share) := by unfold Hid; rw [ER.out]; unfold M.turn; rw [if_pos w2]
      have g1 : (c.what == 2) = true := by rw [w2]; rfl
      rw [ER2.out]
      clear w2 ER ER2 T3 T4
      go_enter Tryz.func43, Tryz.ntmps43
      go_upto_region 1 with fail
      rw [← hW1]
      clear hW1
      go_wp2_with (first
        | (go_at_call 60; refine VE.out.mono ?_; rintro e w1 ⟨rfl, ew⟩; have ew2 := ew.symm; subst ew2)
        | (go_at_call 61; refine T2.out.mono ?_; rintro e w2 h2; have H2 := hide (UP.out _ _ _ h2); obtain ⟨G2, rfl, h3⟩ := h2; clear h3))
      go_ret
      exact H2.out
    · have ER2 : Hid (M.chF S c = M.proF S k) := by unfold Hid; rw [ER.out]; unfold M.turn; rw [if_neg (by rw [w2]; decide), if_pos w2]
      have g1 : (c.what == 2) = false := by rw [w2]; rfl
      have g2 : (c.what == 3) = true := by rw [w2]; rfl
      rw [ER2.out]
      clear w2 ER ER2 T2 T4
      go_enter Tryz.func43, Tryz.ntmps43
      go_upto_region 1 with fail
      rw [← hW1]
      clear hW1
      go_wp2_with (first
        | (go_at_call 60; refine VE.out.mono ?_; rintro e w1 ⟨rfl, ew⟩; have ew2 := ew.symm; subst ew2)
        | (go_at_call 62; refine T3.out.mono ?_; rintro e w2 h2; have H2 := hide (UP.out _ _ _ h2); obtain ⟨G2, rfl, h3⟩ := h2; clear h3))
      go_ret
      exact H2.out
    · have ER2 : Hid (M.chF S c = M.retF S k) := by unfold Hid; rw [ER.out]; unfold M.turn; rw [if_neg (by rw [w2]; decide), if_neg (by rw [w2]; decide)]
      have g1 : (c.what == 2) = false := by rw [w2]; rfl
      have g2 : (c.what == 3) = false := by rw [w2]; rfl
      rw [ER2.out]
      clear w2 ER ER2 T2 T3
      go_enter Tryz.func43, Tryz.ntmps43
      go_upto_region 1 with fail
      rw [← hW1]
      clear hW1
      go_wp2_with (first
        | (go_at_call 60; refine VE.out.mono ?_; rintro e w1 ⟨rfl, ew⟩; have ew2 := ew.symm; subst ew2)
        | (go_at_call 63; refine T4.out.mono ?_; rintro e w2 h2; have H2 := hide (UP.out _ _ _ h2); obtain ⟨G2, rfl, h3⟩ := h2; clear h3))
      go_ret
      exact H2.out
theorem SV.count {W : World} {f : Nat} {T : Nat → Nat} {S : M.Sh} {mm ml : Nat} {D E : DataW Value} {kb : Nat → Nat} {mb : List Nat → Nat} {va : List Nat → Option Addr} {vc : List Nat → Nat} {G : Nat → Gr} (h : SV W f T S mm ml D E kb mb va vc G) : SV (W.setCell ⟨f, 2, none⟩ (.int .i64 (S.idx + 1))) f T ⟨S.idx + 1, S.l, S.done⟩ mm ml D E kb mb va vc G := by
  have keep : ∀ q, T q ≠ 1 → (W.setCell ⟨f, 2, none⟩ (.int .i64 (S.idx + 1))).heap[q]? = W.heap[q]? := fun q hq => heap_setCell_other _ _ _ _ (fun e => hq (by rw [e]; exact h.tf))
  have sz : (W.setCell ⟨f, 2, none⟩ (.int .i64 (S.idx + 1))).heap.size = W.heap.size := World.size_setCell ..
  exact {
    inv := ⟨⟨h.inv.ok.one, h.inv.ok.shr, by have := h.inv.ok.i0; show (0 : Int) ≤ S.idx + 1; omega, fun d hd hb => by have := h.inv.ok.ans d hd hb; refine ⟨this.1, ?_⟩; show d.ans.idx ≤ S.idx + 1; omega⟩, h.inv.zr, h.inv.nu, by have := h.inv.ll; show (S.l.length : Int) ≤ S.idx + 1; omega, by have := h.inv.dl; show (S.done.length : Int) ≤ S.idx + 1; omega, h.inv.nb⟩
    tlt := fun q hq => by rw [sz]; exact h.tlt q hq
    box := h.box.put (j := 2)
    tf := h.tf
    tm := h.tm
    tl := h.tl
    lo := by
      obtain ⟨m, h1⟩ := h.lo
      exact ⟨m, ownsMap_keep h1 (keep ml (by rw [h.tl]; decide))⟩
    lz := h.lz
    la := h.la
    ln := h.ln
    mo := ownsMap_keep h.mo (keep mm (by rw [h.tm]; decide))
    mz := h.mz
    mn := h.mn
    ms := h.ms
    tb := h.tb
    mi := h.mi
    mc := fun n hn => (h.mc n hn).keep (keep _ (by rw [h.tb n hn]; decide))
    ro := fun n hn => own_keep_at (h.ro n hn) (fun q hq => keep q (by
      cases e : va n with
      | none => rw [e] at hq; cases hq
      | some p =>
        rw [e] at hq
        have hq' : p.block = q := by cases hq; rfl
        rw [← hq', h.rt n p hn e]
        decide))
    rt := h.rt
    ri := h.ri
    tk := h.tk
    ki := h.ki
    kc := fun k hk' => (h.kc k hk').keep (keep _ (by rw [h.tk k hk']; decide))
    kg := fun k hk' hs => ⟨(h.kg k hk' hs).1, (h.kg k hk' hs).2.up (by rw [sz]; exact Nat.le_refl _) (fun q hq => keep q (by rw [hq]; decide)) (fun q hq => hq)⟩ }

/-- whose call it was -/
theorem last_say {S : M.Sh} {d : M.Dn} (i : Int) (l : List (M.Vn × M.Gv)) (ses : Int) : M.lastN ⟨i, l, M.say S.done (M.lastN S d.ses) d⟩ ses = if d.ses = ses then some ((M.lastN S d.ses).getD S.done.length) else M.lastN S ses := by
  cases hl : M.lastN S d.ses with
  | none =>
    show M.findN (fun x : M.Dn => decide (x.ses = ses)) (S.done ++ [d]) 0 = _
    by_cases q : d.ses = ses
    · rw [if_pos q]
      subst q
      have := M.find_app (fun x : M.Dn => decide (x.ses = d.ses)) d (by simp) S.done 0 hl
      rw [this, Nat.zero_add]
      rfl
    · rw [if_neg q]
      show _ = M.findN (fun x : M.Dn => decide (x.ses = ses)) S.done 0
      have : ∀ (L : List M.Dn) (k : Nat), M.findN (fun x : M.Dn => decide (x.ses = ses)) (L ++ [d]) k = M.findN (fun x : M.Dn => decide (x.ses = ses)) L k := fun L => by
        induction L with
        | nil => intro k; show (if decide (d.ses = ses) = true then some k else none) = none; rw [if_neg (by simpa using q)]
        | cons y L ih => intro k; show (if decide (y.ses = ses) = true then some k else M.findN _ (L ++ [d]) (k + 1)) = (if decide (y.ses = ses) = true then some k else M.findN _ L (k + 1)); rw [ih]
      exact this _ _
  | some k =>
    show M.findN (fun x : M.Dn => decide (x.ses = ses)) (S.done.set k d) 0 = _
    obtain ⟨_, k2, k3⟩ := M.find_more _ S.done 0 k hl
    rw [Nat.sub_zero] at k2 k3
    by_cases q : d.ses = ses
    · rw [if_pos q]
      subst q
      have := M.find_set (fun x : M.Dn => decide (x.ses = d.ses)) d (by simp) S.done 0 k hl
      rw [Nat.sub_zero] at this
      exact this
    · rw [if_neg q]
      show _ = M.findN (fun x : M.Dn => decide (x.ses = ses)) S.done 0
      have : ∀ (L : List M.Dn) (j b : Nat), (∀ h : j < L.length, L[j].ses = d.ses) → M.findN (fun x : M.Dn => decide (x.ses = ses)) (L.set j d) b = M.findN (fun x : M.Dn => decide (x.ses = ses)) L b := fun L => by
        induction L with
        | nil => intro j b _; rfl
        | cons y L ih =>
          intro j b hj
          cases j with
          | zero =>
            have hy : y.ses = d.ses := hj (by simp)
            show (if decide (d.ses = ses) = true then some b else M.findN _ L (b + 1)) = (if decide (y.ses = ses) = true then some b else M.findN _ L (b + 1))
            rw [hy]
          | succ j =>
            show (if decide (y.ses = ses) = true then some b else M.findN _ (L.set j d) (b + 1)) = (if decide (y.ses = ses) = true then some b else M.findN _ L (b + 1))
            rw [ih j (b + 1) (fun h => hj (by simpa using h))]
      refine this _ _ _ (fun h => ?_)
      have := k3 d
      rw [List.getD, List.getElem?_eq_getElem h] at this
      exact of_decide_eq_true this
theorem done_say {S : M.Sh} {d : M.Dn} : (M.say S.done (M.lastN S d.ses) d).getD ((M.lastN S d.ses).getD S.done.length) dn0 = d ∧ ∀ ses k, M.lastN S ses = some k → ses ≠ d.ses → (M.say S.done (M.lastN S d.ses) d).getD k dn0 = S.done.getD k dn0 := by
  cases hl : M.lastN S d.ses with
  | none =>
    refine ⟨by show (S.done ++ [d]).getD S.done.length dn0 = d; simp [List.getD], fun ses k hk hne => ?_⟩
    obtain ⟨_, k2, _⟩ := M.find_more _ S.done 0 k hk
    rw [Nat.sub_zero] at k2
    show (S.done ++ [d]).getD k dn0 = _
    simp [List.getD, List.getElem?_append_left k2]
  | some j =>
    obtain ⟨_, j2, j3⟩ := M.find_more _ S.done 0 j hl
    rw [Nat.sub_zero] at j2 j3
    refine ⟨by show (S.done.set j d).getD j dn0 = d; simp [List.getD, j2], fun ses k hk hne => ?_⟩
    obtain ⟨_, k2, k3⟩ := M.find_more _ S.done 0 k hk
    rw [Nat.sub_zero] at k2 k3
    have jk : j ≠ k := fun e => by
      subst e
      have a := of_decide_eq_true (j3 dn0)
      have b := of_decide_eq_true (k3 dn0)
      exact hne (b.symm.trans a)
    show (S.done.set j d).getD k dn0 = _
    simp [List.getD, List.getElem?_set_ne jk]
theorem say_len {S : M.Sh} {d : M.Dn} : (M.say S.done (M.lastN S d.ses) d).length ≤ S.done.length + 1 := by
  cases M.lastN S d.ses with
  | none => show (S.done ++ [d]).length ≤ _; simp
  | some k => show (S.done.set k d).length ≤ _; simp
theorem say_mem {S : M.Sh} {d x : M.Dn} (h : x ∈ M.say S.done (M.lastN S d.ses) d) : x ∈ S.done ∨ x = d := by
  cases e : M.lastN S d.ses with
  | none =>
    rw [e] at h
    have h' : x ∈ S.done ++ [d] := h
    simpa using h'
  | some k =>
    rw [e] at h
    have h' : x ∈ S.done.set k d := h
    exact List.mem_or_eq_of_mem_set h'
theorem isKeyI (x : Int) (h1 : -9223372036854775808 ≤ x) (h2 : x ≤ 9223372036854775807) : WideAt.IsKeyLit (.int .i64 x) := keyI.key (keyOf_int_mk Tryz.underlying3 (WalkArith.wf_i64 ⟨h1, h2⟩))

theorem SV.said {W W' : World} {f : Nat} {T : Nat → Nat} {S : M.Sh} {mm ml : Nat} {D E : DataW Value} {kb : Nat → Nat} {mb : List Nat → Nat} {va : List Nat → Option Addr} {vc : List Nat → Nat} {G : Nat → Gr} (h : SV W f T S mm ml D E kb mb va vc G) {d : M.Dn} {m : Nat} (hd : (S.done.length : Int) + 1 ≤ S.idx) (hs : 0 ≤ d.ses ∧ d.ses ≤ 1000000) (ha : d.bad = 0 → 1 ≤ d.ans.idx ∧ d.ans.idx ≤ S.idx) (ho : W'.ownsMap Tryz.prog 3 selfE ml m (E.put (.int .i64 d.ses) (.held (lastV d)))) (hg : W.grownBy W' (some ml)) :
    SV W' f T ⟨S.idx, S.l, M.say S.done (M.lastN S d.ses) d⟩ mm ml D (E.put (.int .i64 d.ses) (.held (lastV d))) kb mb va vc G := by
  have keep : ∀ q, T q ≠ 0 → T q ≠ 3 → W'.heap[q]? = W.heap[q]? := fun q h0 hq => hg.block q (h.tlt q h0) (fun e => hq (by cases e; exact h.tl))
  have kd := isKeyI d.ses (by omega) (by omega)
  exact {
    inv := ⟨⟨h.inv.ok.one, h.inv.ok.shr, h.inv.ok.i0, fun x hx hb => by
      rcases say_mem hx with z | z
      · exact h.inv.ok.ans x z hb
      · subst z; exact ha hb⟩, h.inv.zr, h.inv.nu, h.inv.ll, by have := say_len (S := S) (d := d); show ((M.say S.done (M.lastN S d.ses) d).length : Int) ≤ S.idx; omega, h.inv.nb⟩
    tlt := fun q hq => Nat.lt_of_lt_of_le (h.tlt q hq) hg.size
    box := h.box.keep (keep f (by rw [h.tf]; decide) (by rw [h.tf]; decide))
    tf := h.tf
    tm := h.tm
    tl := h.tl
    lo := ⟨m, ho⟩
    lz := by
      obtain ⟨m0, h1⟩ := h.lo
      rw [size_put (h1.tidy keyI), h.lz]
      show _ = (M.say S.done (M.lastN S d.ses) d).length
      cases hl : M.lastN S d.ses with
      | none => rw [h.ln d.ses hl]; show _ = (S.done ++ [d]).length; simp
      | some k => rw [has_true_of_atKey (h.la d.ses k hl)]; show _ = (S.done.set k d).length; simp
    la := fun ses k hk z => by
      rw [last_say] at hk
      show _ = DataW.held (lastV ((M.say S.done (M.lastN S d.ses) d).getD k dn0))
      by_cases q : d.ses = ses
      · rw [if_pos q] at hk
        cases hk
        subst q
        obtain ⟨m0, h1⟩ := h.lo
        rw [atKey_put_same h1.isMap kd, done_say.1]
      · rw [if_neg q] at hk
        rw [atKey_put_other (by intro e; cases e; exact q rfl), done_say.2 ses k hk (Ne.symm q)]
        exact h.la ses k hk z
    ln := fun ses hk => by
      rw [last_say] at hk
      by_cases q : d.ses = ses
      · rw [if_pos q] at hk; cases hk
      · rw [if_neg q] at hk
        rw [has_put_other (by intro e; cases e; exact q rfl)]
        exact h.ln ses hk
    mo := ownsMap_keep h.mo (keep mm (by rw [h.tm]; decide) (by rw [h.tm]; decide))
    mz := h.mz
    mn := h.mn
    ms := h.ms
    tb := h.tb
    mi := h.mi
    mc := fun n hn => (h.mc n hn).keep (keep _ (by rw [h.tb n hn]; decide) (by rw [h.tb n hn]; decide))
    ro := fun n hn => own_keep_at (h.ro n hn) (fun q hq => by
      cases e : va n with
      | none => rw [e] at hq; cases hq
      | some p =>
        rw [e] at hq
        have hq' : p.block = q := by cases hq; rfl
        have t5 := h.rt n p hn e
        rw [hq'] at t5
        exact keep q (by rw [t5]; decide) (by rw [t5]; decide))
    rt := h.rt
    ri := h.ri
    tk := h.tk
    ki := h.ki
    kc := fun k hk' => (h.kc k hk').keep (keep _ (by rw [h.tk k hk']; decide) (by rw [h.tk k hk']; decide))
    kg := fun k hk' hs => ⟨(h.kg k hk' hs).1, (h.kg k hk' hs).2.up hg.size (fun q hq => keep q (by rw [hq]; decide) (by rw [hq]; decide)) (fun q hq => hq)⟩ }
theorem inv_zero : Inv M.sh0 where
  ok := M.ok_zero
  zr := fun k hk => by simp [M.sh0] at hk
  nu := fun k d hk => by simp [M.sh0, M.kyL] at hk
  ll := Int.le_refl _
  dl := Int.le_refl _
  nb := fun k hk => by simp [M.sh0] at hk
def newT (B : Nat) (q : Nat) : Nat := if q = B + 1 + 1 then 1 else if q = B then 2 else if q = B + 1 then 3 else 0
set_option maxHeartbeats 4000000 in
theorem sh_New (W : World) : Calls Tryz.prog 11 #[] W fun e w' => ∃ f T, e = .returned (.pointer (some ⟨f, 0, none⟩)) ∧ SA w' f T M.sh0 ∧ Below W.heap.size W w' ∧ ∀ q, T q ≠ 0 → W.heap.size ≤ q := by
  have hmm := @run_makeMap Tryz.prog
  have FIN : Hid (SA (((W.alloc (.map #[] 0)).alloc (.map #[] 0)).alloc (.cells #[.map (some W.heap.size), .map (some (W.heap.size + 1)), .int .i64 0] 68)) (W.heap.size + 1 + 1) (newT W.heap.size) M.sh0 ∧ Below W.heap.size W (((W.alloc (.map #[] 0)).alloc (.map #[] 0)).alloc (.cells #[.map (some W.heap.size), .map (some (W.heap.size + 1)), .int .i64 0] 68))) := by
    have z2 : ((W.alloc (.map #[] 0)).alloc (.map #[] 0)).heap.size = W.heap.size + 1 + 1 := by simp
    have z1 : (W.alloc (.map #[] 0)).heap.size = W.heap.size + 1 := by simp
    have o1 := World.ownsMap_made W Tryz.prog 9 selfE
    have o2 := World.ownsMap_made (W.alloc (.map #[] 0)) Tryz.prog 3 selfE
    rw [z1] at o2
    have bx := bx_new ((W.alloc (.map #[] 0)).alloc (.map #[] 0)) [.map (some W.heap.size), .map (some (W.heap.size + 1)), .int .i64 0] 68
    rw [z2] at bx
    have pn : ∀ n, M.posL M.sh0.l n = [] := fun n => rfl
    have t1 : newT W.heap.size (W.heap.size + 1 + 1) = 1 := by unfold newT; rw [if_pos rfl]
    have t2 : newT W.heap.size W.heap.size = 2 := by unfold newT; rw [if_neg (by omega), if_pos rfl]
    have t3 : newT W.heap.size (W.heap.size + 1) = 3 := by unfold newT; rw [if_neg (by omega), if_neg (by omega), if_pos rfl]
    refine ⟨⟨W.heap.size, W.heap.size + 1, .map [], .map [], fun _ => 0, fun _ => 0, fun _ => none, fun _ => 0, fun _ => ⟨0, 0, none, [], 0, none, [], 0⟩, ?_⟩, (((Below.refl _ _).alloc (Nat.le_refl _) _).alloc (by simp) _).alloc (by simp; omega) _⟩
    exact {
      inv := inv_zero
      tlt := fun q hq => by
        unfold newT at hq
        simp only [World.alloc]
        by_cases q1 : q = W.heap.size + 1 + 1
        · subst q1; simp
        · rw [if_neg q1] at hq
          by_cases q2 : q = W.heap.size
          · subst q2; simp; omega
          · rw [if_neg q2] at hq
            by_cases q3 : q = W.heap.size + 1
            · subst q3; simp
            · rw [if_neg q3] at hq; exact absurd rfl hq
      box := bx
      tf := t1
      tm := t2
      tl := t3
      lo := ⟨0, o2.alloc _⟩
      lz := rfl
      la := fun ses k hk => by cases hk
      ln := fun ses _ => rfl
      mo := (o1.alloc _).alloc _
      mz := rfl
      mn := fun n _ _ => rfl
      ms := fun n hn => absurd (pn n) hn
      tb := fun n hn => absurd (pn n) hn
      mi := fun n n' hn => absurd (pn n) hn
      mc := fun n hn => absurd (pn n) hn
      ro := fun n hn => absurd (pn n) hn
      rt := fun n p hn => absurd (pn n) hn
      ri := fun n n' p p' hn => absurd (pn n) hn
      tk := fun k hk => by simp [M.sh0] at hk
      ki := fun k j hk => by simp [M.sh0] at hk
      kc := fun k hk => by simp [M.sh0] at hk
      kg := fun k hk => by simp [M.sh0] at hk }
  go_enter Tryz.func11, Tryz.ntmps11
  go_wp2
  go_ret
  refine ⟨_, _, rfl, FIN.out.1, FIN.out.2, fun q hq => ?_⟩
  unfold newT at hq
  by_cases q1 : q = W.heap.size + 1 + 1
  · omega
  · rw [if_neg q1] at hq
    by_cases q2 : q = W.heap.size
    · omega
    · rw [if_neg q2] at hq
      by_cases q3 : q = W.heap.size + 1
      · omega
      · rw [if_neg q3] at hq; exact absurd rfl hq
theorem sh_Index {W : World} {f : Nat} {T : Nat → Nat} {S : M.Sh} (h : SA W f T S) : Calls Tryz.prog 17 #[.pointer (some ⟨f, 0, none⟩)] W fun e w' => e = .returned (.int .i64 S.idx) ∧ w' = W := by
  obtain ⟨mm, ml, D, E, kb, mb, va, vc, G, h⟩ := h
  have c2 := h.box.cell 2 _ rfl
  clear h
  go_enter Tryz.func17, Tryz.ntmps17
  go_wp2
  go_ret
  exact ⟨rfl, rfl⟩
end Go.Proofs.YtodidokeblblgaaGreat
