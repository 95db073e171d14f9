/-
  Several texts as one: LgMs, LgMk, FlMa, LagMa, CaRd, InBox.
-/
import Derived.Test.YtodidokeblblgaaGreatRunF8
import Derived.Test.YtodidokeblblgaaGreatRunF1
import Derived.Test.YtodidokeblblgaaGreatRunF6
namespace Go.Proofs.YtodidokeblblgaaGreat.M
set_option linter.unusedVariables false
def JS (after : Int) (L : Lg) (n : Nat) : Prop := L.stop = false → (after < 0 ∧ L.ahead = after) ∨ (0 ≤ after ∧ (n : Int) ≤ after ∧ L.ahead = after - n)
theorem JS.lost {after : Int} {L : Lg} {n : Nat} (h : JS after L n) : stpF L = (L.stop || (decide (0 ≤ after) && decide ((n : Int) = after))) := by
  unfold stpF
  cases hs : L.stop with
  | true => rfl
  | false =>
    rw [Bool.false_or, Bool.false_or]
    rcases h hs with ⟨a, b⟩ | ⟨a, b, c⟩
    · rw [decide_eq_false (by omega : ¬ L.ahead = 0), decide_eq_false (by omega : ¬ 0 ≤ after), Bool.false_and]
    · rw [decide_eq_true a, Bool.true_and]
      exact decide_eq_decide.2 (by omega)
theorem JS.ways {after : Int} {L : Lg} {n : Nat} (h : JS after L n) : (L.stop = true ∧ stpF L = true) ∨ (L.stop = false ∧ decide (0 ≤ after) = false ∧ stpF L = false) ∨ (L.stop = false ∧ decide (0 ≤ after) = true ∧ ((n : Int) == after) = true ∧ stpF L = true) ∨ (L.stop = false ∧ decide (0 ≤ after) = true ∧ ((n : Int) == after) = false ∧ stpF L = false) := by
  have e := h.lost
  cases hs : L.stop with
  | true => exact .inl ⟨rfl, by rw [e, hs]; rfl⟩
  | false =>
    rw [hs, Bool.false_or] at e
    by_cases q : 0 ≤ after
    · rw [decide_eq_true q, Bool.true_and] at e
      by_cases z : (n : Int) = after
      · exact .inr (.inr (.inl ⟨rfl, decide_eq_true q, beq_iff_eq.2 z, by rw [e]; exact decide_eq_true z⟩))
      · exact .inr (.inr (.inr ⟨rfl, decide_eq_true q, beq_eq_false_iff_ne.2 z, by rw [e]; exact decide_eq_false z⟩))
    · exact .inr (.inl ⟨rfl, decide_eq_false q, by rw [e, decide_eq_false q]; rfl⟩)
theorem JS.step {after : Int} {L L' : Lg} {n : Nat} (h : JS after L n) (h1 : L'.stop = stpF L) (h2 : stpF L = false → L'.ahead = (stpL L).ahead) : JS after L' (n + 1) := fun hs => by
  have e : stpF L = false := h1.symm.trans hs
  have e2 := h2 e
  unfold stpL at e2
  simp only [e, Bool.false_eq_true, if_false] at e2
  have st : L.stop = false ∧ ¬ L.ahead = 0 := by
    unfold stpF at e
    rw [Bool.or_eq_false_iff, decide_eq_false_iff_not] at e
    exact e
  rcases h st.1 with ⟨a, b⟩ | ⟨a, b, c⟩
  · left
    rw [if_neg (by omega)] at e2
    exact ⟨a, by omega⟩
  · right
    rw [if_pos (by omega)] at e2
    exact ⟨a, by omega, by omega⟩
theorem ap_step {L : Lg} {c : Ca} (h1 : apF L c ≠ 1) (h4 : apF L c ≠ 4) : (apF L c = if stpF L = true then 9 else 0) ∧ (apL L c).stop = stpF L ∧ (stpF L = false → (apL L c).ahead = (stpL L).ahead) := by
  have e : apF L c = if stpF L = true then 9 else 0 := by
    unfold apF at *
    by_cases q : rngF c = false
    · rw [if_pos q] at h1; exact absurd rfl h1
    · rw [if_neg q] at h4 ⊢
      by_cases z : 100 < c.name.length ∨ 6000 < c.bys.length ∨ 100000 < L.whole + (recL c).length
      · rw [if_pos z] at h4; exact absurd rfl h4
      · rw [if_neg z]
  refine ⟨e, ?_⟩
  unfold apL
  by_cases hs : L.stop = true
  · rw [if_pos (.inr (.inr hs))]
    have : stpF L = true := by unfold stpF; rw [hs]; rfl
    exact ⟨hs.trans this.symm, fun z => by rw [this] at z; cases z⟩
  · have hs' : L.stop = false := by simpa using hs
    rw [if_neg (fun z => z.elim h1 (fun y => y.elim h4 hs))]
    by_cases a0 : L.ahead = 0
    · rw [if_pos a0]
      have : stpF L = true := by unfold stpF; rw [decide_eq_true a0, Bool.or_true]
      exact ⟨this.symm, fun z => by rw [this] at z; cases z⟩
    · rw [if_neg a0]
      have : stpF L = false := by unfold stpF; rw [hs', decide_eq_false a0]; rfl
      refine ⟨hs'.trans this.symm, fun _ => ?_⟩
      unfold stpL
      simp only [this, Bool.false_eq_true, if_false]
theorem sy_step (L : Lg) : (syL L).stop = stpF L ∧ (stpF L = false → (syL L).ahead = (stpL L).ahead) := by
  unfold syL
  by_cases q : stpF L = true
  · rw [if_pos q]
    exact ⟨rfl, fun _ => rfl⟩
  · rw [if_neg q]
    exact ⟨by simpa using q, fun _ => rfl⟩
theorem ap_same {L : Lg} {c : Ca} (h : apF L c = 1 ∨ apF L c = 4) : apL L c = L := by
  unfold apL
  rw [if_pos (h.elim .inl (fun z => .inr (.inl z)))]
/-- which numbers of faults there are -/
theorem ap_faults (L : Lg) (c : Ca) : apF L c = 1 ∨ apF L c = 4 ∨ (apF L c ≠ 1 ∧ apF L c ≠ 4) := by omega
/-- so many calls are safe -/
def KS (L : Lg) (s : Nat) : Prop := s ≤ L.calls.length ∧ (recs (L.calls.take s)).length ≤ L.safe
theorem recs_take_le (l : List Ca) (k : Nat) : (recs (l.take k)).length ≤ (recs l).length := by
  have := congrArg List.length (recs_split l k)
  rw [List.length_append] at this
  omega
theorem ap_calls {L : Lg} {c : Ca} (nz : apF L c ≠ 0) : (apL L c).calls = L.calls := by
  unfold apL
  by_cases q : apF L c = 1 ∨ apF L c = 4 ∨ L.stop = true
  · rw [if_pos q]
  · rw [if_neg q]
    by_cases z : L.ahead = 0
    · rw [if_pos z]
    · exfalso
      refine nz ?_
      have h := (ap_step (L := L) (c := c) (fun e => q (.inl e)) (fun e => q (.inr (.inl e)))).1
      rw [h, if_neg]
      unfold stpF
      rw [decide_eq_false z]
      cases hs : L.stop with
      | true => exact absurd (.inr (.inr hs)) q
      | false => decide
theorem ap_push {L : Lg} {c : Ca} (z : apF L c = 0) : apL L c = ⟨L.calls ++ [c], [], min L.safe L.whole, if 0 < L.ahead then L.ahead - 1 else L.ahead, L.stop⟩ := by
  have h := (ap_step (L := L) (c := c) (by omega) (by omega)).1
  have f : ¬ stpF L = true := fun e => by rw [if_pos e] at h; omega
  unfold stpF at f
  rw [Bool.or_eq_true, decide_eq_true_iff] at f
  unfold apL
  rw [if_neg (by rw [z]; intro y; rcases y with y | y | y; cases y; cases y; exact f (.inl y)), if_neg (fun e => f (.inr e))]
theorem KS.ap {L : Lg} {s : Nat} (h : KS L s) (c : Ca) : KS (apL L c) s := by
  obtain ⟨h1, h2⟩ := h
  have w : (recs (L.calls.take s)).length ≤ L.whole := recs_take_le _ _
  by_cases z : apF L c = 0
  · rw [ap_push z]
    refine ⟨by show s ≤ (L.calls ++ [c]).length; rw [List.length_append]; omega, ?_⟩
    show (recs ((L.calls ++ [c]).take s)).length ≤ min L.safe L.whole
    rw [List.take_append_of_le_length h1]
    omega
  · refine ⟨by rw [ap_calls z]; exact h1, ?_⟩
    rw [ap_calls z]
    unfold apL
    by_cases q : apF L c = 1 ∨ apF L c = 4 ∨ L.stop = true
    · rw [if_pos q]; exact h2
    · rw [if_neg q]
      by_cases a0 : L.ahead = 0
      · rw [if_pos a0]; show _ ≤ min L.safe L.whole; omega
      · rw [if_neg a0]; show _ ≤ min L.safe L.whole; omega
theorem sy_calls (L : Lg) : (syL L).calls = L.calls := by unfold syL; split <;> rfl
theorem KS.sy {L : Lg} {s : Nat} (h : KS L s) (ok : LgOk L) : KS (syL L) s := by
  refine ⟨by rw [sy_calls]; exact h.1, ?_⟩
  rw [sy_calls]
  unfold syL
  split
  · exact h.2
  · show _ ≤ L.bytes.length
    have a := ok.sf
    have b := h.2
    omega
theorem KS.sy0 {L : Lg} (z : syF L = 0) (ok : LgOk L) : KS (syL L) L.calls.length := by
  refine ⟨by rw [sy_calls]; exact Nat.le_refl _, ?_⟩
  rw [sy_calls, List.take_length]
  have f : ¬ stpF L = true := fun e => by unfold syF at z; rw [if_pos e] at z; cases z
  unfold syL
  rw [if_neg f]
  exact ok.len.1
theorem fitN_ge : ∀ (l : List Ca) (s n : Nat), s ≤ l.length → (recs (l.take s)).length ≤ n → s ≤ fitN l n
  | _, 0, _, _, _ => Nat.zero_le _
  | [], s + 1, _, h, _ => by simp at h
  | c :: l, s + 1, n, h, hn => by
    rw [List.take_succ_cons, recs_cons, List.length_append] at hn
    unfold fitN
    rw [if_pos (by omega)]
    have := fitN_ge l s (n - (recL c).length) (by simpa using h) (by omega)
    omega
theorem cr_calls (L : Lg) (keep : Int) : (crL L keep).calls = L.calls.take (fitN L.calls (crN L keep)) := rfl
theorem KS.cr {L : Lg} {s : Nat} (h : KS L s) (ok : LgOk L) (keep : Int) : s ≤ (crL L keep).calls.length ∧ (crL L keep).calls.length ≤ L.calls.length := by
  have a := fitN_ge L.calls s (crN L keep) h.1 (Nat.le_trans h.2 (crN_le ok keep).1)
  rw [cr_calls, List.length_take]
  have := h.1
  omega
/-- Synced and crashed, all calls are there -/
theorem sync_crash {L : Lg} (ok : LgOk L) (f : stpF L = false) : (crL (syL L) 0).calls = L.calls := by
  have es : syL L = ⟨L.calls, L.tail, L.bytes.length, (stpL L).ahead, false⟩ := by unfold syL; rw [if_neg (by rw [f]; decide)]
  rw [cr_calls, sy_calls]
  have e : fitN L.calls (crN (syL L) 0) = L.calls.length := by
    refine fitN_all _ _ ?_
    rw [es]
    unfold crN
    show (recs L.calls).length ≤ L.bytes.length + _
    have := ok.len.1
    unfold Lg.whole at this
    omega
  rw [e, List.take_length]
/-- behind a crash a call is kept, or there is no room -/
theorem again {L : Lg} {c : Ca} (f : stpF L = false) (hc : CaOk c) : apF L c = 4 ∨ apF L c = 0 := by
  unfold apF
  rw [if_neg (by rw [hc.rng]; decide)]
  split
  · exact .inl rfl
  · rw [f]; exact .inr rfl
structure Fl where
  L : Lg
  m : Nat
  lost : Bool
  ks : List Nat
/-- a shelf that did the first calls of a list -/
def shN (l : List Ca) (k : Nat) : Sh := shAll sh0 (l.take k)
def Fl.S (X : Fl) : Sh := shN X.L.calls X.m
theorem shN_succ {l : List Ca} {k : Nat} (h : k < l.length) : shN l (k + 1) = (shDo (shN l k) (l.getD k caR)).2.2 := by
  unfold shN
  rw [List.take_succ_eq_append_getElem h, shAll_app]
  have : l.getD k caR = l[k] := by simp [List.getD, h]
  rw [this]
  rfl
theorem shN_take (l : List Ca) {k n : Nat} (h : k ≤ n) : shN (l.take n) k = shN l k := by
  unfold shN
  rw [List.take_take, Nat.min_eq_left h]
theorem shN_app (l r : List Ca) {k : Nat} (h : k ≤ l.length) : shN (l ++ r) k = shN l k := by
  unfold shN
  rw [List.take_append_of_le_length h]
theorem shN_all (l : List Ca) : shN l l.length = shAll sh0 l := by unfold shN; rw [List.take_length]
/-- each of them counts -/
def CTS (l : List Ca) : Prop := ∀ k, k < l.length → cntB (shN l k) (l.getD k caR) = true
theorem cts_nil : CTS [] := fun k hk => by simp at hk
theorem CTS.idx {l : List Ca} (h : CTS l) : ∀ k, k ≤ l.length → (shN l k).idx = (k : Int)
  | 0, _ => by unfold shN; rw [List.take_zero]; rfl
  | k + 1, hk => by
    rw [shN_succ (by omega), cnt_do_is (h k (by omega))]
    show (shN l k).idx + 1 = _
    rw [CTS.idx h k (by omega)]
    push_cast
    rfl
theorem CTS.ok {l : List Ca} (k : Nat) : ShOk (shN l k) := (shAll_idx _ _ ok_zero).2
theorem CTS.take {l : List Ca} (h : CTS l) (n : Nat) : CTS (l.take n) := fun k hk => by
  rw [List.length_take] at hk
  have := h k (by omega)
  rw [shN_take l (by omega)]
  have e : (l.take n).getD k caR = l.getD k caR := by simp [List.getD, show k < n by omega]
  rw [e]
  exact this
theorem CTS.push {l : List Ca} (h : CTS l) {c : Ca} (hc : cntB (shAll sh0 l) c = true) : CTS (l ++ [c]) := fun k hk => by
  rw [List.length_append] at hk
  by_cases q : k < l.length
  · rw [shN_app _ _ (by omega)]
    have e : (l ++ [c]).getD k caR = l.getD k caR := by simp [List.getD, List.getElem?_append_left q]
    rw [e]
    exact h k q
  · have e : k = l.length := by simp at hk; omega
    subst e
    rw [shN_app _ _ (Nat.le_refl _), shN_all]
    have e : (l ++ [c]).getD l.length caR = c := by simp [List.getD]
    rw [e]
    exact hc
/-! ### what a fleet always is -/
structure FlOk (X : Fl) : Prop where
  le1 : X.L.calls.length ≤ X.m + 1
  ks : KS X.L X.m
  ct : CTS X.L.calls
  all : X.lost = false → X.L.calls.length = X.m
  kl : ∀ k ∈ X.ks, k ≤ X.m
theorem FlOk.le {X : Fl} (h : FlOk X) : X.m ≤ X.L.calls.length := h.ks.1
theorem FlOk.idx {X : Fl} (h : FlOk X) : X.S.idx = (X.m : Int) := h.ct.idx X.m h.le
theorem FlOk.at {X : Fl} (h : FlOk X) {i : Nat} (hi : i < X.ks.length) : X.ks.getD i 0 ≤ X.m := h.kl _ (by rw [List.getD, List.getElem?_eq_getElem hi]; exact List.getElem_mem hi)
def fl0 (n : Nat) : Fl := ⟨lg0, 0, false, List.replicate n 0⟩
theorem fl0_ok (n : Nat) : FlOk (fl0 n) := ⟨Nat.zero_le _, ⟨Nat.zero_le _, Nat.zero_le _⟩, cts_nil, fun _ => rfl, fun k hk => by
  have := List.eq_of_mem_replicate hk
  omega⟩
/-! ### a call is kept -/
def kpF (X : Fl) (c : Ca) : Int := if apF X.L c ≠ 0 then apF X.L c else syF (apL X.L c)
def kpX (X : Fl) (c : Ca) : Lg := if apF X.L c ≠ 0 then apL X.L c else syL (apL X.L c)
theorem ap_nine {L : Lg} {c : Ca} : apF L c = 0 ∨ apF L c = 1 ∨ apF L c = 4 ∨ apF L c = 9 := by
  unfold apF
  split
  · exact .inr (.inl rfl)
  · split
    · exact .inr (.inr (.inl rfl))
    · split
      · exact .inr (.inr (.inr rfl))
      · exact .inl rfl
theorem sy_nine (L : Lg) : syF L = 0 ∨ syF L = 9 := by
  unfold syF
  split
  · exact .inr rfl
  · exact .inl rfl
theorem kp_nine (X : Fl) (c : Ca) : kpF X c = 0 ∨ kpF X c = 1 ∨ kpF X c = 4 ∨ kpF X c = 9 := by
  unfold kpF
  split
  · exact ap_nine
  · rcases sy_nine (apL X.L c) with z | z
    · exact .inl z
    · exact .inr (.inr (.inr z))
/-- a call: the answer, the fault, the fleet then -/
def doX (X : Fl) (c : Ca) : An × Int × Fl :=
  if X.lost = true then (an0, 9, X)
  else if cntB X.S c = true then
    if kpF X c ≠ 0 then (an0, kpF X c, ⟨kpX X c, X.m, decide (kpF X c = 9), X.ks⟩)
    else ((shDo X.S c).1, (shDo X.S c).2.1, ⟨kpX X c, X.m + 1, false, X.ks⟩)
  else ((shDo X.S c).1, (shDo X.S c).2.1, X)
theorem kp_calls {X : Fl} {c : Ca} : (apF X.L c ≠ 0 ∧ (kpX X c).calls = X.L.calls) ∨ (apF X.L c = 0 ∧ (kpX X c).calls = X.L.calls ++ [c]) := by
  unfold kpX
  by_cases z : apF X.L c = 0
  · right
    refine ⟨z, ?_⟩
    rw [if_neg (by simpa using z), sy_calls, ap_push z]
  · left
    refine ⟨z, ?_⟩
    rw [if_pos z, ap_calls z]
theorem do_fl {X : Fl} (h : FlOk X) (ok : LgOk X.L) {c : Ca} (nb : ∀ x ∈ c.name, x < 256) (bb : ∀ x ∈ c.bys, x < 256) : FlOk (doX X c).2.2 ∧ (doX X c).2.2.S = (if X.lost = false ∧ cntB X.S c = true ∧ kpF X c = 0 then (shDo X.S c).2.2 else X.S) ∧ (doX X c).2.2.m = (if X.lost = false ∧ cntB X.S c = true ∧ kpF X c = 0 then X.m + 1 else X.m) ∧ (doX X c).2.2.L.calls.take X.m = X.L.calls.take X.m ∧ (doX X c).2.2.L.calls.length ≤ X.L.calls.length + 1 ∧ (∀ d ∈ (doX X c).2.2.L.calls, d ∈ X.L.calls ∨ d = c) ∧ (doX X c).2.2.ks = X.ks := by
  unfold doX
  cases hl : X.lost with
  | true =>
    rw [if_pos rfl]
    refine ⟨h, ?_, ?_, rfl, Nat.le_succ _, fun d hd => .inl hd, rfl⟩
    · rw [if_neg (fun z => by cases z.1)]
    · rw [if_neg (fun z => by cases z.1)]
  | false =>
    rw [if_neg (by decide)]
    have hm := h.all hl
    cases hc : cntB X.S c with
    | false =>
      rw [if_neg (by decide)]
      refine ⟨h, ?_, ?_, rfl, Nat.le_succ _, fun d hd => .inl hd, rfl⟩
      · rw [if_neg (fun z => by cases z.2.1)]
      · rw [if_neg (fun z => by cases z.2.1)]
    | true =>
      rw [if_pos rfl]
      have hS : X.S = shAll sh0 X.L.calls := by
        have := shN_all X.L.calls
        rw [hm] at this
        exact this
      have okA := ap_ok ok nb bb
      by_cases z : kpF X c = 0
      · rw [if_neg (by simpa using z), if_pos ⟨rfl, rfl, z⟩, if_pos ⟨rfl, rfl, z⟩]
        have az : apF X.L c = 0 := by
          by_cases y : apF X.L c = 0
          · exact y
          · unfold kpF at z; rw [if_pos y] at z; exact absurd z y
        have sz : syF (apL X.L c) = 0 := by unfold kpF at z; rw [if_neg (by simpa using az)] at z; exact z
        have ek : kpX X c = syL (apL X.L c) := by unfold kpX; rw [if_neg (by simpa using az)]
        have ec : (kpX X c).calls = X.L.calls ++ [c] := by rw [ek, sy_calls, ap_push az]
        have el : (kpX X c).calls.length = X.m + 1 := by rw [ec, List.length_append, hm]; rfl
        have kz : KS (kpX X c) (X.m + 1) := by
          have := KS.sy0 sz okA
          rw [ek]
          rw [← el, ek, sy_calls]
          exact this
        have K9 : ∀ k, k ∈ X.ks → k ≤ X.m + 1 := fun k hk => Nat.le_succ_of_le (h.kl k hk)
        refine ⟨⟨by show (kpX X c).calls.length ≤ X.m + 1 + 1; omega, kz, ?_, fun _ => el, K9⟩, ?_, rfl, ?_, ?_, ?_, rfl⟩
        · show CTS (kpX X c).calls
          rw [ec]
          exact h.ct.push (by rw [← hS]; exact hc)
        · show shN (kpX X c).calls (X.m + 1) = _
          rw [shN_succ (by omega), ec, shN_app _ _ (by omega)]
          have e : (X.L.calls ++ [c]).getD X.m caR = c := by rw [← hm]; simp [List.getD]
          rw [e]
          rfl
        · show (kpX X c).calls.take X.m = _
          rw [ec, List.take_append_of_le_length (by omega)]
        · show (kpX X c).calls.length ≤ _
          omega
        · intro d hd
          have hd' : d ∈ (kpX X c).calls := hd
          rw [ec] at hd'
          rcases List.mem_append.1 hd' with y | y
          · exact .inl y
          · exact .inr (by simpa using y)
      · rw [if_pos z, if_neg (fun y => z y.2.2), if_neg (fun y => z y.2.2)]
        rcases kp_calls (X := X) (c := c) with ⟨az, ec⟩ | ⟨az, ec⟩
        · have ek : kpX X c = apL X.L c := by unfold kpX; rw [if_pos az]
          refine ⟨⟨?_, ?_, ?_, fun _ => ?_, h.kl⟩, ?_, rfl, ?_, ?_, ?_, rfl⟩
          · show (kpX X c).calls.length ≤ X.m + 1
            rw [ec]; exact h.le1
          · show KS (kpX X c) X.m
            rw [ek]; exact h.ks.ap c
          · show CTS (kpX X c).calls
            rw [ec]; exact h.ct
          · show (kpX X c).calls.length = X.m
            rw [ec]; exact hm
          · show shN (kpX X c).calls X.m = _
            rw [ec]; rfl
          · show (kpX X c).calls.take X.m = _
            rw [ec]
          · show (kpX X c).calls.length ≤ _
            rw [ec]; omega
          · intro d hd
            have hd' : d ∈ (kpX X c).calls := hd
            rw [ec] at hd'
            exact .inl hd'
        · have ek : kpX X c = syL (apL X.L c) := by unfold kpX; rw [if_neg (by simpa using az)]
          have kn : kpF X c = 9 := by
            have e : kpF X c = syF (apL X.L c) := by unfold kpF; rw [if_neg (by simpa using az)]
            rcases sy_nine (apL X.L c) with y | y
            · rw [e] at z; exact absurd y z
            · rw [e]; exact y
          refine ⟨⟨?_, ?_, ?_, fun y => ?_, h.kl⟩, ?_, rfl, ?_, ?_, ?_, rfl⟩
          · show (kpX X c).calls.length ≤ X.m + 1
            rw [ec, List.length_append, hm]; exact Nat.le_refl _
          · show KS (kpX X c) X.m
            rw [ek]; exact (h.ks.ap c).sy okA
          · show CTS (kpX X c).calls
            rw [ec]; exact h.ct.push (by rw [← hS]; exact hc)
          · have y' : decide (kpF X c = 9) = false := y
            rw [decide_eq_true kn] at y'
            cases y'
          · show shN (kpX X c).calls X.m = _
            rw [ec, shN_app _ _ (by omega)]; rfl
          · show (kpX X c).calls.take X.m = _
            rw [ec, List.take_append_of_le_length (by omega)]
          · show (kpX X c).calls.length ≤ _
            rw [ec, List.length_append]; exact Nat.le_refl _
          · intro d hd
            have hd' : d ∈ (kpX X c).calls := hd
            rw [ec] at hd'
            rcases List.mem_append.1 hd' with y | y
            · exact .inl y
            · exact .inr (by simpa using y)
/-! ### a crash -/
def crX (X : Fl) (keep : Int) : Fl := ⟨crL X.L keep, (crL X.L keep).calls.length, false, X.ks⟩
theorem cr_fl {X : Fl} (h : FlOk X) (ok : LgOk X.L) (keep : Int) : FlOk (crX X keep) ∧ X.m ≤ (crX X keep).m ∧ (crX X keep).m ≤ X.L.calls.length ∧ (crX X keep).L.calls = X.L.calls.take (crX X keep).m ∧ (∀ k, k ≤ X.m → shN (crX X keep).L.calls k = shN X.L.calls k) := by
  have kc := h.ks.cr ok keep
  have e : (crL X.L keep).calls = X.L.calls.take (crL X.L keep).calls.length := by
    rw [cr_calls, List.length_take]
    have := fitN_le X.L.calls (crN X.L keep)
    rw [Nat.min_eq_left this]
  have hl1 := h.le1
  have m1 : X.m ≤ (crL X.L keep).calls.length := kc.1
  have cok := cr_ok ok keep
  refine ⟨⟨Nat.le_succ _, ⟨Nat.le_refl _, ?_⟩, ?_, fun _ => rfl, fun k hk => Nat.le_trans (h.kl k hk) m1⟩, m1, kc.2, e, fun k hk => ?_⟩
  · show (recs ((crL X.L keep).calls.take (crL X.L keep).calls.length)).length ≤ (crL X.L keep).bytes.length
    rw [List.take_length]
    exact cok.len.1
  · show CTS (crL X.L keep).calls
    rw [e]
    exact h.ct.take _
  · show shN (crL X.L keep).calls k = _
    rw [e]
    exact shN_take _ (by omega)
/-- a scorer heard a call more, or is a new one -/
def tlX (X : Fl) (i : Nat) : Fl := if X.ks.getD i 0 < X.m then ⟨X.L, X.m, X.lost, X.ks.set i (X.ks.getD i 0 + 1)⟩ else X
theorem tl_fl {X : Fl} (h : FlOk X) (i : Nat) : FlOk (tlX X i) := by
  unfold tlX
  split
  · next q => exact ⟨h.le1, h.ks, h.ct, h.all, fun k hk => by
      rcases List.mem_or_eq_of_mem_set hk with z | z
      · exact h.kl k z
      · have : k = X.ks.getD i 0 + 1 := z
        show k ≤ X.m
        omega⟩
  · exact h
def rsX (X : Fl) (i : Nat) : Fl := ⟨X.L, X.m, X.lost, X.ks.set i 0⟩
theorem rs_fl {X : Fl} (h : FlOk X) (i : Nat) : FlOk (rsX X i) := ⟨h.le1, h.ks, h.ct, h.all, fun k hk => by
  rcases List.mem_or_eq_of_mem_set hk with z | z
  · exact h.kl k z
  · rw [z]; exact Nat.zero_le _⟩
def flX (X : Fl) (n : Int) : Fl := ⟨⟨X.L.calls, X.L.tail, X.L.safe, n, X.L.stop⟩, X.m, X.lost, X.ks⟩
theorem fl_fl {X : Fl} (h : FlOk X) (n : Int) : FlOk (flX X n) := ⟨h.le1, h.ks, h.ct, h.all, h.kl⟩
/-- what is answered without an error is behind a call that counted -/
theorem do_nil {X : Fl} (h : FlOk X) (c : Ca) (z : (doX X c).2.1 = 0) : 1 ≤ (doX X c).2.2.m := by
  unfold doX at z ⊢
  cases hl : X.lost with
  | true => rw [hl, if_pos rfl] at z; cases z
  | false =>
    rw [hl, if_neg (by decide)] at z
    rw [if_neg (by decide)]
    cases hc : cntB X.S c with
    | true =>
      rw [hc, if_pos rfl] at z
      rw [if_pos rfl]
      by_cases k : kpF X c = 0
      · rw [if_neg (by simpa using k)]
        show 1 ≤ X.m + 1
        omega
      · rw [if_pos k] at z; exact absurd z k
    | false =>
      rw [hc, if_neg (by decide)] at z
      rw [if_neg (by decide)]
      show 1 ≤ X.m
      have z' : (shDo X.S c).2.1 = 0 := z
      by_cases f : callF c = 0
      · rw [do_is f] at z'
        by_cases q : (was X.S c.ses).seq = c.seq
        · rw [if_pos q] at z'
          have sq := (call_seq f).2.2.1
          have ok : ShOk X.S := (shAll_idx _ _ ok_zero).2
          have ix := h.idx
          unfold was at q z'
          cases hl2 : lastN X.S c.ses with
          | none =>
            rw [hl2] at q
            have : (0 : Int) = c.seq := q
            omega
          | some k =>
            rw [hl2] at z'
            have m := find_more _ _ _ _ hl2
            rw [Nat.sub_zero] at m
            have mem : X.S.done.getD k dn0 ∈ X.S.done := by rw [List.getD, List.getElem?_eq_getElem m.2.1]; exact List.getElem_mem m.2.1
            have := ok.ans _ mem z'
            omega
        · rw [if_neg q] at z'
          by_cases q2 : c.seq < (was X.S c.ses).seq
          · rw [if_pos q2] at z'; cases z'
          · exfalso
            rcases cnt_ways X.S c with ⟨y, _⟩ | ⟨_, y⟩
            · rw [hc] at y; cases y
            · rcases y with y | y | y
              · exact y f
              · exact q y
              · exact q2 y
      · unfold shDo at z'
        rw [if_pos f] at z'
        exact absurd z' f
theorem set_at {l : List Nat} {i v : Nat} (h : i < l.length) (j : Nat) : (l.set i v).getD j 0 = if j = i then v else l.getD j 0 := by
  by_cases e : j = i
  · subst e; rw [if_pos rfl]; simp [List.getD, h]
  · rw [if_neg e]; simp [List.getD, List.getElem?_set_ne (Ne.symm e)]
/-- scorers ahead know all m calls, those behind none; one knows as many as it was told -/
structure Lg3 (X : Fl) (m n i t : Nat) : Prop where
  ms : X.m = m
  len : X.ks.length = n
  ahead : ∀ j, j < i → X.ks.getD j 0 = m
  here : i < n → X.ks.getD i 0 = min t m
  behind : ∀ j, i < j → j < n → X.ks.getD j 0 = 0
theorem Lg3.tell {X : Fl} {m n i t : Nat} (h : Lg3 X m n i t) (hi : i < n) : Lg3 (tlX X i) m n i (t + 1) := by
  have hr := h.here hi
  have hl : i < X.ks.length := by rw [h.len]; exact hi
  unfold tlX
  by_cases q : X.ks.getD i 0 < X.m
  · rw [if_pos q]
    have qm := h.ms
    refine ⟨h.ms, by show (X.ks.set i _).length = n; rw [List.length_set]; exact h.len, fun j hj => ?_, fun _ => ?_, fun j h1 h2 => ?_⟩
    · show (X.ks.set i _).getD j 0 = m
      rw [set_at hl, if_neg (by omega)]; exact h.ahead j hj
    · show (X.ks.set i _).getD i 0 = _
      rw [set_at hl, if_pos rfl]; omega
    · show (X.ks.set i _).getD j 0 = 0
      rw [set_at hl, if_neg (by omega)]; exact h.behind j h1 h2
  · rw [if_neg q]
    have qm := h.ms
    exact ⟨h.ms, h.len, h.ahead, fun _ => by rw [hr]; omega, h.behind⟩
theorem Lg3.next {X : Fl} {m n i t : Nat} (h : Lg3 X m n i t) (hi : i < n) (ht : m ≤ t) : Lg3 X m n (i + 1) 0 :=
  ⟨h.ms, h.len, fun j hj => by
    by_cases e : j = i
    · subst e; rw [h.here hi]; omega
    · exact h.ahead j (by omega), fun h2 => by rw [h.behind (i + 1) (by omega) h2]; omega, fun j h1 h2 => h.behind j (by omega) h2⟩
end Go.Proofs.YtodidokeblblgaaGreat.M

namespace Go.Proofs.YtodidokeblblgaaGreat
open Go.ChangeShapes Go.WideShapes Go.ChangeAt Go.RowKit Go.Lib
set_option linter.unusedVariables false
def isB (n : List Nat) : Prop := ∀ x ∈ n, x < 256
def caV (c : M.Ca) (a : Option Addr) (cap : Nat) : Value := .agg #[.int .i64 c.what, .int .i64 c.ses, .int .i64 c.seq, .string (byStr c.name), .int .i64 c.num, .int .i64 c.share, .slice a c.bys.length cap]
def I64 (x : Int) : Prop := -9223372036854775808 ≤ x ∧ x ≤ 9223372036854775807
/-- a call as it comes: its bytes lie where they can be read -/
structure CaIn (W : World) (c : M.Ca) (a : Option Addr) (cap : Nat) : Prop where
  nb : isB c.name
  nl : c.name.length ≤ 9223372036854775807
  rd : RdB W a c.bys
  le : c.bys.length ≤ cap
  cp : cap ≤ 9223372036854775807
  num : I64 c.num
  shr : I64 c.share
  nil : a = none → cap = 0
abbrev CaC := M.Ca × Option Addr × Nat
def ca0 : CaC := (⟨0, 0, 0, [], 0, 0, []⟩, none, 0)
def SevenAt (w : World) (b off : Nat) (k : CaC) : Prop := w.cell? ⟨b, off, none⟩ = some (.int .i64 k.1.what) ∧ w.cell? ⟨b, off + 1, none⟩ = some (.int .i64 k.1.ses) ∧ w.cell? ⟨b, off + 2, none⟩ = some (.int .i64 k.1.seq) ∧ w.cell? ⟨b, off + 3, none⟩ = some (.string (byStr k.1.name)) ∧ w.cell? ⟨b, off + 4, none⟩ = some (.int .i64 k.1.num) ∧ w.cell? ⟨b, off + 5, none⟩ = some (.int .i64 k.1.share) ∧ w.cell? ⟨b, off + 6, none⟩ = some (.slice k.2.1 k.1.bys.length k.2.2)
/-- calls, where they lie -/
def RdC (w : World) (a : Option Addr) (l : List CaC) : Prop :=
  l.length ≤ maxLen ∧ (∀ k ∈ l, CaIn w k.1 k.2.1 k.2.2) ∧ (l ≠ [] → ∃ b off, a = some ⟨b, off, none⟩ ∧ b < w.heap.size ∧ ∀ i, i < l.length → SevenAt w b (off + i * 7) (l.getD i ca0))
theorem CaIn.below {w w' : World} {c : M.Ca} {a : Option Addr} {cap : Nat} (h : CaIn w c a cap) (hb : Below w.heap.size w w') : CaIn w' c a cap := ⟨h.nb, h.nl, h.rd.below hb, h.le, h.cp, h.num, h.shr, h.nil⟩
theorem RdC.below {w w' : World} {a : Option Addr} {l : List CaC} (h : RdC w a l) (hb : Below w.heap.size w w') : RdC w' a l :=
  ⟨h.1, fun k hk => (h.2.1 k hk).below hb, fun hn => by
    obtain ⟨b, off, e, hl, hc⟩ := h.2.2 hn
    have k : ∀ j v, w.cell? ⟨b, j, none⟩ = some v → w'.cell? ⟨b, j, none⟩ = some v := fun j v hv => (hb.cell (p := ⟨b, j, none⟩) hl).trans hv
    exact ⟨b, off, e, Nat.lt_of_lt_of_le hl hb.size, fun i hi => ⟨k _ _ (hc i hi).1, k _ _ (hc i hi).2.1, k _ _ (hc i hi).2.2.1, k _ _ (hc i hi).2.2.2.1, k _ _ (hc i hi).2.2.2.2.1, k _ _ (hc i hi).2.2.2.2.2.1, k _ _ (hc i hi).2.2.2.2.2.2⟩⟩⟩
theorem RdC.at {w : World} {a : Option Addr} {l : List CaC} (h : RdC w a l) {k : Nat} (hk : k < l.length) : ∃ b off, a = some ⟨b, off, none⟩ ∧ b < w.heap.size ∧ SevenAt w b (off + k * 7) (l.getD k ca0) ∧ CaIn w (l.getD k ca0).1 (l.getD k ca0).2.1 (l.getD k ca0).2.2 := by
  obtain ⟨b, off, e, hb, hc⟩ := h.2.2 (by intro e; rw [e] at hk; simp at hk)
  exact ⟨b, off, e, hb, hc k hk, h.2.1 _ (by rw [List.getD, List.getElem?_eq_getElem hk]; exact List.getElem_mem hk)⟩
theorem M.gt_le : ∀ (b : List Nat) (i x : Nat), (M.gtK b i x).2.1 ≤ i + b.length
  | [], i, x => by show 0 ≤ i + 0; omega
  | c :: r, i, x => by
    have ih := M.gt_le r (i + 1) (x + c % 128 * 128 ^ i)
    show (if (i = 9 ∧ 1 < c) ∨ (0 < i ∧ c = 0) then ((0 : Int), (0 : Nat), (2 : Int)) else if c < 128 then (M.unz (x + c % 128 * 128 ^ i), i + 1, 0) else M.gtK r (i + 1) (x + c % 128 * 128 ^ i)).2.1 ≤ i + (r.length + 1)
    split
    · exact Nat.zero_le _
    · split
      · show i + 1 ≤ _; omega
      · omega
theorem M.get_le (b : List Nat) : (M.getL b).2.1 ≤ b.length := by
  have := M.gt_le b 0 0
  rw [Nat.zero_add] at this
  exact this
theorem M.rNum_fin {b : List Nat} {s : M.In} (h : s.fin ≤ b.length) : (M.rNum b s).2.fin ≤ b.length := by
  by_cases q : s.bad = 0
  · rw [M.rNum_go q]
    have := M.get_le (b.drop s.fin)
    rw [List.length_drop] at this
    show s.fin + _ ≤ _
    omega
  · rw [M.rNum_bad q]; exact h
theorem M.rMany_fin {b : List Nat} {s : M.In} {most : Int} (h : s.fin ≤ b.length) : (M.rMany b most s).2.fin ≤ b.length := by
  have := M.rNum_fin h
  unfold M.rMany
  split
  · exact this
  · split
    · exact this
    · exact this
/-- a cell is written -/
theorem cell_set_same {W : World} {g o : Nat} {u v : Value} (h : W.cell? ⟨g, o, none⟩ = some u) : (W.setCell ⟨g, o, none⟩ v).cell? ⟨g, o, none⟩ = some v := World.cell?_setCell_same _ _ _ h
theorem cell_set_other {W : World} {g o j : Nat} {u v : Value} (h : W.cell? ⟨g, j, none⟩ = some u) (hj : o ≠ j) : (W.setCell ⟨g, o, none⟩ v).cell? ⟨g, j, none⟩ = some u := (World.cell?_setCell_other _ _ _ _ (by intro e; cases e; exact hj rfl)).trans h
theorem frozen_set {W : World} {g o j : Nat} {v : Value} (h : W.frozen? ⟨g, j, none⟩ = false) : (W.setCell ⟨g, o, none⟩ v).frozen? ⟨g, j, none⟩ = false := by rw [World.frozen?_setCell]; exact h
theorem rdB_keep {W W' : World} {a : Option Addr} {xs : List Nat} (h : RdB W a xs) (hk : xs ≠ [] → ∀ p, a = some p → W'.heap[p.block]? = W.heap[p.block]?) (hz : W.heap.size ≤ W'.heap.size) : RdB W' a xs :=
  ⟨h.1, h.2.1, fun hn => by
    obtain ⟨b, off, e, hl, hc⟩ := h.2.2 hn
    have hb : W'.heap[b]? = W.heap[b]? := hk hn _ e
    exact ⟨b, off, e, Nat.lt_of_lt_of_le hl hz, fun i hi => (World.cell?_of_block (a := ⟨b, _, none⟩) hb).trans (hc i hi)⟩⟩
end Go.Proofs.YtodidokeblblgaaGreat
