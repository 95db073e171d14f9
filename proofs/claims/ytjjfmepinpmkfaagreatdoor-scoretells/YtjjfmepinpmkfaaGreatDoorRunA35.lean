/-
  Several texts as one: CaCells, ScMa.
-/
import Derived.Test.YtjjfmepinpmkfaaGreatDoorRunA33
import Derived.Test.YtjjfmepinpmkfaaGreatDoorRunA34
import Derived.Test.YtjjfmepinpmkfaaGreatDoorRunA29
import Derived.Test.YtjjfmepinpmkfaaGreatDoorRunA28
import Derived.Test.YtjjfmepinpmkfaaGreatDoorRunA7
namespace Go.Proofs.YtjjfmepinpmkfaaGreatDoor
open Go.ChangeShapes Go.WideShapes Go.ChangeAt Go.RowKit Go.Lib Go.Maps
set_option linter.unusedVariables false
/-- a shelf between calls, its blocks all new since a world -/
structure Has (W0 w : World) (f : Nat) (T : Nat → Nat) (S : M.Sh) : Prop where
  sa : SA w f T S
  bl : Below W0.heap.size W0 w
  tn : ∀ q, T q ≠ 0 → W0.heap.size ≤ q
theorem SA.lt {w : World} {f : Nat} {T : Nat → Nat} {S : M.Sh} (h : SA w f T S) {q : Nat} (hq : w.heap.size ≤ q) : T q = 0 := by
  obtain ⟨mm, ml, D, E, kb, mb, va, vc, G, h⟩ := h
  by_cases z : T q = 0
  · exact z
  · have := h.tlt q z; omega
theorem Has.up {W0 w w' : World} {f : Nat} {T : Nat → Nat} {S : M.Sh} (h : Has W0 w f T S) (hb : Below w.heap.size w w') : Has W0 w' f T S :=
  ⟨h.sa.up (fun q hq => hb.block q (by
    by_cases z : q < w.heap.size
    · exact z
    · exact absurd (h.sa.lt (by omega)) hq)) hb.size, below_on h.bl hb, h.tn⟩
theorem Has.left {W0 w w' : World} {f : Nat} {T : Nat → Nat} {S S' : M.Sh} (h : Has W0 w f T S) (hl : Left w f T S' w') : ∃ T', Has W0 w' f T' S' ∧ (∀ q, q < w.heap.size → T q = 0 → T' q = 0 ∧ w'.heap[q]? = w.heap[q]?) ∧ w.heap.size ≤ w'.heap.size := by
  obtain ⟨T', a, b, c⟩ := hl
  have z := h.bl.size
  refine ⟨T', ⟨a, ⟨b.os.trans h.bl.os, b.tape.trans h.bl.tape, b.output.trans h.bl.output, Nat.le_trans z b.size, fun q hq => ?_⟩, fun q hq => ?_⟩, fun q hq ht => ⟨?_, b.block q hq (fun y => y ht)⟩, b.size⟩
  · rw [b.block q (by omega) (fun y => by have := h.tn q y; omega)]
    exact h.bl.block q hq
  · rcases c q hq with y | y
    · exact h.tn q y
    · omega
  · by_cases y : T' q = 0
    · exact y
    · rcases c q y with x | x
      · exact absurd ht x
      · omega
theorem Has.doIt {W0 w : World} {f : Nat} {T : Nat → Nat} {S : M.Sh} (h : Has W0 w f T S) {k : CaC} (hc : CaIn W0 k.1 k.2.1 k.2.2) (hi : S.idx ≤ 900) :
    Calls Tryz.prog 8 #[.pointer (some ⟨f, 0, none⟩), caV k.1 k.2.1 k.2.2] w fun e w' => e = .returned (.tuple #[anV (M.shDo S k.1).1, errV (M.shDo S k.1).2.1]) ∧ ∃ T', Has W0 w' f T' (M.shDo S k.1).2.2 ∧ (∀ q, q < w.heap.size → T q = 0 → T' q = 0 ∧ w'.heap[q]? = w.heap[q]?) ∧ w.heap.size ≤ w'.heap.size := by
  refine (sh_Do h.sa (hc.below h.bl) (fun hne p hp => ?_) (by omega)).mono ?_
  · obtain ⟨b, off, e, hl, _⟩ := hc.rd.2.2 hne
    rw [e] at hp
    cases hp
    by_cases z : T b = 0
    · exact z
    · have : W0.heap.size ≤ b := h.tn b z
      omega
  · rintro e w' ⟨rfl, hl⟩
    exact ⟨rfl, h.left hl⟩
end Go.Proofs.YtjjfmepinpmkfaaGreatDoor

namespace Go.Proofs.YtjjfmepinpmkfaaGreatDoor.M
set_option linter.unusedVariables false
/-- each version's grove is right -/
def GG (S : Sh) : Prop := ∀ k, k < S.l.length → groveF (S.l.getD k vg0).2 = 0
theorem gg_zero : GG sh0 := fun k hk => by simp [sh0] at hk
theorem dec_good {b : List Nat} (h : (decF b).2 = 0) : groveF (decV b) = 0 := by
  have dv : decV b = rGrove b := by unfold decV; rw [if_pos h]
  rw [dv]
  unfold decF at h
  by_cases z : groveF (rGrove b) = 0
  · exact z
  · split at h
    · simp at h
    · split at h
      · simp at h; omega
      · split at h
        · simp at h
        · exact h
/-- what a call leaves of the versions: each is where it was, with its name, its number and its grove -/
def keepV (l r : List (Vn × Gv)) : Prop := ∀ k, k < l.length → k < r.length ∧ (r.getD k vg0).1.name = (l.getD k vg0).1.name ∧ (r.getD k vg0).1.num = (l.getD k vg0).1.num ∧ (r.getD k vg0).2 = (l.getD k vg0).2
theorem keep_refl (l : List (Vn × Gv)) : keepV l l := fun k hk => ⟨hk, rfl, rfl, rfl⟩
theorem keep_setV (l : List (Vn × Gv)) (k : Nat) (st sh : Int) : keepV l (setV l k st sh) := fun j hj => by
  rw [len_setV, getD_setV l k st sh hj]
  by_cases q : k = j
  · rw [if_pos q]; exact ⟨hj, rfl, rfl, rfl⟩
  · rw [if_neg q]; exact ⟨hj, rfl, rfl, rfl⟩
theorem keep_setS (l : List (Vn × Gv)) (k : Nat) (st : Int) : keepV l (setS l k st) := fun j hj => by
  have e : (setS l k st).getD j vg0 = if k = j then (⟨(l.getD j vg0).1.name, (l.getD j vg0).1.num, st, (l.getD j vg0).1.share⟩, (l.getD j vg0).2) else l.getD j vg0 := by
    unfold setS; exact mod_at hj
  have el : (setS l k st).length = l.length := by unfold setS; rw [List.length_modify]
  rw [el, e]
  by_cases q : k = j
  · rw [if_pos q]; exact ⟨hj, rfl, rfl, rfl⟩
  · rw [if_neg q]; exact ⟨hj, rfl, rfl, rfl⟩
theorem keep_trans {a b c : List (Vn × Gv)} (h : keepV a b) (k : keepV b c) : keepV a c := fun j hj => by
  obtain ⟨h1, h2, h3, h4⟩ := h j hj
  obtain ⟨k1, k2, k3, k4⟩ := k j h1
  exact ⟨k1, k2.trans h2, k3.trans h3, k4.trans h4⟩
theorem keep_app (l : List (Vn × Gv)) (x : Vn × Gv) : keepV l (l ++ [x]) := fun j hj => by
  have e : (l ++ [x]).getD j vg0 = l.getD j vg0 := by simp [List.getD, List.getElem?_append_left hj]
  rw [e]
  exact ⟨by simp; omega, rfl, rfl, rfl⟩
/-- what is behind a call, of whatever list -/
theorem act_keep (s : Sh) (c : Ca) : keepV s.l (act s c).2.2 ∧ ((act s c).2.2.length = s.l.length ∨ ∃ x : Vn × Gv, groveF x.2 = 0 ∧ (act s c).2.2 = s.l ++ [x]) := by
  unfold act
  by_cases w1 : c.what = 1
  · rw [if_pos w1]
    by_cases d : (decF c.bys).2 ≠ 0
    · rw [if_pos d]; exact ⟨keep_refl _, .inl rfl⟩
    · rw [if_neg d]
      by_cases m : many s c.name = 0 ∧ 8 ≤ names s
      · rw [if_pos m]; exact ⟨keep_refl _, .inl rfl⟩
      · rw [if_neg m]
        exact ⟨keep_app _ _, .inr ⟨_, dec_good (by omega), rfl⟩⟩
  · rw [if_neg w1]
    cases verN s c.name c.num with
    | none => exact ⟨keep_refl _, .inl rfl⟩
    | some k =>
      simp only
      by_cases w2 : c.what = 2
      · rw [if_pos w2]
        repeat' split
        all_goals first
          | exact ⟨keep_refl _, .inl rfl⟩
          | exact ⟨keep_setV _ _ _ _, .inl (len_setV _ _ _ _)⟩
      · rw [if_neg w2]
        have tw : ∀ o, (setV (setS s.l o 4) k 3 0).length = s.l.length := fun o => by rw [len_setV]; unfold setS; rw [List.length_modify]
        by_cases w3 : c.what = 3
        · rw [if_pos w3]
          split
          · exact ⟨keep_refl _, .inl rfl⟩
          · cases atN s c.name 3 with
            | none => exact ⟨keep_setV _ _ _ _, .inl (len_setV _ _ _ _)⟩
            | some o => exact ⟨keep_trans (keep_setS _ _ _) (keep_setV _ _ _ _), .inl (tw o)⟩
        · rw [if_neg w3]
          split
          · exact ⟨keep_refl _, .inl rfl⟩
          · exact ⟨keep_setV _ _ _ _, .inl (len_setV _ _ _ _)⟩
theorem do_list (s : Sh) (c : Ca) : (shDo s c).2.2.l = s.l ∨ (shDo s c).2.2.l = (act s c).2.2 := by
  unfold shDo
  by_cases f : callF c ≠ 0
  · rw [if_pos f]; exact .inl rfl
  · rw [if_neg f]
    cases lastN s c.ses with
    | none => exact .inr rfl
    | some k =>
      simp only
      repeat' split
      all_goals first
        | exact .inl rfl
        | exact .inr rfl
theorem do_keep (s : Sh) (c : Ca) : keepV s.l (shDo s c).2.2.l := by
  rcases do_list s c with e | e
  · rw [e]; exact keep_refl _
  · rw [e]; exact (act_keep s c).1
theorem gg_do {s : Sh} (h : GG s) (c : Ca) : GG (shDo s c).2.2 := by
  intro k hk
  by_cases q : k < s.l.length
  · rw [(do_keep s c k q).2.2.2]; exact h k q
  · rcases do_list s c with e | e
    · rw [e] at hk; exact absurd hk q
    · rw [e] at hk ⊢
      rcases (act_keep s c).2 with e2 | ⟨x, h1, e2⟩
      · rw [e2] at hk; exact absurd hk q
      · rw [e2] at hk ⊢
        have ek : k = s.l.length := by simp at hk; omega
        rw [ek]
        simp [List.getD]
        exact h1
/-- who is picked is there, and has a stage that is not 4 -/
theorem pick_is {S : Sh} {n : List Nat} {key : Int} {k : Nat} (h : pickO S n key = some k) : k < S.l.length ∧ (vAt S k).name = n ∧ (vAt S k).stage ≠ 4 := by
  have key1 : ∀ st : Int, (st = 2 ∨ st = 3) → ∀ j, atN S n st = some j → j < S.l.length ∧ (vAt S j).name = n ∧ (vAt S j).stage ≠ 4 := fun st hs j hj => by
    obtain ⟨a, b, c⟩ := at_is hj
    refine ⟨a, b, ?_⟩
    have c' : (vAt S j).stage = st := c
    omega
  unfold pickO at h
  cases e : atN S n 2 with
  | none => rw [e] at h; exact key1 3 (.inr rfl) k h
  | some c =>
    rw [e] at h
    simp only at h
    split at h
    · cases h; exact key1 2 (.inl rfl) _ e
    · exact key1 3 (.inr rfl) k h
/-- a grove of a version -/
def grvO (S : Sh) (o : Option Nat) : Gv := match o with
  | none => (0, 0, [], [])
  | some k => (S.l.getD k vg0).2
/-- what is wrong with a question, what is told: the value and the version's number -/
def scF (S : Sh) (i : Int) (n : List Nat) (r : List Int) (key tok : Int) : Int :=
  if timeB tok = false then 1 else if i < tok then 6 else if pickF S n key ≠ 0 then pickF S n key else standF (grvO S (pickO S n key)) r
def scV (S : Sh) (i : Int) (n : List Nat) (r : List Int) (key tok : Int) : Int × Int × Int :=
  if scF S i n r key tok ≠ 0 then (0, 0, 0) else (evalG (grvO S (pickO S n key)) r, (pickV S n key).num, i)
/-- what is kept: behind a version that was asked for -/
def kpK {α : Type} (same : α → Bool) (l : List α) (x : α) : List α := (if (l.filter fun y => !same y).length = 4 then (l.filter fun y => !same y).drop 1 else l.filter fun y => !same y) ++ [x]
theorem kpK_le {α : Type} (same : α → Bool) (l : List α) (x : α) (h : l.length ≤ 4) : (kpK same l x).length ≤ 4 := by
  have := List.length_filter_le (fun y => !same y) l
  unfold kpK
  split
  · rw [List.length_append, List.length_drop]; simp; omega
  · rw [List.length_append]; simp; omega
theorem kpK_mem {α : Type} {same : α → Bool} {l : List α} {x y : α} (h : y ∈ kpK same l x) : y ∈ l ∨ y = x := by
  unfold kpK at h
  rcases List.mem_append.1 h with z | z
  · left
    split at z
    · exact (List.mem_filter.1 (List.mem_of_mem_drop z)).1
    · exact (List.mem_filter.1 z).1
  · right
    simpa using z
end Go.Proofs.YtjjfmepinpmkfaaGreatDoor.M
