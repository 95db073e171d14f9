/-
  A shelf of versions as the document has it: what a call does, and what a call that comes again does; no condition beyond those named.
-/
import Derived.Test.YtnnhpbnnombpmaaDoorMathCb
namespace Go.Proofs.YtnnhpbnnombpmaaDoor.M
set_option linter.unusedVariables false

/-! ### calls, versions, what a session said last -/
structure Ca where
  what : Int
  ses : Int
  seq : Int
  name : List Nat
  num : Int
  share : Int
  bys : List Nat
structure Vn where
  name : List Nat
  num : Int
  stage : Int
  share : Int
structure An where
  num : Int
  idx : Int
structure Dn where
  ses : Int
  seq : Int
  ans : An
  bad : Int
structure Sh where
  idx : Int
  l : List (Vn × Gv)
  done : List Dn
def an0 : An := ⟨0, 0⟩
def sh0 : Sh := ⟨0, [], []⟩
def timeB (n : Int) : Bool := decide (0 ≤ n) && decide (n ≤ 1000000)
def letB (c : Nat) : Bool := decide (97 ≤ c) && decide (c ≤ 122)
def callF (c : Ca) : Int := if c.what < 1 ∨ 4 < c.what ∨ timeB c.ses = false ∨ timeB c.seq = false ∨ c.seq = 0 then 1 else if c.name = [] ∨ 12 < c.name.length then 2 else if c.name.all letB then 0 else 2
/-- the first that is so, or none -/
def findN {α : Type} (p : α → Bool) : List α → Nat → Option Nat
  | [], _ => none
  | x :: l, k => if p x then some k else findN p l (k + 1)
def lastN (s : Sh) (ses : Int) : Option Nat := findN (fun d : Dn => decide (d.ses = ses)) s.done 0
def atN (s : Sh) (name : List Nat) (stage : Int) : Option Nat := findN (fun v : Vn × Gv => decide (v.1.name = name ∧ v.1.stage = stage)) s.l 0
def verN (s : Sh) (name : List Nat) (num : Int) : Option Nat := findN (fun v : Vn × Gv => decide (v.1.name = name ∧ v.1.num = num)) s.l 0
def names (s : Sh) : Nat := (s.l.filter fun v => decide (v.1.num = 1)).length
def many (s : Sh) (name : List Nat) : Nat := (s.l.filter fun v => decide (v.1.name = name)).length
/-- a version turned -/
def setV (l : List (Vn × Gv)) (k : Nat) (stage share : Int) : List (Vn × Gv) := l.modify k fun v => (⟨v.1.name, v.1.num, stage, share⟩, v.2)
def setS (l : List (Vn × Gv)) (k : Nat) (stage : Int) : List (Vn × Gv) := l.modify k fun v => (⟨v.1.name, v.1.num, stage, v.1.share⟩, v.2)
/-- what a call does: the number, the fault, the versions then -/
def act (s : Sh) (c : Ca) : Int × Int × List (Vn × Gv) :=
  if c.what = 1 then
    if (decF c.bys).2 ≠ 0 then (0, (decF c.bys).2, s.l)
    else if many s c.name = 0 ∧ 8 ≤ names s then (0, 4, s.l)
    else ((many s c.name : Int) + 1, 0, s.l ++ [(⟨c.name, (many s c.name : Int) + 1, 1, 0⟩, decV c.bys)])
  else match verN s c.name c.num with
    | none => (0, 5, s.l)
    | some k =>
      let st := (s.l.map fun v => v.1.stage).getD k 0
      if c.what = 2 then
        if c.share < 1 ∨ 99 < c.share then (0, 1, s.l) else if st ≠ 1 then (0, 6, s.l) else if (atN s c.name 2).isSome then (0, 7, s.l) else (0, 0, setV s.l k 2 c.share)
      else if c.what = 3 then
        if st ≠ 1 ∧ st ≠ 2 then (0, 6, s.l)
        else match atN s c.name 3 with
          | none => (0, 0, setV s.l k 3 0)
          | some o => (0, 0, setV (setS s.l o 4) k 3 0)
      else if st = 4 then (0, 6, s.l) else (0, 0, setV s.l k 4 0)
def say (done : List Dn) (k : Option Nat) (d : Dn) : List Dn := match k with
  | none => done ++ [d]
  | some i => done.set i d
/-- a call: the answer, the fault, the shelf then -/
def shDo (s : Sh) (c : Ca) : An × Int × Sh :=
  if callF c ≠ 0 then (an0, callF c, s)
  else match lastN s c.ses with
    | some k =>
      let d := s.done.getD k ⟨0, 0, an0, 0⟩
      if d.seq = c.seq then (d.ans, d.bad, s) else if c.seq < d.seq then (an0, 6, s)
      else
        let r := act s c
        let a : An := if r.2.1 = 0 then ⟨r.1, s.idx + 1⟩ else an0
        (a, r.2.1, ⟨s.idx + 1, r.2.2, s.done.set k ⟨c.ses, c.seq, a, r.2.1⟩⟩)
    | none =>
      let r := act s c
      let a : An := if r.2.1 = 0 then ⟨r.1, s.idx + 1⟩ else an0
      (a, r.2.1, ⟨s.idx + 1, r.2.2, s.done ++ [⟨c.ses, c.seq, a, r.2.1⟩]⟩)

/-! ### found -/
theorem find_more {α : Type} (p : α → Bool) : ∀ (l : List α) (k j : Nat), findN p l k = some j → k ≤ j ∧ j - k < l.length ∧ (∀ d, p (l.getD (j - k) d) = true)
  | [], k, j, h => by cases h
  | x :: l, k, j, h => by
    unfold findN at h
    by_cases q : p x = true
    · rw [if_pos q] at h
      cases h
      refine ⟨Nat.le_refl _, by simp, fun d => ?_⟩
      rw [Nat.sub_self]
      exact q
    · rw [if_neg q] at h
      obtain ⟨h1, h2, h3⟩ := find_more p l (k + 1) j h
      refine ⟨by omega, by simp; omega, fun d => ?_⟩
      have e : j - k = (j - (k + 1)) + 1 := by omega
      rw [e]
      exact h3 d
theorem find_app {α : Type} (p : α → Bool) (x : α) (hx : p x = true) : ∀ (l : List α) (k : Nat), findN p l k = none → findN p (l ++ [x]) k = some (k + l.length)
  | [], k, _ => by
    show (if p x then some k else _) = _
    rw [if_pos hx]
    rfl
  | y :: l, k, h => by
    unfold findN at h
    by_cases q : p y = true
    · rw [if_pos q] at h; cases h
    · rw [if_neg q] at h
      show (if p y then some k else findN p (l ++ [x]) (k + 1)) = _
      rw [if_neg q, find_app p x hx l (k + 1) h, List.length_cons]
      congr 1
      omega
theorem find_set {α : Type} (p : α → Bool) (x : α) (hx : p x = true) : ∀ (l : List α) (k j : Nat), findN p l k = some j → findN p (l.set (j - k) x) k = some j
  | [], k, j, h => by cases h
  | y :: l, k, j, h => by
    unfold findN at h
    by_cases q : p y = true
    · rw [if_pos q] at h
      cases h
      rw [Nat.sub_self, List.set_cons_zero]
      show (if p x then some k else _) = _
      rw [if_pos hx]
    · rw [if_neg q] at h
      have := (find_more p l (k + 1) j h).1
      rw [show j - k = (j - (k + 1)) + 1 by omega, List.set_cons_succ]
      show (if p y then some k else findN p (l.set (j - (k + 1)) x) (k + 1)) = _
      rw [if_neg q]
      exact find_set p x hx l (k + 1) j h

/-! ### said again -/
theorem sh_again (s : Sh) (c : Ca) : shDo (shDo s c).2.2 c = ((shDo s c).1, (shDo s c).2.1, (shDo s c).2.2) := by
  by_cases f : callF c = 0
  case neg =>
    have e : shDo s c = (an0, callF c, s) := by unfold shDo; rw [if_pos f]
    rw [e]
    exact e
  cases hl : lastN s c.ses with
  | none =>
    have e : shDo s c = (if (act s c).2.1 = 0 then ⟨(act s c).1, s.idx + 1⟩ else an0, (act s c).2.1, ⟨s.idx + 1, (act s c).2.2, s.done ++ [⟨c.ses, c.seq, if (act s c).2.1 = 0 then ⟨(act s c).1, s.idx + 1⟩ else an0, (act s c).2.1⟩]⟩) := by
      unfold shDo; rw [if_neg (by simp [f]), hl]
    rw [e]
    generalize (if (act s c).2.1 = 0 then (⟨(act s c).1, s.idx + 1⟩ : An) else an0) = a
    have hk : lastN ⟨s.idx + 1, (act s c).2.2, s.done ++ [⟨c.ses, c.seq, a, (act s c).2.1⟩]⟩ c.ses = some (0 + s.done.length) := find_app _ _ (by simp) s.done 0 hl
    unfold shDo
    rw [if_neg (by simp [f]), hk]
    simp [List.getD]
  | some k =>
    obtain ⟨h1, h2, h3⟩ := find_more _ s.done 0 k hl
    rw [Nat.sub_zero] at h2 h3
    by_cases q1 : (s.done.getD k ⟨0, 0, an0, 0⟩).seq = c.seq
    · have e : shDo s c = ((s.done.getD k ⟨0, 0, an0, 0⟩).ans, (s.done.getD k ⟨0, 0, an0, 0⟩).bad, s) := by
        unfold shDo; rw [if_neg (by simp [f]), hl]; simp only [q1, if_true]
      rw [e]
      exact e
    · by_cases q2 : c.seq < (s.done.getD k ⟨0, 0, an0, 0⟩).seq
      · have e : shDo s c = (an0, 6, s) := by
          unfold shDo; rw [if_neg (by simp [f]), hl]; simp only [if_neg q1, if_pos q2]
        rw [e]
        exact e
      · have e : shDo s c = (if (act s c).2.1 = 0 then ⟨(act s c).1, s.idx + 1⟩ else an0, (act s c).2.1, ⟨s.idx + 1, (act s c).2.2, s.done.set k ⟨c.ses, c.seq, if (act s c).2.1 = 0 then ⟨(act s c).1, s.idx + 1⟩ else an0, (act s c).2.1⟩⟩) := by
          unfold shDo; rw [if_neg (by simp [f]), hl]; simp only [if_neg q1, if_neg q2]
        rw [e]
        generalize (if (act s c).2.1 = 0 then (⟨(act s c).1, s.idx + 1⟩ : An) else an0) = a
        have hk : lastN ⟨s.idx + 1, (act s c).2.2, s.done.set k ⟨c.ses, c.seq, a, (act s c).2.1⟩⟩ c.ses = some k := by
          have := find_set (fun d : Dn => decide (d.ses = c.ses)) ⟨c.ses, c.seq, a, (act s c).2.1⟩ (by simp) s.done 0 k hl
          rwa [Nat.sub_zero] at this
        unfold shDo
        rw [if_neg (by simp [f]), hk]
        simp [List.getD, h2]

end Go.Proofs.YtnnhpbnnombpmaaDoor.M
