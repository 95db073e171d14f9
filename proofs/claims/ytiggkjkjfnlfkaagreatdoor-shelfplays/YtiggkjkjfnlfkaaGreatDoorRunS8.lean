/-
  Several texts as one: MathHb, MathHc, MathHd, MathHe.
-/
import Derived.Test.YtiggkjkjfnlfkaaGreatDoorRunS7
namespace Go.Proofs.YtiggkjkjfnlfkaaGreatDoor.M
set_option linter.unusedVariables false
/-- of two versions of one name that are live, or canaries, there is one -/
def oneV (a b : Vn × Gv) : Prop := ¬ (a.1.name = b.1.name ∧ a.1.stage = b.1.stage ∧ (a.1.stage = 3 ∨ a.1.stage = 2))
def shrV (v : Vn × Gv) : Prop := (0 < v.1.share ↔ v.1.stage = 2)
structure ShOk (s : Sh) : Prop where
  one : ∀ i j d, i < j → j < s.l.length → oneV (s.l.getD i d) (s.l.getD j d)
  shr : ∀ i d, i < s.l.length → shrV (s.l.getD i d)
  i0 : 0 ≤ s.idx
  ans : ∀ d ∈ s.done, d.bad = 0 → 1 ≤ d.ans.idx ∧ d.ans.idx ≤ s.idx
theorem ok_zero : ShOk sh0 := ⟨fun i j d h1 h2 => by simp [sh0] at h2, (fun i d hi => by simp [sh0] at hi), Int.le_refl _, (fun d hd => by cases hd)⟩
theorem find_none {α : Type} (p : α → Bool) : ∀ (l : List α) (k : Nat), findN p l k = none → ∀ x ∈ l, p x = false
  | [], k, _, x, hx => by cases hx
  | y :: l, k, h, x, hx => by
    unfold findN at h
    by_cases q : p y = true
    · rw [if_pos q] at h; cases h
    · rw [if_neg q] at h
      rcases List.mem_cons.1 hx with rfl | hx
      · simpa using q
      · exact find_none p l (k + 1) h x hx
theorem mod_at {α : Type} {l : List α} {f : α → α} {k i : Nat} {d : α} (h : i < l.length) : (l.modify k f).getD i d = if k = i then f (l.getD i d) else l.getD i d := by
  have h' : i < (l.modify k f).length := by rw [List.length_modify]; exact h
  rw [List.getD, List.getElem?_eq_getElem h', List.getD, List.getElem?_eq_getElem h]
  show (l.modify k f)[i] = if k = i then f l[i] else l[i]
  rw [List.getElem_modify]

def oneL (l : List (Vn × Gv)) : Prop := ∀ i j d, i < j → j < l.length → oneV (l.getD i d) (l.getD j d)
def shrL (l : List (Vn × Gv)) : Prop := ∀ i d, i < l.length → shrV (l.getD i d)
theorem one_app {l : List (Vn × Gv)} (h : oneL l) {x : Vn × Gv} (h1 : x.1.stage = 1) : oneL (l ++ [x]) := by
  intro i j d hij hj
  rw [List.length_append, List.length_singleton] at hj
  by_cases q : j < l.length
  · have e1 : (l ++ [x]).getD i d = l.getD i d := by simp [List.getD, List.getElem?_append_left (show i < l.length by omega)]
    have e2 : (l ++ [x]).getD j d = l.getD j d := by simp [List.getD, List.getElem?_append_left q]
    rw [e1, e2]
    exact h i j d hij q
  · have ej : j = l.length := by omega
    have e2 : (l ++ [x]).getD j d = x := by rw [ej]; simp [List.getD]
    rw [e2]
    rintro ⟨_, b, c⟩
    rw [b, h1] at c
    omega
theorem shr_app {l : List (Vn × Gv)} (h : shrL l) {x : Vn × Gv} (hx : shrV x) : shrL (l ++ [x]) := by
  intro i d hi
  rw [List.length_append, List.length_singleton] at hi
  by_cases q : i < l.length
  · have e1 : (l ++ [x]).getD i d = l.getD i d := by simp [List.getD, List.getElem?_append_left q]
    rw [e1]
    exact h i d q
  · have ej : i = l.length := by omega
    have e2 : (l ++ [x]).getD i d = x := by rw [ej]; simp [List.getD]
    rw [e2]
    exact hx
theorem one_set {l : List (Vn × Gv)} (h : oneL l) {k : Nat} {st sh : Int} (hk : k < l.length) (hn : (st = 3 ∨ st = 2) → ∀ i d, i < l.length → i ≠ k → ¬ ((l.getD i d).1.name = (l.getD k d).1.name ∧ (l.getD i d).1.stage = st)) : oneL (setV l k st sh) := by
  intro i j d hij hj
  unfold setV at hj ⊢
  rw [List.length_modify] at hj
  rw [mod_at (show i < l.length by omega), mod_at hj]
  by_cases q1 : k = i
  · subst q1
    rw [if_pos rfl, if_neg (by omega)]
    rintro ⟨a, b, c⟩
    exact hn c j d hj (by omega) ⟨a.symm, b.symm⟩
  · rw [if_neg q1]
    by_cases q2 : k = j
    · subst q2
      rw [if_pos rfl]
      rintro ⟨a, b, c⟩
      have b' : (l.getD i d).1.stage = st := b
      rw [b'] at c
      exact hn c i d (by omega) (by omega) ⟨a, b'⟩
    · rw [if_neg q2]
      exact h i j d hij hj
theorem shr_set {l : List (Vn × Gv)} (h : shrL l) {k : Nat} {st sh : Int} (hs : 0 < sh ↔ st = 2) : shrL (setV l k st sh) := by
  intro i d hi
  unfold setV at hi ⊢
  rw [List.length_modify] at hi
  rw [mod_at hi]
  by_cases q : k = i
  · rw [if_pos q]; exact hs
  · rw [if_neg q]; exact h i d hi
theorem gone_one {l : List (Vn × Gv)} (h : oneL l) (o : Nat) : oneL (setS l o 4) := by
  intro i j d hij hj
  unfold setS at hj ⊢
  rw [List.length_modify] at hj
  rw [mod_at (show i < l.length by omega), mod_at hj]
  by_cases q1 : o = i
  · subst q1
    rw [if_pos rfl, if_neg (by omega)]
    rintro ⟨a, b, c⟩
    have c' : (4 : Int) = 3 ∨ (4 : Int) = 2 := c
    omega
  · rw [if_neg q1]
    by_cases q2 : o = j
    · subst q2
      rw [if_pos rfl]
      rintro ⟨a, b, c⟩
      have b' : (l.getD i d).1.stage = 4 := b
      rw [b'] at c
      omega
    · rw [if_neg q2]
      exact h i j d hij hj
theorem gone_shr {l : List (Vn × Gv)} (h : shrL l) {o : Nat} (ho : ∀ d, (l.getD o d).1.stage = 3) : shrL (setS l o 4) := by
  intro i d hi
  unfold setS at hi ⊢
  rw [List.length_modify] at hi
  rw [mod_at hi]
  by_cases q : o = i
  · subst q
    rw [if_pos rfl]
    have a := h o d hi
    have b := ho d
    unfold shrV at a ⊢
    show 0 < (l.getD o d).1.share ↔ (4 : Int) = 2
    rw [a, b]
    decide
  · rw [if_neg q]; exact h i d hi
/-- what a call does keeps it so -/
theorem act_ok {s : Sh} (h1 : oneL s.l) (h2 : shrL s.l) (c : Ca) : oneL (act s c).2.2 ∧ shrL (act s c).2.2 := by
  unfold act
  by_cases w1 : c.what = 1
  · rw [if_pos w1]
    by_cases e : (decF c.bys).2 ≠ 0
    · rw [if_pos e]; exact ⟨h1, h2⟩
    · rw [if_neg e]
      by_cases f : many s c.name = 0 ∧ 8 ≤ names s
      · rw [if_pos f]; exact ⟨h1, h2⟩
      · rw [if_neg f]
        refine ⟨one_app h1 rfl, shr_app h2 ?_⟩
        show (0 : Int) < 0 ↔ (1 : Int) = 2
        decide
  · rw [if_neg w1]
    cases hv : verN s c.name c.num with
    | none => exact ⟨h1, h2⟩
    | some k =>
      obtain ⟨_, hk, hp⟩ := find_more _ s.l 0 k hv
      rw [Nat.sub_zero] at hk hp
      have hkn : ∀ d, (s.l.getD k d).1.name = c.name := fun d => (of_decide_eq_true (hp d)).1
      simp only
      by_cases w2 : c.what = 2
      · rw [if_pos w2]
        by_cases a1 : c.share < 1 ∨ 99 < c.share
        · rw [if_pos a1]; exact ⟨h1, h2⟩
        · rw [if_neg a1]
          by_cases a2 : (s.l.map fun v => v.1.stage).getD k 0 ≠ 1
          · rw [if_pos a2]; exact ⟨h1, h2⟩
          · rw [if_neg a2]
            by_cases a3 : (atN s c.name 2).isSome = true
            · rw [if_pos a3]; exact ⟨h1, h2⟩
            · rw [if_neg a3]
              have no : atN s c.name 2 = none := by cases q : atN s c.name 2 with | none => rfl | some _ => rw [q] at a3; exact absurd rfl a3
              refine ⟨one_set h1 hk fun _ i d hi _ => ?_, shr_set h2 (by constructor <;> intro <;> omega)⟩
              have := find_none _ s.l 0 no (s.l.getD i d) (by rw [List.getD, List.getElem?_eq_getElem hi]; exact List.getElem_mem hi)
              rw [hkn d]
              exact of_decide_eq_false this
      · rw [if_neg w2]
        by_cases w3 : c.what = 3
        · rw [if_pos w3]
          by_cases b1 : (s.l.map fun v => v.1.stage).getD k 0 ≠ 1 ∧ (s.l.map fun v => v.1.stage).getD k 0 ≠ 2
          · rw [if_pos b1]; exact ⟨h1, h2⟩
          · rw [if_neg b1]
            cases ho : atN s c.name 3 with
            | none =>
              refine ⟨one_set h1 hk fun _ i d hi _ => ?_, shr_set h2 (by decide)⟩
              have := find_none _ s.l 0 ho (s.l.getD i d) (by rw [List.getD, List.getElem?_eq_getElem hi]; exact List.getElem_mem hi)
              rw [hkn d]
              exact of_decide_eq_false this
            | some o =>
              obtain ⟨_, hol, hop⟩ := find_more _ s.l 0 o ho
              rw [Nat.sub_zero] at hol hop
              have on : ∀ d, (s.l.getD o d).1.name = c.name ∧ (s.l.getD o d).1.stage = 3 := fun d => of_decide_eq_true (hop d)
              have g1 := gone_one h1 o
              have g2 := gone_shr h2 (fun d => (on d).2)
              have gl : (setS s.l o 4).length = s.l.length := by unfold setS; rw [List.length_modify]
              refine ⟨one_set g1 (by rw [gl]; exact hk) fun _ i d hi hne => ?_, shr_set g2 (by decide)⟩
              rw [gl] at hi
              unfold setS
              rw [mod_at hi, mod_at hk]
              rintro ⟨x, y⟩
              by_cases q : o = i
              · rw [if_pos q] at y
                have y' : (4 : Int) = 3 := y
                omega
              · rw [if_neg q] at x y
                have x' : (s.l.getD i d).1.name = c.name := by
                  rw [x]
                  split
                  · exact hkn d
                  · exact hkn d
                rcases Nat.lt_or_gt_of_ne q with z | z
                · exact h1 o i d z hi ⟨by rw [(on d).1, x'], by rw [(on d).2, y], .inl (on d).2⟩
                · exact h1 i o d z hol ⟨by rw [(on d).1, x'], by rw [(on d).2, y], .inl y⟩
        · rw [if_neg w3]
          by_cases b4 : (s.l.map fun v => v.1.stage).getD k 0 = 4
          · rw [if_pos b4]; exact ⟨h1, h2⟩
          · rw [if_neg b4]
            exact ⟨one_set h1 hk (fun q => by omega), shr_set h2 (by decide)⟩

/-- a call keeps it so; its answer is within what was done; it counts once at most -/
theorem do_ok {s : Sh} (h : ShOk s) (c : Ca) : ShOk (shDo s c).2.2 ∧ ((shDo s c).2.1 = 0 → 1 ≤ (shDo s c).1.idx ∧ (shDo s c).1.idx ≤ (shDo s c).2.2.idx) ∧ s.idx ≤ (shDo s c).2.2.idx ∧ (shDo s c).2.2.idx ≤ s.idx + 1 := by
  obtain ⟨o1, o2⟩ := act_ok h.one h.shr c
  have i0 := h.i0
  by_cases f : callF c = 0
  case neg =>
    have e : shDo s c = (an0, callF c, s) := by unfold shDo; rw [if_pos f]
    rw [e]
    exact ⟨h, fun q => absurd q f, Int.le_refl _, by show s.idx ≤ s.idx + 1; omega⟩
  have new : ∀ D : List Dn, (∀ d ∈ D, d ∈ s.done ∨ d = ⟨c.ses, c.seq, if (act s c).2.1 = 0 then ⟨(act s c).1, s.idx + 1⟩ else an0, (act s c).2.1⟩) → ShOk ⟨s.idx + 1, (act s c).2.2, D⟩ := fun D hD => by
    refine ⟨o1, o2, by show 0 ≤ s.idx + 1; omega, fun d hd hb => ?_⟩
    show 1 ≤ d.ans.idx ∧ d.ans.idx ≤ s.idx + 1
    rcases hD d hd with q | q
    · have := h.ans d q hb
      exact ⟨this.1, by omega⟩
    · subst q
      have hb' : (act s c).2.1 = 0 := hb
      show 1 ≤ (if (act s c).2.1 = 0 then (⟨(act s c).1, s.idx + 1⟩ : An) else an0).idx ∧ (if (act s c).2.1 = 0 then (⟨(act s c).1, s.idx + 1⟩ : An) else an0).idx ≤ s.idx + 1
      rw [if_pos hb']
      exact ⟨by show 1 ≤ s.idx + 1; omega, Int.le_refl _⟩
  have ind : (act s c).2.1 = 0 → 1 ≤ (if (act s c).2.1 = 0 then (⟨(act s c).1, s.idx + 1⟩ : An) else an0).idx ∧ (if (act s c).2.1 = 0 then (⟨(act s c).1, s.idx + 1⟩ : An) else an0).idx ≤ s.idx + 1 := fun q => by
    rw [if_pos q]
    exact ⟨by show 1 ≤ s.idx + 1; omega, Int.le_refl _⟩
  cases hl : lastN s c.ses with
  | none =>
    have e : shDo s c = (if (act s c).2.1 = 0 then ⟨(act s c).1, s.idx + 1⟩ else an0, (act s c).2.1, ⟨s.idx + 1, (act s c).2.2, s.done ++ [⟨c.ses, c.seq, if (act s c).2.1 = 0 then ⟨(act s c).1, s.idx + 1⟩ else an0, (act s c).2.1⟩]⟩) := by
      unfold shDo; rw [if_neg (by simp [f]), hl]
    rw [e]
    exact ⟨new _ fun d hd => by simpa using hd, ind, by show s.idx ≤ s.idx + 1; omega, Int.le_refl _⟩
  | some k =>
    obtain ⟨h1, h2, h3⟩ := find_more _ s.done 0 k hl
    rw [Nat.sub_zero] at h2 h3
    by_cases q1 : (s.done.getD k ⟨0, 0, an0, 0⟩).seq = c.seq
    · have e : shDo s c = ((s.done.getD k ⟨0, 0, an0, 0⟩).ans, (s.done.getD k ⟨0, 0, an0, 0⟩).bad, s) := by
        unfold shDo; rw [if_neg (by simp [f]), hl]; simp only [q1, if_true]
      rw [e]
      exact ⟨h, fun q => h.ans _ (by rw [List.getD, List.getElem?_eq_getElem h2]; exact List.getElem_mem h2) q, Int.le_refl _, by show s.idx ≤ s.idx + 1; omega⟩
    · by_cases q2 : c.seq < (s.done.getD k ⟨0, 0, an0, 0⟩).seq
      · have e : shDo s c = (an0, 6, s) := by
          unfold shDo; rw [if_neg (by simp [f]), hl]; simp only [if_neg q1, if_pos q2]
        rw [e]
        exact ⟨h, (fun q => by cases q), Int.le_refl _, by show s.idx ≤ s.idx + 1; omega⟩
      · have e : shDo s c = (if (act s c).2.1 = 0 then ⟨(act s c).1, s.idx + 1⟩ else an0, (act s c).2.1, ⟨s.idx + 1, (act s c).2.2, s.done.set k ⟨c.ses, c.seq, if (act s c).2.1 = 0 then ⟨(act s c).1, s.idx + 1⟩ else an0, (act s c).2.1⟩⟩) := by
          unfold shDo; rw [if_neg (by simp [f]), hl]; simp only [if_neg q1, if_neg q2]
        rw [e]
        exact ⟨new _ fun d hd => (List.mem_or_eq_of_mem_set hd), ind, by show s.idx ≤ s.idx + 1; omega, Int.le_refl _⟩
/-! ### which name is ahead -/
def nmLt : List Nat → List Nat → Bool
  | [], [] => false
  | [], _ :: _ => true
  | _ :: _, [] => false
  | a :: x, b :: y => if a < b then true else if b < a then false else nmLt x y
theorem nm_irr : ∀ a, nmLt a a = false
  | [] => rfl
  | a :: x => by
    show (if a < a then true else if a < a then false else nmLt x x) = false
    rw [if_neg (Nat.lt_irrefl _), if_neg (Nat.lt_irrefl _)]
    exact nm_irr x
theorem nm_total : ∀ a b, a ≠ b → nmLt a b = true ∨ nmLt b a = true
  | [], [], h => absurd rfl h
  | [], _ :: _, _ => .inl rfl
  | _ :: _, [], _ => .inr rfl
  | a :: x, b :: y, h => by
    show (if a < b then true else if b < a then false else nmLt x y) = true ∨ (if b < a then true else if a < b then false else nmLt y x) = true
    by_cases p : a < b
    · exact .inl (by rw [if_pos p])
    · by_cases q : b < a
      · exact .inr (by rw [if_pos q])
      · have e : a = b := by omega
        rw [if_neg p, if_neg q, if_neg q, if_neg p]
        exact nm_total x y (fun z => h (by rw [e, z]))
theorem nm_trans : ∀ a b c, nmLt a b = true → nmLt b c = true → nmLt a c = true
  | [], [], _, h, _ => by cases h
  | [], _ :: _, [], _, h => by cases h
  | [], _ :: _, _ :: _, _, _ => rfl
  | _ :: _, [], _, h, _ => by cases h
  | _ :: _, _ :: _, [], _, h => by cases h
  | a :: x, b :: y, c :: z, h1, h2 => by
    have h1 : (if a < b then true else if b < a then false else nmLt x y) = true := h1
    have h2 : (if b < c then true else if c < b then false else nmLt y z) = true := h2
    show (if a < c then true else if c < a then false else nmLt x z) = true
    by_cases p : a < b
    · by_cases q : b < c
      · rw [if_pos (by omega)]
      · by_cases r : c < b
        · rw [if_neg q, if_pos r] at h2; cases h2
        · rw [if_pos (by omega)]
    · by_cases p' : b < a
      · rw [if_neg p, if_pos p'] at h1; cases h1
      · rw [if_neg p, if_neg p'] at h1
        by_cases q : b < c
        · rw [if_pos (by omega)]
        · by_cases r : c < b
          · rw [if_neg q, if_pos r] at h2; cases h2
          · rw [if_neg q, if_neg r] at h2
            rw [if_neg (by omega), if_neg (by omega)]
            exact nm_trans x y z h1 h2
theorem nm_asym {a b : List Nat} (h : nmLt a b = true) : nmLt b a = false := by
  cases q : nmLt b a with
  | false => rfl
  | true => have := nm_trans a b a h q; rw [nm_irr] at this; cases this
/-! ### which version is -/
def vLt (a b : Vn) : Bool := nmLt a.name b.name || (decide (a.name = b.name) && decide (a.num < b.num))
theorem v_asym {a b : Vn} (h : vLt a b = true) : vLt b a = false := by
  unfold vLt at h ⊢
  rw [Bool.or_eq_true] at h
  rcases h with h | h
  · rw [nm_asym h]
    have : b.name ≠ a.name := fun e => by rw [e, nm_irr] at h; cases h
    rw [decide_eq_false this]
    rfl
  · rw [Bool.and_eq_true, decide_eq_true_iff, decide_eq_true_iff] at h
    rw [h.1, nm_irr, decide_eq_false (show ¬ b.num < a.num by omega)]
    simp
theorem v_trans {a b c : Vn} (h1 : vLt a b = true) (h2 : vLt b c = true) : vLt a c = true := by
  unfold vLt at h1 h2 ⊢
  rw [Bool.or_eq_true, Bool.and_eq_true, decide_eq_true_iff, decide_eq_true_iff] at h1 h2
  rw [Bool.or_eq_true, Bool.and_eq_true, decide_eq_true_iff, decide_eq_true_iff]
  rcases h1 with h1 | ⟨h1, k1⟩
  · rcases h2 with h2 | ⟨h2, k2⟩
    · exact .inl (nm_trans _ _ _ h1 h2)
    · exact .inl (by rw [← h2]; exact h1)
  · rcases h2 with h2 | ⟨h2, k2⟩
    · exact .inl (by rw [h1]; exact h2)
    · exact .inr ⟨h1.trans h2, by omega⟩
theorem v_total {a b : Vn} (h : ¬ (a.name = b.name ∧ a.num = b.num)) : vLt a b = true ∨ vLt b a = true := by
  unfold vLt
  by_cases e : a.name = b.name
  · by_cases q : a.num < b.num
    · exact .inl (by rw [decide_eq_true e, decide_eq_true q]; simp)
    · refine .inr ?_
      rw [decide_eq_true e.symm, decide_eq_true (show b.num < a.num by have : a.num ≠ b.num := fun z => h ⟨e, z⟩; omega)]
      simp
  · rcases nm_total _ _ e with q | q
    · exact .inl (by rw [q]; rfl)
    · exact .inr (by rw [q]; rfl)
/-- in that order one list alone -/
theorem v_only : ∀ {l r : List Vn}, l.Pairwise (fun a b => vLt a b = true) → r.Pairwise (fun a b => vLt a b = true) → (∀ x, x ∈ l ↔ x ∈ r) → l = r
  | [], [], _, _, _ => rfl
  | [], b :: r, _, _, h => absurd ((h b).2 (List.mem_cons_self ..)) (by simp)
  | a :: l, [], _, _, h => absurd ((h a).1 (List.mem_cons_self ..)) (by simp)
  | a :: l, b :: r, h1, h2, h => by
    obtain ⟨a1, a2⟩ := List.pairwise_cons.1 h1
    obtain ⟨b1, b2⟩ := List.pairwise_cons.1 h2
    have e : a = b := by
      rcases List.mem_cons.1 ((h a).1 (List.mem_cons_self ..)) with q | q
      · exact q
      · rcases List.mem_cons.1 ((h b).2 (List.mem_cons_self ..)) with p | p
        · exact p.symm
        · have x := v_asym (b1 a q)
          rw [a1 b p] at x
          cases x
    subst e
    rw [v_only a2 b2 fun x => ?_]
    constructor
    · intro hx
      rcases List.mem_cons.1 ((h x).1 (List.mem_cons_of_mem _ hx)) with q | q
      · subst q
        have := a1 x hx
        have y := v_asym this
        rw [this] at y
        cases y
      · exact q
    · intro hx
      rcases List.mem_cons.1 ((h x).2 (List.mem_cons_of_mem _ hx)) with q | q
      · subst q
        have := b1 x hx
        have y := v_asym this
        rw [this] at y
        cases y
      · exact q
def vn0 : Vn := ⟨[], 0, 0, 0⟩
/-- where it is put in -/
def kDown (out : List Vn) (v : Vn) : Nat → Nat
  | 0 => 0
  | k + 1 => if vLt v (out.getD k vn0) then kDown out v k else k + 1
theorem kd_le (out : List Vn) (v : Vn) : ∀ k, kDown out v k ≤ k
  | 0 => Nat.le_refl _
  | k + 1 => by
    show (if vLt v (out.getD k vn0) then kDown out v k else k + 1) ≤ k + 1
    split
    · have := kd_le out v k; omega
    · exact Nat.le_refl _
theorem kd_after (out : List Vn) (v : Vn) : ∀ k i, kDown out v k ≤ i → i < k → vLt v (out.getD i vn0) = true
  | 0, i, _, h => by omega
  | k + 1, i, h1, h2 => by
    have h1 : (if vLt v (out.getD k vn0) then kDown out v k else k + 1) ≤ i := h1
    by_cases q : vLt v (out.getD k vn0) = true
    · rw [if_pos q] at h1
      by_cases e : i = k
      · rw [e]; exact q
      · exact kd_after out v k i h1 (by omega)
    · rw [if_neg q] at h1; omega
theorem kd_ahead (out : List Vn) (v : Vn) : ∀ k, 0 < kDown out v k → vLt v (out.getD (kDown out v k - 1) vn0) = false
  | 0, h => by
    have h : 0 < 0 := h
    omega
  | k + 1, h => by
    have h : 0 < (if vLt v (out.getD k vn0) then kDown out v k else k + 1) := h
    show vLt v (out.getD ((if vLt v (out.getD k vn0) then kDown out v k else k + 1) - 1) vn0) = false
    by_cases q : vLt v (out.getD k vn0) = true
    · rw [if_pos q] at h ⊢
      exact kd_ahead out v k h
    · rw [if_neg q, Nat.add_sub_cancel]
      simpa using q
def insV (out : List Vn) (v : Vn) : List Vn := out.take (kDown out v out.length) ++ v :: out.drop (kDown out v out.length)
def SortV (l : List Vn) : Prop := l.Pairwise fun a b => vLt a b = true
theorem ins_mem {out : List Vn} {v x : Vn} : x ∈ insV out v ↔ x ∈ out ∨ x = v := by
  unfold insV
  rw [List.mem_append, List.mem_cons]
  constructor
  · rintro (h | h | h)
    · exact .inl (List.mem_of_mem_take h)
    · exact .inr h
    · exact .inl (List.mem_of_mem_drop h)
  · rintro (h | h)
    · rw [← List.take_append_drop (kDown out v out.length) out, List.mem_append] at h
      rcases h with h | h
      · exact .inl h
      · exact .inr (.inr h)
    · exact .inr (.inl h)
theorem ins_sort {out : List Vn} {v : Vn} (h : SortV out) (hk : ∀ x ∈ out, ¬ (x.name = v.name ∧ x.num = v.num)) : SortV (insV out v) := by
  unfold insV SortV
  have hle := kd_le out v out.length
  have ha := kd_after out v out.length
  have hb := kd_ahead out v out.length
  generalize kDown out v out.length = k at *
  rw [List.pairwise_append]
  refine ⟨List.Pairwise.sublist (List.take_sublist k out) h, ?_, ?_⟩
  · rw [List.pairwise_cons]
    refine ⟨fun y hy => ?_, List.Pairwise.sublist (List.drop_sublist k out) h⟩
    obtain ⟨i, hi, rfl⟩ := List.getElem_of_mem hy
    rw [List.length_drop] at hi
    rw [List.getElem_drop]
    have := ha (k + i) (by omega) (by omega)
    rwa [getD_at (by omega)] at this
  · intro x hx y hy
    obtain ⟨i, hi, rfl⟩ := List.getElem_of_mem hx
    rw [List.length_take] at hi
    rw [List.getElem_take]
    have xv : vLt out[i] v = true := by
      have p : 0 < k := by omega
      have q := hb p
      rw [getD_at (show k - 1 < out.length by omega)] at q
      have last : vLt (out[k - 1]'(by omega)) v = true := by
        rcases v_total (hk _ (List.getElem_mem (show k - 1 < out.length by omega))) with z | z
        · exact z
        · rw [z] at q; cases q
      by_cases e : i = k - 1
      · subst e; exact last
      · exact v_trans (List.pairwise_iff_getElem.1 h i (k - 1) (by omega) (by omega) (by omega)) last
    rcases List.mem_cons.1 hy with rfl | hy
    · exact xv
    · obtain ⟨j, hj, rfl⟩ := List.getElem_of_mem hy
      rw [List.length_drop] at hj
      rw [List.getElem_drop]
      exact List.pairwise_iff_getElem.1 h i (k + j) (by omega) (by omega) (by omega)
/-- all, one behind the other -/
def verK (l : List (Vn × Gv)) : Nat → List Vn
  | 0 => []
  | k + 1 => insV (verK l k) ((l.map (·.1)).getD k vn0)
def allS (s : Sh) : List Vn := verK s.l s.l.length
/-- of no name two have one number -/
def keyL (l : List (Vn × Gv)) : Prop := (l.map (·.1)).Pairwise fun a b => ¬ (a.name = b.name ∧ a.num = b.num)

theorem ver_spec {l : List (Vn × Gv)} (h : keyL l) : ∀ k, k ≤ l.length → SortV (verK l k) ∧ ∀ x, x ∈ verK l k ↔ ∃ i, i < k ∧ x = (l.map (·.1)).getD i vn0
  | 0, _ => ⟨List.Pairwise.nil, fun x => ⟨(fun hx => by cases hx), (fun ⟨i, hi, _⟩ => by omega)⟩⟩
  | k + 1, hk => by
    obtain ⟨h1, h2⟩ := ver_spec h k (by omega)
    refine ⟨ins_sort h1 fun x hx => ?_, fun x => ?_⟩
    · obtain ⟨i, hi, rfl⟩ := (h2 x).1 hx
      have a : i < (l.map (·.1)).length := by rw [List.length_map]; omega
      have b : k < (l.map (·.1)).length := by rw [List.length_map]; omega
      rw [getD_at a, getD_at b]
      exact List.pairwise_iff_getElem.1 h i k a b hi
    · show x ∈ insV _ _ ↔ _
      rw [ins_mem, h2]
      constructor
      · rintro (⟨i, hi, e⟩ | e)
        · exact ⟨i, by omega, e⟩
        · exact ⟨k, by omega, e⟩
      · rintro ⟨i, hi, e⟩
        by_cases q : i = k
        · subst q; exact .inr e
        · exact .inl ⟨i, by omega, e⟩
/-- by its order and by who is there it is known -/
theorem all_only {s : Sh} (h : keyL s.l) {r : List Vn} (hr : SortV r) (hm : ∀ x, x ∈ r ↔ ∃ i, i < s.l.length ∧ x = (s.l.map (·.1)).getD i vn0) : r = allS s :=
  v_only hr (ver_spec h _ (Nat.le_refl _)).1 fun x => by rw [hm]; exact ((ver_spec h _ (Nat.le_refl _)).2 x).symm
/-- names and numbers of versions, as they lie -/
def kyL (l : List (Vn × Gv)) : List (List Nat × Int) := l.map fun v => (v.1.name, v.1.num)
def cntY (l : List (List Nat × Int)) (n : List Nat) : Nat := (l.filter fun x => decide (x.1 = n)).length
/-- one behind the other -/
def numY (l : List (List Nat × Int)) : Prop := ∀ k d, k < l.length → (l.getD k d).2 = (cntY (l.take k) (l.getD k d).1 : Int) + 1
theorem many_is (s : Sh) (n : List Nat) : many s n = cntY (kyL s.l) n := by
  unfold many cntY kyL
  rw [List.filter_map, List.length_map]
  rfl
theorem num_app {l : List (List Nat × Int)} (h : numY l) (n : List Nat) : numY (l ++ [(n, (cntY l n : Int) + 1)]) := by
  intro k d hk
  rw [List.length_append, List.length_singleton] at hk
  by_cases q : k < l.length
  · have e1 : (l ++ [(n, (cntY l n : Int) + 1)]).getD k d = l.getD k d := by simp [List.getD, List.getElem?_append_left q]
    rw [e1, List.take_append_of_le_length (by omega)]
    exact h k d q
  · have ek : k = l.length := by omega
    subst ek
    have e1 : (l ++ [(n, (cntY l n : Int) + 1)]).getD l.length d = (n, (cntY l n : Int) + 1) := by simp [List.getD]
    rw [e1, List.take_append_of_le_length (Nat.le_refl _), List.take_length]
theorem cnt_mono (l : List (List Nat × Int)) (n : List Nat) {i j : Nat} (h : i ≤ j) : cntY (l.take i) n ≤ cntY (l.take j) n := by
  unfold cntY
  have : (l.take i).Sublist (l.take j) := List.take_sublist_take_left h
  exact (this.filter _).length_le
theorem cnt_step {l : List (List Nat × Int)} {n : List Nat} {i : Nat} (h : i < l.length) (hn : l[i].1 = n) : cntY (l.take (i + 1)) n = cntY (l.take i) n + 1 := by
  unfold cntY
  rw [List.take_succ_eq_append_getElem h, List.filter_append, List.length_append]
  congr 1
  rw [List.filter_cons, if_pos (decide_eq_true hn)]
  rfl
theorem key_num {l : List (List Nat × Int)} (h : numY l) : l.Pairwise fun a b => ¬ (a.1 = b.1 ∧ a.2 = b.2) := by
  rw [List.pairwise_iff_getElem]
  intro i j hi hj hij
  rintro ⟨e1, e2⟩
  have a := h i ([], 0) hi
  have b := h j ([], 0) hj
  rw [getD_at hi] at a
  rw [getD_at hj] at b
  have c := cnt_step hi rfl
  have m := cnt_mono l l[i].1 (show i + 1 ≤ j by omega)
  rw [← e1] at b
  omega
theorem key_ky {l : List (Vn × Gv)} (h : numY (kyL l)) : keyL l := by
  have := key_num h
  unfold keyL
  unfold kyL at this
  rw [List.pairwise_map] at this ⊢
  exact this
theorem ky_setV (l : List (Vn × Gv)) (k : Nat) (st sh : Int) : kyL (setV l k st sh) = kyL l := by
  unfold kyL setV
  refine List.ext_getElem (by rw [List.length_map, List.length_map, List.length_modify]) fun i h1 h2 => ?_
  rw [List.getElem_map, List.getElem_map, List.getElem_modify]
  split <;> rfl
theorem ky_setS (l : List (Vn × Gv)) (k : Nat) (st : Int) : kyL (setS l k st) = kyL l := by
  unfold kyL setS
  refine List.ext_getElem (by rw [List.length_map, List.length_map, List.length_modify]) fun i h1 h2 => ?_
  rw [List.getElem_map, List.getElem_map, List.getElem_modify]
  split <;> rfl
theorem act_num {s : Sh} (h : numY (kyL s.l)) (c : Ca) : numY (kyL (act s c).2.2) := by
  unfold act
  by_cases w1 : c.what = 1
  · rw [if_pos w1]
    by_cases e : (decF c.bys).2 ≠ 0
    · rw [if_pos e]; exact h
    · rw [if_neg e]
      by_cases f : many s c.name = 0 ∧ 8 ≤ names s
      · rw [if_pos f]; exact h
      · rw [if_neg f]
        have : kyL (s.l ++ [(⟨c.name, (many s c.name : Int) + 1, 1, 0⟩, decV c.bys)]) = kyL s.l ++ [(c.name, (cntY (kyL s.l) c.name : Int) + 1)] := by
          unfold kyL
          rw [List.map_append, many_is]
          rfl
        show numY (kyL (s.l ++ _))
        rw [this]
        exact num_app h c.name
  · rw [if_neg w1]
    cases hv : verN s c.name c.num with
    | none => exact h
    | some k =>
      simp only
      repeat' split
      all_goals first
        | exact h
        | (show numY (kyL (setV _ _ _ _)); rw [ky_setV]; exact h)
        | (show numY (kyL (setV (setS _ _ _) _ _ _)); rw [ky_setV, ky_setS]; exact h)
theorem do_num {s : Sh} (h : numY (kyL s.l)) (c : Ca) : numY (kyL (shDo s c).2.2.l) := by
  unfold shDo
  split
  · exact h
  · split
    · simp only
      repeat' split
      all_goals first
        | exact h
        | exact act_num h c
    · exact act_num h c
end Go.Proofs.YtiggkjkjfnlfkaaGreatDoor.M
