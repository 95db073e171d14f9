/-
  Several texts as one: MathHf, MathHh, CaRd, InBox.
-/
import Derived.Test.YtiggkjkjfnlfkaaGreatDoorRunS8
import Derived.Test.YtiggkjkjfnlfkaaGreatDoorRunS1
import Derived.Test.YtiggkjkjfnlfkaaGreatDoorRunS7
namespace Go.Proofs.YtiggkjkjfnlfkaaGreatDoor.M
set_option linter.unusedVariables false
def vg0 : Vn × Gv := (⟨[], 0, 0, 0⟩, (0, 0, [], []))
/-- where a name's versions stand -/
def posK (l : List (Vn × Gv)) (n : List Nat) : Nat → List Nat
  | 0 => []
  | k + 1 => posK l n k ++ (if (l.getD k vg0).1.name = n then [k] else [])
def posL (l : List (Vn × Gv)) (n : List Nat) : List Nat := posK l n l.length
theorem posK_mem (l : List (Vn × Gv)) (n : List Nat) : ∀ k j, j ∈ posK l n k ↔ j < k ∧ (l.getD j vg0).1.name = n
  | 0, j => by simp [posK]
  | k + 1, j => by
    rw [posK, List.mem_append, posK_mem l n k j]
    by_cases q : (l.getD k vg0).1.name = n
    · rw [if_pos q, List.mem_singleton]
      constructor
      · rintro (⟨a, b⟩ | rfl)
        · exact ⟨by omega, b⟩
        · exact ⟨by omega, q⟩
      · rintro ⟨a, b⟩
        by_cases e : j = k
        · exact .inr e
        · exact .inl ⟨by omega, b⟩
    · rw [if_neg q]
      constructor
      · rintro (⟨a, b⟩ | h)
        · exact ⟨by omega, b⟩
        · cases h
      · rintro ⟨a, b⟩
        by_cases e : j = k
        · subst e; exact absurd b q
        · exact .inl ⟨by omega, b⟩
theorem pos_mem {l : List (Vn × Gv)} {n : List Nat} {j : Nat} : j ∈ posL l n ↔ j < l.length ∧ (l.getD j vg0).1.name = n := posK_mem l n l.length j
theorem posK_same {l r : List (Vn × Gv)} (n : List Nat) : ∀ k, (∀ j, j < k → (l.getD j vg0).1.name = (r.getD j vg0).1.name) → posK l n k = posK r n k
  | 0, _ => rfl
  | k + 1, h => by
    rw [posK, posK, posK_same n k (fun j hj => h j (by omega)), h k (by omega)]
theorem pos_app (l : List (Vn × Gv)) (x : Vn × Gv) (n : List Nat) : posL (l ++ [x]) n = posL l n ++ (if x.1.name = n then [l.length] else []) := by
  unfold posL
  rw [List.length_append, List.length_singleton, posK]
  have e : ((l ++ [x]).getD l.length vg0) = x := by simp [List.getD]
  rw [e, posK_same n l.length (r := l) (fun j hj => by simp [List.getD, List.getElem?_append_left hj])]
theorem getD_setV (l : List (Vn × Gv)) (k : Nat) (st sh : Int) {j : Nat} (hj : j < l.length) : (setV l k st sh).getD j vg0 = if k = j then (⟨(l.getD j vg0).1.name, (l.getD j vg0).1.num, st, sh⟩, (l.getD j vg0).2) else l.getD j vg0 := by
  unfold setV; exact mod_at hj
theorem len_setV (l : List (Vn × Gv)) (k : Nat) (st sh : Int) : (setV l k st sh).length = l.length := by unfold setV; rw [List.length_modify]
theorem pos_setV (l : List (Vn × Gv)) (k : Nat) (st sh : Int) (n : List Nat) : posL (setV l k st sh) n = posL l n := by
  unfold posL
  rw [len_setV]
  refine posK_same n _ (fun j hj => ?_)
  rw [getD_setV l k st sh hj]
  by_cases q : k = j
  · rw [if_pos q]
  · rw [if_neg q]
theorem posK_len (l : List (Vn × Gv)) (n : List Nat) : ∀ k, k ≤ l.length → (posK l n k).length = cntY ((kyL l).take k) n
  | 0, _ => by simp [posK, cntY]
  | k + 1, h => by
    have hk : k < (kyL l).length := by unfold kyL; rw [List.length_map]; omega
    have e : (kyL l)[k].1 = (l.getD k vg0).1.name := by simp [kyL, List.getD, show k < l.length by omega]
    rw [posK, List.length_append, posK_len l n k (by omega)]
    by_cases q : (l.getD k vg0).1.name = n
    · rw [if_pos q, cnt_step hk (e.trans q)]
      rfl
    · rw [if_neg q]
      unfold cntY
      rw [List.take_succ_eq_append_getElem hk, List.filter_append]
      have : List.filter (fun x : List Nat × Int => decide (x.1 = n)) [(kyL l)[k]] = [] := by
        rw [List.filter_cons_of_neg (by rw [e]; simpa using q)]; rfl
      rw [this, List.append_nil]
      rfl
theorem pos_len (s : Sh) (n : List Nat) : (posL s.l n).length = many s n := by
  rw [many_is]
  unfold posL
  rw [posK_len s.l n s.l.length (Nat.le_refl _)]
  have : (kyL s.l).length = s.l.length := by simp [kyL]
  rw [← this, List.take_length]
/-- the i-th of a name has the number i + 1 -/
theorem posK_num {l : List (Vn × Gv)} (h : numY (kyL l)) (n : List Nat) : ∀ k, k ≤ l.length → ∀ i, i < (posK l n k).length → (l.getD ((posK l n k).getD i 0) vg0).1.num = (i : Int) + 1
  | 0, _, i, hi => by simp [posK] at hi
  | k + 1, hk, i, hi => by
    by_cases q : (l.getD k vg0).1.name = n
    · rw [posK, if_pos q] at hi ⊢
      by_cases e : i < (posK l n k).length
      · have := posK_num h n k (by omega) i e
        rwa [show (posK l n k ++ [k]).getD i 0 = (posK l n k).getD i 0 by simp [List.getD, List.getElem?_append_left e]]
      · have ei : i = (posK l n k).length := by rw [List.length_append, List.length_singleton] at hi; omega
        rw [show (posK l n k ++ [k]).getD i 0 = k by rw [ei]; simp [List.getD]]
        have hk' : k < (kyL l).length := by unfold kyL; rw [List.length_map]; omega
        have hn := h k ([], 0) hk'
        have e1 : ((kyL l).getD k ([], 0)).2 = (l.getD k vg0).1.num := by simp [kyL, List.getD, show k < l.length by omega]
        have e2 : ((kyL l).getD k ([], 0)).1 = (l.getD k vg0).1.name := by simp [kyL, List.getD, show k < l.length by omega]
        rw [e1, e2, q] at hn
        rw [hn, ei, posK_len l n k (by omega)]
    · rw [posK, if_neg q, List.append_nil] at hi ⊢
      exact posK_num h n k (by omega) i hi
theorem pos_num {l : List (Vn × Gv)} (h : numY (kyL l)) (n : List Nat) {i : Nat} (hi : i < (posL l n).length) : (l.getD ((posL l n).getD i 0) vg0).1.num = (i : Int) + 1 := posK_num h n l.length (Nat.le_refl _) i hi
theorem find_some {α : Type} (p : α → Bool) (d : α) : ∀ (l : List α) (k j : Nat), j < l.length → p (l.getD j d) = true → (∀ i, i < j → p (l.getD i d) = false) → findN p l k = some (k + j)
  | [], k, j, h, _, _ => by simp at h
  | x :: l, k, 0, h, hp, _ => by
    have hp : p x = true := hp
    show (if p x then some k else _) = _
    rw [if_pos hp]
    rfl
  | x :: l, k, j + 1, h, hp, hn => by
    have h0 : p x = false := hn 0 (by omega)
    show (if p x then some k else findN p l (k + 1)) = _
    rw [if_neg (by rw [h0]; decide), find_some p d l (k + 1) j (by simpa using h) hp (fun i hi => hn (i + 1) (by omega))]
    congr 1
    omega
theorem find_no {α : Type} (p : α → Bool) : ∀ (l : List α) (k : Nat), (∀ x ∈ l, p x = false) → findN p l k = none
  | [], k, _ => rfl
  | x :: l, k, h => by
    show (if p x then some k else findN p l (k + 1)) = _
    rw [if_neg (by rw [h x (List.mem_cons_self ..)]; decide), find_no p l (k + 1) (fun y hy => h y (List.mem_cons_of_mem _ hy))]
theorem mem_getD {α : Type} {l : List α} {x : α} (d : α) (h : x ∈ l) : ∃ i, i < l.length ∧ l.getD i d = x := by
  obtain ⟨i, hi, e⟩ := List.getElem_of_mem h
  exact ⟨i, hi, by rw [List.getD, List.getElem?_eq_getElem hi]; exact e⟩
/-- a version by its number is that at its place -/
theorem ver_pos {s : Sh} (h : numY (kyL s.l)) (n : List Nat) (num : Int) : verN s n num = if 1 ≤ num ∧ num ≤ (posL s.l n).length then some ((posL s.l n).getD (num - 1).toNat 0) else none := by
  by_cases q : 1 ≤ num ∧ num ≤ (posL s.l n).length
  · rw [if_pos q]
    obtain ⟨i, hi⟩ : ∃ i : Nat, num = (i : Int) + 1 := ⟨(num - 1).toNat, by omega⟩
    subst hi
    have il : i < (posL s.l n).length := by omega
    rw [show ((i : Int) + 1 - 1).toNat = i by omega]
    have nm := pos_num h n il
    have mem : (posL s.l n).getD i 0 ∈ posL s.l n := by
      rw [List.getD, List.getElem?_eq_getElem il]; exact List.getElem_mem il
    obtain ⟨k1, k2⟩ := pos_mem.1 mem
    generalize (posL s.l n).getD i 0 = j at *
    unfold verN
    have ky := key_ky h
    refine (find_some _ vg0 s.l 0 j k1 (decide_eq_true ⟨k2, nm⟩) (fun i' hi' => decide_eq_false (fun z => ?_))).trans (by rw [Nat.zero_add])
    unfold keyL at ky
    rw [List.pairwise_iff_getElem] at ky
    have := ky i' j (by rw [List.length_map]; omega) (by rw [List.length_map]; omega) hi'
    apply this
    have e1 : (s.l.map (·.1))[i']'(by rw [List.length_map]; omega) = (s.l.getD i' vg0).1 := by simp [List.getD, show i' < s.l.length by omega]
    have e2 : (s.l.map (·.1))[j]'(by rw [List.length_map]; omega) = (s.l.getD j vg0).1 := by simp [List.getD, k1]
    rw [e1, e2]
    exact ⟨z.1.trans k2.symm, z.2.trans nm.symm⟩
  · rw [if_neg q]
    unfold verN
    refine find_no _ _ _ (fun x hx => decide_eq_false (fun z => q ?_))
    obtain ⟨j, hj, ej⟩ := mem_getD vg0 hx
    have mem : j ∈ posL s.l n := pos_mem.2 ⟨hj, by rw [ej]; exact z.1⟩
    obtain ⟨i, hi, ei⟩ := mem_getD 0 mem
    have := pos_num h n hi
    rw [ei, ej, z.2] at this
    omega
/-- who is at a stage, where no two are -/
theorem at_some {s : Sh} (h : oneL s.l) {n : List Nat} {st : Int} (hs : st = 3 ∨ st = 2) {k : Nat} (hk : k < s.l.length) (h1 : (s.l.getD k vg0).1.name = n) (h2 : (s.l.getD k vg0).1.stage = st) : atN s n st = some k := by
  unfold atN
  refine (find_some _ vg0 s.l 0 k hk (decide_eq_true ⟨h1, h2⟩) (fun i hi => decide_eq_false (fun z => ?_))).trans (by rw [Nat.zero_add])
  exact h i k vg0 hi hk ⟨z.1.trans h1.symm, z.2.trans h2.symm, by rw [z.2]; exact hs⟩
theorem at_is {s : Sh} {n : List Nat} {st : Int} {k : Nat} (h : atN s n st = some k) : k < s.l.length ∧ (s.l.getD k vg0).1.name = n ∧ (s.l.getD k vg0).1.stage = st := by
  obtain ⟨_, h2, h3⟩ := find_more _ s.l 0 k h
  rw [Nat.sub_zero] at h2 h3
  exact ⟨h2, of_decide_eq_true (h3 vg0)⟩
theorem at_not {s : Sh} {n : List Nat} {st : Int} (h : atN s n st = none) {k : Nat} (hk : k < s.l.length) : ¬ ((s.l.getD k vg0).1.name = n ∧ (s.l.getD k vg0).1.stage = st) := by
  have := find_none _ s.l 0 h (s.l.getD k vg0) (by rw [List.getD, List.getElem?_eq_getElem hk]; exact List.getElem_mem hk)
  exact of_decide_eq_false this
theorem at_none {s : Sh} {n : List Nat} {st : Int} (h : ∀ k, k < s.l.length → ¬ ((s.l.getD k vg0).1.name = n ∧ (s.l.getD k vg0).1.stage = st)) : atN s n st = none := by
  unfold atN
  refine find_no _ _ _ (fun x hx => decide_eq_false ?_)
  obtain ⟨j, hj, ej⟩ := mem_getD vg0 hx
  rw [← ej]
  exact h j hj
/-- behind a version that was turned -/
theorem at_set {s : Sh} (h : oneL s.l) {k : Nat} {st sh : Int} (hk : k < s.l.length) (i i' : Int) (ds : List Dn) (h' : oneL (setV s.l k st sh)) {n : List Nat} {st' : Int} (hs : st' = 3 ∨ st' = 2) :
    atN ⟨i', setV s.l k st sh, ds⟩ n st' = if (s.l.getD k vg0).1.name = n then (if st = st' then some k else if atN s n st' = some k then none else atN s n st') else atN s n st' := by
  have gd : ∀ j, j < s.l.length → (setV s.l k st sh).getD j vg0 = if k = j then (⟨(s.l.getD j vg0).1.name, (s.l.getD j vg0).1.num, st, sh⟩, (s.l.getD j vg0).2) else s.l.getD j vg0 := fun j hj => getD_setV s.l k st sh hj
  have ln := len_setV s.l k st sh
  have stay : (s.l.getD k vg0).1.name ≠ n ∨ (st ≠ st' ∧ atN s n st' ≠ some k) → atN ⟨i', setV s.l k st sh, ds⟩ n st' = atN s n st' := fun hne => by
    cases e : atN s n st' with
    | none =>
      refine at_none (fun j hj => ?_)
      have hj' : j < s.l.length := by rw [← ln]; exact hj
      show ¬ (((setV s.l k st sh).getD j vg0).1.name = n ∧ ((setV s.l k st sh).getD j vg0).1.stage = st')
      rw [gd j hj']
      by_cases q : k = j
      · rw [if_pos q]
        subst q
        rintro ⟨a, b⟩
        rcases hne with z | ⟨z, _⟩
        · exact z a
        · exact z b
      · rw [if_neg q]
        exact at_not e hj'
    | some o =>
      obtain ⟨o1, o2, o3⟩ := at_is e
      have ok : k ≠ o := fun z => by
        subst z
        rcases hne with z | ⟨_, z⟩
        · exact z o2
        · exact z e
      refine at_some h' hs (by show o < (setV s.l k st sh).length; rw [ln]; exact o1) ?_ ?_
      · show ((setV s.l k st sh).getD o vg0).1.name = n
        rw [gd o o1, if_neg ok]; exact o2
      · show ((setV s.l k st sh).getD o vg0).1.stage = st'
        rw [gd o o1, if_neg ok]; exact o3
  by_cases q : (s.l.getD k vg0).1.name = n
  · rw [if_pos q]
    by_cases q2 : st = st'
    · rw [if_pos q2]
      refine at_some h' hs (by show k < (setV s.l k st sh).length; rw [ln]; exact hk) ?_ ?_
      · show ((setV s.l k st sh).getD k vg0).1.name = n
        rw [gd k hk, if_pos rfl]; exact q
      · show ((setV s.l k st sh).getD k vg0).1.stage = st'
        rw [gd k hk, if_pos rfl]; exact q2
    · rw [if_neg q2]
      by_cases q3 : atN s n st' = some k
      · rw [if_pos q3]
        refine at_none (fun j hj => ?_)
        have hj' : j < s.l.length := by rw [← ln]; exact hj
        show ¬ (((setV s.l k st sh).getD j vg0).1.name = n ∧ ((setV s.l k st sh).getD j vg0).1.stage = st')
        rw [gd j hj']
        by_cases z : k = j
        · rw [if_pos z]
          rintro ⟨_, b⟩
          exact q2 b
        · rw [if_neg z]
          intro y
          have := at_some h hs hj' y.1 y.2
          rw [q3] at this
          cases this
          exact z rfl
      · rw [if_neg q3]
        exact stay (.inr ⟨q2, q3⟩)
  · rw [if_neg q]
    exact stay (.inl q)
theorem at_app {s : Sh} (h : oneL s.l) {x : Vn × Gv} (h1 : x.1.stage = 1) (i' : Int) (ds : List Dn) (n : List Nat) {st' : Int} (hs : st' = 3 ∨ st' = 2) : atN ⟨i', s.l ++ [x], ds⟩ n st' = atN s n st' := by
  have gd : ∀ j, j < s.l.length → (s.l ++ [x]).getD j vg0 = s.l.getD j vg0 := fun j hj => by simp [List.getD, List.getElem?_append_left hj]
  cases e : atN s n st' with
  | none =>
    refine at_none (fun j hj => ?_)
    have hj' : j < s.l.length + 1 := by have : j < (s.l ++ [x]).length := hj; simpa using this
    show ¬ (((s.l ++ [x]).getD j vg0).1.name = n ∧ ((s.l ++ [x]).getD j vg0).1.stage = st')
    by_cases q : j < s.l.length
    · rw [gd j q]; exact at_not e q
    · have : (s.l ++ [x]).getD j vg0 = x := by rw [show j = s.l.length by omega]; simp [List.getD]
      rw [this, h1]
      rintro ⟨_, b⟩
      omega
  | some o =>
    obtain ⟨o1, o2, o3⟩ := at_is e
    refine at_some (one_app h h1) hs (by show o < (s.l ++ [x]).length; rw [List.length_append]; omega) ?_ ?_
    · show ((s.l ++ [x]).getD o vg0).1.name = n
      rw [gd o o1]; exact o2
    · show ((s.l ++ [x]).getD o vg0).1.stage = st'
      rw [gd o o1]; exact o3
/-- a version that is no canary has no share -/
def zerL (l : List (Vn × Gv)) : Prop := ∀ k, k < l.length → (l.getD k vg0).1.stage ≠ 2 → (l.getD k vg0).1.share = 0
theorem zer_set {l : List (Vn × Gv)} (h : zerL l) {k : Nat} {st sh : Int} (hs : st ≠ 2 → sh = 0) : zerL (setV l k st sh) := by
  intro j hj
  rw [len_setV] at hj
  rw [getD_setV l k st sh hj]
  by_cases q : k = j
  · rw [if_pos q]; exact hs
  · rw [if_neg q]; exact h j hj
theorem zer_app {l : List (Vn × Gv)} (h : zerL l) {x : Vn × Gv} (hx : x.1.stage ≠ 2 → x.1.share = 0) : zerL (l ++ [x]) := by
  intro j hj
  rw [List.length_append, List.length_singleton] at hj
  by_cases q : j < l.length
  · rw [show (l ++ [x]).getD j vg0 = l.getD j vg0 by simp [List.getD, List.getElem?_append_left q]]; exact h j q
  · rw [show (l ++ [x]).getD j vg0 = x by rw [show j = l.length by omega]; simp [List.getD]]; exact hx
theorem setS_is {l : List (Vn × Gv)} {k : Nat} {st : Int} (h : (l.getD k vg0).1.share = 0) : setS l k st = setV l k st 0 := by
  unfold setS setV
  apply List.ext_getElem (by rw [List.length_modify, List.length_modify])
  intro i h1 h2
  rw [List.getElem_modify, List.getElem_modify]
  by_cases q : k = i
  · subst q
    rw [List.length_modify] at h1
    rw [List.getD, List.getElem?_eq_getElem h1] at h
    have h' : l[k].1.share = 0 := h
    rw [if_pos rfl, if_pos rfl, h']
  · rw [if_neg q, if_neg q]
theorem act_zer {s : Sh} (h : zerL s.l) (c : Ca) : zerL (act s c).2.2 := by
  unfold act
  by_cases w1 : c.what = 1
  · rw [if_pos w1]
    by_cases e : (decF c.bys).2 ≠ 0
    · rw [if_pos e]; exact h
    · rw [if_neg e]
      by_cases f : many s c.name = 0 ∧ 8 ≤ names s
      · rw [if_pos f]; exact h
      · rw [if_neg f]; exact zer_app h (fun _ => rfl)
  · rw [if_neg w1]
    cases hv : verN s c.name c.num with
    | none => exact h
    | some k =>
      simp only
      by_cases w2 : c.what = 2
      · rw [if_pos w2]
        split
        · exact h
        · split
          · exact h
          · split
            · exact h
            · exact zer_set h (fun z => absurd rfl z)
      · rw [if_neg w2]
        by_cases w3 : c.what = 3
        · rw [if_pos w3]
          split
          · exact h
          · cases ho : atN s c.name 3 with
            | none => exact zer_set h (fun _ => rfl)
            | some o =>
              obtain ⟨o1, o2, o3⟩ := at_is ho
              refine zer_set ?_ (fun _ => rfl)
              show zerL (setS s.l o 4)
              rw [setS_is (h o o1 (by rw [o3]; decide))]
              exact zer_set h (fun _ => rfl)
        · rw [if_neg w3]
          split
          · exact h
          · exact zer_set h (fun _ => rfl)
theorem do_zer {s : Sh} (h : zerL s.l) (c : Ca) : zerL (shDo s c).2.2.l := by
  unfold shDo
  split
  · exact h
  · cases lastN s c.ses with
    | none => exact act_zer h c
    | some k =>
      simp only
      split
      · exact h
      · split
        · exact h
        · exact act_zer h c
end Go.Proofs.YtiggkjkjfnlfkaaGreatDoor.M

namespace Go.Proofs.YtiggkjkjfnlfkaaGreatDoor
set_option linter.unusedVariables false
def dn0 : M.Dn := ⟨0, 0, M.an0, 0⟩
/-- a session's last call; none: one of which nothing is told -/
def M.was (S : M.Sh) (ses : Int) : M.Dn := match M.lastN S ses with
  | none => dn0
  | some k => S.done.getD k dn0
/-- a call that counts -/
def M.cntF (S : M.Sh) (c : M.Ca) : M.An × Int × M.Sh := (if (M.act S c).2.1 = 0 then ⟨(M.act S c).1, S.idx + 1⟩ else M.an0, (M.act S c).2.1, ⟨S.idx + 1, (M.act S c).2.2, M.say S.done (M.lastN S c.ses) ⟨c.ses, c.seq, if (M.act S c).2.1 = 0 then ⟨(M.act S c).1, S.idx + 1⟩ else M.an0, (M.act S c).2.1⟩⟩)
theorem M.call_seq {c : M.Ca} (h : M.callF c = 0) : (1 ≤ c.what ∧ c.what ≤ 4) ∧ (0 ≤ c.ses ∧ c.ses ≤ 1000000) ∧ (1 ≤ c.seq ∧ c.seq ≤ 1000000) ∧ c.name.length ≤ 12 := by
  unfold M.callF at h
  split at h
  · cases h
  · next q =>
    split at h
    · cases h
    · next q2 =>
      unfold M.timeB at q
      simp only [Bool.and_eq_false_iff, decide_eq_false_iff_not] at q
      have : ¬ 12 < c.name.length := fun z => q2 (.inr z)
      omega
theorem M.do_is {S : M.Sh} {c : M.Ca} (h : M.callF c = 0) : M.shDo S c = if (M.was S c.ses).seq = c.seq then ((M.was S c.ses).ans, (M.was S c.ses).bad, S) else if c.seq < (M.was S c.ses).seq then (M.an0, 6, S) else M.cntF S c := by
  have hs := (M.call_seq h).2.2.1
  unfold M.shDo M.was M.cntF
  rw [if_neg (by simp [h])]
  cases hl : M.lastN S c.ses with
  | none =>
    simp only
    rw [if_neg (show ¬ (dn0.seq = c.seq) by show ¬ ((0 : Int) = c.seq); omega), if_neg (show ¬ (c.seq < dn0.seq) by show ¬ (c.seq < (0 : Int)); omega)]
    rfl
  | some k => rfl
/-- a call that would count -/
def M.cntB (S : M.Sh) (c : M.Ca) : Bool := decide (M.callF c = 0) && decide ((M.was S c.ses).seq < c.seq)
theorem M.cnt_ways (S : M.Sh) (c : M.Ca) : (M.cntB S c = true ∧ M.callF c = 0 ∧ (M.was S c.ses).seq < c.seq) ∨ (M.cntB S c = false ∧ (M.callF c ≠ 0 ∨ (M.was S c.ses).seq = c.seq ∨ c.seq < (M.was S c.ses).seq)) := by
  by_cases h1 : M.callF c = 0
  · by_cases h2 : (M.was S c.ses).seq < c.seq
    · exact .inl ⟨by unfold M.cntB; rw [decide_eq_true h1, decide_eq_true h2]; rfl, h1, h2⟩
    · exact .inr ⟨by unfold M.cntB; rw [decide_eq_false h2, Bool.and_false], .inr (by omega)⟩
  · exact .inr ⟨by unfold M.cntB; rw [decide_eq_false h1, Bool.false_and], .inl h1⟩
theorem M.cnt_do_is {S : M.Sh} {c : M.Ca} (h : M.cntB S c = true) : M.shDo S c = M.cntF S c := by
  rcases M.cnt_ways S c with ⟨_, h1, h2⟩ | ⟨h1, _⟩
  · rw [M.do_is h1, if_neg (by omega), if_neg (by omega)]
  · rw [h] at h1; cases h1
theorem M.cnt_no {S : M.Sh} {c : M.Ca} (h : M.cntB S c = false) : (M.shDo S c).2.2 = S := by
  rcases M.cnt_ways S c with ⟨h1, _⟩ | ⟨_, h1⟩
  · rw [h] at h1; cases h1
  · by_cases f : M.callF c = 0
    · rw [M.do_is f]
      rcases h1 with z | z | z
      · exact absurd f z
      · rw [if_pos z]
      · by_cases y : (M.was S c.ses).seq = c.seq
        · rw [if_pos y]
        · rw [if_neg y, if_pos z]
    · unfold M.shDo; rw [if_pos f]
/-- a shelf that did these calls -/
def M.shAll (S : M.Sh) : List M.Ca → M.Sh
  | [] => S
  | c :: l => M.shAll (M.shDo S c).2.2 l
theorem M.shAll_app (S : M.Sh) : ∀ (l m : List M.Ca), M.shAll S (l ++ m) = M.shAll (M.shAll S l) m
  | [], _ => rfl
  | c :: l, m => M.shAll_app (M.shDo S c).2.2 l m
theorem M.shAll_idx : ∀ (l : List M.Ca) (S : M.Sh), M.ShOk S → (M.shAll S l).idx ≤ S.idx + l.length ∧ M.ShOk (M.shAll S l)
  | [], S, h => ⟨by show S.idx ≤ S.idx + 0; omega, h⟩
  | c :: l, S, h => by
    have k := M.do_ok h c
    have a := M.shAll_idx l (M.shDo S c).2.2 k.1
    refine ⟨?_, a.2⟩
    have b := k.2.2.2
    have e : ((c :: l).length : Int) = (l.length : Int) + 1 := by rw [List.length_cons]; omega
    show (M.shAll (M.shDo S c).2.2 l).idx ≤ _
    omega
theorem M.sh0_all (l : List M.Ca) : (M.shAll M.sh0 l).idx ≤ l.length := by
  have := (M.shAll_idx l M.sh0 M.ok_zero).1
  have e : M.sh0.idx = 0 := rfl
  omega

/-! ### what is said last of a session, behind a call -/
theorem M.cnt_idx (S : M.Sh) (c : M.Ca) : (M.cntF S c).2.2.idx = S.idx + 1 := rfl
theorem M.find_put {α : Type} (p : α → Bool) (x : α) (d : α) (hx : p x = true) (l : List α) : M.findN p (M.findN p l 0 |>.elim (l ++ [x]) (fun k => l.set k x)) 0 = some ((M.findN p l 0).getD l.length) ∧ ((M.findN p l 0).elim (l ++ [x]) (fun k => l.set k x)).getD ((M.findN p l 0).getD l.length) d = x := by
  cases h : M.findN p l 0 with
  | none =>
    refine ⟨?_, ?_⟩
    · have := M.find_app p x hx l 0 h
      rw [Nat.zero_add] at this
      exact this
    · show (l ++ [x]).getD l.length d = x
      simp [List.getD]
  | some k =>
    have m := M.find_more p l 0 k h
    have s := M.find_set p x hx l 0 k h
    rw [Nat.sub_zero] at s m
    refine ⟨s, ?_⟩
    show (l.set k x).getD k d = x
    simp [List.getD, m.2.1]
theorem M.say_is (done : List M.Dn) (o : Option Nat) (d : M.Dn) : M.say done o d = o.elim (done ++ [d]) (fun k => done.set k d) := by cases o <;> rfl
theorem M.was_cnt (S : M.Sh) (c : M.Ca) : M.was (M.cntF S c).2.2 c.ses = ⟨c.ses, c.seq, if (M.act S c).2.1 = 0 then ⟨(M.act S c).1, S.idx + 1⟩ else M.an0, (M.act S c).2.1⟩ := by
  obtain ⟨x, hx⟩ : ∃ x : M.Dn, x = ⟨c.ses, c.seq, if (M.act S c).2.1 = 0 then ⟨(M.act S c).1, S.idx + 1⟩ else M.an0, (M.act S c).2.1⟩ := ⟨_, rfl⟩
  rw [← hx]
  have e : M.lastN (M.cntF S c).2.2 c.ses = some ((M.lastN S c.ses).getD S.done.length) ∧ (M.cntF S c).2.2.done.getD ((M.lastN S c.ses).getD S.done.length) dn0 = x := by
    have := M.find_put (fun d : M.Dn => decide (d.ses = c.ses)) x dn0 (by rw [hx]; simp) S.done
    have e2 : (M.cntF S c).2.2.done = (M.lastN S c.ses).elim (S.done ++ [x]) (fun k => S.done.set k x) := by
      show M.say S.done _ _ = _
      rw [M.say_is, hx]
    unfold M.lastN at this e2 ⊢
    rw [e2]
    exact this
  unfold M.was
  rw [e.1]
  exact e.2
theorem M.find_other {α : Type} (p : α → Bool) (x : α) (hx : p x = false) : ∀ (l : List α) (k : Nat), M.findN p (l ++ [x]) k = M.findN p l k
  | [], k => by
    show (if p x then some k else none) = none
    rw [hx]; rfl
  | y :: l, k => by
    show (if p y then some k else M.findN p (l ++ [x]) (k + 1)) = if p y then some k else M.findN p l (k + 1)
    rw [M.find_other p x hx l (k + 1)]
theorem M.find_other_set {α : Type} (p : α → Bool) (x : α) (hx : p x = false) : ∀ (l : List α) (k j : Nat), (∀ y, l[j]? = some y → p y = false) → M.findN p (l.set j x) k = M.findN p l k
  | [], k, j, _ => rfl
  | y :: l, k, 0, h => by
    show (if p x then some k else M.findN p l (k + 1)) = if p y then some k else M.findN p l (k + 1)
    rw [hx, h y rfl]
  | y :: l, k, j + 1, h => by
    show (if p y then some k else M.findN p (l.set j x) (k + 1)) = if p y then some k else M.findN p l (k + 1)
    rw [M.find_other_set p x hx l (k + 1) j (fun z hz => h z (by simpa using hz))]
theorem M.was_other (S : M.Sh) (c : M.Ca) {ses : Int} (h : ses ≠ c.ses) : M.was (M.cntF S c).2.2 ses = M.was S ses := by
  obtain ⟨x, hx⟩ : ∃ x : M.Dn, x = ⟨c.ses, c.seq, if (M.act S c).2.1 = 0 then ⟨(M.act S c).1, S.idx + 1⟩ else M.an0, (M.act S c).2.1⟩ := ⟨_, rfl⟩
  have px : (fun d : M.Dn => decide (d.ses = ses)) x = false := by
    rw [hx]
    exact decide_eq_false (fun e => h e.symm)
  have ed : (M.cntF S c).2.2.done = M.say S.done (M.lastN S c.ses) x := by rw [hx]; rfl
  unfold M.was M.lastN
  rw [ed]
  cases hl : M.lastN S c.ses with
  | none =>
    show (match M.findN _ (S.done ++ [x]) 0 with | none => dn0 | some k => (S.done ++ [x]).getD k dn0) = _
    rw [M.find_other _ x px]
    cases hf : M.findN (fun d : M.Dn => decide (d.ses = ses)) S.done 0 with
    | none => rfl
    | some k =>
      have m := M.find_more _ _ _ _ hf
      rw [Nat.sub_zero] at m
      show (S.done ++ [x]).getD k dn0 = S.done.getD k dn0
      simp [List.getD, List.getElem?_append_left m.2.1]
  | some j =>
    have mj := M.find_more _ S.done 0 j hl
    rw [Nat.sub_zero] at mj
    have hj : ∀ y, S.done[j]? = some y → (fun d : M.Dn => decide (d.ses = ses)) y = false := fun y hy => by
      have a := mj.2.2 dn0
      have b : S.done.getD j dn0 = y := by simp [List.getD, hy]
      rw [b] at a
      have a' : y.ses = c.ses := by simpa using a
      exact decide_eq_false (fun e => h (e.symm.trans a'))
    show (match M.findN _ (S.done.set j x) 0 with | none => dn0 | some k => (S.done.set j x).getD k dn0) = _
    rw [M.find_other_set _ x px _ _ _ hj]
    cases hf : M.findN (fun d : M.Dn => decide (d.ses = ses)) S.done 0 with
    | none => rfl
    | some k =>
      have m := M.find_more _ _ _ _ hf
      rw [Nat.sub_zero] at m
      have kj : j ≠ k := fun e => by
        have a := m.2.2 dn0
        have b := mj.2.2 dn0
        rw [← e] at a
        have a' : (S.done.getD j dn0).ses = ses := by simpa using a
        have b' : (S.done.getD j dn0).ses = c.ses := by simpa using b
        exact h (a'.symm.trans b')
      show (S.done.set j x).getD k dn0 = S.done.getD k dn0
      simp [List.getD, List.getElem?_set_ne kj]
end Go.Proofs.YtiggkjkjfnlfkaaGreatDoor

namespace Go.Proofs.YtiggkjkjfnlfkaaGreatDoor
open Go.ChangeShapes Go.WideShapes Go.ChangeAt Go.RowKit Go.Lib
set_option linter.unusedVariables false
def isB (n : List Nat) : Prop := ∀ x ∈ n, x < 256
def caV (c : M.Ca) (a : Option Addr) (cap : Nat) : Value := .agg #[.int .i64 c.what, .int .i64 c.ses, .int .i64 c.seq, .string (byStr c.name), .int .i64 c.num, .int .i64 c.share, .slice a c.bys.length cap]
def I64 (x : Int) : Prop := -9223372036854775808 ≤ x ∧ x ≤ 9223372036854775807
/-- a call as it comes: its bytes lie where they can be read -/
structure CaIn (W : World) (c : M.Ca) (a : Option Addr) (cap : Nat) : Prop where
  nb : isB c.name
  nl : c.name.length ≤ 9223372036854775807
  rd : RdB W a c.bys
  le : c.bys.length ≤ cap
  cp : cap ≤ 9223372036854775807
  num : I64 c.num
  shr : I64 c.share
  nil : a = none → cap = 0
abbrev CaC := M.Ca × Option Addr × Nat
def ca0 : CaC := (⟨0, 0, 0, [], 0, 0, []⟩, none, 0)
def SevenAt (w : World) (b off : Nat) (k : CaC) : Prop := w.cell? ⟨b, off, none⟩ = some (.int .i64 k.1.what) ∧ w.cell? ⟨b, off + 1, none⟩ = some (.int .i64 k.1.ses) ∧ w.cell? ⟨b, off + 2, none⟩ = some (.int .i64 k.1.seq) ∧ w.cell? ⟨b, off + 3, none⟩ = some (.string (byStr k.1.name)) ∧ w.cell? ⟨b, off + 4, none⟩ = some (.int .i64 k.1.num) ∧ w.cell? ⟨b, off + 5, none⟩ = some (.int .i64 k.1.share) ∧ w.cell? ⟨b, off + 6, none⟩ = some (.slice k.2.1 k.1.bys.length k.2.2)
/-- calls, where they lie -/
def RdC (w : World) (a : Option Addr) (l : List CaC) : Prop :=
  l.length ≤ maxLen ∧ (∀ k ∈ l, CaIn w k.1 k.2.1 k.2.2) ∧ (l ≠ [] → ∃ b off, a = some ⟨b, off, none⟩ ∧ b < w.heap.size ∧ ∀ i, i < l.length → SevenAt w b (off + i * 7) (l.getD i ca0))
theorem CaIn.below {w w' : World} {c : M.Ca} {a : Option Addr} {cap : Nat} (h : CaIn w c a cap) (hb : Below w.heap.size w w') : CaIn w' c a cap := ⟨h.nb, h.nl, h.rd.below hb, h.le, h.cp, h.num, h.shr, h.nil⟩
theorem RdC.below {w w' : World} {a : Option Addr} {l : List CaC} (h : RdC w a l) (hb : Below w.heap.size w w') : RdC w' a l :=
  ⟨h.1, fun k hk => (h.2.1 k hk).below hb, fun hn => by
    obtain ⟨b, off, e, hl, hc⟩ := h.2.2 hn
    have k : ∀ j v, w.cell? ⟨b, j, none⟩ = some v → w'.cell? ⟨b, j, none⟩ = some v := fun j v hv => (hb.cell (p := ⟨b, j, none⟩) hl).trans hv
    exact ⟨b, off, e, Nat.lt_of_lt_of_le hl hb.size, fun i hi => ⟨k _ _ (hc i hi).1, k _ _ (hc i hi).2.1, k _ _ (hc i hi).2.2.1, k _ _ (hc i hi).2.2.2.1, k _ _ (hc i hi).2.2.2.2.1, k _ _ (hc i hi).2.2.2.2.2.1, k _ _ (hc i hi).2.2.2.2.2.2⟩⟩⟩
theorem RdC.at {w : World} {a : Option Addr} {l : List CaC} (h : RdC w a l) {k : Nat} (hk : k < l.length) : ∃ b off, a = some ⟨b, off, none⟩ ∧ b < w.heap.size ∧ SevenAt w b (off + k * 7) (l.getD k ca0) ∧ CaIn w (l.getD k ca0).1 (l.getD k ca0).2.1 (l.getD k ca0).2.2 := by
  obtain ⟨b, off, e, hb, hc⟩ := h.2.2 (by intro e; rw [e] at hk; simp at hk)
  exact ⟨b, off, e, hb, hc k hk, h.2.1 _ (by rw [List.getD, List.getElem?_eq_getElem hk]; exact List.getElem_mem hk)⟩
theorem M.gt_le : ∀ (b : List Nat) (i x : Nat), (M.gtK b i x).2.1 ≤ i + b.length
  | [], i, x => by show 0 ≤ i + 0; omega
  | c :: r, i, x => by
    have ih := M.gt_le r (i + 1) (x + c % 128 * 128 ^ i)
    show (if (i = 9 ∧ 1 < c) ∨ (0 < i ∧ c = 0) then ((0 : Int), (0 : Nat), (2 : Int)) else if c < 128 then (M.unz (x + c % 128 * 128 ^ i), i + 1, 0) else M.gtK r (i + 1) (x + c % 128 * 128 ^ i)).2.1 ≤ i + (r.length + 1)
    split
    · exact Nat.zero_le _
    · split
      · show i + 1 ≤ _; omega
      · omega
theorem M.get_le (b : List Nat) : (M.getL b).2.1 ≤ b.length := by
  have := M.gt_le b 0 0
  rw [Nat.zero_add] at this
  exact this
theorem M.rNum_fin {b : List Nat} {s : M.In} (h : s.fin ≤ b.length) : (M.rNum b s).2.fin ≤ b.length := by
  by_cases q : s.bad = 0
  · rw [M.rNum_go q]
    have := M.get_le (b.drop s.fin)
    rw [List.length_drop] at this
    show s.fin + _ ≤ _
    omega
  · rw [M.rNum_bad q]; exact h
theorem M.rMany_fin {b : List Nat} {s : M.In} {most : Int} (h : s.fin ≤ b.length) : (M.rMany b most s).2.fin ≤ b.length := by
  have := M.rNum_fin h
  unfold M.rMany
  split
  · exact this
  · split
    · exact this
    · exact this
/-- a cell is written -/
theorem cell_set_same {W : World} {g o : Nat} {u v : Value} (h : W.cell? ⟨g, o, none⟩ = some u) : (W.setCell ⟨g, o, none⟩ v).cell? ⟨g, o, none⟩ = some v := World.cell?_setCell_same _ _ _ h
theorem cell_set_other {W : World} {g o j : Nat} {u v : Value} (h : W.cell? ⟨g, j, none⟩ = some u) (hj : o ≠ j) : (W.setCell ⟨g, o, none⟩ v).cell? ⟨g, j, none⟩ = some u := (World.cell?_setCell_other _ _ _ _ (by intro e; cases e; exact hj rfl)).trans h
theorem frozen_set {W : World} {g o j : Nat} {v : Value} (h : W.frozen? ⟨g, j, none⟩ = false) : (W.setCell ⟨g, o, none⟩ v).frozen? ⟨g, j, none⟩ = false := by rw [World.frozen?_setCell]; exact h
theorem rdB_keep {W W' : World} {a : Option Addr} {xs : List Nat} (h : RdB W a xs) (hk : xs ≠ [] → ∀ p, a = some p → W'.heap[p.block]? = W.heap[p.block]?) (hz : W.heap.size ≤ W'.heap.size) : RdB W' a xs :=
  ⟨h.1, h.2.1, fun hn => by
    obtain ⟨b, off, e, hl, hc⟩ := h.2.2 hn
    have hb : W'.heap[b]? = W.heap[b]? := hk hn _ e
    exact ⟨b, off, e, Nat.lt_of_lt_of_le hl hz, fun i hi => (World.cell?_of_block (a := ⟨b, _, none⟩) hb).trans (hc i hi)⟩⟩
end Go.Proofs.YtiggkjkjfnlfkaaGreatDoor
