/-
  Several texts as one: MathHf, CaRd, InBox, CdIn.
-/
import Derived.Test.YtjjfmepinpmkfaaGreatDoorRunA8
import Derived.Test.YtjjfmepinpmkfaaGreatDoorRunA1
import Derived.Test.YtjjfmepinpmkfaaGreatDoorRunA7
import Derived.Test.YtjjfmepinpmkfaaGreatDoorRunA2
import Derived.Deep.Cut
import Derived.Deep.CutRange
import Derived.BigQuiet
import Derived.Deep.QuietTactic
namespace Go.Proofs.YtjjfmepinpmkfaaGreatDoor.M
set_option linter.unusedVariables false
def vg0 : Vn × Gv := (⟨[], 0, 0, 0⟩, (0, 0, [], []))
/-- where a name's versions stand -/
def posK (l : List (Vn × Gv)) (n : List Nat) : Nat → List Nat
  | 0 => []
  | k + 1 => posK l n k ++ (if (l.getD k vg0).1.name = n then [k] else [])
def posL (l : List (Vn × Gv)) (n : List Nat) : List Nat := posK l n l.length
theorem posK_mem (l : List (Vn × Gv)) (n : List Nat) : ∀ k j, j ∈ posK l n k ↔ j < k ∧ (l.getD j vg0).1.name = n
  | 0, j => by simp [posK]
  | k + 1, j => by
    rw [posK, List.mem_append, posK_mem l n k j]
    by_cases q : (l.getD k vg0).1.name = n
    · rw [if_pos q, List.mem_singleton]
      constructor
      · rintro (⟨a, b⟩ | rfl)
        · exact ⟨by omega, b⟩
        · exact ⟨by omega, q⟩
      · rintro ⟨a, b⟩
        by_cases e : j = k
        · exact .inr e
        · exact .inl ⟨by omega, b⟩
    · rw [if_neg q]
      constructor
      · rintro (⟨a, b⟩ | h)
        · exact ⟨by omega, b⟩
        · cases h
      · rintro ⟨a, b⟩
        by_cases e : j = k
        · subst e; exact absurd b q
        · exact .inl ⟨by omega, b⟩
theorem pos_mem {l : List (Vn × Gv)} {n : List Nat} {j : Nat} : j ∈ posL l n ↔ j < l.length ∧ (l.getD j vg0).1.name = n := posK_mem l n l.length j
theorem posK_same {l r : List (Vn × Gv)} (n : List Nat) : ∀ k, (∀ j, j < k → (l.getD j vg0).1.name = (r.getD j vg0).1.name) → posK l n k = posK r n k
  | 0, _ => rfl
  | k + 1, h => by
    rw [posK, posK, posK_same n k (fun j hj => h j (by omega)), h k (by omega)]
theorem pos_app (l : List (Vn × Gv)) (x : Vn × Gv) (n : List Nat) : posL (l ++ [x]) n = posL l n ++ (if x.1.name = n then [l.length] else []) := by
  unfold posL
  rw [List.length_append, List.length_singleton, posK]
  have e : ((l ++ [x]).getD l.length vg0) = x := by simp [List.getD]
  rw [e, posK_same n l.length (r := l) (fun j hj => by simp [List.getD, List.getElem?_append_left hj])]
theorem getD_setV (l : List (Vn × Gv)) (k : Nat) (st sh : Int) {j : Nat} (hj : j < l.length) : (setV l k st sh).getD j vg0 = if k = j then (⟨(l.getD j vg0).1.name, (l.getD j vg0).1.num, st, sh⟩, (l.getD j vg0).2) else l.getD j vg0 := by
  unfold setV; exact mod_at hj
theorem len_setV (l : List (Vn × Gv)) (k : Nat) (st sh : Int) : (setV l k st sh).length = l.length := by unfold setV; rw [List.length_modify]
theorem pos_setV (l : List (Vn × Gv)) (k : Nat) (st sh : Int) (n : List Nat) : posL (setV l k st sh) n = posL l n := by
  unfold posL
  rw [len_setV]
  refine posK_same n _ (fun j hj => ?_)
  rw [getD_setV l k st sh hj]
  by_cases q : k = j
  · rw [if_pos q]
  · rw [if_neg q]
theorem posK_len (l : List (Vn × Gv)) (n : List Nat) : ∀ k, k ≤ l.length → (posK l n k).length = cntY ((kyL l).take k) n
  | 0, _ => by simp [posK, cntY]
  | k + 1, h => by
    have hk : k < (kyL l).length := by unfold kyL; rw [List.length_map]; omega
    have e : (kyL l)[k].1 = (l.getD k vg0).1.name := by simp [kyL, List.getD, show k < l.length by omega]
    rw [posK, List.length_append, posK_len l n k (by omega)]
    by_cases q : (l.getD k vg0).1.name = n
    · rw [if_pos q, cnt_step hk (e.trans q)]
      rfl
    · rw [if_neg q]
      unfold cntY
      rw [List.take_succ_eq_append_getElem hk, List.filter_append]
      have : List.filter (fun x : List Nat × Int => decide (x.1 = n)) [(kyL l)[k]] = [] := by
        rw [List.filter_cons_of_neg (by rw [e]; simpa using q)]; rfl
      rw [this, List.append_nil]
      rfl
theorem pos_len (s : Sh) (n : List Nat) : (posL s.l n).length = many s n := by
  rw [many_is]
  unfold posL
  rw [posK_len s.l n s.l.length (Nat.le_refl _)]
  have : (kyL s.l).length = s.l.length := by simp [kyL]
  rw [← this, List.take_length]
/-- the i-th of a name has the number i + 1 -/
theorem posK_num {l : List (Vn × Gv)} (h : numY (kyL l)) (n : List Nat) : ∀ k, k ≤ l.length → ∀ i, i < (posK l n k).length → (l.getD ((posK l n k).getD i 0) vg0).1.num = (i : Int) + 1
  | 0, _, i, hi => by simp [posK] at hi
  | k + 1, hk, i, hi => by
    by_cases q : (l.getD k vg0).1.name = n
    · rw [posK, if_pos q] at hi ⊢
      by_cases e : i < (posK l n k).length
      · have := posK_num h n k (by omega) i e
        rwa [show (posK l n k ++ [k]).getD i 0 = (posK l n k).getD i 0 by simp [List.getD, List.getElem?_append_left e]]
      · have ei : i = (posK l n k).length := by rw [List.length_append, List.length_singleton] at hi; omega
        rw [show (posK l n k ++ [k]).getD i 0 = k by rw [ei]; simp [List.getD]]
        have hk' : k < (kyL l).length := by unfold kyL; rw [List.length_map]; omega
        have hn := h k ([], 0) hk'
        have e1 : ((kyL l).getD k ([], 0)).2 = (l.getD k vg0).1.num := by simp [kyL, List.getD, show k < l.length by omega]
        have e2 : ((kyL l).getD k ([], 0)).1 = (l.getD k vg0).1.name := by simp [kyL, List.getD, show k < l.length by omega]
        rw [e1, e2, q] at hn
        rw [hn, ei, posK_len l n k (by omega)]
    · rw [posK, if_neg q, List.append_nil] at hi ⊢
      exact posK_num h n k (by omega) i hi
theorem pos_num {l : List (Vn × Gv)} (h : numY (kyL l)) (n : List Nat) {i : Nat} (hi : i < (posL l n).length) : (l.getD ((posL l n).getD i 0) vg0).1.num = (i : Int) + 1 := posK_num h n l.length (Nat.le_refl _) i hi
theorem find_some {α : Type} (p : α → Bool) (d : α) : ∀ (l : List α) (k j : Nat), j < l.length → p (l.getD j d) = true → (∀ i, i < j → p (l.getD i d) = false) → findN p l k = some (k + j)
  | [], k, j, h, _, _ => by simp at h
  | x :: l, k, 0, h, hp, _ => by
    have hp : p x = true := hp
    show (if p x then some k else _) = _
    rw [if_pos hp]
    rfl
  | x :: l, k, j + 1, h, hp, hn => by
    have h0 : p x = false := hn 0 (by omega)
    show (if p x then some k else findN p l (k + 1)) = _
    rw [if_neg (by rw [h0]; decide), find_some p d l (k + 1) j (by simpa using h) hp (fun i hi => hn (i + 1) (by omega))]
    congr 1
    omega
theorem find_no {α : Type} (p : α → Bool) : ∀ (l : List α) (k : Nat), (∀ x ∈ l, p x = false) → findN p l k = none
  | [], k, _ => rfl
  | x :: l, k, h => by
    show (if p x then some k else findN p l (k + 1)) = _
    rw [if_neg (by rw [h x (List.mem_cons_self ..)]; decide), find_no p l (k + 1) (fun y hy => h y (List.mem_cons_of_mem _ hy))]
theorem mem_getD {α : Type} {l : List α} {x : α} (d : α) (h : x ∈ l) : ∃ i, i < l.length ∧ l.getD i d = x := by
  obtain ⟨i, hi, e⟩ := List.getElem_of_mem h
  exact ⟨i, hi, by rw [List.getD, List.getElem?_eq_getElem hi]; exact e⟩
/-- a version by its number is that at its place -/
theorem ver_pos {s : Sh} (h : numY (kyL s.l)) (n : List Nat) (num : Int) : verN s n num = if 1 ≤ num ∧ num ≤ (posL s.l n).length then some ((posL s.l n).getD (num - 1).toNat 0) else none := by
  by_cases q : 1 ≤ num ∧ num ≤ (posL s.l n).length
  · rw [if_pos q]
    obtain ⟨i, hi⟩ : ∃ i : Nat, num = (i : Int) + 1 := ⟨(num - 1).toNat, by omega⟩
    subst hi
    have il : i < (posL s.l n).length := by omega
    rw [show ((i : Int) + 1 - 1).toNat = i by omega]
    have nm := pos_num h n il
    have mem : (posL s.l n).getD i 0 ∈ posL s.l n := by
      rw [List.getD, List.getElem?_eq_getElem il]; exact List.getElem_mem il
    obtain ⟨k1, k2⟩ := pos_mem.1 mem
    generalize (posL s.l n).getD i 0 = j at *
    unfold verN
    have ky := key_ky h
    refine (find_some _ vg0 s.l 0 j k1 (decide_eq_true ⟨k2, nm⟩) (fun i' hi' => decide_eq_false (fun z => ?_))).trans (by rw [Nat.zero_add])
    unfold keyL at ky
    rw [List.pairwise_iff_getElem] at ky
    have := ky i' j (by rw [List.length_map]; omega) (by rw [List.length_map]; omega) hi'
    apply this
    have e1 : (s.l.map (·.1))[i']'(by rw [List.length_map]; omega) = (s.l.getD i' vg0).1 := by simp [List.getD, show i' < s.l.length by omega]
    have e2 : (s.l.map (·.1))[j]'(by rw [List.length_map]; omega) = (s.l.getD j vg0).1 := by simp [List.getD, k1]
    rw [e1, e2]
    exact ⟨z.1.trans k2.symm, z.2.trans nm.symm⟩
  · rw [if_neg q]
    unfold verN
    refine find_no _ _ _ (fun x hx => decide_eq_false (fun z => q ?_))
    obtain ⟨j, hj, ej⟩ := mem_getD vg0 hx
    have mem : j ∈ posL s.l n := pos_mem.2 ⟨hj, by rw [ej]; exact z.1⟩
    obtain ⟨i, hi, ei⟩ := mem_getD 0 mem
    have := pos_num h n hi
    rw [ei, ej, z.2] at this
    omega
/-- who is at a stage, where no two are -/
theorem at_some {s : Sh} (h : oneL s.l) {n : List Nat} {st : Int} (hs : st = 3 ∨ st = 2) {k : Nat} (hk : k < s.l.length) (h1 : (s.l.getD k vg0).1.name = n) (h2 : (s.l.getD k vg0).1.stage = st) : atN s n st = some k := by
  unfold atN
  refine (find_some _ vg0 s.l 0 k hk (decide_eq_true ⟨h1, h2⟩) (fun i hi => decide_eq_false (fun z => ?_))).trans (by rw [Nat.zero_add])
  exact h i k vg0 hi hk ⟨z.1.trans h1.symm, z.2.trans h2.symm, by rw [z.2]; exact hs⟩
theorem at_is {s : Sh} {n : List Nat} {st : Int} {k : Nat} (h : atN s n st = some k) : k < s.l.length ∧ (s.l.getD k vg0).1.name = n ∧ (s.l.getD k vg0).1.stage = st := by
  obtain ⟨_, h2, h3⟩ := find_more _ s.l 0 k h
  rw [Nat.sub_zero] at h2 h3
  exact ⟨h2, of_decide_eq_true (h3 vg0)⟩
theorem at_not {s : Sh} {n : List Nat} {st : Int} (h : atN s n st = none) {k : Nat} (hk : k < s.l.length) : ¬ ((s.l.getD k vg0).1.name = n ∧ (s.l.getD k vg0).1.stage = st) := by
  have := find_none _ s.l 0 h (s.l.getD k vg0) (by rw [List.getD, List.getElem?_eq_getElem hk]; exact List.getElem_mem hk)
  exact of_decide_eq_false this
theorem at_none {s : Sh} {n : List Nat} {st : Int} (h : ∀ k, k < s.l.length → ¬ ((s.l.getD k vg0).1.name = n ∧ (s.l.getD k vg0).1.stage = st)) : atN s n st = none := by
  unfold atN
  refine find_no _ _ _ (fun x hx => decide_eq_false ?_)
  obtain ⟨j, hj, ej⟩ := mem_getD vg0 hx
  rw [← ej]
  exact h j hj
/-- behind a version that was turned -/
theorem at_set {s : Sh} (h : oneL s.l) {k : Nat} {st sh : Int} (hk : k < s.l.length) (i i' : Int) (ds : List Dn) (h' : oneL (setV s.l k st sh)) {n : List Nat} {st' : Int} (hs : st' = 3 ∨ st' = 2) :
    atN ⟨i', setV s.l k st sh, ds⟩ n st' = if (s.l.getD k vg0).1.name = n then (if st = st' then some k else if atN s n st' = some k then none else atN s n st') else atN s n st' := by
  have gd : ∀ j, j < s.l.length → (setV s.l k st sh).getD j vg0 = if k = j then (⟨(s.l.getD j vg0).1.name, (s.l.getD j vg0).1.num, st, sh⟩, (s.l.getD j vg0).2) else s.l.getD j vg0 := fun j hj => getD_setV s.l k st sh hj
  have ln := len_setV s.l k st sh
  have stay : (s.l.getD k vg0).1.name ≠ n ∨ (st ≠ st' ∧ atN s n st' ≠ some k) → atN ⟨i', setV s.l k st sh, ds⟩ n st' = atN s n st' := fun hne => by
    cases e : atN s n st' with
    | none =>
      refine at_none (fun j hj => ?_)
      have hj' : j < s.l.length := by rw [← ln]; exact hj
      show ¬ (((setV s.l k st sh).getD j vg0).1.name = n ∧ ((setV s.l k st sh).getD j vg0).1.stage = st')
      rw [gd j hj']
      by_cases q : k = j
      · rw [if_pos q]
        subst q
        rintro ⟨a, b⟩
        rcases hne with z | ⟨z, _⟩
        · exact z a
        · exact z b
      · rw [if_neg q]
        exact at_not e hj'
    | some o =>
      obtain ⟨o1, o2, o3⟩ := at_is e
      have ok : k ≠ o := fun z => by
        subst z
        rcases hne with z | ⟨_, z⟩
        · exact z o2
        · exact z e
      refine at_some h' hs (by show o < (setV s.l k st sh).length; rw [ln]; exact o1) ?_ ?_
      · show ((setV s.l k st sh).getD o vg0).1.name = n
        rw [gd o o1, if_neg ok]; exact o2
      · show ((setV s.l k st sh).getD o vg0).1.stage = st'
        rw [gd o o1, if_neg ok]; exact o3
  by_cases q : (s.l.getD k vg0).1.name = n
  · rw [if_pos q]
    by_cases q2 : st = st'
    · rw [if_pos q2]
      refine at_some h' hs (by show k < (setV s.l k st sh).length; rw [ln]; exact hk) ?_ ?_
      · show ((setV s.l k st sh).getD k vg0).1.name = n
        rw [gd k hk, if_pos rfl]; exact q
      · show ((setV s.l k st sh).getD k vg0).1.stage = st'
        rw [gd k hk, if_pos rfl]; exact q2
    · rw [if_neg q2]
      by_cases q3 : atN s n st' = some k
      · rw [if_pos q3]
        refine at_none (fun j hj => ?_)
        have hj' : j < s.l.length := by rw [← ln]; exact hj
        show ¬ (((setV s.l k st sh).getD j vg0).1.name = n ∧ ((setV s.l k st sh).getD j vg0).1.stage = st')
        rw [gd j hj']
        by_cases z : k = j
        · rw [if_pos z]
          rintro ⟨_, b⟩
          exact q2 b
        · rw [if_neg z]
          intro y
          have := at_some h hs hj' y.1 y.2
          rw [q3] at this
          cases this
          exact z rfl
      · rw [if_neg q3]
        exact stay (.inr ⟨q2, q3⟩)
  · rw [if_neg q]
    exact stay (.inl q)
theorem at_app {s : Sh} (h : oneL s.l) {x : Vn × Gv} (h1 : x.1.stage = 1) (i' : Int) (ds : List Dn) (n : List Nat) {st' : Int} (hs : st' = 3 ∨ st' = 2) : atN ⟨i', s.l ++ [x], ds⟩ n st' = atN s n st' := by
  have gd : ∀ j, j < s.l.length → (s.l ++ [x]).getD j vg0 = s.l.getD j vg0 := fun j hj => by simp [List.getD, List.getElem?_append_left hj]
  cases e : atN s n st' with
  | none =>
    refine at_none (fun j hj => ?_)
    have hj' : j < s.l.length + 1 := by have : j < (s.l ++ [x]).length := hj; simpa using this
    show ¬ (((s.l ++ [x]).getD j vg0).1.name = n ∧ ((s.l ++ [x]).getD j vg0).1.stage = st')
    by_cases q : j < s.l.length
    · rw [gd j q]; exact at_not e q
    · have : (s.l ++ [x]).getD j vg0 = x := by rw [show j = s.l.length by omega]; simp [List.getD]
      rw [this, h1]
      rintro ⟨_, b⟩
      omega
  | some o =>
    obtain ⟨o1, o2, o3⟩ := at_is e
    refine at_some (one_app h h1) hs (by show o < (s.l ++ [x]).length; rw [List.length_append]; omega) ?_ ?_
    · show ((s.l ++ [x]).getD o vg0).1.name = n
      rw [gd o o1]; exact o2
    · show ((s.l ++ [x]).getD o vg0).1.stage = st'
      rw [gd o o1]; exact o3
/-- a version that is no canary has no share -/
def zerL (l : List (Vn × Gv)) : Prop := ∀ k, k < l.length → (l.getD k vg0).1.stage ≠ 2 → (l.getD k vg0).1.share = 0
theorem zer_set {l : List (Vn × Gv)} (h : zerL l) {k : Nat} {st sh : Int} (hs : st ≠ 2 → sh = 0) : zerL (setV l k st sh) := by
  intro j hj
  rw [len_setV] at hj
  rw [getD_setV l k st sh hj]
  by_cases q : k = j
  · rw [if_pos q]; exact hs
  · rw [if_neg q]; exact h j hj
theorem zer_app {l : List (Vn × Gv)} (h : zerL l) {x : Vn × Gv} (hx : x.1.stage ≠ 2 → x.1.share = 0) : zerL (l ++ [x]) := by
  intro j hj
  rw [List.length_append, List.length_singleton] at hj
  by_cases q : j < l.length
  · rw [show (l ++ [x]).getD j vg0 = l.getD j vg0 by simp [List.getD, List.getElem?_append_left q]]; exact h j q
  · rw [show (l ++ [x]).getD j vg0 = x by rw [show j = l.length by omega]; simp [List.getD]]; exact hx
theorem setS_is {l : List (Vn × Gv)} {k : Nat} {st : Int} (h : (l.getD k vg0).1.share = 0) : setS l k st = setV l k st 0 := by
  unfold setS setV
  apply List.ext_getElem (by rw [List.length_modify, List.length_modify])
  intro i h1 h2
  rw [List.getElem_modify, List.getElem_modify]
  by_cases q : k = i
  · subst q
    rw [List.length_modify] at h1
    rw [List.getD, List.getElem?_eq_getElem h1] at h
    have h' : l[k].1.share = 0 := h
    rw [if_pos rfl, if_pos rfl, h']
  · rw [if_neg q, if_neg q]
theorem act_zer {s : Sh} (h : zerL s.l) (c : Ca) : zerL (act s c).2.2 := by
  unfold act
  by_cases w1 : c.what = 1
  · rw [if_pos w1]
    by_cases e : (decF c.bys).2 ≠ 0
    · rw [if_pos e]; exact h
    · rw [if_neg e]
      by_cases f : many s c.name = 0 ∧ 8 ≤ names s
      · rw [if_pos f]; exact h
      · rw [if_neg f]; exact zer_app h (fun _ => rfl)
  · rw [if_neg w1]
    cases hv : verN s c.name c.num with
    | none => exact h
    | some k =>
      simp only
      by_cases w2 : c.what = 2
      · rw [if_pos w2]
        split
        · exact h
        · split
          · exact h
          · split
            · exact h
            · exact zer_set h (fun z => absurd rfl z)
      · rw [if_neg w2]
        by_cases w3 : c.what = 3
        · rw [if_pos w3]
          split
          · exact h
          · cases ho : atN s c.name 3 with
            | none => exact zer_set h (fun _ => rfl)
            | some o =>
              obtain ⟨o1, o2, o3⟩ := at_is ho
              refine zer_set ?_ (fun _ => rfl)
              show zerL (setS s.l o 4)
              rw [setS_is (h o o1 (by rw [o3]; decide))]
              exact zer_set h (fun _ => rfl)
        · rw [if_neg w3]
          split
          · exact h
          · exact zer_set h (fun _ => rfl)
theorem do_zer {s : Sh} (h : zerL s.l) (c : Ca) : zerL (shDo s c).2.2.l := by
  unfold shDo
  split
  · exact h
  · cases lastN s c.ses with
    | none => exact act_zer h c
    | some k =>
      simp only
      split
      · exact h
      · split
        · exact h
        · exact act_zer h c
end Go.Proofs.YtjjfmepinpmkfaaGreatDoor.M

namespace Go.Proofs.YtjjfmepinpmkfaaGreatDoor
open Go.ChangeShapes Go.WideShapes Go.ChangeAt Go.RowKit Go.Lib
set_option linter.unusedVariables false
def isB (n : List Nat) : Prop := ∀ x ∈ n, x < 256
def caV (c : M.Ca) (a : Option Addr) (cap : Nat) : Value := .agg #[.int .i64 c.what, .int .i64 c.ses, .int .i64 c.seq, .string (byStr c.name), .int .i64 c.num, .int .i64 c.share, .slice a c.bys.length cap]
def I64 (x : Int) : Prop := -9223372036854775808 ≤ x ∧ x ≤ 9223372036854775807
/-- a call as it comes: its bytes lie where they can be read -/
structure CaIn (W : World) (c : M.Ca) (a : Option Addr) (cap : Nat) : Prop where
  nb : isB c.name
  nl : c.name.length ≤ 9223372036854775807
  rd : RdB W a c.bys
  le : c.bys.length ≤ cap
  cp : cap ≤ 9223372036854775807
  num : I64 c.num
  shr : I64 c.share
  nil : a = none → cap = 0
abbrev CaC := M.Ca × Option Addr × Nat
def ca0 : CaC := (⟨0, 0, 0, [], 0, 0, []⟩, none, 0)
def SevenAt (w : World) (b off : Nat) (k : CaC) : Prop := w.cell? ⟨b, off, none⟩ = some (.int .i64 k.1.what) ∧ w.cell? ⟨b, off + 1, none⟩ = some (.int .i64 k.1.ses) ∧ w.cell? ⟨b, off + 2, none⟩ = some (.int .i64 k.1.seq) ∧ w.cell? ⟨b, off + 3, none⟩ = some (.string (byStr k.1.name)) ∧ w.cell? ⟨b, off + 4, none⟩ = some (.int .i64 k.1.num) ∧ w.cell? ⟨b, off + 5, none⟩ = some (.int .i64 k.1.share) ∧ w.cell? ⟨b, off + 6, none⟩ = some (.slice k.2.1 k.1.bys.length k.2.2)
/-- calls, where they lie -/
def RdC (w : World) (a : Option Addr) (l : List CaC) : Prop :=
  l.length ≤ maxLen ∧ (∀ k ∈ l, CaIn w k.1 k.2.1 k.2.2) ∧ (l ≠ [] → ∃ b off, a = some ⟨b, off, none⟩ ∧ b < w.heap.size ∧ ∀ i, i < l.length → SevenAt w b (off + i * 7) (l.getD i ca0))
theorem CaIn.below {w w' : World} {c : M.Ca} {a : Option Addr} {cap : Nat} (h : CaIn w c a cap) (hb : Below w.heap.size w w') : CaIn w' c a cap := ⟨h.nb, h.nl, h.rd.below hb, h.le, h.cp, h.num, h.shr, h.nil⟩
theorem RdC.below {w w' : World} {a : Option Addr} {l : List CaC} (h : RdC w a l) (hb : Below w.heap.size w w') : RdC w' a l :=
  ⟨h.1, fun k hk => (h.2.1 k hk).below hb, fun hn => by
    obtain ⟨b, off, e, hl, hc⟩ := h.2.2 hn
    have k : ∀ j v, w.cell? ⟨b, j, none⟩ = some v → w'.cell? ⟨b, j, none⟩ = some v := fun j v hv => (hb.cell (p := ⟨b, j, none⟩) hl).trans hv
    exact ⟨b, off, e, Nat.lt_of_lt_of_le hl hb.size, fun i hi => ⟨k _ _ (hc i hi).1, k _ _ (hc i hi).2.1, k _ _ (hc i hi).2.2.1, k _ _ (hc i hi).2.2.2.1, k _ _ (hc i hi).2.2.2.2.1, k _ _ (hc i hi).2.2.2.2.2.1, k _ _ (hc i hi).2.2.2.2.2.2⟩⟩⟩
theorem M.gt_le : ∀ (b : List Nat) (i x : Nat), (M.gtK b i x).2.1 ≤ i + b.length
  | [], i, x => by show 0 ≤ i + 0; omega
  | c :: r, i, x => by
    have ih := M.gt_le r (i + 1) (x + c % 128 * 128 ^ i)
    show (if (i = 9 ∧ 1 < c) ∨ (0 < i ∧ c = 0) then ((0 : Int), (0 : Nat), (2 : Int)) else if c < 128 then (M.unz (x + c % 128 * 128 ^ i), i + 1, 0) else M.gtK r (i + 1) (x + c % 128 * 128 ^ i)).2.1 ≤ i + (r.length + 1)
    split
    · exact Nat.zero_le _
    · split
      · show i + 1 ≤ _; omega
      · omega
theorem M.get_le (b : List Nat) : (M.getL b).2.1 ≤ b.length := by
  have := M.gt_le b 0 0
  rw [Nat.zero_add] at this
  exact this
theorem M.rNum_fin {b : List Nat} {s : M.In} (h : s.fin ≤ b.length) : (M.rNum b s).2.fin ≤ b.length := by
  by_cases q : s.bad = 0
  · rw [M.rNum_go q]
    have := M.get_le (b.drop s.fin)
    rw [List.length_drop] at this
    show s.fin + _ ≤ _
    omega
  · rw [M.rNum_bad q]; exact h
theorem M.rMany_fin {b : List Nat} {s : M.In} {most : Int} (h : s.fin ≤ b.length) : (M.rMany b most s).2.fin ≤ b.length := by
  have := M.rNum_fin h
  unfold M.rMany
  split
  · exact this
  · split
    · exact this
    · exact this
/-- a cell is written -/
theorem cell_set_same {W : World} {g o : Nat} {u v : Value} (h : W.cell? ⟨g, o, none⟩ = some u) : (W.setCell ⟨g, o, none⟩ v).cell? ⟨g, o, none⟩ = some v := World.cell?_setCell_same _ _ _ h
theorem cell_set_other {W : World} {g o j : Nat} {u v : Value} (h : W.cell? ⟨g, j, none⟩ = some u) (hj : o ≠ j) : (W.setCell ⟨g, o, none⟩ v).cell? ⟨g, j, none⟩ = some u := (World.cell?_setCell_other _ _ _ _ (by intro e; cases e; exact hj rfl)).trans h
theorem frozen_set {W : World} {g o j : Nat} {v : Value} (h : W.frozen? ⟨g, j, none⟩ = false) : (W.setCell ⟨g, o, none⟩ v).frozen? ⟨g, j, none⟩ = false := by rw [World.frozen?_setCell]; exact h
theorem rdB_keep {W W' : World} {a : Option Addr} {xs : List Nat} (h : RdB W a xs) (hk : xs ≠ [] → ∀ p, a = some p → W'.heap[p.block]? = W.heap[p.block]?) (hz : W.heap.size ≤ W'.heap.size) : RdB W' a xs :=
  ⟨h.1, h.2.1, fun hn => by
    obtain ⟨b, off, e, hl, hc⟩ := h.2.2 hn
    have hb : W'.heap[b]? = W.heap[b]? := hk hn _ e
    exact ⟨b, off, e, Nat.lt_of_lt_of_le hl hz, fun i hi => (World.cell?_of_block (a := ⟨b, _, none⟩) hb).trans (hc i hi)⟩⟩
/-- where the next number begins, or the one that is wrong -/
def M.lat (s : M.In) : Nat := if s.bad = 0 then s.fin else s.at'
def M.rWith (b : List Nat) (lo hi e : Int) (s : M.In) : Int × M.In :=
  if s.bad ≠ 0 then (0, s)
  else if (M.getL (b.drop s.fin)).2.2 ≠ 0 then (0, ⟨s.fin, s.fin + (M.getL (b.drop s.fin)).2.1, (M.getL (b.drop s.fin)).2.2⟩)
  else if (M.getL (b.drop s.fin)).1 < lo ∨ hi < (M.getL (b.drop s.fin)).1 then (0, ⟨s.fin, s.fin + (M.getL (b.drop s.fin)).2.1, e⟩)
  else ((M.getL (b.drop s.fin)).1, ⟨s.fin, s.fin + (M.getL (b.drop s.fin)).2.1, 0⟩)
theorem M.gt_zero : ∀ (b : List Nat) (i x : Nat), (M.gtK b i x).2.2 ≠ 0 → (M.gtK b i x).1 = 0
  | [], i, x, _ => rfl
  | c :: r, i, x, h => by
    have ih := M.gt_zero r (i + 1) (x + c % 128 * 128 ^ i)
    have e : M.gtK (c :: r) i x = if (i = 9 ∧ 1 < c) ∨ (0 < i ∧ c = 0) then ((0 : Int), (0 : Nat), (2 : Int)) else if c < 128 then (M.unz (x + c % 128 * 128 ^ i), i + 1, 0) else M.gtK r (i + 1) (x + c % 128 * 128 ^ i) := rfl
    rw [e] at h ⊢
    split
    · rfl
    · next q =>
      rw [if_neg q] at h
      split
      · next q2 => rw [if_pos q2] at h; exact absurd rfl h
      · next q2 => rw [if_neg q2] at h; exact ih h
theorem M.rWith_num {b : List Nat} (h8 : ∀ x ∈ b, x < 256) (s : M.In) : M.rWith b (-9223372036854775808) 9223372036854775807 1 s = M.rNum b s := by
  unfold M.rWith
  by_cases q : s.bad = 0
  · rw [if_neg (by simp [q]), M.rNum_go q]
    by_cases r : (M.getL (b.drop s.fin)).2.2 = 0
    · rw [if_neg (by simp [r])]
      obtain ⟨⟨n, k, e⟩, hR⟩ : ∃ R, M.getL (b.drop s.fin) = R := ⟨_, rfl⟩
      rw [hR] at r ⊢
      have r' : e = 0 := r
      subst r'
      have g := M.get_back (fun x hx => h8 x (List.mem_of_mem_drop hx)) hR
      rw [if_neg (by show ¬ (n < _ ∨ _ < n); omega)]
    · rw [if_pos r]
      have := M.gt_zero (b.drop s.fin) 0 0 r
      show (0, _) = ((M.gtK (b.drop s.fin) 0 0).1, _)
      rw [this]
  · rw [if_pos q, M.rNum_bad q]
theorem M.rWith_many (b : List Nat) (most : Int) (s : M.In) : M.rWith b 1 most 1 s = M.rMany b most s := by
  unfold M.rWith M.rMany
  by_cases q : s.bad = 0
  · rw [if_neg (by simp [q]), M.rNum_go q]
    by_cases r : (M.getL (b.drop s.fin)).2.2 = 0
    · rw [if_neg (by simp [r])]
      by_cases z : (M.getL (b.drop s.fin)).1 < 1 ∨ most < (M.getL (b.drop s.fin)).1
      · rw [if_pos z, if_pos ⟨r, z⟩]
      · rw [if_neg z, if_neg (fun y => z y.2), if_neg (by simp [r]), r]
    · rw [if_pos r, if_neg (fun y => r y.1), if_pos r]
  · rw [if_pos q, M.rNum_bad q, if_neg (fun y => q y.1), if_pos q]
theorem M.rWith_tru {b : List Nat} (h8 : ∀ x ∈ b, x < 256) (s : M.In) : (M.rWith b 0 1 2 s).2 = (if (M.rNum b s).2.bad = 0 ∧ (M.rNum b s).1 ≠ 0 ∧ (M.rNum b s).1 ≠ 1 then { (M.rNum b s).2 with bad := 2 } else (M.rNum b s).2) ∧ ((M.rWith b 0 1 2 s).1 == 1) = decide ((M.rNum b s).1 = 1) := by
  unfold M.rWith
  by_cases q : s.bad = 0
  · rw [if_neg (by simp [q]), M.rNum_go q]
    by_cases r : (M.getL (b.drop s.fin)).2.2 = 0
    · rw [if_neg (by simp [r])]
      by_cases z : (M.getL (b.drop s.fin)).1 < 0 ∨ 1 < (M.getL (b.drop s.fin)).1
      · rw [if_pos z, if_pos ⟨r, by show (M.getL (b.drop s.fin)).1 ≠ 0; omega, by show (M.getL (b.drop s.fin)).1 ≠ 1; omega⟩]
        exact ⟨rfl, by rw [decide_eq_false (by show ¬ (M.getL (b.drop s.fin)).1 = 1; omega)]; rfl⟩
      · rw [if_neg z, if_neg (by rintro ⟨_, y1, y2⟩; exact z (by have y1 : (M.getL (b.drop s.fin)).1 ≠ 0 := y1; have y2 : (M.getL (b.drop s.fin)).1 ≠ 1 := y2; omega))]
        exact ⟨by rw [r], rfl⟩
    · rw [if_pos r, if_neg (fun y => r y.1)]
      refine ⟨rfl, ?_⟩
      have e : (M.getL (b.drop s.fin)).1 = 0 := M.gt_zero (b.drop s.fin) 0 0 r
      show ((0 : Int) == 1) = decide ((M.getL (b.drop s.fin)).1 = 1)
      rw [e]
      rfl
  · rw [if_pos q, M.rNum_bad q, if_neg (fun y => q y.1)]
    exact ⟨rfl, rfl⟩

/-- the reader, where it lies -/
structure RdA (W : World) (g : Nat) (v : Value) (s : M.In) : Prop where
  c0 : W.cell? ⟨g, 0, none⟩ = some v
  c1 : W.cell? ⟨g, 1, none⟩ = some (.int .i64 (M.lat s : Nat))
  c2 : W.cell? ⟨g, 2, none⟩ = some (errV s.bad)
  fr : ∀ j, W.frozen? ⟨g, j, none⟩ = false
theorem RdA.lt {W : World} {g : Nat} {v : Value} {s : M.In} (h : RdA W g v s) : g < W.heap.size := block_lt_of_cell h.c0
theorem RdA.same {W W' : World} {g : Nat} {v : Value} {s : M.In} (h : RdA W g v s) (e : W'.heap[g]? = W.heap[g]?) : RdA W' g v s :=
  ⟨(World.cell?_of_block (a := ⟨g, 0, none⟩) e).trans h.c0, (World.cell?_of_block (a := ⟨g, 1, none⟩) e).trans h.c1, (World.cell?_of_block (a := ⟨g, 2, none⟩) e).trans h.c2, fun j => (World.frozen?_of_block (a := ⟨g, j, none⟩) e).trans (h.fr j)⟩
theorem RdA.up {W W' : World} {g : Nat} {v : Value} {s : M.In} (h : RdA W g v s) (hb : Below W.heap.size W W') : RdA W' g v s := h.same (hb.block g h.lt)
/-- one number further -/
theorem RdA.go {W : World} {g : Nat} {v : Value} {s : M.In} (h : RdA W g v s) (hs : s.bad = 0) (n : Nat) (z : Int) (hz : z = (n : Int)) : RdA (W.setCell ⟨g, 1, none⟩ (.int .i64 z)) g v ⟨s.fin, n, 0⟩ := by
  subst hz
  refine ⟨cell_set_other h.c0 (by decide), ?_, ?_, fun j => frozen_set (h.fr j)⟩
  · have e : M.lat ⟨s.fin, n, 0⟩ = n := if_pos rfl
    rw [e]; exact cell_set_same h.c1
  · have := h.c2
    rw [hs] at this
    exact cell_set_other this (by decide)
/-- it is wrong -/
theorem RdA.stop {W : World} {g : Nat} {v : Value} {s : M.In} (h : RdA W g v s) (hs : s.bad = 0) (n : Nat) (e : Int) (he : e ≠ 0) : RdA (W.setCell ⟨g, 2, none⟩ (.iface 87 (.int .i64 e))) g v ⟨s.fin, n, e⟩ := by
  refine ⟨cell_set_other h.c0 (by decide), ?_, ?_, fun j => frozen_set (h.fr j)⟩
  · have e1 : M.lat ⟨s.fin, n, e⟩ = M.lat s := by unfold M.lat; rw [if_neg he, if_pos hs]
    rw [e1]; exact cell_set_other h.c1 (by decide)
  · show _ = some (errV e)
    rw [err_some he]; exact cell_set_same h.c2

set_option maxHeartbeats 8000000 in
set_option maxRecDepth 10000 in
theorem within_any (g : Nat) (a : Option Addr) (bs : List Nat) (c : Nat) (lo hi told : Int) (s : M.In) (w : World) (h : RdA w g (.slice a bs.length c) s) (hb : RdB w a bs) (hc : bs.length ≤ c) (h63 : c ≤ 9223372036854775807) (hf : s.fin ≤ bs.length) (ht : told ≠ 0) :
    Calls Tryz.prog 138 #[.pointer (some ⟨g, 0, none⟩), .int .i64 lo, .int .i64 hi, .int .i64 told] w fun e w' => e = .returned (.int .i64 (M.rWith bs lo hi told s).1) ∧ RdA w' g (.slice a bs.length c) (M.rWith bs lo hi told s).2 ∧ w.grownBy w' (some g) := by
  have y2 := h.c2
  have HT := hide ht
  clear ht
  by_cases q : s.bad = 0
  · have EW : Hid (M.rWith bs lo hi told s = if (M.getL (bs.drop s.fin)).2.2 ≠ 0 then (0, ⟨s.fin, s.fin + (M.getL (bs.drop s.fin)).2.1, (M.getL (bs.drop s.fin)).2.2⟩) else if (M.getL (bs.drop s.fin)).1 < lo ∨ hi < (M.getL (bs.drop s.fin)).1 then (0, ⟨s.fin, s.fin + (M.getL (bs.drop s.fin)).2.1, told⟩) else ((M.getL (bs.drop s.fin)).1, ⟨s.fin, s.fin + (M.getL (bs.drop s.fin)).2.1, 0⟩)) := by
      unfold Hid M.rWith; rw [if_neg (by simp [q])]
    rw [err_nil q] at y2
    have y0 := h.c0
    have y1 := h.c1
    rw [show M.lat s = s.fin from if_pos q] at y1
    have Q := hide q
    obtain ⟨R, hR⟩ : ∃ R, R = M.getL (bs.drop s.fin) := ⟨_, rfl⟩
    have rl : s.fin + R.2.1 ≤ bs.length := by
      have := M.get_le (bs.drop s.fin)
      rw [← hR, List.length_drop] at this
      omega
    have GT : Hid (∀ (W : World) a' n' c', n' = bs.length - s.fin → RdB W a' (bs.drop s.fin) → Calls Tryz.prog 142 #[.slice a' n' c'] W fun e w' => e = .returned (.tuple #[.int .i64 R.1, .int .i64 (R.2.1 : Nat), errV R.2.2]) ∧ w' = W) := fun W a' n' c' hn h' => by
      have := cdget_same a' (bs.drop s.fin) c' W h'
      rw [List.length_drop, ← hn, ← hR] at this
      exact this
    rw [← hR] at EW
    have RS : Hid (∀ n, RdB (w.drewN n) (if c = s.fin then a else Option.map (fun x => x.add s.fin) a) (bs.drop s.fin)) := fun n => rdB_slice (hb.below (below_drew (Below.refl _ _) n (Nat.le_refl _))) hc
    have z0 : (0 : Int) ≤ (s.fin : Int) := by omega
    have z1 : (s.fin : Int) ≤ (bs.length : Int) := by omega
    have z2 : (s.fin : Int) ≤ (c : Int) := by omega
    have HH := hide h
    generalize M.rWith bs lo hi told s = Z at *
    clear h hb hR q
    obtain ⟨n, k, er⟩ := R
    have rl : s.fin + k ≤ bs.length := rl
    have rl2 : s.fin + k ≤ 9223372036854775807 := by omega
    simp only at GT EW
    by_cases r : er = 0
    · subst r
      have zn : errV 0 = .nilIface := if_pos rfl
      rw [zn] at GT
      rw [if_neg (by simp)] at EW
      clear zn
      by_cases l1 : n < lo
      · have EZ : Hid (Z = (0, ⟨s.fin, s.fin + k, told⟩)) := by unfold Hid; rw [EW.out, if_pos (.inl l1)]
        have t1 : decide (n < lo) = true := decide_eq_true l1
        clear EW l1
        go_enter Tryz.func138, Tryz.ntmps138
        go_upto_region 3 with (fail)
        go_quiet ((go_at_call 142; exact Calls.quiet_of_same (GT.out _ _ _ _ rfl (RS.out _))))
        generalize (if c = s.fin then a else Option.map (fun x => x.add s.fin) a) = ad
        obtain ⟨w2, hw2⟩ : ∃ X, X = w.drewN nq := ⟨_, rfl⟩
        rw [← hw2]
        have H2 : Hid (RdA w2 g (.slice a bs.length c) s) := by rw [hw2]; exact HH.out.up (below_drew (Below.refl _ _) nq (Nat.le_refl _))
        have G2 : Hid (w.grownBy w2 (some g)) := by rw [hw2]; exact grown_of (below_drew (Below.refl _ _) nq (Nat.le_refl _)) (some g)
        clear hw2 y0 y1 y2 GT RS HH
        have v2 : w2.cell? ⟨g, 2, none⟩ = some (.nilIface) := by have := H2.out.c2; rwa [err_nil Q.out] at this
        have f2 := H2.out.fr 2
        have S3 := hide (H2.out.stop Q.out (s.fin + k) told HT.out)
        go_wp2
        go_ret
        exact ⟨by rw [EZ.out]; rfl, by rw [EZ.out]; exact S3.out, grown_trans G2.out grown_set (.inl rfl)⟩
      · by_cases l2 : hi < n
        · have EZ : Hid (Z = (0, ⟨s.fin, s.fin + k, told⟩)) := by unfold Hid; rw [EW.out, if_pos (.inr l2)]
          have t1 : decide (n < lo) = false := decide_eq_false l1
          have t2 : decide (hi < n) = true := decide_eq_true l2
          clear EW l1 l2
          go_enter Tryz.func138, Tryz.ntmps138
          go_upto_region 3 with (fail)
          go_quiet ((go_at_call 142; exact Calls.quiet_of_same (GT.out _ _ _ _ rfl (RS.out _))))
          generalize (if c = s.fin then a else Option.map (fun x => x.add s.fin) a) = ad
          obtain ⟨w2, hw2⟩ : ∃ X, X = w.drewN nq := ⟨_, rfl⟩
          rw [← hw2]
          have H2 : Hid (RdA w2 g (.slice a bs.length c) s) := by rw [hw2]; exact HH.out.up (below_drew (Below.refl _ _) nq (Nat.le_refl _))
          have G2 : Hid (w.grownBy w2 (some g)) := by rw [hw2]; exact grown_of (below_drew (Below.refl _ _) nq (Nat.le_refl _)) (some g)
          clear hw2 y0 y1 y2 GT RS HH
          have v2 : w2.cell? ⟨g, 2, none⟩ = some (.nilIface) := by have := H2.out.c2; rwa [err_nil Q.out] at this
          have f2 := H2.out.fr 2
          have S3 := hide (H2.out.stop Q.out (s.fin + k) told HT.out)
          go_wp2
          go_ret
          exact ⟨by rw [EZ.out]; rfl, by rw [EZ.out]; exact S3.out, grown_trans G2.out grown_set (.inl rfl)⟩
        · have EZ : Hid (Z = (n, ⟨s.fin, s.fin + k, 0⟩)) := by unfold Hid; rw [EW.out, if_neg (by rintro (y | y); exact l1 y; exact l2 y)]
          have t1 : decide (n < lo) = false := decide_eq_false l1
          have t2 : decide (hi < n) = false := decide_eq_false l2
          clear EW l1 l2
          go_enter Tryz.func138, Tryz.ntmps138
          go_upto_region 3 with (fail)
          go_quiet ((go_at_call 142; exact Calls.quiet_of_same (GT.out _ _ _ _ rfl (RS.out _))))
          generalize (if c = s.fin then a else Option.map (fun x => x.add s.fin) a) = ad
          obtain ⟨w2, hw2⟩ : ∃ X, X = w.drewN nq := ⟨_, rfl⟩
          rw [← hw2]
          have H2 : Hid (RdA w2 g (.slice a bs.length c) s) := by rw [hw2]; exact HH.out.up (below_drew (Below.refl _ _) nq (Nat.le_refl _))
          have G2 : Hid (w.grownBy w2 (some g)) := by rw [hw2]; exact grown_of (below_drew (Below.refl _ _) nq (Nat.le_refl _)) (some g)
          clear hw2 y0 y1 y2 GT RS HH
          have v1 : w2.cell? ⟨g, 1, none⟩ = some (.int .i64 (s.fin : Nat)) := by have := H2.out.c1; rwa [show M.lat s = s.fin from if_pos Q.out] at this
          have f1 := H2.out.fr 1
          have S3 := hide (H2.out.go Q.out (s.fin + k) ((s.fin : Int) + (k : Int)) (by omega))
          go_wp2
          go_ret
          exact ⟨by rw [EZ.out]; rfl, by rw [EZ.out]; exact S3.out, grown_trans G2.out grown_set (.inl rfl)⟩
    · have EZ : Hid (Z = (0, ⟨s.fin, s.fin + k, er⟩)) := by unfold Hid; rw [EW.out, if_pos r]
      rw [err_some r] at GT
      have RR := hide r
      clear EW r
      go_enter Tryz.func138, Tryz.ntmps138
      go_upto_region 3 with (fail)
      go_quiet ((go_at_call 142; exact Calls.quiet_of_same (GT.out _ _ _ _ rfl (RS.out _))))
      generalize (if c = s.fin then a else Option.map (fun x => x.add s.fin) a) = ad
      obtain ⟨w2, hw2⟩ : ∃ X, X = w.drewN nq := ⟨_, rfl⟩
      rw [← hw2]
      have H2 : Hid (RdA w2 g (.slice a bs.length c) s) := by rw [hw2]; exact HH.out.up (below_drew (Below.refl _ _) nq (Nat.le_refl _))
      have G2 : Hid (w.grownBy w2 (some g)) := by rw [hw2]; exact grown_of (below_drew (Below.refl _ _) nq (Nat.le_refl _)) (some g)
      clear hw2 y0 y1 y2 GT RS HH
      have v2 : w2.cell? ⟨g, 2, none⟩ = some (.nilIface) := by have := H2.out.c2; rwa [err_nil Q.out] at this
      have f2 := H2.out.fr 2
      have S3 := hide (H2.out.stop Q.out (s.fin + k) er RR.out)
      go_wp2
      go_ret
      exact ⟨by rw [EZ.out]; rfl, by rw [EZ.out]; exact S3.out, grown_trans G2.out grown_set (.inl rfl)⟩
  · have EZ : Hid (M.rWith bs lo hi told s = (0, s)) := by unfold Hid M.rWith; rw [if_pos q]
    rw [err_some q] at y2
    have HI := hide h
    clear h hb q
    go_enter Tryz.func138, Tryz.ntmps138
    go_wp2
    go_ret
    exact ⟨by rw [EZ.out]; rfl, by rw [EZ.out]; exact HI.out, World.grownBy.refl _ _⟩

theorem number_any (g : Nat) (a : Option Addr) (bs : List Nat) (c : Nat) (s : M.In) (w : World) (h : RdA w g (.slice a bs.length c) s) (hb : RdB w a bs) (hc : bs.length ≤ c) (h63 : c ≤ 9223372036854775807) (hf : s.fin ≤ bs.length) :
    Calls Tryz.prog 131 #[.pointer (some ⟨g, 0, none⟩)] w fun e w' => e = .returned (.int .i64 (M.rNum bs s).1) ∧ RdA w' g (.slice a bs.length c) (M.rNum bs s).2 ∧ w.grownBy w' (some g) := by
  have F := hide (within_any g a bs c (-9223372036854775808) 9223372036854775807 1 s w h hb hc h63 hf (by decide))
  rw [M.rWith_num hb.2.1] at F
  generalize M.rNum bs s = R at *
  clear h hb hc hf
  go_enter Tryz.func131, Tryz.ntmps131
  go_wp2_with (go_at_call 138; refine F.out.mono ?_; rintro e w1 ⟨rfl, i1, g1⟩; have I1 := hide i1; have G1 := hide g1; clear i1 g1)
  go_ret
  exact ⟨rfl, I1.out, G1.out⟩
theorem count_any (g : Nat) (a : Option Addr) (bs : List Nat) (c : Nat) (most : Int) (s : M.In) (w : World) (h : RdA w g (.slice a bs.length c) s) (hb : RdB w a bs) (hc : bs.length ≤ c) (h63 : c ≤ 9223372036854775807) (hf : s.fin ≤ bs.length) :
    Calls Tryz.prog 132 #[.pointer (some ⟨g, 0, none⟩), .int .i64 most] w fun e w' => e = .returned (.int .i64 (M.rMany bs most s).1) ∧ RdA w' g (.slice a bs.length c) (M.rMany bs most s).2 ∧ w.grownBy w' (some g) := by
  have F := hide (within_any g a bs c 1 most 1 s w h hb hc h63 hf (by decide))
  rw [M.rWith_many] at F
  generalize M.rMany bs most s = R at *
  clear h hb hc hf
  go_enter Tryz.func132, Tryz.ntmps132
  go_wp2_with (go_at_call 138; refine F.out.mono ?_; rintro e w1 ⟨rfl, i1, g1⟩; have I1 := hide i1; have G1 := hide g1; clear i1 g1)
  go_ret
  exact ⟨rfl, I1.out, G1.out⟩
theorem truth_any (g : Nat) (a : Option Addr) (bs : List Nat) (c : Nat) (s : M.In) (w : World) (h : RdA w g (.slice a bs.length c) s) (hb : RdB w a bs) (hc : bs.length ≤ c) (h63 : c ≤ 9223372036854775807) (hf : s.fin ≤ bs.length) :
    Calls Tryz.prog 143 #[.pointer (some ⟨g, 0, none⟩)] w fun e w' => e = .returned (.bool (decide ((M.rNum bs s).1 = 1))) ∧ RdA w' g (.slice a bs.length c) (if (M.rNum bs s).2.bad = 0 ∧ (M.rNum bs s).1 ≠ 0 ∧ (M.rNum bs s).1 ≠ 1 then { (M.rNum bs s).2 with bad := 2 } else (M.rNum bs s).2) ∧ w.grownBy w' (some g) := by
  have F := hide (within_any g a bs c 0 1 2 s w h hb hc h63 hf (by decide))
  have e := M.rWith_tru hb.2.1 s
  rw [e.1] at F
  have E2 := hide e.2
  generalize (if (M.rNum bs s).2.bad = 0 ∧ (M.rNum bs s).1 ≠ 0 ∧ (M.rNum bs s).1 ≠ 1 then { (M.rNum bs s).2 with bad := 2 } else (M.rNum bs s).2) = T at *
  rw [← e.2]
  generalize (M.rWith bs 0 1 2 s).1 = R at *
  clear h hb hc hf e
  go_enter Tryz.func143, Tryz.ntmps143
  go_wp2_with (go_at_call 138; refine F.out.mono ?_; rintro e w1 ⟨rfl, i1, g1⟩; have I1 := hide i1; have G1 := hide g1; clear i1 g1)
  go_ret
  exact ⟨rfl, I1.out, G1.out⟩
end Go.Proofs.YtjjfmepinpmkfaaGreatDoor
