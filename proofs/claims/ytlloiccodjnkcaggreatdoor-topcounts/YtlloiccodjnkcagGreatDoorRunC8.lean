/-
  Several texts as one: MathWf, MathSw, MathWh, MathH, MathZ, MathLa, MathDf.
-/
import Derived.Test.YtlloiccodjnkcagGreatDoorRunC7
import Derived.Test.YtlloiccodjnkcagGreatDoorRunC6
import Derived.Test.YtlloiccodjnkcagGreatDoorRunC5
import Derived.Test.YtlloiccodjnkcagGreatDoorRunC2
import Derived.Test.YtlloiccodjnkcagGreatDoorRunC3
namespace Go.Proofs.YtlloiccodjnkcagGreatDoor.M
set_option linter.unusedVariables false

theorem pre_sc (f : Int → Int) : ∀ T : BT, pre (scB f T) = pre T
  | .lf _ => rfl
  | .nd a c s l r => by
    show a :: (pre (scB f l) ++ pre (scB f r)) = a :: (pre l ++ pre r)
    rw [pre_sc f l, pre_sc f r]
theorem part_mem {l : List Sa} {f : Nat} {c : Int} {b : Bool} {s : Sa} (h : s ∈ partS l f c b) : s ∈ l ∧ sideB f c s = b := by
  unfold partS at h
  obtain ⟨h1, h2⟩ := List.mem_filter.1 h
  exact ⟨h1, by simpa using h2⟩
/-- who is asked for differs -/
theorem grow_asks {m : Nat} : ∀ (d : Nat) {l : List Sa}, 0 < l.length → ∀ g ∈ pre (growT m 1 d l), g = -1 ∨ ∃ f : Nat, g = (f : Int) ∧ f < m ∧ ∃ s ∈ l, ∃ u ∈ l, colA s f ≠ colA u f
  | 0, l, hl, g, hg => by
    have : g ∈ [(-1 : Int)] := hg
    exact .inl (by simpa using this)
  | d + 1, l, hl, g, hg => by
    unfold growT at hg
    by_cases q : (spV l m 1).2.2.2.2 = true
    · rw [if_pos q] at hg
      obtain ⟨s1, _, s3, s4, _⟩ := grow_sides (Int.le_refl _) hl q
      have n1 : 0 < (partS l (spV l m 1).2.2.1 (spV l m 1).2.2.2.1 true).length := by unfold nB at s3; omega
      have n2 : 0 < (partS l (spV l m 1).2.2.1 (spV l m 1).2.2.2.1 false).length := by unfold nB at s4; omega
      have hg' : g ∈ ((spV l m 1).2.2.1 : Int) :: (pre (growT m 1 d (partS l (spV l m 1).2.2.1 (spV l m 1).2.2.2.1 true)) ++ pre (growT m 1 d (partS l (spV l m 1).2.2.1 (spV l m 1).2.2.2.1 false))) := hg
      have up : ∀ b, (∃ f : Nat, g = (f : Int) ∧ f < m ∧ ∃ s ∈ partS l (spV l m 1).2.2.1 (spV l m 1).2.2.2.1 b, ∃ u ∈ partS l (spV l m 1).2.2.1 (spV l m 1).2.2.2.1 b, colA s f ≠ colA u f) → ∃ f : Nat, g = (f : Int) ∧ f < m ∧ ∃ s ∈ l, ∃ u ∈ l, colA s f ≠ colA u f := by
        rintro b ⟨f, e, hf, s, hs, u, hu, ne⟩
        exact ⟨f, e, hf, s, (part_mem hs).1, u, (part_mem hu).1, ne⟩
      rcases List.mem_cons.1 hg' with e | e
      · obtain ⟨s, hs⟩ := List.exists_mem_of_length_pos n1
        obtain ⟨u, hu⟩ := List.exists_mem_of_length_pos n2
        refine .inr ⟨_, e, s1, s, (part_mem hs).1, u, (part_mem hu).1, fun z => ?_⟩
        have h1 := of_decide_eq_true (part_mem hs).2
        have h2 := of_decide_eq_false (part_mem hu).2
        omega
      · rcases List.mem_append.1 e with z | z
        · rcases grow_asks d n1 g z with y | y
          · exact .inl y
          · exact .inr (up true y)
        · rcases grow_asks d n2 g z with y | y
          · exact .inl y
          · exact .inr (up false y)
    · rw [if_neg q] at hg
      have : g ∈ [(-1 : Int)] := hg
      exact .inl (by simpa using this)
/-- so in a boosted grove -/
theorem bo_asks {m dp : Nat} {share : Int} {l : List Sa} (h : GoodS l m) (hl : 0 < l.length) (s1 : 1 ≤ share) (s2 : share ≤ 100) : ∀ k, ∀ T ∈ (boR m dp share l k).1, ∀ g ∈ pre T, g = -1 ∨ ∃ f : Nat, g = (f : Int) ∧ f < m ∧ ∃ s ∈ l, ∃ u ∈ l, colA s f ≠ colA u f
  | 0, T, hT, g, hg => by
    have : T = .lf (meanS l) := by
      have : T ∈ [BT.lf (meanS l)] := hT
      simpa using this
    subst this
    have : g ∈ [(-1 : Int)] := hg
    exact .inl (by simpa using this)
  | k + 1, T, hT, g, hg => by
    have ih := bo_asks (dp := dp) h hl s1 s2 k
    have I := bo_all (dp := dp) (share := share) h hl s1 s2 k
    have hT' : T ∈ (boN m dp share l (boR m dp share l k)).1 := hT
    unfold boN at hT'
    split at hT'
    · exact ih T hT' g hg
    · split at hT'
      · exact ih T hT' g hg
      · rcases List.mem_append.1 hT' with z | z
        · exact ih T z g hg
        · have e : T = boT m dp share l (boR m dp share l k).2.1 := by simpa using z
          subst e
          unfold boT at hg
          rw [pre_sc] at hg
          have ln := les_len l (boR m dp share l k).2.1 I.len
          rcases grow_asks dp (by rw [ln]; exact hl) g hg with y | ⟨f, e, hf, s, hs, u, hu, ne⟩
          · exact .inl y
          · obtain ⟨_, _, s', hs', es⟩ := les_mem l _ s hs
            obtain ⟨_, _, u', hu', eu⟩ := les_mem l _ u hu
            refine .inr ⟨f, e, hf, s', hs', u', hu', fun q => ne ?_⟩
            unfold colA at q ⊢
            rw [es, eu]; exact q
/-- who differs differs from the first -/
theorem differ_first {l : List Sa} {f : Nat} (h : ∃ s ∈ l, ∃ u ∈ l, colA s f ≠ colA u f) : ∃ k, 0 < k ∧ k < l.length ∧ colA (sAt l k) f ≠ colA (sAt l 0) f := by
  obtain ⟨s, hs, u, hu, ne⟩ := h
  obtain ⟨i, hi, ei⟩ := List.getElem_of_mem hs
  obtain ⟨j, hj, ej⟩ := List.getElem_of_mem hu
  have ai : sAt l i = s := by unfold sAt; rw [getD_at hi, ei]
  have aj : sAt l j = u := by unfold sAt; rw [getD_at hj, ej]
  by_cases c : colA (sAt l i) f = colA (sAt l 0) f
  · refine ⟨j, ?_, hj, fun z => ne ?_⟩
    · rcases Nat.eq_zero_or_pos j with y | y
      · subst y; exact absurd (by rw [← ai, ← aj]; exact c) ne
      · exact y
    · rw [← ai, ← aj, c, z]
  · refine ⟨i, ?_, hi, c⟩
    rcases Nat.eq_zero_or_pos i with y | y
    · subst y; exact absurd rfl c
    · exact y
/-! ### who is counted stands there -/
theorem cnt_pos {f : Int} : ∀ {t : List Nd}, cntN f t ≠ 0 → f ∈ t.map nf
  | [], h => absurd rfl h
  | n :: t, h => by
    have h' : (if nf n = f then 1 else 0) + cntN f t ≠ 0 := h
    by_cases e : nf n = f
    · rw [List.map_cons, e]; exact List.mem_cons_self ..
    · rw [if_neg e, Nat.zero_add] at h'
      exact List.mem_cons_of_mem _ (cnt_pos h')
theorem cnt_zero {f : Int} : ∀ {t : List Nd}, cntN f t = 0 → ∀ g ∈ t.map nf, g ≠ f
  | [], _, g, hg => by simp at hg
  | n :: t, h, g, hg => by
    have h' : (if nf n = f then 1 else 0) + cntN f t = 0 := h
    have ne : nf n ≠ f := fun e => by rw [if_pos e] at h'; omega
    rw [List.map_cons] at hg
    rcases List.mem_cons.1 hg with e | e
    · rw [e]; exact ne
    · exact cnt_zero (by omega) g e
theorem cntG_pos {f : Int} : ∀ {l : List (List Nd)}, cntG f l ≠ 0 → ∃ t ∈ l, cntN f t ≠ 0
  | [], h => absurd rfl h
  | t :: l, h => by
    have h' : cntN f t + cntG f l ≠ 0 := h
    by_cases e : cntN f t = 0
    · obtain ⟨u, hu, z⟩ := cntG_pos (l := l) (f := f) (by omega)
      exact ⟨u, List.mem_cons_of_mem _ hu, z⟩
    · exact ⟨t, List.mem_cons_self .., e⟩
theorem cntG_zero {f : Int} : ∀ {l : List (List Nd)}, cntG f l = 0 → ∀ t ∈ l, cntN f t = 0
  | [], _, t, ht => by cases ht
  | u :: l, h, t, ht => by
    have h' : cntN f u + cntG f l = 0 := h
    rcases List.mem_cons.1 ht with e | e
    · rw [e]; omega
    · exact cntG_zero (l := l) (by omega) t e
theorem uses_mem {l : List (List Nd)} {u : Us} : u ∈ usesV l ↔ ∃ i : Nat, i < 8 ∧ u = ((i : Int), ((cntG (i : Int) l : Nat) : Int), (0 : Int)) ∧ cntG (i : Int) l ≠ 0 := by
  unfold usesV
  rw [(rank_spec (useL_rise l)).2]
  unfold useL
  rw [List.mem_map]
  constructor
  · rintro ⟨⟨i, hi, rfl⟩, h⟩
    exact ⟨i, List.mem_range.1 hi, rfl, fun z => h (by show ((cntG (i : Int) l : Nat) : Int) = 0; rw [z]; rfl)⟩
  · rintro ⟨i, hi, rfl, h⟩
    refine ⟨⟨i, List.mem_range.2 hi, rfl⟩, fun z => h ?_⟩
    have : ((cntG (i : Int) l : Nat) : Int) = 0 := z
    omega
/-- what is not asked for is not missed -/
theorem wo_unasked {f : Nat} {T : BT} (h : cntN (f : Int) (lay T 0) = 0) : wo (f : Int) T = T := by
  refine wo_same T ((pre_free (by omega) T).2 fun g hg => ?_)
  rw [← pre_lay T 0] at hg
  exact cnt_zero h g hg
/-- without a feature none asks for it -/
theorem cnt_wo {f : Nat} (T : BT) : cntN (f : Int) (lay (wo (f : Int) T) 0) = 0 := by
  by_cases c : cntN (f : Int) (lay (wo (f : Int) T) 0) = 0
  · exact c
  · have := cnt_pos c
    rw [pre_lay] at this
    exact absurd rfl ((pre_free (by omega) _).1 (wo_free (f : Int) T) _ this)

end Go.Proofs.YtlloiccodjnkcagGreatDoor.M

namespace Go.Proofs.YtlloiccodjnkcagGreatDoor
set_option linter.unusedVariables false

def M.rdyF (t : List M.Nd) (l : List M.Sa) : Int := if l.length = 0 then 5 else if (M.treeF t ((M.sAt l 0).1.length : Int)).2 ≠ 0 then (M.treeF t ((M.sAt l 0).1.length : Int)).2 else (M.samF l ((M.sAt l 0).1.length : Int)).2
def M.wrgS (t : List M.Nd) : List M.Sa → Int
  | [] => 0
  | s :: l => (s.2 - M.nv (M.nAt t (M.toD t s.1 0))) * (s.2 - M.nv (M.nAt t (M.toD t s.1 0))) + M.wrgS t l
theorem M.wrg_app (t : List M.Nd) (a b : List M.Sa) : M.wrgS t (a ++ b) = M.wrgS t a + M.wrgS t b := by
  induction a with
  | nil => simp [M.wrgS]
  | cons s a ih => show _ + M.wrgS t (a ++ b) = _ + M.wrgS t a + M.wrgS t b; rw [ih]; omega
def M.wrgV (t : List M.Nd) (l : List M.Sa) : Int := if M.rdyF t l = 0 then M.wrgS t l else 0
theorem M.rdy_ok {t : List M.Nd} {l : List M.Sa} (h : M.rdyF t l = 0) : 0 < l.length ∧ (M.treeF t ((M.sAt l 0).1.length : Int)).2 = 0 ∧ (M.samF l ((M.sAt l 0).1.length : Int)).2 = 0 := by
  unfold M.rdyF at h
  by_cases c1 : l.length = 0
  · rw [if_pos c1] at h; cases h
  · rw [if_neg c1] at h
    by_cases c2 : (M.treeF t ((M.sAt l 0).1.length : Int)).2 = 0
    · rw [if_neg (by simp [c2])] at h
      exact ⟨by omega, c2, h⟩
    · rw [if_pos c2] at h; exact absurd h c2

end Go.Proofs.YtlloiccodjnkcagGreatDoor

namespace Go.Proofs.YtlloiccodjnkcagGreatDoor.M
set_option linter.unusedVariables false

def woT (f : Int) (t : List Nd) : List Nd := lay (wo f (bt t 0)) 0
def woG (g : Gv) (f : Int) : Gv := (gf g, gw g, gs g, (gt g).map (woT f))
theorem woT_tree {t : List Nd} {m : Int} (f : Int) (h : (treeF t m).2 = 0) : (treeF (woT f t) m).2 = 0 ∧ okB m (wo f (bt t 0)) ∧ (woT f t).length ≤ t.length := by
  have F := (tree_ok h).1
  have ok := bt_ok F.2.2.2.2.1 t.length 0 F.2.1 (by omega)
  have wl := wo_le f (bt t 0)
  have bs := bt_size F
  have l63 := F.1
  have dp := tree_deep h
  have bd := bt_deep F.2.2.2.2.1 t.length 0 F.2.1 (by omega)
  exact ⟨lay_tree (wo_ok _ ok) F.2.2.1 F.2.2.2.1 (by omega) (by omega), wo_ok _ ok, by unfold woT; rw [lay_len]; omega⟩
theorem woG_good {g : Gv} (f : Int) (h : Good g) : Good (woG g f) := by
  have hl : (gt (woG g f)).length = (gt g).length := by show ((gt g).map (woT f)).length = _; simp
  refine { h with t0 := ?_, t12 := ?_, len := ?_, trees := ?_ }
  · rw [hl]; exact h.t0
  · rw [hl]; exact h.t12
  · rw [hl]; exact h.len
  · intro t ht
    obtain ⟨u, hu, rfl⟩ := List.mem_map.1 (show t ∈ (gt g).map (woT f) from ht)
    exact (woT_tree f (h.trees u hu)).1
theorem row_nil {r : List Int} (f : Nat) (h : rowF r = 0) : rowF (r.set f nilI) = 0 := by
  rw [row_ok] at h ⊢
  refine ⟨by rw [List.length_set]; exact h.1, fun x hx => ?_⟩
  rcases List.mem_or_eq_of_mem_set hx with q | q
  · exact h.2 x q
  · rw [q]; exact good_nil
theorem woT_eval {t : List Nd} {r : List Int} {f : Nat} (hf : f < r.length) (h : (treeF t (r.length : Int)).2 = 0) (hr : rowF r = 0) : evalV (woT (f : Int) t) r = evalV t (r.set f nilI) := by
  have F := (tree_ok h).1
  have ok := bt_ok F.2.2.2.2.1 t.length 0 F.2.1 (by omega)
  obtain ⟨a, b, _⟩ := woT_tree (f : Int) h
  rw [show evalV (woT (f : Int) t) r = evB (wo (f : Int) (bt t 0)) r from (lay_eval b a hr).2, wo_ev hf _ ok]
  refine (eval_bt ?_).symm
  rw [ready_tree (row_nil f hr), List.length_set]
  exact h
theorem woG_eval {g : Gv} {r : List Int} {f : Nat} (hf : f < r.length) (h : Good g) (hr : rowF r = 0) (hm : (r.length : Int) = gf g) : evalG (woG g (f : Int)) r = evalG g (r.set f nilI) := by
  have s1 : standF (woG g (f : Int)) r = 0 := stand_of (woG_good _ h) hr hm
  have s2 : standF g (r.set f nilI) = 0 := stand_of h (row_nil f hr) (by rw [List.length_set]; exact hm)
  unfold evalG
  rw [if_pos s1, if_pos s2]
  show together (gw g) (gs g) _ = _
  congr 1
  show ((gt g).map (woT (f : Int))).map (fun t => evalV t r) = (gt g).map fun t => evalV t (r.set f nilI)
  rw [List.map_map]
  exact List.map_congr_left fun t ht => woT_eval hf (by rw [hm]; exact h.trees t ht) hr
/-- what package weigh answers -/
def usV (g : Gv) : List Us := if groveF g = 0 then usesV (gt g) else []
def gnV (t : List Nd) (l : List Sa) : List Us := if rdyF t l = 0 then gainsV t l else []
def woF (g : Gv) (f : Int) : Int := if groveF g ≠ 0 then groveF g else if f < 0 ∨ gf g ≤ f then 1 else 0
def woV (g : Gv) (f : Int) : Gv := if woF g f = 0 then woG g f else (0, 0, [], [])
theorem wo_fine {g : Gv} {f : Int} (h : woF g f = 0) : Good g ∧ 0 ≤ f ∧ f < gf g ∧ woV g f = woG g f := by
  have e : woV g f = woG g f := by unfold woV; rw [if_pos h]
  unfold woF at h
  split at h
  · rename_i c; exact absurd h c
  · rename_i c
    have c0 : groveF g = 0 := by omega
    split at h
    · omega
    · exact ⟨(good_iff g).1 c0, by omega, by omega, e⟩
theorem wo_grove {g : Gv} {f : Int} (h : woF g f = 0) : groveF (woV g f) = 0 := by
  obtain ⟨a, _, _, e⟩ := wo_fine h
  rw [e]
  exact (good_iff _).2 (woG_good f a)

end Go.Proofs.YtlloiccodjnkcagGreatDoor.M

namespace Go.Proofs.YtlloiccodjnkcagGreatDoor.M
set_option linter.unusedVariables false

/-- a cell that no question asks for, changed -/
theorem getD_set {r : List Int} {k j : Nat} {c : Int} (h : j ≠ k) : r.getD j 0 = (r.set k c).getD j 0 := by
  simp [List.getD, List.getElem?_set_ne (Ne.symm h)]
theorem ready_set {t : List Nd} {r : List Int} {k : Nat} {c : Int} (h : readyF t r = 0) (hc : outI c = false) : readyF t (r.set k c) = 0 := by
  obtain ⟨h1, h2⟩ := ready_ok h
  obtain ⟨g1, g2⟩ := (row_ok r).1 h1
  have h3 : rowF (r.set k c) = 0 := (row_ok _).2 ⟨by rw [List.length_set]; exact g1, fun x hx => by
    rcases List.mem_or_eq_of_mem_set hx with q | q
    · exact g2 x q
    · subst q; exact good_cell hc⟩
  rw [ready_tree h3, List.length_set]; exact h2
theorem leaf_set {t : List Nd} {r : List Int} {k : Nat} {c : Int} (h : readyF t r = 0) (hc : outI c = false) (hn : ∀ j, j < t.length → nf (nAt t j) ≠ (k : Int)) : leafV t (r.set k c) = leafV t r := by
  obtain ⟨F, _⟩ := tree_ok (ready_ok h).2
  unfold leafV
  rw [if_pos h, if_pos (ready_set h hc)]
  exact (go_same F.2.2.2.2.1 (fun j hj => getD_set hj) hn t.length 0 F.2.1).symm
theorem any_take {l : List Int} {x : Int} {k : Nat} (h : k < l.length) : (l.take (k + 1)).any (· == x) = ((l.take k).any (· == x) || l[k] == x) := by
  rw [List.take_succ_eq_append_getElem h, List.any_append]; simp
theorem leaf_among {t : List Nd} {r : List Int} (h : readyF t r = 0) (h8 : (treeF t 8).2 = 0) : (leavesV t).any (· == (leafV t r : Int)) = true := by
  obtain ⟨F, _⟩ := tree_ok (ready_ok h).2
  obtain ⟨h1, h2⟩ := to_end F.2.2.2.2.1 r t.length 0 F.2.1 (by omega)
  unfold leavesV leafV
  rw [if_pos h8, if_pos h, List.any_eq_true]
  exact ⟨_, lvs_mem t t.length _ h1 h2, by simp⟩
theorem leaves_half {t : List Nd} (h : (treeF t 8).2 = 0) : 2 * (leavesV t).length = t.length + 1 := by
  obtain ⟨F, _⟩ := tree_ok h
  unfold leavesV
  rw [if_pos h]; exact halves F
/-- the tree of one question -/
def oneT : List Nd := [(0, 5, 1, 2, false, 0), (-1, 0, 0, 0, false, 7), (-1, 0, 0, 0, false, 9)]
theorem one_ready (x : Int) (h : x = 4 ∨ x = 5) : readyF oneT [x] = 0 := by rcases h with rfl | rfl <;> decide +kernel
theorem one_four : evalV oneT [4] = 7 := by decide +kernel
theorem one_five : evalV oneT [5] = 9 := by decide +kernel

end Go.Proofs.YtlloiccodjnkcagGreatDoor.M

namespace Go.Proofs.YtlloiccodjnkcagGreatDoor.M
set_option linter.unusedVariables false

def isLf (t : List Nd) (k : Int) : Bool := decide (0 ≤ k) && decide (k < (t.length : Int)) && leafB (nAt t k.toNat)
def regF (t : List Nd) (m k : Int) : Int := if (treeF t m).2 ≠ 0 then (treeF t m).2 else if isLf t k = false then 1 else 0
def regV (t : List Nd) (m k : Int) : List Sp := if regF t m k = 0 then (region t m.toNat k.toNat).map norm else []
def regB (t : List Nd) (m k : Int) : Bool := if regF t m k = 0 then anyS (region t m.toNat k.toNat) else false
def rchV (t : List Nd) (m : Int) : List Int := if (treeF t m).2 = 0 then rch t m.toNat t.length else []
def witV (l : List Sp) : List Int := if spF l = 0 then pick l else []

theorem within_norm {r : List Int} {l : List Sp} : within r (l.map norm) ↔ within r l := by
  unfold within
  rw [List.length_map]
  constructor
  · intro h j hj
    have := h j hj
    rw [getD_at (l := l.map norm) (by rw [List.length_map]; exact hj), List.getElem_map, in_norm] at this
    rw [getD_at (l := l) hj]; exact this
  · intro h j hj
    have := h j hj
    rw [getD_at (l := l) hj] at this
    rw [getD_at (l := l.map norm) (by rw [List.length_map]; exact hj), List.getElem_map, in_norm]; exact this
theorem fit_within {xs : List Int} {ss : List Sp} (h : rowF xs = 0) (hl : ss.length = xs.length) : fitV xs ss = true ↔ within xs ss := by
  rw [(fit_ok h hl).2]
  unfold within outAt
  rw [Bool.not_eq_true', List.any_eq_false, hl]
  constructor
  · intro q j hj
    have := q j (List.mem_range.2 hj)
    simpa using this
  · intro q j hj
    have := q j (List.mem_range.1 hj)
    rw [this]; simp

/-- what a leaf's place gives -/
theorem leaf_place {t : List Nd} {r : List Int} (h : readyF t r = 0) {k : Nat} (hk : k < t.length) (hl : nf (nAt t k) = -1) :
    regF t (r.length : Int) (k : Int) = 0 ∧ fitF r (regV t (r.length : Int) (k : Int)) = 0 ∧ fitV r (regV t (r.length : Int) (k : Int)) = decide (k = leafV t r) ∧
    regB t (r.length : Int) (k : Int) = (rchV t (r.length : Int)).any (· == (k : Int)) ∧ (k = leafV t r → regB t (r.length : Int) (k : Int) = true) := by
  obtain ⟨h1, h2⟩ := ready_ok h
  obtain ⟨F, _⟩ := tree_ok h2
  have e0 : regF t (r.length : Int) (k : Int) = 0 := by
    unfold regF isLf
    rw [if_neg (by simp [h2]), if_neg]
    rw [decide_eq_true (show (0 : Int) ≤ (k : Int) by omega), decide_eq_true (show (k : Int) < (t.length : Int) by omega), Int.toNat_natCast]
    unfold leafB
    rw [decide_eq_true hl]; simp
  have eV : regV t (r.length : Int) (k : Int) = (region t r.length k).map norm := by unfold regV; rw [if_pos e0, Int.toNat_natCast, Int.toNat_natCast]
  have eB : regB t (r.length : Int) (k : Int) = anyS (region t r.length k) := by unfold regB; rw [if_pos e0, Int.toNat_natCast, Int.toNat_natCast]
  have eL : leafV t r = toD t r 0 := by unfold leafV; rw [if_pos h]
  have eR : rchV t (r.length : Int) = rch t r.length t.length := by unfold rchV; rw [if_pos h2, Int.toNat_natCast]
  have hlen : ((region t r.length k).map norm).length = r.length := by rw [List.length_map, region_len]
  have hw := region_leaf F h1 rfl hk hl
  refine ⟨e0, by rw [eV]; exact (fit_ok h1 hlen).1, ?_, ?_, ?_⟩
  · rw [eV, eL]
    have : fitV r ((region t r.length k).map norm) = true ↔ k = toD t r 0 := by rw [fit_within h1 hlen, within_norm, hw]
    by_cases q : k = toD t r 0
    · rw [this.2 q, decide_eq_true q]
    · rw [decide_eq_false q]
      cases e : fitV r ((region t r.length k).map norm) with
      | false => rfl
      | true => exact absurd (this.1 e) q
  · rw [eB, eR]
    cases ha : anyS (region t r.length k) with
    | true =>
      symm
      rw [List.any_eq_true]
      exact ⟨(k : Int), (rch_mem t r.length t.length _).2 ⟨k, rfl, hk, by unfold leafB; exact decide_eq_true hl, ha⟩, by simp⟩
    | false =>
      symm
      rw [List.any_eq_false]
      intro x hx hq
      obtain ⟨j, e, _, _, hj⟩ := (rch_mem t r.length t.length _).1 hx
      have : x = (k : Int) := by simpa using hq
      have : j = k := by omega
      subst this
      rw [ha] at hj; cases hj
  · intro q
    rw [eB]
    exact any_within (hw.2 (by rw [q, eL]))
theorem wit_place {t : List Nd} {r : List Int} (h : readyF t r = 0) {k : Nat} (hk : k < t.length) (hl : nf (nAt t k) = -1) (hb : regB t (r.length : Int) (k : Int) = true) :
    spF (regV t (r.length : Int) (k : Int)) = 0 ∧ readyF t (witV (regV t (r.length : Int) (k : Int))) = 0 ∧ leafV t (witV (regV t (r.length : Int) (k : Int))) = k := by
  obtain ⟨h1, h2⟩ := ready_ok h
  obtain ⟨F, _⟩ := tree_ok h2
  have e0 := (leaf_place h hk hl).1
  have eV : regV t (r.length : Int) (k : Int) = (region t r.length k).map norm := by unfold regV; rw [if_pos e0, Int.toNat_natCast, Int.toNat_natCast]
  have eB : regB t (r.length : Int) (k : Int) = anyS (region t r.length k) := by unfold regB; rw [if_pos e0, Int.toNat_natCast, Int.toNat_natCast]
  rw [eB] at hb
  obtain ⟨g1, g2, g3⟩ := witness F hk hl hb
  rw [eV]
  have eW : witV ((region t r.length k).map norm) = pick ((region t r.length k).map norm) := by unfold witV; rw [if_pos g1]
  have hp : (pick ((region t r.length k).map norm)).length = r.length := by unfold pick; rw [List.length_map, List.length_map, region_len]
  have hready : readyF t (pick ((region t r.length k).map norm)) = 0 := by rw [ready_tree g2, hp]; exact h2
  refine ⟨g1, by rw [eW]; exact hready, ?_⟩
  rw [eW]; unfold leafV; rw [if_pos hready]; exact g3
theorem one_region : regF oneT 1 2 = 0 ∧ regV oneT 1 2 = [(5, 1000000, true)] ∧ regB oneT 1 2 = true := by decide +kernel
theorem leafV_leaf {t : List Nd} {r : List Int} (h : readyF t r = 0) : leafV t r < t.length ∧ nf (nAt t (leafV t r)) = -1 := by
  obtain ⟨F, _⟩ := tree_ok (ready_ok h).2
  unfold leafV
  rw [if_pos h]
  exact to_end F.2.2.2.2.1 r t.length 0 F.2.1 (by omega)

end Go.Proofs.YtlloiccodjnkcagGreatDoor.M

namespace Go.Proofs.YtlloiccodjnkcagGreatDoor.M
set_option linter.unusedVariables false

/-! ### in common -/
def meetS (a b : Sp) : Sp := (if a.1 < b.1 then b.1 else a.1, if b.2.1 < a.2.1 then b.2.1 else a.2.1, a.2.2 && b.2.2)
def meet (a b : List Sp) : List Sp := List.zipWith meetS a b
theorem meet_len {a b : List Sp} (h : a.length = b.length) : (meet a b).length = a.length := by unfold meet; rw [List.length_zipWith, h]; exact Nat.min_self _
theorem meet_at {a b : List Sp} (h : a.length = b.length) {i : Nat} (hi : i < a.length) : (meet a b).getD i (0, 0, false) = meetS (a.getD i (0, 0, false)) (b.getD i (0, 0, false)) := by
  unfold meet
  simp [List.getD, List.getElem?_zipWith, hi, show i < b.length by omega]
theorem meet_take {a b : List Sp} (h : a.length = b.length) {k : Nat} (hk : k < a.length) : meet (a.take (k + 1)) (b.take (k + 1)) = meet (a.take k) (b.take k) ++ [meetS (a.getD k (0, 0, false)) (b.getD k (0, 0, false))] := by
  unfold meet
  rw [List.take_succ_eq_append_getElem hk, List.take_succ_eq_append_getElem (show k < b.length by omega), List.zipWith_append (by simp; omega), getD_at hk, getD_at (show k < b.length by omega)]
  rfl
theorem in_meet (c : Int) (a b : Sp) : inS c (meetS a b) = (inS c a && inS c b) := by
  by_cases h : c = nilI
  · rw [in_nil h, in_nil h, in_nil h]; rfl
  · rw [in_num h, in_num h, in_num h]
    unfold meetS
    rw [Bool.eq_iff_iff]
    simp only [Bool.and_eq_true, decide_eq_true_eq]
    constructor
    · rintro ⟨h1, h2⟩
      split at h1 <;> split at h2 <;> omega
    · rintro ⟨⟨h1, h2⟩, h3, h4⟩
      constructor <;> split <;> omega
theorem within_meet {r : List Int} {a b : List Sp} (h : a.length = b.length) : within r (meet a b) ↔ within r a ∧ within r b := by
  unfold within
  rw [meet_len h]
  constructor
  · intro q
    refine ⟨fun j hj => ?_, fun j hj => ?_⟩
    · have := q j hj
      rw [meet_at h hj, in_meet, Bool.and_eq_true] at this
      exact this.1
    · have := q j (by omega)
      rw [meet_at h (by omega), in_meet, Bool.and_eq_true] at this
      exact this.2
  · rintro ⟨q1, q2⟩ j hj
    rw [meet_at h hj, in_meet, q1 j hj, q2 j (by omega)]
    rfl
theorem sp_zero {l : List Sp} (h : spF l = 0) : l.length ≤ 8 ∧ ∀ i, i < l.length → sp1F (l.getD i (0, 0, false)) = 0 := by
  unfold spF at h
  by_cases h8 : 8 < l.length
  · rw [if_pos h8] at h; cases h
  · rw [if_neg h8] at h
    refine ⟨by omega, ?_⟩
    split at h
    · rename_i k e
      have q := (first_some e).2
      rw [decide_eq_true h] at q
      cases q
    · rename_i e
      intro i hi
      have := first_none e i hi
      simpa using this
theorem sp1_zero {s : Sp} (h : sp1F s = 0) : outI s.1 = false ∧ outI s.2.1 = false ∧ hasS s = true := by
  unfold sp1F at h
  by_cases c : outI s.1 = true ∨ outI s.2.1 = true
  · rw [if_pos c] at h; cases h
  · rw [if_neg c] at h
    by_cases d : hasS s = false
    · rw [if_pos d] at h; cases h
    · refine ⟨?_, ?_, by simpa using d⟩
      · cases e : outI s.1 with
        | false => rfl
        | true => exact absurd (.inl e) c
      · cases e : outI s.2.1 with
        | false => rfl
        | true => exact absurd (.inr e) c
theorem in_out {x : Int} (h : outI x = false) : -1000000 ≤ x ∧ x ≤ 1000000 := by
  unfold outI at h
  simp at h
  omega
/-- a row of spans that begin where numbers are -/
theorem pick_row {l : List Sp} (h8 : l.length ≤ 8) (ho : ∀ i, i < l.length → -1000000 ≤ (l.getD i (0, 0, false)).1 ∧ (l.getD i (0, 0, false)).1 ≤ 1000000) (h : anyS l = true) : rowF (pick l) = 0 ∧ (pick l).length = l.length ∧ within (pick l) l := by
  have hl : (pick l).length = l.length := by unfold pick; simp
  have at' : ∀ i, i < l.length → (pick l).getD i 0 = pickC (l.getD i (0, 0, false)) := fun i hi => by
    rw [getD_at (by omega), getD_at hi]; unfold pick; simp
  have nn : ∀ x : Int, -1000000 ≤ x → x ≠ nilI := fun x hx e => by unfold nilI at e; omega
  refine ⟨?_, hl, ?_⟩
  · rw [row_ok]
    refine ⟨by omega, fun x hx => ?_⟩
    obtain ⟨i, hi, rfl⟩ := List.getElem_of_mem hx
    have hi' : i < l.length := by omega
    have e := at' i hi'
    rw [getD_at hi] at e
    rw [e]
    unfold pickC
    by_cases c : (l.getD i (0, 0, false)).1 ≤ (l.getD i (0, 0, false)).2.1
    · rw [if_pos c]; exact good_cell (out_in (ho i hi').1 (ho i hi').2)
    · rw [if_neg c]; exact good_nil
  · intro j hj
    rw [at' j hj]
    have hs : hasS (l.getD j (0, 0, false)) = true := by
      unfold anyS at h
      rw [List.all_eq_true] at h
      rw [getD_at hj]; exact h _ (List.getElem_mem hj)
    unfold pickC
    by_cases c : (l.getD j (0, 0, false)).1 ≤ (l.getD j (0, 0, false)).2.1
    · rw [if_pos c, in_num (nn _ (ho j hj).1), decide_eq_true c, decide_eq_true (Int.le_refl _)]
      rfl
    · rw [if_neg c, in_nil rfl]
      unfold hasS at hs
      rw [decide_eq_false c, Bool.false_or] at hs
      exact hs

/-! ### the least and the greatest -/
def cnt (t : List Nd) (l : List Sp) (j : Nat) : Bool := leafB (nAt t j) && anyS (meet (region t l.length j) l)
def ends0 : Bool × Int × Int × List Int × List Int := (false, 0, 0, [], [])
/-- one leaf more -/
def endS (s : Bool × Int × Int × List Int × List Int) (v : Int) (p : List Int) : Bool × Int × Int × List Int × List Int :=
  (true, if s.1 = false ∨ v < s.2.1 then v else s.2.1, if s.1 = false ∨ s.2.2.1 < v then v else s.2.2.1, if s.1 = false ∨ v < s.2.1 then p else s.2.2.2.1, if s.1 = false ∨ s.2.2.1 < v then p else s.2.2.2.2)
def endsK (t : List Nd) (l : List Sp) : Nat → Bool × Int × Int × List Int × List Int
  | 0 => ends0
  | k + 1 => if cnt t l k = true then endS (endsK t l k) (nv (nAt t k)) (pick (meet (region t l.length k) l)) else endsK t l k
theorem ends_spec (t : List Nd) (l : List Sp) : ∀ k, ((endsK t l k).1 = true ↔ ∃ j, j < k ∧ cnt t l j = true) ∧ ((endsK t l k).1 = true →
    (∃ j, j < k ∧ cnt t l j = true ∧ (endsK t l k).2.1 = nv (nAt t j) ∧ (endsK t l k).2.2.2.1 = pick (meet (region t l.length j) l)) ∧ (∀ i, i < k → cnt t l i = true → (endsK t l k).2.1 ≤ nv (nAt t i)) ∧
    (∃ j, j < k ∧ cnt t l j = true ∧ (endsK t l k).2.2.1 = nv (nAt t j) ∧ (endsK t l k).2.2.2.2 = pick (meet (region t l.length j) l)) ∧ (∀ i, i < k → cnt t l i = true → nv (nAt t i) ≤ (endsK t l k).2.2.1))
  | 0 => by
    refine ⟨⟨fun h => ?_, ?_⟩, fun h => ?_⟩
    · have : false = true := h
      cases this
    · rintro ⟨j, hj, _⟩; omega
    · have : false = true := h
      cases this
  | k + 1 => by
    obtain ⟨i1, i2⟩ := ends_spec t l k
    unfold endsK
    by_cases c : cnt t l k = true
    · rw [if_pos c]
      generalize endsK t l k = s at *
      have e1 : (endS s (nv (nAt t k)) (pick (meet (region t l.length k) l))).1 = true := rfl
      refine ⟨⟨fun _ => ⟨k, by omega, c⟩, fun _ => rfl⟩, fun _ => ⟨?_, ?_, ?_, ?_⟩⟩
      · by_cases d : s.1 = false ∨ nv (nAt t k) < s.2.1
        · refine ⟨k, by omega, c, ?_, ?_⟩
          · show (if _ then _ else _) = _; rw [if_pos d]
          · show (if _ then _ else _) = _; rw [if_pos d]
        · obtain ⟨⟨j, j1, j2, j3, j4⟩, _⟩ := i2 (by cases e : s.1 with
            | true => rfl
            | false => exact absurd (.inl e) d)
          refine ⟨j, by omega, j2, ?_, ?_⟩
          · show (if _ then _ else _) = _; rw [if_neg d]; exact j3
          · show (if _ then _ else _) = _; rw [if_neg d]; exact j4
      · intro i hi hc
        show (if s.1 = false ∨ nv (nAt t k) < s.2.1 then nv (nAt t k) else s.2.1) ≤ _
        by_cases e : i = k
        · subst e; split <;> omega
        · cases e1 : s.1 with
          | false => exact absurd (i1.2 ⟨i, by omega, hc⟩) (by rw [e1]; decide)
          | true =>
            have := (i2 e1).2.1 i (by omega) hc
            by_cases d : nv (nAt t k) < s.2.1
            · rw [if_pos (.inr d)]; omega
            · rw [if_neg (fun q => q.elim (fun z => by cases z) d)]; exact this
      · by_cases d : s.1 = false ∨ s.2.2.1 < nv (nAt t k)
        · refine ⟨k, by omega, c, ?_, ?_⟩
          · show (if _ then _ else _) = _; rw [if_pos d]
          · show (if _ then _ else _) = _; rw [if_pos d]
        · obtain ⟨_, _, ⟨j, j1, j2, j3, j4⟩, _⟩ := i2 (by cases e : s.1 with
            | true => rfl
            | false => exact absurd (.inl e) d)
          refine ⟨j, by omega, j2, ?_, ?_⟩
          · show (if _ then _ else _) = _; rw [if_neg d]; exact j3
          · show (if _ then _ else _) = _; rw [if_neg d]; exact j4
      · intro i hi hc
        show _ ≤ (if s.1 = false ∨ s.2.2.1 < nv (nAt t k) then nv (nAt t k) else s.2.2.1)
        by_cases e : i = k
        · subst e; split <;> omega
        · cases e1 : s.1 with
          | false => exact absurd (i1.2 ⟨i, by omega, hc⟩) (by rw [e1]; decide)
          | true =>
            have := (i2 e1).2.2.2 i (by omega) hc
            by_cases d : s.2.2.1 < nv (nAt t k)
            · rw [if_pos (.inr d)]; omega
            · rw [if_neg (fun q => q.elim (fun z => by cases z) d)]; exact this
    · rw [if_neg c]
      refine ⟨⟨fun h => ?_, fun ⟨j, h1, h2⟩ => i1.2 ⟨j, ?_, h2⟩⟩, fun h => ?_⟩
      · obtain ⟨j, h1, h2⟩ := i1.1 h; exact ⟨j, by omega, h2⟩
      · by_cases e : j = k
        · subst e; exact absurd h2 c
        · omega
      · obtain ⟨⟨j, j1, j2, j3, j4⟩, q, ⟨y, y1, y2, y3, y4⟩, u⟩ := i2 h
        have ne : ∀ i, i < k + 1 → cnt t l i = true → i < k := fun i hi hc => by
          by_cases e : i = k
          · subst e; exact absurd hc c
          · omega
        exact ⟨⟨j, by omega, j2, j3, j4⟩, fun i hi hc => q i (ne i hi hc) hc, ⟨y, by omega, y2, y3, y4⟩, fun i hi hc => u i (ne i hi hc) hc⟩

def limF (t : List Nd) (l : List Sp) : Int := if spF l ≠ 0 then spF l else (treeF t (l.length : Int)).2
def limV (t : List Nd) (l : List Sp) : Bool × Int × Int × List Int × List Int := if limF t l = 0 then endsK t l t.length else ends0
theorem lim_ok {t : List Nd} {l : List Sp} (h : limF t l = 0) : spF l = 0 ∧ (treeF t (l.length : Int)).2 = 0 := by
  unfold limF at h
  by_cases c : spF l = 0
  · rw [if_neg (by simp [c])] at h; exact ⟨c, h⟩
  · rw [if_pos c] at h; exact absurd h c
theorem lim_of {t : List Nd} {l : List Sp} (h1 : spF l = 0) (h2 : (treeF t (l.length : Int)).2 = 0) : limF t l = 0 := by
  unfold limF; rw [if_neg (by simp [h1])]; exact h2
/-- a leaf that is counted has a row -/
theorem lim_row {t : List Nd} {l : List Sp} (h : limF t l = 0) {j : Nat} (hj : j < t.length) (hc : cnt t l j = true) : readyF t (pick (meet (region t l.length j) l)) = 0 ∧ evalV t (pick (meet (region t l.length j) l)) = nv (nAt t j) ∧ fitF (pick (meet (region t l.length j) l)) l = 0 ∧ fitV (pick (meet (region t l.length j) l)) l = true := by
  obtain ⟨h1, h2⟩ := lim_ok h
  obtain ⟨F, _⟩ := tree_ok h2
  obtain ⟨l8, hs⟩ := sp_zero h1
  unfold cnt at hc
  rw [Bool.and_eq_true] at hc
  have hl : (region t l.length j).length = l.length := region_len _ _ _
  have ml := meet_len hl
  have ho : ∀ i, i < (meet (region t l.length j) l).length → -1000000 ≤ ((meet (region t l.length j) l).getD i (0, 0, false)).1 ∧ ((meet (region t l.length j) l).getD i (0, 0, false)).1 ≤ 1000000 := fun i hi => by
    rw [meet_at hl (by omega)]
    have r1 := region_ok F hj ((region t l.length j).getD i (0, 0, false)) (by rw [getD_at (by omega)]; exact List.getElem_mem _)
    have r2 := in_out (sp1_zero (hs i (by omega))).1
    unfold okS at r1
    unfold meetS
    simp only
    split <;> omega
  obtain ⟨p1, p2, p3⟩ := pick_row (by omega) ho hc.2
  have p4 : (pick (meet (region t l.length j) l)).length = l.length := by omega
  obtain ⟨w1, w2⟩ := (within_meet hl).1 p3
  have hf : nf (nAt t j) = -1 := of_decide_eq_true hc.1
  have hy : readyF t (pick (meet (region t l.length j) l)) = 0 := by rw [ready_tree p1, p4]; exact h2
  have hd := (region_leaf F p1 p4 hj hf).1 w1
  refine ⟨hy, ?_, (fit_ok p1 p4.symm).1, (fit_within p1 p4.symm).2 w2⟩
  unfold evalV
  rw [if_pos hy, ← hd]
/-- what a row within spans comes to is counted -/
theorem lim_in {t : List Nd} {l : List Sp} {r : List Int} (h : limF t l = 0) (hr : rowF r = 0) (hl : r.length = l.length) (hw : within r l) : readyF t r = 0 ∧ ∃ j, j < t.length ∧ cnt t l j = true ∧ evalV t r = nv (nAt t j) := by
  obtain ⟨h1, h2⟩ := lim_ok h
  obtain ⟨F, _⟩ := tree_ok h2
  have hy : readyF t r = 0 := by rw [ready_tree hr, hl]; exact h2
  obtain ⟨g1, g2⟩ := leafV_leaf' hy
  refine ⟨hy, toD t r 0, g1, ?_, by unfold evalV; rw [if_pos hy]⟩
  have hm : within r (meet (region t l.length (toD t r 0)) l) := (within_meet (region_len _ _ _)).2 ⟨(region_leaf F hr hl g1 g2).2 rfl, hw⟩
  unfold cnt
  rw [any_within hm, Bool.and_true]
  exact decide_eq_true g2
theorem lim_some {t : List Nd} {l : List Sp} (h : limF t l = 0) : (endsK t l t.length).1 = true := by
  obtain ⟨h1, h2⟩ := lim_ok h
  obtain ⟨l8, hs⟩ := sp_zero h1
  have ha : anyS l = true := by
    unfold anyS
    rw [List.all_eq_true]
    intro s hs'
    obtain ⟨i, hi, rfl⟩ := List.getElem_of_mem hs'
    have := (sp1_zero (hs i hi)).2.2
    rw [getD_at hi] at this
    exact this
  obtain ⟨p1, p2, p3⟩ := pick_row l8 (fun i hi => in_out (sp1_zero (hs i hi)).1) ha
  obtain ⟨_, j, j1, j2, _⟩ := lim_in h p1 p2 p3
  exact ((ends_spec t l t.length).1).2 ⟨j, j1, j2⟩
abbrev limLo (t : List Nd) (l : List Sp) : Int := (limV t l).2.1
abbrev limHi (t : List Nd) (l : List Sp) : Int := (limV t l).2.2.1
abbrev limA (t : List Nd) (l : List Sp) : List Int := (limV t l).2.2.2.1
abbrev limB (t : List Nd) (l : List Sp) : List Int := (limV t l).2.2.2.2
theorem lim_least {t : List Nd} {l : List Sp} (h : limF t l = 0) : readyF t (limA t l) = 0 ∧ evalV t (limA t l) = limLo t l ∧ fitF (limA t l) l = 0 ∧ fitV (limA t l) l = true := by
  have e : limV t l = endsK t l t.length := by unfold limV; rw [if_pos h]
  obtain ⟨⟨j, j1, j2, j3, j4⟩, _⟩ := (ends_spec t l t.length).2 (lim_some h)
  obtain ⟨q1, q2, q3, q4⟩ := lim_row h j1 j2
  show readyF t (limV t l).2.2.2.1 = 0 ∧ evalV t (limV t l).2.2.2.1 = (limV t l).2.1 ∧ fitF (limV t l).2.2.2.1 l = 0 ∧ fitV (limV t l).2.2.2.1 l = true
  rw [e, j3, j4]
  exact ⟨q1, q2, q3, q4⟩
theorem lim_most {t : List Nd} {l : List Sp} (h : limF t l = 0) : readyF t (limB t l) = 0 ∧ evalV t (limB t l) = limHi t l ∧ fitF (limB t l) l = 0 ∧ fitV (limB t l) l = true := by
  have e : limV t l = endsK t l t.length := by unfold limV; rw [if_pos h]
  obtain ⟨_, _, ⟨j, j1, j2, j3, j4⟩, _⟩ := (ends_spec t l t.length).2 (lim_some h)
  obtain ⟨q1, q2, q3, q4⟩ := lim_row h j1 j2
  show readyF t (limV t l).2.2.2.2 = 0 ∧ evalV t (limV t l).2.2.2.2 = (limV t l).2.2.1 ∧ fitF (limV t l).2.2.2.2 l = 0 ∧ fitV (limV t l).2.2.2.2 l = true
  rw [e, j3, j4]
  exact ⟨q1, q2, q3, q4⟩
theorem fit_parts {r : List Int} {l : List Sp} (h1 : fitF r l = 0) (h2 : fitV r l = true) : rowF r = 0 ∧ r.length = l.length ∧ within r l := by
  by_cases c : rowF r = 0
  · by_cases d : l.length = r.length
    · exact ⟨c, d.symm, (fit_within c d).1 h2⟩
    · rw [(fit_len c d).1] at h1; cases h1
  · rw [(fit_row c).1] at h1; exact absurd h1 c
/-- nothing comes beyond -/
theorem lim_between {t : List Nd} {l : List Sp} {r : List Int} (h : limF t l = 0) (h1 : fitF r l = 0) (h2 : fitV r l = true) : readyF t r = 0 ∧ limLo t l ≤ evalV t r ∧ evalV t r ≤ limHi t l := by
  obtain ⟨c1, c2, c3⟩ := fit_parts h1 h2
  have e : limV t l = endsK t l t.length := by unfold limV; rw [if_pos h]
  obtain ⟨hy, j, j1, j2, j3⟩ := lim_in h c1 c2 c3
  obtain ⟨_, q, _, u⟩ := (ends_spec t l t.length).2 (lim_some h)
  refine ⟨hy, ?_⟩
  show (limV t l).2.1 ≤ _ ∧ _ ≤ (limV t l).2.2.1
  rw [e, j3]
  exact ⟨q j j1 j2, u j j1 j2⟩
/-- what is told is a number that a leaf has -/
theorem lim_range {t : List Nd} {l : List Sp} (h : limF t l = 0) : (-1000000 ≤ limLo t l ∧ limLo t l ≤ 1000000) ∧ (-1000000 ≤ limHi t l ∧ limHi t l ≤ 1000000) := by
  obtain ⟨_, h2⟩ := lim_ok h
  obtain ⟨F, _⟩ := tree_ok h2
  have a := lim_least h
  have b := lim_most h
  rw [← a.2.1, ← b.2.1]
  exact ⟨lv_in F _ (eval_mem a.1), lv_in F _ (eval_mem b.1)⟩

/-! ### groves -/
theorem between_bounds {g : Gv} {r L H : List Int} (h : standF g r = 0) (l1 : L.length = (gt g).length) (l2 : H.length = (gt g).length) (bt : ∀ i, i < (gt g).length → L.getD i 0 ≤ (eachL g r).getD i 0 ∧ (eachL g r).getD i 0 ≤ H.getD i 0) : (between (gw g) (gs g) L H).1 ≤ evalG g r ∧ evalG g r ≤ (between (gw g) (gs g) L H).2 := by
  obtain ⟨G, h2, h3⟩ := stand_ok h
  have hE := each_len g r
  have t0 := G.t0
  unfold evalG
  rw [if_pos h]
  unfold between
  by_cases hv : gw g = 3
  · rw [if_neg (by simp [hv])]
    unfold together
    rw [if_neg (by omega), if_neg (by omega), hE]
    obtain ⟨⟨j, j1, j2⟩, _, _⟩ := best_spec (l := eachL g r) (ws := gs g) (fun i hi => (wt_at G (by rw [← hE]; exact hi)).1) (gt g).length t0 (by omega)
    rw [j2]
    have b := bt j j1
    constructor
    · refine Int.le_trans (low_le (x := L.getD j 0) ?_) b.1
      rw [getD_at (by omega)]; exact List.getElem_mem _
    · refine Int.le_trans b.2 (high_ge ?_)
      rw [getD_at (by omega)]; exact List.getElem_mem _
  · rw [if_pos hv]
    have m1 := sum_mono (l := L) (m := eachL g r) (ws := gs g) (gt g).length fun i hi => ⟨(bt i hi).1, by have := (wt_at G hi).1; omega⟩
    have m2 := sum_mono (l := eachL g r) (m := H) (ws := gs g) (gt g).length fun i hi => ⟨(bt i hi).2, by have := (wt_at G hi).1; omega⟩
    have ap := (all_pos (ws := gs g) (gt g).length fun i hi => wt_at G hi).1
    unfold together
    rw [l1, l2, hE]
    by_cases h1 : gw g = 1
    · rw [if_pos h1, if_pos h1, if_pos h1]; exact ⟨m1, m2⟩
    · have h2' : gw g = 2 := by have := G.w1; have := G.w3; omega
      rw [if_neg h1, if_neg h1, if_neg h1, if_pos h2', if_pos h2', if_pos h2']
      exact ⟨ediv_mono m1 (by omega), ediv_mono m2 (by omega)⟩
def limGF (g : Gv) (l : List Sp) : Int := if groveF g ≠ 0 then groveF g else if (l.length : Int) ≠ gf g then 3 else spF l
def lowsL (g : Gv) (l : List Sp) : List Int := (gt g).map fun t => limLo t l
def highsL (g : Gv) (l : List Sp) : List Int := (gt g).map fun t => limHi t l
def limGV (g : Gv) (l : List Sp) : Int × Int := if limGF g l = 0 then between (gw g) (gs g) (lowsL g l) (highsL g l) else (0, 0)
theorem limG_ok {g : Gv} {l : List Sp} (h : limGF g l = 0) : Good g ∧ (l.length : Int) = gf g ∧ spF l = 0 ∧ ∀ t ∈ gt g, limF t l = 0 := by
  unfold limGF at h
  by_cases c : groveF g = 0
  · rw [if_neg (by simp [c])] at h
    have G := (good_iff g).1 c
    by_cases d : (l.length : Int) = gf g
    · rw [if_neg (by simp [d])] at h
      exact ⟨G, d, h, fun t ht => lim_of h (by rw [d]; exact G.trees t ht)⟩
    · rw [if_pos d] at h; cases h
  · rw [if_pos c] at h; exact absurd h c
theorem lim_grove {g : Gv} {l : List Sp} {r : List Int} (h : limGF g l = 0) (h1 : fitF r l = 0) (h2 : fitV r l = true) : standF g r = 0 ∧ (limGV g l).1 ≤ evalG g r ∧ evalG g r ≤ (limGV g l).2 := by
  obtain ⟨G, d, s, ht⟩ := limG_ok h
  obtain ⟨c1, c2, c3⟩ := fit_parts h1 h2
  have hst : standF g r = 0 := stand_of G c1 (by rw [c2]; exact d)
  refine ⟨hst, ?_⟩
  unfold limGV
  rw [if_pos h]
  refine between_bounds hst (by unfold lowsL; simp) (by unfold highsL; simp) (fun i hi => ?_)
  have e1 : (lowsL g l).getD i 0 = limLo (gt g)[i] l := by rw [getD_at (by unfold lowsL; simpa using hi)]; unfold lowsL; simp
  have e2 : (highsL g l).getD i 0 = limHi (gt g)[i] l := by rw [getD_at (by unfold highsL; simpa using hi)]; unfold highsL; simp
  rw [each_at g r hi, e1, e2, getD_at hi]
  exact (lim_between (ht _ (List.getElem_mem hi)) h1 h2).2

end Go.Proofs.YtlloiccodjnkcagGreatDoor.M

namespace Go.Proofs.YtlloiccodjnkcagGreatDoor.M
set_option linter.unusedVariables false

def mvB (a b : List Nd) (m i k : Nat) : Bool := leafB (nAt a i) && leafB (nAt b k) && !decide (nv (nAt a i) = nv (nAt b k)) && anyS (meet (region a m i) (region b m k))
def cnB (p : Bool) : Nat := if p = true then 1 else 0
def mvR (a b : List Nd) (m i k : Nat) : Nat := sumN (fun k => cnB (mvB a b m i k)) k
def mvK (a b : List Nd) (m i : Nat) : Nat := sumN (fun i => mvR a b m i b.length) i
def difF (a b : List Nd) (m : Int) : Int := if (treeF a m).2 ≠ 0 then (treeF a m).2 else (treeF b m).2
def movedV (a b : List Nd) (m : Int) : Nat := if difF a b m = 0 then mvK a b m.toNat a.length else 0
theorem dif_ok {a b : List Nd} {m : Int} (h : difF a b m = 0) : (treeF a m).2 = 0 ∧ (treeF b m).2 = 0 := by
  unfold difF at h
  by_cases c : (treeF a m).2 = 0
  · rw [if_neg (by simp [c])] at h; exact ⟨c, h⟩
  · rw [if_pos c] at h; exact absurd h c
theorem dif_of {a b : List Nd} {m : Int} (h1 : (treeF a m).2 = 0) (h2 : (treeF b m).2 = 0) : difF a b m = 0 := by
  unfold difF; rw [if_neg (by simp [h1])]; exact h2
theorem sumP {g : Nat → Nat} : ∀ n, 0 < sumN g n ↔ ∃ i, i < n ∧ 0 < g i
  | 0 => by
    constructor
    · intro h; exact absurd h (by unfold sumN; omega)
    · rintro ⟨i, hi, _⟩; omega
  | n + 1 => by
    have ih := sumP (g := g) n
    unfold sumN
    constructor
    · intro h
      by_cases c : 0 < g n
      · exact ⟨n, by omega, c⟩
      · obtain ⟨i, hi, e⟩ := ih.1 (by omega); exact ⟨i, by omega, e⟩
    · rintro ⟨i, hi, e⟩
      by_cases q : i = n
      · subst q; omega
      · have := ih.2 ⟨i, by omega, e⟩; omega
theorem sum_add {g h : Nat → Nat} : ∀ n, sumN (fun i => g i + h i) n = sumN g n + sumN h n
  | 0 => by unfold sumN; rfl
  | n + 1 => by
    have ih := sum_add (g := g) (h := h) n
    unfold sumN
    omega
theorem sum_none : ∀ n, sumN (fun _ => 0) n = 0
  | 0 => by unfold sumN; rfl
  | n + 1 => by
    have ih := sum_none n
    unfold sumN
    omega
theorem sum_same {g h : Nat → Nat} : ∀ n, (∀ i, i < n → g i = h i) → sumN g n = sumN h n
  | 0, _ => by unfold sumN; rfl
  | n + 1, e => by
    have ih := sum_same n (fun i hi => e i (by omega))
    unfold sumN
    rw [ih, e n (by omega)]
theorem sum_swap {f : Nat → Nat → Nat} (K : Nat) : ∀ n, sumN (fun i => sumN (f i) K) n = sumN (fun k => sumN (fun i => f i k) n) K
  | 0 => by
    have : (fun k => sumN (fun i => f i k) 0) = fun _ => 0 := by funext k; unfold sumN; rfl
    rw [this, sum_none]
    unfold sumN; rfl
  | n + 1 => by
    have ih := sum_swap (f := f) K n
    have : (fun k => sumN (fun i => f i k) (n + 1)) = fun k => f n k + sumN (fun i => f i k) n := by
      funext k
      show sumN (fun i => f i k) (n + 1) = _
      conv => lhs; unfold sumN
      omega
    rw [this, sum_add]
    conv => lhs; unfold sumN
    rw [ih]
    omega
theorem mv_pos (a b : List Nd) (m n : Nat) : 0 < mvK a b m n ↔ ∃ i, i < n ∧ ∃ k, k < b.length ∧ mvB a b m i k = true := by
  unfold mvK mvR
  rw [sumP]
  constructor
  · rintro ⟨i, hi, e⟩
    obtain ⟨k, hk, e2⟩ := (sumP _).1 e
    refine ⟨i, hi, k, hk, ?_⟩
    unfold cnB at e2
    by_cases c : mvB a b m i k = true
    · exact c
    · rw [if_neg c] at e2; omega
  · rintro ⟨i, hi, k, hk, e⟩
    exact ⟨i, hi, (sumP _).2 ⟨k, hk, by unfold cnB; rw [if_pos e]; omega⟩⟩
theorem meetS_comm (x y : Sp) : meetS x y = meetS y x := by
  unfold meetS
  rw [Bool.and_comm]
  have h1 : (if x.1 < y.1 then y.1 else x.1) = if y.1 < x.1 then x.1 else y.1 := by split <;> split <;> omega
  have h2 : (if y.2.1 < x.2.1 then y.2.1 else x.2.1) = if x.2.1 < y.2.1 then x.2.1 else y.2.1 := by split <;> split <;> omega
  rw [h1, h2]
theorem meet_comm : ∀ (x y : List Sp), meet x y = meet y x
  | [], [] => rfl
  | [], _ :: _ => rfl
  | _ :: _, [] => rfl
  | u :: x, v :: y => by
    show meetS u v :: meet x y = meetS v u :: meet y x
    rw [meetS_comm, meet_comm x y]
theorem mvB_comm (a b : List Nd) (m i k : Nat) : mvB a b m i k = mvB b a m k i := by
  unfold mvB
  rw [meet_comm, Bool.and_comm (leafB (nAt a i))]
  congr 2
  congr 1
  rw [decide_eq_decide]
  exact eq_comm
/-- as often either way round -/
theorem mv_turn (a b : List Nd) (m : Nat) : mvK a b m a.length = mvK b a m b.length := by
  unfold mvK mvR
  rw [sum_swap]
  refine sum_same _ (fun k hk => sum_same _ (fun i hi => ?_))
  rw [mvB_comm]
/-- a pair of leaves that differ has a row that comes to both -/
theorem mv_row {a b : List Nd} {m : Nat} (ha : (treeF a (m : Int)).2 = 0) (hb : (treeF b (m : Int)).2 = 0) {i k : Nat} (hi : i < a.length) (hk : k < b.length) (h : mvB a b m i k = true) : rowF (pick (meet (region a m i) (region b m k))) = 0 ∧ (pick (meet (region a m i) (region b m k))).length = m ∧ evalV a (pick (meet (region a m i) (region b m k))) = nv (nAt a i) ∧ evalV b (pick (meet (region a m i) (region b m k))) = nv (nAt b k) ∧ nv (nAt a i) ≠ nv (nAt b k) := by
  obtain ⟨Fa, _⟩ := tree_ok ha
  obtain ⟨Fb, _⟩ := tree_ok hb
  unfold mvB at h
  rw [Bool.and_eq_true, Bool.and_eq_true, Bool.and_eq_true] at h
  obtain ⟨⟨⟨h1, h2⟩, h3⟩, h4⟩ := h
  have hl : (region a m i).length = (region b m k).length := by rw [region_len, region_len]
  have ml := meet_len hl
  have ra := region_len a m i
  have m8 : m ≤ 8 := by have := Fa.2.2.2.1; omega
  have ho : ∀ j, j < (meet (region a m i) (region b m k)).length → -1000000 ≤ ((meet (region a m i) (region b m k)).getD j (0, 0, false)).1 ∧ ((meet (region a m i) (region b m k)).getD j (0, 0, false)).1 ≤ 1000000 := fun j hj => by
    rw [meet_at hl (by omega)]
    have r1 := region_ok Fa hi ((region a m i).getD j (0, 0, false)) (by rw [getD_at (by omega)]; exact List.getElem_mem _)
    have r2 := region_ok Fb hk ((region b m k).getD j (0, 0, false)) (by rw [getD_at (by omega)]; exact List.getElem_mem _)
    unfold okS at r1 r2
    unfold meetS
    simp only
    split <;> omega
  obtain ⟨p1, p2, p3⟩ := pick_row (by omega) ho h4
  have p4 : (pick (meet (region a m i) (region b m k))).length = m := by omega
  obtain ⟨w1, w2⟩ := (within_meet hl).1 p3
  have f1 : nf (nAt a i) = -1 := of_decide_eq_true h1
  have f2 : nf (nAt b k) = -1 := of_decide_eq_true h2
  have d1 := (region_leaf Fa p1 p4 hi f1).1 w1
  have d2 := (region_leaf Fb p1 p4 hk f2).1 w2
  have y1 : readyF a (pick (meet (region a m i) (region b m k))) = 0 := by rw [ready_tree p1, p4]; exact ha
  have y2 : readyF b (pick (meet (region a m i) (region b m k))) = 0 := by rw [ready_tree p1, p4]; exact hb
  refine ⟨p1, p4, ?_, ?_, ?_⟩
  · unfold evalV; rw [if_pos y1, ← d1]
  · unfold evalV; rw [if_pos y2, ← d2]
  · simpa using h3
/-- who shows that two differ comes to such a pair -/
theorem mv_of {a b : List Nd} {m : Nat} (ha : (treeF a (m : Int)).2 = 0) (hb : (treeF b (m : Int)).2 = 0) {x : List Int} (hx : rowF x = 0) (hm : x.length = m) (hn : evalV a x ≠ evalV b x) : ∃ i, i < a.length ∧ ∃ k, k < b.length ∧ mvB a b m i k = true := by
  obtain ⟨Fa, _⟩ := tree_ok ha
  obtain ⟨Fb, _⟩ := tree_ok hb
  have y1 : readyF a x = 0 := by rw [ready_tree hx, hm]; exact ha
  have y2 : readyF b x = 0 := by rw [ready_tree hx, hm]; exact hb
  obtain ⟨g1, g2⟩ := leafV_leaf' y1
  obtain ⟨k1, k2⟩ := leafV_leaf' y2
  refine ⟨toD a x 0, g1, toD b x 0, k1, ?_⟩
  have hw : within x (meet (region a m (toD a x 0)) (region b m (toD b x 0))) := (within_meet (by rw [region_len, region_len])).2 ⟨(region_leaf Fa hx hm g1 g2).2 rfl, (region_leaf Fb hx hm k1 k2).2 rfl⟩
  unfold evalV at hn
  rw [if_pos y1, if_pos y2] at hn
  unfold mvB
  rw [any_within hw, show leafB (nAt a (toD a x 0)) = true from decide_eq_true g2, show leafB (nAt b (toD b x 0)) = true from decide_eq_true k2, decide_eq_false hn]
  rfl
/-- where two differ, they do, and nowhere else -/
theorem moved_iff {a b : List Nd} {m : Int} (h : difF a b m = 0) : 0 < movedV a b m ↔ ∃ x, rowF x = 0 ∧ (x.length : Int) = m ∧ evalV a x ≠ evalV b x := by
  obtain ⟨ha, hb⟩ := dif_ok h
  have m0 := (tree_ok ha).1.2.2.1
  obtain ⟨n, rfl⟩ : ∃ n : Nat, m = (n : Int) := ⟨m.toNat, by omega⟩
  unfold movedV
  rw [if_pos h, Int.toNat_natCast, mv_pos]
  constructor
  · rintro ⟨i, hi, k, hk, e⟩
    obtain ⟨p1, p2, p3, p4, p5⟩ := mv_row ha hb hi hk e
    exact ⟨_, p1, by rw [p2], by rw [p3, p4]; exact p5⟩
  · rintro ⟨x, h1, h2, h3⟩
    exact mv_of ha hb h1 (by omega) h3
theorem moved_turn {a b : List Nd} {m : Int} (h : difF a b m = 0) : difF b a m = 0 ∧ movedV a b m = movedV b a m := by
  obtain ⟨ha, hb⟩ := dif_ok h
  have h' := dif_of hb ha
  refine ⟨h', ?_⟩
  unfold movedV
  rw [if_pos h, if_pos h']
  exact mv_turn a b m.toNat
theorem moved_self {a : List Nd} {m : Int} (h : (treeF a m).2 = 0) : movedV a a m = 0 := by
  have h' := dif_of h h
  by_cases c : 0 < movedV a a m
  · obtain ⟨x, _, _, h3⟩ := (moved_iff h').1 c
    exact absurd rfl h3
  · omega
theorem moved_zero {a b : List Nd} {m : Int} (h : difF a b m = 0) (hs : ∀ x, rowF x = 0 → (x.length : Int) = m → evalV a x = evalV b x) : movedV a b m = 0 := by
  by_cases c : 0 < movedV a b m
  · obtain ⟨x, h1, h2, h3⟩ := (moved_iff h).1 c
    exact absurd (hs x h1 h2) h3
  · omega

end Go.Proofs.YtlloiccodjnkcagGreatDoor.M
