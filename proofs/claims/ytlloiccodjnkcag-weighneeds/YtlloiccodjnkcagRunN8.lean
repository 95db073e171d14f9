/-
  Several texts as one: MathWf, MathSw, MathWh, MathWi, NdCells, Grown, MathWk, WeiCnt, AppendUs.
-/
import Derived.Test.YtlloiccodjnkcagRunN7
import Derived.Test.YtlloiccodjnkcagRunN5
import Derived.Test.YtlloiccodjnkcagRunN6
import Derived.Test.YtlloiccodjnkcagRunN3
import Derived.Deep.AppendLies
import Derived.OwnWalk
import Derived.RegionTactic
import Derived.Deep.Cut
import Derived.Deep.CutRange
import Derived.Laws.Rows
import Derived.Laws.AppendOwnNone
namespace Go.Proofs.Ytlloiccodjnkcag.M
set_option linter.unusedVariables false

theorem pre_sc (f : Int → Int) : ∀ T : BT, pre (scB f T) = pre T
  | .lf _ => rfl
  | .nd a c s l r => by
    show a :: (pre (scB f l) ++ pre (scB f r)) = a :: (pre l ++ pre r)
    rw [pre_sc f l, pre_sc f r]
theorem part_mem {l : List Sa} {f : Nat} {c : Int} {b : Bool} {s : Sa} (h : s ∈ partS l f c b) : s ∈ l ∧ sideB f c s = b := by
  unfold partS at h
  obtain ⟨h1, h2⟩ := List.mem_filter.1 h
  exact ⟨h1, by simpa using h2⟩
/-- who is asked for differs -/
theorem grow_asks {m : Nat} : ∀ (d : Nat) {l : List Sa}, 0 < l.length → ∀ g ∈ pre (growT m 1 d l), g = -1 ∨ ∃ f : Nat, g = (f : Int) ∧ f < m ∧ ∃ s ∈ l, ∃ u ∈ l, colA s f ≠ colA u f
  | 0, l, hl, g, hg => by
    have : g ∈ [(-1 : Int)] := hg
    exact .inl (by simpa using this)
  | d + 1, l, hl, g, hg => by
    unfold growT at hg
    by_cases q : (spV l m 1).2.2.2.2 = true
    · rw [if_pos q] at hg
      obtain ⟨s1, _, s3, s4, _⟩ := grow_sides (Int.le_refl _) hl q
      have n1 : 0 < (partS l (spV l m 1).2.2.1 (spV l m 1).2.2.2.1 true).length := by unfold nB at s3; omega
      have n2 : 0 < (partS l (spV l m 1).2.2.1 (spV l m 1).2.2.2.1 false).length := by unfold nB at s4; omega
      have hg' : g ∈ ((spV l m 1).2.2.1 : Int) :: (pre (growT m 1 d (partS l (spV l m 1).2.2.1 (spV l m 1).2.2.2.1 true)) ++ pre (growT m 1 d (partS l (spV l m 1).2.2.1 (spV l m 1).2.2.2.1 false))) := hg
      have up : ∀ b, (∃ f : Nat, g = (f : Int) ∧ f < m ∧ ∃ s ∈ partS l (spV l m 1).2.2.1 (spV l m 1).2.2.2.1 b, ∃ u ∈ partS l (spV l m 1).2.2.1 (spV l m 1).2.2.2.1 b, colA s f ≠ colA u f) → ∃ f : Nat, g = (f : Int) ∧ f < m ∧ ∃ s ∈ l, ∃ u ∈ l, colA s f ≠ colA u f := by
        rintro b ⟨f, e, hf, s, hs, u, hu, ne⟩
        exact ⟨f, e, hf, s, (part_mem hs).1, u, (part_mem hu).1, ne⟩
      rcases List.mem_cons.1 hg' with e | e
      · obtain ⟨s, hs⟩ := List.exists_mem_of_length_pos n1
        obtain ⟨u, hu⟩ := List.exists_mem_of_length_pos n2
        refine .inr ⟨_, e, s1, s, (part_mem hs).1, u, (part_mem hu).1, fun z => ?_⟩
        have h1 := of_decide_eq_true (part_mem hs).2
        have h2 := of_decide_eq_false (part_mem hu).2
        omega
      · rcases List.mem_append.1 e with z | z
        · rcases grow_asks d n1 g z with y | y
          · exact .inl y
          · exact .inr (up true y)
        · rcases grow_asks d n2 g z with y | y
          · exact .inl y
          · exact .inr (up false y)
    · rw [if_neg q] at hg
      have : g ∈ [(-1 : Int)] := hg
      exact .inl (by simpa using this)
/-- so in a boosted grove -/
theorem bo_asks {m dp : Nat} {share : Int} {l : List Sa} (h : GoodS l m) (hl : 0 < l.length) (s1 : 1 ≤ share) (s2 : share ≤ 100) : ∀ k, ∀ T ∈ (boR m dp share l k).1, ∀ g ∈ pre T, g = -1 ∨ ∃ f : Nat, g = (f : Int) ∧ f < m ∧ ∃ s ∈ l, ∃ u ∈ l, colA s f ≠ colA u f
  | 0, T, hT, g, hg => by
    have : T = .lf (meanS l) := by
      have : T ∈ [BT.lf (meanS l)] := hT
      simpa using this
    subst this
    have : g ∈ [(-1 : Int)] := hg
    exact .inl (by simpa using this)
  | k + 1, T, hT, g, hg => by
    have ih := bo_asks (dp := dp) h hl s1 s2 k
    have I := bo_all (dp := dp) (share := share) h hl s1 s2 k
    have hT' : T ∈ (boN m dp share l (boR m dp share l k)).1 := hT
    unfold boN at hT'
    split at hT'
    · exact ih T hT' g hg
    · split at hT'
      · exact ih T hT' g hg
      · rcases List.mem_append.1 hT' with z | z
        · exact ih T z g hg
        · have e : T = boT m dp share l (boR m dp share l k).2.1 := by simpa using z
          subst e
          unfold boT at hg
          rw [pre_sc] at hg
          have ln := les_len l (boR m dp share l k).2.1 I.len
          rcases grow_asks dp (by rw [ln]; exact hl) g hg with y | ⟨f, e, hf, s, hs, u, hu, ne⟩
          · exact .inl y
          · obtain ⟨_, _, s', hs', es⟩ := les_mem l _ s hs
            obtain ⟨_, _, u', hu', eu⟩ := les_mem l _ u hu
            refine .inr ⟨f, e, hf, s', hs', u', hu', fun q => ne ?_⟩
            unfold colA at q ⊢
            rw [es, eu]; exact q
/-- who differs differs from the first -/
theorem differ_first {l : List Sa} {f : Nat} (h : ∃ s ∈ l, ∃ u ∈ l, colA s f ≠ colA u f) : ∃ k, 0 < k ∧ k < l.length ∧ colA (sAt l k) f ≠ colA (sAt l 0) f := by
  obtain ⟨s, hs, u, hu, ne⟩ := h
  obtain ⟨i, hi, ei⟩ := List.getElem_of_mem hs
  obtain ⟨j, hj, ej⟩ := List.getElem_of_mem hu
  have ai : sAt l i = s := by unfold sAt; rw [getD_at hi, ei]
  have aj : sAt l j = u := by unfold sAt; rw [getD_at hj, ej]
  by_cases c : colA (sAt l i) f = colA (sAt l 0) f
  · refine ⟨j, ?_, hj, fun z => ne ?_⟩
    · rcases Nat.eq_zero_or_pos j with y | y
      · subst y; exact absurd (by rw [← ai, ← aj]; exact c) ne
      · exact y
    · rw [← ai, ← aj, c, z]
  · refine ⟨i, ?_, hi, c⟩
    rcases Nat.eq_zero_or_pos i with y | y
    · subst y; exact absurd rfl c
    · exact y
/-! ### who is counted stands there -/
theorem cnt_pos {f : Int} : ∀ {t : List Nd}, cntN f t ≠ 0 → f ∈ t.map nf
  | [], h => absurd rfl h
  | n :: t, h => by
    have h' : (if nf n = f then 1 else 0) + cntN f t ≠ 0 := h
    by_cases e : nf n = f
    · rw [List.map_cons, e]; exact List.mem_cons_self ..
    · rw [if_neg e, Nat.zero_add] at h'
      exact List.mem_cons_of_mem _ (cnt_pos h')
theorem cnt_zero {f : Int} : ∀ {t : List Nd}, cntN f t = 0 → ∀ g ∈ t.map nf, g ≠ f
  | [], _, g, hg => by simp at hg
  | n :: t, h, g, hg => by
    have h' : (if nf n = f then 1 else 0) + cntN f t = 0 := h
    have ne : nf n ≠ f := fun e => by rw [if_pos e] at h'; omega
    rw [List.map_cons] at hg
    rcases List.mem_cons.1 hg with e | e
    · rw [e]; exact ne
    · exact cnt_zero (by omega) g e
theorem cntG_pos {f : Int} : ∀ {l : List (List Nd)}, cntG f l ≠ 0 → ∃ t ∈ l, cntN f t ≠ 0
  | [], h => absurd rfl h
  | t :: l, h => by
    have h' : cntN f t + cntG f l ≠ 0 := h
    by_cases e : cntN f t = 0
    · obtain ⟨u, hu, z⟩ := cntG_pos (l := l) (f := f) (by omega)
      exact ⟨u, List.mem_cons_of_mem _ hu, z⟩
    · exact ⟨t, List.mem_cons_self .., e⟩
theorem cntG_zero {f : Int} : ∀ {l : List (List Nd)}, cntG f l = 0 → ∀ t ∈ l, cntN f t = 0
  | [], _, t, ht => by cases ht
  | u :: l, h, t, ht => by
    have h' : cntN f u + cntG f l = 0 := h
    rcases List.mem_cons.1 ht with e | e
    · rw [e]; omega
    · exact cntG_zero (l := l) (by omega) t e
theorem uses_mem {l : List (List Nd)} {u : Us} : u ∈ usesV l ↔ ∃ i : Nat, i < 8 ∧ u = ((i : Int), ((cntG (i : Int) l : Nat) : Int), (0 : Int)) ∧ cntG (i : Int) l ≠ 0 := by
  unfold usesV
  rw [(rank_spec (useL_rise l)).2]
  unfold useL
  rw [List.mem_map]
  constructor
  · rintro ⟨⟨i, hi, rfl⟩, h⟩
    exact ⟨i, List.mem_range.1 hi, rfl, fun z => h (by show ((cntG (i : Int) l : Nat) : Int) = 0; rw [z]; rfl)⟩
  · rintro ⟨i, hi, rfl, h⟩
    refine ⟨⟨i, List.mem_range.2 hi, rfl⟩, fun z => h ?_⟩
    have : ((cntG (i : Int) l : Nat) : Int) = 0 := z
    omega
/-- what is not asked for is not missed -/
theorem wo_unasked {f : Nat} {T : BT} (h : cntN (f : Int) (lay T 0) = 0) : wo (f : Int) T = T := by
  refine wo_same T ((pre_free (by omega) T).2 fun g hg => ?_)
  rw [← pre_lay T 0] at hg
  exact cnt_zero h g hg
/-- without a feature none asks for it -/
theorem cnt_wo {f : Nat} (T : BT) : cntN (f : Int) (lay (wo (f : Int) T) 0) = 0 := by
  by_cases c : cntN (f : Int) (lay (wo (f : Int) T) 0) = 0
  · exact c
  · have := cnt_pos c
    rw [pre_lay] at this
    exact absurd rfl ((pre_free (by omega) _).1 (wo_free (f : Int) T) _ this)

end Go.Proofs.Ytlloiccodjnkcag.M

namespace Go.Proofs.Ytlloiccodjnkcag
set_option linter.unusedVariables false

def M.rdyF (t : List M.Nd) (l : List M.Sa) : Int := if l.length = 0 then 5 else if (M.treeF t ((M.sAt l 0).1.length : Int)).2 ≠ 0 then (M.treeF t ((M.sAt l 0).1.length : Int)).2 else (M.samF l ((M.sAt l 0).1.length : Int)).2
def M.wrgS (t : List M.Nd) : List M.Sa → Int
  | [] => 0
  | s :: l => (s.2 - M.nv (M.nAt t (M.toD t s.1 0))) * (s.2 - M.nv (M.nAt t (M.toD t s.1 0))) + M.wrgS t l
theorem M.wrg_app (t : List M.Nd) (a b : List M.Sa) : M.wrgS t (a ++ b) = M.wrgS t a + M.wrgS t b := by
  induction a with
  | nil => simp [M.wrgS]
  | cons s a ih => show _ + M.wrgS t (a ++ b) = _ + M.wrgS t a + M.wrgS t b; rw [ih]; omega
def M.wrgV (t : List M.Nd) (l : List M.Sa) : Int := if M.rdyF t l = 0 then M.wrgS t l else 0
theorem M.rdy_ok {t : List M.Nd} {l : List M.Sa} (h : M.rdyF t l = 0) : 0 < l.length ∧ (M.treeF t ((M.sAt l 0).1.length : Int)).2 = 0 ∧ (M.samF l ((M.sAt l 0).1.length : Int)).2 = 0 := by
  unfold M.rdyF at h
  by_cases c1 : l.length = 0
  · rw [if_pos c1] at h; cases h
  · rw [if_neg c1] at h
    by_cases c2 : (M.treeF t ((M.sAt l 0).1.length : Int)).2 = 0
    · rw [if_neg (by simp [c2])] at h
      exact ⟨by omega, c2, h⟩
    · rw [if_pos c2] at h; exact absurd h c2

end Go.Proofs.Ytlloiccodjnkcag

namespace Go.Proofs.Ytlloiccodjnkcag.M
set_option linter.unusedVariables false

def woT (f : Int) (t : List Nd) : List Nd := lay (wo f (bt t 0)) 0
def woG (g : Gv) (f : Int) : Gv := (gf g, gw g, gs g, (gt g).map (woT f))
theorem woT_tree {t : List Nd} {m : Int} (f : Int) (h : (treeF t m).2 = 0) : (treeF (woT f t) m).2 = 0 ∧ okB m (wo f (bt t 0)) ∧ (woT f t).length ≤ t.length := by
  have F := (tree_ok h).1
  have ok := bt_ok F.2.2.2.2.1 t.length 0 F.2.1 (by omega)
  have wl := wo_le f (bt t 0)
  have bs := bt_size F
  have l63 := F.1
  have dp := tree_deep h
  have bd := bt_deep F.2.2.2.2.1 t.length 0 F.2.1 (by omega)
  exact ⟨lay_tree (wo_ok _ ok) F.2.2.1 F.2.2.2.1 (by omega) (by omega), wo_ok _ ok, by unfold woT; rw [lay_len]; omega⟩
theorem woG_good {g : Gv} (f : Int) (h : Good g) : Good (woG g f) := by
  have hl : (gt (woG g f)).length = (gt g).length := by show ((gt g).map (woT f)).length = _; simp
  refine { h with t0 := ?_, t12 := ?_, len := ?_, trees := ?_ }
  · rw [hl]; exact h.t0
  · rw [hl]; exact h.t12
  · rw [hl]; exact h.len
  · intro t ht
    obtain ⟨u, hu, rfl⟩ := List.mem_map.1 (show t ∈ (gt g).map (woT f) from ht)
    exact (woT_tree f (h.trees u hu)).1
theorem row_nil {r : List Int} (f : Nat) (h : rowF r = 0) : rowF (r.set f nilI) = 0 := by
  rw [row_ok] at h ⊢
  refine ⟨by rw [List.length_set]; exact h.1, fun x hx => ?_⟩
  rcases List.mem_or_eq_of_mem_set hx with q | q
  · exact h.2 x q
  · rw [q]; exact good_nil
theorem woT_eval {t : List Nd} {r : List Int} {f : Nat} (hf : f < r.length) (h : (treeF t (r.length : Int)).2 = 0) (hr : rowF r = 0) : evalV (woT (f : Int) t) r = evalV t (r.set f nilI) := by
  have F := (tree_ok h).1
  have ok := bt_ok F.2.2.2.2.1 t.length 0 F.2.1 (by omega)
  obtain ⟨a, b, _⟩ := woT_tree (f : Int) h
  rw [show evalV (woT (f : Int) t) r = evB (wo (f : Int) (bt t 0)) r from (lay_eval b a hr).2, wo_ev hf _ ok]
  refine (eval_bt ?_).symm
  rw [ready_tree (row_nil f hr), List.length_set]
  exact h
theorem woG_eval {g : Gv} {r : List Int} {f : Nat} (hf : f < r.length) (h : Good g) (hr : rowF r = 0) (hm : (r.length : Int) = gf g) : evalG (woG g (f : Int)) r = evalG g (r.set f nilI) := by
  have s1 : standF (woG g (f : Int)) r = 0 := stand_of (woG_good _ h) hr hm
  have s2 : standF g (r.set f nilI) = 0 := stand_of h (row_nil f hr) (by rw [List.length_set]; exact hm)
  unfold evalG
  rw [if_pos s1, if_pos s2]
  show together (gw g) (gs g) _ = _
  congr 1
  show ((gt g).map (woT (f : Int))).map (fun t => evalV t r) = (gt g).map fun t => evalV t (r.set f nilI)
  rw [List.map_map]
  exact List.map_congr_left fun t ht => woT_eval hf (by rw [hm]; exact h.trees t ht) hr
/-- what package weigh answers -/
def usV (g : Gv) : List Us := if groveF g = 0 then usesV (gt g) else []
def gnV (t : List Nd) (l : List Sa) : List Us := if rdyF t l = 0 then gainsV t l else []
def woF (g : Gv) (f : Int) : Int := if groveF g ≠ 0 then groveF g else if f < 0 ∨ gf g ≤ f then 1 else 0
def woV (g : Gv) (f : Int) : Gv := if woF g f = 0 then woG g f else (0, 0, [], [])
theorem wo_fine {g : Gv} {f : Int} (h : woF g f = 0) : Good g ∧ 0 ≤ f ∧ f < gf g ∧ woV g f = woG g f := by
  have e : woV g f = woG g f := by unfold woV; rw [if_pos h]
  unfold woF at h
  split at h
  · rename_i c; exact absurd h c
  · rename_i c
    have c0 : groveF g = 0 := by omega
    split at h
    · omega
    · exact ⟨(good_iff g).1 c0, by omega, by omega, e⟩
theorem wo_grove {g : Gv} {f : Int} (h : woF g f = 0) : groveF (woV g f) = 0 := by
  obtain ⟨a, _, _, e⟩ := wo_fine h
  rw [e]
  exact (good_iff _).2 (woG_good f a)

end Go.Proofs.Ytlloiccodjnkcag.M

namespace Go.Proofs.Ytlloiccodjnkcag.M
set_option linter.unusedVariables false

theorem askN_app (a b : List Nd) : askN (a ++ b) = askN a + askN b := by
  induction a with
  | nil => show askN b = 0 + askN b; omega
  | cons n a ih => show (if nf n = -1 then 0 else 1) + askN (a ++ b) = (if nf n = -1 then 0 else 1) + askN a + askN b; rw [ih]; omega
theorem asks_take (t : List Nd) : ∀ k, k ≤ t.length → askN (t.take k) = asks t k
  | 0, _ => by simp [askN, asks]
  | k + 1, h => by
    have ih := asks_take t k (by omega)
    have hk : k < t.length := by omega
    rw [List.take_add_one, List.getElem?_eq_getElem hk, Option.toList_some, askN_app, ih]
    have e := nAt_eq hk
    show asks t k + ((if nf t[k] = -1 then 0 else 1) + 0) = asks t k + if nf (nAt t k) = -1 then 0 else 1
    rw [← e, Nat.add_zero]
theorem ask_half {t : List Nd} {m : Int} (F : Fair t m) : 2 * askN t + 1 = t.length := by
  have h1 := halves F
  have h2 := lvs_asks t t.length
  have h3 := asks_take t t.length (Nat.le_refl _)
  rw [List.take_length] at h3
  omega
theorem prun_ask {t : List Nd} {m : Int} (h : (treeF t m).2 = 0) : askN (prunV t m) ≤ askN t := by
  obtain ⟨h1, h2⟩ := prun_tree h
  have a := ask_half (tree_ok h).1
  have b := ask_half (tree_ok h1).1
  omega
theorem prun_askG {m : Int} : ∀ l : List (List Nd), (∀ t ∈ l, (treeF t m).2 = 0) → askG (l.map fun t => prunV t m) ≤ askG l
  | [], _ => Nat.le_refl _
  | t :: l, h => by
    have a := prun_ask (h t (List.mem_cons_self ..))
    have b := prun_askG l fun x hx => h x (List.mem_cons_of_mem _ hx)
    show askN (prunV t m) + askG (l.map fun t => prunV t m) ≤ askN t + askG l
    omega
theorem fair_asks {l : List (List Nd)} {m : Int} (h : ∀ t ∈ l, (treeF t m).2 = 0) : ∀ t ∈ l, ∀ n ∈ t, nf n = -1 ∨ (0 ≤ nf n ∧ nf n < 8) := fun t ht n hn => by
  have F := (tree_ok (h t ht)).1
  obtain ⟨j, hj, rfl⟩ := List.getElem_of_mem hn
  by_cases z : nf t[j] = -1
  · exact .inl z
  · have e := nAt_eq hj
    have := node_ask (F.2.2.2.2.1 j hj) (by rw [e]; exact z)
    rw [e] at this
    have := F.2.2.2.1
    exact .inr (by omega)
/-- pruned, a grove asks no more -/
theorem prun_uses {l : List (List Nd)} {m : Int} (h : ∀ t ∈ l, (treeF t m).2 = 0) : sumU (usesV (l.map fun t => prunV t m)) ≤ sumU (usesV l) := by
  rw [uses_sum (fair_asks h), uses_sum (fair_asks (m := m) fun t ht => by
    obtain ⟨u, hu, rfl⟩ := List.mem_map.1 ht
    exact (prun_tree (h u hu)).1)]
  have := prun_askG l h
  omega
/-- uses fall -/
theorem uses_fall (l : List (List Nd)) {i : Nat} (h : i + 1 < (usesV l).length) : ((usesV l).getD (i + 1) (0, 0, 0)).2.1 ≤ ((usesV l).getD i (0, 0, 0)).2.1 := by
  have p := (rank_spec (g := false) (useL_rise l)).1
  have q := List.pairwise_iff_getElem.1 p i (i + 1) (by exact Nat.lt_of_succ_lt h) h (by omega)
  rw [usAt _ h, usAt _ (Nat.lt_of_succ_lt h)]
  rcases q with q | ⟨q, _⟩
  · exact Int.le_of_lt q
  · exact Int.le_of_eq q.symm
/-- what is asked for is from 1 to all there is -/
theorem uses_in {l : List (List Nd)} {u : Us} (h : u ∈ usesV l) : 0 ≤ u.1 ∧ u.1 < 8 ∧ 1 ≤ u.2.1 ∧ u.2.2 = 0 := by
  obtain ⟨i, hi, rfl, hz⟩ := uses_mem.1 h
  exact ⟨Int.natCast_nonneg i, (show (i : Int) < 8 by omega), (show (1 : Int) ≤ ((cntG (i : Int) l : Nat) : Int) by omega), rfl⟩
/-- without a feature none asks for it -/
theorem uses_wo {g : Gv} {f : Int} (h : woF g f = 0) : ∀ u ∈ usV (woV g f), u.1 ≠ f := fun u hu => by
  obtain ⟨G, h0, h1, e⟩ := wo_fine h
  have z := wo_grove h
  unfold usV at hu
  rw [if_pos z, e] at hu
  obtain ⟨i, hi, rfl, hz⟩ := uses_mem.1 hu
  obtain ⟨t, ht, hc⟩ := cntG_pos hz
  obtain ⟨s, hs, rfl⟩ := List.mem_map.1 (show t ∈ (gt g).map (woT f) from ht)
  intro q
  have q' : (i : Int) = f := q
  subst q'
  exact hc (cnt_wo (bt s 0))
/-- the laws' own first questions -/
theorem same_fact : sameV [1, 2] [1, 3] = 1 ∧ sameF [1, 2] [1, 3] = 0 := by decide
theorem uses_fact : groveF (1, 1, [1], [[(0, 5, 1, 2, false, 0), (-1, 0, 0, 0, false, 7), (-1, 0, 0, 0, false, 9)]]) = 0 ∧ usV (1, 1, [1], [[(0, 5, 1, 2, false, 0), (-1, 0, 0, 0, false, 7), (-1, 0, 0, 0, false, 9)]]) = [(0, 1, 0)] := by decide
theorem same_sides (a b : List Int) : (sameF a b = 0 ↔ sameF b a = 0) ∧ sameV a b = sameV b a ∧ sameV a b ≤ (a.length : Int) := by
  have e : sameF a b = 0 ↔ sameF b a = 0 := by
    unfold sameF
    by_cases c : a.length = b.length
    · rw [c]
    · rw [if_pos c, if_pos (fun q => c q.symm)]
  refine ⟨e, ?_, ?_⟩
  · unfold sameV
    by_cases c : sameF a b = 0
    · rw [if_pos c, if_pos (e.1 c), same_turn]
    · rw [if_neg c, if_neg (fun q => c (e.2 q))]
  · unfold sameV
    have := same_le a b
    split <;> omega
theorem same_own {a : List Int} (h : a.length ≤ 1000) : sameF a a = 0 ∧ sameV a a = (a.length : Int) := by
  have e : sameF a a = 0 := by unfold sameF; rw [if_neg (by omega), if_neg (by omega)]
  exact ⟨e, by unfold sameV; rw [if_pos e, same_self]⟩

end Go.Proofs.Ytlloiccodjnkcag.M

namespace Go.Proofs.Ytlloiccodjnkcag
open Go.ChangeShapes Go.WideShapes Go.ChangeAt Go.RowKit
set_option linter.unusedVariables false

theorem infoN : (Try.prog.info? 38).map (fun i => (i.zero, i.size, i.bytes)) = some (some (.agg #[.int .i64 0, .int .i64 0, .int .i64 0, .int .i64 0, .bool false, .int .i64 0]), 6, 48) := by kernel_rfl
def ndCells (ts : List M.Nd) : List Value := ts.flatMap fun n => [.int .i64 (M.nf n), .int .i64 (M.nc n), .int .i64 (M.nl n), .int .i64 (M.nr n), .bool (M.ns n), .int .i64 (M.nv n)]
theorem ndCells_cons (n : M.Nd) (t : List M.Nd) : ndCells (n :: t) = .int .i64 (M.nf n) :: .int .i64 (M.nc n) :: .int .i64 (M.nl n) :: .int .i64 (M.nr n) :: .bool (M.ns n) :: .int .i64 (M.nv n) :: ndCells t := rfl
theorem ndCells_len (ts : List M.Nd) : (ndCells ts).length = ts.length * 6 := by
  induction ts with
  | nil => rfl
  | cons x t ih => rw [ndCells_cons]; simp only [List.length_cons, ih]; omega
theorem ndCells_one (ts : List M.Nd) : ∀ v ∈ ndCells ts, v.oneCell' = true := by
  intro v hv
  simp only [ndCells, List.mem_flatMap] at hv
  obtain ⟨s, _, hs⟩ := hv
  simp only [List.mem_cons, List.not_mem_nil, or_false] at hs
  rcases hs with rfl | rfl | rfl | rfl | rfl | rfl <;> rfl
theorem ndCells_at : ∀ (ts : List M.Nd) (i : Nat), i < ts.length → (ndCells ts)[i * 6]? = some (.int .i64 (M.nf (M.nAt ts i))) ∧ (ndCells ts)[i * 6 + 1]? = some (.int .i64 (M.nc (M.nAt ts i))) ∧ (ndCells ts)[i * 6 + 2]? = some (.int .i64 (M.nl (M.nAt ts i))) ∧ (ndCells ts)[i * 6 + 3]? = some (.int .i64 (M.nr (M.nAt ts i))) ∧ (ndCells ts)[i * 6 + 4]? = some (.bool (M.ns (M.nAt ts i))) ∧ (ndCells ts)[i * 6 + 5]? = some (.int .i64 (M.nv (M.nAt ts i)))
  | [], i, h => by simp at h
  | s :: t, 0, h => ⟨rfl, rfl, rfl, rfl, rfl, rfl⟩
  | s :: t, i + 1, h => by
    have := ndCells_at t i (by simpa using h)
    have e : M.nAt (s :: t) (i + 1) = M.nAt t i := by simp [M.nAt]
    rw [ndCells_cons, e, show (i + 1) * 6 = i * 6 + 1 + 1 + 1 + 1 + 1 + 1 by omega]
    simpa using this
theorem nd_src {w : World} {b off : Nat} {ts : List M.Nd} (hc : ∀ i, i < ts.length → SixAt w b (off + i * 6) (M.nAt ts i)) : ∀ j u, (ndCells ts)[j]? = some u → w.cell? ((⟨b, off, none⟩ : Addr).add j) = some u := by
  intro j u hj
  have hl : j < ts.length * 6 := by
    have := (List.getElem?_eq_some_iff.1 hj).1
    rwa [ndCells_len] at this
  have hi : j / 6 < ts.length := by omega
  obtain ⟨h0, h1, h2, h3, h4, h5⟩ := hc _ hi
  obtain ⟨q0, q1, q2, q3, q4, q5⟩ := ndCells_at ts _ hi
  rw [add_flat]
  rcases (show j = j / 6 * 6 ∨ j = j / 6 * 6 + 1 ∨ j = j / 6 * 6 + 2 ∨ j = j / 6 * 6 + 3 ∨ j = j / 6 * 6 + 4 ∨ j = j / 6 * 6 + 5 by omega) with e | e | e | e | e | e
  · rw [e] at hj ⊢; rw [q0] at hj; rw [← hj]; simpa [Nat.mul_div_cancel] using h0
  · rw [e] at hj ⊢; rw [show (j / 6 * 6 + 1) = j / 6 * 6 + 1 from rfl] at hj; rw [q1] at hj; rw [← hj, ← Nat.add_assoc]; exact h1
  · rw [e] at hj ⊢; rw [q2] at hj; rw [← hj, ← Nat.add_assoc]; exact h2
  · rw [e] at hj ⊢; rw [q3] at hj; rw [← hj, ← Nat.add_assoc]; exact h3
  · rw [e] at hj ⊢; rw [q4] at hj; rw [← hj, ← Nat.add_assoc]; exact h4
  · rw [e] at hj ⊢; rw [q5] at hj; rw [← hj, ← Nat.add_assoc]; exact h5
theorem own_rdN {w : World} {base n : Nat} {v : Value} {ts : List M.Nd} (hn : ts.length = n) (hm : n ≤ maxLen) (h : w.ownsRow base 38 6 v n (ndCells ts)) : ∃ a cap, v = .slice a n cap ∧ RdN w a ts ∧ (∀ p, a = some p → base ≤ p.block) := by
  subst hn
  rcases h.2 with ⟨hv, h0⟩ | ⟨g, cap, cur, hv, hb, hg, h1, h2, h3, h4⟩
  · have e : ts = [] := List.length_eq_zero_iff.1 h0
    subst e
    exact ⟨none, 0, hv, ⟨Nat.zero_le _, fun h => absurd rfl h⟩, fun p hp => by cases hp⟩
  · subst hv
    refine ⟨_, cap, rfl, ⟨hm, fun _ => ⟨g, 0, rfl, (Array.getElem?_eq_some_iff.1 hg).1, fun i hi => ?_⟩⟩, fun p hp => by cases hp; exact hb⟩
    obtain ⟨q0, q1, q2, q3, q4, q5⟩ := ndCells_at ts i hi
    rw [Nat.zero_add]
    exact ⟨(h.cellAt (i * 6) (by omega)).trans q0, (h.cellAt (i * 6 + 1) (by omega)).trans q1, (h.cellAt (i * 6 + 2) (by omega)).trans q2, (h.cellAt (i * 6 + 3) (by omega)).trans q3, (h.cellAt (i * 6 + 4) (by omega)).trans q4, (h.cellAt (i * 6 + 5) (by omega)).trans q5⟩

end Go.Proofs.Ytlloiccodjnkcag

namespace Go.Proofs.Ytlloiccodjnkcag
open Go.ChangeShapes Go.WideShapes Go.ChangeAt Go.RowKit
set_option linter.unusedVariables false

theorem ndCells_app (a b : List M.Nd) : ndCells (a ++ b) = ndCells a ++ ndCells b := by unfold ndCells; rw [List.flatMap_append]
theorem ndCells_set2 : ∀ (ts : List M.Nd) (i : Nat), i < ts.length → ∀ l r : Int, ((ndCells ts).set (i * 6 + 2) (.int .i64 l)).set (i * 6 + 3) (.int .i64 r) = ndCells (ts.set i (M.nf (M.nAt ts i), M.nc (M.nAt ts i), l, r, M.ns (M.nAt ts i), M.nv (M.nAt ts i)))
  | [], i, h, l, r => by simp at h
  | n :: t, 0, h, l, r => rfl
  | n :: t, i + 1, h, l, r => by
    have ih := ndCells_set2 t i (by simpa using h) l r
    have e : M.nAt (n :: t) (i + 1) = M.nAt t i := by simp [M.nAt]
    rw [e, List.set_cons_succ, ndCells_cons, ndCells_cons, ← ih, show (i + 1) * 6 + 2 = (i * 6 + 2) + 1 + 1 + 1 + 1 + 1 + 1 by omega, show (i + 1) * 6 + 3 = (i * 6 + 3) + 1 + 1 + 1 + 1 + 1 + 1 by omega]
    simp only [List.set_cons_succ]

theorem ndCells_setL : ∀ (ts : List M.Nd) (i : Nat), i < ts.length → ∀ l : Int, (ndCells ts).set (i * 6 + 2) (.int .i64 l) = ndCells (ts.set i (M.nf (M.nAt ts i), M.nc (M.nAt ts i), l, M.nr (M.nAt ts i), M.ns (M.nAt ts i), M.nv (M.nAt ts i)))
  | [], i, h, l => by simp at h
  | n :: t, 0, h, l => rfl
  | n :: t, i + 1, h, l => by
    have ih := ndCells_setL t i (by simpa using h) l
    have e : M.nAt (n :: t) (i + 1) = M.nAt t i := by simp [M.nAt]
    rw [e, List.set_cons_succ, ndCells_cons, ndCells_cons, ← ih, show (i + 1) * 6 + 2 = (i * 6 + 2) + 1 + 1 + 1 + 1 + 1 + 1 by omega]
    simp only [List.set_cons_succ]
theorem ndCells_setR : ∀ (ts : List M.Nd) (i : Nat), i < ts.length → ∀ r : Int, (ndCells ts).set (i * 6 + 3) (.int .i64 r) = ndCells (ts.set i (M.nf (M.nAt ts i), M.nc (M.nAt ts i), M.nl (M.nAt ts i), r, M.ns (M.nAt ts i), M.nv (M.nAt ts i)))
  | [], i, h, r => by simp at h
  | n :: t, 0, h, r => rfl
  | n :: t, i + 1, h, r => by
    have ih := ndCells_setR t i (by simpa using h) r
    have e : M.nAt (n :: t) (i + 1) = M.nAt t i := by simp [M.nAt]
    rw [e, List.set_cons_succ, ndCells_cons, ndCells_cons, ← ih, show (i + 1) * 6 + 3 = (i * 6 + 3) + 1 + 1 + 1 + 1 + 1 + 1 by omega]
    simp only [List.set_cons_succ]
theorem grown_trans {a b c : World} {r s : Option Nat} (h : a.grownBy b r) (k : b.grownBy c s) (hs : s = r ∨ ∀ q, s = some q → a.heap.size ≤ q) : a.grownBy c r :=
  ⟨k.os.trans h.os, k.tape.trans h.tape, k.output.trans h.output, Nat.le_trans h.size k.size, fun q hq hn => (k.block q (Nat.lt_of_lt_of_le hq h.size) (fun e => by
    rcases hs with q1 | q1
    · exact hn (by rw [e, q1])
    · have := q1 q e.symm; omega)).trans (h.block q hq hn)⟩
theorem grown_drew {a b : World} {r : Option Nat} (h : a.grownBy b r) : a.grownBy b.drew r := ⟨h.os, h.tape, h.output, h.size, h.block⟩
theorem grown_set {W : World} {g o : Nat} {u : Value} : W.grownBy (W.setCell ⟨g, o, none⟩ u) (some g) :=
  ⟨rfl, rfl, rfl, by simp, fun q hq hn => Below.heap_setCell _ _ _ _ (fun e => hn (by rw [e]))⟩
theorem grown_undrew {a b : World} {r : Option Nat} (h : a.drew.grownBy b r) : a.grownBy b r := ⟨h.os, h.tape, h.output, h.size, h.block⟩
theorem grown_of {a b : World} (h : Below a.heap.size a b) (r : Option Nat) : a.grownBy b r := ⟨h.os, h.tape, h.output, h.size, fun k hk _ => h.block k hk⟩
theorem nAt_snoc (O : List M.Nd) (n : M.Nd) (C : List M.Nd) : M.nAt (O ++ n :: C) O.length = n := by unfold M.nAt; simp [List.getD]
theorem set_snoc (O : List M.Nd) (n n' : M.Nd) (C : List M.Nd) : (O ++ n :: C).set O.length n' = O ++ n' :: C := by
  rw [List.set_append_right _ _ (Nat.le_refl _), Nat.sub_self, List.set_cons_zero]
theorem own_low {w : World} {base base' e size n : Nat} {v : Value} {l : List Value} (hb : base' ≤ base) (h : w.ownsRow base e size v n l) : w.ownsRow base' e size v n l := by
  refine ⟨h.1, ?_⟩
  rcases h.2 with h0 | ⟨g, cap, cur, hv, hg, rest⟩
  · exact .inl h0
  · exact .inr ⟨g, cap, cur, hv, by omega, rest⟩

end Go.Proofs.Ytlloiccodjnkcag

namespace Go.Proofs.Ytlloiccodjnkcag.M
set_option linter.unusedVariables false

/-- what is counted of eight features -/
def cU (c : Nat → Nat) (g : Nat → Int) : List Us := (List.range 8).map fun (i : Nat) => ((i : Int), ((c i : Nat) : Int), g i)
/-- .. as it lies: nothing of a feature in no node -/
def bU (c : Nat → Nat) (g : Nat → Int) : List Us := (List.range 8).map fun (i : Nat) => if c i = 0 then ((0 : Int), (0 : Int), (0 : Int)) else ((i : Int), ((c i : Nat) : Int), g i)
theorem bU_len (c : Nat → Nat) (g : Nat → Int) : (bU c g).length = 8 := by simp [bU]
theorem bU_at {c : Nat → Nat} {g : Nat → Int} {i : Nat} (h : i < 8) : (bU c g).getD i (0, 0, 0) = if c i = 0 then ((0 : Int), (0 : Int), (0 : Int)) else ((i : Int), ((c i : Nat) : Int), g i) := by
  unfold bU
  rw [List.getD_eq_getElem?_getD, List.getElem?_map, List.getElem?_range h]
  rfl
theorem bU_zero {c : Nat → Nat} (g : Nat → Int) (h : ∀ i, i < 8 → c i = 0) : bU c g = List.replicate 8 (0, 0, 0) := by
  unfold bU
  rw [show List.replicate 8 ((0 : Int), (0 : Int), (0 : Int)) = (List.range 8).map fun _ => ((0 : Int), (0 : Int), (0 : Int)) from rfl]
  exact List.map_congr_left fun i hi => by rw [if_pos (h i (by simpa using hi))]
theorem bU_same {c c' : Nat → Nat} {g g' : Nat → Int} (hc : ∀ i, i < 8 → c' i = c i) (hg : ∀ i, i < 8 → g' i = g i) : bU c' g' = bU c g := by
  unfold bU
  exact List.map_congr_left fun i hi => by rw [hc i (by simpa using hi), hg i (by simpa using hi)]
theorem bU_add {c c' : Nat → Nat} {g g' : Nat → Int} {f : Nat} {x : Int} (hf : f < 8) (h0 : c f = 0 → g f = 0) (hc : ∀ i, i < 8 → c' i = if i = f then c i + 1 else c i) (hg : ∀ i, i < 8 → g' i = if i = f then g i + x else g i) :
    (bU c g).set f ((f : Int), ((bU c g).getD f (0, 0, 0)).2.1 + 1, ((bU c g).getD f (0, 0, 0)).2.2 + x) = bU c' g' := by
  obtain ⟨u, hu⟩ : ∃ u, u = (bU c g).getD f (0, 0, 0) := ⟨_, rfl⟩
  rw [← hu]
  rw [bU_at hf] at hu
  refine List.ext_getElem (by rw [List.length_set, bU_len, bU_len]) fun i h1 h2 => ?_
  have hi : i < 8 := by rw [bU_len] at h2; exact h2
  have e2 : (bU c' g')[i] = if c' i = 0 then ((0 : Int), (0 : Int), (0 : Int)) else ((i : Int), ((c' i : Nat) : Int), g' i) := by rw [← bU_at hi, List.getD_eq_getElem?_getD, List.getElem?_eq_getElem h2]; rfl
  refine Eq.trans ?_ e2.symm
  rw [List.getElem_set, hc i hi, hg i hi]
  by_cases e : f = i
  · subst e
    rw [if_pos rfl, if_pos rfl, if_pos rfl, if_neg (by omega)]
    by_cases z : c f = 0
    · rw [if_pos z] at hu; rw [hu, h0 z, z]; simp
    · rw [if_neg z] at hu; rw [hu]; simp
  · have q : ¬ i = f := fun q => e q.symm
    simp only [if_neg e, if_neg q]
    have e1 : i < (bU c g).length := by rw [bU_len]; exact hi
    rw [← bU_at hi, List.getD_eq_getElem?_getD, List.getElem?_eq_getElem e1]; rfl
theorem cU_rise (c : Nat → Nat) (g : Nat → Int) : RiseU (cU c g) := by
  unfold RiseU cU
  rw [List.pairwise_map]
  exact (List.pairwise_lt_range).imp fun {a b} h => (show ((a : Nat) : Int) < ((b : Nat) : Int) by omega)
/-- those that are in some node -/
def askU (l : List Us) : List Us := l.filter fun u => decide (0 < u.2.1)
theorem asked_len (l : List Us) : (askU l).length ≤ l.length := List.length_filter_le _ _
theorem ask_more {l : List Us} {k : Nat} (hk : k < l.length) : askU (l.take (k + 1)) = if 0 < (l.getD k (0, 0, 0)).2.1 then askU (l.take k) ++ [l.getD k (0, 0, 0)] else askU (l.take k) := by
  unfold askU
  rw [List.take_succ_eq_append_getElem hk, List.filter_append, usAt l hk]
  by_cases h : 0 < l[k].2.1
  · rw [if_pos h, List.filter_cons_of_pos (by simpa using h)]; rfl
  · rw [if_neg h, List.filter_cons_of_neg (by simpa using h)]; simp
theorem ask_same (c : Nat → Nat) (g : Nat → Int) : askU (bU c g) = askU (cU c g) := by
  unfold askU bU cU
  rw [List.filter_map, List.filter_map]
  have e : ((fun u : Us => decide (0 < u.2.1)) ∘ fun (i : Nat) => if c i = 0 then ((0 : Int), (0 : Int), (0 : Int)) else ((i : Int), ((c i : Nat) : Int), g i)) = ((fun u : Us => decide (0 < u.2.1)) ∘ fun (i : Nat) => ((i : Int), ((c i : Nat) : Int), g i)) := by
    funext i
    show decide (0 < (if c i = 0 then ((0 : Int), (0 : Int), (0 : Int)) else ((i : Int), ((c i : Nat) : Int), g i)).2.1) = decide (0 < ((c i : Nat) : Int))
    by_cases z : c i = 0
    · rw [if_pos z, z]; rfl
    · rw [if_neg z]
  rw [e]
  refine List.map_congr_left fun i hi => ?_
  have hp : 0 < ((c i : Nat) : Int) := by simpa using (List.mem_filter.1 hi).2
  rw [if_neg (by omega)]
theorem ask_mem {c : Nat → Nat} {g : Nat → Int} {x : Us} : x ∈ askU (bU c g) ↔ x ∈ cU c g ∧ x.2.1 ≠ 0 := by
  rw [ask_same]
  unfold askU
  rw [List.mem_filter, decide_eq_true_iff]
  constructor
  · rintro ⟨a, b⟩; exact ⟨a, by omega⟩
  · rintro ⟨a, b⟩
    refine ⟨a, ?_⟩
    unfold cU at a
    obtain ⟨i, _, rfl⟩ := List.mem_map.1 a
    have : ((c i : Nat) : Int) ≠ 0 := b
    show 0 < ((c i : Nat) : Int)
    omega
theorem ask_rise (c : Nat → Nat) (g : Nat → Int) : RiseU (askU (bU c g)) := by
  rw [ask_same]
  exact (cU_rise c g).sublist List.filter_sublist
/-- put in order it is ranked -/
theorem sorted_rank {gb : Bool} {c : Nat → Nat} {g : Nat → Int} {r : List Us} (hp : r.Perm (askU (bU c g))) (hs : ∀ i j (hi : i < j) (hj : j < r.length), ¬ RkU gb r[j] (r[i]'(by omega))) : r = rankU gb (cU c g) := by
  refine rank_only (cU_rise c g) ?_ fun x => hp.mem_iff.trans ask_mem
  have d : r.Pairwise (fun a b => a.1 ≠ b.1) := by
    refine (hp.pairwise_iff (R := fun a b : Us => a.1 ≠ b.1) (fun {a b} h => fun e => h e.symm)).2 ?_
    exact (ask_rise c g).imp fun {a b} h => by omega
  rw [List.pairwise_iff_getElem] at d ⊢
  intro i j hi hj hij
  have h1 := hs i j hij hj
  have h2 := d i j hi hj hij
  unfold RkU at h1 ⊢
  have h3 : ¬ keyU gb r[i] < keyU gb r[j] := fun q => h1 (.inl q)
  by_cases e : keyU gb r[j] = keyU gb r[i]
  · refine .inr ⟨e.symm, ?_⟩
    have h4 : ¬ r[j].1 < r[i].1 := fun q => h1 (.inr ⟨e, q⟩)
    omega
  · exact .inl (by omega)
theorem rank_len (gb : Bool) (c : Nat → Nat) (g : Nat → Int) : (rankU gb (cU c g)).length ≤ 8 := by
  have h : ∀ (l : List Us) k, (rankK gb l k).length ≤ k := fun l k => by
    induction k with
    | zero => exact Nat.le_refl _
    | succ k ih =>
      unfold rankK
      split
      · omega
      · unfold insU
        have := toU_le gb (rankK gb l k) (l.getD k (0, 0, 0)) (rankK gb l k).length
        rw [List.length_append, List.length_append, List.length_take, List.length_drop]
        simp
        omega
  have := h (cU c g) (cU c g).length
  rw [show (cU c g).length = 8 by simp [cU]] at this
  unfold rankU
  rw [show (cU c g).length = 8 by simp [cU]]
  exact this

/-! ### counted node by node -/
theorem cntN_more (f : Int) {t : List Nd} {j : Nat} (h : j < t.length) : cntN f (t.take (j + 1)) = cntN f (t.take j) + if nf (nAt t j) = f then 1 else 0 := by
  rw [List.take_succ_eq_append_getElem h, cntN_app]
  have e : nAt t j = t[j] := by unfold nAt; rw [getD_at h]
  rw [e]
  show _ + ((if nf t[j] = f then 1 else 0) + 0) = _
  omega
theorem cntN_le (f : Int) : ∀ t : List Nd, cntN f t ≤ t.length
  | [] => Nat.le_refl _
  | n :: t => by
    have := cntN_le f t
    show (if nf n = f then 1 else 0) + cntN f t ≤ t.length + 1
    split <;> omega
theorem cntG_app (f : Int) : ∀ (a : List (List Nd)) (t : List Nd), cntG f (a ++ [t]) = cntG f a + cntN f t
  | [], t => by show cntN f t + 0 = 0 + cntN f t; omega
  | s :: a, t => by
    show cntN f s + cntG f (a ++ [t]) = cntN f s + cntG f a + cntN f t
    rw [cntG_app f a t]; omega
theorem cntGr_le (f : Int) {b : Nat} : ∀ l : List (List Nd), (∀ t ∈ l, t.length ≤ b) → cntG f l ≤ b * l.length
  | [], _ => Nat.zero_le _
  | t :: l, h => by
    have h1 := cntGr_le f l fun s hs => h s (List.mem_cons_of_mem _ hs)
    have h2 := cntN_le f t
    have h3 := h t (List.mem_cons_self ..)
    show cntN f t + cntG f l ≤ b * (l.length + 1)
    rw [Nat.mul_add]
    omega
/-- of k trees, and j nodes of the next -/
def cK (l : List (List Nd)) (k j : Nat) (i : Nat) : Nat := cntG (i : Int) (l.take k) + cntN (i : Int) ((l.getD k []).take j)
theorem cK_none (l : List (List Nd)) (i : Nat) : cK l 0 0 i = 0 := by unfold cK; simp [cntG, cntN]
theorem cK_node {l : List (List Nd)} {k j : Nat} (h : j < (l.getD k []).length) (i : Nat) : cK l k (j + 1) i = cK l k j i + if nf (nAt (l.getD k []) j) = (i : Int) then 1 else 0 := by
  unfold cK; rw [cntN_more _ h]; omega
theorem cK_tree {l : List (List Nd)} {k : Nat} (h : k < l.length) (i : Nat) : cK l k (l.getD k []).length i = cK l (k + 1) 0 i := by
  unfold cK
  rw [List.take_length, List.take_succ_eq_append_getElem h, cntG_app]
  have e : l.getD k [] = l[k] := by simp [List.getD, h]
  rw [e]
  simp [cntN]
theorem cK_all (l : List (List Nd)) (i : Nat) : cK l l.length 0 i = cntG (i : Int) l := by
  unfold cK; rw [List.take_length]; simp [cntN]
theorem cK_le {l : List (List Nd)} (h : ∀ t ∈ l, t.length ≤ 63) (hl : l.length ≤ 12) (k j i : Nat) : cK l k j i ≤ 1000 := by
  unfold cK
  have h1 := cntGr_le (i : Int) (b := 63) (l.take k) fun t ht => h t (List.mem_of_mem_take ht)
  have h2 := cntN_le (i : Int) ((l.getD k []).take j)
  have h3 : (l.take k).length ≤ 12 := Nat.le_trans (by rw [List.length_take]; exact Nat.min_le_right ..) hl
  have h4 : ((l.getD k []).take j).length ≤ 63 := by
    refine Nat.le_trans (by rw [List.length_take]; exact Nat.min_le_right ..) ?_
    by_cases q : k < l.length
    · have e : l.getD k [] = l[k] := by simp [List.getD, q]
      rw [e]; exact h _ (List.getElem_mem q)
    · have e : l.getD k [] = [] := by simp [List.getD, List.getElem?_eq_none (Nat.le_of_not_lt q)]
      rw [e]; simp
  have h5 : 63 * (l.take k).length ≤ 63 * 12 := Nat.mul_le_mul_left _ h3
  omega

end Go.Proofs.Ytlloiccodjnkcag.M

namespace Go.Proofs.Ytlloiccodjnkcag
open Go.ChangeShapes Go.WideShapes Go.ChangeAt Go.RowKit Go.Lib
set_option linter.unusedVariables false

/-- an array of eight uses of our own -/
def ArrU (w : World) (B g : Nat) (F : List M.Us) : Prop := F.length = 8 ∧ w.ownsRow B 63 1 (.slice (some ⟨g, 0, none⟩) 24 24) 24 (usCells F)
theorem ArrU.cells {w : World} {B g : Nat} {F : List M.Us} (h : ArrU w B g F) {i : Nat} (hi : i < 8) : w.cell? ⟨g, i * 3, none⟩ = some (.int .i64 (M.uAt F i).1) ∧ w.cell? ⟨g, i * 3 + 1, none⟩ = some (.int .i64 (M.uAt F i).2.1) ∧ w.cell? ⟨g, i * 3 + 2, none⟩ = some (.int .i64 (M.uAt F i).2.2) := by
  have hl := h.1
  obtain ⟨q0, q1, q2⟩ := usCells_at F i (by omega)
  exact ⟨(h.2.cellAt (i * 3) (by omega)).trans q0, (h.2.cellAt (i * 3 + 1) (by omega)).trans q1, (h.2.cellAt (i * 3 + 2) (by omega)).trans q2⟩
theorem ArrU.frozen {w : World} {B g : Nat} {F : List M.Us} (h : ArrU w B g F) (i : Nat) : w.frozen? ⟨g, i, none⟩ = false := h.2.frozenAt i
theorem usCells_setF : ∀ (ts : List M.Us) (i : Nat), i < ts.length → ∀ n : Int, (usCells ts).set (i * 3) (.int .i64 n) = usCells (ts.set i (n, (M.uAt ts i).2.1, (M.uAt ts i).2.2))
  | [], i, h, n => by simp at h
  | s :: t, 0, h, n => rfl
  | s :: t, i + 1, h, n => by
    have ih := usCells_setF t i (by simpa using h) n
    have e : M.uAt (s :: t) (i + 1) = M.uAt t i := by simp [M.uAt]
    rw [e, List.set_cons_succ, usCells_cons, usCells_cons, ← ih, show (i + 1) * 3 = (i * 3) + 1 + 1 + 1 by omega]
    simp only [List.set_cons_succ]
theorem ArrU.setF {w : World} {B g : Nat} {F : List M.Us} (h : ArrU w B g F) {i : Nat} (hi : i < 8) (n : Int) : ArrU (w.setCell ⟨g, i * 3, none⟩ (.int .i64 n)) B g (F.set i (n, (M.uAt F i).2.1, (M.uAt F i).2.2)) := by
  have hl := h.1
  refine ⟨by rw [List.length_set]; exact h.1, ?_⟩
  rw [← usCells_setF F i (by omega)]
  exact (h.2.stored (i * 3) _).1
theorem ArrU.setN {w : World} {B g : Nat} {F : List M.Us} (h : ArrU w B g F) {i : Nat} (hi : i < 8) (n : Int) : ArrU (w.setCell ⟨g, i * 3 + 1, none⟩ (.int .i64 n)) B g (F.set i ((M.uAt F i).1, n, (M.uAt F i).2.2)) := by
  have hl := h.1
  refine ⟨by rw [List.length_set]; exact h.1, ?_⟩
  rw [← usCells_setN F i (by omega)]
  exact (h.2.stored (i * 3 + 1) _).1
theorem ArrU.setG {w : World} {B g : Nat} {F : List M.Us} (h : ArrU w B g F) {i : Nat} (hi : i < 8) (n : Int) : ArrU (w.setCell ⟨g, i * 3 + 2, none⟩ (.int .i64 n)) B g (F.set i ((M.uAt F i).1, (M.uAt F i).2.1, n)) := by
  have hl := h.1
  refine ⟨by rw [List.length_set]; exact h.1, ?_⟩
  rw [← usCells_setG F i (by omega)]
  exact (h.2.stored (i * 3 + 2) _).1
theorem ArrU.up {w w' : World} {B g : Nat} {F : List M.Us} (h : ArrU w B g F) (hb : Below w.heap.size w w') : ArrU w' B g F := ⟨h.1, own_up h.2 hb⟩
theorem ArrU.lt {w : World} {B g : Nat} {F : List M.Us} (h : ArrU w B g F) : B ≤ g ∧ g < w.heap.size := h.2.lt g rfl
theorem ArrU.block {w : World} {B g : Nat} {F : List M.Us} (h : ArrU w B g F) : w.heap[g]? = some (.cells (usCells F).toArray 63 (0, 0)) := by
  have hl := h.1
  rcases h.2.2 with ⟨h0, _⟩ | ⟨g', cap, cur, e, h1, h2, h3, h4, h5, h6⟩
  · cases h0
  · cases e
    rw [h2]
    have : cur = (usCells F).toArray := by
      apply Array.toList_inj.1
      rw [← h6, List.take_of_length_le (by simp [h5])]
    rw [this]
theorem ArrU.new (w : World) (B : Nat) (hB : B ≤ w.heap.size) : ArrU (w.alloc (.cells (usCells (List.replicate 8 (0, 0, 0))).toArray 63)) B w.heap.size (List.replicate 8 (0, 0, 0)) :=
  ⟨rfl, World.ownsRow_lit (base := B) (e := 63) (size := 1) w (usCells (List.replicate 8 (0, 0, 0))).toArray 24 hB (by unfold maxLen; omega) rfl⟩
theorem infoCnt : (Try.prog.info? 63).map (·.size) = some 24 := by kernel_rfl
theorem M.uAt_set (F : List M.Us) {i : Nat} (hi : i < F.length) (u : M.Us) : M.uAt (F.set i u) i = u := by unfold M.uAt; simp [List.getD, hi]
theorem M.set_set (F : List M.Us) (i : Nat) (u v : M.Us) : (F.set i u).set i v = F.set i v := by simp

theorem wrap_in8 (x : Int) (h1 : -9223372036854775808 ≤ x) (h2 : x ≤ 9223372036854775807) : IntKind.i64.wrap x = x := by
  simp [IntKind.wrap, IntKind.bits, IntKind.signed]; omega

set_option maxHeartbeats 4000000 in
set_option maxRecDepth 10000 in
theorem wadd_any (B g f : Nat) (F : List M.Us) (x : Int) (w : World) (h : ArrU w B g F) (hf : f < 8) (n0 : 0 ≤ (M.uAt F f).2.1) (n1 : (M.uAt F f).2.1 ≤ 1000000) (g0 : 0 ≤ (M.uAt F f).2.2) (g1 : (M.uAt F f).2.2 ≤ 1000000000000) (x0 : 0 ≤ x) (x1 : x ≤ 1000000000000) :
    Calls Try.prog 22 #[.pointer (some ⟨g, 0, none⟩), .int .i64 f, .int .i64 x] w fun e w' => e = .returned (.tuple #[]) ∧ ArrU w' B g (F.set f ((f : Int), (M.uAt F f).2.1 + 1, (M.uAt F f).2.2 + x)) ∧ w.grownBy w' (some g) := by
  have hl : f < F.length := by have := h.1; omega
  have fz : (f : Int) < 8 := by omega
  have f0 : (0 : Int) ≤ (f : Int) := by omega
  obtain ⟨c0, c1, c2⟩ := h.cells hf
  have z0 := h.frozen (f * 3)
  obtain ⟨u, hu⟩ : ∃ u, u = M.uAt F f := ⟨_, rfl⟩
  rw [← hu] at c0 c1 c2 n0 n1 g0 g1 ⊢
  have A1 := h.setF hf (f : Int)
  rw [← hu] at A1
  have HU := hide hu
  have HL := hide hl
  obtain ⟨w1, hw1⟩ : ∃ W, W = w.setCell ⟨g, f * 3, none⟩ (.int .i64 (f : Int)) := ⟨_, rfl⟩
  rw [← hw1] at A1
  have G1 : Hid (w.grownBy w1 (some g)) := by rw [hw1]; exact grown_set
  obtain ⟨e0, e1, e2⟩ := A1.cells hf
  rw [M.uAt_set F hl] at e1 e2
  have d1 : w1.cell? ⟨g, f * 3 + 1, none⟩ = some (.int .i64 u.2.1) := e1
  have d2 : w1.cell? ⟨g, f * 3 + 2, none⟩ = some (.int .i64 u.2.2) := e2
  have z1 := A1.frozen (f * 3 + 1)
  have A2 : Hid (∀ n : Int, ArrU (w1.setCell ⟨g, f * 3 + 1, none⟩ (.int .i64 n)) B g (F.set f ((f : Int), n, u.2.2))) := fun n => by
    have := A1.setN hf n
    rw [M.uAt_set F hl, M.set_set] at this
    exact this
  have wp1 : IntKind.i64.wrap (u.2.1 + 1) = u.2.1 + 1 := wrap_in8 _ (by omega) (by omega)
  clear h hu A1 e0 e1 e2 c2
  go_enter Try.func22, Try.ntmps22
  go_upto_region 1 with fail
  rw [← hw1]
  clear hw1 c0 c1 z0
  go_region
  go_upto_region 2 with fail
  obtain ⟨w2, hw2⟩ : ∃ W, W = (w1.setCell ⟨g, f * 3 + 1, none⟩ (.int .i64 (u.2.1 + 1))).drew := ⟨_, rfl⟩
  rw [← hw2]
  have B2 : Hid (ArrU w2 B g (F.set f ((f : Int), u.2.1 + 1, u.2.2))) := by rw [hw2]; exact (A2.out _).up (Below.refl _ _).drew
  have G2 : Hid (w.grownBy w2 (some g)) := by rw [hw2]; exact grown_drew (grown_trans G1.out grown_set (.inl rfl))
  obtain ⟨e0, e1, e2⟩ := B2.out.cells hf
  rw [M.uAt_set F HL.out] at e2
  have y2 : w2.cell? ⟨g, f * 3 + 2, none⟩ = some (.int .i64 u.2.2) := e2
  have z2 := B2.out.frozen (f * 3 + 2)
  have wp2 : IntKind.i64.wrap (u.2.2 + x) = u.2.2 + x := wrap_in8 _ (by omega) (by omega)
  have A3 : Hid (ArrU (w2.setCell ⟨g, f * 3 + 2, none⟩ (.int .i64 (u.2.2 + x))) B g (F.set f ((f : Int), u.2.1 + 1, u.2.2 + x))) := by
    have := B2.out.setG hf (u.2.2 + x)
    rw [M.uAt_set F HL.out, M.set_set] at this
    exact this
  clear hw2 d1 d2 z1 e0 e1 e2 wp1
  go_region
  go_wp2
  go_end0
  exact ⟨rfl, A3.out.up (Below.refl _ _).drew, grown_drew (grown_trans G2.out grown_set (.inl rfl))⟩

end Go.Proofs.Ytlloiccodjnkcag

namespace Go.Proofs.Ytlloiccodjnkcag
open Go.ChangeShapes Go.WideShapes Go.ChangeAt Go.RowKit Go.Lib
set_option linter.unusedVariables false

theorem wpList_append_us {w : World} {ops : Array Oper} {rest : List Oper} {o : Oper} {act : Act} {Q : Exit → Act → World → Prop} (hgd : o.guard = none) (s x : Operand)
    (ho : o.op = .call { callee := .builtin .append, args := #[s, x], argTypes := #[39, 39] })
    (base : Nat) (v : Value) (n : Nat) (zs : List M.Us) (hs : act.eval s = v) (hown : w.ownsRow base 43 3 v n (usCells zs))
    (a : Option Addr) (ys : List M.Us) (m cap : Nat) (hm : ys.length = m) (hx : act.eval x = .slice a m cap) (hr : ys ≠ [] → ∃ ad, a = some ad ∧ ∀ j u, (usCells ys)[j]? = some u → w.cell? (ad.add j) = some u) (hnil : a = none → cap = 0) (hlen : n + ys.length ≤ 1000) (hbase : base ≤ w.heap.size)
    (h : ∀ va vc w', w'.ownsRow base 43 3 (.slice va (n + m) vc) (n + m) (usCells (zs ++ ys)) → Below base w w' → w.grownBy w' v.ownBlock → wpList Try.prog ops Q rest (act.put o.dst (.slice va (n + m) vc)) w') : wpList Try.prog ops Q (o :: rest) act w := by
  subst hm
  obtain ⟨i0, hi, hz0, hz1, hz2⟩ := info_parts infoU
  cases a with
  | none =>
    have e : ys = [] := by
      by_cases hy : ys = []
      · exact hy
      · obtain ⟨ad, e, _⟩ := hr hy; cases e
    subst e
    have hc := hnil rfl
    subst hc
    refine wpList_append_own_none hgd s x 39 ho base 43 i0 3 Try.underlying39 hi v n (usCells zs) hs hown hx ?_
    obtain ⟨va, vc, e⟩ : ∃ va vc, v = .slice va n vc := by
      rcases hown.2 with ⟨hv, h0⟩ | ⟨g, cap, cur, hv, _⟩
      · exact ⟨none, 0, by rw [hv, h0]⟩
      · exact ⟨some ⟨g, 0, none⟩, cap, hv⟩
    subst e
    have := h va vc w (by simpa using hown) (Below.refl _ _) ⟨rfl, rfl, rfl, Nat.le_refl _, fun _ _ _ => rfl⟩
    simpa using this
  | some ad =>
    have hnews : ∀ j u, (usCells ys)[j]? = some u → w.cell? (ad.add j) = some u := by
      by_cases hy : ys = []
      · subst hy; intro j u hj; simp [usCells] at hj
      · obtain ⟨ad', e, hc⟩ := hr hy
        cases e
        exact hc
    refine wpList_append_own _ hgd s x 39 ho base 43 i0 (.agg #[.int .i64 0, .int .i64 0, .int .i64 0]) 3 24 Try.underlying39 hi hz0 hz1 hz2 rfl (by decide) v n (usCells zs) hs hown ad ys.length cap (usCells ys) hx (usCells_len ys) hnews (usCells_one ys) (by unfold maxLen; omega) (by omega) hbase ?_
    intro v' w' hown' hgrow _
    obtain ⟨va, vc, e⟩ : ∃ va vc, v' = .slice va (n + ys.length) vc := by
      rcases hown'.2 with ⟨hv, h0⟩ | ⟨g, cap, cur, hv, _⟩
      · exact ⟨none, 0, by rw [hv, h0]⟩
      · exact ⟨some ⟨g, 0, none⟩, cap, hv⟩
    subst e
    exact h va vc w' (by rw [usCells_app]; exact hown') ((Below.refl _ w).grown hgrow hbase (fun k hk => (hown.lt k hk).1)) hgrow

end Go.Proofs.Ytlloiccodjnkcag
