/-
  Several texts as one: MathBa, MathBb, MathBc, BooP, BooQ, FirstBox.
-/
import Derived.Test.YtpblpfleiilehafGreatDoorRun7
import Derived.Test.YtpblpfleiilehafGreatDoorRun8
import Derived.Test.YtpblpfleiilehafGreatDoorRun6
namespace Go.Proofs.YtpblpfleiilehafGreatDoor.M
set_option linter.unusedVariables false

/-! ### values turned -/
def scB (f : Int → Int) : BT → BT
  | .lf v => .lf (f v)
  | .nd a c s l r => .nd a c s (scB f l) (scB f r)
theorem sc_size (f : Int → Int) : ∀ T : BT, (scB f T).size = T.size
  | .lf _ => rfl
  | .nd _ _ _ l r => by unfold scB BT.size; rw [sc_size f l, sc_size f r]
theorem sc_deep (f : Int → Int) : ∀ T : BT, (scB f T).deep = T.deep
  | .lf _ => rfl
  | .nd _ _ _ l r => by unfold scB BT.deep; rw [sc_deep f l, sc_deep f r]
theorem sc_ev (f : Int → Int) (x : List Int) : ∀ T : BT, evB (scB f T) x = f (evB T x)
  | .lf _ => rfl
  | .nd a c s l r => by
    have h1 := sc_ev f x l
    have h2 := sc_ev f x r
    show (if goes a c s x = true then evB (scB f l) x else evB (scB f r) x) = f (if goes a c s x = true then evB l x else evB r x)
    split
    · exact h1
    · exact h2
def inV (B : Int) : BT → Prop
  | .lf v => -B ≤ v ∧ v ≤ B
  | .nd _ _ _ l r => inV B l ∧ inV B r
theorem sc_ok {f : Int → Int} {B m : Int} (hf : ∀ v, -B ≤ v → v ≤ B → outI (f v) = false) : ∀ T : BT, okB m T → inV B T → okB m (scB f T)
  | .lf v, _, h => hf v h.1 h.2
  | .nd a c s l r, h, k => ⟨h.1, h.2.1, h.2.2.1, sc_ok hf l h.2.2.2.1 k.1, sc_ok hf r h.2.2.2.2 k.2⟩
theorem sc_in {f : Int → Int} {B C : Int} (hf : ∀ v, -B ≤ v → v ≤ B → -C ≤ f v ∧ f v ≤ C) : ∀ T : BT, inV B T → inV C (scB f T)
  | .lf v, h => hf v h.1 h.2
  | .nd a c s l r, k => ⟨sc_in hf l k.1, sc_in hf r k.2⟩
theorem in_ev {B : Int} (x : List Int) : ∀ T : BT, inV B T → -B ≤ evB T x ∧ evB T x ≤ B
  | .lf v, h => h
  | .nd a c s l r, h => by
    have h1 := in_ev x l h.1
    have h2 := in_ev x r h.2
    show -B ≤ (if goes a c s x = true then evB l x else evB r x) ∧ (if goes a c s x = true then evB l x else evB r x) ≤ B
    split
    · exact h1
    · exact h2
theorem grow_in {m : Nat} {least : Int} (h1 : 1 ≤ least) : ∀ (d : Nat) {l : List Sa}, GoodS l m → 0 < l.length → inV 1000 (growT m least d l)
  | 0, l, h, hl => mean_in h hl
  | d + 1, l, h, hl => by
    unfold growT
    split
    · rename_i q
      obtain ⟨s1, ⟨i, hi, e⟩, s3, s4, _⟩ := grow_sides h1 hl q
      have n1 : 0 < (partS l (spV l m least).2.2.1 (spV l m least).2.2.2.1 true).length := by unfold nB at s3; omega
      have n2 : 0 < (partS l (spV l m least).2.2.1 (spV l m least).2.2.2.1 false).length := by unfold nB at s4; omega
      exact ⟨grow_in h1 d (h.part _ _ _) n1, grow_in h1 d (h.part _ _ _) n2⟩
    · exact mean_in h hl
def scN (f : Int → Int) (n : Nd) : Nd := (nf n, nc n, nl n, nr n, ns n, f (nv n))
theorem sc_lay {f : Int → Int} (h0 : f 0 = 0) : ∀ (T : BT) (k : Nat), lay (scB f T) k = (lay T k).map (scN f)
  | .lf v, k => rfl
  | .nd a c s l r, k => by
    show (a, c, ((k + 1 : Nat) : Int), ((k + 1 + (scB f l).size : Nat) : Int), s, 0) :: (lay (scB f l) (k + 1) ++ lay (scB f r) (k + 1 + (scB f l).size)) = ((a, c, ((k + 1 : Nat) : Int), ((k + 1 + l.size : Nat) : Int), s, 0) :: (lay l (k + 1) ++ lay r (k + 1 + l.size))).map (scN f)
    rw [sc_size, sc_lay h0 l, sc_lay h0 r, List.map_cons, List.map_append]
    congr 1
    show _ = (a, c, ((k + 1 : Nat) : Int), ((k + 1 + l.size : Nat) : Int), s, f 0)
    rw [h0]

/-! ### rounds -/
/-- made fit to what a target may be -/
def fitT (x : Int) : Int := if 1000 < x then 1000 else if x < -1000 then -1000 else x
theorem fit_in (x : Int) : -1000 ≤ fitT x ∧ fitT x ≤ 1000 := by unfold fitT; split <;> (try split) <;> omega
/-- samples with what is left of them -/
def lesS : List Sa → List Int → List Sa
  | s :: l, x :: r => (s.1, fitT x) :: lesS l r
  | _, _ => []
theorem les_len : ∀ (l : List Sa) (r : List Int), r.length = l.length → (lesS l r).length = l.length
  | [], [], _ => rfl
  | s :: l, x :: r, h => by
    show (lesS l r).length + 1 = l.length + 1
    rw [les_len l r (by simpa using h)]
  | [], _ :: _, h => by simp at h
  | _ :: _, [], h => by simp at h
theorem les_mem : ∀ (l : List Sa) (r : List Int) (s : Sa), s ∈ lesS l r → -1000 ≤ s.2 ∧ s.2 ≤ 1000 ∧ ∃ u ∈ l, s.1 = u.1
  | [], r, s, h => by unfold lesS at h; cases h
  | u :: l, [], s, h => by unfold lesS at h; cases h
  | u :: l, x :: r, s, h => by
    rcases List.mem_cons.1 h with rfl | h
    · exact ⟨(fit_in x).1, (fit_in x).2, u, List.mem_cons_self .., rfl⟩
    · obtain ⟨h1, h2, v, hv, e⟩ := les_mem l r s h
      exact ⟨h1, h2, v, List.mem_cons_of_mem _ hv, e⟩
theorem les_good {l : List Sa} {m : Nat} {r : List Int} (h : GoodS l m) (hr : r.length = l.length) : GoodS (lesS l r) m :=
  ⟨by rw [les_len l r hr]; exact h.le, h.m8, fun s hs => by
    obtain ⟨h1, h2, u, hu, e⟩ := les_mem l r s hs
    obtain ⟨z1, z2, z3, z4⟩ := h.each u hu
    rw [e]
    exact ⟨z1, z2, ⟨h1, h2⟩, z4⟩⟩
/-- so many hundredths, rounded towards 0 -/
def shrV (share v : Int) : Int := (v * share).tdiv 100
theorem shr_zero (share : Int) : shrV share 0 = 0 := by unfold shrV; simp
theorem shr_in {share : Int} (h1 : 1 ≤ share) (h2 : share ≤ 100) (v : Int) (a : -1000 ≤ v) (b : v ≤ 1000) : -1000 ≤ shrV share v ∧ shrV share v ≤ 1000 := by
  unfold shrV
  have e1 : v * share ≤ 1000 * share := Int.mul_le_mul_of_nonneg_right b (by omega)
  have e2 : -1000 * share ≤ v * share := Int.mul_le_mul_of_nonneg_right a (by omega)
  have c1 : v * share ≤ 100000 := by omega
  have c2 : -100000 ≤ v * share := by omega
  generalize v * share = x at *
  by_cases hx : 0 ≤ x
  · rw [Int.tdiv_eq_ediv_of_nonneg hx]; omega
  · have : x.tdiv 100 = -((-x) / 100) := by
      rw [← Int.tdiv_eq_ediv_of_nonneg (a := -x) (by omega), Int.neg_tdiv, Int.neg_neg]
    rw [this]; omega
def lessL (T : BT) : List Sa → List Int → List Int
  | s :: l, x :: r => (x - evB T s.1) :: lessL T l r
  | _, _ => []
theorem less_len (T : BT) : ∀ (l : List Sa) (r : List Int), r.length = l.length → (lessL T l r).length = l.length
  | [], [], _ => rfl
  | s :: l, x :: r, h => by
    show (lessL T l r).length + 1 = l.length + 1
    rw [less_len T l r (by simpa using h)]
  | [], _ :: _, h => by simp at h
  | _ :: _, [], h => by simp at h
theorem less_at (T : BT) : ∀ (l : List Sa) (r : List Int), r.length = l.length → ∀ i, i < l.length → (lessL T l r).getD i 0 = r.getD i 0 - evB T (sAt l i).1
  | [], [], _, i, hi => by simp at hi
  | s :: l, x :: r, h, 0, hi => rfl
  | s :: l, x :: r, h, i + 1, hi => less_at T l r (by simpa using h) i (by simpa using hi)
  | [], _ :: _, h, i, hi => by simp at h
  | _ :: _, [], h, i, hi => by simp at h
def sqs : List Int → Int
  | [] => 0
  | x :: r => x * x + sqs r
/-- trees so far, what is left, whether it has ended -/
abbrev BoS := List BT × List Int × Bool
def boT (m dp : Nat) (share : Int) (l : List Sa) (r : List Int) : BT := scB (shrV share) (growT m 1 dp (lesS l r))
def boN (m dp : Nat) (share : Int) (l : List Sa) (st : BoS) : BoS :=
  if st.2.2 = true then st else if sqs st.2.1 ≤ sqs (lessL (boT m dp share l st.2.1) l st.2.1) then (st.1, st.2.1, true) else (st.1 ++ [boT m dp share l st.2.1], lessL (boT m dp share l st.2.1) l st.2.1, false)
def bo0 (l : List Sa) : BoS := ([.lf (meanS l)], l.map (fun s => s.2 - meanS l), false)
def boR (m dp : Nat) (share : Int) (l : List Sa) : Nat → BoS
  | 0 => bo0 l
  | k + 1 => boN m dp share l (boR m dp share l k)
/-- what all trees so far tell together -/
def allB : List BT → List Int → Int
  | [], _ => 0
  | T :: L, x => evB T x + allB L x
theorem allB_app : ∀ (A B : List BT) (x : List Int), allB (A ++ B) x = allB A x + allB B x
  | [], B, x => by show allB B x = 0 + allB B x; omega
  | T :: A, B, x => by
    show evB T x + allB (A ++ B) x = evB T x + allB A x + allB B x
    rw [allB_app A B x]; omega
structure BoI (m dp : Nat) (l : List Sa) (k : Nat) (st : BoS) : Prop where
  t0 : 0 < st.1.length
  tk : st.1.length ≤ k + 1
  each : ∀ T ∈ st.1, okB (m : Int) T ∧ inV 1000 T ∧ T.deep ≤ dp ∧ T.size + 1 ≤ 2 ^ (dp + 1)
  len : st.2.1.length = l.length
  rest : ∀ i, i < l.length → st.2.1.getD i 0 = (sAt l i).2 - allB st.1 (sAt l i).1
theorem pow_one (dp : Nat) : 2 ≤ 2 ^ (dp + 1) := by
  have := Nat.one_le_two_pow (n := dp)
  rw [Nat.pow_succ]; omega
theorem bo_first {m dp : Nat} {l : List Sa} (h : GoodS l m) (hl : 0 < l.length) : BoI m dp l 0 (bo0 l) := by
  have mi := mean_in h hl
  refine ⟨Nat.one_pos, Nat.le_refl _, fun T hT => ?_, by unfold bo0; simp, fun i hi => ?_⟩
  · have : T = .lf (meanS l) := by unfold bo0 at hT; simpa using hT
    subst this
    exact ⟨out_in (by omega) (by omega), mi, Nat.zero_le _, pow_one dp⟩
  · show (l.map (fun s => s.2 - meanS l)).getD i 0 = (sAt l i).2 - (meanS l + 0)
    unfold sAt
    rw [getD_at (by simpa using hi), getD_at hi, List.getElem_map]; omega
theorem bo_next {m dp k : Nat} {share : Int} {l : List Sa} {st : BoS} (h : GoodS l m) (hl : 0 < l.length) (s1 : 1 ≤ share) (s2 : share ≤ 100) (I : BoI m dp l k st) : BoI m dp l (k + 1) (boN m dp share l st) := by
  unfold boN
  have up : BoI m dp l (k + 1) st := ⟨I.t0, by have := I.tk; omega, I.each, I.len, I.rest⟩
  split
  · exact up
  · split
    · exact ⟨up.t0, up.tk, up.each, up.len, up.rest⟩
    · have G := les_good h I.len
      have ll : 0 < (lesS l st.2.1).length := by rw [les_len l _ I.len]; exact hl
      have gi := grow_in (m := m) (least := 1) (Int.le_refl _) dp G ll
      have go := grow_ok (m := m) (least := 1) (Int.le_refl _) dp G ll
      have gd := grow_deep m 1 dp (lesS l st.2.1)
      have bi : inV 1000 (boT m dp share l st.2.1) := sc_in (fun v a b => shr_in s1 s2 v a b) _ gi
      refine ⟨by simp, by simp; have := I.tk; omega, fun T hT => ?_, less_len _ l _ I.len, fun i hi => ?_⟩
      · rcases List.mem_append.1 hT with q | q
        · exact I.each T q
        · have : T = boT m dp share l st.2.1 := by simpa using q
          subst this
          refine ⟨sc_ok (fun v a b => ?_) _ go gi, bi, ?_, ?_⟩
          · have := shr_in s1 s2 v a b
            exact out_in (by omega) (by omega)
          · unfold boT; rw [sc_deep]; exact gd.1
          · unfold boT; rw [sc_size]; exact gd.2
      · rw [less_at _ l _ I.len i hi, I.rest i hi, allB_app]
        show _ = _ - (allB st.1 _ + (evB (boT m dp share l st.2.1) _ + 0))
        omega
theorem bo_all {m dp : Nat} {share : Int} {l : List Sa} (h : GoodS l m) (hl : 0 < l.length) (s1 : 1 ≤ share) (s2 : share ≤ 100) : ∀ k, BoI m dp l k (boR m dp share l k)
  | 0 => bo_first h hl
  | k + 1 => bo_next h hl s1 s2 (bo_all h hl s1 s2 k)
/-- a round more: one tree more, and less is left; or all stays -/
theorem bo_step (m dp : Nat) (share : Int) (l : List Sa) (k : Nat) : ((boR m dp share l (k + 1)).1 = (boR m dp share l k).1 ∧ (boR m dp share l (k + 1)).2.1 = (boR m dp share l k).2.1) ∨ (∃ T, (boR m dp share l (k + 1)).1 = (boR m dp share l k).1 ++ [T]) ∧ sqs (boR m dp share l (k + 1)).2.1 < sqs (boR m dp share l k).2.1 := by
  show ((boN m dp share l (boR m dp share l k)).1 = _ ∧ (boN m dp share l (boR m dp share l k)).2.1 = _) ∨ (∃ T, (boN m dp share l (boR m dp share l k)).1 = _) ∧ sqs (boN m dp share l (boR m dp share l k)).2.1 < _
  unfold boN
  split
  · exact .inl ⟨rfl, rfl⟩
  · split
    · exact .inl ⟨rfl, rfl⟩
    · rename_i q
      exact .inr ⟨⟨_, rfl⟩, Int.not_le.1 q⟩

end Go.Proofs.YtpblpfleiilehafGreatDoor.M

namespace Go.Proofs.YtpblpfleiilehafGreatDoor.M
set_option linter.unusedVariables false

def tmN (n : Nat) (v : Int) : Int := v * (n : Int)
theorem tm_zero (n : Nat) : tmN n 0 = 0 := by unfold tmN; simp
theorem tm_in {n : Nat} (hn : n ≤ 9) (v : Int) (a : -1000 ≤ v) (b : v ≤ 1000) : -9000 ≤ tmN n v ∧ tmN n v ≤ 9000 := by
  unfold tmN
  have e1 : v * (n : Int) ≤ 1000 * (n : Int) := Int.mul_le_mul_of_nonneg_right b (Int.natCast_nonneg n)
  have e2 : -1000 * (n : Int) ≤ v * (n : Int) := Int.mul_le_mul_of_nonneg_right a (Int.natCast_nonneg n)
  omega
/-- a tree of the grove -/
def boL (n : Nat) (T : BT) : List Nd := lay (scB (tmN n) T) 0
def boG (m : Int) (L : List BT) : Gv := (m, 2, List.replicate L.length 1, L.map (boL L.length))
structure BoL (m : Int) (L : List BT) : Prop where
  m0 : 0 ≤ m
  m8 : m ≤ 8
  t0 : 0 < L.length
  t9 : L.length ≤ 9
  each : ∀ T ∈ L, okB m T ∧ inV 1000 T ∧ T.deep ≤ 4 ∧ T.size ≤ 31
theorem boL_tree {m : Int} {L : List BT} (h : BoL m L) {T : BT} (hT : T ∈ L) : (treeF (boL L.length T) m).2 = 0 ∧ okB m (scB (tmN L.length) T) := by
  obtain ⟨h1, h2, h3, h4⟩ := h.each T hT
  have ok : okB m (scB (tmN L.length) T) := sc_ok (fun v a b => by have := tm_in h.t9 v a b; exact out_in (by omega) (by omega)) T h1 h2
  exact ⟨lay_tree ok h.m0 h.m8 (by rw [sc_size]; omega) (by rw [sc_deep]; omega), ok⟩
theorem boG_good {m : Int} {L : List BT} (h : BoL m L) : Good (boG m L) := by
  refine ⟨h.m0, h.m8, by show (1 : Int) ≤ 2; decide, by show (2 : Int) ≤ 3; decide, ?_, ?_, ?_, ?_, ?_⟩
  · show 0 < (L.map _).length; rw [List.length_map]; exact h.t0
  · show (L.map _).length ≤ 12; rw [List.length_map]; have := h.t9; omega
  · show (List.replicate L.length (1 : Int)).length = (L.map _).length; rw [List.length_map, List.length_replicate]
  · intro w hw
    have : w = 1 := (List.mem_replicate.1 (show w ∈ List.replicate L.length (1 : Int) from hw)).2
    omega
  · intro t ht
    obtain ⟨T, hT, rfl⟩ := List.mem_map.1 (show t ∈ L.map (boL L.length) from ht)
    exact (boL_tree h hT).1
theorem sumK_ones {l : List Int} {n : Nat} : ∀ k, k ≤ l.length → k ≤ n → sumK l (List.replicate n 1) k = (l.take k).sum
  | 0, _, _ => by simp [sumK]
  | k + 1, h, hn => by
    have ih := sumK_ones (l := l) (n := n) k (by omega) (by omega)
    unfold sumK
    rw [ih, getD_at (show k < (List.replicate n (1 : Int)).length by rw [List.length_replicate]; omega), List.getElem_replicate, getD_at (by omega), List.take_succ_eq_append_getElem (by omega), List.sum_append]
    simp
theorem allK_ones {n : Nat} : ∀ k, k ≤ n → allK (List.replicate n 1) k = (k : Nat)
  | 0, _ => rfl
  | k + 1, hn => by
    have ih := allK_ones (n := n) k (by omega)
    unfold allK
    rw [ih, getD_at (show k < (List.replicate n (1 : Int)).length by rw [List.length_replicate]; omega), List.getElem_replicate]
    omega
theorem sum_tm (n : Nat) (x : List Int) : ∀ L : List BT, (L.map (fun T => tmN n (evB T x))).sum = allB L x * (n : Int)
  | [] => by show (0 : Int) = 0 * _; simp
  | T :: L => by
    have ih := sum_tm n x L
    show tmN n (evB T x) + (L.map _).sum = (evB T x + allB L x) * (n : Int)
    rw [ih, Int.add_mul]; rfl
/-- the grove tells of a row what its trees tell together -/
theorem boG_eval {m : Int} {L : List BT} (h : BoL m L) {x : List Int} (hx : rowF x = 0) (hm : (x.length : Int) = m) : evalG (boG m L) x = allB L x := by
  have hs : standF (boG m L) x = 0 := stand_of (boG_good h) hx hm
  have he : eachL (boG m L) x = L.map (fun T => tmN L.length (evB T x)) := by
    show (L.map (boL L.length)).map (fun t => evalV t x) = _
    rw [List.map_map]
    refine List.map_congr_left (fun T hT => ?_)
    obtain ⟨t1, t2⟩ := boL_tree h hT
    rw [← hm] at t1 t2
    have := (lay_eval t2 t1 hx).2
    show evalV (lay (scB (tmN L.length) T) 0) x = _
    rw [this, sc_ev]
  unfold evalG
  rw [if_pos hs, he]
  show together 2 (List.replicate L.length 1) _ = _
  unfold together
  rw [if_neg (by decide), if_pos rfl, List.length_map, sumK_ones _ (by rw [List.length_map]; exact Nat.le_refl _) (Nat.le_refl _), allK_ones _ (Nat.le_refl _), List.take_of_length_le (by rw [List.length_map]; exact Nat.le_refl _), sum_tm]
  have := h.t0
  exact Int.mul_ediv_cancel _ (by omega)

/-! ### numbers that have an end -/
def sqF (r : List Int) : Int := totalI (r.map fun x => mulI x x)
theorem mulI_sq {x : Int} (h1 : -1000000 ≤ x) (h2 : x ≤ 1000000) : mulI x x = x * x ∧ 0 ≤ x * x ∧ x * x ≤ 1000000000000 := by
  have e := Int.natAbs_mul_self' x
  have b : x.natAbs ≤ 1000000 := by omega
  have := Nat.mul_le_mul b b
  have e2 : ((x.natAbs * x.natAbs : Nat) : Int) = x * x := by simp
  have q : 0 ≤ x * x ∧ x * x ≤ 1000000000000 := by omega
  refine ⟨?_, q⟩
  unfold mulI
  rw [show fitI x = x from fit_id ⟨by omega, by omega⟩]
  exact fit_id ⟨by omega, by omega⟩
theorem sq_from : ∀ (r : List Int) (s : Int), (∀ x ∈ r, -100000 ≤ x ∧ x ≤ 100000) → 0 ≤ s → s + 10000000000 * (r.length : Int) ≤ 1099511627776 → (r.map fun x => mulI x x).foldl addI s = s + sqs r ∧ 0 ≤ sqs r
  | [], s, _, _, _ => ⟨by show s = s + 0; omega, Int.le_refl _⟩
  | x :: r, s, h, h0, hb => by
    obtain ⟨x1, x2⟩ := h x (List.mem_cons_self ..)
    obtain ⟨m1, m2, m3⟩ := mulI_sq (x := x) (by omega) (by omega)
    have m4 : x * x ≤ 10000000000 := by
      have e := Int.natAbs_mul_self' x
      have b : x.natAbs ≤ 100000 := by omega
      have := Nat.mul_le_mul b b
      have e2 : ((x.natAbs * x.natAbs : Nat) : Int) = x * x := by simp
      omega
    rw [List.length_cons] at hb
    have hp : (0 : Int) ≤ (r.length : Int) := Int.natCast_nonneg _
    have hb' : s + 10000000000 * (r.length : Int) + 10000000000 ≤ 1099511627776 := by
      have : (((r.length + 1 : Nat) : Int)) = (r.length : Int) + 1 := by simp
      omega
    have a1 : addI s (mulI x x) = s + x * x := by
      rw [m1]
      unfold addI
      rw [show fitI s = s from fit_id ⟨by omega, by omega⟩, show fitI (x * x) = x * x from fit_id ⟨by omega, by omega⟩]
      exact fit_id ⟨by omega, by omega⟩
    obtain ⟨i1, i2⟩ := sq_from r (s + x * x) (fun y hy => h y (List.mem_cons_of_mem _ hy)) (by omega) (by omega)
    show ((r.map fun x => mulI x x).foldl addI (addI s (mulI x x))) = s + (x * x + sqs r) ∧ 0 ≤ x * x + sqs r
    rw [a1, i1]
    omega
theorem sqF_in {r : List Int} (h : ∀ x ∈ r, -100000 ≤ x ∧ x ≤ 100000) (hl : r.length ≤ 60) : sqF r = sqs r := by
  have := (sq_from r 0 h (Int.le_refl _) (by omega)).1
  unfold sqF totalI
  rw [this]; omega

/-! ### behind a grove -/
def restF (g : Gv) (l : List Sa) : Int := if groveF g ≠ 0 then groveF g else (samF l (gf g)).2
def restV (g : Gv) (l : List Sa) : List Int := if restF g l = 0 then l.map (fun s => s.2 - evalG g s.1) else []
def wrgG (g : Gv) (l : List Sa) : Int := if restF g l = 0 then sqF (restV g l) else 0
def booF (l : List Sa) (m r d s : Int) : Int := if (samF l m).2 ≠ 0 then (samF l m).2 else if r < 0 ∨ 8 < r ∨ d < 1 ∨ 4 < d ∨ s < 1 ∨ 100 < s then 1 else 0
def booS (l : List Sa) (m r d s : Int) : BoS := boR m.toNat d.toNat s l r.toNat
def booG (l : List Sa) (m r d s : Int) : Gv := if booF l m r d s = 0 then boG m (booS l m r d s).1 else (0, 0, [], [])
theorem boo_ok {l : List Sa} {m r d s : Int} (h : booF l m r d s = 0) : (samF l m).2 = 0 ∧ 0 ≤ r ∧ r ≤ 8 ∧ 1 ≤ d ∧ d ≤ 4 ∧ 1 ≤ s ∧ s ≤ 100 := by
  unfold booF at h
  by_cases c : (samF l m).2 = 0
  · rw [if_neg (by simp [c])] at h
    by_cases k : r < 0 ∨ 8 < r ∨ d < 1 ∨ 4 < d ∨ s < 1 ∨ 100 < s
    · rw [if_pos k] at h; cases h
    · exact ⟨c, by omega, by omega, by omega, by omega, by omega, by omega⟩
  · rw [if_pos c] at h; exact absurd h c
theorem boo_inv {l : List Sa} {m r d s : Int} (h : booF l m r d s = 0) : BoI m.toNat d.toNat l r.toNat (booS l m r d s) ∧ BoL m (booS l m r d s).1 := by
  obtain ⟨h1, r0, r8, d1, d4, s1, s2⟩ := boo_ok h
  obtain ⟨G, hl, hm, _⟩ := sam_ok h1
  have I := bo_all (m := m.toNat) (dp := d.toNat) (share := s) G hl s1 s2 r.toNat
  refine ⟨I, ⟨by omega, by have := G.m8; omega, I.t0, by have := I.tk; unfold booS; omega, fun T hT => ?_⟩⟩
  obtain ⟨e1, e2, e3, e4⟩ := I.each T hT
  rw [hm] at e1
  have d4' : d.toNat ≤ 4 := by omega
  have p : 2 ^ (d.toNat + 1) ≤ 2 ^ (4 + 1) := Nat.pow_le_pow_right (by omega) (by omega)
  exact ⟨e1, e2, by omega, by omega⟩
theorem allB_in {x : List Int} : ∀ {L : List BT}, (∀ T ∈ L, inV 1000 T) → -1000 * (L.length : Int) ≤ allB L x ∧ allB L x ≤ 1000 * (L.length : Int)
  | [], _ => by show _ ≤ (0 : Int) ∧ (0 : Int) ≤ _; simp
  | T :: L, h => by
    have ih := allB_in (x := x) (L := L) fun U hU => h U (List.mem_cons_of_mem _ hU)
    have := in_ev x T (h T (List.mem_cons_self ..))
    show _ ≤ evB T x + allB L x ∧ evB T x + allB L x ≤ _
    rw [List.length_cons]
    omega
/-- what is left behind the grove is what was left behind its trees -/
theorem boo_rest {l : List Sa} {m r d s : Int} (h : booF l m r d s = 0) : restF (booG l m r d s) l = 0 ∧ restV (booG l m r d s) l = (booS l m r d s).2.1 ∧ wrgG (booG l m r d s) l = sqs (booS l m r d s).2.1 ∧ groveF (booG l m r d s) = 0 := by
  obtain ⟨h1, r0, r8, d1, d4, s1, s2⟩ := boo_ok h
  obtain ⟨G, hl, hm, _⟩ := sam_ok h1
  obtain ⟨I, B⟩ := boo_inv h
  have eg : booG l m r d s = boG m (booS l m r d s).1 := by unfold booG; rw [if_pos h]
  have gz : groveF (booG l m r d s) = 0 := by rw [eg]; exact (good_iff _).2 (boG_good B)
  have f0 : restF (booG l m r d s) l = 0 := by
    unfold restF
    rw [if_neg (by simp [gz]), eg]
    exact h1
  have rv : restV (booG l m r d s) l = (booS l m r d s).2.1 := by
    unfold restV
    rw [if_pos f0]
    refine List.ext_getElem (by rw [List.length_map]; exact I.len.symm) fun i q1 q2 => ?_
    have hi : i < l.length := by rw [List.length_map] at q1; exact q1
    have e := I.rest i hi
    rw [getD_at q2] at e
    have es : sAt l i = l[i] := by unfold sAt; rw [getD_at hi]
    rw [es] at e
    obtain ⟨z1, z2, z3, z4⟩ := G.each l[i] (List.getElem_mem hi)
    have ev := boG_eval B z1 (by omega)
    rw [← eg] at ev
    rw [List.getElem_map, e, ev]
  refine ⟨f0, rv, ?_, gz⟩
  unfold wrgG
  rw [if_pos f0, rv]
  refine sqF_in (fun x hx => ?_) (by rw [I.len]; exact G.le)
  obtain ⟨i, hi, rfl⟩ := List.getElem_of_mem hx
  have hi' : i < l.length := by rw [← I.len]; exact hi
  have e := I.rest i hi'
  rw [getD_at hi] at e
  have es : sAt l i = l[i] := by unfold sAt; rw [getD_at hi']
  rw [es] at e
  have z3 := (G.each l[i] (List.getElem_mem hi')).2.2.1
  have q := allB_in (x := l[i].1) (L := (booS l m r d s).1) fun T hT => (B.each T hT).2.1
  have t9 := B.t9
  omega

end Go.Proofs.YtpblpfleiilehafGreatDoor.M

namespace Go.Proofs.YtpblpfleiilehafGreatDoor.M
set_option linter.unusedVariables false

theorem boo_gt {l : List Sa} {m r d s : Int} (h : booF l m r d s = 0) : gt (booG l m r d s) = (booS l m r d s).1.map (boL (booS l m r d s).1.length) := by
  unfold booG; rw [if_pos h]; rfl
theorem boL_len (n : Nat) (T : BT) : (boL n T).length = T.size := by unfold boL; rw [lay_len, sc_size]
theorem boo_less {l : List Sa} {m r d s : Int} (h : booF l m r d s = 0) (h1 : 1 ≤ r) : booF l m (r - 1) d s = 0 ∧ ((gt (booG l m r d s)).length : Int) ≤ r + 1 ∧ (gt (booG l m (r - 1) d s)).length ≤ (gt (booG l m r d s)).length ∧
    (∀ i, i < (gt (booG l m (r - 1) d s)).length → ((gt (booG l m r d s)).getD i []).length = ((gt (booG l m (r - 1) d s)).getD i []).length) ∧
    ((gt (booG l m r d s)).length = (gt (booG l m (r - 1) d s)).length → wrgG (booG l m r d s) l = wrgG (booG l m (r - 1) d s) l) ∧ ((gt (booG l m r d s)).length ≠ (gt (booG l m (r - 1) d s)).length → wrgG (booG l m r d s) l < wrgG (booG l m (r - 1) d s) l) := by
  obtain ⟨a1, r0, r8, d1, d4, s1, s2⟩ := boo_ok h
  have h' : booF l m (r - 1) d s = 0 := by unfold booF; rw [if_neg (by simp [a1]), if_neg (by omega)]
  obtain ⟨k, hk⟩ : ∃ k : Nat, r = ((k + 1 : Nat) : Int) := ⟨(r - 1).toNat, by omega⟩
  have e1 : booS l m r d s = boR m.toNat d.toNat s l (k + 1) := by unfold booS; rw [hk, Int.toNat_natCast]
  have e2 : booS l m (r - 1) d s = boR m.toNat d.toNat s l k := by unfold booS; rw [show (r - 1).toNat = k by omega]
  have tk := (boo_inv h).1.tk
  have w1 := (boo_rest h).2.2.1
  have w2 := (boo_rest h').2.2.1
  rw [w1, w2, boo_gt h, boo_gt h', List.length_map, List.length_map]
  rcases bo_step m.toNat d.toNat s l k with ⟨q1, q2⟩ | ⟨⟨T, q1⟩, q2⟩
  · rw [← e1, ← e2] at q1 q2
    rw [q1, q2]
    exact ⟨h', by rw [q1] at tk; omega, Nat.le_refl _, fun i hi => rfl, fun _ => rfl, fun q => absurd rfl q⟩
  · rw [← e1, ← e2] at q1 q2
    have ln : (booS l m r d s).1.length = (booS l m (r - 1) d s).1.length + 1 := by rw [q1]; simp
    refine ⟨h', by omega, by omega, fun i hi => ?_, fun q => by omega, fun _ => q2⟩
    have g1 : i < (booS l m r d s).1.length := by omega
    rw [getD_at (by rw [List.length_map]; exact g1), getD_at (by rw [List.length_map]; exact hi), List.getElem_map, List.getElem_map, boL_len, boL_len]
    congr 1
    have : (booS l m r d s).1[i] = ((booS l m (r - 1) d s).1 ++ [T])[i]'(by rw [List.length_append]; simp; omega) := by congr 1
    rw [this, List.getElem_append_left hi]
theorem sum_less (v : Int) : ∀ l : List Sa, (l.map fun s => s.2 - v).sum = sumT l - v * (l.length : Nat)
  | [] => by simp [sumT]
  | s :: l => by
    have ih := sum_less v l
    rw [List.map_cons, List.sum_cons, ih, List.length_cons]
    show s.2 - v + (sumT l - v * (l.length : Nat)) = s.2 + sumT l - v * ((l.length + 1 : Nat) : Int)
    have : ((l.length + 1 : Nat) : Int) = (l.length : Int) + 1 := by simp
    rw [this, Int.mul_add]
    omega
/-- before the first round -/
theorem boo_first {l : List Sa} {m d s : Int} (h : booF l m 0 d s = 0) : (gt (booG l m 0 d s)).length = 1 ∧ ((gt (booG l m 0 d s)).getD 0 []).length = 1 ∧ restF (booG l m 0 d s) l = 0 ∧ (restV (booG l m 0 d s) l).length = l.length ∧ 0 ≤ (restV (booG l m 0 d s) l).sum ∧ (restV (booG l m 0 d s) l).sum < (l.length : Nat) ∧ ∀ x ∈ restV (booG l m 0 d s) l, -2000 ≤ x ∧ x ≤ 2000 := by
  obtain ⟨a1, r0, r8, d1, d4, s1, s2⟩ := boo_ok h
  obtain ⟨G, hl, hm, _⟩ := sam_ok a1
  obtain ⟨f0, rv, _, _⟩ := boo_rest h
  have e0 : booS l m 0 d s = bo0 l := rfl
  have mi := mean_in G hl
  rw [rv, e0, boo_gt h, e0]
  have hp : (0 : Int) < (l.length : Nat) := by omega
  have ed := Int.mul_ediv_add_emod (sumT l) (l.length : Nat)
  have e1 := Int.emod_nonneg (sumT l) (show ((l.length : Nat) : Int) ≠ 0 by omega)
  have e2 := Int.emod_lt_of_pos (sumT l) hp
  have sm : (bo0 l).2.1.sum = sumT l - meanS l * (l.length : Nat) := sum_less (meanS l) l
  have me : meanS l * ((l.length : Nat) : Int) = (l.length : Nat) * (sumT l / (l.length : Nat)) := by unfold meanS; rw [Int.mul_comm]
  refine ⟨rfl, rfl, f0, ?_, by rw [sm, me]; omega, by rw [sm, me]; omega, fun x hx => ?_⟩
  · show (l.map _).length = _; rw [List.length_map]
  · obtain ⟨u, hu, rfl⟩ := List.mem_map.1 (show x ∈ l.map (fun s => s.2 - meanS l) from hx)
    have := (G.each u hu).2.2.1
    omega
theorem boo_four : booF [([1], 0), ([2], 0), ([3], 8), ([4], 8)] 1 1 1 100 = 0 ∧ (gt (booG [([1], 0), ([2], 0), ([3], 8), ([4], 8)] 1 1 1 100)).length = 2 ∧ sqs (booS [([1], 0), ([2], 0), ([3], 8), ([4], 8)] 1 1 1 100).2.1 = 0 := by decide +kernel

end Go.Proofs.YtpblpfleiilehafGreatDoor.M

namespace Go.Proofs.YtpblpfleiilehafGreatDoor
open Go.ChangeShapes Go.WideShapes Go.ChangeAt Go.RowKit Go.Lib
set_option linter.unusedVariables false

def BooFitGives : Prop := ∀ (a : Option Addr) (xs : List Sx) (ca : Nat) (m r d s : Int) (W : World), RdL W a xs → Calls Tryz.prog 17 #[.slice a xs.length ca, .int .i64 m, .int .i64 r, .int .i64 d, .int .i64 s] W fun e w' => ∃ J : Gr, e = .returned (.tuple #[J.v, errV (M.booF (sms xs) m r d s)]) ∧ J.m = M.booG (sms xs) m r d s ∧ RdG w' J ∧ Below W.heap.size W w'
def BooRestGives : Prop := ∀ (G : Gr) (a : Option Addr) (xs : List Sx) (ca : Nat) (W : World), RdG W G → RdL W a xs → Calls Tryz.prog 23 #[G.v, .slice a xs.length ca] W fun e w' => ∃ pa pc, e = .returned (.tuple #[.slice pa (M.restV G.m (sms xs)).length pc, errV (M.restF G.m (sms xs))]) ∧ Rd w' pa (M.restV G.m (sms xs)) ∧ Below W.heap.size W w'

end Go.Proofs.YtpblpfleiilehafGreatDoor

namespace Go.Proofs.YtpblpfleiilehafGreatDoor
open Go.ChangeShapes Go.WideShapes Go.ChangeAt Go.RowKit Go.Lib
set_option linter.unusedVariables false

def BooWrongGives : Prop := ∀ (G : Gr) (a : Option Addr) (xs : List Sx) (ca : Nat) (W : World), RdG W G → RdL W a xs → Calls Tryz.prog 24 #[G.v, .slice a xs.length ca] W fun e w' => e = .returned (.tuple #[.int .i64 (M.wrgG G.m (sms xs)), errV (M.restF G.m (sms xs))]) ∧ Below W.heap.size W w'

end Go.Proofs.YtpblpfleiilehafGreatDoor

namespace Go.Proofs.YtpblpfleiilehafGreatDoor
open Go.ChangeShapes Go.WideShapes Go.ChangeAt Go.RowKit Go.Lib
set_option linter.unusedVariables false

abbrev grB (G : Gr) : Obj := .cells #[.int .i64 G.f, .int .i64 G.w, .slice G.wa G.ws.length G.wc, .slice G.ta G.ks.length G.tc] 45
/-- a grove in a block of its own -/
theorem gr_box (W : World) (G : Gr) : Below W.heap.size W (W.alloc (grB G)) ∧ (W.alloc (grB G)).cell? ⟨W.heap.size, 0, none⟩ = some (.int .i64 G.f) ∧ (W.alloc (grB G)).cell? ⟨W.heap.size, 1, none⟩ = some (.int .i64 G.w) ∧ (W.alloc (grB G)).cell? ⟨W.heap.size, 2, none⟩ = some (.slice G.wa G.ws.length G.wc) ∧ (W.alloc (grB G)).cell? ⟨W.heap.size, 3, none⟩ = some (.slice G.ta G.ks.length G.tc) ∧ W.heap.size < (W.alloc (grB G)).heap.size :=
  ⟨(Below.refl W.heap.size W).alloc (Nat.le_refl _) _, World.cell?_alloc_at _ _ _ 0 rfl, World.cell?_alloc_at _ _ _ 1 rfl, World.cell?_alloc_at _ _ _ 2 rfl, World.cell?_alloc_at _ _ _ 3 rfl, by simp⟩

end Go.Proofs.YtpblpfleiilehafGreatDoor
