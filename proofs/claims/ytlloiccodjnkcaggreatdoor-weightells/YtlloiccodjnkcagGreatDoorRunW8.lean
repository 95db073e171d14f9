/-
  Several texts as one: MathBa, MathBb, MathWf, MathSw, MathWh, MathWi, MathSh, RefCell, RefNone.
-/
import Derived.Test.YtlloiccodjnkcagGreatDoorRunW7
import Derived.Test.YtlloiccodjnkcagGreatDoorRunW5
import Derived.Test.YtlloiccodjnkcagGreatDoorRunW4
import Derived.Test.YtlloiccodjnkcagGreatDoorRunW6
import Derived.Test.YtlloiccodjnkcagGreatDoorRunW1
import Derived.Test.YtlloiccodjnkcagGreatDoorRunW2
import Derived.BigQuiet
import Derived.Deep.QuietTactic
namespace Go.Proofs.YtlloiccodjnkcagGreatDoor.M
set_option linter.unusedVariables false

/-! ### values turned -/
def scB (f : Int → Int) : BT → BT
  | .lf v => .lf (f v)
  | .nd a c s l r => .nd a c s (scB f l) (scB f r)
theorem sc_size (f : Int → Int) : ∀ T : BT, (scB f T).size = T.size
  | .lf _ => rfl
  | .nd _ _ _ l r => by unfold scB BT.size; rw [sc_size f l, sc_size f r]
theorem sc_deep (f : Int → Int) : ∀ T : BT, (scB f T).deep = T.deep
  | .lf _ => rfl
  | .nd _ _ _ l r => by unfold scB BT.deep; rw [sc_deep f l, sc_deep f r]
theorem sc_ev (f : Int → Int) (x : List Int) : ∀ T : BT, evB (scB f T) x = f (evB T x)
  | .lf _ => rfl
  | .nd a c s l r => by
    have h1 := sc_ev f x l
    have h2 := sc_ev f x r
    show (if goes a c s x = true then evB (scB f l) x else evB (scB f r) x) = f (if goes a c s x = true then evB l x else evB r x)
    split
    · exact h1
    · exact h2
def inV (B : Int) : BT → Prop
  | .lf v => -B ≤ v ∧ v ≤ B
  | .nd _ _ _ l r => inV B l ∧ inV B r
theorem sc_ok {f : Int → Int} {B m : Int} (hf : ∀ v, -B ≤ v → v ≤ B → outI (f v) = false) : ∀ T : BT, okB m T → inV B T → okB m (scB f T)
  | .lf v, _, h => hf v h.1 h.2
  | .nd a c s l r, h, k => ⟨h.1, h.2.1, h.2.2.1, sc_ok hf l h.2.2.2.1 k.1, sc_ok hf r h.2.2.2.2 k.2⟩
theorem sc_in {f : Int → Int} {B C : Int} (hf : ∀ v, -B ≤ v → v ≤ B → -C ≤ f v ∧ f v ≤ C) : ∀ T : BT, inV B T → inV C (scB f T)
  | .lf v, h => hf v h.1 h.2
  | .nd a c s l r, k => ⟨sc_in hf l k.1, sc_in hf r k.2⟩
theorem in_ev {B : Int} (x : List Int) : ∀ T : BT, inV B T → -B ≤ evB T x ∧ evB T x ≤ B
  | .lf v, h => h
  | .nd a c s l r, h => by
    have h1 := in_ev x l h.1
    have h2 := in_ev x r h.2
    show -B ≤ (if goes a c s x = true then evB l x else evB r x) ∧ (if goes a c s x = true then evB l x else evB r x) ≤ B
    split
    · exact h1
    · exact h2
theorem grow_in {m : Nat} {least : Int} (h1 : 1 ≤ least) : ∀ (d : Nat) {l : List Sa}, GoodS l m → 0 < l.length → inV 1000 (growT m least d l)
  | 0, l, h, hl => mean_in h hl
  | d + 1, l, h, hl => by
    unfold growT
    split
    · rename_i q
      obtain ⟨s1, ⟨i, hi, e⟩, s3, s4, _⟩ := grow_sides h1 hl q
      have n1 : 0 < (partS l (spV l m least).2.2.1 (spV l m least).2.2.2.1 true).length := by unfold nB at s3; omega
      have n2 : 0 < (partS l (spV l m least).2.2.1 (spV l m least).2.2.2.1 false).length := by unfold nB at s4; omega
      exact ⟨grow_in h1 d (h.part _ _ _) n1, grow_in h1 d (h.part _ _ _) n2⟩
    · exact mean_in h hl
def scN (f : Int → Int) (n : Nd) : Nd := (nf n, nc n, nl n, nr n, ns n, f (nv n))
theorem sc_lay {f : Int → Int} (h0 : f 0 = 0) : ∀ (T : BT) (k : Nat), lay (scB f T) k = (lay T k).map (scN f)
  | .lf v, k => rfl
  | .nd a c s l r, k => by
    show (a, c, ((k + 1 : Nat) : Int), ((k + 1 + (scB f l).size : Nat) : Int), s, 0) :: (lay (scB f l) (k + 1) ++ lay (scB f r) (k + 1 + (scB f l).size)) = ((a, c, ((k + 1 : Nat) : Int), ((k + 1 + l.size : Nat) : Int), s, 0) :: (lay l (k + 1) ++ lay r (k + 1 + l.size))).map (scN f)
    rw [sc_size, sc_lay h0 l, sc_lay h0 r, List.map_cons, List.map_append]
    congr 1
    show _ = (a, c, ((k + 1 : Nat) : Int), ((k + 1 + l.size : Nat) : Int), s, f 0)
    rw [h0]

/-! ### rounds -/
/-- made fit to what a target may be -/
def fitT (x : Int) : Int := if 1000 < x then 1000 else if x < -1000 then -1000 else x
theorem fit_in (x : Int) : -1000 ≤ fitT x ∧ fitT x ≤ 1000 := by unfold fitT; split <;> (try split) <;> omega
/-- samples with what is left of them -/
def lesS : List Sa → List Int → List Sa
  | s :: l, x :: r => (s.1, fitT x) :: lesS l r
  | _, _ => []
theorem les_len : ∀ (l : List Sa) (r : List Int), r.length = l.length → (lesS l r).length = l.length
  | [], [], _ => rfl
  | s :: l, x :: r, h => by
    show (lesS l r).length + 1 = l.length + 1
    rw [les_len l r (by simpa using h)]
  | [], _ :: _, h => by simp at h
  | _ :: _, [], h => by simp at h
theorem les_mem : ∀ (l : List Sa) (r : List Int) (s : Sa), s ∈ lesS l r → -1000 ≤ s.2 ∧ s.2 ≤ 1000 ∧ ∃ u ∈ l, s.1 = u.1
  | [], r, s, h => by unfold lesS at h; cases h
  | u :: l, [], s, h => by unfold lesS at h; cases h
  | u :: l, x :: r, s, h => by
    rcases List.mem_cons.1 h with rfl | h
    · exact ⟨(fit_in x).1, (fit_in x).2, u, List.mem_cons_self .., rfl⟩
    · obtain ⟨h1, h2, v, hv, e⟩ := les_mem l r s h
      exact ⟨h1, h2, v, List.mem_cons_of_mem _ hv, e⟩
theorem les_good {l : List Sa} {m : Nat} {r : List Int} (h : GoodS l m) (hr : r.length = l.length) : GoodS (lesS l r) m :=
  ⟨by rw [les_len l r hr]; exact h.le, h.m8, fun s hs => by
    obtain ⟨h1, h2, u, hu, e⟩ := les_mem l r s hs
    obtain ⟨z1, z2, z3, z4⟩ := h.each u hu
    rw [e]
    exact ⟨z1, z2, ⟨h1, h2⟩, z4⟩⟩
/-- so many hundredths, rounded towards 0 -/
def shrV (share v : Int) : Int := (v * share).tdiv 100
theorem shr_zero (share : Int) : shrV share 0 = 0 := by unfold shrV; simp
theorem shr_in {share : Int} (h1 : 1 ≤ share) (h2 : share ≤ 100) (v : Int) (a : -1000 ≤ v) (b : v ≤ 1000) : -1000 ≤ shrV share v ∧ shrV share v ≤ 1000 := by
  unfold shrV
  have e1 : v * share ≤ 1000 * share := Int.mul_le_mul_of_nonneg_right b (by omega)
  have e2 : -1000 * share ≤ v * share := Int.mul_le_mul_of_nonneg_right a (by omega)
  have c1 : v * share ≤ 100000 := by omega
  have c2 : -100000 ≤ v * share := by omega
  generalize v * share = x at *
  by_cases hx : 0 ≤ x
  · rw [Int.tdiv_eq_ediv_of_nonneg hx]; omega
  · have : x.tdiv 100 = -((-x) / 100) := by
      rw [← Int.tdiv_eq_ediv_of_nonneg (a := -x) (by omega), Int.neg_tdiv, Int.neg_neg]
    rw [this]; omega
def lessL (T : BT) : List Sa → List Int → List Int
  | s :: l, x :: r => (x - evB T s.1) :: lessL T l r
  | _, _ => []
theorem less_len (T : BT) : ∀ (l : List Sa) (r : List Int), r.length = l.length → (lessL T l r).length = l.length
  | [], [], _ => rfl
  | s :: l, x :: r, h => by
    show (lessL T l r).length + 1 = l.length + 1
    rw [less_len T l r (by simpa using h)]
  | [], _ :: _, h => by simp at h
  | _ :: _, [], h => by simp at h
theorem less_at (T : BT) : ∀ (l : List Sa) (r : List Int), r.length = l.length → ∀ i, i < l.length → (lessL T l r).getD i 0 = r.getD i 0 - evB T (sAt l i).1
  | [], [], _, i, hi => by simp at hi
  | s :: l, x :: r, h, 0, hi => rfl
  | s :: l, x :: r, h, i + 1, hi => less_at T l r (by simpa using h) i (by simpa using hi)
  | [], _ :: _, h, i, hi => by simp at h
  | _ :: _, [], h, i, hi => by simp at h
def sqs : List Int → Int
  | [] => 0
  | x :: r => x * x + sqs r
/-- trees so far, what is left, whether it has ended -/
abbrev BoS := List BT × List Int × Bool
def boT (m dp : Nat) (share : Int) (l : List Sa) (r : List Int) : BT := scB (shrV share) (growT m 1 dp (lesS l r))
def boN (m dp : Nat) (share : Int) (l : List Sa) (st : BoS) : BoS :=
  if st.2.2 = true then st else if sqs st.2.1 ≤ sqs (lessL (boT m dp share l st.2.1) l st.2.1) then (st.1, st.2.1, true) else (st.1 ++ [boT m dp share l st.2.1], lessL (boT m dp share l st.2.1) l st.2.1, false)
def bo0 (l : List Sa) : BoS := ([.lf (meanS l)], l.map (fun s => s.2 - meanS l), false)
def boR (m dp : Nat) (share : Int) (l : List Sa) : Nat → BoS
  | 0 => bo0 l
  | k + 1 => boN m dp share l (boR m dp share l k)
/-- what all trees so far tell together -/
def allB : List BT → List Int → Int
  | [], _ => 0
  | T :: L, x => evB T x + allB L x
theorem allB_app : ∀ (A B : List BT) (x : List Int), allB (A ++ B) x = allB A x + allB B x
  | [], B, x => by show allB B x = 0 + allB B x; omega
  | T :: A, B, x => by
    show evB T x + allB (A ++ B) x = evB T x + allB A x + allB B x
    rw [allB_app A B x]; omega
structure BoI (m dp : Nat) (l : List Sa) (k : Nat) (st : BoS) : Prop where
  t0 : 0 < st.1.length
  tk : st.1.length ≤ k + 1
  each : ∀ T ∈ st.1, okB (m : Int) T ∧ inV 1000 T ∧ T.deep ≤ dp ∧ T.size + 1 ≤ 2 ^ (dp + 1)
  len : st.2.1.length = l.length
  rest : ∀ i, i < l.length → st.2.1.getD i 0 = (sAt l i).2 - allB st.1 (sAt l i).1
theorem pow_one (dp : Nat) : 2 ≤ 2 ^ (dp + 1) := by
  have := Nat.one_le_two_pow (n := dp)
  rw [Nat.pow_succ]; omega
theorem bo_first {m dp : Nat} {l : List Sa} (h : GoodS l m) (hl : 0 < l.length) : BoI m dp l 0 (bo0 l) := by
  have mi := mean_in h hl
  refine ⟨Nat.one_pos, Nat.le_refl _, fun T hT => ?_, by unfold bo0; simp, fun i hi => ?_⟩
  · have : T = .lf (meanS l) := by unfold bo0 at hT; simpa using hT
    subst this
    exact ⟨out_in (by omega) (by omega), mi, Nat.zero_le _, pow_one dp⟩
  · show (l.map (fun s => s.2 - meanS l)).getD i 0 = (sAt l i).2 - (meanS l + 0)
    unfold sAt
    rw [getD_at (by simpa using hi), getD_at hi, List.getElem_map]; omega
theorem bo_next {m dp k : Nat} {share : Int} {l : List Sa} {st : BoS} (h : GoodS l m) (hl : 0 < l.length) (s1 : 1 ≤ share) (s2 : share ≤ 100) (I : BoI m dp l k st) : BoI m dp l (k + 1) (boN m dp share l st) := by
  unfold boN
  have up : BoI m dp l (k + 1) st := ⟨I.t0, by have := I.tk; omega, I.each, I.len, I.rest⟩
  split
  · exact up
  · split
    · exact ⟨up.t0, up.tk, up.each, up.len, up.rest⟩
    · have G := les_good h I.len
      have ll : 0 < (lesS l st.2.1).length := by rw [les_len l _ I.len]; exact hl
      have gi := grow_in (m := m) (least := 1) (Int.le_refl _) dp G ll
      have go := grow_ok (m := m) (least := 1) (Int.le_refl _) dp G ll
      have gd := grow_deep m 1 dp (lesS l st.2.1)
      have bi : inV 1000 (boT m dp share l st.2.1) := sc_in (fun v a b => shr_in s1 s2 v a b) _ gi
      refine ⟨by simp, by simp; have := I.tk; omega, fun T hT => ?_, less_len _ l _ I.len, fun i hi => ?_⟩
      · rcases List.mem_append.1 hT with q | q
        · exact I.each T q
        · have : T = boT m dp share l st.2.1 := by simpa using q
          subst this
          refine ⟨sc_ok (fun v a b => ?_) _ go gi, bi, ?_, ?_⟩
          · have := shr_in s1 s2 v a b
            exact out_in (by omega) (by omega)
          · unfold boT; rw [sc_deep]; exact gd.1
          · unfold boT; rw [sc_size]; exact gd.2
      · rw [less_at _ l _ I.len i hi, I.rest i hi, allB_app]
        show _ = _ - (allB st.1 _ + (evB (boT m dp share l st.2.1) _ + 0))
        omega
theorem bo_all {m dp : Nat} {share : Int} {l : List Sa} (h : GoodS l m) (hl : 0 < l.length) (s1 : 1 ≤ share) (s2 : share ≤ 100) : ∀ k, BoI m dp l k (boR m dp share l k)
  | 0 => bo_first h hl
  | k + 1 => bo_next h hl s1 s2 (bo_all h hl s1 s2 k)
/-- a round more: one tree more, and less is left; or all stays -/
theorem bo_step (m dp : Nat) (share : Int) (l : List Sa) (k : Nat) : ((boR m dp share l (k + 1)).1 = (boR m dp share l k).1 ∧ (boR m dp share l (k + 1)).2.1 = (boR m dp share l k).2.1) ∨ (∃ T, (boR m dp share l (k + 1)).1 = (boR m dp share l k).1 ++ [T]) ∧ sqs (boR m dp share l (k + 1)).2.1 < sqs (boR m dp share l k).2.1 := by
  show ((boN m dp share l (boR m dp share l k)).1 = _ ∧ (boN m dp share l (boR m dp share l k)).2.1 = _) ∨ (∃ T, (boN m dp share l (boR m dp share l k)).1 = _) ∧ sqs (boN m dp share l (boR m dp share l k)).2.1 < _
  unfold boN
  split
  · exact .inl ⟨rfl, rfl⟩
  · split
    · exact .inl ⟨rfl, rfl⟩
    · rename_i q
      exact .inr ⟨⟨_, rfl⟩, Int.not_le.1 q⟩

end Go.Proofs.YtlloiccodjnkcagGreatDoor.M

namespace Go.Proofs.YtlloiccodjnkcagGreatDoor.M
set_option linter.unusedVariables false

def tmN (n : Nat) (v : Int) : Int := v * (n : Int)
theorem tm_zero (n : Nat) : tmN n 0 = 0 := by unfold tmN; simp
theorem tm_in {n : Nat} (hn : n ≤ 9) (v : Int) (a : -1000 ≤ v) (b : v ≤ 1000) : -9000 ≤ tmN n v ∧ tmN n v ≤ 9000 := by
  unfold tmN
  have e1 : v * (n : Int) ≤ 1000 * (n : Int) := Int.mul_le_mul_of_nonneg_right b (Int.natCast_nonneg n)
  have e2 : -1000 * (n : Int) ≤ v * (n : Int) := Int.mul_le_mul_of_nonneg_right a (Int.natCast_nonneg n)
  omega
/-- a tree of the grove -/
def boL (n : Nat) (T : BT) : List Nd := lay (scB (tmN n) T) 0
def boG (m : Int) (L : List BT) : Gv := (m, 2, List.replicate L.length 1, L.map (boL L.length))
structure BoL (m : Int) (L : List BT) : Prop where
  m0 : 0 ≤ m
  m8 : m ≤ 8
  t0 : 0 < L.length
  t9 : L.length ≤ 9
  each : ∀ T ∈ L, okB m T ∧ inV 1000 T ∧ T.deep ≤ 4 ∧ T.size ≤ 31
theorem boL_tree {m : Int} {L : List BT} (h : BoL m L) {T : BT} (hT : T ∈ L) : (treeF (boL L.length T) m).2 = 0 ∧ okB m (scB (tmN L.length) T) := by
  obtain ⟨h1, h2, h3, h4⟩ := h.each T hT
  have ok : okB m (scB (tmN L.length) T) := sc_ok (fun v a b => by have := tm_in h.t9 v a b; exact out_in (by omega) (by omega)) T h1 h2
  exact ⟨lay_tree ok h.m0 h.m8 (by rw [sc_size]; omega) (by rw [sc_deep]; omega), ok⟩
theorem boG_good {m : Int} {L : List BT} (h : BoL m L) : Good (boG m L) := by
  refine ⟨h.m0, h.m8, by show (1 : Int) ≤ 2; decide, by show (2 : Int) ≤ 3; decide, ?_, ?_, ?_, ?_, ?_⟩
  · show 0 < (L.map _).length; rw [List.length_map]; exact h.t0
  · show (L.map _).length ≤ 12; rw [List.length_map]; have := h.t9; omega
  · show (List.replicate L.length (1 : Int)).length = (L.map _).length; rw [List.length_map, List.length_replicate]
  · intro w hw
    have : w = 1 := (List.mem_replicate.1 (show w ∈ List.replicate L.length (1 : Int) from hw)).2
    omega
  · intro t ht
    obtain ⟨T, hT, rfl⟩ := List.mem_map.1 (show t ∈ L.map (boL L.length) from ht)
    exact (boL_tree h hT).1
theorem sumK_ones {l : List Int} {n : Nat} : ∀ k, k ≤ l.length → k ≤ n → sumK l (List.replicate n 1) k = (l.take k).sum
  | 0, _, _ => by simp [sumK]
  | k + 1, h, hn => by
    have ih := sumK_ones (l := l) (n := n) k (by omega) (by omega)
    unfold sumK
    rw [ih, getD_at (show k < (List.replicate n (1 : Int)).length by rw [List.length_replicate]; omega), List.getElem_replicate, getD_at (by omega), List.take_succ_eq_append_getElem (by omega), List.sum_append]
    simp
theorem allK_ones {n : Nat} : ∀ k, k ≤ n → allK (List.replicate n 1) k = (k : Nat)
  | 0, _ => rfl
  | k + 1, hn => by
    have ih := allK_ones (n := n) k (by omega)
    unfold allK
    rw [ih, getD_at (show k < (List.replicate n (1 : Int)).length by rw [List.length_replicate]; omega), List.getElem_replicate]
    omega
theorem sum_tm (n : Nat) (x : List Int) : ∀ L : List BT, (L.map (fun T => tmN n (evB T x))).sum = allB L x * (n : Int)
  | [] => by show (0 : Int) = 0 * _; simp
  | T :: L => by
    have ih := sum_tm n x L
    show tmN n (evB T x) + (L.map _).sum = (evB T x + allB L x) * (n : Int)
    rw [ih, Int.add_mul]; rfl
/-- the grove tells of a row what its trees tell together -/
theorem boG_eval {m : Int} {L : List BT} (h : BoL m L) {x : List Int} (hx : rowF x = 0) (hm : (x.length : Int) = m) : evalG (boG m L) x = allB L x := by
  have hs : standF (boG m L) x = 0 := stand_of (boG_good h) hx hm
  have he : eachL (boG m L) x = L.map (fun T => tmN L.length (evB T x)) := by
    show (L.map (boL L.length)).map (fun t => evalV t x) = _
    rw [List.map_map]
    refine List.map_congr_left (fun T hT => ?_)
    obtain ⟨t1, t2⟩ := boL_tree h hT
    rw [← hm] at t1 t2
    have := (lay_eval t2 t1 hx).2
    show evalV (lay (scB (tmN L.length) T) 0) x = _
    rw [this, sc_ev]
  unfold evalG
  rw [if_pos hs, he]
  show together 2 (List.replicate L.length 1) _ = _
  unfold together
  rw [if_neg (by decide), if_pos rfl, List.length_map, sumK_ones _ (by rw [List.length_map]; exact Nat.le_refl _) (Nat.le_refl _), allK_ones _ (Nat.le_refl _), List.take_of_length_le (by rw [List.length_map]; exact Nat.le_refl _), sum_tm]
  have := h.t0
  exact Int.mul_ediv_cancel _ (by omega)

/-! ### numbers that have an end -/
def sqF (r : List Int) : Int := totalI (r.map fun x => mulI x x)
theorem mulI_sq {x : Int} (h1 : -1000000 ≤ x) (h2 : x ≤ 1000000) : mulI x x = x * x ∧ 0 ≤ x * x ∧ x * x ≤ 1000000000000 := by
  have e := Int.natAbs_mul_self' x
  have b : x.natAbs ≤ 1000000 := by omega
  have := Nat.mul_le_mul b b
  have e2 : ((x.natAbs * x.natAbs : Nat) : Int) = x * x := by simp
  have q : 0 ≤ x * x ∧ x * x ≤ 1000000000000 := by omega
  refine ⟨?_, q⟩
  unfold mulI
  rw [show fitI x = x from fit_id ⟨by omega, by omega⟩]
  exact fit_id ⟨by omega, by omega⟩
theorem sq_from : ∀ (r : List Int) (s : Int), (∀ x ∈ r, -100000 ≤ x ∧ x ≤ 100000) → 0 ≤ s → s + 10000000000 * (r.length : Int) ≤ 1099511627776 → (r.map fun x => mulI x x).foldl addI s = s + sqs r ∧ 0 ≤ sqs r
  | [], s, _, _, _ => ⟨by show s = s + 0; omega, Int.le_refl _⟩
  | x :: r, s, h, h0, hb => by
    obtain ⟨x1, x2⟩ := h x (List.mem_cons_self ..)
    obtain ⟨m1, m2, m3⟩ := mulI_sq (x := x) (by omega) (by omega)
    have m4 : x * x ≤ 10000000000 := by
      have e := Int.natAbs_mul_self' x
      have b : x.natAbs ≤ 100000 := by omega
      have := Nat.mul_le_mul b b
      have e2 : ((x.natAbs * x.natAbs : Nat) : Int) = x * x := by simp
      omega
    rw [List.length_cons] at hb
    have hp : (0 : Int) ≤ (r.length : Int) := Int.natCast_nonneg _
    have hb' : s + 10000000000 * (r.length : Int) + 10000000000 ≤ 1099511627776 := by
      have : (((r.length + 1 : Nat) : Int)) = (r.length : Int) + 1 := by simp
      omega
    have a1 : addI s (mulI x x) = s + x * x := by
      rw [m1]
      unfold addI
      rw [show fitI s = s from fit_id ⟨by omega, by omega⟩, show fitI (x * x) = x * x from fit_id ⟨by omega, by omega⟩]
      exact fit_id ⟨by omega, by omega⟩
    obtain ⟨i1, i2⟩ := sq_from r (s + x * x) (fun y hy => h y (List.mem_cons_of_mem _ hy)) (by omega) (by omega)
    show ((r.map fun x => mulI x x).foldl addI (addI s (mulI x x))) = s + (x * x + sqs r) ∧ 0 ≤ x * x + sqs r
    rw [a1, i1]
    omega
theorem sqF_in {r : List Int} (h : ∀ x ∈ r, -100000 ≤ x ∧ x ≤ 100000) (hl : r.length ≤ 60) : sqF r = sqs r := by
  have := (sq_from r 0 h (Int.le_refl _) (by omega)).1
  unfold sqF totalI
  rw [this]; omega

/-! ### behind a grove -/
def restF (g : Gv) (l : List Sa) : Int := if groveF g ≠ 0 then groveF g else (samF l (gf g)).2
def restV (g : Gv) (l : List Sa) : List Int := if restF g l = 0 then l.map (fun s => s.2 - evalG g s.1) else []
def wrgG (g : Gv) (l : List Sa) : Int := if restF g l = 0 then sqF (restV g l) else 0
def booF (l : List Sa) (m r d s : Int) : Int := if (samF l m).2 ≠ 0 then (samF l m).2 else if r < 0 ∨ 8 < r ∨ d < 1 ∨ 4 < d ∨ s < 1 ∨ 100 < s then 1 else 0
def booS (l : List Sa) (m r d s : Int) : BoS := boR m.toNat d.toNat s l r.toNat
def booG (l : List Sa) (m r d s : Int) : Gv := if booF l m r d s = 0 then boG m (booS l m r d s).1 else (0, 0, [], [])
theorem boo_ok {l : List Sa} {m r d s : Int} (h : booF l m r d s = 0) : (samF l m).2 = 0 ∧ 0 ≤ r ∧ r ≤ 8 ∧ 1 ≤ d ∧ d ≤ 4 ∧ 1 ≤ s ∧ s ≤ 100 := by
  unfold booF at h
  by_cases c : (samF l m).2 = 0
  · rw [if_neg (by simp [c])] at h
    by_cases k : r < 0 ∨ 8 < r ∨ d < 1 ∨ 4 < d ∨ s < 1 ∨ 100 < s
    · rw [if_pos k] at h; cases h
    · exact ⟨c, by omega, by omega, by omega, by omega, by omega, by omega⟩
  · rw [if_pos c] at h; exact absurd h c
theorem boo_inv {l : List Sa} {m r d s : Int} (h : booF l m r d s = 0) : BoI m.toNat d.toNat l r.toNat (booS l m r d s) ∧ BoL m (booS l m r d s).1 := by
  obtain ⟨h1, r0, r8, d1, d4, s1, s2⟩ := boo_ok h
  obtain ⟨G, hl, hm, _⟩ := sam_ok h1
  have I := bo_all (m := m.toNat) (dp := d.toNat) (share := s) G hl s1 s2 r.toNat
  refine ⟨I, ⟨by omega, by have := G.m8; omega, I.t0, by have := I.tk; unfold booS; omega, fun T hT => ?_⟩⟩
  obtain ⟨e1, e2, e3, e4⟩ := I.each T hT
  rw [hm] at e1
  have d4' : d.toNat ≤ 4 := by omega
  have p : 2 ^ (d.toNat + 1) ≤ 2 ^ (4 + 1) := Nat.pow_le_pow_right (by omega) (by omega)
  exact ⟨e1, e2, by omega, by omega⟩
theorem allB_in {x : List Int} : ∀ {L : List BT}, (∀ T ∈ L, inV 1000 T) → -1000 * (L.length : Int) ≤ allB L x ∧ allB L x ≤ 1000 * (L.length : Int)
  | [], _ => by show _ ≤ (0 : Int) ∧ (0 : Int) ≤ _; simp
  | T :: L, h => by
    have ih := allB_in (x := x) (L := L) fun U hU => h U (List.mem_cons_of_mem _ hU)
    have := in_ev x T (h T (List.mem_cons_self ..))
    show _ ≤ evB T x + allB L x ∧ evB T x + allB L x ≤ _
    rw [List.length_cons]
    omega
/-- what is left behind the grove is what was left behind its trees -/
theorem boo_rest {l : List Sa} {m r d s : Int} (h : booF l m r d s = 0) : restF (booG l m r d s) l = 0 ∧ restV (booG l m r d s) l = (booS l m r d s).2.1 ∧ wrgG (booG l m r d s) l = sqs (booS l m r d s).2.1 ∧ groveF (booG l m r d s) = 0 := by
  obtain ⟨h1, r0, r8, d1, d4, s1, s2⟩ := boo_ok h
  obtain ⟨G, hl, hm, _⟩ := sam_ok h1
  obtain ⟨I, B⟩ := boo_inv h
  have eg : booG l m r d s = boG m (booS l m r d s).1 := by unfold booG; rw [if_pos h]
  have gz : groveF (booG l m r d s) = 0 := by rw [eg]; exact (good_iff _).2 (boG_good B)
  have f0 : restF (booG l m r d s) l = 0 := by
    unfold restF
    rw [if_neg (by simp [gz]), eg]
    exact h1
  have rv : restV (booG l m r d s) l = (booS l m r d s).2.1 := by
    unfold restV
    rw [if_pos f0]
    refine List.ext_getElem (by rw [List.length_map]; exact I.len.symm) fun i q1 q2 => ?_
    have hi : i < l.length := by rw [List.length_map] at q1; exact q1
    have e := I.rest i hi
    rw [getD_at q2] at e
    have es : sAt l i = l[i] := by unfold sAt; rw [getD_at hi]
    rw [es] at e
    obtain ⟨z1, z2, z3, z4⟩ := G.each l[i] (List.getElem_mem hi)
    have ev := boG_eval B z1 (by omega)
    rw [← eg] at ev
    rw [List.getElem_map, e, ev]
  refine ⟨f0, rv, ?_, gz⟩
  unfold wrgG
  rw [if_pos f0, rv]
  refine sqF_in (fun x hx => ?_) (by rw [I.len]; exact G.le)
  obtain ⟨i, hi, rfl⟩ := List.getElem_of_mem hx
  have hi' : i < l.length := by rw [← I.len]; exact hi
  have e := I.rest i hi'
  rw [getD_at hi] at e
  have es : sAt l i = l[i] := by unfold sAt; rw [getD_at hi']
  rw [es] at e
  have z3 := (G.each l[i] (List.getElem_mem hi')).2.2.1
  have q := allB_in (x := l[i].1) (L := (booS l m r d s).1) fun T hT => (B.each T hT).2.1
  have t9 := B.t9
  omega

end Go.Proofs.YtlloiccodjnkcagGreatDoor.M

namespace Go.Proofs.YtlloiccodjnkcagGreatDoor.M
set_option linter.unusedVariables false

theorem pre_sc (f : Int → Int) : ∀ T : BT, pre (scB f T) = pre T
  | .lf _ => rfl
  | .nd a c s l r => by
    show a :: (pre (scB f l) ++ pre (scB f r)) = a :: (pre l ++ pre r)
    rw [pre_sc f l, pre_sc f r]
theorem part_mem {l : List Sa} {f : Nat} {c : Int} {b : Bool} {s : Sa} (h : s ∈ partS l f c b) : s ∈ l ∧ sideB f c s = b := by
  unfold partS at h
  obtain ⟨h1, h2⟩ := List.mem_filter.1 h
  exact ⟨h1, by simpa using h2⟩
/-- who is asked for differs -/
theorem grow_asks {m : Nat} : ∀ (d : Nat) {l : List Sa}, 0 < l.length → ∀ g ∈ pre (growT m 1 d l), g = -1 ∨ ∃ f : Nat, g = (f : Int) ∧ f < m ∧ ∃ s ∈ l, ∃ u ∈ l, colA s f ≠ colA u f
  | 0, l, hl, g, hg => by
    have : g ∈ [(-1 : Int)] := hg
    exact .inl (by simpa using this)
  | d + 1, l, hl, g, hg => by
    unfold growT at hg
    by_cases q : (spV l m 1).2.2.2.2 = true
    · rw [if_pos q] at hg
      obtain ⟨s1, _, s3, s4, _⟩ := grow_sides (Int.le_refl _) hl q
      have n1 : 0 < (partS l (spV l m 1).2.2.1 (spV l m 1).2.2.2.1 true).length := by unfold nB at s3; omega
      have n2 : 0 < (partS l (spV l m 1).2.2.1 (spV l m 1).2.2.2.1 false).length := by unfold nB at s4; omega
      have hg' : g ∈ ((spV l m 1).2.2.1 : Int) :: (pre (growT m 1 d (partS l (spV l m 1).2.2.1 (spV l m 1).2.2.2.1 true)) ++ pre (growT m 1 d (partS l (spV l m 1).2.2.1 (spV l m 1).2.2.2.1 false))) := hg
      have up : ∀ b, (∃ f : Nat, g = (f : Int) ∧ f < m ∧ ∃ s ∈ partS l (spV l m 1).2.2.1 (spV l m 1).2.2.2.1 b, ∃ u ∈ partS l (spV l m 1).2.2.1 (spV l m 1).2.2.2.1 b, colA s f ≠ colA u f) → ∃ f : Nat, g = (f : Int) ∧ f < m ∧ ∃ s ∈ l, ∃ u ∈ l, colA s f ≠ colA u f := by
        rintro b ⟨f, e, hf, s, hs, u, hu, ne⟩
        exact ⟨f, e, hf, s, (part_mem hs).1, u, (part_mem hu).1, ne⟩
      rcases List.mem_cons.1 hg' with e | e
      · obtain ⟨s, hs⟩ := List.exists_mem_of_length_pos n1
        obtain ⟨u, hu⟩ := List.exists_mem_of_length_pos n2
        refine .inr ⟨_, e, s1, s, (part_mem hs).1, u, (part_mem hu).1, fun z => ?_⟩
        have h1 := of_decide_eq_true (part_mem hs).2
        have h2 := of_decide_eq_false (part_mem hu).2
        omega
      · rcases List.mem_append.1 e with z | z
        · rcases grow_asks d n1 g z with y | y
          · exact .inl y
          · exact .inr (up true y)
        · rcases grow_asks d n2 g z with y | y
          · exact .inl y
          · exact .inr (up false y)
    · rw [if_neg q] at hg
      have : g ∈ [(-1 : Int)] := hg
      exact .inl (by simpa using this)
/-- so in a boosted grove -/
theorem bo_asks {m dp : Nat} {share : Int} {l : List Sa} (h : GoodS l m) (hl : 0 < l.length) (s1 : 1 ≤ share) (s2 : share ≤ 100) : ∀ k, ∀ T ∈ (boR m dp share l k).1, ∀ g ∈ pre T, g = -1 ∨ ∃ f : Nat, g = (f : Int) ∧ f < m ∧ ∃ s ∈ l, ∃ u ∈ l, colA s f ≠ colA u f
  | 0, T, hT, g, hg => by
    have : T = .lf (meanS l) := by
      have : T ∈ [BT.lf (meanS l)] := hT
      simpa using this
    subst this
    have : g ∈ [(-1 : Int)] := hg
    exact .inl (by simpa using this)
  | k + 1, T, hT, g, hg => by
    have ih := bo_asks (dp := dp) h hl s1 s2 k
    have I := bo_all (dp := dp) (share := share) h hl s1 s2 k
    have hT' : T ∈ (boN m dp share l (boR m dp share l k)).1 := hT
    unfold boN at hT'
    split at hT'
    · exact ih T hT' g hg
    · split at hT'
      · exact ih T hT' g hg
      · rcases List.mem_append.1 hT' with z | z
        · exact ih T z g hg
        · have e : T = boT m dp share l (boR m dp share l k).2.1 := by simpa using z
          subst e
          unfold boT at hg
          rw [pre_sc] at hg
          have ln := les_len l (boR m dp share l k).2.1 I.len
          rcases grow_asks dp (by rw [ln]; exact hl) g hg with y | ⟨f, e, hf, s, hs, u, hu, ne⟩
          · exact .inl y
          · obtain ⟨_, _, s', hs', es⟩ := les_mem l _ s hs
            obtain ⟨_, _, u', hu', eu⟩ := les_mem l _ u hu
            refine .inr ⟨f, e, hf, s', hs', u', hu', fun q => ne ?_⟩
            unfold colA at q ⊢
            rw [es, eu]; exact q
/-- who differs differs from the first -/
theorem differ_first {l : List Sa} {f : Nat} (h : ∃ s ∈ l, ∃ u ∈ l, colA s f ≠ colA u f) : ∃ k, 0 < k ∧ k < l.length ∧ colA (sAt l k) f ≠ colA (sAt l 0) f := by
  obtain ⟨s, hs, u, hu, ne⟩ := h
  obtain ⟨i, hi, ei⟩ := List.getElem_of_mem hs
  obtain ⟨j, hj, ej⟩ := List.getElem_of_mem hu
  have ai : sAt l i = s := by unfold sAt; rw [getD_at hi, ei]
  have aj : sAt l j = u := by unfold sAt; rw [getD_at hj, ej]
  by_cases c : colA (sAt l i) f = colA (sAt l 0) f
  · refine ⟨j, ?_, hj, fun z => ne ?_⟩
    · rcases Nat.eq_zero_or_pos j with y | y
      · subst y; exact absurd (by rw [← ai, ← aj]; exact c) ne
      · exact y
    · rw [← ai, ← aj, c, z]
  · refine ⟨i, ?_, hi, c⟩
    rcases Nat.eq_zero_or_pos i with y | y
    · subst y; exact absurd rfl c
    · exact y
/-! ### who is counted stands there -/
theorem cnt_pos {f : Int} : ∀ {t : List Nd}, cntN f t ≠ 0 → f ∈ t.map nf
  | [], h => absurd rfl h
  | n :: t, h => by
    have h' : (if nf n = f then 1 else 0) + cntN f t ≠ 0 := h
    by_cases e : nf n = f
    · rw [List.map_cons, e]; exact List.mem_cons_self ..
    · rw [if_neg e, Nat.zero_add] at h'
      exact List.mem_cons_of_mem _ (cnt_pos h')
theorem cnt_zero {f : Int} : ∀ {t : List Nd}, cntN f t = 0 → ∀ g ∈ t.map nf, g ≠ f
  | [], _, g, hg => by simp at hg
  | n :: t, h, g, hg => by
    have h' : (if nf n = f then 1 else 0) + cntN f t = 0 := h
    have ne : nf n ≠ f := fun e => by rw [if_pos e] at h'; omega
    rw [List.map_cons] at hg
    rcases List.mem_cons.1 hg with e | e
    · rw [e]; exact ne
    · exact cnt_zero (by omega) g e
theorem cntG_pos {f : Int} : ∀ {l : List (List Nd)}, cntG f l ≠ 0 → ∃ t ∈ l, cntN f t ≠ 0
  | [], h => absurd rfl h
  | t :: l, h => by
    have h' : cntN f t + cntG f l ≠ 0 := h
    by_cases e : cntN f t = 0
    · obtain ⟨u, hu, z⟩ := cntG_pos (l := l) (f := f) (by omega)
      exact ⟨u, List.mem_cons_of_mem _ hu, z⟩
    · exact ⟨t, List.mem_cons_self .., e⟩
theorem cntG_zero {f : Int} : ∀ {l : List (List Nd)}, cntG f l = 0 → ∀ t ∈ l, cntN f t = 0
  | [], _, t, ht => by cases ht
  | u :: l, h, t, ht => by
    have h' : cntN f u + cntG f l = 0 := h
    rcases List.mem_cons.1 ht with e | e
    · rw [e]; omega
    · exact cntG_zero (l := l) (by omega) t e
theorem uses_mem {l : List (List Nd)} {u : Us} : u ∈ usesV l ↔ ∃ i : Nat, i < 8 ∧ u = ((i : Int), ((cntG (i : Int) l : Nat) : Int), (0 : Int)) ∧ cntG (i : Int) l ≠ 0 := by
  unfold usesV
  rw [(rank_spec (useL_rise l)).2]
  unfold useL
  rw [List.mem_map]
  constructor
  · rintro ⟨⟨i, hi, rfl⟩, h⟩
    exact ⟨i, List.mem_range.1 hi, rfl, fun z => h (by show ((cntG (i : Int) l : Nat) : Int) = 0; rw [z]; rfl)⟩
  · rintro ⟨i, hi, rfl, h⟩
    refine ⟨⟨i, List.mem_range.2 hi, rfl⟩, fun z => h ?_⟩
    have : ((cntG (i : Int) l : Nat) : Int) = 0 := z
    omega
/-- what is not asked for is not missed -/
theorem wo_unasked {f : Nat} {T : BT} (h : cntN (f : Int) (lay T 0) = 0) : wo (f : Int) T = T := by
  refine wo_same T ((pre_free (by omega) T).2 fun g hg => ?_)
  rw [← pre_lay T 0] at hg
  exact cnt_zero h g hg
/-- without a feature none asks for it -/
theorem cnt_wo {f : Nat} (T : BT) : cntN (f : Int) (lay (wo (f : Int) T) 0) = 0 := by
  by_cases c : cntN (f : Int) (lay (wo (f : Int) T) 0) = 0
  · exact c
  · have := cnt_pos c
    rw [pre_lay] at this
    exact absurd rfl ((pre_free (by omega) _).1 (wo_free (f : Int) T) _ this)

end Go.Proofs.YtlloiccodjnkcagGreatDoor.M

namespace Go.Proofs.YtlloiccodjnkcagGreatDoor
set_option linter.unusedVariables false

def M.rdyF (t : List M.Nd) (l : List M.Sa) : Int := if l.length = 0 then 5 else if (M.treeF t ((M.sAt l 0).1.length : Int)).2 ≠ 0 then (M.treeF t ((M.sAt l 0).1.length : Int)).2 else (M.samF l ((M.sAt l 0).1.length : Int)).2
def M.wrgS (t : List M.Nd) : List M.Sa → Int
  | [] => 0
  | s :: l => (s.2 - M.nv (M.nAt t (M.toD t s.1 0))) * (s.2 - M.nv (M.nAt t (M.toD t s.1 0))) + M.wrgS t l
theorem M.wrg_app (t : List M.Nd) (a b : List M.Sa) : M.wrgS t (a ++ b) = M.wrgS t a + M.wrgS t b := by
  induction a with
  | nil => simp [M.wrgS]
  | cons s a ih => show _ + M.wrgS t (a ++ b) = _ + M.wrgS t a + M.wrgS t b; rw [ih]; omega
def M.wrgV (t : List M.Nd) (l : List M.Sa) : Int := if M.rdyF t l = 0 then M.wrgS t l else 0
theorem M.rdy_ok {t : List M.Nd} {l : List M.Sa} (h : M.rdyF t l = 0) : 0 < l.length ∧ (M.treeF t ((M.sAt l 0).1.length : Int)).2 = 0 ∧ (M.samF l ((M.sAt l 0).1.length : Int)).2 = 0 := by
  unfold M.rdyF at h
  by_cases c1 : l.length = 0
  · rw [if_pos c1] at h; cases h
  · rw [if_neg c1] at h
    by_cases c2 : (M.treeF t ((M.sAt l 0).1.length : Int)).2 = 0
    · rw [if_neg (by simp [c2])] at h
      exact ⟨by omega, c2, h⟩
    · rw [if_pos c2] at h; exact absurd h c2

end Go.Proofs.YtlloiccodjnkcagGreatDoor

namespace Go.Proofs.YtlloiccodjnkcagGreatDoor.M
set_option linter.unusedVariables false

def woT (f : Int) (t : List Nd) : List Nd := lay (wo f (bt t 0)) 0
def woG (g : Gv) (f : Int) : Gv := (gf g, gw g, gs g, (gt g).map (woT f))
theorem woT_tree {t : List Nd} {m : Int} (f : Int) (h : (treeF t m).2 = 0) : (treeF (woT f t) m).2 = 0 ∧ okB m (wo f (bt t 0)) ∧ (woT f t).length ≤ t.length := by
  have F := (tree_ok h).1
  have ok := bt_ok F.2.2.2.2.1 t.length 0 F.2.1 (by omega)
  have wl := wo_le f (bt t 0)
  have bs := bt_size F
  have l63 := F.1
  have dp := tree_deep h
  have bd := bt_deep F.2.2.2.2.1 t.length 0 F.2.1 (by omega)
  exact ⟨lay_tree (wo_ok _ ok) F.2.2.1 F.2.2.2.1 (by omega) (by omega), wo_ok _ ok, by unfold woT; rw [lay_len]; omega⟩
theorem woG_good {g : Gv} (f : Int) (h : Good g) : Good (woG g f) := by
  have hl : (gt (woG g f)).length = (gt g).length := by show ((gt g).map (woT f)).length = _; simp
  refine { h with t0 := ?_, t12 := ?_, len := ?_, trees := ?_ }
  · rw [hl]; exact h.t0
  · rw [hl]; exact h.t12
  · rw [hl]; exact h.len
  · intro t ht
    obtain ⟨u, hu, rfl⟩ := List.mem_map.1 (show t ∈ (gt g).map (woT f) from ht)
    exact (woT_tree f (h.trees u hu)).1
theorem row_nil {r : List Int} (f : Nat) (h : rowF r = 0) : rowF (r.set f nilI) = 0 := by
  rw [row_ok] at h ⊢
  refine ⟨by rw [List.length_set]; exact h.1, fun x hx => ?_⟩
  rcases List.mem_or_eq_of_mem_set hx with q | q
  · exact h.2 x q
  · rw [q]; exact good_nil
theorem woT_eval {t : List Nd} {r : List Int} {f : Nat} (hf : f < r.length) (h : (treeF t (r.length : Int)).2 = 0) (hr : rowF r = 0) : evalV (woT (f : Int) t) r = evalV t (r.set f nilI) := by
  have F := (tree_ok h).1
  have ok := bt_ok F.2.2.2.2.1 t.length 0 F.2.1 (by omega)
  obtain ⟨a, b, _⟩ := woT_tree (f : Int) h
  rw [show evalV (woT (f : Int) t) r = evB (wo (f : Int) (bt t 0)) r from (lay_eval b a hr).2, wo_ev hf _ ok]
  refine (eval_bt ?_).symm
  rw [ready_tree (row_nil f hr), List.length_set]
  exact h
theorem woG_eval {g : Gv} {r : List Int} {f : Nat} (hf : f < r.length) (h : Good g) (hr : rowF r = 0) (hm : (r.length : Int) = gf g) : evalG (woG g (f : Int)) r = evalG g (r.set f nilI) := by
  have s1 : standF (woG g (f : Int)) r = 0 := stand_of (woG_good _ h) hr hm
  have s2 : standF g (r.set f nilI) = 0 := stand_of h (row_nil f hr) (by rw [List.length_set]; exact hm)
  unfold evalG
  rw [if_pos s1, if_pos s2]
  show together (gw g) (gs g) _ = _
  congr 1
  show ((gt g).map (woT (f : Int))).map (fun t => evalV t r) = (gt g).map fun t => evalV t (r.set f nilI)
  rw [List.map_map]
  exact List.map_congr_left fun t ht => woT_eval hf (by rw [hm]; exact h.trees t ht) hr
/-- what package weigh answers -/
def usV (g : Gv) : List Us := if groveF g = 0 then usesV (gt g) else []
def gnV (t : List Nd) (l : List Sa) : List Us := if rdyF t l = 0 then gainsV t l else []
def woF (g : Gv) (f : Int) : Int := if groveF g ≠ 0 then groveF g else if f < 0 ∨ gf g ≤ f then 1 else 0
def woV (g : Gv) (f : Int) : Gv := if woF g f = 0 then woG g f else (0, 0, [], [])
theorem wo_fine {g : Gv} {f : Int} (h : woF g f = 0) : Good g ∧ 0 ≤ f ∧ f < gf g ∧ woV g f = woG g f := by
  have e : woV g f = woG g f := by unfold woV; rw [if_pos h]
  unfold woF at h
  split at h
  · rename_i c; exact absurd h c
  · rename_i c
    have c0 : groveF g = 0 := by omega
    split at h
    · omega
    · exact ⟨(good_iff g).1 c0, by omega, by omega, e⟩
theorem wo_grove {g : Gv} {f : Int} (h : woF g f = 0) : groveF (woV g f) = 0 := by
  obtain ⟨a, _, _, e⟩ := wo_fine h
  rw [e]
  exact (good_iff _).2 (woG_good f a)

end Go.Proofs.YtlloiccodjnkcagGreatDoor.M

namespace Go.Proofs.YtlloiccodjnkcagGreatDoor.M
set_option linter.unusedVariables false

theorem askN_app (a b : List Nd) : askN (a ++ b) = askN a + askN b := by
  induction a with
  | nil => show askN b = 0 + askN b; omega
  | cons n a ih => show (if nf n = -1 then 0 else 1) + askN (a ++ b) = (if nf n = -1 then 0 else 1) + askN a + askN b; rw [ih]; omega
theorem asks_take (t : List Nd) : ∀ k, k ≤ t.length → askN (t.take k) = asks t k
  | 0, _ => by simp [askN, asks]
  | k + 1, h => by
    have ih := asks_take t k (by omega)
    have hk : k < t.length := by omega
    rw [List.take_add_one, List.getElem?_eq_getElem hk, Option.toList_some, askN_app, ih]
    have e := nAt_eq hk
    show asks t k + ((if nf t[k] = -1 then 0 else 1) + 0) = asks t k + if nf (nAt t k) = -1 then 0 else 1
    rw [← e, Nat.add_zero]
theorem ask_half {t : List Nd} {m : Int} (F : Fair t m) : 2 * askN t + 1 = t.length := by
  have h1 := halves F
  have h2 := lvs_asks t t.length
  have h3 := asks_take t t.length (Nat.le_refl _)
  rw [List.take_length] at h3
  omega
theorem prun_ask {t : List Nd} {m : Int} (h : (treeF t m).2 = 0) : askN (prunV t m) ≤ askN t := by
  obtain ⟨h1, h2⟩ := prun_tree h
  have a := ask_half (tree_ok h).1
  have b := ask_half (tree_ok h1).1
  omega
theorem prun_askG {m : Int} : ∀ l : List (List Nd), (∀ t ∈ l, (treeF t m).2 = 0) → askG (l.map fun t => prunV t m) ≤ askG l
  | [], _ => Nat.le_refl _
  | t :: l, h => by
    have a := prun_ask (h t (List.mem_cons_self ..))
    have b := prun_askG l fun x hx => h x (List.mem_cons_of_mem _ hx)
    show askN (prunV t m) + askG (l.map fun t => prunV t m) ≤ askN t + askG l
    omega
theorem fair_asks {l : List (List Nd)} {m : Int} (h : ∀ t ∈ l, (treeF t m).2 = 0) : ∀ t ∈ l, ∀ n ∈ t, nf n = -1 ∨ (0 ≤ nf n ∧ nf n < 8) := fun t ht n hn => by
  have F := (tree_ok (h t ht)).1
  obtain ⟨j, hj, rfl⟩ := List.getElem_of_mem hn
  by_cases z : nf t[j] = -1
  · exact .inl z
  · have e := nAt_eq hj
    have := node_ask (F.2.2.2.2.1 j hj) (by rw [e]; exact z)
    rw [e] at this
    have := F.2.2.2.1
    exact .inr (by omega)
/-- pruned, a grove asks no more -/
theorem prun_uses {l : List (List Nd)} {m : Int} (h : ∀ t ∈ l, (treeF t m).2 = 0) : sumU (usesV (l.map fun t => prunV t m)) ≤ sumU (usesV l) := by
  rw [uses_sum (fair_asks h), uses_sum (fair_asks (m := m) fun t ht => by
    obtain ⟨u, hu, rfl⟩ := List.mem_map.1 ht
    exact (prun_tree (h u hu)).1)]
  have := prun_askG l h
  omega
/-- uses fall -/
theorem uses_fall (l : List (List Nd)) {i : Nat} (h : i + 1 < (usesV l).length) : ((usesV l).getD (i + 1) (0, 0, 0)).2.1 ≤ ((usesV l).getD i (0, 0, 0)).2.1 := by
  have p := (rank_spec (g := false) (useL_rise l)).1
  have q := List.pairwise_iff_getElem.1 p i (i + 1) (by exact Nat.lt_of_succ_lt h) h (by omega)
  rw [usAt _ h, usAt _ (Nat.lt_of_succ_lt h)]
  rcases q with q | ⟨q, _⟩
  · exact Int.le_of_lt q
  · exact Int.le_of_eq q.symm
/-- what is asked for is from 1 to all there is -/
theorem uses_in {l : List (List Nd)} {u : Us} (h : u ∈ usesV l) : 0 ≤ u.1 ∧ u.1 < 8 ∧ 1 ≤ u.2.1 ∧ u.2.2 = 0 := by
  obtain ⟨i, hi, rfl, hz⟩ := uses_mem.1 h
  exact ⟨Int.natCast_nonneg i, (show (i : Int) < 8 by omega), (show (1 : Int) ≤ ((cntG (i : Int) l : Nat) : Int) by omega), rfl⟩
/-- without a feature none asks for it -/
theorem uses_wo {g : Gv} {f : Int} (h : woF g f = 0) : ∀ u ∈ usV (woV g f), u.1 ≠ f := fun u hu => by
  obtain ⟨G, h0, h1, e⟩ := wo_fine h
  have z := wo_grove h
  unfold usV at hu
  rw [if_pos z, e] at hu
  obtain ⟨i, hi, rfl, hz⟩ := uses_mem.1 hu
  obtain ⟨t, ht, hc⟩ := cntG_pos hz
  obtain ⟨s, hs, rfl⟩ := List.mem_map.1 (show t ∈ (gt g).map (woT f) from ht)
  intro q
  have q' : (i : Int) = f := q
  subst q'
  exact hc (cnt_wo (bt s 0))
/-- the laws' own first questions -/
theorem same_fact : sameV [1, 2] [1, 3] = 1 ∧ sameF [1, 2] [1, 3] = 0 := by decide
theorem uses_fact : groveF (1, 1, [1], [[(0, 5, 1, 2, false, 0), (-1, 0, 0, 0, false, 7), (-1, 0, 0, 0, false, 9)]]) = 0 ∧ usV (1, 1, [1], [[(0, 5, 1, 2, false, 0), (-1, 0, 0, 0, false, 7), (-1, 0, 0, 0, false, 9)]]) = [(0, 1, 0)] := by decide
theorem same_sides (a b : List Int) : (sameF a b = 0 ↔ sameF b a = 0) ∧ sameV a b = sameV b a ∧ sameV a b ≤ (a.length : Int) := by
  have e : sameF a b = 0 ↔ sameF b a = 0 := by
    unfold sameF
    by_cases c : a.length = b.length
    · rw [c]
    · rw [if_pos c, if_pos (fun q => c q.symm)]
  refine ⟨e, ?_, ?_⟩
  · unfold sameV
    by_cases c : sameF a b = 0
    · rw [if_pos c, if_pos (e.1 c), same_turn]
    · rw [if_neg c, if_neg (fun q => c (e.2 q))]
  · unfold sameV
    have := same_le a b
    split <;> omega
theorem same_own {a : List Int} (h : a.length ≤ 1000) : sameF a a = 0 ∧ sameV a a = (a.length : Int) := by
  have e : sameF a a = 0 := by unfold sameF; rw [if_neg (by omega), if_neg (by omega)]
  exact ⟨e, by unfold sameV; rw [if_pos e, same_self]⟩

end Go.Proofs.YtlloiccodjnkcagGreatDoor.M

namespace Go.Proofs.YtlloiccodjnkcagGreatDoor
set_option linter.unusedVariables false

theorem M.sam_at {l : List M.Sa} {m : Int} (c1 : l.length ≤ 60) (c3 : 0 ≤ m ∧ m ≤ 8) {k : Nat} (hk : k < l.length) (h : ∀ j, j < k → M.sa1F m (M.sAt l j) = 0) (hn : M.sa1F m (M.sAt l k) ≠ 0) : M.samF l m = (k, M.sa1F m (M.sAt l k)) := by
  unfold M.samF
  rw [if_neg (by omega), if_neg (by omega), if_neg (by omega), M.first_hit (k := k) (by show (!decide (M.sa1F m (M.sAt l k) = 0)) = true; rw [decide_eq_false hn]; rfl) (fun j hj => by show (!decide (M.sa1F m (M.sAt l j) = 0)) = false; rw [decide_eq_true (h j hj)]; rfl) hk]
theorem M.sam_all {l : List M.Sa} {m : Int} (c1 : l.length ≤ 60) (c2 : 0 < l.length) (c3 : 0 ≤ m ∧ m ≤ 8) (h : ∀ j, j < l.length → M.sa1F m (M.sAt l j) = 0) : M.samF l m = (0, 0) := by
  unfold M.samF
  rw [if_neg (by omega), if_neg (by omega), if_neg (by omega), M.first_miss (fun j hj => by show (!decide (M.sa1F m (M.sAt l j) = 0)) = false; rw [decide_eq_true (h j hj)]; rfl)]
theorem M.sa1_row {m : Int} {s : M.Sa} (h : M.rowF s.1 ≠ 0) : M.sa1F m s = M.rowF s.1 := by unfold M.sa1F; rw [if_pos h]
theorem M.sa1_tgt {m : Int} {s : M.Sa} (h : M.rowF s.1 = 0) (h2 : s.2 < -1000 ∨ 1000 < s.2) : M.sa1F m s = 1 := by unfold M.sa1F; rw [if_neg (by simp [h]), if_pos h2]
theorem M.sa1_len {m : Int} {s : M.Sa} (h : M.rowF s.1 = 0) (h2 : ¬ (s.2 < -1000 ∨ 1000 < s.2)) (h3 : (s.1.length : Int) ≠ m) : M.sa1F m s = 3 := by unfold M.sa1F; rw [if_neg (by simp [h]), if_neg h2, if_pos h3]
theorem M.sa1_nil {m : Int} {s : M.Sa} (h : M.rowF s.1 = 0) (h2 : ¬ (s.2 < -1000 ∨ 1000 < s.2)) (h3 : (s.1.length : Int) = m) : M.sa1F m s = if M.nilI ∈ s.1 then 5 else 0 := by unfold M.sa1F; rw [if_neg (by simp [h]), if_neg h2, if_neg (by simp [h3])]

end Go.Proofs.YtlloiccodjnkcagGreatDoor

namespace Go.Proofs.YtlloiccodjnkcagGreatDoor
open Go.ChangeShapes Go.WideShapes Go.ChangeAt Go.RowKit
set_option linter.unusedVariables false

theorem rcell_any (x : Int) (w : World) : Calls Tryz.prog 50 #[.int .i64 x] w fun e w' => e = .returned (.bool (!M.outI x)) ∧ w' = w := by
  by_cases h1 : -1000000 ≤ x
  · have E : Hid (decide (x ≤ 1000000) = !M.outI x) := by
      unfold Hid M.outI
      rw [decide_eq_false (show ¬ x < -1000000 by omega), Bool.false_or]
      by_cases h : x ≤ 1000000
      · rw [decide_eq_true h, decide_eq_false (by omega)]; rfl
      · rw [decide_eq_false h, decide_eq_true (by omega)]; rfl
    have h1' : decide (-1000000 ≤ x) = true := decide_eq_true h1
    clear h1
    go_enter Tryz.func50, Tryz.ntmps50
    go_wp2
    go_ret
    exact ⟨ret_bool E.out, rfl⟩
  · have E : Hid (false = !M.outI x) := by
      unfold Hid M.outI
      rw [decide_eq_true (show x < -1000000 by omega)]; rfl
    have h1' : decide (-1000000 ≤ x) = false := decide_eq_false h1
    clear h1
    go_enter Tryz.func50, Tryz.ntmps50
    go_wp2
    go_ret
    exact ⟨ret_bool E.out, rfl⟩

end Go.Proofs.YtlloiccodjnkcagGreatDoor

namespace Go.Proofs.YtlloiccodjnkcagGreatDoor
open Go.ChangeShapes Go.WideShapes Go.ChangeAt Go.RowKit
set_option linter.unusedVariables false

theorem none_any (x : Int) (w : World) : Calls Tryz.prog 87 #[.int .i64 x] w fun e w' => e = .returned (.bool (decide (x = M.nilI))) ∧ w' = w := by
  have E : Hid ((x == -1125899906842624) = decide (x = M.nilI)) := by
    unfold Hid
    by_cases h : x = M.nilI
    · rw [decide_eq_true h, beq_iff_eq]; exact h
    · rw [decide_eq_false h, beq_eq_false_iff_ne]; exact h
  go_enter Tryz.func87, Tryz.ntmps87
  go_wp2
  go_ret
  exact ⟨ret_bool E.out, rfl⟩

theorem row_hit {xs : List Int} {k : Nat} (h : k < xs.length) (hl : xs.length ≤ 8) (hb : M.badCell xs[k] = true) : M.rowF xs = 1 := by
  unfold M.rowF
  rw [if_neg (by omega), if_pos]
  rw [List.any_eq_true]; exact ⟨_, List.getElem_mem h, hb⟩
theorem row_miss {xs : List Int} {k : Nat} (hk : xs.length ≤ k) (hl : xs.length ≤ 8) (h : (xs.take k).any M.badCell = false) : M.rowF xs = 0 := by
  unfold M.rowF
  rw [List.take_of_length_le hk] at h
  rw [if_neg (by omega), h]; rfl
theorem row_next {xs : List Int} {k : Nat} (hk : k < xs.length) (h : (xs.take k).any M.badCell = false) (hb : M.badCell xs[k] = false) : (xs.take (k + 1)).any M.badCell = false := by
  rw [List.take_succ_eq_append_getElem hk, List.any_append, h]; simp [hb]

set_option maxHeartbeats 1000000 in
theorem rrow_any (a : Option Addr) (xs : List Int) (cap : Nat) (w : World) (h : Rd w a xs) :
    Calls Tryz.prog 62 #[.slice a xs.length cap] w fun e w' => e = .returned (.int .i64 (M.rowF xs)) ∧ w' = w := by
  obtain ⟨hm, hr⟩ := h
  unfold maxLen at hm
  by_cases h8 : 8 < xs.length
  · have E : Hid (4 = M.rowF xs) := by unfold Hid M.rowF; rw [if_pos h8]
    have hd : decide ((8 : Int) < (xs.length : Int)) = true := decide_eq_true (by omega)
    clear hr
    go_enter Tryz.func62, Tryz.ntmps62
    go_wp2
    go_ret
    exact ⟨ret_int E.out, rfl⟩
  · have hd : decide ((8 : Int) < (xs.length : Int)) = false := decide_eq_false (by omega)
    have RH : Hid (∀ k (h : k < xs.length), M.badCell xs[k] = true → M.rowF xs = 1) := fun k h hb => row_hit h (by omega) hb
    have RM : Hid (∀ k, xs.length ≤ k → (xs.take k).any M.badCell = false → M.rowF xs = 0) := fun k hk h => row_miss hk (by omega) h
    have HR := hide hr
    clear hr
    generalize M.rowF xs = f at *
    go_enter Tryz.func62, Tryz.ntmps62
    go_wp2
    go_loop [3] (fun i => ∃ k : Nat, k ≤ xs.length ∧ i = .int .i64 k ∧ Hid ((xs.take k).any M.badCell = false)) (fun i => xs.length - (intOf i).toNat)
    case atStart => exact ⟨0, Nat.zero_le _, rfl, by unfold Hid; simp⟩
    case round =>
      obtain ⟨k, hk, rfl, I⟩ := hrel
      by_cases hlt : k < xs.length
      · obtain ⟨b, off, rfl, hb, hc⟩ := HR.out (by intro e; subst e; simp at hlt)
        have hck := Rd.at hc k hlt
        have C1 := hide (rcell_any xs[k])
        have C2 := hide (none_any xs[k])
        have NX : Hid (M.badCell xs[k] = false → (xs.take (k + 1)).any M.badCell = false) := fun h => row_next hlt I.out h
        have HT : Hid (M.badCell xs[k] = true → f = 1) := RH.out k hlt
        have BE : Hid (M.badCell xs[k] = (!decide (xs[k] = M.nilI) && M.outI xs[k])) := rfl
        clear hc I
        generalize M.badCell xs[k] = bc at *
        generalize M.outI xs[k] = o at *
        generalize decide (xs[k] = M.nilI) = z at *
        generalize xs[k] = y at *
        cases o with
        | true =>
          cases z with
          | true =>
            have N2 := hide (NX.out BE.out)
            clear NX HT BE
            go_wp2_with (first
              | (go_at_call 50; refine (C1.out _).mono ?_; rintro e w' ⟨rfl, rfl⟩)
              | (go_at_call 87; refine (C2.out _).mono ?_; rintro e w' ⟨rfl, rfl⟩))
            go_round
            case rel => exact ⟨k + 1, by omega, by go_num, N2⟩
            case measure => simp [intOf]; omega
          | false =>
            have E := hide (HT.out BE.out)
            clear NX HT BE
            go_wp2_with (first
              | (go_at_call 50; refine (C1.out _).mono ?_; rintro e w' ⟨rfl, rfl⟩)
              | (go_at_call 87; refine (C2.out _).mono ?_; rintro e w' ⟨rfl, rfl⟩))
            go_ret
            exact ⟨ret_int E.out.symm, rfl⟩
        | false =>
          have N2 := hide (NX.out (by rw [BE.out]; simp))
          clear NX HT BE
          go_wp2_with (first
            | (go_at_call 50; refine (C1.out _).mono ?_; rintro e w' ⟨rfl, rfl⟩)
            | (go_at_call 87; refine (C2.out _).mono ?_; rintro e w' ⟨rfl, rfl⟩))
          go_round
          case rel => exact ⟨k + 1, by omega, by go_num, N2⟩
          case measure => simp [intOf]; omega
      · have E := hide (RM.out k (by omega) I.out)
        go_wp2
        go_ret
        exact ⟨ret_int E.out.symm, rfl⟩

end Go.Proofs.YtlloiccodjnkcagGreatDoor
