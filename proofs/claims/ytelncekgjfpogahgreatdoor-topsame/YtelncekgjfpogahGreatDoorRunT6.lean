/-
  Several texts as one: MathBa, MathBb, MathSc, Sams, MathBd, NdCells, Grown, SaCells, SaPart, GroMean.
-/
import Derived.Test.YtelncekgjfpogahGreatDoorRunT5
import Derived.Test.YtelncekgjfpogahGreatDoorRunT4
import Derived.Test.YtelncekgjfpogahGreatDoorRunT1
import Derived.Deep.AppendLies
import Derived.OwnWalk
namespace Go.Proofs.YtelncekgjfpogahGreatDoor.M
set_option linter.unusedVariables false
def scB (f : Int → Int) : BT → BT
 | .lf v => .lf (f v)
 | .nd a c s l r => .nd a c s (scB f l) (scB f r)
theorem sc_size (f : Int → Int) : ∀ T : BT, (scB f T).size = T.size
 | .lf _ => rfl
 | .nd _ _ _ l r => by unfold scB BT.size; rw [sc_size f l, sc_size f r]
theorem sc_deep (f : Int → Int) : ∀ T : BT, (scB f T).deep = T.deep
 | .lf _ => rfl
 | .nd _ _ _ l r => by unfold scB BT.deep; rw [sc_deep f l, sc_deep f r]
theorem sc_ev (f : Int → Int) (x : List Int) : ∀ T : BT, evB (scB f T) x = f (evB T x)
 | .lf _ => rfl
 | .nd a c s l r => by
   have h1 := sc_ev f x l
   have h2 := sc_ev f x r
   show (if goes a c s x = true then evB (scB f l) x else evB (scB f r) x) = f (if goes a c s x = true then evB l x else evB r x)
   split
   · exact h1
   · exact h2
def inV (B : Int) : BT → Prop
 | .lf v => -B ≤ v ∧ v ≤ B
 | .nd _ _ _ l r => inV B l ∧ inV B r
theorem sc_ok {f : Int → Int} {B m : Int} (hf : ∀ v, -B ≤ v → v ≤ B → outI (f v) = false) : ∀ T : BT, okB m T → inV B T → okB m (scB f T)
 | .lf v, _, h => hf v h.1 h.2
 | .nd a c s l r, h, k => ⟨h.1, h.2.1, h.2.2.1, sc_ok hf l h.2.2.2.1 k.1, sc_ok hf r h.2.2.2.2 k.2⟩
theorem sc_in {f : Int → Int} {B C : Int} (hf : ∀ v, -B ≤ v → v ≤ B → -C ≤ f v ∧ f v ≤ C) : ∀ T : BT, inV B T → inV C (scB f T)
 | .lf v, h => hf v h.1 h.2
 | .nd a c s l r, k => ⟨sc_in hf l k.1, sc_in hf r k.2⟩
theorem in_ev {B : Int} (x : List Int) : ∀ T : BT, inV B T → -B ≤ evB T x ∧ evB T x ≤ B
 | .lf v, h => h
 | .nd a c s l r, h => by
   have h1 := in_ev x l h.1
   have h2 := in_ev x r h.2
   show -B ≤ (if goes a c s x = true then evB l x else evB r x) ∧ (if goes a c s x = true then evB l x else evB r x) ≤ B
   split
   · exact h1
   · exact h2
theorem grow_in {m : Nat} {least : Int} (h1 : 1 ≤ least) : ∀ (d : Nat) {l : List Sa}, GoodS l m → 0 < l.length → inV 1000 (growT m least d l)
 | 0, l, h, hl => mean_in h hl
 | d + 1, l, h, hl => by
   unfold growT
   split
   · rename_i q
     obtain ⟨s1, ⟨i, hi, e⟩, s3, s4, _⟩ := grow_sides h1 hl q
     have n1 : 0 < (partS l (spV l m least).2.2.1 (spV l m least).2.2.2.1 true).length := by unfold nB at s3; omega
     have n2 : 0 < (partS l (spV l m least).2.2.1 (spV l m least).2.2.2.1 false).length := by unfold nB at s4; omega
     exact ⟨grow_in h1 d (h.part _ _ _) n1, grow_in h1 d (h.part _ _ _) n2⟩
   · exact mean_in h hl
def scN (f : Int → Int) (n : Nd) : Nd := (nf n, nc n, nl n, nr n, ns n, f (nv n))
theorem sc_lay {f : Int → Int} (h0 : f 0 = 0) : ∀ (T : BT) (k : Nat), lay (scB f T) k = (lay T k).map (scN f)
 | .lf v, k => rfl
 | .nd a c s l r, k => by
   show (a, c, ((k + 1 : Nat) : Int), ((k + 1 + (scB f l).size : Nat) : Int), s, 0) :: (lay (scB f l) (k + 1) ++ lay (scB f r) (k + 1 + (scB f l).size)) = ((a, c, ((k + 1 : Nat) : Int), ((k + 1 + l.size : Nat) : Int), s, 0) :: (lay l (k + 1) ++ lay r (k + 1 + l.size))).map (scN f)
   rw [sc_size, sc_lay h0 l, sc_lay h0 r, List.map_cons, List.map_append]
   congr 1
   show _ = (a, c, ((k + 1 : Nat) : Int), ((k + 1 + l.size : Nat) : Int), s, f 0)
   rw [h0]
def fitT (x : Int) : Int := if 1000 < x then 1000 else if x < -1000 then -1000 else x
theorem fit_in (x : Int) : -1000 ≤ fitT x ∧ fitT x ≤ 1000 := by unfold fitT; split <;> (try split) <;> omega
def lesS : List Sa → List Int → List Sa
 | s :: l, x :: r => (s.1, fitT x) :: lesS l r
 | _, _ => []
theorem les_len : ∀ (l : List Sa) (r : List Int), r.length = l.length → (lesS l r).length = l.length
 | [], [], _ => rfl
 | s :: l, x :: r, h => by
   show (lesS l r).length + 1 = l.length + 1
   rw [les_len l r (by simpa using h)]
 | [], _ :: _, h => by simp at h
 | _ :: _, [], h => by simp at h
theorem les_mem : ∀ (l : List Sa) (r : List Int) (s : Sa), s ∈ lesS l r → -1000 ≤ s.2 ∧ s.2 ≤ 1000 ∧ ∃ u ∈ l, s.1 = u.1
 | [], r, s, h => by unfold lesS at h; cases h
 | u :: l, [], s, h => by unfold lesS at h; cases h
 | u :: l, x :: r, s, h => by
   rcases List.mem_cons.1 h with rfl | h
   · exact ⟨(fit_in x).1, (fit_in x).2, u, List.mem_cons_self .., rfl⟩
   · obtain ⟨h1, h2, v, hv, e⟩ := les_mem l r s h
     exact ⟨h1, h2, v, List.mem_cons_of_mem _ hv, e⟩
theorem les_good {l : List Sa} {m : Nat} {r : List Int} (h : GoodS l m) (hr : r.length = l.length) : GoodS (lesS l r) m :=
 ⟨by rw [les_len l r hr]; exact h.le, h.m8, fun s hs => by
  obtain ⟨h1, h2, u, hu, e⟩ := les_mem l r s hs
  obtain ⟨z1, z2, z3, z4⟩ := h.each u hu
  rw [e]
  exact ⟨z1, z2, ⟨h1, h2⟩, z4⟩⟩
def shrV (share v : Int) : Int := (v * share).tdiv 100
theorem shr_zero (share : Int) : shrV share 0 = 0 := by unfold shrV; simp
theorem shr_in {share : Int} (h1 : 1 ≤ share) (h2 : share ≤ 100) (v : Int) (a : -1000 ≤ v) (b : v ≤ 1000) : -1000 ≤ shrV share v ∧ shrV share v ≤ 1000 := by
 unfold shrV
 have e1 : v * share ≤ 1000 * share := Int.mul_le_mul_of_nonneg_right b (by omega)
 have e2 : -1000 * share ≤ v * share := Int.mul_le_mul_of_nonneg_right a (by omega)
 have c1 : v * share ≤ 100000 := by omega
 have c2 : -100000 ≤ v * share := by omega
 generalize v * share = x at *
 by_cases hx : 0 ≤ x
 · rw [Int.tdiv_eq_ediv_of_nonneg hx]; omega
 · have : x.tdiv 100 = -((-x) / 100) := by
    rw [← Int.tdiv_eq_ediv_of_nonneg (a := -x) (by omega), Int.neg_tdiv, Int.neg_neg]
   rw [this]; omega
def lessL (T : BT) : List Sa → List Int → List Int
 | s :: l, x :: r => (x - evB T s.1) :: lessL T l r
 | _, _ => []
theorem less_len (T : BT) : ∀ (l : List Sa) (r : List Int), r.length = l.length → (lessL T l r).length = l.length
 | [], [], _ => rfl
 | s :: l, x :: r, h => by
   show (lessL T l r).length + 1 = l.length + 1
   rw [less_len T l r (by simpa using h)]
 | [], _ :: _, h => by simp at h
 | _ :: _, [], h => by simp at h
theorem less_at (T : BT) : ∀ (l : List Sa) (r : List Int), r.length = l.length → ∀ i, i < l.length → (lessL T l r).getD i 0 = r.getD i 0 - evB T (sAt l i).1
 | [], [], _, i, hi => by simp at hi
 | s :: l, x :: r, h, 0, hi => rfl
 | s :: l, x :: r, h, i + 1, hi => less_at T l r (by simpa using h) i (by simpa using hi)
 | [], _ :: _, h, i, hi => by simp at h
 | _ :: _, [], h, i, hi => by simp at h
def sqs : List Int → Int
 | [] => 0
 | x :: r => x * x + sqs r
abbrev BoS := List BT × List Int × Bool
def boT (m dp : Nat) (share : Int) (l : List Sa) (r : List Int) : BT := scB (shrV share) (growT m 1 dp (lesS l r))
def boN (m dp : Nat) (share : Int) (l : List Sa) (st : BoS) : BoS :=
 if st.2.2 = true then st else if sqs st.2.1 ≤ sqs (lessL (boT m dp share l st.2.1) l st.2.1) then (st.1, st.2.1, true) else (st.1 ++ [boT m dp share l st.2.1], lessL (boT m dp share l st.2.1) l st.2.1, false)
def bo0 (l : List Sa) : BoS := ([.lf (meanS l)], l.map (fun s => s.2 - meanS l), false)
def boR (m dp : Nat) (share : Int) (l : List Sa) : Nat → BoS
 | 0 => bo0 l
 | k + 1 => boN m dp share l (boR m dp share l k)
def allB : List BT → List Int → Int
 | [], _ => 0
 | T :: L, x => evB T x + allB L x
theorem allB_app : ∀ (A B : List BT) (x : List Int), allB (A ++ B) x = allB A x + allB B x
 | [], B, x => by show allB B x = 0 + allB B x; omega
 | T :: A, B, x => by
   show evB T x + allB (A ++ B) x = evB T x + allB A x + allB B x
   rw [allB_app A B x]; omega
structure BoI (m dp : Nat) (l : List Sa) (k : Nat) (st : BoS) : Prop where
 t0 : 0 < st.1.length
 tk : st.1.length ≤ k + 1
 each : ∀ T ∈ st.1, okB (m : Int) T ∧ inV 1000 T ∧ T.deep ≤ dp ∧ T.size + 1 ≤ 2 ^ (dp + 1)
 len : st.2.1.length = l.length
 rest : ∀ i, i < l.length → st.2.1.getD i 0 = (sAt l i).2 - allB st.1 (sAt l i).1
theorem pow_one (dp : Nat) : 2 ≤ 2 ^ (dp + 1) := by
 have := Nat.one_le_two_pow (n := dp)
 rw [Nat.pow_succ]; omega
theorem bo_first {m dp : Nat} {l : List Sa} (h : GoodS l m) (hl : 0 < l.length) : BoI m dp l 0 (bo0 l) := by
 have mi := mean_in h hl
 refine ⟨Nat.one_pos, Nat.le_refl _, fun T hT => ?_, by unfold bo0; simp, fun i hi => ?_⟩
 · have : T = .lf (meanS l) := by unfold bo0 at hT; simpa using hT
   subst this
   exact ⟨out_in (by omega) (by omega), mi, Nat.zero_le _, pow_one dp⟩
 · show (l.map (fun s => s.2 - meanS l)).getD i 0 = (sAt l i).2 - (meanS l + 0)
   unfold sAt
   rw [getD_at (by simpa using hi), getD_at hi, List.getElem_map]; omega
theorem bo_next {m dp k : Nat} {share : Int} {l : List Sa} {st : BoS} (h : GoodS l m) (hl : 0 < l.length) (s1 : 1 ≤ share) (s2 : share ≤ 100) (I : BoI m dp l k st) : BoI m dp l (k + 1) (boN m dp share l st) := by
 unfold boN
 have up : BoI m dp l (k + 1) st := ⟨I.t0, by have := I.tk; omega, I.each, I.len, I.rest⟩
 split
 · exact up
 · split
   · exact ⟨up.t0, up.tk, up.each, up.len, up.rest⟩
   · have G := les_good h I.len
     have ll : 0 < (lesS l st.2.1).length := by rw [les_len l _ I.len]; exact hl
     have gi := grow_in (m := m) (least := 1) (Int.le_refl _) dp G ll
     have go := grow_ok (m := m) (least := 1) (Int.le_refl _) dp G ll
     have gd := grow_deep m 1 dp (lesS l st.2.1)
     have bi : inV 1000 (boT m dp share l st.2.1) := sc_in (fun v a b => shr_in s1 s2 v a b) _ gi
     refine ⟨by simp, by simp; have := I.tk; omega, fun T hT => ?_, less_len _ l _ I.len, fun i hi => ?_⟩
     · rcases List.mem_append.1 hT with q | q
       · exact I.each T q
       · have : T = boT m dp share l st.2.1 := by simpa using q
         subst this
         refine ⟨sc_ok (fun v a b => ?_) _ go gi, bi, ?_, ?_⟩
         · have := shr_in s1 s2 v a b
           exact out_in (by omega) (by omega)
         · unfold boT; rw [sc_deep]; exact gd.1
         · unfold boT; rw [sc_size]; exact gd.2
     · rw [less_at _ l _ I.len i hi, I.rest i hi, allB_app]
       show _ = _ - (allB st.1 _ + (evB (boT m dp share l st.2.1) _ + 0))
       omega
theorem bo_all {m dp : Nat} {share : Int} {l : List Sa} (h : GoodS l m) (hl : 0 < l.length) (s1 : 1 ≤ share) (s2 : share ≤ 100) : ∀ k, BoI m dp l k (boR m dp share l k)
 | 0 => bo_first h hl
 | k + 1 => bo_next h hl s1 s2 (bo_all h hl s1 s2 k)
def tmN (n : Nat) (v : Int) : Int := v * (n : Int)
theorem tm_zero (n : Nat) : tmN n 0 = 0 := by unfold tmN; simp
theorem tm_in {n : Nat} (hn : n ≤ 9) (v : Int) (a : -1000 ≤ v) (b : v ≤ 1000) : -9000 ≤ tmN n v ∧ tmN n v ≤ 9000 := by
 unfold tmN
 have e1 : v * (n : Int) ≤ 1000 * (n : Int) := Int.mul_le_mul_of_nonneg_right b (Int.natCast_nonneg n)
 have e2 : -1000 * (n : Int) ≤ v * (n : Int) := Int.mul_le_mul_of_nonneg_right a (Int.natCast_nonneg n)
 omega
def boL (n : Nat) (T : BT) : List Nd := lay (scB (tmN n) T) 0
def boG (m : Int) (L : List BT) : Gv := (m, 2, List.replicate L.length 1, L.map (boL L.length))
structure BoL (m : Int) (L : List BT) : Prop where
 m0 : 0 ≤ m
 m8 : m ≤ 8
 t0 : 0 < L.length
 t9 : L.length ≤ 9
 each : ∀ T ∈ L, okB m T ∧ inV 1000 T ∧ T.deep ≤ 4 ∧ T.size ≤ 31
theorem boL_tree {m : Int} {L : List BT} (h : BoL m L) {T : BT} (hT : T ∈ L) : (treeF (boL L.length T) m).2 = 0 ∧ okB m (scB (tmN L.length) T) := by
 obtain ⟨h1, h2, h3, h4⟩ := h.each T hT
 have ok : okB m (scB (tmN L.length) T) := sc_ok (fun v a b => by have := tm_in h.t9 v a b; exact out_in (by omega) (by omega)) T h1 h2
 exact ⟨lay_tree ok h.m0 h.m8 (by rw [sc_size]; omega) (by rw [sc_deep]; omega), ok⟩
theorem boG_good {m : Int} {L : List BT} (h : BoL m L) : Good (boG m L) := by
 refine ⟨h.m0, h.m8, by show (1 : Int) ≤ 2; decide, by show (2 : Int) ≤ 3; decide, ?_, ?_, ?_, ?_, ?_⟩
 · show 0 < (L.map _).length; rw [List.length_map]; exact h.t0
 · show (L.map _).length ≤ 12; rw [List.length_map]; have := h.t9; omega
 · show (List.replicate L.length (1 : Int)).length = (L.map _).length; rw [List.length_map, List.length_replicate]
 · intro w hw
   have : w = 1 := (List.mem_replicate.1 (show w ∈ List.replicate L.length (1 : Int) from hw)).2
   omega
 · intro t ht
   obtain ⟨T, hT, rfl⟩ := List.mem_map.1 (show t ∈ L.map (boL L.length) from ht)
   exact (boL_tree h hT).1
theorem sumK_ones {l : List Int} {n : Nat} : ∀ k, k ≤ l.length → k ≤ n → sumK l (List.replicate n 1) k = (l.take k).sum
 | 0, _, _ => by simp [sumK]
 | k + 1, h, hn => by
   have ih := sumK_ones (l := l) (n := n) k (by omega) (by omega)
   unfold sumK
   rw [ih, getD_at (show k < (List.replicate n (1 : Int)).length by rw [List.length_replicate]; omega), List.getElem_replicate, getD_at (by omega), List.take_succ_eq_append_getElem (by omega), List.sum_append]
   simp
theorem allK_ones {n : Nat} : ∀ k, k ≤ n → allK (List.replicate n 1) k = (k : Nat)
 | 0, _ => rfl
 | k + 1, hn => by
   have ih := allK_ones (n := n) k (by omega)
   unfold allK
   rw [ih, getD_at (show k < (List.replicate n (1 : Int)).length by rw [List.length_replicate]; omega), List.getElem_replicate]
   omega
theorem sum_tm (n : Nat) (x : List Int) : ∀ L : List BT, (L.map (fun T => tmN n (evB T x))).sum = allB L x * (n : Int)
 | [] => by show (0 : Int) = 0 * _; simp
 | T :: L => by
   have ih := sum_tm n x L
   show tmN n (evB T x) + (L.map _).sum = (evB T x + allB L x) * (n : Int)
   rw [ih, Int.add_mul]; rfl
theorem boG_eval {m : Int} {L : List BT} (h : BoL m L) {x : List Int} (hx : rowF x = 0) (hm : (x.length : Int) = m) : evalG (boG m L) x = allB L x := by
 have hs : standF (boG m L) x = 0 := stand_of (boG_good h) hx hm
 have he : eachL (boG m L) x = L.map (fun T => tmN L.length (evB T x)) := by
  show (L.map (boL L.length)).map (fun t => evalV t x) = _
  rw [List.map_map]
  refine List.map_congr_left (fun T hT => ?_)
  obtain ⟨t1, t2⟩ := boL_tree h hT
  rw [← hm] at t1 t2
  have := (lay_eval t2 t1 hx).2
  show evalV (lay (scB (tmN L.length) T) 0) x = _
  rw [this, sc_ev]
 unfold evalG
 rw [if_pos hs, he]
 show together 2 (List.replicate L.length 1) _ = _
 unfold together
 rw [if_neg (by decide), if_pos rfl, List.length_map, sumK_ones _ (by rw [List.length_map]; exact Nat.le_refl _) (Nat.le_refl _), allK_ones _ (Nat.le_refl _), List.take_of_length_le (by rw [List.length_map]; exact Nat.le_refl _), sum_tm]
 have := h.t0
 exact Int.mul_ediv_cancel _ (by omega)
def sqF (r : List Int) : Int := totalI (r.map fun x => mulI x x)
theorem mulI_sq {x : Int} (h1 : -1000000 ≤ x) (h2 : x ≤ 1000000) : mulI x x = x * x ∧ 0 ≤ x * x ∧ x * x ≤ 1000000000000 := by
 have e := Int.natAbs_mul_self' x
 have b : x.natAbs ≤ 1000000 := by omega
 have := Nat.mul_le_mul b b
 have e2 : ((x.natAbs * x.natAbs : Nat) : Int) = x * x := by simp
 have q : 0 ≤ x * x ∧ x * x ≤ 1000000000000 := by omega
 refine ⟨?_, q⟩
 unfold mulI
 rw [show fitI x = x from fit_id ⟨by omega, by omega⟩]
 exact fit_id ⟨by omega, by omega⟩
theorem sq_from : ∀ (r : List Int) (s : Int), (∀ x ∈ r, -100000 ≤ x ∧ x ≤ 100000) → 0 ≤ s → s + 10000000000 * (r.length : Int) ≤ 1099511627776 → (r.map fun x => mulI x x).foldl addI s = s + sqs r ∧ 0 ≤ sqs r
 | [], s, _, _, _ => ⟨by show s = s + 0; omega, Int.le_refl _⟩
 | x :: r, s, h, h0, hb => by
   obtain ⟨x1, x2⟩ := h x (List.mem_cons_self ..)
   obtain ⟨m1, m2, m3⟩ := mulI_sq (x := x) (by omega) (by omega)
   have m4 : x * x ≤ 10000000000 := by
    have e := Int.natAbs_mul_self' x
    have b : x.natAbs ≤ 100000 := by omega
    have := Nat.mul_le_mul b b
    have e2 : ((x.natAbs * x.natAbs : Nat) : Int) = x * x := by simp
    omega
   rw [List.length_cons] at hb
   have hp : (0 : Int) ≤ (r.length : Int) := Int.natCast_nonneg _
   have hb' : s + 10000000000 * (r.length : Int) + 10000000000 ≤ 1099511627776 := by
    have : (((r.length + 1 : Nat) : Int)) = (r.length : Int) + 1 := by simp
    omega
   have a1 : addI s (mulI x x) = s + x * x := by
    rw [m1]
    unfold addI
    rw [show fitI s = s from fit_id ⟨by omega, by omega⟩, show fitI (x * x) = x * x from fit_id ⟨by omega, by omega⟩]
    exact fit_id ⟨by omega, by omega⟩
   obtain ⟨i1, i2⟩ := sq_from r (s + x * x) (fun y hy => h y (List.mem_cons_of_mem _ hy)) (by omega) (by omega)
   show ((r.map fun x => mulI x x).foldl addI (addI s (mulI x x))) = s + (x * x + sqs r) ∧ 0 ≤ x * x + sqs r
   rw [a1, i1]
   omega
theorem sqF_in {r : List Int} (h : ∀ x ∈ r, -100000 ≤ x ∧ x ≤ 100000) (hl : r.length ≤ 60) : sqF r = sqs r := by
 have := (sq_from r 0 h (Int.le_refl _) (by omega)).1
 unfold sqF totalI
 rw [this]; omega
def restF (g : Gv) (l : List Sa) : Int := if groveF g ≠ 0 then groveF g else (samF l (gf g)).2
def restV (g : Gv) (l : List Sa) : List Int := if restF g l = 0 then l.map (fun s => s.2 - evalG g s.1) else []
def wrgG (g : Gv) (l : List Sa) : Int := if restF g l = 0 then sqF (restV g l) else 0
def booF (l : List Sa) (m r d s : Int) : Int := if (samF l m).2 ≠ 0 then (samF l m).2 else if r < 0 ∨ 8 < r ∨ d < 1 ∨ 4 < d ∨ s < 1 ∨ 100 < s then 1 else 0
def booS (l : List Sa) (m r d s : Int) : BoS := boR m.toNat d.toNat s l r.toNat
def booG (l : List Sa) (m r d s : Int) : Gv := if booF l m r d s = 0 then boG m (booS l m r d s).1 else (0, 0, [], [])
theorem boo_ok {l : List Sa} {m r d s : Int} (h : booF l m r d s = 0) : (samF l m).2 = 0 ∧ 0 ≤ r ∧ r ≤ 8 ∧ 1 ≤ d ∧ d ≤ 4 ∧ 1 ≤ s ∧ s ≤ 100 := by
 unfold booF at h
 by_cases c : (samF l m).2 = 0
 · rw [if_neg (by simp [c])] at h
   by_cases k : r < 0 ∨ 8 < r ∨ d < 1 ∨ 4 < d ∨ s < 1 ∨ 100 < s
   · rw [if_pos k] at h; cases h
   · exact ⟨c, by omega, by omega, by omega, by omega, by omega, by omega⟩
 · rw [if_pos c] at h; exact absurd h c
theorem boo_inv {l : List Sa} {m r d s : Int} (h : booF l m r d s = 0) : BoI m.toNat d.toNat l r.toNat (booS l m r d s) ∧ BoL m (booS l m r d s).1 := by
 obtain ⟨h1, r0, r8, d1, d4, s1, s2⟩ := boo_ok h
 obtain ⟨G, hl, hm, _⟩ := sam_ok h1
 have I := bo_all (m := m.toNat) (dp := d.toNat) (share := s) G hl s1 s2 r.toNat
 refine ⟨I, ⟨by omega, by have := G.m8; omega, I.t0, by have := I.tk; unfold booS; omega, fun T hT => ?_⟩⟩
 obtain ⟨e1, e2, e3, e4⟩ := I.each T hT
 rw [hm] at e1
 have d4' : d.toNat ≤ 4 := by omega
 have p : 2 ^ (d.toNat + 1) ≤ 2 ^ (4 + 1) := Nat.pow_le_pow_right (by omega) (by omega)
 exact ⟨e1, e2, by omega, by omega⟩
theorem allB_in {x : List Int} : ∀ {L : List BT}, (∀ T ∈ L, inV 1000 T) → -1000 * (L.length : Int) ≤ allB L x ∧ allB L x ≤ 1000 * (L.length : Int)
 | [], _ => by show _ ≤ (0 : Int) ∧ (0 : Int) ≤ _; simp
 | T :: L, h => by
   have ih := allB_in (x := x) (L := L) fun U hU => h U (List.mem_cons_of_mem _ hU)
   have := in_ev x T (h T (List.mem_cons_self ..))
   show _ ≤ evB T x + allB L x ∧ evB T x + allB L x ≤ _
   rw [List.length_cons]
   omega
theorem boo_rest {l : List Sa} {m r d s : Int} (h : booF l m r d s = 0) : restF (booG l m r d s) l = 0 ∧ restV (booG l m r d s) l = (booS l m r d s).2.1 ∧ wrgG (booG l m r d s) l = sqs (booS l m r d s).2.1 ∧ groveF (booG l m r d s) = 0 := by
 obtain ⟨h1, r0, r8, d1, d4, s1, s2⟩ := boo_ok h
 obtain ⟨G, hl, hm, _⟩ := sam_ok h1
 obtain ⟨I, B⟩ := boo_inv h
 have eg : booG l m r d s = boG m (booS l m r d s).1 := by unfold booG; rw [if_pos h]
 have gz : groveF (booG l m r d s) = 0 := by rw [eg]; exact (good_iff _).2 (boG_good B)
 have f0 : restF (booG l m r d s) l = 0 := by
  unfold restF
  rw [if_neg (by simp [gz]), eg]
  exact h1
 have rv : restV (booG l m r d s) l = (booS l m r d s).2.1 := by
  unfold restV
  rw [if_pos f0]
  refine List.ext_getElem (by rw [List.length_map]; exact I.len.symm) fun i q1 q2 => ?_
  have hi : i < l.length := by rw [List.length_map] at q1; exact q1
  have e := I.rest i hi
  rw [getD_at q2] at e
  have es : sAt l i = l[i] := by unfold sAt; rw [getD_at hi]
  rw [es] at e
  obtain ⟨z1, z2, z3, z4⟩ := G.each l[i] (List.getElem_mem hi)
  have ev := boG_eval B z1 (by omega)
  rw [← eg] at ev
  rw [List.getElem_map, e, ev]
 refine ⟨f0, rv, ?_, gz⟩
 unfold wrgG
 rw [if_pos f0, rv]
 refine sqF_in (fun x hx => ?_) (by rw [I.len]; exact G.le)
 obtain ⟨i, hi, rfl⟩ := List.getElem_of_mem hx
 have hi' : i < l.length := by rw [← I.len]; exact hi
 have e := I.rest i hi'
 rw [getD_at hi] at e
 have es : sAt l i = l[i] := by unfold sAt; rw [getD_at hi']
 rw [es] at e
 have z3 := (G.each l[i] (List.getElem_mem hi')).2.2.1
 have q := allB_in (x := l[i].1) (L := (booS l m r d s).1) fun T hT => (B.each T hT).2.1
 have t9 := B.t9
 omega
end Go.Proofs.YtelncekgjfpogahGreatDoor.M
namespace Go.Proofs.YtelncekgjfpogahGreatDoor
open Go.ChangeShapes Go.WideShapes Go.ChangeAt Go.RowKit Go.Deep
set_option linter.unusedVariables false
abbrev Sx := Option Addr × List Int × Nat × Int
def sxV (x : Sx) : Value := .slice x.1 x.2.1.length x.2.2.1
def sm (x : Sx) : M.Sa := (x.2.1, x.2.2.2)
def sms (xs : List Sx) : List M.Sa := xs.map sm
theorem sms_len (xs : List Sx) : (sms xs).length = xs.length := by simp [sms]
theorem sms_at (xs : List Sx) {k : Nat} (h : k < xs.length) : M.sAt (sms xs) k = sm xs[k] := by
 unfold M.sAt; rw [M.getD_at (by rw [sms_len]; exact h)]; simp [sms]
def RdL (w : World) (a : Option Addr) (xs : List Sx) : Prop :=
 xs.length ≤ maxLen ∧ (∀ x ∈ xs, Rd w x.1 x.2.1) ∧ (xs ≠ [] → ∃ b off, a = some ⟨b, off, none⟩ ∧ b < w.heap.size ∧ ∀ i (h : i < xs.length), w.cell? ⟨b, off + i * 2, none⟩ = some (sxV xs[i]) ∧ w.cell? ⟨b, off + i * 2 + 1, none⟩ = some (.int .i64 xs[i].2.2.2))
theorem RdL.below {w w' : World} {a : Option Addr} {xs : List Sx} (h : RdL w a xs) (hb : Below w.heap.size w w') : RdL w' a xs :=
 ⟨h.1, fun x hx => (h.2.1 x hx).below hb, fun hn => by
  obtain ⟨b, off, e, hl, hc⟩ := h.2.2 hn
  exact ⟨b, off, e, Nat.lt_of_lt_of_le hl hb.size, fun i hi => ⟨(hb.cell (p := ⟨b, off + i * 2, none⟩) hl).trans (hc i hi).1, (hb.cell (p := ⟨b, off + i * 2 + 1, none⟩) hl).trans (hc i hi).2⟩⟩⟩
theorem cellsSam : Tryz.prog.cellsOf 70 = 2 := by kernel_rfl
theorem cellsInts : Tryz.prog.cellsOf 23 = 1 := by kernel_rfl
theorem struct2 {H : Type} {enc : TypeId × Value → H} {P : Program} {w : World} {base : Nat} {spare : Nat → Bool} {held : Bool} {t : TypeId} {f0 f1 : Field} {fuel : Nat} {cs : List Value} {x : DataW H × List MemPlace} (ht : P.underlying t = some (.struct #[f0, f1]))
 (h : DataW.trod enc P w base spare held fuel t cs = some x) :
 ∃ y0 y1 n, DataW.trod enc P w base spare held n f0.type ((cs.drop f0.offset).take (P.cellsOf f0.type)) = some y0 ∧ DataW.trod enc P w base spare held n f1.type ((cs.drop f1.offset).take (P.cellsOf f1.type)) = some y1 := by
 obtain ⟨xs, n, _, rfl, hl, hlen, hf⟩ := DataW.trod_struct ht h
 match xs, hlen with
 | [y0, y1], _ => exact ⟨y0, y1, n, by simpa using hf 0 f0 rfl, by simpa using hf 1 f1 rfl⟩
set_option maxRecDepth 10000 in
theorem open_samples {H : Type} {enc : TypeId × Value → H} {W : World} {base : Nat} {held : Bool} {fuel : Nat} {a : Option Addr} {len cap : Nat} {x : DataW H × List MemPlace}
 (h : DataW.trod enc Tryz.prog W base (fun _ => true) held fuel 22 [.slice a len cap] = some x) : ∃ xs : List Sx, xs.length = len ∧ RdL W a xs := by
 rcases open_slice Tryz.underlying22 h with ⟨hcs, _⟩ | ⟨a', len', cap', m, n, D, Pl, hcs, _, hl, hm, hmm, _, hx⟩
 · cases hcs
   exact ⟨[], rfl, ⟨Nat.zero_le _, (fun k hk => by cases hk), fun h => absurd rfl h⟩⟩
 · cases hcs
   have hlm : len ≤ m := by rw [hmm]; split <;> omega
   have each : ∀ i, i < len → ∃ k : Sx, (W.cell? (a'.add (i * 2)) = some (sxV k) ∧ W.cell? (a'.add (i * 2 + 1)) = some (.int .i64 k.2.2.2)) ∧ Rd W k.1 k.2.1 := by
    intro i hi
    obtain ⟨cs, h1, h2⟩ := hx i (by omega)
    rw [cellsSam] at h1
    obtain ⟨_, hlen, hcell⟩ := World.cells?_some h1
    obtain ⟨y0, y1, k, g0, g1⟩ := struct2 Tryz.underlying70 h2
    rw [cellsInts] at g0
    rw [cellsInt] at g1
    match cs, hlen with
    | [c0, c1], _ =>
      obtain ⟨n1, e1, _⟩ := DataW.trod_int Tryz.underlying3 g1
      simp at e1 g0
      have d0 := hcell 0 (by omega)
      have d1 := hcell 1 (by omega)
      rw [add_add] at d0 d1
      obtain ⟨wa, ws, wc, rfl, hw⟩ : ∃ wa ws wc, c0 = .slice wa (List.length (α := Int) ws) wc ∧ Rd W wa ws := by
       rcases open_ints Tryz.underlying23 Tryz.underlying3 (by kernel_rfl) g0 with ⟨hcs, _⟩ | ⟨x, l, c, zs, hcs, _, hl, hm, hz, _, hcl, hwz⟩
       · cases hcs
         exact ⟨none, [], 0, rfl, ⟨Nat.zero_le _, fun h => absurd rfl h⟩⟩
       · cases hcs
         have y : IsRow .i64 W (some x) l c zs := .inr ⟨_, rfl, hl, hm, by simpa using hz, hcl, hwz⟩
         exact ⟨some x, zs.take l, c, by rw [(rd_of y).2], (rd_of y).1⟩
      exact ⟨(wa, ws, wc, n1), ⟨by simpa [sxV] using d0, by simpa [e1] using d1⟩, hw⟩
   obtain ⟨f, hf⟩ := choose_lt each
   refine ⟨(List.range len).map f, by simp, ⟨by simp; omega, ?_, fun hne => ?_⟩⟩
   · intro k hk
     rw [List.mem_map] at hk
     obtain ⟨i, hi, rfl⟩ := hk
     exact (hf i (by simpa using hi)).2
   · have hp : 0 < len := by
      rcases Nat.eq_zero_or_pos len with h0 | h0
      · subst h0; exact absurd rfl hne
      · exact h0
     obtain ⟨b, off, spot⟩ := a'
     have hspot : spot = none := by
      have := World.cell?_spot (hf 0 hp).1.1
      simpa [Addr.add] using this
     subst hspot
     refine ⟨b, off, rfl, ?_, fun i hi => ?_⟩
     · have := (hf 0 hp).1.1
       rw [add_flat] at this
       exact block_lt_of_cell this
     · have hi' : i < len := by simpa using hi
       obtain ⟨q0, q1⟩ := (hf i hi').1
       rw [add_flat] at q0 q1
       refine ⟨?_, ?_⟩
       · rw [q0]; simp
       · rw [Nat.add_assoc, q1]; simp
end Go.Proofs.YtelncekgjfpogahGreatDoor
namespace Go.Proofs.YtelncekgjfpogahGreatDoor.M
set_option linter.unusedVariables false
theorem bo_round {m dp k : Nat} {share : Int} {l : List Sa} {L : List BT} {R : List Int} {e : Bool} (h : GoodS l m) (hl : 0 < l.length) (s1 : 1 ≤ share) (s2 : share ≤ 100) (hd : dp ≤ 4) (hk : k ≤ 8) (I : BoI m dp l k (L, R, e)) :
 R.length = l.length ∧ (∀ x ∈ R, -10000 ≤ x ∧ x ≤ 10000) ∧ (boT m dp share l R).size ≤ 31 ∧ Fair (lay (boT m dp share l R) 0) (m : Int) ∧ inV 1000 (growT m 1 dp (lesS l R)) ∧ ∀ s ∈ l, nv (nAt (lay (boT m dp share l R) 0) (toD (lay (boT m dp share l R) 0) s.1 0)) = evB (boT m dp share l R) s.1 ∧ -1000 ≤ evB (boT m dp share l R) s.1 ∧ evB (boT m dp share l R) s.1 ≤ 1000 := by
 have rl : R.length = l.length := I.len
 have G := les_good h rl
 have ll : 0 < (lesS l R).length := by rw [les_len l _ rl]; exact hl
 have gi := grow_in (m := m) (least := 1) (Int.le_refl _) dp G ll
 have go := grow_ok (m := m) (least := 1) (Int.le_refl _) dp G ll
 have gd := grow_deep m 1 dp (lesS l R)
 have bi : inV 1000 (boT m dp share l R) := sc_in (fun v a b => shr_in s1 s2 v a b) _ gi
 have bo : okB (m : Int) (boT m dp share l R) := sc_ok (fun v a b => by have := shr_in s1 s2 v a b; exact out_in (by omega) (by omega)) _ go gi
 have p : 2 ^ (dp + 1) ≤ 2 ^ (4 + 1) := Nat.pow_le_pow_right (by omega) (by omega)
 have bs : (boT m dp share l R).size ≤ 31 := by unfold boT; rw [sc_size]; have := gd.2; omega
 have bd : (boT m dp share l R).deep ≤ 4 := by unfold boT; rw [sc_deep]; have := gd.1; omega
 have m8 := h.m8
 have tr : (treeF (lay (boT m dp share l R) 0) (m : Int)).2 = 0 := lay_tree bo (by omega) (by omega) (by omega) (by omega)
 refine ⟨rl, fun x hx => ?_, bs, (tree_ok tr).1, gi, fun s hs => ?_⟩
 · obtain ⟨i, hi, rfl⟩ := List.getElem_of_mem hx
   have hi' : i < l.length := by omega
   have e := I.rest i hi'
   have e2 : R.getD i 0 = R[i] := getD_at hi
   have hm : sAt l i ∈ l := by unfold sAt; rw [getD_at hi']; exact List.getElem_mem hi'
   have t := (h.each _ hm).2.2.1
   have a := allB_in (x := (sAt l i).1) (L := L) (fun T hT => (I.each T hT).2.1)
   have tk : L.length ≤ k + 1 := I.tk
   have e' : R.getD i 0 = (sAt l i).2 - allB L (sAt l i).1 := e
   omega
 · obtain ⟨z1, z2, z3, z4⟩ := h.each s hs
   have q := lay_eval (T := boT m dp share l R) (r := s.1) (by rw [z2]; exact bo) (by rw [z2]; exact tr) z1
   have ev := q.2
   unfold evalV at ev
   rw [if_pos q.1] at ev
   exact ⟨ev, in_ev s.1 _ bi⟩
theorem less_in {T : BT} {l : List Sa} {R : List Int} (h : R.length = l.length) (hR : ∀ x ∈ R, -10000 ≤ x ∧ x ≤ 10000) (hT : ∀ s ∈ l, -1000 ≤ evB T s.1 ∧ evB T s.1 ≤ 1000) : ∀ x ∈ lessL T l R, -100000 ≤ x ∧ x ≤ 100000 := fun x hx => by
 obtain ⟨i, hi, rfl⟩ := List.getElem_of_mem hx
 have ln := less_len T l R h
 have e := less_at T l R h i (by omega)
 rw [getD_at hi, getD_at (by omega)] at e
 have r := hR R[i] (List.getElem_mem _)
 have hm : sAt l i ∈ l := by unfold sAt; rw [getD_at (by omega)]; exact List.getElem_mem _
 have t := hT _ hm
 omega
theorem bo_end {m dp : Nat} {share : Int} {l : List Sa} {k : Nat} {L : List BT} {R : List Int} (h : boR m dp share l k = (L, R, false)) (hq : sqs R ≤ sqs (lessL (boT m dp share l R) l R)) : boR m dp share l (k + 1) = (L, R, true) := by
 show boN m dp share l (boR m dp share l k) = _
 rw [h]
 unfold boN
 rw [if_neg (show ¬ (false = true) by decide), if_pos hq]
theorem bo_on {m dp : Nat} {share : Int} {l : List Sa} {k : Nat} {L : List BT} {R : List Int} (h : boR m dp share l k = (L, R, false)) (hq : ¬ sqs R ≤ sqs (lessL (boT m dp share l R) l R)) : boR m dp share l (k + 1) = (L ++ [boT m dp share l R], lessL (boT m dp share l R) l R, false) := by
 show boN m dp share l (boR m dp share l k) = _
 rw [h]
 unfold boN
 rw [if_neg (show ¬ (false = true) by decide), if_neg hq]
theorem bo_stay {m dp : Nat} {share : Int} {l : List Sa} {k : Nat} (h : (boR m dp share l k).2.2 = true) : ∀ j, boR m dp share l (k + j) = boR m dp share l k
 | 0 => rfl
 | j + 1 => by
   have ih := bo_stay h j
   show boN m dp share l (boR m dp share l (k + j)) = _
   rw [ih]
   unfold boN
   rw [if_pos h]
end Go.Proofs.YtelncekgjfpogahGreatDoor.M
namespace Go.Proofs.YtelncekgjfpogahGreatDoor
open Go.ChangeShapes Go.WideShapes Go.ChangeAt Go.RowKit
set_option linter.unusedVariables false
theorem infoN : (Tryz.prog.info? 86).map (fun i => (i.zero, i.size, i.bytes)) = some (some (.agg #[.int .i64 0, .int .i64 0, .int .i64 0, .int .i64 0, .bool false, .int .i64 0]), 6, 48) := by kernel_rfl
def ndCells (ts : List M.Nd) : List Value := ts.flatMap fun n => [.int .i64 (M.nf n), .int .i64 (M.nc n), .int .i64 (M.nl n), .int .i64 (M.nr n), .bool (M.ns n), .int .i64 (M.nv n)]
theorem ndCells_cons (n : M.Nd) (t : List M.Nd) : ndCells (n :: t) = .int .i64 (M.nf n) :: .int .i64 (M.nc n) :: .int .i64 (M.nl n) :: .int .i64 (M.nr n) :: .bool (M.ns n) :: .int .i64 (M.nv n) :: ndCells t := rfl
theorem ndCells_len (ts : List M.Nd) : (ndCells ts).length = ts.length * 6 := by
 induction ts with
 | nil => rfl
 | cons x t ih => rw [ndCells_cons]; simp only [List.length_cons, ih]; omega
theorem ndCells_one (ts : List M.Nd) : ∀ v ∈ ndCells ts, v.oneCell' = true := by
 intro v hv
 simp only [ndCells, List.mem_flatMap] at hv
 obtain ⟨s, _, hs⟩ := hv
 simp only [List.mem_cons, List.not_mem_nil, or_false] at hs
 rcases hs with rfl | rfl | rfl | rfl | rfl | rfl <;> rfl
theorem ndCells_at : ∀ (ts : List M.Nd) (i : Nat), i < ts.length → (ndCells ts)[i * 6]? = some (.int .i64 (M.nf (M.nAt ts i))) ∧ (ndCells ts)[i * 6 + 1]? = some (.int .i64 (M.nc (M.nAt ts i))) ∧ (ndCells ts)[i * 6 + 2]? = some (.int .i64 (M.nl (M.nAt ts i))) ∧ (ndCells ts)[i * 6 + 3]? = some (.int .i64 (M.nr (M.nAt ts i))) ∧ (ndCells ts)[i * 6 + 4]? = some (.bool (M.ns (M.nAt ts i))) ∧ (ndCells ts)[i * 6 + 5]? = some (.int .i64 (M.nv (M.nAt ts i)))
 | [], i, h => by simp at h
 | s :: t, 0, h => ⟨rfl, rfl, rfl, rfl, rfl, rfl⟩
 | s :: t, i + 1, h => by
   have := ndCells_at t i (by simpa using h)
   have e : M.nAt (s :: t) (i + 1) = M.nAt t i := by simp [M.nAt]
   rw [ndCells_cons, e, show (i + 1) * 6 = i * 6 + 1 + 1 + 1 + 1 + 1 + 1 by omega]
   simpa using this
theorem nd_src {w : World} {b off : Nat} {ts : List M.Nd} (hc : ∀ i, i < ts.length → SixAt w b (off + i * 6) (M.nAt ts i)) : ∀ j u, (ndCells ts)[j]? = some u → w.cell? ((⟨b, off, none⟩ : Addr).add j) = some u := by
 intro j u hj
 have hl : j < ts.length * 6 := by
  have := (List.getElem?_eq_some_iff.1 hj).1
  rwa [ndCells_len] at this
 have hi : j / 6 < ts.length := by omega
 obtain ⟨h0, h1, h2, h3, h4, h5⟩ := hc _ hi
 obtain ⟨q0, q1, q2, q3, q4, q5⟩ := ndCells_at ts _ hi
 rw [add_flat]
 rcases (show j = j / 6 * 6 ∨ j = j / 6 * 6 + 1 ∨ j = j / 6 * 6 + 2 ∨ j = j / 6 * 6 + 3 ∨ j = j / 6 * 6 + 4 ∨ j = j / 6 * 6 + 5 by omega) with e | e | e | e | e | e
 · rw [e] at hj ⊢; rw [q0] at hj; rw [← hj]; simpa [Nat.mul_div_cancel] using h0
 · rw [e] at hj ⊢; rw [show (j / 6 * 6 + 1) = j / 6 * 6 + 1 from rfl] at hj; rw [q1] at hj; rw [← hj, ← Nat.add_assoc]; exact h1
 · rw [e] at hj ⊢; rw [q2] at hj; rw [← hj, ← Nat.add_assoc]; exact h2
 · rw [e] at hj ⊢; rw [q3] at hj; rw [← hj, ← Nat.add_assoc]; exact h3
 · rw [e] at hj ⊢; rw [q4] at hj; rw [← hj, ← Nat.add_assoc]; exact h4
 · rw [e] at hj ⊢; rw [q5] at hj; rw [← hj, ← Nat.add_assoc]; exact h5
theorem own_rdN {w : World} {base n : Nat} {v : Value} {ts : List M.Nd} (hn : ts.length = n) (hm : n ≤ maxLen) (h : w.ownsRow base 86 6 v n (ndCells ts)) : ∃ a cap, v = .slice a n cap ∧ RdN w a ts ∧ (∀ p, a = some p → base ≤ p.block) := by
 subst hn
 rcases h.2 with ⟨hv, h0⟩ | ⟨g, cap, cur, hv, hb, hg, h1, h2, h3, h4⟩
 · have e : ts = [] := List.length_eq_zero_iff.1 h0
   subst e
   exact ⟨none, 0, hv, ⟨Nat.zero_le _, fun h => absurd rfl h⟩, fun p hp => by cases hp⟩
 · subst hv
   refine ⟨_, cap, rfl, ⟨hm, fun _ => ⟨g, 0, rfl, (Array.getElem?_eq_some_iff.1 hg).1, fun i hi => ?_⟩⟩, fun p hp => by cases hp; exact hb⟩
   obtain ⟨q0, q1, q2, q3, q4, q5⟩ := ndCells_at ts i hi
   rw [Nat.zero_add]
   exact ⟨(h.cellAt (i * 6) (by omega)).trans q0, (h.cellAt (i * 6 + 1) (by omega)).trans q1, (h.cellAt (i * 6 + 2) (by omega)).trans q2, (h.cellAt (i * 6 + 3) (by omega)).trans q3, (h.cellAt (i * 6 + 4) (by omega)).trans q4, (h.cellAt (i * 6 + 5) (by omega)).trans q5⟩
theorem ndCells_app (a b : List M.Nd) : ndCells (a ++ b) = ndCells a ++ ndCells b := by unfold ndCells; rw [List.flatMap_append]
theorem ndCells_set2 : ∀ (ts : List M.Nd) (i : Nat), i < ts.length → ∀ l r : Int, ((ndCells ts).set (i * 6 + 2) (.int .i64 l)).set (i * 6 + 3) (.int .i64 r) = ndCells (ts.set i (M.nf (M.nAt ts i), M.nc (M.nAt ts i), l, r, M.ns (M.nAt ts i), M.nv (M.nAt ts i)))
 | [], i, h, l, r => by simp at h
 | n :: t, 0, h, l, r => rfl
 | n :: t, i + 1, h, l, r => by
   have ih := ndCells_set2 t i (by simpa using h) l r
   have e : M.nAt (n :: t) (i + 1) = M.nAt t i := by simp [M.nAt]
   rw [e, List.set_cons_succ, ndCells_cons, ndCells_cons, ← ih, show (i + 1) * 6 + 2 = (i * 6 + 2) + 1 + 1 + 1 + 1 + 1 + 1 by omega, show (i + 1) * 6 + 3 = (i * 6 + 3) + 1 + 1 + 1 + 1 + 1 + 1 by omega]
   simp only [List.set_cons_succ]
theorem ndCells_setL : ∀ (ts : List M.Nd) (i : Nat), i < ts.length → ∀ l : Int, (ndCells ts).set (i * 6 + 2) (.int .i64 l) = ndCells (ts.set i (M.nf (M.nAt ts i), M.nc (M.nAt ts i), l, M.nr (M.nAt ts i), M.ns (M.nAt ts i), M.nv (M.nAt ts i)))
 | [], i, h, l => by simp at h
 | n :: t, 0, h, l => rfl
 | n :: t, i + 1, h, l => by
   have ih := ndCells_setL t i (by simpa using h) l
   have e : M.nAt (n :: t) (i + 1) = M.nAt t i := by simp [M.nAt]
   rw [e, List.set_cons_succ, ndCells_cons, ndCells_cons, ← ih, show (i + 1) * 6 + 2 = (i * 6 + 2) + 1 + 1 + 1 + 1 + 1 + 1 by omega]
   simp only [List.set_cons_succ]
theorem ndCells_setR : ∀ (ts : List M.Nd) (i : Nat), i < ts.length → ∀ r : Int, (ndCells ts).set (i * 6 + 3) (.int .i64 r) = ndCells (ts.set i (M.nf (M.nAt ts i), M.nc (M.nAt ts i), M.nl (M.nAt ts i), r, M.ns (M.nAt ts i), M.nv (M.nAt ts i)))
 | [], i, h, r => by simp at h
 | n :: t, 0, h, r => rfl
 | n :: t, i + 1, h, r => by
   have ih := ndCells_setR t i (by simpa using h) r
   have e : M.nAt (n :: t) (i + 1) = M.nAt t i := by simp [M.nAt]
   rw [e, List.set_cons_succ, ndCells_cons, ndCells_cons, ← ih, show (i + 1) * 6 + 3 = (i * 6 + 3) + 1 + 1 + 1 + 1 + 1 + 1 by omega]
   simp only [List.set_cons_succ]
theorem nAt_snoc (O : List M.Nd) (n : M.Nd) (C : List M.Nd) : M.nAt (O ++ n :: C) O.length = n := by unfold M.nAt; simp [List.getD]
theorem set_snoc (O : List M.Nd) (n n' : M.Nd) (C : List M.Nd) : (O ++ n :: C).set O.length n' = O ++ n' :: C := by
 rw [List.set_append_right _ _ (Nat.le_refl _), Nat.sub_self, List.set_cons_zero]
theorem own_low {w : World} {base base' e size n : Nat} {v : Value} {l : List Value} (hb : base' ≤ base) (h : w.ownsRow base e size v n l) : w.ownsRow base' e size v n l := by
 refine ⟨h.1, ?_⟩
 rcases h.2 with h0 | ⟨g, cap, cur, hv, hg, rest⟩
 · exact .inl h0
 · exact .inr ⟨g, cap, cur, hv, by omega, rest⟩
end Go.Proofs.YtelncekgjfpogahGreatDoor
namespace Go.Proofs.YtelncekgjfpogahGreatDoor
open Go.ChangeShapes Go.WideShapes Go.ChangeAt Go.RowKit Go.Lib
set_option linter.unusedVariables false
def saCells (xs : List Sx) : List Value := xs.flatMap fun x => [sxV x, .int .i64 x.2.2.2]
theorem saCells_snoc (xs : List Sx) (x : Sx) : saCells (xs ++ [x]) = saCells xs ++ [sxV x, .int .i64 x.2.2.2] := by simp [saCells]
theorem saCells_at : ∀ (xs : List Sx) (i : Nat) (h : i < xs.length), (saCells xs)[i * 2]? = some (sxV xs[i]) ∧ (saCells xs)[i * 2 + 1]? = some (.int .i64 xs[i].2.2.2)
 | [], i, h => by simp at h
 | x :: t, 0, h => ⟨rfl, rfl⟩
 | x :: t, i + 1, h => by
   have := saCells_at t i (by simpa using h)
   have e : saCells (x :: t) = sxV x :: .int .i64 x.2.2.2 :: saCells t := rfl
   rw [e, show (i + 1) * 2 = i * 2 + 1 + 1 by omega]
   simpa using this
theorem own_rdL {w : World} {base n : Nat} {v : Value} {xs : List Sx} (hn : xs.length = n) (hm : n ≤ maxLen) (h : w.ownsRow base 70 2 v n (saCells xs)) (hr : ∀ x ∈ xs, Rd w x.1 x.2.1) : ∃ a cap, v = .slice a n cap ∧ RdL w a xs := by
 subst hn
 rcases h.2 with ⟨hv, h0⟩ | ⟨g, cap, cur, hv, hb, hg, h1, h2, h3, h4⟩
 · have e : xs = [] := List.length_eq_zero_iff.1 h0
   subst e
   exact ⟨none, 0, hv, ⟨Nat.zero_le _, hr, fun h => absurd rfl h⟩⟩
 · subst hv
   refine ⟨_, cap, rfl, ⟨hm, hr, fun _ => ⟨g, 0, rfl, (Array.getElem?_eq_some_iff.1 hg).1, fun i hi => ?_⟩⟩⟩
   obtain ⟨q0, q1⟩ := saCells_at xs i hi
   rw [Nat.zero_add]
   exact ⟨(h.cellAt (i * 2) (by omega)).trans q0, (h.cellAt (i * 2 + 1) (by omega)).trans q1⟩
theorem own_any {w : World} {base n e size : Nat} {v : Value} {l : List Value} (h : w.ownsRow base e size v n l) : ∃ va vc, v = .slice va n vc := by
 rcases h.2 with ⟨hv, h0⟩ | ⟨g, cap, cur, hv, _⟩
 · exact ⟨none, 0, by rw [hv, h0]⟩
 · exact ⟨some ⟨g, 0, none⟩, cap, hv⟩
theorem infoSam : (Tryz.prog.info? 70).map (fun i => (i.zero, i.size, i.bytes)) = some (some (.agg #[.slice none 0 0, .int .i64 0]), 2, 32) := by kernel_rfl
structure Ask (xs : List Sx) (m : Nat) : Prop where
 le : xs.length ≤ 60
 row : ∀ x ∈ xs, x.2.1.length = m
 tgt : ∀ x ∈ xs, -1000 ≤ x.2.2.2 ∧ x.2.2.2 ≤ 1000
theorem Ask.of {xs : List Sx} {m : Nat} (h : M.GoodS (sms xs) m) : Ask xs m :=
 ⟨by have := h.le; rw [sms_len] at this; exact this, fun x hx => (h.each (sm x) (List.mem_map.2 ⟨x, hx, rfl⟩)).2.1, fun x hx => (h.each (sm x) (List.mem_map.2 ⟨x, hx, rfl⟩)).2.2.1⟩
theorem Ask.in {xs : List Sx} {m : Nat} (h : Ask xs m) (f : Nat) (c : Int) (b : Bool) (k : Nat) : -60000 ≤ M.sumT (M.partS ((sms xs).take k) f c b) ∧ M.sumT (M.partS ((sms xs).take k) f c b) ≤ 60000 ∧ (M.partS ((sms xs).take k) f c b).length ≤ 60 := by
 have l1 : (M.partS ((sms xs).take k) f c b).length ≤ 60 := by
  refine Nat.le_trans (List.length_filter_le _ _) ?_
  rw [List.length_take, sms_len]
  have := h.le
  omega
 have := M.sum_in (l := M.partS ((sms xs).take k) f c b) fun s hs => by
  have h1 := List.mem_of_mem_take (List.mem_filter.1 hs).1
  obtain ⟨x, hx, rfl⟩ := List.mem_map.1 h1
  exact h.tgt x hx
 omega
def partX (xs : List Sx) (f : Nat) (c : Int) (b : Bool) : List Sx := xs.filter fun x => decide (x.2.1.getD f 0 < c) == b
theorem partX_sms (xs : List Sx) (f : Nat) (c : Int) (b : Bool) : sms (partX xs f c b) = M.partS (sms xs) f c b := by
 unfold sms partX M.partS
 rw [List.filter_map]
 rfl
theorem partX_more (xs : List Sx) (f : Nat) (c : Int) (b : Bool) {k : Nat} (hk : k < xs.length) : partX (xs.take (k + 1)) f c b = if (decide (xs[k].2.1.getD f 0 < c) == b) = true then partX (xs.take k) f c b ++ [xs[k]] else partX (xs.take k) f c b := by
 unfold partX
 rw [List.take_succ_eq_append_getElem hk, List.filter_append]
 by_cases q : (decide (xs[k].2.1.getD f 0 < c) == b) = true
 · rw [if_pos q, List.filter_cons_of_pos (by exact q)]; rfl
 · rw [if_neg q, List.filter_cons_of_neg (by exact q)]; simp
theorem partX_mem {xs : List Sx} {f : Nat} {c : Int} {b : Bool} {x : Sx} (h : x ∈ partX xs f c b) : x ∈ xs := (List.mem_filter.1 h).1
theorem Ask.part {xs : List Sx} {m : Nat} (h : Ask xs m) (f : Nat) (c : Int) (b : Bool) : Ask (partX xs f c b) m :=
 ⟨Nat.le_trans (List.length_filter_le _ _) h.le, fun x hx => h.row x (partX_mem hx), fun x hx => h.tgt x (partX_mem hx)⟩
theorem wrap_in5 (x : Int) (h1 : -9223372036854775808 ≤ x) (h2 : x ≤ 9223372036854775807) : IntKind.i64.wrap x = x := by
 simp [IntKind.wrap, IntKind.bits, IntKind.signed]
 split <;> omega
theorem M.sqR_in {s B : Int} (h1 : -B ≤ s) (h2 : s ≤ B) : 0 ≤ s * s ∧ s * s ≤ B * B := by
 by_cases h : 0 ≤ s
 · exact ⟨Int.mul_nonneg h h, Int.mul_le_mul h2 h2 h (by omega)⟩
 · have e : s * s = (-s) * (-s) := by grind
   rw [e]
   exact ⟨Int.mul_nonneg (by omega) (by omega), Int.mul_le_mul (by omega) (by omega) (by omega) (by omega)⟩
theorem M.mulp_in {a b A B : Int} (h1 : 0 ≤ a) (h2 : a ≤ A) (h3 : 0 ≤ b) (h4 : b ≤ B) : 0 ≤ a * b ∧ a * b ≤ A * B := ⟨Int.mul_nonneg h1 h3, Int.mul_le_mul h2 h4 h3 (by omega)⟩
theorem Ask.two {xs : List Sx} {m : Nat} (h : Ask xs m) (f : Nat) (c : Int) (b : Bool) : -60000 ≤ M.tB (sms xs) f c b ∧ M.tB (sms xs) f c b ≤ 60000 ∧ 0 ≤ M.nB (sms xs) f c b ∧ M.nB (sms xs) f c b ≤ 60 := by
 have := h.in f c b xs.length
 rw [← sms_len xs, List.take_length] at this
 unfold M.tB M.nB
 omega
theorem Ask.all {xs : List Sx} {m : Nat} (h : Ask xs m) (k : Nat) : -60000 ≤ M.sumT ((sms xs).take k) ∧ M.sumT ((sms xs).take k) ≤ 60000 := by
 have l1 : ((sms xs).take k).length ≤ 60 := by
  rw [List.length_take, sms_len]
  have := h.le
  omega
 have := M.sum_in (l := (sms xs).take k) fun s hs => by
  obtain ⟨x, hx, rfl⟩ := List.mem_map.1 (List.mem_of_mem_take hs)
  exact h.tgt x hx
 omega
theorem Ask.ud {xs : List Sx} {m : Nat} (h : Ask xs m) (f : Nat) (c : Int) : (0 ≤ M.spU (sms xs) f c ∧ M.spU (sms xs) f c ≤ 432000000000) ∧ (0 ≤ M.spD (sms xs) f c ∧ M.spD (sms xs) f c ≤ 3600) := by
 obtain ⟨a1, a2, a3, a4⟩ := h.two f c true
 obtain ⟨b1, b2, b3, b4⟩ := h.two f c false
 have s1 := M.sqR_in a1 a2
 have s2 := M.sqR_in b1 b2
 have u1 := M.mulp_in s1.1 s1.2 b3 b4
 have u2 := M.mulp_in s2.1 s2.2 a3 a4
 have d := M.mulp_in a3 a4 b3 b4
 unfold M.spU M.spD
 omega
theorem Ask.st {xs : List Sx} {m : Nat} (h : Ask xs m) (least : Int) : (0 ≤ (M.sp0 (sms xs)).1 ∧ (M.sp0 (sms xs)).1 ≤ 432000000000) ∧ (0 ≤ (M.sp0 (sms xs)).2.1 ∧ (M.sp0 (sms xs)).2.1 ≤ 3600) := by
 have := h.all xs.length
 rw [← sms_len xs, List.take_length] at this
 have s := M.sqR_in this.1 this.2
 have := h.le
 have e : (M.sp0 (sms xs)).2.1 = (xs.length : Nat) := by show (((sms xs).length : Nat) : Int) = _; rw [sms_len]
 rw [e]
 refine ⟨⟨s.1, ?_⟩, by omega, by omega⟩
 show M.sumT (sms xs) * M.sumT (sms xs) ≤ _
 omega
def StIn (st : M.SpS) : Prop := (0 ≤ st.1 ∧ st.1 ≤ 432000000000) ∧ (0 ≤ st.2.1 ∧ st.2.1 ≤ 3600)
theorem fit_far (n : Int) (w : World) (h1 : -1000000 ≤ n) (h2 : n ≤ 1000000) :
 Calls Tryz.prog 125 #[.int .i64 n] w fun e w' => e = .returned (.int .i64 n) ∧ w' = w := by
 go_enter Tryz.func125, Tryz.ntmps125
 go_wp2
 go_ret
 exact ⟨rfl, rfl⟩
theorem down_far (a b : Int) (w : World) (hb : 0 < b) (hb2 : b ≤ 9007199254740992) (ha : -9007199254740992 ≤ a) (ha2 : a ≤ 9007199254740992) :
 Calls Tryz.prog 142 #[.int .i64 a, .int .i64 b] w fun e w' => e = .returned (.int .i64 (a / b)) ∧ w' = w := by
 obtain ⟨q1, q2⟩ := M.tdiv_bd a b 9007199254740992 hb ha ha2
 have D := hide (M.down_eq a b hb)
 by_cases h : a.tmod b < 0
 · go_enter Tryz.func142, Tryz.ntmps142
   go_wp2
   go_ret
   exact ⟨ret_int (by rw [← D.out, if_pos h]), rfl⟩
 · go_enter Tryz.func142, Tryz.ntmps142
   go_wp2
   go_ret
   exact ⟨ret_int (by rw [← D.out, if_neg (by omega)]), rfl⟩
theorem fill_step {w wr : World} {B n k : Nat} {F : List Int} {x : Int} (hF : F.length = n) (hk : k < n) (hx : x = F[k])
 (hown : wr.ownsRow B 3 1 (.slice (some ⟨B, 0, none⟩) n n) n ((M.fillI F k).map (Value.int .i64))) (hbl : Below B w wr) :
 (wr.setCell ⟨B, k, none⟩ (.int .i64 x)).ownsRow B 3 1 (.slice (some ⟨B, 0, none⟩) n n) n ((M.fillI F (k + 1)).map (Value.int .i64)) ∧ Below B w (wr.setCell ⟨B, k, none⟩ (.int .i64 x)) := by
 subst hx
 refine ⟨?_, hbl.setCell (Nat.le_refl _) _⟩
 have := (hown.stored k (.int .i64 F[k])).1
 rw [← M.fill_set F k (by omega), List.map_set]
 exact this
set_option maxHeartbeats 1000000 in
theorem counted_far (a : Option Addr) (xs : List Int) (cap : Nat) (w : World) (h : Rd w a xs) (hn : xs.length ≤ 60) (h0 : 0 < xs.length) (hv : ∀ x ∈ xs, -1000000 ≤ x ∧ x ≤ 1000000) :
 Calls Tryz.prog 141 #[.slice a xs.length cap] w fun e w' => e = .returned (.slice (some ⟨w.heap.size, 0, none⟩) xs.length xs.length) ∧
  w'.ownsRow w.heap.size 3 1 (.slice (some ⟨w.heap.size, 0, none⟩) xs.length xs.length) xs.length (xs.map (Value.int .i64)) ∧ Below w.heap.size w w' := by
 obtain ⟨i0, hi, hz0, hz1, hz2⟩ := info_parts info3
 obtain ⟨b, off, rfl, hb, hc⟩ := h.2 (by intro e; rw [e] at h0; simp at h0)
 have HV := hide hv
 have HC := hide hc
 clear h hv hc h0
 have mn : min (xs.length : Int) 1000 = (xs.length : Int) := by omega
 obtain ⟨n, hn'⟩ : ∃ n, n = xs.length := ⟨_, rfl⟩
 have HN := hide hn'
 rw [← hn'] at hn mn ⊢
 have n1000 : ¬ (1000 : Int) < (n : Int) := by omega
 have nle : (n : Int) ≤ 1000 := by omega
 have FA : Hid (M.fillI xs n = xs) := by unfold Hid; rw [hn']; exact M.fill_all xs
 clear hn' mn
 go_enter Tryz.func141, Tryz.ntmps141
 go_wp2_with (at_make; refine wpList_make_full _ rfl (.tmp 7) (.tmp 7) 23 rfl w.heap.size 3 i0 (.int .i64 0) 1 Tryz.underlying23 hi hz0 hz1 .i64 .i64 _ _ n rfl rfl (by omega) (by omega) (by rw [hz2]; omega) (by unfold maxLen; omega) (Nat.le_refl _) ?_; intro w1 hown hgrow)
 rw [made] at hown
 have hB : Hid (Below w.heap.size w w1) := (Below.refl _ w).grown hgrow (Nat.le_refl _) (fun k hk => by cases hk)
 have ho : Hid (w1.ownsRow w.heap.size 3 1 (.slice (some ⟨w.heap.size, 0, none⟩) n n) n ((M.fillI xs 0).map (Value.int .i64))) := by
  unfold Hid; rw [M.fill_zero, ← HN.out]; exact hown
 clear hown hgrow hi hz0 hz1 hz2
 go_loopw [11] (fun i wr => ∃ k : Nat, k ≤ n ∧ i = .int .i64 k ∧ Hid (wr.ownsRow w.heap.size 3 1 (.slice (some ⟨w.heap.size, 0, none⟩) n n) n ((M.fillI xs k).map (Value.int .i64))) ∧ Hid (Below w.heap.size w wr)) (fun i _ => n - (intOf i).toNat)
 case atStart => exact ⟨0, Nat.zero_le _, rfl, ho, hB⟩
 case round =>
  obtain ⟨k, hk, rfl, HO, K⟩ := hrel
  clear ho hB
  by_cases hlt : k < n
  · have kl : k < xs.length := by rw [← HN.out]; exact hlt
    have hck := (K.out.cell (p := ⟨b, off + k, none⟩) hb).trans (Rd.at HC.out k kl)
    have hfz := HO.out.frozenAt k
    have hcell := HO.out.cellAt k (by omega)
    have hlen : k < ((M.fillI xs k).map (Value.int .i64)).length := by rw [List.length_map, M.fill_len _ _ (by omega)]; exact kl
    rw [List.getElem?_eq_getElem hlen] at hcell
    obtain ⟨v0, v1⟩ := HV.out xs[k] (List.getElem_mem kl)
    have HR := hide (fill_step (w := w) HN.out.symm hlt rfl HO.out K.out)
    have nz : xs.length = n := HN.out.symm
    have kz : (k : Int) < (n : Int) := by omega
    have NZ := hide nz
    have kz2 : (k : Int) < (xs.length : Int) := by omega
    clear HC HV HO nz
    generalize xs[k] = v at *
    clear kl
    go_wp2_with (go_at_call 125; refine (fit_far _ _ (by omega) (by omega)).mono ?_; rintro e w' ⟨rfl, rfl⟩)
    go_roundw
    case rel => exact ⟨k + 1, by omega, by go_num, HR.out.1, HR.out.2⟩
    case measure => simp [intOf]; omega
  · have ke : k = n := by omega
    have ho := HO.out
    rw [ke, FA.out] at ho
    have HO2 := hide ho
    clear ho HO ke HC HV
    go_wp2
    go_ret
    exact ⟨rfl, HO2.out, K.out⟩
theorem M.sumL_bd : ∀ {l : List Int}, (∀ x ∈ l, -1000000 ≤ x ∧ x ≤ 1000000) → -1000000 * (l.length : Nat) ≤ l.sum ∧ l.sum ≤ 1000000 * (l.length : Nat)
 | [], _ => by simp
 | x :: l, h => by
   have ih := M.sumL_bd (l := l) fun y hy => h y (List.mem_cons_of_mem _ hy)
   have h1 := h x (List.mem_cons_self ..)
   rw [List.sum_cons, List.length_cons]
   omega
set_option maxHeartbeats 1000000 in
theorem mean_far (a : Option Addr) (xs : List Int) (cap : Nat) (w : World) (h : Rd w a xs) (hn : xs.length ≤ 60) (h0 : 0 < xs.length) (hv : ∀ x ∈ xs, -1000000 ≤ x ∧ x ≤ 1000000) :
 Calls Tryz.prog 119 #[.slice a xs.length cap] w fun e w' => e = .returned (.int .i64 (xs.sum / (xs.length : Nat))) ∧ Below w.heap.size w w' := by
 have C := hide (counted_far a xs cap w h hn h0 hv)
 have SB : Hid (∀ k, -60000000 ≤ (xs.take k).sum ∧ (xs.take k).sum ≤ 60000000) := fun k => by
  have := M.sumL_bd (l := xs.take k) fun x hx => hv x (List.mem_of_mem_take hx)
  have l : (xs.take k).length ≤ 60 := by rw [List.length_take]; omega
  omega
 have SS : Hid (∀ k (hk : k < xs.length), (xs.take (k + 1)).sum = (xs.take k).sum + xs[k]) := fun k hk => by
  rw [List.take_succ_eq_append_getElem hk, List.sum_append]; simp
 have Z : Hid (xs.take xs.length = xs) := List.take_length
 have HV := hide hv
 have hz : ((xs.length : Int) == 0) = false := by rw [beq_eq_false_iff_ne]; omega
 clear h hv
 go_enter Tryz.func119, Tryz.ntmps119
 go_wp2_with (go_at_call 141; refine C.out.mono ?_; rintro e w1 ⟨rfl, hown, hbl⟩)
 have OA := hide (own_at hown rfl)
 have BL := hide hbl
 clear hown C hbl
 go_loop [4, 14] (fun t i => ∃ k : Nat, k ≤ xs.length ∧ i = .int .i64 k ∧ t = .int .i64 (xs.take k).sum) (fun _ i => xs.length - (intOf i).toNat)
 case atStart => exact ⟨0, Nat.zero_le _, rfl, rfl⟩
 case round =>
  obtain ⟨k, hk, rfl, rfl⟩ := hrel
  obtain ⟨s1, s2⟩ := SB.out k
  by_cases hlt : k < xs.length
  · have hck := OA.out k hlt
    have S := hide (SS.out k hlt)
    obtain ⟨v0, v1⟩ := HV.out xs[k] (List.getElem_mem hlt)
    have kz : (k : Int) < (xs.length : Int) := by omega
    clear SS SB OA HV Z
    generalize (xs.take k).sum = s at *
    generalize xs[k] = v at *
    go_wp2
    go_round
    case rel => exact ⟨k + 1, by omega, by go_num, by rw [S.out]⟩
    case measure => simp [intOf]; omega
  · have ke : k = xs.length := by omega
    have E : Hid ((xs.take k).sum = xs.sum) := by unfold Hid; rw [ke, Z.out]
    clear SS SB OA HV Z ke
    generalize (xs.take k).sum = s at *
    have dn := hide (down_far s (xs.length : Nat) w1 (by omega) (by omega) (by omega) (by omega))
    go_wp2_with (go_at_call 142; refine dn.out.mono ?_; rintro e w2 ⟨rfl, e2⟩; have e2' := e2.symm; subst e2')
    go_ret
    exact ⟨ret_int (by rw [E.out]), BL.out⟩
end Go.Proofs.YtelncekgjfpogahGreatDoor
