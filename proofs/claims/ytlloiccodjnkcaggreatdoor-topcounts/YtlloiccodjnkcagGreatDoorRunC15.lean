/-
  Several texts as one: MathU, PSmall, PEnds.
-/
import Derived.Test.YtlloiccodjnkcagGreatDoorRunC8
import Derived.Lib.Join
import Derived.Test.YtlloiccodjnkcagGreatDoorRunC3
import Derived.Test.YtlloiccodjnkcagGreatDoorRunC13
import Derived.RegionTactic
import Derived.Deep.RegionWith
import Derived.Deep.Cut
import Derived.Deep.CutRange
import Derived.Deep.QuietTactic
namespace Go.Proofs.YtlloiccodjnkcagGreatDoor.M
set_option linter.unusedVariables false

/-- who is above node n, looked for from the place behind a downwards -/
def upD (t : List Nd) : Nat → Nat → List Nat
  | n, 0 => []
  | n, a + 1 => if nl (nAt t a) = (n : Int) ∨ nr (nAt t a) = (n : Int) then a :: upD t a a else upD t n a
def upW (t : List Nd) (k : Nat) : List Nat := k :: upD t k k
def wayN (t : List Nd) (k : Nat) : List Int := (upW t k).reverse.map Int.ofNat
theorem upD_zero (t : List Nd) (n : Nat) : upD t n 0 = [] := by unfold upD; rfl
theorem upD_yes {t : List Nd} {n a : Nat} (h : nl (nAt t a) = (n : Int) ∨ nr (nAt t a) = (n : Int)) : upD t n (a + 1) = a :: upD t a a := by rw [upD, if_pos h]
theorem upD_no {t : List Nd} {n a : Nat} (h : ¬ (nl (nAt t a) = (n : Int) ∨ nr (nAt t a) = (n : Int))) : upD t n (a + 1) = upD t n a := by rw [upD, if_neg h]
theorem upD_len (t : List Nd) : ∀ (a n : Nat), (upD t n a).length ≤ a := by
  intro a
  induction a using Nat.strongRecOn with
  | _ a ih =>
    intro n
    rcases a with _ | b
    · rw [upD_zero]; exact Nat.le_refl 0
    · by_cases h : nl (nAt t b) = (n : Int) ∨ nr (nAt t b) = (n : Int)
      · rw [upD_yes h, List.length_cons]; have := ih b (by omega) b; omega
      · rw [upD_no h]; have := ih b (by omega) n; omega
theorem upW_len (t : List Nd) (k : Nat) : (upW t k).length ≤ k + 1 := by unfold upW; rw [List.length_cons]; have := upD_len t k k; omega
theorem upD_mem (t : List Nd) : ∀ (a n : Nat), ∀ x ∈ upD t n a, x < a := by
  intro a
  induction a using Nat.strongRecOn with
  | _ a ih =>
    intro n x hx
    rcases a with _ | b
    · rw [upD_zero] at hx; cases hx
    · by_cases h : nl (nAt t b) = (n : Int) ∨ nr (nAt t b) = (n : Int)
      · rw [upD_yes h] at hx
        rcases List.mem_cons.1 hx with rfl | q
        · omega
        · have := ih b (by omega) b x q; omega
      · rw [upD_no h] at hx; have := ih b (by omega) n x hx; omega

theorem leaf_zero {t : List Nd} {m : Int} (h : Right t m) {i : Nat} (hi : i < t.length) (hl : nf (nAt t i) = -1) : nl (nAt t i) = 0 ∧ nr (nAt t i) = 0 := by
  have := h i hi
  unfold nodeF at this
  rw [if_pos hl] at this
  unfold lfF at this
  split at this
  · cases this
  · split at this
    · cases this
    · rename_i h1 h2
      simp at h1 h2
      omega
theorem upD_up {t : List Nd} {m : Int} (F : Fair t m) {k u : Nat} (hk : k < t.length) (hu : u < t.length) (hc : chL (nAt t u) k) : upD t k k = u :: upD t u u := by
  have hlt : u < k := abv_lt F hk ((abv_iff F hk).2 ⟨hu, hc⟩)
  have step : ∀ d, u + 1 + d ≤ k → upD t k (u + 1 + d) = u :: upD t u u := by
    intro d
    induction d with
    | zero => intro _; exact upD_yes hc.2
    | succ d ih =>
      intro hd
      rw [show u + 1 + (d + 1) = (u + 1 + d) + 1 by omega, upD_no, ih (by omega)]
      intro q
      have hv : u + 1 + d < t.length := by omega
      by_cases hl : nf (nAt t (u + 1 + d)) = -1
      · have := leaf_zero F.2.2.2.2.1 hv hl; omega
      · have := up_one (F.2.2.2.2.2 k (by omega) hk) hu hv hc ⟨hl, q⟩
        omega
  have := step (k - (u + 1)) (by omega)
  rwa [show u + 1 + (k - (u + 1)) = k by omega] at this
theorem way_up_from {t : List Nd} {m : Int} (F : Fair t m) (r : List Int) : ∀ (f i : Nat), i < t.length → t.length ≤ f + i → (upD t i i).reverse ++ way t r i = (upW t (toD t r i)).reverse
  | 0, i, hi, hf => by omega
  | f + 1, i, hi, hf => by
    by_cases hl : nf (nAt t i) = -1
    · rw [way_leaf hi hl, to_leaf hi hl]; unfold upW; simp
    · obtain ⟨k, e, h1, h2⟩ := next_in F.2.2.2.2.1 r hi hl
      have hc : chL (nAt t i) k := ⟨hl, by unfold nextI at e; split at e <;> omega⟩
      rw [way_next F.2.2.2.2.1 hi hl e, to_next F.2.2.2.2.1 hi hl e, ← way_up_from F r f k h2 (by omega), upD_up F h2 hi hc]
      simp
theorem way_up {t : List Nd} {m : Int} (F : Fair t m) (r : List Int) : (way t r 0).map Int.ofNat = wayN t (toD t r 0) := by
  unfold wayN
  rw [← way_up_from F r t.length 0 F.2.1 (by omega), upD_zero]
  rfl
theorem path_up {t : List Nd} {r : List Int} (h : readyF t r = 0) : pathV t r = wayN t (leafV t r) := by
  unfold pathV leafV
  rw [if_pos h, if_pos h]
  exact way_up (tree_ok (ready_ok h).2).1 r

/-- one question's narrowing of a list of spans -/
def stp (t : List Nd) (u k : Nat) (l : List Sp) : List Sp := l.set (nf (nAt t u)).toNat (narrow (nAt t u) (decide (nl (nAt t u) = (k : Int))) (l.getD (nf (nAt t u)).toNat (0, 0, false)))
theorem stp_len (t : List Nd) (u k : Nat) (l : List Sp) : (stp t u k l).length = l.length := by unfold stp; simp
theorem if_min (a b : Int) : (if a < b then a else b) = min a b := by split <;> omega
theorem if_max (a b : Int) : (if a < b then b else a) = max a b := by split <;> omega
theorem narrow_swap (n n' : Nd) (b b' : Bool) (s : Sp) : narrow n b (narrow n' b' s) = narrow n' b' (narrow n b s) := by
  obtain ⟨x, y, z⟩ := s
  unfold narrow
  simp only [if_min, if_max]
  cases b <;> cases b' <;> simp only [if_true, Bool.false_eq_true, if_false, Prod.mk.injEq, true_and] <;> (try refine ⟨?_, ?_⟩) <;> first
    | omega
    | (cases z <;> cases ns n <;> cases ns n' <;> rfl)
theorem stp_swap (t : List Nd) (u k v j : Nat) (l : List Sp) : stp t u k (stp t v j l) = stp t v j (stp t u k l) := by
  unfold stp
  generalize (nf (nAt t u)).toNat = p
  generalize (nf (nAt t v)).toNat = q
  by_cases e : p = q
  · subst e
    by_cases hp : p < l.length
    · rw [gd_self hp, gd_self hp, narrow_swap]; simp
    · simp [List.set_eq_of_length_le (Nat.not_lt.1 hp)]
  · rw [gd_ne e, gd_ne (fun h => e h.symm), List.set_comm _ _ (fun h => e h.symm)]
theorem regD_stp (t : List Nd) (v j : Nat) : ∀ (f k : Nat) (l : List Sp), regD t f k (stp t v j l) = stp t v j (regD t f k l)
  | 0, k, l => rfl
  | f + 1, k, l => by
    unfold regD
    cases abv t k with
    | none => rfl
    | some u =>
      show regD t f u (stp t u k (stp t v j l)) = stp t v j (regD t f u (stp t u k l))
      rw [stp_swap, regD_stp t v j f u]
theorem regD_fuel {t : List Nd} {m : Int} (F : Fair t m) : ∀ (f g k : Nat) (l : List Sp), k < t.length → k < f → k < g → regD t f k l = regD t g k l
  | 0, g, k, l, hk, hf, hg => by omega
  | f + 1, 0, k, l, hk, hf, hg => by omega
  | f + 1, g + 1, k, l, hk, hf, hg => by
    unfold regD
    cases e : abv t k with
    | none => rfl
    | some u =>
      have := abv_lt F hk e
      exact regD_fuel F f g u _ (by omega) (by omega) (by omega)
theorem region_root {t : List Nd} {m : Nat} (F : Fair t (m : Int)) : region t m 0 = List.replicate m all0 := by
  unfold region
  obtain ⟨f, e⟩ : ∃ f, t.length = f + 1 := ⟨t.length - 1, by have := F.2.1; omega⟩
  rw [e]
  unfold regD
  rw [abv_root F]
theorem region_next {t : List Nd} {m : Nat} (F : Fair t (m : Int)) {u k : Nat} (hu : u < t.length) (hk : k < t.length) (hc : chL (nAt t u) k) : region t m k = stp t u k (region t m u) := by
  have ha : abv t k = some u := (abv_iff F hk).2 ⟨hu, hc⟩
  have hlt := abv_lt F hk ha
  unfold region
  obtain ⟨f, e⟩ : ∃ f, t.length = f + 1 := ⟨t.length - 1, by omega⟩
  rw [← regD_stp, regD_fuel F t.length f u _ hu hu (by omega)]
  conv => lhs; rw [e]; unfold regD; rw [ha]
  rfl

/-- narrowed, and brought to one form where no number is left -/
theorem norm_narrow (n : Nd) (b : Bool) (s : Sp) : norm (narrow n b (norm s)) = norm (narrow n b s) := by
  obtain ⟨x, y, z⟩ := s
  unfold norm narrow
  simp only [if_min, if_max]
  by_cases h : y < x
  · rw [if_pos h]
    cases b
    · simp only [Bool.false_eq_true, if_false]
      rw [if_pos (by omega), if_pos (by omega)]
    · simp only [if_true]
      rw [if_pos (by omega), if_pos (by omega)]
  · rw [if_neg h]
theorem map_getD_norm (l : List Sp) {i : Nat} (h : i < l.length) : (l.map norm).getD i (0, 0, false) = norm (l.getD i (0, 0, false)) := by
  rw [getD_at (by simpa using h), getD_at h]; simp
theorem region_norm {t : List Nd} {m : Nat} (F : Fair t (m : Int)) {u k : Nat} (hu : u < t.length) (hk : k < t.length) (hc : chL (nAt t u) k) :
    (region t m k).map norm = ((region t m u).map norm).set (nf (nAt t u)).toNat (norm (narrow (nAt t u) (decide (nl (nAt t u) = (k : Int))) (((region t m u).map norm).getD (nf (nAt t u)).toNat (0, 0, false)))) := by
  rw [region_next F hu hk hc]
  unfold stp
  rw [List.map_set]
  by_cases h : (nf (nAt t u)).toNat < (region t m u).length
  · rw [map_getD_norm _ h, norm_narrow]
  · rw [List.set_eq_of_length_le (by simpa using h), List.set_eq_of_length_le (by simpa using h)]
theorem all_norm (m : Nat) : (List.replicate m all0).map norm = List.replicate m all0 := by
  rw [List.map_replicate]; rfl

/-- neighbours on a way: each is above the next -/
theorem upD_pair {t : List Nd} {m : Int} (F : Fair t m) : ∀ (a n : Nat), n < t.length → a ≤ n → ∀ i x y, (n :: upD t n a)[i]? = some y → (n :: upD t n a)[i + 1]? = some x → x < t.length ∧ y < t.length ∧ chL (nAt t x) y := by
  intro a
  induction a using Nat.strongRecOn with
  | _ a ih =>
    intro n hn han i x y h1 h2
    rcases a with _ | b
    · rw [upD_zero] at h2; simp at h2
    · by_cases h : nl (nAt t b) = (n : Int) ∨ nr (nAt t b) = (n : Int)
      · rw [upD_yes h] at h1 h2
        rcases i with _ | i
        · simp at h1 h2
          subst h1; subst h2
          refine ⟨by omega, hn, ?_, h⟩
          intro q
          have := leaf_zero F.2.2.2.2.1 (show b < t.length by omega) q
          omega
        · simp only [List.getElem?_cons_succ] at h1 h2
          exact ih b (by omega) b (by omega) (Nat.le_refl _) i x y h1 (by simpa using h2)
      · rw [upD_no h] at h1 h2
        exact ih b (by omega) n hn (by omega) i x y h1 h2
theorem upD_last {t : List Nd} {m : Int} (F : Fair t m) : ∀ (k : Nat), k < t.length → (upW t k).getLast? = some 0 := by
  intro k
  induction k using Nat.strongRecOn with
  | _ k ih =>
    intro hk
    rcases Nat.eq_zero_or_pos k with rfl | hp
    · unfold upW; rw [upD_zero]; rfl
    · obtain ⟨u, hu⟩ := abv_some F hk hp
      obtain ⟨h1, h2⟩ := (abv_iff F hk).1 hu
      have hl := abv_lt F hk hu
      have := ih u hl h1
      unfold upW at this ⊢
      rw [upD_up F hk h1 h2, List.getLast?_cons_cons]
      exact this
/-- the places of a way, from the root on -/
def upL (t : List Nd) (k : Nat) : List Nat := (upW t k).reverse
theorem upL_len (t : List Nd) (k : Nat) : 0 < (upL t k).length ∧ (upL t k).length ≤ k + 1 := by
  unfold upL
  rw [List.length_reverse]
  exact ⟨by unfold upW; simp, upW_len t k⟩
theorem upL_first {t : List Nd} {m : Int} (F : Fair t m) {k : Nat} (hk : k < t.length) : (upL t k).getD 0 0 = 0 := by
  have h := upD_last F k hk
  unfold upL
  have : (upW t k).reverse.head? = some 0 := by rw [List.head?_reverse]; exact h
  rw [List.getD_eq_getElem?_getD, ← List.head?_eq_getElem?, this]; rfl
theorem upL_end (t : List Nd) (k : Nat) : (upL t k).getD ((upL t k).length - 1) 0 = k := by
  unfold upL upW
  simp
theorem upL_pair {t : List Nd} {m : Int} (F : Fair t m) {k : Nat} (hk : k < t.length) {i : Nat} (hi : i + 1 < (upL t k).length) :
    (upL t k).getD i 0 < t.length ∧ (upL t k).getD (i + 1) 0 < t.length ∧ chL (nAt t ((upL t k).getD i 0)) ((upL t k).getD (i + 1) 0) := by
  have hl : (upL t k).length = (upW t k).length := by unfold upL; simp
  have e1 : (upW t k)[(upW t k).length - 1 - i]? = some ((upL t k).getD i 0) := by
    unfold upL at hi ⊢
    rw [List.length_reverse] at hi
    rw [List.getD_eq_getElem?_getD, List.getElem?_reverse (by omega), List.getElem?_eq_getElem (by omega)]; rfl
  have e2 : (upW t k)[(upW t k).length - 1 - (i + 1)]? = some ((upL t k).getD (i + 1) 0) := by
    unfold upL at hi ⊢
    rw [List.length_reverse] at hi
    rw [List.getD_eq_getElem?_getD, List.getElem?_reverse (by omega), List.getElem?_eq_getElem (by omega)]; rfl
  have := upD_pair F k k hk (Nat.le_refl _) ((upW t k).length - 1 - (i + 1)) _ _ e2 (by rw [← e1]; congr 1; omega)
  exact this
theorem wayN_at (t : List Nd) (k i : Nat) (h : i < (upL t k).length) : (wayN t k).getD i 0 = ((upL t k).getD i 0 : Nat) := by
  unfold wayN
  show ((upL t k).map Int.ofNat).getD i 0 = _
  rw [getD_at (by simpa using h), getD_at h]
  simp
theorem wayN_len (t : List Nd) (k : Nat) : (wayN t k).length = (upL t k).length := by unfold wayN upL; simp
/-- the place behind a way's node is below it -/
theorem upL_mem {t : List Nd} {k : Nat} (hk : k < t.length) {i : Nat} (hi : i < (upL t k).length) : (upL t k).getD i 0 < t.length := by
  have : (upL t k).getD i 0 ∈ upL t k := by rw [getD_at hi]; exact List.getElem_mem hi
  unfold upL upW at this
  rcases List.mem_cons.1 (List.mem_reverse.1 this) with q | q
  · unfold upL upW; rw [q]; exact hk
  · have := upD_mem t k k _ q; unfold upL upW; omega

/-- one word of a reason -/
def wordN (n : Nd) (r : List Int) : List UInt8 := if nf n = -1 then 61 :: Lib.itoa (nv n) else whyW n (r.getD (nf n).toNat 0)
theorem why_join_from {t : List Nd} {m : Int} (h : Right t m) (r : List Int) : ∀ (f i : Nat), i < t.length → t.length ≤ f + i → why t r i = Lib.join ((way t r i).map fun j => wordN (nAt t j) r) [32]
  | 0, i, hi, hf => by omega
  | f + 1, i, hi, hf => by
    by_cases hl : nf (nAt t i) = -1
    · rw [why_leaf hi hl, way_leaf hi hl]
      show _ = Lib.join [wordN (nAt t i) r] [32]
      rw [Lib.join_one]; unfold wordN; rw [if_pos hl]
    · obtain ⟨k, e, h1, h2⟩ := next_in h r hi hl
      rw [why_next h hi hl e, way_next h hi hl e, why_join_from h r f k h2 (by omega)]
      obtain ⟨l, hw⟩ := way_ne h r h2
      rw [hw, List.map_cons, List.map_cons, Lib.join_cons, Lib.join_cons]
      unfold Lib.joinTail
      have : wordN (nAt t i) r = whyW (nAt t i) (r.getD (nf (nAt t i)).toNat 0) := by unfold wordN; rw [if_neg hl]
      rw [this]; simp
theorem why_join {t : List Nd} {r : List Int} (h : readyF t r = 0) : why t r 0 = Lib.join ((upL t (leafV t r)).map fun j => wordN (nAt t j) r) [32] := by
  have F := (tree_ok (ready_ok h).2).1
  rw [why_join_from F.2.2.2.2.1 r t.length 0 F.2.1 (by omega)]
  have := way_up_from F r t.length 0 F.2.1 (by omega)
  rw [upD_zero] at this
  unfold upL leafV
  rw [if_pos h, ← this]
  rfl

end Go.Proofs.YtlloiccodjnkcagGreatDoor.M

namespace Go.Proofs.YtlloiccodjnkcagGreatDoor
open Go.ChangeShapes Go.WideShapes Go.ChangeAt Go.RowKit Go.Lib
set_option linter.unusedVariables false

theorem nonum_any (s : M.Sp) (w : World) : Calls Tryz.prog 156 #[spV s] w fun e w' => e = .returned (.bool (decide (s.2.1 < s.1))) ∧ Below w.heap.size w w' := by
  obtain ⟨lo, hi, n⟩ := s
  show Calls Tryz.prog 156 #[.agg #[.int .i64 lo, .int .i64 hi, .bool n]] w fun e w' => e = .returned (.bool (decide (hi < lo))) ∧ Below w.heap.size w w'
  go_enter Tryz.func156, Tryz.ntmps156
  go_wp2
  go_ret
  exact ⟨rfl, (Below.refl _ _).alloc (Nat.le_refl _) _⟩

theorem M.has_no (s : M.Sp) : (!M.hasS s) = (decide (s.2.1 < s.1) && !s.2.2) := by
  unfold M.hasS
  by_cases h : s.2.1 < s.1
  · rw [decide_eq_true h, decide_eq_false (show ¬ s.1 ≤ s.2.1 by omega)]; simp
  · rw [decide_eq_false h, decide_eq_true (show s.1 ≤ s.2.1 by omega)]; simp

theorem nothing_any (s : M.Sp) (w : World) : Calls Tryz.prog 147 #[spV s] w fun e w' => e = .returned (.bool (!M.hasS s)) ∧ Below w.heap.size w w' := by
  rw [M.has_no]
  obtain ⟨lo, hi, n⟩ := s
  have C := hide (nonum_any (lo, hi, n))
  unfold spV at C
  show Calls Tryz.prog 147 #[.agg #[.int .i64 lo, .int .i64 hi, .bool n]] w fun e w' => e = .returned (.bool (decide (hi < lo) && !n)) ∧ Below w.heap.size w w'
  have B0 : Hid (∀ o W, Below (w.alloc o).heap.size (w.alloc o) W → Below w.heap.size w W) := fun o W hW => below_on ((Below.refl _ w).alloc (Nat.le_refl _) o) hW
  cases hd : decide (hi < lo) with
  | true =>
    simp only [hd] at C
    clear hd
    have CL : Hid (∀ O W, Below (w.alloc O).heap.size (w.alloc O) W → W.cell? ⟨w.heap.size, 2, none⟩ = (w.alloc O).cell? ⟨w.heap.size, 2, none⟩) := fun O W hW => hW.cell (p := ⟨w.heap.size, 2, none⟩) (by simp)
    cases n <;>
      (go_enter Tryz.func147, Tryz.ntmps147
       go_wp2_with (go_at_call 156; refine (C.out _).mono ?_; rintro e w1 ⟨rfl, hb1⟩; have c1 := CL.out _ _ hb1; rw [World.cell?_alloc_at _ _ _ 2 rfl] at c1; simp at c1)
       go_ret
       exact ⟨rfl, B0.out _ _ hb1⟩)
  | false =>
    simp only [hd] at C
    clear hd
    go_enter Tryz.func147, Tryz.ntmps147
    go_wp2_with (go_at_call 156; refine (C.out _).mono ?_; rintro e w1 ⟨rfl, hb1⟩)
    go_ret
    exact ⟨rfl, B0.out _ _ hb1⟩

theorem M.norm_no {s : M.Sp} (h : s.2.1 < s.1) : M.norm s = (1, 0, s.2.2) := by unfold M.norm; rw [if_pos h]
theorem M.norm_yes {s : M.Sp} (h : ¬ s.2.1 < s.1) : M.norm s = s := by unfold M.norm; rw [if_neg h]

theorem kept_three {w W : World} {a0 a1 a2 z0 z1 z2 : Value} {t u : TypeId} {o2 : Obj} (h : Below (((w.alloc (.cells #[a0, a1, a2] t)).alloc o2).alloc (.cells #[z0, z1, z2] u)).heap.size (((w.alloc (.cells #[a0, a1, a2] t)).alloc o2).alloc (.cells #[z0, z1, z2] u)) W) :
    (W.cell? ⟨w.heap.size, 0, none⟩ = some a0 ∧ W.cell? ⟨w.heap.size, 1, none⟩ = some a1 ∧ W.cell? ⟨w.heap.size, 2, none⟩ = some a2) ∧ (W.cell? ⟨w.heap.size + 1 + 1, 0, none⟩ = some z0 ∧ W.cell? ⟨w.heap.size + 1 + 1, 1, none⟩ = some z1 ∧ W.cell? ⟨w.heap.size + 1 + 1, 2, none⟩ = some z2) ∧
    (∀ j, W.frozen? ⟨w.heap.size, j, none⟩ = false) ∧ ∀ j, W.frozen? ⟨w.heap.size + 1 + 1, j, none⟩ = false := by
  have h1 : W.heap[w.heap.size]? = some (.cells #[a0, a1, a2] t) := by
    rw [h.block w.heap.size (by simp; omega), (((Below.refl _ (w.alloc (.cells #[a0, a1, a2] t))).alloc (Nat.le_refl _) o2).alloc (by simp) (.cells #[z0, z1, z2] u)).block w.heap.size (by simp)]
    exact heap_alloc_new _ _
  have h2 : W.heap[w.heap.size + 1 + 1]? = some (.cells #[z0, z1, z2] u) := by
    rw [h.block (w.heap.size + 1 + 1) (by simp)]
    have e := heap_alloc_new ((w.alloc (.cells #[a0, a1, a2] t)).alloc o2) (.cells #[z0, z1, z2] u)
    have q : ((w.alloc (.cells #[a0, a1, a2] t)).alloc o2).heap.size = w.heap.size + 1 + 1 := by simp
    rw [q] at e
    exact e
  refine ⟨⟨?_, ?_, ?_⟩, ⟨?_, ?_, ?_⟩, ?_, ?_⟩ <;> simp [World.cell?, World.frozen?, h1, h2]

set_option maxHeartbeats 8000000 in
set_option maxRecDepth 10000 in
theorem narrow_any (s : M.Sp) (n : M.Nd) (tt : Int) (w : World) (hc : M.outI (M.nc n) = false) :
    Calls Tryz.prog 150 #[spV s, ndV n, .int .i64 tt] w fun e w' => e = .returned (spV (M.norm (M.narrow n (decide (M.nl n = tt)) s))) ∧ Below w.heap.size w w' := by
  have hq := M.out_false hc
  have C := hide nonum_any
  unfold M.narrow
  unfold spV at C ⊢
  unfold ndV
  obtain ⟨lo, hi, nl⟩ := s
  clear hc
  generalize M.nf n = f at *
  generalize M.nc n = c at *
  generalize M.nl n = l at *
  generalize M.nr n = r at *
  generalize M.ns n = sl at *
  generalize M.nv n = v at *
  obtain ⟨hc1, hc2⟩ := hq
  have B0 : Hid (∀ o1 o2 o3 W, Below (((w.alloc o1).alloc o2).alloc o3).heap.size (((w.alloc o1).alloc o2).alloc o3) W → Below w.heap.size w W) := fun o1 o2 o3 W hW => below_on ((((Below.refl _ w).alloc (Nat.le_refl _) o1).alloc (by simp) o2).alloc (by simp; omega) o3) hW
  by_cases hl : l = tt
  · have ql : (tt == l) = true := by rw [beq_iff_eq]; exact hl.symm
    rw [decide_eq_true hl]
    simp only [if_true]
    clear hl
    cases nl with
    | false =>
      rw [Bool.false_and]
      by_cases hm : c - 1 < hi
      · rw [if_pos hm]
        by_cases he : c - 1 < lo
        · rw [M.norm_no he]
          have C1 := hide (C.out (lo, c - 1, false))
          simp only [decide_eq_true he] at C1
          have q9 : decide (c - 1 < lo) = true := decide_eq_true he
          clear C he
          go_enter Tryz.func150, Tryz.ntmps150
          go_wp2_with (go_at_call 156; refine (C1.out _).mono ?_; rintro e w1 ⟨rfl, hb1⟩; have kt := kept_three hb1; have c0 := kt.1.1; have c1 := kt.1.2.1; have c2 := kt.1.2.2; have d0 := kt.2.1.1; have d1 := kt.2.1.2.1; have d2 := kt.2.1.2.2; have f0 := kt.2.2.1 0; have f1 := kt.2.2.1 1; have f2 := kt.2.2.1 2; have g0 := kt.2.2.2 0; have g1 := kt.2.2.2 1; have g2 := kt.2.2.2 2; clear kt; have HB := hide (B0.out _ _ _ _ hb1); clear hb1)
          refine bodyPost_ret (v := .agg #[.int .i64 (1), .int .i64 (0), .bool (false)]) (by simp [results, Tryz.results150, go_sem, d0, d1, d2]) rfl ⟨rfl, ?_⟩
          exact (((((HB.out.setCell (p := ⟨w.heap.size, 0, none⟩) (by simp; try omega) (.int .i64 1)).setCell (p := ⟨w.heap.size, 1, none⟩) (by simp; try omega) (.int .i64 0)).setCell (p := ⟨w.heap.size + 1 + 1, 0, none⟩) (by simp; try omega) (.int .i64 (1))).setCell (p := ⟨w.heap.size + 1 + 1, 1, none⟩) (by simp; try omega) (.int .i64 (0))).setCell (p := ⟨w.heap.size + 1 + 1, 2, none⟩) (by simp; try omega) (.bool (false)))
        · rw [M.norm_yes he]
          have C1 := hide (C.out (lo, c - 1, false))
          simp only [decide_eq_false he] at C1
          have q9 : decide (c - 1 < lo) = false := decide_eq_false he
          clear C he
          go_enter Tryz.func150, Tryz.ntmps150
          go_wp2_with (go_at_call 156; refine (C1.out _).mono ?_; rintro e w1 ⟨rfl, hb1⟩; have kt := kept_three hb1; have c0 := kt.1.1; have c1 := kt.1.2.1; have c2 := kt.1.2.2; have d0 := kt.2.1.1; have d1 := kt.2.1.2.1; have d2 := kt.2.1.2.2; have f0 := kt.2.2.1 0; have f1 := kt.2.2.1 1; have f2 := kt.2.2.1 2; have g0 := kt.2.2.2 0; have g1 := kt.2.2.2 1; have g2 := kt.2.2.2 2; clear kt; have HB := hide (B0.out _ _ _ _ hb1); clear hb1)
          refine bodyPost_ret (v := .agg #[.int .i64 (lo), .int .i64 (c - 1), .bool (false)]) (by simp [results, Tryz.results150, go_sem, d0, d1, d2]) rfl ⟨rfl, ?_⟩
          exact (((HB.out.setCell (p := ⟨w.heap.size + 1 + 1, 0, none⟩) (by simp; try omega) (.int .i64 (lo))).setCell (p := ⟨w.heap.size + 1 + 1, 1, none⟩) (by simp; try omega) (.int .i64 (c - 1))).setCell (p := ⟨w.heap.size + 1 + 1, 2, none⟩) (by simp; try omega) (.bool (false)))
      · rw [if_neg hm]
        by_cases he : hi < lo
        · rw [M.norm_no he]
          have C1 := hide (C.out (lo, hi, false))
          simp only [decide_eq_true he] at C1
          have q9 : decide (hi < lo) = true := decide_eq_true he
          clear C he
          go_enter Tryz.func150, Tryz.ntmps150
          go_wp2_with (go_at_call 156; refine (C1.out _).mono ?_; rintro e w1 ⟨rfl, hb1⟩; have kt := kept_three hb1; have c0 := kt.1.1; have c1 := kt.1.2.1; have c2 := kt.1.2.2; have d0 := kt.2.1.1; have d1 := kt.2.1.2.1; have d2 := kt.2.1.2.2; have f0 := kt.2.2.1 0; have f1 := kt.2.2.1 1; have f2 := kt.2.2.1 2; have g0 := kt.2.2.2 0; have g1 := kt.2.2.2 1; have g2 := kt.2.2.2 2; clear kt; have HB := hide (B0.out _ _ _ _ hb1); clear hb1)
          refine bodyPost_ret (v := .agg #[.int .i64 (1), .int .i64 (0), .bool (false)]) (by simp [results, Tryz.results150, go_sem, d0, d1, d2]) rfl ⟨rfl, ?_⟩
          exact (((((HB.out.setCell (p := ⟨w.heap.size, 0, none⟩) (by simp; try omega) (.int .i64 1)).setCell (p := ⟨w.heap.size, 1, none⟩) (by simp; try omega) (.int .i64 0)).setCell (p := ⟨w.heap.size + 1 + 1, 0, none⟩) (by simp; try omega) (.int .i64 (1))).setCell (p := ⟨w.heap.size + 1 + 1, 1, none⟩) (by simp; try omega) (.int .i64 (0))).setCell (p := ⟨w.heap.size + 1 + 1, 2, none⟩) (by simp; try omega) (.bool (false)))
        · rw [M.norm_yes he]
          have C1 := hide (C.out (lo, hi, false))
          simp only [decide_eq_false he] at C1
          have q9 : decide (hi < lo) = false := decide_eq_false he
          clear C he
          go_enter Tryz.func150, Tryz.ntmps150
          go_wp2_with (go_at_call 156; refine (C1.out _).mono ?_; rintro e w1 ⟨rfl, hb1⟩; have kt := kept_three hb1; have c0 := kt.1.1; have c1 := kt.1.2.1; have c2 := kt.1.2.2; have d0 := kt.2.1.1; have d1 := kt.2.1.2.1; have d2 := kt.2.1.2.2; have f0 := kt.2.2.1 0; have f1 := kt.2.2.1 1; have f2 := kt.2.2.1 2; have g0 := kt.2.2.2 0; have g1 := kt.2.2.2 1; have g2 := kt.2.2.2 2; clear kt; have HB := hide (B0.out _ _ _ _ hb1); clear hb1)
          refine bodyPost_ret (v := .agg #[.int .i64 (lo), .int .i64 (hi), .bool (false)]) (by simp [results, Tryz.results150, go_sem, d0, d1, d2]) rfl ⟨rfl, ?_⟩
          exact (((HB.out.setCell (p := ⟨w.heap.size + 1 + 1, 0, none⟩) (by simp; try omega) (.int .i64 (lo))).setCell (p := ⟨w.heap.size + 1 + 1, 1, none⟩) (by simp; try omega) (.int .i64 (hi))).setCell (p := ⟨w.heap.size + 1 + 1, 2, none⟩) (by simp; try omega) (.bool (false)))
    | true =>
      rw [Bool.true_and]
      by_cases hm : c - 1 < hi
      · rw [if_pos hm]
        by_cases he : c - 1 < lo
        · rw [M.norm_no he]
          have C1 := hide (C.out (lo, c - 1, sl))
          simp only [decide_eq_true he] at C1
          have q9 : decide (c - 1 < lo) = true := decide_eq_true he
          clear C he
          go_enter Tryz.func150, Tryz.ntmps150
          go_wp2_with (go_at_call 156; refine (C1.out _).mono ?_; rintro e w1 ⟨rfl, hb1⟩; have kt := kept_three hb1; have c0 := kt.1.1; have c1 := kt.1.2.1; have c2 := kt.1.2.2; have d0 := kt.2.1.1; have d1 := kt.2.1.2.1; have d2 := kt.2.1.2.2; have f0 := kt.2.2.1 0; have f1 := kt.2.2.1 1; have f2 := kt.2.2.1 2; have g0 := kt.2.2.2 0; have g1 := kt.2.2.2 1; have g2 := kt.2.2.2 2; clear kt; have HB := hide (B0.out _ _ _ _ hb1); clear hb1)
          refine bodyPost_ret (v := .agg #[.int .i64 (1), .int .i64 (0), .bool (sl)]) (by simp [results, Tryz.results150, go_sem, d0, d1, d2]) rfl ⟨rfl, ?_⟩
          exact (((((HB.out.setCell (p := ⟨w.heap.size, 0, none⟩) (by simp; try omega) (.int .i64 1)).setCell (p := ⟨w.heap.size, 1, none⟩) (by simp; try omega) (.int .i64 0)).setCell (p := ⟨w.heap.size + 1 + 1, 0, none⟩) (by simp; try omega) (.int .i64 (1))).setCell (p := ⟨w.heap.size + 1 + 1, 1, none⟩) (by simp; try omega) (.int .i64 (0))).setCell (p := ⟨w.heap.size + 1 + 1, 2, none⟩) (by simp; try omega) (.bool (sl)))
        · rw [M.norm_yes he]
          have C1 := hide (C.out (lo, c - 1, sl))
          simp only [decide_eq_false he] at C1
          have q9 : decide (c - 1 < lo) = false := decide_eq_false he
          clear C he
          go_enter Tryz.func150, Tryz.ntmps150
          go_wp2_with (go_at_call 156; refine (C1.out _).mono ?_; rintro e w1 ⟨rfl, hb1⟩; have kt := kept_three hb1; have c0 := kt.1.1; have c1 := kt.1.2.1; have c2 := kt.1.2.2; have d0 := kt.2.1.1; have d1 := kt.2.1.2.1; have d2 := kt.2.1.2.2; have f0 := kt.2.2.1 0; have f1 := kt.2.2.1 1; have f2 := kt.2.2.1 2; have g0 := kt.2.2.2 0; have g1 := kt.2.2.2 1; have g2 := kt.2.2.2 2; clear kt; have HB := hide (B0.out _ _ _ _ hb1); clear hb1)
          refine bodyPost_ret (v := .agg #[.int .i64 (lo), .int .i64 (c - 1), .bool (sl)]) (by simp [results, Tryz.results150, go_sem, d0, d1, d2]) rfl ⟨rfl, ?_⟩
          exact (((HB.out.setCell (p := ⟨w.heap.size + 1 + 1, 0, none⟩) (by simp; try omega) (.int .i64 (lo))).setCell (p := ⟨w.heap.size + 1 + 1, 1, none⟩) (by simp; try omega) (.int .i64 (c - 1))).setCell (p := ⟨w.heap.size + 1 + 1, 2, none⟩) (by simp; try omega) (.bool (sl)))
      · rw [if_neg hm]
        by_cases he : hi < lo
        · rw [M.norm_no he]
          have C1 := hide (C.out (lo, hi, sl))
          simp only [decide_eq_true he] at C1
          have q9 : decide (hi < lo) = true := decide_eq_true he
          clear C he
          go_enter Tryz.func150, Tryz.ntmps150
          go_wp2_with (go_at_call 156; refine (C1.out _).mono ?_; rintro e w1 ⟨rfl, hb1⟩; have kt := kept_three hb1; have c0 := kt.1.1; have c1 := kt.1.2.1; have c2 := kt.1.2.2; have d0 := kt.2.1.1; have d1 := kt.2.1.2.1; have d2 := kt.2.1.2.2; have f0 := kt.2.2.1 0; have f1 := kt.2.2.1 1; have f2 := kt.2.2.1 2; have g0 := kt.2.2.2 0; have g1 := kt.2.2.2 1; have g2 := kt.2.2.2 2; clear kt; have HB := hide (B0.out _ _ _ _ hb1); clear hb1)
          refine bodyPost_ret (v := .agg #[.int .i64 (1), .int .i64 (0), .bool (sl)]) (by simp [results, Tryz.results150, go_sem, d0, d1, d2]) rfl ⟨rfl, ?_⟩
          exact (((((HB.out.setCell (p := ⟨w.heap.size, 0, none⟩) (by simp; try omega) (.int .i64 1)).setCell (p := ⟨w.heap.size, 1, none⟩) (by simp; try omega) (.int .i64 0)).setCell (p := ⟨w.heap.size + 1 + 1, 0, none⟩) (by simp; try omega) (.int .i64 (1))).setCell (p := ⟨w.heap.size + 1 + 1, 1, none⟩) (by simp; try omega) (.int .i64 (0))).setCell (p := ⟨w.heap.size + 1 + 1, 2, none⟩) (by simp; try omega) (.bool (sl)))
        · rw [M.norm_yes he]
          have C1 := hide (C.out (lo, hi, sl))
          simp only [decide_eq_false he] at C1
          have q9 : decide (hi < lo) = false := decide_eq_false he
          clear C he
          go_enter Tryz.func150, Tryz.ntmps150
          go_wp2_with (go_at_call 156; refine (C1.out _).mono ?_; rintro e w1 ⟨rfl, hb1⟩; have kt := kept_three hb1; have c0 := kt.1.1; have c1 := kt.1.2.1; have c2 := kt.1.2.2; have d0 := kt.2.1.1; have d1 := kt.2.1.2.1; have d2 := kt.2.1.2.2; have f0 := kt.2.2.1 0; have f1 := kt.2.2.1 1; have f2 := kt.2.2.1 2; have g0 := kt.2.2.2 0; have g1 := kt.2.2.2 1; have g2 := kt.2.2.2 2; clear kt; have HB := hide (B0.out _ _ _ _ hb1); clear hb1)
          refine bodyPost_ret (v := .agg #[.int .i64 (lo), .int .i64 (hi), .bool (sl)]) (by simp [results, Tryz.results150, go_sem, d0, d1, d2]) rfl ⟨rfl, ?_⟩
          exact (((HB.out.setCell (p := ⟨w.heap.size + 1 + 1, 0, none⟩) (by simp; try omega) (.int .i64 (lo))).setCell (p := ⟨w.heap.size + 1 + 1, 1, none⟩) (by simp; try omega) (.int .i64 (hi))).setCell (p := ⟨w.heap.size + 1 + 1, 2, none⟩) (by simp; try omega) (.bool (sl)))
  · have ql : (tt == l) = false := by rw [beq_eq_false_iff_ne]; exact fun h => hl h.symm
    rw [decide_eq_false hl]
    simp only [Bool.false_eq_true, if_false]
    clear hl
    cases nl with
    | false =>
      rw [Bool.false_and]
      by_cases hm : lo < c
      · rw [if_pos hm]
        by_cases he : hi < c
        · rw [M.norm_no he]
          have C1 := hide (C.out (c, hi, false))
          simp only [decide_eq_true he] at C1
          have q9 : decide (hi < c) = true := decide_eq_true he
          clear C he
          go_enter Tryz.func150, Tryz.ntmps150
          go_wp2_with (go_at_call 156; refine (C1.out _).mono ?_; rintro e w1 ⟨rfl, hb1⟩; have kt := kept_three hb1; have c0 := kt.1.1; have c1 := kt.1.2.1; have c2 := kt.1.2.2; have d0 := kt.2.1.1; have d1 := kt.2.1.2.1; have d2 := kt.2.1.2.2; have f0 := kt.2.2.1 0; have f1 := kt.2.2.1 1; have f2 := kt.2.2.1 2; have g0 := kt.2.2.2 0; have g1 := kt.2.2.2 1; have g2 := kt.2.2.2 2; clear kt; have HB := hide (B0.out _ _ _ _ hb1); clear hb1)
          refine bodyPost_ret (v := .agg #[.int .i64 (1), .int .i64 (0), .bool (false)]) (by simp [results, Tryz.results150, go_sem, d0, d1, d2]) rfl ⟨rfl, ?_⟩
          exact (((((HB.out.setCell (p := ⟨w.heap.size, 0, none⟩) (by simp; try omega) (.int .i64 1)).setCell (p := ⟨w.heap.size, 1, none⟩) (by simp; try omega) (.int .i64 0)).setCell (p := ⟨w.heap.size + 1 + 1, 0, none⟩) (by simp; try omega) (.int .i64 (1))).setCell (p := ⟨w.heap.size + 1 + 1, 1, none⟩) (by simp; try omega) (.int .i64 (0))).setCell (p := ⟨w.heap.size + 1 + 1, 2, none⟩) (by simp; try omega) (.bool (false)))
        · rw [M.norm_yes he]
          have C1 := hide (C.out (c, hi, false))
          simp only [decide_eq_false he] at C1
          have q9 : decide (hi < c) = false := decide_eq_false he
          clear C he
          go_enter Tryz.func150, Tryz.ntmps150
          go_wp2_with (go_at_call 156; refine (C1.out _).mono ?_; rintro e w1 ⟨rfl, hb1⟩; have kt := kept_three hb1; have c0 := kt.1.1; have c1 := kt.1.2.1; have c2 := kt.1.2.2; have d0 := kt.2.1.1; have d1 := kt.2.1.2.1; have d2 := kt.2.1.2.2; have f0 := kt.2.2.1 0; have f1 := kt.2.2.1 1; have f2 := kt.2.2.1 2; have g0 := kt.2.2.2 0; have g1 := kt.2.2.2 1; have g2 := kt.2.2.2 2; clear kt; have HB := hide (B0.out _ _ _ _ hb1); clear hb1)
          refine bodyPost_ret (v := .agg #[.int .i64 (c), .int .i64 (hi), .bool (false)]) (by simp [results, Tryz.results150, go_sem, d0, d1, d2]) rfl ⟨rfl, ?_⟩
          exact (((HB.out.setCell (p := ⟨w.heap.size + 1 + 1, 0, none⟩) (by simp; try omega) (.int .i64 (c))).setCell (p := ⟨w.heap.size + 1 + 1, 1, none⟩) (by simp; try omega) (.int .i64 (hi))).setCell (p := ⟨w.heap.size + 1 + 1, 2, none⟩) (by simp; try omega) (.bool (false)))
      · rw [if_neg hm]
        by_cases he : hi < lo
        · rw [M.norm_no he]
          have C1 := hide (C.out (lo, hi, false))
          simp only [decide_eq_true he] at C1
          have q9 : decide (hi < lo) = true := decide_eq_true he
          clear C he
          go_enter Tryz.func150, Tryz.ntmps150
          go_wp2_with (go_at_call 156; refine (C1.out _).mono ?_; rintro e w1 ⟨rfl, hb1⟩; have kt := kept_three hb1; have c0 := kt.1.1; have c1 := kt.1.2.1; have c2 := kt.1.2.2; have d0 := kt.2.1.1; have d1 := kt.2.1.2.1; have d2 := kt.2.1.2.2; have f0 := kt.2.2.1 0; have f1 := kt.2.2.1 1; have f2 := kt.2.2.1 2; have g0 := kt.2.2.2 0; have g1 := kt.2.2.2 1; have g2 := kt.2.2.2 2; clear kt; have HB := hide (B0.out _ _ _ _ hb1); clear hb1)
          refine bodyPost_ret (v := .agg #[.int .i64 (1), .int .i64 (0), .bool (false)]) (by simp [results, Tryz.results150, go_sem, d0, d1, d2]) rfl ⟨rfl, ?_⟩
          exact (((((HB.out.setCell (p := ⟨w.heap.size, 0, none⟩) (by simp; try omega) (.int .i64 1)).setCell (p := ⟨w.heap.size, 1, none⟩) (by simp; try omega) (.int .i64 0)).setCell (p := ⟨w.heap.size + 1 + 1, 0, none⟩) (by simp; try omega) (.int .i64 (1))).setCell (p := ⟨w.heap.size + 1 + 1, 1, none⟩) (by simp; try omega) (.int .i64 (0))).setCell (p := ⟨w.heap.size + 1 + 1, 2, none⟩) (by simp; try omega) (.bool (false)))
        · rw [M.norm_yes he]
          have C1 := hide (C.out (lo, hi, false))
          simp only [decide_eq_false he] at C1
          have q9 : decide (hi < lo) = false := decide_eq_false he
          clear C he
          go_enter Tryz.func150, Tryz.ntmps150
          go_wp2_with (go_at_call 156; refine (C1.out _).mono ?_; rintro e w1 ⟨rfl, hb1⟩; have kt := kept_three hb1; have c0 := kt.1.1; have c1 := kt.1.2.1; have c2 := kt.1.2.2; have d0 := kt.2.1.1; have d1 := kt.2.1.2.1; have d2 := kt.2.1.2.2; have f0 := kt.2.2.1 0; have f1 := kt.2.2.1 1; have f2 := kt.2.2.1 2; have g0 := kt.2.2.2 0; have g1 := kt.2.2.2 1; have g2 := kt.2.2.2 2; clear kt; have HB := hide (B0.out _ _ _ _ hb1); clear hb1)
          refine bodyPost_ret (v := .agg #[.int .i64 (lo), .int .i64 (hi), .bool (false)]) (by simp [results, Tryz.results150, go_sem, d0, d1, d2]) rfl ⟨rfl, ?_⟩
          exact (((HB.out.setCell (p := ⟨w.heap.size + 1 + 1, 0, none⟩) (by simp; try omega) (.int .i64 (lo))).setCell (p := ⟨w.heap.size + 1 + 1, 1, none⟩) (by simp; try omega) (.int .i64 (hi))).setCell (p := ⟨w.heap.size + 1 + 1, 2, none⟩) (by simp; try omega) (.bool (false)))
    | true =>
      rw [Bool.true_and]
      by_cases hm : lo < c
      · rw [if_pos hm]
        by_cases he : hi < c
        · rw [M.norm_no he]
          have C1 := hide (C.out (c, hi, !sl))
          simp only [decide_eq_true he] at C1
          have q9 : decide (hi < c) = true := decide_eq_true he
          clear C he
          go_enter Tryz.func150, Tryz.ntmps150
          go_wp2_with (go_at_call 156; refine (C1.out _).mono ?_; rintro e w1 ⟨rfl, hb1⟩; have kt := kept_three hb1; have c0 := kt.1.1; have c1 := kt.1.2.1; have c2 := kt.1.2.2; have d0 := kt.2.1.1; have d1 := kt.2.1.2.1; have d2 := kt.2.1.2.2; have f0 := kt.2.2.1 0; have f1 := kt.2.2.1 1; have f2 := kt.2.2.1 2; have g0 := kt.2.2.2 0; have g1 := kt.2.2.2 1; have g2 := kt.2.2.2 2; clear kt; have HB := hide (B0.out _ _ _ _ hb1); clear hb1)
          refine bodyPost_ret (v := .agg #[.int .i64 (1), .int .i64 (0), .bool (!sl)]) (by simp [results, Tryz.results150, go_sem, d0, d1, d2]) rfl ⟨rfl, ?_⟩
          exact (((((HB.out.setCell (p := ⟨w.heap.size, 0, none⟩) (by simp; try omega) (.int .i64 1)).setCell (p := ⟨w.heap.size, 1, none⟩) (by simp; try omega) (.int .i64 0)).setCell (p := ⟨w.heap.size + 1 + 1, 0, none⟩) (by simp; try omega) (.int .i64 (1))).setCell (p := ⟨w.heap.size + 1 + 1, 1, none⟩) (by simp; try omega) (.int .i64 (0))).setCell (p := ⟨w.heap.size + 1 + 1, 2, none⟩) (by simp; try omega) (.bool (!sl)))
        · rw [M.norm_yes he]
          have C1 := hide (C.out (c, hi, !sl))
          simp only [decide_eq_false he] at C1
          have q9 : decide (hi < c) = false := decide_eq_false he
          clear C he
          go_enter Tryz.func150, Tryz.ntmps150
          go_wp2_with (go_at_call 156; refine (C1.out _).mono ?_; rintro e w1 ⟨rfl, hb1⟩; have kt := kept_three hb1; have c0 := kt.1.1; have c1 := kt.1.2.1; have c2 := kt.1.2.2; have d0 := kt.2.1.1; have d1 := kt.2.1.2.1; have d2 := kt.2.1.2.2; have f0 := kt.2.2.1 0; have f1 := kt.2.2.1 1; have f2 := kt.2.2.1 2; have g0 := kt.2.2.2 0; have g1 := kt.2.2.2 1; have g2 := kt.2.2.2 2; clear kt; have HB := hide (B0.out _ _ _ _ hb1); clear hb1)
          refine bodyPost_ret (v := .agg #[.int .i64 (c), .int .i64 (hi), .bool (!sl)]) (by simp [results, Tryz.results150, go_sem, d0, d1, d2]) rfl ⟨rfl, ?_⟩
          exact (((HB.out.setCell (p := ⟨w.heap.size + 1 + 1, 0, none⟩) (by simp; try omega) (.int .i64 (c))).setCell (p := ⟨w.heap.size + 1 + 1, 1, none⟩) (by simp; try omega) (.int .i64 (hi))).setCell (p := ⟨w.heap.size + 1 + 1, 2, none⟩) (by simp; try omega) (.bool (!sl)))
      · rw [if_neg hm]
        by_cases he : hi < lo
        · rw [M.norm_no he]
          have C1 := hide (C.out (lo, hi, !sl))
          simp only [decide_eq_true he] at C1
          have q9 : decide (hi < lo) = true := decide_eq_true he
          clear C he
          go_enter Tryz.func150, Tryz.ntmps150
          go_wp2_with (go_at_call 156; refine (C1.out _).mono ?_; rintro e w1 ⟨rfl, hb1⟩; have kt := kept_three hb1; have c0 := kt.1.1; have c1 := kt.1.2.1; have c2 := kt.1.2.2; have d0 := kt.2.1.1; have d1 := kt.2.1.2.1; have d2 := kt.2.1.2.2; have f0 := kt.2.2.1 0; have f1 := kt.2.2.1 1; have f2 := kt.2.2.1 2; have g0 := kt.2.2.2 0; have g1 := kt.2.2.2 1; have g2 := kt.2.2.2 2; clear kt; have HB := hide (B0.out _ _ _ _ hb1); clear hb1)
          refine bodyPost_ret (v := .agg #[.int .i64 (1), .int .i64 (0), .bool (!sl)]) (by simp [results, Tryz.results150, go_sem, d0, d1, d2]) rfl ⟨rfl, ?_⟩
          exact (((((HB.out.setCell (p := ⟨w.heap.size, 0, none⟩) (by simp; try omega) (.int .i64 1)).setCell (p := ⟨w.heap.size, 1, none⟩) (by simp; try omega) (.int .i64 0)).setCell (p := ⟨w.heap.size + 1 + 1, 0, none⟩) (by simp; try omega) (.int .i64 (1))).setCell (p := ⟨w.heap.size + 1 + 1, 1, none⟩) (by simp; try omega) (.int .i64 (0))).setCell (p := ⟨w.heap.size + 1 + 1, 2, none⟩) (by simp; try omega) (.bool (!sl)))
        · rw [M.norm_yes he]
          have C1 := hide (C.out (lo, hi, !sl))
          simp only [decide_eq_false he] at C1
          have q9 : decide (hi < lo) = false := decide_eq_false he
          clear C he
          go_enter Tryz.func150, Tryz.ntmps150
          go_wp2_with (go_at_call 156; refine (C1.out _).mono ?_; rintro e w1 ⟨rfl, hb1⟩; have kt := kept_three hb1; have c0 := kt.1.1; have c1 := kt.1.2.1; have c2 := kt.1.2.2; have d0 := kt.2.1.1; have d1 := kt.2.1.2.1; have d2 := kt.2.1.2.2; have f0 := kt.2.2.1 0; have f1 := kt.2.2.1 1; have f2 := kt.2.2.1 2; have g0 := kt.2.2.2 0; have g1 := kt.2.2.2 1; have g2 := kt.2.2.2 2; clear kt; have HB := hide (B0.out _ _ _ _ hb1); clear hb1)
          refine bodyPost_ret (v := .agg #[.int .i64 (lo), .int .i64 (hi), .bool (!sl)]) (by simp [results, Tryz.results150, go_sem, d0, d1, d2]) rfl ⟨rfl, ?_⟩
          exact (((HB.out.setCell (p := ⟨w.heap.size + 1 + 1, 0, none⟩) (by simp; try omega) (.int .i64 (lo))).setCell (p := ⟨w.heap.size + 1 + 1, 1, none⟩) (by simp; try omega) (.int .i64 (hi))).setCell (p := ⟨w.heap.size + 1 + 1, 2, none⟩) (by simp; try omega) (.bool (!sl)))

end Go.Proofs.YtlloiccodjnkcagGreatDoor

namespace Go.Proofs.YtlloiccodjnkcagGreatDoor
open Go.ChangeShapes Go.WideShapes Go.ChangeAt Go.RowKit Go.Lib
set_option linter.unusedVariables false

theorem isend_any (x : Int) (w : World) : Calls Tryz.prog 151 #[.int .i64 x] w fun e w' => e = .returned (.bool (!M.outI x)) ∧ w' = w := by
  by_cases h1 : -1000000 ≤ x
  · have E : Hid (decide (x ≤ 1000000) = !M.outI x) := by
      unfold Hid M.outI
      rw [show decide (x < -1000000) = false from decide_eq_false (by omega), Bool.false_or]
      by_cases h2 : x ≤ 1000000
      · simp [h2]
      · simp [h2]; omega
    have h1' : decide (-1000000 ≤ x) = true := decide_eq_true h1
    clear h1
    go_enter Tryz.func151, Tryz.ntmps151
    go_wp2
    go_ret
    exact ⟨ret_bool E.out, rfl⟩
  · have E : Hid (false = !M.outI x) := by
      unfold Hid M.outI
      rw [show decide (x < -1000000) = true from decide_eq_true (by omega)]; rfl
    have h1' : decide (-1000000 ≤ x) = false := decide_eq_false h1
    clear h1
    go_enter Tryz.func151, Tryz.ntmps151
    go_wp2
    go_ret
    exact ⟨ret_bool E.out, rfl⟩

theorem firstof_any (s : M.Sp) (w : World) : Calls Tryz.prog 152 #[spV s] w fun e w' => e = .returned (.int .i64 (M.pickC s)) ∧ Below w.heap.size w w' := by
  have C := hide (nonum_any s)
  have B0 : Hid (∀ o W, Below (w.alloc o).heap.size (w.alloc o) W → Below w.heap.size w W) := fun o W hW => below_on ((Below.refl _ w).alloc (Nat.le_refl _) o) hW
  by_cases hd : s.2.1 < s.1
  · have E : Hid (M.nilI = M.pickC s) := by unfold Hid M.pickC; rw [if_neg (by omega)]
    rw [decide_eq_true hd] at C
    clear hd
    generalize M.pickC s = o at *
    obtain ⟨lo, hi, n⟩ := s
    unfold spV at C ⊢
    go_enter Tryz.func152, Tryz.ntmps152
    go_wp2_with (go_at_call 156; refine (C.out _).mono ?_; rintro e w1 ⟨rfl, hb1⟩)
    go_ret
    exact ⟨ret_int E.out, B0.out _ _ hb1⟩
  · have E : Hid (s.1 = M.pickC s) := by unfold Hid M.pickC; rw [if_pos (by omega)]
    rw [decide_eq_false hd] at C
    clear hd
    generalize M.pickC s = o at *
    obtain ⟨lo, hi, n⟩ := s
    unfold spV at C ⊢
    have CL : Hid (∀ O W, Below (w.alloc O).heap.size (w.alloc O) W → W.cell? ⟨w.heap.size, 0, none⟩ = (w.alloc O).cell? ⟨w.heap.size, 0, none⟩) := fun O W hW => hW.cell (p := ⟨w.heap.size, 0, none⟩) (by simp)
    go_enter Tryz.func152, Tryz.ntmps152
    go_wp2_with (go_at_call 156; refine (C.out _).mono ?_; rintro e w1 ⟨rfl, hb1⟩; have c1 := CL.out _ _ hb1; rw [World.cell?_alloc_at _ _ _ 0 rfl] at c1; simp at c1)
    go_ret
    exact ⟨ret_int E.out, B0.out _ _ hb1⟩

end Go.Proofs.YtlloiccodjnkcagGreatDoor
