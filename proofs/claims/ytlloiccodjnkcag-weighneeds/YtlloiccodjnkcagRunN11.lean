/-
  Several texts as one: MathSh, GroW, MathSi, MathH, MathZ, MathO, MathY, MathWd, MathWl.
-/
import Derived.Test.YtlloiccodjnkcagRunN5
import Derived.Test.YtlloiccodjnkcagRunN6
import Derived.Test.YtlloiccodjnkcagRunN8
import Derived.Test.YtlloiccodjnkcagRunN1
import Derived.Test.YtlloiccodjnkcagRunN2
import Derived.Test.YtlloiccodjnkcagRunN3
import Derived.Test.YtlloiccodjnkcagRunN4
namespace Go.Proofs.Ytlloiccodjnkcag
set_option linter.unusedVariables false

theorem M.sam_at {l : List M.Sa} {m : Int} (c1 : l.length ≤ 60) (c3 : 0 ≤ m ∧ m ≤ 8) {k : Nat} (hk : k < l.length) (h : ∀ j, j < k → M.sa1F m (M.sAt l j) = 0) (hn : M.sa1F m (M.sAt l k) ≠ 0) : M.samF l m = (k, M.sa1F m (M.sAt l k)) := by
  unfold M.samF
  rw [if_neg (by omega), if_neg (by omega), if_neg (by omega), M.first_hit (k := k) (by show (!decide (M.sa1F m (M.sAt l k) = 0)) = true; rw [decide_eq_false hn]; rfl) (fun j hj => by show (!decide (M.sa1F m (M.sAt l j) = 0)) = false; rw [decide_eq_true (h j hj)]; rfl) hk]
theorem M.sam_all {l : List M.Sa} {m : Int} (c1 : l.length ≤ 60) (c2 : 0 < l.length) (c3 : 0 ≤ m ∧ m ≤ 8) (h : ∀ j, j < l.length → M.sa1F m (M.sAt l j) = 0) : M.samF l m = (0, 0) := by
  unfold M.samF
  rw [if_neg (by omega), if_neg (by omega), if_neg (by omega), M.first_miss (fun j hj => by show (!decide (M.sa1F m (M.sAt l j) = 0)) = false; rw [decide_eq_true (h j hj)]; rfl)]
theorem M.sa1_row {m : Int} {s : M.Sa} (h : M.rowF s.1 ≠ 0) : M.sa1F m s = M.rowF s.1 := by unfold M.sa1F; rw [if_pos h]
theorem M.sa1_tgt {m : Int} {s : M.Sa} (h : M.rowF s.1 = 0) (h2 : s.2 < -1000 ∨ 1000 < s.2) : M.sa1F m s = 1 := by unfold M.sa1F; rw [if_neg (by simp [h]), if_pos h2]
theorem M.sa1_len {m : Int} {s : M.Sa} (h : M.rowF s.1 = 0) (h2 : ¬ (s.2 < -1000 ∨ 1000 < s.2)) (h3 : (s.1.length : Int) ≠ m) : M.sa1F m s = 3 := by unfold M.sa1F; rw [if_neg (by simp [h]), if_neg h2, if_pos h3]
theorem M.sa1_nil {m : Int} {s : M.Sa} (h : M.rowF s.1 = 0) (h2 : ¬ (s.2 < -1000 ∨ 1000 < s.2)) (h3 : (s.1.length : Int) = m) : M.sa1F m s = if M.nilI ∈ s.1 then 5 else 0 := by unfold M.sa1F; rw [if_neg (by simp [h]), if_neg h2, if_neg (by simp [h3])]

end Go.Proofs.Ytlloiccodjnkcag

namespace Go.Proofs.Ytlloiccodjnkcag
open Go.ChangeShapes Go.WideShapes Go.ChangeAt Go.RowKit Go.Lib
set_option linter.unusedVariables false

def GroWrongGives : Prop := ∀ (a b : Option Addr) (ts : List M.Nd) (xs : List Sx) (ca cb : Nat) (W : World), RdN W a ts → RdL W b xs → Calls Try.prog 25 #[.slice a ts.length ca, .slice b xs.length cb] W fun e w' => e = .returned (.tuple #[.int .i64 (M.wrgV ts (sms xs)), errV (M.rdyF ts (sms xs))]) ∧ Below W.heap.size W w'

end Go.Proofs.Ytlloiccodjnkcag

namespace Go.Proofs.Ytlloiccodjnkcag
open Go.ChangeShapes Go.WideShapes Go.ChangeAt Go.RowKit Go.Lib
set_option linter.unusedVariables false

theorem wrap_in6 (x : Int) (h1 : -9223372036854775808 ≤ x) (h2 : x ≤ 9223372036854775807) : IntKind.i64.wrap x = x := by
  simp [IntKind.wrap, IntKind.bits, IntKind.signed]
  split <;> omega
theorem M.sq_in5 {s B : Int} (h1 : -B ≤ s) (h2 : s ≤ B) : 0 ≤ s * s ∧ s * s ≤ B * B := by
  by_cases h : 0 ≤ s
  · exact ⟨Int.mul_nonneg h h, Int.mul_le_mul h2 h2 h (by omega)⟩
  · have e : s * s = (-s) * (-s) := by grind
    rw [e]
    exact ⟨Int.mul_nonneg (by omega) (by omega), Int.mul_le_mul (by omega) (by omega) (by omega) (by omega)⟩
theorem M.wrg_in {t : List M.Nd} (hv : ∀ r, -1000000 ≤ M.nv (M.nAt t (M.toD t r 0)) ∧ M.nv (M.nAt t (M.toD t r 0)) ≤ 1000000) : ∀ {l : List M.Sa}, (∀ s ∈ l, -1000 ≤ s.2 ∧ s.2 ≤ 1000) → 0 ≤ M.wrgS t l ∧ M.wrgS t l ≤ 1002001000000 * (l.length : Nat)
  | [], _ => by simp [M.wrgS]
  | s :: l, h => by
    have ih := M.wrg_in hv (l := l) fun x hx => h x (List.mem_cons_of_mem _ hx)
    have h1 := h s (List.mem_cons_self ..)
    have h2 := hv s.1
    have q := M.sq_in5 (s := s.2 - M.nv (M.nAt t (M.toD t s.1 0))) (B := 1001000) (by omega) (by omega)
    show 0 ≤ _ + M.wrgS t l ∧ _ + M.wrgS t l ≤ _
    rw [List.length_cons]
    omega

end Go.Proofs.Ytlloiccodjnkcag

namespace Go.Proofs.Ytlloiccodjnkcag.M
set_option linter.unusedVariables false

/-- a cell that no question asks for, changed -/
theorem getD_set {r : List Int} {k j : Nat} {c : Int} (h : j ≠ k) : r.getD j 0 = (r.set k c).getD j 0 := by
  simp [List.getD, List.getElem?_set_ne (Ne.symm h)]
theorem ready_set {t : List Nd} {r : List Int} {k : Nat} {c : Int} (h : readyF t r = 0) (hc : outI c = false) : readyF t (r.set k c) = 0 := by
  obtain ⟨h1, h2⟩ := ready_ok h
  obtain ⟨g1, g2⟩ := (row_ok r).1 h1
  have h3 : rowF (r.set k c) = 0 := (row_ok _).2 ⟨by rw [List.length_set]; exact g1, fun x hx => by
    rcases List.mem_or_eq_of_mem_set hx with q | q
    · exact g2 x q
    · subst q; exact good_cell hc⟩
  rw [ready_tree h3, List.length_set]; exact h2
theorem leaf_set {t : List Nd} {r : List Int} {k : Nat} {c : Int} (h : readyF t r = 0) (hc : outI c = false) (hn : ∀ j, j < t.length → nf (nAt t j) ≠ (k : Int)) : leafV t (r.set k c) = leafV t r := by
  obtain ⟨F, _⟩ := tree_ok (ready_ok h).2
  unfold leafV
  rw [if_pos h, if_pos (ready_set h hc)]
  exact (go_same F.2.2.2.2.1 (fun j hj => getD_set hj) hn t.length 0 F.2.1).symm
theorem any_take {l : List Int} {x : Int} {k : Nat} (h : k < l.length) : (l.take (k + 1)).any (· == x) = ((l.take k).any (· == x) || l[k] == x) := by
  rw [List.take_succ_eq_append_getElem h, List.any_append]; simp
theorem leaf_among {t : List Nd} {r : List Int} (h : readyF t r = 0) (h8 : (treeF t 8).2 = 0) : (leavesV t).any (· == (leafV t r : Int)) = true := by
  obtain ⟨F, _⟩ := tree_ok (ready_ok h).2
  obtain ⟨h1, h2⟩ := to_end F.2.2.2.2.1 r t.length 0 F.2.1 (by omega)
  unfold leavesV leafV
  rw [if_pos h8, if_pos h, List.any_eq_true]
  exact ⟨_, lvs_mem t t.length _ h1 h2, by simp⟩
theorem leaves_half {t : List Nd} (h : (treeF t 8).2 = 0) : 2 * (leavesV t).length = t.length + 1 := by
  obtain ⟨F, _⟩ := tree_ok h
  unfold leavesV
  rw [if_pos h]; exact halves F
/-- the tree of one question -/
def oneT : List Nd := [(0, 5, 1, 2, false, 0), (-1, 0, 0, 0, false, 7), (-1, 0, 0, 0, false, 9)]
theorem one_ready (x : Int) (h : x = 4 ∨ x = 5) : readyF oneT [x] = 0 := by rcases h with rfl | rfl <;> decide +kernel
theorem one_four : evalV oneT [4] = 7 := by decide +kernel
theorem one_five : evalV oneT [5] = 9 := by decide +kernel

end Go.Proofs.Ytlloiccodjnkcag.M

namespace Go.Proofs.Ytlloiccodjnkcag.M
set_option linter.unusedVariables false

def isLf (t : List Nd) (k : Int) : Bool := decide (0 ≤ k) && decide (k < (t.length : Int)) && leafB (nAt t k.toNat)
def regF (t : List Nd) (m k : Int) : Int := if (treeF t m).2 ≠ 0 then (treeF t m).2 else if isLf t k = false then 1 else 0
def regV (t : List Nd) (m k : Int) : List Sp := if regF t m k = 0 then (region t m.toNat k.toNat).map norm else []
def regB (t : List Nd) (m k : Int) : Bool := if regF t m k = 0 then anyS (region t m.toNat k.toNat) else false
def rchV (t : List Nd) (m : Int) : List Int := if (treeF t m).2 = 0 then rch t m.toNat t.length else []
def witV (l : List Sp) : List Int := if spF l = 0 then pick l else []

theorem within_norm {r : List Int} {l : List Sp} : within r (l.map norm) ↔ within r l := by
  unfold within
  rw [List.length_map]
  constructor
  · intro h j hj
    have := h j hj
    rw [getD_at (l := l.map norm) (by rw [List.length_map]; exact hj), List.getElem_map, in_norm] at this
    rw [getD_at (l := l) hj]; exact this
  · intro h j hj
    have := h j hj
    rw [getD_at (l := l) hj] at this
    rw [getD_at (l := l.map norm) (by rw [List.length_map]; exact hj), List.getElem_map, in_norm]; exact this
theorem fit_within {xs : List Int} {ss : List Sp} (h : rowF xs = 0) (hl : ss.length = xs.length) : fitV xs ss = true ↔ within xs ss := by
  rw [(fit_ok h hl).2]
  unfold within outAt
  rw [Bool.not_eq_true', List.any_eq_false, hl]
  constructor
  · intro q j hj
    have := q j (List.mem_range.2 hj)
    simpa using this
  · intro q j hj
    have := q j (List.mem_range.1 hj)
    rw [this]; simp

/-- what a leaf's place gives -/
theorem leaf_place {t : List Nd} {r : List Int} (h : readyF t r = 0) {k : Nat} (hk : k < t.length) (hl : nf (nAt t k) = -1) :
    regF t (r.length : Int) (k : Int) = 0 ∧ fitF r (regV t (r.length : Int) (k : Int)) = 0 ∧ fitV r (regV t (r.length : Int) (k : Int)) = decide (k = leafV t r) ∧
    regB t (r.length : Int) (k : Int) = (rchV t (r.length : Int)).any (· == (k : Int)) ∧ (k = leafV t r → regB t (r.length : Int) (k : Int) = true) := by
  obtain ⟨h1, h2⟩ := ready_ok h
  obtain ⟨F, _⟩ := tree_ok h2
  have e0 : regF t (r.length : Int) (k : Int) = 0 := by
    unfold regF isLf
    rw [if_neg (by simp [h2]), if_neg]
    rw [decide_eq_true (show (0 : Int) ≤ (k : Int) by omega), decide_eq_true (show (k : Int) < (t.length : Int) by omega), Int.toNat_natCast]
    unfold leafB
    rw [decide_eq_true hl]; simp
  have eV : regV t (r.length : Int) (k : Int) = (region t r.length k).map norm := by unfold regV; rw [if_pos e0, Int.toNat_natCast, Int.toNat_natCast]
  have eB : regB t (r.length : Int) (k : Int) = anyS (region t r.length k) := by unfold regB; rw [if_pos e0, Int.toNat_natCast, Int.toNat_natCast]
  have eL : leafV t r = toD t r 0 := by unfold leafV; rw [if_pos h]
  have eR : rchV t (r.length : Int) = rch t r.length t.length := by unfold rchV; rw [if_pos h2, Int.toNat_natCast]
  have hlen : ((region t r.length k).map norm).length = r.length := by rw [List.length_map, region_len]
  have hw := region_leaf F h1 rfl hk hl
  refine ⟨e0, by rw [eV]; exact (fit_ok h1 hlen).1, ?_, ?_, ?_⟩
  · rw [eV, eL]
    have : fitV r ((region t r.length k).map norm) = true ↔ k = toD t r 0 := by rw [fit_within h1 hlen, within_norm, hw]
    by_cases q : k = toD t r 0
    · rw [this.2 q, decide_eq_true q]
    · rw [decide_eq_false q]
      cases e : fitV r ((region t r.length k).map norm) with
      | false => rfl
      | true => exact absurd (this.1 e) q
  · rw [eB, eR]
    cases ha : anyS (region t r.length k) with
    | true =>
      symm
      rw [List.any_eq_true]
      exact ⟨(k : Int), (rch_mem t r.length t.length _).2 ⟨k, rfl, hk, by unfold leafB; exact decide_eq_true hl, ha⟩, by simp⟩
    | false =>
      symm
      rw [List.any_eq_false]
      intro x hx hq
      obtain ⟨j, e, _, _, hj⟩ := (rch_mem t r.length t.length _).1 hx
      have : x = (k : Int) := by simpa using hq
      have : j = k := by omega
      subst this
      rw [ha] at hj; cases hj
  · intro q
    rw [eB]
    exact any_within (hw.2 (by rw [q, eL]))
theorem wit_place {t : List Nd} {r : List Int} (h : readyF t r = 0) {k : Nat} (hk : k < t.length) (hl : nf (nAt t k) = -1) (hb : regB t (r.length : Int) (k : Int) = true) :
    spF (regV t (r.length : Int) (k : Int)) = 0 ∧ readyF t (witV (regV t (r.length : Int) (k : Int))) = 0 ∧ leafV t (witV (regV t (r.length : Int) (k : Int))) = k := by
  obtain ⟨h1, h2⟩ := ready_ok h
  obtain ⟨F, _⟩ := tree_ok h2
  have e0 := (leaf_place h hk hl).1
  have eV : regV t (r.length : Int) (k : Int) = (region t r.length k).map norm := by unfold regV; rw [if_pos e0, Int.toNat_natCast, Int.toNat_natCast]
  have eB : regB t (r.length : Int) (k : Int) = anyS (region t r.length k) := by unfold regB; rw [if_pos e0, Int.toNat_natCast, Int.toNat_natCast]
  rw [eB] at hb
  obtain ⟨g1, g2, g3⟩ := witness F hk hl hb
  rw [eV]
  have eW : witV ((region t r.length k).map norm) = pick ((region t r.length k).map norm) := by unfold witV; rw [if_pos g1]
  have hp : (pick ((region t r.length k).map norm)).length = r.length := by unfold pick; rw [List.length_map, List.length_map, region_len]
  have hready : readyF t (pick ((region t r.length k).map norm)) = 0 := by rw [ready_tree g2, hp]; exact h2
  refine ⟨g1, by rw [eW]; exact hready, ?_⟩
  rw [eW]; unfold leafV; rw [if_pos hready]; exact g3
theorem one_region : regF oneT 1 2 = 0 ∧ regV oneT 1 2 = [(5, 1000000, true)] ∧ regB oneT 1 2 = true := by decide +kernel
theorem leafV_leaf {t : List Nd} {r : List Int} (h : readyF t r = 0) : leafV t r < t.length ∧ nf (nAt t (leafV t r)) = -1 := by
  obtain ⟨F, _⟩ := tree_ok (ready_ok h).2
  unfold leafV
  rw [if_pos h]
  exact to_end F.2.2.2.2.1 r t.length 0 F.2.1 (by omega)

end Go.Proofs.Ytlloiccodjnkcag.M

namespace Go.Proofs.Ytlloiccodjnkcag.M
set_option linter.unusedVariables false

theorem vld_some {m : Nat} (h : m ≤ 8) : ∃ x, vld m x := by
  refine ⟨List.replicate m 0, (row_ok _).2 ⟨by simpa using h, fun x hx => ?_⟩, by simp⟩
  rw [(List.mem_replicate.1 hx).2]
  exact good_cell (out_in (by omega) (by omega))
/-- bare as a whole, it is so below each place, and each place has a row -/
theorem bare_at {t : List Nd} {m : Nat} (F : Fair t (m : Int)) (hb : Bare (vld m) (bt t 0)) : ∀ (k i : Nat), i < k → i < t.length → Bare (Pw t m i) (bt t i) ∧ ∃ x, Pw t m i x
  | 0, i, hk, hi => by omega
  | k + 1, i, hk, hi => by
    have hR := F.2.2.2.2.1
    rcases Nat.eq_zero_or_pos i with h0 | h0
    · subst h0
      rw [pw_root F]
      exact ⟨hb, vld_some (by have := F.2.2.2.1; omega)⟩
    · obtain ⟨u, hu, c⟩ := up_some (F.2.2.2.2.2 i h0 hi)
      have lu := ch_lt hR hu c
      obtain ⟨b1, _⟩ := bare_at F hb k u (by omega) hu
      obtain ⟨a, b, ea, eb, h1, h2, h3, h4, _⟩ := ask_at hR hu c.1
      obtain ⟨p1, p2⟩ := pw_sides F hu c.1 ea eb
      rw [bt_ask hR hu c.1 ea eb] at b1
      obtain ⟨x1, x2, _, y1, y2⟩ := b1
      rw [p1] at y1
      rw [p2] at y2
      rcases c.2 with q | q
      · have e : a = i := by omega
        subst e
        refine ⟨y1, ?_⟩
        rw [← p1]
        exact x1
      · have e : b = i := by omega
        subst e
        refine ⟨y2, ?_⟩
        rw [← p2]
        exact x2
/-- what is pruned is bare -/
theorem prun_bare {t : List Nd} {m : Int} (h : (treeF t m).2 = 0) : Fair (prunV t m) ((m.toNat : Nat) : Int) ∧ Bare (vld m.toNat) (bt (prunV t m) 0) := by
  have F := (tree_ok h).1
  have ok := bt_ok F.2.2.2.2.1 t.length 0 F.2.1 (by omega)
  have pt := (prun_tree h).1
  refine ⟨(fair_nat pt).1, ?_⟩
  have e : prunV t m = lay (prn (vld m.toNat) (bt t 0)) 0 := by unfold prunV; rw [if_pos h]
  rw [e, bt_of_lay (prn_ok _ _ ok)]
  exact bare_prn _ _
theorem prun_reached {t : List Nd} {m : Int} (h : (treeF t m).2 = 0) {i : Nat} (hi : i < (prunV t m).length) : anyS (region (prunV t m) m.toNat i) = true := by
  obtain ⟨F, hb⟩ := prun_bare h
  exact (reach_iff F hi).2 (bare_at F hb (i + 1) i (by omega) hi).2
/-- all leaves are reached -/
theorem rch_all {t : List Nd} {m : Nat} : ∀ k, k ≤ t.length → (∀ i, i < t.length → anyS (region t m i) = true) → rch t m k = lvs t k
  | 0, _, _ => rfl
  | k + 1, hk, h => by
    unfold rch lvs
    rw [rch_all k (by omega) h, h k (by omega)]
    simp
/-- no two leaves side by side are alike -/
theorem prun_apart {t : List Nd} {m : Int} (h : (treeF t m).2 = 0) {i a b : Nat} (hi : i < (prunV t m).length) (hf : nf (nAt (prunV t m) i) ≠ -1) (ea : nl (nAt (prunV t m) i) = a) (eb : nr (nAt (prunV t m) i) = b) : ¬ (nf (nAt (prunV t m) a) = -1 ∧ nf (nAt (prunV t m) b) = -1 ∧ nv (nAt (prunV t m) a) = nv (nAt (prunV t m) b)) := by
  obtain ⟨F, hb⟩ := prun_bare h
  have hR := F.2.2.2.2.1
  rintro ⟨l1, l2, l3⟩
  obtain ⟨a', b', ea', eb', h1, h2, h3, h4, _⟩ := ask_at hR hi hf
  have e1 : a' = a := by omega
  have e2 : b' = b := by omega
  subst e1
  subst e2
  have bi := (bare_at F hb (i + 1) i (by omega) hi).1
  rw [bt_ask hR hi hf ea eb] at bi
  exact bi.2.2.1 (nv (nAt (prunV t m) a')) ⟨bt_leaf h2 l1, by rw [bt_leaf h4 l2, l3]⟩
/-- in order each Left is right behind its node -/
theorem lay_left {m : Int} : ∀ (T : BT) (k j : Nat), okB m T → j < T.size → nf (nAt (lay T k) j) ≠ -1 → nl (nAt (lay T k) j) = ((k + j + 1 : Nat) : Int)
  | .lf v, k, j, h, hj, hf => by
    have hj' : j < 1 := hj
    obtain rfl : j = 0 := by omega
    exact absurd rfl hf
  | .nd f c s l r, k, j, ⟨g0, g1, g2, g3, g4⟩, hj, hf => by
    have es : (BT.nd f c s l r).size = 1 + l.size + r.size := rfl
    rw [es] at hj
    have e : lay (.nd f c s l r) k = (f, c, ((k + 1 : Nat) : Int), ((k + 1 + l.size : Nat) : Int), s, 0) :: (lay l (k + 1) ++ lay r (k + 1 + l.size)) := rfl
    rw [e] at hf ⊢
    rcases j with _ | j
    · rfl
    · have e2 : nAt ((f, c, ((k + 1 : Nat) : Int), ((k + 1 + l.size : Nat) : Int), s, (0 : Int)) :: (lay l (k + 1) ++ lay r (k + 1 + l.size))) (j + 1) = nAt (lay l (k + 1) ++ lay r (k + 1 + l.size)) j := by simp [nAt]
      rw [e2] at hf ⊢
      by_cases hl : j < l.size
      · have e3 : nAt (lay l (k + 1) ++ lay r (k + 1 + l.size)) j = nAt (lay l (k + 1)) j := by
          unfold nAt; simp [List.getD, List.getElem?_append_left (show j < (lay l (k + 1)).length by rw [lay_len]; exact hl)]
        rw [e3] at hf ⊢
        rw [lay_left l (k + 1) j g3 hl hf]
        omega
      · have e3 : nAt (lay l (k + 1) ++ lay r (k + 1 + l.size)) j = nAt (lay r (k + 1 + l.size)) (j - l.size) := by
          unfold nAt
          simp only [List.getD]
          rw [List.getElem?_append_right (by rw [lay_len]; omega), lay_len]
        rw [e3] at hf ⊢
        rw [lay_left r (k + 1 + l.size) (j - l.size) g4 (by omega) hf]
        omega
theorem prun_left {t : List Nd} {m : Int} (h : (treeF t m).2 = 0) {i : Nat} (hi : i < (prunV t m).length) (hf : nf (nAt (prunV t m) i) ≠ -1) : nl (nAt (prunV t m) i) = ((i + 1 : Nat) : Int) := by
  have F := (tree_ok h).1
  have ok := bt_ok F.2.2.2.2.1 t.length 0 F.2.1 (by omega)
  have e : prunV t m = lay (prn (vld m.toNat) (bt t 0)) 0 := by unfold prunV; rw [if_pos h]
  rw [e] at hi hf ⊢
  rw [lay_len] at hi
  rw [lay_left _ 0 i (prn_ok _ _ ok) hi hf]
  omega

/-! ### one value -/
theorem bt_all {t : List Nd} {m : Int} (h : Right t m) {v : Int} (hv : ∀ i, i < t.length → nf (nAt t i) = -1 → nv (nAt t i) = v) : ∀ (k i : Nat), i < t.length → t.length ≤ k + i → allV v (bt t i)
  | 0, i, hi, hk => by omega
  | k + 1, i, hi, hk => by
    by_cases hl : nf (nAt t i) = -1
    · rw [bt_leaf hi hl]; exact hv i hi hl
    · obtain ⟨a, b, ea, eb, h1, h2, h3, h4, _⟩ := ask_at h hi hl
      rw [bt_ask h hi hl ea eb]
      exact ⟨bt_all h hv k a h2 (by omega), bt_all h hv k b h4 (by omega)⟩
/-- where all leaves say one thing nothing is asked -/
theorem prun_one {t : List Nd} {m v : Int} (h : (treeF t m).2 = 0) (hv : ∀ i, i < t.length → nf (nAt t i) = -1 → nv (nAt t i) = v) : prunV t m = [(-1, 0, 0, 0, false, v)] := by
  have F := (tree_ok h).1
  unfold prunV
  rw [if_pos h, prn_one _ _ v (bt_all F.2.2.2.2.1 hv t.length 0 F.2.1 (by omega))]
  rfl

/-! ### no question twice on a way -/
/-- does a place stand below another one? -/
def ancB (t : List Nd) (i : Nat) : Nat → Nat → Bool
  | 0, j => decide (j = i)
  | f + 1, j => if j ≤ i then decide (j = i) else match abv t j with
    | none => false
    | some u => ancB t i f u
/-- who comes to a place below another one came by there, and all went one way -/
theorem anc_side {t : List Nd} {m : Nat} (F : Fair t (m : Int)) {i : Nat} (hi : i < t.length) : ∀ (f j : Nat), ancB t i f j = true → i < j → j < t.length → ∃ s : Bool, ∀ x, j ∈ way t x 0 → i ∈ way t x 0 ∧ lessC (nAt t i) (x.getD (nf (nAt t i)).toNat 0) = s
  | 0, j, h, hij, hj => by
    unfold ancB at h
    have := of_decide_eq_true h
    omega
  | f + 1, j, h, hij, hj => by
    have hR := F.2.2.2.2.1
    unfold ancB at h
    rw [if_neg (by omega)] at h
    obtain ⟨u, hu⟩ := abv_some F hj (by omega)
    rw [hu] at h
    obtain ⟨hul, c⟩ := (abv_iff F hj).1 hu
    have lu := ch_lt hR hul c
    obtain ⟨a, b, ea, eb, h1, h2, h3, h4, h5⟩ := ask_at hR hul c.1
    have up : ∀ x, j ∈ way t x 0 → u ∈ way t x 0 ∧ lessC (nAt t u) (x.getD (nf (nAt t u)).toNat 0) = decide (nl (nAt t u) = (j : Int)) := fun x hx => by
      have wl := way_left F x hul c.1 ea eb
      rcases c.2 with q | q
      · have e : a = j := by omega
        subst e
        rw [decide_eq_true ea]
        exact wl.1.1 hx
      · have e : b = j := by omega
        subst e
        rw [decide_eq_false (by rw [ea]; omega)]
        exact wl.2.1 hx
    rcases Nat.lt_trichotomy u i with q | q | q
    · have h' : ancB t i f u = true := h
      have : ancB t i f u = decide (u = i) := by
        cases f with
        | zero => rfl
        | succ f => unfold ancB; rw [if_pos (by omega)]
      rw [this] at h'
      have := of_decide_eq_true h'
      omega
    · subst q
      exact ⟨_, fun x hx => up x hx⟩
    · obtain ⟨s, hs⟩ := anc_side F hi f u h q hul
      exact ⟨s, fun x hx => hs x (up x hx).1⟩
/-- on no way a question stands twice -/
theorem prun_twice {t : List Nd} {m : Int} (h : (treeF t m).2 = 0) {i k f : Nat} (hik : i < k) (hk : k < (prunV t m).length) (hf : nf (nAt (prunV t m) k) ≠ -1) (e1 : nf (nAt (prunV t m) k) = nf (nAt (prunV t m) i)) (e2 : nc (nAt (prunV t m) k) = nc (nAt (prunV t m) i)) (e3 : ns (nAt (prunV t m) k) = ns (nAt (prunV t m) i)) : ancB (prunV t m) i f k = false := by
  obtain ⟨F, hb⟩ := prun_bare h
  have hR := F.2.2.2.2.1
  cases q : ancB (prunV t m) i f k with
  | false => rfl
  | true =>
    obtain ⟨s, hs⟩ := anc_side F (show i < (prunV t m).length by omega) f k q hik hk
    obtain ⟨a, b, ea, eb, _⟩ := ask_at hR hk hf
    have bk := (bare_at F hb (k + 1) k (by omega) hk).1
    rw [bt_ask hR hk hf ea eb] at bk
    obtain ⟨⟨x, px, gx⟩, ⟨y, py, gy⟩, _⟩ := bk
    have same : ∀ z, goes (nf (nAt (prunV t m) k)) (nc (nAt (prunV t m) k)) (ns (nAt (prunV t m) k)) z = lessC (nAt (prunV t m) i) (z.getD (nf (nAt (prunV t m) i)).toNat 0) := fun z => by rw [e1, e2, e3]; rfl
    rw [same] at gx gy
    have h1 := (hs x px.2).2
    have h2 := (hs y py.2).2
    rw [gx] at h1
    rw [gy] at h2
    rw [← h1] at h2
    cases h2

end Go.Proofs.Ytlloiccodjnkcag.M

namespace Go.Proofs.Ytlloiccodjnkcag.M
set_option linter.unusedVariables false

/-- from the place on the nodes tell this tree -/
def Den (sh : List Nd) : BT → Nat → Prop
  | .lf v, j => j < sh.length ∧ nAt sh j = (-1, 0, 0, 0, false, v)
  | .nd f c s l r, j => j < sh.length ∧ f ≠ -1 ∧ ∃ a b : Nat, nAt sh j = (f, c, (a : Int), (b : Int), s, 0) ∧ j < a ∧ j < b ∧ Den sh l a ∧ Den sh r b
theorem Den.lt {sh : List Nd} : ∀ {T : BT} {j : Nat}, Den sh T j → j < sh.length
  | .lf _, j, h => h.1
  | .nd _ _ _ _ _, j, h => h.1
/-- nodes ahead of the place do not matter -/
theorem Den.keep {sh sh' : List Nd} (hl : sh'.length = sh.length) : ∀ {T : BT} {j : Nat}, (∀ q, j ≤ q → nAt sh' q = nAt sh q) → Den sh T j → Den sh' T j
  | .lf v, j, h, ⟨h1, h2⟩ => ⟨by omega, by rw [h j (Nat.le_refl _)]; exact h2⟩
  | .nd f c s l r, j, h, ⟨h1, h2, a, b, h3, h4, h5, h6, h7⟩ => ⟨by omega, h2, a, b, by rw [h j (Nat.le_refl _)]; exact h3, h4, h5, Den.keep hl (fun q hq => h q (by omega)) h6, Den.keep hl (fun q hq => h q (by omega)) h7⟩
theorem Den.leaf_iff {sh : List Nd} {T : BT} {j : Nat} (h : Den sh T j) : (nf (nAt sh j) = -1 ↔ ∃ v, T = .lf v) ∧ ∀ v, T = .lf v → nv (nAt sh j) = v := by
  cases T with
  | lf v =>
    obtain ⟨h1, h2⟩ := h
    rw [h2]
    exact ⟨⟨fun _ => ⟨v, rfl⟩, fun _ => rfl⟩, fun u e => by cases e; rfl⟩
  | nd f c s l r =>
    obtain ⟨h1, h2, a, b, h3, _⟩ := h
    rw [h3]
    exact ⟨⟨fun q => absurd q h2, fun ⟨v, e⟩ => by cases e⟩, fun v e => by cases e⟩

theorem leaf_whole' {t : List Nd} {m : Int} (h : Right t m) {i : Nat} (hi : i < t.length) (hf : nf (nAt t i) = -1) : nAt t i = (-1, 0, 0, 0, false, nv (nAt t i)) := by
  have := h i hi
  unfold nodeF at this
  rw [if_pos hf] at this
  unfold lfF at this
  generalize nAt t i = n at *
  by_cases q1 : outI (nv n) = true
  · rw [if_pos q1] at this; cases this
  · rw [if_neg q1] at this
    by_cases q : nc n ≠ 0 ∨ nl n ≠ 0 ∨ nr n ≠ 0 ∨ ns n = true
    · rw [if_pos q] at this; cases this
    · have b0 : nc n = 0 := Decidable.not_not.1 (fun h => q (.inl h))
      have c0 : nl n = 0 := Decidable.not_not.1 (fun h => q (.inr (.inl h)))
      have d0 : nr n = 0 := Decidable.not_not.1 (fun h => q (.inr (.inr (.inl h))))
      have e0 : ns n = false := by
        cases e : ns n with
        | false => rfl
        | true => exact absurd (.inr (.inr (.inr e))) q
      have w : n = (nf n, nc n, nl n, nr n, ns n, nv n) := rfl
      rw [hf, b0, c0, d0, e0] at w
      exact w
/-- a tree that is right tells itself -/
theorem den_bt {t : List Nd} {m : Int} (h : Right t m) : ∀ (k i : Nat), i < t.length → t.length ≤ k + i → Den t (bt t i) i
  | 0, i, hi, hk => by omega
  | k + 1, i, hi, hk => by
    by_cases hf : nf (nAt t i) = -1
    · rw [bt_leaf hi hf]; exact ⟨hi, leaf_whole' h hi hf⟩
    · obtain ⟨a, b, ea, eb, h1, h2, h3, h4, _⟩ := ask_at h hi hf
      have hv : nv (nAt t i) = 0 := (node_ask (h i hi) hf).2.2.2.2.2.2.2.1
      rw [bt_ask h hi hf ea eb]
      refine ⟨hi, hf, a, b, ?_, h1, h3, den_bt h k a h2 (by omega), den_bt h k b h4 (by omega)⟩
      rw [← ea, ← eb, ← hv]
      rfl

/-! ### who comes to a place -/
/-- does a row come to the place? -/
def cmV (t : List Nd) (m i : Nat) : Bool := anyS (region t m i)
/-- .. told of leaves alone -/
def cmL (t : List Nd) (m i : Nat) : Bool := leafB (nAt t i) && cmV t m i
theorem rch_has (t : List Nd) (m : Nat) : ∀ k (x : Int), x ∈ rch t m k ↔ ∃ i : Nat, i < k ∧ x = (i : Int) ∧ cmL t m i = true
  | 0, x => by unfold rch; simp
  | k + 1, x => by
    have ih := rch_has t m k x
    unfold rch
    by_cases c : leafB (nAt t k) = true ∧ anyS (region t m k) = true
    · rw [if_pos c, List.mem_append, ih]
      constructor
      · rintro (⟨i, h1, h2, h3⟩ | h)
        · exact ⟨i, by omega, h2, h3⟩
        · exact ⟨k, by omega, by simpa using h, by unfold cmL cmV; rw [c.1, c.2]; rfl⟩
      · rintro ⟨i, h1, h2, h3⟩
        by_cases e : i = k
        · subst e; exact .inr (by simp [h2])
        · exact .inl ⟨i, by omega, h2, h3⟩
    · rw [if_neg c, ih]
      constructor
      · rintro ⟨i, h1, h2, h3⟩; exact ⟨i, by omega, h2, h3⟩
      · rintro ⟨i, h1, h2, h3⟩
        by_cases e : i = k
        · subst e
          unfold cmL cmV at h3
          rw [Bool.and_eq_true] at h3
          exact absurd h3 c
        · exact ⟨i, by omega, h2, h3⟩
theorem cm_leaf {t : List Nd} {m i : Nat} (hf : nf (nAt t i) = -1) : cmV t m i = cmL t m i := by
  unfold cmL
  have : leafB (nAt t i) = true := decide_eq_true hf
  rw [this, Bool.true_and]
theorem cm_ask {t : List Nd} {m : Nat} (F : Fair t (m : Int)) {i a b : Nat} (hi : i < t.length) (hf : nf (nAt t i) ≠ -1) (ea : nl (nAt t i) = a) (eb : nr (nAt t i) = b) : cmV t m i = (cmV t m a || cmV t m b) := by
  obtain ⟨a', b', ea', eb', h1, h2, h3, h4, _⟩ := ask_at F.2.2.2.2.1 hi hf
  have e1 : a' = a := by omega
  have e2 : b' = b := by omega
  subst e1
  subst e2
  obtain ⟨p1, p2⟩ := pw_sides F hi hf ea eb
  have r0 := reach_iff F hi
  have r1 := reach_iff F h2
  have r2 := reach_iff F h4
  unfold cmV
  rw [Bool.eq_iff_iff, Bool.or_eq_true, r0, r1, r2, ← p1, ← p2]
  constructor
  · rintro ⟨x, hx⟩
    cases e : goes (nf (nAt t i)) (nc (nAt t i)) (ns (nAt t i)) x with
    | true => exact .inl ⟨x, hx, e⟩
    | false => exact .inr ⟨x, hx, e⟩
  · rintro (⟨x, hx, _⟩ | ⟨x, hx, _⟩)
    · exact ⟨x, hx⟩
    · exact ⟨x, hx⟩
theorem cm_root {t : List Nd} {m : Nat} (F : Fair t (m : Int)) : cmV t m 0 = true := by
  refine (reach_iff F F.2.1).2 ?_
  rw [pw_root F]
  exact vld_some (by have := F.2.2.2.1; omega)
/-- the answers while they are worked out: those from k on are whole, the others tell of leaves alone -/
def cmK (t : List Nd) (m k i : Nat) : Bool := if k ≤ i then cmV t m i else cmL t m i
def cmLs (t : List Nd) (m k : Nat) : List Bool := (List.range 63).map fun i : Nat => if i < t.length then cmK t m k i else false
theorem cmLs_len (t : List Nd) (m k : Nat) : (cmLs t m k).length = 63 := by unfold cmLs; simp
theorem cmLs_at {t : List Nd} {m k i : Nat} (h : i < t.length) (hl : t.length ≤ 63) : (cmLs t m k).getD i false = cmK t m k i := by
  unfold cmLs
  simp [List.getD, show i < 63 by omega, h]
theorem cmLs_set {t : List Nd} {m k : Nat} (hk : k < t.length) (hl : t.length ≤ 63) : (cmLs t m (k + 1)).set k (cmV t m k) = cmLs t m k := by
  apply List.ext_getElem?
  intro i
  unfold cmLs
  rw [List.getElem?_set]
  by_cases e : k = i
  · subst e
    simp [show k < 63 by omega, hk, cmK]
  · rw [if_neg e]
    simp only [List.getElem?_map]
    by_cases h63 : i < 63
    · simp only [List.getElem?_range h63, Option.map_some]
      congr 1
      by_cases hi : i < t.length
      · rw [if_pos hi, if_pos hi]
        unfold cmK
        by_cases c : k ≤ i
        · rw [if_pos c, if_pos (by omega)]
        · rw [if_neg c, if_neg (by omega)]
      · rw [if_neg hi, if_neg hi]
    · rw [List.getElem?_eq_none (by simp; omega)]
      simp
theorem cmLs_leaf {t : List Nd} {m k : Nat} (hk : k < t.length) (hf : nf (nAt t k) = -1) : cmLs t m (k + 1) = cmLs t m k := by
  unfold cmLs
  apply List.map_congr_left
  intro i _
  by_cases hi : i < t.length
  · rw [if_pos hi, if_pos hi]
    unfold cmK
    by_cases e : i = k
    · subst e
      rw [if_neg (by omega), if_pos (Nat.le_refl _), cm_leaf hf]
    · by_cases c : k ≤ i
      · rw [if_pos c, if_pos (by omega)]
      · rw [if_neg c, if_neg (by omega)]
  · rw [if_neg hi, if_neg hi]
/-- leaves that are told, one behind the other -/
def cmR (t : List Nd) (l : List Int) : List Bool := (List.range 63).map fun i : Nat => decide ((i : Int) ∈ l)
theorem cmR_len (t : List Nd) (l : List Int) : (cmR t l).length = 63 := by unfold cmR; simp
theorem cmR_nil (t : List Nd) : cmR t [] = List.replicate 63 false := by
  unfold cmR
  rw [show (fun i : Nat => decide ((i : Int) ∈ ([] : List Int))) = fun _ => false by funext i; simp]
  simp [List.map_const']
theorem cmR_more (t : List Nd) (l : List Int) (j : Nat) (hj : j < 63) : (cmR t l).set j true = cmR t (l ++ [(j : Int)]) := by
  apply List.ext_getElem?
  intro i
  unfold cmR
  rw [List.getElem?_set]
  by_cases e : j = i
  · subst e
    simp [hj]
  · rw [if_neg e]
    simp only [List.getElem?_map]
    by_cases h63 : i < 63
    · simp only [List.getElem?_range h63, Option.map_some, List.mem_append, List.mem_singleton]
      congr 1
      have : ¬ ((i : Int) = (j : Int)) := by omega
      simp [this]
    · rw [List.getElem?_eq_none (by simp; omega)]
      simp
theorem cmR_all (t : List Nd) (m : Nat) : cmR t (rch t m t.length) = cmLs t m t.length := by
  unfold cmR cmLs
  apply List.map_congr_left
  intro i _
  by_cases hi : i < t.length
  · rw [if_pos hi]
    unfold cmK
    rw [if_neg (by omega), Bool.eq_iff_iff, decide_eq_true_iff, rch_has]
    constructor
    · rintro ⟨j, h1, h2, h3⟩
      have : i = j := by omega
      subst this
      exact h3
    · intro h; exact ⟨i, hi, rfl, h⟩
  · rw [if_neg hi, decide_eq_false_iff_not, rch_has]
    rintro ⟨j, h1, h2, h3⟩
    omega

/-! ### in fewer questions, from the last node to the first -/
/-- as far as k: the nodes ahead of it are as they were; from it on each place has another one in its stead, which tells what becomes of it -/
structure Shr (t : List Nd) (m k : Nat) (sh : List Nd) (ins : List Int) : Prop where
  len : sh.length = t.length
  ilen : ins.length = 63
  old : ∀ i, i < k → nAt sh i = nAt t i
  leaf : ∀ i, k ≤ i → i < t.length → nf (nAt t i) = -1 → nAt sh i = nAt t i
  new : ∀ i, k ≤ i → i < t.length → ∃ (j : Nat) (T : BT), i ≤ j ∧ ins.getD i 0 = (j : Int) ∧ Den sh T j ∧ (cmV t m i = true → T = prn (Pw t m i) (bt t i))
theorem Shr.start {t : List Nd} {m : Nat} : Shr t m t.length t (List.replicate 63 0) :=
  ⟨rfl, by simp, fun _ _ => rfl, fun i h1 h2 => by omega, fun i h1 h2 => by omega⟩
theorem getD_set_ne {l : List Int} {i j : Nat} {x : Int} (h : i ≠ j) : (l.set i x).getD j 0 = l.getD j 0 := by
  simp only [List.getD]; rw [List.getElem?_set_ne h]
theorem getD_set_at {l : List Int} {i : Nat} {x : Int} (h : i < l.length) : (l.set i x).getD i 0 = x := by
  simp [List.getD, h]
/-- a leaf stays -/
theorem Shr.stay {t : List Nd} {m k : Nat} {sh : List Nd} {ins : List Int} (F : Fair t (m : Int)) (S : Shr t m (k + 1) sh ins) (hk : k < t.length) (hf : nf (nAt t k) = -1) : Shr t m k sh (ins.set k (k : Int)) := by
  have l63 := F.1
  have hR := F.2.2.2.2.1
  have el : k < ins.length := by rw [S.ilen]; omega
  refine ⟨S.len, by rw [List.length_set]; exact S.ilen, fun i hi => S.old i (by omega), fun i h1 h2 h3 => ?_, fun i h1 h2 => ?_⟩
  · by_cases e : i = k
    · subst e; exact S.old i (by omega)
    · exact S.leaf i (by omega) h2 h3
  · by_cases e : i = k
    · subst e
      refine ⟨i, .lf (nv (nAt t i)), Nat.le_refl _, getD_set_at el, ⟨by rw [S.len]; exact h2, ?_⟩, fun _ => ?_⟩
      · rw [S.old i (by omega)]; exact leaf_whole' hR h2 hf
      · rw [bt_leaf h2 hf]; rfl
    · obtain ⟨j, T, g1, g2, g3, g4⟩ := S.new i (by omega) h2
      exact ⟨j, T, g1, by rw [getD_set_ne (by omega)]; exact g2, g3, g4⟩
/-- a node that asks, its sides turned -/
def turned (n : Nd) (a b : Int) : Nd := (nf n, nc n, a, b, ns n, nv n)
/-- which one comes in its place -/
def insV (ca cb : Bool) (sh : List Nd) (k ja jb : Nat) : Nat := if ca = false then jb else if cb = false then ja else if nf (nAt sh ja) = -1 ∧ nf (nAt sh jb) = -1 ∧ nv (nAt sh ja) = nv (nAt sh jb) then ja else k
theorem Shr.sides {t : List Nd} {m k : Nat} {sh : List Nd} {ins : List Int} (F : Fair t (m : Int)) (S : Shr t m (k + 1) sh ins) (hk : k < t.length) {a b : Nat} (hf : nf (nAt t k) ≠ -1) (ea : nl (nAt t k) = a) (eb : nr (nAt t k) = b) :
    k < a ∧ a < t.length ∧ k < b ∧ b < t.length ∧ ∃ ja jb : Nat, ins.getD a 0 = (ja : Int) ∧ ins.getD b 0 = (jb : Int) ∧ k < ja ∧ ja < t.length ∧ k < jb ∧ jb < t.length ∧
      Shr t m k (sh.set k (turned (nAt t k) (ja : Int) (jb : Int))) (ins.set k (insV (cmV t m a) (cmV t m b) (sh.set k (turned (nAt t k) (ja : Int) (jb : Int))) k ja jb : Nat)) := by
  have l63 := F.1
  have hR := F.2.2.2.2.1
  have el : k < ins.length := by rw [S.ilen]; omega
  obtain ⟨a', b', ea', eb', h1, h2, h3, h4, _⟩ := ask_at hR hk hf
  have e1 : a' = a := by omega
  have e2 : b' = b := by omega
  subst e1
  subst e2
  obtain ⟨ja, TA, a1, a2, a3, a4⟩ := S.new a' (by omega) h2
  obtain ⟨jb, TB, b1, b2, b3, b4⟩ := S.new b' (by omega) h4
  have la := a3.lt
  have lb := b3.lt
  rw [S.len] at la lb
  refine ⟨h1, h2, h3, h4, ja, jb, a2, b2, by omega, la, by omega, lb, ?_⟩
  have hv : nv (nAt t k) = 0 := (node_ask (hR k hk) hf).2.2.2.2.2.2.2.1
  obtain ⟨sh', hsh⟩ : ∃ s, s = sh.set k (turned (nAt t k) (ja : Int) (jb : Int)) := ⟨_, rfl⟩
  have sl : sh'.length = sh.length := by rw [hsh, List.length_set]
  have sk : nAt sh' k = turned (nAt t k) (ja : Int) (jb : Int) := by rw [hsh]; exact set_at (by rw [S.len]; exact hk)
  have sn : ∀ q, q ≠ k → nAt sh' q = nAt sh q := fun q hq => by rw [hsh]; exact set_ne hq
  rw [← hsh]
  clear hsh
  have a3' : Den sh' TA ja := a3.keep sl (fun q hq => sn q (by omega))
  have b3' : Den sh' TB jb := b3.keep sl (fun q hq => sn q (by omega))
  obtain ⟨p1, p2⟩ := pw_sides F hk hf ea eb
  have r1 := reach_iff F h2
  have r2 := reach_iff F h4
  have x1 : (∃ x, Pw t m k x ∧ goes (nf (nAt t k)) (nc (nAt t k)) (ns (nAt t k)) x = true) ↔ ∃ x, Pw t m a' x := by
    rw [← p1]
  have x2 : (∃ x, Pw t m k x ∧ goes (nf (nAt t k)) (nc (nAt t k)) (ns (nAt t k)) x = false) ↔ ∃ x, Pw t m b' x := by
    rw [← p2]
  refine ⟨by rw [sl]; exact S.len, by rw [List.length_set]; exact S.ilen, fun i hi => by rw [sn i (by omega)]; exact S.old i (by omega), fun i g1 g2 g3 => ?_, fun i g1 g2 => ?_⟩
  · have e : i ≠ k := fun e => by subst e; exact hf g3
    rw [sn i e]
    exact S.leaf i (by omega) g2 g3
  · by_cases e : i = k
    · subst e
      rw [getD_set_at el]
      have ck := cm_ask F hk hf ea eb
      unfold insV
      cases ca : cmV t m a' with
      | false =>
        rw [if_pos rfl]
        refine ⟨jb, TB, by omega, rfl, b3', fun hc => ?_⟩
        rw [ck, ca, Bool.false_or] at hc
        have n : ¬ ∃ x, Pw t m i x ∧ goes (nf (nAt t i)) (nc (nAt t i)) (ns (nAt t i)) x = true := fun h => by
          have := r1.2 (x1.1 h)
          unfold cmV at ca
          rw [ca] at this; cases this
        rw [b4 hc, bt_ask hR hk hf ea eb, prn_left n, p2]
      | true =>
        rw [if_neg (by decide)]
        have y1 := x1.2 (r1.1 ca)
        cases cb : cmV t m b' with
        | false =>
          rw [if_pos rfl]
          refine ⟨ja, TA, by omega, rfl, a3', fun hc => ?_⟩
          have n : ¬ ∃ x, Pw t m i x ∧ goes (nf (nAt t i)) (nc (nAt t i)) (ns (nAt t i)) x = false := fun h => by
            have := r2.2 (x2.1 h)
            unfold cmV at cb
            rw [cb] at this; cases this
          rw [a4 ca, bt_ask hR hk hf ea eb, prn_right y1 n, p1]
        | true =>
          rw [if_neg (by decide)]
          have y2 := x2.2 (r2.1 cb)
          have la3 := a3'.leaf_iff
          have lb3 := b3'.leaf_iff
          have E : prn (Pw t m i) (bt t i) = joinB (nf (nAt t i)) (nc (nAt t i)) (ns (nAt t i)) TA TB := by
            rw [bt_ask hR hk hf ea eb, prn_both y1 y2, p1, p2, ← a4 ca, ← b4 cb]
          by_cases c : nf (nAt sh' ja) = -1 ∧ nf (nAt sh' jb) = -1 ∧ nv (nAt sh' ja) = nv (nAt sh' jb)
          · rw [if_pos c]
            refine ⟨ja, TA, by omega, rfl, a3', fun _ => ?_⟩
            obtain ⟨c1, c2, c3⟩ := c
            obtain ⟨v, ev⟩ := la3.1.1 c1
            obtain ⟨u, eu⟩ := lb3.1.1 c2
            rw [la3.2 v ev, lb3.2 u eu] at c3
            rw [E, ev, eu, c3]
            show _ = if u = u then BT.lf u else _
            rw [if_pos rfl]
          · rw [if_neg c]
            refine ⟨i, .nd (nf (nAt t i)) (nc (nAt t i)) (ns (nAt t i)) TA TB, Nat.le_refl _, rfl, ⟨by rw [sl, S.len]; exact hk, hf, ja, jb, ?_, by omega, by omega, a3', b3'⟩, fun _ => ?_⟩
            · rw [sk]
              unfold turned
              rw [hv]
            · rw [E, joinB_plain (fun v q => c ⟨la3.1.2 ⟨v, q.1⟩, lb3.1.2 ⟨v, q.2⟩, by rw [la3.2 v q.1, lb3.2 v q.2]⟩)]
    · obtain ⟨j, T, q1, q2, q3, q4⟩ := S.new i (by omega) g2
      exact ⟨j, T, q1, by rw [getD_set_ne (by omega)]; exact q2, q3.keep sl (fun q hq => sn q (by omega)), q4⟩
/-- at the end the root's place tells the tree, pruned -/
theorem Shr.done {t : List Nd} {m : Nat} {sh : List Nd} {ins : List Int} (F : Fair t (m : Int)) (S : Shr t m 0 sh ins) : ∃ j : Nat, ins.getD 0 0 = (j : Int) ∧ j < t.length ∧ Den sh (prn (vld m) (bt t 0)) j := by
  obtain ⟨j, T, q1, q2, q3, q4⟩ := S.new 0 (Nat.le_refl _) F.2.1
  have e := q4 (cm_root F)
  rw [pw_root F] at e
  rw [e] at q3
  exact ⟨j, q2, by have := q3.lt; rw [S.len] at this; exact this, q3⟩

end Go.Proofs.Ytlloiccodjnkcag.M

namespace Go.Proofs.Ytlloiccodjnkcag.M
set_option linter.unusedVariables false

/-- a tree that became of another one, without a feature at a place -/
structure Gone (m : Nat) (f : Int) (T : BT) (i : Nat) (T' : BT) : Prop where
  ok : okB (m : Int) T'
  size : T'.size < T.size
  deep : T'.deep ≤ T.deep
  same : wo f T' = wo f T
  pre : (pre T').take i = (pre T).take i
theorem sub_ask {T : BT} {i : Nat} (hi : i < T.size) (h : nf (nAt (lay T 0) i) ≠ -1) : ∃ c s l r, sub T i = .nd (nf (nAt (lay T 0) i)) c s l r ∧ nAt (lay T 0) i = (nf (nAt (lay T 0) i), c, ((i + 1 : Nat) : Int), ((i + 1 + l.size : Nat) : Int), s, 0) ∧ Sits (lay T 0) (i + 1) l ∧ Sits (lay T 0) (i + 1 + l.size) r := by
  have S := (sits_lay T).under hi
  rw [Nat.zero_add] at S
  cases hs : sub T i with
  | lf v =>
    rw [hs] at S
    have e := S.leaf
    rw [e] at h
    exact absurd rfl h
  | nd f c s l r =>
    rw [hs] at S
    obtain ⟨e, s1, s2⟩ := S.sides
    have ef : nf (nAt (lay T 0) i) = f := by rw [e]; rfl
    exact ⟨c, s, l, r, by rw [ef], by rw [ef]; exact e, s1, s2⟩
/-- to which side it gives way -/
def sideN (n : Nd) : Int := if ns n = true then nl n else nr n
theorem gone {m : Nat} {T : BT} (ok : okB (m : Int) T) (h8 : m ≤ 8) (hz : T.size ≤ 63) {i : Nat} (hi : i < T.size) (h : nf (nAt (lay T 0) i) ≠ -1) :
    ∃ tw : Nat, sideN (nAt (lay T 0) i) = (tw : Int) ∧ tw < (lay T 0).length ∧ chL (nAt (lay T 0) i) (tw : Nat) ∧
      (i = 0 → Gone m (nf (nAt (lay T 0) i)) T i (bt (lay T 0) tw)) ∧
      ∀ up, Below2 (lay T 0) m up i tw → Gone m (nf (nAt (lay T 0) i)) T i (bt ((lay T 0).set up (turnN (nAt (lay T 0) up) i tw)) 0) := by
  have F : Fair (lay T 0) (m : Int) := lay_fair ok (by omega) (by omega) hz
  have hR := F.2.2.2.2.1
  obtain ⟨c, s, l, r, es, en, s1, s2⟩ := sub_ask hi h
  have lp := BT.size_pos l
  have rp := BT.size_pos r
  have so := sub_ok T i hi ok
  rw [es] at so
  have ll := lay_len T 0
  -- the side
  obtain ⟨tw, V, eto, tolt, tch, hV, vsz, vdp, vok, vwo⟩ : ∃ (tw : Nat) (V : BT), sideN (nAt (lay T 0) i) = (tw : Int) ∧ tw < (lay T 0).length ∧ chL (nAt (lay T 0) i) (tw : Nat) ∧ Sits (lay T 0) tw V ∧ V.size < (sub T i).size ∧ V.deep ≤ (sub T i).deep ∧ okB (m : Int) V ∧ wo (nf (nAt (lay T 0) i)) V = wo (nf (nAt (lay T 0) i)) (sub T i) := by
    have z1 : (sub T i).size = 1 + l.size + r.size := by rw [es]; rfl
    have z2 : (sub T i).deep = 1 + max l.deep r.deep := by rw [es]; rfl
    cases hs : s with
    | true =>
      subst hs
      refine ⟨i + 1, l, by rw [en]; rfl, by have := s1.1; omega, ⟨h, .inl (by rw [en]; rfl)⟩, s1, by omega, by omega, so.2.2.2.1, ?_⟩
      rw [es, wo_hit, if_pos rfl]
    | false =>
      subst hs
      refine ⟨i + 1 + l.size, r, by rw [en]; rfl, by have := s2.1; omega, ⟨h, .inr (by rw [en]; rfl)⟩, s2, by omega, by omega, so.2.2.2.2, ?_⟩
      rw [es, wo_hit, if_neg (by decide)]
  have make : ∀ T', T' = rep T i V → Gone m (nf (nAt (lay T 0) i)) T i T' := fun T' e => by
    subst e
    exact ⟨rep_ok T i V hi ok vok, rep_size T i V hi vsz, rep_deep T i V hi vdp, rep_wo T i V hi vwo, rep_pre T i V hi⟩
  refine ⟨tw, eto, tolt, tch, fun z => make _ ?_, fun up B => make _ ?_⟩
  · subst z
    rw [hV.tree hR vok, rep_zero]
  · have l1 := ch_lt hR B.hup B.c1
    have l2 := ch_lt hR B.hat B.c2
    have hl : ((lay T 0).set up (turnN (nAt (lay T 0) up) i tw)).length = (lay T 0).length := List.length_set
    have hq : ∀ q, q ≠ up → nAt ((lay T 0).set up (turnN (nAt (lay T 0) up) i tw)) q = nAt (lay T 0) q := fun q hq => set_ne hq
    have kV : Sits ((lay T 0).set up (turnN (nAt (lay T 0) up) i tw)) tw V := hV.kept hl hq (.inl (by omega))
    have := (Sits.turned (m := (m : Int)) B.right hl hq (set_at B.hup) B.c1 (kV.tree B.right vok) (T := T) (k := 0) ok (sits_lay T) (Nat.zero_le _) (by rw [Nat.zero_add, ← ll]; exact B.hup)).2.2
    rw [this, Nat.sub_zero]

end Go.Proofs.Ytlloiccodjnkcag.M

namespace Go.Proofs.Ytlloiccodjnkcag.M
set_option linter.unusedVariables false

/-- past the nodes that ask for a feature -/
def pstK (t : List Nd) (f : Int) : Nat → Nat → Nat
  | 0, i => i
  | n + 1, i => if nf (nAt t i) = f then pstK t f n (sideN (nAt t i)).toNat else i
def pst (t : List Nd) (f : Int) (i : Nat) : Nat := pstK t f t.length i
theorem side_in {t : List Nd} {m : Int} (h : Right t m) {i : Nat} (hi : i < t.length) (hf : nf (nAt t i) ≠ -1) : ∃ a : Nat, sideN (nAt t i) = (a : Int) ∧ i < a ∧ a < t.length := by
  obtain ⟨a, b, ea, eb, h1, h2, h3, h4, _⟩ := ask_at h hi hf
  unfold sideN
  split
  · exact ⟨a, ea, h1, h2⟩
  · exact ⟨b, eb, h3, h4⟩
theorem pst_miss {t : List Nd} {f : Int} {n i : Nat} (h : nf (nAt t i) ≠ f) : pstK t f n i = i := by
  cases n with
  | zero => rfl
  | succ n => show (if _ then _ else _) = _; rw [if_neg h]
theorem pst_hit {t : List Nd} {f : Int} {n i a : Nat} (h : nf (nAt t i) = f) (ha : sideN (nAt t i) = (a : Int)) : pstK t f (n + 1) i = pstK t f n a := by
  show (if _ then _ else _) = _
  rw [if_pos h, ha, Int.toNat_natCast]
theorem pst_enough {t : List Nd} {m f : Int} (h : Right t m) (h0 : f ≠ -1) : ∀ (k n n' i : Nat), i < t.length → t.length ≤ k + i → t.length ≤ n + i → t.length ≤ n' + i → pstK t f n i = pstK t f n' i
  | 0, n, n', i, hi, hk, _, _ => by omega
  | k + 1, n, n', i, hi, hk, hn, hn' => by
    by_cases e : nf (nAt t i) = f
    · obtain ⟨a, ea, h1, h2⟩ := side_in h hi (by rw [e]; exact h0)
      obtain ⟨n, rfl⟩ : ∃ x, n = x + 1 := ⟨n - 1, by omega⟩
      obtain ⟨n', rfl⟩ : ∃ x, n' = x + 1 := ⟨n' - 1, by omega⟩
      rw [pst_hit e ea, pst_hit e ea]
      exact pst_enough h h0 k n n' a h2 (by omega) (by omega) (by omega)
    · rw [pst_miss e, pst_miss e]
theorem pst_on {t : List Nd} {m f : Int} (h : Right t m) (h0 : f ≠ -1) {i a : Nat} (hi : i < t.length) (e : nf (nAt t i) = f) (ea : sideN (nAt t i) = (a : Int)) : pst t f i = pst t f a := by
  obtain ⟨a', ea', h1, h2⟩ := side_in h hi (by rw [e]; exact h0)
  have : a' = a := by omega
  subst this
  unfold pst
  rw [pst_enough h h0 t.length t.length (t.length + 1) i hi (by omega) (by omega) (by omega), pst_hit e ea]
/-- nodes that tell a tree from a place on, past those that ask for a feature -/
def WDen (t : List Nd) (f : Int) : BT → Nat → Prop
  | .lf v, j => j < t.length ∧ pst t f j < t.length ∧ nAt t (pst t f j) = (-1, 0, 0, 0, false, v)
  | .nd g c s l r, j => j < t.length ∧ pst t f j < t.length ∧ g ≠ -1 ∧ ∃ a b : Nat, nAt t (pst t f j) = (g, c, (a : Int), (b : Int), s, 0) ∧ WDen t f l a ∧ WDen t f r b
theorem WDen.move {t : List Nd} {f : Int} {T : BT} {i j : Nat} (hi : i < t.length) (e : pst t f i = pst t f j) (h : WDen t f T j) : WDen t f T i := by
  cases T with
  | lf v =>
    obtain ⟨_, h2, h3⟩ := h
    exact ⟨hi, by rw [e]; exact h2, by rw [e]; exact h3⟩
  | nd g c s l r =>
    obtain ⟨_, h2, h3, a, b, h4, h5⟩ := h
    exact ⟨hi, by rw [e]; exact h2, h3, a, b, by rw [e]; exact h4, h5⟩
theorem wden {t : List Nd} {m f : Int} (h : Right t m) (h0 : f ≠ -1) : ∀ (k i : Nat), i < t.length → t.length ≤ k + i → WDen t f (wo f (bt t i)) i
  | 0, i, hi, hk => by omega
  | k + 1, i, hi, hk => by
    have D := den_bt h t.length i hi (by omega)
    by_cases hl : nf (nAt t i) = -1
    · rw [bt_leaf hi hl] at D ⊢
      have e : pst t f i = i := pst_miss (by rw [hl]; exact fun q => h0 q.symm)
      exact ⟨hi, by rw [e]; exact hi, by rw [e]; exact D.2⟩
    · obtain ⟨a, b, ea, eb, h1, h2, h3, h4, _⟩ := ask_at h hi hl
      have B := bt_ask h hi hl ea eb
      rw [B] at D ⊢
      by_cases e : nf (nAt t i) = f
      · rw [e, wo_hit]
        split
        · rename_i hs
          exact (wden h h0 k a h2 (by omega)).move hi (pst_on h h0 hi e (by unfold sideN; rw [if_pos hs]; exact ea))
        · rename_i hs
          exact (wden h h0 k b h4 (by omega)).move hi (pst_on h h0 hi e (by unfold sideN; rw [if_neg hs]; exact eb))
      · rw [wo_miss e]
        have q : pst t f i = i := pst_miss e
        obtain ⟨_, d2, a', b', d3, _, _, _, _⟩ := D
        have ea' : (a' : Int) = (a : Int) := by rw [← ea, d3]; rfl
        have eb' : (b' : Int) = (b : Int) := by rw [← eb, d3]; rfl
        refine ⟨hi, by rw [q]; exact hi, hl, a, b, ?_, wden h h0 k a h2 (by omega), wden h h0 k b h4 (by omega)⟩
        rw [q, ← ea', ← eb']
        exact d3

end Go.Proofs.Ytlloiccodjnkcag.M
