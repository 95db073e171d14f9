/-
  A tree from which nothing more can be left out, where its nodes lie: each is reached, and no two leaves side by side are alike; no condition beyond those named.
-/
import Derived.Test.YtjnkkniefpmgdadMathI
import Derived.Test.YtjnkkniefpmgdadMathZ
namespace Go.Proofs.Ytjnkkniefpmgdad.M
set_option linter.unusedVariables false

theorem vld_some {m : Nat} (h : m ≤ 8) : ∃ x, vld m x := by
  refine ⟨List.replicate m 0, (row_ok _).2 ⟨by simpa using h, fun x hx => ?_⟩, by simp⟩
  rw [(List.mem_replicate.1 hx).2]
  exact good_cell (out_in (by omega) (by omega))
/-- bare as a whole, it is so below each place, and each place has a row -/
theorem bare_at {t : List Nd} {m : Nat} (F : Fair t (m : Int)) (hb : Bare (vld m) (bt t 0)) : ∀ (k i : Nat), i < k → i < t.length → Bare (Pw t m i) (bt t i) ∧ ∃ x, Pw t m i x
  | 0, i, hk, hi => by omega
  | k + 1, i, hk, hi => by
    have hR := F.2.2.2.2.1
    rcases Nat.eq_zero_or_pos i with h0 | h0
    · subst h0
      rw [pw_root F]
      exact ⟨hb, vld_some (by have := F.2.2.2.1; omega)⟩
    · obtain ⟨u, hu, c⟩ := up_some (F.2.2.2.2.2 i h0 hi)
      have lu := ch_lt hR hu c
      obtain ⟨b1, _⟩ := bare_at F hb k u (by omega) hu
      obtain ⟨a, b, ea, eb, h1, h2, h3, h4, _⟩ := ask_at hR hu c.1
      obtain ⟨p1, p2⟩ := pw_sides F hu c.1 ea eb
      rw [bt_ask hR hu c.1 ea eb] at b1
      obtain ⟨x1, x2, _, y1, y2⟩ := b1
      rw [p1] at y1
      rw [p2] at y2
      rcases c.2 with q | q
      · have e : a = i := by omega
        subst e
        refine ⟨y1, ?_⟩
        rw [← p1]
        exact x1
      · have e : b = i := by omega
        subst e
        refine ⟨y2, ?_⟩
        rw [← p2]
        exact x2
/-- what is pruned is bare -/
theorem prun_bare {t : List Nd} {m : Int} (h : (treeF t m).2 = 0) : Fair (prunV t m) ((m.toNat : Nat) : Int) ∧ Bare (vld m.toNat) (bt (prunV t m) 0) := by
  have F := (tree_ok h).1
  have ok := bt_ok F.2.2.2.2.1 t.length 0 F.2.1 (by omega)
  have pt := (prun_tree h).1
  refine ⟨(fair_nat pt).1, ?_⟩
  have e : prunV t m = lay (prn (vld m.toNat) (bt t 0)) 0 := by unfold prunV; rw [if_pos h]
  rw [e, bt_of_lay (prn_ok _ _ ok)]
  exact bare_prn _ _
theorem prun_reached {t : List Nd} {m : Int} (h : (treeF t m).2 = 0) {i : Nat} (hi : i < (prunV t m).length) : anyS (region (prunV t m) m.toNat i) = true := by
  obtain ⟨F, hb⟩ := prun_bare h
  exact (reach_iff F hi).2 (bare_at F hb (i + 1) i (by omega) hi).2
/-- all leaves are reached -/
theorem rch_all {t : List Nd} {m : Nat} : ∀ k, k ≤ t.length → (∀ i, i < t.length → anyS (region t m i) = true) → rch t m k = lvs t k
  | 0, _, _ => rfl
  | k + 1, hk, h => by
    unfold rch lvs
    rw [rch_all k (by omega) h, h k (by omega)]
    simp
/-- no two leaves side by side are alike -/
theorem prun_apart {t : List Nd} {m : Int} (h : (treeF t m).2 = 0) {i a b : Nat} (hi : i < (prunV t m).length) (hf : nf (nAt (prunV t m) i) ≠ -1) (ea : nl (nAt (prunV t m) i) = a) (eb : nr (nAt (prunV t m) i) = b) : ¬ (nf (nAt (prunV t m) a) = -1 ∧ nf (nAt (prunV t m) b) = -1 ∧ nv (nAt (prunV t m) a) = nv (nAt (prunV t m) b)) := by
  obtain ⟨F, hb⟩ := prun_bare h
  have hR := F.2.2.2.2.1
  rintro ⟨l1, l2, l3⟩
  obtain ⟨a', b', ea', eb', h1, h2, h3, h4, _⟩ := ask_at hR hi hf
  have e1 : a' = a := by omega
  have e2 : b' = b := by omega
  subst e1
  subst e2
  have bi := (bare_at F hb (i + 1) i (by omega) hi).1
  rw [bt_ask hR hi hf ea eb] at bi
  exact bi.2.2.1 (nv (nAt (prunV t m) a')) ⟨bt_leaf h2 l1, by rw [bt_leaf h4 l2, l3]⟩
/-- in order each Left is right behind its node -/
theorem lay_left {m : Int} : ∀ (T : BT) (k j : Nat), okB m T → j < T.size → nf (nAt (lay T k) j) ≠ -1 → nl (nAt (lay T k) j) = ((k + j + 1 : Nat) : Int)
  | .lf v, k, j, h, hj, hf => by
    have hj' : j < 1 := hj
    obtain rfl : j = 0 := by omega
    exact absurd rfl hf
  | .nd f c s l r, k, j, ⟨g0, g1, g2, g3, g4⟩, hj, hf => by
    have es : (BT.nd f c s l r).size = 1 + l.size + r.size := rfl
    rw [es] at hj
    have e : lay (.nd f c s l r) k = (f, c, ((k + 1 : Nat) : Int), ((k + 1 + l.size : Nat) : Int), s, 0) :: (lay l (k + 1) ++ lay r (k + 1 + l.size)) := rfl
    rw [e] at hf ⊢
    rcases j with _ | j
    · rfl
    · have e2 : nAt ((f, c, ((k + 1 : Nat) : Int), ((k + 1 + l.size : Nat) : Int), s, (0 : Int)) :: (lay l (k + 1) ++ lay r (k + 1 + l.size))) (j + 1) = nAt (lay l (k + 1) ++ lay r (k + 1 + l.size)) j := by simp [nAt]
      rw [e2] at hf ⊢
      by_cases hl : j < l.size
      · have e3 : nAt (lay l (k + 1) ++ lay r (k + 1 + l.size)) j = nAt (lay l (k + 1)) j := by
          unfold nAt; simp [List.getD, List.getElem?_append_left (show j < (lay l (k + 1)).length by rw [lay_len]; exact hl)]
        rw [e3] at hf ⊢
        rw [lay_left l (k + 1) j g3 hl hf]
        omega
      · have e3 : nAt (lay l (k + 1) ++ lay r (k + 1 + l.size)) j = nAt (lay r (k + 1 + l.size)) (j - l.size) := by
          unfold nAt
          simp only [List.getD]
          rw [List.getElem?_append_right (by rw [lay_len]; omega), lay_len]
        rw [e3] at hf ⊢
        rw [lay_left r (k + 1 + l.size) (j - l.size) g4 (by omega) hf]
        omega
theorem prun_left {t : List Nd} {m : Int} (h : (treeF t m).2 = 0) {i : Nat} (hi : i < (prunV t m).length) (hf : nf (nAt (prunV t m) i) ≠ -1) : nl (nAt (prunV t m) i) = ((i + 1 : Nat) : Int) := by
  have F := (tree_ok h).1
  have ok := bt_ok F.2.2.2.2.1 t.length 0 F.2.1 (by omega)
  have e : prunV t m = lay (prn (vld m.toNat) (bt t 0)) 0 := by unfold prunV; rw [if_pos h]
  rw [e] at hi hf ⊢
  rw [lay_len] at hi
  rw [lay_left _ 0 i (prn_ok _ _ ok) hi hf]
  omega

/-! ### one value -/
theorem bt_all {t : List Nd} {m : Int} (h : Right t m) {v : Int} (hv : ∀ i, i < t.length → nf (nAt t i) = -1 → nv (nAt t i) = v) : ∀ (k i : Nat), i < t.length → t.length ≤ k + i → allV v (bt t i)
  | 0, i, hi, hk => by omega
  | k + 1, i, hi, hk => by
    by_cases hl : nf (nAt t i) = -1
    · rw [bt_leaf hi hl]; exact hv i hi hl
    · obtain ⟨a, b, ea, eb, h1, h2, h3, h4, _⟩ := ask_at h hi hl
      rw [bt_ask h hi hl ea eb]
      exact ⟨bt_all h hv k a h2 (by omega), bt_all h hv k b h4 (by omega)⟩
/-- where all leaves say one thing nothing is asked -/
theorem prun_one {t : List Nd} {m v : Int} (h : (treeF t m).2 = 0) (hv : ∀ i, i < t.length → nf (nAt t i) = -1 → nv (nAt t i) = v) : prunV t m = [(-1, 0, 0, 0, false, v)] := by
  have F := (tree_ok h).1
  unfold prunV
  rw [if_pos h, prn_one _ _ v (bt_all F.2.2.2.2.1 hv t.length 0 F.2.1 (by omega))]
  rfl

/-! ### no question twice on a way -/
/-- does a place stand below another one? -/
def ancB (t : List Nd) (i : Nat) : Nat → Nat → Bool
  | 0, j => decide (j = i)
  | f + 1, j => if j ≤ i then decide (j = i) else match abv t j with
    | none => false
    | some u => ancB t i f u
/-- who comes to a place below another one came by there, and all went one way -/
theorem anc_side {t : List Nd} {m : Nat} (F : Fair t (m : Int)) {i : Nat} (hi : i < t.length) : ∀ (f j : Nat), ancB t i f j = true → i < j → j < t.length → ∃ s : Bool, ∀ x, j ∈ way t x 0 → i ∈ way t x 0 ∧ lessC (nAt t i) (x.getD (nf (nAt t i)).toNat 0) = s
  | 0, j, h, hij, hj => by
    unfold ancB at h
    have := of_decide_eq_true h
    omega
  | f + 1, j, h, hij, hj => by
    have hR := F.2.2.2.2.1
    unfold ancB at h
    rw [if_neg (by omega)] at h
    obtain ⟨u, hu⟩ := abv_some F hj (by omega)
    rw [hu] at h
    obtain ⟨hul, c⟩ := (abv_iff F hj).1 hu
    have lu := ch_lt hR hul c
    obtain ⟨a, b, ea, eb, h1, h2, h3, h4, h5⟩ := ask_at hR hul c.1
    have up : ∀ x, j ∈ way t x 0 → u ∈ way t x 0 ∧ lessC (nAt t u) (x.getD (nf (nAt t u)).toNat 0) = decide (nl (nAt t u) = (j : Int)) := fun x hx => by
      have wl := way_left F x hul c.1 ea eb
      rcases c.2 with q | q
      · have e : a = j := by omega
        subst e
        rw [decide_eq_true ea]
        exact wl.1.1 hx
      · have e : b = j := by omega
        subst e
        rw [decide_eq_false (by rw [ea]; omega)]
        exact wl.2.1 hx
    rcases Nat.lt_trichotomy u i with q | q | q
    · have h' : ancB t i f u = true := h
      have : ancB t i f u = decide (u = i) := by
        cases f with
        | zero => rfl
        | succ f => unfold ancB; rw [if_pos (by omega)]
      rw [this] at h'
      have := of_decide_eq_true h'
      omega
    · subst q
      exact ⟨_, fun x hx => up x hx⟩
    · obtain ⟨s, hs⟩ := anc_side F hi f u h q hul
      exact ⟨s, fun x hx => hs x (up x hx).1⟩
/-- on no way a question stands twice -/
theorem prun_twice {t : List Nd} {m : Int} (h : (treeF t m).2 = 0) {i k f : Nat} (hik : i < k) (hk : k < (prunV t m).length) (hf : nf (nAt (prunV t m) k) ≠ -1) (e1 : nf (nAt (prunV t m) k) = nf (nAt (prunV t m) i)) (e2 : nc (nAt (prunV t m) k) = nc (nAt (prunV t m) i)) (e3 : ns (nAt (prunV t m) k) = ns (nAt (prunV t m) i)) : ancB (prunV t m) i f k = false := by
  obtain ⟨F, hb⟩ := prun_bare h
  have hR := F.2.2.2.2.1
  cases q : ancB (prunV t m) i f k with
  | false => rfl
  | true =>
    obtain ⟨s, hs⟩ := anc_side F (show i < (prunV t m).length by omega) f k q hik hk
    obtain ⟨a, b, ea, eb, _⟩ := ask_at hR hk hf
    have bk := (bare_at F hb (k + 1) k (by omega) hk).1
    rw [bt_ask hR hk hf ea eb] at bk
    obtain ⟨⟨x, px, gx⟩, ⟨y, py, gy⟩, _⟩ := bk
    have same : ∀ z, goes (nf (nAt (prunV t m) k)) (nc (nAt (prunV t m) k)) (ns (nAt (prunV t m) k)) z = lessC (nAt (prunV t m) i) (z.getD (nf (nAt (prunV t m) i)).toNat 0) := fun z => by rw [e1, e2, e3]; rfl
    rw [same] at gx gy
    have h1 := (hs x px.2).2
    have h2 := (hs y py.2).2
    rw [gx] at h1
    rw [gy] at h2
    rw [← h1] at h2
    cases h2

end Go.Proofs.Ytjnkkniefpmgdad.M
