/-
  The tree that is grown of samples: right, not too deep, shifted with its targets; what is wrong with it; no condition beyond those named.
-/
import Derived.Test.YtiggkjkjfnlfkaaGreatDoorMathSa
namespace Go.Proofs.YtiggkjkjfnlfkaaGreatDoor.M
set_option linter.unusedVariables false

/-- samples that are right, as many or fewer -/
structure GoodS (l : List Sa) (m : Nat) : Prop where
  le : l.length ≤ 60
  m8 : m ≤ 8
  each : ∀ s ∈ l, rowF s.1 = 0 ∧ s.1.length = m ∧ (-1000 ≤ s.2 ∧ s.2 ≤ 1000) ∧ nilI ∉ s.1
theorem sa1_zero {m : Int} {s : Sa} (h : sa1F m s = 0) : rowF s.1 = 0 ∧ (s.1.length : Int) = m ∧ (-1000 ≤ s.2 ∧ s.2 ≤ 1000) ∧ nilI ∉ s.1 := by
  unfold sa1F at h
  by_cases c1 : rowF s.1 = 0
  · rw [if_neg (by simp [c1])] at h
    by_cases c2 : s.2 < -1000 ∨ 1000 < s.2
    · rw [if_pos c2] at h; cases h
    · rw [if_neg c2] at h
      by_cases c3 : (s.1.length : Int) = m
      · rw [if_neg (by simp [c3])] at h
        by_cases c4 : nilI ∈ s.1
        · rw [if_pos c4] at h; cases h
        · exact ⟨c1, c3, by omega, c4⟩
      · rw [if_pos c3] at h; cases h
  · rw [if_pos c1] at h; exact absurd h c1
theorem sam_ok {l : List Sa} {m : Int} (h : (samF l m).2 = 0) : GoodS l m.toNat ∧ 0 < l.length ∧ ((m.toNat : Nat) : Int) = m ∧ (samF l m).1 = 0 := by
  unfold samF at h ⊢
  by_cases c1 : 60 < l.length
  · rw [if_pos c1] at h; cases h
  · rw [if_neg c1] at h ⊢
    by_cases c2 : l.length = 0
    · rw [if_pos c2] at h; cases h
    · rw [if_neg c2] at h ⊢
      by_cases c3 : m < 0 ∨ 8 < m
      · rw [if_pos c3] at h; cases h
      · rw [if_neg c3] at h ⊢
        split at h
        · rename_i k e
          have q := (first_some e).2
          rw [decide_eq_true h] at q
          cases q
        · rename_i e
          refine ⟨⟨by omega, by omega, fun s hs => ?_⟩, by omega, by omega, rfl⟩
          obtain ⟨i, hi, rfl⟩ := List.getElem_of_mem hs
          have q := first_none e i hi
          have q' : sa1F m (sAt l i) = 0 := by simpa using q
          have e2 : sAt l i = l[i] := by unfold sAt; rw [getD_at hi]
          rw [e2] at q'
          obtain ⟨z1, z2, z3, z4⟩ := sa1_zero q'
          exact ⟨z1, by omega, z3, z4⟩
theorem GoodS.part {l : List Sa} {m : Nat} (h : GoodS l m) (f : Nat) (c : Int) (b : Bool) : GoodS (partS l f c b) m :=
  ⟨Nat.le_trans (List.length_filter_le _ _) h.le, h.m8, fun s hs => h.each s (List.mem_filter.1 hs).1⟩
theorem sum_in : ∀ {l : List Sa}, (∀ s ∈ l, -1000 ≤ s.2 ∧ s.2 ≤ 1000) → -1000 * (l.length : Nat) ≤ sumT l ∧ sumT l ≤ 1000 * (l.length : Nat)
  | [], _ => by simp [sumT]
  | s :: l, h => by
    have ih := sum_in (l := l) fun x hx => h x (List.mem_cons_of_mem _ hx)
    have := h s (List.mem_cons_self ..)
    show _ ≤ s.2 + sumT l ∧ s.2 + sumT l ≤ _
    rw [List.length_cons]
    omega

/-! ### grown -/
def meanS (l : List Sa) : Int := sumT l / (l.length : Nat)
def growT (m : Nat) (least : Int) : Nat → List Sa → BT
  | 0, l => .lf (meanS l)
  | d + 1, l => if (spV l m least).2.2.2.2 = true then .nd ((spV l m least).2.2.1 : Nat) (spV l m least).2.2.2.1 (decide (nB l (spV l m least).2.2.1 (spV l m least).2.2.2.1 false < nB l (spV l m least).2.2.1 (spV l m least).2.2.2.1 true)) (growT m least d (partS l (spV l m least).2.2.1 (spV l m least).2.2.2.1 true)) (growT m least d (partS l (spV l m least).2.2.1 (spV l m least).2.2.2.1 false)) else .lf (meanS l)
theorem grow_deep (m : Nat) (least : Int) : ∀ (d : Nat) (l : List Sa), (growT m least d l).deep ≤ d ∧ (growT m least d l).size + 1 ≤ 2 ^ (d + 1)
  | 0, l => ⟨Nat.le_refl _, Nat.le_refl _⟩
  | d + 1, l => by
    unfold growT
    split
    · obtain ⟨a1, a2⟩ := grow_deep m least d (partS l (spV l m least).2.2.1 (spV l m least).2.2.2.1 true)
      obtain ⟨b1, b2⟩ := grow_deep m least d (partS l (spV l m least).2.2.1 (spV l m least).2.2.2.1 false)
      refine ⟨?_, ?_⟩
      · show 1 + max _ _ ≤ d + 1
        omega
      · show 1 + _ + _ + 1 ≤ 2 ^ (d + 1 + 1)
        rw [Nat.pow_succ]
        omega
    · refine ⟨Nat.zero_le _, ?_⟩
      show 1 + 1 ≤ 2 ^ (d + 1 + 1)
      have : 1 ≤ 2 ^ (d + 1) := Nat.one_le_two_pow
      rw [Nat.pow_succ]; omega
/-- both sides of the question that is asked have samples -/
theorem grow_sides {l : List Sa} {m : Nat} {least : Int} (h1 : 1 ≤ least) (hl : 0 < l.length) (q : (spV l m least).2.2.2.2 = true) :
    (spV l m least).2.2.1 < m ∧ (∃ i, i < l.length ∧ colA (sAt l i) (spV l m least).2.2.1 = (spV l m least).2.2.2.1) ∧ least ≤ nB l (spV l m least).2.2.1 (spV l m least).2.2.2.1 true ∧ least ≤ nB l (spV l m least).2.2.1 (spV l m least).2.2.2.1 false ∧ More l (spV l m least).2.2.1 (spV l m least).2.2.2.1 := by
  obtain ⟨t1, t2, _⟩ := (split_spec (m := m) h1 hl).2 q
  exact ⟨t1.1, t1.2.1, (spD_pos h1 t1.2.2).2.1, (spD_pos h1 t1.2.2).2.2, t2⟩
theorem mean_in {l : List Sa} {m : Nat} (h : GoodS l m) (hl : 0 < l.length) : -1000 ≤ meanS l ∧ meanS l ≤ 1000 := by
  have hs := sum_in fun s hs => (h.each s hs).2.2.1
  unfold meanS
  have hp : (0 : Int) < (l.length : Nat) := by omega
  constructor
  · exact (Int.le_ediv_iff_mul_le hp).2 hs.1
  · exact Int.le_of_lt_add_one (Int.ediv_lt_of_lt_mul hp (by omega))
theorem cell_in {l : List Sa} {m : Nat} (h : GoodS l m) {i f : Nat} (hi : i < l.length) (hf : f < m) : outI (colA (sAt l i) f) = false := by
  have e : sAt l i = l[i] := by unfold sAt; rw [getD_at hi]
  obtain ⟨z1, z2, z3, z4⟩ := h.each l[i] (List.getElem_mem hi)
  have hm : l[i].1.getD f 0 ∈ l[i].1 := by rw [getD_at (by omega)]; exact List.getElem_mem _
  unfold colA
  rw [e]
  have := ((row_ok _).1 z1).2 _ hm
  unfold badCell at this
  by_cases c : l[i].1.getD f 0 = nilI
  · exact absurd (c ▸ hm) z4
  · rw [decide_eq_false c] at this
    exact this
theorem grow_ok {m : Nat} {least : Int} (h1 : 1 ≤ least) : ∀ (d : Nat) {l : List Sa}, GoodS l m → 0 < l.length → okB (m : Int) (growT m least d l)
  | 0, l, h, hl => by
    have := mean_in h hl
    exact out_in (by omega) (by omega)
  | d + 1, l, h, hl => by
    unfold growT
    split
    · rename_i q
      obtain ⟨s1, ⟨i, hi, e⟩, s3, s4, _⟩ := grow_sides h1 hl q
      have n1 : 0 < (partS l (spV l m least).2.2.1 (spV l m least).2.2.2.1 true).length := by unfold nB at s3; omega
      have n2 : 0 < (partS l (spV l m least).2.2.1 (spV l m least).2.2.2.1 false).length := by unfold nB at s4; omega
      refine ⟨by omega, by omega, ?_, grow_ok h1 d (h.part _ _ _) n1, grow_ok h1 d (h.part _ _ _) n2⟩
      rw [← e]
      exact cell_in h hi s1
    · have := mean_in h hl
      exact out_in (by omega) (by omega)
def grwF (l : List Sa) (m depth least : Int) : Int := if (samF l m).2 ≠ 0 then (samF l m).2 else if depth < 0 ∨ 5 < depth ∨ least < 1 ∨ 60 < least then 1 else 0
def grwT (l : List Sa) (m depth least : Int) : List Nd := if grwF l m depth least = 0 then lay (growT m.toNat least depth.toNat l) 0 else []
theorem grw_ok {l : List Sa} {m depth least : Int} (h : grwF l m depth least = 0) : (samF l m).2 = 0 ∧ 0 ≤ depth ∧ depth ≤ 5 ∧ 1 ≤ least ∧ least ≤ 60 := by
  unfold grwF at h
  by_cases c : (samF l m).2 = 0
  · rw [if_neg (by simp [c])] at h
    by_cases d : depth < 0 ∨ 5 < depth ∨ least < 1 ∨ 60 < least
    · rw [if_pos d] at h; cases h
    · exact ⟨c, by omega, by omega, by omega, by omega⟩
  · rw [if_pos c] at h; exact absurd h c
/-- what is grown is a tree that is right -/
theorem grw_tree {l : List Sa} {m depth least : Int} (h : grwF l m depth least = 0) : (treeF (grwT l m depth least) m).2 = 0 ∧ okB m (growT m.toNat least depth.toNat l) ∧ (grwT l m depth least).length ≤ 63 := by
  obtain ⟨h1, d0, d5, l1, l60⟩ := grw_ok h
  obtain ⟨G, hl, hm, _⟩ := sam_ok h1
  have ok := grow_ok (m := m.toNat) l1 depth.toNat G hl
  rw [hm] at ok
  obtain ⟨g1, g2⟩ := grow_deep m.toNat least depth.toNat l
  have p : 2 ^ (depth.toNat + 1) ≤ 2 ^ 6 := Nat.pow_le_pow_right (by decide) (by omega)
  have m8 := G.m8
  unfold grwT
  rw [if_pos h]
  exact ⟨lay_tree ok (by omega) (by omega) (by omega) (by omega), ok, by rw [lay_len]; omega⟩

/-! ### shifted -/
def shB (b : Int) : BT → BT
  | .lf v => .lf (v + b)
  | .nd f c s l r => .nd f c s (shB b l) (shB b r)
theorem sh_size (b : Int) : ∀ T : BT, (shB b T).size = T.size
  | .lf _ => rfl
  | .nd _ _ _ l r => by unfold shB BT.size; rw [sh_size b l, sh_size b r]
def shN (b : Int) (n : Nd) : Nd := if nf n = -1 then (nf n, nc n, nl n, nr n, ns n, nv n + b) else n
theorem sh_lay (b : Int) {m : Int} : ∀ (T : BT) (k : Nat), okB m T → lay (shB b T) k = (lay T k).map (shN b)
  | .lf v, k, _ => rfl
  | .nd f c s l r, k, h => by
    obtain ⟨h1, h2, h3, h4, h5⟩ := h
    show (f, c, ((k + 1 : Nat) : Int), ((k + 1 + (shB b l).size : Nat) : Int), s, 0) :: (lay (shB b l) (k + 1) ++ lay (shB b r) (k + 1 + (shB b l).size)) = ((f, c, ((k + 1 : Nat) : Int), ((k + 1 + l.size : Nat) : Int), s, 0) :: (lay l (k + 1) ++ lay r (k + 1 + l.size))).map (shN b)
    rw [sh_size, sh_lay b l _ h4, sh_lay b r _ h5, List.map_cons, List.map_append]
    congr 1
    have e : ∀ x y : Int, ¬ nf ((f, c, x, y, s, 0) : Nd) = -1 := fun x y q => by have q' : f = -1 := q; omega
    unfold shN
    rw [if_neg (e _ _)]
theorem shift_mean (b : Int) {l : List Sa} (hl : 0 < l.length) : meanS (shiftL b l) = meanS l + b := by
  unfold meanS
  rw [shift_sum, shift_len, Int.add_mul_ediv_right _ _ (by omega)]
theorem shift_grow (b : Int) {m : Nat} {least : Int} (h1 : 1 ≤ least) : ∀ (d : Nat) {l : List Sa}, 0 < l.length → growT m least d (shiftL b l) = shB b (growT m least d l)
  | 0, l, hl => by
    show BT.lf _ = BT.lf _
    rw [shift_mean b hl]
  | d + 1, l, hl => by
    unfold growT
    have e := shift_split b (m := m) h1 hl
    have e1 : (spV (shiftL b l) m least).2.2.1 = (spV l m least).2.2.1 := by rw [e]
    have e2 : (spV (shiftL b l) m least).2.2.2.1 = (spV l m least).2.2.2.1 := by rw [e]
    have e3 : (spV (shiftL b l) m least).2.2.2.2 = (spV l m least).2.2.2.2 := by rw [e]
    rw [e1, e2, e3, shift_n, shift_n, shift_part, shift_part]
    by_cases q : (spV l m least).2.2.2.2 = true
    · obtain ⟨s1, _, s3, s4, _⟩ := grow_sides h1 hl q
      rw [if_pos q, if_pos q, shift_grow b h1 d (by unfold nB at s3; omega), shift_grow b h1 d (by unfold nB at s4; omega)]
      rfl
    · rw [if_neg q, if_neg q, shift_mean b hl]
      rfl

/-! ### what is wrong -/
def sqW (T : BT) : List Sa → Int
  | [] => 0
  | s :: l => (s.2 - evB T s.1) * (s.2 - evB T s.1) + sqW T l
def sqT : List Sa → Int
  | [] => 0
  | s :: l => s.2 * s.2 + sqT l
theorem sqW_leaf (v : Int) : ∀ l : List Sa, sqW (.lf v) l = sqT l - 2 * v * sumT l + (l.length : Nat) * (v * v)
  | [] => by simp [sqW, sqT, sumT]
  | s :: l => by
    have ih := sqW_leaf v l
    show (s.2 - v) * (s.2 - v) + sqW (.lf v) l = s.2 * s.2 + sqT l - 2 * v * (s.2 + sumT l) + ((l.length + 1 : Nat) : Int) * (v * v)
    rw [ih]
    grind
theorem sqT_part (l : List Sa) (f : Nat) (c : Int) : sqT (partS l f c true) + sqT (partS l f c false) = sqT l := by
  induction l with
  | nil => rfl
  | cons s l ih =>
    unfold partS at *
    cases h : sideB f c s
    · rw [List.filter_cons_of_neg (by simp [h]), List.filter_cons_of_pos (by simp [h])]
      show _ + (s.2 * s.2 + sqT _) = s.2 * s.2 + sqT l
      omega
    · rw [List.filter_cons_of_pos (by simp [h]), List.filter_cons_of_neg (by simp [h])]
      show s.2 * s.2 + sqT _ + _ = s.2 * s.2 + sqT l
      omega
/-- a row of samples goes as its cell does -/
theorem goes_side {l : List Sa} {m : Nat} (h : GoodS l m) {f : Nat} (hf : f < m) (c : Int) (b : Bool) {s : Sa} (hs : s ∈ l) : goes (f : Nat) c b s.1 = sideB f c s := by
  obtain ⟨z1, z2, z3, z4⟩ := h.each s hs
  unfold goes sideB colA
  rw [Int.toNat_natCast]
  have hm : s.1.getD f 0 ∈ s.1 := by rw [getD_at (by omega)]; exact List.getElem_mem _
  rw [if_neg (fun e => z4 (by rw [← e]; exact hm))]
theorem sqW_ask (f : Nat) (c : Int) (b : Bool) (L R : BT) : ∀ {l : List Sa}, (∀ s ∈ l, goes (f : Nat) c b s.1 = sideB f c s) → sqW (.nd (f : Nat) c b L R) l = sqW L (partS l f c true) + sqW R (partS l f c false)
  | [], _ => rfl
  | s :: l, h => by
    have ih := sqW_ask f c b L R (l := l) fun x hx => h x (List.mem_cons_of_mem _ hx)
    have hs := h s (List.mem_cons_self ..)
    have e : evB (.nd (f : Nat) c b L R) s.1 = if sideB f c s = true then evB L s.1 else evB R s.1 := by
      show (if goes (f : Nat) c b s.1 = true then _ else _) = _
      rw [hs]
    show (s.2 - evB (.nd (f : Nat) c b L R) s.1) * (s.2 - evB (.nd (f : Nat) c b L R) s.1) + sqW (.nd (f : Nat) c b L R) l = _
    rw [e, ih]
    unfold partS
    cases q : sideB f c s
    · rw [List.filter_cons_of_neg (by simp [q]), List.filter_cons_of_pos (by simp [q]), if_neg (by decide)]
      show _ = sqW L _ + ((s.2 - evB R s.1) * (s.2 - evB R s.1) + sqW R _)
      omega
    · rw [List.filter_cons_of_pos (by simp [q]), List.filter_cons_of_neg (by simp [q]), if_pos rfl]
      show _ = (s.2 - evB L s.1) * (s.2 - evB L s.1) + sqW L _ + sqW R _
      omega
/-- the mean, rounded down, is less than one away -/
theorem mean_leaf {l : List Sa} (hl : 0 < l.length) : (l.length : Nat) * sqT l - sumT l * sumT l ≤ (l.length : Nat) * sqW (.lf (meanS l)) l ∧ (l.length : Nat) * sqW (.lf (meanS l)) l ≤ (l.length : Nat) * sqT l - sumT l * sumT l + (l.length : Nat) * (l.length : Nat) := by
  have hp : (0 : Int) < (l.length : Nat) := by omega
  have h1 : meanS l * (l.length : Nat) ≤ sumT l := Int.ediv_mul_le _ (by omega)
  have h2 : sumT l < meanS l * (l.length : Nat) + (l.length : Nat) := by
    have := Int.lt_ediv_add_one_mul_self (sumT l) hp
    unfold meanS
    rw [Int.add_mul, Int.one_mul] at this
    exact this
  rw [sqW_leaf]
  generalize meanS l = v at *
  generalize sumT l = S at *
  generalize sqT l = Q at *
  generalize ((l.length : Nat) : Int) = n at *
  have e : n * (Q - 2 * v * S + n * (v * v)) = n * Q - S * S + (S - v * n) * (S - v * n) := by grind
  rw [e]
  have d0 : 0 ≤ S - v * n := by omega
  have d1 : S - v * n < n := by omega
  generalize S - v * n = d at *
  have p1 : 0 ≤ d * d := Int.mul_nonneg d0 d0
  have p2 : d * d ≤ n * n := Int.mul_le_mul (by omega) (by omega) d0 (by omega)
  omega
/-- a question that puts more right: less is wrong, but for what is rounded -/
theorem split_less {l : List Sa} {f : Nat} {c : Int} (n1 : 0 < nB l f c true) (n2 : 0 < nB l f c false) (hm : More l f c) : sqW (.lf (meanS (partS l f c true))) (partS l f c true) + sqW (.lf (meanS (partS l f c false))) (partS l f c false) ≤ sqW (.lf (meanS l)) l + (l.length : Nat) := by
  have a1 : 0 < (partS l f c true).length := by unfold nB at n1; omega
  have a2 : 0 < (partS l f c false).length := by unfold nB at n2; omega
  obtain ⟨_, u1⟩ := mean_leaf a1
  obtain ⟨_, u2⟩ := mean_leaf a2
  obtain ⟨s1, s2⟩ := part_sum l f c
  have al : 0 < l.length := by omega
  obtain ⟨u3, _⟩ := mean_leaf al
  have q := sqT_part l f c
  unfold More spU spD tB nB at hm
  have e2 : ((l.length : Nat) : Int) = ((partS l f c true).length : Nat) + ((partS l f c false).length : Nat) := by omega
  generalize sqW (.lf (meanS (partS l f c true))) (partS l f c true) = W1 at *
  generalize sqW (.lf (meanS (partS l f c false))) (partS l f c false) = W2 at *
  generalize sqW (.lf (meanS l)) l = W at *
  generalize sumT (partS l f c true) = S1 at *
  generalize sumT (partS l f c false) = S2 at *
  generalize sqT (partS l f c true) = Q1 at *
  generalize sqT (partS l f c false) = Q2 at *
  have p1 : (0 : Int) < ((partS l f c true).length : Nat) := by omega
  have p2 : (0 : Int) < ((partS l f c false).length : Nat) := by omega
  rw [← q, ← s1] at u3
  rw [← s1] at hm
  rw [e2] at u3 hm ⊢
  generalize (((partS l f c true).length : Nat) : Int) = a at *
  generalize (((partS l f c false).length : Nat) : Int) = b at *
  clear s1 s2 al q e2 n1 n2
  have k1 : (a * W1) * (b * (a + b)) ≤ (a * Q1 - S1 * S1 + a * a) * (b * (a + b)) := Int.mul_le_mul_of_nonneg_right u1 (Int.mul_nonneg (by omega) (by omega))
  have k2 : (b * W2) * (a * (a + b)) ≤ (b * Q2 - S2 * S2 + b * b) * (a * (a + b)) := Int.mul_le_mul_of_nonneg_right u2 (Int.mul_nonneg (by omega) (by omega))
  have k3 : ((a + b) * (Q1 + Q2) - (S1 + S2) * (S1 + S2)) * (a * b) ≤ ((a + b) * W) * (a * b) := Int.mul_le_mul_of_nonneg_right u3 (Int.mul_nonneg (by omega) (by omega))
  have pos : 0 < a * b * (a + b) := Int.mul_pos (Int.mul_pos p1 p2) (by omega)
  have fin : (W1 + W2) * (a * b * (a + b)) ≤ (W + (a + b)) * (a * b * (a + b)) := by grind
  exact Int.le_of_mul_le_mul_right fin pos
/-- more questions, no more wrong, but for what is rounded -/
theorem grow_less {m : Nat} {least : Int} (h1 : 1 ≤ least) : ∀ (d : Nat) {l : List Sa}, GoodS l m → 0 < l.length → sqW (growT m least (d + 1) l) l ≤ sqW (growT m least d l) l + (l.length : Nat)
  | 0, l, h, hl => by
    show sqW (if _ then _ else _) l ≤ sqW (.lf (meanS l)) l + _
    by_cases q : (spV l m least).2.2.2.2 = true
    · rw [if_pos q]
      obtain ⟨s1, _, s3, s4, s5⟩ := grow_sides h1 hl q
      rw [sqW_ask _ _ _ _ _ fun s hs => goes_side h s1 _ _ hs]
      exact split_less (by omega) (by omega) s5
    · rw [if_neg q]
      omega
  | d + 1, l, h, hl => by
    have u : ∀ k, growT m least (k + 1) l = if (spV l m least).2.2.2.2 = true then .nd ((spV l m least).2.2.1 : Nat) (spV l m least).2.2.2.1 (decide (nB l (spV l m least).2.2.1 (spV l m least).2.2.2.1 false < nB l (spV l m least).2.2.1 (spV l m least).2.2.2.1 true)) (growT m least k (partS l (spV l m least).2.2.1 (spV l m least).2.2.2.1 true)) (growT m least k (partS l (spV l m least).2.2.1 (spV l m least).2.2.2.1 false)) else .lf (meanS l) := fun k => rfl
    rw [u (d + 1), u d]
    by_cases q : (spV l m least).2.2.2.2 = true
    · rw [if_pos q, if_pos q]
      obtain ⟨s1, _, s3, s4, s5⟩ := grow_sides h1 hl q
      rw [sqW_ask _ _ _ _ _ fun s hs => goes_side h s1 _ _ hs, sqW_ask _ _ _ _ _ fun s hs => goes_side h s1 _ _ hs]
      have i1 := grow_less h1 d (h.part (spV l m least).2.2.1 (spV l m least).2.2.2.1 true) (by unfold nB at s3; omega)
      have i2 := grow_less h1 d (h.part (spV l m least).2.2.1 (spV l m least).2.2.2.1 false) (by unfold nB at s4; omega)
      have n := (part_sum l (spV l m least).2.2.1 (spV l m least).2.2.2.1).2
      omega
    · rw [if_neg q, if_neg q]
      omega

end Go.Proofs.YtiggkjkjfnlfkaaGreatDoor.M
