/-
  Several texts as one: MathSb, MathSc, Sams, MathWc, MathWe, MathWg.
-/
import Derived.Test.YtlloiccodjnkcagGreatDoorRunW6
import Derived.Test.YtlloiccodjnkcagGreatDoorRunW5
namespace Go.Proofs.YtlloiccodjnkcagGreatDoor.M
set_option linter.unusedVariables false

/-- samples that are right, as many or fewer -/
structure GoodS (l : List Sa) (m : Nat) : Prop where
  le : l.length ≤ 60
  m8 : m ≤ 8
  each : ∀ s ∈ l, rowF s.1 = 0 ∧ s.1.length = m ∧ (-1000 ≤ s.2 ∧ s.2 ≤ 1000) ∧ nilI ∉ s.1
theorem sa1_zero {m : Int} {s : Sa} (h : sa1F m s = 0) : rowF s.1 = 0 ∧ (s.1.length : Int) = m ∧ (-1000 ≤ s.2 ∧ s.2 ≤ 1000) ∧ nilI ∉ s.1 := by
  unfold sa1F at h
  by_cases c1 : rowF s.1 = 0
  · rw [if_neg (by simp [c1])] at h
    by_cases c2 : s.2 < -1000 ∨ 1000 < s.2
    · rw [if_pos c2] at h; cases h
    · rw [if_neg c2] at h
      by_cases c3 : (s.1.length : Int) = m
      · rw [if_neg (by simp [c3])] at h
        by_cases c4 : nilI ∈ s.1
        · rw [if_pos c4] at h; cases h
        · exact ⟨c1, c3, by omega, c4⟩
      · rw [if_pos c3] at h; cases h
  · rw [if_pos c1] at h; exact absurd h c1
theorem sam_ok {l : List Sa} {m : Int} (h : (samF l m).2 = 0) : GoodS l m.toNat ∧ 0 < l.length ∧ ((m.toNat : Nat) : Int) = m ∧ (samF l m).1 = 0 := by
  unfold samF at h ⊢
  by_cases c1 : 60 < l.length
  · rw [if_pos c1] at h; cases h
  · rw [if_neg c1] at h ⊢
    by_cases c2 : l.length = 0
    · rw [if_pos c2] at h; cases h
    · rw [if_neg c2] at h ⊢
      by_cases c3 : m < 0 ∨ 8 < m
      · rw [if_pos c3] at h; cases h
      · rw [if_neg c3] at h ⊢
        split at h
        · rename_i k e
          have q := (first_some e).2
          rw [decide_eq_true h] at q
          cases q
        · rename_i e
          refine ⟨⟨by omega, by omega, fun s hs => ?_⟩, by omega, by omega, rfl⟩
          obtain ⟨i, hi, rfl⟩ := List.getElem_of_mem hs
          have q := first_none e i hi
          have q' : sa1F m (sAt l i) = 0 := by simpa using q
          have e2 : sAt l i = l[i] := by unfold sAt; rw [getD_at hi]
          rw [e2] at q'
          obtain ⟨z1, z2, z3, z4⟩ := sa1_zero q'
          exact ⟨z1, by omega, z3, z4⟩
theorem GoodS.part {l : List Sa} {m : Nat} (h : GoodS l m) (f : Nat) (c : Int) (b : Bool) : GoodS (partS l f c b) m :=
  ⟨Nat.le_trans (List.length_filter_le _ _) h.le, h.m8, fun s hs => h.each s (List.mem_filter.1 hs).1⟩
theorem sum_in : ∀ {l : List Sa}, (∀ s ∈ l, -1000 ≤ s.2 ∧ s.2 ≤ 1000) → -1000 * (l.length : Nat) ≤ sumT l ∧ sumT l ≤ 1000 * (l.length : Nat)
  | [], _ => by simp [sumT]
  | s :: l, h => by
    have ih := sum_in (l := l) fun x hx => h x (List.mem_cons_of_mem _ hx)
    have := h s (List.mem_cons_self ..)
    show _ ≤ s.2 + sumT l ∧ s.2 + sumT l ≤ _
    rw [List.length_cons]
    omega

/-! ### grown -/
def meanS (l : List Sa) : Int := sumT l / (l.length : Nat)
def growT (m : Nat) (least : Int) : Nat → List Sa → BT
  | 0, l => .lf (meanS l)
  | d + 1, l => if (spV l m least).2.2.2.2 = true then .nd ((spV l m least).2.2.1 : Nat) (spV l m least).2.2.2.1 (decide (nB l (spV l m least).2.2.1 (spV l m least).2.2.2.1 false < nB l (spV l m least).2.2.1 (spV l m least).2.2.2.1 true)) (growT m least d (partS l (spV l m least).2.2.1 (spV l m least).2.2.2.1 true)) (growT m least d (partS l (spV l m least).2.2.1 (spV l m least).2.2.2.1 false)) else .lf (meanS l)
theorem grow_deep (m : Nat) (least : Int) : ∀ (d : Nat) (l : List Sa), (growT m least d l).deep ≤ d ∧ (growT m least d l).size + 1 ≤ 2 ^ (d + 1)
  | 0, l => ⟨Nat.le_refl _, Nat.le_refl _⟩
  | d + 1, l => by
    unfold growT
    split
    · obtain ⟨a1, a2⟩ := grow_deep m least d (partS l (spV l m least).2.2.1 (spV l m least).2.2.2.1 true)
      obtain ⟨b1, b2⟩ := grow_deep m least d (partS l (spV l m least).2.2.1 (spV l m least).2.2.2.1 false)
      refine ⟨?_, ?_⟩
      · show 1 + max _ _ ≤ d + 1
        omega
      · show 1 + _ + _ + 1 ≤ 2 ^ (d + 1 + 1)
        rw [Nat.pow_succ]
        omega
    · refine ⟨Nat.zero_le _, ?_⟩
      show 1 + 1 ≤ 2 ^ (d + 1 + 1)
      have : 1 ≤ 2 ^ (d + 1) := Nat.one_le_two_pow
      rw [Nat.pow_succ]; omega
/-- both sides of the question that is asked have samples -/
theorem grow_sides {l : List Sa} {m : Nat} {least : Int} (h1 : 1 ≤ least) (hl : 0 < l.length) (q : (spV l m least).2.2.2.2 = true) :
    (spV l m least).2.2.1 < m ∧ (∃ i, i < l.length ∧ colA (sAt l i) (spV l m least).2.2.1 = (spV l m least).2.2.2.1) ∧ least ≤ nB l (spV l m least).2.2.1 (spV l m least).2.2.2.1 true ∧ least ≤ nB l (spV l m least).2.2.1 (spV l m least).2.2.2.1 false ∧ More l (spV l m least).2.2.1 (spV l m least).2.2.2.1 := by
  obtain ⟨t1, t2, _⟩ := (split_spec (m := m) h1 hl).2 q
  exact ⟨t1.1, t1.2.1, (spD_pos h1 t1.2.2).2.1, (spD_pos h1 t1.2.2).2.2, t2⟩
theorem mean_in {l : List Sa} {m : Nat} (h : GoodS l m) (hl : 0 < l.length) : -1000 ≤ meanS l ∧ meanS l ≤ 1000 := by
  have hs := sum_in fun s hs => (h.each s hs).2.2.1
  unfold meanS
  have hp : (0 : Int) < (l.length : Nat) := by omega
  constructor
  · exact (Int.le_ediv_iff_mul_le hp).2 hs.1
  · exact Int.le_of_lt_add_one (Int.ediv_lt_of_lt_mul hp (by omega))
theorem cell_in {l : List Sa} {m : Nat} (h : GoodS l m) {i f : Nat} (hi : i < l.length) (hf : f < m) : outI (colA (sAt l i) f) = false := by
  have e : sAt l i = l[i] := by unfold sAt; rw [getD_at hi]
  obtain ⟨z1, z2, z3, z4⟩ := h.each l[i] (List.getElem_mem hi)
  have hm : l[i].1.getD f 0 ∈ l[i].1 := by rw [getD_at (by omega)]; exact List.getElem_mem _
  unfold colA
  rw [e]
  have := ((row_ok _).1 z1).2 _ hm
  unfold badCell at this
  by_cases c : l[i].1.getD f 0 = nilI
  · exact absurd (c ▸ hm) z4
  · rw [decide_eq_false c] at this
    exact this
theorem grow_ok {m : Nat} {least : Int} (h1 : 1 ≤ least) : ∀ (d : Nat) {l : List Sa}, GoodS l m → 0 < l.length → okB (m : Int) (growT m least d l)
  | 0, l, h, hl => by
    have := mean_in h hl
    exact out_in (by omega) (by omega)
  | d + 1, l, h, hl => by
    unfold growT
    split
    · rename_i q
      obtain ⟨s1, ⟨i, hi, e⟩, s3, s4, _⟩ := grow_sides h1 hl q
      have n1 : 0 < (partS l (spV l m least).2.2.1 (spV l m least).2.2.2.1 true).length := by unfold nB at s3; omega
      have n2 : 0 < (partS l (spV l m least).2.2.1 (spV l m least).2.2.2.1 false).length := by unfold nB at s4; omega
      refine ⟨by omega, by omega, ?_, grow_ok h1 d (h.part _ _ _) n1, grow_ok h1 d (h.part _ _ _) n2⟩
      rw [← e]
      exact cell_in h hi s1
    · have := mean_in h hl
      exact out_in (by omega) (by omega)
def grwF (l : List Sa) (m depth least : Int) : Int := if (samF l m).2 ≠ 0 then (samF l m).2 else if depth < 0 ∨ 5 < depth ∨ least < 1 ∨ 60 < least then 1 else 0
def grwT (l : List Sa) (m depth least : Int) : List Nd := if grwF l m depth least = 0 then lay (growT m.toNat least depth.toNat l) 0 else []
theorem grw_ok {l : List Sa} {m depth least : Int} (h : grwF l m depth least = 0) : (samF l m).2 = 0 ∧ 0 ≤ depth ∧ depth ≤ 5 ∧ 1 ≤ least ∧ least ≤ 60 := by
  unfold grwF at h
  by_cases c : (samF l m).2 = 0
  · rw [if_neg (by simp [c])] at h
    by_cases d : depth < 0 ∨ 5 < depth ∨ least < 1 ∨ 60 < least
    · rw [if_pos d] at h; cases h
    · exact ⟨c, by omega, by omega, by omega, by omega⟩
  · rw [if_pos c] at h; exact absurd h c
/-- what is grown is a tree that is right -/
theorem grw_tree {l : List Sa} {m depth least : Int} (h : grwF l m depth least = 0) : (treeF (grwT l m depth least) m).2 = 0 ∧ okB m (growT m.toNat least depth.toNat l) ∧ (grwT l m depth least).length ≤ 63 := by
  obtain ⟨h1, d0, d5, l1, l60⟩ := grw_ok h
  obtain ⟨G, hl, hm, _⟩ := sam_ok h1
  have ok := grow_ok (m := m.toNat) l1 depth.toNat G hl
  rw [hm] at ok
  obtain ⟨g1, g2⟩ := grow_deep m.toNat least depth.toNat l
  have p : 2 ^ (depth.toNat + 1) ≤ 2 ^ 6 := Nat.pow_le_pow_right (by decide) (by omega)
  have m8 := G.m8
  unfold grwT
  rw [if_pos h]
  exact ⟨lay_tree ok (by omega) (by omega) (by omega) (by omega), ok, by rw [lay_len]; omega⟩

/-! ### shifted -/
def shB (b : Int) : BT → BT
  | .lf v => .lf (v + b)
  | .nd f c s l r => .nd f c s (shB b l) (shB b r)
theorem sh_size (b : Int) : ∀ T : BT, (shB b T).size = T.size
  | .lf _ => rfl
  | .nd _ _ _ l r => by unfold shB BT.size; rw [sh_size b l, sh_size b r]
def shN (b : Int) (n : Nd) : Nd := if nf n = -1 then (nf n, nc n, nl n, nr n, ns n, nv n + b) else n
theorem sh_lay (b : Int) {m : Int} : ∀ (T : BT) (k : Nat), okB m T → lay (shB b T) k = (lay T k).map (shN b)
  | .lf v, k, _ => rfl
  | .nd f c s l r, k, h => by
    obtain ⟨h1, h2, h3, h4, h5⟩ := h
    show (f, c, ((k + 1 : Nat) : Int), ((k + 1 + (shB b l).size : Nat) : Int), s, 0) :: (lay (shB b l) (k + 1) ++ lay (shB b r) (k + 1 + (shB b l).size)) = ((f, c, ((k + 1 : Nat) : Int), ((k + 1 + l.size : Nat) : Int), s, 0) :: (lay l (k + 1) ++ lay r (k + 1 + l.size))).map (shN b)
    rw [sh_size, sh_lay b l _ h4, sh_lay b r _ h5, List.map_cons, List.map_append]
    congr 1
    have e : ∀ x y : Int, ¬ nf ((f, c, x, y, s, 0) : Nd) = -1 := fun x y q => by have q' : f = -1 := q; omega
    unfold shN
    rw [if_neg (e _ _)]
theorem shift_mean (b : Int) {l : List Sa} (hl : 0 < l.length) : meanS (shiftL b l) = meanS l + b := by
  unfold meanS
  rw [shift_sum, shift_len, Int.add_mul_ediv_right _ _ (by omega)]
theorem shift_grow (b : Int) {m : Nat} {least : Int} (h1 : 1 ≤ least) : ∀ (d : Nat) {l : List Sa}, 0 < l.length → growT m least d (shiftL b l) = shB b (growT m least d l)
  | 0, l, hl => by
    show BT.lf _ = BT.lf _
    rw [shift_mean b hl]
  | d + 1, l, hl => by
    unfold growT
    have e := shift_split b (m := m) h1 hl
    have e1 : (spV (shiftL b l) m least).2.2.1 = (spV l m least).2.2.1 := by rw [e]
    have e2 : (spV (shiftL b l) m least).2.2.2.1 = (spV l m least).2.2.2.1 := by rw [e]
    have e3 : (spV (shiftL b l) m least).2.2.2.2 = (spV l m least).2.2.2.2 := by rw [e]
    rw [e1, e2, e3, shift_n, shift_n, shift_part, shift_part]
    by_cases q : (spV l m least).2.2.2.2 = true
    · obtain ⟨s1, _, s3, s4, _⟩ := grow_sides h1 hl q
      rw [if_pos q, if_pos q, shift_grow b h1 d (by unfold nB at s3; omega), shift_grow b h1 d (by unfold nB at s4; omega)]
      rfl
    · rw [if_neg q, if_neg q, shift_mean b hl]
      rfl

/-! ### what is wrong -/
def sqW (T : BT) : List Sa → Int
  | [] => 0
  | s :: l => (s.2 - evB T s.1) * (s.2 - evB T s.1) + sqW T l
def sqT : List Sa → Int
  | [] => 0
  | s :: l => s.2 * s.2 + sqT l
theorem sqW_leaf (v : Int) : ∀ l : List Sa, sqW (.lf v) l = sqT l - 2 * v * sumT l + (l.length : Nat) * (v * v)
  | [] => by simp [sqW, sqT, sumT]
  | s :: l => by
    have ih := sqW_leaf v l
    show (s.2 - v) * (s.2 - v) + sqW (.lf v) l = s.2 * s.2 + sqT l - 2 * v * (s.2 + sumT l) + ((l.length + 1 : Nat) : Int) * (v * v)
    rw [ih]
    grind
theorem sqT_part (l : List Sa) (f : Nat) (c : Int) : sqT (partS l f c true) + sqT (partS l f c false) = sqT l := by
  induction l with
  | nil => rfl
  | cons s l ih =>
    unfold partS at *
    cases h : sideB f c s
    · rw [List.filter_cons_of_neg (by simp [h]), List.filter_cons_of_pos (by simp [h])]
      show _ + (s.2 * s.2 + sqT _) = s.2 * s.2 + sqT l
      omega
    · rw [List.filter_cons_of_pos (by simp [h]), List.filter_cons_of_neg (by simp [h])]
      show s.2 * s.2 + sqT _ + _ = s.2 * s.2 + sqT l
      omega
/-- a row of samples goes as its cell does -/
theorem goes_side {l : List Sa} {m : Nat} (h : GoodS l m) {f : Nat} (hf : f < m) (c : Int) (b : Bool) {s : Sa} (hs : s ∈ l) : goes (f : Nat) c b s.1 = sideB f c s := by
  obtain ⟨z1, z2, z3, z4⟩ := h.each s hs
  unfold goes sideB colA
  rw [Int.toNat_natCast]
  have hm : s.1.getD f 0 ∈ s.1 := by rw [getD_at (by omega)]; exact List.getElem_mem _
  rw [if_neg (fun e => z4 (by rw [← e]; exact hm))]
theorem sqW_ask (f : Nat) (c : Int) (b : Bool) (L R : BT) : ∀ {l : List Sa}, (∀ s ∈ l, goes (f : Nat) c b s.1 = sideB f c s) → sqW (.nd (f : Nat) c b L R) l = sqW L (partS l f c true) + sqW R (partS l f c false)
  | [], _ => rfl
  | s :: l, h => by
    have ih := sqW_ask f c b L R (l := l) fun x hx => h x (List.mem_cons_of_mem _ hx)
    have hs := h s (List.mem_cons_self ..)
    have e : evB (.nd (f : Nat) c b L R) s.1 = if sideB f c s = true then evB L s.1 else evB R s.1 := by
      show (if goes (f : Nat) c b s.1 = true then _ else _) = _
      rw [hs]
    show (s.2 - evB (.nd (f : Nat) c b L R) s.1) * (s.2 - evB (.nd (f : Nat) c b L R) s.1) + sqW (.nd (f : Nat) c b L R) l = _
    rw [e, ih]
    unfold partS
    cases q : sideB f c s
    · rw [List.filter_cons_of_neg (by simp [q]), List.filter_cons_of_pos (by simp [q]), if_neg (by decide)]
      show _ = sqW L _ + ((s.2 - evB R s.1) * (s.2 - evB R s.1) + sqW R _)
      omega
    · rw [List.filter_cons_of_pos (by simp [q]), List.filter_cons_of_neg (by simp [q]), if_pos rfl]
      show _ = (s.2 - evB L s.1) * (s.2 - evB L s.1) + sqW L _ + sqW R _
      omega
/-- the mean, rounded down, is less than one away -/
theorem mean_leaf {l : List Sa} (hl : 0 < l.length) : (l.length : Nat) * sqT l - sumT l * sumT l ≤ (l.length : Nat) * sqW (.lf (meanS l)) l ∧ (l.length : Nat) * sqW (.lf (meanS l)) l ≤ (l.length : Nat) * sqT l - sumT l * sumT l + (l.length : Nat) * (l.length : Nat) := by
  have hp : (0 : Int) < (l.length : Nat) := by omega
  have h1 : meanS l * (l.length : Nat) ≤ sumT l := Int.ediv_mul_le _ (by omega)
  have h2 : sumT l < meanS l * (l.length : Nat) + (l.length : Nat) := by
    have := Int.lt_ediv_add_one_mul_self (sumT l) hp
    unfold meanS
    rw [Int.add_mul, Int.one_mul] at this
    exact this
  rw [sqW_leaf]
  generalize meanS l = v at *
  generalize sumT l = S at *
  generalize sqT l = Q at *
  generalize ((l.length : Nat) : Int) = n at *
  have e : n * (Q - 2 * v * S + n * (v * v)) = n * Q - S * S + (S - v * n) * (S - v * n) := by grind
  rw [e]
  have d0 : 0 ≤ S - v * n := by omega
  have d1 : S - v * n < n := by omega
  generalize S - v * n = d at *
  have p1 : 0 ≤ d * d := Int.mul_nonneg d0 d0
  have p2 : d * d ≤ n * n := Int.mul_le_mul (by omega) (by omega) d0 (by omega)
  omega
/-- a question that puts more right: less is wrong, but for what is rounded -/
theorem split_less {l : List Sa} {f : Nat} {c : Int} (n1 : 0 < nB l f c true) (n2 : 0 < nB l f c false) (hm : More l f c) : sqW (.lf (meanS (partS l f c true))) (partS l f c true) + sqW (.lf (meanS (partS l f c false))) (partS l f c false) ≤ sqW (.lf (meanS l)) l + (l.length : Nat) := by
  have a1 : 0 < (partS l f c true).length := by unfold nB at n1; omega
  have a2 : 0 < (partS l f c false).length := by unfold nB at n2; omega
  obtain ⟨_, u1⟩ := mean_leaf a1
  obtain ⟨_, u2⟩ := mean_leaf a2
  obtain ⟨s1, s2⟩ := part_sum l f c
  have al : 0 < l.length := by omega
  obtain ⟨u3, _⟩ := mean_leaf al
  have q := sqT_part l f c
  unfold More spU spD tB nB at hm
  have e2 : ((l.length : Nat) : Int) = ((partS l f c true).length : Nat) + ((partS l f c false).length : Nat) := by omega
  generalize sqW (.lf (meanS (partS l f c true))) (partS l f c true) = W1 at *
  generalize sqW (.lf (meanS (partS l f c false))) (partS l f c false) = W2 at *
  generalize sqW (.lf (meanS l)) l = W at *
  generalize sumT (partS l f c true) = S1 at *
  generalize sumT (partS l f c false) = S2 at *
  generalize sqT (partS l f c true) = Q1 at *
  generalize sqT (partS l f c false) = Q2 at *
  have p1 : (0 : Int) < ((partS l f c true).length : Nat) := by omega
  have p2 : (0 : Int) < ((partS l f c false).length : Nat) := by omega
  rw [← q, ← s1] at u3
  rw [← s1] at hm
  rw [e2] at u3 hm ⊢
  generalize (((partS l f c true).length : Nat) : Int) = a at *
  generalize (((partS l f c false).length : Nat) : Int) = b at *
  clear s1 s2 al q e2 n1 n2
  have k1 : (a * W1) * (b * (a + b)) ≤ (a * Q1 - S1 * S1 + a * a) * (b * (a + b)) := Int.mul_le_mul_of_nonneg_right u1 (Int.mul_nonneg (by omega) (by omega))
  have k2 : (b * W2) * (a * (a + b)) ≤ (b * Q2 - S2 * S2 + b * b) * (a * (a + b)) := Int.mul_le_mul_of_nonneg_right u2 (Int.mul_nonneg (by omega) (by omega))
  have k3 : ((a + b) * (Q1 + Q2) - (S1 + S2) * (S1 + S2)) * (a * b) ≤ ((a + b) * W) * (a * b) := Int.mul_le_mul_of_nonneg_right u3 (Int.mul_nonneg (by omega) (by omega))
  have pos : 0 < a * b * (a + b) := Int.mul_pos (Int.mul_pos p1 p2) (by omega)
  have fin : (W1 + W2) * (a * b * (a + b)) ≤ (W + (a + b)) * (a * b * (a + b)) := by grind
  exact Int.le_of_mul_le_mul_right fin pos
/-- more questions, no more wrong, but for what is rounded -/
theorem grow_less {m : Nat} {least : Int} (h1 : 1 ≤ least) : ∀ (d : Nat) {l : List Sa}, GoodS l m → 0 < l.length → sqW (growT m least (d + 1) l) l ≤ sqW (growT m least d l) l + (l.length : Nat)
  | 0, l, h, hl => by
    show sqW (if _ then _ else _) l ≤ sqW (.lf (meanS l)) l + _
    by_cases q : (spV l m least).2.2.2.2 = true
    · rw [if_pos q]
      obtain ⟨s1, _, s3, s4, s5⟩ := grow_sides h1 hl q
      rw [sqW_ask _ _ _ _ _ fun s hs => goes_side h s1 _ _ hs]
      exact split_less (by omega) (by omega) s5
    · rw [if_neg q]
      omega
  | d + 1, l, h, hl => by
    have u : ∀ k, growT m least (k + 1) l = if (spV l m least).2.2.2.2 = true then .nd ((spV l m least).2.2.1 : Nat) (spV l m least).2.2.2.1 (decide (nB l (spV l m least).2.2.1 (spV l m least).2.2.2.1 false < nB l (spV l m least).2.2.1 (spV l m least).2.2.2.1 true)) (growT m least k (partS l (spV l m least).2.2.1 (spV l m least).2.2.2.1 true)) (growT m least k (partS l (spV l m least).2.2.1 (spV l m least).2.2.2.1 false)) else .lf (meanS l) := fun k => rfl
    rw [u (d + 1), u d]
    by_cases q : (spV l m least).2.2.2.2 = true
    · rw [if_pos q, if_pos q]
      obtain ⟨s1, _, s3, s4, s5⟩ := grow_sides h1 hl q
      rw [sqW_ask _ _ _ _ _ fun s hs => goes_side h s1 _ _ hs, sqW_ask _ _ _ _ _ fun s hs => goes_side h s1 _ _ hs]
      have i1 := grow_less h1 d (h.part (spV l m least).2.2.1 (spV l m least).2.2.2.1 true) (by unfold nB at s3; omega)
      have i2 := grow_less h1 d (h.part (spV l m least).2.2.1 (spV l m least).2.2.2.1 false) (by unfold nB at s4; omega)
      have n := (part_sum l (spV l m least).2.2.1 (spV l m least).2.2.2.1).2
      omega
    · rw [if_neg q, if_neg q]
      omega

end Go.Proofs.YtlloiccodjnkcagGreatDoor.M

namespace Go.Proofs.YtlloiccodjnkcagGreatDoor.M
set_option linter.unusedVariables false

/-! ### to which leaf a row comes -/
def posB : BT → Nat → List Int → Nat
  | .lf _, k, _ => k
  | .nd f c s l r, k, x => if goes f c s x = true then posB l (k + 1) x else posB r (k + 1 + l.size) x
theorem pos_in : ∀ (T : BT) (k : Nat) (x : List Int), k ≤ posB T k x ∧ posB T k x < k + T.size
  | .lf _, k, x => by unfold posB BT.size; omega
  | .nd f c s l r, k, x => by
    have h1 := pos_in l (k + 1) x
    have h2 := pos_in r (k + 1 + l.size) x
    show k ≤ (if goes f c s x = true then posB l (k + 1) x else posB r (k + 1 + l.size) x) ∧ (if goes f c s x = true then posB l (k + 1) x else posB r (k + 1 + l.size) x) < k + (1 + l.size + r.size)
    split <;> omega
theorem getD_front {α : Type} {A B : List α} {i : Nat} {d : α} (h : i < A.length) : (A ++ B).getD i d = A.getD i d := by
  rw [List.getD, List.getD, List.getElem?_append_left h]
theorem getD_behind {α : Type} {A B : List α} {i : Nat} {d : α} : (A ++ B).getD (A.length + i) d = B.getD i d := by
  rw [List.getD, List.getD, List.getElem?_append_right (by omega), Nat.add_sub_cancel_left]
theorem ok_more {m n : Int} (h : m ≤ n) : ∀ {T : BT}, okB m T → okB n T
  | .lf _, q => q
  | .nd _ _ _ _ _, ⟨h1, h2, h3, h4, h5⟩ => ⟨h1, by omega, h3, ok_more h h4, ok_more h h5⟩
theorem less_goes {f c : Int} {s : Bool} {a b : Int} (x : List Int) : lessC ((f, c, a, b, s, 0) : Nd) (x.getD f.toNat 0) = goes f c s x := rfl
/-- what lies at a place of what is laid within others -/
theorem lay_at {A C : List Nd} (L : List Nd) {j : Nat} (hj : j < L.length) : nAt (A ++ L ++ C) (A.length + j) = nAt L j := by
  unfold nAt
  rw [List.append_assoc, getD_behind, getD_front hj]
theorem pos_to {t : List Nd} {m : Int} (hR : Right t m) (x : List Int) : ∀ (T : BT) (A C : List Nd), okB m T → t = A ++ lay T A.length ++ C → toD t x A.length = posB T A.length x
  | .lf v, A, C, _, e => by
    have h0 : nAt t A.length = (-1, 0, 0, 0, false, v) := by
      have := lay_at (A := A) (C := C) (lay (.lf v) A.length) (j := 0) (by rw [lay_len]; exact Nat.one_pos)
      rw [e]
      exact this
    exact to_leaf (by rw [e]; simp [lay]) (by rw [h0]; rfl)
  | .nd f c s l r, A, C, ok, e => by
    obtain ⟨o1, o2, o3, o4, o5⟩ := ok
    have sz : (lay (.nd f c s l r) A.length).length = 1 + l.size + r.size := lay_len _ _
    have tl : t.length = A.length + (1 + l.size + r.size) + C.length := by rw [e, List.length_append, List.length_append, sz]
    have h0 : nAt t A.length = (f, c, ((A.length + 1 : Nat) : Int), ((A.length + 1 + l.size : Nat) : Int), s, 0) := by
      have := lay_at (A := A) (C := C) (lay (.nd f c s l r) A.length) (j := 0) (by rw [sz]; omega)
      rw [e]
      exact this
    have hf : nf (nAt t A.length) ≠ -1 := by rw [h0]; show f ≠ -1; omega
    have eL : t = (A ++ [(f, c, ((A.length + 1 : Nat) : Int), ((A.length + 1 + l.size : Nat) : Int), s, 0)]) ++ lay l (A ++ [(f, c, ((A.length + 1 : Nat) : Int), ((A.length + 1 + l.size : Nat) : Int), s, (0 : Int))]).length ++ (lay r (A.length + 1 + l.size) ++ C) := by
      rw [e, List.length_append]; simp [lay]
    have eR : t = (A ++ (f, c, ((A.length + 1 : Nat) : Int), ((A.length + 1 + l.size : Nat) : Int), s, 0) :: lay l (A.length + 1)) ++ lay r (A ++ (f, c, ((A.length + 1 : Nat) : Int), ((A.length + 1 + l.size : Nat) : Int), s, (0 : Int)) :: lay l (A.length + 1)).length ++ C := by
      rw [e, List.length_append, List.length_cons, lay_len, show A.length + (l.size + 1) = A.length + 1 + l.size by omega]; simp [lay]
    have i1 := pos_to hR x l _ _ o4 eL
    have i2 := pos_to hR x r _ _ o5 eR
    rw [List.length_append, List.length_singleton] at i1
    rw [List.length_append, List.length_cons, lay_len, show A.length + (l.size + 1) = A.length + 1 + l.size by omega] at i2
    unfold posB
    have hA : A.length < t.length := by omega
    cases q : goes f c s x
    · rw [if_neg (by decide), ← i2]
      refine to_next hR hA hf ?_
      unfold nextI
      rw [h0]
      show (if lessC ((f, c, _, _, s, 0) : Nd) (x.getD f.toNat 0) = true then _ else _) = _
      rw [less_goes, q, if_neg (by decide)]
      rfl
    · rw [if_pos rfl, ← i1]
      refine to_next hR hA hf ?_
      unfold nextI
      rw [h0]
      show (if lessC ((f, c, _, _, s, 0) : Nd) (x.getD f.toNat 0) = true then _ else _) = _
      rw [less_goes, q, if_pos rfl]
      rfl
theorem leaf_pos {T : BT} {r : List Int} (ok : okB (r.length : Int) T) (hz : (treeF (lay T 0) (r.length : Int)).2 = 0) (hr : rowF r = 0) : readyF (lay T 0) r = 0 ∧ leafV (lay T 0) r = posB T 0 r := by
  have hy : readyF (lay T 0) r = 0 := by rw [ready_tree hr]; exact hz
  refine ⟨hy, ?_⟩
  have F := (tree_ok hz).1
  have := pos_to F.2.2.2.2.1 r T [] [] ok (by simp)
  unfold leafV
  rw [if_pos hy]
  exact this

/-! ### the samples of a leaf -/
def atP (T : BT) (k : Nat) (l : List Sa) (p : Nat) : List Sa := l.filter fun s => decide (posB T k s.1 = p)
/-- a place of a leaf, and its number -/
def LfAt : BT → Nat → Nat → Int → Prop
  | .lf v, k, p, u => p = k ∧ u = v
  | .nd _ _ _ l r, k, p, u => LfAt l (k + 1) p u ∨ LfAt r (k + 1 + l.size) p u
theorem lf_in : ∀ {T : BT} {k p : Nat} {u : Int}, LfAt T k p u → k ≤ p ∧ p < k + T.size
  | .lf v, k, p, u, h => by obtain ⟨rfl, rfl⟩ := h; unfold BT.size; omega
  | .nd f c s l r, k, p, u, h => by
    unfold BT.size
    rcases h with h | h
    · have := lf_in h; omega
    · have := lf_in h; omega
theorem lf_of : ∀ {m : Int} (T : BT) (k p : Nat), okB m T → k ≤ p → p < k + T.size → nf (nAt (lay T k) (p - k)) = -1 → LfAt T k p (nv (nAt (lay T k) (p - k)))
  | m, .lf v, k, p, _, h1, h2, _ => by
    have : p = k := by unfold BT.size at h2; omega
    subst this
    rw [Nat.sub_self]
    exact ⟨rfl, rfl⟩
  | m, .nd f c s l r, k, p, ok, h1, h2, hf => by
    obtain ⟨o1, o2, o3, o4, o5⟩ := ok
    have h2' : p < k + (1 + l.size + r.size) := h2
    by_cases e0 : p = k
    · subst e0
      rw [Nat.sub_self] at hf
      have : f = -1 := hf
      omega
    · by_cases e1 : p < k + 1 + l.size
      · have e : nAt (lay (.nd f c s l r) k) (p - k) = nAt (lay l (k + 1)) (p - (k + 1)) := by
          rw [show p - k = (p - (k + 1)) + 1 by omega]
          show nAt (_ :: (lay l (k + 1) ++ _)) (p - (k + 1) + 1) = _
          unfold nAt
          rw [List.getD_cons_succ, getD_front (by rw [lay_len]; omega)]
        rw [e] at hf ⊢
        exact .inl (lf_of l (k + 1) p o4 (by omega) (by omega) hf)
      · have e : nAt (lay (.nd f c s l r) k) (p - k) = nAt (lay r (k + 1 + l.size)) (p - (k + 1 + l.size)) := by
          rw [show p - k = (l.size + (p - (k + 1 + l.size))) + 1 by omega]
          show nAt (_ :: (lay l (k + 1) ++ lay r (k + 1 + l.size))) (l.size + (p - (k + 1 + l.size)) + 1) = _
          unfold nAt
          rw [List.getD_cons_succ, ← lay_len l (k + 1), getD_behind]
        rw [e] at hf ⊢
        exact .inr (lf_of r (k + 1 + l.size) p o5 (by omega) (by omega) hf)
theorem at_left {l : List Sa} {m : Nat} (h : GoodS l m) {f : Nat} (hf : f < m) {c : Int} {s : Bool} {L R : BT} {k p : Nat} (hp : p < k + 1 + L.size) (hk : k + 1 ≤ p) : atP (.nd (f : Nat) c s L R) k l p = atP L (k + 1) (partS l f c true) p := by
  unfold atP partS
  rw [List.filter_filter]
  refine List.filter_congr fun x hx => ?_
  have g := goes_side h hf c s hx
  show decide ((if goes (f : Nat) c s x.1 = true then posB L (k + 1) x.1 else posB R (k + 1 + L.size) x.1) = p) = _
  rw [g]
  cases q : sideB f c x
  · have := pos_in R (k + 1 + L.size) x.1
    rw [if_neg (by decide), decide_eq_false (by omega)]
    simp
  · rw [if_pos rfl]
    simp
theorem at_right {l : List Sa} {m : Nat} (h : GoodS l m) {f : Nat} (hf : f < m) {c : Int} {s : Bool} {L R : BT} {k p : Nat} (hp : k + 1 + L.size ≤ p) : atP (.nd (f : Nat) c s L R) k l p = atP R (k + 1 + L.size) (partS l f c false) p := by
  unfold atP partS
  rw [List.filter_filter]
  refine List.filter_congr fun x hx => ?_
  have g := goes_side h hf c s hx
  show decide ((if goes (f : Nat) c s x.1 = true then posB L (k + 1) x.1 else posB R (k + 1 + L.size) x.1) = p) = _
  rw [g]
  cases q : sideB f c x
  · rw [if_neg (by decide)]
    simp
  · have := pos_in L (k + 1) x.1
    rw [if_pos rfl, decide_eq_false (by omega)]
    simp
/-- each leaf of a grown tree has as many samples as it must, and their mean -/
theorem grow_leaf {m : Nat} {least : Int} (h1 : 1 ≤ least) : ∀ (d : Nat) {l : List Sa}, GoodS l m → 0 < l.length → ∀ (k p : Nat) (u : Int), LfAt (growT m least d l) k p u → 0 < (atP (growT m least d l) k l p).length ∧ u = meanS (atP (growT m least d l) k l p) ∧ (1 < (growT m least d l).size ∨ least ≤ (l.length : Nat) → least ≤ ((atP (growT m least d l) k l p).length : Nat))
  | 0, l, h, hl, k, p, u, q => by
    obtain ⟨rfl, rfl⟩ := q
    have e : atP (growT m least 0 l) p l p = l := List.filter_eq_self.2 fun x _ => decide_eq_true rfl
    rw [e]
    refine ⟨hl, rfl, fun z => z.elim (fun z => ?_) id⟩
    have : (1 : Nat) < 1 := z
    omega
  | d + 1, l, h, hl, k, p, u, q => by
    have U : growT m least (d + 1) l = if (spV l m least).2.2.2.2 = true then .nd ((spV l m least).2.2.1 : Nat) (spV l m least).2.2.2.1 (decide (nB l (spV l m least).2.2.1 (spV l m least).2.2.2.1 false < nB l (spV l m least).2.2.1 (spV l m least).2.2.2.1 true)) (growT m least d (partS l (spV l m least).2.2.1 (spV l m least).2.2.2.1 true)) (growT m least d (partS l (spV l m least).2.2.1 (spV l m least).2.2.2.1 false)) else .lf (meanS l) := rfl
    rw [U] at q ⊢
    by_cases c : (spV l m least).2.2.2.2 = true
    · rw [if_pos c] at q ⊢
      obtain ⟨s1, _, s3, s4, s5⟩ := grow_sides h1 hl c
      unfold nB at s3 s4
      rcases q with q | q
      · have b := lf_in q
        rw [at_left h s1 b.2 b.1]
        obtain ⟨i1, i2, i3⟩ := grow_leaf h1 d (h.part _ _ _) (by omega) _ _ _ q
        exact ⟨i1, i2, fun _ => i3 (.inr s3)⟩
      · have b := lf_in q
        rw [at_right h s1 b.1]
        obtain ⟨i1, i2, i3⟩ := grow_leaf h1 d (h.part _ _ _) (by omega) _ _ _ q
        exact ⟨i1, i2, fun _ => i3 (.inr s4)⟩
    · rw [if_neg c] at q ⊢
      obtain ⟨rfl, rfl⟩ := q
      have e : atP (.lf (meanS l)) p l p = l := List.filter_eq_self.2 fun x _ => decide_eq_true rfl
      rw [e]
      refine ⟨hl, rfl, fun z => z.elim (fun z => ?_) id⟩
      have : (1 : Nat) < 1 := z
      omega
theorem mean_between {l : List Sa} (hl : 0 < l.length) : meanS l * (l.length : Nat) ≤ sumT l ∧ sumT l < (meanS l + 1) * (l.length : Nat) := by
  have hp : (0 : Int) < (l.length : Nat) := by omega
  exact ⟨Int.ediv_mul_le _ (by omega), Int.lt_ediv_add_one_mul_self (sumT l) hp⟩

/-! ### any number as a cut -/
theorem part_same {l : List Sa} {f : Nat} {c d : Int} (h : ∀ s ∈ l, sideB f c s = sideB f d s) (b : Bool) : partS l f c b = partS l f d b := by
  unfold partS
  exact List.filter_congr fun x hx => by rw [h x hx]
/-- the least of a list's numbers that are not below one -/
theorem next_up {l : List Sa} {f : Nat} {c : Int} (h : 0 < nB l f c false) : ∃ i, i < l.length ∧ c ≤ colA (sAt l i) f ∧ ∀ s ∈ l, sideB f c s = sideB f (colA (sAt l i) f) s := by
  have : ∃ s ∈ l, sideB f c s = false := by
    unfold nB partS at h
    have h' : 0 < (l.filter fun s => sideB f c s == false).length := by omega
    obtain ⟨s, hs⟩ := List.exists_mem_of_length_pos h'
    obtain ⟨h2, h3⟩ := List.mem_filter.1 hs
    exact ⟨s, h2, by simpa using h3⟩
  clear h
  induction l with
  | nil => obtain ⟨s, hs, _⟩ := this; cases hs
  | cons a l ih =>
    by_cases q : ∃ s ∈ l, sideB f c s = false
    · obtain ⟨i, hi, hc, he⟩ := ih q
      have e : sAt (a :: l) (i + 1) = sAt l i := rfl
      by_cases ca : sideB f c a = false
      · have ca' : c ≤ colA a f := by
          unfold sideB at ca
          have := of_decide_eq_false ca
          omega
        by_cases le : colA a f < colA (sAt l i) f
        · refine ⟨0, by simp, ca', fun s hs => ?_⟩
          show _ = sideB f (colA a f) s
          rcases List.mem_cons.1 hs with rfl | hs
          · rw [ca]; unfold sideB; rw [decide_eq_false (by omega)]
          · have := he s hs
            unfold sideB at this ⊢
            by_cases z : colA s f < c
            · rw [decide_eq_true z, decide_eq_true (by omega)]
            · rw [decide_eq_false z] at this
              have := of_decide_eq_false this.symm
              rw [decide_eq_false z, decide_eq_false (by omega)]
        · refine ⟨i + 1, by simpa using hi, by rw [e]; exact hc, fun s hs => ?_⟩
          rw [e]
          rcases List.mem_cons.1 hs with rfl | hs
          · rw [ca]; unfold sideB; rw [decide_eq_false (by omega)]
          · exact he s hs
      · refine ⟨i + 1, by simpa using hi, by rw [e]; exact hc, fun s hs => ?_⟩
        rw [e]
        rcases List.mem_cons.1 hs with rfl | hs
        · have ca' : sideB f c s = true := by simpa using ca
          rw [ca']
          unfold sideB at ca' ⊢
          have := of_decide_eq_true ca'
          rw [decide_eq_true (by omega)]
        · exact he s hs
    · obtain ⟨s, hs, hq⟩ := this
      have sa : s = a := by
        rcases List.mem_cons.1 hs with rfl | hs
        · rfl
        · exact absurd ⟨s, hs, hq⟩ q
      subst sa
      have hq' : c ≤ colA s f := by
        unfold sideB at hq
        have := of_decide_eq_false hq
        omega
      refine ⟨0, by simp, hq', fun x hx => ?_⟩
      show _ = sideB f (colA s f) x
      rcases List.mem_cons.1 hx with rfl | hx
      · rw [hq]; unfold sideB; rw [decide_eq_false (by omega)]
      · have hx' : sideB f c x = true := by
          cases z : sideB f c x with
          | true => rfl
          | false => exact absurd ⟨x, hx, z⟩ q
        rw [hx']
        unfold sideB at hx' ⊢
        have := of_decide_eq_true hx'
        rw [decide_eq_true (by omega)]
/-- no question puts more right than the first one -/
theorem split_best {l : List Sa} {m : Nat} {least : Int} (h1 : 1 ≤ least) (hl : 0 < l.length) {f : Nat} (hf : f < m) {c : Int} (n1 : least ≤ nB l f c true) (n2 : least ≤ nB l f c false) :
    ((spV l m least).2.2.2.2 = false → spU l f c * (l.length : Nat) ≤ sumT l * sumT l * spD l f c) ∧
    ((spV l m least).2.2.2.2 = true → spU l f c * spD l (spV l m least).2.2.1 (spV l m least).2.2.2.1 ≤ spU l (spV l m least).2.2.1 (spV l m least).2.2.2.1 * spD l f c) := by
  obtain ⟨i, hi, hc, he⟩ := next_up (l := l) (f := f) (c := c) (by omega)
  have eP := fun b => part_same he b
  have eN : ∀ b, nB l f c b = nB l f (colA (sAt l i) f) b := fun b => by unfold nB; rw [eP]
  have eT : ∀ b, tB l f c b = tB l f (colA (sAt l i) f) b := fun b => by unfold tB; rw [eP]
  have eU : spU l f c = spU l f (colA (sAt l i) f) := by unfold spU; rw [eN, eN, eT, eT]
  have eD : spD l f c = spD l f (colA (sAt l i) f) := by unfold spD; rw [eN, eN]
  have ok : okC l least f (colA (sAt l i) f) = true := by
    unfold okC
    rw [← eN, ← eN, decide_eq_false (by omega), decide_eq_false (by omega), decide_eq_false (by omega)]
    rfl
  have cd : Cand l m least f (colA (sAt l i) f) := ⟨hf, ⟨i, hi, rfl⟩, ok⟩
  obtain ⟨s1, s2⟩ := split_spec (m := m) h1 hl
  rw [eU, eD]
  refine ⟨fun q => ?_, fun q => ?_⟩
  · have := (s1 q).2.2 _ _ cd
    unfold More at this
    omega
  · rcases (s2 q).2.2 _ _ cd with ⟨e1, e2⟩ | b
    · rw [← e1, ← e2]
      exact Int.le_refl _
    · unfold Beats at b
      rcases b with b | ⟨b, _⟩ <;> omega

end Go.Proofs.YtlloiccodjnkcagGreatDoor.M

namespace Go.Proofs.YtlloiccodjnkcagGreatDoor
open Go.ChangeShapes Go.WideShapes Go.ChangeAt Go.RowKit Go.Deep
set_option linter.unusedVariables false

/-- a sample: where its row lies, the row, the room, the target -/
abbrev Sx := Option Addr × List Int × Nat × Int
def sxV (x : Sx) : Value := .slice x.1 x.2.1.length x.2.2.1
def sm (x : Sx) : M.Sa := (x.2.1, x.2.2.2)
def sms (xs : List Sx) : List M.Sa := xs.map sm
theorem sms_len (xs : List Sx) : (sms xs).length = xs.length := by simp [sms]
theorem sms_at (xs : List Sx) {k : Nat} (h : k < xs.length) : M.sAt (sms xs) k = sm xs[k] := by
  unfold M.sAt; rw [M.getD_at (by rw [sms_len]; exact h)]; simp [sms]
/-- samples, where they lie -/
def RdL (w : World) (a : Option Addr) (xs : List Sx) : Prop :=
  xs.length ≤ maxLen ∧ (∀ x ∈ xs, Rd w x.1 x.2.1) ∧ (xs ≠ [] → ∃ b off, a = some ⟨b, off, none⟩ ∧ b < w.heap.size ∧ ∀ i (h : i < xs.length), w.cell? ⟨b, off + i * 2, none⟩ = some (sxV xs[i]) ∧ w.cell? ⟨b, off + i * 2 + 1, none⟩ = some (.int .i64 xs[i].2.2.2))
theorem RdL.below {w w' : World} {a : Option Addr} {xs : List Sx} (h : RdL w a xs) (hb : Below w.heap.size w w') : RdL w' a xs :=
  ⟨h.1, fun x hx => (h.2.1 x hx).below hb, fun hn => by
    obtain ⟨b, off, e, hl, hc⟩ := h.2.2 hn
    exact ⟨b, off, e, Nat.lt_of_lt_of_le hl hb.size, fun i hi => ⟨(hb.cell (p := ⟨b, off + i * 2, none⟩) hl).trans (hc i hi).1, (hb.cell (p := ⟨b, off + i * 2 + 1, none⟩) hl).trans (hc i hi).2⟩⟩⟩
theorem cellsSam : Tryz.prog.cellsOf 52 = 2 := by kernel_rfl
theorem cellsInts : Tryz.prog.cellsOf 22 = 1 := by kernel_rfl
theorem struct2 {H : Type} {enc : TypeId × Value → H} {P : Program} {w : World} {base : Nat} {spare : Nat → Bool} {held : Bool} {t : TypeId} {f0 f1 : Field} {fuel : Nat} {cs : List Value} {x : DataW H × List MemPlace} (ht : P.underlying t = some (.struct #[f0, f1]))
    (h : DataW.trod enc P w base spare held fuel t cs = some x) :
    ∃ y0 y1 n, DataW.trod enc P w base spare held n f0.type ((cs.drop f0.offset).take (P.cellsOf f0.type)) = some y0 ∧ DataW.trod enc P w base spare held n f1.type ((cs.drop f1.offset).take (P.cellsOf f1.type)) = some y1 := by
  obtain ⟨xs, n, _, rfl, hl, hlen, hf⟩ := DataW.trod_struct ht h
  match xs, hlen with
  | [y0, y1], _ => exact ⟨y0, y1, n, by simpa using hf 0 f0 rfl, by simpa using hf 1 f1 rfl⟩
set_option maxRecDepth 10000 in
theorem open_samples {H : Type} {enc : TypeId × Value → H} {W : World} {base : Nat} {held : Bool} {fuel : Nat} {a : Option Addr} {len cap : Nat} {x : DataW H × List MemPlace}
    (h : DataW.trod enc Tryz.prog W base (fun _ => true) held fuel 27 [.slice a len cap] = some x) : ∃ xs : List Sx, xs.length = len ∧ RdL W a xs := by
  rcases open_slice Tryz.underlying27 h with ⟨hcs, _⟩ | ⟨a', len', cap', m, n, D, Pl, hcs, _, hl, hm, hmm, _, hx⟩
  · cases hcs
    exact ⟨[], rfl, ⟨Nat.zero_le _, (fun k hk => by cases hk), fun h => absurd rfl h⟩⟩
  · cases hcs
    have hlm : len ≤ m := by rw [hmm]; split <;> omega
    have each : ∀ i, i < len → ∃ k : Sx, (W.cell? (a'.add (i * 2)) = some (sxV k) ∧ W.cell? (a'.add (i * 2 + 1)) = some (.int .i64 k.2.2.2)) ∧ Rd W k.1 k.2.1 := by
      intro i hi
      obtain ⟨cs, h1, h2⟩ := hx i (by omega)
      rw [cellsSam] at h1
      obtain ⟨_, hlen, hcell⟩ := World.cells?_some h1
      obtain ⟨y0, y1, k, g0, g1⟩ := struct2 Tryz.underlying52 h2
      rw [cellsInts] at g0
      rw [cellsInt] at g1
      match cs, hlen with
      | [c0, c1], _ =>
        obtain ⟨n1, e1, _⟩ := DataW.trod_int Tryz.underlying3 g1
        simp at e1 g0
        have d0 := hcell 0 (by omega)
        have d1 := hcell 1 (by omega)
        rw [add_add] at d0 d1
        obtain ⟨wa, ws, wc, rfl, hw⟩ : ∃ wa ws wc, c0 = .slice wa (List.length (α := Int) ws) wc ∧ Rd W wa ws := by
          rcases open_ints Tryz.underlying22 Tryz.underlying3 (by kernel_rfl) g0 with ⟨hcs, _⟩ | ⟨x, l, c, zs, hcs, _, hl, hm, hz, _, hcl, hwz⟩
          · cases hcs
            exact ⟨none, [], 0, rfl, ⟨Nat.zero_le _, fun h => absurd rfl h⟩⟩
          · cases hcs
            have y : IsRow .i64 W (some x) l c zs := .inr ⟨_, rfl, hl, hm, by simpa using hz, hcl, hwz⟩
            exact ⟨some x, zs.take l, c, by rw [(rd_of y).2], (rd_of y).1⟩
        exact ⟨(wa, ws, wc, n1), ⟨by simpa [sxV] using d0, by simpa [e1] using d1⟩, hw⟩
    obtain ⟨f, hf⟩ := choose_lt each
    refine ⟨(List.range len).map f, by simp, ⟨by simp; omega, ?_, fun hne => ?_⟩⟩
    · intro k hk
      rw [List.mem_map] at hk
      obtain ⟨i, hi, rfl⟩ := hk
      exact (hf i (by simpa using hi)).2
    · have hp : 0 < len := by
        rcases Nat.eq_zero_or_pos len with h0 | h0
        · subst h0; exact absurd rfl hne
        · exact h0
      obtain ⟨b, off, spot⟩ := a'
      have hspot : spot = none := by
        have := World.cell?_spot (hf 0 hp).1.1
        simpa [Addr.add] using this
      subst hspot
      refine ⟨b, off, rfl, ?_, fun i hi => ?_⟩
      · have := (hf 0 hp).1.1
        rw [add_flat] at this
        exact block_lt_of_cell this
      · have hi' : i < len := by simpa using hi
        obtain ⟨q0, q1⟩ := (hf i hi').1
        rw [add_flat] at q0 q1
        refine ⟨?_, ?_⟩
        · rw [q0]; simp
        · rw [Nat.add_assoc, q1]; simp

end Go.Proofs.YtlloiccodjnkcagGreatDoor

namespace Go.Proofs.YtlloiccodjnkcagGreatDoor.M
set_option linter.unusedVariables false

/-- the sum of squares less the mean, rounded down -/
def sprd (l : List Sa) : Int := if l.length = 0 then 0 else ((l.length : Nat) * sqT l - sumT l * sumT l) / (l.length : Nat)
theorem sprd_some {l : List Sa} (h : 0 < l.length) : sprd l = ((l.length : Nat) * sqT l - sumT l * sumT l) / (l.length : Nat) := by unfold sprd; rw [if_neg (by omega)]
theorem sprd_none {l : List Sa} (h : l.length = 0) : sprd l = 0 := by unfold sprd; rw [if_pos h]
theorem sq_nonneg (x : Int) : 0 ≤ x * x := by
  by_cases h : 0 ≤ x
  · exact Int.mul_nonneg h h
  · have e : x * x = (-x) * (-x) := by grind
    rw [e]; exact Int.mul_nonneg (by omega) (by omega)
theorem sqT_bd : ∀ {l : List Sa}, (∀ s ∈ l, -1000 ≤ s.2 ∧ s.2 ≤ 1000) → 0 ≤ sqT l ∧ sqT l ≤ 1000000 * (l.length : Nat)
  | [], _ => by simp [sqT]
  | s :: l, h => by
    have ih := sqT_bd (l := l) fun x hx => h x (List.mem_cons_of_mem _ hx)
    have h1 := h s (List.mem_cons_self ..)
    have q0 := sq_nonneg s.2
    have q1 : s.2 * s.2 ≤ 1000000 := by
      have a : 0 ≤ (1000 - s.2) * (1000 + s.2) := Int.mul_nonneg (by omega) (by omega)
      have e : (1000 - s.2) * (1000 + s.2) = 1000000 - s.2 * s.2 := by grind
      omega
    show 0 ≤ s.2 * s.2 + sqT l ∧ s.2 * s.2 + sqT l ≤ 1000000 * ((l.length + 1 : Nat) : Int)
    omega
/-- the square of the sum is no more than as many times the sum of squares -/
theorem sum_sq : ∀ l : List Sa, sumT l * sumT l ≤ (l.length : Nat) * sqT l
  | [] => by simp [sumT, sqT]
  | s :: l => by
    have ih := sum_sq l
    show (s.2 + sumT l) * (s.2 + sumT l) ≤ ((l.length + 1 : Nat) : Int) * (s.2 * s.2 + sqT l)
    have e1 : ((l.length + 1 : Nat) : Int) = (l.length : Nat) + 1 := by omega
    rw [e1]
    -- 2 x S ≤ n x² + q where S² ≤ n q
    have k : 2 * s.2 * sumT l ≤ (l.length : Nat) * (s.2 * s.2) + sqT l := by
      rcases Nat.eq_zero_or_pos l.length with z | z
      · have : l = [] := List.length_eq_zero_iff.1 z
        subst this
        simp [sumT, sqT]
      · have hn : (0 : Int) < (l.length : Nat) := by omega
        generalize ((l.length : Nat) : Int) = n at *
        generalize sumT l = S at *
        generalize sqT l = q at *
        generalize s.2 = x at *
        have sq := sq_nonneg (n * x - S)
        have e : (n * x - S) * (n * x - S) = n * (n * (x * x)) - n * (2 * x * S) + S * S := by grind
        have : n * (2 * x * S) ≤ n * (n * (x * x) + q) := by
          have e3 : n * (n * (x * x) + q) = n * (n * (x * x)) + n * q := by grind
          omega
        exact Int.le_of_mul_le_mul_left this hn
    generalize ((l.length : Nat) : Int) = n at *
    have e2 : (s.2 + sumT l) * (s.2 + sumT l) = s.2 * s.2 + 2 * s.2 * sumT l + sumT l * sumT l := by grind
    have e3 : (n + 1) * (s.2 * s.2 + sqT l) = n * (s.2 * s.2) + s.2 * s.2 + n * sqT l + sqT l := by grind
    omega
theorem sprd_nonneg (l : List Sa) : 0 ≤ sprd l := by
  rcases Nat.eq_zero_or_pos l.length with z | z
  · rw [sprd_none z]; omega
  · rw [sprd_some z]
    have := sum_sq l
    exact Int.ediv_nonneg (by omega) (by omega)
/-- no more on both sides than at it -/
theorem sprd_part (l : List Sa) (f : Nat) (c : Int) : sprd (partS l f c true) + sprd (partS l f c false) ≤ sprd l := by
  obtain ⟨s1, s2⟩ := part_sum l f c
  have q := sqT_part l f c
  rcases Nat.eq_zero_or_pos (partS l f c true).length with z | z
  · have e : partS l f c true = [] := List.length_eq_zero_iff.1 z
    rw [e] at s1 s2 q
    rw [e]
    have z0 : sprd ([] : List Sa) = 0 := rfl
    have a1 : sumT (partS l f c false) = sumT l := by have : sumT ([] : List Sa) = 0 := rfl; omega
    have a2 : (partS l f c false).length = l.length := by simpa using s2
    have a3 : sqT (partS l f c false) = sqT l := by have : sqT ([] : List Sa) = 0 := rfl; omega
    have : sprd (partS l f c false) = sprd l := by unfold sprd; rw [a1, a2, a3]
    omega
  · rcases Nat.eq_zero_or_pos (partS l f c false).length with y | y
    · have e : partS l f c false = [] := List.length_eq_zero_iff.1 y
      rw [e] at s1 s2 q
      rw [e]
      have z0 : sprd ([] : List Sa) = 0 := rfl
      have a1 : sumT (partS l f c true) = sumT l := by have : sumT ([] : List Sa) = 0 := rfl; omega
      have a2 : (partS l f c true).length = l.length := by simpa using s2
      have a3 : sqT (partS l f c true) = sqT l := by have : sqT ([] : List Sa) = 0 := rfl; omega
      have : sprd (partS l f c true) = sprd l := by unfold sprd; rw [a1, a2, a3]
      omega
    · rw [sprd_some z, sprd_some y, sprd_some (l := l) (by omega)]
      have en : ((l.length : Nat) : Int) = ((partS l f c true).length : Nat) + ((partS l f c false).length : Nat) := by omega
      rw [← q, ← s1, en]
      have p1 : (0 : Int) < ((partS l f c true).length : Nat) := by omega
      have p2 : (0 : Int) < ((partS l f c false).length : Nat) := by omega
      generalize (((partS l f c true).length : Nat) : Int) = a at *
      generalize (((partS l f c false).length : Nat) : Int) = b at *
      generalize sumT (partS l f c true) = S1 at *
      generalize sumT (partS l f c false) = S2 at *
      generalize sqT (partS l f c true) = Q1 at *
      generalize sqT (partS l f c false) = Q2 at *
      have x1 : (a * Q1 - S1 * S1) / a * a ≤ a * Q1 - S1 * S1 := Int.ediv_mul_le _ (by omega)
      have y1 : (b * Q2 - S2 * S2) / b * b ≤ b * Q2 - S2 * S2 := Int.ediv_mul_le _ (by omega)
      generalize (a * Q1 - S1 * S1) / a = x at *
      generalize (b * Q2 - S2 * S2) / b = w at *
      refine (Int.le_ediv_iff_mul_le (by omega)).2 ?_
      have sq := sq_nonneg (b * S1 - a * S2)
      have ab : 0 < a * b := Int.mul_pos p1 p2
      have k1 : x * a * (b * (a + b)) ≤ (a * Q1 - S1 * S1) * (b * (a + b)) := Int.mul_le_mul_of_nonneg_right x1 (Int.mul_nonneg (by omega) (by omega))
      have k2 : w * b * (a * (a + b)) ≤ (b * Q2 - S2 * S2) * (a * (a + b)) := Int.mul_le_mul_of_nonneg_right y1 (Int.mul_nonneg (by omega) (by omega))
      have id : ((a + b) * (Q1 + Q2) - (S1 + S2) * (S1 + S2)) * (a * b) = (a * Q1 - S1 * S1) * (b * (a + b)) + (b * Q2 - S2 * S2) * (a * (a + b)) + (b * S1 - a * S2) * (b * S1 - a * S2) := by grind
      have fin : (x + w) * (a + b) * (a * b) ≤ ((a + b) * (Q1 + Q2) - (S1 + S2) * (S1 + S2)) * (a * b) := by
        have e : (x + w) * (a + b) * (a * b) = x * a * (b * (a + b)) + w * b * (a * (a + b)) := by grind
        omega
      exact Int.le_of_mul_le_mul_right fin ab

theorem sqT_app (a b : List Sa) : sqT (a ++ b) = sqT a + sqT b := by
  induction a with
  | nil => show sqT b = 0 + sqT b; omega
  | cons s a ih => show s.2 * s.2 + sqT (a ++ b) = s.2 * s.2 + sqT a + sqT b; rw [ih]; omega

end Go.Proofs.YtlloiccodjnkcagGreatDoor.M

namespace Go.Proofs.YtlloiccodjnkcagGreatDoor.M
set_option linter.unusedVariables false

/-! ### together -/
def sumU : List Us → Int
  | [] => 0
  | u :: l => u.2.1 + sumU l
theorem sumU_app : ∀ a b : List Us, sumU (a ++ b) = sumU a + sumU b
  | [], b => by show sumU b = 0 + sumU b; omega
  | u :: a, b => by
    show u.2.1 + sumU (a ++ b) = u.2.1 + sumU a + sumU b
    rw [sumU_app a b]; omega
theorem sumU_ins (g : Bool) (out : List Us) (u : Us) : sumU (insU g out u) = sumU out + u.2.1 := by
  unfold insU
  have e : sumU out = sumU (out.take (toU g out u out.length)) + sumU (out.drop (toU g out u out.length)) := by
    rw [← sumU_app, List.take_append_drop]
  rw [sumU_app, sumU_app, e]
  show _ + (u.2.1 + 0) + _ = _
  omega
theorem sumU_rankK (g : Bool) (l : List Us) : ∀ k, k ≤ l.length → sumU (rankK g l k) = sumU (l.take k)
  | 0, _ => by simp [rankK, sumU]
  | k + 1, hk => by
    have ih := sumU_rankK g l k (by omega)
    have hk' : k < l.length := by omega
    rw [List.take_succ_eq_append_getElem hk', sumU_app]
    unfold rankK
    rw [usAt l hk']
    by_cases z : l[k].2.1 = 0
    · rw [if_pos z, ih]
      show _ = _ + (l[k].2.1 + 0)
      omega
    · rw [if_neg z, sumU_ins, ih]
      show _ = _ + (l[k].2.1 + 0)
      omega
theorem sumU_rank (g : Bool) (l : List Us) : sumU (rankU g l) = sumU l := by
  unfold rankU
  rw [sumU_rankK g l l.length (Nat.le_refl _), List.take_length]
/-! ### how many ask -/
def askN : List Nd → Nat
  | [] => 0
  | n :: t => (if nf n = -1 then 0 else 1) + askN t
def lfN : List Nd → Nat
  | [] => 0
  | n :: t => (if nf n = -1 then 1 else 0) + lfN t
theorem ask_lf : ∀ t : List Nd, askN t + lfN t = t.length
  | [] => rfl
  | n :: t => by
    have := ask_lf t
    show (if nf n = -1 then 0 else 1) + askN t + ((if nf n = -1 then 1 else 0) + lfN t) = t.length + 1
    split <;> omega
theorem ask_lay : ∀ (T : BT) (k : Nat) {m : Int}, okB m T → askN (lay T k) + 1 = T.lvs
  | .lf v, k, m, _ => rfl
  | .nd f c s l r, k, m, h => by
    have h1 := ask_lay l (k + 1) h.2.2.2.1
    have h2 := ask_lay r (k + 1 + l.size) h.2.2.2.2
    have app : ∀ a b : List Nd, askN (a ++ b) = askN a + askN b := by
      intro a b
      induction a with
      | nil => show askN b = 0 + askN b; omega
      | cons n a ih => show (if nf n = -1 then 0 else 1) + askN (a ++ b) = (if nf n = -1 then 0 else 1) + askN a + askN b; rw [ih]; omega
    show (if f = -1 then 0 else 1) + askN (lay l (k + 1) ++ lay r (k + 1 + l.size)) + 1 = l.lvs + r.lvs
    rw [if_neg (by have := h.1; omega), app]
    omega
theorem ask_two (T : BT) (k : Nat) {m : Int} (h : okB m T) : 2 * askN (lay T k) + 1 = T.size := by
  have h1 := ask_lay T k h
  have h2 := BT.two T
  omega
/-- features within eight -/
theorem cnt_sum : ∀ t : List Nd, (∀ n ∈ t, nf n = -1 ∨ (0 ≤ nf n ∧ nf n < 8)) → ((List.range 8).map fun (i : Nat) => cntN (i : Int) t).sum = askN t
  | [], _ => rfl
  | n :: t, h => by
    have ih := cnt_sum t fun x hx => h x (List.mem_cons_of_mem _ hx)
    have hn := h n (List.mem_cons_self ..)
    have e : ∀ (l : List Nat), (l.map fun (i : Nat) => cntN (i : Int) (n :: t)).sum = (l.map fun (i : Nat) => if nf n = (i : Int) then 1 else 0).sum + (l.map fun (i : Nat) => cntN (i : Int) t).sum := by
      intro l
      induction l with
      | nil => rfl
      | cons a l ih =>
        rw [List.map_cons, List.sum_cons, ih, List.map_cons, List.sum_cons, List.map_cons, List.sum_cons]
        show (if nf n = (a : Int) then 1 else 0) + cntN (a : Int) t + _ = _
        omega
    rw [e, ih]
    show _ = (if nf n = -1 then 0 else 1) + askN t
    congr 1
    rcases hn with z | ⟨z1, z2⟩
    · rw [if_pos z, z]; decide
    · rw [if_neg (by omega)]
      obtain ⟨k, hk⟩ : ∃ k : Nat, nf n = (k : Int) := ⟨(nf n).toNat, by omega⟩
      rw [hk]
      have k8 : k < 8 := by omega
      have : k = 0 ∨ k = 1 ∨ k = 2 ∨ k = 3 ∨ k = 4 ∨ k = 5 ∨ k = 6 ∨ k = 7 := by omega
      rcases this with z | z | z | z | z | z | z | z <;> subst z <;> decide
def askG : List (List Nd) → Nat
  | [] => 0
  | t :: l => askN t + askG l
theorem use_sum : ∀ l : List (List Nd), (∀ t ∈ l, ∀ n ∈ t, nf n = -1 ∨ (0 ≤ nf n ∧ nf n < 8)) → ((List.range 8).map fun (i : Nat) => cntG (i : Int) l).sum = askG l
  | [], _ => rfl
  | t :: l, h => by
    have ih := use_sum l fun x hx => h x (List.mem_cons_of_mem _ hx)
    have ht := cnt_sum t (h t (List.mem_cons_self ..))
    have e : ∀ (r : List Nat), (r.map fun (i : Nat) => cntG (i : Int) (t :: l)).sum = (r.map fun (i : Nat) => cntN (i : Int) t).sum + (r.map fun (i : Nat) => cntG (i : Int) l).sum := by
      intro r
      induction r with
      | nil => rfl
      | cons a r ih =>
        rw [List.map_cons, List.sum_cons, ih, List.map_cons, List.sum_cons, List.map_cons, List.sum_cons]
        show cntN (a : Int) t + cntG (a : Int) l + _ = _
        omega
    rw [e, ht, ih]
    rfl
theorem uses_sum {l : List (List Nd)} (h : ∀ t ∈ l, ∀ n ∈ t, nf n = -1 ∨ (0 ≤ nf n ∧ nf n < 8)) : sumU (usesV l) = (askG l : Nat) := by
  unfold usesV
  rw [sumU_rank, ← use_sum l h]
  unfold useL
  generalize List.range 8 = r
  induction r with
  | nil => rfl
  | cons a r ih =>
    rw [List.map_cons, List.map_cons, List.sum_cons]
    show ((cntG (a : Int) l : Nat) : Int) + sumU _ = _
    rw [ih]; omega
/-! ### two lists -/
def sameN : List Int → List Int → Nat
  | x :: a, y :: b => (if x = y then 1 else 0) + sameN a b
  | _, _ => 0
def sameF (a b : List Int) : Int := if a.length ≠ b.length then 3 else if 1000 < a.length then 4 else 0
def sameV (a b : List Int) : Int := if sameF a b = 0 then (sameN a b : Nat) else 0
theorem same_turn : ∀ a b : List Int, sameN a b = sameN b a
  | [], [] => rfl
  | [], _ :: _ => rfl
  | _ :: _, [] => rfl
  | x :: a, y :: b => by
    show (if x = y then 1 else 0) + sameN a b = (if y = x then 1 else 0) + sameN b a
    rw [same_turn a b]
    by_cases e : x = y
    · rw [if_pos e, if_pos e.symm]
    · rw [if_neg e, if_neg (fun z => e z.symm)]
theorem same_self : ∀ a : List Int, sameN a a = a.length
  | [] => rfl
  | x :: a => by
    show (if x = x then 1 else 0) + sameN a a = a.length + 1
    rw [if_pos rfl, same_self a]; omega
theorem same_le : ∀ a b : List Int, sameN a b ≤ a.length
  | [], [] => Nat.le_refl _
  | [], _ :: _ => Nat.le_refl _
  | _ :: _, [] => Nat.zero_le _
  | x :: a, y :: b => by
    have := same_le a b
    show (if x = y then 1 else 0) + sameN a b ≤ a.length + 1
    split <;> omega
theorem same_app : ∀ (a b c d : List Int), a.length = b.length → sameN (a ++ c) (b ++ d) = sameN a b + sameN c d
  | [], [], c, d, _ => by show sameN c d = 0 + sameN c d; omega
  | [], _ :: _, _, _, h => by simp at h
  | _ :: _, [], _, _, h => by simp at h
  | x :: a, y :: b, c, d, h => by
    have ih := same_app a b c d (by simpa using h)
    show (if x = y then 1 else 0) + sameN (a ++ c) (b ++ d) = (if x = y then 1 else 0) + sameN a b + sameN c d
    rw [ih]; omega
theorem same_more {a b : List Int} (h : a.length = b.length) {k : Nat} (hk : k < a.length) : sameN (a.take (k + 1)) (b.take (k + 1)) = sameN (a.take k) (b.take k) + (if a.getD k 0 = b.getD k 0 then 1 else 0) := by
  rw [List.take_succ_eq_append_getElem hk, List.take_succ_eq_append_getElem (by omega), same_app _ _ _ _ (by rw [List.length_take, List.length_take, h]), getD_at hk, getD_at (by omega)]
  rfl

end Go.Proofs.YtlloiccodjnkcagGreatDoor.M

namespace Go.Proofs.YtlloiccodjnkcagGreatDoor.M
set_option linter.unusedVariables false

theorem way_rise {t : List Nd} {m : Int} (h : Right t m) (r : List Int) : ∀ (f i : Nat), i < t.length → t.length ≤ f + i → (way t r i).Pairwise (fun a b => a < b)
  | 0, i, hi, hf => by omega
  | f + 1, i, hi, hf => by
    by_cases hl : nf (nAt t i) = -1
    · rw [way_leaf hi hl]; exact List.pairwise_singleton _ _
    · obtain ⟨k, e, h1, h2⟩ := next_in h r hi hl
      rw [way_next h hi hl e]
      exact List.pairwise_cons.2 ⟨fun j hj => by have := way_mem h r f k h2 (by omega) j hj; omega, way_rise h r f k h2 (by omega)⟩
theorem path_rise {t : List Nd} {r : List Int} : (pathV t r).Pairwise (fun a b => a < b) := by
  unfold pathV
  split
  · rename_i hz
    have hR : ∃ m : Int, Right t m ∧ 0 < t.length := by
      unfold readyF at hz
      by_cases c : rowF r ≠ 0
      · rw [if_pos c] at hz; exact absurd hz c
      · rw [if_neg c] at hz
        exact ⟨(r.length : Int), (tree_ok hz).1.2.2.2.2.1, (tree_ok hz).1.2.1⟩
    obtain ⟨m, h1, h2⟩ := hR
    rw [List.pairwise_map]
    exact (way_rise h1 r t.length 0 h2 (by omega)).imp fun {a b} q => (show ((a : Nat) : Int) < ((b : Nat) : Int) by omega)
  · exact List.Pairwise.nil
/-- who comes over a node -/
def overB (t : List Nd) (i : Nat) (s : Sa) : Bool := decide ((i : Int) ∈ pathV t s.1)
def hereS (t : List Nd) (l : List Sa) (i : Nat) : List Sa := l.filter (overB t i)
/-- what a node gains -/
def gainN (t : List Nd) (l : List Sa) (i : Nat) : Int := sprd (hereS t l i) - sprd (partS (hereS t l i) (nf (nAt t i)).toNat (nc (nAt t i)) true) - sprd (partS (hereS t l i) (nf (nAt t i)).toNat (nc (nAt t i)) false)
def gnK (t : List Nd) (l : List Sa) (f : Int) : Nat → Int
  | 0 => 0
  | i + 1 => if nf (nAt t i) = f then gnK t l f i + gainN t l i else gnK t l f i
theorem gain_pos (t : List Nd) (l : List Sa) (i : Nat) : 0 ≤ gainN t l i := by
  unfold gainN
  have := sprd_part (hereS t l i) (nf (nAt t i)).toNat (nc (nAt t i))
  omega
theorem gnK_pos (t : List Nd) (l : List Sa) (f : Int) : ∀ i, 0 ≤ gnK t l f i
  | 0 => Int.le_refl _
  | i + 1 => by
    have := gnK_pos t l f i
    have := gain_pos t l i
    unfold gnK
    split <;> omega
theorem sprd_le {l : List Sa} (h : ∀ s ∈ l, -1000 ≤ s.2 ∧ s.2 ≤ 1000) (hl : l.length ≤ 60) : sprd l ≤ 60000000 := by
  rcases Nat.eq_zero_or_pos l.length with z | z
  · rw [sprd_none z]; omega
  · rw [sprd_some z]
    have q := sqT_bd h
    have sq := sq_nonneg (sumT l)
    have hp : (0 : Int) < (l.length : Nat) := by omega
    refine Int.le_of_lt_add_one (Int.ediv_lt_of_lt_mul hp ?_)
    have e : (60000000 + 1) * ((l.length : Nat) : Int) = 60000000 * (l.length : Nat) + (l.length : Nat) := by omega
    have m : ((l.length : Nat) : Int) * sqT l ≤ (l.length : Nat) * 60000000 := Int.mul_le_mul_of_nonneg_left (by omega) (by omega)
    omega
theorem gain_le {t : List Nd} {l : List Sa} (h : ∀ s ∈ l, -1000 ≤ s.2 ∧ s.2 ≤ 1000) (hl : l.length ≤ 60) (i : Nat) : gainN t l i ≤ 60000000 := by
  have a := sprd_le (l := hereS t l i) (fun s hs => h s (List.mem_filter.1 hs).1) (Nat.le_trans (List.length_filter_le _ _) hl)
  have b := sprd_nonneg (partS (hereS t l i) (nf (nAt t i)).toNat (nc (nAt t i)) true)
  have c := sprd_nonneg (partS (hereS t l i) (nf (nAt t i)).toNat (nc (nAt t i)) false)
  unfold gainN
  omega
theorem gnK_le {t : List Nd} {l : List Sa} (h : ∀ s ∈ l, -1000 ≤ s.2 ∧ s.2 ≤ 1000) (hl : l.length ≤ 60) (f : Int) : ∀ i, gnK t l f i ≤ 60000000 * (i : Nat)
  | 0 => Int.le_refl _
  | i + 1 => by
    have a := gnK_le (t := t) h hl f i
    have b := gain_le (t := t) h hl i
    unfold gnK
    split <;> omega
/-- the gains of eight features -/
def gainL (t : List Nd) (l : List Sa) : List Us := (List.range 8).map fun (i : Nat) => ((i : Int), ((cntN (i : Int) t : Nat) : Int), gnK t l (i : Int) t.length)
theorem gainL_rise (t : List Nd) (l : List Sa) : RiseU (gainL t l) := by
  unfold RiseU gainL
  rw [List.pairwise_map]
  exact (List.pairwise_lt_range).imp fun {a b} h => (show ((a : Nat) : Int) < ((b : Nat) : Int) by omega)
def gainsV (t : List Nd) (l : List Sa) : List Us := rankU true (gainL t l)
/-- gains are not below 0, and each is in some node -/
theorem gains_pos {t : List Nd} {l : List Sa} {u : Us} (h : u ∈ gainsV t l) : 0 ≤ u.2.2 ∧ 1 ≤ u.2.1 := by
  unfold gainsV at h
  rw [(rank_spec (gainL_rise t l)).2] at h
  obtain ⟨h1, h2⟩ := h
  unfold gainL at h1
  obtain ⟨i, _, rfl⟩ := List.mem_map.1 h1
  refine ⟨gnK_pos t l _ _, ?_⟩
  have : ((cntN (i : Int) t : Nat) : Int) ≠ 0 := h2
  show 1 ≤ ((cntN (i : Int) t : Nat) : Int)
  omega

end Go.Proofs.YtlloiccodjnkcagGreatDoor.M
