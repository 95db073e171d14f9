/-
  Several texts as one: MathA, MathI, MathSa.
-/
import Derived.Test.YtpblpfleiilehafGreatDoorRun5
namespace Go.Proofs.YtpblpfleiilehafGreatDoor.M
set_option linter.unusedVariables false

/-- the node above, with another one below it -/
def turnN (n : Nd) (at' to : Nat) : Nd := if nl n = (at' : Int) then (nf n, nc n, (to : Int), nr n, ns n, nv n) else (nf n, nc n, nl n, (to : Int), ns n, nv n)
theorem set_at {t : List Nd} {i : Nat} {n : Nd} (h : i < t.length) : nAt (t.set i n) i = n := by
  unfold nAt; simp [List.getD, h]
theorem set_ne {t : List Nd} {i j : Nat} {n : Nd} (h : j ≠ i) : nAt (t.set i n) j = nAt t j := by
  unfold nAt; simp only [List.getD]; rw [List.getElem?_set_ne (fun q => h q.symm)]
/-- one right below another -/
structure Below2 (t : List Nd) (m : Nat) (up at' to : Nat) : Prop where
  fair : Fair t (m : Int)
  hup : up < t.length
  hat : at' < t.length
  hto : to < t.length
  c1 : chL (nAt t up) (at' : Nat)
  c2 : chL (nAt t at') (to : Nat)
theorem ch_lt {t : List Nd} {m : Int} (h : Right t m) {i j : Nat} (hi : i < t.length) (c : chL (nAt t i) (j : Nat)) : i < j ∧ j < t.length := by
  obtain ⟨a, b, ea, eb, h1, h2, h3, h4, _⟩ := ask_at h hi c.1
  rcases c.2 with q | q <;> omega
theorem Below2.right {t : List Nd} {m up at' to : Nat} (B : Below2 t m up at' to) : Right (t.set up (turnN (nAt t up) at' to)) (m : Int) := by
  have hR := B.fair.2.2.2.2.1
  have l1 := ch_lt hR B.hup B.c1
  have l2 := ch_lt hR B.hat B.c2
  intro q hq
  rw [List.length_set] at hq ⊢
  by_cases e : q = up
  · subst e
    rw [set_at B.hup]
    have hn := hR q B.hup
    have hf : nf (nAt t q) ≠ -1 := B.c1.1
    obtain ⟨a, b, ea, eb, h1, h2, h3, h4, h5⟩ := ask_at hR B.hup hf
    obtain ⟨g0, g1, g2, _, _, _, _, g7, _⟩ := node_ask hn hf
    have apart : ∀ o : Nat, chL (nAt t q) (o : Nat) → o ≠ at' → o ≠ to := fun o co no eo => by
      subst eo
      have lo := ch_lt hR B.hup co
      have := up_one (B.fair.2.2.2.2.2 o (by omega) lo.2) B.hup B.hat co B.c2
      omega
    have hf2 : nf (turnN (nAt t q) at' to) = nf (nAt t q) := by unfold turnN; split <;> rfl
    have hc2 : nc (turnN (nAt t q) at' to) = nc (nAt t q) := by unfold turnN; split <;> rfl
    have hv2 : nv (turnN (nAt t q) at' to) = nv (nAt t q) := by unfold turnN; split <;> rfl
    have hlr : ∃ x y : Nat, nl (turnN (nAt t q) at' to) = x ∧ nr (turnN (nAt t q) at' to) = y ∧ q < x ∧ x < t.length ∧ q < y ∧ y < t.length ∧ x ≠ y := by
      unfold turnN
      by_cases c : nl (nAt t q) = (at' : Int)
      · rw [if_pos c]
        refine ⟨to, b, rfl, eb, by omega, by omega, by omega, by omega, ?_⟩
        exact fun e => apart b ⟨hf, .inr eb⟩ (by omega) e.symm
      · rw [if_neg c]
        refine ⟨a, to, ea, rfl, by omega, by omega, by omega, by omega, ?_⟩
        exact fun e => apart a ⟨hf, .inl ea⟩ (by omega) e
    obtain ⟨x, y, ex, ey, x1, x2, y1, y2, xy⟩ := hlr
    unfold nodeF
    rw [hf2, if_neg hf]
    unfold asF
    rw [hf2, hc2, hv2, ex, ey]
    have b1 : inB (x : Int) q t.length = true := by unfold inB; rw [decide_eq_true (by omega), decide_eq_true (by omega)]; rfl
    have b2 : inB (y : Int) q t.length = true := by unfold inB; rw [decide_eq_true (by omega), decide_eq_true (by omega)]; rfl
    rw [b1, b2, g2, g7]
    rw [if_neg (by simp; omega), if_neg (by simp; omega)]
  · rw [set_ne e]; exact hR q hq
theorem Below2.turned {t : List Nd} {m up at' to : Nat} (B : Below2 t m up at' to) : (nl (nAt t up) = at' ∧ nAt (t.set up (turnN (nAt t up) at' to)) up = (nf (nAt t up), nc (nAt t up), (to : Int), nr (nAt t up), ns (nAt t up), nv (nAt t up))) ∨ (nr (nAt t up) = at' ∧ nAt (t.set up (turnN (nAt t up) at' to)) up = (nf (nAt t up), nc (nAt t up), nl (nAt t up), (to : Int), ns (nAt t up), nv (nAt t up))) := by
  rw [set_at B.hup]
  unfold turnN
  by_cases c : nl (nAt t up) = (at' : Int)
  · rw [if_pos c]; exact .inl ⟨c, rfl⟩
  · rw [if_neg c]
    rcases B.c1.2 with q | q
    · exact absurd q c
    · exact .inr ⟨q, rfl⟩
theorem Below2.same {t : List Nd} {m up at' to : Nat} (B : Below2 t m up at' to) (he : prn (Pw t m at') (bt t to) = prn (Pw t m at') (bt t at')) : prn (vld m) (bt (t.set up (turnN (nAt t up) at' to)) 0) = prn (vld m) (bt t 0) := by
  have hR := B.fair.2.2.2.2.1
  have l1 := ch_lt hR B.hup B.c1
  have l2 := ch_lt hR B.hat B.c2
  have := give_same B.fair B.right (List.length_set) B.hup B.c1.1 (show up < to by omega) B.hto (fun q hq _ => set_ne hq) B.turned he t.length 0 B.fair.2.1 (by omega)
  rw [pw_root B.fair] at this
  exact this
/-- a side is smaller than the whole -/
theorem side_lt {t : List Nd} {m : Int} (h : Right t m) {i j : Nat} (hi : i < t.length) (c : chL (nAt t i) (j : Nat)) : (bt t j).size < (bt t i).size ∧ (bt t j).deep ≤ (bt t i).deep := by
  obtain ⟨a, b, ea, eb, h1, h2, h3, h4, _⟩ := ask_at h hi c.1
  rw [bt_ask h hi c.1 ea eb]
  show _ < 1 + _ + _ ∧ _ ≤ 1 + max _ _
  rcases c.2 with q | q
  · have : a = j := by omega
    subst this
    omega
  · have : b = j := by omega
    subst this
    omega
theorem Below2.le {t : List Nd} {m up at' to : Nat} (B : Below2 t m up at' to) : ∀ (k i : Nat), i < t.length → t.length ≤ k + i → (bt (t.set up (turnN (nAt t up) at' to)) i).size ≤ (bt t i).size ∧ (bt (t.set up (turnN (nAt t up) at' to)) i).deep ≤ (bt t i).deep ∧ (i = up → (bt (t.set up (turnN (nAt t up) at' to)) i).size < (bt t i).size)
  | 0, i, hi, hk => by omega
  | k + 1, i, hi, hk => by
    have hR := B.fair.2.2.2.2.1
    have hu := B.right
    have l1 := ch_lt hR B.hup B.c1
    have l2 := ch_lt hR B.hat B.c2
    have hl : (t.set up (turnN (nAt t up) at' to)).length = t.length := List.length_set
    have hi' : i < (t.set up (turnN (nAt t up) at' to)).length := by omega
    by_cases e : i = up
    · subst e
      obtain ⟨a, b, ea, eb, h1, h2, h3, h4, _⟩ := ask_at hR hi B.c1.1
      have ag : ∀ j, i < j → j < t.length → bt (t.set i (turnN (nAt t i) at' to)) j = bt t j := fun j hj hj2 => bt_agree hR hu hl (j := i + 1) (fun q q1 q2 => set_ne (by omega)) t.length j (by omega) hj2 (by omega)
      have sl := side_lt hR B.hat B.c2
      rcases B.turned with ⟨n1, n2⟩ | ⟨n1, n2⟩
      · have ea' : a = at' := by omega
        subst ea'
        rw [bt_ask hR hi B.c1.1 ea eb, bt_ask hu hi' (a := to) (b := b) (by rw [n2]; exact B.c1.1) (by rw [n2]; rfl) (by rw [n2]; exact eb), ag to (by omega) B.hto, ag b (by omega) h4]
        show 1 + _ + _ ≤ 1 + _ + _ ∧ 1 + max _ _ ≤ 1 + max _ _ ∧ (_ → 1 + _ + _ < 1 + _ + _)
        omega
      · have eb' : b = at' := by omega
        subst eb'
        rw [bt_ask hR hi B.c1.1 ea eb, bt_ask hu hi' (a := a) (b := to) (by rw [n2]; exact B.c1.1) (by rw [n2]; exact ea) (by rw [n2]; rfl), ag to (by omega) B.hto, ag a (by omega) h2]
        show 1 + _ + _ ≤ 1 + _ + _ ∧ 1 + max _ _ ≤ 1 + max _ _ ∧ (_ → 1 + _ + _ < 1 + _ + _)
        omega
    · have en : nAt (t.set up (turnN (nAt t up) at' to)) i = nAt t i := set_ne e
      by_cases hf : nf (nAt t i) = -1
      · rw [bt_leaf hi hf, bt_leaf hi' (by rw [en]; exact hf)]
        exact ⟨Nat.le_refl _, Nat.le_refl _, fun q => absurd q e⟩
      · obtain ⟨a, b, ea, eb, h1, h2, h3, h4, _⟩ := ask_at hR hi hf
        rw [bt_ask hR hi hf ea eb, bt_ask hu hi' (by rw [en]; exact hf) (by rw [en]; exact ea) (by rw [en]; exact eb)]
        have ra := B.le k a h2 (by omega)
        have rb := B.le k b h4 (by omega)
        show 1 + _ + _ ≤ 1 + _ + _ ∧ 1 + max _ _ ≤ 1 + max _ _ ∧ (_ → 1 + _ + _ < 1 + _ + _)
        omega
/-- what is smaller somewhere is smaller as a whole -/
theorem Below2.up {t : List Nd} {m up at' to : Nat} (B : Below2 t m up at' to) : ∀ (k j : Nat), j < k → j < t.length → (bt (t.set up (turnN (nAt t up) at' to)) j).size < (bt t j).size → (bt (t.set up (turnN (nAt t up) at' to)) 0).size < (bt t 0).size
  | 0, j, hk, hj, h => by omega
  | k + 1, j, hk, hj, h => by
    have hR := B.fair.2.2.2.2.1
    have hu := B.right
    have hl : (t.set up (turnN (nAt t up) at' to)).length = t.length := List.length_set
    rcases Nat.eq_zero_or_pos j with h0 | h0
    · subst h0; exact h
    · obtain ⟨p, hp, c⟩ := up_some (B.fair.2.2.2.2.2 j h0 hj)
      have lp := ch_lt hR hp c
      refine B.up k p (by omega) hp ?_
      by_cases e : p = up
      · exact (B.le t.length p hp (by omega)).2.2 e
      · have en : nAt (t.set up (turnN (nAt t up) at' to)) p = nAt t p := set_ne e
        obtain ⟨a, b, ea, eb, h1, h2, h3, h4, _⟩ := ask_at hR hp c.1
        rw [bt_ask hR hp c.1 ea eb, bt_ask hu (by omega) (by rw [en]; exact c.1) (by rw [en]; exact ea) (by rw [en]; exact eb)]
        have ra := (B.le t.length a h2 (by omega)).1
        have rb := (B.le t.length b h4 (by omega)).1
        show 1 + _ + _ < 1 + _ + _
        rcases c.2 with q | q
        · have : a = j := by omega
          subst this
          omega
        · have : b = j := by omega
          subst this
          omega
theorem Below2.lt {t : List Nd} {m up at' to : Nat} (B : Below2 t m up at' to) : (bt (t.set up (turnN (nAt t up) at' to)) 0).size < (bt t 0).size ∧ (bt (t.set up (turnN (nAt t up) at' to)) 0).deep ≤ (bt t 0).deep ∧ okB (m : Int) (bt (t.set up (turnN (nAt t up) at' to)) 0) := by
  have hl : (t.set up (turnN (nAt t up) at' to)).length = t.length := List.length_set
  exact ⟨B.up (up + 1) up (by omega) B.hup ((B.le t.length up B.hup (by omega)).2.2 rfl), (B.le t.length 0 B.fair.2.1 (by omega)).2.1, bt_ok B.right t.length 0 (by rw [hl]; exact B.fair.2.1) (by omega)⟩

end Go.Proofs.YtpblpfleiilehafGreatDoor.M

namespace Go.Proofs.YtpblpfleiilehafGreatDoor.M
set_option linter.unusedVariables false

def BT.lvs : BT → Nat
  | .lf _ => 1
  | .nd _ _ _ l r => l.lvs + r.lvs
theorem BT.two : ∀ T : BT, T.size + 1 = 2 * T.lvs
  | .lf _ => rfl
  | .nd _ _ _ l r => by
    have a := l.two
    have b := r.two
    unfold BT.size BT.lvs
    omega
theorem bt_lvs {t : List Nd} {m : Int} (h : Right t m) : ∀ (k i : Nat), i < t.length → t.length ≤ k + i → (bt t i).lvs = lfs t i
  | 0, i, hi, hk => by omega
  | k + 1, i, hi, hk => by
    by_cases hl : nf (nAt t i) = -1
    · rw [bt_leaf hi hl, lfs_leaf hi hl]; rfl
    · obtain ⟨a, b, ea, eb, h1, h2, h3, h4, _⟩ := ask_at h hi hl
      rw [bt_ask h hi hl ea eb, lfs_ask h hi hl ea eb]
      show (bt t a).lvs + (bt t b).lvs = _
      rw [bt_lvs h k a h2 (by omega), bt_lvs h k b h4 (by omega)]
/-- a tree that is right has its nodes, each once -/
theorem bt_size {t : List Nd} {m : Int} (F : Fair t m) : (bt t 0).size = t.length := by
  have a := (bt t 0).two
  have b := bt_lvs F.2.2.2.2.1 t.length 0 F.2.1 (by omega)
  have c := leaves_count F
  have d := halves F
  omega

/-- what comes of a tree, pruned -/
noncomputable def prunV (t : List Nd) (m : Int) : List Nd := if (treeF t m).2 = 0 then lay (prn (vld m.toNat) (bt t 0)) 0 else []
/-- .. and sorted -/
def sortV (t : List Nd) (m : Int) : List Nd := if (treeF t m).2 = 0 then lay (bt t 0) 0 else []
theorem fair_nat {t : List Nd} {m : Int} (h : (treeF t m).2 = 0) : Fair t ((m.toNat : Nat) : Int) ∧ ((m.toNat : Nat) : Int) = m := by
  have F := (tree_ok h).1
  have e : ((m.toNat : Nat) : Int) = m := by have := F.2.2.1; omega
  rw [e]; exact ⟨F, rfl⟩
/-- what is pruned is right -/
theorem prun_tree {t : List Nd} {m : Int} (h : (treeF t m).2 = 0) : (treeF (prunV t m) m).2 = 0 ∧ (prunV t m).length ≤ t.length := by
  have F := (tree_ok h).1
  have ok := bt_ok F.2.2.2.2.1 t.length 0 F.2.1 (by omega)
  have sz := prn_size (bt t 0) (vld m.toNat)
  have bs := bt_size F
  have l63 := F.1
  have dp := tree_deep h
  have bd := bt_deep F.2.2.2.2.1 t.length 0 F.2.1 (by omega)
  unfold prunV
  rw [if_pos h]
  exact ⟨lay_tree (prn_ok _ _ ok) F.2.2.1 F.2.2.2.1 (by omega) (by omega), by rw [lay_len]; omega⟩
/-- what is sorted is right -/
theorem sort_tree {t : List Nd} {m : Int} (h : (treeF t m).2 = 0) : (treeF (sortV t m) m).2 = 0 ∧ (sortV t m).length = t.length := by
  have F := (tree_ok h).1
  have ok := bt_ok F.2.2.2.2.1 t.length 0 F.2.1 (by omega)
  have bs := bt_size F
  have l63 := F.1
  have dp := tree_deep h
  have bd := bt_deep F.2.2.2.2.1 t.length 0 F.2.1 (by omega)
  unfold sortV
  rw [if_pos h]
  exact ⟨lay_tree ok F.2.2.1 F.2.2.2.1 (by omega) (by omega), by rw [lay_len]; omega⟩
/-- what is laid says what it is told -/
theorem lay_eval {T : BT} {r : List Int} (ok : okB (r.length : Int) T) (hz : (treeF (lay T 0) (r.length : Int)).2 = 0) (hr : rowF r = 0) : readyF (lay T 0) r = 0 ∧ evalV (lay T 0) r = evB T r := by
  have hy : readyF (lay T 0) r = 0 := by rw [ready_tree hr]; exact hz
  refine ⟨hy, ?_⟩
  have F := (tree_ok hz).1
  have := bt_ev F.2.2.2.2.1 r (lay T 0).length 0 F.2.1 (by omega)
  rw [bt_of_lay ok] at this
  rw [this]
  unfold evalV
  rw [if_pos hy]
theorem eval_bt {t : List Nd} {r : List Int} (h : readyF t r = 0) : evalV t r = evB (bt t 0) r := by
  have F := (tree_ok (ready_ok h).2).1
  rw [bt_ev F.2.2.2.2.1 r t.length 0 F.2.1 (by omega)]
  unfold evalV
  rw [if_pos h]
/-- pruned, a tree tells the same -/
theorem prun_eval {t : List Nd} {r : List Int} (h : readyF t r = 0) : readyF (prunV t (r.length : Int)) r = 0 ∧ evalV (prunV t (r.length : Int)) r = evalV t r := by
  have hr := (ready_ok h).1
  have hz := (ready_ok h).2
  have F := (tree_ok hz).1
  have ok := bt_ok F.2.2.2.2.1 t.length 0 F.2.1 (by omega)
  have pt := (prun_tree hz).1
  unfold prunV at pt ⊢
  rw [if_pos hz] at pt ⊢
  obtain ⟨e1, e2⟩ := lay_eval (prn_ok _ _ ok) pt hr
  refine ⟨e1, ?_⟩
  rw [e2, eval_bt h]
  exact prn_ev _ _ r ⟨hr, by rw [Int.toNat_natCast]⟩
/-- sorted, too -/
theorem sort_eval {t : List Nd} {r : List Int} (h : readyF t r = 0) : readyF (sortV t (r.length : Int)) r = 0 ∧ evalV (sortV t (r.length : Int)) r = evalV t r := by
  have hr := (ready_ok h).1
  have hz := (ready_ok h).2
  have F := (tree_ok hz).1
  have ok := bt_ok F.2.2.2.2.1 t.length 0 F.2.1 (by omega)
  have pt := (sort_tree hz).1
  unfold sortV at pt ⊢
  rw [if_pos hz] at pt ⊢
  obtain ⟨e1, e2⟩ := lay_eval ok pt hr
  exact ⟨e1, by rw [e2, eval_bt h]⟩
/-- pruned once more it stays -/
theorem prun_again {t : List Nd} {m : Int} (h : (treeF t m).2 = 0) : prunV (prunV t m) m = prunV t m := by
  have F := (tree_ok h).1
  have ok := bt_ok F.2.2.2.2.1 t.length 0 F.2.1 (by omega)
  have pt := (prun_tree h).1
  have e : prunV t m = lay (prn (vld m.toNat) (bt t 0)) 0 := by unfold prunV; rw [if_pos h]
  rw [e] at pt ⊢
  unfold prunV
  rw [if_pos pt, bt_of_lay (prn_ok _ _ ok), prn_again]

end Go.Proofs.YtpblpfleiilehafGreatDoor.M

namespace Go.Proofs.YtpblpfleiilehafGreatDoor.M
set_option linter.unusedVariables false

abbrev Sa := List Int × Int
def colA (s : Sa) (f : Nat) : Int := s.1.getD f 0
def sAt (l : List Sa) (i : Nat) : Sa := l.getD i ([], 0)
def sa1F (m : Int) (s : Sa) : Int := if rowF s.1 ≠ 0 then rowF s.1 else if s.2 < -1000 ∨ 1000 < s.2 then 1 else if (s.1.length : Int) ≠ m then 3 else if nilI ∈ s.1 then 5 else 0
def samF (l : List Sa) (m : Int) : Nat × Int := if 60 < l.length then (0, 4) else if l.length = 0 then (0, 5) else if m < 0 ∨ 8 < m then (0, 1) else match firstN (fun i => !decide (sa1F m (sAt l i) = 0)) l.length with
  | some i => (i, sa1F m (sAt l i))
  | none => (0, 0)

/-! ### on both sides of a cut -/
def sideB (f : Nat) (c : Int) (s : Sa) : Bool := decide (colA s f < c)
def partS (l : List Sa) (f : Nat) (c : Int) (b : Bool) : List Sa := l.filter fun s => sideB f c s == b
def sumT : List Sa → Int
  | [] => 0
  | s :: l => s.2 + sumT l
theorem sumT_app (a b : List Sa) : sumT (a ++ b) = sumT a + sumT b := by
  induction a with
  | nil => simp [sumT]
  | cons s a ih => show s.2 + sumT (a ++ b) = s.2 + sumT a + sumT b; rw [ih]; omega
theorem part_sum (l : List Sa) (f : Nat) (c : Int) : sumT (partS l f c true) + sumT (partS l f c false) = sumT l ∧ (partS l f c true).length + (partS l f c false).length = l.length := by
  induction l with
  | nil => exact ⟨rfl, rfl⟩
  | cons s l ih =>
    unfold partS at *
    cases h : sideB f c s
    · rw [List.filter_cons_of_neg (by simp [h]), List.filter_cons_of_pos (by simp [h])]
      obtain ⟨i1, i2⟩ := ih
      refine ⟨?_, by rw [List.length_cons, List.length_cons]; omega⟩
      show _ + (s.2 + sumT _) = s.2 + sumT l
      omega
    · rw [List.filter_cons_of_pos (by simp [h]), List.filter_cons_of_neg (by simp [h])]
      obtain ⟨i1, i2⟩ := ih
      refine ⟨?_, by rw [List.length_cons, List.length_cons]; omega⟩
      show s.2 + sumT _ + _ = s.2 + sumT l
      omega
def nB (l : List Sa) (f : Nat) (c : Int) (b : Bool) : Int := ((partS l f c b).length : Nat)
def tB (l : List Sa) (f : Nat) (c : Int) (b : Bool) : Int := sumT (partS l f c b)
def spU (l : List Sa) (f : Nat) (c : Int) : Int := tB l f c true * tB l f c true * nB l f c false + tB l f c false * tB l f c false * nB l f c true
def spD (l : List Sa) (f : Nat) (c : Int) : Int := nB l f c true * nB l f c false
def okC (l : List Sa) (least : Int) (f : Nat) (c : Int) : Bool := !(decide (nB l f c true < least) || decide (nB l f c false < least) || decide (nB l f c true = 0))

/-! ### the best so far -/
abbrev SpS := Int × Int × Nat × Int × Bool
def sp0 (l : List Sa) : SpS := (sumT l * sumT l, (l.length : Nat), 0, 0, false)
def spGt (l : List Sa) (st : SpS) (f : Nat) (c : Int) : Bool := decide (st.1 * spD l f c < spU l f c * st.2.1) || (st.2.2.2.2 && decide (spU l f c * st.2.1 = st.1 * spD l f c) && decide (f = st.2.2.1) && decide (c < st.2.2.2.1))
def spN (l : List Sa) (least : Int) (st : SpS) (f : Nat) (c : Int) : SpS := if okC l least f c = true then (if spGt l st f c = true then (spU l f c, spD l f c, f, c, true) else st) else st
def spI (l : List Sa) (least : Int) (f : Nat) (st : SpS) : Nat → SpS
  | 0 => st
  | k + 1 => spN l least (spI l least f st k) f (colA (sAt l k) f)
def spA (l : List Sa) (least : Int) : Nat → SpS
  | 0 => sp0 l
  | f + 1 => spI l least f (spA l least f) l.length
def spV (l : List Sa) (m : Nat) (least : Int) : SpS := spA l least m

/-! ### fractions -/
theorem fr_gt {a b c d e f : Int} (hb : 0 < b) (hd : 0 < d) (hf : 0 < f) (h1 : c * b < a * d) (h2 : e * d ≤ c * f) : e * b < a * f := by
  have h3 : c * b * f < a * d * f := Int.mul_lt_mul_of_pos_right h1 hf
  have h4 : e * d * b ≤ c * f * b := Int.mul_le_mul_of_nonneg_right h2 (by omega)
  have h5 : (e * b) * d < (a * f) * d := by grind
  exact Int.lt_of_mul_lt_mul_right h5 (by omega)
theorem fr_ge {a b c d e f : Int} (hb : 0 < b) (hd : 0 < d) (hf : 0 < f) (h1 : c * b ≤ a * d) (h2 : e * d < c * f) : e * b < a * f := by
  have h3 : c * b * f ≤ a * d * f := Int.mul_le_mul_of_nonneg_right h1 (by omega)
  have h4 : e * d * b < c * f * b := Int.mul_lt_mul_of_pos_right h2 hb
  have h5 : (e * b) * d < (a * f) * d := by grind
  exact Int.lt_of_mul_lt_mul_right h5 (by omega)
theorem fr_eq {a b c d e f : Int} (hb : 0 < b) (hd : 0 < d) (hf : 0 < f) (h1 : c * b = a * d) (h2 : e * d = c * f) : e * b = a * f := by
  have h5 : (e * b) * d = (a * f) * d := by grind
  exact Int.eq_of_mul_eq_mul_right (by omega) h5
theorem spD_pos {l : List Sa} {least : Int} {f : Nat} {c : Int} (h1 : 1 ≤ least) (h : okC l least f c = true) : 0 < spD l f c ∧ least ≤ nB l f c true ∧ least ≤ nB l f c false := by
  unfold okC at h
  simp only [Bool.not_eq_true', Bool.or_eq_false_iff, decide_eq_false_iff_not] at h
  refine ⟨?_, by omega, by omega⟩
  unfold spD
  exact Int.mul_pos (by omega) (by omega)

/-! ### which is best -/
/-- a question that may be asked -/
def Cand (l : List Sa) (m : Nat) (least : Int) (f : Nat) (c : Int) : Prop := f < m ∧ (∃ i, i < l.length ∧ colA (sAt l i) f = c) ∧ okC l least f c = true
/-- the one puts more right than the other, or as much and comes first -/
def Beats (l : List Sa) (f : Nat) (c : Int) (f' : Nat) (c' : Int) : Prop := spU l f' c' * spD l f c < spU l f c * spD l f' c' ∨ (spU l f c * spD l f' c' = spU l f' c' * spD l f c ∧ (f < f' ∨ (f = f' ∧ c < c')))
/-- it puts right more than no question -/
def More (l : List Sa) (f : Nat) (c : Int) : Prop := sumT l * sumT l * spD l f c < spU l f c * (l.length : Nat)
structure SpInv (l : List Sa) (least : Int) (F : Nat) (P : Nat → Int → Prop) (st : SpS) : Prop where
  no : st.2.2.2.2 = false → st = sp0 l ∧ ∀ f c, P f c → okC l least f c = true → ¬ More l f c
  yes : st.2.2.2.2 = true → P st.2.2.1 st.2.2.2.1 ∧ okC l least st.2.2.1 st.2.2.2.1 = true ∧ st.1 = spU l st.2.2.1 st.2.2.2.1 ∧ st.2.1 = spD l st.2.2.1 st.2.2.2.1 ∧ More l st.2.2.1 st.2.2.2.1 ∧ ∀ f c, P f c → okC l least f c = true → (f = st.2.2.1 ∧ c = st.2.2.2.1) ∨ Beats l st.2.2.1 st.2.2.2.1 f c
  upto : ∀ f c, P f c → f ≤ F
theorem SpInv.same {l : List Sa} {least : Int} {F : Nat} {P Q : Nat → Int → Prop} {st : SpS} (h : SpInv l least F P st) (e : ∀ f c, P f c ↔ Q f c) : SpInv l least F Q st :=
  ⟨fun q => ⟨(h.no q).1, fun f c hp => (h.no q).2 f c ((e f c).2 hp)⟩, fun q => ⟨(e _ _).1 (h.yes q).1, (h.yes q).2.1, (h.yes q).2.2.1, (h.yes q).2.2.2.1, (h.yes q).2.2.2.2.1, fun f c hp => (h.yes q).2.2.2.2.2 f c ((e f c).2 hp)⟩, fun f c hp => h.upto f c ((e f c).2 hp)⟩
theorem beats_trans {l : List Sa} {least : Int} {f g h : Nat} {c d e : Int} (h1 : 1 ≤ least) (of : okC l least f c = true) (og : okC l least g d = true) (oh : okC l least h e = true) (a : Beats l f c g d) (b : Beats l g d h e) : Beats l f c h e := by
  have df := (spD_pos h1 of).1
  have dg := (spD_pos h1 og).1
  have dh := (spD_pos h1 oh).1
  unfold Beats at *
  rcases a with a | ⟨a, a2⟩
  · rcases b with b | ⟨b, b2⟩
    · exact .inl (fr_gt (c := spU l g d) (d := spD l g d) df dg dh a (Int.le_of_lt b))
    · exact .inl (fr_gt (c := spU l g d) (d := spD l g d) df dg dh a (by omega))
  · rcases b with b | ⟨b, b2⟩
    · exact .inl (fr_ge (c := spU l g d) (d := spD l g d) df dg dh (by omega) b)
    · refine .inr ⟨(fr_eq (c := spU l g d) (d := spD l g d) df dg dh a.symm b.symm).symm, ?_⟩
      rcases a2 with a2 | a2 <;> rcases b2 with b2 | b2 <;> omega
/-- one question more -/
theorem SpInv.more {l : List Sa} {least : Int} {F : Nat} {P : Nat → Int → Prop} {st : SpS} (h1 : 1 ≤ least) (hl : 0 < l.length) (h : SpInv l least F P st) (c : Int) : SpInv l least F (fun f d => P f d ∨ (f = F ∧ d = c)) (spN l least st F c) := by
  have up' : ∀ f d, (P f d ∨ (f = F ∧ d = c)) → f ≤ F := fun f d q => q.elim (h.upto f d) (fun q => by omega)
  have hN : (0 : Int) < (l.length : Nat) := by omega
  unfold spN
  by_cases ok : okC l least F c = true
  · rw [if_pos ok]
    have dp := (spD_pos h1 ok).1
    cases hf : st.2.2.2.2 with
    | false =>
      obtain ⟨e0, n0⟩ := h.no hf
      by_cases g : spGt l st F c = true
      · rw [if_pos g]
        have mo : More l F c := by
          unfold spGt at g
          rw [hf, Bool.false_and, Bool.false_and, Bool.false_and, Bool.or_false] at g
          have g' := of_decide_eq_true g
          rw [e0] at g'
          exact g'
        refine ⟨fun q => (by cases q), fun _ => ⟨.inr ⟨rfl, rfl⟩, ok, rfl, rfl, mo, fun f d hp oc => ?_⟩, up'⟩
        rcases hp with hp | ⟨rfl, rfl⟩
        · have nm := n0 f d hp oc
          unfold More at nm mo
          refine .inr (.inl ?_)
          have dd := (spD_pos h1 oc).1
          exact fr_gt (c := sumT l * sumT l) (d := (l.length : Nat)) dp hN dd mo (by omega)
        · exact .inl ⟨rfl, rfl⟩
      · rw [if_neg g]
        refine ⟨fun _ => ⟨e0, fun f d hp oc mo => ?_⟩, fun q => (by rw [hf] at q; cases q), up'⟩
        rcases hp with hp | ⟨rfl, rfl⟩
        · exact n0 f d hp oc mo
        · refine g ?_
          unfold spGt
          rw [Bool.or_eq_true]
          left
          rw [e0]
          exact decide_eq_true mo
    | true =>
      obtain ⟨y1, y2, y3, y4, y5, y6⟩ := h.yes hf
      have db := (spD_pos h1 y2).1
      have lef := h.upto _ _ y1
      by_cases g : spGt l st F c = true
      · rw [if_pos g]
        have bt : Beats l F c st.2.2.1 st.2.2.2.1 := by
          unfold spGt at g
          rw [hf, y3, y4] at g
          simp only [Bool.or_eq_true, Bool.and_eq_true, decide_eq_true_eq] at g
          rcases g with g | ⟨⟨⟨_, g1⟩, g2⟩, g3⟩
          · exact .inl g
          · exact .inr ⟨g1, .inr ⟨g2, g3⟩⟩
        have mo : More l F c := by
          unfold More at y5 ⊢
          rcases bt with b | ⟨b, _⟩
          · exact fr_gt (c := spU l st.2.2.1 st.2.2.2.1) (d := spD l st.2.2.1 st.2.2.2.1) dp db hN b (Int.le_of_lt y5)
          · exact fr_ge (c := spU l st.2.2.1 st.2.2.2.1) (d := spD l st.2.2.1 st.2.2.2.1) dp db hN (by omega) y5
        refine ⟨fun q => (by cases q), fun _ => ⟨.inr ⟨rfl, rfl⟩, ok, rfl, rfl, mo, fun f d hp oc => ?_⟩, up'⟩
        rcases hp with hp | ⟨rfl, rfl⟩
        · rcases y6 f d hp oc with ⟨rfl, rfl⟩ | b
          · exact .inr bt
          · exact .inr (beats_trans h1 ok y2 oc bt b)
        · exact .inl ⟨rfl, rfl⟩
      · rw [if_neg g]
        refine ⟨fun q => (by rw [hf] at q; cases q), fun _ => ⟨.inl y1, y2, y3, y4, y5, fun f d hp oc => ?_⟩, up'⟩
        rcases hp with hp | ⟨rfl, rfl⟩
        · exact y6 f d hp oc
        · unfold spGt at g
          rw [hf, y3, y4] at g
          simp only [Bool.or_eq_true, Bool.and_eq_true, decide_eq_true_eq, not_or, not_and] at g
          obtain ⟨g1, g2⟩ := g
          by_cases e : spU l f d * spD l st.2.2.1 st.2.2.2.1 = spU l st.2.2.1 st.2.2.2.1 * spD l f d
          · by_cases ef : f = st.2.2.1
            · have := g2 ⟨⟨trivial, e⟩, ef⟩
              by_cases ec : d = st.2.2.2.1
              · exact .inl ⟨ef, ec⟩
              · exact .inr (.inr ⟨e.symm, .inr ⟨ef.symm, by omega⟩⟩)
            · exact .inr (.inr ⟨e.symm, .inl (by omega)⟩)
          · exact .inr (.inl (by omega))
  · rw [if_neg ok]
    refine ⟨fun q => ⟨(h.no q).1, fun f d hp oc => ?_⟩, fun q => ⟨.inl (h.yes q).1, (h.yes q).2.1, (h.yes q).2.2.1, (h.yes q).2.2.2.1, (h.yes q).2.2.2.2.1, fun f d hp oc => ?_⟩, up'⟩
    · rcases hp with hp | ⟨rfl, rfl⟩
      · exact (h.no q).2 f d hp oc
      · exact absurd oc ok
    · rcases hp with hp | ⟨rfl, rfl⟩
      · exact (h.yes q).2.2.2.2.2 f d hp oc
      · exact absurd oc ok

theorem spI_inv {l : List Sa} {least : Int} {F : Nat} {P : Nat → Int → Prop} {st : SpS} (h1 : 1 ≤ least) (hl : 0 < l.length) (h : SpInv l least F P st) : ∀ k, SpInv l least F (fun f d => P f d ∨ (f = F ∧ ∃ i, i < k ∧ colA (sAt l i) F = d)) (spI l least F st k)
  | 0 => h.same fun f c => ⟨.inl, fun q => q.elim id (fun ⟨_, i, hi, _⟩ => by omega)⟩
  | k + 1 => ((spI_inv h1 hl h k).more h1 hl (colA (sAt l k) F)).same fun f c => by
    constructor
    · rintro ((q | ⟨rfl, i, hi, e⟩) | ⟨rfl, rfl⟩)
      · exact .inl q
      · exact .inr ⟨rfl, i, by omega, e⟩
      · exact .inr ⟨rfl, k, by omega, rfl⟩
    · rintro (q | ⟨rfl, i, hi, e⟩)
      · exact .inl (.inl q)
      · by_cases ik : i = k
        · subst ik; exact .inr ⟨rfl, e.symm⟩
        · exact .inl (.inr ⟨rfl, i, by omega, e⟩)
theorem SpInv.wide {l : List Sa} {least : Int} {F G : Nat} {P : Nat → Int → Prop} {st : SpS} (h : SpInv l least F P st) (hg : F ≤ G) : SpInv l least G P st := ⟨h.no, h.yes, fun f c hp => Nat.le_trans (h.upto f c hp) hg⟩
theorem spA_inv {l : List Sa} {least : Int} (h1 : 1 ≤ least) (hl : 0 < l.length) : ∀ m, SpInv l least m (fun f d => f < m ∧ ∃ i, i < l.length ∧ colA (sAt l i) f = d) (spA l least m)
  | 0 => ⟨fun _ => ⟨rfl, fun f c hp => by omega⟩, fun q => (by cases q), fun f c hp => by omega⟩
  | m + 1 => ((spI_inv h1 hl (spA_inv h1 hl m) l.length).wide (Nat.le_succ m)).same fun f c => by
    constructor
    · rintro (⟨h, q⟩ | ⟨rfl, q⟩)
      · exact ⟨by omega, q⟩
      · exact ⟨by omega, q⟩
    · rintro ⟨h, q⟩
      by_cases e : f = m
      · subst e; exact .inr ⟨rfl, q⟩
      · exact .inl ⟨by omega, q⟩
/-- which question is best -/
theorem split_spec {l : List Sa} {m : Nat} {least : Int} (h1 : 1 ≤ least) (hl : 0 < l.length) :
    ((spV l m least).2.2.2.2 = false → (spV l m least).2.2.1 = 0 ∧ (spV l m least).2.2.2.1 = 0 ∧ ∀ f c, Cand l m least f c → ¬ More l f c) ∧
    ((spV l m least).2.2.2.2 = true → Cand l m least (spV l m least).2.2.1 (spV l m least).2.2.2.1 ∧ More l (spV l m least).2.2.1 (spV l m least).2.2.2.1 ∧ ∀ f c, Cand l m least f c → (f = (spV l m least).2.2.1 ∧ c = (spV l m least).2.2.2.1) ∨ Beats l (spV l m least).2.2.1 (spV l m least).2.2.2.1 f c) := by
  have I := spA_inv h1 hl m
  refine ⟨fun q => ?_, fun q => ?_⟩
  · obtain ⟨e, n⟩ := I.no q
    refine ⟨?_, ?_, fun f c hc => n f c ⟨hc.1, hc.2.1⟩ hc.2.2⟩
    · show (spA l least m).2.2.1 = 0; rw [e]; rfl
    · show (spA l least m).2.2.2.1 = 0; rw [e]; rfl
  · obtain ⟨y1, y2, y3, y4, y5, y6⟩ := I.yes q
    exact ⟨⟨y1.1, y1.2, y2⟩, y5, fun f c hc => y6 f c ⟨hc.1, hc.2.1⟩ hc.2.2⟩
theorem beats_not {l : List Sa} {f g : Nat} {c d : Int} (a : Beats l f c g d) (b : Beats l g d f c) : False := by
  unfold Beats at a b
  rcases a with a | ⟨a, a2⟩
  · rcases b with b | ⟨b, b2⟩
    · omega
    · omega
  · rcases b with b | ⟨b, b2⟩
    · omega
    · omega
/-- what is best is one alone -/
theorem split_only {l : List Sa} {m : Nat} {least : Int} (h1 : 1 ≤ least) (hl : 0 < l.length) {f : Nat} {c : Int} (hc : Cand l m least f c) (hm : More l f c) (hb : ∀ g d, Cand l m least g d → (g = f ∧ d = c) ∨ Beats l f c g d) : (spV l m least).2.2.2.2 = true ∧ (spV l m least).2.2.1 = f ∧ (spV l m least).2.2.2.1 = c := by
  obtain ⟨s1, s2⟩ := split_spec (m := m) h1 hl
  cases q : (spV l m least).2.2.2.2 with
  | false => exact absurd hm ((s1 q).2.2 f c hc)
  | true =>
    obtain ⟨t1, t2, t3⟩ := s2 q
    rcases t3 f c hc with ⟨e1, e2⟩ | b
    · exact ⟨rfl, e1.symm, e2.symm⟩
    · rcases hb _ _ t1 with ⟨e1, e2⟩ | b2
      · exact ⟨rfl, e1, e2⟩
      · exact absurd b2 (fun b2 => beats_not b b2)
theorem split_none {l : List Sa} {m : Nat} {least : Int} (h1 : 1 ≤ least) (hl : 0 < l.length) (h : ∀ f c, Cand l m least f c → ¬ More l f c) : (spV l m least).2.2.2.2 = false := by
  cases q : (spV l m least).2.2.2.2 with
  | false => rfl
  | true =>
    obtain ⟨t1, t2, _⟩ := (split_spec (m := m) h1 hl).2 q
    exact absurd t2 (h _ _ t1)

/-! ### targets that are shifted -/
def shiftL (b : Int) (l : List Sa) : List Sa := l.map fun s => (s.1, s.2 + b)
theorem shift_len (b : Int) (l : List Sa) : (shiftL b l).length = l.length := by unfold shiftL; simp
theorem shift_sum (b : Int) : ∀ l : List Sa, sumT (shiftL b l) = sumT l + b * (l.length : Nat)
  | [] => by simp [shiftL, sumT]
  | s :: l => by
    have ih := shift_sum b l
    show (s.2 + b) + sumT (shiftL b l) = s.2 + sumT l + b * ((l.length + 1 : Nat) : Int)
    rw [ih, Int.natCast_add, Int.mul_add]
    simp
    omega
theorem shift_part (b : Int) (l : List Sa) (f : Nat) (c : Int) (d : Bool) : partS (shiftL b l) f c d = shiftL b (partS l f c d) := by
  unfold partS shiftL
  rw [List.filter_map]
  rfl
theorem shift_n (b : Int) (l : List Sa) (f : Nat) (c : Int) (d : Bool) : nB (shiftL b l) f c d = nB l f c d := by unfold nB; rw [shift_part, shift_len]
theorem shift_t (b : Int) (l : List Sa) (f : Nat) (c : Int) (d : Bool) : tB (shiftL b l) f c d = tB l f c d + b * nB l f c d := by unfold tB nB; rw [shift_part, shift_sum]
def shK (b : Int) (l : List Sa) : Int := 2 * b * sumT l + b * b * (l.length : Nat)
theorem shift_U (b : Int) (l : List Sa) (f : Nat) (c : Int) : spU (shiftL b l) f c = spU l f c + spD l f c * shK b l := by
  have h1 : tB l f c true + tB l f c false = sumT l := (part_sum l f c).1
  have h2 : nB l f c true + nB l f c false = (l.length : Nat) := by have := (part_sum l f c).2; unfold nB; omega
  unfold spU spD shK
  rw [shift_t, shift_t, shift_n, shift_n, ← h1, ← h2]
  grind
theorem shift_D (b : Int) (l : List Sa) (f : Nat) (c : Int) : spD (shiftL b l) f c = spD l f c := by unfold spD; rw [shift_n, shift_n]
theorem shift_ok (b : Int) (l : List Sa) (least : Int) (f : Nat) (c : Int) : okC (shiftL b l) least f c = okC l least f c := by unfold okC; rw [shift_n, shift_n]
theorem shift_more (b : Int) (l : List Sa) (f : Nat) (c : Int) : More (shiftL b l) f c ↔ More l f c := by
  unfold More
  rw [shift_U, shift_D, shift_sum, shift_len]
  unfold shK
  have e : (sumT l + b * (l.length : Nat)) * (sumT l + b * (l.length : Nat)) * spD l f c = sumT l * sumT l * spD l f c + (spD l f c * (2 * b * sumT l + b * b * (l.length : Nat))) * (l.length : Nat) := by grind
  rw [e, Int.add_mul]
  omega
theorem shift_beats (b : Int) (l : List Sa) (f g : Nat) (c d : Int) : Beats (shiftL b l) f c g d ↔ Beats l f c g d := by
  unfold Beats
  rw [shift_U, shift_U, shift_D, shift_D]
  have e1 : (spU l g d + spD l g d * shK b l) * spD l f c = spU l g d * spD l f c + spD l g d * spD l f c * shK b l := by grind
  have e2 : (spU l f c + spD l f c * shK b l) * spD l g d = spU l f c * spD l g d + spD l g d * spD l f c * shK b l := by grind
  rw [e1, e2]
  constructor
  · rintro (h | ⟨h, q⟩)
    · exact .inl (by omega)
    · exact .inr ⟨by omega, q⟩
  · rintro (h | ⟨h, q⟩)
    · exact .inl (by omega)
    · exact .inr ⟨by omega, q⟩
theorem shift_at (b : Int) {l : List Sa} {i : Nat} (hi : i < l.length) (f : Nat) : colA (sAt (shiftL b l) i) f = colA (sAt l i) f := by
  have e : sAt (shiftL b l) i = ((sAt l i).1, (sAt l i).2 + b) := by
    unfold sAt shiftL
    rw [getD_at (l := l.map _) (by simpa using hi), getD_at (l := l) hi, List.getElem_map]
  rw [e]
  rfl
theorem shift_cand (b : Int) (l : List Sa) (m : Nat) (least : Int) (f : Nat) (c : Int) : Cand (shiftL b l) m least f c ↔ Cand l m least f c := by
  unfold Cand
  rw [shift_ok, shift_len]
  constructor
  · rintro ⟨h, ⟨i, hi, e⟩, q⟩
    exact ⟨h, ⟨i, hi, by rw [← shift_at b hi]; exact e⟩, q⟩
  · rintro ⟨h, ⟨i, hi, e⟩, q⟩
    exact ⟨h, ⟨i, hi, by rw [shift_at b hi]; exact e⟩, q⟩
/-- a shift changes no question -/
theorem shift_split (b : Int) {l : List Sa} {m : Nat} {least : Int} (h1 : 1 ≤ least) (hl : 0 < l.length) : (spV (shiftL b l) m least).2.2 = (spV l m least).2.2 := by
  have hl' : 0 < (shiftL b l).length := by rw [shift_len]; exact hl
  cases q : (spV l m least).2.2.2.2 with
  | true =>
    obtain ⟨t1, t2, t3⟩ := (split_spec (m := m) h1 hl).2 q
    obtain ⟨r1, r2, r3⟩ := split_only (m := m) h1 hl' ((shift_cand b l m least _ _).2 t1) ((shift_more b l _ _).2 t2) fun g d hc => (t3 g d ((shift_cand b l m least g d).1 hc)).imp id (fun z => (shift_beats b l _ _ _ _).2 z)
    exact Prod.ext r2 (Prod.ext r3 (by rw [r1, q]))
  | false =>
    obtain ⟨e1, e2, n⟩ := (split_spec (m := m) h1 hl).1 q
    have r := split_none (m := m) h1 hl' fun f c hc mo => n f c ((shift_cand b l m least f c).1 hc) ((shift_more b l f c).1 mo)
    obtain ⟨d1, d2, _⟩ := (split_spec (m := m) h1 hl').1 r
    exact Prod.ext (by rw [d1, e1]) (Prod.ext (by rw [d2, e2]) (by rw [r, q]))

end Go.Proofs.YtpblpfleiilehafGreatDoor.M
