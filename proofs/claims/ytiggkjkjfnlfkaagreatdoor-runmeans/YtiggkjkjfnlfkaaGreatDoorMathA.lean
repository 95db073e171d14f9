/-
  A node of a tree that is right gives way to one right below it: the tree as it is then told is smaller, right, and what becomes of it is the same; no condition beyond those named.
-/
import Derived.Test.YtiggkjkjfnlfkaaGreatDoorMathE
namespace Go.Proofs.YtiggkjkjfnlfkaaGreatDoor.M
set_option linter.unusedVariables false

/-- the node above, with another one below it -/
def turnN (n : Nd) (at' tw : Nat) : Nd := if nl n = (at' : Int) then (nf n, nc n, (tw : Int), nr n, ns n, nv n) else (nf n, nc n, nl n, (tw : Int), ns n, nv n)
theorem set_at {t : List Nd} {i : Nat} {n : Nd} (h : i < t.length) : nAt (t.set i n) i = n := by
  unfold nAt; simp [List.getD, h]
theorem set_ne {t : List Nd} {i j : Nat} {n : Nd} (h : j ≠ i) : nAt (t.set i n) j = nAt t j := by
  unfold nAt; simp only [List.getD]; rw [List.getElem?_set_ne (fun q => h q.symm)]
/-- one right below another -/
structure Below2 (t : List Nd) (m : Nat) (up at' tw : Nat) : Prop where
  fair : Fair t (m : Int)
  hup : up < t.length
  hat : at' < t.length
  hto : tw < t.length
  c1 : chL (nAt t up) (at' : Nat)
  c2 : chL (nAt t at') (tw : Nat)
theorem ch_lt {t : List Nd} {m : Int} (h : Right t m) {i j : Nat} (hi : i < t.length) (c : chL (nAt t i) (j : Nat)) : i < j ∧ j < t.length := by
  obtain ⟨a, b, ea, eb, h1, h2, h3, h4, _⟩ := ask_at h hi c.1
  rcases c.2 with q | q <;> omega
theorem Below2.right {t : List Nd} {m up at' tw : Nat} (B : Below2 t m up at' tw) : Right (t.set up (turnN (nAt t up) at' tw)) (m : Int) := by
  have hR := B.fair.2.2.2.2.1
  have l1 := ch_lt hR B.hup B.c1
  have l2 := ch_lt hR B.hat B.c2
  intro q hq
  rw [List.length_set] at hq ⊢
  by_cases e : q = up
  · subst e
    rw [set_at B.hup]
    have hn := hR q B.hup
    have hf : nf (nAt t q) ≠ -1 := B.c1.1
    obtain ⟨a, b, ea, eb, h1, h2, h3, h4, h5⟩ := ask_at hR B.hup hf
    obtain ⟨g0, g1, g2, _, _, _, _, g7, _⟩ := node_ask hn hf
    have apart : ∀ o : Nat, chL (nAt t q) (o : Nat) → o ≠ at' → o ≠ tw := fun o co no eo => by
      subst eo
      have lo := ch_lt hR B.hup co
      have := up_one (B.fair.2.2.2.2.2 o (by omega) lo.2) B.hup B.hat co B.c2
      omega
    have hf2 : nf (turnN (nAt t q) at' tw) = nf (nAt t q) := by unfold turnN; split <;> rfl
    have hc2 : nc (turnN (nAt t q) at' tw) = nc (nAt t q) := by unfold turnN; split <;> rfl
    have hv2 : nv (turnN (nAt t q) at' tw) = nv (nAt t q) := by unfold turnN; split <;> rfl
    have hlr : ∃ x y : Nat, nl (turnN (nAt t q) at' tw) = x ∧ nr (turnN (nAt t q) at' tw) = y ∧ q < x ∧ x < t.length ∧ q < y ∧ y < t.length ∧ x ≠ y := by
      unfold turnN
      by_cases c : nl (nAt t q) = (at' : Int)
      · rw [if_pos c]
        refine ⟨tw, b, rfl, eb, by omega, by omega, by omega, by omega, ?_⟩
        exact fun e => apart b ⟨hf, .inr eb⟩ (by omega) e.symm
      · rw [if_neg c]
        refine ⟨a, tw, ea, rfl, by omega, by omega, by omega, by omega, ?_⟩
        exact fun e => apart a ⟨hf, .inl ea⟩ (by omega) e
    obtain ⟨x, y, ex, ey, x1, x2, y1, y2, xy⟩ := hlr
    unfold nodeF
    rw [hf2, if_neg hf]
    unfold asF
    rw [hf2, hc2, hv2, ex, ey]
    have b1 : inB (x : Int) q t.length = true := by unfold inB; rw [decide_eq_true (by omega), decide_eq_true (by omega)]; rfl
    have b2 : inB (y : Int) q t.length = true := by unfold inB; rw [decide_eq_true (by omega), decide_eq_true (by omega)]; rfl
    rw [b1, b2, g2, g7]
    rw [if_neg (by simp; omega), if_neg (by simp; omega)]
  · rw [set_ne e]; exact hR q hq
theorem Below2.turned {t : List Nd} {m up at' tw : Nat} (B : Below2 t m up at' tw) : (nl (nAt t up) = at' ∧ nAt (t.set up (turnN (nAt t up) at' tw)) up = (nf (nAt t up), nc (nAt t up), (tw : Int), nr (nAt t up), ns (nAt t up), nv (nAt t up))) ∨ (nr (nAt t up) = at' ∧ nAt (t.set up (turnN (nAt t up) at' tw)) up = (nf (nAt t up), nc (nAt t up), nl (nAt t up), (tw : Int), ns (nAt t up), nv (nAt t up))) := by
  rw [set_at B.hup]
  unfold turnN
  by_cases c : nl (nAt t up) = (at' : Int)
  · rw [if_pos c]; exact .inl ⟨c, rfl⟩
  · rw [if_neg c]
    rcases B.c1.2 with q | q
    · exact absurd q c
    · exact .inr ⟨q, rfl⟩
theorem Below2.same {t : List Nd} {m up at' tw : Nat} (B : Below2 t m up at' tw) (he : prn (Pw t m at') (bt t tw) = prn (Pw t m at') (bt t at')) : prn (vld m) (bt (t.set up (turnN (nAt t up) at' tw)) 0) = prn (vld m) (bt t 0) := by
  have hR := B.fair.2.2.2.2.1
  have l1 := ch_lt hR B.hup B.c1
  have l2 := ch_lt hR B.hat B.c2
  have := give_same B.fair B.right (List.length_set) B.hup B.c1.1 (show up < tw by omega) B.hto (fun q hq _ => set_ne hq) B.turned he t.length 0 B.fair.2.1 (by omega)
  rw [pw_root B.fair] at this
  exact this
/-- a side is smaller than the whole -/
theorem side_lt {t : List Nd} {m : Int} (h : Right t m) {i j : Nat} (hi : i < t.length) (c : chL (nAt t i) (j : Nat)) : (bt t j).size < (bt t i).size ∧ (bt t j).deep ≤ (bt t i).deep := by
  obtain ⟨a, b, ea, eb, h1, h2, h3, h4, _⟩ := ask_at h hi c.1
  rw [bt_ask h hi c.1 ea eb]
  show _ < 1 + _ + _ ∧ _ ≤ 1 + max _ _
  rcases c.2 with q | q
  · have : a = j := by omega
    subst this
    omega
  · have : b = j := by omega
    subst this
    omega
theorem Below2.le {t : List Nd} {m up at' tw : Nat} (B : Below2 t m up at' tw) : ∀ (k i : Nat), i < t.length → t.length ≤ k + i → (bt (t.set up (turnN (nAt t up) at' tw)) i).size ≤ (bt t i).size ∧ (bt (t.set up (turnN (nAt t up) at' tw)) i).deep ≤ (bt t i).deep ∧ (i = up → (bt (t.set up (turnN (nAt t up) at' tw)) i).size < (bt t i).size)
  | 0, i, hi, hk => by omega
  | k + 1, i, hi, hk => by
    have hR := B.fair.2.2.2.2.1
    have hu := B.right
    have l1 := ch_lt hR B.hup B.c1
    have l2 := ch_lt hR B.hat B.c2
    have hl : (t.set up (turnN (nAt t up) at' tw)).length = t.length := List.length_set
    have hi' : i < (t.set up (turnN (nAt t up) at' tw)).length := by omega
    by_cases e : i = up
    · subst e
      obtain ⟨a, b, ea, eb, h1, h2, h3, h4, _⟩ := ask_at hR hi B.c1.1
      have ag : ∀ j, i < j → j < t.length → bt (t.set i (turnN (nAt t i) at' tw)) j = bt t j := fun j hj hj2 => bt_agree hR hu hl (j := i + 1) (fun q q1 q2 => set_ne (by omega)) t.length j (by omega) hj2 (by omega)
      have sl := side_lt hR B.hat B.c2
      rcases B.turned with ⟨n1, n2⟩ | ⟨n1, n2⟩
      · have ea' : a = at' := by omega
        subst ea'
        rw [bt_ask hR hi B.c1.1 ea eb, bt_ask hu hi' (a := tw) (b := b) (by rw [n2]; exact B.c1.1) (by rw [n2]; rfl) (by rw [n2]; exact eb), ag tw (by omega) B.hto, ag b (by omega) h4]
        show 1 + _ + _ ≤ 1 + _ + _ ∧ 1 + max _ _ ≤ 1 + max _ _ ∧ (_ → 1 + _ + _ < 1 + _ + _)
        omega
      · have eb' : b = at' := by omega
        subst eb'
        rw [bt_ask hR hi B.c1.1 ea eb, bt_ask hu hi' (a := a) (b := tw) (by rw [n2]; exact B.c1.1) (by rw [n2]; exact ea) (by rw [n2]; rfl), ag tw (by omega) B.hto, ag a (by omega) h2]
        show 1 + _ + _ ≤ 1 + _ + _ ∧ 1 + max _ _ ≤ 1 + max _ _ ∧ (_ → 1 + _ + _ < 1 + _ + _)
        omega
    · have en : nAt (t.set up (turnN (nAt t up) at' tw)) i = nAt t i := set_ne e
      by_cases hf : nf (nAt t i) = -1
      · rw [bt_leaf hi hf, bt_leaf hi' (by rw [en]; exact hf)]
        exact ⟨Nat.le_refl _, Nat.le_refl _, fun q => absurd q e⟩
      · obtain ⟨a, b, ea, eb, h1, h2, h3, h4, _⟩ := ask_at hR hi hf
        rw [bt_ask hR hi hf ea eb, bt_ask hu hi' (by rw [en]; exact hf) (by rw [en]; exact ea) (by rw [en]; exact eb)]
        have ra := B.le k a h2 (by omega)
        have rb := B.le k b h4 (by omega)
        show 1 + _ + _ ≤ 1 + _ + _ ∧ 1 + max _ _ ≤ 1 + max _ _ ∧ (_ → 1 + _ + _ < 1 + _ + _)
        omega
/-- what is smaller somewhere is smaller as a whole -/
theorem Below2.up {t : List Nd} {m up at' tw : Nat} (B : Below2 t m up at' tw) : ∀ (k j : Nat), j < k → j < t.length → (bt (t.set up (turnN (nAt t up) at' tw)) j).size < (bt t j).size → (bt (t.set up (turnN (nAt t up) at' tw)) 0).size < (bt t 0).size
  | 0, j, hk, hj, h => by omega
  | k + 1, j, hk, hj, h => by
    have hR := B.fair.2.2.2.2.1
    have hu := B.right
    have hl : (t.set up (turnN (nAt t up) at' tw)).length = t.length := List.length_set
    rcases Nat.eq_zero_or_pos j with h0 | h0
    · subst h0; exact h
    · obtain ⟨p, hp, c⟩ := up_some (B.fair.2.2.2.2.2 j h0 hj)
      have lp := ch_lt hR hp c
      refine B.up k p (by omega) hp ?_
      by_cases e : p = up
      · exact (B.le t.length p hp (by omega)).2.2 e
      · have en : nAt (t.set up (turnN (nAt t up) at' tw)) p = nAt t p := set_ne e
        obtain ⟨a, b, ea, eb, h1, h2, h3, h4, _⟩ := ask_at hR hp c.1
        rw [bt_ask hR hp c.1 ea eb, bt_ask hu (by omega) (by rw [en]; exact c.1) (by rw [en]; exact ea) (by rw [en]; exact eb)]
        have ra := (B.le t.length a h2 (by omega)).1
        have rb := (B.le t.length b h4 (by omega)).1
        show 1 + _ + _ < 1 + _ + _
        rcases c.2 with q | q
        · have : a = j := by omega
          subst this
          omega
        · have : b = j := by omega
          subst this
          omega
theorem Below2.lt {t : List Nd} {m up at' tw : Nat} (B : Below2 t m up at' tw) : (bt (t.set up (turnN (nAt t up) at' tw)) 0).size < (bt t 0).size ∧ (bt (t.set up (turnN (nAt t up) at' tw)) 0).deep ≤ (bt t 0).deep ∧ okB (m : Int) (bt (t.set up (turnN (nAt t up) at' tw)) 0) := by
  have hl : (t.set up (turnN (nAt t up) at' tw)).length = t.length := List.length_set
  exact ⟨B.up (up + 1) up (by omega) B.hup ((B.le t.length up B.hup (by omega)).2.2 rfl), (B.le t.length 0 B.fair.2.1 (by omega)).2.1, bt_ok B.right t.length 0 (by rw [hl]; exact B.fair.2.1) (by omega)⟩

end Go.Proofs.YtiggkjkjfnlfkaaGreatDoor.M
