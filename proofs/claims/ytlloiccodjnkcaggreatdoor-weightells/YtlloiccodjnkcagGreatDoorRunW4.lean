/-
  Several texts as one: MathD, MathE, MathA, MathI.
-/
import Derived.Test.YtlloiccodjnkcagGreatDoorRunW3
namespace Go.Proofs.YtlloiccodjnkcagGreatDoor.M
set_option linter.unusedVariables false

/-- a tree: a leaf, or a question with two sides -/
inductive BT where
  | lf (v : Int)
  | nd (f c : Int) (s : Bool) (l r : BT)
  deriving DecidableEq
def BT.size : BT → Nat
  | .lf _ => 1
  | .nd _ _ _ l r => 1 + l.size + r.size
def BT.deep : BT → Nat
  | .lf _ => 0
  | .nd _ _ _ l r => 1 + max l.deep r.deep
theorem BT.size_pos : ∀ T : BT, 0 < T.size
  | .lf _ => Nat.one_pos
  | .nd _ _ _ _ _ => by unfold BT.size; omega
/-- which way a row goes -/
def goes (f c : Int) (s : Bool) (x : List Int) : Bool := if x.getD f.toNat 0 = nilI then s else decide (x.getD f.toNat 0 < c)
def evB : BT → List Int → Int
  | .lf v, _ => v
  | .nd f c s l r, x => if goes f c s x = true then evB l x else evB r x
/-- numbers that a tree may have -/
def okB (m : Int) : BT → Prop
  | .lf v => outI v = false
  | .nd f c _ l r => 0 ≤ f ∧ f < m ∧ outI c = false ∧ okB m l ∧ okB m r

/-! ### the tree below a place -/
def ofT (t : List Nd) : Nat → Nat → BT
  | 0, _ => .lf 0
  | k + 1, i => if nf (nAt t i) = -1 then .lf (nv (nAt t i)) else .nd (nf (nAt t i)) (nc (nAt t i)) (ns (nAt t i)) (ofT t k (nl (nAt t i)).toNat) (ofT t k (nr (nAt t i)).toNat)
def bt (t : List Nd) (i : Nat) : BT := ofT t t.length i
theorem of_enough {t : List Nd} {m : Int} (h : Right t m) : ∀ (f g i : Nat), i < t.length → t.length ≤ f + i → t.length ≤ g + i → ofT t f i = ofT t g i
  | 0, g, i, hi, hf, hg => by omega
  | f + 1, 0, i, hi, hf, hg => by omega
  | f + 1, g + 1, i, hi, hf, hg => by
    unfold ofT
    by_cases hl : nf (nAt t i) = -1
    · rw [if_pos hl, if_pos hl]
    · rw [if_neg hl, if_neg hl]
      obtain ⟨a, b, ea, eb, h1, h2, h3, h4, _⟩ := ask_at h hi hl
      rw [ea, eb, Int.toNat_natCast, Int.toNat_natCast, of_enough h f g a h2 (by omega) (by omega), of_enough h f g b h4 (by omega) (by omega)]
theorem bt_leaf {t : List Nd} {i : Nat} (hi : i < t.length) (hl : nf (nAt t i) = -1) : bt t i = .lf (nv (nAt t i)) := by
  unfold bt
  obtain ⟨f, e⟩ : ∃ f, t.length = f + 1 := ⟨t.length - 1, by omega⟩
  rw [e]; unfold ofT; rw [if_pos hl]
theorem bt_ask {t : List Nd} {m : Int} (h : Right t m) {i a b : Nat} (hi : i < t.length) (hl : nf (nAt t i) ≠ -1) (ea : nl (nAt t i) = a) (eb : nr (nAt t i) = b) : bt t i = .nd (nf (nAt t i)) (nc (nAt t i)) (ns (nAt t i)) (bt t a) (bt t b) := by
  obtain ⟨a', b', ea', eb', h1, h2, h3, h4, _⟩ := ask_at h hi hl
  have e1 : a' = a := by omega
  have e2 : b' = b := by omega
  subst e1
  subst e2
  unfold bt
  obtain ⟨f, e⟩ : ∃ f, t.length = f + 1 := ⟨t.length - 1, by omega⟩
  conv => lhs; rw [e]
  conv => lhs; unfold ofT
  rw [if_neg hl, ea, eb, Int.toNat_natCast, Int.toNat_natCast, of_enough h f t.length a' h2 (by omega) (by omega), of_enough h f t.length b' h4 (by omega) (by omega)]
theorem bt_ok {t : List Nd} {m : Int} (h : Right t m) : ∀ (k i : Nat), i < t.length → t.length ≤ k + i → okB m (bt t i)
  | 0, i, hi, hk => by omega
  | k + 1, i, hi, hk => by
    by_cases hl : nf (nAt t i) = -1
    · rw [bt_leaf hi hl]
      have := h i hi
      unfold nodeF at this
      rw [if_pos hl] at this
      unfold lfF at this
      show outI _ = false
      cases e : outI (nv (nAt t i)) with
      | false => rfl
      | true => rw [e, if_pos rfl] at this; cases this
    · obtain ⟨a, b, ea, eb, h1, h2, h3, h4, _⟩ := ask_at h hi hl
      obtain ⟨g0, g1, g2, _⟩ := node_ask (h i hi) hl
      rw [bt_ask h hi hl ea eb]
      exact ⟨g0, g1, g2, bt_ok h k a h2 (by omega), bt_ok h k b h4 (by omega)⟩
theorem bt_ev {t : List Nd} {m : Int} (h : Right t m) (x : List Int) : ∀ (k i : Nat), i < t.length → t.length ≤ k + i → evB (bt t i) x = nv (nAt t (toD t x i))
  | 0, i, hi, hk => by omega
  | k + 1, i, hi, hk => by
    by_cases hl : nf (nAt t i) = -1
    · rw [bt_leaf hi hl, to_leaf hi hl]; rfl
    · obtain ⟨a, b, ea, eb, h1, h2, h3, h4, _⟩ := ask_at h hi hl
      rw [bt_ask h hi hl ea eb]
      show (if goes _ _ _ x = true then _ else _) = _
      have gl : goes (nf (nAt t i)) (nc (nAt t i)) (ns (nAt t i)) x = lessC (nAt t i) (x.getD (nf (nAt t i)).toNat 0) := rfl
      rw [gl]
      by_cases q : lessC (nAt t i) (x.getD (nf (nAt t i)).toNat 0) = true
      · rw [if_pos q, bt_ev h x k a h2 (by omega), to_next h hi hl (show nextI (nAt t i) x = a by unfold nextI; rw [if_pos q, ea])]
      · rw [if_neg q, bt_ev h x k b h4 (by omega), to_next h hi hl (show nextI (nAt t i) x = b by unfold nextI; rw [if_neg q, eb])]
theorem bt_deep {t : List Nd} {m : Int} (h : Right t m) : ∀ (k i : Nat), i < t.length → t.length ≤ k + i → (bt t i).deep = depth t i
  | 0, i, hi, hk => by omega
  | k + 1, i, hi, hk => by
    by_cases hl : nf (nAt t i) = -1
    · rw [bt_leaf hi hl, depth_leaf hi hl]; rfl
    · obtain ⟨a, b, ea, eb, h1, h2, h3, h4, _⟩ := ask_at h hi hl
      rw [bt_ask h hi hl ea eb, depth_ask h hi hl ea eb]
      show 1 + max (bt t a).deep (bt t b).deep = _
      rw [bt_deep h k a h2 (by omega), bt_deep h k b h4 (by omega)]
      omega

/-! ### laid in order -/
def lay : BT → Nat → List Nd
  | .lf v, _ => [(-1, 0, 0, 0, false, v)]
  | .nd f c s l r, k => (f, c, ((k + 1 : Nat) : Int), ((k + 1 + l.size : Nat) : Int), s, 0) :: (lay l (k + 1) ++ lay r (k + 1 + l.size))
theorem lay_len : ∀ (T : BT) (k : Nat), (lay T k).length = T.size
  | .lf _, _ => rfl
  | .nd f c s l r, k => by
    unfold lay BT.size
    rw [List.length_cons, List.length_append, lay_len l, lay_len r]; omega
/-- what lies at a place within others -/
theorem at_mid {A B : List Nd} {n : Nd} {C : List Nd} : nAt (A ++ (n :: B) ++ C) A.length = n := by
  unfold nAt; simp [List.getD]
theorem bt_lay : ∀ (T : BT) (A C : List Nd) (f : Nat), (∀ m, okB m T → True) → T.size ≤ f → (∃ m, okB m T) → ofT (A ++ lay T A.length ++ C) f A.length = T
  | .lf v, A, C, 0, _, hf, _ => by unfold BT.size at hf; omega
  | .lf v, A, C, f + 1, _, hf, _ => by
    unfold ofT
    rw [show lay (.lf v) A.length = (-1, 0, 0, 0, false, v) :: [] from rfl, at_mid]
    rfl
  | .nd q c s l r, A, C, 0, _, hf, _ => by unfold BT.size at hf; omega
  | .nd q c s l r, A, C, f + 1, _, hf, ⟨m, hm⟩ => by
    unfold BT.size at hf
    obtain ⟨g0, g1, g2, g3, g4⟩ := hm
    unfold ofT
    rw [show lay (.nd q c s l r) A.length = (q, c, ((A.length + 1 : Nat) : Int), ((A.length + 1 + l.size : Nat) : Int), s, 0) :: (lay l (A.length + 1) ++ lay r (A.length + 1 + l.size)) from rfl, at_mid]
    have hq : nf (q, c, ((A.length + 1 : Nat) : Int), ((A.length + 1 + l.size : Nat) : Int), s, (0 : Int)) ≠ -1 := by show q ≠ -1; omega
    rw [if_neg hq]
    have e1 : A ++ (q, c, ((A.length + 1 : Nat) : Int), ((A.length + 1 + l.size : Nat) : Int), s, 0) :: (lay l (A.length + 1) ++ lay r (A.length + 1 + l.size)) ++ C = (A ++ [(q, c, ((A.length + 1 : Nat) : Int), ((A.length + 1 + l.size : Nat) : Int), s, 0)]) ++ lay l (A ++ [(q, c, ((A.length + 1 : Nat) : Int), ((A.length + 1 + l.size : Nat) : Int), s, (0 : Int))]).length ++ (lay r (A.length + 1 + l.size) ++ C) := by simp
    have e2 : A ++ (q, c, ((A.length + 1 : Nat) : Int), ((A.length + 1 + l.size : Nat) : Int), s, 0) :: (lay l (A.length + 1) ++ lay r (A.length + 1 + l.size)) ++ C = (A ++ (q, c, ((A.length + 1 : Nat) : Int), ((A.length + 1 + l.size : Nat) : Int), s, 0) :: lay l (A.length + 1)) ++ lay r (A ++ (q, c, ((A.length + 1 : Nat) : Int), ((A.length + 1 + l.size : Nat) : Int), s, (0 : Int)) :: lay l (A.length + 1)).length ++ C := by
      have : (A ++ (q, c, ((A.length + 1 : Nat) : Int), ((A.length + 1 + l.size : Nat) : Int), s, (0 : Int)) :: lay l (A.length + 1)).length = A.length + 1 + l.size := by rw [List.length_append, List.length_cons, lay_len]; omega
      rw [this]; simp
    have n1 : (nl (q, c, ((A.length + 1 : Nat) : Int), ((A.length + 1 + l.size : Nat) : Int), s, (0 : Int))).toNat = (A ++ [(q, c, ((A.length + 1 : Nat) : Int), ((A.length + 1 + l.size : Nat) : Int), s, (0 : Int))]).length := by
      show (((A.length + 1 : Nat) : Int)).toNat = _
      rw [Int.toNat_natCast, List.length_append]; rfl
    have n2 : (nr (q, c, ((A.length + 1 : Nat) : Int), ((A.length + 1 + l.size : Nat) : Int), s, (0 : Int))).toNat = (A ++ (q, c, ((A.length + 1 : Nat) : Int), ((A.length + 1 + l.size : Nat) : Int), s, (0 : Int)) :: lay l (A.length + 1)).length := by
      show (((A.length + 1 + l.size : Nat) : Int)).toNat = _
      rw [Int.toNat_natCast, List.length_append, List.length_cons, lay_len]; omega
    rw [n1, n2]
    have i1 := bt_lay l (A ++ [(q, c, ((A.length + 1 : Nat) : Int), ((A.length + 1 + l.size : Nat) : Int), s, (0 : Int))]) (lay r (A.length + 1 + l.size) ++ C) f (fun _ _ => trivial) (by omega) ⟨m, g3⟩
    have i2 := bt_lay r (A ++ (q, c, ((A.length + 1 : Nat) : Int), ((A.length + 1 + l.size : Nat) : Int), s, (0 : Int)) :: lay l (A.length + 1)) C f (fun _ _ => trivial) (by omega) ⟨m, g4⟩
    rw [← e1] at i1
    rw [← e2] at i2
    rw [i1, i2]
    rfl
theorem bt_of_lay {T : BT} {m : Int} (h : okB m T) : bt (lay T 0) 0 = T := by
  have := bt_lay T [] [] (lay T 0).length (fun _ _ => trivial) (by rw [lay_len]; exact Nat.le_refl _) ⟨m, h⟩
  simpa [bt] using this

/-! ### without what is not needed -/
def joinB (f c : Int) (s : Bool) : BT → BT → BT
  | .lf v, .lf u => if v = u then .lf v else .nd f c s (.lf v) (.lf u)
  | l, r => .nd f c s l r
open Classical in
/-- of those rows -/
noncomputable def prn (P : List Int → Prop) : BT → BT
  | .lf v => .lf v
  | .nd f c s l r =>
    if ¬ ∃ x, P x ∧ goes f c s x = true then prn P r
    else if ¬ ∃ x, P x ∧ goes f c s x = false then prn P l
    else joinB f c s (prn (fun x => P x ∧ goes f c s x = true) l) (prn (fun x => P x ∧ goes f c s x = false) r)
theorem prn_congr {P Q : List Int → Prop} (h : ∀ x, P x ↔ Q x) (T : BT) : prn P T = prn Q T := by
  have e : P = Q := funext fun x => propext (h x)
  rw [e]
theorem prn_left {P : List Int → Prop} {f c : Int} {s : Bool} {l r : BT} (h : ¬ ∃ x, P x ∧ goes f c s x = true) : prn P (.nd f c s l r) = prn (fun x => P x ∧ goes f c s x = false) r := by
  conv => lhs; unfold prn
  rw [if_pos h]
  refine prn_congr (fun x => ⟨fun q => ⟨q, ?_⟩, fun q => q.1⟩) r
  cases e : goes f c s x with
  | false => rfl
  | true => exact absurd ⟨x, q, e⟩ h
theorem prn_right {P : List Int → Prop} {f c : Int} {s : Bool} {l r : BT} (h0 : ∃ x, P x ∧ goes f c s x = true) (h : ¬ ∃ x, P x ∧ goes f c s x = false) : prn P (.nd f c s l r) = prn (fun x => P x ∧ goes f c s x = true) l := by
  conv => lhs; unfold prn
  rw [if_neg (fun q => q h0), if_pos h]
  refine prn_congr (fun x => ⟨fun q => ⟨q, ?_⟩, fun q => q.1⟩) l
  cases e : goes f c s x with
  | true => rfl
  | false => exact absurd ⟨x, q, e⟩ h
theorem prn_both {P : List Int → Prop} {f c : Int} {s : Bool} {l r : BT} (h0 : ∃ x, P x ∧ goes f c s x = true) (h : ∃ x, P x ∧ goes f c s x = false) : prn P (.nd f c s l r) = joinB f c s (prn (fun x => P x ∧ goes f c s x = true) l) (prn (fun x => P x ∧ goes f c s x = false) r) := by
  conv => lhs; unfold prn
  rw [if_neg (fun q => q h0), if_neg (fun q => q h)]
/-- what becomes of a tree hangs on what becomes of its sides alone -/
theorem prn_sides {P : List Int → Prop} {f c : Int} {s : Bool} {l r l' r' : BT} (hl : prn (fun x => P x ∧ goes f c s x = true) l = prn (fun x => P x ∧ goes f c s x = true) l') (hr : prn (fun x => P x ∧ goes f c s x = false) r = prn (fun x => P x ∧ goes f c s x = false) r') : prn P (.nd f c s l r) = prn P (.nd f c s l' r') := by
  by_cases h0 : ∃ x, P x ∧ goes f c s x = true
  · by_cases h1 : ∃ x, P x ∧ goes f c s x = false
    · rw [prn_both h0 h1, prn_both h0 h1, hl, hr]
    · rw [prn_right h0 h1, prn_right h0 h1, hl]
  · rw [prn_left h0, prn_left h0, hr]
theorem joinB_ev (f c : Int) (s : Bool) (l r : BT) (x : List Int) : evB (joinB f c s l r) x = if goes f c s x = true then evB l x else evB r x := by
  unfold joinB
  split
  · rename_i v u
    by_cases e : v = u
    · subst e; rw [if_pos rfl]; show v = if _ then v else v; split <;> rfl
    · rw [if_neg e]; rfl
  · rfl
/-- it tells the same of those rows -/
theorem prn_ev : ∀ (T : BT) (P : List Int → Prop) (x : List Int), P x → evB (prn P T) x = evB T x
  | .lf v, P, x, h => rfl
  | .nd f c s l r, P, x, h => by
    show _ = if goes f c s x = true then evB l x else evB r x
    by_cases h0 : ∃ x, P x ∧ goes f c s x = true
    · by_cases h1 : ∃ x, P x ∧ goes f c s x = false
      · rw [prn_both h0 h1, joinB_ev]
        cases e : goes f c s x with
        | true => rw [if_pos rfl, if_pos rfl]; exact prn_ev l _ x ⟨h, e⟩
        | false => rw [if_neg (by decide), if_neg (by decide)]; exact prn_ev r _ x ⟨h, e⟩
      · rw [prn_right h0 h1]
        cases e : goes f c s x with
        | true => rw [if_pos rfl]; exact prn_ev l _ x ⟨h, e⟩
        | false => exact absurd ⟨x, h, e⟩ h1
    · rw [prn_left h0]
      cases e : goes f c s x with
      | true => exact absurd ⟨x, h, e⟩ h0
      | false => rw [if_neg (by decide)]; exact prn_ev r _ x ⟨h, e⟩
theorem joinB_size (f c : Int) (s : Bool) (l r : BT) : (joinB f c s l r).size ≤ 1 + l.size + r.size ∧ (joinB f c s l r).deep ≤ 1 + max l.deep r.deep := by
  unfold joinB
  split
  · rename_i v u
    by_cases e : v = u
    · rw [if_pos e]; unfold BT.size BT.deep; omega
    · rw [if_neg e]; exact ⟨Nat.le_refl _, Nat.le_refl _⟩
  · exact ⟨Nat.le_refl _, Nat.le_refl _⟩
theorem prn_size : ∀ (T : BT) (P : List Int → Prop), (prn P T).size ≤ T.size ∧ (prn P T).deep ≤ T.deep
  | .lf v, P => ⟨Nat.le_refl _, Nat.le_refl _⟩
  | .nd f c s l r, P => by
    have e1 : (BT.nd f c s l r).size = 1 + l.size + r.size := rfl
    have e2 : (BT.nd f c s l r).deep = 1 + max l.deep r.deep := rfl
    rw [e1, e2]
    by_cases h0 : ∃ x, P x ∧ goes f c s x = true
    · by_cases h1 : ∃ x, P x ∧ goes f c s x = false
      · rw [prn_both h0 h1]
        have j := joinB_size f c s (prn (fun x => P x ∧ goes f c s x = true) l) (prn (fun x => P x ∧ goes f c s x = false) r)
        have a := prn_size l (fun x => P x ∧ goes f c s x = true)
        have b := prn_size r (fun x => P x ∧ goes f c s x = false)
        omega
      · rw [prn_right h0 h1]
        have a := prn_size l (fun x => P x ∧ goes f c s x = true)
        omega
    · rw [prn_left h0]
      have b := prn_size r (fun x => P x ∧ goes f c s x = false)
      omega
theorem joinB_ok {m f c : Int} {s : Bool} {l r : BT} (h0 : 0 ≤ f) (h1 : f < m) (h2 : outI c = false) (hl : okB m l) (hr : okB m r) : okB m (joinB f c s l r) := by
  unfold joinB
  split
  · rename_i v u
    by_cases e : v = u
    · rw [if_pos e]; exact hl
    · rw [if_neg e]; exact ⟨h0, h1, h2, hl, hr⟩
  · exact ⟨h0, h1, h2, hl, hr⟩
theorem prn_ok {m : Int} : ∀ (T : BT) (P : List Int → Prop), okB m T → okB m (prn P T)
  | .lf v, P, h => h
  | .nd f c s l r, P, ⟨g0, g1, g2, g3, g4⟩ => by
    by_cases h0 : ∃ x, P x ∧ goes f c s x = true
    · by_cases h1 : ∃ x, P x ∧ goes f c s x = false
      · rw [prn_both h0 h1]
        exact joinB_ok g0 g1 g2 (prn_ok l _ g3) (prn_ok r _ g4)
      · rw [prn_right h0 h1]; exact prn_ok l _ g3
    · rw [prn_left h0]; exact prn_ok r _ g4

/-- nothing more can be left out -/
def Bare (P : List Int → Prop) : BT → Prop
  | .lf _ => True
  | .nd f c s l r => (∃ x, P x ∧ goes f c s x = true) ∧ (∃ x, P x ∧ goes f c s x = false) ∧ (∀ v, ¬ (l = .lf v ∧ r = .lf v)) ∧ Bare (fun x => P x ∧ goes f c s x = true) l ∧ Bare (fun x => P x ∧ goes f c s x = false) r
theorem joinB_plain {f c : Int} {s : Bool} {l r : BT} (h : ∀ v, ¬ (l = .lf v ∧ r = .lf v)) : joinB f c s l r = .nd f c s l r := by
  unfold joinB
  split
  · rename_i v u
    by_cases e : v = u
    · exact absurd ⟨rfl, by rw [e]⟩ (h v)
    · rw [if_neg e]
  · rfl
/-- .. then it stays -/
theorem prn_bare : ∀ (T : BT) (P : List Int → Prop), Bare P T → prn P T = T
  | .lf v, P, h => rfl
  | .nd f c s l r, P, ⟨h0, h1, h2, h3, h4⟩ => by
    rw [prn_both h0 h1, prn_bare l _ h3, prn_bare r _ h4, joinB_plain h2]
theorem joinB_bare {P : List Int → Prop} {f c : Int} {s : Bool} {l r : BT} (h0 : ∃ x, P x ∧ goes f c s x = true) (h1 : ∃ x, P x ∧ goes f c s x = false) (hl : Bare (fun x => P x ∧ goes f c s x = true) l) (hr : Bare (fun x => P x ∧ goes f c s x = false) r) : Bare P (joinB f c s l r) := by
  unfold joinB
  split
  · rename_i v u
    by_cases e : v = u
    · rw [if_pos e]; exact trivial
    · rw [if_neg e]
      refine ⟨h0, h1, fun w q => ?_, trivial, trivial⟩
      obtain ⟨q1, q2⟩ := q
      cases q1
      cases q2
      exact e rfl
  · rename_i h
    exact ⟨h0, h1, fun v q => h v v q.1 q.2, hl, hr⟩
/-- what comes is so -/
theorem bare_prn : ∀ (T : BT) (P : List Int → Prop), Bare P (prn P T)
  | .lf v, P => trivial
  | .nd f c s l r, P => by
    by_cases h0 : ∃ x, P x ∧ goes f c s x = true
    · by_cases h1 : ∃ x, P x ∧ goes f c s x = false
      · rw [prn_both h0 h1]
        exact joinB_bare h0 h1 (bare_prn l _) (bare_prn r _)
      · have e : (fun x => P x ∧ goes f c s x = true) = P := funext fun x => propext ⟨fun q => q.1, fun q => ⟨q, by
          cases e : goes f c s x with
          | true => rfl
          | false => exact absurd ⟨x, q, e⟩ h1⟩⟩
        rw [prn_right h0 h1, e]
        exact bare_prn l P
    · have e : (fun x => P x ∧ goes f c s x = false) = P := funext fun x => propext ⟨fun q => q.1, fun q => ⟨q, by
        cases e : goes f c s x with
        | false => rfl
        | true => exact absurd ⟨x, q, e⟩ h0⟩⟩
      rw [prn_left h0, e]
      exact bare_prn r P
/-- pruned once more it stays -/
theorem prn_again (P : List Int → Prop) (T : BT) : prn P (prn P T) = prn P T := prn_bare _ _ (bare_prn T P)

/-- all leaves say one thing -/
def allV (v : Int) : BT → Prop
  | .lf u => u = v
  | .nd _ _ _ l r => allV v l ∧ allV v r
theorem prn_one : ∀ (T : BT) (P : List Int → Prop) (v : Int), allV v T → prn P T = .lf v
  | .lf u, P, v, h => by
    have e : u = v := h
    subst e
    rfl
  | .nd f c s l r, P, v, ⟨h1, h2⟩ => by
    by_cases q0 : ∃ x, P x ∧ goes f c s x = true
    · by_cases q1 : ∃ x, P x ∧ goes f c s x = false
      · rw [prn_both q0 q1, prn_one l _ v h1, prn_one r _ v h2]
        show (if v = v then BT.lf v else _) = _
        rw [if_pos rfl]
      · rw [prn_right q0 q1]; exact prn_one l _ v h1
    · rw [prn_left q0]; exact prn_one r _ v h2

end Go.Proofs.YtlloiccodjnkcagGreatDoor.M

namespace Go.Proofs.YtlloiccodjnkcagGreatDoor.M
set_option linter.unusedVariables false

/-! ### laid in order a tree is right -/
theorem ups_cons (n : Nd) (t : List Nd) (i : Int) : ups (n :: t) i = edge i n + ups t i := by unfold ups; simp
theorem ups_append (a b : List Nd) (i : Int) : ups (a ++ b) i = ups a i + ups b i := by unfold ups; simp
theorem edge_at (f c : Int) (s : Bool) (a b p : Nat) (hf : f ≠ -1) : edge (p : Int) (f, c, (a : Int), (b : Int), s, 0) = (if a = p then 1 else 0) + (if b = p then 1 else 0) := by
  unfold edge
  rw [if_neg (show nf (f, c, (a : Int), (b : Int), s, (0 : Int)) ≠ -1 from hf)]
  show (if (a : Int) = (p : Int) then 1 else 0) + (if (b : Int) = (p : Int) then 1 else 0) = _
  have h1 : ((a : Int) = (p : Int)) ↔ a = p := by omega
  have h2 : ((b : Int) = (p : Int)) ↔ b = p := by omega
  simp only [h1, h2]
theorem ups_lay {m : Int} : ∀ (T : BT) (k p : Nat), okB m T → ups (lay T k) (p : Int) = if k < p ∧ p < k + T.size then 1 else 0
  | .lf v, k, p, h => by
    have e : ups (lay (.lf v) k) (p : Int) = 0 := rfl
    rw [e, if_neg (by show ¬ (k < p ∧ p < k + 1); omega)]
  | .nd f c s l r, k, p, ⟨g0, g1, g2, g3, g4⟩ => by
    have e : lay (.nd f c s l r) k = (f, c, ((k + 1 : Nat) : Int), ((k + 1 + l.size : Nat) : Int), s, 0) :: (lay l (k + 1) ++ lay r (k + 1 + l.size)) := rfl
    have z1 := l.size_pos
    have z2 := r.size_pos
    rw [e, ups_cons, ups_append, edge_at f c s (k + 1) (k + 1 + l.size) p (by omega), ups_lay l (k + 1) p g3, ups_lay r (k + 1 + l.size) p g4]
    show _ = if k < p ∧ p < k + (1 + l.size + r.size) then 1 else 0
    repeat' split
    all_goals omega
theorem node_lay {m : Int} : ∀ (T : BT) (k N : Nat), okB m T → k + T.size ≤ N → ∀ j, j < T.size → nodeF (nAt (lay T k) j) (k + j) N m = 0
  | .lf v, k, N, h, hN, j, hj => by
    have hj' : j < 1 := hj
    obtain rfl : j = 0 := by omega
    have h' : outI v = false := h
    show nodeF (-1, 0, 0, 0, false, v) _ _ _ = 0
    unfold nodeF
    rw [if_pos (show nf (-1, 0, 0, 0, false, v) = -1 from rfl)]
    unfold lfF
    rw [if_neg (by show ¬ outI v = true; rw [h']; decide), if_neg (by simp [nc, nl, nr, ns])]
  | .nd f c s l r, k, N, ⟨g0, g1, g2, g3, g4⟩, hN, j, hj => by
    have z1 := l.size_pos
    have z2 := r.size_pos
    have es : (BT.nd f c s l r).size = 1 + l.size + r.size := rfl
    rw [es] at hN hj
    have e : lay (.nd f c s l r) k = (f, c, ((k + 1 : Nat) : Int), ((k + 1 + l.size : Nat) : Int), s, 0) :: (lay l (k + 1) ++ lay r (k + 1 + l.size)) := rfl
    rw [e]
    rcases j with _ | j
    · show nodeF (f, c, ((k + 1 : Nat) : Int), ((k + 1 + l.size : Nat) : Int), s, 0) _ _ _ = 0
      unfold nodeF
      rw [if_neg (show nf (f, c, ((k + 1 : Nat) : Int), ((k + 1 + l.size : Nat) : Int), s, (0 : Int)) ≠ -1 by show f ≠ -1; omega)]
      unfold asF
      rw [if_neg, if_neg]
      · show ¬ ((0 : Int) ≠ 0 ∨ ((k + 1 : Nat) : Int) = ((k + 1 + l.size : Nat) : Int))
        omega
      · show ¬ (f < 0 ∨ m ≤ f ∨ outI c = true ∨ inB ((k + 1 : Nat) : Int) (k + 0) N = false ∨ inB ((k + 1 + l.size : Nat) : Int) (k + 0) N = false)
        intro q
        have b1 : inB ((k + 1 : Nat) : Int) (k + 0) N = true := by unfold inB; rw [decide_eq_true (by omega), decide_eq_true (by omega)]; rfl
        have b2 : inB ((k + 1 + l.size : Nat) : Int) (k + 0) N = true := by unfold inB; rw [decide_eq_true (by omega), decide_eq_true (by omega)]; rfl
        rw [g2, b1, b2] at q
        rcases q with q | q | q | q | q
        · omega
        · omega
        · cases q
        · cases q
        · cases q
    · have e2 : nAt ((f, c, ((k + 1 : Nat) : Int), ((k + 1 + l.size : Nat) : Int), s, (0 : Int)) :: (lay l (k + 1) ++ lay r (k + 1 + l.size))) (j + 1) = nAt (lay l (k + 1) ++ lay r (k + 1 + l.size)) j := by simp [nAt]
      rw [e2]
      by_cases hl : j < l.size
      · have e3 : nAt (lay l (k + 1) ++ lay r (k + 1 + l.size)) j = nAt (lay l (k + 1)) j := by
          unfold nAt; simp [List.getD, List.getElem?_append_left (show j < (lay l (k + 1)).length by rw [lay_len]; exact hl)]
        rw [e3, show k + (j + 1) = k + 1 + j by omega]
        exact node_lay l (k + 1) N g3 (by omega) j hl
      · have e3 : nAt (lay l (k + 1) ++ lay r (k + 1 + l.size)) j = nAt (lay r (k + 1 + l.size)) (j - l.size) := by
          unfold nAt
          simp only [List.getD]
          rw [List.getElem?_append_right (by rw [lay_len]; omega), lay_len]
        rw [e3, show k + (j + 1) = k + 1 + l.size + (j - l.size) by omega]
        exact node_lay r (k + 1 + l.size) N g4 (by omega) (j - l.size) (by omega)
theorem lay_fair {T : BT} {m : Int} (h : okB m T) (h0 : 0 ≤ m) (h8 : m ≤ 8) (hs : T.size ≤ 63) : Fair (lay T 0) m := by
  refine ⟨by rw [lay_len]; exact hs, by rw [lay_len]; exact T.size_pos, h0, h8, fun j hj => ?_, fun j h1 h2 => ?_⟩
  · rw [lay_len] at hj
    have := node_lay T 0 T.size h (by omega) j hj
    rw [lay_len]
    simpa using this
  · rw [lay_len] at h2
    rw [ups_lay T 0 j h, if_pos (by omega)]
theorem lay_deep {T : BT} {m : Int} (h : okB m T) (h0 : 0 ≤ m) (h8 : m ≤ 8) (hs : T.size ≤ 63) : depth (lay T 0) 0 = T.deep := by
  have F := lay_fair h h0 h8 hs
  have := bt_deep F.2.2.2.2.1 (lay T 0).length 0 F.2.1 (by omega)
  rw [← this, bt_of_lay h]
/-- a tree that is laid in order, not too deep, is right -/
theorem lay_tree {T : BT} {m : Int} (h : okB m T) (h0 : 0 ≤ m) (h8 : m ≤ 8) (hs : T.size ≤ 63) (hd : T.deep ≤ 10) : (treeF (lay T 0) m).2 = 0 := by
  rw [tree_fair (lay_fair h h0 h8 hs), lay_deep h h0 h8 hs, if_neg (by omega)]

/-! ### who comes to a place -/
theorem way_left {t : List Nd} {m : Nat} (F : Fair t (m : Int)) (x : List Int) {i a b : Nat} (hi : i < t.length) (hf : nf (nAt t i) ≠ -1) (ea : nl (nAt t i) = a) (eb : nr (nAt t i) = b) : (a ∈ way t x 0 ↔ i ∈ way t x 0 ∧ lessC (nAt t i) (x.getD (nf (nAt t i)).toNat 0) = true) ∧ (b ∈ way t x 0 ↔ i ∈ way t x 0 ∧ lessC (nAt t i) (x.getD (nf (nAt t i)).toNat 0) = false) := by
  obtain ⟨a', b', ea', eb', h1, h2, h3, h4, h5⟩ := ask_at F.2.2.2.2.1 hi hf
  have e1 : a' = a := by omega
  have e2 : b' = b := by omega
  subst e1
  subst e2
  have ua : abv t a' = some i := (abv_iff F h2).2 ⟨hi, hf, .inl ea⟩
  have ub : abv t b' = some i := (abv_iff F h4).2 ⟨hi, hf, .inr eb⟩
  constructor
  · rw [← pass_way F x (t.length + 1) a' h2 (by omega), ← pass_way F x t.length i hi hi]
    unfold passD
    rw [ua]
    simp only
    rw [decide_eq_true ea]
    constructor
    · rintro ⟨p, q⟩; exact ⟨by cases t with
        | nil => simp at hi
        | cons _ _ => exact q, p⟩
    · rintro ⟨p, q⟩; exact ⟨q, by cases t with
        | nil => simp at hi
        | cons _ _ => exact p⟩
  · rw [← pass_way F x (t.length + 1) b' h4 (by omega), ← pass_way F x t.length i hi hi]
    unfold passD
    rw [ub]
    simp only
    rw [decide_eq_false (show ¬ nl (nAt t i) = (b' : Int) by rw [ea]; omega)]
    constructor
    · rintro ⟨p, q⟩; exact ⟨by cases t with
        | nil => simp at hi
        | cons _ _ => exact q, p⟩
    · rintro ⟨p, q⟩; exact ⟨q, by cases t with
        | nil => simp at hi
        | cons _ _ => exact p⟩
/-- rows of so many cells -/
def vld (m : Nat) (x : List Int) : Prop := rowF x = 0 ∧ x.length = m
/-- those that come to a place -/
def Pw (t : List Nd) (m i : Nat) (x : List Int) : Prop := vld m x ∧ i ∈ way t x 0
theorem pw_root {t : List Nd} {m : Nat} (F : Fair t (m : Int)) : Pw t m 0 = vld m := funext fun x => propext ⟨fun h => h.1, fun h => ⟨h, by
  obtain ⟨l, e⟩ := way_ne F.2.2.2.2.1 x F.2.1
  rw [e]; simp⟩⟩
theorem pw_sides {t : List Nd} {m : Nat} (F : Fair t (m : Int)) {i a b : Nat} (hi : i < t.length) (hf : nf (nAt t i) ≠ -1) (ea : nl (nAt t i) = a) (eb : nr (nAt t i) = b) :
    (fun x => Pw t m i x ∧ goes (nf (nAt t i)) (nc (nAt t i)) (ns (nAt t i)) x = true) = Pw t m a ∧ (fun x => Pw t m i x ∧ goes (nf (nAt t i)) (nc (nAt t i)) (ns (nAt t i)) x = false) = Pw t m b := by
  have gl : ∀ x, goes (nf (nAt t i)) (nc (nAt t i)) (ns (nAt t i)) x = lessC (nAt t i) (x.getD (nf (nAt t i)).toNat 0) := fun x => rfl
  constructor
  · funext x
    apply propext
    rw [gl]
    unfold Pw
    rw [(way_left F x hi hf ea eb).1]
    exact ⟨fun q => ⟨q.1.1, q.1.2, q.2⟩, fun q => ⟨⟨q.1, q.2.1⟩, q.2.2⟩⟩
  · funext x
    apply propext
    rw [gl]
    unfold Pw
    rw [(way_left F x hi hf ea eb).2]
    exact ⟨fun q => ⟨q.1.1, q.1.2, q.2⟩, fun q => ⟨⟨q.1, q.2.1⟩, q.2.2⟩⟩
/-- a place has a row, or none comes to it -/
theorem reach_iff {t : List Nd} {m : Nat} (F : Fair t (m : Int)) {k : Nat} (hk : k < t.length) : anyS (region t m k) = true ↔ ∃ x, Pw t m k x := by
  constructor
  · intro ha
    have h8 : m ≤ 8 := by have := F.2.2.2.1; omega
    have hlen := region_len t m k
    have hok := region_ok F hk
    have hall : ∀ s ∈ region t m k, hasS s = true := by unfold anyS at ha; rw [List.all_eq_true] at ha; exact ha
    have hin : ∀ s ∈ region t m k, inS (pickC (norm s)) s = true := fun s hs => by
      rcases pick_norm s (hall s hs) with q | q
      · exact q
      · have := hok s hs; unfold okS at this
        rw [out_in this.1 this.2.1] at q; cases q
    have hgood : ∀ s ∈ region t m k, badCell (pickC (norm s)) = false := fun s hs => by
      have q := hok s hs
      unfold okS at q
      unfold norm pickC
      by_cases hc : s.2.1 < s.1
      · rw [if_pos hc, if_neg (by simp)]; exact good_nil
      · rw [if_neg hc, if_pos (by omega)]; exact good_cell (out_in q.1 q.2.1)
    have hrow : rowF (pick ((region t m k).map norm)) = 0 := by
      rw [row_ok]
      unfold pick
      refine ⟨by rw [List.length_map, List.length_map, hlen]; exact h8, fun x hx => ?_⟩
      rw [List.map_map, List.mem_map] at hx
      obtain ⟨s, hs, rfl⟩ := hx
      exact hgood s hs
    have hp : (pick ((region t m k).map norm)).length = m := by unfold pick; rw [List.length_map, List.length_map, hlen]
    refine ⟨_, ⟨hrow, hp⟩, (region_within F hrow hp hk).1 (fun j hj => ?_)⟩
    have hj' : j < (pick ((region t m k).map norm)).length := by omega
    rw [getD_at hj', getD_at hj]
    have e : (pick ((region t m k).map norm))[j] = pickC (norm (region t m k)[j]) := by unfold pick; simp
    rw [e]
    exact hin _ (List.getElem_mem hj)
  · rintro ⟨x, ⟨h1, h2⟩, h3⟩
    exact any_within ((region_within F h1 h2 hk).2 h3)

/-! ### a node gives way -/
theorem bt_agree {t u : List Nd} {m : Int} (h : Right t m) (hu : Right u m) (hl : u.length = t.length) {j : Nat} (hq : ∀ q, j ≤ q → q < t.length → nAt u q = nAt t q) : ∀ (k i : Nat), j ≤ i → i < t.length → t.length ≤ k + i → bt u i = bt t i
  | 0, i, hj, hi, hk => by omega
  | k + 1, i, hj, hi, hk => by
    have hi' : i < u.length := by omega
    have e := hq i hj hi
    by_cases hf : nf (nAt t i) = -1
    · rw [bt_leaf hi hf, bt_leaf hi' (by rw [e]; exact hf), e]
    · obtain ⟨a, b, ea, eb, h1, h2, h3, h4, _⟩ := ask_at h hi hf
      rw [bt_ask h hi hf ea eb, bt_ask hu hi' (by rw [e]; exact hf) (by rw [e]; exact ea) (by rw [e]; exact eb), e, bt_agree h hu hl hq k a (by omega) h2 (by omega), bt_agree h hu hl hq k b (by omega) h4 (by omega)]
/-- in u the place 'to' stands below 'up' where 'at' stood: what becomes of all is the same, if it is of those two -/
theorem give_same {t u : List Nd} {m : Nat} (F : Fair t (m : Int)) (hu : Right u (m : Int)) (hl : u.length = t.length) {up at' tw : Nat} (hup : up < t.length) (hf : nf (nAt t up) ≠ -1) (hto : up < tw) (hto2 : tw < t.length)
    (hq : ∀ q, q ≠ up → q < t.length → nAt u q = nAt t q)
    (hn : (nl (nAt t up) = at' ∧ nAt u up = (nf (nAt t up), nc (nAt t up), (tw : Int), nr (nAt t up), ns (nAt t up), nv (nAt t up))) ∨ (nr (nAt t up) = at' ∧ nAt u up = (nf (nAt t up), nc (nAt t up), nl (nAt t up), (tw : Int), ns (nAt t up), nv (nAt t up))))
    (he : prn (Pw t m at') (bt t tw) = prn (Pw t m at') (bt t at')) : ∀ (k i : Nat), i < t.length → t.length ≤ k + i → prn (Pw t m i) (bt u i) = prn (Pw t m i) (bt t i)
  | 0, i, hi, hk => by omega
  | k + 1, i, hi, hk => by
    have hR := F.2.2.2.2.1
    have hi' : i < u.length := by omega
    rcases Nat.lt_trichotomy i up with c | c | c
    · have e := hq i (by omega) hi
      by_cases hg : nf (nAt t i) = -1
      · rw [bt_leaf hi hg, bt_leaf hi' (by rw [e]; exact hg), e]
      · obtain ⟨a, b, ea, eb, h1, h2, h3, h4, _⟩ := ask_at hR hi hg
        obtain ⟨p1, p2⟩ := pw_sides F hi hg ea eb
        rw [bt_ask hR hi hg ea eb, bt_ask hu hi' (by rw [e]; exact hg) (by rw [e]; exact ea) (by rw [e]; exact eb), e]
        refine prn_sides ?_ ?_
        · rw [p1]; exact give_same F hu hl hup hf hto hto2 hq hn he k a h2 (by omega)
        · rw [p2]; exact give_same F hu hl hup hf hto hto2 hq hn he k b h4 (by omega)
    · subst c
      obtain ⟨a, b, ea, eb, h1, h2, h3, h4, _⟩ := ask_at hR hi hf
      obtain ⟨p1, p2⟩ := pw_sides F hi hf ea eb
      have ag : ∀ j, i < j → j < t.length → bt u j = bt t j := fun j hj hj2 => bt_agree hR hu hl (j := i + 1) (fun q q1 q2 => hq q (by omega) q2) t.length j (by omega) hj2 (by omega)
      rcases hn with ⟨n1, n2⟩ | ⟨n1, n2⟩
      · have ea' : a = at' := by omega
        subst ea'
        rw [bt_ask hR hi hf ea eb, bt_ask hu hi' (a := tw) (b := b) (by rw [n2]; exact hf) (by rw [n2]; rfl) (by rw [n2]; exact eb), n2, ag tw hto hto2, ag b (by omega) h4]
        refine prn_sides ?_ rfl
        show prn (fun x => Pw t m i x ∧ goes (nf (nAt t i)) (nc (nAt t i)) (ns (nAt t i)) x = true) (bt t tw) = prn (fun x => Pw t m i x ∧ goes (nf (nAt t i)) (nc (nAt t i)) (ns (nAt t i)) x = true) (bt t a)
        rw [p1]; exact he
      · have eb' : b = at' := by omega
        subst eb'
        rw [bt_ask hR hi hf ea eb, bt_ask hu hi' (a := a) (b := tw) (by rw [n2]; exact hf) (by rw [n2]; exact ea) (by rw [n2]; rfl), n2, ag tw hto hto2, ag a (by omega) h2]
        refine prn_sides rfl ?_
        show prn (fun x => Pw t m i x ∧ goes (nf (nAt t i)) (nc (nAt t i)) (ns (nAt t i)) x = false) (bt t tw) = prn (fun x => Pw t m i x ∧ goes (nf (nAt t i)) (nc (nAt t i)) (ns (nAt t i)) x = false) (bt t b)
        rw [p2]; exact he
    · rw [bt_agree hR hu hl (j := up + 1) (fun q q1 q2 => hq q (by omega) q2) t.length i (by omega) hi (by omega)]
/-- why a node may give way -/
theorem give_why {t : List Nd} {m : Nat} (F : Fair t (m : Int)) {i a b : Nat} (hi : i < t.length) (hf : nf (nAt t i) ≠ -1) (ea : nl (nAt t i) = a) (eb : nr (nAt t i) = b) :
    (anyS (region t m a) = false → prn (Pw t m i) (bt t b) = prn (Pw t m i) (bt t i)) ∧
    (anyS (region t m a) = true → anyS (region t m b) = false → prn (Pw t m i) (bt t a) = prn (Pw t m i) (bt t i)) ∧
    (anyS (region t m a) = true → anyS (region t m b) = true → nf (nAt t a) = -1 → nf (nAt t b) = -1 → nv (nAt t a) = nv (nAt t b) → prn (Pw t m i) (bt t a) = prn (Pw t m i) (bt t i)) := by
  have hR := F.2.2.2.2.1
  obtain ⟨a', b', ea', eb', h1, h2, h3, h4, _⟩ := ask_at hR hi hf
  have e1 : a' = a := by omega
  have e2 : b' = b := by omega
  subst e1
  subst e2
  obtain ⟨p1, p2⟩ := pw_sides F hi hf ea eb
  have r1 := reach_iff F h2
  have r2 := reach_iff F h4
  have x1 : (∃ x, Pw t m i x ∧ goes (nf (nAt t i)) (nc (nAt t i)) (ns (nAt t i)) x = true) ↔ ∃ x, Pw t m a' x := by
    rw [← p1]
  have x2 : (∃ x, Pw t m i x ∧ goes (nf (nAt t i)) (nc (nAt t i)) (ns (nAt t i)) x = false) ↔ ∃ x, Pw t m b' x := by
    rw [← p2]
  rw [bt_ask hR hi hf ea eb]
  refine ⟨fun q => ?_, fun q q2 => ?_, fun q q2 l1 l2 l3 => ?_⟩
  · have n : ¬ ∃ x, Pw t m i x ∧ goes (nf (nAt t i)) (nc (nAt t i)) (ns (nAt t i)) x = true := fun h => by
      rw [r1.2 (x1.1 h)] at q; cases q
    rw [prn_left n]
    refine prn_congr (fun x => ⟨fun h => ⟨h, ?_⟩, fun h => h.1⟩) _
    cases e : goes (nf (nAt t i)) (nc (nAt t i)) (ns (nAt t i)) x with
    | false => rfl
    | true => exact absurd ⟨x, h, e⟩ n
  · have y := x1.2 (r1.1 q)
    have n : ¬ ∃ x, Pw t m i x ∧ goes (nf (nAt t i)) (nc (nAt t i)) (ns (nAt t i)) x = false := fun h => by
      rw [r2.2 (x2.1 h)] at q2; cases q2
    rw [prn_right y n]
    refine prn_congr (fun x => ⟨fun h => ⟨h, ?_⟩, fun h => h.1⟩) _
    cases e : goes (nf (nAt t i)) (nc (nAt t i)) (ns (nAt t i)) x with
    | true => rfl
    | false => exact absurd ⟨x, h, e⟩ n
  · rw [bt_leaf h2 l1, bt_leaf h4 l2, prn_both (x1.2 (r1.1 q)) (x2.2 (r2.1 q2)), l3]
    show BT.lf (nv (nAt t b')) = if nv (nAt t b') = nv (nAt t b') then BT.lf (nv (nAt t b')) else _
    rw [if_pos rfl]
/-- where none may, nothing can be left out -/
theorem bare_of {t : List Nd} {m : Nat} (F : Fair t (m : Int)) (h : ∀ i, i < t.length → nf (nAt t i) ≠ -1 → anyS (region t m (nl (nAt t i)).toNat) = true ∧ anyS (region t m (nr (nAt t i)).toNat) = true ∧ ¬ (nf (nAt t (nl (nAt t i)).toNat) = -1 ∧ nf (nAt t (nr (nAt t i)).toNat) = -1 ∧ nv (nAt t (nl (nAt t i)).toNat) = nv (nAt t (nr (nAt t i)).toNat))) : ∀ (k i : Nat), i < t.length → t.length ≤ k + i → Bare (Pw t m i) (bt t i)
  | 0, i, hi, hk => by omega
  | k + 1, i, hi, hk => by
    have hR := F.2.2.2.2.1
    by_cases hf : nf (nAt t i) = -1
    · rw [bt_leaf hi hf]; exact trivial
    · obtain ⟨a, b, ea, eb, h1, h2, h3, h4, _⟩ := ask_at hR hi hf
      obtain ⟨p1, p2⟩ := pw_sides F hi hf ea eb
      obtain ⟨q1, q2, q3⟩ := h i hi hf
      rw [ea, Int.toNat_natCast] at q1 q3
      rw [eb, Int.toNat_natCast] at q2 q3
      rw [bt_ask hR hi hf ea eb]
      refine ⟨?_, ?_, ?_, ?_, ?_⟩
      · have := (reach_iff F h2).1 q1
        rw [← p1] at this
        exact this
      · have := (reach_iff F h4).1 q2
        rw [← p2] at this
        exact this
      · rintro v ⟨c1, c2⟩
        by_cases d1 : nf (nAt t a) = -1
        · by_cases d2 : nf (nAt t b) = -1
          · rw [bt_leaf h2 d1] at c1
            rw [bt_leaf h4 d2] at c2
            cases c1
            have c2' := BT.lf.inj c2
            exact q3 ⟨d1, d2, c2'.symm⟩
          · obtain ⟨a2, b2, e3, e4, _⟩ := ask_at hR h4 d2
            rw [bt_ask hR h4 d2 e3 e4] at c2
            cases c2
        · obtain ⟨a2, b2, e3, e4, _⟩ := ask_at hR h2 d1
          rw [bt_ask hR h2 d1 e3 e4] at c1
          cases c1
      · rw [p1]; exact bare_of F h k a h2 (by omega)
      · rw [p2]; exact bare_of F h k b h4 (by omega)

end Go.Proofs.YtlloiccodjnkcagGreatDoor.M

namespace Go.Proofs.YtlloiccodjnkcagGreatDoor.M
set_option linter.unusedVariables false

/-- the node above, with another one below it -/
def turnN (n : Nd) (at' tw : Nat) : Nd := if nl n = (at' : Int) then (nf n, nc n, (tw : Int), nr n, ns n, nv n) else (nf n, nc n, nl n, (tw : Int), ns n, nv n)
theorem set_at {t : List Nd} {i : Nat} {n : Nd} (h : i < t.length) : nAt (t.set i n) i = n := by
  unfold nAt; simp [List.getD, h]
theorem set_ne {t : List Nd} {i j : Nat} {n : Nd} (h : j ≠ i) : nAt (t.set i n) j = nAt t j := by
  unfold nAt; simp only [List.getD]; rw [List.getElem?_set_ne (fun q => h q.symm)]
/-- one right below another -/
structure Below2 (t : List Nd) (m : Nat) (up at' tw : Nat) : Prop where
  fair : Fair t (m : Int)
  hup : up < t.length
  hat : at' < t.length
  hto : tw < t.length
  c1 : chL (nAt t up) (at' : Nat)
  c2 : chL (nAt t at') (tw : Nat)
theorem ch_lt {t : List Nd} {m : Int} (h : Right t m) {i j : Nat} (hi : i < t.length) (c : chL (nAt t i) (j : Nat)) : i < j ∧ j < t.length := by
  obtain ⟨a, b, ea, eb, h1, h2, h3, h4, _⟩ := ask_at h hi c.1
  rcases c.2 with q | q <;> omega
theorem Below2.right {t : List Nd} {m up at' tw : Nat} (B : Below2 t m up at' tw) : Right (t.set up (turnN (nAt t up) at' tw)) (m : Int) := by
  have hR := B.fair.2.2.2.2.1
  have l1 := ch_lt hR B.hup B.c1
  have l2 := ch_lt hR B.hat B.c2
  intro q hq
  rw [List.length_set] at hq ⊢
  by_cases e : q = up
  · subst e
    rw [set_at B.hup]
    have hn := hR q B.hup
    have hf : nf (nAt t q) ≠ -1 := B.c1.1
    obtain ⟨a, b, ea, eb, h1, h2, h3, h4, h5⟩ := ask_at hR B.hup hf
    obtain ⟨g0, g1, g2, _, _, _, _, g7, _⟩ := node_ask hn hf
    have apart : ∀ o : Nat, chL (nAt t q) (o : Nat) → o ≠ at' → o ≠ tw := fun o co no eo => by
      subst eo
      have lo := ch_lt hR B.hup co
      have := up_one (B.fair.2.2.2.2.2 o (by omega) lo.2) B.hup B.hat co B.c2
      omega
    have hf2 : nf (turnN (nAt t q) at' tw) = nf (nAt t q) := by unfold turnN; split <;> rfl
    have hc2 : nc (turnN (nAt t q) at' tw) = nc (nAt t q) := by unfold turnN; split <;> rfl
    have hv2 : nv (turnN (nAt t q) at' tw) = nv (nAt t q) := by unfold turnN; split <;> rfl
    have hlr : ∃ x y : Nat, nl (turnN (nAt t q) at' tw) = x ∧ nr (turnN (nAt t q) at' tw) = y ∧ q < x ∧ x < t.length ∧ q < y ∧ y < t.length ∧ x ≠ y := by
      unfold turnN
      by_cases c : nl (nAt t q) = (at' : Int)
      · rw [if_pos c]
        refine ⟨tw, b, rfl, eb, by omega, by omega, by omega, by omega, ?_⟩
        exact fun e => apart b ⟨hf, .inr eb⟩ (by omega) e.symm
      · rw [if_neg c]
        refine ⟨a, tw, ea, rfl, by omega, by omega, by omega, by omega, ?_⟩
        exact fun e => apart a ⟨hf, .inl ea⟩ (by omega) e
    obtain ⟨x, y, ex, ey, x1, x2, y1, y2, xy⟩ := hlr
    unfold nodeF
    rw [hf2, if_neg hf]
    unfold asF
    rw [hf2, hc2, hv2, ex, ey]
    have b1 : inB (x : Int) q t.length = true := by unfold inB; rw [decide_eq_true (by omega), decide_eq_true (by omega)]; rfl
    have b2 : inB (y : Int) q t.length = true := by unfold inB; rw [decide_eq_true (by omega), decide_eq_true (by omega)]; rfl
    rw [b1, b2, g2, g7]
    rw [if_neg (by simp; omega), if_neg (by simp; omega)]
  · rw [set_ne e]; exact hR q hq
theorem Below2.turned {t : List Nd} {m up at' tw : Nat} (B : Below2 t m up at' tw) : (nl (nAt t up) = at' ∧ nAt (t.set up (turnN (nAt t up) at' tw)) up = (nf (nAt t up), nc (nAt t up), (tw : Int), nr (nAt t up), ns (nAt t up), nv (nAt t up))) ∨ (nr (nAt t up) = at' ∧ nAt (t.set up (turnN (nAt t up) at' tw)) up = (nf (nAt t up), nc (nAt t up), nl (nAt t up), (tw : Int), ns (nAt t up), nv (nAt t up))) := by
  rw [set_at B.hup]
  unfold turnN
  by_cases c : nl (nAt t up) = (at' : Int)
  · rw [if_pos c]; exact .inl ⟨c, rfl⟩
  · rw [if_neg c]
    rcases B.c1.2 with q | q
    · exact absurd q c
    · exact .inr ⟨q, rfl⟩
theorem Below2.same {t : List Nd} {m up at' tw : Nat} (B : Below2 t m up at' tw) (he : prn (Pw t m at') (bt t tw) = prn (Pw t m at') (bt t at')) : prn (vld m) (bt (t.set up (turnN (nAt t up) at' tw)) 0) = prn (vld m) (bt t 0) := by
  have hR := B.fair.2.2.2.2.1
  have l1 := ch_lt hR B.hup B.c1
  have l2 := ch_lt hR B.hat B.c2
  have := give_same B.fair B.right (List.length_set) B.hup B.c1.1 (show up < tw by omega) B.hto (fun q hq _ => set_ne hq) B.turned he t.length 0 B.fair.2.1 (by omega)
  rw [pw_root B.fair] at this
  exact this
/-- a side is smaller than the whole -/
theorem side_lt {t : List Nd} {m : Int} (h : Right t m) {i j : Nat} (hi : i < t.length) (c : chL (nAt t i) (j : Nat)) : (bt t j).size < (bt t i).size ∧ (bt t j).deep ≤ (bt t i).deep := by
  obtain ⟨a, b, ea, eb, h1, h2, h3, h4, _⟩ := ask_at h hi c.1
  rw [bt_ask h hi c.1 ea eb]
  show _ < 1 + _ + _ ∧ _ ≤ 1 + max _ _
  rcases c.2 with q | q
  · have : a = j := by omega
    subst this
    omega
  · have : b = j := by omega
    subst this
    omega
theorem Below2.le {t : List Nd} {m up at' tw : Nat} (B : Below2 t m up at' tw) : ∀ (k i : Nat), i < t.length → t.length ≤ k + i → (bt (t.set up (turnN (nAt t up) at' tw)) i).size ≤ (bt t i).size ∧ (bt (t.set up (turnN (nAt t up) at' tw)) i).deep ≤ (bt t i).deep ∧ (i = up → (bt (t.set up (turnN (nAt t up) at' tw)) i).size < (bt t i).size)
  | 0, i, hi, hk => by omega
  | k + 1, i, hi, hk => by
    have hR := B.fair.2.2.2.2.1
    have hu := B.right
    have l1 := ch_lt hR B.hup B.c1
    have l2 := ch_lt hR B.hat B.c2
    have hl : (t.set up (turnN (nAt t up) at' tw)).length = t.length := List.length_set
    have hi' : i < (t.set up (turnN (nAt t up) at' tw)).length := by omega
    by_cases e : i = up
    · subst e
      obtain ⟨a, b, ea, eb, h1, h2, h3, h4, _⟩ := ask_at hR hi B.c1.1
      have ag : ∀ j, i < j → j < t.length → bt (t.set i (turnN (nAt t i) at' tw)) j = bt t j := fun j hj hj2 => bt_agree hR hu hl (j := i + 1) (fun q q1 q2 => set_ne (by omega)) t.length j (by omega) hj2 (by omega)
      have sl := side_lt hR B.hat B.c2
      rcases B.turned with ⟨n1, n2⟩ | ⟨n1, n2⟩
      · have ea' : a = at' := by omega
        subst ea'
        rw [bt_ask hR hi B.c1.1 ea eb, bt_ask hu hi' (a := tw) (b := b) (by rw [n2]; exact B.c1.1) (by rw [n2]; rfl) (by rw [n2]; exact eb), ag tw (by omega) B.hto, ag b (by omega) h4]
        show 1 + _ + _ ≤ 1 + _ + _ ∧ 1 + max _ _ ≤ 1 + max _ _ ∧ (_ → 1 + _ + _ < 1 + _ + _)
        omega
      · have eb' : b = at' := by omega
        subst eb'
        rw [bt_ask hR hi B.c1.1 ea eb, bt_ask hu hi' (a := a) (b := tw) (by rw [n2]; exact B.c1.1) (by rw [n2]; exact ea) (by rw [n2]; rfl), ag tw (by omega) B.hto, ag a (by omega) h2]
        show 1 + _ + _ ≤ 1 + _ + _ ∧ 1 + max _ _ ≤ 1 + max _ _ ∧ (_ → 1 + _ + _ < 1 + _ + _)
        omega
    · have en : nAt (t.set up (turnN (nAt t up) at' tw)) i = nAt t i := set_ne e
      by_cases hf : nf (nAt t i) = -1
      · rw [bt_leaf hi hf, bt_leaf hi' (by rw [en]; exact hf)]
        exact ⟨Nat.le_refl _, Nat.le_refl _, fun q => absurd q e⟩
      · obtain ⟨a, b, ea, eb, h1, h2, h3, h4, _⟩ := ask_at hR hi hf
        rw [bt_ask hR hi hf ea eb, bt_ask hu hi' (by rw [en]; exact hf) (by rw [en]; exact ea) (by rw [en]; exact eb)]
        have ra := B.le k a h2 (by omega)
        have rb := B.le k b h4 (by omega)
        show 1 + _ + _ ≤ 1 + _ + _ ∧ 1 + max _ _ ≤ 1 + max _ _ ∧ (_ → 1 + _ + _ < 1 + _ + _)
        omega
/-- what is smaller somewhere is smaller as a whole -/
theorem Below2.up {t : List Nd} {m up at' tw : Nat} (B : Below2 t m up at' tw) : ∀ (k j : Nat), j < k → j < t.length → (bt (t.set up (turnN (nAt t up) at' tw)) j).size < (bt t j).size → (bt (t.set up (turnN (nAt t up) at' tw)) 0).size < (bt t 0).size
  | 0, j, hk, hj, h => by omega
  | k + 1, j, hk, hj, h => by
    have hR := B.fair.2.2.2.2.1
    have hu := B.right
    have hl : (t.set up (turnN (nAt t up) at' tw)).length = t.length := List.length_set
    rcases Nat.eq_zero_or_pos j with h0 | h0
    · subst h0; exact h
    · obtain ⟨p, hp, c⟩ := up_some (B.fair.2.2.2.2.2 j h0 hj)
      have lp := ch_lt hR hp c
      refine B.up k p (by omega) hp ?_
      by_cases e : p = up
      · exact (B.le t.length p hp (by omega)).2.2 e
      · have en : nAt (t.set up (turnN (nAt t up) at' tw)) p = nAt t p := set_ne e
        obtain ⟨a, b, ea, eb, h1, h2, h3, h4, _⟩ := ask_at hR hp c.1
        rw [bt_ask hR hp c.1 ea eb, bt_ask hu (by omega) (by rw [en]; exact c.1) (by rw [en]; exact ea) (by rw [en]; exact eb)]
        have ra := (B.le t.length a h2 (by omega)).1
        have rb := (B.le t.length b h4 (by omega)).1
        show 1 + _ + _ < 1 + _ + _
        rcases c.2 with q | q
        · have : a = j := by omega
          subst this
          omega
        · have : b = j := by omega
          subst this
          omega
theorem Below2.lt {t : List Nd} {m up at' tw : Nat} (B : Below2 t m up at' tw) : (bt (t.set up (turnN (nAt t up) at' tw)) 0).size < (bt t 0).size ∧ (bt (t.set up (turnN (nAt t up) at' tw)) 0).deep ≤ (bt t 0).deep ∧ okB (m : Int) (bt (t.set up (turnN (nAt t up) at' tw)) 0) := by
  have hl : (t.set up (turnN (nAt t up) at' tw)).length = t.length := List.length_set
  exact ⟨B.up (up + 1) up (by omega) B.hup ((B.le t.length up B.hup (by omega)).2.2 rfl), (B.le t.length 0 B.fair.2.1 (by omega)).2.1, bt_ok B.right t.length 0 (by rw [hl]; exact B.fair.2.1) (by omega)⟩

end Go.Proofs.YtlloiccodjnkcagGreatDoor.M

namespace Go.Proofs.YtlloiccodjnkcagGreatDoor.M
set_option linter.unusedVariables false

def BT.lvs : BT → Nat
  | .lf _ => 1
  | .nd _ _ _ l r => l.lvs + r.lvs
theorem BT.two : ∀ T : BT, T.size + 1 = 2 * T.lvs
  | .lf _ => rfl
  | .nd _ _ _ l r => by
    have a := l.two
    have b := r.two
    unfold BT.size BT.lvs
    omega
theorem bt_lvs {t : List Nd} {m : Int} (h : Right t m) : ∀ (k i : Nat), i < t.length → t.length ≤ k + i → (bt t i).lvs = lfs t i
  | 0, i, hi, hk => by omega
  | k + 1, i, hi, hk => by
    by_cases hl : nf (nAt t i) = -1
    · rw [bt_leaf hi hl, lfs_leaf hi hl]; rfl
    · obtain ⟨a, b, ea, eb, h1, h2, h3, h4, _⟩ := ask_at h hi hl
      rw [bt_ask h hi hl ea eb, lfs_ask h hi hl ea eb]
      show (bt t a).lvs + (bt t b).lvs = _
      rw [bt_lvs h k a h2 (by omega), bt_lvs h k b h4 (by omega)]
/-- a tree that is right has its nodes, each once -/
theorem bt_size {t : List Nd} {m : Int} (F : Fair t m) : (bt t 0).size = t.length := by
  have a := (bt t 0).two
  have b := bt_lvs F.2.2.2.2.1 t.length 0 F.2.1 (by omega)
  have c := leaves_count F
  have d := halves F
  omega

/-- what comes of a tree, pruned -/
noncomputable def prunV (t : List Nd) (m : Int) : List Nd := if (treeF t m).2 = 0 then lay (prn (vld m.toNat) (bt t 0)) 0 else []
/-- .. and sorted -/
def sortV (t : List Nd) (m : Int) : List Nd := if (treeF t m).2 = 0 then lay (bt t 0) 0 else []
theorem fair_nat {t : List Nd} {m : Int} (h : (treeF t m).2 = 0) : Fair t ((m.toNat : Nat) : Int) ∧ ((m.toNat : Nat) : Int) = m := by
  have F := (tree_ok h).1
  have e : ((m.toNat : Nat) : Int) = m := by have := F.2.2.1; omega
  rw [e]; exact ⟨F, rfl⟩
/-- what is pruned is right -/
theorem prun_tree {t : List Nd} {m : Int} (h : (treeF t m).2 = 0) : (treeF (prunV t m) m).2 = 0 ∧ (prunV t m).length ≤ t.length := by
  have F := (tree_ok h).1
  have ok := bt_ok F.2.2.2.2.1 t.length 0 F.2.1 (by omega)
  have sz := prn_size (bt t 0) (vld m.toNat)
  have bs := bt_size F
  have l63 := F.1
  have dp := tree_deep h
  have bd := bt_deep F.2.2.2.2.1 t.length 0 F.2.1 (by omega)
  unfold prunV
  rw [if_pos h]
  exact ⟨lay_tree (prn_ok _ _ ok) F.2.2.1 F.2.2.2.1 (by omega) (by omega), by rw [lay_len]; omega⟩
/-- what is sorted is right -/
theorem sort_tree {t : List Nd} {m : Int} (h : (treeF t m).2 = 0) : (treeF (sortV t m) m).2 = 0 ∧ (sortV t m).length = t.length := by
  have F := (tree_ok h).1
  have ok := bt_ok F.2.2.2.2.1 t.length 0 F.2.1 (by omega)
  have bs := bt_size F
  have l63 := F.1
  have dp := tree_deep h
  have bd := bt_deep F.2.2.2.2.1 t.length 0 F.2.1 (by omega)
  unfold sortV
  rw [if_pos h]
  exact ⟨lay_tree ok F.2.2.1 F.2.2.2.1 (by omega) (by omega), by rw [lay_len]; omega⟩
/-- what is laid says what it is told -/
theorem lay_eval {T : BT} {r : List Int} (ok : okB (r.length : Int) T) (hz : (treeF (lay T 0) (r.length : Int)).2 = 0) (hr : rowF r = 0) : readyF (lay T 0) r = 0 ∧ evalV (lay T 0) r = evB T r := by
  have hy : readyF (lay T 0) r = 0 := by rw [ready_tree hr]; exact hz
  refine ⟨hy, ?_⟩
  have F := (tree_ok hz).1
  have := bt_ev F.2.2.2.2.1 r (lay T 0).length 0 F.2.1 (by omega)
  rw [bt_of_lay ok] at this
  rw [this]
  unfold evalV
  rw [if_pos hy]
theorem eval_bt {t : List Nd} {r : List Int} (h : readyF t r = 0) : evalV t r = evB (bt t 0) r := by
  have F := (tree_ok (ready_ok h).2).1
  rw [bt_ev F.2.2.2.2.1 r t.length 0 F.2.1 (by omega)]
  unfold evalV
  rw [if_pos h]
/-- pruned, a tree tells the same -/
theorem prun_eval {t : List Nd} {r : List Int} (h : readyF t r = 0) : readyF (prunV t (r.length : Int)) r = 0 ∧ evalV (prunV t (r.length : Int)) r = evalV t r := by
  have hr := (ready_ok h).1
  have hz := (ready_ok h).2
  have F := (tree_ok hz).1
  have ok := bt_ok F.2.2.2.2.1 t.length 0 F.2.1 (by omega)
  have pt := (prun_tree hz).1
  unfold prunV at pt ⊢
  rw [if_pos hz] at pt ⊢
  obtain ⟨e1, e2⟩ := lay_eval (prn_ok _ _ ok) pt hr
  refine ⟨e1, ?_⟩
  rw [e2, eval_bt h]
  exact prn_ev _ _ r ⟨hr, by rw [Int.toNat_natCast]⟩
/-- sorted, too -/
theorem sort_eval {t : List Nd} {r : List Int} (h : readyF t r = 0) : readyF (sortV t (r.length : Int)) r = 0 ∧ evalV (sortV t (r.length : Int)) r = evalV t r := by
  have hr := (ready_ok h).1
  have hz := (ready_ok h).2
  have F := (tree_ok hz).1
  have ok := bt_ok F.2.2.2.2.1 t.length 0 F.2.1 (by omega)
  have pt := (sort_tree hz).1
  unfold sortV at pt ⊢
  rw [if_pos hz] at pt ⊢
  obtain ⟨e1, e2⟩ := lay_eval ok pt hr
  exact ⟨e1, by rw [e2, eval_bt h]⟩
/-- pruned once more it stays -/
theorem prun_again {t : List Nd} {m : Int} (h : (treeF t m).2 = 0) : prunV (prunV t m) m = prunV t m := by
  have F := (tree_ok h).1
  have ok := bt_ok F.2.2.2.2.1 t.length 0 F.2.1 (by omega)
  have pt := (prun_tree h).1
  have e : prunV t m = lay (prn (vld m.toNat) (bt t 0)) 0 := by unfold prunV; rw [if_pos h]
  rw [e] at pt ⊢
  unfold prunV
  rw [if_pos pt, bt_of_lay (prn_ok _ _ ok), prn_again]

end Go.Proofs.YtlloiccodjnkcagGreatDoor.M
