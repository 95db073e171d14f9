/-
  Trees as they are told, not where their nodes lie: laid in order, what they say, and without what is not needed; no condition beyond those named.
-/
import Derived.Test.YtiggkjkjfnlfkaaGreatDoorMathX
namespace Go.Proofs.YtiggkjkjfnlfkaaGreatDoor.M
set_option linter.unusedVariables false

/-- a tree: a leaf, or a question with two sides -/
inductive BT where
  | lf (v : Int)
  | nd (f c : Int) (s : Bool) (l r : BT)
  deriving DecidableEq
def BT.size : BT → Nat
  | .lf _ => 1
  | .nd _ _ _ l r => 1 + l.size + r.size
def BT.deep : BT → Nat
  | .lf _ => 0
  | .nd _ _ _ l r => 1 + max l.deep r.deep
theorem BT.size_pos : ∀ T : BT, 0 < T.size
  | .lf _ => Nat.one_pos
  | .nd _ _ _ _ _ => by unfold BT.size; omega
/-- which way a row goes -/
def goes (f c : Int) (s : Bool) (x : List Int) : Bool := if x.getD f.toNat 0 = nilI then s else decide (x.getD f.toNat 0 < c)
def evB : BT → List Int → Int
  | .lf v, _ => v
  | .nd f c s l r, x => if goes f c s x = true then evB l x else evB r x
/-- numbers that a tree may have -/
def okB (m : Int) : BT → Prop
  | .lf v => outI v = false
  | .nd f c _ l r => 0 ≤ f ∧ f < m ∧ outI c = false ∧ okB m l ∧ okB m r

/-! ### the tree below a place -/
def ofT (t : List Nd) : Nat → Nat → BT
  | 0, _ => .lf 0
  | k + 1, i => if nf (nAt t i) = -1 then .lf (nv (nAt t i)) else .nd (nf (nAt t i)) (nc (nAt t i)) (ns (nAt t i)) (ofT t k (nl (nAt t i)).toNat) (ofT t k (nr (nAt t i)).toNat)
def bt (t : List Nd) (i : Nat) : BT := ofT t t.length i
theorem of_enough {t : List Nd} {m : Int} (h : Right t m) : ∀ (f g i : Nat), i < t.length → t.length ≤ f + i → t.length ≤ g + i → ofT t f i = ofT t g i
  | 0, g, i, hi, hf, hg => by omega
  | f + 1, 0, i, hi, hf, hg => by omega
  | f + 1, g + 1, i, hi, hf, hg => by
    unfold ofT
    by_cases hl : nf (nAt t i) = -1
    · rw [if_pos hl, if_pos hl]
    · rw [if_neg hl, if_neg hl]
      obtain ⟨a, b, ea, eb, h1, h2, h3, h4, _⟩ := ask_at h hi hl
      rw [ea, eb, Int.toNat_natCast, Int.toNat_natCast, of_enough h f g a h2 (by omega) (by omega), of_enough h f g b h4 (by omega) (by omega)]
theorem bt_leaf {t : List Nd} {i : Nat} (hi : i < t.length) (hl : nf (nAt t i) = -1) : bt t i = .lf (nv (nAt t i)) := by
  unfold bt
  obtain ⟨f, e⟩ : ∃ f, t.length = f + 1 := ⟨t.length - 1, by omega⟩
  rw [e]; unfold ofT; rw [if_pos hl]
theorem bt_ask {t : List Nd} {m : Int} (h : Right t m) {i a b : Nat} (hi : i < t.length) (hl : nf (nAt t i) ≠ -1) (ea : nl (nAt t i) = a) (eb : nr (nAt t i) = b) : bt t i = .nd (nf (nAt t i)) (nc (nAt t i)) (ns (nAt t i)) (bt t a) (bt t b) := by
  obtain ⟨a', b', ea', eb', h1, h2, h3, h4, _⟩ := ask_at h hi hl
  have e1 : a' = a := by omega
  have e2 : b' = b := by omega
  subst e1
  subst e2
  unfold bt
  obtain ⟨f, e⟩ : ∃ f, t.length = f + 1 := ⟨t.length - 1, by omega⟩
  conv => lhs; rw [e]
  conv => lhs; unfold ofT
  rw [if_neg hl, ea, eb, Int.toNat_natCast, Int.toNat_natCast, of_enough h f t.length a' h2 (by omega) (by omega), of_enough h f t.length b' h4 (by omega) (by omega)]
theorem bt_ok {t : List Nd} {m : Int} (h : Right t m) : ∀ (k i : Nat), i < t.length → t.length ≤ k + i → okB m (bt t i)
  | 0, i, hi, hk => by omega
  | k + 1, i, hi, hk => by
    by_cases hl : nf (nAt t i) = -1
    · rw [bt_leaf hi hl]
      have := h i hi
      unfold nodeF at this
      rw [if_pos hl] at this
      unfold lfF at this
      show outI _ = false
      cases e : outI (nv (nAt t i)) with
      | false => rfl
      | true => rw [e, if_pos rfl] at this; cases this
    · obtain ⟨a, b, ea, eb, h1, h2, h3, h4, _⟩ := ask_at h hi hl
      obtain ⟨g0, g1, g2, _⟩ := node_ask (h i hi) hl
      rw [bt_ask h hi hl ea eb]
      exact ⟨g0, g1, g2, bt_ok h k a h2 (by omega), bt_ok h k b h4 (by omega)⟩
theorem bt_ev {t : List Nd} {m : Int} (h : Right t m) (x : List Int) : ∀ (k i : Nat), i < t.length → t.length ≤ k + i → evB (bt t i) x = nv (nAt t (toD t x i))
  | 0, i, hi, hk => by omega
  | k + 1, i, hi, hk => by
    by_cases hl : nf (nAt t i) = -1
    · rw [bt_leaf hi hl, to_leaf hi hl]; rfl
    · obtain ⟨a, b, ea, eb, h1, h2, h3, h4, _⟩ := ask_at h hi hl
      rw [bt_ask h hi hl ea eb]
      show (if goes _ _ _ x = true then _ else _) = _
      have gl : goes (nf (nAt t i)) (nc (nAt t i)) (ns (nAt t i)) x = lessC (nAt t i) (x.getD (nf (nAt t i)).toNat 0) := rfl
      rw [gl]
      by_cases q : lessC (nAt t i) (x.getD (nf (nAt t i)).toNat 0) = true
      · rw [if_pos q, bt_ev h x k a h2 (by omega), to_next h hi hl (show nextI (nAt t i) x = a by unfold nextI; rw [if_pos q, ea])]
      · rw [if_neg q, bt_ev h x k b h4 (by omega), to_next h hi hl (show nextI (nAt t i) x = b by unfold nextI; rw [if_neg q, eb])]
theorem bt_deep {t : List Nd} {m : Int} (h : Right t m) : ∀ (k i : Nat), i < t.length → t.length ≤ k + i → (bt t i).deep = depth t i
  | 0, i, hi, hk => by omega
  | k + 1, i, hi, hk => by
    by_cases hl : nf (nAt t i) = -1
    · rw [bt_leaf hi hl, depth_leaf hi hl]; rfl
    · obtain ⟨a, b, ea, eb, h1, h2, h3, h4, _⟩ := ask_at h hi hl
      rw [bt_ask h hi hl ea eb, depth_ask h hi hl ea eb]
      show 1 + max (bt t a).deep (bt t b).deep = _
      rw [bt_deep h k a h2 (by omega), bt_deep h k b h4 (by omega)]
      omega

/-! ### laid in order -/
def lay : BT → Nat → List Nd
  | .lf v, _ => [(-1, 0, 0, 0, false, v)]
  | .nd f c s l r, k => (f, c, ((k + 1 : Nat) : Int), ((k + 1 + l.size : Nat) : Int), s, 0) :: (lay l (k + 1) ++ lay r (k + 1 + l.size))
theorem lay_len : ∀ (T : BT) (k : Nat), (lay T k).length = T.size
  | .lf _, _ => rfl
  | .nd f c s l r, k => by
    unfold lay BT.size
    rw [List.length_cons, List.length_append, lay_len l, lay_len r]; omega
/-- what lies at a place within others -/
theorem at_mid {A B : List Nd} {n : Nd} {C : List Nd} : nAt (A ++ (n :: B) ++ C) A.length = n := by
  unfold nAt; simp [List.getD]
theorem bt_lay : ∀ (T : BT) (A C : List Nd) (f : Nat), (∀ m, okB m T → True) → T.size ≤ f → (∃ m, okB m T) → ofT (A ++ lay T A.length ++ C) f A.length = T
  | .lf v, A, C, 0, _, hf, _ => by unfold BT.size at hf; omega
  | .lf v, A, C, f + 1, _, hf, _ => by
    unfold ofT
    rw [show lay (.lf v) A.length = (-1, 0, 0, 0, false, v) :: [] from rfl, at_mid]
    rfl
  | .nd q c s l r, A, C, 0, _, hf, _ => by unfold BT.size at hf; omega
  | .nd q c s l r, A, C, f + 1, _, hf, ⟨m, hm⟩ => by
    unfold BT.size at hf
    obtain ⟨g0, g1, g2, g3, g4⟩ := hm
    unfold ofT
    rw [show lay (.nd q c s l r) A.length = (q, c, ((A.length + 1 : Nat) : Int), ((A.length + 1 + l.size : Nat) : Int), s, 0) :: (lay l (A.length + 1) ++ lay r (A.length + 1 + l.size)) from rfl, at_mid]
    have hq : nf (q, c, ((A.length + 1 : Nat) : Int), ((A.length + 1 + l.size : Nat) : Int), s, (0 : Int)) ≠ -1 := by show q ≠ -1; omega
    rw [if_neg hq]
    have e1 : A ++ (q, c, ((A.length + 1 : Nat) : Int), ((A.length + 1 + l.size : Nat) : Int), s, 0) :: (lay l (A.length + 1) ++ lay r (A.length + 1 + l.size)) ++ C = (A ++ [(q, c, ((A.length + 1 : Nat) : Int), ((A.length + 1 + l.size : Nat) : Int), s, 0)]) ++ lay l (A ++ [(q, c, ((A.length + 1 : Nat) : Int), ((A.length + 1 + l.size : Nat) : Int), s, (0 : Int))]).length ++ (lay r (A.length + 1 + l.size) ++ C) := by simp
    have e2 : A ++ (q, c, ((A.length + 1 : Nat) : Int), ((A.length + 1 + l.size : Nat) : Int), s, 0) :: (lay l (A.length + 1) ++ lay r (A.length + 1 + l.size)) ++ C = (A ++ (q, c, ((A.length + 1 : Nat) : Int), ((A.length + 1 + l.size : Nat) : Int), s, 0) :: lay l (A.length + 1)) ++ lay r (A ++ (q, c, ((A.length + 1 : Nat) : Int), ((A.length + 1 + l.size : Nat) : Int), s, (0 : Int)) :: lay l (A.length + 1)).length ++ C := by
      have : (A ++ (q, c, ((A.length + 1 : Nat) : Int), ((A.length + 1 + l.size : Nat) : Int), s, (0 : Int)) :: lay l (A.length + 1)).length = A.length + 1 + l.size := by rw [List.length_append, List.length_cons, lay_len]; omega
      rw [this]; simp
    have n1 : (nl (q, c, ((A.length + 1 : Nat) : Int), ((A.length + 1 + l.size : Nat) : Int), s, (0 : Int))).toNat = (A ++ [(q, c, ((A.length + 1 : Nat) : Int), ((A.length + 1 + l.size : Nat) : Int), s, (0 : Int))]).length := by
      show (((A.length + 1 : Nat) : Int)).toNat = _
      rw [Int.toNat_natCast, List.length_append]; rfl
    have n2 : (nr (q, c, ((A.length + 1 : Nat) : Int), ((A.length + 1 + l.size : Nat) : Int), s, (0 : Int))).toNat = (A ++ (q, c, ((A.length + 1 : Nat) : Int), ((A.length + 1 + l.size : Nat) : Int), s, (0 : Int)) :: lay l (A.length + 1)).length := by
      show (((A.length + 1 + l.size : Nat) : Int)).toNat = _
      rw [Int.toNat_natCast, List.length_append, List.length_cons, lay_len]; omega
    rw [n1, n2]
    have i1 := bt_lay l (A ++ [(q, c, ((A.length + 1 : Nat) : Int), ((A.length + 1 + l.size : Nat) : Int), s, (0 : Int))]) (lay r (A.length + 1 + l.size) ++ C) f (fun _ _ => trivial) (by omega) ⟨m, g3⟩
    have i2 := bt_lay r (A ++ (q, c, ((A.length + 1 : Nat) : Int), ((A.length + 1 + l.size : Nat) : Int), s, (0 : Int)) :: lay l (A.length + 1)) C f (fun _ _ => trivial) (by omega) ⟨m, g4⟩
    rw [← e1] at i1
    rw [← e2] at i2
    rw [i1, i2]
    rfl
theorem bt_of_lay {T : BT} {m : Int} (h : okB m T) : bt (lay T 0) 0 = T := by
  have := bt_lay T [] [] (lay T 0).length (fun _ _ => trivial) (by rw [lay_len]; exact Nat.le_refl _) ⟨m, h⟩
  simpa [bt] using this

/-! ### without what is not needed -/
def joinB (f c : Int) (s : Bool) : BT → BT → BT
  | .lf v, .lf u => if v = u then .lf v else .nd f c s (.lf v) (.lf u)
  | l, r => .nd f c s l r
open Classical in
/-- of those rows -/
noncomputable def prn (P : List Int → Prop) : BT → BT
  | .lf v => .lf v
  | .nd f c s l r =>
    if ¬ ∃ x, P x ∧ goes f c s x = true then prn P r
    else if ¬ ∃ x, P x ∧ goes f c s x = false then prn P l
    else joinB f c s (prn (fun x => P x ∧ goes f c s x = true) l) (prn (fun x => P x ∧ goes f c s x = false) r)
theorem prn_congr {P Q : List Int → Prop} (h : ∀ x, P x ↔ Q x) (T : BT) : prn P T = prn Q T := by
  have e : P = Q := funext fun x => propext (h x)
  rw [e]
theorem prn_left {P : List Int → Prop} {f c : Int} {s : Bool} {l r : BT} (h : ¬ ∃ x, P x ∧ goes f c s x = true) : prn P (.nd f c s l r) = prn (fun x => P x ∧ goes f c s x = false) r := by
  conv => lhs; unfold prn
  rw [if_pos h]
  refine prn_congr (fun x => ⟨fun q => ⟨q, ?_⟩, fun q => q.1⟩) r
  cases e : goes f c s x with
  | false => rfl
  | true => exact absurd ⟨x, q, e⟩ h
theorem prn_right {P : List Int → Prop} {f c : Int} {s : Bool} {l r : BT} (h0 : ∃ x, P x ∧ goes f c s x = true) (h : ¬ ∃ x, P x ∧ goes f c s x = false) : prn P (.nd f c s l r) = prn (fun x => P x ∧ goes f c s x = true) l := by
  conv => lhs; unfold prn
  rw [if_neg (fun q => q h0), if_pos h]
  refine prn_congr (fun x => ⟨fun q => ⟨q, ?_⟩, fun q => q.1⟩) l
  cases e : goes f c s x with
  | true => rfl
  | false => exact absurd ⟨x, q, e⟩ h
theorem prn_both {P : List Int → Prop} {f c : Int} {s : Bool} {l r : BT} (h0 : ∃ x, P x ∧ goes f c s x = true) (h : ∃ x, P x ∧ goes f c s x = false) : prn P (.nd f c s l r) = joinB f c s (prn (fun x => P x ∧ goes f c s x = true) l) (prn (fun x => P x ∧ goes f c s x = false) r) := by
  conv => lhs; unfold prn
  rw [if_neg (fun q => q h0), if_neg (fun q => q h)]
/-- what becomes of a tree hangs on what becomes of its sides alone -/
theorem prn_sides {P : List Int → Prop} {f c : Int} {s : Bool} {l r l' r' : BT} (hl : prn (fun x => P x ∧ goes f c s x = true) l = prn (fun x => P x ∧ goes f c s x = true) l') (hr : prn (fun x => P x ∧ goes f c s x = false) r = prn (fun x => P x ∧ goes f c s x = false) r') : prn P (.nd f c s l r) = prn P (.nd f c s l' r') := by
  by_cases h0 : ∃ x, P x ∧ goes f c s x = true
  · by_cases h1 : ∃ x, P x ∧ goes f c s x = false
    · rw [prn_both h0 h1, prn_both h0 h1, hl, hr]
    · rw [prn_right h0 h1, prn_right h0 h1, hl]
  · rw [prn_left h0, prn_left h0, hr]
theorem joinB_ev (f c : Int) (s : Bool) (l r : BT) (x : List Int) : evB (joinB f c s l r) x = if goes f c s x = true then evB l x else evB r x := by
  unfold joinB
  split
  · rename_i v u
    by_cases e : v = u
    · subst e; rw [if_pos rfl]; show v = if _ then v else v; split <;> rfl
    · rw [if_neg e]; rfl
  · rfl
/-- it tells the same of those rows -/
theorem prn_ev : ∀ (T : BT) (P : List Int → Prop) (x : List Int), P x → evB (prn P T) x = evB T x
  | .lf v, P, x, h => rfl
  | .nd f c s l r, P, x, h => by
    show _ = if goes f c s x = true then evB l x else evB r x
    by_cases h0 : ∃ x, P x ∧ goes f c s x = true
    · by_cases h1 : ∃ x, P x ∧ goes f c s x = false
      · rw [prn_both h0 h1, joinB_ev]
        cases e : goes f c s x with
        | true => rw [if_pos rfl, if_pos rfl]; exact prn_ev l _ x ⟨h, e⟩
        | false => rw [if_neg (by decide), if_neg (by decide)]; exact prn_ev r _ x ⟨h, e⟩
      · rw [prn_right h0 h1]
        cases e : goes f c s x with
        | true => rw [if_pos rfl]; exact prn_ev l _ x ⟨h, e⟩
        | false => exact absurd ⟨x, h, e⟩ h1
    · rw [prn_left h0]
      cases e : goes f c s x with
      | true => exact absurd ⟨x, h, e⟩ h0
      | false => rw [if_neg (by decide)]; exact prn_ev r _ x ⟨h, e⟩
theorem joinB_size (f c : Int) (s : Bool) (l r : BT) : (joinB f c s l r).size ≤ 1 + l.size + r.size ∧ (joinB f c s l r).deep ≤ 1 + max l.deep r.deep := by
  unfold joinB
  split
  · rename_i v u
    by_cases e : v = u
    · rw [if_pos e]; unfold BT.size BT.deep; omega
    · rw [if_neg e]; exact ⟨Nat.le_refl _, Nat.le_refl _⟩
  · exact ⟨Nat.le_refl _, Nat.le_refl _⟩
theorem prn_size : ∀ (T : BT) (P : List Int → Prop), (prn P T).size ≤ T.size ∧ (prn P T).deep ≤ T.deep
  | .lf v, P => ⟨Nat.le_refl _, Nat.le_refl _⟩
  | .nd f c s l r, P => by
    have e1 : (BT.nd f c s l r).size = 1 + l.size + r.size := rfl
    have e2 : (BT.nd f c s l r).deep = 1 + max l.deep r.deep := rfl
    rw [e1, e2]
    by_cases h0 : ∃ x, P x ∧ goes f c s x = true
    · by_cases h1 : ∃ x, P x ∧ goes f c s x = false
      · rw [prn_both h0 h1]
        have j := joinB_size f c s (prn (fun x => P x ∧ goes f c s x = true) l) (prn (fun x => P x ∧ goes f c s x = false) r)
        have a := prn_size l (fun x => P x ∧ goes f c s x = true)
        have b := prn_size r (fun x => P x ∧ goes f c s x = false)
        omega
      · rw [prn_right h0 h1]
        have a := prn_size l (fun x => P x ∧ goes f c s x = true)
        omega
    · rw [prn_left h0]
      have b := prn_size r (fun x => P x ∧ goes f c s x = false)
      omega
theorem joinB_ok {m f c : Int} {s : Bool} {l r : BT} (h0 : 0 ≤ f) (h1 : f < m) (h2 : outI c = false) (hl : okB m l) (hr : okB m r) : okB m (joinB f c s l r) := by
  unfold joinB
  split
  · rename_i v u
    by_cases e : v = u
    · rw [if_pos e]; exact hl
    · rw [if_neg e]; exact ⟨h0, h1, h2, hl, hr⟩
  · exact ⟨h0, h1, h2, hl, hr⟩
theorem prn_ok {m : Int} : ∀ (T : BT) (P : List Int → Prop), okB m T → okB m (prn P T)
  | .lf v, P, h => h
  | .nd f c s l r, P, ⟨g0, g1, g2, g3, g4⟩ => by
    by_cases h0 : ∃ x, P x ∧ goes f c s x = true
    · by_cases h1 : ∃ x, P x ∧ goes f c s x = false
      · rw [prn_both h0 h1]
        exact joinB_ok g0 g1 g2 (prn_ok l _ g3) (prn_ok r _ g4)
      · rw [prn_right h0 h1]; exact prn_ok l _ g3
    · rw [prn_left h0]; exact prn_ok r _ g4

/-- nothing more can be left out -/
def Bare (P : List Int → Prop) : BT → Prop
  | .lf _ => True
  | .nd f c s l r => (∃ x, P x ∧ goes f c s x = true) ∧ (∃ x, P x ∧ goes f c s x = false) ∧ (∀ v, ¬ (l = .lf v ∧ r = .lf v)) ∧ Bare (fun x => P x ∧ goes f c s x = true) l ∧ Bare (fun x => P x ∧ goes f c s x = false) r
theorem joinB_plain {f c : Int} {s : Bool} {l r : BT} (h : ∀ v, ¬ (l = .lf v ∧ r = .lf v)) : joinB f c s l r = .nd f c s l r := by
  unfold joinB
  split
  · rename_i v u
    by_cases e : v = u
    · exact absurd ⟨rfl, by rw [e]⟩ (h v)
    · rw [if_neg e]
  · rfl
/-- .. then it stays -/
theorem prn_bare : ∀ (T : BT) (P : List Int → Prop), Bare P T → prn P T = T
  | .lf v, P, h => rfl
  | .nd f c s l r, P, ⟨h0, h1, h2, h3, h4⟩ => by
    rw [prn_both h0 h1, prn_bare l _ h3, prn_bare r _ h4, joinB_plain h2]
theorem joinB_bare {P : List Int → Prop} {f c : Int} {s : Bool} {l r : BT} (h0 : ∃ x, P x ∧ goes f c s x = true) (h1 : ∃ x, P x ∧ goes f c s x = false) (hl : Bare (fun x => P x ∧ goes f c s x = true) l) (hr : Bare (fun x => P x ∧ goes f c s x = false) r) : Bare P (joinB f c s l r) := by
  unfold joinB
  split
  · rename_i v u
    by_cases e : v = u
    · rw [if_pos e]; exact trivial
    · rw [if_neg e]
      refine ⟨h0, h1, fun w q => ?_, trivial, trivial⟩
      obtain ⟨q1, q2⟩ := q
      cases q1
      cases q2
      exact e rfl
  · rename_i h
    exact ⟨h0, h1, fun v q => h v v q.1 q.2, hl, hr⟩
/-- what comes is so -/
theorem bare_prn : ∀ (T : BT) (P : List Int → Prop), Bare P (prn P T)
  | .lf v, P => trivial
  | .nd f c s l r, P => by
    by_cases h0 : ∃ x, P x ∧ goes f c s x = true
    · by_cases h1 : ∃ x, P x ∧ goes f c s x = false
      · rw [prn_both h0 h1]
        exact joinB_bare h0 h1 (bare_prn l _) (bare_prn r _)
      · have e : (fun x => P x ∧ goes f c s x = true) = P := funext fun x => propext ⟨fun q => q.1, fun q => ⟨q, by
          cases e : goes f c s x with
          | true => rfl
          | false => exact absurd ⟨x, q, e⟩ h1⟩⟩
        rw [prn_right h0 h1, e]
        exact bare_prn l P
    · have e : (fun x => P x ∧ goes f c s x = false) = P := funext fun x => propext ⟨fun q => q.1, fun q => ⟨q, by
        cases e : goes f c s x with
        | false => rfl
        | true => exact absurd ⟨x, q, e⟩ h0⟩⟩
      rw [prn_left h0, e]
      exact bare_prn r P
/-- pruned once more it stays -/
theorem prn_again (P : List Int → Prop) (T : BT) : prn P (prn P T) = prn P T := prn_bare _ _ (bare_prn T P)

/-- all leaves say one thing -/
def allV (v : Int) : BT → Prop
  | .lf u => u = v
  | .nd _ _ _ l r => allV v l ∧ allV v r
theorem prn_one : ∀ (T : BT) (P : List Int → Prop) (v : Int), allV v T → prn P T = .lf v
  | .lf u, P, v, h => by
    have e : u = v := h
    subst e
    rfl
  | .nd f c s l r, P, v, ⟨h1, h2⟩ => by
    by_cases q0 : ∃ x, P x ∧ goes f c s x = true
    · by_cases q1 : ∃ x, P x ∧ goes f c s x = false
      · rw [prn_both q0 q1, prn_one l _ v h1, prn_one r _ v h2]
        show (if v = v then BT.lf v else _) = _
        rw [if_pos rfl]
      · rw [prn_right q0 q1]; exact prn_one l _ v h1
    · rw [prn_left q0]; exact prn_one r _ v h2

end Go.Proofs.YtiggkjkjfnlfkaaGreatDoor.M
