/-
  Several texts as one: MathD, MathE, MathA, MathI, MathSa, MathSb.
-/
import Derived.Test.YtelncekgjfpogahGreatDoorRunT4
namespace Go.Proofs.YtelncekgjfpogahGreatDoor.M
set_option linter.unusedVariables false
inductive BT where
 | lf (v : Int)
 | nd (f c : Int) (s : Bool) (l r : BT)
 deriving DecidableEq
def BT.size : BT → Nat
 | .lf _ => 1
 | .nd _ _ _ l r => 1 + l.size + r.size
def BT.deep : BT → Nat
 | .lf _ => 0
 | .nd _ _ _ l r => 1 + max l.deep r.deep
theorem BT.size_pos : ∀ T : BT, 0 < T.size
 | .lf _ => Nat.one_pos
 | .nd _ _ _ _ _ => by unfold BT.size; omega
def goes (f c : Int) (s : Bool) (x : List Int) : Bool := if x.getD f.toNat 0 = nilI then s else decide (x.getD f.toNat 0 < c)
def evB : BT → List Int → Int
 | .lf v, _ => v
 | .nd f c s l r, x => if goes f c s x = true then evB l x else evB r x
def okB (m : Int) : BT → Prop
 | .lf v => outI v = false
 | .nd f c _ l r => 0 ≤ f ∧ f < m ∧ outI c = false ∧ okB m l ∧ okB m r
def ofT (t : List Nd) : Nat → Nat → BT
 | 0, _ => .lf 0
 | k + 1, i => if nf (nAt t i) = -1 then .lf (nv (nAt t i)) else .nd (nf (nAt t i)) (nc (nAt t i)) (ns (nAt t i)) (ofT t k (nl (nAt t i)).toNat) (ofT t k (nr (nAt t i)).toNat)
def bt (t : List Nd) (i : Nat) : BT := ofT t t.length i
theorem of_enough {t : List Nd} {m : Int} (h : Right t m) : ∀ (f g i : Nat), i < t.length → t.length ≤ f + i → t.length ≤ g + i → ofT t f i = ofT t g i
 | 0, g, i, hi, hf, hg => by omega
 | f + 1, 0, i, hi, hf, hg => by omega
 | f + 1, g + 1, i, hi, hf, hg => by
   unfold ofT
   by_cases hl : nf (nAt t i) = -1
   · rw [if_pos hl, if_pos hl]
   · rw [if_neg hl, if_neg hl]
     obtain ⟨a, b, ea, eb, h1, h2, h3, h4, _⟩ := ask_at h hi hl
     rw [ea, eb, Int.toNat_natCast, Int.toNat_natCast, of_enough h f g a h2 (by omega) (by omega), of_enough h f g b h4 (by omega) (by omega)]
theorem bt_leaf {t : List Nd} {i : Nat} (hi : i < t.length) (hl : nf (nAt t i) = -1) : bt t i = .lf (nv (nAt t i)) := by
 unfold bt
 obtain ⟨f, e⟩ : ∃ f, t.length = f + 1 := ⟨t.length - 1, by omega⟩
 rw [e]; unfold ofT; rw [if_pos hl]
theorem bt_ask {t : List Nd} {m : Int} (h : Right t m) {i a b : Nat} (hi : i < t.length) (hl : nf (nAt t i) ≠ -1) (ea : nl (nAt t i) = a) (eb : nr (nAt t i) = b) : bt t i = .nd (nf (nAt t i)) (nc (nAt t i)) (ns (nAt t i)) (bt t a) (bt t b) := by
 obtain ⟨a', b', ea', eb', h1, h2, h3, h4, _⟩ := ask_at h hi hl
 have e1 : a' = a := by omega
 have e2 : b' = b := by omega
 subst e1
 subst e2
 unfold bt
 obtain ⟨f, e⟩ : ∃ f, t.length = f + 1 := ⟨t.length - 1, by omega⟩
 conv => lhs; rw [e]
 conv => lhs; unfold ofT
 rw [if_neg hl, ea, eb, Int.toNat_natCast, Int.toNat_natCast, of_enough h f t.length a' h2 (by omega) (by omega), of_enough h f t.length b' h4 (by omega) (by omega)]
theorem bt_ok {t : List Nd} {m : Int} (h : Right t m) : ∀ (k i : Nat), i < t.length → t.length ≤ k + i → okB m (bt t i)
 | 0, i, hi, hk => by omega
 | k + 1, i, hi, hk => by
   by_cases hl : nf (nAt t i) = -1
   · rw [bt_leaf hi hl]
     have := h i hi
     unfold nodeF at this
     rw [if_pos hl] at this
     unfold lfF at this
     show outI _ = false
     cases e : outI (nv (nAt t i)) with
     | false => rfl
     | true => rw [e, if_pos rfl] at this; cases this
   · obtain ⟨a, b, ea, eb, h1, h2, h3, h4, _⟩ := ask_at h hi hl
     obtain ⟨g0, g1, g2, _⟩ := node_ask (h i hi) hl
     rw [bt_ask h hi hl ea eb]
     exact ⟨g0, g1, g2, bt_ok h k a h2 (by omega), bt_ok h k b h4 (by omega)⟩
theorem bt_ev {t : List Nd} {m : Int} (h : Right t m) (x : List Int) : ∀ (k i : Nat), i < t.length → t.length ≤ k + i → evB (bt t i) x = nv (nAt t (toD t x i))
 | 0, i, hi, hk => by omega
 | k + 1, i, hi, hk => by
   by_cases hl : nf (nAt t i) = -1
   · rw [bt_leaf hi hl, to_leaf hi hl]; rfl
   · obtain ⟨a, b, ea, eb, h1, h2, h3, h4, _⟩ := ask_at h hi hl
     rw [bt_ask h hi hl ea eb]
     show (if goes _ _ _ x = true then _ else _) = _
     have gl : goes (nf (nAt t i)) (nc (nAt t i)) (ns (nAt t i)) x = lessC (nAt t i) (x.getD (nf (nAt t i)).toNat 0) := rfl
     rw [gl]
     by_cases q : lessC (nAt t i) (x.getD (nf (nAt t i)).toNat 0) = true
     · rw [if_pos q, bt_ev h x k a h2 (by omega), to_next h hi hl (show nextI (nAt t i) x = a by unfold nextI; rw [if_pos q, ea])]
     · rw [if_neg q, bt_ev h x k b h4 (by omega), to_next h hi hl (show nextI (nAt t i) x = b by unfold nextI; rw [if_neg q, eb])]
theorem bt_deep {t : List Nd} {m : Int} (h : Right t m) : ∀ (k i : Nat), i < t.length → t.length ≤ k + i → (bt t i).deep = depth t i
 | 0, i, hi, hk => by omega
 | k + 1, i, hi, hk => by
   by_cases hl : nf (nAt t i) = -1
   · rw [bt_leaf hi hl, depth_leaf hi hl]; rfl
   · obtain ⟨a, b, ea, eb, h1, h2, h3, h4, _⟩ := ask_at h hi hl
     rw [bt_ask h hi hl ea eb, depth_ask h hi hl ea eb]
     show 1 + max (bt t a).deep (bt t b).deep = _
     rw [bt_deep h k a h2 (by omega), bt_deep h k b h4 (by omega)]
     omega
def lay : BT → Nat → List Nd
 | .lf v, _ => [(-1, 0, 0, 0, false, v)]
 | .nd f c s l r, k => (f, c, ((k + 1 : Nat) : Int), ((k + 1 + l.size : Nat) : Int), s, 0) :: (lay l (k + 1) ++ lay r (k + 1 + l.size))
theorem lay_len : ∀ (T : BT) (k : Nat), (lay T k).length = T.size
 | .lf _, _ => rfl
 | .nd f c s l r, k => by
   unfold lay BT.size
   rw [List.length_cons, List.length_append, lay_len l, lay_len r]; omega
theorem at_mid {A B : List Nd} {n : Nd} {C : List Nd} : nAt (A ++ (n :: B) ++ C) A.length = n := by
 unfold nAt; simp [List.getD]
theorem bt_lay : ∀ (T : BT) (A C : List Nd) (f : Nat), (∀ m, okB m T → True) → T.size ≤ f → (∃ m, okB m T) → ofT (A ++ lay T A.length ++ C) f A.length = T
 | .lf v, A, C, 0, _, hf, _ => by unfold BT.size at hf; omega
 | .lf v, A, C, f + 1, _, hf, _ => by
   unfold ofT
   rw [show lay (.lf v) A.length = (-1, 0, 0, 0, false, v) :: [] from rfl, at_mid]
   rfl
 | .nd q c s l r, A, C, 0, _, hf, _ => by unfold BT.size at hf; omega
 | .nd q c s l r, A, C, f + 1, _, hf, ⟨m, hm⟩ => by
   unfold BT.size at hf
   obtain ⟨g0, g1, g2, g3, g4⟩ := hm
   unfold ofT
   rw [show lay (.nd q c s l r) A.length = (q, c, ((A.length + 1 : Nat) : Int), ((A.length + 1 + l.size : Nat) : Int), s, 0) :: (lay l (A.length + 1) ++ lay r (A.length + 1 + l.size)) from rfl, at_mid]
   have hq : nf (q, c, ((A.length + 1 : Nat) : Int), ((A.length + 1 + l.size : Nat) : Int), s, (0 : Int)) ≠ -1 := by show q ≠ -1; omega
   rw [if_neg hq]
   have e1 : A ++ (q, c, ((A.length + 1 : Nat) : Int), ((A.length + 1 + l.size : Nat) : Int), s, 0) :: (lay l (A.length + 1) ++ lay r (A.length + 1 + l.size)) ++ C = (A ++ [(q, c, ((A.length + 1 : Nat) : Int), ((A.length + 1 + l.size : Nat) : Int), s, 0)]) ++ lay l (A ++ [(q, c, ((A.length + 1 : Nat) : Int), ((A.length + 1 + l.size : Nat) : Int), s, (0 : Int))]).length ++ (lay r (A.length + 1 + l.size) ++ C) := by simp
   have e2 : A ++ (q, c, ((A.length + 1 : Nat) : Int), ((A.length + 1 + l.size : Nat) : Int), s, 0) :: (lay l (A.length + 1) ++ lay r (A.length + 1 + l.size)) ++ C = (A ++ (q, c, ((A.length + 1 : Nat) : Int), ((A.length + 1 + l.size : Nat) : Int), s, 0) :: lay l (A.length + 1)) ++ lay r (A ++ (q, c, ((A.length + 1 : Nat) : Int), ((A.length + 1 + l.size : Nat) : Int), s, (0 : Int)) :: lay l (A.length + 1)).length ++ C := by
    have : (A ++ (q, c, ((A.length + 1 : Nat) : Int), ((A.length + 1 + l.size : Nat) : Int), s, (0 : Int)) :: lay l (A.length + 1)).length = A.length + 1 + l.size := by rw [List.length_append, List.length_cons, lay_len]; omega
    rw [this]; simp
   have n1 : (nl (q, c, ((A.length + 1 : Nat) : Int), ((A.length + 1 + l.size : Nat) : Int), s, (0 : Int))).toNat = (A ++ [(q, c, ((A.length + 1 : Nat) : Int), ((A.length + 1 + l.size : Nat) : Int), s, (0 : Int))]).length := by
    show (((A.length + 1 : Nat) : Int)).toNat = _
    rw [Int.toNat_natCast, List.length_append]; rfl
   have n2 : (nr (q, c, ((A.length + 1 : Nat) : Int), ((A.length + 1 + l.size : Nat) : Int), s, (0 : Int))).toNat = (A ++ (q, c, ((A.length + 1 : Nat) : Int), ((A.length + 1 + l.size : Nat) : Int), s, (0 : Int)) :: lay l (A.length + 1)).length := by
    show (((A.length + 1 + l.size : Nat) : Int)).toNat = _
    rw [Int.toNat_natCast, List.length_append, List.length_cons, lay_len]; omega
   rw [n1, n2]
   have i1 := bt_lay l (A ++ [(q, c, ((A.length + 1 : Nat) : Int), ((A.length + 1 + l.size : Nat) : Int), s, (0 : Int))]) (lay r (A.length + 1 + l.size) ++ C) f (fun _ _ => trivial) (by omega) ⟨m, g3⟩
   have i2 := bt_lay r (A ++ (q, c, ((A.length + 1 : Nat) : Int), ((A.length + 1 + l.size : Nat) : Int), s, (0 : Int)) :: lay l (A.length + 1)) C f (fun _ _ => trivial) (by omega) ⟨m, g4⟩
   rw [← e1] at i1
   rw [← e2] at i2
   rw [i1, i2]
   rfl
theorem bt_of_lay {T : BT} {m : Int} (h : okB m T) : bt (lay T 0) 0 = T := by
 have := bt_lay T [] [] (lay T 0).length (fun _ _ => trivial) (by rw [lay_len]; exact Nat.le_refl _) ⟨m, h⟩
 simpa [bt] using this
def joinB (f c : Int) (s : Bool) : BT → BT → BT
 | .lf v, .lf u => if v = u then .lf v else .nd f c s (.lf v) (.lf u)
 | l, r => .nd f c s l r
open Classical in
noncomputable def prn (P : List Int → Prop) : BT → BT
 | .lf v => .lf v
 | .nd f c s l r =>
   if ¬ ∃ x, P x ∧ goes f c s x = true then prn P r
   else if ¬ ∃ x, P x ∧ goes f c s x = false then prn P l
   else joinB f c s (prn (fun x => P x ∧ goes f c s x = true) l) (prn (fun x => P x ∧ goes f c s x = false) r)
theorem prn_congr {P Q : List Int → Prop} (h : ∀ x, P x ↔ Q x) (T : BT) : prn P T = prn Q T := by
 have e : P = Q := funext fun x => propext (h x)
 rw [e]
theorem prn_left {P : List Int → Prop} {f c : Int} {s : Bool} {l r : BT} (h : ¬ ∃ x, P x ∧ goes f c s x = true) : prn P (.nd f c s l r) = prn (fun x => P x ∧ goes f c s x = false) r := by
 conv => lhs; unfold prn
 rw [if_pos h]
 refine prn_congr (fun x => ⟨fun q => ⟨q, ?_⟩, fun q => q.1⟩) r
 cases e : goes f c s x with
 | false => rfl
 | true => exact absurd ⟨x, q, e⟩ h
theorem prn_right {P : List Int → Prop} {f c : Int} {s : Bool} {l r : BT} (h0 : ∃ x, P x ∧ goes f c s x = true) (h : ¬ ∃ x, P x ∧ goes f c s x = false) : prn P (.nd f c s l r) = prn (fun x => P x ∧ goes f c s x = true) l := by
 conv => lhs; unfold prn
 rw [if_neg (fun q => q h0), if_pos h]
 refine prn_congr (fun x => ⟨fun q => ⟨q, ?_⟩, fun q => q.1⟩) l
 cases e : goes f c s x with
 | true => rfl
 | false => exact absurd ⟨x, q, e⟩ h
theorem prn_both {P : List Int → Prop} {f c : Int} {s : Bool} {l r : BT} (h0 : ∃ x, P x ∧ goes f c s x = true) (h : ∃ x, P x ∧ goes f c s x = false) : prn P (.nd f c s l r) = joinB f c s (prn (fun x => P x ∧ goes f c s x = true) l) (prn (fun x => P x ∧ goes f c s x = false) r) := by
 conv => lhs; unfold prn
 rw [if_neg (fun q => q h0), if_neg (fun q => q h)]
theorem joinB_ev (f c : Int) (s : Bool) (l r : BT) (x : List Int) : evB (joinB f c s l r) x = if goes f c s x = true then evB l x else evB r x := by
 unfold joinB
 split
 · rename_i v u
   by_cases e : v = u
   · subst e; rw [if_pos rfl]; show v = if _ then v else v; split <;> rfl
   · rw [if_neg e]; rfl
 · rfl
theorem prn_ev : ∀ (T : BT) (P : List Int → Prop) (x : List Int), P x → evB (prn P T) x = evB T x
 | .lf v, P, x, h => rfl
 | .nd f c s l r, P, x, h => by
   show _ = if goes f c s x = true then evB l x else evB r x
   by_cases h0 : ∃ x, P x ∧ goes f c s x = true
   · by_cases h1 : ∃ x, P x ∧ goes f c s x = false
     · rw [prn_both h0 h1, joinB_ev]
       cases e : goes f c s x with
       | true => rw [if_pos rfl, if_pos rfl]; exact prn_ev l _ x ⟨h, e⟩
       | false => rw [if_neg (by decide), if_neg (by decide)]; exact prn_ev r _ x ⟨h, e⟩
     · rw [prn_right h0 h1]
       cases e : goes f c s x with
       | true => rw [if_pos rfl]; exact prn_ev l _ x ⟨h, e⟩
       | false => exact absurd ⟨x, h, e⟩ h1
   · rw [prn_left h0]
     cases e : goes f c s x with
     | true => exact absurd ⟨x, h, e⟩ h0
     | false => rw [if_neg (by decide)]; exact prn_ev r _ x ⟨h, e⟩
theorem joinB_size (f c : Int) (s : Bool) (l r : BT) : (joinB f c s l r).size ≤ 1 + l.size + r.size ∧ (joinB f c s l r).deep ≤ 1 + max l.deep r.deep := by
 unfold joinB
 split
 · rename_i v u
   by_cases e : v = u
   · rw [if_pos e]; unfold BT.size BT.deep; omega
   · rw [if_neg e]; exact ⟨Nat.le_refl _, Nat.le_refl _⟩
 · exact ⟨Nat.le_refl _, Nat.le_refl _⟩
theorem prn_size : ∀ (T : BT) (P : List Int → Prop), (prn P T).size ≤ T.size ∧ (prn P T).deep ≤ T.deep
 | .lf v, P => ⟨Nat.le_refl _, Nat.le_refl _⟩
 | .nd f c s l r, P => by
   have e1 : (BT.nd f c s l r).size = 1 + l.size + r.size := rfl
   have e2 : (BT.nd f c s l r).deep = 1 + max l.deep r.deep := rfl
   rw [e1, e2]
   by_cases h0 : ∃ x, P x ∧ goes f c s x = true
   · by_cases h1 : ∃ x, P x ∧ goes f c s x = false
     · rw [prn_both h0 h1]
       have j := joinB_size f c s (prn (fun x => P x ∧ goes f c s x = true) l) (prn (fun x => P x ∧ goes f c s x = false) r)
       have a := prn_size l (fun x => P x ∧ goes f c s x = true)
       have b := prn_size r (fun x => P x ∧ goes f c s x = false)
       omega
     · rw [prn_right h0 h1]
       have a := prn_size l (fun x => P x ∧ goes f c s x = true)
       omega
   · rw [prn_left h0]
     have b := prn_size r (fun x => P x ∧ goes f c s x = false)
     omega
theorem joinB_ok {m f c : Int} {s : Bool} {l r : BT} (h0 : 0 ≤ f) (h1 : f < m) (h2 : outI c = false) (hl : okB m l) (hr : okB m r) : okB m (joinB f c s l r) := by
 unfold joinB
 split
 · rename_i v u
   by_cases e : v = u
   · rw [if_pos e]; exact hl
   · rw [if_neg e]; exact ⟨h0, h1, h2, hl, hr⟩
 · exact ⟨h0, h1, h2, hl, hr⟩
theorem prn_ok {m : Int} : ∀ (T : BT) (P : List Int → Prop), okB m T → okB m (prn P T)
 | .lf v, P, h => h
 | .nd f c s l r, P, ⟨g0, g1, g2, g3, g4⟩ => by
   by_cases h0 : ∃ x, P x ∧ goes f c s x = true
   · by_cases h1 : ∃ x, P x ∧ goes f c s x = false
     · rw [prn_both h0 h1]
       exact joinB_ok g0 g1 g2 (prn_ok l _ g3) (prn_ok r _ g4)
     · rw [prn_right h0 h1]; exact prn_ok l _ g3
   · rw [prn_left h0]; exact prn_ok r _ g4
theorem joinB_plain {f c : Int} {s : Bool} {l r : BT} (h : ∀ v, ¬ (l = .lf v ∧ r = .lf v)) : joinB f c s l r = .nd f c s l r := by
 unfold joinB
 split
 · rename_i v u
   by_cases e : v = u
   · exact absurd ⟨rfl, by rw [e]⟩ (h v)
   · rw [if_neg e]
 · rfl
theorem ups_cons (n : Nd) (t : List Nd) (i : Int) : ups (n :: t) i = edge i n + ups t i := by unfold ups; simp
theorem ups_append (a b : List Nd) (i : Int) : ups (a ++ b) i = ups a i + ups b i := by unfold ups; simp
theorem edge_at (f c : Int) (s : Bool) (a b p : Nat) (hf : f ≠ -1) : edge (p : Int) (f, c, (a : Int), (b : Int), s, 0) = (if a = p then 1 else 0) + (if b = p then 1 else 0) := by
 unfold edge
 rw [if_neg (show nf (f, c, (a : Int), (b : Int), s, (0 : Int)) ≠ -1 from hf)]
 show (if (a : Int) = (p : Int) then 1 else 0) + (if (b : Int) = (p : Int) then 1 else 0) = _
 have h1 : ((a : Int) = (p : Int)) ↔ a = p := by omega
 have h2 : ((b : Int) = (p : Int)) ↔ b = p := by omega
 simp only [h1, h2]
theorem ups_lay {m : Int} : ∀ (T : BT) (k p : Nat), okB m T → ups (lay T k) (p : Int) = if k < p ∧ p < k + T.size then 1 else 0
 | .lf v, k, p, h => by
   have e : ups (lay (.lf v) k) (p : Int) = 0 := rfl
   rw [e, if_neg (by show ¬ (k < p ∧ p < k + 1); omega)]
 | .nd f c s l r, k, p, ⟨g0, g1, g2, g3, g4⟩ => by
   have e : lay (.nd f c s l r) k = (f, c, ((k + 1 : Nat) : Int), ((k + 1 + l.size : Nat) : Int), s, 0) :: (lay l (k + 1) ++ lay r (k + 1 + l.size)) := rfl
   have z1 := l.size_pos
   have z2 := r.size_pos
   rw [e, ups_cons, ups_append, edge_at f c s (k + 1) (k + 1 + l.size) p (by omega), ups_lay l (k + 1) p g3, ups_lay r (k + 1 + l.size) p g4]
   show _ = if k < p ∧ p < k + (1 + l.size + r.size) then 1 else 0
   repeat' split
   all_goals omega
theorem node_lay {m : Int} : ∀ (T : BT) (k N : Nat), okB m T → k + T.size ≤ N → ∀ j, j < T.size → nodeF (nAt (lay T k) j) (k + j) N m = 0
 | .lf v, k, N, h, hN, j, hj => by
   have hj' : j < 1 := hj
   obtain rfl : j = 0 := by omega
   have h' : outI v = false := h
   show nodeF (-1, 0, 0, 0, false, v) _ _ _ = 0
   unfold nodeF
   rw [if_pos (show nf (-1, 0, 0, 0, false, v) = -1 from rfl)]
   unfold lfF
   rw [if_neg (by show ¬ outI v = true; rw [h']; decide), if_neg (by simp [nc, nl, nr, ns])]
 | .nd f c s l r, k, N, ⟨g0, g1, g2, g3, g4⟩, hN, j, hj => by
   have z1 := l.size_pos
   have z2 := r.size_pos
   have es : (BT.nd f c s l r).size = 1 + l.size + r.size := rfl
   rw [es] at hN hj
   have e : lay (.nd f c s l r) k = (f, c, ((k + 1 : Nat) : Int), ((k + 1 + l.size : Nat) : Int), s, 0) :: (lay l (k + 1) ++ lay r (k + 1 + l.size)) := rfl
   rw [e]
   rcases j with _ | j
   · show nodeF (f, c, ((k + 1 : Nat) : Int), ((k + 1 + l.size : Nat) : Int), s, 0) _ _ _ = 0
     unfold nodeF
     rw [if_neg (show nf (f, c, ((k + 1 : Nat) : Int), ((k + 1 + l.size : Nat) : Int), s, (0 : Int)) ≠ -1 by show f ≠ -1; omega)]
     unfold asF
     rw [if_neg, if_neg]
     · show ¬ ((0 : Int) ≠ 0 ∨ ((k + 1 : Nat) : Int) = ((k + 1 + l.size : Nat) : Int))
       omega
     · show ¬ (f < 0 ∨ m ≤ f ∨ outI c = true ∨ inB ((k + 1 : Nat) : Int) (k + 0) N = false ∨ inB ((k + 1 + l.size : Nat) : Int) (k + 0) N = false)
       intro q
       have b1 : inB ((k + 1 : Nat) : Int) (k + 0) N = true := by unfold inB; rw [decide_eq_true (by omega), decide_eq_true (by omega)]; rfl
       have b2 : inB ((k + 1 + l.size : Nat) : Int) (k + 0) N = true := by unfold inB; rw [decide_eq_true (by omega), decide_eq_true (by omega)]; rfl
       rw [g2, b1, b2] at q
       rcases q with q | q | q | q | q
       · omega
       · omega
       · cases q
       · cases q
       · cases q
   · have e2 : nAt ((f, c, ((k + 1 : Nat) : Int), ((k + 1 + l.size : Nat) : Int), s, (0 : Int)) :: (lay l (k + 1) ++ lay r (k + 1 + l.size))) (j + 1) = nAt (lay l (k + 1) ++ lay r (k + 1 + l.size)) j := by simp [nAt]
     rw [e2]
     by_cases hl : j < l.size
     · have e3 : nAt (lay l (k + 1) ++ lay r (k + 1 + l.size)) j = nAt (lay l (k + 1)) j := by
        unfold nAt; simp [List.getD, List.getElem?_append_left (show j < (lay l (k + 1)).length by rw [lay_len]; exact hl)]
       rw [e3, show k + (j + 1) = k + 1 + j by omega]
       exact node_lay l (k + 1) N g3 (by omega) j hl
     · have e3 : nAt (lay l (k + 1) ++ lay r (k + 1 + l.size)) j = nAt (lay r (k + 1 + l.size)) (j - l.size) := by
        unfold nAt
        simp only [List.getD]
        rw [List.getElem?_append_right (by rw [lay_len]; omega), lay_len]
       rw [e3, show k + (j + 1) = k + 1 + l.size + (j - l.size) by omega]
       exact node_lay r (k + 1 + l.size) N g4 (by omega) (j - l.size) (by omega)
theorem lay_fair {T : BT} {m : Int} (h : okB m T) (h0 : 0 ≤ m) (h8 : m ≤ 8) (hs : T.size ≤ 63) : Fair (lay T 0) m := by
 refine ⟨by rw [lay_len]; exact hs, by rw [lay_len]; exact T.size_pos, h0, h8, fun j hj => ?_, fun j h1 h2 => ?_⟩
 · rw [lay_len] at hj
   have := node_lay T 0 T.size h (by omega) j hj
   rw [lay_len]
   simpa using this
 · rw [lay_len] at h2
   rw [ups_lay T 0 j h, if_pos (by omega)]
theorem lay_deep {T : BT} {m : Int} (h : okB m T) (h0 : 0 ≤ m) (h8 : m ≤ 8) (hs : T.size ≤ 63) : depth (lay T 0) 0 = T.deep := by
 have F := lay_fair h h0 h8 hs
 have := bt_deep F.2.2.2.2.1 (lay T 0).length 0 F.2.1 (by omega)
 rw [← this, bt_of_lay h]
theorem lay_tree {T : BT} {m : Int} (h : okB m T) (h0 : 0 ≤ m) (h8 : m ≤ 8) (hs : T.size ≤ 63) (hd : T.deep ≤ 10) : (treeF (lay T 0) m).2 = 0 := by
 rw [tree_fair (lay_fair h h0 h8 hs), lay_deep h h0 h8 hs, if_neg (by omega)]
theorem way_left {t : List Nd} {m : Nat} (F : Fair t (m : Int)) (x : List Int) {i a b : Nat} (hi : i < t.length) (hf : nf (nAt t i) ≠ -1) (ea : nl (nAt t i) = a) (eb : nr (nAt t i) = b) : (a ∈ way t x 0 ↔ i ∈ way t x 0 ∧ lessC (nAt t i) (x.getD (nf (nAt t i)).toNat 0) = true) ∧ (b ∈ way t x 0 ↔ i ∈ way t x 0 ∧ lessC (nAt t i) (x.getD (nf (nAt t i)).toNat 0) = false) := by
 obtain ⟨a', b', ea', eb', h1, h2, h3, h4, h5⟩ := ask_at F.2.2.2.2.1 hi hf
 have e1 : a' = a := by omega
 have e2 : b' = b := by omega
 subst e1
 subst e2
 have ua : abv t a' = some i := (abv_iff F h2).2 ⟨hi, hf, .inl ea⟩
 have ub : abv t b' = some i := (abv_iff F h4).2 ⟨hi, hf, .inr eb⟩
 constructor
 · rw [← pass_way F x (t.length + 1) a' h2 (by omega), ← pass_way F x t.length i hi hi]
   unfold passD
   rw [ua]
   simp only
   rw [decide_eq_true ea]
   constructor
   · rintro ⟨p, q⟩; exact ⟨by cases t with
      | nil => simp at hi
      | cons _ _ => exact q, p⟩
   · rintro ⟨p, q⟩; exact ⟨q, by cases t with
      | nil => simp at hi
      | cons _ _ => exact p⟩
 · rw [← pass_way F x (t.length + 1) b' h4 (by omega), ← pass_way F x t.length i hi hi]
   unfold passD
   rw [ub]
   simp only
   rw [decide_eq_false (show ¬ nl (nAt t i) = (b' : Int) by rw [ea]; omega)]
   constructor
   · rintro ⟨p, q⟩; exact ⟨by cases t with
      | nil => simp at hi
      | cons _ _ => exact q, p⟩
   · rintro ⟨p, q⟩; exact ⟨q, by cases t with
      | nil => simp at hi
      | cons _ _ => exact p⟩
def vld (m : Nat) (x : List Int) : Prop := rowF x = 0 ∧ x.length = m
def Pw (t : List Nd) (m i : Nat) (x : List Int) : Prop := vld m x ∧ i ∈ way t x 0
theorem pw_root {t : List Nd} {m : Nat} (F : Fair t (m : Int)) : Pw t m 0 = vld m := funext fun x => propext ⟨fun h => h.1, fun h => ⟨h, by
 obtain ⟨l, e⟩ := way_ne F.2.2.2.2.1 x F.2.1
 rw [e]; simp⟩⟩
theorem pw_sides {t : List Nd} {m : Nat} (F : Fair t (m : Int)) {i a b : Nat} (hi : i < t.length) (hf : nf (nAt t i) ≠ -1) (ea : nl (nAt t i) = a) (eb : nr (nAt t i) = b) :
 (fun x => Pw t m i x ∧ goes (nf (nAt t i)) (nc (nAt t i)) (ns (nAt t i)) x = true) = Pw t m a ∧ (fun x => Pw t m i x ∧ goes (nf (nAt t i)) (nc (nAt t i)) (ns (nAt t i)) x = false) = Pw t m b := by
 have gl : ∀ x, goes (nf (nAt t i)) (nc (nAt t i)) (ns (nAt t i)) x = lessC (nAt t i) (x.getD (nf (nAt t i)).toNat 0) := fun x => rfl
 constructor
 · funext x
   apply propext
   rw [gl]
   unfold Pw
   rw [(way_left F x hi hf ea eb).1]
   exact ⟨fun q => ⟨q.1.1, q.1.2, q.2⟩, fun q => ⟨⟨q.1, q.2.1⟩, q.2.2⟩⟩
 · funext x
   apply propext
   rw [gl]
   unfold Pw
   rw [(way_left F x hi hf ea eb).2]
   exact ⟨fun q => ⟨q.1.1, q.1.2, q.2⟩, fun q => ⟨⟨q.1, q.2.1⟩, q.2.2⟩⟩
theorem reach_iff {t : List Nd} {m : Nat} (F : Fair t (m : Int)) {k : Nat} (hk : k < t.length) : anyS (region t m k) = true ↔ ∃ x, Pw t m k x := by
 constructor
 · intro ha
   have h8 : m ≤ 8 := by have := F.2.2.2.1; omega
   have hlen := region_len t m k
   have hok := region_ok F hk
   have hall : ∀ s ∈ region t m k, hasS s = true := by unfold anyS at ha; rw [List.all_eq_true] at ha; exact ha
   have hin : ∀ s ∈ region t m k, inS (pickC (norm s)) s = true := fun s hs => by
    rcases pick_norm s (hall s hs) with q | q
    · exact q
    · have := hok s hs; unfold okS at this
      rw [out_in this.1 this.2.1] at q; cases q
   have hgood : ∀ s ∈ region t m k, badCell (pickC (norm s)) = false := fun s hs => by
    have q := hok s hs
    unfold okS at q
    unfold norm pickC
    by_cases hc : s.2.1 < s.1
    · rw [if_pos hc, if_neg (by simp)]; exact good_nil
    · rw [if_neg hc, if_pos (by omega)]; exact good_cell (out_in q.1 q.2.1)
   have hrow : rowF (pick ((region t m k).map norm)) = 0 := by
    rw [row_ok]
    unfold pick
    refine ⟨by rw [List.length_map, List.length_map, hlen]; exact h8, fun x hx => ?_⟩
    rw [List.map_map, List.mem_map] at hx
    obtain ⟨s, hs, rfl⟩ := hx
    exact hgood s hs
   have hp : (pick ((region t m k).map norm)).length = m := by unfold pick; rw [List.length_map, List.length_map, hlen]
   refine ⟨_, ⟨hrow, hp⟩, (region_within F hrow hp hk).1 (fun j hj => ?_)⟩
   have hj' : j < (pick ((region t m k).map norm)).length := by omega
   rw [getD_at hj', getD_at hj]
   have e : (pick ((region t m k).map norm))[j] = pickC (norm (region t m k)[j]) := by unfold pick; simp
   rw [e]
   exact hin _ (List.getElem_mem hj)
 · rintro ⟨x, ⟨h1, h2⟩, h3⟩
   exact any_within ((region_within F h1 h2 hk).2 h3)
theorem set_at {t : List Nd} {i : Nat} {n : Nd} (h : i < t.length) : nAt (t.set i n) i = n := by
 unfold nAt; simp [List.getD, h]
theorem set_ne {t : List Nd} {i j : Nat} {n : Nd} (h : j ≠ i) : nAt (t.set i n) j = nAt t j := by
 unfold nAt; simp only [List.getD]; rw [List.getElem?_set_ne (fun q => h q.symm)]
def BT.lvs : BT → Nat
 | .lf _ => 1
 | .nd _ _ _ l r => l.lvs + r.lvs
theorem BT.two : ∀ T : BT, T.size + 1 = 2 * T.lvs
 | .lf _ => rfl
 | .nd _ _ _ l r => by
   have a := l.two
   have b := r.two
   unfold BT.size BT.lvs
   omega
theorem bt_lvs {t : List Nd} {m : Int} (h : Right t m) : ∀ (k i : Nat), i < t.length → t.length ≤ k + i → (bt t i).lvs = lfs t i
 | 0, i, hi, hk => by omega
 | k + 1, i, hi, hk => by
   by_cases hl : nf (nAt t i) = -1
   · rw [bt_leaf hi hl, lfs_leaf hi hl]; rfl
   · obtain ⟨a, b, ea, eb, h1, h2, h3, h4, _⟩ := ask_at h hi hl
     rw [bt_ask h hi hl ea eb, lfs_ask h hi hl ea eb]
     show (bt t a).lvs + (bt t b).lvs = _
     rw [bt_lvs h k a h2 (by omega), bt_lvs h k b h4 (by omega)]
theorem bt_size {t : List Nd} {m : Int} (F : Fair t m) : (bt t 0).size = t.length := by
 have a := (bt t 0).two
 have b := bt_lvs F.2.2.2.2.1 t.length 0 F.2.1 (by omega)
 have c := leaves_count F
 have d := halves F
 omega
noncomputable def prunV (t : List Nd) (m : Int) : List Nd := if (treeF t m).2 = 0 then lay (prn (vld m.toNat) (bt t 0)) 0 else []
theorem fair_nat {t : List Nd} {m : Int} (h : (treeF t m).2 = 0) : Fair t ((m.toNat : Nat) : Int) ∧ ((m.toNat : Nat) : Int) = m := by
 have F := (tree_ok h).1
 have e : ((m.toNat : Nat) : Int) = m := by have := F.2.2.1; omega
 rw [e]; exact ⟨F, rfl⟩
theorem prun_tree {t : List Nd} {m : Int} (h : (treeF t m).2 = 0) : (treeF (prunV t m) m).2 = 0 ∧ (prunV t m).length ≤ t.length := by
 have F := (tree_ok h).1
 have ok := bt_ok F.2.2.2.2.1 t.length 0 F.2.1 (by omega)
 have sz := prn_size (bt t 0) (vld m.toNat)
 have bs := bt_size F
 have l63 := F.1
 have dp := tree_deep h
 have bd := bt_deep F.2.2.2.2.1 t.length 0 F.2.1 (by omega)
 unfold prunV
 rw [if_pos h]
 exact ⟨lay_tree (prn_ok _ _ ok) F.2.2.1 F.2.2.2.1 (by omega) (by omega), by rw [lay_len]; omega⟩
theorem lay_eval {T : BT} {r : List Int} (ok : okB (r.length : Int) T) (hz : (treeF (lay T 0) (r.length : Int)).2 = 0) (hr : rowF r = 0) : readyF (lay T 0) r = 0 ∧ evalV (lay T 0) r = evB T r := by
 have hy : readyF (lay T 0) r = 0 := by rw [ready_tree hr]; exact hz
 refine ⟨hy, ?_⟩
 have F := (tree_ok hz).1
 have := bt_ev F.2.2.2.2.1 r (lay T 0).length 0 F.2.1 (by omega)
 rw [bt_of_lay ok] at this
 rw [this]
 unfold evalV
 rw [if_pos hy]
theorem eval_bt {t : List Nd} {r : List Int} (h : readyF t r = 0) : evalV t r = evB (bt t 0) r := by
 have F := (tree_ok (ready_ok h).2).1
 rw [bt_ev F.2.2.2.2.1 r t.length 0 F.2.1 (by omega)]
 unfold evalV
 rw [if_pos h]
theorem prun_eval {t : List Nd} {r : List Int} (h : readyF t r = 0) : readyF (prunV t (r.length : Int)) r = 0 ∧ evalV (prunV t (r.length : Int)) r = evalV t r := by
 have hr := (ready_ok h).1
 have hz := (ready_ok h).2
 have F := (tree_ok hz).1
 have ok := bt_ok F.2.2.2.2.1 t.length 0 F.2.1 (by omega)
 have pt := (prun_tree hz).1
 unfold prunV at pt ⊢
 rw [if_pos hz] at pt ⊢
 obtain ⟨e1, e2⟩ := lay_eval (prn_ok _ _ ok) pt hr
 refine ⟨e1, ?_⟩
 rw [e2, eval_bt h]
 exact prn_ev _ _ r ⟨hr, by rw [Int.toNat_natCast]⟩
abbrev Sa := List Int × Int
def colA (s : Sa) (f : Nat) : Int := s.1.getD f 0
def sAt (l : List Sa) (i : Nat) : Sa := l.getD i ([], 0)
def sa1F (m : Int) (s : Sa) : Int := if rowF s.1 ≠ 0 then rowF s.1 else if s.2 < -1000 ∨ 1000 < s.2 then 1 else if (s.1.length : Int) ≠ m then 3 else if nilI ∈ s.1 then 5 else 0
def samF (l : List Sa) (m : Int) : Nat × Int := if 60 < l.length then (0, 4) else if l.length = 0 then (0, 5) else if m < 0 ∨ 8 < m then (0, 1) else match firstN (fun i => !decide (sa1F m (sAt l i) = 0)) l.length with
 | some i => (i, sa1F m (sAt l i))
 | none => (0, 0)
def sideB (f : Nat) (c : Int) (s : Sa) : Bool := decide (colA s f < c)
def partS (l : List Sa) (f : Nat) (c : Int) (b : Bool) : List Sa := l.filter fun s => sideB f c s == b
def sumT : List Sa → Int
 | [] => 0
 | s :: l => s.2 + sumT l
theorem sumT_app (a b : List Sa) : sumT (a ++ b) = sumT a + sumT b := by
 induction a with
 | nil => simp [sumT]
 | cons s a ih => show s.2 + sumT (a ++ b) = s.2 + sumT a + sumT b; rw [ih]; omega
def nB (l : List Sa) (f : Nat) (c : Int) (b : Bool) : Int := ((partS l f c b).length : Nat)
def tB (l : List Sa) (f : Nat) (c : Int) (b : Bool) : Int := sumT (partS l f c b)
def spU (l : List Sa) (f : Nat) (c : Int) : Int := tB l f c true * tB l f c true * nB l f c false + tB l f c false * tB l f c false * nB l f c true
def spD (l : List Sa) (f : Nat) (c : Int) : Int := nB l f c true * nB l f c false
def okC (l : List Sa) (least : Int) (f : Nat) (c : Int) : Bool := !(decide (nB l f c true < least) || decide (nB l f c false < least) || decide (nB l f c true = 0))
abbrev SpS := Int × Int × Nat × Int × Bool
def sp0 (l : List Sa) : SpS := (sumT l * sumT l, (l.length : Nat), 0, 0, false)
def spGt (l : List Sa) (st : SpS) (f : Nat) (c : Int) : Bool := decide (st.1 * spD l f c < spU l f c * st.2.1) || (st.2.2.2.2 && decide (spU l f c * st.2.1 = st.1 * spD l f c) && decide (f = st.2.2.1) && decide (c < st.2.2.2.1))
def spN (l : List Sa) (least : Int) (st : SpS) (f : Nat) (c : Int) : SpS := if okC l least f c = true then (if spGt l st f c = true then (spU l f c, spD l f c, f, c, true) else st) else st
def spI (l : List Sa) (least : Int) (f : Nat) (st : SpS) : Nat → SpS
 | 0 => st
 | k + 1 => spN l least (spI l least f st k) f (colA (sAt l k) f)
def spA (l : List Sa) (least : Int) : Nat → SpS
 | 0 => sp0 l
 | f + 1 => spI l least f (spA l least f) l.length
def spV (l : List Sa) (m : Nat) (least : Int) : SpS := spA l least m
theorem fr_gt {a b c d e f : Int} (hb : 0 < b) (hd : 0 < d) (hf : 0 < f) (h1 : c * b < a * d) (h2 : e * d ≤ c * f) : e * b < a * f := by
 have h3 : c * b * f < a * d * f := Int.mul_lt_mul_of_pos_right h1 hf
 have h4 : e * d * b ≤ c * f * b := Int.mul_le_mul_of_nonneg_right h2 (by omega)
 have h5 : (e * b) * d < (a * f) * d := by grind
 exact Int.lt_of_mul_lt_mul_right h5 (by omega)
theorem fr_ge {a b c d e f : Int} (hb : 0 < b) (hd : 0 < d) (hf : 0 < f) (h1 : c * b ≤ a * d) (h2 : e * d < c * f) : e * b < a * f := by
 have h3 : c * b * f ≤ a * d * f := Int.mul_le_mul_of_nonneg_right h1 (by omega)
 have h4 : e * d * b < c * f * b := Int.mul_lt_mul_of_pos_right h2 hb
 have h5 : (e * b) * d < (a * f) * d := by grind
 exact Int.lt_of_mul_lt_mul_right h5 (by omega)
theorem fr_eq {a b c d e f : Int} (hb : 0 < b) (hd : 0 < d) (hf : 0 < f) (h1 : c * b = a * d) (h2 : e * d = c * f) : e * b = a * f := by
 have h5 : (e * b) * d = (a * f) * d := by grind
 exact Int.eq_of_mul_eq_mul_right (by omega) h5
theorem spD_pos {l : List Sa} {least : Int} {f : Nat} {c : Int} (h1 : 1 ≤ least) (h : okC l least f c = true) : 0 < spD l f c ∧ least ≤ nB l f c true ∧ least ≤ nB l f c false := by
 unfold okC at h
 simp only [Bool.not_eq_true', Bool.or_eq_false_iff, decide_eq_false_iff_not] at h
 refine ⟨?_, by omega, by omega⟩
 unfold spD
 exact Int.mul_pos (by omega) (by omega)
def Cand (l : List Sa) (m : Nat) (least : Int) (f : Nat) (c : Int) : Prop := f < m ∧ (∃ i, i < l.length ∧ colA (sAt l i) f = c) ∧ okC l least f c = true
def Beats (l : List Sa) (f : Nat) (c : Int) (f' : Nat) (c' : Int) : Prop := spU l f' c' * spD l f c < spU l f c * spD l f' c' ∨ (spU l f c * spD l f' c' = spU l f' c' * spD l f c ∧ (f < f' ∨ (f = f' ∧ c < c')))
def More (l : List Sa) (f : Nat) (c : Int) : Prop := sumT l * sumT l * spD l f c < spU l f c * (l.length : Nat)
structure SpInv (l : List Sa) (least : Int) (F : Nat) (P : Nat → Int → Prop) (st : SpS) : Prop where
 no : st.2.2.2.2 = false → st = sp0 l ∧ ∀ f c, P f c → okC l least f c = true → ¬ More l f c
 yes : st.2.2.2.2 = true → P st.2.2.1 st.2.2.2.1 ∧ okC l least st.2.2.1 st.2.2.2.1 = true ∧ st.1 = spU l st.2.2.1 st.2.2.2.1 ∧ st.2.1 = spD l st.2.2.1 st.2.2.2.1 ∧ More l st.2.2.1 st.2.2.2.1 ∧ ∀ f c, P f c → okC l least f c = true → (f = st.2.2.1 ∧ c = st.2.2.2.1) ∨ Beats l st.2.2.1 st.2.2.2.1 f c
 upto : ∀ f c, P f c → f ≤ F
theorem SpInv.same {l : List Sa} {least : Int} {F : Nat} {P Q : Nat → Int → Prop} {st : SpS} (h : SpInv l least F P st) (e : ∀ f c, P f c ↔ Q f c) : SpInv l least F Q st :=
 ⟨fun q => ⟨(h.no q).1, fun f c hp => (h.no q).2 f c ((e f c).2 hp)⟩, fun q => ⟨(e _ _).1 (h.yes q).1, (h.yes q).2.1, (h.yes q).2.2.1, (h.yes q).2.2.2.1, (h.yes q).2.2.2.2.1, fun f c hp => (h.yes q).2.2.2.2.2 f c ((e f c).2 hp)⟩, fun f c hp => h.upto f c ((e f c).2 hp)⟩
theorem beats_trans {l : List Sa} {least : Int} {f g h : Nat} {c d e : Int} (h1 : 1 ≤ least) (of : okC l least f c = true) (og : okC l least g d = true) (oh : okC l least h e = true) (a : Beats l f c g d) (b : Beats l g d h e) : Beats l f c h e := by
 have df := (spD_pos h1 of).1
 have dg := (spD_pos h1 og).1
 have dh := (spD_pos h1 oh).1
 unfold Beats at *
 rcases a with a | ⟨a, a2⟩
 · rcases b with b | ⟨b, b2⟩
   · exact .inl (fr_gt (c := spU l g d) (d := spD l g d) df dg dh a (Int.le_of_lt b))
   · exact .inl (fr_gt (c := spU l g d) (d := spD l g d) df dg dh a (by omega))
 · rcases b with b | ⟨b, b2⟩
   · exact .inl (fr_ge (c := spU l g d) (d := spD l g d) df dg dh (by omega) b)
   · refine .inr ⟨(fr_eq (c := spU l g d) (d := spD l g d) df dg dh a.symm b.symm).symm, ?_⟩
     rcases a2 with a2 | a2 <;> rcases b2 with b2 | b2 <;> omega
theorem SpInv.more {l : List Sa} {least : Int} {F : Nat} {P : Nat → Int → Prop} {st : SpS} (h1 : 1 ≤ least) (hl : 0 < l.length) (h : SpInv l least F P st) (c : Int) : SpInv l least F (fun f d => P f d ∨ (f = F ∧ d = c)) (spN l least st F c) := by
 have up' : ∀ f d, (P f d ∨ (f = F ∧ d = c)) → f ≤ F := fun f d q => q.elim (h.upto f d) (fun q => by omega)
 have hN : (0 : Int) < (l.length : Nat) := by omega
 unfold spN
 by_cases ok : okC l least F c = true
 · rw [if_pos ok]
   have dp := (spD_pos h1 ok).1
   cases hf : st.2.2.2.2 with
   | false =>
     obtain ⟨e0, n0⟩ := h.no hf
     by_cases g : spGt l st F c = true
     · rw [if_pos g]
       have mo : More l F c := by
        unfold spGt at g
        rw [hf, Bool.false_and, Bool.false_and, Bool.false_and, Bool.or_false] at g
        have g' := of_decide_eq_true g
        rw [e0] at g'
        exact g'
       refine ⟨fun q => (by cases q), fun _ => ⟨.inr ⟨rfl, rfl⟩, ok, rfl, rfl, mo, fun f d hp oc => ?_⟩, up'⟩
       rcases hp with hp | ⟨rfl, rfl⟩
       · have nm := n0 f d hp oc
         unfold More at nm mo
         refine .inr (.inl ?_)
         have dd := (spD_pos h1 oc).1
         exact fr_gt (c := sumT l * sumT l) (d := (l.length : Nat)) dp hN dd mo (by omega)
       · exact .inl ⟨rfl, rfl⟩
     · rw [if_neg g]
       refine ⟨fun _ => ⟨e0, fun f d hp oc mo => ?_⟩, fun q => (by rw [hf] at q; cases q), up'⟩
       rcases hp with hp | ⟨rfl, rfl⟩
       · exact n0 f d hp oc mo
       · refine g ?_
         unfold spGt
         rw [Bool.or_eq_true]
         left
         rw [e0]
         exact decide_eq_true mo
   | true =>
     obtain ⟨y1, y2, y3, y4, y5, y6⟩ := h.yes hf
     have db := (spD_pos h1 y2).1
     have lef := h.upto _ _ y1
     by_cases g : spGt l st F c = true
     · rw [if_pos g]
       have bt : Beats l F c st.2.2.1 st.2.2.2.1 := by
        unfold spGt at g
        rw [hf, y3, y4] at g
        simp only [Bool.or_eq_true, Bool.and_eq_true, decide_eq_true_eq] at g
        rcases g with g | ⟨⟨⟨_, g1⟩, g2⟩, g3⟩
        · exact .inl g
        · exact .inr ⟨g1, .inr ⟨g2, g3⟩⟩
       have mo : More l F c := by
        unfold More at y5 ⊢
        rcases bt with b | ⟨b, _⟩
        · exact fr_gt (c := spU l st.2.2.1 st.2.2.2.1) (d := spD l st.2.2.1 st.2.2.2.1) dp db hN b (Int.le_of_lt y5)
        · exact fr_ge (c := spU l st.2.2.1 st.2.2.2.1) (d := spD l st.2.2.1 st.2.2.2.1) dp db hN (by omega) y5
       refine ⟨fun q => (by cases q), fun _ => ⟨.inr ⟨rfl, rfl⟩, ok, rfl, rfl, mo, fun f d hp oc => ?_⟩, up'⟩
       rcases hp with hp | ⟨rfl, rfl⟩
       · rcases y6 f d hp oc with ⟨rfl, rfl⟩ | b
         · exact .inr bt
         · exact .inr (beats_trans h1 ok y2 oc bt b)
       · exact .inl ⟨rfl, rfl⟩
     · rw [if_neg g]
       refine ⟨fun q => (by rw [hf] at q; cases q), fun _ => ⟨.inl y1, y2, y3, y4, y5, fun f d hp oc => ?_⟩, up'⟩
       rcases hp with hp | ⟨rfl, rfl⟩
       · exact y6 f d hp oc
       · unfold spGt at g
         rw [hf, y3, y4] at g
         simp only [Bool.or_eq_true, Bool.and_eq_true, decide_eq_true_eq, not_or, not_and] at g
         obtain ⟨g1, g2⟩ := g
         by_cases e : spU l f d * spD l st.2.2.1 st.2.2.2.1 = spU l st.2.2.1 st.2.2.2.1 * spD l f d
         · by_cases ef : f = st.2.2.1
           · have := g2 ⟨⟨trivial, e⟩, ef⟩
             by_cases ec : d = st.2.2.2.1
             · exact .inl ⟨ef, ec⟩
             · exact .inr (.inr ⟨e.symm, .inr ⟨ef.symm, by omega⟩⟩)
           · exact .inr (.inr ⟨e.symm, .inl (by omega)⟩)
         · exact .inr (.inl (by omega))
 · rw [if_neg ok]
   refine ⟨fun q => ⟨(h.no q).1, fun f d hp oc => ?_⟩, fun q => ⟨.inl (h.yes q).1, (h.yes q).2.1, (h.yes q).2.2.1, (h.yes q).2.2.2.1, (h.yes q).2.2.2.2.1, fun f d hp oc => ?_⟩, up'⟩
   · rcases hp with hp | ⟨rfl, rfl⟩
     · exact (h.no q).2 f d hp oc
     · exact absurd oc ok
   · rcases hp with hp | ⟨rfl, rfl⟩
     · exact (h.yes q).2.2.2.2.2 f d hp oc
     · exact absurd oc ok
theorem spI_inv {l : List Sa} {least : Int} {F : Nat} {P : Nat → Int → Prop} {st : SpS} (h1 : 1 ≤ least) (hl : 0 < l.length) (h : SpInv l least F P st) : ∀ k, SpInv l least F (fun f d => P f d ∨ (f = F ∧ ∃ i, i < k ∧ colA (sAt l i) F = d)) (spI l least F st k)
 | 0 => h.same fun f c => ⟨.inl, fun q => q.elim id (fun ⟨_, i, hi, _⟩ => by omega)⟩
 | k + 1 => ((spI_inv h1 hl h k).more h1 hl (colA (sAt l k) F)).same fun f c => by
   constructor
   · rintro ((q | ⟨rfl, i, hi, e⟩) | ⟨rfl, rfl⟩)
     · exact .inl q
     · exact .inr ⟨rfl, i, by omega, e⟩
     · exact .inr ⟨rfl, k, by omega, rfl⟩
   · rintro (q | ⟨rfl, i, hi, e⟩)
     · exact .inl (.inl q)
     · by_cases ik : i = k
       · subst ik; exact .inr ⟨rfl, e.symm⟩
       · exact .inl (.inr ⟨rfl, i, by omega, e⟩)
theorem SpInv.wide {l : List Sa} {least : Int} {F G : Nat} {P : Nat → Int → Prop} {st : SpS} (h : SpInv l least F P st) (hg : F ≤ G) : SpInv l least G P st := ⟨h.no, h.yes, fun f c hp => Nat.le_trans (h.upto f c hp) hg⟩
theorem spA_inv {l : List Sa} {least : Int} (h1 : 1 ≤ least) (hl : 0 < l.length) : ∀ m, SpInv l least m (fun f d => f < m ∧ ∃ i, i < l.length ∧ colA (sAt l i) f = d) (spA l least m)
 | 0 => ⟨fun _ => ⟨rfl, fun f c hp => by omega⟩, fun q => (by cases q), fun f c hp => by omega⟩
 | m + 1 => ((spI_inv h1 hl (spA_inv h1 hl m) l.length).wide (Nat.le_succ m)).same fun f c => by
   constructor
   · rintro (⟨h, q⟩ | ⟨rfl, q⟩)
     · exact ⟨by omega, q⟩
     · exact ⟨by omega, q⟩
   · rintro ⟨h, q⟩
     by_cases e : f = m
     · subst e; exact .inr ⟨rfl, q⟩
     · exact .inl ⟨by omega, q⟩
theorem split_spec {l : List Sa} {m : Nat} {least : Int} (h1 : 1 ≤ least) (hl : 0 < l.length) :
 ((spV l m least).2.2.2.2 = false → (spV l m least).2.2.1 = 0 ∧ (spV l m least).2.2.2.1 = 0 ∧ ∀ f c, Cand l m least f c → ¬ More l f c) ∧
 ((spV l m least).2.2.2.2 = true → Cand l m least (spV l m least).2.2.1 (spV l m least).2.2.2.1 ∧ More l (spV l m least).2.2.1 (spV l m least).2.2.2.1 ∧ ∀ f c, Cand l m least f c → (f = (spV l m least).2.2.1 ∧ c = (spV l m least).2.2.2.1) ∨ Beats l (spV l m least).2.2.1 (spV l m least).2.2.2.1 f c) := by
 have I := spA_inv h1 hl m
 refine ⟨fun q => ?_, fun q => ?_⟩
 · obtain ⟨e, n⟩ := I.no q
   refine ⟨?_, ?_, fun f c hc => n f c ⟨hc.1, hc.2.1⟩ hc.2.2⟩
   · show (spA l least m).2.2.1 = 0; rw [e]; rfl
   · show (spA l least m).2.2.2.1 = 0; rw [e]; rfl
 · obtain ⟨y1, y2, y3, y4, y5, y6⟩ := I.yes q
   exact ⟨⟨y1.1, y1.2, y2⟩, y5, fun f c hc => y6 f c ⟨hc.1, hc.2.1⟩ hc.2.2⟩
theorem beats_not {l : List Sa} {f g : Nat} {c d : Int} (a : Beats l f c g d) (b : Beats l g d f c) : False := by
 unfold Beats at a b
 rcases a with a | ⟨a, a2⟩
 · rcases b with b | ⟨b, b2⟩
   · omega
   · omega
 · rcases b with b | ⟨b, b2⟩
   · omega
   · omega
theorem split_only {l : List Sa} {m : Nat} {least : Int} (h1 : 1 ≤ least) (hl : 0 < l.length) {f : Nat} {c : Int} (hc : Cand l m least f c) (hm : More l f c) (hb : ∀ g d, Cand l m least g d → (g = f ∧ d = c) ∨ Beats l f c g d) : (spV l m least).2.2.2.2 = true ∧ (spV l m least).2.2.1 = f ∧ (spV l m least).2.2.2.1 = c := by
 obtain ⟨s1, s2⟩ := split_spec (m := m) h1 hl
 cases q : (spV l m least).2.2.2.2 with
 | false => exact absurd hm ((s1 q).2.2 f c hc)
 | true =>
   obtain ⟨t1, t2, t3⟩ := s2 q
   rcases t3 f c hc with ⟨e1, e2⟩ | b
   · exact ⟨rfl, e1.symm, e2.symm⟩
   · rcases hb _ _ t1 with ⟨e1, e2⟩ | b2
     · exact ⟨rfl, e1, e2⟩
     · exact absurd b2 (fun b2 => beats_not b b2)
structure GoodS (l : List Sa) (m : Nat) : Prop where
 le : l.length ≤ 60
 m8 : m ≤ 8
 each : ∀ s ∈ l, rowF s.1 = 0 ∧ s.1.length = m ∧ (-1000 ≤ s.2 ∧ s.2 ≤ 1000) ∧ nilI ∉ s.1
theorem sa1_zero {m : Int} {s : Sa} (h : sa1F m s = 0) : rowF s.1 = 0 ∧ (s.1.length : Int) = m ∧ (-1000 ≤ s.2 ∧ s.2 ≤ 1000) ∧ nilI ∉ s.1 := by
 unfold sa1F at h
 by_cases c1 : rowF s.1 = 0
 · rw [if_neg (by simp [c1])] at h
   by_cases c2 : s.2 < -1000 ∨ 1000 < s.2
   · rw [if_pos c2] at h; cases h
   · rw [if_neg c2] at h
     by_cases c3 : (s.1.length : Int) = m
     · rw [if_neg (by simp [c3])] at h
       by_cases c4 : nilI ∈ s.1
       · rw [if_pos c4] at h; cases h
       · exact ⟨c1, c3, by omega, c4⟩
     · rw [if_pos c3] at h; cases h
 · rw [if_pos c1] at h; exact absurd h c1
theorem sam_ok {l : List Sa} {m : Int} (h : (samF l m).2 = 0) : GoodS l m.toNat ∧ 0 < l.length ∧ ((m.toNat : Nat) : Int) = m ∧ (samF l m).1 = 0 := by
 unfold samF at h ⊢
 by_cases c1 : 60 < l.length
 · rw [if_pos c1] at h; cases h
 · rw [if_neg c1] at h ⊢
   by_cases c2 : l.length = 0
   · rw [if_pos c2] at h; cases h
   · rw [if_neg c2] at h ⊢
     by_cases c3 : m < 0 ∨ 8 < m
     · rw [if_pos c3] at h; cases h
     · rw [if_neg c3] at h ⊢
       split at h
       · rename_i k e
         have q := (first_some e).2
         rw [decide_eq_true h] at q
         cases q
       · rename_i e
         refine ⟨⟨by omega, by omega, fun s hs => ?_⟩, by omega, by omega, rfl⟩
         obtain ⟨i, hi, rfl⟩ := List.getElem_of_mem hs
         have q := first_none e i hi
         have q' : sa1F m (sAt l i) = 0 := by simpa using q
         have e2 : sAt l i = l[i] := by unfold sAt; rw [getD_at hi]
         rw [e2] at q'
         obtain ⟨z1, z2, z3, z4⟩ := sa1_zero q'
         exact ⟨z1, by omega, z3, z4⟩
theorem GoodS.part {l : List Sa} {m : Nat} (h : GoodS l m) (f : Nat) (c : Int) (b : Bool) : GoodS (partS l f c b) m :=
 ⟨Nat.le_trans (List.length_filter_le _ _) h.le, h.m8, fun s hs => h.each s (List.mem_filter.1 hs).1⟩
theorem sum_in : ∀ {l : List Sa}, (∀ s ∈ l, -1000 ≤ s.2 ∧ s.2 ≤ 1000) → -1000 * (l.length : Nat) ≤ sumT l ∧ sumT l ≤ 1000 * (l.length : Nat)
 | [], _ => by simp [sumT]
 | s :: l, h => by
   have ih := sum_in (l := l) fun x hx => h x (List.mem_cons_of_mem _ hx)
   have := h s (List.mem_cons_self ..)
   show _ ≤ s.2 + sumT l ∧ s.2 + sumT l ≤ _
   rw [List.length_cons]
   omega
def meanS (l : List Sa) : Int := sumT l / (l.length : Nat)
def growT (m : Nat) (least : Int) : Nat → List Sa → BT
 | 0, l => .lf (meanS l)
 | d + 1, l => if (spV l m least).2.2.2.2 = true then .nd ((spV l m least).2.2.1 : Nat) (spV l m least).2.2.2.1 (decide (nB l (spV l m least).2.2.1 (spV l m least).2.2.2.1 false < nB l (spV l m least).2.2.1 (spV l m least).2.2.2.1 true)) (growT m least d (partS l (spV l m least).2.2.1 (spV l m least).2.2.2.1 true)) (growT m least d (partS l (spV l m least).2.2.1 (spV l m least).2.2.2.1 false)) else .lf (meanS l)
theorem grow_deep (m : Nat) (least : Int) : ∀ (d : Nat) (l : List Sa), (growT m least d l).deep ≤ d ∧ (growT m least d l).size + 1 ≤ 2 ^ (d + 1)
 | 0, l => ⟨Nat.le_refl _, Nat.le_refl _⟩
 | d + 1, l => by
   unfold growT
   split
   · obtain ⟨a1, a2⟩ := grow_deep m least d (partS l (spV l m least).2.2.1 (spV l m least).2.2.2.1 true)
     obtain ⟨b1, b2⟩ := grow_deep m least d (partS l (spV l m least).2.2.1 (spV l m least).2.2.2.1 false)
     refine ⟨?_, ?_⟩
     · show 1 + max _ _ ≤ d + 1
       omega
     · show 1 + _ + _ + 1 ≤ 2 ^ (d + 1 + 1)
       rw [Nat.pow_succ]
       omega
   · refine ⟨Nat.zero_le _, ?_⟩
     show 1 + 1 ≤ 2 ^ (d + 1 + 1)
     have : 1 ≤ 2 ^ (d + 1) := Nat.one_le_two_pow
     rw [Nat.pow_succ]; omega
theorem grow_sides {l : List Sa} {m : Nat} {least : Int} (h1 : 1 ≤ least) (hl : 0 < l.length) (q : (spV l m least).2.2.2.2 = true) :
 (spV l m least).2.2.1 < m ∧ (∃ i, i < l.length ∧ colA (sAt l i) (spV l m least).2.2.1 = (spV l m least).2.2.2.1) ∧ least ≤ nB l (spV l m least).2.2.1 (spV l m least).2.2.2.1 true ∧ least ≤ nB l (spV l m least).2.2.1 (spV l m least).2.2.2.1 false ∧ More l (spV l m least).2.2.1 (spV l m least).2.2.2.1 := by
 obtain ⟨t1, t2, _⟩ := (split_spec (m := m) h1 hl).2 q
 exact ⟨t1.1, t1.2.1, (spD_pos h1 t1.2.2).2.1, (spD_pos h1 t1.2.2).2.2, t2⟩
theorem mean_in {l : List Sa} {m : Nat} (h : GoodS l m) (hl : 0 < l.length) : -1000 ≤ meanS l ∧ meanS l ≤ 1000 := by
 have hs := sum_in fun s hs => (h.each s hs).2.2.1
 unfold meanS
 have hp : (0 : Int) < (l.length : Nat) := by omega
 constructor
 · exact (Int.le_ediv_iff_mul_le hp).2 hs.1
 · exact Int.le_of_lt_add_one (Int.ediv_lt_of_lt_mul hp (by omega))
theorem cell_in {l : List Sa} {m : Nat} (h : GoodS l m) {i f : Nat} (hi : i < l.length) (hf : f < m) : outI (colA (sAt l i) f) = false := by
 have e : sAt l i = l[i] := by unfold sAt; rw [getD_at hi]
 obtain ⟨z1, z2, z3, z4⟩ := h.each l[i] (List.getElem_mem hi)
 have hm : l[i].1.getD f 0 ∈ l[i].1 := by rw [getD_at (by omega)]; exact List.getElem_mem _
 unfold colA
 rw [e]
 have := ((row_ok _).1 z1).2 _ hm
 unfold badCell at this
 by_cases c : l[i].1.getD f 0 = nilI
 · exact absurd (c ▸ hm) z4
 · rw [decide_eq_false c] at this
   exact this
theorem grow_ok {m : Nat} {least : Int} (h1 : 1 ≤ least) : ∀ (d : Nat) {l : List Sa}, GoodS l m → 0 < l.length → okB (m : Int) (growT m least d l)
 | 0, l, h, hl => by
   have := mean_in h hl
   exact out_in (by omega) (by omega)
 | d + 1, l, h, hl => by
   unfold growT
   split
   · rename_i q
     obtain ⟨s1, ⟨i, hi, e⟩, s3, s4, _⟩ := grow_sides h1 hl q
     have n1 : 0 < (partS l (spV l m least).2.2.1 (spV l m least).2.2.2.1 true).length := by unfold nB at s3; omega
     have n2 : 0 < (partS l (spV l m least).2.2.1 (spV l m least).2.2.2.1 false).length := by unfold nB at s4; omega
     refine ⟨by omega, by omega, ?_, grow_ok h1 d (h.part _ _ _) n1, grow_ok h1 d (h.part _ _ _) n2⟩
     rw [← e]
     exact cell_in h hi s1
   · have := mean_in h hl
     exact out_in (by omega) (by omega)
def grwF (l : List Sa) (m depth least : Int) : Int := if (samF l m).2 ≠ 0 then (samF l m).2 else if depth < 0 ∨ 5 < depth ∨ least < 1 ∨ 60 < least then 1 else 0
def grwT (l : List Sa) (m depth least : Int) : List Nd := if grwF l m depth least = 0 then lay (growT m.toNat least depth.toNat l) 0 else []
end Go.Proofs.YtelncekgjfpogahGreatDoor.M
