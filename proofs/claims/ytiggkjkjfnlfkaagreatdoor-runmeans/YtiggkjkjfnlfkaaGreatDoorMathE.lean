/-
  Trees laid in order are right; a place is reached by a row or by none; a node that gives way: what becomes of the tree is the same; no condition beyond those named.
-/
import Derived.Test.YtiggkjkjfnlfkaaGreatDoorMathD
namespace Go.Proofs.YtiggkjkjfnlfkaaGreatDoor.M
set_option linter.unusedVariables false

/-! ### laid in order a tree is right -/
theorem ups_cons (n : Nd) (t : List Nd) (i : Int) : ups (n :: t) i = edge i n + ups t i := by unfold ups; simp
theorem ups_append (a b : List Nd) (i : Int) : ups (a ++ b) i = ups a i + ups b i := by unfold ups; simp
theorem edge_at (f c : Int) (s : Bool) (a b p : Nat) (hf : f ≠ -1) : edge (p : Int) (f, c, (a : Int), (b : Int), s, 0) = (if a = p then 1 else 0) + (if b = p then 1 else 0) := by
  unfold edge
  rw [if_neg (show nf (f, c, (a : Int), (b : Int), s, (0 : Int)) ≠ -1 from hf)]
  show (if (a : Int) = (p : Int) then 1 else 0) + (if (b : Int) = (p : Int) then 1 else 0) = _
  have h1 : ((a : Int) = (p : Int)) ↔ a = p := by omega
  have h2 : ((b : Int) = (p : Int)) ↔ b = p := by omega
  simp only [h1, h2]
theorem ups_lay {m : Int} : ∀ (T : BT) (k p : Nat), okB m T → ups (lay T k) (p : Int) = if k < p ∧ p < k + T.size then 1 else 0
  | .lf v, k, p, h => by
    have e : ups (lay (.lf v) k) (p : Int) = 0 := rfl
    rw [e, if_neg (by show ¬ (k < p ∧ p < k + 1); omega)]
  | .nd f c s l r, k, p, ⟨g0, g1, g2, g3, g4⟩ => by
    have e : lay (.nd f c s l r) k = (f, c, ((k + 1 : Nat) : Int), ((k + 1 + l.size : Nat) : Int), s, 0) :: (lay l (k + 1) ++ lay r (k + 1 + l.size)) := rfl
    have z1 := l.size_pos
    have z2 := r.size_pos
    rw [e, ups_cons, ups_append, edge_at f c s (k + 1) (k + 1 + l.size) p (by omega), ups_lay l (k + 1) p g3, ups_lay r (k + 1 + l.size) p g4]
    show _ = if k < p ∧ p < k + (1 + l.size + r.size) then 1 else 0
    repeat' split
    all_goals omega
theorem node_lay {m : Int} : ∀ (T : BT) (k N : Nat), okB m T → k + T.size ≤ N → ∀ j, j < T.size → nodeF (nAt (lay T k) j) (k + j) N m = 0
  | .lf v, k, N, h, hN, j, hj => by
    have hj' : j < 1 := hj
    obtain rfl : j = 0 := by omega
    have h' : outI v = false := h
    show nodeF (-1, 0, 0, 0, false, v) _ _ _ = 0
    unfold nodeF
    rw [if_pos (show nf (-1, 0, 0, 0, false, v) = -1 from rfl)]
    unfold lfF
    rw [if_neg (by show ¬ outI v = true; rw [h']; decide), if_neg (by simp [nc, nl, nr, ns])]
  | .nd f c s l r, k, N, ⟨g0, g1, g2, g3, g4⟩, hN, j, hj => by
    have z1 := l.size_pos
    have z2 := r.size_pos
    have es : (BT.nd f c s l r).size = 1 + l.size + r.size := rfl
    rw [es] at hN hj
    have e : lay (.nd f c s l r) k = (f, c, ((k + 1 : Nat) : Int), ((k + 1 + l.size : Nat) : Int), s, 0) :: (lay l (k + 1) ++ lay r (k + 1 + l.size)) := rfl
    rw [e]
    rcases j with _ | j
    · show nodeF (f, c, ((k + 1 : Nat) : Int), ((k + 1 + l.size : Nat) : Int), s, 0) _ _ _ = 0
      unfold nodeF
      rw [if_neg (show nf (f, c, ((k + 1 : Nat) : Int), ((k + 1 + l.size : Nat) : Int), s, (0 : Int)) ≠ -1 by show f ≠ -1; omega)]
      unfold asF
      rw [if_neg, if_neg]
      · show ¬ ((0 : Int) ≠ 0 ∨ ((k + 1 : Nat) : Int) = ((k + 1 + l.size : Nat) : Int))
        omega
      · show ¬ (f < 0 ∨ m ≤ f ∨ outI c = true ∨ inB ((k + 1 : Nat) : Int) (k + 0) N = false ∨ inB ((k + 1 + l.size : Nat) : Int) (k + 0) N = false)
        intro q
        have b1 : inB ((k + 1 : Nat) : Int) (k + 0) N = true := by unfold inB; rw [decide_eq_true (by omega), decide_eq_true (by omega)]; rfl
        have b2 : inB ((k + 1 + l.size : Nat) : Int) (k + 0) N = true := by unfold inB; rw [decide_eq_true (by omega), decide_eq_true (by omega)]; rfl
        rw [g2, b1, b2] at q
        rcases q with q | q | q | q | q
        · omega
        · omega
        · cases q
        · cases q
        · cases q
    · have e2 : nAt ((f, c, ((k + 1 : Nat) : Int), ((k + 1 + l.size : Nat) : Int), s, (0 : Int)) :: (lay l (k + 1) ++ lay r (k + 1 + l.size))) (j + 1) = nAt (lay l (k + 1) ++ lay r (k + 1 + l.size)) j := by simp [nAt]
      rw [e2]
      by_cases hl : j < l.size
      · have e3 : nAt (lay l (k + 1) ++ lay r (k + 1 + l.size)) j = nAt (lay l (k + 1)) j := by
          unfold nAt; simp [List.getD, List.getElem?_append_left (show j < (lay l (k + 1)).length by rw [lay_len]; exact hl)]
        rw [e3, show k + (j + 1) = k + 1 + j by omega]
        exact node_lay l (k + 1) N g3 (by omega) j hl
      · have e3 : nAt (lay l (k + 1) ++ lay r (k + 1 + l.size)) j = nAt (lay r (k + 1 + l.size)) (j - l.size) := by
          unfold nAt
          simp only [List.getD]
          rw [List.getElem?_append_right (by rw [lay_len]; omega), lay_len]
        rw [e3, show k + (j + 1) = k + 1 + l.size + (j - l.size) by omega]
        exact node_lay r (k + 1 + l.size) N g4 (by omega) (j - l.size) (by omega)
theorem lay_fair {T : BT} {m : Int} (h : okB m T) (h0 : 0 ≤ m) (h8 : m ≤ 8) (hs : T.size ≤ 63) : Fair (lay T 0) m := by
  refine ⟨by rw [lay_len]; exact hs, by rw [lay_len]; exact T.size_pos, h0, h8, fun j hj => ?_, fun j h1 h2 => ?_⟩
  · rw [lay_len] at hj
    have := node_lay T 0 T.size h (by omega) j hj
    rw [lay_len]
    simpa using this
  · rw [lay_len] at h2
    rw [ups_lay T 0 j h, if_pos (by omega)]
theorem lay_deep {T : BT} {m : Int} (h : okB m T) (h0 : 0 ≤ m) (h8 : m ≤ 8) (hs : T.size ≤ 63) : depth (lay T 0) 0 = T.deep := by
  have F := lay_fair h h0 h8 hs
  have := bt_deep F.2.2.2.2.1 (lay T 0).length 0 F.2.1 (by omega)
  rw [← this, bt_of_lay h]
/-- a tree that is laid in order, not too deep, is right -/
theorem lay_tree {T : BT} {m : Int} (h : okB m T) (h0 : 0 ≤ m) (h8 : m ≤ 8) (hs : T.size ≤ 63) (hd : T.deep ≤ 10) : (treeF (lay T 0) m).2 = 0 := by
  rw [tree_fair (lay_fair h h0 h8 hs), lay_deep h h0 h8 hs, if_neg (by omega)]

/-! ### who comes to a place -/
theorem way_left {t : List Nd} {m : Nat} (F : Fair t (m : Int)) (x : List Int) {i a b : Nat} (hi : i < t.length) (hf : nf (nAt t i) ≠ -1) (ea : nl (nAt t i) = a) (eb : nr (nAt t i) = b) : (a ∈ way t x 0 ↔ i ∈ way t x 0 ∧ lessC (nAt t i) (x.getD (nf (nAt t i)).toNat 0) = true) ∧ (b ∈ way t x 0 ↔ i ∈ way t x 0 ∧ lessC (nAt t i) (x.getD (nf (nAt t i)).toNat 0) = false) := by
  obtain ⟨a', b', ea', eb', h1, h2, h3, h4, h5⟩ := ask_at F.2.2.2.2.1 hi hf
  have e1 : a' = a := by omega
  have e2 : b' = b := by omega
  subst e1
  subst e2
  have ua : abv t a' = some i := (abv_iff F h2).2 ⟨hi, hf, .inl ea⟩
  have ub : abv t b' = some i := (abv_iff F h4).2 ⟨hi, hf, .inr eb⟩
  constructor
  · rw [← pass_way F x (t.length + 1) a' h2 (by omega), ← pass_way F x t.length i hi hi]
    unfold passD
    rw [ua]
    simp only
    rw [decide_eq_true ea]
    constructor
    · rintro ⟨p, q⟩; exact ⟨by cases t with
        | nil => simp at hi
        | cons _ _ => exact q, p⟩
    · rintro ⟨p, q⟩; exact ⟨q, by cases t with
        | nil => simp at hi
        | cons _ _ => exact p⟩
  · rw [← pass_way F x (t.length + 1) b' h4 (by omega), ← pass_way F x t.length i hi hi]
    unfold passD
    rw [ub]
    simp only
    rw [decide_eq_false (show ¬ nl (nAt t i) = (b' : Int) by rw [ea]; omega)]
    constructor
    · rintro ⟨p, q⟩; exact ⟨by cases t with
        | nil => simp at hi
        | cons _ _ => exact q, p⟩
    · rintro ⟨p, q⟩; exact ⟨q, by cases t with
        | nil => simp at hi
        | cons _ _ => exact p⟩
/-- rows of so many cells -/
def vld (m : Nat) (x : List Int) : Prop := rowF x = 0 ∧ x.length = m
/-- those that come to a place -/
def Pw (t : List Nd) (m i : Nat) (x : List Int) : Prop := vld m x ∧ i ∈ way t x 0
theorem pw_root {t : List Nd} {m : Nat} (F : Fair t (m : Int)) : Pw t m 0 = vld m := funext fun x => propext ⟨fun h => h.1, fun h => ⟨h, by
  obtain ⟨l, e⟩ := way_ne F.2.2.2.2.1 x F.2.1
  rw [e]; simp⟩⟩
theorem pw_sides {t : List Nd} {m : Nat} (F : Fair t (m : Int)) {i a b : Nat} (hi : i < t.length) (hf : nf (nAt t i) ≠ -1) (ea : nl (nAt t i) = a) (eb : nr (nAt t i) = b) :
    (fun x => Pw t m i x ∧ goes (nf (nAt t i)) (nc (nAt t i)) (ns (nAt t i)) x = true) = Pw t m a ∧ (fun x => Pw t m i x ∧ goes (nf (nAt t i)) (nc (nAt t i)) (ns (nAt t i)) x = false) = Pw t m b := by
  have gl : ∀ x, goes (nf (nAt t i)) (nc (nAt t i)) (ns (nAt t i)) x = lessC (nAt t i) (x.getD (nf (nAt t i)).toNat 0) := fun x => rfl
  constructor
  · funext x
    apply propext
    rw [gl]
    unfold Pw
    rw [(way_left F x hi hf ea eb).1]
    exact ⟨fun q => ⟨q.1.1, q.1.2, q.2⟩, fun q => ⟨⟨q.1, q.2.1⟩, q.2.2⟩⟩
  · funext x
    apply propext
    rw [gl]
    unfold Pw
    rw [(way_left F x hi hf ea eb).2]
    exact ⟨fun q => ⟨q.1.1, q.1.2, q.2⟩, fun q => ⟨⟨q.1, q.2.1⟩, q.2.2⟩⟩
/-- a place has a row, or none comes to it -/
theorem reach_iff {t : List Nd} {m : Nat} (F : Fair t (m : Int)) {k : Nat} (hk : k < t.length) : anyS (region t m k) = true ↔ ∃ x, Pw t m k x := by
  constructor
  · intro ha
    have h8 : m ≤ 8 := by have := F.2.2.2.1; omega
    have hlen := region_len t m k
    have hok := region_ok F hk
    have hall : ∀ s ∈ region t m k, hasS s = true := by unfold anyS at ha; rw [List.all_eq_true] at ha; exact ha
    have hin : ∀ s ∈ region t m k, inS (pickC (norm s)) s = true := fun s hs => by
      rcases pick_norm s (hall s hs) with q | q
      · exact q
      · have := hok s hs; unfold okS at this
        rw [out_in this.1 this.2.1] at q; cases q
    have hgood : ∀ s ∈ region t m k, badCell (pickC (norm s)) = false := fun s hs => by
      have q := hok s hs
      unfold okS at q
      unfold norm pickC
      by_cases hc : s.2.1 < s.1
      · rw [if_pos hc, if_neg (by simp)]; exact good_nil
      · rw [if_neg hc, if_pos (by omega)]; exact good_cell (out_in q.1 q.2.1)
    have hrow : rowF (pick ((region t m k).map norm)) = 0 := by
      rw [row_ok]
      unfold pick
      refine ⟨by rw [List.length_map, List.length_map, hlen]; exact h8, fun x hx => ?_⟩
      rw [List.map_map, List.mem_map] at hx
      obtain ⟨s, hs, rfl⟩ := hx
      exact hgood s hs
    have hp : (pick ((region t m k).map norm)).length = m := by unfold pick; rw [List.length_map, List.length_map, hlen]
    refine ⟨_, ⟨hrow, hp⟩, (region_within F hrow hp hk).1 (fun j hj => ?_)⟩
    have hj' : j < (pick ((region t m k).map norm)).length := by omega
    rw [getD_at hj', getD_at hj]
    have e : (pick ((region t m k).map norm))[j] = pickC (norm (region t m k)[j]) := by unfold pick; simp
    rw [e]
    exact hin _ (List.getElem_mem hj)
  · rintro ⟨x, ⟨h1, h2⟩, h3⟩
    exact any_within ((region_within F h1 h2 hk).2 h3)

/-! ### a node gives way -/
theorem bt_agree {t u : List Nd} {m : Int} (h : Right t m) (hu : Right u m) (hl : u.length = t.length) {j : Nat} (hq : ∀ q, j ≤ q → q < t.length → nAt u q = nAt t q) : ∀ (k i : Nat), j ≤ i → i < t.length → t.length ≤ k + i → bt u i = bt t i
  | 0, i, hj, hi, hk => by omega
  | k + 1, i, hj, hi, hk => by
    have hi' : i < u.length := by omega
    have e := hq i hj hi
    by_cases hf : nf (nAt t i) = -1
    · rw [bt_leaf hi hf, bt_leaf hi' (by rw [e]; exact hf), e]
    · obtain ⟨a, b, ea, eb, h1, h2, h3, h4, _⟩ := ask_at h hi hf
      rw [bt_ask h hi hf ea eb, bt_ask hu hi' (by rw [e]; exact hf) (by rw [e]; exact ea) (by rw [e]; exact eb), e, bt_agree h hu hl hq k a (by omega) h2 (by omega), bt_agree h hu hl hq k b (by omega) h4 (by omega)]
/-- in u the place 'to' stands below 'up' where 'at' stood: what becomes of all is the same, if it is of those two -/
theorem give_same {t u : List Nd} {m : Nat} (F : Fair t (m : Int)) (hu : Right u (m : Int)) (hl : u.length = t.length) {up at' tw : Nat} (hup : up < t.length) (hf : nf (nAt t up) ≠ -1) (hto : up < tw) (hto2 : tw < t.length)
    (hq : ∀ q, q ≠ up → q < t.length → nAt u q = nAt t q)
    (hn : (nl (nAt t up) = at' ∧ nAt u up = (nf (nAt t up), nc (nAt t up), (tw : Int), nr (nAt t up), ns (nAt t up), nv (nAt t up))) ∨ (nr (nAt t up) = at' ∧ nAt u up = (nf (nAt t up), nc (nAt t up), nl (nAt t up), (tw : Int), ns (nAt t up), nv (nAt t up))))
    (he : prn (Pw t m at') (bt t tw) = prn (Pw t m at') (bt t at')) : ∀ (k i : Nat), i < t.length → t.length ≤ k + i → prn (Pw t m i) (bt u i) = prn (Pw t m i) (bt t i)
  | 0, i, hi, hk => by omega
  | k + 1, i, hi, hk => by
    have hR := F.2.2.2.2.1
    have hi' : i < u.length := by omega
    rcases Nat.lt_trichotomy i up with c | c | c
    · have e := hq i (by omega) hi
      by_cases hg : nf (nAt t i) = -1
      · rw [bt_leaf hi hg, bt_leaf hi' (by rw [e]; exact hg), e]
      · obtain ⟨a, b, ea, eb, h1, h2, h3, h4, _⟩ := ask_at hR hi hg
        obtain ⟨p1, p2⟩ := pw_sides F hi hg ea eb
        rw [bt_ask hR hi hg ea eb, bt_ask hu hi' (by rw [e]; exact hg) (by rw [e]; exact ea) (by rw [e]; exact eb), e]
        refine prn_sides ?_ ?_
        · rw [p1]; exact give_same F hu hl hup hf hto hto2 hq hn he k a h2 (by omega)
        · rw [p2]; exact give_same F hu hl hup hf hto hto2 hq hn he k b h4 (by omega)
    · subst c
      obtain ⟨a, b, ea, eb, h1, h2, h3, h4, _⟩ := ask_at hR hi hf
      obtain ⟨p1, p2⟩ := pw_sides F hi hf ea eb
      have ag : ∀ j, i < j → j < t.length → bt u j = bt t j := fun j hj hj2 => bt_agree hR hu hl (j := i + 1) (fun q q1 q2 => hq q (by omega) q2) t.length j (by omega) hj2 (by omega)
      rcases hn with ⟨n1, n2⟩ | ⟨n1, n2⟩
      · have ea' : a = at' := by omega
        subst ea'
        rw [bt_ask hR hi hf ea eb, bt_ask hu hi' (a := tw) (b := b) (by rw [n2]; exact hf) (by rw [n2]; rfl) (by rw [n2]; exact eb), n2, ag tw hto hto2, ag b (by omega) h4]
        refine prn_sides ?_ rfl
        show prn (fun x => Pw t m i x ∧ goes (nf (nAt t i)) (nc (nAt t i)) (ns (nAt t i)) x = true) (bt t tw) = prn (fun x => Pw t m i x ∧ goes (nf (nAt t i)) (nc (nAt t i)) (ns (nAt t i)) x = true) (bt t a)
        rw [p1]; exact he
      · have eb' : b = at' := by omega
        subst eb'
        rw [bt_ask hR hi hf ea eb, bt_ask hu hi' (a := a) (b := tw) (by rw [n2]; exact hf) (by rw [n2]; exact ea) (by rw [n2]; rfl), n2, ag tw hto hto2, ag a (by omega) h2]
        refine prn_sides rfl ?_
        show prn (fun x => Pw t m i x ∧ goes (nf (nAt t i)) (nc (nAt t i)) (ns (nAt t i)) x = false) (bt t tw) = prn (fun x => Pw t m i x ∧ goes (nf (nAt t i)) (nc (nAt t i)) (ns (nAt t i)) x = false) (bt t b)
        rw [p2]; exact he
    · rw [bt_agree hR hu hl (j := up + 1) (fun q q1 q2 => hq q (by omega) q2) t.length i (by omega) hi (by omega)]
/-- why a node may give way -/
theorem give_why {t : List Nd} {m : Nat} (F : Fair t (m : Int)) {i a b : Nat} (hi : i < t.length) (hf : nf (nAt t i) ≠ -1) (ea : nl (nAt t i) = a) (eb : nr (nAt t i) = b) :
    (anyS (region t m a) = false → prn (Pw t m i) (bt t b) = prn (Pw t m i) (bt t i)) ∧
    (anyS (region t m a) = true → anyS (region t m b) = false → prn (Pw t m i) (bt t a) = prn (Pw t m i) (bt t i)) ∧
    (anyS (region t m a) = true → anyS (region t m b) = true → nf (nAt t a) = -1 → nf (nAt t b) = -1 → nv (nAt t a) = nv (nAt t b) → prn (Pw t m i) (bt t a) = prn (Pw t m i) (bt t i)) := by
  have hR := F.2.2.2.2.1
  obtain ⟨a', b', ea', eb', h1, h2, h3, h4, _⟩ := ask_at hR hi hf
  have e1 : a' = a := by omega
  have e2 : b' = b := by omega
  subst e1
  subst e2
  obtain ⟨p1, p2⟩ := pw_sides F hi hf ea eb
  have r1 := reach_iff F h2
  have r2 := reach_iff F h4
  have x1 : (∃ x, Pw t m i x ∧ goes (nf (nAt t i)) (nc (nAt t i)) (ns (nAt t i)) x = true) ↔ ∃ x, Pw t m a' x := by
    rw [← p1]
  have x2 : (∃ x, Pw t m i x ∧ goes (nf (nAt t i)) (nc (nAt t i)) (ns (nAt t i)) x = false) ↔ ∃ x, Pw t m b' x := by
    rw [← p2]
  rw [bt_ask hR hi hf ea eb]
  refine ⟨fun q => ?_, fun q q2 => ?_, fun q q2 l1 l2 l3 => ?_⟩
  · have n : ¬ ∃ x, Pw t m i x ∧ goes (nf (nAt t i)) (nc (nAt t i)) (ns (nAt t i)) x = true := fun h => by
      rw [r1.2 (x1.1 h)] at q; cases q
    rw [prn_left n]
    refine prn_congr (fun x => ⟨fun h => ⟨h, ?_⟩, fun h => h.1⟩) _
    cases e : goes (nf (nAt t i)) (nc (nAt t i)) (ns (nAt t i)) x with
    | false => rfl
    | true => exact absurd ⟨x, h, e⟩ n
  · have y := x1.2 (r1.1 q)
    have n : ¬ ∃ x, Pw t m i x ∧ goes (nf (nAt t i)) (nc (nAt t i)) (ns (nAt t i)) x = false := fun h => by
      rw [r2.2 (x2.1 h)] at q2; cases q2
    rw [prn_right y n]
    refine prn_congr (fun x => ⟨fun h => ⟨h, ?_⟩, fun h => h.1⟩) _
    cases e : goes (nf (nAt t i)) (nc (nAt t i)) (ns (nAt t i)) x with
    | true => rfl
    | false => exact absurd ⟨x, h, e⟩ n
  · rw [bt_leaf h2 l1, bt_leaf h4 l2, prn_both (x1.2 (r1.1 q)) (x2.2 (r2.1 q2)), l3]
    show BT.lf (nv (nAt t b')) = if nv (nAt t b') = nv (nAt t b') then BT.lf (nv (nAt t b')) else _
    rw [if_pos rfl]
/-- where none may, nothing can be left out -/
theorem bare_of {t : List Nd} {m : Nat} (F : Fair t (m : Int)) (h : ∀ i, i < t.length → nf (nAt t i) ≠ -1 → anyS (region t m (nl (nAt t i)).toNat) = true ∧ anyS (region t m (nr (nAt t i)).toNat) = true ∧ ¬ (nf (nAt t (nl (nAt t i)).toNat) = -1 ∧ nf (nAt t (nr (nAt t i)).toNat) = -1 ∧ nv (nAt t (nl (nAt t i)).toNat) = nv (nAt t (nr (nAt t i)).toNat))) : ∀ (k i : Nat), i < t.length → t.length ≤ k + i → Bare (Pw t m i) (bt t i)
  | 0, i, hi, hk => by omega
  | k + 1, i, hi, hk => by
    have hR := F.2.2.2.2.1
    by_cases hf : nf (nAt t i) = -1
    · rw [bt_leaf hi hf]; exact trivial
    · obtain ⟨a, b, ea, eb, h1, h2, h3, h4, _⟩ := ask_at hR hi hf
      obtain ⟨p1, p2⟩ := pw_sides F hi hf ea eb
      obtain ⟨q1, q2, q3⟩ := h i hi hf
      rw [ea, Int.toNat_natCast] at q1 q3
      rw [eb, Int.toNat_natCast] at q2 q3
      rw [bt_ask hR hi hf ea eb]
      refine ⟨?_, ?_, ?_, ?_, ?_⟩
      · have := (reach_iff F h2).1 q1
        rw [← p1] at this
        exact this
      · have := (reach_iff F h4).1 q2
        rw [← p2] at this
        exact this
      · rintro v ⟨c1, c2⟩
        by_cases d1 : nf (nAt t a) = -1
        · by_cases d2 : nf (nAt t b) = -1
          · rw [bt_leaf h2 d1] at c1
            rw [bt_leaf h4 d2] at c2
            cases c1
            have c2' := BT.lf.inj c2
            exact q3 ⟨d1, d2, c2'.symm⟩
          · obtain ⟨a2, b2, e3, e4, _⟩ := ask_at hR h4 d2
            rw [bt_ask hR h4 d2 e3 e4] at c2
            cases c2
        · obtain ⟨a2, b2, e3, e4, _⟩ := ask_at hR h2 d1
          rw [bt_ask hR h2 d1 e3 e4] at c1
          cases c1
      · rw [p1]; exact bare_of F h k a h2 (by omega)
      · rw [p2]; exact bare_of F h k b h4 (by omega)

end Go.Proofs.YtiggkjkjfnlfkaaGreatDoor.M
