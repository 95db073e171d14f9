/-
  Trees laid one behind the other, level by level: lists of nodes, and where each tree begins; no condition beyond those named.
-/
import Derived.Test.YtandimbpealcladDoorMathB
import Derived.Test.YtandimbpealcladDoorMathG
namespace Go.Proofs.YtandimbpealcladDoor.M
set_option linter.unusedVariables false

/-- a node, those below it so many places further on -/
def sh (o : Nat) (n : Nd) : Nd := if nf n = -1 then n else (nf n, nc n, nl n + (o : Nat), nr n + (o : Nat), ns n, nv n)
theorem sh_nf (o : Nat) (n : Nd) : nf (sh o n) = nf n := by unfold sh; split <;> rfl
theorem sh_nv (o : Nat) (n : Nd) : nv (sh o n) = nv n := by unfold sh; split <;> rfl
theorem sh_nc (o : Nat) (n : Nd) : nc (sh o n) = nc n := by unfold sh; split <;> rfl
theorem sh_ns (o : Nat) (n : Nd) : ns (sh o n) = ns n := by unfold sh; split <;> rfl
theorem sh_leaf {n : Nd} (o : Nat) (h : nf n = -1) : sh o n = n := by unfold sh; rw [if_pos h]
theorem sh_ask {n : Nd} (o : Nat) (h : nf n ≠ -1) : sh o n = (nf n, nc n, nl n + (o : Nat), nr n + (o : Nat), ns n, nv n) := by unfold sh; rw [if_neg h]
/-- .. and back -/
def un (o : Nat) (n : Nd) : Nd := if nf n = -1 then n else (nf n, nc n, nl n - (o : Nat), nr n - (o : Nat), ns n, nv n)
theorem un_sh (o : Nat) (n : Nd) : un o (sh o n) = n := by
  unfold un
  rw [sh_nf]
  by_cases h : nf n = -1
  · rw [if_pos h, sh_leaf o h]
  · rw [if_neg h, sh_ask o h]
    obtain ⟨a, b, c, d, e, f⟩ := n
    simp [nf, nc, nl, nr, ns, nv] <;> omega

/-- while a tree is laid behind others -/
def mid (L t : List Nd) (i : Nat) : List Nd := L ++ (levK t i).map (sh L.length) ++ ((ordS t i).drop i).map (nAt t)
theorem mid_len {L t : List Nd} {i : Nat} (h : i ≤ (ordS t i).length) : (mid L t i).length = L.length + (ordS t i).length := by
  unfold mid; simp [levK_len]; omega
theorem mid_zero (L t : List Nd) : mid L t 0 = L ++ [nAt t 0] := by unfold mid; simp [levK, ordS]
def laid (L t : List Nd) : List Nd := L ++ (levels t).map (sh L.length)
theorem laid_len (L t : List Nd) : (laid L t).length = L.length + t.length := by unfold laid; simp [levels_len]
theorem mid_end {L t : List Nd} {m : Int} (F : Fair t m) : mid L t t.length = laid L t := by
  unfold mid laid levels
  rw [List.drop_of_length_le (by rw [(ord_end F).2]; exact Nat.le_refl _)]
  simp
theorem drop_cons {l : List Nat} {i : Nat} (h : i < l.length) : l.drop i = l.getD i 0 :: l.drop (i + 1) := by
  rw [List.drop_eq_getElem_cons h]
  simp [List.getD, List.getElem?_eq_getElem h]
theorem mid_split {L t : List Nd} {i : Nat} (h : i < (ordS t i).length) : mid L t i = (L ++ (levK t i).map (sh L.length)) ++ nAt t ((ordS t i).getD i 0) :: ((ordS t i).drop (i + 1)).map (nAt t) := by
  unfold mid; rw [drop_cons h]; simp
theorem pre_len (L t : List Nd) (i : Nat) : (L ++ (levK t i).map (sh L.length)).length = L.length + i := by simp [levK_len]
theorem mid_at {L t : List Nd} {i : Nat} (h : i < (ordS t i).length) : nAt (mid L t i) (L.length + i) = nAt t ((ordS t i).getD i 0) := by
  rw [mid_split h]
  unfold nAt
  rw [← pre_len L t i]
  simp [List.getD]
theorem mid_leaf {L t : List Nd} {i : Nat} (h : i < (ordS t i).length) (hf : nf (nAt t ((ordS t i).getD i 0)) = -1) : mid L t (i + 1) = mid L t i := by
  have e : ordS t (i + 1) = ordS t i := by
    show ordS t i ++ kids _ = _
    unfold kids; rw [if_pos hf]; simp
  rw [mid_split h]
  unfold mid
  rw [e]
  have : levK t (i + 1) = levK t i ++ [nAt t ((ordS t i).getD i 0)] := by
    show levK t i ++ [reN _ _] = _
    unfold reN; rw [if_pos hf]
  rw [this, List.map_append, List.map_cons, List.map_nil, sh_leaf _ hf]
  simp only [List.append_assoc, List.cons_append, List.nil_append]
theorem mid_ask {L t : List Nd} {i : Nat} (h : i < (ordS t i).length) (hf : nf (nAt t ((ordS t i).getD i 0)) ≠ -1) (hn : Nd) (hl : Nd) (hr : Nd)
    (e1 : hl = nAt t (nl (nAt t ((ordS t i).getD i 0))).toNat) (e2 : hr = nAt t (nr (nAt t ((ordS t i).getD i 0))).toNat)
    (e3 : hn = (nf (nAt t ((ordS t i).getD i 0)), nc (nAt t ((ordS t i).getD i 0)), ((mid L t i).length : Int), ((mid L t i).length : Int) + 1, ns (nAt t ((ordS t i).getD i 0)), nv (nAt t ((ordS t i).getD i 0)))) :
    mid L t (i + 1) = (mid L t i).set (L.length + i) hn ++ [hl, hr] := by
  have e : ordS t (i + 1) = ordS t i ++ [(nl (nAt t ((ordS t i).getD i 0))).toNat, (nr (nAt t ((ordS t i).getD i 0))).toNat] := by
    show ordS t i ++ kids _ = _
    unfold kids; rw [if_neg hf]
  have e4 : sh L.length (reN (nAt t ((ordS t i).getD i 0)) (ordS t i).length) = hn := by
    have e5 : reN (nAt t ((ordS t i).getD i 0)) (ordS t i).length = (nf (nAt t ((ordS t i).getD i 0)), nc (nAt t ((ordS t i).getD i 0)), ((ordS t i).length : Int), ((ordS t i).length : Int) + 1, ns (nAt t ((ordS t i).getD i 0)), nv (nAt t ((ordS t i).getD i 0))) := by unfold reN; rw [if_neg hf]
    rw [e5, e3, mid_len (by omega)]
    generalize nAt t ((ordS t i).getD i 0) = n at hf
    rw [sh_ask (n := (nf n, nc n, ((ordS t i).length : Int), ((ordS t i).length : Int) + 1, ns n, nv n)) _ hf]
    show (nf n, nc n, ((ordS t i).length : Int) + (L.length : Int), ((ordS t i).length : Int) + 1 + (L.length : Int), ns n, nv n) = _
    have q1 : ((ordS t i).length : Int) + (L.length : Int) = ((L.length + (ordS t i).length : Nat) : Int) := by omega
    have q2 : ((ordS t i).length : Int) + 1 + (L.length : Int) = ((L.length + (ordS t i).length : Nat) : Int) + 1 := by omega
    rw [q1, q2]
  rw [mid_split h, ← pre_len L t i, List.set_append_right _ _ (Nat.le_refl _), Nat.sub_self, List.set_cons_zero]
  unfold mid
  rw [e, List.drop_append_of_le_length (by omega)]
  have : levK t (i + 1) = levK t i ++ [reN (nAt t ((ordS t i).getD i 0)) (ordS t i).length] := rfl
  rw [this, List.map_append, List.map_append, List.map_cons, List.map_nil, e4, e1, e2]
  simp

/-! ### the order, as numbers -/
def ordI (t : List Nd) (k : Nat) : List Int := (ordS t k).map (fun x : Nat => (x : Int))
theorem ordI_len (t : List Nd) (k : Nat) : (ordI t k).length = (ordS t k).length := by unfold ordI; simp
theorem ordI_at (t : List Nd) (k : Nat) {p : Nat} (h : p < (ordS t k).length) : (ordI t k).getD p 0 = ((ordS t k).getD p 0 : Nat) := by
  unfold ordI
  simp [List.getD, List.getElem?_eq_getElem h]
theorem ordI_leaf {t : List Nd} {k : Nat} (hf : nf (nAt t ((ordS t k).getD k 0)) = -1) : ordI t (k + 1) = ordI t k ∧ levK t (k + 1) = levK t k ++ [nAt t ((ordS t k).getD k 0)] := by
  constructor
  · unfold ordI
    have e : ordS t (k + 1) = ordS t k := by
      show ordS t k ++ kids _ = _
      unfold kids; rw [if_pos hf]; simp
    rw [e]
  · show levK t k ++ [reN _ _] = _
    unfold reN; rw [if_pos hf]
theorem ordI_ask {t : List Nd} {m : Int} (F : Fair t m) {k : Nat} (hk : k < t.length) (hf : nf (nAt t ((ordS t k).getD k 0)) ≠ -1) :
    ordI t (k + 1) = ordI t k ++ [nl (nAt t ((ordS t k).getD k 0))] ++ [nr (nAt t ((ordS t k).getD k 0))] ∧ levK t (k + 1) = levK t k ++ [(nf (nAt t ((ordS t k).getD k 0)), nc (nAt t ((ordS t k).getD k 0)), ((ordI t k).length : Int), ((ordI t k).length : Int) + 1, ns (nAt t ((ordS t k).getD k 0)), nv (nAt t ((ordS t k).getD k 0)))] := by
  obtain ⟨h, hl⟩ := ord_all F k (by omega)
  have hx : (ordS t k).getD k 0 < t.length := h.lt _ (getD_mem' (hl hk))
  obtain ⟨a, b, ea, eb, q⟩ := ask_at F.2.2.2.2.1 hx hf
  constructor
  · unfold ordI
    have e : ordS t (k + 1) = ordS t k ++ [(nl (nAt t ((ordS t k).getD k 0))).toNat, (nr (nAt t ((ordS t k).getD k 0))).toNat] := by
      show ordS t k ++ kids _ = _
      unfold kids; rw [if_neg hf]
    rw [e, ea, eb]; simp
  · rw [ordI_len]
    show levK t k ++ [reN _ _] = _
    unfold reN; rw [if_neg hf]

/-! ### all trees -/
def laidK (T : List (List Nd)) : Nat → List Nd
  | 0 => []
  | k + 1 => laid (laidK T k) (T.getD k [])
def rootsK (T : List (List Nd)) : Nat → List Int
  | 0 => []
  | k + 1 => rootsK T k ++ [((laidK T k).length : Int)]
theorem rootsK_len (T : List (List Nd)) : ∀ k, (rootsK T k).length = k
  | 0 => rfl
  | k + 1 => by unfold rootsK; simp [rootsK_len T k]
theorem rootsK_at (T : List (List Nd)) : ∀ (k i : Nat), i < k → (rootsK T k).getD i 0 = ((laidK T i).length : Int)
  | 0, i, h => by omega
  | k + 1, i, h => by
    unfold rootsK
    by_cases e : i = k
    · subst e; simp [List.getD, rootsK_len]
    · have := rootsK_at T k i (by omega)
      rw [← this]
      simp [List.getD, List.getElem?_append_left, rootsK_len, show i < k by omega]
theorem laidK_pre (T : List (List Nd)) (k : Nat) : ∀ j, ∃ x, laidK T (k + j) = laidK T k ++ x
  | 0 => ⟨[], by simp⟩
  | j + 1 => by
    obtain ⟨x, e⟩ := laidK_pre T k j
    refine ⟨x ++ (levels (T.getD (k + j) [])).map (sh (laidK T (k + j)).length), ?_⟩
    rw [← List.append_assoc, ← e]; rfl
theorem laidK_at {T : List (List Nd)} {k n p : Nat} (h : k < n) (hp : p < (T.getD k []).length) : nAt (laidK T n) ((laidK T k).length + p) = sh (laidK T k).length (nAt (levels (T.getD k [])) p) ∧ (laidK T k).length + p < (laidK T n).length := by
  obtain ⟨x, e⟩ := laidK_pre T (k + 1) (n - (k + 1))
  rw [show k + 1 + (n - (k + 1)) = n by omega] at e
  have e2 : laidK T (k + 1) = laidK T k ++ (levels (T.getD k [])).map (sh (laidK T k).length) := rfl
  rw [e, e2]
  have hp' : p < (levels (T.getD k [])).length := by rw [levels_len]; exact hp
  generalize T.getD k [] = tk at *
  generalize laidK T k = A at *
  have hm : p < ((levels tk).map (sh A.length)).length := by rw [List.length_map]; exact hp'
  refine ⟨?_, by simp only [List.length_append, List.length_map]; omega⟩
  unfold nAt
  rw [List.append_assoc]
  simp only [List.getD]
  rw [List.getElem?_append_right (by omega), Nat.add_sub_cancel_left, List.getElem?_append_left hm, List.getElem?_map, List.getElem?_eq_getElem hp']
  rfl
theorem laidK_len_step (T : List (List Nd)) (k : Nat) : (laidK T (k + 1)).length = (laidK T k).length + (T.getD k []).length := laid_len _ _
theorem laidK_le (T : List (List Nd)) {k n : Nat} (h : k ≤ n) : (laidK T k).length ≤ (laidK T n).length := by
  obtain ⟨x, e⟩ := laidK_pre T k (n - k)
  rw [show k + (n - k) = n by omega] at e
  rw [e]; simp
theorem laidK_bound {T : List (List Nd)} (h : ∀ i, i < T.length → (T.getD i []).length ≤ 63) : ∀ k, k ≤ T.length → (laidK T k).length ≤ 63 * k
  | 0, _ => by simp [laidK]
  | k + 1, hk => by
    have := laidK_bound h k (by omega)
    have := h k (by omega)
    rw [laidK_len_step]; omega
/-- one tree's nodes, taken out -/
theorem laidK_take {T : List (List Nd)} {k n : Nat} (h : k < n) : ((laidK T n).drop (laidK T k).length).take (T.getD k []).length = (levels (T.getD k [])).map (sh (laidK T k).length) := by
  obtain ⟨x, e⟩ := laidK_pre T (k + 1) (n - (k + 1))
  rw [show k + 1 + (n - (k + 1)) = n by omega] at e
  have e2 : laidK T (k + 1) = laidK T k ++ (levels (T.getD k [])).map (sh (laidK T k).length) := rfl
  rw [e, e2, List.append_assoc, List.drop_left]
  have : (T.getD k []).length = ((levels (T.getD k [])).map (sh (laidK T k).length)).length := by simp [levels_len]
  rw [this, List.take_left]

/-! ### what Many says -/
def manyF (g : Gv) : List (List Int) → Int
  | [] => 0
  | r :: t => if standF g r ≠ 0 then standF g r else manyF g t
def manyV (g : Gv) (rs : List (List Int)) : List Int := if manyF g rs = 0 then rs.map (evalG g) else []
theorem many_none {g : Gv} : ∀ {rs : List (List Int)}, (∀ k, k < rs.length → standF g (rs.getD k []) = 0) → manyF g rs = 0
  | [], _ => rfl
  | r :: t, h => by
    unfold manyF
    have h0 := h 0 (by simp)
    rw [show (r :: t).getD 0 [] = r from rfl] at h0
    rw [if_neg (by simp [h0])]
    exact many_none (fun k hk => by have := h (k + 1) (by simp; omega); simpa using this)
theorem many_some {g : Gv} : ∀ {rs : List (List Int)} {k : Nat}, k < rs.length → (∀ j, j < k → standF g (rs.getD j []) = 0) → standF g (rs.getD k []) ≠ 0 → manyF g rs = standF g (rs.getD k [])
  | [], k, h, _, _ => by simp at h
  | r :: t, 0, h, _, hn => by
    unfold manyF
    rw [show (r :: t).getD 0 [] = r from rfl] at hn ⊢
    rw [if_pos hn]
  | r :: t, k + 1, h, ha, hn => by
    unfold manyF
    have h0 := ha 0 (by omega)
    rw [show (r :: t).getD 0 [] = r from rfl] at h0
    rw [if_neg (by simp [h0])]
    have e : (r :: t).getD (k + 1) [] = t.getD k [] := by simp
    rw [e] at hn ⊢
    exact many_some (by simpa using h) (fun j hj => by have := ha (j + 1) (by omega); simpa using this) hn

end Go.Proofs.YtandimbpealcladDoor.M
