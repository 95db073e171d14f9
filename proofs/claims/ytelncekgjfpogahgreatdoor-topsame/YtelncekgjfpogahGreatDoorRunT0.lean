/-
  Several texts as one: Math, MathL, MathS, CopyW, MathCa, MathKa, MathKb.
-/
import Derived.Laws.CopyOwn
namespace Go.Proofs.YtelncekgjfpogahGreatDoor.M
set_option linter.unusedVariables false
def fitI (n : Int) : Int := if 1099511627776 < n then 1099511627776 else if n < -1099511627776 then -1099511627776 else n
theorem fit_le (n : Int) : -1099511627776 ≤ fitI n ∧ fitI n ≤ 1099511627776 := by
 unfold fitI; split
 · omega
 · split <;> omega
theorem fit_id {n : Int} (h : -1099511627776 ≤ n ∧ n ≤ 1099511627776) : fitI n = n := by
 unfold fitI; rw [if_neg (by omega), if_neg (by omega)]
def addI (a b : Int) : Int := fitI (fitI a + fitI b)
def mulI (a b : Int) : Int := fitI (fitI a * fitI b)
def totalI (l : List Int) : Int := l.foldl addI 0
def sortI (l : List Int) : List Int := l.mergeSort fun x y => decide (x ≤ y)
theorem down_eq (a b : Int) (hb : 0 < b) : (if a.tmod b < 0 then a.tdiv b - 1 else a.tdiv b) = a / b := by
 have h1 : a.tdiv b * b + a.tmod b = a := by rw [Int.mul_comm]; exact Int.mul_tdiv_add_tmod a b
 have h2 : a.tmod b < b := Int.tmod_lt_of_pos a hb
 have h3 : -b < a.tmod b := by
  have := Int.lt_tmod_of_pos a hb; omega
 by_cases h : a.tmod b < 0
 · rw [if_pos h]
   symm
   rw [Int.ediv_eq_iff_of_pos hb]
   constructor
   · rw [Int.sub_mul]; omega
   · rw [Int.sub_mul]; omega
 · rw [if_neg h]
   symm
   rw [Int.ediv_eq_iff_of_pos hb]
   constructor
   · omega
   · omega
theorem tdiv_bd (a b m : Int) (hb : 0 < b) (h1 : -m ≤ a) (h2 : a ≤ m) : -m ≤ a.tdiv b ∧ a.tdiv b ≤ m := by
 have k1 : a.tdiv b * b + a.tmod b = a := by rw [Int.mul_comm]; exact Int.mul_tdiv_add_tmod a b
 have k2 := down_eq a b hb
 rcases Int.lt_or_le a 0 with h | h
 · have e : a.tdiv b = -((-a).tdiv b) := by rw [Int.neg_tdiv]; omega
   have := Int.tdiv_nonneg (show 0 ≤ -a by omega) (Int.le_of_lt hb)
   have h3 : (-a).tdiv b ≤ -a := by
    rw [Int.tdiv_eq_ediv_of_nonneg (by omega)]; exact Int.ediv_le_self b (by omega)
   omega
 · rw [Int.tdiv_eq_ediv_of_nonneg h]
   have h3 := Int.ediv_le_self b h
   have h4 : 0 ≤ a / b := Int.ediv_nonneg h (Int.le_of_lt hb)
   omega
theorem quo_pp {x y : Int} (hx : 0 < x) : (y ≤ 1099511627776 / x) = (x * y ≤ 1099511627776) := by
 rw [Int.le_ediv_iff_mul_le hx, Int.mul_comm]
theorem quo_np {x y : Int} (hx : x < 0) : (y ≤ 1099511627776 / -x) = (-1099511627776 ≤ x * y) := by
 rw [Int.le_ediv_iff_mul_le (by omega), Int.mul_neg, Int.mul_comm, eq_iff_iff]; omega
theorem quo_nn {x y : Int} (hx : x < 0) : (-y ≤ 1099511627776 / -x) = (x * y ≤ 1099511627776) := by
 rw [Int.le_ediv_iff_mul_le (by omega), Int.mul_neg, Int.neg_mul, Int.neg_neg, Int.mul_comm]
theorem sg_pp {x y : Int} (hx : 0 ≤ x) (hy : 0 ≤ y) : 0 ≤ x * y := Int.mul_nonneg hx hy
theorem sg_nn {x y : Int} (hx : x ≤ 0) (hy : y ≤ 0) : 0 ≤ x * y := Int.mul_nonneg_of_nonpos_of_nonpos hx hy
theorem mul_in {a b : Int} (h1 : -1099511627776 ≤ fitI a * fitI b) (h2 : fitI a * fitI b ≤ 1099511627776) : fitI a * fitI b = mulI a b := (fit_id ⟨h1, h2⟩).symm
theorem mul_hi {a b : Int} (h : 1099511627776 < fitI a * fitI b) : 1099511627776 = mulI a b := by
 unfold mulI; rw [fitI]; rw [if_pos h]
theorem mul_zl {a b : Int} (h : fitI a = 0) : 0 = mulI a b := by unfold mulI; rw [h, Int.zero_mul]; rfl
def fillI (F : List Int) (k : Nat) : List Int := F.take k ++ List.replicate (F.length - k) 0
theorem fill_len (F : List Int) (k : Nat) (h : k ≤ F.length) : (fillI F k).length = F.length := by
 unfold fillI; rw [List.length_append, List.length_take, List.length_replicate]; omega
theorem fill_zero (F : List Int) : fillI F 0 = List.replicate F.length 0 := by unfold fillI; simp
theorem fill_all (F : List Int) : fillI F F.length = F := by unfold fillI; simp
theorem fill_set (F : List Int) (k : Nat) (h : k < F.length) : (fillI F k).set k F[k] = fillI F (k + 1) := by
 unfold fillI
 rw [List.set_append_right _ _ (by rw [List.length_take]; omega), List.length_take, Nat.min_eq_left (by omega), Nat.sub_self,
  List.take_succ_eq_append_getElem h, List.append_assoc]
 have : F.length - k = (F.length - (k + 1)) + 1 := by omega
 rw [this, List.replicate_succ]
 rfl
theorem sort_pw (l : List Int) : (sortI l).Pairwise (fun a b => a ≤ b) := by
 have h := List.pairwise_mergeSort (le := fun x y : Int => decide (x ≤ y)) (fun a b c h1 h2 => by simp at *; omega) (fun a b => by simp; omega) l
 exact h.imp (fun h => by simpa using h)
theorem sort_perm (l : List Int) : (sortI l).Perm l := List.mergeSort_perm l _
theorem sort_length (l : List Int) : (sortI l).length = l.length := (sort_perm l).length_eq
end Go.Proofs.YtelncekgjfpogahGreatDoor.M
namespace Go.Proofs.YtelncekgjfpogahGreatDoor
open Go Go.RowKit
set_option linter.unusedVariables false
theorem run_copy_wide {P : Program} (w : World) (dT sT ty elem : TypeId) (sz g o dLen dCap : Nat) (a : Addr) (sLen sCap : Nat) (cur : Array Value) (t : TypeId) (cs : List Value) (n : Nat)
 (hu : P.underlying dT = some (.slice elem)) (hs : (P.info? elem).map (·.size) = some sz)
 (hg : w.heap[g]? = some (.cells cur t (0, 0))) (hn : n = Nat.min sLen dLen) (hc : cs.length = n * sz)
 (hsrc : ∀ j v, cs[j]? = some v → w.cell? (a.add j) = some v) (hfit : o + cs.length ≤ cur.size) (h1 : ∀ v ∈ cs, v.oneCell' = true) :
 (Builtin.copy_ #[dT, sT] ty #[.slice (some ⟨g, o, none⟩) dLen dCap, .slice (some a) sLen sCap]).run P w =
  .ok (goInt n) (w.setRow g (cur.toList.take o ++ cs ++ cur.toList.drop (o + cs.length)).toArray) := by
 have hl := run_loadCells_list (P := P) w a cs hsrc
 have hst := run_storeCells_at P g o t cs 0 cur w hg (by simpa using hfit) h1
 cases hq : P.info? elem with
 | none => simp [hq] at hs
 | some i =>
   have hi : i.size = sz := by simpa [hq] using hs
   simp [Builtin.copy_, run_underlying hu, Builtin.lenOf, Builtin.firstCells, sizeOf, typeInfo, hq, hi, ← hn, ← hc, hl, hst]
theorem wpList_copy_wide {P : Program} {w : World} {ops : Array Oper} {rest : List Oper} {o : Oper} {a : Act} {Q : Exit → Act → World → Prop} (hgd : o.guard = none) (d s : Operand) (dT sT : TypeId)
 (ho : o.op = .call { callee := .builtin .copy, args := #[d, s], argTypes := #[dT, sT] }) (elem : TypeId) (sz : Nat) (hu : P.underlying dT = some (.slice elem)) (hsz : (P.info? elem).map (·.size) = some sz)
 (ad : Addr) (dLen dCap sLen sCap : Nat) (g off : Nat) (hd : a.eval d = .slice (some ⟨g, off, none⟩) dLen dCap) (hs : a.eval s = .slice (some ad) sLen sCap)
 (cur : List Value) (t : TypeId) (hg : w.heap[g]? = some (.cells cur.toArray t (0, 0))) (cs : List Value) (n : Nat) (hn : n = Nat.min sLen dLen) (hc : cs.length = n * sz)
 (hsrc : ∀ j v, cs[j]? = some v → w.cell? (ad.add j) = some v)
 (hfit : off + cs.length ≤ cur.length) (h1 : ∀ v ∈ cs, v.oneCell' = true) (B : Nat) (w0 : World) (hb : Below B w0 w) (hBg : B ≤ g)
 (h : ∀ w', Hid (w'.heap[g]? = some (.cells (splice cur off cs).toArray t (0, 0))) → Below B w0 w' → wpList P ops Q rest (a.put o.dst (goInt n)) w') :
 wpList P ops Q (o :: rest) a w := by
 refine wpList_plain hgd fun K hK => ?_
 have hrun := run_copy_wide (P := P) w dT sT o.type elem sz g off dLen dCap ad sLen sCap cur.toArray t cs n hu hsz hg hn hc hsrc (by simpa using hfit) h1
 unfold Oper.wp
 simp [execOp, ho, resolve, invoke, builtin, hd, hs, hrun, Result.andThen]
 have := h (w.setRow g (cur.take off ++ (cs ++ cur.drop (off + cs.length))).toArray) (show _ = _ by simpa [splice] using setRow_heap w g _ _ t _ hg) (below_setRow hb hBg _)
 exact hK _ _ (by simpa using this)
theorem step_copy_wide {P : Program} {ops : Array Oper} {o : Oper} {a : Act} {w : World} {K : Act → World → Prop} {Q : Exit → Act → World → Prop} {E : Prop} (hgd : o.guard = none) (d s : Operand) (dT sT : TypeId)
 (ho : o.op = .call { callee := .builtin .copy, args := #[d, s], argTypes := #[dT, sT] }) (elem : TypeId) (sz : Nat) (hu : P.underlying dT = some (.slice elem)) (hsz : (P.info? elem).map (·.size) = some sz)
 (ad : Addr) (dLen dCap sLen sCap : Nat) (g off : Nat) (hd : a.eval d = .slice (some ⟨g, off, none⟩) dLen dCap) (hs : a.eval s = .slice (some ad) sLen sCap)
 (cur : List Value) (t : TypeId) (hg : w.heap[g]? = some (.cells cur.toArray t (0, 0))) (cs : List Value) (n : Nat) (hn : n = Nat.min sLen dLen) (hc : cs.length = n * sz)
 (hsrc : ∀ j v, cs[j]? = some v → w.cell? (ad.add j) = some v)
 (hfit : off + cs.length ≤ cur.length) (h1 : ∀ v ∈ cs, v.oneCell' = true) (B : Nat) (w0 : World) (hb : Below B w0 w) (hBg : B ≤ g)
 (h : ∀ w', Hid (w'.heap[g]? = some (.cells (splice cur off cs).toArray t (0, 0))) → Below B w0 w' → K (a.put o.dst (goInt n)) w') :
 if Region.wanted o (yielded ops a.tmps) = true then Oper.wp P o a w K Q else E := by
 have hw : Region.wanted o (yielded ops a.tmps) = true := by simp [Region.wanted, hgd]
 rw [if_pos hw]
 have hrun := run_copy_wide (P := P) w dT sT o.type elem sz g off dLen dCap ad sLen sCap cur.toArray t cs n hu hsz hg hn hc hsrc (by simpa using hfit) h1
 unfold Oper.wp
 simp [execOp, ho, resolve, invoke, builtin, hd, hs, hrun, Result.andThen]
 have := h (w.setRow g (cur.take off ++ (cs ++ cur.drop (off + cs.length))).toArray) (show _ = _ by simpa [splice] using setRow_heap w g _ _ t _ hg) (below_setRow hb hBg _)
 exact (show K _ _ by simpa using this)
end Go.Proofs.YtelncekgjfpogahGreatDoor
namespace Go.Proofs.YtelncekgjfpogahGreatDoor.M
set_option linter.unusedVariables false
def zz (n : Int) : Nat := if n < 0 then (-(n + 1)).toNat * 2 + 1 else n.toNat * 2
def unz (x : Nat) : Int := if x % 2 = 1 then -((x / 2 : Nat) : Int) - 1 else ((x / 2 : Nat) : Int)
theorem unz_zz (n : Int) : unz (zz n) = n := by
 unfold zz
 split
 · unfold unz
   rw [if_pos (by omega)]
   omega
 · unfold unz
   rw [if_neg (by omega)]
   omega
theorem zz_unz (x : Nat) : zz (unz x) = x := by
 unfold unz
 split
 · unfold zz
   rw [if_pos (by omega)]
   omega
 · unfold zz
   rw [if_neg (by omega)]
   omega
theorem zz_lt {n : Int} (h1 : -9223372036854775808 ≤ n) (h2 : n ≤ 9223372036854775807) : zz n < 18446744073709551616 := by
 unfold zz
 split <;> omega
theorem unz_in {x : Nat} (h : x < 18446744073709551616) : -9223372036854775808 ≤ unz x ∧ unz x ≤ 9223372036854775807 := by
 unfold unz
 split <;> omega
def sevK : Nat → Nat → List Nat
 | 0, x => [x]
 | k + 1, x => if 127 < x then (x % 128 + 128) :: sevK k (x / 128) else [x]
def sev (x : Nat) : List Nat := sevK x x
theorem sevK_is : ∀ (k l x : Nat), x ≤ k → x ≤ l → sevK k x = sevK l x
 | 0, 0, x, _, _ => rfl
 | 0, l + 1, x, h, _ => by show [x] = if 127 < x then _ else [x]; rw [if_neg (by omega)]
 | k + 1, 0, x, _, h => by show (if 127 < x then _ else [x]) = [x]; rw [if_neg (by omega)]
 | k + 1, l + 1, x, h1, h2 => by
   show (if 127 < x then _ else _) = if 127 < x then _ else _
   by_cases q : 127 < x
   · rw [if_pos q, if_pos q, sevK_is k l (x / 128) (by omega) (by omega)]
   · rw [if_neg q, if_neg q]
theorem sev_more {x : Nat} (h : 127 < x) : sev x = (x % 128 + 128) :: sev (x / 128) := by
 obtain ⟨k, rfl⟩ : ∃ k, x = k + 1 := ⟨x - 1, by omega⟩
 show (if 127 < k + 1 then ((k + 1) % 128 + 128) :: sevK k ((k + 1) / 128) else [k + 1]) = _
 rw [if_pos h, sevK_is k ((k + 1) / 128) ((k + 1) / 128) (by omega) (Nat.le_refl _)]
 rfl
theorem sev_last {x : Nat} (h : ¬ 127 < x) : sev x = [x] := by
 unfold sev
 cases x with
 | zero => rfl
 | succ k => show (if 127 < k + 1 then _ else [k + 1]) = _; rw [if_neg h]
theorem sev_ne (x : Nat) : sev x ≠ [] := by
 by_cases h : 127 < x
 · rw [sev_more h]; simp
 · rw [sev_last h]; simp
theorem sev_byte (x : Nat) : ∀ c ∈ sev x, c < 256 := by
 induction x using Nat.strongRecOn with
 | ind x ih =>
   by_cases h : 127 < x
   · rw [sev_more h]
     intro c hc
     rcases List.mem_cons.1 hc with e | e
     · omega
     · exact ih _ (by omega) c e
   · rw [sev_last h]
     intro c hc
     rw [List.mem_singleton] at hc
     omega
theorem sev_len (k : Nat) : ∀ x, x < 128 ^ (k + 1) → (sev x).length ≤ k + 1 := by
 induction k with
 | zero =>
   intro x hx
   rw [sev_last (by omega)]
   exact Nat.le_refl _
 | succ k ih =>
   intro x hx
   by_cases h : 127 < x
   · rw [sev_more h, List.length_cons]
     have := ih (x / 128) (by rw [Nat.div_lt_iff_lt_mul (by omega), ← Nat.pow_succ]; exact hx)
     omega
   · rw [sev_last h]; simp
theorem sev_ten {x : Nat} (h : x < 18446744073709551616) : (sev x).length ≤ 10 := sev_len 9 x (Nat.lt_of_lt_of_le h (by decide))
def numL (n : Int) : List Nat := sev (zz n)
theorem num_len {n : Int} (h1 : -9223372036854775808 ≤ n) (h2 : n ≤ 9223372036854775807) : 1 ≤ (numL n).length ∧ (numL n).length ≤ 10 := by
 refine ⟨?_, sev_ten (zz_lt h1 h2)⟩
 have := sev_ne (zz n)
 exact List.length_pos_iff.2 this
def gtK : List Nat → Nat → Nat → Int × Nat × Int
 | [], _, _ => (0, 0, 8)
 | c :: r, i, x => if (i = 9 ∧ 1 < c) ∨ (0 < i ∧ c = 0) then (0, 0, 2) else if c < 128 then (unz (x + c % 128 * 128 ^ i), i + 1, 0) else gtK r (i + 1) (x + c % 128 * 128 ^ i)
def getL (b : List Nat) : Int × Nat × Int := gtK b 0 0
theorem gtK_at {b : List Nat} {i x : Nat} (h : i < b.length) : gtK (b.drop i) i x = if (i = 9 ∧ 1 < b.getD i 0) ∨ (0 < i ∧ b.getD i 0 = 0) then ((0 : Int), (0 : Nat), (2 : Int)) else if b.getD i 0 < 128 then (unz (x + b.getD i 0 % 128 * 128 ^ i), i + 1, 0) else gtK (b.drop (i + 1)) (i + 1) (x + b.getD i 0 % 128 * 128 ^ i) := by
 rw [List.drop_eq_getElem_cons h]
 have e : b.getD i 0 = b[i] := by simp [List.getD, h]
 rw [e]
 rfl
theorem pow9 : (128 : Nat) ^ 9 = 9223372036854775808 := by decide
theorem pow_pos7 (i : Nat) : 0 < (128 : Nat) ^ i := Nat.pow_pos (by omega)
theorem place_le {u i : Nat} (hu : 0 < u) (h : u * 128 ^ i < 18446744073709551616) : i ≤ 9 := by
 by_cases q : i ≤ 9
 · exact q
 · exfalso
   have h1 : (128 : Nat) ^ 10 ≤ 128 ^ i := Nat.pow_le_pow_right (by omega) (by omega)
   have h2 : (128 : Nat) ^ 10 = 1180591620717411303424 := by decide
   have h3 : 1 * 128 ^ i ≤ u * 128 ^ i := Nat.mul_le_mul_right _ hu
   omega
theorem last_le {u : Nat} (h : u * 128 ^ 9 < 18446744073709551616) : u ≤ 1 := by
 rw [pow9] at h
 omega
theorem gt_sev : ∀ (u i x : Nat) (r : List Nat), (0 < i → 0 < u) → u * 128 ^ i < 18446744073709551616 → gtK (sev u ++ r) i x = (unz (x + u * 128 ^ i), i + (sev u).length, 0) := by
 intro u
 induction u using Nat.strongRecOn with
 | ind u ih =>
   intro i x r h0 h
   by_cases hu : 127 < u
   · rw [sev_more hu, List.cons_append]
     have i9 : i ≠ 9 := fun e => by
      subst e
      have := last_le h
      omega
     show (if _ then _ else _) = _
     rw [if_neg (by omega), if_neg (by omega)]
     have e1 : (u % 128 + 128) % 128 = u % 128 := by omega
     rw [e1]
     have e2 : (u / 128) * 128 ^ (i + 1) + u % 128 * 128 ^ i = u * 128 ^ i := by
      rw [Nat.pow_succ, show u / 128 * (128 ^ i * 128) = (u / 128 * 128) * 128 ^ i by rw [Nat.mul_comm (128 ^ i) 128, Nat.mul_assoc], ← Nat.add_mul]
      congr 1
      omega
     rw [ih (u / 128) (by omega) (i + 1) _ r (fun _ => by omega) (by omega)]
     rw [List.length_cons]
     refine Prod.ext ?_ (Prod.ext ?_ rfl)
     · show unz _ = unz _
       congr 1
       omega
     · show i + 1 + _ = i + (_ + 1)
       omega
   · rw [sev_last hu]
     show (if _ then _ else _) = _
     have c9 : ¬ ((i = 9 ∧ 1 < u) ∨ (0 < i ∧ u = 0)) := by
      rintro (⟨e, q⟩ | ⟨e, q⟩)
      · subst e
        have := last_le h
        omega
      · have := h0 e
        omega
     rw [if_neg c9, if_pos (by omega)]
     have e1 : u % 128 = u := by omega
     rw [e1]
     rfl
theorem get_num {n : Int} (h1 : -9223372036854775808 ≤ n) (h2 : n ≤ 9223372036854775807) (r : List Nat) : getL (numL n ++ r) = (n, (numL n).length, 0) := by
 unfold getL numL
 rw [gt_sev (zz n) 0 0 r (fun h => by omega) (by rw [Nat.pow_zero, Nat.mul_one]; exact zz_lt h1 h2), Nat.pow_zero, Nat.mul_one, Nat.zero_add, Nat.zero_add, unz_zz]
theorem gt_cut : ∀ (u i x k : Nat), (0 < i → 0 < u) → u * 128 ^ i < 18446744073709551616 → k < (sev u).length → gtK ((sev u).take k) i x = (0, 0, 8) := by
 intro u
 induction u using Nat.strongRecOn with
 | ind u ih =>
   intro i x k h0 h hk
   cases k with
   | zero => rfl
   | succ k =>
     by_cases hu : 127 < u
     · rw [sev_more hu] at hk ⊢
       have i9 : i ≠ 9 := fun e => by
        subst e
        have := last_le h
        omega
       rw [List.take_succ_cons]
       show (if _ then _ else _) = _
       rw [if_neg (by omega), if_neg (by omega)]
       have e2 : (u / 128) * 128 ^ (i + 1) + u % 128 * 128 ^ i = u * 128 ^ i := by
        rw [Nat.pow_succ, show u / 128 * (128 ^ i * 128) = (u / 128 * 128) * 128 ^ i by rw [Nat.mul_comm (128 ^ i) 128, Nat.mul_assoc], ← Nat.add_mul]
        congr 1
        omega
       exact ih (u / 128) (by omega) (i + 1) _ k (fun _ => by omega) (by omega) (by simpa using hk)
     · rw [sev_last hu] at hk
       simp at hk
theorem get_cut {n : Int} (h1 : -9223372036854775808 ≤ n) (h2 : n ≤ 9223372036854775807) {k : Nat} (hk : k < (numL n).length) : getL ((numL n).take k) = (0, 0, 8) :=
 gt_cut (zz n) 0 0 k (fun h => by omega) (by rw [Nat.pow_zero, Nat.mul_one]; exact zz_lt h1 h2) hk
theorem gt_back : ∀ (b : List Nat) (i x : Nat) (n : Int) (k : Nat), (∀ c ∈ b, c < 256) → i ≤ 9 → gtK b i x = (n, k, 0) → ∃ u, (0 < i → 0 < u) ∧ u * 128 ^ i < 18446744073709551616 ∧ n = unz (x + u * 128 ^ i) ∧ k = i + (sev u).length ∧ b.take (sev u).length = sev u
 | [], i, x, n, k, _, _, h => by
   have : (8 : Int) = 0 := congrArg (fun z => z.2.2) h
   omega
 | c :: r, i, x, n, k, hb, hi, h => by
   have hc := hb c (List.mem_cons_self ..)
   have h' : (if (i = 9 ∧ 1 < c) ∨ (0 < i ∧ c = 0) then ((0 : Int), (0 : Nat), (2 : Int)) else if c < 128 then (unz (x + c % 128 * 128 ^ i), i + 1, 0) else gtK r (i + 1) (x + c % 128 * 128 ^ i)) = (n, k, 0) := h
   by_cases q : (i = 9 ∧ 1 < c) ∨ (0 < i ∧ c = 0)
   · rw [if_pos q] at h'
     have : (2 : Int) = 0 := congrArg (fun z => z.2.2) h'
     omega
   · rw [if_neg q] at h'
     have p9 : (128 : Nat) ^ i ≤ 128 ^ 9 := Nat.pow_le_pow_right (by omega) hi
     rw [pow9] at p9
     by_cases s : c < 128
     · rw [if_pos s] at h'
       have e1 : c % 128 = c := by omega
       rw [e1] at h'
       have en : unz (x + c * 128 ^ i) = n := congrArg (fun z => z.1) h'
       have ek : i + 1 = k := congrArg (fun z => z.2.1) h'
       have dl : sev c = [c] := sev_last (by omega)
       refine ⟨c, fun hi0 => ?_, ?_, en.symm, by rw [dl, ← ek]; rfl, by rw [dl]; rfl⟩
       · by_cases z : c = 0
         · exact absurd (.inr ⟨hi0, z⟩) q
         · omega
       · by_cases i9 : i = 9
         · have c1 : c ≤ 1 := by
            by_cases z : 1 < c
            · exact absurd (.inl ⟨i9, z⟩) q
            · omega
           rw [i9, pow9]
           omega
         · have p8 : (128 : Nat) ^ i ≤ 128 ^ 8 := Nat.pow_le_pow_right (by omega) (by omega)
           have e8 : (128 : Nat) ^ 8 = 72057594037927936 := by decide
           have m1 : c * 128 ^ i ≤ 127 * 128 ^ i := Nat.mul_le_mul_right _ (by omega)
           omega
     · rw [if_neg s] at h'
       have i9 : i ≠ 9 := fun e => q (.inl ⟨e, by omega⟩)
       obtain ⟨u, u1, u2, u3, u4, u5⟩ := gt_back r (i + 1) _ n k (fun d hd => hb d (List.mem_cons_of_mem _ hd)) (by omega) h'
       have up : 0 < u := u1 (by omega)
       have em : c % 128 = c - 128 := by omega
       have du : sev (u * 128 + c % 128) = c :: sev u := by
        rw [sev_more (by omega)]
        congr 1
        · omega
        · congr 1
          omega
       have e2 : (u * 128 + c % 128) * 128 ^ i = u * 128 ^ (i + 1) + c % 128 * 128 ^ i := by
        rw [Nat.pow_succ, Nat.add_mul, Nat.mul_comm (128 ^ i) 128, Nat.mul_assoc]
       refine ⟨u * 128 + c % 128, fun _ => by omega, ?_, ?_, ?_, ?_⟩
       · rw [e2]
         -- both together fit, as what is ahead is less than one place
         have lt1 : c % 128 * 128 ^ i < 128 ^ (i + 1) := by
          rw [Nat.pow_succ, Nat.mul_comm (128 ^ i) 128]
          exact Nat.mul_lt_mul_of_pos_right (by omega) (pow_pos7 i)
         obtain ⟨w, hw⟩ : ∃ w, 9 = (i + 1) + w := ⟨9 - (i + 1), by omega⟩
         have e9 : (18446744073709551616 : Nat) = 128 ^ (i + 1) * (2 * 128 ^ w) := by
          have : (128 : Nat) ^ (i + 1) * 128 ^ w = 128 ^ 9 := by rw [← Nat.pow_add, ← hw]
          rw [Nat.mul_left_comm, this, pow9]
         rw [e9, Nat.mul_comm u] at u2
         have lu : u < 2 * 128 ^ w := Nat.lt_of_mul_lt_mul_left u2
         have : u * 128 ^ (i + 1) + 128 ^ (i + 1) ≤ 128 ^ (i + 1) * (2 * 128 ^ w) := by
          rw [← Nat.succ_mul, Nat.mul_comm]
          exact Nat.mul_le_mul_left _ lu
         omega
       · rw [u3, e2]
         congr 1
         omega
       · rw [du, List.length_cons, u4]; omega
       · rw [du, List.length_cons, List.take_succ_cons, u5]
theorem get_back {b : List Nat} {n : Int} {k : Nat} (hb : ∀ c ∈ b, c < 256) (h : getL b = (n, k, 0)) : -9223372036854775808 ≤ n ∧ n ≤ 9223372036854775807 ∧ k = (numL n).length ∧ b.take k = numL n := by
 obtain ⟨u, _, u2, u3, u4, u5⟩ := gt_back b 0 0 n k hb (by omega) h
 rw [Nat.pow_zero, Nat.mul_one] at u2 u3
 rw [Nat.zero_add] at u3 u4
 have e : numL n = sev u := by unfold numL; rw [u3, zz_unz]
 have := unz_in u2
 rw [← u3] at this
 exact ⟨this.1, this.2, by rw [e]; exact u4, by rw [e, u4]; exact u5⟩
def I64 (n : Int) : Prop := -9223372036854775808 ≤ n ∧ n ≤ 9223372036854775807
def bysL (l : List Int) : List Nat := l.flatMap numL
theorem bys_app (a b : List Int) : bysL (a ++ b) = bysL a ++ bysL b := by unfold bysL; rw [List.flatMap_append]
theorem bys_cons (n : Int) (l : List Int) : bysL (n :: l) = numL n ++ bysL l := rfl
theorem bys_len : ∀ l : List Int, (∀ x ∈ l, I64 x) → (bysL l).length ≤ 10 * l.length
 | [], _ => Nat.le_refl _
 | n :: l, h => by
   have a := bys_len l fun x hx => h x (List.mem_cons_of_mem _ hx)
   have b := (num_len (h n (List.mem_cons_self ..)).1 (h n (List.mem_cons_self ..)).2).2
   rw [bys_cons, List.length_append]
   show _ ≤ 10 * (l.length + 1)
   omega
theorem bys_byte : ∀ l : List Int, ∀ c ∈ bysL l, c < 256
 | [], c, h => by cases h
 | n :: l, c, h => by
   rw [bys_cons] at h
   rcases List.mem_append.1 h with h | h
   · exact sev_byte _ c h
   · exact bys_byte l c h
def bsmK (n : Nat) : List Nat → Nat
 | [] => n
 | c :: r => bsmK ((n * 31 + c + 1) % 1000003) r
def sumF (b : List Nat) : Nat := bsmK 7 b
theorem bsmK_app (a b : List Nat) : ∀ n, bsmK n (a ++ b) = bsmK (bsmK n a) b := by
 induction a with
 | nil => intro n; rfl
 | cons c r ih => intro n; exact ih _
theorem bsmK_lt : ∀ (b : List Nat) (n : Nat), n < 1000003 → bsmK n b < 1000003
 | [], n, h => h
 | c :: r, n, h => bsmK_lt r _ (Nat.mod_lt _ (by decide))
theorem sum_lt (b : List Nat) : sumF b < 1000003 := bsmK_lt b 7 (by decide)
theorem bsmK_more (b : List Nat) (n c : Nat) : bsmK n (b ++ [c]) = (bsmK n b * 31 + c + 1) % 1000003 := by rw [bsmK_app]; rfl
abbrev Pt := Int × Int
def pieces (size : Nat) : Nat → List Nat → List Pt
 | 0, _ => []
 | k + 1, b => if b = [] then [] else (((min size b.length : Nat) : Int), (sumF (b.take size) : Int)) :: pieces size k (b.drop size)
def planL (b : List Nat) (size : Nat) : List Pt := pieces size b.length b
theorem pieces_nil (size k : Nat) : pieces size k [] = [] := by cases k <;> rfl
theorem pieces_go {size k : Nat} {b : List Nat} (h : b ≠ []) : pieces size (k + 1) b = (((min size b.length : Nat) : Int), (sumF (b.take size) : Int)) :: pieces size k (b.drop size) := by
 show (if _ then _ else _) = _; rw [if_neg h]
theorem pieces_fuel {size : Nat} (hs : 1 ≤ size) : ∀ (k l : Nat) (b : List Nat), b.length ≤ k → b.length ≤ l → pieces size k b = pieces size l b := by
 intro k
 induction k with
 | zero =>
   intro l b h1 h2
   have : b = [] := List.length_eq_zero_iff.1 (by omega)
   subst this
   rw [pieces_nil, pieces_nil]
 | succ k ih =>
   intro l b h1 h2
   by_cases hb : b = []
   · subst hb; rw [pieces_nil, pieces_nil]
   · have bp : 0 < b.length := List.length_pos_iff.2 hb
     obtain ⟨l, rfl⟩ : ∃ m, l = m + 1 := ⟨l - 1, by omega⟩
     rw [pieces_go hb, pieces_go hb, ih l (b.drop size) (by rw [List.length_drop]; omega) (by rw [List.length_drop]; omega)]
theorem plan_nil (size : Nat) : planL [] size = [] := rfl
theorem plan_go {size : Nat} (hs : 1 ≤ size) {b : List Nat} (h : b ≠ []) : planL b size = (((min size b.length : Nat) : Int), (sumF (b.take size) : Int)) :: planL (b.drop size) size := by
 have bp : 0 < b.length := List.length_pos_iff.2 h
 unfold planL
 obtain ⟨k, hk⟩ : ∃ k, b.length = k + 1 := ⟨b.length - 1, by omega⟩
 have e : pieces size b.length b = pieces size (k + 1) b := by rw [hk]
 rw [e, pieces_go h]
 congr 1
 exact pieces_fuel hs k (b.drop size).length (b.drop size) (by rw [List.length_drop]; omega) (Nat.le_refl _)
theorem plan_len {size : Nat} (hs : 1 ≤ size) : ∀ (n : Nat) (b : List Nat), b.length ≤ n → (planL b size).length = (b.length + size - 1) / size := by
 intro n
 induction n with
 | zero =>
   intro b h
   have : b = [] := List.length_eq_zero_iff.1 (by omega)
   subst this
   rw [plan_nil]
   show 0 = (0 + size - 1) / size
   rw [Nat.div_eq_of_lt (by omega)]
 | succ n ih =>
   intro b h
   by_cases hb : b = []
   · subst hb
     rw [plan_nil]
     show 0 = (0 + size - 1) / size
     rw [Nat.div_eq_of_lt (by omega)]
   · have bp : 0 < b.length := List.length_pos_iff.2 hb
     rw [plan_go hs hb, List.length_cons, ih (b.drop size) (by rw [List.length_drop]; omega), List.length_drop]
     by_cases q : size ≤ b.length
     · rw [show b.length + size - 1 = (b.length - size + size - 1) + size by omega, Nat.add_div_right _ (by omega)]
     · rw [show b.length - size = 0 by omega, Nat.div_eq_of_lt (by omega : 0 + size - 1 < size)]
       rw [show b.length + size - 1 = (b.length - 1) + size by omega, Nat.add_div_right _ (by omega), Nat.div_eq_of_lt (by omega)]
theorem plan_at {size : Nat} (hs : 1 ≤ size) : ∀ (i : Nat) (b : List Nat), i * size < b.length → (planL b size).getD i (0, 0) = (((min size (b.length - i * size) : Nat) : Int), (sumF ((b.drop (i * size)).take size) : Int)) := by
 intro i
 induction i with
 | zero =>
   intro b h
   have hb : b ≠ [] := fun e => by rw [e] at h; simp at h
   rw [plan_go hs hb]
   simp
 | succ i ih =>
   intro b h
   have h' : i * size + size < b.length := by rw [← Nat.succ_mul]; exact h
   have hb : b ≠ [] := fun e => by rw [e] at h; simp at h
   rw [plan_go hs hb, List.getD_cons_succ, ih (b.drop size) (by rw [List.length_drop]; omega), List.length_drop, List.drop_drop, Nat.succ_mul]
   rw [show size + i * size = i * size + size by omega, show b.length - size - i * size = b.length - (i * size + size) by omega]
theorem plan_in {size : Nat} (hs : 1 ≤ size) (b : List Nat) {i : Nat} (h : i < (planL b size).length) : i * size < b.length := by
 rw [plan_len hs b.length b (Nat.le_refl _), Nat.lt_div_iff_mul_lt (by omega)] at h
 omega
def planF (b : List Nat) (size : Int) : Int := if 6000 < b.length then 4 else if size < 1 ∨ 6000 < size then 1 else if 100 < (planL b size.toNat).length then 4 else 0
def planV (b : List Nat) (size : Int) : List Pt := if planF b size = 0 then planL b size.toNat else []
def ptBad (p : Pt) : Bool := decide (p.1 < 1 ∨ 6000 < p.1 ∨ p.2 < 0 ∨ 1000002 < p.2)
def ptSum (l : List Pt) : Int := (l.map (·.1)).sum
def partsF (l : List Pt) : Int := if 100 < l.length then 4 else if l.any ptBad then 1 else if 6000 < ptSum l then 4 else 0
theorem ptSum_cons (p : Pt) (l : List Pt) : ptSum (p :: l) = p.1 + ptSum l := rfl
theorem ptSum_app (a b : List Pt) : ptSum (a ++ b) = ptSum a + ptSum b := by
 induction a with
 | nil => show ptSum b = 0 + ptSum b; omega
 | cons p a ih => rw [List.cons_append, ptSum_cons, ptSum_cons, ih]; omega
theorem plan_sum {size : Nat} (hs : 1 ≤ size) : ∀ (n : Nat) (b : List Nat), b.length ≤ n → ptSum (planL b size) = (b.length : Int) := by
 intro n
 induction n with
 | zero =>
   intro b h
   have : b = [] := List.length_eq_zero_iff.1 (by omega)
   subst this
   rfl
 | succ n ih =>
   intro b h
   by_cases hb : b = []
   · subst hb; rfl
   · have bp : 0 < b.length := List.length_pos_iff.2 hb
     rw [plan_go hs hb, ptSum_cons, ih (b.drop size) (by rw [List.length_drop]; omega), List.length_drop]
     show ((min size b.length : Nat) : Int) + _ = _
     omega
theorem plan_right {size : Nat} (hs : 1 ≤ size) (b : List Nat) (h6 : b.length ≤ 6000) (h100 : (planL b size).length ≤ 100) : partsF (planL b size) = 0 := by
 have hb : (planL b size).any ptBad = false := by
  rw [List.any_eq_false]
  intro p hp
  obtain ⟨i, hi, rfl⟩ := List.getElem_of_mem hp
  have h1 := plan_in hs b hi
  have h2 := plan_at hs i b h1
  have e : (planL b size).getD i (0, 0) = (planL b size)[i] := by simp [List.getD, hi]
  rw [e] at h2
  rw [h2]
  have := sum_lt ((b.drop (i * size)).take size)
  unfold ptBad
  rw [decide_eq_true_iff]
  show ¬ (((min size (b.length - i * size) : Nat) : Int) < 1 ∨ 6000 < ((min size (b.length - i * size) : Nat) : Int) ∨ (sumF ((b.drop (i * size)).take size) : Int) < 0 ∨ 1000002 < (sumF ((b.drop (i * size)).take size) : Int))
  omega
 unfold partsF
 rw [if_neg (by omega), hb, if_neg (by simp), plan_sum hs b.length b (Nat.le_refl _), if_neg (by omega)]
abbrev Has := List (Option (List Nat))
def has0 (l : List Pt) : Has := l.map fun _ => none
def ptIs (l : List Pt) (i : Nat) (b : List Nat) : Bool := decide ((b.length : Int) = (l.getD i (0, 0)).1 ∧ (sumF b : Int) = (l.getD i (0, 0)).2)
def putF (l : List Pt) (i : Int) (b : List Nat) : Int := if i < 0 ∨ (l.length : Int) ≤ i then 1 else if ptIs l i.toNat b then 0 else 3
def putN (l : List Pt) (h : Has) (i : Int) (b : List Nat) : Bool := decide (putF l i b = 0) && (h.getD i.toNat none).isNone
def putH (l : List Pt) (h : Has) (i : Int) (b : List Nat) : Has := if putN l h i b then h.set i.toNat (some b) else h
def lackL (h : Has) : List Int := ((List.range h.length).filter fun i => (h.getD i none).isNone).map fun i : Nat => (i : Int)
def bytF (h : Has) : Int := if h.any (·.isNone) then 5 else 0
def bytV (h : Has) : List Nat := if bytF h = 0 then h.flatMap fun x => x.getD [] else []
def pieceAt (b : List Nat) (size i : Nat) : List Nat := (b.drop (i * size)).take size
theorem piece_len (b : List Nat) (size i : Nat) : (pieceAt b size i).length = min size (b.length - i * size) := by unfold pieceAt; rw [List.length_take, List.length_drop]
theorem piece_is {size : Nat} (hs : 1 ≤ size) (b : List Nat) {i : Nat} (hi : i < (planL b size).length) : ptIs (planL b size) i (pieceAt b size i) = true := by
 have h1 := plan_in hs b hi
 unfold ptIs
 rw [plan_at hs i b h1, decide_eq_true_iff, piece_len]
 exact ⟨rfl, rfl⟩
theorem pieces_join {size : Nat} (hs : 1 ≤ size) (b : List Nat) : ∀ (n k : Nat), (planL b size).length - k = n → k ≤ (planL b size).length → (((List.range (planL b size).length).drop k).flatMap fun i => pieceAt b size i) = b.drop (k * size) := by
 intro n
 induction n with
 | zero =>
   intro k hn hk
   have e : k = (planL b size).length := by omega
   rw [List.drop_eq_nil_of_le (by rw [List.length_range]; omega)]
   rw [List.drop_eq_nil_of_le]
   · rfl
   · have := plan_len hs b.length b (Nat.le_refl _)
     rw [e, this]
     have h2 := Nat.div_add_mod (b.length + size - 1) size
     have h3 := Nat.mod_lt (b.length + size - 1) (show 0 < size by omega)
     rw [Nat.mul_comm] at h2
     omega
 | succ n ih =>
   intro k hn hk
   have hlt : k < (planL b size).length := by omega
   have hr : k < (List.range (planL b size).length).length := by rw [List.length_range]; exact hlt
   rw [List.drop_eq_getElem_cons hr, List.flatMap_cons, ih (k + 1) (by omega) (by omega), List.getElem_range]
   unfold pieceAt
   rw [Nat.succ_mul, ← List.drop_drop, List.take_append_drop]
theorem pieces_all {size : Nat} (hs : 1 ≤ size) (b : List Nat) : ((List.range (planL b size).length).flatMap fun i => pieceAt b size i) = b := by
 have := pieces_join hs b _ 0 rfl (Nat.zero_le _)
 rwa [List.drop_zero, Nat.zero_mul, List.drop_zero] at this
def seenH (b : List Nat) (size : Nat) (seen : List Bool) : Has := (List.range seen.length).map fun i => if seen.getD i false then some (pieceAt b size i) else none
theorem seenH_len (b : List Nat) (size : Nat) (seen : List Bool) : (seenH b size seen).length = seen.length := by unfold seenH; simp
theorem seenH_at (b : List Nat) (size : Nat) (seen : List Bool) {i : Nat} (h : i < seen.length) : (seenH b size seen).getD i none = if seen.getD i false then some (pieceAt b size i) else none := by
 unfold seenH
 simp [List.getD, h]
theorem seenH_zero (b : List Nat) (size : Nat) (l : List Pt) : has0 l = seenH b size (List.replicate l.length false) := by
 unfold has0 seenH
 refine List.ext_getElem (by simp) fun i h1 h2 => ?_
 have : i < l.length := by simpa using h1
 simp [List.getD, this]
theorem seenH_put {size : Nat} (hs : 1 ≤ size) (b : List Nat) {seen : List Bool} (hl : seen.length = (planL b size).length) {i : Nat} (hi : i < (planL b size).length) : putF (planL b size) (i : Int) (pieceAt b size i) = 0 ∧ putN (planL b size) (seenH b size seen) (i : Int) (pieceAt b size i) = !seen.getD i false ∧ putH (planL b size) (seenH b size seen) (i : Int) (pieceAt b size i) = seenH b size (seen.set i true) := by
 have e1 : putF (planL b size) (i : Int) (pieceAt b size i) = 0 := by
  unfold putF
  rw [if_neg (by omega), Int.toNat_natCast, piece_is hs b hi]
  rfl
 have e2 : putN (planL b size) (seenH b size seen) (i : Int) (pieceAt b size i) = !seen.getD i false := by
  unfold putN
  rw [e1, Int.toNat_natCast, seenH_at b size seen (by omega)]
  cases seen.getD i false <;> rfl
 refine ⟨e1, e2, ?_⟩
 unfold putH
 rw [e2, Int.toNat_natCast]
 cases hb : seen.getD i false with
 | true =>
   rw [if_neg (by simp)]
   have e : seen.set i true = seen := by
    refine List.ext_getElem (by simp) fun j h1 h2 => ?_
    by_cases q : i = j
    · subst q
      rw [List.getElem_set_self]
      have : seen.getD i false = seen[i] := by simp [List.getD, h2]
      rw [← this, hb]
    · rw [List.getElem_set_ne q]
   rw [e]
 | false =>
   rw [if_pos (by simp)]
   refine List.ext_getElem (by simp [seenH]) fun j h1 h2 => ?_
   have hj : j < seen.length := by rw [seenH_len, List.length_set] at h2; exact h2
   have hj' : j < (seen.set i true).length := by rw [List.length_set]; exact hj
   by_cases q : i = j
   · subst q
     rw [List.getElem_set_self]
     unfold seenH
     simp [List.getD, hj]
   · rw [List.getElem_set_ne q]
     have g1 := seenH_at b size seen hj
     have g2 := seenH_at b size (seen.set i true) hj'
     have k1 : j < (seenH b size seen).length := by rw [seenH_len]; exact hj
     have e3 : (seen.set i true).getD j false = seen.getD j false := by simp [List.getD, List.getElem?_set_ne q]
     have e4 : (seenH b size seen).getD j none = (seenH b size seen)[j] := by simp [List.getD, k1]
     have e5 : (seenH b size (seen.set i true)).getD j none = (seenH b size (seen.set i true))[j] := by simp [List.getD, h2]
     rw [← e4, ← e5, g1, g2, e3]
theorem seenH_all {size : Nat} (hs : 1 ≤ size) (b : List Nat) {seen : List Bool} (hl : seen.length = (planL b size).length) (ha : ∀ i, i < seen.length → seen.getD i false = true) : bytF (seenH b size seen) = 0 ∧ bytV (seenH b size seen) = b ∧ lackL (seenH b size seen) = [] := by
 have e : seenH b size seen = (List.range (planL b size).length).map fun i => some (pieceAt b size i) := by
  unfold seenH
  rw [hl]
  refine List.map_congr_left fun i hi => ?_
  rw [if_pos (ha i (by rw [hl]; exact List.mem_range.1 hi))]
 have e1 : bytF (seenH b size seen) = 0 := by
  unfold bytF
  rw [e, if_neg]
  simp
 refine ⟨e1, ?_, ?_⟩
 · unfold bytV
   rw [if_pos e1, e, List.flatMap_map]
   exact pieces_all hs b
 · unfold lackL
   rw [List.filter_eq_nil_iff.2]
   · rfl
   · intro i hi
     have hi' : i < seen.length := by have := List.mem_range.1 hi; rwa [seenH_len] at this
     rw [seenH_at b size seen hi', if_pos (ha i hi')]
     simp
end Go.Proofs.YtelncekgjfpogahGreatDoor.M
