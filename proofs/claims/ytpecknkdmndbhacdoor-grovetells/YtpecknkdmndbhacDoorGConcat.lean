/-
  What the library's slices.Concat answers of two lists of trees, and slices.Clone of a tree's nodes: new rows that hold the same.
-/
import Derived.Test.YtpecknkdmndbhacDoorGroves
import Derived.Test.YtpecknkdmndbhacDoorConcat
import Derived.Lib.SliceRun
namespace Go.Proofs.YtpecknkdmndbhacDoor
open Go.ChangeShapes Go.WideShapes Go.ChangeAt Go.RowKit Go.Shelf Go.Lib Go.Sort
set_option linter.unusedVariables false

theorem infoT : (Tryd.prog.info? 22).map (fun i => (i.zero, i.size, i.bytes)) = some (some (.slice none 0 0), 1, 24) := by kernel_rfl
theorem infoN : (Tryd.prog.info? 29).map (fun i => (i.zero, i.size, i.bytes)) = some (some (.agg #[.int .i64 0, .int .i64 0, .int .i64 0, .int .i64 0, .bool false, .int .i64 0]), 6, 48) := by kernel_rfl
theorem tV_one (ks : List Tc) : ∀ u ∈ ks.map tV, u.oneCell' = true := by
  intro u hu
  obtain ⟨k, _, rfl⟩ := List.mem_map.1 hu
  rfl
theorem tV_cells {w : World} {b off : Nat} {ks : List Tc} (hc : ∀ i (h : i < ks.length), w.cell? ⟨b, off + i, none⟩ = some (tV ks[i])) :
    ∀ j u, (ks.map tV)[j]? = some u → w.cell? ((⟨b, off, none⟩ : Addr).add j) = some u := by
  intro j u hj
  rw [List.getElem?_map] at hj
  by_cases h : j < ks.length
  · rw [List.getElem?_eq_getElem h] at hj
    rw [add_flat, hc j h]
    exact hj
  · rw [List.getElem?_eq_none (by omega)] at hj
    cases hj

theorem zero_cellsT (k : Nat) : (Builtin.zeroCells (Value.slice none 0 0).cells k).size = k := by
  unfold Builtin.zeroCells
  rw [Array.size_map, Array.size_range]
  exact Nat.mul_one k

theorem growT_nil (z : Int) (n : Nat) (w : World) (hz : z = n) (h0 : 0 < n) (hn : n ≤ 1000000) :
    Calls Tryd.prog 64 #[.slice none 0 0, .int .i64 z] w fun e w' => ∃ v, e = .returned v ∧ w'.ownsRow w.heap.size 22 1 v 0 [] ∧ Below w.heap.size w w' := by
  obtain ⟨i0, hi, hz0, hz1, hz2⟩ := info_parts infoT
  subst hz
  refine (Tryd.slices_GrowT_grow i0 (.slice none 0 0) hi hz0 (by rw [hz1]; decide) none 0 0 n [] w (Nat.le_refl _) (by omega) (by rw [hz2]; omega) (by omega) (by simp) (fun _ => rfl) (fun a ha => by cases ha)).mono ?_
  rintro e w' ⟨rfl, rfl⟩
  refine ⟨_, rfl, ?_, (Below.refl _ w).drew.alloc (Nat.le_refl _) _⟩
  have hge : 0 + n ≤ grownCap w (0 + n) 0 22 := grownCap_ge w _ _ _
  have hle := grownCap_le_maxLen w (0 + n) 0 22 (by unfold maxLen; omega)
  exact World.ownsRow_made w.drew _ _ (Nat.le_refl _) hle (by rw [Array.size_append, Array.size_append, zero_cellsT, zero_cellsT]; show 0 + (0 + n - 0) + _ = _; omega)

/-- an append of trees that are read to a row of our own -/
theorem wpList_append_rdT {w : World} {ops : Array Oper} {rest : List Oper} {o : Oper} {act : Act} {Q : Exit → Act → World → Prop} (hgd : o.guard = none) (s x : Operand)
    (ho : o.op = .call { callee := .builtin .append, args := #[s, x], argTypes := #[36, 36] })
    (base : Nat) (v : Value) (n : Nat) (zs : List Value) (hs : act.eval s = v) (hown : w.ownsRow base 22 1 v n zs)
    (b off : Nat) (ys : List Tc) (cap : Nat) (hx : act.eval x = .slice (some ⟨b, off, none⟩) ys.length cap) (hc : ∀ i (h : i < ys.length), w.cell? ⟨b, off + i, none⟩ = some (tV ys[i])) (hlen : n + ys.length ≤ 1000000) (hbase : base ≤ w.heap.size)
    (h : ∀ v' w', w'.ownsRow base 22 1 v' (n + ys.length) (zs ++ ys.map tV) → Below base w w' → wpList Tryd.prog ops Q rest (act.put o.dst v') w') : wpList Tryd.prog ops Q (o :: rest) act w := by
  obtain ⟨i0, hi, hz0, hz1, hz2⟩ := info_parts infoT
  refine wpList_append_own _ hgd s x 36 ho base 22 i0 (.slice none 0 0) 1 24 Tryd.underlying36 hi hz0 hz1 hz2 rfl (by decide) v n zs hs hown ⟨b, off, none⟩ ys.length cap (ys.map tV) hx (by simp) (tV_cells hc) (tV_one ys) (by unfold maxLen; omega) (by omega) hbase ?_
  intro v' w' hown' hgrow _
  exact h v' w' hown' ((Below.refl _ w).grown hgrow hbase (fun k hk => (hown.lt k hk).1))

set_option maxHeartbeats 2000000 in
set_option maxRecDepth 10000 in
theorem concat_trees (B b1 o1 b2 o2 : Nat) (xs ys : List Tc) (ca cb : Nat) (w : World) (hB : B < w.heap.size)
    (h0 : w.cell? ⟨B, 0, none⟩ = some (.slice (some ⟨b1, o1, none⟩) xs.length ca)) (h1 : w.cell? ⟨B, 1, none⟩ = some (.slice (some ⟨b2, o2, none⟩) ys.length cb))
    (l1 : b1 < w.heap.size) (l2 : b2 < w.heap.size) (hc1 : ∀ i (h : i < xs.length), w.cell? ⟨b1, o1 + i, none⟩ = some (tV xs[i])) (hc2 : ∀ i (h : i < ys.length), w.cell? ⟨b2, o2 + i, none⟩ = some (tV ys[i]))
    (la : xs.length ≤ 12) (lb : ys.length ≤ 12) (lp : 0 < xs.length) :
    Calls Tryd.prog 40 #[.slice (some ⟨B, 0, none⟩) 2 2] w fun e w' => ∃ v, e = .returned v ∧ w'.ownsRow w.heap.size 22 1 v (xs ++ ys).length ((xs ++ ys).map tV) ∧ Below w.heap.size w w' := by
  have HA : Hid (∀ W, Below w.heap.size w W → ∀ i (h : i < xs.length), W.cell? ⟨b1, o1 + i, none⟩ = some (tV xs[i])) := fun W hW i hi => (hW.cell (p := ⟨b1, o1 + i, none⟩) l1).trans (hc1 i hi)
  have HB : Hid (∀ W, Below w.heap.size w W → ∀ i (h : i < ys.length), W.cell? ⟨b2, o2 + i, none⟩ = some (tV ys[i])) := fun W hW i hi => (hW.cell (p := ⟨b2, o2 + i, none⟩) l2).trans (hc2 i hi)
  clear hc1 hc2
  have g0 : ¬ ((xs.length : Int) < 0) := by omega
  have g1 : ¬ ((xs.length : Int) + (ys.length : Int) < 0) := by omega
  go_enter Tryd.func40, Tryd.ntmps40
  go_wp2
  refine wp_loop_rounds 3 ?_
  rw [rounds_succ]
  go_wp2
  rw [rounds_succ]
  go_wp2
  rw [rounds_succ]
  go_wp2_with (go_at_call 64; refine (growT_nil _ (xs.length + ys.length) _ (by omega) (by omega) (by omega)).mono ?_; rintro e w1 ⟨v, rfl, hown, hb1⟩)
  have c0 := (hb1.cell (p := ⟨B, 0, none⟩) hB).trans h0
  have c1 := (hb1.cell (p := ⟨B, 1, none⟩) hB).trans h1
  have HO := hide hown
  clear h0 h1 hown
  refine wp_loop_rounds 3 ?_
  rw [rounds_succ]
  go_wp2_with (at_builtin; refine wpList_append_rdT rfl (.tmp 31) (.tmp 32) rfl w.heap.size v 0 [] rfl HO.out b1 o1 xs ca rfl (HA.out _ hb1) (by omega) hb1.size ?_)
  intro v2 w2 hown hb2
  have c2 := (hb2.cell (p := ⟨B, 1, none⟩) hB).trans c1
  have HO2 : Hid (w2.ownsRow w.heap.size 22 1 v2 xs.length (xs.map tV)) := hide (by simpa using hown)
  have hb2' := hb1.trans hb2
  clear c0 c1 hown hb2
  go_wp2
  rw [rounds_succ]
  go_wp2_with (at_builtin; (refine wpList_append_rdT rfl (.tmp 31) (.tmp 32) rfl w.heap.size v2 xs.length (xs.map tV) rfl HO2.out b2 o2 ys cb rfl (HB.out _ hb2') (by omega) hb2'.size ?_))
  intro v3 w3 hown hb3
  have HO3 := hide hown
  clear c2 hown
  go_wp2
  rw [rounds_succ]
  go_wp2
  go_ret
  refine ⟨v3, rfl, ?_, hb2'.trans hb3⟩
  have := HO3.out
  rw [List.map_append, List.length_append]
  simpa using this

/-! ### a tree's nodes, copied -/
def ndCells (ts : List M.Nd) : List Value := ts.flatMap fun n => [.int .i64 (M.nf n), .int .i64 (M.nc n), .int .i64 (M.nl n), .int .i64 (M.nr n), .bool (M.ns n), .int .i64 (M.nv n)]
theorem ndCells_cons (n : M.Nd) (t : List M.Nd) : ndCells (n :: t) = .int .i64 (M.nf n) :: .int .i64 (M.nc n) :: .int .i64 (M.nl n) :: .int .i64 (M.nr n) :: .bool (M.ns n) :: .int .i64 (M.nv n) :: ndCells t := rfl
theorem ndCells_len (ts : List M.Nd) : (ndCells ts).length = ts.length * 6 := by
  induction ts with
  | nil => rfl
  | cons x t ih => rw [ndCells_cons]; simp only [List.length_cons, ih]; omega
theorem ndCells_one (ts : List M.Nd) : ∀ v ∈ ndCells ts, v.oneCell' = true := by
  intro v hv
  simp only [ndCells, List.mem_flatMap] at hv
  obtain ⟨s, _, hs⟩ := hv
  simp only [List.mem_cons, List.not_mem_nil, or_false] at hs
  rcases hs with rfl | rfl | rfl | rfl | rfl | rfl <;> rfl
theorem ndCells_at : ∀ (ts : List M.Nd) (i : Nat), i < ts.length → (ndCells ts)[i * 6]? = some (.int .i64 (M.nf (M.nAt ts i))) ∧ (ndCells ts)[i * 6 + 1]? = some (.int .i64 (M.nc (M.nAt ts i))) ∧ (ndCells ts)[i * 6 + 2]? = some (.int .i64 (M.nl (M.nAt ts i))) ∧ (ndCells ts)[i * 6 + 3]? = some (.int .i64 (M.nr (M.nAt ts i))) ∧ (ndCells ts)[i * 6 + 4]? = some (.bool (M.ns (M.nAt ts i))) ∧ (ndCells ts)[i * 6 + 5]? = some (.int .i64 (M.nv (M.nAt ts i)))
  | [], i, h => by simp at h
  | s :: t, 0, h => ⟨rfl, rfl, rfl, rfl, rfl, rfl⟩
  | s :: t, i + 1, h => by
    have := ndCells_at t i (by simpa using h)
    have e : M.nAt (s :: t) (i + 1) = M.nAt t i := by simp [M.nAt]
    rw [ndCells_cons, e, show (i + 1) * 6 = i * 6 + 1 + 1 + 1 + 1 + 1 + 1 by omega]
    simpa using this
theorem nd_src {w : World} {b off : Nat} {ts : List M.Nd} (hc : ∀ i, i < ts.length → SixAt w b (off + i * 6) (M.nAt ts i)) : ∀ j u, (ndCells ts)[j]? = some u → w.cell? ((⟨b, off, none⟩ : Addr).add j) = some u := by
  intro j u hj
  have hl : j < ts.length * 6 := by
    have := (List.getElem?_eq_some_iff.1 hj).1
    rwa [ndCells_len] at this
  have hi : j / 6 < ts.length := by omega
  obtain ⟨h0, h1, h2, h3, h4, h5⟩ := hc _ hi
  obtain ⟨q0, q1, q2, q3, q4, q5⟩ := ndCells_at ts _ hi
  rw [add_flat]
  rcases (show j = j / 6 * 6 ∨ j = j / 6 * 6 + 1 ∨ j = j / 6 * 6 + 2 ∨ j = j / 6 * 6 + 3 ∨ j = j / 6 * 6 + 4 ∨ j = j / 6 * 6 + 5 by omega) with e | e | e | e | e | e
  · rw [e] at hj ⊢; rw [q0] at hj; rw [← hj]; simpa [Nat.mul_div_cancel] using h0
  · rw [e] at hj ⊢; rw [show (j / 6 * 6 + 1) = j / 6 * 6 + 1 from rfl] at hj; rw [q1] at hj; rw [← hj, ← Nat.add_assoc]; exact h1
  · rw [e] at hj ⊢; rw [q2] at hj; rw [← hj, ← Nat.add_assoc]; exact h2
  · rw [e] at hj ⊢; rw [q3] at hj; rw [← hj, ← Nat.add_assoc]; exact h3
  · rw [e] at hj ⊢; rw [q4] at hj; rw [← hj, ← Nat.add_assoc]; exact h4
  · rw [e] at hj ⊢; rw [q5] at hj; rw [← hj, ← Nat.add_assoc]; exact h5
theorem own_rdN {w : World} {base n : Nat} {v : Value} {ts : List M.Nd} (hn : ts.length = n) (hm : n ≤ maxLen) (h : w.ownsRow base 29 6 v n (ndCells ts)) : ∃ a cap, v = .slice a n cap ∧ RdN w a ts ∧ (∀ p, a = some p → base ≤ p.block) := by
  subst hn
  rcases h.2 with ⟨hv, h0⟩ | ⟨g, cap, cur, hv, hb, hg, h1, h2, h3, h4⟩
  · have e : ts = [] := List.length_eq_zero_iff.1 h0
    subst e
    exact ⟨none, 0, hv, ⟨Nat.zero_le _, fun h => absurd rfl h⟩, fun p hp => by cases hp⟩
  · subst hv
    refine ⟨_, cap, rfl, ⟨hm, fun _ => ⟨g, 0, rfl, (Array.getElem?_eq_some_iff.1 hg).1, fun i hi => ?_⟩⟩, fun p hp => by cases hp; exact hb⟩
    obtain ⟨q0, q1, q2, q3, q4, q5⟩ := ndCells_at ts i hi
    rw [Nat.zero_add]
    exact ⟨(h.cellAt (i * 6) (by omega)).trans q0, (h.cellAt (i * 6 + 1) (by omega)).trans q1, (h.cellAt (i * 6 + 2) (by omega)).trans q2, (h.cellAt (i * 6 + 3) (by omega)).trans q3, (h.cellAt (i * 6 + 4) (by omega)).trans q4, (h.cellAt (i * 6 + 5) (by omega)).trans q5⟩

set_option maxHeartbeats 1000000 in
set_option maxRecDepth 10000 in
theorem clone_nodes (b off c : Nat) (ts : List M.Nd) (w : World) (hc : ∀ i, i < ts.length → SixAt w b (off + i * 6) (M.nAt ts i)) (h63 : ts.length ≤ 63) (hb : b < w.heap.size) :
    Calls Tryd.prog 41 #[.slice (some ⟨b, off, none⟩) ts.length c] w fun e w' => ∃ a cap, e = .returned (.slice a ts.length cap) ∧ RdN w' a ts ∧ (∀ p, a = some p → w.heap.size ≤ p.block) ∧ Below w.heap.size w w' := by
  obtain ⟨i0, hi, hz0, hz1, hz2⟩ := info_parts infoN
  have SR := hide (nd_src hc)
  have S2 : Hid (∀ o, ∀ j u, (ndCells ts)[j]? = some u → (w.alloc o).cell? ((⟨b, off, none⟩ : Addr).add j) = some u) := fun o j u hj => by
    have := SR.out j u hj
    rw [add_flat] at this ⊢
    exact (((Below.refl w.heap.size w).alloc (Nat.le_refl _) o).cell (p := ⟨b, off + j, none⟩) hb).trans this
  have q22 : ∀ (w : World) (a : Option Addr) (n c n' c' : Nat), (binOp .eql 22 (.slice a n c) (.slice none n' c')).run Tryd.prog w = .ok (.bool a.isNone) w := fun w a n c n' c' => Lib.run_eql_slice_nil w _ _ a n c n' c' Tryd.underlying22
  clear hc SR
  go_enter Tryd.func41, Tryd.ntmps41
  go_wp2_with (at_builtin; (refine wpList_append_own _ rfl (.tmp 5) (.tmp 6) 22 rfl w.heap.size 29 i0 (.agg #[.int .i64 0, .int .i64 0, .int .i64 0, .int .i64 0, .bool false, .int .i64 0]) 6 48 Tryd.underlying22 hi hz0 hz1 hz2 (by simp [Value.cells]) (by decide) _ 0 [] rfl (World.ownsRow_made w #[] 0 (Nat.le_refl _) (Nat.zero_le _) (by simp)) ⟨b, off, none⟩ ts.length c (ndCells ts) rfl (ndCells_len ts) (S2.out _) (ndCells_one ts) (by unfold maxLen; omega) (by omega) (by simp) ?_); intro v' w1 hown hgrow hnil)
  have hb1 : Below w.heap.size w w1 := ((RowKit.Below.refl _ w).alloc (Nat.le_refl _) _).grown hgrow (by simp) (fun k hk => by cases hk; exact Nat.le_refl _)
  have HO := hide hown
  clear hown hgrow hnil
  go_wp2
  go_ret
  have h := HO.out
  rw [Nat.zero_add, List.nil_append] at h
  obtain ⟨a, cap, e, hr, hp⟩ := own_rdN rfl (by unfold maxLen; omega) h
  subst e
  exact ⟨a, cap, rfl, hr, hp, hb1⟩

end Go.Proofs.YtpecknkdmndbhacDoor
