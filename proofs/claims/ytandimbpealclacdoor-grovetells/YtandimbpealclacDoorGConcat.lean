/-
  What the library's slices.Concat answers of two lists of trees: a new row that holds the same.
-/
import Derived.Test.YtandimbpealclacDoorGroves
import Derived.Test.YtandimbpealclacDoorConcat
import Derived.Test.YtandimbpealclacDoorNdClone
import Derived.Lib.SliceRun
namespace Go.Proofs.YtandimbpealclacDoor
open Go.ChangeShapes Go.WideShapes Go.ChangeAt Go.RowKit Go.Shelf Go.Lib Go.Sort
set_option linter.unusedVariables false

theorem infoT : (Tryd.prog.info? 22).map (fun i => (i.zero, i.size, i.bytes)) = some (some (.slice none 0 0), 1, 24) := by kernel_rfl
theorem tV_one (ks : List Tc) : ∀ u ∈ ks.map tV, u.oneCell' = true := by
  intro u hu
  obtain ⟨k, _, rfl⟩ := List.mem_map.1 hu
  rfl
theorem tV_cells {w : World} {b off : Nat} {ks : List Tc} (hc : ∀ i (h : i < ks.length), w.cell? ⟨b, off + i, none⟩ = some (tV ks[i])) :
    ∀ j u, (ks.map tV)[j]? = some u → w.cell? ((⟨b, off, none⟩ : Addr).add j) = some u := by
  intro j u hj
  rw [List.getElem?_map] at hj
  by_cases h : j < ks.length
  · rw [List.getElem?_eq_getElem h] at hj
    rw [add_flat, hc j h]
    exact hj
  · rw [List.getElem?_eq_none (by omega)] at hj
    cases hj

theorem zero_cellsT (k : Nat) : (Builtin.zeroCells (Value.slice none 0 0).cells k).size = k := by
  unfold Builtin.zeroCells
  rw [Array.size_map, Array.size_range]
  exact Nat.mul_one k

theorem growT_nil (z : Int) (n : Nat) (w : World) (hz : z = n) (h0 : 0 < n) (hn : n ≤ 1000000) :
    Calls Tryd.prog 65 #[.slice none 0 0, .int .i64 z] w fun e w' => ∃ v, e = .returned v ∧ w'.ownsRow w.heap.size 22 1 v 0 [] ∧ Below w.heap.size w w' := by
  obtain ⟨i0, hi, hz0, hz1, hz2⟩ := info_parts infoT
  subst hz
  refine (Tryd.slices_GrowT_grow i0 (.slice none 0 0) hi hz0 (by rw [hz1]; decide) none 0 0 n [] w (Nat.le_refl _) (by omega) (by rw [hz2]; omega) (by omega) (by simp) (fun _ => rfl) (fun a ha => by cases ha)).mono ?_
  rintro e w' ⟨rfl, rfl⟩
  refine ⟨_, rfl, ?_, (Below.refl _ w).drew.alloc (Nat.le_refl _) _⟩
  have hge : 0 + n ≤ grownCap w (0 + n) 0 22 := grownCap_ge w _ _ _
  have hle := grownCap_le_maxLen w (0 + n) 0 22 (by unfold maxLen; omega)
  exact World.ownsRow_made w.drew _ _ (Nat.le_refl _) hle (by rw [Array.size_append, Array.size_append, zero_cellsT, zero_cellsT]; show 0 + (0 + n - 0) + _ = _; omega)

/-- an append of trees that are read to a row of our own -/
theorem wpList_append_rdT {w : World} {ops : Array Oper} {rest : List Oper} {o : Oper} {act : Act} {Q : Exit → Act → World → Prop} (hgd : o.guard = none) (s x : Operand)
    (ho : o.op = .call { callee := .builtin .append, args := #[s, x], argTypes := #[36, 36] })
    (base : Nat) (v : Value) (n : Nat) (zs : List Value) (hs : act.eval s = v) (hown : w.ownsRow base 22 1 v n zs)
    (b off : Nat) (ys : List Tc) (cap : Nat) (hx : act.eval x = .slice (some ⟨b, off, none⟩) ys.length cap) (hc : ∀ i (h : i < ys.length), w.cell? ⟨b, off + i, none⟩ = some (tV ys[i])) (hlen : n + ys.length ≤ 1000000) (hbase : base ≤ w.heap.size)
    (h : ∀ v' w', w'.ownsRow base 22 1 v' (n + ys.length) (zs ++ ys.map tV) → Below base w w' → wpList Tryd.prog ops Q rest (act.put o.dst v') w') : wpList Tryd.prog ops Q (o :: rest) act w := by
  obtain ⟨i0, hi, hz0, hz1, hz2⟩ := info_parts infoT
  refine wpList_append_own _ hgd s x 36 ho base 22 i0 (.slice none 0 0) 1 24 Tryd.underlying36 hi hz0 hz1 hz2 rfl (by decide) v n zs hs hown ⟨b, off, none⟩ ys.length cap (ys.map tV) hx (by simp) (tV_cells hc) (tV_one ys) (by unfold maxLen; omega) (by omega) hbase ?_
  intro v' w' hown' hgrow _
  exact h v' w' hown' ((Below.refl _ w).grown hgrow hbase (fun k hk => (hown.lt k hk).1))

set_option maxHeartbeats 2000000 in
set_option maxRecDepth 10000 in
theorem concat_trees (B b1 o1 b2 o2 : Nat) (xs ys : List Tc) (ca cb : Nat) (w : World) (hB : B < w.heap.size)
    (h0 : w.cell? ⟨B, 0, none⟩ = some (.slice (some ⟨b1, o1, none⟩) xs.length ca)) (h1 : w.cell? ⟨B, 1, none⟩ = some (.slice (some ⟨b2, o2, none⟩) ys.length cb))
    (l1 : b1 < w.heap.size) (l2 : b2 < w.heap.size) (hc1 : ∀ i (h : i < xs.length), w.cell? ⟨b1, o1 + i, none⟩ = some (tV xs[i])) (hc2 : ∀ i (h : i < ys.length), w.cell? ⟨b2, o2 + i, none⟩ = some (tV ys[i]))
    (la : xs.length ≤ 12) (lb : ys.length ≤ 12) (lp : 0 < xs.length) :
    Calls Tryd.prog 41 #[.slice (some ⟨B, 0, none⟩) 2 2] w fun e w' => ∃ v, e = .returned v ∧ w'.ownsRow w.heap.size 22 1 v (xs ++ ys).length ((xs ++ ys).map tV) ∧ Below w.heap.size w w' := by
  have HA : Hid (∀ W, Below w.heap.size w W → ∀ i (h : i < xs.length), W.cell? ⟨b1, o1 + i, none⟩ = some (tV xs[i])) := fun W hW i hi => (hW.cell (p := ⟨b1, o1 + i, none⟩) l1).trans (hc1 i hi)
  have HB : Hid (∀ W, Below w.heap.size w W → ∀ i (h : i < ys.length), W.cell? ⟨b2, o2 + i, none⟩ = some (tV ys[i])) := fun W hW i hi => (hW.cell (p := ⟨b2, o2 + i, none⟩) l2).trans (hc2 i hi)
  clear hc1 hc2
  have g0 : ¬ ((xs.length : Int) < 0) := by omega
  have g1 : ¬ ((xs.length : Int) + (ys.length : Int) < 0) := by omega
  go_enter Tryd.func41, Tryd.ntmps41
  go_wp2
  refine wp_loop_rounds 3 ?_
  rw [rounds_succ]
  go_wp2
  rw [rounds_succ]
  go_wp2
  rw [rounds_succ]
  go_wp2_with (go_at_call 65; refine (growT_nil _ (xs.length + ys.length) _ (by omega) (by omega) (by omega)).mono ?_; rintro e w1 ⟨v, rfl, hown, hb1⟩)
  have c0 := (hb1.cell (p := ⟨B, 0, none⟩) hB).trans h0
  have c1 := (hb1.cell (p := ⟨B, 1, none⟩) hB).trans h1
  have HO := hide hown
  clear h0 h1 hown
  refine wp_loop_rounds 3 ?_
  rw [rounds_succ]
  go_wp2_with (at_builtin; refine wpList_append_rdT rfl (.tmp 31) (.tmp 32) rfl w.heap.size v 0 [] rfl HO.out b1 o1 xs ca rfl (HA.out _ hb1) (by omega) hb1.size ?_)
  intro v2 w2 hown hb2
  have c2 := (hb2.cell (p := ⟨B, 1, none⟩) hB).trans c1
  have HO2 : Hid (w2.ownsRow w.heap.size 22 1 v2 xs.length (xs.map tV)) := hide (by simpa using hown)
  have hb2' := hb1.trans hb2
  clear c0 c1 hown hb2
  go_wp2
  rw [rounds_succ]
  go_wp2_with (at_builtin; (refine wpList_append_rdT rfl (.tmp 31) (.tmp 32) rfl w.heap.size v2 xs.length (xs.map tV) rfl HO2.out b2 o2 ys cb rfl (HB.out _ hb2') (by omega) hb2'.size ?_))
  intro v3 w3 hown hb3
  have HO3 := hide hown
  clear c2 hown
  go_wp2
  rw [rounds_succ]
  go_wp2
  go_ret
  refine ⟨v3, rfl, ?_, hb2'.trans hb3⟩
  have := HO3.out
  rw [List.map_append, List.length_append]
  simpa using this

end Go.Proofs.YtandimbpealclacDoor
