/-
  What a Fetch's Lacks answers.
-/
import Derived.Test.YtelncekgjfpogahDoorFetHas
import Derived.Deep.AppendLies
namespace Go.Proofs.YtelncekgjfpogahDoor
open Go.ChangeShapes Go.WideShapes Go.ChangeAt Go.RowKit Go.Lib Go.Maps
set_option linter.unusedVariables false

def lackK (h : M.Has) (k : Nat) : List Int := ((List.range k).filter fun i => (h.getD i none).isNone).map fun i : Nat => (i : Int)
theorem lackK_none {h : M.Has} {k : Nat} (e : (h.getD k none).isSome = false) : lackK h (k + 1) = lackK h k ++ [(k : Int)] := by
  unfold lackK
  rw [List.range_succ, List.filter_append, List.map_append]
  have : (h.getD k none).isNone = true := by cases q : h.getD k none with | none => rfl | some _ => rw [q] at e; cases e
  rw [List.filter_cons, if_pos this]
  rfl
theorem lackK_some {h : M.Has} {k : Nat} (e : (h.getD k none).isSome = true) : lackK h (k + 1) = lackK h k := by
  unfold lackK
  rw [List.range_succ, List.filter_append, List.map_append]
  have : (h.getD k none).isNone = false := by cases q : h.getD k none with | none => rw [q] at e; cases e | some _ => rfl
  rw [List.filter_cons, if_neg (by rw [this]; simp)]
  exact List.append_nil _
theorem lackK_le (h : M.Has) (k : Nat) : (lackK h k).length ≤ k := by
  unfold lackK
  rw [List.length_map]
  exact Nat.le_trans (List.length_filter_le _ _) (by rw [List.length_range]; exact Nat.le_refl _)
theorem lackK_all {h : M.Has} {k : Nat} (e : h.length = k) : lackK h k = M.lackL h := by subst e; rfl

set_option maxHeartbeats 4000000 in
theorem fet_lacks {W : World} {f : Nat} {K : Nat → Prop} {l : List M.Pt} {h : M.Has} (F0 : FA W f K l h) : Calls Tryd.prog 16 #[.pointer (some ⟨f, 0, none⟩)] W fun e w' => ∃ va vc, e = .returned (.slice va (M.lackL h).length vc) ∧ Rd w' va (M.lackL h) ∧ Below W.heap.size W w' := by
  obtain ⟨a, c, m, D, F⟩ := F0
  have l100 := M.parts_le F.right
  have HL := hide (lackK_all F.len)
  have c0 := F.c0
  have FF := hide F
  obtain ⟨i0, hi0, hz0, hz1, hz2⟩ := info_parts info3
  have J0 := hide hi0
  clear F hi0
  go_enter Tryd.func16, Tryd.ntmps16
  go_wp2
  go_loopw [3, 10] (fun v i wr => ∃ (k n : Nat) (va : Option Addr) (vc : Nat), k ≤ l.length ∧ i = .int .i64 k ∧ n ≤ k ∧ v = .slice va n vc ∧ Hid ((lackK h k).length = n) ∧ Hid (wr.ownsRow W.heap.size 3 1 (.slice va n vc) n ((lackK h k).map (Value.int .i64))) ∧ Hid (Below W.heap.size W wr)) (fun _ i _ => l.length - (intOf i).toNat)
  case atStart => exact ⟨0, 0, none, 0, Nat.zero_le _, rfl, Nat.le_refl _, rfl, rfl, World.ownsRow_nil _ _ _ _, Below.refl _ _⟩
  case round =>
    obtain ⟨k, n, va, vc, hk, rfl, nk, rfl, LN, OO, KK⟩ := hrel
    have KZ := KK.out.size
    by_cases hlt : k < l.length
    · have kz : (k : Int) < (l.length : Int) := by omega
      have HH : Hid (Calls Tryd.prog 37 #[.pointer (some ⟨f, 0, none⟩), .int .i64 (k : Int)] wr fun e w' => e = .returned (.bool (h.getD k none).isSome) ∧ w' = wr) := fet_has (FF.out.below KK.out) (by omega)
      cases q : (h.getD k none).isSome with
      | true =>
        have EL := hide (lackK_some q)
        rw [q] at HH
        clear q c0
        go_wp2_with (go_at_call 37; refine HH.out.mono ?_; rintro e w2 ⟨rfl, ew⟩; have ew2 := ew.symm; subst ew2)
        go_roundw
        case rel => exact ⟨k + 1, n, va, vc, by omega, by go_num, by omega, rfl, by unfold Hid; rw [EL.out]; exact LN.out, by unfold Hid; rw [EL.out]; exact OO.out, KK⟩
        case measure => simp [intOf]; omega
      | false =>
        have EL := hide (lackK_none q)
        rw [q] at HH
        clear q c0
        go_wp2_with (first
          | (go_at_call 37; refine HH.out.mono ?_; rintro e w2 ⟨rfl, ew⟩; have ew2 := ew.symm; subst ew2)
          | (at_builtin; refine wpList_append_lies _ rfl (.tmp 17) (.tmp 19) 22 rfl W.heap.size 3 i0 (.int .i64 0) 1 8 Tryd.underlying22 J0.out hz0 hz1 hz2 rfl (by omega) (.slice va n vc) n ((lackK h k).map (Value.int .i64)) rfl (OO.out.alloc _) ⟨wr.heap.size, 0, none⟩ 1 1 [.int .i64 (k : Int)] rfl rfl (World.news_of_block (heap_alloc_new _ _)) (by simp [Value.oneCell']) (by omega) (by unfold maxLen; omega) (by omega) (by simp; omega) (wr.heap.size + 1) (by simp) ?_; intro g3 cap3 w3 ho3 hg3 _ _; have O3 := hide ho3; have K3 := hide ((KK.out.alloc KZ _).grown hg3 (by simp; omega) (fun q hq => (OO.out.lt q hq).1)); clear ho3 hg3))
        exact ⟨⟨k + 1, n + 1, _, _, by omega, by go_num, by omega, rfl, by unfold Hid; rw [EL.out, List.length_append, LN.out]; rfl, by unfold Hid; rw [EL.out, List.map_append]; exact O3.out, K3⟩, by show l.length - ((k : Int) + 1).toNat < l.length - ((k : Int)).toNat; omega⟩
    · have kz : ¬ ((k : Int) < (l.length : Int)) := by omega
      have ek : Hid (lackK h k = M.lackL h) := by unfold Hid; rw [show k = l.length by omega]; exact HL.out
      clear c0
      go_wp2
      go_ret
      have o := OO.out
      have ln := LN.out
      rw [ek.out] at o ln
      subst ln
      obtain ⟨va', vc', e, hr, _⟩ := own_rd o
      cases e
      exact ⟨va, ⟨vc, rfl⟩, hr, KK.out⟩

end Go.Proofs.YtelncekgjfpogahDoor
