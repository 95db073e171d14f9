/-
  Several texts as one: ShNew.
-/
import Derived.Test.YtodidokeblblgaaRunS17
namespace Go.Proofs.Ytodidokeblblgaa
open Go.ChangeShapes Go.WideShapes Go.ChangeAt Go.RowKit Go.Lib Go.Maps
set_option linter.unusedVariables false
theorem inv_zero : Inv M.sh0 where
  ok := M.ok_zero
  zr := fun k hk => by simp [M.sh0] at hk
  nu := fun k d hk => by simp [M.sh0, M.kyL] at hk
  ll := Int.le_refl _
  dl := Int.le_refl _
  nb := fun k hk => by simp [M.sh0] at hk
def newT (B : Nat) (q : Nat) : Nat := if q = B + 1 + 1 then 1 else if q = B then 2 else if q = B + 1 then 3 else 0
set_option maxHeartbeats 4000000 in
theorem sh_New (W : World) : Calls Try.prog 4 #[] W fun e w' => ∃ f T, e = .returned (.pointer (some ⟨f, 0, none⟩)) ∧ SA w' f T M.sh0 ∧ Below W.heap.size W w' ∧ ∀ q, T q ≠ 0 → W.heap.size ≤ q := by
  have hmm := @run_makeMap Try.prog
  have FIN : Hid (SA (((W.alloc (.map #[] 0)).alloc (.map #[] 0)).alloc (.cells #[.map (some W.heap.size), .map (some (W.heap.size + 1)), .int .i64 0] 45)) (W.heap.size + 1 + 1) (newT W.heap.size) M.sh0 ∧ Below W.heap.size W (((W.alloc (.map #[] 0)).alloc (.map #[] 0)).alloc (.cells #[.map (some W.heap.size), .map (some (W.heap.size + 1)), .int .i64 0] 45))) := by
    have z2 : ((W.alloc (.map #[] 0)).alloc (.map #[] 0)).heap.size = W.heap.size + 1 + 1 := by simp
    have z1 : (W.alloc (.map #[] 0)).heap.size = W.heap.size + 1 := by simp
    have o1 := World.ownsMap_made W Try.prog 9 selfE
    have o2 := World.ownsMap_made (W.alloc (.map #[] 0)) Try.prog 3 selfE
    rw [z1] at o2
    have bx := bx_new ((W.alloc (.map #[] 0)).alloc (.map #[] 0)) [.map (some W.heap.size), .map (some (W.heap.size + 1)), .int .i64 0] 45
    rw [z2] at bx
    have pn : ∀ n, M.posL M.sh0.l n = [] := fun n => rfl
    have t1 : newT W.heap.size (W.heap.size + 1 + 1) = 1 := by unfold newT; rw [if_pos rfl]
    have t2 : newT W.heap.size W.heap.size = 2 := by unfold newT; rw [if_neg (by omega), if_pos rfl]
    have t3 : newT W.heap.size (W.heap.size + 1) = 3 := by unfold newT; rw [if_neg (by omega), if_neg (by omega), if_pos rfl]
    refine ⟨⟨W.heap.size, W.heap.size + 1, .map [], .map [], fun _ => 0, fun _ => 0, fun _ => none, fun _ => 0, fun _ => ⟨0, 0, none, [], 0, none, [], 0⟩, ?_⟩, (((Below.refl _ _).alloc (Nat.le_refl _) _).alloc (by simp) _).alloc (by simp; omega) _⟩
    exact {
      inv := inv_zero
      tlt := fun q hq => by
        unfold newT at hq
        simp only [World.alloc]
        by_cases q1 : q = W.heap.size + 1 + 1
        · subst q1; simp
        · rw [if_neg q1] at hq
          by_cases q2 : q = W.heap.size
          · subst q2; simp; omega
          · rw [if_neg q2] at hq
            by_cases q3 : q = W.heap.size + 1
            · subst q3; simp
            · rw [if_neg q3] at hq; exact absurd rfl hq
      box := bx
      tf := t1
      tm := t2
      tl := t3
      lo := ⟨0, o2.alloc _⟩
      lz := rfl
      la := fun ses k hk => by cases hk
      ln := fun ses _ => rfl
      mo := (o1.alloc _).alloc _
      mz := rfl
      mn := fun n _ _ => rfl
      ms := fun n hn => absurd (pn n) hn
      tb := fun n hn => absurd (pn n) hn
      mi := fun n n' hn => absurd (pn n) hn
      mc := fun n hn => absurd (pn n) hn
      ro := fun n hn => absurd (pn n) hn
      rt := fun n p hn => absurd (pn n) hn
      ri := fun n n' p p' hn => absurd (pn n) hn
      tk := fun k hk => by simp [M.sh0] at hk
      ki := fun k j hk => by simp [M.sh0] at hk
      kc := fun k hk => by simp [M.sh0] at hk
      kg := fun k hk => by simp [M.sh0] at hk }
  go_enter Try.func4, Try.ntmps4
  go_wp2
  go_ret
  refine ⟨_, _, rfl, FIN.out.1, FIN.out.2, fun q hq => ?_⟩
  unfold newT at hq
  by_cases q1 : q = W.heap.size + 1 + 1
  · omega
  · rw [if_neg q1] at hq
    by_cases q2 : q = W.heap.size
    · omega
    · rw [if_neg q2] at hq
      by_cases q3 : q = W.heap.size + 1
      · omega
      · rw [if_neg q3] at hq; exact absurd rfl hq
theorem sh_Index {W : World} {f : Nat} {T : Nat → Nat} {S : M.Sh} (h : SA W f T S) : Calls Try.prog 6 #[.pointer (some ⟨f, 0, none⟩)] W fun e w' => e = .returned (.int .i64 S.idx) ∧ w' = W := by
  obtain ⟨mm, ml, D, E, kb, mb, va, vc, G, h⟩ := h
  have c2 := h.box.cell 2 _ rfl
  clear h
  go_enter Try.func6, Try.ntmps6
  go_wp2
  go_ret
  exact ⟨rfl, rfl⟩
end Go.Proofs.Ytodidokeblblgaa
