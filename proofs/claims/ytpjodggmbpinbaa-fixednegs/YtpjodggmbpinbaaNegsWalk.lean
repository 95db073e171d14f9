/-
  FixedNegs: the law's own text, by the contracts of what it calls: it returns true at any two numbers and any list.
-/
import Derived.Test.YtpjodggmbpinbaaAddsWalk
namespace Go.Proofs.Ytpjodggmbpinbaa
namespace M
theorem add_neg (x y : Int) : addI (-x) (-y) = -addI x y := by
  unfold addI; rw [fit_neg x, fit_neg y, ← Int.neg_add, fit_neg]
theorem mul_negl (x y : Int) : mulI (-x) y = -mulI x y := by
  unfold mulI; rw [fit_neg x, Int.neg_mul, fit_neg]
theorem mul_negr (x y : Int) : mulI x (-y) = -mulI x y := by
  unfold mulI; rw [fit_neg y, Int.mul_neg, fit_neg]
theorem add_bd (x y : Int) : -1099511627776 ≤ addI x y ∧ addI x y ≤ 1099511627776 := fit_le _
theorem mul_bd (x y : Int) : -1099511627776 ≤ mulI x y ∧ mulI x y ≤ 1099511627776 := fit_le _
theorem first_rev (l : List Int) (h : l.length ≤ 1000) : firstI l.reverse = (firstI l).reverse := by
  unfold firstI
  rw [List.take_of_length_le (by rw [List.length_reverse]; exact h), List.take_of_length_le h, List.map_reverse]
theorem sum_perm {l m : List Int} (h : l.Perm m) : l.sum = m.sum := by
  induction h with
  | nil => rfl
  | cons x _ ih => rw [List.sum_cons, List.sum_cons, ih]
  | swap x y l => simp only [List.sum_cons]; omega
  | trans _ _ h1 h2 => rw [h1, h2]
theorem mean_rev (l : List Int) (h : l.length ≤ 1000) : meanI l.reverse = meanI l := by
  unfold meanI
  rw [first_rev l h, List.length_reverse, sum_perm (List.reverse_perm (firstI l))]
  by_cases e : firstI l = []
  · rw [if_pos e, if_pos (by rw [e]; rfl)]
  · rw [if_neg e, if_neg (by simpa using e)]
theorem mid_rev (l : List Int) (h : l.length ≤ 1000) : midI l.reverse = midI l := by
  unfold midI
  rw [first_rev l h, List.length_reverse, sort_of_perm (List.reverse_perm (firstI l))]
end M
open Go.ChangeShapes Go.WideShapes Go.ChangeAt Go.RowKit
set_option linter.unusedVariables false

theorem mean_is (a : Option Addr) (ys : List Int) (n cap : Nat) (w : World) (hn : ys.length = n) (h : Rd w a ys) :
    Calls Try.prog 16 #[.slice a n cap] w fun e w' => e = .returned (.int .i64 (M.meanI ys)) ∧ Below w.heap.size w w' := by
  subst hn; exact mean_any a ys cap w h
theorem median_is (a : Option Addr) (ys : List Int) (n cap : Nat) (w : World) (hn : ys.length = n) (h : Rd w a ys) :
    Calls Try.prog 18 #[.slice a n cap] w fun e w' => e = .returned (.int .i64 (M.midI ys)) ∧ Below w.heap.size w w' := by
  subst hn; exact median_any a ys cap w h

theorem rd_own {w : World} {base g n cap : Nat} {F : List Int} (h : w.ownsRow base 3 1 (.slice (some ⟨g, 0, none⟩) n cap) n (F.map (Value.int .i64))) (hn : F.length = n) (hg : g < w.heap.size) (hl : n ≤ 1000000) : Rd w (some ⟨g, 0, none⟩) F :=
  ⟨by unfold maxLen; omega, fun _ => ⟨g, 0, rfl, hg, own_rd h hn⟩⟩

theorem rev_at (xs : List Int) (m : Nat) (h : m < xs.length) (h' : m < xs.reverse.length) : xs[xs.length - 1 - m] = xs.reverse[m] := by simp

theorem new_cell (w : World) (z : Value) (t : TypeId) : ∀ (j : Nat) (u : Value), [z][j]? = some u → (w.alloc (.cells #[z] t)).cell? ((⟨w.heap.size, 0, none⟩ : Addr).add j) = some u := by
  intro j u hj
  match j, hj with
  | 0, hj => simp at hj; subst hj; simp [Addr.add]
theorem one_cell (z : Int) : ∀ u ∈ [Value.int .i64 z], u.oneCell' = true := by
  intro u hu; simp at hu; subst hu; rfl

theorem in_or (x y : Int) : (-1099511627776 ≤ x ∧ x ≤ 1099511627776 ∧ -1099511627776 ≤ y ∧ y ≤ 1099511627776) ∨ x < -1099511627776 ∨ ((-1099511627776 ≤ x) ∧ 1099511627776 < x) ∨ ((-1099511627776 ≤ x ∧ x ≤ 1099511627776) ∧ y < -1099511627776) ∨ ((-1099511627776 ≤ x ∧ x ≤ 1099511627776) ∧ (-1099511627776 ≤ y ∧ 1099511627776 < y)) := by omega

set_option maxHeartbeats 4000000 in
set_option maxRecDepth 10000 in
theorem negs_some (x y : Int) (b off : Nat) (xs : List Int) (cap : Nat) (w : World) (hp : 0 < xs.length) (h1000 : xs.length ≤ 1000) (hb : b < w.heap.size)
    (hc : ∀ i, i < xs.length → w.cell? ⟨b, off + i, none⟩ = some (.int .i64 (xs.getD i 0))) :
    Calls Try.prog 6 #[.int .i64 x, .int .i64 y, .slice (some ⟨b, off, none⟩) xs.length cap] w fun e w' => e = .returned (.bool true) ∧ Below w.heap.size w w' := by
  have c1 : M.addI 2 3 = 5 := by decide
  have c2 : M.mulI (-2) 3 = -6 := by decide
  have n1 := M.add_neg x y
  have n2 := M.mul_negl x y
  have n3 := M.mul_negr x y
  obtain ⟨d1, d2⟩ := M.add_bd x y
  obtain ⟨e1, e2⟩ := M.mul_bd x y
  obtain ⟨i0, hi, hz0, hz1, hz2⟩ := info_parts info3
  have RL : Hid (xs.reverse.length = xs.length) := List.length_reverse
  have HRD : Hid (Rd w (some ⟨b, off, none⟩) xs) := ⟨by unfold maxLen; omega, fun _ => ⟨b, off, rfl, hb, hc⟩⟩
  have ME := hide (M.mean_rev xs h1000)
  have MI := hide (M.mid_rev xs h1000)
  have HC := hide hc
  clear hc
  rcases in_or x y with ⟨x1, x2, y1, y2⟩ | x1 | ⟨x1, x2⟩ | ⟨⟨x1, x2⟩, y1⟩ | ⟨⟨x1, x2⟩, ⟨y1, y2⟩⟩
  all_goals
    go_enter Try.func6, Try.ntmps6
    go_wp2_with (first
      | (go_at_call 8; refine (add_any _ _ _).mono ?_; rintro e w' ⟨rfl, rfl⟩)
      | (go_at_call 10; refine (mul_any _ _ _).mono ?_; rintro e w' ⟨rfl, rfl⟩))
    go_loopw [8, 9] (fun v i wr => ∃ m : Nat, m ≤ xs.length ∧ i = .int .i64 ((xs.length : Int) - 1 - m) ∧ wr.ownsRow w'.heap.size 3 1 v m ((xs.reverse.take m).map (Value.int .i64)) ∧ Below w'.heap.size w' wr) (fun _ i _ => (intOf i + 1).toNat)
    case atStart => exact ⟨0, Nat.zero_le _, by go_num, World.ownsRow_nil _ _ _ _, Below.refl _ _⟩
    case round =>
      obtain ⟨m, hm, rfl, hown, hbl⟩ := hrel
      by_cases hlt : m < xs.length
      · have hlt' : m < xs.reverse.length := by rw [RL.out]; exact hlt
        have hck := (hbl.cell (p := ⟨b, off + (xs.length - 1 - m), none⟩) hb).trans (Rd.at HC.out (xs.length - 1 - m) (by omega))
        have HA := hide (rev_at xs m hlt hlt')
        have hB := hbl.size
        have HO := hide hown
        have HR := hide (fun (z : Int) (o : Obj) (v' : Value) (w1 : World) (hx : z = xs.reverse[m]) => app_step (x := z) (o := o) (v' := v') (w1 := w1) hlt' hx hB hown hbl)
        clear hown n1 n2 n3 c1 c2 d1 d2 e1 e2
        go_wp2_with (at_builtin; refine wpList_append_own _ rfl (.tmp 78) (.tmp 83) 26 rfl w'.heap.size 3 i0 (.int .i64 0) 1 8 Try.underlying26 hi hz0 hz1 hz2 rfl (by decide) _ _ _ rfl (HO.out.alloc _) ⟨_, 0, none⟩ 1 1 [.int .i64 xs[xs.length - 1 - m]] rfl rfl (new_cell _ _ _) (one_cell _) (by unfold maxLen; omega) (by omega) (by simp; omega) ?_; intro v' w1 hown' hgrow _; have R := HR.out _ _ v' w1 HA.out (by first | exact hown' | (rw [List.map_take]; exact hown')) hgrow; clear hown' hgrow)
        go_roundw
        case rel => exact ⟨m + 1, by omega, by go_num, R.1, R.2⟩
        case measure => simp [intOf]; omega
      · have hme : m = xs.length := by omega
        subst hme
        rw [List.take_of_length_le (Nat.le_of_eq RL.out)] at hown
        obtain ⟨g, cap', rfl, hg1, hg2⟩ := own_shape hown hp
        have K1 := hide (rd_own hown RL.out hg2 (by omega))
        have K2 := hide (HRD.out.below hbl)
        have me := ME.out
        have mi := MI.out
        clear hown n1 n2 n3 c1 c2 d1 d2 e1 e2
        go_wp2_with fail
        refine (mean_is _ xs.reverse _ _ _ RL.out K1.out).mono ?_
        rintro e w2 ⟨rfl, hb2⟩
        go_wp2_with fail
        refine (mean_is _ xs _ _ _ rfl (K2.out.below hb2)).mono ?_
        rintro e w3 ⟨rfl, hb3⟩
        go_wp2_with fail
        refine (median_is _ xs.reverse _ _ _ RL.out ((K1.out.below hb2).below hb3)).mono ?_
        rintro e w4 ⟨rfl, hb4⟩
        go_wp2_with fail
        refine (median_is _ xs _ _ _ rfl (((K2.out.below hb2).below hb3).below hb4)).mono ?_
        rintro e w5 ⟨rfl, hb5⟩
        go_wp2
        go_ret
        exact ⟨rfl, Below.then (Below.then (Below.then (Below.then hbl hb2) hb3) hb4) hb5⟩

set_option maxHeartbeats 4000000 in
theorem negs_many (x y : Int) (a : Option Addr) (len cap : Nat) (w : World) (h1000 : 1000 < len) (hm : len ≤ 9223372036854775807) :
    Calls Try.prog 6 #[.int .i64 x, .int .i64 y, .slice a len cap] w fun e w' => e = .returned (.bool true) ∧ Below w.heap.size w w' := by
  have c1 : M.addI 2 3 = 5 := by decide
  have c2 : M.mulI (-2) 3 = -6 := by decide
  have n1 := M.add_neg x y
  have n2 := M.mul_negl x y
  have n3 := M.mul_negr x y
  obtain ⟨d1, d2⟩ := M.add_bd x y
  obtain ⟨e1, e2⟩ := M.mul_bd x y
  rcases in_or x y with ⟨x1, x2, y1, y2⟩ | x1 | ⟨x1, x2⟩ | ⟨⟨x1, x2⟩, y1⟩ | ⟨⟨x1, x2⟩, ⟨y1, y2⟩⟩
  all_goals
    go_enter Try.func6, Try.ntmps6
    go_wp2_with (first
      | (go_at_call 8; refine (add_any _ _ _).mono ?_; rintro e w' ⟨rfl, rfl⟩)
      | (go_at_call 10; refine (mul_any _ _ _).mono ?_; rintro e w' ⟨rfl, rfl⟩))
    go_ret
    exact ⟨rfl, Below.refl _ _⟩

set_option maxHeartbeats 4000000 in
theorem negs_none (x y : Int) (a : Option Addr) (cap : Nat) (w : World) :
    Calls Try.prog 6 #[.int .i64 x, .int .i64 y, .slice a 0 cap] w fun e w' => e = .returned (.bool true) ∧ Below w.heap.size w w' := by
  have c1 : M.addI 2 3 = 5 := by decide
  have c2 : M.mulI (-2) 3 = -6 := by decide
  have n1 := M.add_neg x y
  have n2 := M.mul_negl x y
  have n3 := M.mul_negr x y
  obtain ⟨d1, d2⟩ := M.add_bd x y
  obtain ⟨e1, e2⟩ := M.mul_bd x y
  have RD : Hid (∀ (w : World) (a : Option Addr), Rd w a []) := fun w a => ⟨Nat.zero_le _, fun h => absurd rfl h⟩
  rcases in_or x y with ⟨x1, x2, y1, y2⟩ | x1 | ⟨x1, x2⟩ | ⟨⟨x1, x2⟩, y1⟩ | ⟨⟨x1, x2⟩, ⟨y1, y2⟩⟩
  all_goals
    go_enter Try.func6, Try.ntmps6
    go_wp2_with (first
      | (go_at_call 8; refine (add_any _ _ _).mono ?_; rintro e w' ⟨rfl, rfl⟩)
      | (go_at_call 10; refine (mul_any _ _ _).mono ?_; rintro e w' ⟨rfl, rfl⟩))
    refine wp_loop_rounds 1 ?_
    rw [rounds_succ]
    clear n1 n2 n3 c1 c2 d1 d2 e1 e2
    go_wp2_with fail
    refine (mean_is _ [] _ _ _ rfl (RD.out _ _)).mono ?_
    rintro e w2 ⟨rfl, hb2⟩
    go_wp2_with fail
    refine (mean_is _ [] _ _ _ rfl (RD.out _ _)).mono ?_
    rintro e w3 ⟨rfl, hb3⟩
    go_wp2_with fail
    refine (median_is _ [] _ _ _ rfl (RD.out _ _)).mono ?_
    rintro e w4 ⟨rfl, hb4⟩
    go_wp2_with fail
    refine (median_is _ [] _ _ _ rfl (RD.out _ _)).mono ?_
    rintro e w5 ⟨rfl, hb5⟩
    go_wp2
    go_ret
    exact ⟨rfl, Below.then (Below.then (Below.then hb2 hb3) hb4) hb5⟩

theorem negs_walk (x y : Int) (a : Option Addr) (xs : List Int) (cap : Nat) (w : World) (h : Rd w a xs) :
    Calls Try.prog 6 #[.int .i64 x, .int .i64 y, .slice a xs.length cap] w fun e w' => e = .returned (.bool true) ∧ Below w.heap.size w w' := by
  obtain ⟨hm, hr⟩ := h
  unfold maxLen at hm
  by_cases hx : xs = []
  · subst hx; exact negs_none x y a cap w
  · obtain ⟨b, off, rfl, hb, hc⟩ := hr hx
    by_cases h1000 : xs.length ≤ 1000
    · exact negs_some x y b off xs cap w (List.length_pos_iff.2 hx) h1000 hb hc
    · exact negs_many x y _ _ cap w (by omega) hm

end Go.Proofs.Ytpjodggmbpinbaa
