/-
  What package orchref1's firsts and Mean answer: the list's first thousand, made fit, in a row of its own, and their mean; for every list.
-/
import Derived.Test.YtpjodggmbpinbaaMean
namespace Go.Proofs.Ytpjodggmbpinbaa
open Go.ChangeShapes Go.WideShapes Go.ChangeAt Go.RowKit
set_option linter.unusedVariables false

theorem app_step {B k : Nat} {w wr w1 : World} {v v' : Value} {o : Obj} {F : List Int} {x : Int} (hk : k < F.length) (hx : x = F[k]) (hB : B ≤ wr.heap.size)
    (hown : wr.ownsRow B 3 1 v k ((F.take k).map (Value.int .i64))) (hbl : Below B w wr)
    (hown' : w1.ownsRow B 3 1 v' (k + 1) ((F.take k).map (Value.int .i64) ++ [.int .i64 x])) (hgrow : (wr.alloc o).grownBy w1 v.ownBlock) :
    w1.ownsRow B 3 1 v' (k + 1) ((F.take (k + 1)).map (Value.int .i64)) ∧ Below B w w1 := by
  constructor
  · rw [List.take_succ_eq_append_getElem hk, List.map_append, ← hx]
    exact hown'
  · exact (hbl.alloc hB o).grown hgrow (by simp; omega) (fun j hj => (hown.lt j hj).1)

set_option maxHeartbeats 1000000 in
set_option maxRecDepth 10000 in
theorem firsts_core (b off : Nat) (xs : List Int) (cap n : Nat) (w : World) (hm : xs.length ≤ 9223372036854775807) (hb : b < w.heap.size)
    (hc : ∀ i, i < xs.length → w.cell? ⟨b, off + i, none⟩ = some (.int .i64 (xs.getD i 0))) (hn : (M.firstI xs).length = n)
    (hcase : (xs.length ≤ 1000 ∧ n = xs.length) ∨ (1000 < xs.length ∧ n = 1000)) :
    Calls Try.prog 26 #[.slice (some ⟨b, off, none⟩) xs.length cap] w fun e w' => ∃ v, e = .returned v ∧
      w'.ownsRow w.heap.size 3 1 v n ((M.firstI xs).map (Value.int .i64)) ∧ Below w.heap.size w w' := by
  obtain ⟨i0, hi, hz0, hz1, hz2⟩ := info_parts info3
  have HN := hide hn
  clear hn
  obtain ⟨g1, g2⟩ : n ≤ xs.length ∧ n ≤ 1000 := by omega
  have HC := hide hcase
  clear hcase
  go_enter Try.func26, Try.ntmps26
  go_wp2
  go_loopw [3, 4] (fun v i wr => ∃ k : Nat, k ≤ n ∧ i = .int .i64 k ∧ wr.ownsRow w.heap.size 3 1 v k (((M.firstI xs).take k).map (Value.int .i64)) ∧ Below w.heap.size w wr) (fun _ i _ => n - (intOf i).toNat)
  case atStart => exact ⟨0, Nat.zero_le _, rfl, World.ownsRow_nil _ _ _ _, Below.refl _ _⟩
  case round =>
    obtain ⟨k, hk, rfl, hown, hbl⟩ := hrel
    by_cases hlt : k < n
    · have hck := (hbl.cell (p := ⟨b, off + k, none⟩) hb).trans (Rd.at hc k (by omega))
      have hkl : k < xs.length := by omega
      have HA := hide (M.first_at xs k (by rw [HN.out]; exact hlt) hkl).symm
      have hB := hbl.size
      have HO := hide hown
      have HR := hide (fun (x : Int) (o : Obj) (v' : Value) (w1 : World) (hx : x = (M.firstI xs)[k]'(by rw [HN.out]; exact hlt)) => app_step (x := x) (o := o) (v' := v') (w1 := w1) (by rw [HN.out]; exact hlt) hx hB hown hbl)
      clear hc hown
      go_wp2_with (first
        | (go_at_call 21; refine (rfit_any _ _).mono ?_; rintro e w' ⟨rfl, rfl⟩)
        | (at_builtin; refine wpList_append_own _ rfl (.tmp 21) (.tmp 23) 26 rfl w.heap.size 3 i0 (.int .i64 0) 1 8 Try.underlying26 hi hz0 hz1 hz2 rfl (by decide) _ _ _ rfl (HO.out.alloc _) ⟨_, 0, none⟩ 1 1 [.int .i64 (M.fitI xs[k])] rfl rfl ?c1 ?c2 ?c3 ?c4 ?c5 ?_))
      case c1 =>
        intro j u hj
        match j, hj with
        | 0, hj => simp at hj; subst hj; simp [Addr.add]
      case c2 => intro u hu; simp at hu; subst hu; rfl
      case c3 => unfold maxLen; omega
      case c4 => omega
      case c5 => simp; omega
      intro v' w1 hown' hgrow _
      have R := HR.out _ _ v' w1 HA.out (by rw [List.map_take]; exact hown') hgrow
      clear hown' hgrow
      go_wp2
      go_roundw
      case rel => exact ⟨k + 1, by omega, by go_num, R.1, R.2⟩
      case measure => simp [intOf]; omega
    · have hke : k = n := by omega
      subst hke
      by_cases hkl : k < xs.length
      · have hk1 : ¬ k < 1000 := by have := HC.out; omega
        have hd : decide ((k : Int) < 1000) = false := by simp; omega
        clear hc
        go_wp2
        go_ret
        refine ⟨_, rfl, ?_, hbl⟩
        rw [List.take_of_length_le (by rw [HN.out]; omega)] at hown
        exact hown
      · have hd : decide ((k : Int) < (xs.length : Int)) = false := by simp; omega
        clear hc
        go_wp2
        go_ret
        refine ⟨_, rfl, ?_, hbl⟩
        rw [List.take_of_length_le (by rw [HN.out]; omega)] at hown
        exact hown

/-- the row that firsts gives, as its callers read it: nil and nothing, or a row -/
theorem firsts_any (a : Option Addr) (xs : List Int) (cap : Nat) (w : World) (h : Rd w a xs) :
    Calls Try.prog 26 #[.slice a xs.length cap] w fun e w' => ∃ v, e = .returned v ∧
      w'.ownsRow w.heap.size 3 1 v (M.firstI xs).length ((M.firstI xs).map (Value.int .i64)) ∧ Below w.heap.size w w' := by
  obtain ⟨hm, hr⟩ := h
  unfold maxLen at hm
  by_cases hx : xs = []
  · subst hx
    go_enter Try.func26, Try.ntmps26
    go_wp2
    refine wp_loop_rounds 1 ?_
    rw [rounds_succ]
    go_wp2
    go_ret
    exact ⟨_, rfl, World.ownsRow_nil _ _ _ _, Below.refl _ _⟩
  · obtain ⟨b, off, rfl, hb, hc⟩ := hr hx
    refine firsts_core b off xs cap _ w hm hb hc rfl ?_
    rw [M.first_len]; omega

theorem own_shape {w : World} {base n : Nat} {v : Value} {l : List Value} (h : w.ownsRow base 3 1 v n l) (hn : 0 < n) : ∃ g cap, v = .slice (some ⟨g, 0, none⟩) n cap ∧ base ≤ g ∧ g < w.heap.size := by
  rcases h.2 with ⟨_, h0⟩ | ⟨g, cap, cur, rfl, hb, hg, _⟩
  · omega
  · exact ⟨g, cap, rfl, hb, (Array.getElem?_eq_some_iff.1 hg).1⟩

theorem own_none {w : World} {base : Nat} {v : Value} {l : List Value} (h : w.ownsRow base 3 1 v 0 l) : ∃ a cap, v = .slice a 0 cap := by
  rcases h.2 with ⟨rfl, h0⟩ | ⟨g, cap, cur, rfl, hb, hg, _⟩
  · exact ⟨_, _, rfl⟩
  · exact ⟨_, _, rfl⟩

theorem firsts_none (a : Option Addr) (xs : List Int) (cap : Nat) (w : World) (h : Rd w a xs) (hx : xs = []) :
    Calls Try.prog 26 #[.slice a xs.length cap] w fun e w' => ∃ a' cap', e = .returned (.slice a' 0 cap') ∧ Below w.heap.size w w' := by
  refine (firsts_any a xs cap w h).mono ?_
  rintro e w' ⟨v, rfl, hown, hbl⟩
  subst hx
  obtain ⟨a', cap', rfl⟩ := own_none hown
  exact ⟨a', cap', rfl, hbl⟩

theorem firsts_some (a : Option Addr) (xs : List Int) (cap : Nat) (w : World) (h : Rd w a xs) (hx : xs ≠ []) :
    Calls Try.prog 26 #[.slice a xs.length cap] w fun e w' => ∃ g cap', e = .returned (.slice (some ⟨g, 0, none⟩) (M.firstI xs).length cap') ∧ w.heap.size ≤ g ∧ g < w'.heap.size ∧
      w'.ownsRow w.heap.size 3 1 (.slice (some ⟨g, 0, none⟩) (M.firstI xs).length cap') (M.firstI xs).length ((M.firstI xs).map (Value.int .i64)) ∧ Below w.heap.size w w' := by
  refine (firsts_any a xs cap w h).mono ?_
  rintro e w' ⟨v, rfl, hown, hbl⟩
  obtain ⟨g, cap', rfl, h1, h2⟩ := own_shape hown (M.first_pos hx)
  exact ⟨g, cap', rfl, h1, h2, hown, hbl⟩

set_option maxHeartbeats 1000000 in
theorem rmean_any (a : Option Addr) (xs : List Int) (cap : Nat) (w : World) (h : Rd w a xs) :
    Calls Try.prog 17 #[.slice a xs.length cap] w fun e w' => e = .returned (.int .i64 (M.meanI xs)) ∧ Below w.heap.size w w' := by
  by_cases hx : xs = []
  · have Z := hide (M.mean_zero hx)
    have C := hide (firsts_none a xs cap w h hx)
    clear hx h
    go_enter Try.func17, Try.ntmps17
    go_wp2_with (go_at_call 26; refine C.out.mono ?_; rintro e w1 ⟨a', cap', rfl, hbl⟩)
    go_ret
    exact ⟨ret_int Z.out, hbl⟩
  · have Z := hide (M.mean_some hx)
    have hp := M.first_pos hx
    have hl : (M.firstI xs).length ≤ 1000 := by rw [M.first_len]; omega
    have hz : (((M.firstI xs).length : Int) == 0) = false := by rw [beq_eq_false_iff_ne]; omega
    have C := hide (firsts_some a xs cap w h hx)
    have SB := hide (M.sum_take_bd xs)
    have SS := hide (M.sum_succ (M.firstI xs))
    clear hx h
    generalize M.firstI xs = F at *
    go_enter Try.func17, Try.ntmps17
    go_wp2_with (go_at_call 26; refine C.out.mono ?_; rintro e w1 ⟨g, cap', rfl, hg1, hg2, hown, hbl⟩)
    have OA := hide (own_at hown rfl)
    clear hown C
    go_loop [4, 5] (fun t i => ∃ k : Nat, k ≤ F.length ∧ i = .int .i64 k ∧ t = .int .i64 (F.take k).sum) (fun _ i => F.length - (intOf i).toNat)
    case atStart => exact ⟨0, Nat.zero_le _, rfl, rfl⟩
    case round =>
      obtain ⟨k, hk, rfl, rfl⟩ := hrel
      obtain ⟨s1, s2⟩ := SB.out k hk
      by_cases hlt : k < F.length
      · have hck := OA.out k hlt
        have S := hide (SS.out k hlt)
        obtain ⟨s3, s4⟩ := SB.out (k + 1) hlt
        rw [← S.out] at s3 s4
        go_wp2
        go_round
        case rel => exact ⟨k + 1, by omega, by go_num, by rw [← S.out]⟩
        case measure => simp [intOf]; omega
      · have hke : F.take k = F := List.take_of_length_le (by omega)
        rw [hke] at s1 s2
        have HK := hide hke
        clear hke
        have e1 : (F.take k).sum = F.sum := by rw [HK.out]
        go_wp2_with (go_at_call 24; refine (floor_any _ _ _ (by omega) (by omega) (by omega) (by omega)).mono ?_; rintro e w' ⟨rfl, rfl⟩)
        go_ret
        exact ⟨ret_int Z.out, hbl⟩

end Go.Proofs.Ytpjodggmbpinbaa
