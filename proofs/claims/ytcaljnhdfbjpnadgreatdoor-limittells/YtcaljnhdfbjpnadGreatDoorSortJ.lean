/-
  Several texts as one: SortedA, AppendRd, SortedB.
-/
import Derived.Test.YtcaljnhdfbjpnadGreatDoorBase
import Derived.OwnWalk
import Derived.Test.YtcaljnhdfbjpnadGreatDoorLMathA
import Derived.Laws.AppendOwnNone
namespace Go.Proofs.YtcaljnhdfbjpnadGreatDoor
open Go.ChangeShapes Go.WideShapes Go.ChangeAt Go.RowKit
set_option linter.unusedVariables false

theorem gap_store {wr : World} {B g n cap k : Nat} {S R : List Int} {c : Int} (y : Int) (hk : k ≤ S.length)
    (h : wr.ownsRow B 3 1 (.slice (some ⟨g, 0, none⟩) n cap) n ((M.gapI S R c k).map (Value.int .i64))) :
    (wr.setCell ⟨g, k, none⟩ (.int .i64 y)).ownsRow B 3 1 (.slice (some ⟨g, 0, none⟩) n cap) n ((M.gapI S R y k).map (Value.int .i64)) := by
  have := (h.stored k (.int .i64 y)).1
  rw [← M.gap_set S R c y k hk, List.map_set]
  exact this

theorem gap_cell {wr : World} {B g n cap k : Nat} {S R : List Int} {c : Int} (hk : k ≤ S.length) (hn : S.length + 1 + R.length = n)
    (h : wr.ownsRow B 3 1 (.slice (some ⟨g, 0, none⟩) n cap) n ((M.gapI S R c k).map (Value.int .i64))) :
    ∃ u, wr.cell? ⟨g, k, none⟩ = some u :=
  ⟨_, own_at h (by rw [M.gap_len _ _ _ _ hk]; exact hn) k (by rw [M.gap_len _ _ _ _ hk]; omega)⟩

set_option maxHeartbeats 2000000 in
set_option maxRecDepth 10000 in
theorem sorted_some (b off : Nat) (xs : List Int) (cap : Nat) (w : World) (hp : 0 < xs.length) (hl : xs.length ≤ 1000000) (hb : b < w.heap.size)
    (hc : ∀ i, i < xs.length → w.cell? ⟨b, off + i, none⟩ = some (.int .i64 (xs.getD i 0))) :
    Calls Tryz.prog 15 #[.slice (some ⟨b, off, none⟩) xs.length cap] w fun e w' => ∃ g cap', e = .returned (.slice (some ⟨g, 0, none⟩) xs.length cap') ∧ w.heap.size ≤ g ∧ g < w'.heap.size ∧
      w'.ownsRow w.heap.size 3 1 (.slice (some ⟨g, 0, none⟩) xs.length cap') xs.length ((M.sortI xs).map (Value.int .i64)) ∧ Below w.heap.size w w' := by
  obtain ⟨i0, hi, hz0, hz1, hz2⟩ := info_parts info3
  have HC := hide (src_cells hc)
  clear hc
  go_enter Tryz.func15, Tryz.ntmps15
  go_wp2_with (at_builtin; refine wpList_append_own _ rfl (.tmp 7) (.tmp 8) 24 rfl w.heap.size 3 i0 (.int .i64 0) 1 8 Tryz.underlying24 hi hz0 hz1 hz2 rfl (by decide) _ _ _ rfl (World.ownsRow_nil _ _ _ _) ⟨b, off, none⟩ xs.length cap (xs.map (Value.int .i64)) rfl (by simp) HC.out (one_cells xs) (by unfold maxLen; omega) (by omega) (Nat.le_refl _) ?_)
  intro v' w1 hown' hgrow hnil
  have hown : w1.ownsRow w.heap.size 3 1 v' xs.length ((M.rowI xs 1).map (Value.int .i64)) := by rw [M.row_one xs hp]; simpa using hown'
  have hbl1 : Below w.heap.size w w1 := (Below.refl _ w).grown hgrow (Nat.le_refl _) (fun k hk => by cases hk)
  clear hown' hgrow hnil HC hi hz0 hz1 hz2
  obtain ⟨g, cap', rfl, hg1, hg2⟩ := own_shape hown hp
  go_wp2
  go_loopw [4] (fun i wr => ∃ k : Nat, 1 ≤ k ∧ k ≤ xs.length ∧ i = .int .i64 k ∧ wr.ownsRow w.heap.size 3 1 (.slice (some ⟨g, 0, none⟩) xs.length cap') xs.length ((M.rowI xs k).map (Value.int .i64)) ∧ g < wr.heap.size ∧ Below w.heap.size w wr) (fun i _ => xs.length - (intOf i).toNat)
  case atStart => exact ⟨1, by omega, by omega, rfl, hown, hg2, hbl1⟩
  case round =>
    clear hown hg2 hbl1
    obtain ⟨i, hi1, hi2, rfl, hown, hg2, hbl1⟩ := hrel
    by_cases hlt : i < xs.length
    · have hck := own_at hown (M.row_len xs i hi2) i (by rw [M.row_len _ _ hi2]; exact hlt)
      rw [M.row_at xs i hlt] at hck
      rw [M.row_gap xs i hlt] at hown
      have SL : Hid ((M.sortI (xs.take i)).length = i) := by rw [M.sort_length, List.length_take]; exact Nat.min_eq_left hi2
      have RL : Hid ((xs.drop (i + 1)).length = xs.length - (i + 1)) := by rw [List.length_drop]; exact rfl
      have GR := hide (fun k => M.gap_row xs i k hlt)
      have LOW := hide (M.sort_low (xs.take i) xs[i])
      have hSl := SL.out
      have NL : Hid ((M.sortI (xs.take i)).length + 1 + (xs.drop (i + 1)).length = xs.length) := by unfold Hid; rw [hSl, RL.out]; omega
      clear hSl RL
      generalize M.sortI (xs.take i) = S at *
      generalize xs.drop (i + 1) = R at *
      generalize xs[i] = x at *
      go_wp2
      go_loopw [6] (fun kk wt => ∃ (k : Nat) (c : Int), k ≤ i ∧ kk = .int .i64 k ∧ wt.ownsRow w.heap.size 3 1 (.slice (some ⟨g, 0, none⟩) xs.length cap') xs.length ((M.gapI S R c k).map (Value.int .i64)) ∧ Hid (∀ y ∈ S.drop k, x < y) ∧ g < wt.heap.size ∧ Below w.heap.size w wt) (fun kk _ => (intOf kk).toNat)
      case atStart => exact ⟨i, x, Nat.le_refl _, rfl, hown, M.drop_none (Nat.le_of_eq SL.out), hg2, hbl1⟩
      case round =>
        clear hown hg2 hbl1 hck
        obtain ⟨k, c, hk, rfl, hown, hhi, hg2, hbl⟩ := hrel
        have hks : k ≤ S.length := by rw [SL.out]; exact hk
        have hfz := hown.frozenAt k
        obtain ⟨u, hcu⟩ := gap_cell hks NL.out hown
        rcases k with _ | j
        · have R1 := hide (gap_store x hks hown)
          have hdn : decide ((0 : Int) < ((0 : Nat) : Int)) = false := by simp
          have GR0 := hide (GR.out 0 (by simp) hhi.out)
          clear hks hown
          go_wp2
          go_roundw
          case rel => exact ⟨i + 1, by omega, by omega, by go_num, by rw [← GR0.out]; exact R1.out, by simpa using hg2, hbl.setCell hg1 _⟩
          case measure => simp [intOf]; omega
        · have hjs : j < S.length := hks
          have hcj := own_at hown (by rw [M.gap_len _ _ _ _ hks]; exact NL.out) j (by rw [M.gap_len _ _ _ _ hks]; omega)
          rw [M.gap_low S R c j hjs] at hcj
          by_cases hgt : x < S[j]
          · have R1 := hide (gap_store S[j] hks hown)
            have GD := hide (M.gap_down S R j hjs)
            have DM : Hid (∀ y ∈ S.drop j, x < y) := M.drop_more hjs hgt hhi.out
            clear hks hown
            go_wp2
            go_roundw
            case rel => exact ⟨j, S[j], by omega, by go_num, by rw [← GD.out]; exact R1.out, DM, by simpa using hg2, hbl.setCell hg1 _⟩
            case measure => simp [intOf]
          · have hdn : decide (x < S[j]) = false := by simpa using hgt
            have R1 := hide (gap_store x hks hown)
            have GR0 := hide (GR.out (j + 1) (LOW.out j hjs (by omega)) hhi.out)
            clear hks hown
            go_wp2
            go_roundw
            case rel => exact ⟨i + 1, by omega, by omega, by go_num, by rw [← GR0.out]; exact R1.out, by simpa using hg2, hbl.setCell hg1 _⟩
            case measure => simp [intOf]; omega
    · have hie : xs.length ≤ i := by omega
      rw [M.row_all xs i hie] at hown
      go_wp2
      go_ret
      exact ⟨g, cap', rfl, hg1, hg2, hown, hbl1⟩

end Go.Proofs.YtcaljnhdfbjpnadGreatDoor

namespace Go.Proofs.YtcaljnhdfbjpnadGreatDoor
open Go.ChangeShapes Go.WideShapes Go.ChangeAt Go.RowKit Go.Lib
set_option linter.unusedVariables false

/-- an append of a slice that is read to a row of our own -/
theorem wpList_append_rd {w : World} {ops : Array Oper} {rest : List Oper} {o : Oper} {act : Act} {Q : Exit → Act → World → Prop} (hgd : o.guard = none) (s x : Operand)
    (ho : o.op = .call { callee := .builtin .append, args := #[s, x], argTypes := #[24, 24] })
    (base : Nat) (v : Value) (n : Nat) (zs : List Int) (hs : act.eval s = v) (hown : w.ownsRow base 3 1 v n (zs.map (Value.int .i64)))
    (a : Option Addr) (ys : List Int) (cap : Nat) (hx : act.eval x = .slice a ys.length cap) (hr : Rd w a ys) (hnil : a = none → cap = 0) (hlen : n + ys.length ≤ 1000000) (hbase : base ≤ w.heap.size)
    (h : ∀ v' w', w'.ownsRow base 3 1 v' (n + ys.length) ((zs ++ ys).map (Value.int .i64)) → Below base w w' → wpList Tryz.prog ops Q rest (act.put o.dst v') w') : wpList Tryz.prog ops Q (o :: rest) act w := by
  obtain ⟨i0, hi, hz0, hz1, hz2⟩ := info_parts info3
  cases a with
  | none =>
    have e : ys = [] := by
      by_cases hy : ys = []
      · exact hy
      · obtain ⟨b, off, e, _⟩ := hr.2 hy; cases e
    subst e
    have hc := hnil rfl
    subst hc
    refine wpList_append_own_none hgd s x 24 ho base 3 i0 1 Tryz.underlying24 hi v n (zs.map (Value.int .i64)) hs hown hx ?_
    have := h v w (by simpa using hown) (Below.refl _ _)
    exact this
  | some ad =>
    have hnews : ∀ j u, (ys.map (Value.int .i64))[j]? = some u → w.cell? (ad.add j) = some u := by
      by_cases hy : ys = []
      · subst hy; intro j u hj; simp at hj
      · obtain ⟨b, off, e, hb, hc⟩ := hr.2 hy
        cases e
        exact src_cells hc
    refine wpList_append_own _ hgd s x 24 ho base 3 i0 (.int .i64 0) 1 8 Tryz.underlying24 hi hz0 hz1 hz2 rfl (by decide) v n (zs.map (Value.int .i64)) hs hown ad ys.length cap (ys.map (Value.int .i64)) hx (by simp) hnews (one_cells ys) (by unfold maxLen; omega) (by omega) hbase ?_
    intro v' w' hown' hgrow _
    refine h v' w' (by rw [List.map_append]; exact hown') ((Below.refl _ w).grown hgrow hbase (fun k hk => (hown.lt k hk).1))

end Go.Proofs.YtcaljnhdfbjpnadGreatDoor

namespace Go.Proofs.YtcaljnhdfbjpnadGreatDoor
open Go.ChangeShapes Go.WideShapes Go.ChangeAt Go.RowKit Go.Lib
set_option linter.unusedVariables false

set_option maxHeartbeats 1000000 in
theorem sorted_none (a : Option Addr) (cap : Nat) (w : World) (hn : a = none → cap = 0) :
    Calls Tryz.prog 15 #[.slice a 0 cap] w fun e w' => ∃ a' cap', e = .returned (.slice a' 0 cap') ∧ Below w.heap.size w w' := by
  have R : Rd w a [] := ⟨Nat.zero_le _, fun h => absurd rfl h⟩
  have HR := hide R
  have HN := hide hn
  clear R hn
  go_enter Tryz.func15, Tryz.ntmps15
  go_wp2_with (at_builtin; refine wpList_append_rd rfl (.tmp 7) (.tmp 8) rfl w.heap.size _ 0 [] rfl (World.ownsRow_nil _ _ _ _) a [] cap rfl HR.out HN.out (by simp) (Nat.le_refl _) ?_)
  intro v' w1 hown hb
  obtain ⟨a', cap', rfl, _, _⟩ := own_rd (F := []) hown
  clear hown
  go_wp2
  refine wp_loop_rounds 1 ?_
  rw [rounds_succ]
  go_wp2
  go_ret
  exact ⟨a', cap', rfl, hb⟩

/-- whatever the list: its elements in order, in a row of its own -/
theorem sorted_any (a : Option Addr) (xs : List Int) (cap : Nat) (w : World) (h : Rd w a xs) (hn : a = none → cap = 0) (hl : xs.length ≤ 1000000) :
    Calls Tryz.prog 15 #[.slice a xs.length cap] w fun e w' => ∃ a' cap', e = .returned (.slice a' xs.length cap') ∧ Rd w' a' (M.sortI xs) ∧ Below w.heap.size w w' := by
  by_cases hx : xs = []
  · subst hx
    refine (sorted_none a cap w hn).mono ?_
    rintro e w' ⟨a', cap', rfl, hb⟩
    exact ⟨a', cap', rfl, by rw [show M.sortI [] = [] from by simp [M.sortI]]; exact ⟨Nat.zero_le _, fun h => absurd rfl h⟩, hb⟩
  · obtain ⟨b, off, rfl, hb, hc⟩ := h.2 hx
    refine (sorted_some b off xs cap w (List.length_pos_iff.2 hx) hl hb hc).mono ?_
    rintro e w' ⟨g, cap', rfl, h1, h2, hown, hbl⟩
    refine ⟨_, cap', rfl, ?_, hbl⟩
    rw [← M.sort_length xs] at hown
    obtain ⟨a', c', e, hr, _⟩ := own_rd hown
    cases e
    exact hr

end Go.Proofs.YtcaljnhdfbjpnadGreatDoor
