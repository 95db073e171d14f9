/-
  What package cut's Merge answers, for every two lists.
-/
import Derived.Test.YtpobjlcgamcoiaaDoorBin
import Derived.Test.YtpobjlcgamcoiaaDoorConcat
import Derived.Sort.OwnSortedInts
namespace Go.Proofs.YtpobjlcgamcoiaaDoor
open Go.ChangeShapes Go.WideShapes Go.ChangeAt Go.RowKit Go.Shelf Go.Lib Go.Sort
set_option linter.unusedVariables false

/-- the library's sort, of a row of our own -/
theorem sort_own (base : Nat) (v : Value) (F : List Int) (w : World) (hown : w.ownsRow base 3 1 v F.length (F.map (Value.int .i64))) (hsz : F.length < 4611686018427387904) (hbase : base ≤ w.heap.size) :
    Calls Tryd.prog 22 #[v] w fun e w' => e = .returned (.tuple #[]) ∧ w'.ownsRow base 3 1 v F.length ((M.sortI F).map (Value.int .i64)) ∧ Below base w w' := by
  rcases hown.2 with ⟨rfl, h0⟩ | ⟨g, cap, cur, rfl, hb0, hb, h1, h2, h3, h4⟩
  · have e : F = [] := List.length_eq_zero_iff.1 h0
    subst e
    refine (Tryd.slices_Sort_int_none none 0 w).mono ?_
    rintro e w' ⟨rfl, rfl⟩
    exact ⟨rfl, by rw [show M.sortI [] = [] from by simp [M.sortI]]; exact hown, Below.refl _ _⟩
  · have hg : g < w.heap.size := (Array.getElem?_eq_some_iff.1 hb).1
    refine (Tryd.slices_Sort_int g 0 cap F w (holds_of_blockI hb (by simpa using h4)) hg hsz).mono ?_
    rintro e w' ⟨rfl, n, os, rfl⟩
    refine ⟨rfl, ownsRow_sortedI (by simp) hb0 hb h1 h2 h3, ?_⟩
    exact (Below.refl _ w).grown (grownBy_sortedI _) hbase (fun k hk => by cases hk; exact hb0)

theorem own_cut {w : World} {base g n cap m : Nat} {L K : List Int} (h : w.ownsRow base 3 1 (.slice (some ⟨g, 0, none⟩) n cap) n ((L ++ K).map (Value.int .i64))) (hm : m = L.length) :
    w.ownsRow base 3 1 (.slice (some ⟨g, 0, none⟩) m cap) m (L.map (Value.int .i64)) := by
  subst hm
  have hl : (L ++ K).length = n := by have := h.1; simpa using this
  rcases h.2 with ⟨h0, _⟩ | ⟨g', cap', cur, hv, hbase, hb, h1, h2, h3, h4⟩
  · cases h0
  cases hv
  rw [List.length_append] at hl
  refine ⟨by simp, .inr ⟨g, cap, cur, rfl, hbase, hb, by omega, h2, h3, ?_⟩⟩
  have : cur.toList.take (L.length * 1) = (cur.toList.take (n * 1)).take (L.length * 1) := by rw [List.take_take, Nat.min_eq_left (by omega)]
  rw [this, h4, List.map_append, Nat.mul_one]
  exact List.take_left' (by simp)

theorem compact_len (l : List Int) : (Lib.compact l).length ≤ l.length := by
  unfold Lib.compact Lib.compactUpTo
  rw [List.length_map]
  exact Nat.le_trans (List.length_filter_le _ _) (by simp)

/-- the library's Compact, of a row of our own -/
theorem compact_own (base : Nat) (v : Value) (F : List Int) (w : World) (hown : w.ownsRow base 3 1 v F.length (F.map (Value.int .i64))) (hsz : F.length ≤ 1000000) (hbase : base ≤ w.heap.size) :
    Calls Tryd.prog 25 #[v] w fun e w' => ∃ v', e = .returned v' ∧ w'.ownsRow base 3 1 v' (Lib.compact F).length ((Lib.compact F).map (Value.int .i64)) ∧ Below base w w' := by
  rcases hown.2 with ⟨rfl, h0⟩ | ⟨g, cap, cur, rfl, hb0, hb, h1, h2, h3, h4⟩
  · have e : F = [] := List.length_eq_zero_iff.1 h0
    subst e
    refine (Tryd.slices_Compact_int_empty none 0 w).mono ?_
    rintro e w' ⟨rfl, rfl⟩
    exact ⟨_, rfl, hown, Below.refl _ _⟩
  · have hg : g < w.heap.size := (Array.getElem?_eq_some_iff.1 hb).1
    refine (Tryd.slices_Compact_int g 0 cap F w (holds_of_blockI hb (by simpa using h4)) (by omega) h1).mono ?_
    rintro e w' ⟨rfl, q, rfl⟩
    have hle := compact_len F
    have hlen : (Lib.compact F ++ List.replicate (F.length - (Lib.compact F).length) 0).length = F.length := by rw [List.length_append, List.length_replicate]; omega
    have := ownsRow_sortedI (w := w) (base := base) (g := g) (cap := cap) (n := q) (e := 3) (os := #[]) (cur := cur) (ss := F) (ts := Lib.compact F ++ List.replicate (F.length - (Lib.compact F).length) 0) hlen hb0 hb h1 h2 h3
    have hb2 : Below base w (grow (putRow (Value.int .i64) (Sort.ahead w q) g 0 (Lib.compact F ++ List.replicate (F.length - (Lib.compact F).length) 0).toArray) #[]) := (Below.refl _ w).grown (grownBy_sortedI _) hbase (fun k hk => by cases hk; exact hb0)
    rw [grow_empty] at this hb2
    exact ⟨_, rfl, own_cut this rfl, hb2⟩

theorem Merge_bad1 (a b : Option Addr) (xs ys : List Int) (ca cb : Nat) (w : World) (ha : Rd w a xs) (hc : M.cutsI xs ≠ 0) :
    Calls Tryd.prog 17 #[.slice a xs.length ca, .slice b ys.length cb] w fun e w' => e = .returned (.tuple #[.slice none 0 0, .iface 41 (.int .i64 (M.cutsI xs))]) ∧ Below w.heap.size w w' := by
  have C := hide (check_any a xs ca w ha)
  rw [err_some hc] at C
  clear ha hc
  generalize M.cutsI xs = c at *
  go_enter Tryd.func17, Tryd.ntmps17
  go_wp2_with (go_at_call 6; refine C.out.mono ?_; rintro e w1 ⟨rfl, hb1⟩)
  go_ret2
  exact ⟨rfl, hb1⟩

theorem Merge_bad2 (a b : Option Addr) (xs ys : List Int) (ca cb : Nat) (w : World) (ha : Rd w a xs) (hb : Rd w b ys) (hc : M.cutsI xs = 0) (hd : M.cutsI ys ≠ 0) :
    Calls Tryd.prog 17 #[.slice a xs.length ca, .slice b ys.length cb] w fun e w' => e = .returned (.tuple #[.slice none 0 0, .iface 41 (.int .i64 (M.cutsI ys))]) ∧ Below w.heap.size w w' := by
  have C := hide (check_any a xs ca w ha)
  rw [err_nil hc] at C
  have D := hide (fun W (hW : Below w.heap.size w W) => check_any b ys cb W (hb.below hW))
  rw [err_some hd] at D
  clear ha hb hc hd
  generalize M.cutsI ys = c at *
  go_enter Tryd.func17, Tryd.ntmps17
  go_wp2_with fail
  refine C.out.mono ?_
  rintro e w1 ⟨rfl, hb1⟩
  go_wp2_with fail
  refine (D.out _ hb1).mono ?_
  rintro e w2 ⟨rfl, hb2⟩
  go_wp2
  go_ret2
  exact ⟨rfl, below_on hb1 hb2⟩

theorem own_mono {w : World} {base base' n : Nat} {v : Value} {l : List Value} (h : w.ownsRow base 3 1 v n l) (hb : base' ≤ base) : w.ownsRow base' 3 1 v n l := by
  refine ⟨h.1, ?_⟩
  rcases h.2 with h0 | ⟨g, cap, cur, hv, h1, h2⟩
  · exact .inl h0
  · exact .inr ⟨g, cap, cur, hv, Nat.le_trans hb h1, h2⟩

theorem two_cells (w : World) (a b : Value) (t : TypeId) : (w.alloc (.cells #[a, b] t)).cell? ⟨w.heap.size, 0, none⟩ = some a ∧ (w.alloc (.cells #[a, b] t)).cell? ⟨w.heap.size, 1, none⟩ = some b := by
  constructor
  · rw [World.cell?_alloc_at _ _ _ _ (by simp)]; rfl
  · rw [World.cell?_alloc_at _ _ _ _ (by simp)]; rfl

set_option maxHeartbeats 2000000 in
/-- both are right -/
theorem Merge_core (a b : Option Addr) (xs ys : List Int) (ca cb : Nat) (w : World) (ha : Rd w a xs) (hb : Rd w b ys) (na : a = none → ca = 0) (nb : b = none → cb = 0) (hc : M.cutsI xs = 0) (hd : M.cutsI ys = 0) :
    Calls Tryd.prog 17 #[.slice a xs.length ca, .slice b ys.length cb] w fun e w' => Below w.heap.size w w' ∧
      ((60 < (M.mergeI xs ys).length ∧ e = .returned (.tuple #[.slice none 0 0, .iface 41 (.int .i64 4)])) ∨
       ((M.mergeI xs ys).length ≤ 60 ∧ ∃ v, e = .returned (.tuple #[v, .nilIface]) ∧ w'.ownsRow w.heap.size 3 1 v (M.mergeI xs ys).length ((M.mergeI xs ys).map (Value.int .i64)))) := by
  have C := hide (check_any a xs ca w ha)
  rw [err_nil hc] at C
  have D := hide (fun W (hW : Below w.heap.size w W) => check_any b ys cb W (hb.below hW))
  rw [err_nil hd] at D
  have la : xs.length ≤ 60 := ((M.cuts_ok xs).1 hc).1
  have lb : ys.length ≤ 60 := ((M.cuts_ok ys).1 hd).1
  have CC := hide (fun W (hW : Below w.heap.size w W) => concat_two W.heap.size a b xs ys ca cb (W.alloc (.cells #[.slice a xs.length ca, .slice b ys.length cb] 22)) (by simp)
    (two_cells W _ _ _).1 (two_cells W _ _ _).2 (ha.below (hW.alloc hW.size _)) (hb.below (hW.alloc hW.size _)) na nb (by omega) (by omega))
  have ML := hide (M.merge_le xs ys)
  have hall : (xs ++ ys).length ≤ 120 := by rw [List.length_append]; omega
  have ED : Hid (Lib.compact (M.sortI (xs ++ ys)) = M.mergeI xs ys) := rfl
  clear ha hb na nb hc hd
  generalize M.mergeI xs ys = m at *
  generalize xs ++ ys = al at *
  go_enter Tryd.func17, Tryd.ntmps17
  go_wp2_with fail
  refine C.out.mono ?_
  rintro e w1 ⟨rfl, hb1⟩
  go_wp2_with fail
  refine (D.out _ hb1).mono ?_
  rintro e w2 ⟨rfl, hb2⟩
  have hb2' := below_on hb1 hb2
  go_wp2_with fail
  refine (CC.out w2 hb2').mono ?_
  rintro e w3 ⟨v, rfl, hown, hb3⟩
  have hb3' : Below w.heap.size w w3 := below_on (hb2'.alloc hb2'.size _) hb3
  have SO := hide (sort_own w.heap.size v al w3 (own_mono hown (by have := hb2'.size; simp; omega)) (by omega) hb3'.size)
  clear hown CC C D hb3
  go_wp2_with (go_at_call 22; refine SO.out.mono ?_; rintro e w4 ⟨rfl, hown4, hb4⟩)
  have hb4' := hb3'.trans hb4
  have CO := hide (compact_own w.heap.size v (M.sortI al) w4 (by rw [M.sort_length]; exact hown4) (by rw [M.sort_length]; omega) hb4'.size)
  rw [ED.out] at CO
  clear hown4 SO ED
  have hml : m.length ≤ 120 := by have := ML.out; omega
  by_cases h60 : 60 < m.length
  · have hdd : decide ((60 : Int) < (m.length : Int)) = true := by simp; omega
    go_wp2_with (go_at_call 25; refine CO.out.mono ?_; rintro e w5 ⟨v5, rfl, hown5, hb5⟩; obtain ⟨a5, c5, rfl, hr5, hc5⟩ := own_rd hown5; have HO := hide hown5; clear hown5 hr5)
    go_ret2
    exact ⟨hb4'.trans hb5, .inl ⟨h60, rfl⟩⟩
  · have hdd : decide ((60 : Int) < (m.length : Int)) = false := by simp; omega
    go_wp2_with (go_at_call 25; refine CO.out.mono ?_; rintro e w5 ⟨v5, rfl, hown5, hb5⟩; obtain ⟨a5, c5, rfl, hr5, hc5⟩ := own_rd hown5; have HO := hide hown5; clear hown5 hr5)
    go_ret2
    exact ⟨hb4'.trans hb5, .inr ⟨by omega, _, rfl, HO.out⟩⟩

end Go.Proofs.YtpobjlcgamcoiaaDoor
