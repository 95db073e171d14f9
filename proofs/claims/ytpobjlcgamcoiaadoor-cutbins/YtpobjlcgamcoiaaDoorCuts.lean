/-
  What package cut's Cuts answers, for every list and every number of cuts.
-/
import Derived.Test.YtpobjlcgamcoiaaDoorVals
namespace Go.Proofs.YtpobjlcgamcoiaaDoor
open Go.ChangeShapes Go.WideShapes Go.ChangeAt Go.RowKit Go.Shelf Go.Lib Go.Sort
set_option linter.unusedVariables false

theorem Cuts_many (a : Option Addr) (xs : List Int) (ca : Nat) (m : Int) (w : World) (hm : m < 1 ∨ 60 < m) :
    Calls Tryd.prog 9 #[.slice a xs.length ca, .int .i64 m] w fun e w' => e = .returned (.tuple #[.slice none 0 0, .iface 41 (.int .i64 1)]) ∧ w' = w := by
  rcases hm with h | h
  · have h1 : decide (m < 1) = true := decide_eq_true h
    clear h
    go_enter Tryd.func9, Tryd.ntmps9
    go_wp2
    go_ret2
    exact ⟨rfl, rfl⟩
  · have h1 : decide (m < 1) = false := decide_eq_false (by omega)
    have h2 : decide (60 < m) = true := decide_eq_true h
    clear h
    go_enter Tryd.func9, Tryd.ntmps9
    go_wp2
    go_ret2
    exact ⟨rfl, rfl⟩

theorem Cuts_bad (a : Option Addr) (xs : List Int) (ca : Nat) (m : Int) (w : World) (ha : Rd w a xs) (hm1 : 1 ≤ m) (hm : m ≤ 60) (hv : M.valsI xs ≠ 0) :
    Calls Tryd.prog 9 #[.slice a xs.length ca, .int .i64 m] w fun e w' => e = .returned (.tuple #[.slice none 0 0, .iface 41 (.int .i64 (M.valsI xs))]) ∧ Below w.heap.size w w' := by
  have C := hide (vals_any a xs ca w ha)
  rw [err_some hv] at C
  have h1 : decide (m < 1) = false := decide_eq_false (by omega)
  have h2 : decide (60 < m) = false := decide_eq_false (by omega)
  clear ha hv hm1 hm
  generalize M.valsI xs = c at *
  go_enter Tryd.func9, Tryd.ntmps9
  go_wp2_with (go_at_call 20; refine C.out.mono ?_; rintro e w1 ⟨rfl, hb1⟩)
  go_ret2
  exact ⟨rfl, hb1⟩

theorem Cuts_none (a : Option Addr) (ca : Nat) (m : Int) (w : World) (ha : Rd w a []) (hm1 : 1 ≤ m) (hm : m ≤ 60) :
    Calls Tryd.prog 9 #[.slice a 0 ca, .int .i64 m] w fun e w' => e = .returned (.tuple #[.slice none 0 0, .nilIface]) ∧ Below w.heap.size w w' := by
  have C := hide (vals_any a [] ca w ha)
  rw [err_nil (show M.valsI [] = 0 from rfl)] at C
  have h1 : decide (m < 1) = false := decide_eq_false (by omega)
  have h2 : decide (60 < m) = false := decide_eq_false (by omega)
  clear ha hm1 hm
  go_enter Tryd.func9, Tryd.ntmps9
  go_wp2_with (go_at_call 20; refine C.out.mono ?_; rintro e w1 ⟨rfl, hb1⟩)
  go_ret2
  exact ⟨rfl, hb1⟩

theorem sort_at (xs : List Int) (j : Nat) (h : j < (M.sortI xs).length) : (M.sortI xs)[j] = (M.sortI xs).getD j 0 := by
  rw [List.getD, List.getElem?_eq_getElem h]; rfl

set_option maxHeartbeats 4000000 in
set_option maxRecDepth 10000 in
theorem Cuts_ok (b off : Nat) (xs : List Int) (ca m : Nat) (w : World) (hb : b < w.heap.size) (hc : ∀ i, i < xs.length → w.cell? ⟨b, off + i, none⟩ = some (.int .i64 (xs.getD i 0)))
    (hp : 0 < xs.length) (hm1 : 1 ≤ m) (hm : m ≤ 60) (hv : M.valsI xs = 0) :
    Calls Tryd.prog 9 #[.slice (some ⟨b, off, none⟩) xs.length ca, .int .i64 m] w fun e w' => ∃ v, e = .returned (.tuple #[v, .nilIface]) ∧
      w'.ownsRow w.heap.size 3 1 v (M.cutsOfI xs m).length ((M.cutsOfI xs m).map (Value.int .i64)) ∧ Below w.heap.size w w' := by
  have hx : xs ≠ [] := List.length_pos_iff.1 hp
  have hl : xs.length ≤ 1000 := ((M.vals_ok xs).1 hv).1
  have hR : Rd w (some ⟨b, off, none⟩) xs := ⟨by unfold maxLen; omega, fun _ => ⟨b, off, rfl, hb, hc⟩⟩
  have C := hide (vals_any (some ⟨b, off, none⟩) xs ca w hR)
  rw [err_nil hv] at C
  have CL := hide (fun W (hW : Below w.heap.size w W) => Tryd.slices_Clone_int b off xs.length ca xs W (Nat.le_refl _) (by omega) (fun j hj => (hW.cell (p := ⟨b, off + j, none⟩) hb).trans (hc j hj)))
  rw [List.take_length] at CL
  have h1 : decide ((m : Int) < 1) = false := decide_eq_false (by omega)
  have h2 : decide ((60 : Int) < (m : Int)) = false := decide_eq_false (by omega)
  have h3 : ((xs.length : Int) == 0) = false := by rw [beq_eq_false_iff_ne]; omega
  clear hR hv hc hx
  go_enter Tryd.func9, Tryd.ntmps9
  go_wp2_with (go_at_call 20; refine C.out.mono ?_; rintro e w1 ⟨rfl, hb1⟩)
  refine (CL.out w1 hb1).mono ?_
  rintro e w2 ⟨v, rfl, hown, _, hb2⟩
  obtain ⟨g, cg, rfl, hg1, hg2⟩ := own_shape hown hp
  have hb2' := below_on hb1 hb2
  have SO := hide (sort_own w.heap.size (.slice (some ⟨g, 0, none⟩) xs.length cg) xs w2 (own_mono hown hb1.size) (by omega) hb2'.size)
  clear hown C CL
  have hgw : w.heap.size ≤ g := Nat.le_trans hb1.size hg1
  go_wp2_with (go_at_call 22; refine SO.out.mono ?_; rintro e w3 ⟨rfl, hown3, hb3⟩; have hc0 := own_at hown3 (M.sort_length xs) 0 (by rw [M.sort_length]; exact hp); rw [sort_at xs 0 (by rw [M.sort_length]; exact hp)] at hc0; generalize h0 : (M.sortI xs).getD 0 0 = s0 at hc0; have H0 := hide h0; clear h0)
  have CS : Hid (∀ W, Below w3.heap.size w3 W → ∀ j, j < xs.length → W.cell? ⟨g, j, none⟩ = some (.int .i64 ((M.sortI xs).getD j 0))) := fun W hW j hj => by
    have hg3 : g < w3.heap.size := Nat.lt_of_lt_of_le hg2 hb3.size
    rw [(hW.cell (p := ⟨g, j, none⟩) hg3), own_at hown3 (M.sort_length xs) j (by rw [M.sort_length]; exact hj), sort_at]
  have hb3' := hb2'.trans hb3
  have SL := hide (M.sort_length xs)
  have ED : Hid ((M.stepI (M.sortI xs) m m).1 = M.cutsOfI xs m) := rfl
  clear hown3 hb3 hc0 SO hb2' hb1 hb2 hg1 hg2
  generalize M.sortI xs = S at *
  go_loopw [8, 9, 10] (fun v l i wr => ∃ k : Nat, k ≤ m ∧ i = .int .i64 ((k : Int) + 1) ∧ l = .int .i64 (M.stepI S m k).2 ∧ wr.ownsRow w3.heap.size 3 1 v (M.stepI S m k).1.length ((M.stepI S m k).1.map (Value.int .i64)) ∧ Below w3.heap.size w3 wr) (fun _ _ i _ => m + 1 - (intOf i).toNat)
  case atStart => exact ⟨0, Nat.zero_le _, rfl, by rw [← H0.out]; rfl, World.ownsRow_nil _ _ _ _, Below.refl _ _⟩
  case round =>
    obtain ⟨k, hk, rfl, rfl, hown, hbl⟩ := hrel
    by_cases hlt : k < m
    · have hcp := CS.out wr hbl ((k + 1) * xs.length / (m + 1)) (M.place_lt xs.length m k hp hlt)
      have g1 : ((k : Int) + 1) * (xs.length : Int) ≤ 60000 := by
        have : ((k : Int) + 1) * (xs.length : Int) ≤ 60 * 1000 := Int.mul_le_mul (by omega) (by omega) (by omega) (by omega)
        omega
      have g0 : 0 ≤ ((k : Int) + 1) * (xs.length : Int) := Int.mul_nonneg (by omega) (by omega)
      have qe : ((((k + 1) * xs.length / (m + 1) : Nat)) : Int) = ((k : Int) + 1) * (xs.length : Int) / ((m : Int) + 1) := by simp
      have q0 : 0 ≤ ((k : Int) + 1) * (xs.length : Int) / ((m : Int) + 1) := by rw [← qe]; exact Int.natCast_nonneg _
      have q1 : ((k : Int) + 1) * (xs.length : Int) / ((m : Int) + 1) < (xs.length : Int) := by rw [← qe]; exact Int.ofNat_lt.2 (M.place_lt xs.length m k hp hlt)
      clear qe
      have PU := M.step_push S m k
      have ST : ¬ (M.stepI S m k).2 < S.getD ((k + 1) * S.length / (m + 1)) 0 → (M.stepI S m (k + 1)).1 = (M.stepI S m k).1 ∧ (M.stepI S m (k + 1)).2 = (M.stepI S m k).2 := fun h => by rw [M.step_stay S m k h]; exact ⟨rfl, rfl⟩
      rw [SL.out] at PU ST
      have LE := M.step_len S m k
      generalize S.getD ((k + 1) * xs.length / (m + 1)) 0 = y at *
      generalize (M.stepI S m k).2 = z at *
      generalize (M.stepI S m k).1 = L at *
      have HO := hide hown
      clear hown
      by_cases hgt : z < y
      · have hd : decide (z < y) = true := decide_eq_true hgt
        have E := hide (PU hgt)
        clear PU ST hgt
        go_wp2_with (at_builtin; refine wpList_append_rd rfl (.tmp 52) (.tmp 54) rfl w3.heap.size _ L.length L rfl (HO.out.alloc _) (some ⟨wr.heap.size, 0, none⟩) [y] 1 rfl (one_rd wr y 3) (fun h => by cases h) (by show L.length + 1 ≤ 1000000; omega) (by have := hbl.size; simp; omega) ?_)
        intro v' w4 hown' hb4
        have HO4 := hide hown'
        clear hown'
        go_wp2
        go_roundw
        case rel => exact ⟨k + 1, by omega, by go_num, by rw [E.out], by rw [E.out]; simpa using HO4.out, (hbl.alloc hbl.size _).trans hb4⟩
        case measure => simp [intOf]; omega
      · have hd : decide (z < y) = false := decide_eq_false hgt
        have E := hide (ST hgt)
        clear PU ST hgt
        go_wp2
        go_roundw
        case rel => exact ⟨k + 1, by omega, by go_num, by rw [E.out.2], by rw [E.out.1]; exact HO.out, hbl⟩
        case measure => simp [intOf]; omega
    · have hke : k = m := by omega
      subst hke
      have hd : decide ((k : Int) + 1 ≤ (k : Int)) = false := decide_eq_false (by omega)
      have HO := hide hown
      rw [ED.out] at HO
      clear hown
      go_wp2
      go_ret2
      exact ⟨_, rfl, own_mono HO.out hb3'.size, below_on hb3' hbl⟩

end Go.Proofs.YtpobjlcgamcoiaaDoor
