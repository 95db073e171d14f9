/-
  What package orchref1's CutsOf answers, for every list of at most a thousand and from 1 to 60 cuts.
-/
import Derived.Test.YtpobjlcgamcoiaaDoorRefs
import Derived.Test.YtpobjlcgamcoiaaDoorSorted
import Derived.Test.YtpobjlcgamcoiaaDoorMathW
import Derived.Test.YtpobjlcgamcoiaaDoorMerge
namespace Go.Proofs.YtpobjlcgamcoiaaDoor
open Go.ChangeShapes Go.WideShapes Go.ChangeAt Go.RowKit
set_option linter.unusedVariables false

theorem cutsOf_nil (m : Nat) : M.cutsOfI [] m = [] := by
  have : ∀ k, M.stepI (M.sortI []) m k = ([], 0) := by
    intro k
    have e : M.sortI [] = [] := by simp [M.sortI]
    rw [e]
    induction k with
    | zero => rfl
    | succ k ih => rw [M.step_stay _ _ _ (by rw [ih]; simp)]; exact ih
  unfold M.cutsOfI
  rw [this]

set_option maxHeartbeats 1000000 in
theorem rcutsof_none (a : Option Addr) (ca m : Nat) (w : World) (na : a = none → ca = 0) (hm1 : 1 ≤ m) (hm : m ≤ 60) :
    Calls Tryd.prog 8 #[.slice a 0 ca, .int .i64 m] w fun e w' => e = .returned (.slice none 0 0) ∧ Below w.heap.size w w' := by
  have SN := hide (sorted_none a ca w na)
  have h1 : decide ((1 : Int) ≤ (m : Int)) = true := decide_eq_true (by omega)
  clear na
  go_enter Tryd.func8, Tryd.ntmps8
  go_wp2_with (go_at_call 16; refine SN.out.mono ?_; rintro e w1 ⟨a', c', rfl, hb⟩)
  refine wp_loop_rounds 1 ?_
  rw [rounds_succ]
  go_wp2
  go_ret
  exact ⟨rfl, hb⟩

theorem own_last {w : World} {base : Nat} {v : Value} {L : List Int} {z : Int} (h : w.ownsRow base 3 1 v (L ++ [z]).length ((L ++ [z]).map (Value.int .i64))) :
    ∃ g cap, v = .slice (some ⟨g, 0, none⟩) (L.length + 1) cap ∧ w.cell? ⟨g, L.length, none⟩ = some (.int .i64 z) := by
  obtain ⟨g, cap, rfl, _, _⟩ := own_shape h (by simp)
  refine ⟨g, cap, by simp, ?_⟩
  rw [own_at h rfl L.length (by simp)]
  simp

set_option maxHeartbeats 4000000 in
set_option maxRecDepth 10000 in
theorem rcutsof_some (b off : Nat) (xs : List Int) (ca m : Nat) (w : World) (hb : b < w.heap.size) (hc : ∀ i, i < xs.length → w.cell? ⟨b, off + i, none⟩ = some (.int .i64 (xs.getD i 0)))
    (hp : 0 < xs.length) (hl : xs.length ≤ 1000) (hm1 : 1 ≤ m) (hm : m ≤ 60) :
    Calls Tryd.prog 8 #[.slice (some ⟨b, off, none⟩) xs.length ca, .int .i64 m] w fun e w' => ∃ v, e = .returned v ∧
      w'.ownsRow w.heap.size 3 1 v (M.cutsOfI xs m).length ((M.cutsOfI xs m).map (Value.int .i64)) ∧ Below w.heap.size w w' := by
  have SS := hide (sorted_some b off xs ca w hp (by omega) hb hc)
  clear hc
  go_enter Tryd.func8, Tryd.ntmps8
  go_wp2_with (go_at_call 16; refine SS.out.mono ?_; rintro e w3 ⟨g, cg, rfl, hg1, hg2, hown3, hb3'⟩)
  have CS : Hid (∀ W, Below w3.heap.size w3 W → ∀ j, j < xs.length → W.cell? ⟨g, j, none⟩ = some (.int .i64 ((M.sortI xs).getD j 0))) := fun W hW j hj => by
    rw [(hW.cell (p := ⟨g, j, none⟩) hg2), own_at hown3 (M.sort_length xs) j (by rw [M.sort_length]; exact hj), List.getD, List.getElem?_eq_getElem (by rw [M.sort_length]; exact hj)]
    rfl
  have SL := hide (M.sort_length xs)
  have SP := hide (M.sort_pw xs)
  have ED : Hid ((M.stepI (M.sortI xs) m m).1 = M.cutsOfI xs m) := rfl
  clear hown3 SS
  generalize M.sortI xs = S at *
  go_loopw [6, 7] (fun v i wr => ∃ k : Nat, k ≤ m ∧ i = .int .i64 ((k : Int) + 1) ∧ wr.ownsRow w3.heap.size 3 1 v (M.stepI S m k).1.length ((M.stepI S m k).1.map (Value.int .i64)) ∧ Below w3.heap.size w3 wr) (fun _ i _ => m + 1 - (intOf i).toNat)
  case atStart => exact ⟨0, Nat.zero_le _, rfl, World.ownsRow_nil _ _ _ _, Below.refl _ _⟩
  case round =>
    obtain ⟨k, hk, rfl, hown, hbl⟩ := hrel
    by_cases hlt : k < m
    · have hcp := CS.out wr hbl ((k + 1) * xs.length / (m + 1)) (M.place_lt xs.length m k hp hlt)
      have hc0 := CS.out wr hbl 0 hp
      have hdm : decide ((k : Int) + 1 ≤ (m : Int)) = true := decide_eq_true (by omega)
      have g1 : ((k : Int) + 1) * (xs.length : Int) ≤ 60000 := by
        have : ((k : Int) + 1) * (xs.length : Int) ≤ 60 * 1000 := Int.mul_le_mul (by omega) (by omega) (by omega) (by omega)
        omega
      have g0 : 0 ≤ ((k : Int) + 1) * (xs.length : Int) := Int.mul_nonneg (by omega) (by omega)
      have qe : ((((k + 1) * xs.length / (m + 1) : Nat)) : Int) = ((k : Int) + 1) * (xs.length : Int) / ((m : Int) + 1) := by simp
      have q0 : 0 ≤ ((k : Int) + 1) * (xs.length : Int) / ((m : Int) + 1) := by rw [← qe]; exact Int.natCast_nonneg _
      have q1 : ((k : Int) + 1) * (xs.length : Int) / ((m : Int) + 1) < (xs.length : Int) := by rw [← qe]; exact Int.ofNat_lt.2 (M.place_lt xs.length m k hp hlt)
      clear qe
      have PU := M.step_push S m k
      have ST : ¬ (M.stepI S m k).2 < S.getD ((k + 1) * S.length / (m + 1)) 0 → (M.stepI S m (k + 1)).1 = (M.stepI S m k).1 := fun h => by rw [M.step_stay S m k h]
      have LL := M.step_last S m k
      have LE := M.step_le S m k SP.out (by rw [SL.out]; exact hp) hlt
      have L0 := M.step_least S m k (by rw [SL.out]; exact hp) hk
      have LN := M.step_len S m k
      rw [SL.out] at PU ST LE
      generalize S.getD ((k + 1) * xs.length / (m + 1)) 0 = y at *
      generalize S.getD 0 0 = s0 at *
      generalize (M.stepI S m k).2 = z at *
      generalize (M.stepI S m k).1 = L at *
      have HO := hide hown
      clear hown
      by_cases hy0 : y = s0
      · have E := hide (ST (by omega))
        have t0 : (y == s0) = true := by rw [beq_iff_eq]; exact hy0
        clear PU ST hy0 LL LE L0
        go_wp2
        go_roundw
        case rel => exact ⟨k + 1, by omega, by go_num, by rw [E.out]; exact HO.out, hbl⟩
        case measure => simp [intOf]; omega
      · have t0 : (y == s0) = false := by rw [beq_eq_false_iff_ne]; exact hy0
        rcases LL with ⟨hL, hz⟩ | ⟨L', hL⟩
        · subst hL
          have E := hide (PU (by omega))
          clear PU ST hy0 hz LE L0
          obtain ⟨a6, c6, rfl, _, _⟩ := own_rd (F := []) HO.out
          go_wp2_with (at_builtin; refine wpList_append_rd rfl (.tmp 50) (.tmp 52) rfl w3.heap.size _ 0 [] rfl (HO.out.alloc _) (some ⟨wr.heap.size, 0, none⟩) [y] 1 rfl (one_rd wr y 3) (fun h => by cases h) (by simp) (by have := hbl.size; simp; omega) ?_)
          intro v' w4 hown' hb4
          have HO4 := hide hown'
          clear hown'
          go_wp2
          go_roundw
          case rel => exact ⟨k + 1, by omega, by go_num, by rw [E.out]; simpa using HO4.out, (hbl.alloc hbl.size _).trans hb4⟩
          case measure => simp [intOf]; omega
        · subst hL
          obtain ⟨g6, c6, rfl, hlast⟩ := own_last HO.out
          by_cases hyz : z = y
          · have E := hide (ST (by omega))
            have t1 : (z == y) = true := by rw [beq_iff_eq]; exact hyz
            clear PU ST hy0 LE L0 hyz
            have LN' : L'.length + 1 ≤ k := by simpa using LN
            have t2 : decide ((0 : Int) < (L'.length : Int) + 1) = true := decide_eq_true (by omega)
            go_wp2
            go_roundw
            case rel => exact ⟨k + 1, by omega, by go_num, by rw [E.out]; exact HO.out, hbl⟩
            case measure => simp [intOf]; omega
          · have E := hide (PU (by omega))
            have t1 : (z == y) = false := by rw [beq_eq_false_iff_ne]; exact hyz
            clear PU ST hy0 LE L0 hyz
            have LN' : L'.length + 1 ≤ k := by simpa using LN
            have t2 : decide ((0 : Int) < (L'.length : Int) + 1) = true := decide_eq_true (by omega)
            have HO' : Hid (wr.ownsRow w3.heap.size 3 1 (.slice (some ⟨g6, 0, none⟩) (L'.length + 1) c6) (L'.length + 1) ((L' ++ [z]).map (Value.int .i64))) := by have := HO.out; rw [List.length_append] at this; exact this
            clear HO
            go_wp2_with (at_builtin; refine wpList_append_rd rfl (.tmp 50) (.tmp 52) rfl w3.heap.size _ (L'.length + 1) (L' ++ [z]) rfl (HO'.out.alloc _) (some ⟨wr.heap.size, 0, none⟩) [y] 1 rfl (one_rd wr y 3) (fun h => by cases h) (by show L'.length + 1 + 1 ≤ 1000000; omega) (by have := hbl.size; simp; omega) ?_)
            intro v' w4 hown' hb4
            have HO4 := hide hown'
            clear hown'
            go_wp2
            go_roundw
            case rel => exact ⟨k + 1, by omega, by go_num, by rw [E.out]; simpa using HO4.out, (hbl.alloc hbl.size _).trans hb4⟩
            case measure => simp [intOf]; omega
    · have hke : k = m := by omega
      subst hke
      have hd : decide ((k : Int) + 1 ≤ (k : Int)) = false := decide_eq_false (by omega)
      have HO := hide hown
      rw [ED.out] at HO
      clear hown
      go_wp2
      go_ret
      exact ⟨_, rfl, own_mono HO.out hb3'.size, below_on hb3' hbl⟩

end Go.Proofs.YtpobjlcgamcoiaaDoor
