/-
  What package path's wayTo answers, for every place of a list of nodes.
-/
import Derived.Test.YthbeoaninipadafNodes
import Derived.Test.YthbeoaninipadafLMathB
import Derived.Test.YthbeoaninipadafShelf
import Derived.Deep.AppendLies
import Derived.Lib.LazyBuf
namespace Go.Proofs.Ythbeoaninipadaf
open Go.ChangeShapes Go.WideShapes Go.ChangeAt Go.RowKit Go.Lib
set_option linter.unusedVariables false

/-- a row of our own, turned round -/
theorem reverse_own {w W : World} {L : List Int} {v : Value} (h : W.ownsRow w.heap.size 3 1 v L.length (L.map (Value.int .i64))) (hb : Below w.heap.size w W) (hL : L.length ≤ 9223372036854775807) (hp : 0 < L.length) :
    Calls Try.prog 51 #[v] W fun e w' => e = .returned (.tuple #[]) ∧ (∃ a cap, v = .slice a L.length cap ∧ L.length ≤ cap ∧ (∀ b o, a = some ⟨b, o, none⟩ → w.heap.size ≤ b) ∧ Rd w' a L.reverse) ∧ Below w.heap.size w w' := by
  obtain ⟨g, cap, rfl, hg, hlt⟩ := own_shape h hp
  have hcap : L.length ≤ cap := by
    obtain ⟨a, c, e, _, hq⟩ := own_rd h
    cases e
    exact hq
  have hc : ∀ j, j < L.length → W.cell? ⟨g, 0 + j, none⟩ = some (.int .i64 (L.getD j 0)) := fun j hj => by
    rw [Nat.zero_add, own_at h rfl j hj]; simp [List.getD, List.getElem?_eq_getElem hj]
  have hf : ∀ j, j < L.length → W.frozen? ⟨g, 0 + j, none⟩ = false := fun j hj => h.frozenAt (0 + j)
  refine (Try.slices_Reverse_int_cells g 0 L.length cap L W (Nat.le_refl _) hL hc hf).mono ?_
  rintro e w' ⟨rfl, q, rfl⟩
  refine ⟨rfl, ⟨_, cap, rfl, hcap, fun b o e => by cases e; exact hg, ⟨by rw [List.length_reverse]; exact (own_rd h).choose_spec.choose_spec.2.1.1, fun _ => ⟨g, 0, rfl, ?_, fun i hi => ?_⟩⟩⟩, ?_⟩
  · exact Nat.lt_of_lt_of_le hlt (below_setCells (B := g) (b := g) (a := W) (Nat.le_refl _) ((L.take L.length).reverse.map (Value.int .i64)) 0 (W.drewN q) (below_drew (Below.refl g W) q (Nat.le_of_lt hlt))).size
  · have hi' : i < L.length := by simpa using hi
    have := World.cell?_setCells_in g ((L.take L.length).reverse.map (Value.int .i64)) 0 (W.drewN q) (fun j hj => by
      have hj' : j < L.length := by simpa using hj
      have := hc j hj'
      have e : (W.drewN q).cell? ⟨g, 0 + j, none⟩ = W.cell? ⟨g, 0 + j, none⟩ := rfl
      rw [e, this]; rfl) i (by simpa using hi')
    rw [this]
    simp [List.getD, List.getElem?_eq_getElem hi]
  · exact below_setCells hg _ _ _ (below_drew hb q hb.size)

theorem M.wayN_rev {t : List M.Nd} {k : Nat} {L : List Nat} (h : L = M.upW t k) : (L.map Int.ofNat).reverse = M.wayN t k := by rw [h]; unfold M.wayN; rw [List.map_reverse]

set_option maxHeartbeats 8000000 in
set_option maxRecDepth 10000 in
theorem wayto_any (a0 : Option Addr) (ts : List M.Nd) (ca k : Nat) (w : World) (ht : RdN w a0 ts) (l63 : ts.length ≤ 63) (hk : k < ts.length) :
    Calls Try.prog 30 #[.slice a0 ts.length ca, .int .i64 k] w fun e w' => ∃ ag cg, e = .returned (.slice ag (M.wayN ts k).length cg) ∧ (M.wayN ts k).length ≤ cg ∧ (∀ b o, ag = some ⟨b, o, none⟩ → w.heap.size ≤ b) ∧ Rd w' ag (M.wayN ts k) ∧ Below w.heap.size w w' := by
  have HT := hide ht
  obtain ⟨i0, hi, hz0, hz1, hz2⟩ := info_parts info3
  have I0 := hide hi
  have O0 : Hid ((w.alloc (.cells #[.int .i64 k] 3)).ownsRow w.heap.size 3 1 (.slice (some ⟨w.heap.size, 0, none⟩) 1 1) 1 (([k].map Int.ofNat).map (Value.int .i64))) := by
    have := World.ownsRow_lit (base := w.heap.size) (e := 3) (size := 1) w #[.int .i64 k] 1 (Nat.le_refl _) (by unfold maxLen; omega) (by simp)
    exact this
  have UL := hide (M.upW_len ts k)
  have WN : Hid (∀ L : List Nat, L = M.upW ts k → (L.map Int.ofNat).reverse = M.wayN ts k) := fun L h => M.wayN_rev h
  clear ht hi
  generalize M.wayN ts k = V at *
  go_enter Try.func30, Try.ntmps30
  go_wp2
  go_loopw [1, 5, 6] (fun nv v i wr => ∃ (n q : Nat) (L : List Nat) (X : List Int), Hid (X = L.map Int.ofNat) ∧ q ≤ k ∧ nv = .int .i64 n ∧ i = .int .i64 ((q : Int) - 1) ∧ 0 < L.length ∧ Hid (L ++ M.upD ts n q = M.upW ts k) ∧ wr.ownsRow w.heap.size 3 1 v X.length (X.map (Value.int .i64)) ∧ Below w.heap.size w wr) (fun _ _ i _ => ((intOf i) + 1).toNat)
  case atStart => exact ⟨k, k, [k], [k].map Int.ofNat, rfl, Nat.le_refl _, rfl, rfl, by simp, rfl, O0.out, (Below.refl _ w).alloc (Nat.le_refl _) _⟩
  case round =>
    clear O0
    obtain ⟨n, q, L, X, HX, hq, rfl, rfl, hL0, I, hown, hbl⟩ := hrel
    have L64 : L.length ≤ 63 := by
      have e := congrArg List.length I.out
      rw [List.length_append] at e
      have := UL.out
      omega
    have LM : Hid (X.length = L.length) := by unfold Hid; rw [HX.out]; simp
    have X64 : X.length ≤ 63 := by rw [LM.out]; exact L64
    rcases q with _ | j
    · have E : Hid (X.reverse = V) := by
        unfold Hid
        rw [HX.out]
        apply WN.out
        have := I.out
        rw [M.upD_zero, List.append_nil] at this
        exact this
      have R := hide (reverse_own hown hbl (by omega) (by rw [LM.out]; omega))
      rw [show ((0 : Nat) : Int) - 1 = -1 by rfl]
      clear hown I UL WN
      go_wp2_with (go_at_call 51; refine R.out.mono ?_; rintro e w1 ⟨rfl, ex, hb1⟩; have EX := hide ex; clear ex)
      go_ret
      obtain ⟨ag, cg, rfl, hcg, hnew, hrd⟩ := EX.out
      rw [E.out] at hrd
      have ln : V.length = X.length := by rw [← E.out]; simp
      exact ⟨ag, cg, by rw [ln]; rfl, by rw [ln]; exact hcg, hnew, hrd, hb1⟩
    · have hlt : j < ts.length := by omega
      obtain ⟨b1, off, rfl, hb1, hc⟩ := HT.out.2 (by intro e; subst e; simp at hlt)
      obtain ⟨s0, s1, s2, s3, s4, s5⟩ := (hc j hlt).below hbl hb1
      have kw := hbl.size
      obtain ⟨va, vc, rfl, RV, _⟩ := own_rd hown
      have HO := hide hown
      clear RV
      rw [show ((j + 1 : Nat) : Int) - 1 = (j : Int) by omega]
      by_cases hy : M.nl (M.nAt ts j) = (n : Int) ∨ M.nr (M.nAt ts j) = (n : Int)
      · have N : Hid ((L ++ [j]) ++ M.upD ts j j = M.upW ts k) := by
          unfold Hid; rw [← I.out, M.upD_yes hy]; simp
        have IM : Hid (X ++ [(j : Int)] = (L ++ [j]).map Int.ofNat) := by
          unfold Hid; rw [HX.out]; simp
        by_cases hl : M.nl (M.nAt ts j) = (n : Int)
        · have q1 : (M.nl (M.nAt ts j) == (n : Int)) = true := by rw [beq_iff_eq]; exact hl
          clear hl
          clear hc hown I hy UL WN
          generalize M.nl (M.nAt ts j) = l at *
          generalize M.nr (M.nAt ts j) = r at *
          go_wp2_with (at_builtin; refine wpList_append_lies _ rfl (.tmp 31) (.tmp 33) 23 rfl w.heap.size 3 i0 (.int .i64 0) 1 8 Try.underlying23 I0.out hz0 hz1 hz2 rfl (by omega) (.slice va X.length vc) X.length (X.map (Value.int .i64)) rfl (HO.out.alloc _) ⟨wr.heap.size, 0, none⟩ 1 1 [.int .i64 (j : Int)] rfl rfl (World.news_of_block (heap_alloc_new _ _)) (by simp [Value.oneCell']) (by omega) (by unfold maxLen; omega) (by omega) (by simp; omega) (wr.heap.size + 1) (by simp) ?_)
          intro g cap w5 hov5 hgrow hat hlt5
          have hb5 : Below w.heap.size w w5 := (hbl.alloc hbl.size _).grown hgrow (by simp; omega) (fun k hk => (HO.out.lt k hk).1)
          have HO5 : Hid (w5.ownsRow w.heap.size 3 1 (.slice (some ⟨g, 0, none⟩) (X.length + 1) cap) (X ++ [(j : Int)]).length ((X ++ [(j : Int)]).map (Value.int .i64))) := by
            unfold Hid; rw [List.map_append, List.length_append]; exact hov5
          clear hov5 hgrow hat
          go_wp2
          go_roundw
          case rel => exact ⟨j, j, L ++ [j], X ++ [(j : Int)], IM, by omega, rfl, rfl, by simp, N, HO5.out, hb5⟩
          case measure => simp [intOf]
        · have q1 : (M.nl (M.nAt ts j) == (n : Int)) = false := by rw [beq_eq_false_iff_ne]; exact hl
          have q2 : (M.nr (M.nAt ts j) == (n : Int)) = true := by rw [beq_iff_eq]; exact hy.resolve_left hl
          clear hl
          clear hc hown I hy UL WN
          generalize M.nl (M.nAt ts j) = l at *
          generalize M.nr (M.nAt ts j) = r at *
          go_wp2_with (at_builtin; refine wpList_append_lies _ rfl (.tmp 31) (.tmp 33) 23 rfl w.heap.size 3 i0 (.int .i64 0) 1 8 Try.underlying23 I0.out hz0 hz1 hz2 rfl (by omega) (.slice va X.length vc) X.length (X.map (Value.int .i64)) rfl (HO.out.alloc _) ⟨wr.heap.size, 0, none⟩ 1 1 [.int .i64 (j : Int)] rfl rfl (World.news_of_block (heap_alloc_new _ _)) (by simp [Value.oneCell']) (by omega) (by unfold maxLen; omega) (by omega) (by simp; omega) (wr.heap.size + 1) (by simp) ?_)
          intro g cap w5 hov5 hgrow hat hlt5
          have hb5 : Below w.heap.size w w5 := (hbl.alloc hbl.size _).grown hgrow (by simp; omega) (fun k hk => (HO.out.lt k hk).1)
          have HO5 : Hid (w5.ownsRow w.heap.size 3 1 (.slice (some ⟨g, 0, none⟩) (X.length + 1) cap) (X ++ [(j : Int)]).length ((X ++ [(j : Int)]).map (Value.int .i64))) := by
            unfold Hid; rw [List.map_append, List.length_append]; exact hov5
          clear hov5 hgrow hat
          go_wp2
          go_roundw
          case rel => exact ⟨j, j, L ++ [j], X ++ [(j : Int)], IM, by omega, rfl, rfl, by simp, N, HO5.out, hb5⟩
          case measure => simp [intOf]
      · have N : Hid (L ++ M.upD ts n j = M.upW ts k) := by
          unfold Hid; rw [← I.out, M.upD_no hy]
        have q1 : (M.nl (M.nAt ts j) == (n : Int)) = false := by rw [beq_eq_false_iff_ne]; exact fun h => hy (.inl h)
        have q2 : (M.nr (M.nAt ts j) == (n : Int)) = false := by rw [beq_eq_false_iff_ne]; exact fun h => hy (.inr h)
        clear hc hown I hy UL WN
        generalize M.nl (M.nAt ts j) = l at *
        generalize M.nr (M.nAt ts j) = r at *
        go_wp2
        go_roundw
        case rel => exact ⟨n, j, L, X, HX, by omega, rfl, rfl, hL0, N, HO.out, hbl⟩
        case measure => simp [intOf]

end Go.Proofs.Ythbeoaninipadaf
