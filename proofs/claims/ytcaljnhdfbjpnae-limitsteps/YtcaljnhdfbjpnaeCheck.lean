/-
  What package cut's outside, Check and bin answer, for every list.
-/
import Derived.Test.YtcaljnhdfbjpnaeBase
import Derived.Test.YtcaljnhdfbjpnaeShelf
import Derived.RegionTactic
namespace Go.Proofs.Ytcaljnhdfbjpnae
open Go.ChangeShapes Go.WideShapes Go.ChangeAt Go.RowKit Go.Shelf Go.Lib Go.Sort
set_option linter.unusedVariables false

theorem out_pred (w : World) : PredAt Try.prog 62 #[] (Value.int .i64) M.outI w := fun W x _ => by
  unfold FnGives
  by_cases h1 : x < -1000000
  · have E : Hid (true = M.outI x) := by unfold Hid M.outI; simp [h1]
    have h1' : decide (x < -1000000) = true := decide_eq_true h1
    clear h1
    go_enter Try.func62, Try.ntmps62
    go_wp2
    go_ret
    exact ⟨ret_bool E.out, 0, rfl⟩
  · have E : Hid (decide (1000000 < x) = M.outI x) := by unfold Hid M.outI; simp [h1]
    have h1' : decide (x < -1000000) = false := decide_eq_false h1
    clear h1
    go_enter Try.func62, Try.ntmps62
    go_wp2
    go_ret
    exact ⟨ret_bool E.out, 0, rfl⟩

theorem outside_any (a : Option Addr) (xs : List Int) (cap : Nat) (w : World) (h : Rd w a xs) :
    Calls Try.prog 35 #[.slice a xs.length cap] w fun e w' => e = .returned (.bool (xs.any M.outI)) ∧ ∃ q, w' = w.drewN q := by
  have C : Calls Try.prog 47 #[.slice a xs.length cap, .func (.func 62) #[] #[]] w fun e w' => e = .returned (.bool (xs.any M.outI)) ∧ ∃ q, w' = w.drewN q := by
    by_cases hx : xs = []
    · subst hx
      refine (Try.slices_ContainsFunc_empty (α := Int) a cap (.func (.func 62) #[] #[]) w).mono ?_
      rintro e w' ⟨rfl, rfl⟩
      exact ⟨rfl, 0, rfl⟩
    · obtain ⟨hm, hr⟩ := h
      obtain ⟨b, off, rfl, hb, hc⟩ := hr hx
      have := Try.slices_ContainsFunc (Value.int .i64) M.outI 62 #[] (enters_of Try.func62 (by kernel_rfl) rfl) b off xs.length cap xs w (out_pred w) (Nat.le_refl _) (by unfold maxLen at hm; omega) (fun j hj => by rw [getD_bang]; exact hc j hj)
      rw [List.take_length] at this
      exact this
  clear h
  generalize xs.any M.outI = r at C ⊢
  have C' := hide C
  clear C
  go_enter Try.func35, Try.ntmps35
  go_wp2_with (go_at_call 47; refine C'.out.mono ?_; rintro e w' ⟨rfl, q, rfl⟩)
  go_ret
  exact ⟨rfl, q, rfl⟩

theorem outside_one (x : Int) (t : TypeId) (w : World) :
    Calls Try.prog 35 #[.slice (some ⟨w.heap.size, 0, none⟩) 1 1] (w.alloc (.cells #[.int .i64 x] t)) fun e w' => e = .returned (.bool (M.outI x)) ∧ Below w.heap.size w w' := by
  have := outside_any (some ⟨w.heap.size, 0, none⟩) [x] 1 _ (one_rd w x t)
  refine this.mono ?_
  rintro e w' ⟨rfl, q, rfl⟩
  refine ⟨by simp, below_drew ((Below.refl _ w).alloc (Nat.le_refl _) _) q (by simp)⟩

set_option maxHeartbeats 1000000 in
theorem check_any (a : Option Addr) (xs : List Int) (cap : Nat) (w : World) (h : Rd w a xs) :
    Calls Try.prog 34 #[.slice a xs.length cap] w fun e w' => e = .returned (errV (M.cutsI xs)) ∧ Below w.heap.size w w' := by
  obtain ⟨hm, hr⟩ := h
  unfold maxLen at hm
  by_cases h60 : 60 < xs.length
  · have E := hide (M.cuts_many xs h60)
    have hd : decide ((60 : Int) < (xs.length : Int)) = true := by simp; omega
    clear hr
    go_enter Try.func34, Try.ntmps34
    go_wp2
    go_ret
    exact ⟨by rw [E.out]; rfl, Below.refl _ _⟩
  · have hd : decide ((60 : Int) < (xs.length : Int)) = false := by simp; omega
    have Z := hide (M.badFrom_zero xs (by omega))
    by_cases hx : xs = []
    · subst hx
      go_enter Try.func34, Try.ntmps34
      go_wp2
      refine wp_loop_rounds 1 ?_
      rw [rounds_succ]
      go_wp2
      go_ret
      exact ⟨rfl, Below.refl _ _⟩
    · obtain ⟨b, off, rfl, hb, hc⟩ := hr hx
      clear hr hx
      have HC := hide hc
      clear hc
      go_enter Try.func34, Try.ntmps34
      go_wp2
      go_loopw [11] (fun i wr => ∃ k : Nat, k ≤ xs.length ∧ i = .int .i64 k ∧ Below w.heap.size w wr ∧ Hid (M.badFrom xs k = M.cutsI xs)) (fun i _ => xs.length - (intOf i).toNat)
      case atStart => exact ⟨0, Nat.zero_le _, rfl, Below.refl _ _, Z⟩
      case round =>
        obtain ⟨k, hk, rfl, hbl, I⟩ := hrel
        by_cases hlt : k < xs.length
        · have hck := (hbl.cell (p := ⟨b, off + k, none⟩) hb).trans (Rd.at HC.out k hlt)
          have O := hide (outside_one xs[k] 3 wr)
          cases ho : M.outI xs[k] with
          | true =>
            have E := hide (M.badFrom_out xs k hlt ho)
            rw [ho] at O
            clear ho
            generalize xs[k] = y at *
            go_wp2_with (go_at_call 35; refine O.out.mono ?_; rintro e w' ⟨rfl, hb2⟩)
            go_ret
            exact ⟨by rw [← I.out, E.out]; rfl, below_on hbl hb2⟩
          | false =>
            rw [ho] at O
            rcases k with _ | j
            · have E := hide (M.badFrom_first xs hlt ho)
              clear ho
              generalize xs[0] = y at *
              rw [Nat.add_zero] at hck
              have hk0 : decide ((0 : Int) < ((0 : Nat) : Int)) = false := by simp
              go_wp2_with (go_at_call 35; refine O.out.mono ?_; rintro e w' ⟨rfl, hb2⟩)
              go_roundw
              case rel => exact ⟨1, by omega, by go_num, below_on hbl hb2, E.out.symm.trans I.out⟩
              case measure => simp [intOf]; omega
            · have hcj := (hbl.cell (p := ⟨b, off + j, none⟩) hb).trans (Rd.at HC.out j (by omega))
              have hjlt : j < xs.length := by omega
              by_cases hf : xs[j + 1] ≤ xs[j]
              · have E := hide (M.badFrom_fall xs j hlt ho hf)
                have hf' : decide (xs[j + 1] ≤ xs[j]) = true := decide_eq_true hf
                clear ho hf
                generalize xs[j + 1] = y at *
                generalize xs[j] = z at *
                have H2 : Hid (∀ w', Below wr.heap.size wr w' → w'.cell? ⟨b, off + j, none⟩ = some (.int .i64 z)) := fun w' h2 => (h2.cell (p := ⟨b, off + j, none⟩) (Nat.lt_of_lt_of_le hb hbl.size)).trans hcj
                clear hcj
                go_wp2_with (go_at_call 35; refine O.out.mono ?_; rintro e w' ⟨rfl, hb2⟩; have hcj := H2.out w' hb2)
                go_ret
                exact ⟨by rw [← I.out, E.out]; rfl, below_on hbl hb2⟩
              · have E := hide (M.badFrom_next xs j hlt ho (by omega))
                have hf' : decide (xs[j + 1] ≤ xs[j]) = false := decide_eq_false hf
                clear ho hf
                generalize xs[j + 1] = y at *
                generalize xs[j] = z at *
                have H2 : Hid (∀ w', Below wr.heap.size wr w' → w'.cell? ⟨b, off + j, none⟩ = some (.int .i64 z)) := fun w' h2 => (h2.cell (p := ⟨b, off + j, none⟩) (Nat.lt_of_lt_of_le hb hbl.size)).trans hcj
                clear hcj
                go_wp2_with (go_at_call 35; refine O.out.mono ?_; rintro e w' ⟨rfl, hb2⟩; have hcj := H2.out w' hb2)
                go_roundw
                case rel => exact ⟨j + 1 + 1, by omega, by go_num, below_on hbl hb2, E.out.symm.trans I.out⟩
                case measure => simp [intOf]; omega
        · have E := hide (M.badFrom_end xs k (by omega))
          go_wp2
          go_ret
          exact ⟨by rw [← I.out, E.out]; rfl, hbl⟩

theorem bin_closure (ba bx blk off cap n : Nat) (y x : Int) (i : Nat) (W : World) (hi : i < n)
    (ha : W.cell? ⟨ba, 0, none⟩ = some (.slice (some ⟨blk, off, none⟩) n cap)) (hx : W.cell? ⟨bx, 0, none⟩ = some (.int .i64 x)) (hc : W.cell? ⟨blk, off + i, none⟩ = some (.int .i64 y)) :
    Calls Try.prog 64 (#[.int .i64 i] ++ #[.pointer (some ⟨ba, 0, none⟩), .pointer (some ⟨bx, 0, none⟩)]) W fun e w' => e = .returned (.bool (decide (x < y))) ∧ ∃ q, w' = W.drewN q := by
  have hiz : (i : Int) < (n : Int) := by omega
  go_enter Try.func64, Try.ntmps64
  go_wp2
  go_region
  all_goals go_wp2
  all_goals go_ret
  all_goals exact ⟨by first | rfl | simp, 1, rfl⟩

set_option maxHeartbeats 2000000 in
theorem bin_any (a : Option Addr) (xs : List Int) (cap : Nat) (x : Int) (w : World) (h : Rd w a xs) (hs : xs.Pairwise (fun a b => a < b)) (hl : xs.length ≤ 60) :
    Calls Try.prog 36 #[.slice a xs.length cap, .int .i64 x] w fun e w' => e = .returned (.int .i64 (M.binI xs x : Nat)) ∧ Below w.heap.size w w' := by
  obtain ⟨W0, hW0⟩ : ∃ W0, W0 = (w.alloc (.cells #[.slice a xs.length cap] 23)).alloc (.cells #[.int .i64 x] 3) := ⟨_, rfl⟩
  have hsize : W0.heap.size = w.heap.size + 1 + 1 := by rw [hW0]; simp
  have ca : W0.cell? ⟨w.heap.size, 0, none⟩ = some (.slice a xs.length cap) := by rw [hW0]; exact cell_alloc_sl _ (cell_new_sl w _ _)
  have cx : W0.cell? ⟨w.heap.size + 1, 0, none⟩ = some (.int .i64 x) := by rw [hW0]; have := cell_new_sl (w.alloc (.cells #[.slice a xs.length cap] 23)) (.int .i64 x) 3; rwa [World.size_alloc] at this
  have eg : ∀ args w, (callFunc 64 args).run Try.prog w = .ok (.enter 64 args) w := enters_of Try.func64 (by kernel_rfl) rfl
  have hB0 : Below w.heap.size w W0 := by rw [hW0]; exact ((Below.refl _ w).alloc (Nat.le_refl _) _).alloc (by simp) _
  have hR := h.below hB0
  have hS := Try.sort_Search 64 #[.pointer (some ⟨w.heap.size, 0, none⟩), .pointer (some ⟨w.heap.size + 1, 0, none⟩)] xs.length (fun i => decide (x < xs.getD i 0)) W0 eg (by omega)
    (fun m os i hi => by
      obtain ⟨b, off, rfl, hb, hc⟩ := hR.2 (by intro e; subst e; simp at hi)
      exact (bin_closure w.heap.size (w.heap.size + 1) b off cap xs.length (xs.getD i 0) x i _ hi (cell_grown (by simp [hsize]; omega) ca m os) (cell_grown (by simp [hsize]) cx m os) (cell_grown hb (hc i hi) m os)).mono
        fun _ _ ⟨he, q, hq⟩ => ⟨he, q, #[], by rw [hq, grow_empty]⟩)
    (fun i j hij hj hi => by
      rcases Nat.eq_or_lt_of_le hij with rfl | hlt
      · exact hi
      · have := List.pairwise_iff_getElem.1 hs i j (by omega) hj hlt
        simp [List.getD, List.getElem?_eq_getElem hj, List.getElem?_eq_getElem (show i < xs.length by omega)] at hi ⊢
        omega)
  rw [M.bin_range] at hS
  have HS := hide hS
  have HW := hide hW0
  have HB := hide hB0
  clear hS hW0 hB0 ca cx hR h hs
  generalize M.binI xs x = r at HS ⊢
  go_enter Try.func36, Try.ntmps36
  go_wp2_with (go_at_call 63; rw [← HW.out]; refine HS.out.mono ?_; rintro e w' ⟨rfl, q, os, rfl⟩)
  go_ret
  exact ⟨rfl, HB.out.trans (below_grown_sl w.heap.size W0 q os (by omega))⟩

end Go.Proofs.Ytcaljnhdfbjpnae
