/-
  What the library's slices.Min and Max answer; two rows of numbers that are filled side by side beside a grove's block.
-/
import Derived.Test.YtcaljnhdfbjpnaeGFill
import Derived.Test.YtcaljnhdfbjpnaeGCheck
import Derived.Deep.RegionHeld3
import Derived.Deep.OwnRows
import Derived.OwnWalk
import Derived.Test.YtcaljnhdfbjpnaeGVote
namespace Go.Proofs.Ytcaljnhdfbjpnae
open Go.ChangeShapes Go.WideShapes Go.ChangeAt Go.RowKit Go.Lib
set_option linter.unusedVariables false

def M.minK (l : List Int) : Nat → Int
  | 0 => l.getD 0 0
  | k + 1 => if l.getD k 0 < M.minK l k then l.getD k 0 else M.minK l k
def M.maxK (l : List Int) : Nat → Int
  | 0 => l.getD 0 0
  | k + 1 => if M.maxK l k < l.getD k 0 then l.getD k 0 else M.maxK l k
theorem M.min_spec {l : List Int} (h0 : 0 < l.length) : ∀ k, k ≤ l.length → M.minK l k ∈ l ∧ ∀ i, i < k → M.minK l k ≤ l.getD i 0
  | 0, _ => ⟨by show l.getD 0 0 ∈ l; rw [M.getD_at h0]; exact List.getElem_mem h0, fun i hi => by omega⟩
  | k + 1, hk => by
    obtain ⟨h1, h2⟩ := M.min_spec h0 k (by omega)
    unfold M.minK
    split
    · rename_i hc
      refine ⟨by rw [M.getD_at (by omega)]; exact List.getElem_mem _, fun i hi => ?_⟩
      by_cases e : i = k
      · rw [e]; exact Int.le_refl _
      · have := h2 i (by omega); omega
    · rename_i hc
      refine ⟨h1, fun i hi => ?_⟩
      by_cases e : i = k
      · rw [e]; omega
      · exact h2 i (by omega)
theorem M.max_spec {l : List Int} (h0 : 0 < l.length) : ∀ k, k ≤ l.length → M.maxK l k ∈ l ∧ ∀ i, i < k → l.getD i 0 ≤ M.maxK l k
  | 0, _ => ⟨by show l.getD 0 0 ∈ l; rw [M.getD_at h0]; exact List.getElem_mem h0, fun i hi => by omega⟩
  | k + 1, hk => by
    obtain ⟨h1, h2⟩ := M.max_spec h0 k (by omega)
    unfold M.maxK
    split
    · rename_i hc
      refine ⟨by rw [M.getD_at (by omega)]; exact List.getElem_mem _, fun i hi => ?_⟩
      by_cases e : i = k
      · rw [e]; exact Int.le_refl _
      · have := h2 i (by omega); omega
    · rename_i hc
      refine ⟨h1, fun i hi => ?_⟩
      by_cases e : i = k
      · rw [e]; omega
      · exact h2 i (by omega)
theorem M.low_min {l : List Int} (h0 : 0 < l.length) : M.lowL l = M.minK l l.length := by
  obtain ⟨h1, h2⟩ := M.min_spec h0 l.length (Nat.le_refl _)
  refine M.low_unique h1 (fun x hx => ?_)
  obtain ⟨i, hi, rfl⟩ := List.getElem_of_mem hx
  have := h2 i hi
  rwa [M.getD_at hi] at this
theorem M.high_max {l : List Int} (h0 : 0 < l.length) : M.highL l = M.maxK l l.length := by
  obtain ⟨h1, h2⟩ := M.max_spec h0 l.length (Nat.le_refl _)
  refine M.high_unique h1 (fun x hx => ?_)
  obtain ⟨i, hi, rfl⟩ := List.getElem_of_mem hx
  have := h2 i hi
  rwa [M.getD_at hi] at this
theorem M.min_one (l : List Int) : M.minK l 1 = l.getD 0 0 := by
  show (if l.getD 0 0 < l.getD 0 0 then _ else _) = _
  rw [if_neg (by omega)]; rfl
theorem M.max_one (l : List Int) : M.maxK l 1 = l.getD 0 0 := by
  show (if l.getD 0 0 < l.getD 0 0 then _ else _) = _
  rw [if_neg (by omega)]; rfl

set_option maxHeartbeats 2000000 in
theorem smin_in (a : Option Addr) (vs : List Int) (ca : Nat) (w : World) (h : Rd w a vs) (h0 : 0 < vs.length) (n12 : vs.length ≤ 12) :
    Calls Try.prog 26 #[.slice a vs.length ca] w fun e w' => e = .returned (.int .i64 (M.lowL vs)) ∧ w' = w := by
  obtain ⟨ba, oa, rfl, hba, hca⟩ := h.2 (by intro e; rw [e] at h0; simp at h0)
  have HC := hide hca
  have EL := hide (M.low_min h0)
  have c0 := hca 0 h0
  have E1 := hide (M.min_one vs)
  have g1 : decide ((vs.length : Int) < 1) = false := decide_eq_false (by omega)
  rw [Nat.add_zero] at c0
  clear h hca hba
  generalize M.lowL vs = LT at *
  generalize vs.getD 0 0 = x0 at *
  go_enter Try.func26, Try.ntmps26
  go_wp2
  go_loopw [3, 4] (fun s i wr => ∃ k : Nat, 1 ≤ k ∧ k ≤ vs.length ∧ s = .int .i64 (M.minK vs k) ∧ i = .int .i64 k ∧ wr = w) (fun _ i _ => vs.length - (intOf i).toNat)
  case atStart => exact ⟨1, Nat.le_refl _, h0, by rw [E1.out], rfl, rfl⟩
  case round =>
    obtain ⟨k, k1, hk, rfl, rfl, ew⟩ := hrel
    subst wr
    clear c0 E1
    by_cases hlt : k < vs.length
    · have c1 := HC.out k hlt
      have kz : (k : Int) < (vs.length : Int) := by omega
      have SS : Hid (M.minK vs (k + 1) = if vs.getD k 0 < M.minK vs k then vs.getD k 0 else M.minK vs k) := rfl
      clear HC EL
      generalize vs.getD k 0 = x at *
      by_cases hv : x < M.minK vs k
      · have E : Hid (M.minK vs (k + 1) = x) := by unfold Hid; rw [SS.out, if_pos hv]
        clear SS
        generalize M.minK vs k = mk at *
        go_wp2
        go_roundw
        case rel => exact ⟨k + 1, by omega, by omega, (by rw [E.out] <;> (first | rfl | (congr 1; omega))), by go_num, (by first | rfl | trivial)⟩
        case measure => simp [intOf]; omega
      · have E : Hid (M.minK vs (k + 1) = M.minK vs k) := by unfold Hid; rw [SS.out, if_neg hv]
        clear SS
        generalize M.minK vs k = mk at *
        go_wp2
        go_roundw
        case rel => exact ⟨k + 1, by omega, by omega, (by rw [E.out] <;> (first | rfl | (congr 1; omega))), by go_num, (by first | rfl | trivial)⟩
        case measure => simp [intOf]; omega
    · have ek : k = vs.length := by omega
      have E : Hid (M.minK vs k = LT) := by unfold Hid; rw [ek, EL.out]
      clear HC EL ek
      go_wp2
      go_ret
      exact ⟨ret_int E.out, rfl⟩

set_option maxHeartbeats 2000000 in
theorem smax_in (a : Option Addr) (vs : List Int) (ca : Nat) (w : World) (h : Rd w a vs) (h0 : 0 < vs.length) (n12 : vs.length ≤ 12) :
    Calls Try.prog 27 #[.slice a vs.length ca] w fun e w' => e = .returned (.int .i64 (M.highL vs)) ∧ w' = w := by
  obtain ⟨ba, oa, rfl, hba, hca⟩ := h.2 (by intro e; rw [e] at h0; simp at h0)
  have HC := hide hca
  have EL := hide (M.high_max h0)
  have c0 := hca 0 h0
  have E1 := hide (M.max_one vs)
  have g1 : decide ((vs.length : Int) < 1) = false := decide_eq_false (by omega)
  rw [Nat.add_zero] at c0
  clear h hca hba
  generalize M.highL vs = LT at *
  generalize vs.getD 0 0 = x0 at *
  go_enter Try.func27, Try.ntmps27
  go_wp2
  go_loopw [3, 4] (fun s i wr => ∃ k : Nat, 1 ≤ k ∧ k ≤ vs.length ∧ s = .int .i64 (M.maxK vs k) ∧ i = .int .i64 k ∧ wr = w) (fun _ i _ => vs.length - (intOf i).toNat)
  case atStart => exact ⟨1, Nat.le_refl _, h0, by rw [E1.out], rfl, rfl⟩
  case round =>
    obtain ⟨k, k1, hk, rfl, rfl, ew⟩ := hrel
    subst wr
    clear c0 E1
    by_cases hlt : k < vs.length
    · have c1 := HC.out k hlt
      have kz : (k : Int) < (vs.length : Int) := by omega
      have SS : Hid (M.maxK vs (k + 1) = if M.maxK vs k < vs.getD k 0 then vs.getD k 0 else M.maxK vs k) := rfl
      clear HC EL
      generalize vs.getD k 0 = x at *
      by_cases hv : M.maxK vs k < x
      · have E : Hid (M.maxK vs (k + 1) = x) := by unfold Hid; rw [SS.out, if_pos hv]
        clear SS
        generalize M.maxK vs k = mk at *
        go_wp2
        go_roundw
        case rel => exact ⟨k + 1, by omega, by omega, (by rw [E.out] <;> (first | rfl | (congr 1; omega))), by go_num, (by first | rfl | trivial)⟩
        case measure => simp [intOf]; omega
      · have E : Hid (M.maxK vs (k + 1) = M.maxK vs k) := by unfold Hid; rw [SS.out, if_neg hv]
        clear SS
        generalize M.maxK vs k = mk at *
        go_wp2
        go_roundw
        case rel => exact ⟨k + 1, by omega, by omega, (by rw [E.out] <;> (first | rfl | (congr 1; omega))), by go_num, (by first | rfl | trivial)⟩
        case measure => simp [intOf]; omega
    · have ek : k = vs.length := by omega
      have E : Hid (M.maxK vs k = LT) := by unfold Hid; rw [ek, EL.out]
      clear HC EL ek
      go_wp2
      go_ret
      exact ⟨ret_int E.out, rfl⟩

theorem own_near {w : World} {base n e size p o g cap m : Nat} {x : Value} {l : List Value} (h : w.ownsRow base e size (.slice (some ⟨g, 0, none⟩) m cap) n l) (hp : p ≠ g) : (w.setCell ⟨p, o, none⟩ x).ownsRow base e size (.slice (some ⟨g, 0, none⟩) m cap) n l := by
  refine ⟨h.1, ?_⟩
  rcases h.2 with ⟨h0, _⟩ | ⟨g', cap', cur, hv, h1, h2, h3⟩
  · cases h0
  · cases hv
    refine .inr ⟨g, cap, cur, rfl, h1, ?_, h3⟩
    rw [← h2]
    simp [World.setCell, Array.getElem?_modify, hp]
/-- the trees' least and greatest so far -/
structure Bd (a0 a1 a2 a3 : Value) (w : World) (n : Nat) (L H : List Int) (W : World) (k g1 g2 : Nat) : Prop where
  o1 : W.ownsRow w.heap.size 3 1 (.slice (some ⟨g1, 0, none⟩) n n) n ((M.fillK L k).map (Value.int .i64))
  o2 : W.ownsRow w.heap.size 3 1 (.slice (some ⟨g2, 0, none⟩) n n) n ((M.fillK H k).map (Value.int .i64))
  ne : g1 ≠ g2
  l1 : w.heap.size < g1
  l2 : w.heap.size < g2
  b0 : W.cell? ⟨w.heap.size, 0, none⟩ = some a0
  b1 : W.cell? ⟨w.heap.size, 1, none⟩ = some a1
  b2 : W.cell? ⟨w.heap.size, 2, none⟩ = some a2
  b3 : W.cell? ⟨w.heap.size, 3, none⟩ = some a3
  below : Below w.heap.size w W
theorem Bd.up {a0 a1 a2 a3 : Value} {w : World} {n : Nat} {L H : List Int} {W W' : World} {k g1 g2 : Nat} (h : Bd a0 a1 a2 a3 w n L H W k g1 g2) (hb : Below W.heap.size W W') : Bd a0 a1 a2 a3 w n L H W' k g1 g2 := by
  have hl := block_lt_of_cell h.b0
  exact ⟨own_up h.o1 hb, own_up h.o2 hb, h.ne, h.l1, h.l2, (hb.cell (p := ⟨w.heap.size, 0, none⟩) hl).trans h.b0, (hb.cell (p := ⟨w.heap.size, 1, none⟩) hl).trans h.b1, (hb.cell (p := ⟨w.heap.size, 2, none⟩) hl).trans h.b2, (hb.cell (p := ⟨w.heap.size, 3, none⟩) hl).trans h.b3, below_on h.below hb⟩
theorem Bd.cells {a0 a1 a2 a3 : Value} {w : World} {n : Nat} {L H : List Int} {W : World} {k g1 g2 : Nat} (h : Bd a0 a1 a2 a3 w n L H W k g1 g2) (hL : L.length = n) (hH : H.length = n) (hk : k < n) : (∃ z, W.cell? ⟨g1, k, none⟩ = some (.int .i64 z)) ∧ (∃ z, W.cell? ⟨g2, k, none⟩ = some (.int .i64 z)) ∧ W.frozen? ⟨g1, k, none⟩ = false ∧ W.frozen? ⟨g2, k, none⟩ = false :=
  ⟨fillK_cell (by omega) hL h.o1, fillK_cell (by omega) hH h.o2, h.o1.frozenAt k, h.o2.frozenAt k⟩
theorem Bd.put {a0 a1 a2 a3 : Value} {w : World} {n : Nat} {L H : List Int} {W : World} {k g1 g2 : Nat} (h : Bd a0 a1 a2 a3 w n L H W k g1 g2) (hL : L.length = n) (hH : H.length = n) (hk : k < n) : Bd a0 a1 a2 a3 w n L H ((W.setCell ⟨g1, k, none⟩ (.int .i64 (L.getD k 0))).setCell ⟨g2, k, none⟩ (.int .i64 (H.getD k 0))) (k + 1) g1 g2 := by
  have l1 := h.l1
  have l2 := h.l2
  have ne := h.ne
  have far : ∀ (j : Nat), ((W.setCell ⟨g1, k, none⟩ (.int .i64 (L.getD k 0))).setCell ⟨g2, k, none⟩ (.int .i64 (H.getD k 0))).cell? ⟨w.heap.size, j, none⟩ = W.cell? ⟨w.heap.size, j, none⟩ := fun j => by
    rw [World.cell?_setCell_other _ _ _ _ (by intro e; have := congrArg Addr.block e; simp at this; omega), World.cell?_setCell_other _ _ _ _ (by intro e; have := congrArg Addr.block e; simp at this; omega)]
  exact ⟨own_near (fillK_own (by omega) h.o1) (fun e => ne e.symm), fillK_own (by omega) (own_near h.o2 ne), ne, l1, l2, (far 0).trans h.b0, (far 1).trans h.b1, (far 2).trans h.b2, (far 3).trans h.b3, (h.below.setCell (p := ⟨g1, k, none⟩) (show w.heap.size ≤ g1 by omega) _).setCell (p := ⟨g2, k, none⟩) (show w.heap.size ≤ g2 by omega) _⟩
theorem Bd.rd {a0 a1 a2 a3 : Value} {w : World} {n : Nat} {L H : List Int} {W : World} {g1 g2 : Nat} (h : Bd a0 a1 a2 a3 w n L H W n g1 g2) (hL : L.length = n) (hH : H.length = n) : Rd W (some ⟨g1, 0, none⟩) L ∧ Rd W (some ⟨g2, 0, none⟩) H := by
  have o1 := h.o1
  have o2 := h.o2
  rw [show M.fillK L n = L by rw [← hL]; exact M.fillK_all L] at o1
  rw [show M.fillK H n = H by rw [← hH]; exact M.fillK_all H] at o2
  have p1 : W.ownsRow w.heap.size 3 1 (.slice (some ⟨g1, 0, none⟩) L.length L.length) L.length (L.map (Value.int .i64)) := by rw [hL]; exact o1
  have p2 : W.ownsRow w.heap.size 3 1 (.slice (some ⟨g2, 0, none⟩) H.length H.length) H.length (H.map (Value.int .i64)) := by rw [hH]; exact o2
  obtain ⟨x, c, e, hr, _⟩ := own_rd p1
  obtain ⟨y, d, f, hs, _⟩ := own_rd p2
  cases e
  cases f
  exact ⟨hr, hs⟩
theorem made_row (W : World) (L : List Int) (base : Nat) (hb : base ≤ W.heap.size) (h12 : L.length ≤ 12) : (W.alloc (.cells (madeCells #[Value.int .i64 0] L.length) 3)).ownsRow base 3 1 (.slice (some ⟨W.heap.size, 0, none⟩) L.length L.length) L.length ((M.fillK L 0).map (Value.int .i64)) := by
  have e : (madeCells #[Value.int .i64 0] L.length).toList = (M.fillK L 0).map (Value.int .i64) := by
    have := made L.length
    rw [Nat.mul_one] at this
    rw [M.fillK_zero, ← this]
    rfl
  refine ⟨by rw [← e]; simp [size_madeCells], .inr ⟨W.heap.size, L.length, madeCells #[Value.int .i64 0] L.length, rfl, hb, (MapKept.heap_alloc W _).1, Nat.le_refl _, by unfold maxLen; omega, by simp [size_madeCells], ?_⟩⟩
  rw [Nat.mul_one, e, List.take_of_length_le]
  simp [M.fillK_len]
theorem bd_two {a0 a1 a2 a3 : Value} {w W : World} {L H : List Int} {n : Nat} (hL : L.length = n) (hH : H.length = n) (h12 : n ≤ 12) (hb : Below (w.alloc (.cells #[a0, a1, a2, a3] 26)).heap.size (w.alloc (.cells #[a0, a1, a2, a3] 26)) W) :
    Bd a0 a1 a2 a3 w n L H ((W.alloc (.cells (madeCells #[Value.int .i64 0] n) 3)).alloc (.cells (madeCells #[Value.int .i64 0] n) 3)).drew 0 W.heap.size (W.heap.size + 1) ∧ Bd a0 a1 a2 a3 w n L H ((W.alloc (.cells (madeCells #[Value.int .i64 0] n) 3)).alloc (.cells (madeCells #[Value.int .i64 0] n) 3)).drew 0 (W.heap.size + 1) W.heap.size := by
  have s := hb.size
  simp at s
  have b2 : Below W.heap.size W ((W.alloc (.cells (madeCells #[Value.int .i64 0] n) 3)).alloc (.cells (madeCells #[Value.int .i64 0] n) 3)).drew := (((Below.refl _ W).alloc (Nat.le_refl _) _).alloc (by simp) _).drew
  have b3 : Below (W.alloc (.cells (madeCells #[Value.int .i64 0] n) 3)).heap.size (W.alloc (.cells (madeCells #[Value.int .i64 0] n) 3)) ((W.alloc (.cells (madeCells #[Value.int .i64 0] n) 3)).alloc (.cells (madeCells #[Value.int .i64 0] n) 3)).drew := ((Below.refl _ _).alloc (Nat.le_refl _) _).drew
  have e1 : (W.alloc (.cells (madeCells #[Value.int .i64 0] n) 3)).heap.size = W.heap.size + 1 := by simp
  have first : ∀ X : List Int, X.length = n → ((W.alloc (.cells (madeCells #[Value.int .i64 0] n) 3)).alloc (.cells (madeCells #[Value.int .i64 0] n) 3)).drew.ownsRow w.heap.size 3 1 (.slice (some ⟨W.heap.size, 0, none⟩) n n) n ((M.fillK X 0).map (Value.int .i64)) := fun X hX => by
    have := made_row W X w.heap.size (by omega) (by omega)
    rw [hX] at this
    exact own_up this b3
  have second : ∀ X : List Int, X.length = n → ((W.alloc (.cells (madeCells #[Value.int .i64 0] n) 3)).alloc (.cells (madeCells #[Value.int .i64 0] n) 3)).drew.ownsRow w.heap.size 3 1 (.slice (some ⟨W.heap.size + 1, 0, none⟩) n n) n ((M.fillK X 0).map (Value.int .i64)) := fun X hX => by
    have := made_row (W.alloc (.cells (madeCells #[Value.int .i64 0] n) 3)) X w.heap.size (by omega) (by omega)
    rw [hX, e1] at this
    exact own_up this (Below.refl _ _).drew
  obtain ⟨k0, k1, k2, k3⟩ := kept_box (below_on hb b2)
  have bw := below_on ((Below.refl _ w).alloc (Nat.le_refl _) _) (below_on hb b2)
  exact ⟨⟨first L hL, second H hH, by omega, by omega, by omega, k0, k1, k2, k3, bw⟩, ⟨second L hL, first H hH, by omega, by omega, by omega, k0, k1, k2, k3, bw⟩⟩

end Go.Proofs.Ytcaljnhdfbjpnae
