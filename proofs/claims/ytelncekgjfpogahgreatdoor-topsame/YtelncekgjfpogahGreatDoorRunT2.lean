/-
  Several texts as one: Ints, ChSmall, StayB, ChPiece, ByStr, OpenB.
-/
import Derived.Test.YtelncekgjfpogahGreatDoorRunT1
import Derived.RegionTactic
import Derived.Test.YtelncekgjfpogahGreatDoorRunT0
import Derived.BigQuiet
import Derived.Deep.QuietTactic
import Derived.Laws.BytesString
import Derived.Laws.Cells
import Derived.ChangeSlices
import Derived.SizedLaws
namespace Go.Proofs.YtelncekgjfpogahGreatDoor
open Go.ChangeShapes Go.WideShapes Go.ChangeAt Go.RowKit
set_option linter.unusedVariables false
theorem same_end {xs ys : List Int} (hl : xs.length = ys.length) {k : Nat} (hk : xs.length ≤ k) (h : xs.take k = ys.take k) : decide (xs = ys) = true := by
 rw [List.take_of_length_le hk, List.take_of_length_le (by omega)] at h
 simp [h]
theorem same_next {xs ys : List Int} {k : Nat} (h1 : k < xs.length) (h2 : k < ys.length) (h : xs.take k = ys.take k) (he : xs[k] = ys[k]) : xs.take (k + 1) = ys.take (k + 1) := by
 rw [List.take_succ_eq_append_getElem h1, List.take_succ_eq_append_getElem h2, h, he]
theorem same_not {xs ys : List Int} {k : Nat} (h1 : k < xs.length) (h2 : k < ys.length) (he : xs[k] ≠ ys[k]) : decide (xs = ys) = false := by
 rw [decide_eq_false_iff_not]; intro h; subst h; exact he rfl
set_option maxHeartbeats 2000000 in
theorem ints_any (a b : Option Addr) (xs ys : List Int) (ca cb : Nat) (w : World) (ha : Rd w a xs) (hb : Rd w b ys) :
 Calls Tryz.prog 37 #[.slice a xs.length ca, .slice b ys.length cb] w fun e w' => e = .returned (.bool (decide (xs = ys))) ∧ Below w.heap.size w w' := by
 have hm : xs.length ≤ 9223372036854775807 := ha.1
 have hm2 : ys.length ≤ 9223372036854775807 := hb.1
 by_cases hl : xs.length = ys.length
 · have hn : ((xs.length : Int) != (ys.length : Int)) = false := by rw [bne_eq_false_iff_eq]; omega
   have HL := hide hl
   by_cases hx : xs = []
   · have hy : ys = [] := List.length_eq_zero_iff.1 (by rw [← hl, hx]; rfl)
     subst hx
     subst hy
     clear hl HL hn
     go_enter Tryz.func37, Tryz.ntmps37
     go_wp2
     refine wp_loop_rounds 1 ?_
     rw [rounds_succ]
     go_wp2
     go_ret
     exact ⟨by simp, Below.refl _ _⟩
   · have hy : ys ≠ [] := by intro e; subst e; exact hx (List.length_eq_zero_iff.1 hl)
     obtain ⟨ba, oa, rfl, hba, hca⟩ := ha.2 hx
     obtain ⟨bb, ob, rfl, hbb, hcb⟩ := hb.2 hy
     have HA := hide hca
     have HB := hide hcb
     have SE : Hid (∀ k, xs.length ≤ k → xs.take k = ys.take k → decide (xs = ys) = true) := fun k => same_end hl
     have SN : Hid (∀ k (h1 : k < xs.length) (h2 : k < ys.length), xs[k] ≠ ys[k] → decide (xs = ys) = false) := fun k h1 h2 => same_not h1 h2
     clear hca hcb ha hb hx hy hl
     generalize decide (xs = ys) = r at *
     go_enter Tryz.func37, Tryz.ntmps37
     go_wp2
     go_loopw [5] (fun i wr => ∃ k : Nat, k ≤ xs.length ∧ i = .int .i64 k ∧ Below w.heap.size w wr ∧ Hid (xs.take k = ys.take k)) (fun i _ => xs.length - (intOf i).toNat)
     case atStart => exact ⟨0, Nat.zero_le _, rfl, Below.refl _ _, by unfold Hid; simp⟩
     case round =>
      obtain ⟨k, hk, rfl, hbl, I⟩ := hrel
      by_cases hlt : k < xs.length
      · have hlt2 : k < ys.length := by have := HL.out; omega
        have c1 := (hbl.cell (p := ⟨ba, oa + k, none⟩) hba).trans (Rd.at HA.out k hlt)
        have c2 := (hbl.cell (p := ⟨bb, ob + k, none⟩) hbb).trans (Rd.at HB.out k hlt2)
        by_cases he : xs[k] = ys[k]
        · have N := hide (same_next hlt hlt2 I.out he)
          have q : (xs[k] != ys[k]) = false := by rw [bne_eq_false_iff_eq]; exact he
          clear he
          generalize xs[k] = x at *
          generalize ys[k] = y at *
          go_wp2
          go_region
          all_goals go_wp2
          all_goals go_roundw
          all_goals first | (case rel => exact ⟨k + 1, by omega, by go_num, hbl.drew, N⟩) | skip
          all_goals first | (case measure => simp [intOf]; omega) | skip
        · have E2 : Hid (false = r) := (SN.out k hlt hlt2 he).symm
          have q : (xs[k] != ys[k]) = true := by rw [bne_iff_ne]; exact he
          clear he
          generalize xs[k] = x at *
          generalize ys[k] = y at *
          go_wp2
          go_region
          all_goals go_wp2
          all_goals go_ret
          all_goals exact ⟨ret_bool E2.out, hbl.drew⟩
      · have E2 : Hid (true = r) := (SE.out k (by omega) I.out).symm
        go_wp2
        go_ret
        exact ⟨ret_bool E2.out, hbl⟩
 · have hn : ((xs.length : Int) != (ys.length : Int)) = true := by rw [bne_iff_ne]; omega
   have E : Hid (false = decide (xs = ys)) := by unfold Hid; symm; rw [decide_eq_false_iff_not]; intro e; exact hl (by rw [e])
   clear ha hb hl
   go_enter Tryz.func37, Tryz.ntmps37
   go_wp2
   go_ret
   exact ⟨ret_bool E.out, Below.refl _ _⟩
end Go.Proofs.YtelncekgjfpogahGreatDoor
namespace Go.Proofs.YtelncekgjfpogahGreatDoor
open Go.ChangeShapes Go.WideShapes Go.ChangeAt Go.RowKit Go.Lib
set_option linter.unusedVariables false
theorem M.sumT_take {b : List Nat} {k : Nat} (h : k < b.length) : M.bsmK 7 (b.take (k + 1)) = (M.bsmK 7 (b.take k) * 31 + b.getD k 0 + 1) % 1000003 := by
 have e : b.getD k 0 = b[k] := by simp [List.getD, h]
 rw [List.take_succ_eq_append_getElem h, M.bsmK_more, e]
set_option maxHeartbeats 4000000 in
set_option maxRecDepth 10000 in
theorem chsum_same (a : Option Addr) (bs : List Nat) (ca : Nat) (w : World) (h : RdB w a bs) :
 Calls Tryz.prog 79 #[.slice a bs.length ca] w fun e w' => e = .returned (.int .i64 (M.sumF bs : Nat)) ∧ w' = w := by
 have hm : bs.length ≤ 9223372036854775807 := h.1
 have HB := hide h
 have E0 : Hid (M.sumF bs = M.bsmK 7 bs) := rfl
 have ST := hide (fun k (hk : k < bs.length) => M.sumT_take (b := bs) hk)
 have LT := hide (fun k => M.bsmK_lt (bs.take k) 7 (by decide))
 have B8 : Hid (∀ i, i < bs.length → bs.getD i 0 < 256) := fun i hi => h.2.1 _ (by rw [show bs.getD i 0 = bs[i] by simp [List.getD, hi]]; exact List.getElem_mem hi)
 clear h
 go_enter Tryz.func79, Tryz.ntmps79
 go_wp2
 go_loopw [3, 8] (fun v i wr => ∃ k : Nat, k ≤ bs.length ∧ i = .int .i64 k ∧ v = .int .i64 (M.bsmK 7 (bs.take k) : Nat) ∧ Hid (wr = w)) (fun _ i _ => bs.length - (intOf i).toNat)
 case atStart => exact ⟨0, Nat.zero_le _, rfl, rfl, rfl⟩
 case round =>
  obtain ⟨k, hk, rfl, rfl, EW⟩ := hrel
  have ew := EW.out
  subst ew
  by_cases hlt : k < bs.length
  · have kz : (k : Int) < (bs.length : Int) := by omega
    obtain ⟨b, off, rfl, hb, hc⟩ := HB.out.2.2 (by intro e; rw [e] at hlt; simp at hlt)
    have c0 := hc k hlt
    unfold byV at c0
    have c8 := B8.out k hlt
    have nl := LT.out k
    have st := hide (ST.out k hlt)
    generalize bs.getD k 0 = c at *
    generalize M.bsmK 7 (bs.take k) = n at *
    have rm : Int.tmod (31 * (n : Int) + (c : Int) + 1) 1000003 = (((n * 31 + c + 1) % 1000003 : Nat) : Int) := by rw [Int.tmod_eq_emod_of_nonneg (by omega)]; omega
    clear hc HB E0 ST LT B8
    go_wp2
    go_roundw
    case rel => exact ⟨k + 1, by omega, by go_num, by rw [st.out]; exact congrArg _ (by omega), (by first | rfl | trivial)⟩
    case measure => simp [intOf]; omega
  · have ek : k = bs.length := by omega
    have kz : ¬ ((k : Int) < (bs.length : Int)) := by omega
    have es : M.bsmK 7 (bs.take k) = M.sumF bs := by rw [ek, List.take_length]; rfl
    rw [es]
    clear ek es ST LT B8 HB E0
    go_wp2
    go_ret
    exact ⟨rfl, rfl⟩
theorem chsize_any (n : Int) (w : World) : Calls Tryz.prog 39 #[.int .i64 n] w fun e w' => e = .returned (.bool (decide (1 ≤ n ∧ n ≤ 6000))) ∧ w' = w := by
 by_cases q1 : 1 ≤ n
 · by_cases q2 : n ≤ 6000
   · have E : Hid (decide (1 ≤ n ∧ n ≤ 6000) = true) := decide_eq_true ⟨q1, q2⟩
     have t1 : decide (1 ≤ n) = true := decide_eq_true q1
     have t2 : decide (n ≤ 6000) = true := decide_eq_true q2
     go_enter Tryz.func39, Tryz.ntmps39
     go_wp2
     go_ret
     exact ⟨by first | rfl | (rw [E.out]; rfl), rfl⟩
   · have E : Hid (decide (1 ≤ n ∧ n ≤ 6000) = false) := decide_eq_false (fun h => q2 h.2)
     have t1 : decide (1 ≤ n) = true := decide_eq_true q1
     have t2 : decide (n ≤ 6000) = false := decide_eq_false q2
     go_enter Tryz.func39, Tryz.ntmps39
     go_wp2
     go_ret
     exact ⟨by first | rfl | (rw [E.out]; rfl), rfl⟩
 · have E : Hid (decide (1 ≤ n ∧ n ≤ 6000) = false) := decide_eq_false (fun h => q1 h.1)
   have t1 : decide (1 ≤ n) = false := decide_eq_false q1
   go_enter Tryz.func39, Tryz.ntmps39
   go_wp2
   go_ret
   exact ⟨by first | rfl | (rw [E.out]; rfl), rfl⟩
set_option maxHeartbeats 4000000 in
theorem chpart_any (a : Option Addr) (bs : List Nat) (ca : Nat) (w : World) (h : RdB w a bs) :
 Calls Tryz.prog 40 #[.slice a bs.length ca] w fun e w' => e = .returned (.agg #[.int .i64 (bs.length : Nat), .int .i64 (M.sumF bs : Nat)]) ∧ Below w.heap.size w w' := by
 have hm : bs.length ≤ 9223372036854775807 := h.1
 have SS : Hid (∀ W, Below w.heap.size w W → Calls Tryz.prog 79 #[.slice a bs.length ca] W fun e w' => e = .returned (.int .i64 (M.sumF bs : Nat)) ∧ w' = W) := fun W hW => chsum_same a bs ca W (h.below hW)
 have B0 : Hid (∀ o, Below w.heap.size w (w.alloc o)) := fun o => (Below.refl _ _).alloc (Nat.le_refl _) _
 have B1 : Hid (∀ o j v, Below w.heap.size w ((w.alloc o).setCell ⟨w.heap.size, j, none⟩ v)) := fun o j v => (B0.out o).setCell (by simp) _
 have sl := M.sum_lt bs
 clear h
 generalize M.sumF bs = sm at *
 go_enter Tryz.func40, Tryz.ntmps40
 go_wp2_with (go_at_call 79; refine (SS.out _ (B0.out _)).mono ?_; rintro e w1 ⟨rfl, e1⟩; subst w1)
 have e0 : (w.alloc (.cells #[.int .i64 (bs.length : Nat), .int .i64 (sm : Nat)] 52)).cell? ⟨w.heap.size, 0, none⟩ = some (.int .i64 (bs.length : Nat)) := World.cell?_alloc_at _ _ _ 0 rfl
 have e1 : (w.alloc (.cells #[.int .i64 (bs.length : Nat), .int .i64 (sm : Nat)] 52)).cell? ⟨w.heap.size, 1, none⟩ = some (.int .i64 (sm : Nat)) := World.cell?_alloc_at _ _ _ 1 rfl
 refine bodyPost_ret (v := .agg #[.int .i64 (bs.length : Nat), .int .i64 (sm : Nat)]) (by simp [results, Tryz.results40, go_sem, e0, e1]) rfl ?_
 exact ⟨rfl, B0.out _⟩
structure StayBut (K : Nat → Prop) (W W' : World) : Prop where
 os : W'.os = W.os
 tape : W'.tape = W.tape
 output : W'.output = W.output
 size : W.heap.size ≤ W'.heap.size
 block : ∀ q, q < W.heap.size → ¬ K q → W'.heap[q]? = W.heap[q]?
theorem rdB_heap {W W' : World} {a : Option Addr} {xs : List Nat} (h : RdB W a xs) (hk : W'.heap = W.heap) : RdB W' a xs :=
 ⟨h.1, h.2.1, fun hn => by
  obtain ⟨b, off, e, hl, hc⟩ := h.2.2 hn
  have hb : W'.heap[b]? = W.heap[b]? := by rw [hk]
  exact ⟨b, off, e, by rw [hk]; exact hl, fun i hi => (World.cell?_of_block (a := ⟨b, _, none⟩) hb).trans (hc i hi)⟩⟩
set_option maxHeartbeats 4000000 in
theorem chpiece_any (a : Option Addr) (bs : List Nat) (ca : Nat) (x y : Int) (w : World) (h : RdB w a bs) :
 Calls Tryz.prog 43 #[.slice a bs.length ca, .agg #[.int .i64 x, .int .i64 y]] w fun e w' => e = .returned (.bool (decide ((bs.length : Int) = x ∧ (M.sumF bs : Int) = y))) ∧ Below w.heap.size w w' := by
 have hm : bs.length ≤ 9223372036854775807 := h.1
 have QQ : Hid (∀ W o, W.heap = (w.alloc o).heap → Calls Tryz.prog 79 #[.slice a bs.length ca] W fun e w' => e = .returned (.int .i64 (M.sumF bs : Nat)) ∧ w' = W) := fun W o hW => chsum_same a bs ca W (rdB_heap (h.below ((Below.refl _ _).alloc (Nat.le_refl _) o)) hW)
 have B0 : Hid (∀ o q, Below w.heap.size w ((w.alloc o).drewN q)) := fun o q => below_drew ((Below.refl _ _).alloc (Nat.le_refl _) _) q (by simp)
 have sl := M.sum_lt bs
 clear h
 generalize M.sumF bs = sm at *
 have SQ : Hid (∀ o W, W.heap = (w.alloc o).heap → Calls Tryz.prog 79 #[.slice a bs.length ca] W fun e w' => e = .returned (.int .i64 (sm : Nat)) ∧ w' = W) := fun o W hW => QQ.out W o hW
 clear QQ
 by_cases q1 : (bs.length : Int) = x
 · subst q1
   by_cases q2 : (sm : Int) = y
   · subst q2
     have E : Hid (decide ((bs.length : Int) = (bs.length : Int) ∧ (sm : Int) = (sm : Int)) = true) := decide_eq_true ⟨rfl, rfl⟩
     rw [E.out]
     go_enter Tryz.func43, Tryz.ntmps43
     go_wp2
     go_quiet ((go_at_call 79; exact Calls.quiet_of_same (SQ.out _ _ rfl)))
     go_wp2
     go_ret
     exact ⟨rfl, B0.out _ _⟩
   · have t2 : ((sm : Int) == y) = false := by simpa using q2
     have E : Hid (decide ((bs.length : Int) = (bs.length : Int) ∧ (sm : Int) = y) = false) := decide_eq_false (fun h => q2 h.2)
     rw [E.out]
     go_enter Tryz.func43, Tryz.ntmps43
     go_wp2
     go_quiet ((go_at_call 79; exact Calls.quiet_of_same (SQ.out _ _ rfl)))
     go_wp2
     go_ret
     exact ⟨rfl, B0.out _ _⟩
 · have E : Hid (decide ((bs.length : Int) = x ∧ (sm : Int) = y) = false) := decide_eq_false (fun h => q1 h.1)
   rw [E.out]
   have t1 : ((bs.length : Int) == x) = false := by simpa using q1
   clear q1
   go_enter Tryz.func43, Tryz.ntmps43
   go_wp2
   go_quiet (fail)
   go_wp2
   go_ret
   exact ⟨rfl, B0.out _ _⟩
def byStr (xs : List Nat) : ByteArray := (xs.map Int.ofNat).foldl (fun r n => r.push (UInt8.ofNat n.toNat)) ByteArray.empty
theorem conv_by {W : World} {a : Option Addr} {xs : List Nat} (h : RdB W a xs) (c : Nat) : (convert 36 9 (.slice a xs.length c)).run Tryz.prog W = .ok (.string (byStr xs)) W := by
 rw [run_convert_bytes_string W 36 9 5 a xs.length c Tryz.underlying36 Tryz.underlying5 Tryz.underlying9]
 cases a with
 | none =>
   have e : xs = [] := by
    by_cases hx : xs = []
    · exact hx
    · obtain ⟨b, off, e, _⟩ := h.2.2 hx; cases e
   subst e
   unfold Conv.bytesToString
   simp [Sem.run_pure, byStr]
 | some ad =>
   refine run_bytesToString W ad xs.length c (xs.map Int.ofNat) ?_
   have e : (xs.map Int.ofNat).map (Value.int .u8) = byCells xs := by unfold byCells; rw [List.map_map]; rfl
   rw [e, ← byCells_len xs]
   refine run_loadCells_list W ad (byCells xs) fun j u hj => ?_
   by_cases hx : xs = []
   · subst hx; simp [byCells] at hj
   · obtain ⟨b, off, e', _, hc⟩ := h.2.2 hx
     cases e'
     exact by_src hc j u hj
end Go.Proofs.YtelncekgjfpogahGreatDoor
namespace Go.Proofs.YtelncekgjfpogahGreatDoor
open Go.ChangeShapes Go.WideShapes Go.ChangeAt Go.RowKit
set_option linter.unusedVariables false
theorem int_wf {n : Int} (h : (Lit.int .i64 n).wf = true) : -9223372036854775808 ≤ n ∧ n ≤ 9223372036854775807 := by
 simp [Lit.wf, IntKind.min, IntKind.max, IntKind.bits, IntKind.signed] at h
 omega
end Go.Proofs.YtelncekgjfpogahGreatDoor
