/-
  Several texts as one: PRepeat.
-/
import Derived.Test.YtlloiccodjnkcagRunS11
import Derived.Test.YtlloiccodjnkcagShelf
import Derived.Test.YtlloiccodjnkcagRunS0
import Derived.Deep.RegionLaw
import Derived.OwnWalk
import Derived.Deep.Cut
import Derived.Deep.CutRange
import Derived.RegionTactic
namespace Go.Proofs.Ytlloiccodjnkcag
open Go.ChangeShapes Go.WideShapes Go.ChangeAt Go.RowKit Go.Lib
set_option linter.unusedVariables false

def M.zeroS : M.Sp := (0, 0, false)
theorem madeS (m : Nat) : (madeCells (Value.cells (.agg #[.int .i64 0, .int .i64 0, .bool false])) (m * 3)).toList = spCells (List.replicate m M.zeroS) := by
  rw [show Value.cells (.agg #[.int .i64 0, .int .i64 0, .bool false]) = #[.int .i64 0, .int .i64 0, .bool false] by simp [Value.cells]]
  unfold madeCells
  induction m with
  | zero => simp [spCells]
  | succ k ih =>
    have e : (Array.range ((k + 1) * 3)).toList = (Array.range (k * 3)).toList ++ [k * 3, k * 3 + 1, k * 3 + 2] := by
      rw [Array.toList_range, Array.toList_range, show (k + 1) * 3 = k * 3 + 1 + 1 + 1 by omega, List.range_succ, List.range_succ, List.range_succ]
      simp
    rw [Array.toList_map] at ih ⊢
    rw [e, List.map_append, ih, List.replicate_succ', spCells_snoc]
    congr 1
    have a0 : k * 3 % 3 = 0 := by omega
    have a1 : (k * 3 + 1) % 3 = 1 := by omega
    have a2 : (k * 3 + 2) % 3 = 2 := by omega
    simp [a0, a1, a2, M.zeroS]
theorem spCells_len (ss : List M.Sp) : (spCells ss).length = ss.length * 3 := by
  induction ss with
  | nil => rfl
  | cons x t ih => rw [show spCells (x :: t) = .int .i64 x.1 :: .int .i64 x.2.1 :: .bool x.2.2 :: spCells t from rfl]; simp only [List.length_cons, ih]; omega
theorem spCells_app (a b : List M.Sp) : spCells (a ++ b) = spCells a ++ spCells b := by simp [spCells]
theorem spCells_one (ss : List M.Sp) : ∀ v ∈ spCells ss, v.oneCell' = true := by
  intro v hv
  simp only [spCells, List.mem_flatMap] at hv
  obtain ⟨s, _, hs⟩ := hv
  simp only [List.mem_cons, List.not_mem_nil, or_false] at hs
  rcases hs with rfl | rfl | rfl <;> rfl
/-- filled up to n -/
def M.fillS (s : M.Sp) (n m : Nat) : List M.Sp := List.replicate n s ++ List.replicate (m - n) M.zeroS
theorem fillS_len (s : M.Sp) {n m : Nat} (h : n ≤ m) : (M.fillS s n m).length = m := by unfold M.fillS; simp; omega
theorem fillS_splice (s : M.Sp) {n k m : Nat} (h : n + k ≤ m) : splice (spCells (M.fillS s n m)) (n * 3) (spCells (List.replicate k s)) = spCells (M.fillS s (n + k) m) := by
  unfold splice M.fillS
  rw [spCells_app, spCells_app, spCells_len]
  have l1 : (spCells (List.replicate n s)).length = n * 3 := by rw [spCells_len]; simp
  rw [List.take_append_of_le_length (by omega), List.take_of_length_le (by omega)]
  rw [List.drop_append, List.drop_of_length_le (by rw [l1]; simp), List.nil_append, l1]
  rw [show m - n = k + (m - (n + k)) by omega, ← List.replicate_append_replicate, spCells_app, List.drop_append]
  rw [List.drop_of_length_le (by rw [spCells_len]; simp), List.nil_append, spCells_len]
  simp only [List.length_replicate]
  rw [show n * 3 + k * 3 - n * 3 - k * 3 = 0 by omega, List.drop_zero, ← List.append_assoc, ← spCells_app, List.replicate_append_replicate]

theorem wrap_in (x : Int) (h1 : -9223372036854775808 ≤ x) (h2 : x ≤ 9223372036854775807) : IntKind.i64.wrap x = x := by
  simp [IntKind.wrap, IntKind.bits, IntKind.signed]
  split <;> omega
theorem size33 : (Try.prog.info? 150).map (·.size) = some 3 := by kernel_rfl

set_option maxHeartbeats 4000000 in
set_option maxRecDepth 10000 in
theorem repeat_any (b off cx m : Nat) (s : M.Sp) (w : World) (hb : b < w.heap.size) (h0 : w.cell? ⟨b, off, none⟩ = some (.int .i64 s.1)) (h1 : w.cell? ⟨b, off + 1, none⟩ = some (.int .i64 s.2.1)) (h2 : w.cell? ⟨b, off + 2, none⟩ = some (.bool s.2.2)) (m8 : m ≤ 8) :
    Calls Try.prog 109 #[.slice (some ⟨b, off, none⟩) 1 cx, .int .i64 m] w fun e w' => ∃ v, e = .returned v ∧ w'.ownsRow w.heap.size 150 3 v m (spCells (List.replicate m s)) ∧ Below w.heap.size w w' := by
  obtain ⟨i0, hi, hz0, hz1, hz2⟩ := info_parts info33
  have I0 := hide hi
  have MU : Hid (Calls Try.prog 126 #[.int .u64 1, .int .u64 m] w fun e w' => e = .returned (.tuple #[.int .u64 0, .int .u64 m]) ∧ w' = w) := by
    have h := Try.bits_Mul 1 m (by omega) (by omega) w
    rw [show 1 * m / 18446744073709551616 = 0 by omega, show 1 * m % 18446744073709551616 = m by omega] at h
    exact h
  have SR : Hid (∀ W, Below w.heap.size w W → ∀ j v, (spCells [s])[j]? = some v → W.cell? ((⟨b, off, none⟩ : Addr).add j) = some v) := by
    intro W hW j v hv
    have ea : (⟨b, off, none⟩ : Addr).add j = ⟨b, off + j, none⟩ := by unfold Addr.add; simp
    rw [ea]
    rcases j with _ | _ | _ | j
    · exact (hW.cell (p := ⟨b, off + 0, none⟩) hb).trans (h0.trans hv)
    · exact (hW.cell (p := ⟨b, off + 1, none⟩) hb).trans (h1.trans hv)
    · exact (hW.cell (p := ⟨b, off + 2, none⟩) hb).trans (h2.trans hv)
    · cases hv
  clear hi h0 h1 h2
  have mz : ¬ ((m : Int) < 0) := by omega
  have mb : ¬ (9223372036854775807 < (m : Int)) := by omega
  have MK : Hid (∀ w3, w3.ownsRow w.heap.size 150 3 (.slice (some ⟨w.heap.size, 0, none⟩) m m) m (madeCells (Value.cells (.agg #[.int .i64 0, .int .i64 0, .bool false])) (m * 3)).toList → w.grownBy w3 none → Below w.heap.size w w3 ∧ Hid (w3.heap[w.heap.size]? = some (.cells (spCells (M.fillS s 0 m)).toArray 150 (0, 0)))) := by
    intro w3 hown hgrow
    rw [madeS m] at hown
    refine ⟨(Below.refl _ w).grown hgrow (Nat.le_refl _) (fun k hk => by cases hk), ?_⟩
    unfold Hid
    rcases hown.2 with ⟨hv, _⟩ | ⟨g, cap, cur, hv, _, hg, _, _, q3, q4⟩
    · cases hv
    · cases hv
      rw [hg, show M.fillS s 0 m = List.replicate m M.zeroS by unfold M.fillS; simp, ← q4, List.take_of_length_le (by simp; omega)]
  obtain ⟨c1, hc1⟩ : ∃ c1 : Nat, c1 = Nat.min 1 m := ⟨_, rfl⟩
  have HC1 := hide hc1
  have c1m : c1 ≤ m := by rw [hc1]; exact Nat.min_le_right _ _
  have c11 : c1 ≤ 1 := by rw [hc1]; exact Nat.min_le_left _ _
  have cpos : 0 < m → 0 < c1 := by intro h; rw [hc1]; exact Nat.lt_min.2 ⟨by omega, h⟩
  clear hc1
  have S1 : Hid (∀ W, Below w.heap.size w W → ∀ j v, (spCells (List.replicate c1 s))[j]? = some v → W.cell? ((⟨b, off, none⟩ : Addr).add j) = some v) := by
    intro W hW j v hv
    rcases (show c1 = 0 ∨ c1 = 1 by omega) with e | e
    · rw [e] at hv; simp [spCells] at hv
    · rw [e] at hv; exact SR.out W hW j v hv
  have F1 : Hid (splice (spCells (M.fillS s 0 m)) 0 (spCells (List.replicate c1 s)) = spCells (M.fillS s c1 m)) := by
    unfold Hid
    have := fillS_splice s (n := 0) (k := c1) (m := m) (by omega)
    simpa using this
  have SC : Hid (∀ (W : World) g n, n ≤ m → W.heap[g]? = some (.cells (spCells (M.fillS s n m)).toArray 150 (0, 0)) → ∀ k, k ≤ n → ∀ j v, (spCells (List.replicate k s))[j]? = some v → W.cell? ((⟨g, 0, none⟩ : Addr).add j) = some v) := by
    intro W g n hn hg k hk j v hv
    have ea : (⟨g, 0, none⟩ : Addr).add j = ⟨g, j, none⟩ := by unfold Addr.add; simp; intro h; exact h.symm
    rw [ea]
    have : (spCells (M.fillS s n m))[j]? = some v := by
      unfold M.fillS
      rw [show n = k + (n - k) by omega, ← List.replicate_append_replicate, List.append_assoc, spCells_app, List.getElem?_append_left (by
        rw [List.getElem?_eq_some_iff] at hv; exact hv.1)]
      exact hv
    rw [List.getElem?_eq_some_iff] at this
    obtain ⟨q, rfl⟩ := this
    simp [World.cell?, hg, q]
  clear SR
  go_enter Try.func109, Try.ntmps109
  go_wp2_with (first
    | (go_at_call 126; refine MU.out.mono ?_; rintro e w1 ⟨rfl, e1⟩; subst w1)
    | (at_make; refine wpList_make_full _ rfl (.tmp 29) (.tmp 29) 115 rfl w.heap.size 150 i0 (.agg #[.int .i64 0, .int .i64 0, .bool false]) 3 Try.underlying115 I0.out hz0 hz1 .i64 .i64 _ _ m rfl rfl (by omega) (by omega) (by rw [hz2]; omega) (by unfold maxLen; omega) (Nat.le_refl _) ?_; intro w3 hown hgrow; have hb3 := (MK.out w3 hown hgrow).1; have HG3 := (MK.out w3 hown hgrow).2; clear hown hgrow)
    | (refine wpList_copy_wide rfl (.tmp 31) (.tmp 32) 115 115 rfl 150 3 Try.underlying115 size33 ⟨b, off, none⟩ m m 1 cx w.heap.size 0 rfl rfl (spCells (M.fillS s 0 m)) 150 HG3.out (spCells (List.replicate c1 s)) c1 HC1.out (by rw [spCells_len]; simp) (S1.out _ hb3) (by rw [spCells_len, spCells_len, fillS_len s (by omega)]; simp; omega) (spCells_one _) w.heap.size w hb3 (Nat.le_refl _) ?_; intro w4 HG4 hb4; rw [F1.out] at HG4; clear HG3 hb3))
  clear MK S1 F1 MU HC1
  go_loopw [8] (fun v wr => ∃ n : Nat, n ≤ m ∧ (0 < m → 0 < n) ∧ v = .int .i64 n ∧ Hid (wr.heap[w.heap.size]? = some (.cells (spCells (M.fillS s n m)).toArray 150 (0, 0))) ∧ Below w.heap.size w wr) (fun v _ => m - (intOf v).toNat)
  case atStart => exact ⟨c1, c1m, cpos, rfl, HG4, hb4⟩
  case round =>
    clear HG4 hb4 c1m c11 cpos
    obtain ⟨n, hn, hp, rfl, HG, hbl⟩ := hrel
    by_cases hlt : n < m
    · obtain ⟨k, hk⟩ : ∃ k : Nat, k = Nat.min n (m - n) := ⟨_, rfl⟩
      have k1 : k ≤ n := by rw [hk]; exact Nat.min_le_left _ _
      have k2 : k ≤ m - n := by rw [hk]; exact Nat.min_le_right _ _
      have k3 : 0 < k := by rw [hk]; exact Nat.lt_min.2 ⟨hp (by omega), by omega⟩
      have HK := hide hk
      have S1 := hide (SC.out wr.drew w.heap.size n hn HG.out k k1)
      have F1 := hide (fillS_splice s (n := n) (k := k) (m := m) (by omega))
      have LF := hide (fillS_len s hn)
      have LK : Hid (n * 3 + (spCells (List.replicate k s)).length ≤ (spCells (M.fillS s n m)).length) := by
        unfold Hid; rw [spCells_len, spCells_len, LF.out]; simp; omega
      have WR : IntKind.i64.wrap ((n : Int) + (k : Int)) = ((n + k : Nat) : Int) := by rw [wrap_in _ (by omega) (by omega)]; simp
      clear hk SC hp
      go_upto_region 9 with fail
      go_region_law (refine step_copy_wide rfl (.tmp 41) (.tmp 44) 115 115 rfl 150 3 Try.underlying115 size33 ⟨w.heap.size, 0, none⟩ (m - n) (m - n) n m w.heap.size (n * 3) (by simp [Act.eval, Act.put]; omega) (by simp [Act.eval, Act.put]) (spCells (M.fillS s n m)) 150 HG.out (spCells (List.replicate k s)) k HK.out (by rw [spCells_len]; simp) S1.out LK.out (spCells_one _) w.heap.size w hbl.drew (Nat.le_refl _) ?_; intro w5 HG5 hb5; rw [F1.out] at HG5)
      all_goals (
        go_wp2
        go_roundw
        case rel => exact ⟨n + k, by omega, fun _ => by omega, by omega, HG5⟩
        case measure => simp [intOf]; omega)
    · have hnm : n = m := by omega
      have E : Hid (M.fillS s n m = List.replicate m s) := by unfold Hid M.fillS; rw [hnm]; simp
      clear SC hp
      go_wp2
      go_ret
      refine ⟨_, rfl, ⟨by rw [spCells_len]; simp, .inr ⟨w.heap.size, m, (spCells (List.replicate m s)).toArray, rfl, Nat.le_refl _, ?_, Nat.le_refl _, by unfold maxLen; omega, by simp [spCells_len], ?_⟩⟩, hbl⟩
      · have := HG.out; rw [E.out] at this; exact this
      · rw [List.take_of_length_le (by simp [spCells_len])]

end Go.Proofs.Ytlloiccodjnkcag
