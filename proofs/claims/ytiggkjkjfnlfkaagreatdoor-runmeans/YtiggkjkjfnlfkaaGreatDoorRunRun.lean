/-
  What package run's Run answers of a text whose lines are each answered by a line that hangs on nothing else.
-/
import Derived.Test.YtiggkjkjfnlfkaaGreatDoorRunNum
import Derived.Test.YtiggkjkjfnlfkaaGreatDoorRunLn
import Derived.Test.YtiggkjkjfnlfkaaGreatDoorRunBd
import Derived.RangeFuncFrom
import Derived.Carry
namespace Go.Proofs.YtiggkjkjfnlfkaaGreatDoor
open Go.ChangeShapes Go.WideShapes Go.ChangeAt Go.RowKit Go.Shelf Go.Lib
set_option linter.unusedVariables false
attribute [local go_sem] Oper.semAt_some

set_option maxHeartbeats 4000000 in
theorem shelf_some (W : World) : Calls Tryz.prog 8 #[] W fun e w' => ∃ f, e = .returned (.pointer (some ⟨f, 0, none⟩)) ∧ Below W.heap.size W w' := by
  have hmm := @run_makeMap Tryz.prog
  have FIN : Hid (Below W.heap.size W (((W.alloc (.map #[] 0)).alloc (.map #[] 0)).alloc (.cells #[.map (some W.heap.size), .map (some (W.heap.size + 1)), .int .i64 0] 79))) := (((Below.refl _ _).alloc (Nat.le_refl _) _).alloc (by simp) _).alloc (by simp; omega) _
  go_enter Tryz.func8, Tryz.ntmps8
  go_wp2
  go_ret
  exact ⟨_, rfl, FIN.out⟩
set_option maxHeartbeats 4000000 in
theorem lines_any (s : ByteArray) (W : World) : Calls Tryz.prog 49 #[.string s] W fun e w' => e = .returned (.func (.func 90) #[] #[.pointer (some ⟨W.heap.size, 0, none⟩)]) ∧ w' = W.alloc (.cells #[.string s] 9) := by
  go_enter Tryz.func49, Tryz.ntmps49
  go_wp2
  go_ret
  exact ⟨rfl, rfl⟩
set_option maxRecDepth 100000 in
set_option maxHeartbeats 4000000 in
theorem run_plain {α : Type} {w : World} {tb : Nat} {pb : Addr} (ln out : α → List UInt8) (xs : List α) (text : List UInt8) (hx : xs.map ln = M.lnR text) (hlen : text.length ≤ 3000) (ho : ∀ x, (out x).length ≤ 1000) (hL : LiesR w (badV tb pb))
    (hA : ∀ x V o, Below w.heap.size w V → Calls Tryz.prog 51 #[.pointer (some ⟨o, 0, none⟩), .string (bs (ln x))] V fun e w' => e = .returned (.string (bs (out x))) ∧ Below V.heap.size V w') :
    Calls Tryz.prog 23 #[.string (bs text)] w fun e w' => e = .returned (.string (bs (M.outR out xs))) ∧ Below w.heap.size w w' := by
  have sz : (bs text).size = text.length := bs_size text
  have d1 : decide ((3000 : Int) < ((bs text).size : Int)) = false := decide_eq_false (by omega)
  have d1' : decide (3000 < (bs text).size) = false := decide_eq_false (by omega)
  refine (callsIn_wide (n := 5)).1 ?_
  refine callsIn_of_wp_marks Tryz.func23 rfl trivial ?_ rfl
  simp only [Tryz.ntmps23, List.size_toArray, List.length_cons, List.length_nil, Nat.reduceAdd, Nat.reduceSub, Array.replicate_succ, Array.replicate_zero, List.push_toArray, List.append_toArray, List.nil_append, List.cons_append]
  gi_wp2_with (first
    | (refine ⟨trivial, ?_⟩; gi_at_call 8; refine (callsIn_wide.2 (shelf_some _)).mono ?_; rintro e w1 ⟨s1, rfl, hb1⟩)
    | (refine ⟨trivial, ?_⟩; gi_at_call 49; refine (callsIn_wide.2 (lines_any _ _)).mono ?_; rintro e w5 ⟨rfl, rfl⟩))
  have hbw : Below w.heap.size w w1 := below_on ((Below.refl _ w).alloc (Nat.le_refl _) _) hb1
  clear hb1
  obtain ⟨o, hO⟩ : ∃ x, x = w1.heap.size := ⟨_, rfl⟩
  obtain ⟨Wb, hWb⟩ : ∃ V, V = (w1.alloc (.cells #[.slice none 0 0, .slice (some ⟨w.heap.size, 0, none⟩) 1 1, .pointer (some ⟨s1, 0, none⟩)] 116)).alloc (.cells #[.pointer (some ⟨w1.heap.size, 0, none⟩)] 111) := ⟨_, rfl⟩
  have zb : Wb.heap.size = o + 1 + 1 := by rw [hWb, hO]; simp
  have bb : Below w.heap.size w Wb := by rw [hWb]; exact (hbw.alloc hbw.size _).alloc (by have := hbw.size; simp; omega) _
  have pc : Wb.cell? ⟨o + 1, 0, none⟩ = some (.pointer (some ⟨o, 0, none⟩)) := by
    have h : Wb.heap[o + 1]? = some (.cells #[.pointer (some ⟨w1.heap.size, 0, none⟩)] 111 (0, 0)) := by
      have := heap_alloc_new (w1.alloc (.cells #[.slice none 0 0, .slice (some ⟨w.heap.size, 0, none⟩) 1 1, .pointer (some ⟨s1, 0, none⟩)] 116)) (.cells #[.pointer (some ⟨w1.heap.size, 0, none⟩)] 111)
      rw [World.size_alloc, ← hWb, ← hO] at this
      rw [← hO]
      exact this
    rw [Lib.cell_of_heap h, hO]
    rfl
  rw [← hWb]
  simp only [← hO]
  clear hWb
  obtain ⟨W0, hW0⟩ : ∃ V, V = (Wb.alloc (.cells #[.pointer none, .slice none 0 0] 119)).alloc (.cells #[.string (bs text)] 9) := ⟨_, rfl⟩
  have bW : Below Wb.heap.size Wb W0 := by rw [hW0]; exact ((Below.refl _ _).alloc (Nat.le_refl _) _).alloc (by simp) _
  have z0 : W0.heap.size = o + 1 + 1 + 1 + 1 := by rw [hW0]; simp [zb]
  have bd0 : BdW (o + 1 + 1) (o + 1 + 1) (fun q => q = o + 1 + 1) [] W0 := by
    have := BdW.new Wb
    rw [zb] at this
    refine this.keep fun q hq => ?_
    rw [hW0]
    have lt : q < (Wb.alloc (.cells #[.pointer none, .slice none 0 0] 119)).heap.size := by rw [hq]; simp [zb]
    exact ((Below.refl _ (Wb.alloc (.cells #[.pointer none, .slice none 0 0] 119))).alloc (Nat.le_refl _) _).block q lt
  have bx : W0.cell? ⟨o + 1 + 1 + 1, 0, none⟩ = some (.string (bs text)) := by
    have := heap_alloc_new (Wb.alloc (.cells #[.pointer none, .slice none 0 0] 119)) (.cells #[.string (bs text)] 9)
    rw [World.size_alloc, zb, ← hW0] at this
    rw [Lib.cell_of_heap this]
    rfl
  have b0 : Below w.heap.size w W0 := bb.trans (bW.mono bb.size)
  have p0 : W0.cell? ⟨o + 1, 0, none⟩ = some (.pointer (some ⟨o, 0, none⟩)) := (bW.cell (p := ⟨o + 1, 0, none⟩) (by show o + 1 < _; omega)).trans pc
  rw [← hW0]
  have ow : w.heap.size ≤ o := by rw [hO]; exact hbw.size
  clear hW0 bW bb pc zb hO hbw
  obtain ⟨m, hm⟩ := hL.ml
  have ml0 : 2 < w.heap.size := block_lt_of_cell hm
  have xl : xs.length ≤ 3000 := by
    have := congrArg List.length hx
    rw [List.length_map] at this
    have := M.lnR_len text
    omega
  refine wpIn_rangeFunc_ownF rfl (by omega) (gf := 90) (lb := #[.pointer (some ⟨o + 1 + 1 + 1, 0, none⟩)]) rfl trivial (enters_of Tryz.func90 (by kernel_rfl) rfl)
    (lines_stops (fun x => bs (ln x)) xs (bs text) (by rw [bs_list, ← hx, List.map_map]; rfl) (by omega) (o + 1 + 1 + 1) w.heap.size m W0 bx (by omega) ((b0.cell (p := ⟨2, 0, none⟩) ml0).trans hm) ml0 b0.size _ (by omega)) belowK_t (belowK_b b0.size) (Below.refl _ _) (fun _ => rfl)
    (fun pre W => ((∃ R, BdW (o + 1 + 1) (o + 1 + 1) R (M.outR out pre) W) ∧ W.cell? ⟨o + 1, 0, none⟩ = some (.pointer (some ⟨o, 0, none⟩))) ∧ Below w.heap.size w W)
    (fun _ _ _ => False)
    (OwnFrom.and (Own.from (fun s A B row hs hg hr => ⟨hs.1.elim fun R h => ⟨R, h.grown hg hr⟩, cell_kept hs.2 hg hr⟩) _) (ownFrom_below (Nat.le_refl _) b0.size))
    (fun _ _ _ _ _ hs _ _ => hs)
    ⟨⟨⟨_, bd0⟩, p0⟩, b0⟩
    (fun x => { tmps := #[.string (bs text), undef, .string ⟨#[]⟩, .pointer (some ⟨o + 1, 0, none⟩), .pointer (some ⟨o + 1 + 1, 0, none⟩), .string (bs (ln x)), .string (bs text), .int .i64 text.length, .bool (decide ((3000 : Int) < (text.length : Int))), .agg #[.int .i64 (-1), .int .i64 0, .int .i64 0, .int .i64 0, .bool false, .int .i64 0], .slice (some ⟨w.heap.size, 0, none⟩) 1 1, .pointer (some ⟨s1, 0, none⟩), .agg #[.slice none 0 0, .slice (some ⟨w.heap.size, 0, none⟩) 1 1, .pointer (some ⟨s1, 0, none⟩)], .pointer (some ⟨o, 0, none⟩), .string (bs text), .func (.func 90) #[] #[.pointer (some ⟨o + 1 + 1 + 1, 0, none⟩)], .string (bs (ln x)), undef, undef, undef, undef, undef, undef], defers := [] }) ?assign ?body ?done ?stop
  case assign =>
    intro l x W K hK
    gi_wp2
    exact hK
  case body =>
    rintro l pre x W ⟨⟨⟨R, hb⟩, hp⟩, hB⟩ hlt
    have blt : o + 1 + 1 < W.heap.size := hb.blt
    have lnP : (M.outR out pre).length ≤ 3000 * 1001 := by
      have := M.outR_len ho pre
      have : pre.length * 1001 ≤ 3000 * 1001 := Nat.mul_le_mul_right _ (by omega)
      omega
    have AN := hide (hA x W o hB)
    have W1 : Hid (∀ V, Below W.heap.size W V → Calls Tryz.prog 50 #[.pointer (some ⟨o + 1 + 1, 0, none⟩), .string (bs (out x))] V fun e w' => e = .returned (.tuple #[.int .i64 (bs (out x)).size, .nilIface]) ∧ ∃ R', BdW (o + 1 + 1) (o + 1 + 1) R' (M.outR out pre ++ (bs (out x)).data.toList) w' ∧ Below (o + 1 + 1) V w' ∧ V.heap.size ≤ w'.heap.size ∧ ∀ q, q < V.heap.size → ¬ R q → ¬ R' q ∧ w'.heap[q]? = V.heap[q]?) := fun V hV =>
      bd_write (hb.keep fun q hq => hV.block q (hb.lt hq).2) (bs (out x)) (by rw [bs_size]; have := ho x; omega) (by have := hV.size; omega)
    have W2 : Hid (∀ V R', BdW (o + 1 + 1) (o + 1 + 1) R' (M.outR out pre ++ (bs (out x)).data.toList) V → Calls Tryz.prog 50 #[.pointer (some ⟨o + 1 + 1, 0, none⟩), .string ⟨#[10]⟩] V fun e w' => e = .returned (.tuple #[.int .i64 (1 : Nat), .nilIface]) ∧ ∃ R2, BdW (o + 1 + 1) (o + 1 + 1) R2 (M.outR out (pre ++ [x])) w' ∧ Below (o + 1 + 1) V w' ∧ KeepsOthers V w') := fun V R' hV => by
      refine (bd_write hV ⟨#[10]⟩ (by rw [List.length_append, bs_list]; have := ho x; show _ + 1 ≤ _; omega) (Nat.le_of_lt hV.blt)).mono ?_
      rintro e w' ⟨rfl, R2, h2, b2, z2, f2⟩
      refine ⟨rfl, R2, ?_, b2, hV.others z2 fun q h1 h2 => (f2 q h1 h2).2⟩
      rw [bs_list] at h2
      rw [M.outR_snoc]
      exact h2
    gi_wp2_with (first
      | (refine ⟨trivial, ?_⟩; gi_at_call 51; refine (CallsIn.inRound l (callsIn_wide.2 AN.out)).mono ?_; rintro e V2 ⟨rfl, k2⟩)
      | (refine ⟨trivial, ?_⟩; gi_at_call 50; refine (CallsIn.inRound l (callsIn_wide.2 (W1.out V2 k2))).mono ?_; rintro e V3 ⟨rfl, R3, h3, b3, z3, f3⟩; clear W1)
      | (refine ⟨trivial, ?_⟩; gi_at_call 50; refine (CallsIn.inRound l (callsIn_wide.2 (W2.out V3 R3 h3))).mono ?_; rintro e V4 ⟨rfl, R4, h4, b4, ko4⟩; clear W2))
    have lo : w.heap.size ≤ o + 1 + 1 := by omega
    have ko2 : KeepsOthers W V2 := ⟨k2.size, fun k ob hk _ => (k2.block k (Array.getElem?_eq_some_iff.1 hk).1).trans hk⟩
    have ko3 : KeepsOthers V2 V3 := (hb.keep fun q hq => k2.block q (hb.lt hq).2).others z3 fun q h1 h2 => (f3 q h1 h2).2
    have kw : Below w.heap.size W V4 := (k2.mono hB.size).trans ((b3.mono lo).trans (b4.mono lo))
    exact ⟨(ko2.trans ko3).trans ko4, kw, ⟨⟨R4, h4⟩, (b4.cell (p := ⟨o + 1, 0, none⟩) (by show o + 1 < o + 1 + 1; omega)).trans ((b3.cell (p := ⟨o + 1, 0, none⟩) (by show o + 1 < o + 1 + 1; omega)).trans ((k2.cell (p := ⟨o + 1, 0, none⟩) (by show o + 1 < W.heap.size; omega)).trans hp))⟩, hB.trans kw⟩
  case done =>
    rintro D ys W hD rfl ⟨⟨⟨R, hb⟩, hp⟩, hB⟩ hK
    have ST := hide (bd_string hb)
    have hnR : ¬ R D := fun h => by
      obtain ⟨c, t, f, h3⟩ := hb.cells h
      rw [h3] at hK
      cases hK
    gi_wp2_with (refine ⟨trivial, ?_⟩; gi_at_call 52; refine (callsIn_wide.2 ST.out).mono ?_; rintro e V2 ⟨rfl, k2, f2⟩)
    have hK' : V2.heap[D]? = some (.deferred (some [])) := (f2 D hnR).trans hK
    have kw : Below w.heap.size w V2 := hB.trans (k2.mono (by omega))
    refine ⟨by simp, .inl ⟨_, _, rfl, run_takeDeferred hK', ?_⟩⟩
    exact ⟨_, results_tmp rfl _ _ _, rfl, kw.trans (belowK_b (w := w) (Nat.le_refl _) V2 D _ _ (by omega) hK' rfl rfl)⟩
  case stop =>
    rintro D c pre W _ _ h _
    exact h.elim

end Go.Proofs.YtiggkjkjfnlfkaaGreatDoor
