/-
  Several texts as one: CaOpen, CaUp.
-/
import Derived.Test.YtjjfmepinpmkfaaDoorRunP6
import Derived.Test.YtjjfmepinpmkfaaDoorRunP1
import Derived.ChangeSame
import Derived.Deep.AppendLies
import Derived.Lib.SmallJoins
import Derived.Test.YtjjfmepinpmkfaaDoorRows
namespace Go.Proofs.YtjjfmepinpmkfaaDoor
open Go.ChangeShapes Go.WideShapes Go.ChangeAt Go.RowKit Go.Lib Go.Deep
set_option linter.unusedVariables false
theorem cellsCall : Tryd.prog.cellsOf 33 = 7 := by kernel_rfl
theorem cellsI3 : Tryd.prog.cellsOf 3 = 1 := by kernel_rfl
theorem cellsS9 : Tryd.prog.cellsOf 9 = 1 := by kernel_rfl
theorem cellsB8 : Tryd.prog.cellsOf 27 = 1 := by kernel_rfl
theorem struct7 {H : Type} {enc : TypeId × Value → H} {P : Program} {w : World} {base : Nat} {spare : Nat → Bool} {held : Bool} {t : TypeId} {f0 f1 f2 f3 f4 f5 f6 : Field} {fuel : Nat} {cs : List Value} {x : DataW H × List MemPlace} (ht : P.underlying t = some (.struct #[f0, f1, f2, f3, f4, f5, f6]))
    (h : DataW.trod enc P w base spare held fuel t cs = some x) :
    ∃ y0 y1 y2 y3 y4 y5 y6 n, DataW.trod enc P w base spare held n f0.type ((cs.drop f0.offset).take (P.cellsOf f0.type)) = some y0 ∧
      DataW.trod enc P w base spare held n f1.type ((cs.drop f1.offset).take (P.cellsOf f1.type)) = some y1 ∧ DataW.trod enc P w base spare held n f2.type ((cs.drop f2.offset).take (P.cellsOf f2.type)) = some y2 ∧
      DataW.trod enc P w base spare held n f3.type ((cs.drop f3.offset).take (P.cellsOf f3.type)) = some y3 ∧ DataW.trod enc P w base spare held n f4.type ((cs.drop f4.offset).take (P.cellsOf f4.type)) = some y4 ∧
      DataW.trod enc P w base spare held n f5.type ((cs.drop f5.offset).take (P.cellsOf f5.type)) = some y5 ∧ DataW.trod enc P w base spare held n f6.type ((cs.drop f6.offset).take (P.cellsOf f6.type)) = some y6 := by
  obtain ⟨xs, n, _, rfl, hl, hlen, hf⟩ := DataW.trod_struct ht h
  match xs, hlen with
  | [y0, y1, y2, y3, y4, y5, y6], _ => exact ⟨y0, y1, y2, y3, y4, y5, y6, n, by simpa using hf 0 f0 rfl, by simpa using hf 1 f1 rfl, by simpa using hf 2 f2 rfl, by simpa using hf 3 f3 rfl, by simpa using hf 4 f4 rfl, by simpa using hf 5 f5 rfl, by simpa using hf 6 f6 rfl⟩
theorem str_is (s : ByteArray) : byStr (s.data.toList.map UInt8.toNat) = s := by
  refine bytes_inj ?_
  rw [byStr_list, List.map_map]
  conv => rhs; rw [← List.map_id s.data.toList]
  exact List.map_congr_left (fun z _ => by simp)
theorem str_isB (s : ByteArray) : isB (s.data.toList.map UInt8.toNat) := fun x hx => by
  obtain ⟨u, _, rfl⟩ := List.mem_map.1 hx
  exact u.toNat_lt
set_option maxHeartbeats 2000000 in
theorem open_calls {H : Type} {enc : TypeId × Value → H} {W : World} {base : Nat} {held : Bool} {fuel : Nat} {a : Option Addr} {len cap : Nat} {x : DataW H × List MemPlace}
    (h : DataW.trod enc Tryd.prog W base (fun _ => true) held fuel 22 [.slice a len cap] = some x) : ∃ l : List CaC, l.length = len ∧ RdC W a l := by
  rcases open_slice Tryd.underlying22 h with ⟨hcs, _⟩ | ⟨a', len', cap', m, n, D, Pl, hcs, _, hl, hm, hmm, _, hx⟩
  · cases hcs
    exact ⟨[], rfl, ⟨Nat.zero_le _, (fun k hk => by cases hk), fun h => absurd rfl h⟩⟩
  · cases hcs
    have hlm : len ≤ m := by rw [hmm]; split <;> omega
    have each : ∀ i, i < len → ∃ k : CaC, CaIn W k.1 k.2.1 k.2.2 ∧ W.cell? (a'.add (i * 7)) = some (.int .i64 k.1.what) ∧ W.cell? (a'.add (i * 7 + 1)) = some (.int .i64 k.1.ses) ∧ W.cell? (a'.add (i * 7 + 2)) = some (.int .i64 k.1.seq) ∧ W.cell? (a'.add (i * 7 + 3)) = some (.string (byStr k.1.name)) ∧ W.cell? (a'.add (i * 7 + 4)) = some (.int .i64 k.1.num) ∧ W.cell? (a'.add (i * 7 + 5)) = some (.int .i64 k.1.share) ∧ W.cell? (a'.add (i * 7 + 6)) = some (.slice k.2.1 k.1.bys.length k.2.2) := by
      intro i hi
      obtain ⟨cs, h1, h2⟩ := hx i (by omega)
      rw [cellsCall] at h1
      obtain ⟨_, hlen, hcell⟩ := World.cells?_some h1
      obtain ⟨y0, y1, y2, y3, y4, y5, y6, k, g0, g1, g2, g3, g4, g5, g6⟩ := struct7 Tryd.underlying33 h2
      rw [cellsI3] at g0 g1 g2 g4 g5
      rw [cellsS9] at g3
      rw [cellsB8] at g6
      match cs, hlen with
      | [c0, c1, c2, c3, c4, c5, c6], _ =>
        obtain ⟨n0, e0, _⟩ := DataW.trod_int Tryd.underlying3 g0
        obtain ⟨n1, e1, _⟩ := DataW.trod_int Tryd.underlying3 g1
        obtain ⟨n2, e2, _⟩ := DataW.trod_int Tryd.underlying3 g2
        obtain ⟨s3, e3, _, z3⟩ := DataW.trod_string Tryd.underlying9 g3
        obtain ⟨n4, e4, _, w4⟩ := DataW.trod_int Tryd.underlying3 g4
        obtain ⟨n5, e5, _, w5⟩ := DataW.trod_int Tryd.underlying3 g5
        simp at e0 e1 e2 e3 e4 e5
        have sl : ∃ b l c, c6 = .slice b l c := by
          rcases open_slice Tryd.underlying27 g6 with ⟨hcs, _⟩ | ⟨a2, len2, cap2, _, _, _, _, hcs, _⟩
          · exact ⟨none, 0, 0, by simpa using hcs⟩
          · exact ⟨some a2, len2, cap2, by simpa using hcs⟩
        obtain ⟨b, l, c, rfl⟩ := sl
        have g6' : DataW.trod enc Tryd.prog W base (fun _ => true) held k 27 [.slice b l c] = some y6 := g6
        obtain ⟨bs, eb, rb, lb, cb, nb, _⟩ := open_bytes8 g6'
        have d0 := hcell 0 (by omega)
        have d1 := hcell 1 (by omega)
        have d2 := hcell 2 (by omega)
        have d3 := hcell 3 (by omega)
        have d4 := hcell 4 (by omega)
        have d5 := hcell 5 (by omega)
        have d6 := hcell 6 (by omega)
        rw [add_add] at d0 d1 d2 d3 d4 d5 d6
        subst eb
        refine ⟨(⟨n0, n1, n2, s3.data.toList.map UInt8.toNat, n4, n5, bs⟩, b, c), ⟨str_isB s3, ?_, rb, lb, cb, int_wf w4, int_wf w5, nb⟩, ?_, ?_, ?_, ?_, ?_, ?_, ?_⟩
        · have q : (s3.data.toList.map UInt8.toNat).length = s3.size := by simp
          show (s3.data.toList.map UInt8.toNat).length ≤ _
          rw [q]
          unfold maxLen at z3
          omega
        · simpa [e0] using d0
        · simpa [e1] using d1
        · simpa [e2] using d2
        · show W.cell? (a'.add (i * 7 + 3)) = some (.string (byStr (s3.data.toList.map UInt8.toNat)))
          rw [str_is]
          simpa [e3] using d3
        · simpa [e4] using d4
        · simpa [e5] using d5
        · simpa using d6
    have inh : Inhabited CaC := ⟨ca0⟩
    obtain ⟨f, hf⟩ := choose_lt each
    refine ⟨(List.range len).map f, by simp, ⟨by simp; omega, fun k hk => ?_, fun hne => ?_⟩⟩
    · rw [List.mem_map] at hk
      obtain ⟨i, hi, rfl⟩ := hk
      exact (hf i (by simpa using hi)).1
    have hp : 0 < len := by
      rcases Nat.eq_zero_or_pos len with h0 | h0
      · subst h0; exact absurd rfl hne
      · exact h0
    obtain ⟨b, off, spot⟩ := a'
    have hspot : spot = none := by
      have := World.cell?_spot (hf 0 hp).2.1
      simpa [Addr.add] using this
    subst hspot
    have add_flat : ∀ i, (⟨b, off, none⟩ : Addr).add i = ⟨b, off + i, none⟩ := fun i => by unfold Addr.add; simp
    refine ⟨b, off, rfl, ?_, fun i hi => ?_⟩
    · have := (hf 0 hp).2.1
      rw [add_flat] at this
      exact block_lt_of_cell this
    · have hi' : i < len := by simpa using hi
      obtain ⟨_, q0, q1, q2, q3, q4, q5, q6⟩ := hf i hi'
      rw [add_flat] at q0 q1 q2 q3 q4 q5 q6
      have e : ((List.range len).map f).getD i ca0 = f i := by simp [List.getD, hi']
      rw [e]
      refine ⟨q0, ?_, ?_, ?_, ?_, ?_, ?_⟩
      · rw [Nat.add_assoc]; exact q1
      · rw [Nat.add_assoc]; exact q2
      · rw [Nat.add_assoc]; exact q3
      · rw [Nat.add_assoc]; exact q4
      · rw [Nat.add_assoc]; exact q5
      · rw [Nat.add_assoc]; exact q6
theorem drop_one {α : Type} {l : List α} {n : Nat} {v : α} (h : l[n]? = some v) : (l.drop n).take 1 = [v] := by
  obtain ⟨hn, e⟩ := List.getElem?_eq_some_iff.1 h
  rw [List.drop_eq_getElem_cons hn, e]
  rfl
theorem bulk_one {H : Type} (d : DataW H) : 1 ≤ Rows.uptoBulk d := by
  cases d with
  | lit a =>
    cases a with
    | string b => simp only [Rows.uptoBulk]; omega
    | _ => simp only [Rows.uptoBulk]; omega
  | _ => simp only [Rows.uptoBulk]; omega
theorem bulk_mem {H : Type} : ∀ (l : List (DataW H)) (d : DataW H), d ∈ l → Rows.uptoBulk d ≤ Rows.uptoBulkAll l
  | [], d, h => by cases h
  | x :: l, d, h => by
    simp only [Rows.uptoBulkAll]
    rcases List.mem_cons.1 h with e | e
    · subst e; omega
    · have := bulk_mem l d e; omega
theorem bulk_len {H : Type} : ∀ (l : List (DataW H)), l.length ≤ Rows.uptoBulkAll l
  | [] => Nat.zero_le _
  | x :: l => by
    have a := bulk_one x
    have b := bulk_len l
    simp only [Rows.uptoBulkAll, List.length_cons]
    omega
theorem calls_small {H : Type} {enc : TypeId × Value → H} {W : World} {base : Nat} {held : Bool} {fuel : Nat} {a : Option Addr} {len cap : Nat} {x : DataW H × List MemPlace}
    (h : DataW.trod enc Tryd.prog W base (fun _ => true) held fuel 22 [.slice a len cap] = some x) {l : List CaC} (hl : l.length = len) (hr : RdC W a l) {N : Nat} (hN : Rows.uptoBulk x.1 ≤ N) : ∀ k ∈ l, k.1.name.length ≤ N ∧ k.1.bys.length ≤ N := by
  intro k hk
  obtain ⟨i, hi, ek⟩ := List.getElem_of_mem hk
  rcases open_slice Tryd.underlying22 h with ⟨hcs, _⟩ | ⟨a', len', cap', m, n, D, Pl, hcs, _, hle, hm, hmm, ex, hx⟩
  · cases hcs
    omega
  · cases hcs
    have hlm : len ≤ m := by rw [hmm]; split <;> omega
    obtain ⟨b, off, e, hb, hc⟩ := hr.2.2 (by intro e; rw [e] at hk; cases hk)
    cases e
    obtain ⟨s0, s1, s2, s3, s4, s5, s6⟩ := hc i hi
    have eg : l.getD i ca0 = k := by rw [List.getD, List.getElem?_eq_getElem hi]; exact ek
    rw [eg] at s3 s6
    obtain ⟨cs, h1, h2⟩ := hx i (by omega)
    rw [cellsCall] at h1
    obtain ⟨_, hlen, hcell⟩ := World.cells?_some h1
    obtain ⟨xs, nn, _, ed, hl2, hlx, hf⟩ := DataW.trod_struct Tryd.underlying33 h2
    have ed1 : D i = .agg (xs.map (·.1)) := congrArg Prod.fst ed
    have big : Rows.uptoBulk (D i) ≤ N := by
      rw [ex] at hN
      have := bulk_mem ((List.range len).map D) (D i) (List.mem_map.2 ⟨i, List.mem_range.2 (by omega), rfl⟩)
      simp only [Rows.uptoBulk] at hN
      omega
    rw [ed1] at big
    simp only [Rows.uptoBulk] at big
    have hx7 : xs.length = 7 := hlx
    have g3 := hf 3 _ rfl
    have g6 := hf 6 _ rfl
    have d3 := hcell 3 (by show 3 < 7; omega)
    have d6 := hcell 6 (by show 6 < 7; omega)
    rw [add_add] at d3 d6
    have ea : ∀ j, (⟨b, off, none⟩ : Addr).add j = ⟨b, off + j, none⟩ := fun j => by unfold Addr.add; simp
    rw [ea, ← Nat.add_assoc] at d3 d6
    rw [s3] at d3
    rw [s6] at d6
    have t3 := drop_one d3.symm
    have t6 := drop_one d6.symm
    rw [List.getElem?_eq_getElem (by omega : 3 < xs.length)] at g3
    rw [List.getElem?_eq_getElem (by omega : 6 < xs.length)] at g6
    have b3 := bulk_mem (xs.map (·.1)) xs[3].1 (List.mem_map.2 ⟨xs[3], List.getElem_mem _, rfl⟩)
    have b6 := bulk_mem (xs.map (·.1)) xs[6].1 (List.mem_map.2 ⟨xs[6], List.getElem_mem _, rfl⟩)
    have g3' : DataW.trod enc Tryd.prog W base (fun _ => true) held nn 9 ((cs.drop 3).take (Tryd.prog.cellsOf 9)) = some xs[3] := g3
    have g6' : DataW.trod enc Tryd.prog W base (fun _ => true) held nn 27 ((cs.drop 6).take (Tryd.prog.cellsOf 27)) = some xs[6] := g6
    rw [cellsS9, t3] at g3'
    rw [cellsB8, t6] at g6'
    generalize xs[3] = y3 at *
    generalize xs[6] = y6 at *
    constructor
    · obtain ⟨st, et, er, z3⟩ := DataW.trod_string Tryd.underlying9 g3'
      rw [er] at b3
      have es : st = byStr k.1.name := by
        injection et with e1 e2
        injection e1 with e3
        exact e3.symm
      have ez : k.1.name.length = st.data.toList.length := by
        rw [es, byStr_list]
        simp
      simp only [Rows.uptoBulk] at b3
      omega
    · obtain ⟨bs, eb, rb, lb, cb, nb, zz⟩ := open_bytes8 g6'
      rcases zz with ⟨_, z0⟩ | ⟨es, sp, ee, ez⟩
      · omega
      · rw [ee] at b6
        simp only [Rows.uptoBulk] at b6
        have := bulk_len es
        omega
end Go.Proofs.YtjjfmepinpmkfaaDoor
