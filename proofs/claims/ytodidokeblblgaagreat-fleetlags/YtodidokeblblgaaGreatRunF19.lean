/-
  Several texts as one: GFill, CaOpen.
-/
import Derived.Test.YtodidokeblblgaaGreatRunF16
import Derived.OwnWalk
import Derived.Test.YtodidokeblblgaaGreatRunF9
import Derived.Test.YtodidokeblblgaaGreatRunF2
import Derived.ChangeSame
import Derived.Deep.AppendLies
import Derived.Lib.SmallJoins
namespace Go.Proofs.YtodidokeblblgaaGreat
open Go.ChangeShapes Go.WideShapes Go.ChangeAt Go.RowKit Go.Lib
set_option linter.unusedVariables false
/-- the first k of a list, the rest still 0 -/
def M.fillK (l : List Int) (k : Nat) : List Int := l.take k ++ List.replicate (l.length - k) 0
theorem M.fillK_len (l : List Int) {k : Nat} (h : k ≤ l.length) : (M.fillK l k).length = l.length := by unfold M.fillK; simp; omega
theorem M.fillK_zero (l : List Int) : M.fillK l 0 = List.replicate l.length 0 := by unfold M.fillK; simp
theorem M.fillK_all (l : List Int) : M.fillK l l.length = l := by unfold M.fillK; simp
theorem M.fillK_set (l : List Int) {k : Nat} (h : k < l.length) : (M.fillK l k).set k (l.getD k 0) = M.fillK l (k + 1) := by
  apply List.ext_getElem?
  intro i
  rw [M.getD_at h]
  unfold M.fillK
  by_cases e : i = k
  · subst e
    rw [List.getElem?_set_self (by simp; omega), List.getElem?_append_left (by simp; omega), List.getElem?_take_of_lt (by omega), List.getElem?_eq_getElem h]
  · rw [List.getElem?_set_ne (fun c => e c.symm)]
    by_cases q : i < k
    · rw [List.getElem?_append_left (by simp; omega), List.getElem?_append_left (by simp; omega), List.getElem?_take_of_lt q, List.getElem?_take_of_lt (by omega)]
    · rw [List.getElem?_append_right (by simp; omega), List.getElem?_append_right (by simp; omega)]
      simp only [List.length_take, List.getElem?_replicate]
      rw [Nat.min_eq_left (by omega), Nat.min_eq_left (by omega)]
      by_cases q2 : i < l.length
      · rw [if_pos (by omega), if_pos (by omega)]
      · rw [if_neg (by omega), if_neg (by omega)]

theorem fillK_own {wr : World} {B g n : Nat} {F : List Int} {k : Nat} (hk : k < F.length)
    (hown : wr.ownsRow B 3 1 (.slice (some ⟨g, 0, none⟩) n n) n ((M.fillK F k).map (Value.int .i64))) :
    (wr.setCell ⟨g, k, none⟩ (.int .i64 (F.getD k 0))).ownsRow B 3 1 (.slice (some ⟨g, 0, none⟩) n n) n ((M.fillK F (k + 1)).map (Value.int .i64)) := by
  have := (hown.stored k (.int .i64 (F.getD k 0))).1
  rw [← M.fillK_set F hk, List.map_set]
  exact this
theorem fillK_cell {wr : World} {B g n : Nat} {F : List Int} {k : Nat} (hk : k < F.length) (hn : F.length = n)
    (hown : wr.ownsRow B 3 1 (.slice (some ⟨g, 0, none⟩) n n) n ((M.fillK F k).map (Value.int .i64))) : ∃ z, wr.cell? ⟨g, k, none⟩ = some (.int .i64 z) := by
  have hl : (M.fillK F k).length = n := by rw [M.fillK_len F (by omega), hn]
  exact ⟨_, own_at hown hl k (by omega)⟩
end Go.Proofs.YtodidokeblblgaaGreat

namespace Go.Proofs.YtodidokeblblgaaGreat
open Go.ChangeShapes Go.WideShapes Go.ChangeAt Go.RowKit Go.Lib Go.Deep
set_option linter.unusedVariables false
theorem cellsCall : Tryz.prog.cellsOf 35 = 7 := by kernel_rfl
theorem cellsI3 : Tryz.prog.cellsOf 3 = 1 := by kernel_rfl
theorem cellsS9 : Tryz.prog.cellsOf 9 = 1 := by kernel_rfl
theorem cellsB8 : Tryz.prog.cellsOf 33 = 1 := by kernel_rfl
theorem struct7 {H : Type} {enc : TypeId × Value → H} {P : Program} {w : World} {base : Nat} {spare : Nat → Bool} {held : Bool} {t : TypeId} {f0 f1 f2 f3 f4 f5 f6 : Field} {fuel : Nat} {cs : List Value} {x : DataW H × List MemPlace} (ht : P.underlying t = some (.struct #[f0, f1, f2, f3, f4, f5, f6]))
    (h : DataW.trod enc P w base spare held fuel t cs = some x) :
    ∃ y0 y1 y2 y3 y4 y5 y6 n, DataW.trod enc P w base spare held n f0.type ((cs.drop f0.offset).take (P.cellsOf f0.type)) = some y0 ∧
      DataW.trod enc P w base spare held n f1.type ((cs.drop f1.offset).take (P.cellsOf f1.type)) = some y1 ∧ DataW.trod enc P w base spare held n f2.type ((cs.drop f2.offset).take (P.cellsOf f2.type)) = some y2 ∧
      DataW.trod enc P w base spare held n f3.type ((cs.drop f3.offset).take (P.cellsOf f3.type)) = some y3 ∧ DataW.trod enc P w base spare held n f4.type ((cs.drop f4.offset).take (P.cellsOf f4.type)) = some y4 ∧
      DataW.trod enc P w base spare held n f5.type ((cs.drop f5.offset).take (P.cellsOf f5.type)) = some y5 ∧ DataW.trod enc P w base spare held n f6.type ((cs.drop f6.offset).take (P.cellsOf f6.type)) = some y6 := by
  obtain ⟨xs, n, _, rfl, hl, hlen, hf⟩ := DataW.trod_struct ht h
  match xs, hlen with
  | [y0, y1, y2, y3, y4, y5, y6], _ => exact ⟨y0, y1, y2, y3, y4, y5, y6, n, by simpa using hf 0 f0 rfl, by simpa using hf 1 f1 rfl, by simpa using hf 2 f2 rfl, by simpa using hf 3 f3 rfl, by simpa using hf 4 f4 rfl, by simpa using hf 5 f5 rfl, by simpa using hf 6 f6 rfl⟩
theorem str_is (s : ByteArray) : byStr (s.data.toList.map UInt8.toNat) = s := by
  refine bytes_inj ?_
  rw [byStr_list, List.map_map]
  conv => rhs; rw [← List.map_id s.data.toList]
  exact List.map_congr_left (fun z _ => by simp)
theorem str_isB (s : ByteArray) : isB (s.data.toList.map UInt8.toNat) := fun x hx => by
  obtain ⟨u, _, rfl⟩ := List.mem_map.1 hx
  exact u.toNat_lt
set_option maxHeartbeats 2000000 in
theorem open_calls {H : Type} {enc : TypeId × Value → H} {W : World} {base : Nat} {held : Bool} {fuel : Nat} {a : Option Addr} {len cap : Nat} {x : DataW H × List MemPlace}
    (h : DataW.trod enc Tryz.prog W base (fun _ => true) held fuel 22 [.slice a len cap] = some x) : ∃ l : List CaC, l.length = len ∧ RdC W a l := by
  rcases open_slice Tryz.underlying22 h with ⟨hcs, _⟩ | ⟨a', len', cap', m, n, D, Pl, hcs, _, hl, hm, hmm, _, hx⟩
  · cases hcs
    exact ⟨[], rfl, ⟨Nat.zero_le _, (fun k hk => by cases hk), fun h => absurd rfl h⟩⟩
  · cases hcs
    have hlm : len ≤ m := by rw [hmm]; split <;> omega
    have each : ∀ i, i < len → ∃ k : CaC, CaIn W k.1 k.2.1 k.2.2 ∧ W.cell? (a'.add (i * 7)) = some (.int .i64 k.1.what) ∧ W.cell? (a'.add (i * 7 + 1)) = some (.int .i64 k.1.ses) ∧ W.cell? (a'.add (i * 7 + 2)) = some (.int .i64 k.1.seq) ∧ W.cell? (a'.add (i * 7 + 3)) = some (.string (byStr k.1.name)) ∧ W.cell? (a'.add (i * 7 + 4)) = some (.int .i64 k.1.num) ∧ W.cell? (a'.add (i * 7 + 5)) = some (.int .i64 k.1.share) ∧ W.cell? (a'.add (i * 7 + 6)) = some (.slice k.2.1 k.1.bys.length k.2.2) := by
      intro i hi
      obtain ⟨cs, h1, h2⟩ := hx i (by omega)
      rw [cellsCall] at h1
      obtain ⟨_, hlen, hcell⟩ := World.cells?_some h1
      obtain ⟨y0, y1, y2, y3, y4, y5, y6, k, g0, g1, g2, g3, g4, g5, g6⟩ := struct7 Tryz.underlying35 h2
      rw [cellsI3] at g0 g1 g2 g4 g5
      rw [cellsS9] at g3
      rw [cellsB8] at g6
      match cs, hlen with
      | [c0, c1, c2, c3, c4, c5, c6], _ =>
        obtain ⟨n0, e0, _⟩ := DataW.trod_int Tryz.underlying3 g0
        obtain ⟨n1, e1, _⟩ := DataW.trod_int Tryz.underlying3 g1
        obtain ⟨n2, e2, _⟩ := DataW.trod_int Tryz.underlying3 g2
        obtain ⟨s3, e3, _, z3⟩ := DataW.trod_string Tryz.underlying9 g3
        obtain ⟨n4, e4, _, w4⟩ := DataW.trod_int Tryz.underlying3 g4
        obtain ⟨n5, e5, _, w5⟩ := DataW.trod_int Tryz.underlying3 g5
        simp at e0 e1 e2 e3 e4 e5
        have sl : ∃ b l c, c6 = .slice b l c := by
          rcases open_slice Tryz.underlying33 g6 with ⟨hcs, _⟩ | ⟨a2, len2, cap2, _, _, _, _, hcs, _⟩
          · exact ⟨none, 0, 0, by simpa using hcs⟩
          · exact ⟨some a2, len2, cap2, by simpa using hcs⟩
        obtain ⟨b, l, c, rfl⟩ := sl
        have g6' : DataW.trod enc Tryz.prog W base (fun _ => true) held k 33 [.slice b l c] = some y6 := g6
        obtain ⟨bs, eb, rb, lb, cb, nb, _⟩ := open_bytes8 g6'
        have d0 := hcell 0 (by omega)
        have d1 := hcell 1 (by omega)
        have d2 := hcell 2 (by omega)
        have d3 := hcell 3 (by omega)
        have d4 := hcell 4 (by omega)
        have d5 := hcell 5 (by omega)
        have d6 := hcell 6 (by omega)
        rw [add_add] at d0 d1 d2 d3 d4 d5 d6
        subst eb
        refine ⟨(⟨n0, n1, n2, s3.data.toList.map UInt8.toNat, n4, n5, bs⟩, b, c), ⟨str_isB s3, ?_, rb, lb, cb, int_wf w4, int_wf w5, nb⟩, ?_, ?_, ?_, ?_, ?_, ?_, ?_⟩
        · have q : (s3.data.toList.map UInt8.toNat).length = s3.size := by simp
          show (s3.data.toList.map UInt8.toNat).length ≤ _
          rw [q]
          unfold maxLen at z3
          omega
        · simpa [e0] using d0
        · simpa [e1] using d1
        · simpa [e2] using d2
        · show W.cell? (a'.add (i * 7 + 3)) = some (.string (byStr (s3.data.toList.map UInt8.toNat)))
          rw [str_is]
          simpa [e3] using d3
        · simpa [e4] using d4
        · simpa [e5] using d5
        · simpa using d6
    have inh : Inhabited CaC := ⟨ca0⟩
    obtain ⟨f, hf⟩ := choose_lt each
    refine ⟨(List.range len).map f, by simp, ⟨by simp; omega, fun k hk => ?_, fun hne => ?_⟩⟩
    · rw [List.mem_map] at hk
      obtain ⟨i, hi, rfl⟩ := hk
      exact (hf i (by simpa using hi)).1
    have hp : 0 < len := by
      rcases Nat.eq_zero_or_pos len with h0 | h0
      · subst h0; exact absurd rfl hne
      · exact h0
    obtain ⟨b, off, spot⟩ := a'
    have hspot : spot = none := by
      have := World.cell?_spot (hf 0 hp).2.1
      simpa [Addr.add] using this
    subst hspot
    have add_flat : ∀ i, (⟨b, off, none⟩ : Addr).add i = ⟨b, off + i, none⟩ := fun i => by unfold Addr.add; simp
    refine ⟨b, off, rfl, ?_, fun i hi => ?_⟩
    · have := (hf 0 hp).2.1
      rw [add_flat] at this
      exact block_lt_of_cell this
    · have hi' : i < len := by simpa using hi
      obtain ⟨_, q0, q1, q2, q3, q4, q5, q6⟩ := hf i hi'
      rw [add_flat] at q0 q1 q2 q3 q4 q5 q6
      have e : ((List.range len).map f).getD i ca0 = f i := by simp [List.getD, hi']
      rw [e]
      refine ⟨q0, ?_, ?_, ?_, ?_, ?_, ?_⟩
      · rw [Nat.add_assoc]; exact q1
      · rw [Nat.add_assoc]; exact q2
      · rw [Nat.add_assoc]; exact q3
      · rw [Nat.add_assoc]; exact q4
      · rw [Nat.add_assoc]; exact q5
      · rw [Nat.add_assoc]; exact q6
end Go.Proofs.YtodidokeblblgaaGreat
