/-
  Nodes of a tree, where they lie; no condition beyond those named.
-/
import Derived.Test.YtiggkjkjfnlfkaaGreatDoorBase
import Derived.Test.YtiggkjkjfnlfkaaGreatDoorMathQ
import Derived.Deep.Matrix
import Derived.Deep.Strs
namespace Go.Proofs.YtiggkjkjfnlfkaaGreatDoor
open Go.ChangeShapes Go.WideShapes Go.ChangeAt Go.RowKit Go.Deep
set_option linter.unusedVariables false

def ndV (n : M.Nd) : Value := .agg #[.int .i64 (M.nf n), .int .i64 (M.nc n), .int .i64 (M.nl n), .int .i64 (M.nr n), .bool (M.ns n), .int .i64 (M.nv n)]
/-- a node's six cells -/
def SixAt (w : World) (b off : Nat) (n : M.Nd) : Prop :=
  w.cell? ⟨b, off, none⟩ = some (.int .i64 (M.nf n)) ∧ w.cell? ⟨b, off + 1, none⟩ = some (.int .i64 (M.nc n)) ∧ w.cell? ⟨b, off + 2, none⟩ = some (.int .i64 (M.nl n)) ∧
  w.cell? ⟨b, off + 3, none⟩ = some (.int .i64 (M.nr n)) ∧ w.cell? ⟨b, off + 4, none⟩ = some (.bool (M.ns n)) ∧ w.cell? ⟨b, off + 5, none⟩ = some (.int .i64 (M.nv n))
theorem SixAt.below {w w' : World} {b off : Nat} {n : M.Nd} {B : Nat} (h : SixAt w b off n) (hb : Below B w w') (hl : b < B) : SixAt w' b off n := by
  obtain ⟨h0, h1, h2, h3, h4, h5⟩ := h
  exact ⟨(hb.cell (p := ⟨b, off, none⟩) hl).trans h0, (hb.cell (p := ⟨b, off + 1, none⟩) hl).trans h1, (hb.cell (p := ⟨b, off + 2, none⟩) hl).trans h2,
    (hb.cell (p := ⟨b, off + 3, none⟩) hl).trans h3, (hb.cell (p := ⟨b, off + 4, none⟩) hl).trans h4, (hb.cell (p := ⟨b, off + 5, none⟩) hl).trans h5⟩
/-- nodes, where they lie -/
def RdN (w : World) (a : Option Addr) (ts : List M.Nd) : Prop :=
  ts.length ≤ maxLen ∧ (ts ≠ [] → ∃ b off, a = some ⟨b, off, none⟩ ∧ b < w.heap.size ∧ ∀ i, i < ts.length → SixAt w b (off + i * 6) (M.nAt ts i))
theorem RdN.below {w w' : World} {a : Option Addr} {ts : List M.Nd} (h : RdN w a ts) (hb : Below w.heap.size w w') : RdN w' a ts :=
  ⟨h.1, fun hn => by
    obtain ⟨b, off, e, hl, hc⟩ := h.2 hn
    exact ⟨b, off, e, Nat.lt_of_lt_of_le hl hb.size, fun i hi => (hc i hi).below hb hl⟩⟩

theorem cellsNode : Tryz.prog.cellsOf 113 = 6 := by kernel_rfl
theorem cellsInt : Tryz.prog.cellsOf 3 = 1 := by kernel_rfl
theorem cellsBool : Tryz.prog.cellsOf 4 = 1 := by kernel_rfl
theorem add_flat (b off i : Nat) : (⟨b, off, none⟩ : Addr).add i = ⟨b, off + i, none⟩ := by unfold Addr.add; simp

theorem struct6 {H : Type} {enc : TypeId × Value → H} {P : Program} {w : World} {base : Nat} {spare : Nat → Bool} {held : Bool} {t : TypeId} {f0 f1 f2 f3 f4 f5 : Field} {fuel : Nat} {cs : List Value} {x : DataW H × List MemPlace} (ht : P.underlying t = some (.struct #[f0, f1, f2, f3, f4, f5]))
    (h : DataW.trod enc P w base spare held fuel t cs = some x) :
    ∃ y0 y1 y2 y3 y4 y5 n, DataW.trod enc P w base spare held n f0.type ((cs.drop f0.offset).take (P.cellsOf f0.type)) = some y0 ∧
      DataW.trod enc P w base spare held n f1.type ((cs.drop f1.offset).take (P.cellsOf f1.type)) = some y1 ∧ DataW.trod enc P w base spare held n f2.type ((cs.drop f2.offset).take (P.cellsOf f2.type)) = some y2 ∧
      DataW.trod enc P w base spare held n f3.type ((cs.drop f3.offset).take (P.cellsOf f3.type)) = some y3 ∧ DataW.trod enc P w base spare held n f4.type ((cs.drop f4.offset).take (P.cellsOf f4.type)) = some y4 ∧
      DataW.trod enc P w base spare held n f5.type ((cs.drop f5.offset).take (P.cellsOf f5.type)) = some y5 := by
  obtain ⟨xs, n, _, rfl, hl, hlen, hf⟩ := DataW.trod_struct ht h
  match xs, hlen with
  | [y0, y1, y2, y3, y4, y5], _ => exact ⟨y0, y1, y2, y3, y4, y5, n, by simpa using hf 0 f0 rfl, by simpa using hf 1 f1 rfl, by simpa using hf 2 f2 rfl, by simpa using hf 3 f3 rfl, by simpa using hf 4 f4 rfl, by simpa using hf 5 f5 rfl⟩

theorem open_nodes {H : Type} {enc : TypeId × Value → H} {W : World} {base : Nat} {spare : Nat → Bool} {held : Bool} {fuel : Nat} {a : Option Addr} {len cap : Nat} {x : DataW H × List MemPlace}
    (h : DataW.trod enc Tryz.prog W base spare held fuel 110 [.slice a len cap] = some x) : ∃ ts : List M.Nd, ts.length = len ∧ RdN W a ts := by
  rcases open_slice Tryz.underlying110 h with ⟨hcs, _⟩ | ⟨a', len', cap', m, n, D, Pl, hcs, _, hl, hm, hmm, _, hx⟩
  · cases hcs
    exact ⟨[], rfl, ⟨Nat.zero_le _, fun h => absurd rfl h⟩⟩
  · cases hcs
    have hlm : len ≤ m := by rw [hmm]; split <;> omega
    have each : ∀ i, i < len → ∃ n : M.Nd, W.cell? (a'.add (i * 6)) = some (.int .i64 (M.nf n)) ∧ W.cell? (a'.add (i * 6 + 1)) = some (.int .i64 (M.nc n)) ∧ W.cell? (a'.add (i * 6 + 2)) = some (.int .i64 (M.nl n)) ∧
        W.cell? (a'.add (i * 6 + 3)) = some (.int .i64 (M.nr n)) ∧ W.cell? (a'.add (i * 6 + 4)) = some (.bool (M.ns n)) ∧ W.cell? (a'.add (i * 6 + 5)) = some (.int .i64 (M.nv n)) := by
      intro i hi
      obtain ⟨cs, h1, h2⟩ := hx i (by omega)
      rw [cellsNode] at h1
      obtain ⟨_, hlen, hcell⟩ := World.cells?_some h1
      obtain ⟨y0, y1, y2, y3, y4, y5, k, g0, g1, g2, g3, g4, g5⟩ := struct6 Tryz.underlying113 h2
      rw [cellsInt] at g0 g1 g2 g3 g5
      rw [cellsBool] at g4
      match cs, hlen with
      | [c0, c1, c2, c3, c4, c5], _ =>
        obtain ⟨n0, e0, _⟩ := DataW.trod_int Tryz.underlying3 g0
        obtain ⟨n1, e1, _⟩ := DataW.trod_int Tryz.underlying3 g1
        obtain ⟨n2, e2, _⟩ := DataW.trod_int Tryz.underlying3 g2
        obtain ⟨n3, e3, _⟩ := DataW.trod_int Tryz.underlying3 g3
        obtain ⟨n4, e4, _⟩ := DataW.trod_bool Tryz.underlying4 g4
        obtain ⟨n5, e5, _⟩ := DataW.trod_int Tryz.underlying3 g5
        simp at e0 e1 e2 e3 e4 e5
        have d0 := hcell 0 (by omega)
        have d1 := hcell 1 (by omega)
        have d2 := hcell 2 (by omega)
        have d3 := hcell 3 (by omega)
        have d4 := hcell 4 (by omega)
        have d5 := hcell 5 (by omega)
        rw [add_add] at d0 d1 d2 d3 d4 d5
        refine ⟨(n0, n1, n2, n3, n4, n5), ?_, ?_, ?_, ?_, ?_, ?_⟩
        · simpa [e0, M.nf] using d0
        · simpa [e1, M.nc] using d1
        · simpa [e2, M.nl] using d2
        · simpa [e3, M.nr] using d3
        · simpa [e4, M.ns] using d4
        · simpa [e5, M.nv] using d5
    obtain ⟨f, hf⟩ := choose_lt each
    refine ⟨(List.range len).map f, by simp, ⟨by simp; omega, fun hne => ?_⟩⟩
    have hp : 0 < len := by
      rcases Nat.eq_zero_or_pos len with h0 | h0
      · subst h0; exact absurd rfl hne
      · exact h0
    obtain ⟨b, off, spot⟩ := a'
    have hspot : spot = none := by
      have := World.cell?_spot (hf 0 hp).1
      simpa [Addr.add] using this
    subst hspot
    refine ⟨b, off, rfl, ?_, fun i hi => ?_⟩
    · have := (hf 0 hp).1
      rw [add_flat] at this
      exact block_lt_of_cell this
    · have hi' : i < len := by simpa using hi
      obtain ⟨q0, q1, q2, q3, q4, q5⟩ := hf i hi'
      rw [add_flat] at q0 q1 q2 q3 q4 q5
      have e : M.nAt ((List.range len).map f) i = f i := by unfold M.nAt; simp [List.getD, hi']
      rw [e]
      refine ⟨q0, ?_, ?_, ?_, ?_, ?_⟩
      · rw [Nat.add_assoc]; exact q1
      · rw [Nat.add_assoc]; exact q2
      · rw [Nat.add_assoc]; exact q3
      · rw [Nat.add_assoc]; exact q4
      · rw [Nat.add_assoc]; exact q5

end Go.Proofs.YtiggkjkjfnlfkaaGreatDoor
