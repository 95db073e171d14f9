/-
  Samples, where they lie: their rows and their targets; no condition beyond those named.
-/
import Derived.Test.YtiggkjkjfnlfkaaGreatDoorNodes
import Derived.Test.YtiggkjkjfnlfkaaGreatDoorMathSc
namespace Go.Proofs.YtiggkjkjfnlfkaaGreatDoor
open Go.ChangeShapes Go.WideShapes Go.ChangeAt Go.RowKit Go.Deep
set_option linter.unusedVariables false

/-- a sample: where its row lies, the row, the room, the target -/
abbrev Sx := Option Addr × List Int × Nat × Int
def sxV (x : Sx) : Value := .slice x.1 x.2.1.length x.2.2.1
def sm (x : Sx) : M.Sa := (x.2.1, x.2.2.2)
def sms (xs : List Sx) : List M.Sa := xs.map sm
theorem sms_len (xs : List Sx) : (sms xs).length = xs.length := by simp [sms]
theorem sms_at (xs : List Sx) {k : Nat} (h : k < xs.length) : M.sAt (sms xs) k = sm xs[k] := by
  unfold M.sAt; rw [M.getD_at (by rw [sms_len]; exact h)]; simp [sms]
/-- samples, where they lie -/
def RdL (w : World) (a : Option Addr) (xs : List Sx) : Prop :=
  xs.length ≤ maxLen ∧ (∀ x ∈ xs, Rd w x.1 x.2.1) ∧ (xs ≠ [] → ∃ b off, a = some ⟨b, off, none⟩ ∧ b < w.heap.size ∧ ∀ i (h : i < xs.length), w.cell? ⟨b, off + i * 2, none⟩ = some (sxV xs[i]) ∧ w.cell? ⟨b, off + i * 2 + 1, none⟩ = some (.int .i64 xs[i].2.2.2))
theorem RdL.below {w w' : World} {a : Option Addr} {xs : List Sx} (h : RdL w a xs) (hb : Below w.heap.size w w') : RdL w' a xs :=
  ⟨h.1, fun x hx => (h.2.1 x hx).below hb, fun hn => by
    obtain ⟨b, off, e, hl, hc⟩ := h.2.2 hn
    exact ⟨b, off, e, Nat.lt_of_lt_of_le hl hb.size, fun i hi => ⟨(hb.cell (p := ⟨b, off + i * 2, none⟩) hl).trans (hc i hi).1, (hb.cell (p := ⟨b, off + i * 2 + 1, none⟩) hl).trans (hc i hi).2⟩⟩⟩
theorem cellsSam : Tryz.prog.cellsOf 137 = 2 := by kernel_rfl
theorem cellsInts : Tryz.prog.cellsOf 50 = 1 := by kernel_rfl
theorem struct2 {H : Type} {enc : TypeId × Value → H} {P : Program} {w : World} {base : Nat} {spare : Nat → Bool} {held : Bool} {t : TypeId} {f0 f1 : Field} {fuel : Nat} {cs : List Value} {x : DataW H × List MemPlace} (ht : P.underlying t = some (.struct #[f0, f1]))
    (h : DataW.trod enc P w base spare held fuel t cs = some x) :
    ∃ y0 y1 n, DataW.trod enc P w base spare held n f0.type ((cs.drop f0.offset).take (P.cellsOf f0.type)) = some y0 ∧ DataW.trod enc P w base spare held n f1.type ((cs.drop f1.offset).take (P.cellsOf f1.type)) = some y1 := by
  obtain ⟨xs, n, _, rfl, hl, hlen, hf⟩ := DataW.trod_struct ht h
  match xs, hlen with
  | [y0, y1], _ => exact ⟨y0, y1, n, by simpa using hf 0 f0 rfl, by simpa using hf 1 f1 rfl⟩
set_option maxRecDepth 10000 in
theorem open_samples {H : Type} {enc : TypeId × Value → H} {W : World} {base : Nat} {held : Bool} {fuel : Nat} {a : Option Addr} {len cap : Nat} {x : DataW H × List MemPlace}
    (h : DataW.trod enc Tryz.prog W base (fun _ => true) held fuel 114 [.slice a len cap] = some x) : ∃ xs : List Sx, xs.length = len ∧ RdL W a xs := by
  rcases open_slice Tryz.underlying114 h with ⟨hcs, _⟩ | ⟨a', len', cap', m, n, D, Pl, hcs, _, hl, hm, hmm, _, hx⟩
  · cases hcs
    exact ⟨[], rfl, ⟨Nat.zero_le _, (fun k hk => by cases hk), fun h => absurd rfl h⟩⟩
  · cases hcs
    have hlm : len ≤ m := by rw [hmm]; split <;> omega
    have each : ∀ i, i < len → ∃ k : Sx, (W.cell? (a'.add (i * 2)) = some (sxV k) ∧ W.cell? (a'.add (i * 2 + 1)) = some (.int .i64 k.2.2.2)) ∧ Rd W k.1 k.2.1 := by
      intro i hi
      obtain ⟨cs, h1, h2⟩ := hx i (by omega)
      rw [cellsSam] at h1
      obtain ⟨_, hlen, hcell⟩ := World.cells?_some h1
      obtain ⟨y0, y1, k, g0, g1⟩ := struct2 Tryz.underlying137 h2
      rw [cellsInts] at g0
      rw [cellsInt] at g1
      match cs, hlen with
      | [c0, c1], _ =>
        obtain ⟨n1, e1, _⟩ := DataW.trod_int Tryz.underlying3 g1
        simp at e1 g0
        have d0 := hcell 0 (by omega)
        have d1 := hcell 1 (by omega)
        rw [add_add] at d0 d1
        obtain ⟨wa, ws, wc, rfl, hw⟩ : ∃ wa ws wc, c0 = .slice wa (List.length (α := Int) ws) wc ∧ Rd W wa ws := by
          rcases open_ints Tryz.underlying50 Tryz.underlying3 (by kernel_rfl) g0 with ⟨hcs, _⟩ | ⟨x, l, c, zs, hcs, _, hl, hm, hz, _, hcl, hwz⟩
          · cases hcs
            exact ⟨none, [], 0, rfl, ⟨Nat.zero_le _, fun h => absurd rfl h⟩⟩
          · cases hcs
            have y : IsRow .i64 W (some x) l c zs := .inr ⟨_, rfl, hl, hm, by simpa using hz, hcl, hwz⟩
            exact ⟨some x, zs.take l, c, by rw [(rd_of y).2], (rd_of y).1⟩
        exact ⟨(wa, ws, wc, n1), ⟨by simpa [sxV] using d0, by simpa [e1] using d1⟩, hw⟩
    obtain ⟨f, hf⟩ := choose_lt each
    refine ⟨(List.range len).map f, by simp, ⟨by simp; omega, ?_, fun hne => ?_⟩⟩
    · intro k hk
      rw [List.mem_map] at hk
      obtain ⟨i, hi, rfl⟩ := hk
      exact (hf i (by simpa using hi)).2
    · have hp : 0 < len := by
        rcases Nat.eq_zero_or_pos len with h0 | h0
        · subst h0; exact absurd rfl hne
        · exact h0
      obtain ⟨b, off, spot⟩ := a'
      have hspot : spot = none := by
        have := World.cell?_spot (hf 0 hp).1.1
        simpa [Addr.add] using this
      subst hspot
      refine ⟨b, off, rfl, ?_, fun i hi => ?_⟩
      · have := (hf 0 hp).1.1
        rw [add_flat] at this
        exact block_lt_of_cell this
      · have hi' : i < len := by simpa using hi
        obtain ⟨q0, q1⟩ := (hf i hi').1
        rw [add_flat] at q0 q1
        refine ⟨?_, ?_⟩
        · rw [q0]; simp
        · rw [Nat.add_assoc, q1]; simp

end Go.Proofs.YtiggkjkjfnlfkaaGreatDoor
