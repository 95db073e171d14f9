/-
  Groves, where they lie: their weights and their trees; no condition beyond those named.
-/
import Derived.Test.YtcaljnhdfbjpnaeDoorNodes
import Derived.Test.YtcaljnhdfbjpnaeDoorLMathB
import Derived.Lib.SmallJoins
namespace Go.Proofs.YtcaljnhdfbjpnaeDoor
open Go.ChangeShapes Go.WideShapes Go.ChangeAt Go.RowKit Go.Deep
set_option linter.unusedVariables false

abbrev Tc := Option Addr × List M.Nd × Nat
def tV (k : Tc) : Value := .slice k.1 k.2.1.length k.2.2
/-- trees, where they lie -/
def RdT (w : World) (a : Option Addr) (ks : List Tc) : Prop :=
  ks.length ≤ maxLen ∧ (∀ k ∈ ks, RdN w k.1 k.2.1) ∧ (ks ≠ [] → ∃ b off, a = some ⟨b, off, none⟩ ∧ b < w.heap.size ∧ ∀ i (h : i < ks.length), w.cell? ⟨b, off + i, none⟩ = some (tV ks[i]))
theorem RdT.below {w w' : World} {a : Option Addr} {ks : List Tc} (h : RdT w a ks) (hb : Below w.heap.size w w') : RdT w' a ks :=
  ⟨h.1, fun k hk => (h.2.1 k hk).below hb, fun hn => by
    obtain ⟨b, off, e, hl, hc⟩ := h.2.2 hn
    exact ⟨b, off, e, Nat.lt_of_lt_of_le hl hb.size, fun i hi => (hb.cell (p := ⟨b, off + i, none⟩) hl).trans (hc i hi)⟩⟩
def tl (ks : List Tc) : List (List M.Nd) := ks.map (·.2.1)
theorem tl_len (ks : List Tc) : (tl ks).length = ks.length := by simp [tl]
theorem tl_at (ks : List Tc) {k : Nat} (h : k < ks.length) : (tl ks).getD k [] = ks[k].2.1 := by
  rw [M.getD_at (by rw [tl_len]; exact h)]; simp [tl]

/-- a grove, as it is handed on -/
structure Gr where
  f : Int
  w : Int
  wa : Option Addr
  ws : List Int
  wc : Nat
  ta : Option Addr
  ks : List Tc
  tc : Nat
def Gr.v (G : Gr) : Value := .agg #[.int .i64 G.f, .int .i64 G.w, .slice G.wa G.ws.length G.wc, .slice G.ta G.ks.length G.tc]
def Gr.m (G : Gr) : M.Gv := (G.f, G.w, G.ws, tl G.ks)
def RdG (w : World) (G : Gr) : Prop := Rd w G.wa G.ws ∧ RdT w G.ta G.ks
theorem RdG.below {w w' : World} {G : Gr} (h : RdG w G) (hb : Below w.heap.size w w') : RdG w' G := ⟨h.1.below hb, h.2.below hb⟩

theorem cellsTree : Tryd.prog.cellsOf 22 = 1 := by kernel_rfl
set_option maxRecDepth 10000 in
theorem open_trees {H : Type} {enc : TypeId × Value → H} {W : World} {base : Nat} {spare : Nat → Bool} {held : Bool} {fuel : Nat} {a : Option Addr} {len cap : Nat} {x : DataW H × List MemPlace}
    (h : DataW.trod enc Tryd.prog W base spare held fuel 38 [.slice a len cap] = some x) : ∃ ks : List Tc, ks.length = len ∧ RdT W a ks := by
  rcases open_slice Tryd.underlying38 h with ⟨hcs, _⟩ | ⟨a', len', cap', m, n, D, Pl, hcs, _, hl, hm, hmm, _, hx⟩
  · cases hcs
    exact ⟨[], rfl, ⟨Nat.zero_le _, (fun k hk => by cases hk), fun h => absurd rfl h⟩⟩
  · cases hcs
    have hlm : len ≤ m := by rw [hmm]; split <;> omega
    have each : ∀ i, i < len → ∃ k : Tc, W.cell? (a'.add i) = some (tV k) ∧ RdN W k.1 k.2.1 := by
      intro i hi
      obtain ⟨cs, h1, h2⟩ := hx i (by omega)
      rw [cellsTree] at h1
      obtain ⟨_, hlen, hcell⟩ := World.cells?_some h1
      match cs, hlen with
      | [c0], _ =>
        have d0 := hcell 0 (by omega)
        rw [add_add] at d0
        simp at d0
        have sl : ∃ b l c, c0 = .slice b l c := by
          rcases open_slice Tryd.underlying22 h2 with ⟨hcs, _⟩ | ⟨a2, len2, cap2, _, _, _, _, hcs, _⟩
          · exact ⟨none, 0, 0, by cases hcs; rfl⟩
          · exact ⟨some a2, len2, cap2, by cases hcs; rfl⟩
        obtain ⟨b, l, c, rfl⟩ := sl
        obtain ⟨ts, e, hr⟩ := open_nodes h2
        subst e
        exact ⟨(b, ts, c), d0, hr⟩
    obtain ⟨f, hf⟩ := choose_lt each
    refine ⟨(List.range len).map f, by simp, ⟨by simp; omega, ?_, fun hne => ?_⟩⟩
    · intro k hk
      rw [List.mem_map] at hk
      obtain ⟨i, hi, rfl⟩ := hk
      exact (hf i (by simpa using hi)).2
    · have hp : 0 < len := by
        rcases Nat.eq_zero_or_pos len with h0 | h0
        · subst h0; exact absurd rfl hne
        · exact h0
      obtain ⟨b, off, spot⟩ := a'
      have hspot : spot = none := by
        have := World.cell?_spot (hf 0 hp).1
        simpa [Addr.add] using this
      subst hspot
      refine ⟨b, off, rfl, ?_, fun i hi => ?_⟩
      · have := (hf 0 hp).1
        rw [add_flat] at this
        exact block_lt_of_cell this
      · have hi' : i < len := by simpa using hi
        have q := (hf i hi').1
        rw [add_flat] at q
        rw [q]; simp

theorem cellsGrove : Tryd.prog.cellsOf 40 = 4 := by kernel_rfl
theorem cellsRow : Tryd.prog.cellsOf 23 = 1 := by kernel_rfl
theorem cellsTrees : Tryd.prog.cellsOf 38 = 1 := by kernel_rfl
set_option maxRecDepth 10000 in
theorem open_grove {H : Type} {enc : TypeId × Value → H} {W : World} {base b0 : Nat} {held : Bool} {v : Value} {d : DataW H} {ps : List MemPlace}
    (hv : Value.okWide Tryd.prog W .any base 40 v) (h : DataW.Trod enc Tryd.prog W b0 (fun _ => true) held 40 v d ps) : ∃ G : Gr, v = G.v ∧ RdG W G := by
  obtain ⟨cs, rfl, hsz⟩ := okWide_struct Tryd.underlying40 hv
  rw [cellsGrove] at hsz
  obtain ⟨c0, c1, c2, c3, rfl⟩ := Joins.array4 hsz
  obtain ⟨fuel, hf⟩ := h
  obtain ⟨y0, y1, y2, y3, n, _, _, g0, g1, g2, g3⟩ := Joins.trod_struct4 Tryd.underlying40 hf
  rw [cellsInt] at g0 g1
  rw [cellsRow] at g2
  rw [cellsTrees] at g3
  obtain ⟨n0, e0, _⟩ := DataW.trod_int Tryd.underlying3 g0
  obtain ⟨n1, e1, _⟩ := DataW.trod_int Tryd.underlying3 g1
  simp [Value.cells] at e0 e1 g2 g3
  subst e0
  subst e1
  obtain ⟨wa, ws, wc, rfl, hw⟩ : ∃ wa ws wc, c2 = .slice wa (List.length (α := Int) ws) wc ∧ Rd W wa ws := by
    rcases open_ints Tryd.underlying23 Tryd.underlying3 (by kernel_rfl) g2 with ⟨hcs, _⟩ | ⟨x, l, c, zs, hcs, _, hl, hm, hz, _, hcell, hwz⟩
    · cases hcs
      exact ⟨none, [], 0, rfl, ⟨Nat.zero_le _, fun h => absurd rfl h⟩⟩
    · cases hcs
      have y : IsRow .i64 W (some x) l c zs := .inr ⟨_, rfl, hl, hm, by simpa using hz, hcell, hwz⟩
      exact ⟨some x, zs.take l, c, by rw [(rd_of y).2], (rd_of y).1⟩
  obtain ⟨ta, ks, tc, rfl, hk⟩ : ∃ ta ks tc, c3 = .slice ta (List.length (α := Tc) ks) tc ∧ RdT W ta ks := by
    have sl : ∃ b l c, c3 = .slice b l c := by
      rcases open_slice Tryd.underlying38 g3 with ⟨hcs, _⟩ | ⟨a2, len2, cap2, _, _, _, _, hcs, _⟩
      · exact ⟨none, 0, 0, by cases hcs; rfl⟩
      · exact ⟨some a2, len2, cap2, by cases hcs; rfl⟩
    obtain ⟨b, l, c, rfl⟩ := sl
    obtain ⟨ks, e, hr⟩ := open_trees g3
    subst e
    exact ⟨b, ks, c, rfl, hr⟩
  exact ⟨⟨n0, n1, wa, ws, wc, ta, ks, tc⟩, rfl, hw, hk⟩

end Go.Proofs.YtcaljnhdfbjpnaeDoor
