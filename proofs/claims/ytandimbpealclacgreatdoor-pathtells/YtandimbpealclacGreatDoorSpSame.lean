/-
  What orchsame.Spans answers of two lists that are the same.
-/
import Derived.Test.YtandimbpealclacGreatDoorRefSp
namespace Go.Proofs.YtandimbpealclacGreatDoor
open Go.ChangeShapes Go.WideShapes Go.ChangeAt Go.RowKit
set_option linter.unusedVariables false

/-- the leaves of which something is left -/
def M.rchL (G : Nat → List M.Sp) (t : List M.Nd) : Nat → List Int
  | 0 => []
  | k + 1 => if M.leafB (M.nAt t k) = true ∧ M.anyS (G k) = true then M.rchL G t k ++ [(k : Int)] else M.rchL G t k
theorem M.rchL_is (t : List M.Nd) (m : Nat) : ∀ k, M.rchL (fun i => M.region t m i) t k = M.rch t m k
  | 0 => rfl
  | k + 1 => by unfold M.rchL M.rch; rw [M.rchL_is t m k]
theorem M.rchL_len (G : Nat → List M.Sp) (t : List M.Nd) : ∀ k, (M.rchL G t k).length ≤ k
  | 0 => by unfold M.rchL; simp
  | k + 1 => by
    unfold M.rchL
    have := M.rchL_len G t k
    split
    · simp; omega
    · omega
set_option maxHeartbeats 2000000 in
theorem spansame_any (a b : Option Addr) (ss : List M.Sp) (ca cb : Nat) (w : World) (ha : RdS w a ss) (hb : RdS w b ss) :
    Calls Tryz.prog 15 #[.slice a ss.length ca, .slice b ss.length cb] w fun e w' => e = .returned (.bool true) ∧ Below w.heap.size w w' := by
  have hm : ss.length ≤ 9223372036854775807 := ha.1
  have HA := hide ha.2
  have HB := hide hb.2
  clear ha hb
  go_enter Tryz.func15, Tryz.ntmps15
  go_wp2
  go_loopw [5] (fun i wr => ∃ k : Nat, k ≤ ss.length ∧ i = .int .i64 k ∧ Below w.heap.size w wr) (fun i _ => ss.length - (intOf i).toNat)
  case atStart => exact ⟨0, Nat.zero_le _, rfl, Below.refl _ _⟩
  case round =>
    obtain ⟨k, hk, rfl, hbl⟩ := hrel
    by_cases hlt : k < ss.length
    · obtain ⟨b1, o1, rfl, hb1, hc1⟩ := HA.out (by intro e; subst e; simp at hlt)
      obtain ⟨b2, o2, rfl, hb2, hc2⟩ := HB.out (by intro e; subst e; simp at hlt)
      obtain ⟨c0, c1, c2⟩ := RdS.at hc1 k hlt
      obtain ⟨d0, d1, d2⟩ := RdS.at hc2 k hlt
      have s0 := (hbl.cell (p := ⟨b1, o1 + k * 3, none⟩) hb1).trans c0
      have s1 := (hbl.cell (p := ⟨b1, o1 + k * 3 + 1, none⟩) hb1).trans c1
      have s2 := (hbl.cell (p := ⟨b1, o1 + k * 3 + 2, none⟩) hb1).trans c2
      have t0 := (hbl.cell (p := ⟨b2, o2 + k * 3, none⟩) hb2).trans d0
      have t1 := (hbl.cell (p := ⟨b2, o2 + k * 3 + 1, none⟩) hb2).trans d1
      have t2 := (hbl.cell (p := ⟨b2, o2 + k * 3 + 2, none⟩) hb2).trans d2
      clear hc1 hc2 c0 c1 c2 d0 d1 d2
      generalize ss[k].1 = lo at *
      generalize ss[k].2.1 = hi at *
      generalize ss[k].2.2 = nl at *
      go_wp2
      go_quiet (fail)
      go_wp2
      go_roundw
      case rel => exact ⟨k + 1, by omega, by go_num, below_drew hbl _ hbl.size⟩
      case measure => simp [intOf]; omega
    · go_wp2
      go_ret
      exact ⟨rfl, hbl⟩


/-- spans made fit, one by one -/
def M.normU (G : List M.Sp) (k : Nat) : List M.Sp := (G.take k).map M.norm ++ G.drop k
theorem M.normU_len (G : List M.Sp) (k : Nat) : (M.normU G k).length = G.length := by unfold M.normU; simp; omega
theorem M.normU_zero (G : List M.Sp) : M.normU G 0 = G := by unfold M.normU; simp
theorem M.normU_all (G : List M.Sp) {k : Nat} (h : G.length ≤ k) : M.normU G k = G.map M.norm := by unfold M.normU; rw [List.take_of_length_le h, List.drop_eq_nil_of_le h]; simp
theorem M.normU_at (G : List M.Sp) {k : Nat} (h : k < G.length) (h' : k < (M.normU G k).length) : (M.normU G k)[k] = G[k] := by
  have e : (M.normU G k)[k]? = some G[k] := by
    unfold M.normU
    have l : ((G.take k).map M.norm).length = k := by simp; omega
    rw [List.getElem?_append_right (by omega), l, Nat.sub_self, List.getElem?_drop, Nat.add_zero, List.getElem?_eq_getElem h]
  rw [List.getElem?_eq_getElem h'] at e
  exact Option.some.inj e
theorem M.normU_next (G : List M.Sp) {k : Nat} (h : k < G.length) : (M.normU G k).set k (M.norm G[k]) = M.normU G (k + 1) := by
  unfold M.normU
  rw [List.set_append_right _ _ (by simp; omega), List.take_succ_eq_append_getElem h, List.map_append, List.append_assoc]
  have e : k - ((G.take k).map M.norm).length = 0 := by simp; omega
  rw [e, List.drop_eq_getElem_cons h]
  rfl
theorem spCells_set2 : ∀ (ss : List M.Sp) (i : Nat) (h : i < ss.length) (x y : Int), ((spCells ss).set (i * 3) (.int .i64 x)).set (i * 3 + 1) (.int .i64 y) = spCells (ss.set i (x, y, ss[i].2.2))
  | s :: t, 0, h, x, y => rfl
  | s :: t, i + 1, h, x, y => by
    have e : spCells (s :: t) = .int .i64 s.1 :: .int .i64 s.2.1 :: .bool s.2.2 :: spCells t := rfl
    have h' : i < t.length := by simpa using h
    have e2 : spCells ((s :: t).set (i + 1) (x, y, (s :: t)[i + 1].2.2)) = .int .i64 s.1 :: .int .i64 s.2.1 :: .bool s.2.2 :: spCells (t.set i (x, y, t[i].2.2)) := rfl
    rw [e, e2, ← spCells_set2 t i h' x y, show (i + 1) * 3 = i * 3 + 1 + 1 + 1 by omega]
    rfl
theorem own_setS2 {w : World} {base n g cap : Nat} {ss : List M.Sp} (h : w.ownsRow base 44 3 (.slice (some ⟨g, 0, none⟩) n cap) n (spCells ss)) {i : Nat} (hi : i < ss.length) (x y : Int) :
    ((w.setCell ⟨g, i * 3, none⟩ (.int .i64 x)).setCell ⟨g, i * 3 + 1, none⟩ (.int .i64 y)).ownsRow base 44 3 (.slice (some ⟨g, 0, none⟩) n cap) n (spCells (ss.set i (x, y, ss[i].2.2))) := by
  have h1 := (h.stored (i * 3) (.int .i64 x)).1
  have h2 := (h1.stored (i * 3 + 1) (.int .i64 y)).1
  rw [spCells_set2 ss i hi] at h2
  exact h2

end Go.Proofs.YtandimbpealclacGreatDoor
