/-
  A Fetch where it lies: its parts, its map, and the pieces that are there; it stays while its blocks do.
-/
import Derived.Test.YtelncekgjfpogahDoorChP
import Derived.Test.YtelncekgjfpogahDoorMathKb
import Derived.Test.YtelncekgjfpogahDoorStayB
import Derived.Maps.OwnOps
import Derived.Maps.OwnSet
import Derived.Maps.Views
namespace Go.Proofs.YtelncekgjfpogahDoor
open Go.ChangeShapes Go.WideShapes Go.ChangeAt Go.RowKit Go.Lib Go.Maps
set_option linter.unusedVariables false

/-- how an element reads: as itself -/
def selfE (v : Value) : Option (DataW Value × List MemPlace) := some (.held v, [])
theorem keyF : Keyed Tryd.prog 3 := int_keyed Tryd.underlying3
theorem zeroF (w : World) : (zeroValue 26).run Tryd.prog w = .ok (.slice none 0 0) w := by kernel_rfl
theorem wfF {i : Nat} (h : i ≤ 100) : (Lit.int .i64 (i : Int)).wf = true := WalkArith.wf_i64 (by omega)
theorem keyOfF {i : Nat} (h : i ≤ 100) : keyOf Tryd.prog 3 (.int .i64 (i : Int)) = some (.int .i64 (i : Int)) := keyOf_int_mk Tryd.underlying3 (wfF h)
/-- how many are there -/
def hasC (h : M.Has) : Nat := (h.filter (·.isSome)).length
structure FB (W : World) (f : Nat) (K : Nat → Prop) (l : List M.Pt) (h : M.Has) (a : Option Addr) (c m : Nat) (D : DataW Value) : Prop where
  right : M.partsF l = 0
  len : h.length = l.length
  c0 : W.cell? ⟨f, 0, none⟩ = some (.slice a l.length c)
  c1 : W.cell? ⟨f, 1, none⟩ = some (.map (some m))
  rd : RdP W a l
  own : W.ownsMap Tryd.prog 3 selfE m (hasC h) D
  many : Maps.size D = hasC h
  kf : K f
  km : K m
  ka : ∀ p, a = some p → K p.block
  fm : f ≠ m
  am : ∀ p, a = some p → p.block ≠ m
  lt : ∀ q, K q → q < W.heap.size
  here : ∀ i bs, h.getD i none = some bs → M.ptIs l i bs = true ∧ ∃ pa pc, (∀ z, D.atKey (.int .i64 (i : Int)) z = .held (.slice pa bs.length pc)) ∧ RdB W pa bs ∧ (pa = none → pc = 0) ∧ ∀ p, pa = some p → K p.block ∧ p.block ≠ m
  away : ∀ i, h.getD i none = none → Maps.has D (.int .i64 (i : Int)) = false
def FA (W : World) (f : Nat) (K : Nat → Prop) (l : List M.Pt) (h : M.Has) : Prop := ∃ a c m D, FB W f K l h a c m D

theorem rdP_keep {W W' : World} {a : Option Addr} {l : List M.Pt} (h : RdP W a l) (hk : ∀ p, a = some p → W'.heap[p.block]? = W.heap[p.block]?) (hz : W.heap.size ≤ W'.heap.size) : RdP W' a l :=
  ⟨h.1, fun hn => by
    obtain ⟨b, off, e, hl, hc⟩ := h.2 hn
    have hb : W'.heap[b]? = W.heap[b]? := hk _ e
    exact ⟨b, off, e, Nat.lt_of_lt_of_le hl hz, fun i hi => ⟨(World.cell?_of_block (a := ⟨b, _, none⟩) hb).trans (hc i hi).1, (World.cell?_of_block (a := ⟨b, _, none⟩) hb).trans (hc i hi).2⟩⟩⟩
theorem rdB_stay {W W' : World} {a : Option Addr} {xs : List Nat} (h : RdB W a xs) (hk : ∀ p, a = some p → W'.heap[p.block]? = W.heap[p.block]?) (hz : W.heap.size ≤ W'.heap.size) : RdB W' a xs :=
  ⟨h.1, h.2.1, fun hn => by
    obtain ⟨b, off, e, hl, hc⟩ := h.2.2 hn
    have hb : W'.heap[b]? = W.heap[b]? := hk _ e
    exact ⟨b, off, e, Nat.lt_of_lt_of_le hl hz, fun i hi => (World.cell?_of_block (a := ⟨b, _, none⟩) hb).trans (hc i hi)⟩⟩
theorem ownsMap_keep {W W' : World} {P : Program} {k : TypeId} {R : Value → Option (DataW Value × List MemPlace)} {b n : Nat} {D : DataW Value} (h : W.ownsMap P k R b n D) (hk : W'.heap[b]? = W.heap[b]?) : W'.ownsMap P k R b n D := by
  obtain ⟨es, clock, hb, r⟩ := h
  exact ⟨es, clock, hk.trans hb, r⟩
theorem FB.up {W W' : World} {f : Nat} {K : Nat → Prop} {l : List M.Pt} {h : M.Has} {a : Option Addr} {c m : Nat} {D : DataW Value} (F : FB W f K l h a c m D) (hk : ∀ q, K q → W'.heap[q]? = W.heap[q]?) (hz : W.heap.size ≤ W'.heap.size) : FB W' f K l h a c m D where
  right := F.right
  len := F.len
  c0 := (World.cell?_of_block (a := ⟨f, 0, none⟩) (hk f F.kf)).trans F.c0
  c1 := (World.cell?_of_block (a := ⟨f, 1, none⟩) (hk f F.kf)).trans F.c1
  rd := rdP_keep F.rd (fun p hp => hk _ (F.ka p hp)) hz
  own := ownsMap_keep F.own (hk m F.km)
  many := F.many
  kf := F.kf
  km := F.km
  ka := F.ka
  fm := F.fm
  am := F.am
  lt := fun q hq => Nat.lt_of_lt_of_le (F.lt q hq) hz
  here := fun i bs e => by
    obtain ⟨g1, pa, pc, g2, g3, g4, g5⟩ := F.here i bs e
    exact ⟨g1, pa, pc, g2, rdB_stay g3 (fun p hp => hk _ (g5 p hp).1) hz, g4, g5⟩
  away := F.away
theorem FB.below {W W' : World} {f : Nat} {K : Nat → Prop} {l : List M.Pt} {h : M.Has} {a : Option Addr} {c m : Nat} {D : DataW Value} (F : FB W f K l h a c m D) (hb : Below W.heap.size W W') : FB W' f K l h a c m D := F.up (fun q hq => hb.block q (F.lt q hq)) hb.size
theorem M.parts_le {l : List M.Pt} (h : M.partsF l = 0) : l.length ≤ 100 := by
  unfold M.partsF at h
  by_cases q : 100 < l.length
  · rw [if_pos q] at h; cases h
  · omega
theorem M.parts_one {l : List M.Pt} (h : M.partsF l = 0) {i : Nat} (hi : i < l.length) : 1 ≤ (l.getD i (0, 0)).1 ∧ (l.getD i (0, 0)).1 ≤ 6000 := by
  have hl := M.parts_le h
  unfold M.partsF at h
  rw [if_neg (by omega)] at h
  have hb : l.any M.ptBad = false := by
    cases q : l.any M.ptBad with
    | false => rfl
    | true => rw [q] at h; cases h
  have hm : l.getD i (0, 0) ∈ l := by
    rw [show l.getD i (0, 0) = l[i] by simp [List.getD, hi]]
    exact List.getElem_mem hi
  have := List.any_eq_false.1 hb _ hm
  have b : ¬ ((l.getD i (0, 0)).1 < 1 ∨ 6000 < (l.getD i (0, 0)).1 ∨ (l.getD i (0, 0)).2 < 0 ∨ 1000002 < (l.getD i (0, 0)).2) := of_decide_eq_false (show M.ptBad (l.getD i (0, 0)) = false from Bool.eq_false_iff.2 this)
  constructor <;> omega

end Go.Proofs.YtelncekgjfpogahDoor
