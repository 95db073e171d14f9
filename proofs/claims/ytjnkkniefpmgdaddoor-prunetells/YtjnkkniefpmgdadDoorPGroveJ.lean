/-
  Several texts as one: PTree, GwDone, IntClone, PGrove, PruneAll.
-/
import Derived.Test.YtjnkkniefpmgdadDoorPShortJ
import Derived.Test.YtjnkkniefpmgdadDoorPReach
import Derived.Test.YtjnkkniefpmgdadDoorPruneP
import Derived.Test.YtjnkkniefpmgdadDoorGwLaid
import Derived.Deep.AppendLies
import Derived.Test.YtjnkkniefpmgdadDoorNodes
import Derived.Lib.SliceRun
import Derived.OwnWalk
import Derived.Test.YtjnkkniefpmgdadDoorPruneG
import Derived.Test.YtjnkkniefpmgdadDoorGCheck
import Derived.Deep.RegionHeld3
import Derived.Test.YtjnkkniefpmgdadDoorPruneWalk
namespace Go.Proofs.YtjnkkniefpmgdadDoor
open Go.ChangeShapes Go.WideShapes Go.ChangeAt Go.RowKit Go.Lib
set_option linter.unusedVariables false

/-- behind nothing -/
theorem play_new (ts : List M.Nd) (l63 : ts.length ≤ 63) (bt ot cap : Nat) (T : M.BT) (i : Nat) (hD : M.Den ts T i) (w : World) (hbt : bt < w.heap.size) (hct : ∀ j, j < ts.length → SixAt w bt (ot + j * 6) (M.nAt ts j)) (hs : T.size ≤ 1000) :
    Calls Tryd.prog 46 #[.slice none 0 0, .slice (some ⟨bt, ot, none⟩) ts.length cap, .int .i64 (i : Nat)] w fun e w' => ∃ a c, e = .returned (.slice a (M.lay T 0).length c) ∧ RdN w' a (M.lay T 0) ∧ (∀ p, a = some p → w.heap.size ≤ p.block) ∧ Below w.heap.size w w' := by
  refine (play_any ts l63 bt ot cap w.heap.size T i hD [] none 0 w hbt hct (fun e => by cases e) (World.ownsRow_nil _ _ _ _) (Nat.le_refl _) (by simpa using hs)).mono ?_
  rintro e w' ⟨g, c, rfl, ho, hg, _⟩
  rw [List.length_nil, Nat.zero_add, List.nil_append] at ho
  obtain ⟨a, cp, ea, hr, hn⟩ := own_rdN (M.lay_len T 0) (by unfold maxLen; omega) ho
  rw [List.length_nil, Nat.zero_add, ea, M.lay_len]
  refine ⟨a, cp, rfl, hr, hn, hg.os, hg.tape, hg.output, hg.size, fun k hk => hg.block k hk (fun e => by cases e)⟩

set_option maxHeartbeats 2000000 in
theorem ptree_any (a0 : Option Addr) (ts : List M.Nd) (cap : Nat) (m : Int) (w : World) (h : RdN w a0 ts) :
    Calls Tryd.prog 21 #[.slice a0 ts.length cap, .int .i64 m] w fun e w' => ∃ a c, e = .returned (.tuple #[.slice a (M.prunV ts m).length c, errV (M.treeF ts m).2]) ∧ RdN w' a (M.prunV ts m) ∧ (∀ p, a = some p → w.heap.size ≤ p.block) ∧ Below w.heap.size w w' := by
  have R := hide (reach_any a0 ts cap m w h)
  by_cases hz : (M.treeF ts m).2 = 0
  · obtain ⟨F, em⟩ := M.fair_nat hz
    have l0 := F.2.1
    have l63 := F.1
    obtain ⟨b0, off, rfl, hb0, hc⟩ := h.2 (by intro e; rw [e] at l0; simp at l0)
    have rv : M.rchV ts m = M.rch ts m.toNat ts.length := by unfold M.rchV; rw [if_pos hz]
    have pv : M.prunV ts m = M.lay (M.prn (M.vld m.toNat) (M.bt ts 0)) 0 := by unfold M.prunV; rw [if_pos hz]
    have SH := hide (fun W ra rc (hW : Below w.heap.size w W) (hr : Rd W ra (M.rch ts m.toNat ts.length)) => short_any b0 off ts cap m.toNat ra rc W (Nat.lt_of_lt_of_le hb0 hW.size) (fun i hi => (hc i hi).below hW hb0) F hr)
    have PL := hide (fun (sh : List M.Nd) (g c j : Nat) W (hl : sh.length = ts.length) (hg : g < W.heap.size) (hs : ∀ i, i < ts.length → SixAt W g (i * 6) (M.nAt sh i)) (hD : M.Den sh (M.prn (M.vld m.toNat) (M.bt ts 0)) j) => play_new sh (by omega) g 0 c _ j hD W hg (fun i hi => by rw [Nat.zero_add]; exact hs i (by omega)) (by have := (M.prn_size (M.bt ts 0) (M.vld m.toNat)).1; have := M.bt_size F; omega))
    rw [err_nil hz, rv] at R
    rw [err_nil hz, pv]
    clear hz F em h hc rv pv
    generalize M.rch ts m.toNat ts.length = RL at *
    generalize M.prn (M.vld m.toNat) (M.bt ts 0) = T at *
    go_enter Tryd.func21, Tryd.ntmps21
    go_wp2_with (first
      | (go_at_call 44; refine R.out.mono ?_; rintro e w1 ⟨ag, cg, rfl, hr1, hb1⟩; have HR1 := hide hr1; clear hr1)
      | (go_at_call 45; refine (SH.out _ _ _ hb1 HR1.out).mono ?_; rintro e w2 ⟨g, c, j, sh, rfl, hl, hg, hs, hD, hb2⟩; have P := PL.out sh g c j w2 hl hg hs hD; rw [hl] at P; have HP := hide P; have H2 := hide (below_on hb1 hb2); clear hs hD P hl)
      | (go_at_call 46; refine HP.out.mono ?_; rintro e w3 ⟨a, c3, rfl, hr3, ha3, hb3⟩; have HR3 := hide hr3; have HA3 := hide ha3; have H3 := hide (below_on H2.out hb3); clear hr3 ha3))
    go_ret2
    exact ⟨a, c3, rfl, HR3.out, fun p hp => Nat.le_trans H2.out.size (HA3.out p hp), H3.out⟩
  · have pv : M.prunV ts m = [] := by unfold M.prunV; rw [if_neg hz]
    have ES := hide (err_some hz)
    rw [err_some hz] at R
    rw [pv]
    clear hz pv h
    generalize errV (M.treeF ts m).2 = er at *
    generalize (M.treeF ts m).2 = tf at *
    generalize M.rchV ts m = RL at *
    go_enter Tryd.func21, Tryd.ntmps21
    go_wp2_with (go_at_call 44; refine R.out.mono ?_; rintro e w1 ⟨ag, cg, rfl, hr1, hb1⟩)
    go_ret2
    exact ⟨none, 0, by rw [ES.out]; rfl, ⟨Nat.zero_le _, fun h => absurd rfl h⟩, fun p hp => (by cases hp), hb1⟩
theorem tree_gives : TreeGives := fun a0 ts cap m W h => (ptree_any a0 ts cap m W h).mono fun e w' q => by
  obtain ⟨a, c, q1, q2, _, q4⟩ := q
  exact ⟨a, c, q1, q2, q4⟩

set_option maxHeartbeats 2000000 in
theorem sort_gives : SortGives := by
  intro a0 ts cap m w h
  have R := hide (tcheck_any a0 ts cap m w h)
  by_cases hz : (M.treeF ts m).2 = 0
  · obtain ⟨F, em⟩ := M.tree_ok hz
    have l0 := F.2.1
    have l63 := F.1
    obtain ⟨b0, off, rfl, hb0, hc⟩ := h.2 (by intro e; rw [e] at l0; simp at l0)
    have pv : M.sortV ts m = M.lay (M.bt ts 0) 0 := by unfold M.sortV; rw [if_pos hz]
    have PL := hide (fun W (hW : Below w.heap.size w W) => play_new ts l63 b0 off cap (M.bt ts 0) 0 (M.den_bt F.2.2.2.2.1 ts.length 0 l0 (by omega)) W (Nat.lt_of_lt_of_le hb0 hW.size) (fun i hi => (hc i hi).below hW hb0) (by have := M.bt_size F; omega))
    rw [err_nil hz] at R
    rw [err_nil hz, pv]
    clear hz F em h hc pv
    generalize M.bt ts 0 = T at *
    generalize (M.treeF ts m).1 = tp at *
    go_enter Tryd.func22, Tryd.ntmps22
    go_wp2_with (first
      | (go_at_call 38; refine R.out.mono ?_; rintro e w1 ⟨rfl, hb1⟩)
      | (go_at_call 46; refine (PL.out _ hb1).mono ?_; rintro e w3 ⟨a, c3, rfl, hr3, ha3, hb3⟩; have HR3 := hide hr3; have H3 := hide (below_on hb1 hb3); clear hr3 ha3))
    go_ret2
    exact ⟨a, c3, rfl, HR3.out, H3.out⟩
  · have pv : M.sortV ts m = [] := by unfold M.sortV; rw [if_neg hz]
    have ES := hide (err_some hz)
    rw [err_some hz] at R
    rw [pv]
    clear hz pv h
    generalize errV (M.treeF ts m).2 = er at *
    generalize (M.treeF ts m).2 = tf at *
    generalize (M.treeF ts m).1 = tp at *
    go_enter Tryd.func22, Tryd.ntmps22
    go_wp2_with (go_at_call 38; refine R.out.mono ?_; rintro e w1 ⟨rfl, hb1⟩)
    go_ret2
    exact ⟨none, 0, by rw [ES.out]; rfl, ⟨Nat.zero_le _, fun h => absurd rfl h⟩, hb1⟩

end Go.Proofs.YtjnkkniefpmgdadDoor

namespace Go.Proofs.YtjnkkniefpmgdadDoor
open Go.ChangeShapes Go.WideShapes Go.ChangeAt Go.RowKit Go.Lib
set_option linter.unusedVariables false

abbrev nilG : Obj := .cells #[.int .i64 0, .int .i64 0, .slice none 0 0, .slice none 0 0] 25
/-- a block of nothing -/
structure Zf (V : World) (p : Nat) : Prop where
  c0 : V.cell? ⟨p, 0, none⟩ = some (.int .i64 0)
  c1 : V.cell? ⟨p, 1, none⟩ = some (.int .i64 0)
  c2 : V.cell? ⟨p, 2, none⟩ = some (.slice none 0 0)
  c3 : V.cell? ⟨p, 3, none⟩ = some (.slice none 0 0)
  fr : ∀ j, V.frozen? ⟨p, j, none⟩ = false
  sz : p < V.heap.size
theorem zf_made (W : World) : Zf (W.alloc nilG) W.heap.size :=
  ⟨World.cell?_alloc_at _ _ _ 0 rfl, World.cell?_alloc_at _ _ _ 1 rfl, World.cell?_alloc_at _ _ _ 2 rfl, World.cell?_alloc_at _ _ _ 3 rfl, fun j => by
    unfold World.frozen?
    rw [heap_alloc_new W _]
    simp, by simp⟩
theorem Zf.same {V V' : World} {p : Nat} (h : Zf V p) (hs : V'.heap[p]? = V.heap[p]?) (hz : V.heap.size ≤ V'.heap.size) : Zf V' p :=
  ⟨(World.cell?_of_block (a := ⟨p, 0, none⟩) hs).trans h.c0, (World.cell?_of_block (a := ⟨p, 1, none⟩) hs).trans h.c1, (World.cell?_of_block (a := ⟨p, 2, none⟩) hs).trans h.c2, (World.cell?_of_block (a := ⟨p, 3, none⟩) hs).trans h.c3, fun j => (World.frozen?_of_block (a := ⟨p, j, none⟩) hs).trans (h.fr j), Nat.lt_of_lt_of_le h.sz hz⟩
theorem Zf.up {V V' : World} {p : Nat} (h : Zf V p) (hb : Below V.heap.size V V') : Zf V' p := h.same (hb.block p h.sz) hb.size
abbrev put4 (W : World) (p : Nat) (x0 x1 x2 x3 : Value) : World := (((W.setCell ⟨p, 0, none⟩ x0).setCell ⟨p, 1, none⟩ x1).setCell ⟨p, 2, none⟩ x2).setCell ⟨p, 3, none⟩ x3
theorem put4_far {W : World} {p q : Nat} {x0 x1 x2 x3 : Value} (h : q ≠ p) : (put4 W p x0 x1 x2 x3).heap[q]? = W.heap[q]? := by
  unfold put4
  rw [Below.heap_setCell _ _ _ _ h, Below.heap_setCell _ _ _ _ h, Below.heap_setCell _ _ _ _ h, Below.heap_setCell _ _ _ _ h]
theorem put4_size {W : World} {p : Nat} {x0 x1 x2 x3 : Value} : (put4 W p x0 x1 x2 x3).heap.size = W.heap.size := by simp
theorem put4_below {B : Nat} {w W : World} {p : Nat} {x0 x1 x2 x3 : Value} (h : Below B w W) (hp : B ≤ p) : Below B w (put4 W p x0 x1 x2 x3) :=
  (((h.setCell (p := ⟨p, 0, none⟩) hp _).setCell (p := ⟨p, 1, none⟩) hp _).setCell (p := ⟨p, 2, none⟩) hp _).setCell (p := ⟨p, 3, none⟩) hp _
theorem put4_cells {W : World} {p : Nat} {x0 x1 x2 x3 : Value} (z : Zf W p) :
    (put4 W p x0 x1 x2 x3).cell? ⟨p, 0, none⟩ = some x0 ∧ (put4 W p x0 x1 x2 x3).cell? ⟨p, 1, none⟩ = some x1 ∧ (put4 W p x0 x1 x2 x3).cell? ⟨p, 2, none⟩ = some x2 ∧ (put4 W p x0 x1 x2 x3).cell? ⟨p, 3, none⟩ = some x3 ∧ ∀ j, (put4 W p x0 x1 x2 x3).frozen? ⟨p, j, none⟩ = false := by
  have o : ∀ (V : World) (i j : Nat) (v : Value), i ≠ j → (V.setCell ⟨p, i, none⟩ v).cell? ⟨p, j, none⟩ = V.cell? ⟨p, j, none⟩ := fun V i j v hij => World.cell?_setCell_other _ _ _ _ (by intro e; cases e; exact hij rfl)
  have s : ∀ (V : World) (j : Nat) (v u : Value), V.cell? ⟨p, j, none⟩ = some u → (V.setCell ⟨p, j, none⟩ v).cell? ⟨p, j, none⟩ = some v := fun V j v u hu => World.cell?_setCell_same (u := u) _ _ _ hu
  refine ⟨?_, ?_, ?_, ?_, fun j => ?_⟩
  · rw [o _ _ _ _ (by decide), o _ _ _ _ (by decide), o _ _ _ _ (by decide), s _ _ _ _ z.c0]
  · rw [o _ _ _ _ (by decide), o _ _ _ _ (by decide), s _ _ _ (.int .i64 0) (by rw [o _ _ _ _ (by decide)]; exact z.c1)]
  · rw [o _ _ _ _ (by decide), s _ _ _ (.slice none 0 0) (by rw [o _ _ _ _ (by decide), o _ _ _ _ (by decide)]; exact z.c2)]
  · rw [s _ _ _ (.slice none 0 0) (by rw [o _ _ _ _ (by decide), o _ _ _ _ (by decide), o _ _ _ _ (by decide)]; exact z.c3)]
  · have := z.fr j
    simpa using this

theorem set4f {W : World} {p : Nat} {x0 x1 x2 x3 y0 y1 y2 y3 : Value} (h0 : W.cell? ⟨p, 0, none⟩ = some y0) (h1 : W.cell? ⟨p, 1, none⟩ = some y1) (h2 : W.cell? ⟨p, 2, none⟩ = some y2) (h3 : W.cell? ⟨p, 3, none⟩ = some y3) :
    (W.setCell ⟨p, 0, none⟩ x0).cell? ⟨p, 0, none⟩ = some x0 ∧ ((W.setCell ⟨p, 0, none⟩ x0).setCell ⟨p, 1, none⟩ x1).cell? ⟨p, 1, none⟩ = some x1 ∧
    (((W.setCell ⟨p, 0, none⟩ x0).setCell ⟨p, 1, none⟩ x1).setCell ⟨p, 2, none⟩ x2).cell? ⟨p, 2, none⟩ = some x2 ∧
    ((((W.setCell ⟨p, 0, none⟩ x0).setCell ⟨p, 1, none⟩ x1).setCell ⟨p, 2, none⟩ x2).setCell ⟨p, 3, none⟩ x3).cell? ⟨p, 3, none⟩ = some x3 := by
  have o : ∀ (V : World) (i j : Nat) (v : Value), i ≠ j → (V.setCell ⟨p, i, none⟩ v).cell? ⟨p, j, none⟩ = V.cell? ⟨p, j, none⟩ := fun V i j v hij => World.cell?_setCell_other _ _ _ _ (by intro e; cases e; exact hij rfl)
  refine ⟨World.cell?_setCell_same _ _ _ h0, World.cell?_setCell_same (u := y1) _ _ _ ?_, World.cell?_setCell_same (u := y2) _ _ _ ?_, World.cell?_setCell_same (u := y3) _ _ _ ?_⟩
  · rw [o _ _ _ _ (by decide)]; exact h1
  · rw [o _ _ _ _ (by decide), o _ _ _ _ (by decide)]; exact h2
  · rw [o _ _ _ _ (by decide), o _ _ _ _ (by decide), o _ _ _ _ (by decide)]; exact h3
/-- the first part of the work: the grove's block with all but its trees -/
structure Gs (w wx : World) (gb : Nat) (f wy : Int) (ws : List Int) (wa : Option Addr) (wc : Nat) : Prop where
  gw : Gw wx wx gb f wy (.slice wa ws.length wc) [] (.slice none 0 0)
  rw : Rd wx wa ws
  ne : ∀ p, wa = some p → p.block ≠ gb ∧ p.block ≠ w.heap.size
  gn : w.heap.size < gb
  z : Zf wx w.heap.size
  b : Below w.heap.size w wx
theorem gs_a {w w3 : World} {f wy : Int} {ws : List Int} {wa : Option Addr} {wc : Nat} (h0 : 0 < ws.length) (hb : Below ((w.alloc nilG).alloc nilG).drew.heap.size ((w.alloc nilG).alloc nilG).drew w3) (hr : Rd w3 wa ws) (ha : ∀ p, wa = some p → ((w.alloc nilG).alloc nilG).drew.heap.size ≤ p.block) :
    Zf w3 (w.heap.size + 1) ∧ Gs w (put4 w3 (w.heap.size + 1) (.int .i64 f) (.int .i64 wy) (.slice wa ws.length wc) (.slice none 0 0)) (w.heap.size + 1) f wy ws wa wc := by
  have e1 : (w.alloc nilG).heap.size = w.heap.size + 1 := by simp
  have e2 : ((w.alloc nilG).alloc nilG).drew.heap.size = w.heap.size + 1 + 1 := by
    show ((w.alloc nilG).alloc nilG).heap.size = _
    simp
  have z1 : Zf w3 (w.heap.size + 1) := by
    have := ((zf_made (w.alloc nilG)).up (Below.refl _ _).drew).up hb
    rw [e1] at this
    exact this
  have z0 : Zf w3 w.heap.size := ((zf_made w).up (((Below.refl _ _).alloc (Nat.le_refl _) _).drew)).up hb
  have b0 : Below w.heap.size w w3 := below_on ((((Below.refl _ w).alloc (Nat.le_refl _) _).alloc (by simp) _).drew) hb
  have s3 := hb.size
  rw [e2] at s3
  have fresh : ∀ p, wa = some p → p.block ≠ w.heap.size + 1 ∧ p.block ≠ w.heap.size := fun p hp => by
    have := ha p hp
    rw [e2] at this
    omega
  obtain ⟨p0, p1, p2, p3, pf⟩ := put4_cells (x0 := .int .i64 f) (x1 := .int .i64 wy) (x2 := .slice wa ws.length wc) (x3 := .slice none 0 0) z1
  refine ⟨z1, ⟨⟨World.grownBy.refl _ _, p0, p1, p2, p3, pf, by rw [put4_size]; omega, World.ownsRow_nil _ _ _ _, (fun c hc => by cases hc), (fun c hc => by cases hc)⟩, rd_keep hr (fun p hp => put4_far (fresh p hp).1) (by rw [put4_size]; exact Nat.le_refl _), fresh, by omega, z0.same (put4_far (by omega)) (by rw [put4_size]; exact Nat.le_refl _), put4_below b0 (by omega)⟩⟩
theorem gs_b {w w3 : World} {f wy : Int} {ws : List Int} {wa : Option Addr} {wc : Nat} (h0 : 0 < ws.length) (hb : Below (w.alloc nilG).drew.heap.size (w.alloc nilG).drew w3) (hr : Rd w3 wa ws) (ha : ∀ p, wa = some p → (w.alloc nilG).drew.heap.size ≤ p.block) :
    Gs w (w3.alloc (.cells #[.int .i64 f, .int .i64 wy, .slice wa ws.length wc, .slice none 0 0] 25)) w3.heap.size f wy ws wa wc := by
  have e1 : (w.alloc nilG).drew.heap.size = w.heap.size + 1 := by
    show (w.alloc nilG).heap.size = _
    simp
  have z0 : Zf w3 w.heap.size := ((zf_made w).up ((Below.refl _ _).drew)).up hb
  have b0 : Below w.heap.size w w3 := below_on (((Below.refl _ w).alloc (Nat.le_refl _) _).drew) hb
  have s3 := hb.size
  rw [e1] at s3
  have ba : Below w3.heap.size w3 (w3.alloc (.cells #[.int .i64 f, .int .i64 wy, .slice wa ws.length wc, .slice none 0 0] 25)) := (Below.refl _ _).alloc (Nat.le_refl _) _
  refine ⟨⟨World.grownBy.refl _ _, World.cell?_alloc_at _ _ _ 0 rfl, World.cell?_alloc_at _ _ _ 1 rfl, World.cell?_alloc_at _ _ _ 2 rfl, World.cell?_alloc_at _ _ _ 3 rfl, fun j => ?_, by simp, World.ownsRow_nil _ _ _ _, (fun c hc => by cases hc), (fun c hc => by cases hc)⟩, hr.below ba, fun p hp => ?_, by omega, z0.up ba, below_on b0 ba⟩
  · unfold World.frozen?
    rw [heap_alloc_new w3 _]
    simp
  · obtain ⟨b, off, e, hl, _⟩ := hr.2 (by intro e; rw [e] at h0; simp at h0)
    have q := ha p hp
    rw [e1] at q
    rw [hp] at e
    cases e
    have q' : w.heap.size + 1 ≤ b := q
    exact ⟨Nat.ne_of_lt hl, show b ≠ w.heap.size by omega⟩

/-- .. where something was done between -/
theorem gs_a2 {w W1 w3 : World} {f wy : Int} {ws : List Int} {wa : Option Addr} {wc : Nat} (z : Zf W1 w.heap.size) (b : Below w.heap.size w W1) (hb : Below (W1.alloc nilG).drew.heap.size (W1.alloc nilG).drew w3) (hr : Rd w3 wa ws) (ha : ∀ p, wa = some p → (W1.alloc nilG).drew.heap.size ≤ p.block) :
    Zf w3 W1.heap.size ∧ Gs w (put4 w3 W1.heap.size (.int .i64 f) (.int .i64 wy) (.slice wa ws.length wc) (.slice none 0 0)) W1.heap.size f wy ws wa wc := by
  have e2 : (W1.alloc nilG).drew.heap.size = W1.heap.size + 1 := by
    show (W1.alloc nilG).heap.size = _
    simp
  have z1 : Zf w3 W1.heap.size := ((zf_made W1).up (Below.refl _ _).drew).up hb
  have z0 : Zf w3 w.heap.size := (z.up (((Below.refl _ _).alloc (Nat.le_refl _) _).drew)).up hb
  have zz := z.sz
  have b0 : Below w.heap.size w w3 := below_on b (below_on (((Below.refl _ W1).alloc (Nat.le_refl _) _).drew) hb)
  have s3 := hb.size
  rw [e2] at s3
  have fresh : ∀ p, wa = some p → p.block ≠ W1.heap.size ∧ p.block ≠ w.heap.size := fun p hp => by
    have := ha p hp
    rw [e2] at this
    omega
  obtain ⟨p0, p1, p2, p3, pf⟩ := put4_cells (x0 := .int .i64 f) (x1 := .int .i64 wy) (x2 := .slice wa ws.length wc) (x3 := .slice none 0 0) z1
  refine ⟨z1, ⟨⟨World.grownBy.refl _ _, p0, p1, p2, p3, pf, by rw [put4_size]; omega, World.ownsRow_nil _ _ _ _, (fun c hc => by cases hc), (fun c hc => by cases hc)⟩, rd_keep hr (fun p hp => put4_far (fresh p hp).1) (by rw [put4_size]; exact Nat.le_refl _), fresh, by omega, z0.same (put4_far (by omega)) (by rw [put4_size]; exact Nat.le_refl _), put4_below b0 (by omega)⟩⟩
theorem gs_b2 {w W1 w3 : World} {f wy : Int} {ws : List Int} {wa : Option Addr} {wc : Nat} (h0 : 0 < ws.length) (z : Zf W1 w.heap.size) (b : Below w.heap.size w W1) (hb : Below W1.drew.heap.size W1.drew w3) (hr : Rd w3 wa ws) (ha : ∀ p, wa = some p → W1.drew.heap.size ≤ p.block) :
    Gs w (w3.alloc (.cells #[.int .i64 f, .int .i64 wy, .slice wa ws.length wc, .slice none 0 0] 25)) w3.heap.size f wy ws wa wc := by
  have e1 : W1.drew.heap.size = W1.heap.size := rfl
  have z0 : Zf w3 w.heap.size := (z.up ((Below.refl _ _).drew)).up hb
  have zz := z.sz
  have b0 : Below w.heap.size w w3 := below_on b (below_on ((Below.refl _ W1).drew) hb)
  have s3 := hb.size
  rw [e1] at s3
  have ba : Below w3.heap.size w3 (w3.alloc (.cells #[.int .i64 f, .int .i64 wy, .slice wa ws.length wc, .slice none 0 0] 25)) := (Below.refl _ _).alloc (Nat.le_refl _) _
  refine ⟨⟨World.grownBy.refl _ _, World.cell?_alloc_at _ _ _ 0 rfl, World.cell?_alloc_at _ _ _ 1 rfl, World.cell?_alloc_at _ _ _ 2 rfl, World.cell?_alloc_at _ _ _ 3 rfl, fun j => ?_, by simp, World.ownsRow_nil _ _ _ _, (fun c hc => by cases hc), (fun c hc => by cases hc)⟩, hr.below ba, fun p hp => ?_, by omega, z0.up ba, below_on b0 ba⟩
  · unfold World.frozen?
    rw [heap_alloc_new w3 _]
    simp
  · obtain ⟨b, off, e, hl, _⟩ := hr.2 (by intro e; rw [e] at h0; simp at h0)
    have q := ha p hp
    rw [e1] at q
    rw [hp] at e
    cases e
    have q' : W1.heap.size ≤ b := q
    exact ⟨Nat.ne_of_lt hl, show b ≠ w.heap.size by omega⟩

/-- the grove, as it is handed back -/
theorem gw_done {w wx wr : World} {gb : Nat} {f wy : Int} {ws : List Int} {wa : Option Addr} {wc : Nat} {C : List Tc} {x : Value} (s : Gs w wx gb f wy ws wa wc) (h : Gw wx wr gb f wy (.slice wa ws.length wc) C x) (h0 : 0 < C.length) (h12 : C.length ≤ 12) (hw0 : 0 < ws.length) (y0 y1 y2 y3 : Value) :
    ∃ g c, x = .slice (some ⟨g, 0, none⟩) C.length c ∧ Zf wr w.heap.size ∧ RdG (put4 wr w.heap.size y0 y1 y2 y3) ⟨f, wy, wa, ws, wc, some ⟨g, 0, none⟩, C, c⟩ ∧ Below w.heap.size w (put4 wr w.heap.size y0 y1 y2 y3) := by
  have gs := h.gr.size
  have rz := s.z.sz
  obtain ⟨g, c, e, hg1, hg2⟩ := h.ox.form h0
  subst e
  have far : ∀ q, q ≠ w.heap.size → (put4 wr w.heap.size y0 y1 y2 y3).heap[q]? = wr.heap[q]? := fun q hq => put4_far hq
  refine ⟨g, c, rfl, s.z.same (h.gr.block _ rz (fun e => by have := s.gn; cases e; omega)) gs, ⟨rd_keep s.rw (fun p hp => ?_) (by rw [put4_size]; exact gs), ?_, ?_, fun _ => ⟨g, 0, rfl, by rw [put4_size]; exact hg2, fun i hi => ?_⟩⟩, put4_below (s.b.grown h.gr s.b.size (fun k hk => by cases hk; have := s.gn; omega)) (Nat.le_refl _)⟩
  · obtain ⟨n1, n2⟩ := s.ne p hp
    have hp' : wa = some p := hp
    obtain ⟨b, off, e, hl, _⟩ := s.rw.2 (by intro e; rw [e] at hw0; simp at hw0)
    rw [hp'] at e
    cases e
    exact (far _ n2).trans (h.gr.block _ hl (fun e => n1 (by cases e; rfl)))
  · show C.length ≤ maxLen
    unfold maxLen; omega
  · intro c' hc
    have hc' : c' ∈ C := hc
    exact rdn_keep (h.rd c' hc') (fun p hp => far _ (by have := (h.ap c' hc' p hp).1; omega)) (by rw [put4_size]; exact Nat.le_refl _)
  · have hi' : i < C.length := hi
    rw [Nat.zero_add]
    refine (World.cell?_of_block (a := ⟨g, i, none⟩) (far g (by omega))).trans ((h.ox.cellAt i (by omega)).trans ?_)
    rw [List.getElem?_map, List.getElem?_eq_getElem hi']
    rfl

end Go.Proofs.YtjnkkniefpmgdadDoor

namespace Go.Proofs.YtjnkkniefpmgdadDoor
open Go.ChangeShapes Go.WideShapes Go.ChangeAt Go.RowKit Go.Lib
set_option linter.unusedVariables false

set_option maxHeartbeats 1000000 in
set_option maxRecDepth 10000 in
theorem clone_ints (b off c : Nat) (xs : List Int) (w : World) (hc : ∀ i, i < xs.length → w.cell? ⟨b, off + i, none⟩ = some (.int .i64 (xs.getD i 0))) (h63 : xs.length ≤ 1000000) (hb : b < w.heap.size) :
    Calls Tryd.prog 25 #[.slice (some ⟨b, off, none⟩) xs.length c] w fun e w' => ∃ a cap, e = .returned (.slice a xs.length cap) ∧ Rd w' a xs ∧ (∀ p, a = some p → w.heap.size ≤ p.block) ∧ Below w.heap.size w w' := by
  obtain ⟨i0, hi, hz0, hz1, hz2⟩ := info_parts info3
  have SR := hide (src_cells hc)
  have S2 : Hid (∀ o, ∀ j u, (xs.map (Value.int .i64))[j]? = some u → (w.alloc o).cell? ((⟨b, off, none⟩ : Addr).add j) = some u) := fun o j u hj => by
    have := SR.out j u hj
    rw [add_flat] at this ⊢
    exact (((Below.refl w.heap.size w).alloc (Nat.le_refl _) o).cell (p := ⟨b, off + j, none⟩) hb).trans this
  have q22 : ∀ (w : World) (a : Option Addr) (n c n' c' : Nat), (binOp .eql 22 (.slice a n c) (.slice none n' c')).run Tryd.prog w = .ok (.bool a.isNone) w := fun w a n c n' c' => Lib.run_eql_slice_nil w _ _ a n c n' c' Tryd.underlying22
  clear hc SR
  go_enter Tryd.func25, Tryd.ntmps25
  go_wp2_with (at_builtin; (refine wpList_append_own _ rfl (.tmp 5) (.tmp 6) 22 rfl w.heap.size 3 i0 (.int .i64 0) 1 8 Tryd.underlying22 hi hz0 hz1 hz2 rfl (by decide) _ 0 [] rfl (World.ownsRow_made w #[] 0 (Nat.le_refl _) (Nat.zero_le _) (by simp)) ⟨b, off, none⟩ xs.length c (xs.map (Value.int .i64)) rfl (by simp) (S2.out _) (one_cells xs) (by unfold maxLen; omega) (by omega) (by simp) ?_); intro v' w1 hown hgrow hnil)
  have hb1 : Below w.heap.size w w1 := ((RowKit.Below.refl _ w).alloc (Nat.le_refl _) _).grown hgrow (by simp) (fun k hk => by cases hk; exact Nat.le_refl _)
  have HO := hide hown
  clear hown hgrow hnil
  go_wp2
  go_ret
  have h := HO.out
  rw [Nat.zero_add, List.nil_append] at h
  obtain ⟨a, cap, e, hr, _⟩ := own_rd h
  subst e
  refine ⟨a, cap, rfl, hr, fun p hp => ?_, hb1⟩
  subst hp
  exact (h.lt p.block rfl).1

end Go.Proofs.YtjnkkniefpmgdadDoor

namespace Go.Proofs.YtjnkkniefpmgdadDoor
open Go.ChangeShapes Go.WideShapes Go.ChangeAt Go.RowKit Go.Lib
set_option linter.unusedVariables false

set_option maxHeartbeats 16000000 in
set_option maxRecDepth 10000 in
theorem prune_gives : PruneGives := by
  intro G w h
  have CK := hide (fun W (hW : Below w.heap.size w W) => gcheck_any G W (h.below hW))
  have HG := hide h
  unfold Gr.v at CK ⊢
  obtain ⟨wb, hwb⟩ : ∃ W, W = w.alloc (.cells #[.int .i64 G.f, .int .i64 G.w, .slice G.wa G.ws.length G.wc, .slice G.ta G.ks.length G.tc] 25) := ⟨_, rfl⟩
  have SB : Hid (wb.heap.size = w.heap.size + 1) := by rw [hwb]; simp [Hid]
  have BB : Hid (Below w.heap.size w wb) := by rw [hwb]; exact (Below.refl _ w).alloc (Nat.le_refl _) _
  have BX : Hid (∀ W, Below wb.heap.size wb W → Below w.heap.size w W ∧ W.cell? ⟨w.heap.size, 0, none⟩ = some (.int .i64 G.f) ∧ W.cell? ⟨w.heap.size, 1, none⟩ = some (.int .i64 G.w) ∧ W.cell? ⟨w.heap.size, 2, none⟩ = some (.slice G.wa G.ws.length G.wc) ∧ W.cell? ⟨w.heap.size, 3, none⟩ = some (.slice G.ta G.ks.length G.tc)) := fun W hW => ⟨below_on BB.out hW, by rw [hwb] at hW; exact kept_box hW⟩
  have B1 : Hid (Below wb.heap.size wb (wb.alloc nilG)) := (Below.refl _ _).alloc (Nat.le_refl _) _
  have ZB : Hid (∀ W, Below (wb.alloc nilG).heap.size (wb.alloc nilG) W → Zf W (w.heap.size + 1) ∧ Below wb.heap.size wb W) := fun W hW => by
    have := (zf_made wb).up hW
    rw [SB.out] at this
    exact ⟨this, below_on B1.out hW⟩
  by_cases he : M.groveF G.m = 0
  · have K := (M.good_iff G.m).1 he
    have tlen : (M.gt G.m).length = G.ks.length := tl_len G.ks
    have g0 : 0 < G.ks.length := by rw [← tlen]; exact K.t0
    have g12 : G.ks.length ≤ 12 := by rw [← tlen]; exact K.t12
    have wl := K.len
    have w0 : 0 < G.ws.length := by
      have : (M.gs G.m).length = G.ws.length := rfl
      omega
    have wm : G.ws.length ≤ 12 := by
      have : (M.gs G.m).length = G.ws.length := rfl
      omega
    have TZ : ∀ k (hk : k < G.ks.length), (M.treeF G.ks[k].2.1 G.f).2 = 0 := fun k hk => K.trees G.ks[k].2.1 (List.mem_map.2 ⟨_, List.getElem_mem hk, rfl⟩)
    have LT : Hid (∀ k (hk : k < G.ks.length), ∀ W, Below w.heap.size w W → Calls Tryd.prog 21 #[.slice G.ks[k].1 G.ks[k].2.1.length G.ks[k].2.2, .int .i64 G.f] W fun e w' => ∃ a c, e = .returned (.tuple #[.slice a (M.prunV G.ks[k].2.1 G.f).length c, .nilIface]) ∧ RdN w' a (M.prunV G.ks[k].2.1 G.f) ∧ (∀ p, a = some p → W.heap.size ≤ p.block) ∧ Below W.heap.size W w') := fun k hk W hW => by
      have := ptree_any G.ks[k].1 G.ks[k].2.1 G.ks[k].2.2 G.f W ((HG.out.below hW).2.2.1 _ (List.getElem_mem hk))
      rw [err_nil (TZ k hk)] at this
      exact this
    have LK : Hid (∀ k (hk : k < G.ks.length), ((tl G.ks).map (fun t => M.prunV t G.f)).take (k + 1) = ((tl G.ks).map (fun t => M.prunV t G.f)).take k ++ [M.prunV G.ks[k].2.1 G.f] ∧ M.prunV G.ks[k].2.1 G.f ≠ []) := fun k hk => by
      have h1 : k < (tl G.ks).length := by rw [tl_len]; exact hk
      refine ⟨?_, fun e => ?_⟩
      · rw [List.take_add_one, List.getElem?_map, List.getElem?_eq_getElem h1]
        simp [tl]
      · have q := (M.tree_ok (M.prun_tree (TZ k hk)).1).1.2.1
        rw [e] at q
        simp at q
    have TT : Hid (((tl G.ks).map (fun t => M.prunV t G.f)).take G.ks.length = (tl G.ks).map (fun t => M.prunV t G.f)) := List.take_of_length_le (by rw [List.length_map, tl_len]; exact Nat.le_refl _)
    have JM1 : Hid (M.prunG G.m = (G.f, G.w, G.ws, (tl G.ks).map (fun t => M.prunV t G.f))) := by unfold Hid M.prunG; rw [if_pos he]; rfl
    obtain ⟨bt2, ot2, eta, hbt2, hct2⟩ := HG.out.2.2.2 (by intro e; rw [e] at g0; simp at g0)
    obtain ⟨bw, ow, ewa, hbw, hcw⟩ := HG.out.1.2 (by intro e; rw [e] at w0; simp at w0)
    have HT : Hid (∀ W, Below w.heap.size w W → ∀ k (hk : k < G.ks.length), W.cell? ⟨bt2, ot2 + k, none⟩ = some (.slice G.ks[k].1 G.ks[k].2.1.length G.ks[k].2.2)) := fun W hW k hk => (hW.cell (p := ⟨bt2, ot2 + k, none⟩) hbt2).trans (hct2 k hk)
    have CC := hide (fun W (hW : Below w.heap.size w W) => clone_ints bw ow G.wc G.ws W (fun i hi => (hW.cell (p := ⟨bw, ow + i, none⟩) hbw).trans (hcw i hi)) (by omega) (Nat.lt_of_lt_of_le hbw hW.size))
    obtain ⟨i0, hi, hz0, hz1, hz2⟩ := info_parts infoL
    have I0 := hide hi
    rw [err_nil he] at CK ⊢
    rw [eta, ewa] at CK BX hwb ⊢
    have WN : Hid (wb.heap.size = w.heap.size + 1) := SB
    clear he K tlen TZ hi eta hbt2 hct2 ewa hbw hcw h wl
    go_enter Tryd.func24, Tryd.ntmps24
    go_upto_region 1 with fail
    rw [← hwb]
    obtain ⟨_, a0, a1, a2, a3⟩ := BX.out _ B1.out
    clear hwb
    go_upto_region 4 with (go_at_call 17; refine (CK.out _ (BX.out _ B1.out).1).mono ?_; rintro r w1 ⟨rfl, h1⟩; have Z1 := hide (ZB.out _ h1).1; have H1 := hide (ZB.out _ h1).2; clear h1)
    go_cut [5] from 16 to 23 (fun v wx => ∃ gb wa wcc, v = .pointer (some ⟨gb, 0, none⟩) ∧ Hid (Gs wb wx gb G.f G.w G.ws wa wcc))
    case first =>
      have SA : Hid (∀ w3 wa wcc, Below (w1.alloc nilG).drew.heap.size (w1.alloc nilG).drew w3 → Rd w3 wa G.ws → (∀ p, wa = some p → (w1.alloc nilG).drew.heap.size ≤ p.block) → Zf w3 w1.heap.size ∧ Gs wb (put4 w3 w1.heap.size (.int .i64 G.f) (.int .i64 G.w) (.slice wa G.ws.length wcc) (.slice none 0 0)) w1.heap.size G.f G.w G.ws wa wcc) := fun w3 wa wcc q1 q2 q3 => gs_a2 (by rw [WN.out]; exact Z1.out) H1.out q1 q2 q3
      have SD : Hid (∀ w3 wa wcc, Below w1.drew.heap.size w1.drew w3 → Rd w3 wa G.ws → (∀ p, wa = some p → w1.drew.heap.size ≤ p.block) → Gs wb (w3.alloc (.cells #[.int .i64 G.f, .int .i64 G.w, .slice wa G.ws.length wcc, .slice none 0 0] 25)) w3.heap.size G.f G.w G.ws wa wcc) := fun w3 wa wcc q1 q2 q3 => gs_b2 w0 (by rw [WN.out]; exact Z1.out) H1.out q1 q2 q3
      have D1 : Hid (Below wb.heap.size wb w1.drew) := H1.out.drew
      have D2 : Hid (Below wb.heap.size wb (w1.alloc nilG).drew) := (H1.out.alloc H1.out.size _).drew
      obtain ⟨_, b0, b1, b2, b3⟩ := BX.out _ H1.out
      obtain ⟨_, x0, x1, x2, x3⟩ := BX.out _ (H1.out.alloc H1.out.size nilG)
      have KD : Hid (∀ W, Below wb.heap.size wb W → W.cell? ⟨w.heap.size, 0, none⟩ = some (.int .i64 G.f) ∧ W.cell? ⟨w.heap.size, 1, none⟩ = some (.int .i64 G.w) ∧ W.cell? ⟨w.heap.size, 2, none⟩ = some (.slice (some ⟨bw, ow, none⟩) G.ws.length G.wc) ∧ ¬ W.heap.size = w.heap.size) := fun W hW => by
        obtain ⟨_, y0, y1, y2, y3⟩ := BX.out W hW
        have := hW.size
        have := WN.out
        exact ⟨y0, y1, y2, by omega⟩
      have pn1 : ¬ w1.heap.size = w.heap.size := (KD.out _ H1.out).2.2.2
      clear LT LK TT HT JM1 CK a0 a1 a2 a3 b3 x3
      go_region_held3 (fun W => W.cell? ⟨w.heap.size, 0, none⟩ = some (.int .i64 G.f) ∧ W.cell? ⟨w.heap.size, 1, none⟩ = some (.int .i64 G.w) ∧ W.cell? ⟨w.heap.size, 2, none⟩ = some (.slice (some ⟨bw, ow, none⟩) G.ws.length G.wc)) (go_keep) (first
        | (go_at_call 25; refine (CC.out _ ?qw).mono ?_; (case qw => exact (BX.out _ D2.out).1); rintro e w3 ⟨wa, wcc, rfl, hr3, ha3, hb3⟩; have HSA := SA.out w3 wa wcc hb3 hr3 ha3; have Z3 := HSA.1; have HGS := hide HSA.2; clear HSA; have z0 := Z3.c0; have z1 := Z3.c1; have z2 := Z3.c2; have z3 := Z3.c3; have zf := Z3.fr; have dd := KD.out w3 (below_on D2.out hb3); have d0 := dd.1; have d1 := dd.2.1; have d2 := dd.2.2.1; have pn3 := dd.2.2.2; clear dd)
        | (go_at_call 25; refine (CC.out _ ?qw).mono ?_; (case qw => exact (BX.out _ D1.out).1); rintro e w3 ⟨wa, wcc, rfl, hr3, ha3, hb3⟩; have HGS := hide (SD.out w3 wa wcc hb3 hr3 ha3); have dd := KD.out w3 (below_on D1.out hb3); have d0 := dd.1; have d1 := dd.2.1; have d2 := dd.2.2.1; have pn3 := dd.2.2.2; clear dd))
      all_goals go_wp2
      all_goals go_meet
      all_goals (case rel => exact ⟨_, _, _, rfl, HGS⟩)
    case rest =>
      obtain ⟨gb, wa, wcc, rfl, HGS⟩ := hcut
      clear CK CC a0 a1 a2 a3 Z1
      obtain ⟨wx, hwx⟩ : ∃ W, W = wc := ⟨_, rfl⟩
      subst hwx
      have KB : Hid (∀ W, wx.grownBy W (some gb) → Below wb.heap.size wb W) := fun W hW => HGS.out.b.grown hW HGS.out.b.size (fun k hk => by cases hk; have := HGS.out.gn; omega)
      obtain ⟨_, c0, c1, c2, c3⟩ := BX.out wx HGS.out.b
      go_wp2
      clear c0 c1 c2 c3
      go_loopw [7, 8, 9, 27] (fun _ _ _ i wr => ∃ (k : Nat) (x : Value) (C : List Tc), k ≤ G.ks.length ∧ i = .int .i64 k ∧ Hid (tl C = ((tl G.ks).map (fun t => M.prunV t G.f)).take k ∧ C.length = k) ∧ Hid (Gw wx wr gb G.f G.w (.slice wa G.ws.length wcc) C x)) (fun _ _ _ i _ => G.ks.length - (intOf i).toNat)
      case atStart => exact ⟨0, .slice none 0 0, [], Nat.zero_le _, rfl, ⟨rfl, rfl⟩, HGS.out.gw⟩
      case round =>
        obtain ⟨k2, x, C, hk2, rfl, HC, GW⟩ := hrel
        have gbl := KB.out wr GW.out.gr
        obtain ⟨kw, z0, z1, z2, z3⟩ := BX.out wr gbl
        by_cases hlt : k2 < G.ks.length
        · obtain ⟨l2, l3⟩ := LK.out k2 hlt
          have ct := HT.out wr kw k2 hlt
          have P1 := hide (LT.out k2 hlt wr kw)
          have kz : (k2 : Int) < (G.ks.length : Int) := by omega
          have TC : Hid (∀ a cp, tl (C ++ [(a, M.prunV G.ks[k2].2.1 G.f, cp)]) = ((tl G.ks).map (fun t => M.prunV t G.f)).take (k2 + 1) ∧ (C ++ [(a, M.prunV G.ks[k2].2.1 G.f, cp)]).length = k2 + 1) := fun a cp => by
            rw [l2, ← HC.out.1]
            refine ⟨by simp [tl], by rw [List.length_append, HC.out.2]; rfl⟩
          have cl : C.length ≤ 12 := by have := HC.out.2; omega
          have UP : Hid (∀ W, Below wr.heap.size wr W → Gw wx W gb G.f G.w (.slice wa G.ws.length wcc) C x ∧ W.cell? ⟨gb, 3, none⟩ = some x ∧ W.ownsRow wx.heap.size 29 1 x C.length (C.map tV) ∧ wx.heap.size ≤ W.heap.size) := fun W hW => ⟨GW.out.up hW, (GW.out.up hW).c3, (GW.out.up hW).ox, (GW.out.up hW).gr.size⟩
          have MO : Hid (∀ (w5 : World) (o : Obj) a cp g2 c2 w6, Below wr.heap.size wr w5 → RdN w5 a (M.prunV G.ks[k2].2.1 G.f) → (∀ p, a = some p → wr.heap.size ≤ p.block) → (w5.alloc o).grownBy w6 x.ownBlock → w6.ownsRow wx.heap.size 29 1 (.slice (some ⟨g2, 0, none⟩) (C.length + 1) c2) (C.length + 1) (C.map tV ++ [.slice a (M.prunV G.ks[k2].2.1 G.f).length cp]) → (x.ownBlock = some g2 ∨ g2 = w5.heap.size + 1) → (w6.cell? ⟨gb, 3, none⟩ = some x ∧ w6.frozen? ⟨gb, 3, none⟩ = false) ∧ Hid (Gw wx (w6.setCell ⟨gb, 3, none⟩ (.slice (some ⟨g2, 0, none⟩) (C.length + 1) c2)) gb G.f G.w (.slice wa G.ws.length wcc) (C ++ [(a, M.prunV G.ks[k2].2.1 G.f, cp)]) (.slice (some ⟨g2, 0, none⟩) (C.length + 1) c2))) := fun w5 o a cp g2 c2 w6 hb hr ha hg ho hor => by
            have q := (UP.out w5 hb).1
            have qs := q.gr.size
            have ql := q.lt
            have gf' : w6.heap[gb]? = w5.heap[gb]? := (hg.block _ (by simp; omega) (fun e => by have := (q.ox.lt _ e.symm).1; omega)).trans (Below.heap_alloc _ _ _ (by omega))
            refine ⟨⟨(World.cell?_of_block (a := ⟨gb, 3, none⟩) gf').trans q.c3, (World.frozen?_of_block (a := ⟨gb, 3, none⟩) gf').trans (q.fr 3)⟩, ?_⟩
            exact q.more (w0 := wr) (fun z hz => (GW.out.ox.lt z hz).2) GW.out.gr.size hb.size l3 hr ha hg ho hor
          clear HT LT LK TT HC GW l2 l3 JM1 z1 z2 z3
          generalize M.prunV G.ks[k2].2.1 G.f = LV at *
          generalize G.ks[k2].2.1.length = tn at *
          generalize G.ks[k2].2.2 = tcc at *
          generalize G.ks[k2].1 = ta at *
          go_wp2_with (first
            | (go_at_call 21; refine P1.out.mono ?_; rintro r w5 ⟨av, cv, rfl, hr5, ha5, h5⟩; have HR5 := hide hr5; have HA5 := hide ha5; have H5 := hide h5; have U5 := hide (UP.out w5 h5); have c5 := U5.out.2.1; have U6 := hide (UP.out _ (h5.alloc h5.size (.cells #[.slice av LV.length cv] 29))); have c6 := U6.out.2.1; clear hr5 ha5 h5)
            | (at_builtin; refine wpList_append_lies _ rfl (.tmp 43) (.tmp 45) 23 rfl wx.heap.size 29 i0 (.slice none 0 0) 1 24 Tryd.underlying23 I0.out hz0 hz1 hz2 rfl (by decide) x C.length (C.map tV) rfl U6.out.2.2.1 ⟨w5.heap.size, 0, none⟩ 1 1 [.slice av LV.length cv] rfl rfl (World.news_of_block (heap_alloc_new _ _)) (by intro u hu; simp at hu; subst hu; rfl) (by decide) (by unfold maxLen; omega) (by omega) U6.out.2.2.2 (w5.heap.size + 1) (by simp) ?_; intro g6 c6' w6 hown6 hgrow6 hor6 hlt6; have MM := MO.out w5 _ av cv g6 c6' w6 H5.out HR5.out HA5.out hgrow6 hown6 hor6; have v3 := MM.1.1; have vf := MM.1.2; have NG := MM.2; clear MM hown6 hgrow6 hor6))
          go_roundw
          case rel => exact ⟨k2 + 1, _, C ++ [(av, LV, cv)], by omega, by go_num, ⟨(TC.out av cv).1, (TC.out av cv).2⟩, NG⟩
          case measure => simp [intOf]; omega
        · have hke : k2 = G.ks.length := by omega
          have kz : ¬ ((k2 : Int) < (G.ks.length : Int)) := by omega
          have hC : 0 < C.length := by have := HC.out.2; omega
          have hC12 : C.length ≤ 12 := by have := HC.out.2; omega
          obtain ⟨gx, cx, ex, Z, _, _⟩ := gw_done HGS.out GW.out hC hC12 w0 .nilIface .nilIface .nilIface .nilIface
          subst ex
          have FIN : Hid (RdG (put4 wr wb.heap.size (.int .i64 G.f) (.int .i64 G.w) (.slice wa G.ws.length wcc) (.slice (some ⟨gx, 0, none⟩) C.length cx)) ⟨G.f, G.w, wa, G.ws, wcc, some ⟨gx, 0, none⟩, C, cx⟩ ∧ Below wb.heap.size wb (put4 wr wb.heap.size (.int .i64 G.f) (.int .i64 G.w) (.slice wa G.ws.length wcc) (.slice (some ⟨gx, 0, none⟩) C.length cx))) := by
            obtain ⟨g3, c3, e3, _, r1, r2⟩ := gw_done HGS.out GW.out hC hC12 w0 (.int .i64 G.f) (.int .i64 G.w) (.slice wa G.ws.length wcc) (.slice (some ⟨gx, 0, none⟩) C.length cx)
            cases e3
            exact ⟨r1, r2⟩
          have EM : Hid (tl C = (tl G.ks).map (fun t => M.prunV t G.f)) := by unfold Hid; rw [HC.out.1, hke]; exact TT.out
          rw [WN.out] at Z FIN
          have y0 := GW.out.c0
          have y1 := GW.out.c1
          have y2 := GW.out.c2
          have y3 := GW.out.c3
          have q0 := Z.c0
          have q1 := Z.c1
          have q2 := Z.c2
          have q3 := Z.c3
          have qf := Z.fr
          obtain ⟨e0, e1, e2, e3⟩ := set4f (x0 := .int .i64 G.f) (x1 := .int .i64 G.w) (x2 := .slice wa G.ws.length wcc) (x3 := .slice (some ⟨gx, 0, none⟩) C.length cx) q0 q1 q2 q3
          clear HC GW HT LT LK TT Z hke
          go_wp2
          (try simp only [Exit.inBlock, Exit.then])
          refine bodyPost_ret (v := .tuple #[.agg #[.int .i64 G.f, .int .i64 G.w, .slice wa G.ws.length wcc, .slice (some ⟨gx, 0, none⟩) C.length cx], .nilIface]) (by simp [results, Tryd.results24, go_sem, e0, e1, e2, e3]) rfl ?_
          refine ⟨⟨G.f, G.w, wa, G.ws, wcc, some ⟨gx, 0, none⟩, C, cx⟩, rfl, ?_, FIN.out.1, below_on BB.out ?_⟩
          · show (G.f, G.w, G.ws, tl C) = _
            rw [EM.out, JM1.out]
          · rw [WN.out]
            exact FIN.out.2
  · have JM0 : M.prunG G.m = (0, 0, [], []) := by unfold M.prunG; rw [if_neg he]
    have ES := hide (err_some he)
    rw [err_some he] at CK
    rw [JM0]
    clear he JM0 h
    generalize errV (M.groveF G.m) = er at *
    generalize M.groveF G.m = e at *
    go_enter Tryd.func24, Tryd.ntmps24
    go_upto_region 1 with fail
    rw [← hwb]
    obtain ⟨_, a0, a1, a2, a3⟩ := BX.out _ B1.out
    clear hwb
    go_upto_region 3 with (go_at_call 17; refine (CK.out _ (BX.out _ B1.out).1).mono ?_; rintro r w1 ⟨rfl, h1⟩; have Z1 := hide (ZB.out _ h1).1; have H1 := hide (ZB.out _ h1).2; clear h1)
    have q0 := Z1.out.c0
    have q1 := Z1.out.c1
    have q2 := Z1.out.c2
    have q3 := Z1.out.c3
    have qf := Z1.out.fr
    obtain ⟨e0, e1, e2, e3⟩ := set4f (x0 := .int .i64 0) (x1 := .int .i64 0) (x2 := .slice none 0 0) (x3 := .slice none 0 0) q0 q1 q2 q3
    have FB : Hid (Below w.heap.size w (put4 w1 (w.heap.size + 1) (.int .i64 0) (.int .i64 0) (.slice none 0 0) (.slice none 0 0))) := put4_below (below_on BB.out H1.out) (by omega)
    clear a0 a1 a2 a3
    go_wp2
    (try simp only [Exit.inBlock, Exit.then])
    refine bodyPost_ret (v := .tuple #[.agg #[.int .i64 0, .int .i64 0, .slice none 0 0, .slice none 0 0], .iface 65 (.int .i64 e)]) (by simp [results, Tryd.results24, go_sem, e0, e1, e2, e3]) rfl ?_
    exact ⟨⟨0, 0, none, [], 0, none, [], 0⟩, by rw [ES.out]; rfl, rfl, ⟨⟨Nat.zero_le _, fun h => absurd rfl h⟩, Nat.zero_le _, (fun k hk => by cases hk), fun h => absurd rfl h⟩, FB.out⟩

end Go.Proofs.YtjnkkniefpmgdadDoor

namespace Go.Proofs.YtjnkkniefpmgdadDoor

theorem ptells_all (G : Gr) (a0 : Option Addr) (ts : List M.Nd) (cap : Nat) (m : Int) (w : World) (h : RdG w G) (ht : RdN w a0 ts) (hl : Lays w) :
    Calls Tryd.prog 4 #[.slice a0 ts.length cap, .int .i64 m, G.v] w fun r w' => r = .returned (.bool true) ∧ RowKit.Below w.heap.size w w' := prune_walk tree_gives sort_gives prune_gives a0 ts cap m G w ht h hl

end Go.Proofs.YtjnkkniefpmgdadDoor
