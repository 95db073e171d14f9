/-
  Several texts as one: PCome, PShort, PLay.
-/
import Derived.Test.YtjnkkniefpmgdadDoorNodes
import Derived.Test.YtjnkkniefpmgdadDoorPruneMath
import Derived.Laws.Rows
import Derived.RegionTactic
import Derived.Deep.Cut
import Derived.Deep.CutRange
import Derived.Test.YtjnkkniefpmgdadDoorTStray
import Derived.Test.YtjnkkniefpmgdadDoorNdClone
import Derived.Test.YtjnkkniefpmgdadDoorGrown
import Derived.Deep.RegionWith
import Derived.Deep.RegionHeld3
import Derived.Deep.QuietTactic
import Derived.BigQuiet
import Derived.Deep.WholeRow
namespace Go.Proofs.YtjnkkniefpmgdadDoor
open Go.ChangeShapes Go.WideShapes Go.ChangeAt Go.RowKit Go.Lib
set_option linter.unusedVariables false

/-- an array of 63 answers of our own -/
def ArrB (w : World) (B g : Nat) (F : List Bool) : Prop := F.length = 63 ∧ w.ownsRow B 99 1 (.slice (some ⟨g, 0, none⟩) 63 63) 63 (F.map Value.bool)
theorem ArrB.cell {w : World} {B g : Nat} {F : List Bool} (h : ArrB w B g F) {i : Nat} (hi : i < 63) : w.cell? ⟨g, i, none⟩ = some (.bool (F.getD i false)) := by
  rw [h.2.cellAt i (by omega)]
  have := h.1
  simp [List.getD, show i < F.length by omega]
theorem ArrB.frozen {w : World} {B g : Nat} {F : List Bool} (h : ArrB w B g F) (i : Nat) : w.frozen? ⟨g, i, none⟩ = false := h.2.frozenAt i
theorem ArrB.set {w : World} {B g : Nat} {F : List Bool} (h : ArrB w B g F) (i : Nat) (x : Bool) : ArrB (w.setCell ⟨g, i, none⟩ (.bool x)) B g (F.set i x) := by
  refine ⟨by rw [List.length_set]; exact h.1, ?_⟩
  rw [List.map_set]
  exact (h.2.stored i (.bool x)).1
theorem ArrB.up {w w' : World} {B g : Nat} {F : List Bool} (h : ArrB w B g F) (hb : Below w.heap.size w w') : ArrB w' B g F := ⟨h.1, own_up h.2 hb⟩
theorem ArrB.lt {w : World} {B g : Nat} {F : List Bool} (h : ArrB w B g F) : B ≤ g ∧ g < w.heap.size := h.2.lt g rfl
theorem ArrB.of {w : World} {B g : Nat} {F : List Bool} (hl : F.length = 63) (hB : B ≤ g) (hg : w.heap[g]? = some (.cells (F.map Value.bool).toArray 99 (0, 0))) : ArrB w B g F :=
  ⟨hl, by simp [hl], .inr ⟨g, 63, _, rfl, hB, hg, Nat.le_refl _, by unfold maxLen; omega, by simp [hl], by rw [List.toList_toArray, List.take_of_length_le (by simp [hl])]⟩⟩
theorem ArrB.block {w : World} {B g : Nat} {F : List Bool} (h : ArrB w B g F) : w.heap[g]? = some (.cells (F.map Value.bool).toArray 99 (0, 0)) := by
  rcases h.2.2 with ⟨h0, _⟩ | ⟨g', cap, cur, e, h1, h2, h3, h4, h5, h6⟩
  · cases h0
  · cases e
    rw [h2]
    have : cur = (F.map Value.bool).toArray := by
      apply Array.toList_inj.1
      rw [← h6, List.take_of_length_le (by simp [h5])]
    rw [this]
theorem ArrB.new (w : World) (B : Nat) (hB : B ≤ w.heap.size) : ArrB (w.alloc (.cells ((List.replicate 63 (Value.bool false)).toArray) 99)) B w.heap.size (List.replicate 63 false) := by
  refine ⟨by simp, ?_⟩
  have := World.ownsRow_lit (base := B) (e := 99) (size := 1) w ((List.replicate 63 (Value.bool false)).toArray) 63 hB (by unfold maxLen; omega) (by simp)
  rw [List.map_replicate]
  exact this
theorem infoB : (Tryd.prog.info? 99).map (·.size) = some 63 := by kernel_rfl
theorem bools_one (F : List Bool) : (F.map Value.bool).toArray.all (·.oneCell') = true := by
  simp [Value.oneCell']
/-- what was there is stored again -/
theorem setRow_same {w : World} {g : Nat} {cs : Array Value} {t : TypeId} {fr : Nat × Nat} (hg : w.heap[g]? = some (.cells cs t fr)) : w.setRow g cs = w := by
  obtain ⟨h, e⟩ := Array.getElem?_eq_some_iff.1 hg
  unfold World.setRow
  have q : ∀ h : Array Obj, h = w.heap → ({ w with heap := h } : World) = w := fun h e => by rw [e]
  apply q
  apply Array.ext
  · simp
  · intro i h1 h2
    rw [Array.getElem_modify]
    split
    · rename_i q
      subst q
      rw [e]
    · rfl

set_option maxHeartbeats 4000000 in
set_option maxRecDepth 10000 in
theorem come_any (a0 : Option Addr) (ts : List M.Nd) (cap m : Nat) (ra : Option Addr) (rc : Nat) (w : World) (h : RdN w a0 ts) (F : M.Fair ts (m : Int)) (hr : Rd w ra (M.rch ts m ts.length)) :
    Calls Tryd.prog 68 #[.slice a0 ts.length cap, .slice ra (M.rch ts m ts.length).length rc] w fun e w' => e = .returned (.agg ((M.cmLs ts m 0).map Value.bool).toArray) ∧ Below w.heap.size w w' := by
  have l63 := F.1
  have l0 := F.2.1
  have HF := hide F
  have RM : Hid (∀ x ∈ M.rch ts m ts.length, ∃ j : Nat, x = (j : Int) ∧ j < 63) := fun x hx => by
    obtain ⟨i, h1, h2, h3⟩ := (M.rch_has ts m ts.length x).1 hx
    exact ⟨i, h2, by omega⟩
  have RA : Hid (M.cmR ts (M.rch ts m ts.length) = M.cmLs ts m ts.length) := M.cmR_all ts m
  have R63 : (M.rch ts m ts.length).length ≤ 63 := Nat.le_trans (M.rch_len ts m ts.length) l63
  obtain ⟨b0, off, rfl, hb0, hc⟩ := h.2 (by intro e; rw [e] at l0; simp at l0)
  have HN : Hid (∀ W, Below w.heap.size w W → ∀ j, j < ts.length → SixAt W b0 (off + j * 6) (M.nAt ts j)) := fun W hW j hj => (hc j hj).below hW hb0
  have HR : Hid (∀ W, Below w.heap.size w W → Rd W ra (M.rch ts m ts.length)) := fun W hW => hr.below hW
  have CA : Hid (∀ i a b : Nat, i < ts.length → M.nf (M.nAt ts i) ≠ -1 → M.nl (M.nAt ts i) = a → M.nr (M.nAt ts i) = b → M.cmV ts m i = (M.cmV ts m a || M.cmV ts m b)) := fun i a b h1 h2 h3 h4 => M.cm_ask F h1 h2 h3 h4
  have HA : Hid (∀ i, i < ts.length → M.nf (M.nAt ts i) ≠ -1 → ∃ a b : Nat, M.nl (M.nAt ts i) = a ∧ M.nr (M.nAt ts i) = b ∧ i < a ∧ a < ts.length ∧ i < b ∧ b < ts.length) := fun i h1 h2 => by
    obtain ⟨a, b, ea, eb, q1, q2, q3, q4, _⟩ := M.ask_at F.2.2.2.2.1 h1 h2
    exact ⟨a, b, ea, eb, q1, q2, q3, q4⟩
  clear h hc hr F
  generalize hRL : M.rch ts m ts.length = RL at *
  clear hRL
  go_enter Tryd.func68, Tryd.ntmps68
  go_wp2
  go_loopw [6, 10] (fun _ i wr => ∃ k : Nat, k ≤ RL.length ∧ i = .int .i64 k ∧ Hid (ArrB wr w.heap.size w.heap.size (M.cmR ts (RL.take k))) ∧ Hid (Below w.heap.size w wr)) (fun _ i _ => RL.length - (intOf i).toNat)
  case atStart =>
    refine ⟨0, Nat.zero_le _, rfl, ?_, (Below.refl _ w).alloc (Nat.le_refl _) _⟩
    rw [List.take_zero, M.cmR_nil]
    exact ArrB.new w w.heap.size (Nat.le_refl _)
  case round =>
    obtain ⟨k, hk, rfl, AB, HB⟩ := hrel
    by_cases hlt : k < RL.length
    · obtain ⟨j, ej, hj⟩ := RM.out RL[k] (List.getElem_mem hlt)
      obtain ⟨rb, ro, era, hrb, hrc⟩ := (HR.out wr HB.out).2 (by intro e; rw [e] at hlt; simp at hlt)
      have c1 := hrc k hlt
      rw [show RL.getD k 0 = RL[k] by simp [List.getD, hlt], ej] at c1
      have kz : (k : Int) < (RL.length : Int) := by omega
      have c2 := AB.out.cell hj
      have f2 := AB.out.frozen j
      have N : Hid (ArrB (wr.setCell ⟨w.heap.size, j, none⟩ (.bool true)) w.heap.size w.heap.size (M.cmR ts (RL.take (k + 1)))) := by
        have := AB.out.set j true
        rw [M.cmR_more _ _ _ hj] at this
        rw [List.take_add_one, List.getElem?_eq_getElem hlt, ej]
        exact this
      have jz : (j : Int) < 63 := by omega
      subst era
      clear hrc RM HR HN HA CA RA AB ej
      go_wp2
      go_roundw
      case rel => exact ⟨k + 1, by omega, by go_num, N, HB.out.setCell (p := ⟨w.heap.size, j, none⟩) (Nat.le_refl _) _⟩
      case measure => simp [intOf] <;> omega
    · have hke : k = RL.length := by omega
      have A0 : Hid (ArrB wr w.heap.size w.heap.size (M.cmLs ts m ts.length)) := by
        have := AB.out
        rw [hke, List.take_length, RA.out] at this
        exact this
      have kz : ¬ ((k : Int) < (RL.length : Int)) := by omega
      clear hke RM HR RA AB
      go_wp2
      go_loopw [7] (fun i wr => ∃ k : Nat, k ≤ ts.length ∧ i = .int .i64 ((k : Int) - 1) ∧ Hid (ArrB wr w.heap.size w.heap.size (M.cmLs ts m k)) ∧ Hid (Below w.heap.size w wr)) (fun i _ => (intOf i + 1).toNat)
      case atStart => exact ⟨ts.length, Nat.le_refl _, by go_num, A0, HB⟩
      case round =>
        clear A0 HB
        obtain ⟨k2, hk2, hi, AB, HB⟩ := hrel
        rcases k2 with _ | i
        · replace hi : _ = Value.int .i64 (-1) := hi
          subst hi
          have hbk := AB.out.block
          clear HN HA CA
          go_upto_region 11 with fail
          go_wp2_with (first
            | (refine wpList_load_row rfl 99 (.tmp 4) rfl w.heap.size rfl 99 _ (0, 0) _ hbk Tryd.underlying99 rfl (by rw [infoB]; simp [M.cmLs_len]) ?_)
            | (refine wpList_store_row rfl 99 (.tmp 4) (.tmp 48) rfl w.heap.size _ rfl rfl 99 _ hbk (by rw [infoB]; simp [M.cmLs_len]) rfl (bools_one _) ?_; rw [setRow_same hbk]))
          refine bodyPost_ret (v := .agg ((M.cmLs ts m 0).map Value.bool).toArray) (results_cell_row rfl _ wr w.heap.size 99 _ (0, 0) _ rfl hbk Tryd.underlying99 rfl (by rw [infoB]; simp [M.cmLs_len])) rfl ⟨rfl, HB.out⟩
        · have e0 : ((i + 1 : Nat) : Int) - 1 = (i : Int) := by omega
          rw [e0] at hi
          subst hi
          clear e0
          have hil : i < ts.length := by omega
          have iz : (i : Int) < (ts.length : Int) := by omega
          obtain ⟨s0, s1, s2, s3, s4, s5⟩ := HN.out wr HB.out i hil
          by_cases hf : M.nf (M.nAt ts i) = -1
          · have q : (M.nf (M.nAt ts i) != -1) = false := by rw [bne_eq_false_iff_eq]; exact hf
            have N : Hid (ArrB wr w.heap.size w.heap.size (M.cmLs ts m i)) := by
              have := AB.out
              rw [M.cmLs_leaf hil hf] at this
              exact this
            clear HN HA CA AB hf s1 s2 s3 s4 s5
            go_wp2
            go_roundw
            case rel => exact ⟨i, by omega, by go_num, N, HB⟩
            case measure => simp [intOf] <;> omega
          · have q : (M.nf (M.nAt ts i) != -1) = true := by rw [bne_iff_ne]; exact hf
            obtain ⟨a, b, ea, eb, h1, h2, h3, h4⟩ := HA.out i hil hf
            have ce := CA.out i a b hil hf ea eb
            rw [ea] at s2
            rw [eb] at s3
            have az : (a : Int) < 63 := by omega
            have bz : (b : Int) < 63 := by omega
            have i63 : (i : Int) < 63 := by omega
            have ca := AB.out.cell (show a < 63 by omega)
            have cb := AB.out.cell (show b < 63 by omega)
            have ci := AB.out.cell (show i < 63 by omega)
            have fi := AB.out.frozen i
            rw [M.cmLs_at h2 l63, show M.cmK ts m (i + 1) a = M.cmV ts m a by unfold M.cmK; rw [if_pos (by omega)]] at ca
            rw [M.cmLs_at h4 l63, show M.cmK ts m (i + 1) b = M.cmV ts m b by unfold M.cmK; rw [if_pos (by omega)]] at cb
            have N : Hid (ArrB (wr.setCell ⟨w.heap.size, i, none⟩ (.bool (M.cmV ts m a || M.cmV ts m b))) w.heap.size w.heap.size (M.cmLs ts m i)) := by
              have := AB.out.set i (M.cmV ts m a || M.cmV ts m b)
              rw [← ce, M.cmLs_set hil l63] at this
              rw [← ce]
              exact this
            clear HN HA CA AB hf s1 s4 s5 ea eb ce
            generalize M.cmV ts m a = va at *
            generalize M.cmV ts m b = vb at *
            cases va with
            | true =>
              go_wp2
              go_roundw
              case rel => exact ⟨i, by omega, by go_num, N, HB.out.setCell (p := ⟨w.heap.size, i, none⟩) (Nat.le_refl _) _⟩
              case measure => simp [intOf] <;> omega
            | false =>
              go_wp2
              go_roundw
              case rel => exact ⟨i, by omega, by go_num, N, HB.out.setCell (p := ⟨w.heap.size, i, none⟩) (Nat.le_refl _) _⟩
              case measure => simp [intOf] <;> omega

end Go.Proofs.YtjnkkniefpmgdadDoor

namespace Go.Proofs.YtjnkkniefpmgdadDoor
open Go.ChangeShapes Go.WideShapes Go.ChangeAt Go.RowKit Go.Lib
set_option linter.unusedVariables false

def M.sameB (a b : M.Nd) : Bool := decide (M.nf a = -1 ∧ M.nf b = -1 ∧ M.nv a = M.nv b)
set_option maxHeartbeats 1000000 in
theorem same_any (x y : M.Nd) (w : World) : Calls Tryd.prog 69 #[ndV x, ndV y] w fun e w' => e = .returned (.bool (M.sameB x y)) ∧ Below w.heap.size w w' := by
  have B2 : Hid (∀ o1 o2, Below w.heap.size w ((w.alloc o1).alloc o2)) := fun o1 o2 => ((Below.refl _ w).alloc (Nat.le_refl _) o1).alloc (by simp) o2
  have E : Hid (((M.nf x == -1) && (M.nf y == -1) && (M.nv x == M.nv y)) = M.sameB x y) := by
    unfold Hid M.sameB
    by_cases h1 : M.nf x = -1 <;> by_cases h2 : M.nf y = -1 <;> by_cases h3 : M.nv x = M.nv y <;> simp [h1, h2, h3]
  unfold ndV
  generalize M.sameB x y = o at *
  generalize M.nf x = xf at *
  generalize M.nf y = yf at *
  generalize M.nv x = xv at *
  generalize M.nv y = yv at *
  cases t1 : (xf == -1) with
  | false =>
    go_enter Tryd.func69, Tryd.ntmps69
    go_wp2
    go_ret
    exact ⟨by rw [← E.out, t1]; rfl, B2.out _ _⟩
  | true =>
    cases t2 : (yf == -1) with
    | false =>
      go_enter Tryd.func69, Tryd.ntmps69
      go_wp2
      go_ret
      exact ⟨by rw [← E.out, t1, t2]; rfl, B2.out _ _⟩
    | true =>
      go_enter Tryd.func69, Tryd.ntmps69
      go_wp2
      go_ret
      exact ⟨by rw [← E.out, t1, t2]; rfl, B2.out _ _⟩

theorem own_apart {w : World} {base n e size p o : Nat} {v x : Value} {l : List Value} (h : w.ownsRow base e size v n l) (hp : v.ownBlock ≠ some p) : (w.setCell ⟨p, o, none⟩ x).ownsRow base e size v n l := by
  refine ⟨h.1, ?_⟩
  rcases h.2 with h0 | ⟨g, cap, cur, hv, h1, h2, h3⟩
  · exact .inl h0
  · refine .inr ⟨g, cap, cur, hv, h1, ?_, h3⟩
    rw [← h2]
    have : ¬ p = g := fun e => hp (by rw [hv, e]; rfl)
    simp [World.setCell, Array.getElem?_modify, this]
theorem Arr.apart {w : World} {B g p o : Nat} {F : List Int} {x : Value} (h : Arr w B g F) (hp : p ≠ g) : Arr (w.setCell ⟨p, o, none⟩ x) B g F := ⟨h.1, own_apart h.2 (fun e => hp (by cases e; rfl))⟩
theorem ArrB.apart {w : World} {B g p o : Nat} {F : List Bool} {x : Value} (h : ArrB w B g F) (hp : p ≠ g) : ArrB (w.setCell ⟨p, o, none⟩ x) B g F := ⟨h.1, own_apart h.2 (fun e => hp (by cases e; rfl))⟩
theorem Arr.drew {w : World} {B g : Nat} {F : List Int} (h : Arr w B g F) : Arr w.drew B g F := h.up (Below.refl _ _).drew
/-- what shorten holds while it goes -/
structure Sh (w W : World) (len g c p q : Nat) (sh : List M.Nd) (ins : List Int) (cs : List Bool) : Prop where
  own : W.ownsRow w.heap.size 28 6 (.slice (some ⟨g, 0, none⟩) len c) len (ndCells sh)
  ar : Arr W w.heap.size q ins
  ab : ArrB W w.heap.size p cs
  below : Below w.heap.size w W
theorem Sh.up {w W W' : World} {len g c p q : Nat} {sh : List M.Nd} {ins : List Int} {cs : List Bool} (h : Sh w W len g c p q sh ins cs) (hb : Below W.heap.size W W') : Sh w W' len g c p q sh ins cs :=
  ⟨own_up h.own hb, h.ar.up hb, h.ab.up hb, below_on h.below hb⟩
theorem Sh.setI {w W : World} {len g c p q : Nat} {sh : List M.Nd} {ins : List Int} {cs : List Bool} (h : Sh w W len g c p q sh ins cs) (hg : g ≠ q) (hp : p ≠ q) (i : Nat) (x : Int) : Sh w (W.setCell ⟨q, i, none⟩ (.int .i64 x)) len g c p q sh (ins.set i x) cs :=
  ⟨own_apart h.own (fun e => hg (by cases e; rfl)), h.ar.set i x, h.ab.apart (fun e => hp e.symm), h.below.setCell (p := ⟨q, i, none⟩) h.ar.lt.1 _⟩
theorem Sh.setL {w W : World} {len g c p q : Nat} {sh : List M.Nd} {ins : List Int} {cs : List Bool} (h : Sh w W len g c p q sh ins cs) (hg : g ≠ q) (hp : g ≠ p) (i : Nat) (hi : i < sh.length) (x y : Int) : Sh w ((W.setCell ⟨g, i * 6 + 2, none⟩ (.int .i64 x)).setCell ⟨g, i * 6 + 3, none⟩ (.int .i64 y)) len g c p q (sh.set i (M.turned (M.nAt sh i) x y)) ins cs := by
  refine ⟨?_, (h.ar.apart hg).apart hg, (h.ab.apart hp).apart hp, (h.below.setCell (p := ⟨g, i * 6 + 2, none⟩) (h.own.lt g rfl).1 _).setCell (p := ⟨g, i * 6 + 3, none⟩) (h.own.lt g rfl).1 _⟩
  have s1 := (h.own.stored (i * 6 + 2) (.int .i64 x)).1
  rw [ndCells_setL _ i hi] at s1
  have s2 := (s1.stored (i * 6 + 3) (.int .i64 y)).1
  rw [ndCells_setR _ i (by rw [List.length_set]; exact hi), List.set_set, M.set_at hi] at s2
  exact s2
theorem Sh.six {w W : World} {len g c p q : Nat} {sh : List M.Nd} {ins : List Int} {cs : List Bool} (h : Sh w W len g c p q sh ins cs) (hl : sh.length = len) {i : Nat} (hi : i < len) : SixAt W g (i * 6) (M.nAt sh i) := by
  obtain ⟨q0, q1, q2, q3, q4, q5⟩ := ndCells_at sh i (by omega)
  have := h.own
  exact ⟨(this.cellAt (i * 6) (by omega)).trans q0, (this.cellAt (i * 6 + 1) (by omega)).trans q1, (this.cellAt (i * 6 + 2) (by omega)).trans q2, (this.cellAt (i * 6 + 3) (by omega)).trans q3, (this.cellAt (i * 6 + 4) (by omega)).trans q4, (this.cellAt (i * 6 + 5) (by omega)).trans q5⟩
theorem Sh.fro {w W : World} {len g c p q : Nat} {sh : List M.Nd} {ins : List Int} {cs : List Bool} (h : Sh w W len g c p q sh ins cs) (o : Nat) : W.frozen? ⟨g, o, none⟩ = false := h.own.frozenAt o
theorem below_grown {w w' : World} {x : Option Nat} (h : Below w.heap.size w w') : w.heap.size ≤ w'.heap.size := h.size
theorem M.insV_left {cb : Bool} {sh : List M.Nd} {k ja jb : Nat} : M.insV false cb sh k ja jb = jb := by unfold M.insV; rw [if_pos rfl]
theorem M.insV_right {sh : List M.Nd} {k ja jb : Nat} : M.insV true false sh k ja jb = ja := by unfold M.insV; rw [if_neg (by decide), if_pos rfl]
theorem M.insV_same {sh : List M.Nd} {k ja jb : Nat} (h : M.sameB (M.nAt sh ja) (M.nAt sh jb) = true) : M.insV true true sh k ja jb = ja := by
  unfold M.insV; rw [if_neg (by decide), if_neg (by decide), if_pos (of_decide_eq_true h)]
theorem M.insV_stay {sh : List M.Nd} {k ja jb : Nat} (h : M.sameB (M.nAt sh ja) (M.nAt sh jb) = false) : M.insV true true sh k ja jb = k := by
  unfold M.insV; rw [if_neg (by decide), if_neg (by decide), if_neg (of_decide_eq_false h)]

set_option maxHeartbeats 8000000 in
set_option maxRecDepth 10000 in
theorem short_any (b0 off : Nat) (ts : List M.Nd) (cap m : Nat) (ra : Option Addr) (rc : Nat) (w : World) (hb0 : b0 < w.heap.size) (hc : ∀ i, i < ts.length → SixAt w b0 (off + i * 6) (M.nAt ts i)) (F : M.Fair ts (m : Int)) (hr : Rd w ra (M.rch ts m ts.length)) :
    Calls Tryd.prog 45 #[.slice (some ⟨b0, off, none⟩) ts.length cap, .slice ra (M.rch ts m ts.length).length rc] w fun e w' => ∃ (g c j : Nat) (sh : List M.Nd), e = .returned (.tuple #[.slice (some ⟨g, 0, none⟩) ts.length c, .int .i64 (j : Nat)]) ∧ sh.length = ts.length ∧ g < w'.heap.size ∧ (∀ i, i < ts.length → SixAt w' g (i * 6) (M.nAt sh i)) ∧ M.Den sh (M.prn (M.vld m) (M.bt ts 0)) j ∧ Below w.heap.size w w' := by
  have l63 := F.1
  have l0 := F.2.1
  have HF := hide F
  have CL := hide (clone_own b0 off cap ts w hc l63 l0 hb0)
  have CO := hide (fun W (hW : Below w.heap.size w W) => come_any (some ⟨b0, off, none⟩) ts cap m ra rc W ⟨by unfold maxLen; omega, fun _ => ⟨b0, off, rfl, Nat.lt_of_lt_of_le hb0 hW.size, fun i hi => (hc i hi).below hW hb0⟩⟩ F (hr.below hW))
  clear hc hr F
  generalize hRL : (M.rch ts m ts.length).length = RL at *
  clear hRL
  go_enter Tryd.func45, Tryd.ntmps45
  go_wp2_with (first
    | (go_at_call 59; refine CL.out.mono ?_; rintro r w1 ⟨g, c, rfl, ho1, hb1⟩; have HO1 := hide ho1; clear ho1)
    | (go_at_call 68; refine (CO.out _ hb1).mono ?_; rintro r w2 ⟨rfl, hb2⟩; have HO2 := hide (own_up HO1.out hb2); have HB2 := hide (below_on hb1 hb2))
    | (refine wpList_store_row rfl 99 (.tmp 6) (.tmp 16) rfl w2.heap.size _ rfl rfl 99 _ (heap_alloc_last w2 _) (by rw [infoB]; simp [M.cmLs_len]) (by simp [M.cmLs_len]) (bools_one _) ?_; rw [World.setRow_alloc_new]))
  have gl : Hid (w.heap.size ≤ g ∧ g < w2.heap.size) := HO2.out.lt g rfl
  have g1 : ¬ g = w2.heap.size := by have := gl.out; omega
  have g2 : ¬ g = w2.heap.size + 1 := by have := gl.out; omega
  have BQ : Hid (∀ o1 o2, Below w2.heap.size w2 ((w2.alloc o1).alloc o2)) := fun o1 o2 => ((Below.refl _ w2).alloc (Nat.le_refl _) o1).alloc (by simp) o2
  clear CL CO hb1 hb2 HO1
  go_loopw [8, 9, 10, 11] (fun i _ _ _ wr => ∃ k : Nat, k ≤ ts.length ∧ i = .int .i64 ((k : Int) - 1) ∧ ∃ sh ins, Hid (M.Shr ts m k sh ins) ∧ Hid (Sh w wr ts.length g c w2.heap.size (w2.heap.size + 1) sh ins (M.cmLs ts m 0))) (fun i _ _ _ _ => (intOf i + 1).toNat)
  case atStart =>
    refine ⟨ts.length, Nat.le_refl _, by go_num, ts, _, M.Shr.start, ⟨own_up HO2.out (BQ.out _ _), ?_, ?_, below_on HB2.out (BQ.out _ _)⟩⟩
    · have h := Arr.new (w2.alloc (.cells (List.map Value.bool (M.cmLs ts m 0)).toArray 99)) w.heap.size (by have := gl.out; simp; omega)
      rw [show (w2.alloc (.cells (List.map Value.bool (M.cmLs ts m 0)).toArray 99)).heap.size = w2.heap.size + 1 by simp] at h
      exact h
    · refine ArrB.of (M.cmLs_len _ _ _) (by have := gl.out; omega) ?_
      refine (Below.heap_alloc _ _ _ (by simp)).trans ?_
      exact heap_alloc_last w2 _
  case round =>
    clear HO2 HB2 BQ
    obtain ⟨k, hk, hi, sh, ins, HS, S⟩ := hrel
    rcases k with _ | i
    · replace hi : _ = Value.int .i64 (-1) := hi
      subst hi
      obtain ⟨j, ej, hj, hD⟩ := M.Shr.done HF.out HS.out
      have HD := hide hD
      have c0 := S.out.ar.cell (show 0 < 63 by omega)
      rw [ej] at c0
      have lsh : Hid (sh.length = ts.length) := HS.out.len
      clear hD ej HS HF
      go_wp2
      go_quiet (fail)
      go_wp2
      go_ret2
      have bd := below_drew (Below.refl _ wr) nq (Nat.le_refl _)
      have S2 := S.out.up bd
      exact ⟨g, c, j, sh, rfl, lsh.out, (S2.own.lt g rfl).2, fun i hi => S2.six lsh.out hi, HD.out, S2.below⟩
    · have e0 : ((i + 1 : Nat) : Int) - 1 = (i : Int) := by omega
      rw [e0] at hi
      subst hi
      clear e0
      have hil : i < ts.length := by omega
      have iz : (i : Int) < (ts.length : Int) := by omega
      have i63 : (i : Int) < 63 := by omega
      have ci := S.out.ar.cell (show i < 63 by omega)
      have fi := S.out.ar.frozen i
      go_upto_region 9 with fail
      obtain ⟨w8, hw8⟩ : ∃ W, W = wr.setCell ⟨w2.heap.size + 1, i, none⟩ (.int .i64 (i : Int)) := ⟨_, rfl⟩
      rw [← hw8]
      have S8 : Hid (Sh w w8 ts.length g c w2.heap.size (w2.heap.size + 1) sh (ins.set i (i : Int)) (M.cmLs ts m 0)) := by
        rw [hw8]
        exact S.out.setI g2 (by omega) i _
      have hold : M.nAt sh i = M.nAt ts i := HS.out.old i (by omega)
      have sx := S8.out.six HS.out.len hil
      rw [hold] at sx
      clear hw8 ci fi S
      by_cases hf : M.nf (M.nAt ts i) = -1
      · have q : (M.nf (M.nAt ts i) == -1) = true := by rw [beq_iff_eq]; exact hf
        have N := hide (HS.out.stay HF.out hil hf)
        obtain ⟨s0, s1, s2, s3, s4, s5⟩ := sx
        clear HS HF hf hold s1 s2 s3 s4 s5
        go_wp2
        go_roundw
        case rel => exact ⟨i, by omega, by go_num, sh, ins.set i (i : Int), N, S8⟩
        case measure => simp [intOf] <;> omega
      · have q : (M.nf (M.nAt ts i) == -1) = false := by rw [beq_eq_false_iff_ne]; exact hf
        obtain ⟨a, b, ea, eb, _⟩ := M.ask_at HF.out.2.2.2.2.1 hil hf
        obtain ⟨h1, h2, h3, h4, ja, jb, ej, ek, h5, h6, h7, h8, hN⟩ := HS.out.sides HF.out hil hf ea eb
        obtain ⟨s0, s1, s2, s3, s4, s5⟩ := sx
        rw [ea] at s2
        rw [eb] at s3
        have HN := hide hN
        have az : (a : Int) < 63 := by omega
        have bz : (b : Int) < 63 := by omega
        have ca := S8.out.ar.cell (show a < 63 by omega)
        have cb := S8.out.ar.cell (show b < 63 by omega)
        rw [M.getD_set_ne (by omega), ej] at ca
        rw [M.getD_set_ne (by omega), ek] at cb
        have f2 := S8.out.fro (i * 6 + 2)
        have f3 := S8.out.fro (i * 6 + 3)
        have SL : Hid (∀ n, Sh w (((w8.drewN n).setCell ⟨g, i * 6 + 2, none⟩ (.int .i64 (ja : Int))).setCell ⟨g, i * 6 + 3, none⟩ (.int .i64 (jb : Int))) ts.length g c w2.heap.size (w2.heap.size + 1) (sh.set i (M.turned (M.nAt ts i) (ja : Int) (jb : Int))) (ins.set i (i : Int)) (M.cmLs ts m 0)) := fun n => by
          have := (S8.out.up (below_drew (Below.refl _ w8) n (Nat.le_refl _))).setL g2 g1 i (by rw [HS.out.len]; exact hil) (ja : Int) (jb : Int)
          rw [hold] at this
          exact this
        have LS : Hid ((sh.set i (M.turned (M.nAt ts i) (ja : Int) (jb : Int))).length = ts.length) := by unfold Hid; rw [List.length_set]; exact HS.out.len
        have KN : Hid (M.nAt (sh.set i (M.turned (M.nAt ts i) (ja : Int) (jb : Int))) i = M.turned (M.nAt ts i) (ja : Int) (jb : Int)) := M.set_at (by rw [HS.out.len]; exact hil)
        have CA : Hid (∀ j, j < ts.length → (M.cmLs ts m 0).getD j false = M.cmV ts m j) := fun j hj => by
          rw [M.cmLs_at hj l63]; unfold M.cmK; rw [if_pos (Nat.zero_le _)]
        have II : Hid (∀ x : Int, (ins.set i (i : Int)).set i x = ins.set i x) := fun x => by rw [List.set_set]
        clear HS HF hf hold hN ea eb ej ek s1 s4 s5
        generalize M.nf (M.nAt ts i) = nf at *
        generalize hsh : sh.set i (M.turned (M.nAt ts i) (ja : Int) (jb : Int)) = sh' at *
        clear hsh
        go_upto_region 10 with fail
        go_quiet (fail)
        go_upto_region 11 with fail
        go_cut [10, 11] from 43 to 54 (fun x y wx => x = .int .i64 (a : Int) ∧ y = .int .i64 (b : Int) ∧ Hid (Sh w wx ts.length g c w2.heap.size (w2.heap.size + 1) sh' (ins.set i (i : Int)) (M.cmLs ts m 0)))
        case first =>
          go_region
          all_goals (
            go_wp2
            go_meet
            case rel => exact ⟨rfl, rfl, SL.out _⟩)
        case rest =>
          obtain ⟨rfl, rfl, SC⟩ := hcut
          clear s0 s2 s3 ca cb f2 f3 SL S8
          have pa := SC.out.ab.cell (show a < 63 by omega)
          have pb := SC.out.ab.cell (show b < 63 by omega)
          rw [CA.out a h2] at pa
          rw [CA.out b h4] at pb
          have ci := SC.out.ar.cell (show i < 63 by omega)
          have fi := SC.out.ar.frozen i
          have sn := SC.out.six LS.out hil
          rw [KN.out] at sn
          have n2 : wc.cell? ⟨g, i * 6 + 2, none⟩ = some (.int .i64 (ja : Int)) := sn.2.2.1
          have n3 : wc.cell? ⟨g, i * 6 + 3, none⟩ = some (.int .i64 (jb : Int)) := sn.2.2.2.1
          have NX : Hid (∀ W (x : Int), Below wc.heap.size wc W → Sh w (W.setCell ⟨w2.heap.size + 1, i, none⟩ (.int .i64 x)) ts.length g c w2.heap.size (w2.heap.size + 1) sh' (ins.set i x) (M.cmLs ts m 0)) := fun W x hW => by
            have := (SC.out.up hW).setI g2 (by omega) i x
            rw [II.out] at this
            exact this
          clear sn CA KN
          generalize M.cmV ts m a = va at *
          generalize M.cmV ts m b = vb at *
          cases va with
          | false =>
            have HN' := HN
            rw [M.insV_left] at HN'
            clear HN
            go_wp2
            go_roundw
            case rel => exact ⟨i, by omega, by go_num, sh', _, HN', NX.out _ _ (Below.refl _ _)⟩
            case measure => simp [intOf] <;> omega
          | true =>
            cases vb with
            | false =>
              have HN' := HN
              rw [M.insV_right] at HN'
              clear HN
              go_upto_region 14 with fail
              go_quiet (fail)
              go_wp2
              go_roundw
              case rel => exact ⟨i, by omega, by go_num, sh', _, HN', NX.out _ _ (below_drew (Below.refl _ _) _ (Nat.le_refl _))⟩
              case measure => simp [intOf] <;> omega
            | true =>
              have jaz : (ja : Int) < (ts.length : Int) := by omega
              have jbz : (jb : Int) < (ts.length : Int) := by omega
              obtain ⟨x0, x1, x2, x3, x4, x5⟩ := SC.out.six LS.out h6
              obtain ⟨y0, y1, y2, y3, y4, y5⟩ := SC.out.six LS.out h8
              have SM := hide (fun W => same_any (M.nAt sh' ja) (M.nAt sh' jb) W)
              unfold ndV at SM
              have UP : Hid (∀ W, Below wc.heap.size wc W → (W.cell? ⟨w2.heap.size + 1, i, none⟩ = some (.int .i64 ((ins.set i (i : Int)).getD i 0)) ∧ W.frozen? ⟨w2.heap.size + 1, i, none⟩ = false) ∧ W.cell? ⟨w2.heap.size, b, none⟩ = some (.bool true) ∧ W.cell? ⟨g, i * 6 + 2, none⟩ = some (.int .i64 (ja : Int)) ∧ W.cell? ⟨g, i * 6 + 3, none⟩ = some (.int .i64 (jb : Int)) ∧ W.cell? ⟨g, ja * 6, none⟩ = some (.int .i64 (M.nf (M.nAt sh' ja))) ∧ W.cell? ⟨g, ja * 6 + 1, none⟩ = some (.int .i64 (M.nc (M.nAt sh' ja))) ∧ W.cell? ⟨g, ja * 6 + 2, none⟩ = some (.int .i64 (M.nl (M.nAt sh' ja))) ∧ W.cell? ⟨g, ja * 6 + 3, none⟩ = some (.int .i64 (M.nr (M.nAt sh' ja))) ∧ W.cell? ⟨g, ja * 6 + 4, none⟩ = some (.bool (M.ns (M.nAt sh' ja))) ∧ W.cell? ⟨g, ja * 6 + 5, none⟩ = some (.int .i64 (M.nv (M.nAt sh' ja))) ∧ W.cell? ⟨g, jb * 6, none⟩ = some (.int .i64 (M.nf (M.nAt sh' jb))) ∧ W.cell? ⟨g, jb * 6 + 1, none⟩ = some (.int .i64 (M.nc (M.nAt sh' jb))) ∧ W.cell? ⟨g, jb * 6 + 2, none⟩ = some (.int .i64 (M.nl (M.nAt sh' jb))) ∧ W.cell? ⟨g, jb * 6 + 3, none⟩ = some (.int .i64 (M.nr (M.nAt sh' jb))) ∧ W.cell? ⟨g, jb * 6 + 4, none⟩ = some (.bool (M.ns (M.nAt sh' jb))) ∧ W.cell? ⟨g, jb * 6 + 5, none⟩ = some (.int .i64 (M.nv (M.nAt sh' jb)))) := fun W hW => by
                have q := SC.out.up hW
                have gw : g < wc.heap.size := (SC.out.own.lt g rfl).2
                obtain ⟨x0, x1, x2, x3, x4, x5⟩ := q.six LS.out h6
                obtain ⟨y0, y1, y2, y3, y4, y5⟩ := q.six LS.out h8
                exact ⟨⟨q.ar.cell (by omega), q.ar.frozen i⟩, (hW.cell (p := ⟨w2.heap.size, b, none⟩) SC.out.ab.lt.2).trans pb, (hW.cell (p := ⟨g, i * 6 + 2, none⟩) gw).trans n2, (hW.cell (p := ⟨g, i * 6 + 3, none⟩) gw).trans n3, x0, x1, x2, x3, x4, x5, y0, y1, y2, y3, y4, y5⟩
              have SCU : Hid (∀ W, Below wc.heap.size wc W → Sh w W ts.length g c w2.heap.size (w2.heap.size + 1) sh' (ins.set i (i : Int)) (M.cmLs ts m 0)) := fun W hW => SC.out.up hW
              cases hsm : M.sameB (M.nAt sh' ja) (M.nAt sh' jb) with
              | true =>
                have HN' := HN
                rw [M.insV_same hsm] at HN'
                rw [hsm] at SM
                clear HN hsm SC
                go_upto_region 14 with fail
                go_region_held3 (fun W => W.cell? ⟨w2.heap.size, b, none⟩ = some (.bool true) ∧ W.cell? ⟨g, i * 6 + 2, none⟩ = some (.int .i64 (ja : Int)) ∧ W.cell? ⟨g, i * 6 + 3, none⟩ = some (.int .i64 (jb : Int)) ∧ W.cell? ⟨g, ja * 6, none⟩ = some (.int .i64 (M.nf (M.nAt sh' ja))) ∧ W.cell? ⟨g, ja * 6 + 1, none⟩ = some (.int .i64 (M.nc (M.nAt sh' ja))) ∧ W.cell? ⟨g, ja * 6 + 2, none⟩ = some (.int .i64 (M.nl (M.nAt sh' ja))) ∧ W.cell? ⟨g, ja * 6 + 3, none⟩ = some (.int .i64 (M.nr (M.nAt sh' ja))) ∧ W.cell? ⟨g, ja * 6 + 4, none⟩ = some (.bool (M.ns (M.nAt sh' ja))) ∧ W.cell? ⟨g, ja * 6 + 5, none⟩ = some (.int .i64 (M.nv (M.nAt sh' ja))) ∧ W.cell? ⟨g, jb * 6, none⟩ = some (.int .i64 (M.nf (M.nAt sh' jb))) ∧ W.cell? ⟨g, jb * 6 + 1, none⟩ = some (.int .i64 (M.nc (M.nAt sh' jb))) ∧ W.cell? ⟨g, jb * 6 + 2, none⟩ = some (.int .i64 (M.nl (M.nAt sh' jb))) ∧ W.cell? ⟨g, jb * 6 + 3, none⟩ = some (.int .i64 (M.nr (M.nAt sh' jb))) ∧ W.cell? ⟨g, jb * 6 + 4, none⟩ = some (.bool (M.ns (M.nAt sh' jb))) ∧ W.cell? ⟨g, jb * 6 + 5, none⟩ = some (.int .i64 (M.nv (M.nAt sh' jb)))) (go_keep) (first
                  | (go_at_call 69; refine (SM.out _).mono ?_; rintro e w5 ⟨rfl, hb5⟩; have k5 := hide (((Below.refl _ _).drew).trans hb5); obtain ⟨⟨zi, zf⟩, z0, z2, z3, u0, u1, u2, u3, u4, u5, v0, v1, v2, v3, v4, v5⟩ := UP.out _ k5.out))
                all_goals (
                  go_wp2
                  go_roundw
                  case rel => exact ⟨i, by omega, by go_num, sh', _, HN', NX.out _ _ k5.out⟩
                  case measure => simp [intOf] <;> omega)
              | false =>
                have HN' := HN
                rw [M.insV_stay hsm] at HN'
                rw [hsm] at SM
                clear HN hsm SC
                go_upto_region 14 with fail
                go_region_held3 (fun W => W.cell? ⟨w2.heap.size, b, none⟩ = some (.bool true) ∧ W.cell? ⟨g, i * 6 + 2, none⟩ = some (.int .i64 (ja : Int)) ∧ W.cell? ⟨g, i * 6 + 3, none⟩ = some (.int .i64 (jb : Int)) ∧ W.cell? ⟨g, ja * 6, none⟩ = some (.int .i64 (M.nf (M.nAt sh' ja))) ∧ W.cell? ⟨g, ja * 6 + 1, none⟩ = some (.int .i64 (M.nc (M.nAt sh' ja))) ∧ W.cell? ⟨g, ja * 6 + 2, none⟩ = some (.int .i64 (M.nl (M.nAt sh' ja))) ∧ W.cell? ⟨g, ja * 6 + 3, none⟩ = some (.int .i64 (M.nr (M.nAt sh' ja))) ∧ W.cell? ⟨g, ja * 6 + 4, none⟩ = some (.bool (M.ns (M.nAt sh' ja))) ∧ W.cell? ⟨g, ja * 6 + 5, none⟩ = some (.int .i64 (M.nv (M.nAt sh' ja))) ∧ W.cell? ⟨g, jb * 6, none⟩ = some (.int .i64 (M.nf (M.nAt sh' jb))) ∧ W.cell? ⟨g, jb * 6 + 1, none⟩ = some (.int .i64 (M.nc (M.nAt sh' jb))) ∧ W.cell? ⟨g, jb * 6 + 2, none⟩ = some (.int .i64 (M.nl (M.nAt sh' jb))) ∧ W.cell? ⟨g, jb * 6 + 3, none⟩ = some (.int .i64 (M.nr (M.nAt sh' jb))) ∧ W.cell? ⟨g, jb * 6 + 4, none⟩ = some (.bool (M.ns (M.nAt sh' jb))) ∧ W.cell? ⟨g, jb * 6 + 5, none⟩ = some (.int .i64 (M.nv (M.nAt sh' jb)))) (go_keep) (first
                  | (go_at_call 69; refine (SM.out _).mono ?_; rintro e w5 ⟨rfl, hb5⟩; have k5 := hide (((Below.refl _ _).drew).trans hb5); obtain ⟨⟨zi, zf⟩, z0, z2, z3, u0, u1, u2, u3, u4, u5, v0, v1, v2, v3, v4, v5⟩ := UP.out _ k5.out))
                all_goals (
                  go_wp2
                  go_roundw
                  case rel => exact ⟨i, by omega, by go_num, sh', _, HN', SCU.out _ k5.out⟩
                  case measure => simp [intOf] <;> omega)

end Go.Proofs.YtjnkkniefpmgdadDoor

namespace Go.Proofs.YtjnkkniefpmgdadDoor
open Go.ChangeShapes Go.WideShapes Go.ChangeAt Go.RowKit Go.Lib
set_option linter.unusedVariables false

theorem nAt_last (O : List M.Nd) (n : M.Nd) (C : List M.Nd) : M.nAt (O ++ n :: C) O.length = n := by unfold M.nAt; simp [List.getD]
theorem set_last (O : List M.Nd) (n n' : M.Nd) (C : List M.Nd) : (O ++ n :: C).set O.length n' = O ++ n' :: C := by
  rw [List.set_append_right _ _ (Nat.le_refl _), Nat.sub_self, List.set_cons_zero]
theorem six_keep {w W : World} {b off : Nat} {n : M.Nd} (hb : W.heap[b]? = w.heap[b]?) (h : SixAt w b off n) : SixAt W b off n := by
  obtain ⟨h0, h1, h2, h3, h4, h5⟩ := h
  exact ⟨(World.cell?_of_block (a := ⟨b, _, none⟩) hb).trans h0, (World.cell?_of_block (a := ⟨b, _, none⟩) hb).trans h1, (World.cell?_of_block (a := ⟨b, _, none⟩) hb).trans h2, (World.cell?_of_block (a := ⟨b, _, none⟩) hb).trans h3, (World.cell?_of_block (a := ⟨b, _, none⟩) hb).trans h4, (World.cell?_of_block (a := ⟨b, _, none⟩) hb).trans h5⟩

theorem six_alloc (w : World) (n : M.Nd) (t : TypeId) : SixAt ((w.alloc (.cells #[.int .i64 (M.nf n), .int .i64 (M.nc n), .int .i64 (M.nl n), .int .i64 (M.nr n), .bool (M.ns n), .int .i64 (M.nv n)] t)).drew) w.heap.size 0 n :=
  ⟨World.cell?_alloc_at _ _ _ 0 rfl, World.cell?_alloc_at _ _ _ 1 rfl, World.cell?_alloc_at _ _ _ 2 rfl, World.cell?_alloc_at _ _ _ 3 rfl, World.cell?_alloc_at _ _ _ 4 rfl, World.cell?_alloc_at _ _ _ 5 rfl⟩

set_option maxHeartbeats 8000000 in
set_option maxRecDepth 10000 in
theorem play_any (ts : List M.Nd) (l63 : ts.length ≤ 63) (bt ot cap B : Nat) : ∀ (T : M.BT) (i : Nat), M.Den ts T i → ∀ (O : List M.Nd) (va : Option Addr) (vc : Nat) (w : World), bt < w.heap.size → (∀ j, j < ts.length → SixAt w bt (ot + j * 6) (M.nAt ts j)) → (Value.slice va O.length vc).ownBlock ≠ some bt → w.ownsRow B 28 6 (.slice va O.length vc) O.length (ndCells O) → B ≤ w.heap.size → O.length + T.size ≤ 1000 →
    Calls Tryd.prog 46 #[.slice va O.length vc, .slice (some ⟨bt, ot, none⟩) ts.length cap, .int .i64 (i : Nat)] w fun e w' => ∃ g c, e = .returned (.slice (some ⟨g, 0, none⟩) (O.length + T.size) c) ∧ w'.ownsRow B 28 6 (.slice (some ⟨g, 0, none⟩) (O.length + T.size) c) (O.length + T.size) (ndCells (O ++ M.lay T O.length)) ∧ w.grownBy w' (Value.slice va O.length vc).ownBlock ∧ ((Value.slice va O.length vc).ownBlock = some g ∨ w.heap.size ≤ g) := by
  intro T
  induction T with
  | lf v =>
    intro i hD O va vc w hbt hct hne hv hB hsz
    obtain ⟨hi, hn⟩ := hD
    have iz : (i : Int) < (ts.length : Int) := by omega
    obtain ⟨j0, hj, hy0, hy1, hy2⟩ := info_parts infoN
    have J0 := hide hj
    have R0 := hct i hi
    rw [hn] at R0
    have HL : Hid (∀ g, (Value.slice va O.length vc).ownBlock = some g → g < w.heap.size) := fun g hg => (hv.lt g hg).2
    have HV := hide hv
    have RA : Hid (∀ o, SixAt (w.alloc o) bt (ot + i * 6) (-1, 0, 0, 0, false, v)) := fun o => R0.below ((Below.refl _ w).alloc (Nat.le_refl _) o) hbt
    have r0 : w.cell? ⟨bt, ot + i * 6, none⟩ = some (.int .i64 (-1)) := R0.1
    have a0 : ∀ o, (w.alloc o).cell? ⟨bt, ot + i * 6, none⟩ = some (.int .i64 (-1)) := fun o => (RA.out o).1
    have r1 : w.cell? ⟨bt, ot + i * 6 + 1, none⟩ = some (.int .i64 0) := R0.2.1
    have a1 : ∀ o, (w.alloc o).cell? ⟨bt, ot + i * 6 + 1, none⟩ = some (.int .i64 0) := fun o => (RA.out o).2.1
    have r2 : w.cell? ⟨bt, ot + i * 6 + 2, none⟩ = some (.int .i64 0) := R0.2.2.1
    have a2 : ∀ o, (w.alloc o).cell? ⟨bt, ot + i * 6 + 2, none⟩ = some (.int .i64 0) := fun o => (RA.out o).2.2.1
    have r3 : w.cell? ⟨bt, ot + i * 6 + 3, none⟩ = some (.int .i64 0) := R0.2.2.2.1
    have a3 : ∀ o, (w.alloc o).cell? ⟨bt, ot + i * 6 + 3, none⟩ = some (.int .i64 0) := fun o => (RA.out o).2.2.2.1
    have r4 : w.cell? ⟨bt, ot + i * 6 + 4, none⟩ = some (.bool false) := R0.2.2.2.2.1
    have a4 : ∀ o, (w.alloc o).cell? ⟨bt, ot + i * 6 + 4, none⟩ = some (.bool false) := fun o => (RA.out o).2.2.2.2.1
    have r5 : w.cell? ⟨bt, ot + i * 6 + 5, none⟩ = some (.int .i64 v) := R0.2.2.2.2.2
    have a5 : ∀ o, (w.alloc o).cell? ⟨bt, ot + i * 6 + 5, none⟩ = some (.int .i64 v) := fun o => (RA.out o).2.2.2.2.2
    have ol : O.length ≤ 1000 := by omega
    have e1 : (M.BT.lf v).size = 1 := rfl
    have e2 : M.lay (.lf v) O.length = [(-1, 0, 0, 0, false, v)] := rfl
    rw [e1, e2]
    have HC := hide True.intro
    have HE := hide True.intro
    clear hv hct hj hne hn hsz e1 e2 R0 RA
    go_enter Tryd.func46, Tryd.ntmps46
    go_upto_region 1 with fail
    go_cut [7, 8] from 9 to 14 (fun x y wx => x = .int .i64 (O.length : Int) ∧ y = .pointer (some ⟨w.heap.size, 0, none⟩) ∧ Hid (Below w.heap.size w wx ∧ wx.heap.size = w.heap.size + 1 ∧ SixAt wx w.heap.size 0 (-1, 0, 0, 0, false, v)))
    case first =>
      clear HC HL HV HE
      go_region
      all_goals (
        go_wp2
        go_meet
        case rel => exact ⟨rfl, rfl, ((Below.refl _ w).alloc (Nat.le_refl _) _).drew, by simp, six_alloc w (-1, 0, 0, 0, false, v) _⟩)
    case rest =>
      obtain ⟨rfl, rfl, HX⟩ := hcut
      clear r0 r1 r2 r3 r4 r5 a0 a1 a2 a3 a4 a5
      have HO := hide (own_up HV.out HX.out.1)
      have ws := HX.out.2.1
      have s0 : wc.cell? ⟨w.heap.size, 0, none⟩ = some (.int .i64 (-1)) := HX.out.2.2.1
      have s1 : wc.cell? ⟨w.heap.size, 1, none⟩ = some (.int .i64 0) := HX.out.2.2.2.1
      have s2 : wc.cell? ⟨w.heap.size, 2, none⟩ = some (.int .i64 0) := HX.out.2.2.2.2.1
      have s3 : wc.cell? ⟨w.heap.size, 3, none⟩ = some (.int .i64 0) := HX.out.2.2.2.2.2.1
      have s4 : wc.cell? ⟨w.heap.size, 4, none⟩ = some (.bool false) := HX.out.2.2.2.2.2.2.1
      have s5 : wc.cell? ⟨w.heap.size, 5, none⟩ = some (.int .i64 v) := HX.out.2.2.2.2.2.2.2
      have KB : Hid (∀ W, wc.grownBy W (Value.slice va O.length vc).ownBlock → W.cell? ⟨w.heap.size, 0, none⟩ = some (.int .i64 (-1))) := fun W hW => (six_keep (hW.block _ (by omega) (fun e => by have := HL.out _ e.symm; omega)) HX.out.2.2).1
      have WS := hide ws
      clear ws
      go_wp2_with (at_builtin; refine wpList_append_lies _ rfl (.tmp 15) (.tmp 17) 29 rfl B 28 j0 (.agg #[.int .i64 0, .int .i64 0, .int .i64 0, .int .i64 0, .bool false, .int .i64 0]) 6 48 Tryd.underlying29 J0.out hy0 hy1 hy2 rfl (by omega) (.slice va O.length vc) O.length (ndCells O) rfl (HO.out.alloc _) ⟨wc.heap.size, 0, none⟩ 1 1 [.int .i64 (-1), .int .i64 0, .int .i64 0, .int .i64 0, .bool false, .int .i64 v] rfl rfl (World.news_of_block (heap_alloc_new _ _)) (by simp [Value.oneCell']) (by omega) (by unfold maxLen; omega) (by omega) (by simp; have := WS.out; omega) (wc.heap.size + 1) (by simp) ?_)
      intro g1 c1 w1 hov hgrow hat hlt1
      have HO1 : Hid (w1.ownsRow B 28 6 (.slice (some ⟨g1, 0, none⟩) (O.length + 1) c1) (O.length + 1) (ndCells (O ++ [(-1, 0, 0, 0, false, v)]))) := by
        unfold Hid; rw [ndCells_app]; exact hov
      have G1 : Hid (wc.grownBy w1 (Value.slice va O.length vc).ownBlock) := grown_trans (World.grownBy_alloc wc _ _) hgrow (.inl rfl)
      have A1 : Hid ((Value.slice va O.length vc).ownBlock = some g1 ∨ w.heap.size ≤ g1) := by
        rcases hat with q | q
        · exact .inl q
        · exact .inr (by have := WS.out; omega)
      have z0 := KB.out w1 G1.out
      clear hov hgrow hat HV HO s0 s1 s2 s3 s4 s5 KB
      go_wp2
      go_ret
      exact ⟨g1, c1, rfl, HO1.out, grown_trans (grown_of HX.out.1 _) G1.out (.inl rfl), A1.out⟩
  | nd f c s l r ihl ihr =>
    intro i hD O va vc w hbt hct hne hv hB hsz
    obtain ⟨hi, hf, a, b, hn, hia, hib, hDl, hDr⟩ := hD
    have iz : (i : Int) < (ts.length : Int) := by omega
    obtain ⟨j0, hj, hy0, hy1, hy2⟩ := info_parts infoN
    have J0 := hide hj
    have R0 := hct i hi
    rw [hn] at R0
    have HL : Hid (∀ g, (Value.slice va O.length vc).ownBlock = some g → g < w.heap.size) := fun g hg => (hv.lt g hg).2
    have HV := hide hv
    have RA : Hid (∀ o, SixAt (w.alloc o) bt (ot + i * 6) (f, c, (a : Int), (b : Int), s, 0)) := fun o => R0.below ((Below.refl _ w).alloc (Nat.le_refl _) o) hbt
    have r0 : w.cell? ⟨bt, ot + i * 6, none⟩ = some (.int .i64 f) := R0.1
    have a0 : ∀ o, (w.alloc o).cell? ⟨bt, ot + i * 6, none⟩ = some (.int .i64 f) := fun o => (RA.out o).1
    have r1 : w.cell? ⟨bt, ot + i * 6 + 1, none⟩ = some (.int .i64 c) := R0.2.1
    have a1 : ∀ o, (w.alloc o).cell? ⟨bt, ot + i * 6 + 1, none⟩ = some (.int .i64 c) := fun o => (RA.out o).2.1
    have r2 : w.cell? ⟨bt, ot + i * 6 + 2, none⟩ = some (.int .i64 (a : Int)) := R0.2.2.1
    have a2 : ∀ o, (w.alloc o).cell? ⟨bt, ot + i * 6 + 2, none⟩ = some (.int .i64 (a : Int)) := fun o => (RA.out o).2.2.1
    have r3 : w.cell? ⟨bt, ot + i * 6 + 3, none⟩ = some (.int .i64 (b : Int)) := R0.2.2.2.1
    have a3 : ∀ o, (w.alloc o).cell? ⟨bt, ot + i * 6 + 3, none⟩ = some (.int .i64 (b : Int)) := fun o => (RA.out o).2.2.2.1
    have r4 : w.cell? ⟨bt, ot + i * 6 + 4, none⟩ = some (.bool s) := R0.2.2.2.2.1
    have a4 : ∀ o, (w.alloc o).cell? ⟨bt, ot + i * 6 + 4, none⟩ = some (.bool s) := fun o => (RA.out o).2.2.2.2.1
    have r5 : w.cell? ⟨bt, ot + i * 6 + 5, none⟩ = some (.int .i64 0) := R0.2.2.2.2.2
    have a5 : ∀ o, (w.alloc o).cell? ⟨bt, ot + i * 6 + 5, none⟩ = some (.int .i64 0) := fun o => (RA.out o).2.2.2.2.2
    have ol : O.length ≤ 1000 := by omega
    have hf' : (f == -1) = false := by rw [beq_eq_false_iff_ne]; exact hf
    have IA := hide (ihl a hDl)
    have IB := hide (ihr b hDr)
    have LA : Hid (∀ k, (M.lay l k).length = l.size) := fun k => M.lay_len _ k
    have e1 : (M.BT.nd f c s l r).size = 1 + l.size + r.size := rfl
    have e2 : M.lay (.nd f c s l r) O.length = (f, c, ((O.length + 1 : Nat) : Int), ((O.length + 1 + l.size : Nat) : Int), s, 0) :: (M.lay l (O.length + 1) ++ M.lay r (O.length + 1 + l.size)) := rfl
    have cz1 : ((O.length + 1 : Nat) : Int) = (O.length : Int) + 1 := by omega
    have cz2 : ((O.length + 1 + l.size : Nat) : Int) = (O.length : Int) + 1 + (l.size : Int) := by omega
    rw [e1] at hsz
    rw [e1, e2, cz1, cz2, show O.length + (1 + l.size + r.size) = O.length + 1 + l.size + r.size by omega]
    have HC := hide hct
    have HE := hide hne
    clear hv hct hj hne hn e1 e2 cz1 cz2 R0 RA ihl ihr hDl hDr hf
    generalize htl : l.size = sl at *
    generalize htr : r.size = sr at *
    have TL := hide htl
    have TR := hide htr
    clear htl htr
    go_enter Tryd.func46, Tryd.ntmps46
    go_upto_region 1 with fail
    go_cut [7, 8] from 9 to 14 (fun x y wx => x = .int .i64 (O.length : Int) ∧ y = .pointer (some ⟨w.heap.size, 0, none⟩) ∧ Hid (Below w.heap.size w wx ∧ wx.heap.size = w.heap.size + 1 ∧ SixAt wx w.heap.size 0 (f, c, (a : Int), (b : Int), s, 0)))
    case first =>
      clear HC HL HV HE
      go_region
      all_goals (
        go_wp2
        go_meet
        case rel => exact ⟨rfl, rfl, ((Below.refl _ w).alloc (Nat.le_refl _) _).drew, by simp, six_alloc w (f, c, (a : Int), (b : Int), s, 0) _⟩)
    case rest =>
      obtain ⟨rfl, rfl, HX⟩ := hcut
      clear r0 r1 r2 r3 r4 r5 a0 a1 a2 a3 a4 a5
      have HO := hide (own_up HV.out HX.out.1)
      have ws := HX.out.2.1
      have s0 : wc.cell? ⟨w.heap.size, 0, none⟩ = some (.int .i64 f) := HX.out.2.2.1
      have s1 : wc.cell? ⟨w.heap.size, 1, none⟩ = some (.int .i64 c) := HX.out.2.2.2.1
      have s2 : wc.cell? ⟨w.heap.size, 2, none⟩ = some (.int .i64 (a : Int)) := HX.out.2.2.2.2.1
      have s3 : wc.cell? ⟨w.heap.size, 3, none⟩ = some (.int .i64 (b : Int)) := HX.out.2.2.2.2.2.1
      have s4 : wc.cell? ⟨w.heap.size, 4, none⟩ = some (.bool s) := HX.out.2.2.2.2.2.2.1
      have s5 : wc.cell? ⟨w.heap.size, 5, none⟩ = some (.int .i64 0) := HX.out.2.2.2.2.2.2.2
      have KB : Hid (∀ W, wc.grownBy W (Value.slice va O.length vc).ownBlock → W.cell? ⟨w.heap.size, 0, none⟩ = some (.int .i64 f) ∧ W.cell? ⟨w.heap.size, 2, none⟩ = some (.int .i64 (a : Int)) ∧ W.cell? ⟨w.heap.size, 3, none⟩ = some (.int .i64 (b : Int))) := fun W hW => by
        have q := six_keep (hW.block w.heap.size (by omega) (fun e => by have := HL.out _ e.symm; omega)) HX.out.2.2
        exact ⟨q.1, q.2.2.1, q.2.2.2.1⟩
      have KC : Hid (∀ W, wc.grownBy W (Value.slice va O.length vc).ownBlock → bt < W.heap.size ∧ wc.heap.size ≤ W.heap.size ∧ ∀ j, j < ts.length → SixAt W bt (ot + j * 6) (M.nAt ts j)) := fun W hW => by
        refine ⟨by have := hW.size; omega, hW.size, fun j hj => ?_⟩
        exact six_keep (hW.block bt (by omega) (fun e => HE.out e.symm)) ((HC.out j hj).below HX.out.1 hbt)
      have WS := hide ws
      clear ws
      go_wp2_with (at_builtin; refine wpList_append_lies _ rfl (.tmp 15) (.tmp 17) 29 rfl B 28 j0 (.agg #[.int .i64 0, .int .i64 0, .int .i64 0, .int .i64 0, .bool false, .int .i64 0]) 6 48 Tryd.underlying29 J0.out hy0 hy1 hy2 rfl (by omega) (.slice va O.length vc) O.length (ndCells O) rfl (HO.out.alloc _) ⟨wc.heap.size, 0, none⟩ 1 1 [.int .i64 f, .int .i64 c, .int .i64 (a : Int), .int .i64 (b : Int), .bool s, .int .i64 0] rfl rfl (World.news_of_block (heap_alloc_new _ _)) (by simp [Value.oneCell']) (by omega) (by unfold maxLen; omega) (by omega) (by simp; have := WS.out; omega) (wc.heap.size + 1) (by simp) ?_)
      intro g1 c1 w1 hov hgrow hat hlt1
      have HO1 : Hid (w1.ownsRow B 28 6 (.slice (some ⟨g1, 0, none⟩) (O.length + 1) c1) (O.length + 1) (ndCells (O ++ [(f, c, (a : Int), (b : Int), s, (0 : Int))]))) := by
        unfold Hid; rw [ndCells_app]; exact hov
      have G1 : Hid (wc.grownBy w1 (Value.slice va O.length vc).ownBlock) := grown_trans (World.grownBy_alloc wc _ _) hgrow (.inl rfl)
      have A1 : Hid ((Value.slice va O.length vc).ownBlock = some g1 ∨ wc.heap.size ≤ g1) := by
        rcases hat with q | q
        · exact .inl q
        · exact .inr (by omega)
      have L0 : O.length < (O ++ [(f, c, (a : Int), (b : Int), s, (0 : Int))]).length := by simp
      obtain ⟨t0, t2, t3⟩ := KB.out w1 G1.out
      obtain ⟨x0, x1, x2, x3, x4, x5⟩ := ndCells_at _ O.length L0
      have q2 := (HO1.out.cellAt (O.length * 6 + 2) (by omega)).trans x2
      have fz2 := HO1.out.frozenAt (O.length * 6 + 2)
      have oz : ((O.length : Nat) : Int) < ((O.length + 1 : Nat) : Int) := by omega
      clear hov hgrow hat HV HO s0 s1 s2 s3 s4 s5 x0 x1 x2 x3 x4 x5 L0
      go_upto_region 6 with fail
      obtain ⟨w2, hw2⟩ : ∃ W, W = w1.setCell ⟨g1, O.length * 6 + 2, none⟩ (.int .i64 ((O.length : Int) + 1)) := ⟨_, rfl⟩
      rw [← hw2]
      have g1s : Hid ((some g1 : Option Nat) = (Value.slice va O.length vc).ownBlock ∨ ∀ q, (some g1 : Option Nat) = some q → wc.heap.size ≤ q) := by
        rcases A1.out with q | q
        · exact .inl q.symm
        · exact .inr (fun z hz => by cases hz; exact q)
      have HO2 : Hid (w2.ownsRow B 28 6 (.slice (some ⟨g1, 0, none⟩) (O.length + 1) c1) (O.length + 1) (ndCells (O ++ [(f, c, (O.length : Int) + 1, (b : Int), s, (0 : Int))]))) := by
        have st := (HO1.out.stored (O.length * 6 + 2) (.int .i64 ((O.length : Int) + 1))).1
        rw [ndCells_setL _ O.length (by simp), nAt_last, set_last] at st
        rw [hw2]
        exact st
      have G2 : Hid (wc.grownBy w2 (Value.slice va O.length vc).ownBlock) := by
        rw [hw2]
        exact grown_trans G1.out grown_set g1s.out
      have gne : Hid (g1 ≠ bt) := fun e => by
        subst e
        rcases A1.out with q | q
        · exact HE.out q
        · have := WS.out; omega
      obtain ⟨kc1, kc2, kc3⟩ := KC.out w2 G2.out
      have I1 := IA.out (O ++ [(f, c, (O.length : Int) + 1, (b : Int), s, (0 : Int))]) (some ⟨g1, 0, none⟩) c1 w2 kc1 kc3 (fun e => gne.out (by cases e; rfl)) (by rw [List.length_append]; exact HO2.out) (by have := WS.out; omega) (by rw [List.length_append]; simp; omega)
      rw [show (O ++ [(f, c, (O.length : Int) + 1, (b : Int), s, (0 : Int))]).length = O.length + 1 by simp] at I1
      have HI1 := hide I1
      obtain ⟨u0, u2, u3⟩ := KB.out w2 G2.out
      clear hw2 I1 HO1 q2 fz2 t0 t2 t3 kc1 kc3 IA
      go_upto_region 7 with (go_at_call 46; refine HI1.out.mono ?_; rintro e w3 ⟨g3, c3, rfl, ho3, hg3, ha3⟩)
      have G3 : Hid (wc.grownBy w3 (Value.slice va O.length vc).ownBlock) := grown_trans G2.out hg3 g1s.out
      have A3 : Hid ((Value.slice va O.length vc).ownBlock = some g3 ∨ wc.heap.size ≤ g3) := by
        rcases ha3 with q | q
        · have e : g1 = g3 := by simpa [Value.ownBlock] using q
          rw [← e]; exact A1.out
        · exact .inr (Nat.le_trans kc2 q)
      have HO3 : Hid (w3.ownsRow B 28 6 (.slice (some ⟨g3, 0, none⟩) (O.length + 1 + sl) c3) (O.length + 1 + sl) (ndCells (O ++ (f, c, (O.length : Int) + 1, (b : Int), s, (0 : Int)) :: M.lay l (O.length + 1)))) := by
        have := ho3
        rw [List.append_assoc] at this
        exact this
      have L3 : O.length < (O ++ (f, c, (O.length : Int) + 1, (b : Int), s, (0 : Int)) :: M.lay l (O.length + 1)).length := by simp
      obtain ⟨x0, x1, x2, x3, x4, x5⟩ := ndCells_at _ O.length L3
      have q3 := (HO3.out.cellAt (O.length * 6 + 3) (by omega)).trans x3
      have fz3 := HO3.out.frozenAt (O.length * 6 + 3)
      have oz3 : ((O.length : Nat) : Int) < ((O.length + 1 + sl : Nat) : Int) := by omega
      clear ho3 hg3 ha3 HO2 x0 x1 x2 x3 x4 x5 L3 u0 u2 u3 HI1 kc2
      go_upto_region 8 with fail
      obtain ⟨w4, hw4⟩ : ∃ W, W = w3.setCell ⟨g3, O.length * 6 + 3, none⟩ (.int .i64 ((O.length : Int) + 1 + (sl : Int))) := ⟨_, rfl⟩
      rw [← hw4]
      have g3s : Hid ((some g3 : Option Nat) = (Value.slice va O.length vc).ownBlock ∨ ∀ q, (some g3 : Option Nat) = some q → wc.heap.size ≤ q) := by
        rcases A3.out with q | q
        · exact .inl q.symm
        · exact .inr (fun z hz => by cases hz; exact q)
      have HO4 : Hid (w4.ownsRow B 28 6 (.slice (some ⟨g3, 0, none⟩) (O.length + 1 + sl) c3) (O.length + 1 + sl) (ndCells (O ++ (f, c, (O.length : Int) + 1, (O.length : Int) + 1 + (sl : Int), s, (0 : Int)) :: M.lay l (O.length + 1)))) := by
        have st := (HO3.out.stored (O.length * 6 + 3) (.int .i64 ((O.length : Int) + 1 + (sl : Int)))).1
        rw [ndCells_setR _ O.length (by simp), nAt_last, set_last] at st
        rw [hw4]
        exact st
      have G4 : Hid (wc.grownBy w4 (Value.slice va O.length vc).ownBlock) := by
        rw [hw4]
        exact grown_trans G3.out grown_set g3s.out
      have gne3 : Hid (g3 ≠ bt) := fun e => by
        subst e
        rcases A3.out with q | q
        · exact HE.out q
        · have := WS.out; omega
      obtain ⟨kc1, kc2, kc3⟩ := KC.out w4 G4.out
      have len4 : (O ++ (f, c, (O.length : Int) + 1, (O.length : Int) + 1 + (sl : Int), s, (0 : Int)) :: M.lay l (O.length + 1)).length = O.length + 1 + sl := by
        rw [List.length_append, List.length_cons, LA.out]; omega
      have I2 := IB.out (O ++ (f, c, (O.length : Int) + 1, (O.length : Int) + 1 + (sl : Int), s, (0 : Int)) :: M.lay l (O.length + 1)) (some ⟨g3, 0, none⟩) c3 w4 kc1 kc3 (fun e => gne3.out (by cases e; rfl)) (by rw [len4]; exact HO4.out) (by have := WS.out; omega) (by rw [len4]; omega)
      rw [len4] at I2
      have HI2 := hide I2
      obtain ⟨u0, u2, u3⟩ := KB.out w4 G4.out
      clear hw4 I2 HO3 q3 fz3 len4 KB KC IB kc1 kc3 HC HE
      go_wp2_with (go_at_call 46; refine HI2.out.mono ?_; rintro e w5 ⟨g5, c5, rfl, ho5, hg5, ha5⟩)
      go_ret
      refine ⟨g5, c5, rfl, ?_, grown_trans (grown_of HX.out.1 _) (grown_trans G4.out hg5 g3s.out) (.inl rfl), ?_⟩
      · rw [List.append_assoc, List.cons_append] at ho5
        exact ho5
      · have := HX.out.1.size
        rcases ha5 with q | q
        · have e : g3 = g5 := by simpa [Value.ownBlock] using q
          rw [← e]
          rcases A3.out with q | q
          · exact .inl q
          · exact .inr (by omega)
        · exact .inr (by omega)

end Go.Proofs.YtjnkkniefpmgdadDoor
