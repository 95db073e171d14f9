/-
  Several texts as one: CdIn, CdRdr, Nodes, CdNode, NdCells.
-/
import Derived.Test.YtiggkjkjfnlfkaaGreatDoorRunS9
import Derived.Test.YtiggkjkjfnlfkaaGreatDoorRunS2
import Derived.Deep.Cut
import Derived.Deep.CutRange
import Derived.BigQuiet
import Derived.Deep.QuietTactic
import Derived.Test.YtiggkjkjfnlfkaaGreatDoorRunS1
import Derived.Test.YtiggkjkjfnlfkaaGreatDoorRunS5
import Derived.Deep.Matrix
import Derived.Deep.Strs
namespace Go.Proofs.YtiggkjkjfnlfkaaGreatDoor
open Go.ChangeShapes Go.WideShapes Go.ChangeAt Go.RowKit Go.Lib
set_option linter.unusedVariables false
/-- where the next number begins, or the one that is wrong -/
def M.lat (s : M.In) : Nat := if s.bad = 0 then s.fin else s.at'
def M.rWith (b : List Nat) (lo hi e : Int) (s : M.In) : Int × M.In :=
  if s.bad ≠ 0 then (0, s)
  else if (M.getL (b.drop s.fin)).2.2 ≠ 0 then (0, ⟨s.fin, s.fin + (M.getL (b.drop s.fin)).2.1, (M.getL (b.drop s.fin)).2.2⟩)
  else if (M.getL (b.drop s.fin)).1 < lo ∨ hi < (M.getL (b.drop s.fin)).1 then (0, ⟨s.fin, s.fin + (M.getL (b.drop s.fin)).2.1, e⟩)
  else ((M.getL (b.drop s.fin)).1, ⟨s.fin, s.fin + (M.getL (b.drop s.fin)).2.1, 0⟩)
theorem M.gt_zero : ∀ (b : List Nat) (i x : Nat), (M.gtK b i x).2.2 ≠ 0 → (M.gtK b i x).1 = 0
  | [], i, x, _ => rfl
  | c :: r, i, x, h => by
    have ih := M.gt_zero r (i + 1) (x + c % 128 * 128 ^ i)
    have e : M.gtK (c :: r) i x = if (i = 9 ∧ 1 < c) ∨ (0 < i ∧ c = 0) then ((0 : Int), (0 : Nat), (2 : Int)) else if c < 128 then (M.unz (x + c % 128 * 128 ^ i), i + 1, 0) else M.gtK r (i + 1) (x + c % 128 * 128 ^ i) := rfl
    rw [e] at h ⊢
    split
    · rfl
    · next q =>
      rw [if_neg q] at h
      split
      · next q2 => rw [if_pos q2] at h; exact absurd rfl h
      · next q2 => rw [if_neg q2] at h; exact ih h
theorem M.rWith_num {b : List Nat} (h8 : ∀ x ∈ b, x < 256) (s : M.In) : M.rWith b (-9223372036854775808) 9223372036854775807 1 s = M.rNum b s := by
  unfold M.rWith
  by_cases q : s.bad = 0
  · rw [if_neg (by simp [q]), M.rNum_go q]
    by_cases r : (M.getL (b.drop s.fin)).2.2 = 0
    · rw [if_neg (by simp [r])]
      obtain ⟨⟨n, k, e⟩, hR⟩ : ∃ R, M.getL (b.drop s.fin) = R := ⟨_, rfl⟩
      rw [hR] at r ⊢
      have r' : e = 0 := r
      subst r'
      have g := M.get_back (fun x hx => h8 x (List.mem_of_mem_drop hx)) hR
      rw [if_neg (by show ¬ (n < _ ∨ _ < n); omega)]
    · rw [if_pos r]
      have := M.gt_zero (b.drop s.fin) 0 0 r
      show (0, _) = ((M.gtK (b.drop s.fin) 0 0).1, _)
      rw [this]
  · rw [if_pos q, M.rNum_bad q]
theorem M.rWith_many (b : List Nat) (most : Int) (s : M.In) : M.rWith b 1 most 1 s = M.rMany b most s := by
  unfold M.rWith M.rMany
  by_cases q : s.bad = 0
  · rw [if_neg (by simp [q]), M.rNum_go q]
    by_cases r : (M.getL (b.drop s.fin)).2.2 = 0
    · rw [if_neg (by simp [r])]
      by_cases z : (M.getL (b.drop s.fin)).1 < 1 ∨ most < (M.getL (b.drop s.fin)).1
      · rw [if_pos z, if_pos ⟨r, z⟩]
      · rw [if_neg z, if_neg (fun y => z y.2), if_neg (by simp [r]), r]
    · rw [if_pos r, if_neg (fun y => r y.1), if_pos r]
  · rw [if_pos q, M.rNum_bad q, if_neg (fun y => q y.1), if_pos q]
theorem M.rWith_tru {b : List Nat} (h8 : ∀ x ∈ b, x < 256) (s : M.In) : (M.rWith b 0 1 2 s).2 = (if (M.rNum b s).2.bad = 0 ∧ (M.rNum b s).1 ≠ 0 ∧ (M.rNum b s).1 ≠ 1 then { (M.rNum b s).2 with bad := 2 } else (M.rNum b s).2) ∧ ((M.rWith b 0 1 2 s).1 == 1) = decide ((M.rNum b s).1 = 1) := by
  unfold M.rWith
  by_cases q : s.bad = 0
  · rw [if_neg (by simp [q]), M.rNum_go q]
    by_cases r : (M.getL (b.drop s.fin)).2.2 = 0
    · rw [if_neg (by simp [r])]
      by_cases z : (M.getL (b.drop s.fin)).1 < 0 ∨ 1 < (M.getL (b.drop s.fin)).1
      · rw [if_pos z, if_pos ⟨r, by show (M.getL (b.drop s.fin)).1 ≠ 0; omega, by show (M.getL (b.drop s.fin)).1 ≠ 1; omega⟩]
        exact ⟨rfl, by rw [decide_eq_false (by show ¬ (M.getL (b.drop s.fin)).1 = 1; omega)]; rfl⟩
      · rw [if_neg z, if_neg (by rintro ⟨_, y1, y2⟩; exact z (by have y1 : (M.getL (b.drop s.fin)).1 ≠ 0 := y1; have y2 : (M.getL (b.drop s.fin)).1 ≠ 1 := y2; omega))]
        exact ⟨by rw [r], rfl⟩
    · rw [if_pos r, if_neg (fun y => r y.1)]
      refine ⟨rfl, ?_⟩
      have e : (M.getL (b.drop s.fin)).1 = 0 := M.gt_zero (b.drop s.fin) 0 0 r
      show ((0 : Int) == 1) = decide ((M.getL (b.drop s.fin)).1 = 1)
      rw [e]
      rfl
  · rw [if_pos q, M.rNum_bad q, if_neg (fun y => q y.1)]
    exact ⟨rfl, rfl⟩

/-- the reader, where it lies -/
structure RdA (W : World) (g : Nat) (v : Value) (s : M.In) : Prop where
  c0 : W.cell? ⟨g, 0, none⟩ = some v
  c1 : W.cell? ⟨g, 1, none⟩ = some (.int .i64 (M.lat s : Nat))
  c2 : W.cell? ⟨g, 2, none⟩ = some (errV s.bad)
  fr : ∀ j, W.frozen? ⟨g, j, none⟩ = false
theorem RdA.lt {W : World} {g : Nat} {v : Value} {s : M.In} (h : RdA W g v s) : g < W.heap.size := block_lt_of_cell h.c0
theorem RdA.same {W W' : World} {g : Nat} {v : Value} {s : M.In} (h : RdA W g v s) (e : W'.heap[g]? = W.heap[g]?) : RdA W' g v s :=
  ⟨(World.cell?_of_block (a := ⟨g, 0, none⟩) e).trans h.c0, (World.cell?_of_block (a := ⟨g, 1, none⟩) e).trans h.c1, (World.cell?_of_block (a := ⟨g, 2, none⟩) e).trans h.c2, fun j => (World.frozen?_of_block (a := ⟨g, j, none⟩) e).trans (h.fr j)⟩
theorem RdA.up {W W' : World} {g : Nat} {v : Value} {s : M.In} (h : RdA W g v s) (hb : Below W.heap.size W W') : RdA W' g v s := h.same (hb.block g h.lt)
/-- one number further -/
theorem RdA.go {W : World} {g : Nat} {v : Value} {s : M.In} (h : RdA W g v s) (hs : s.bad = 0) (n : Nat) (z : Int) (hz : z = (n : Int)) : RdA (W.setCell ⟨g, 1, none⟩ (.int .i64 z)) g v ⟨s.fin, n, 0⟩ := by
  subst hz
  refine ⟨cell_set_other h.c0 (by decide), ?_, ?_, fun j => frozen_set (h.fr j)⟩
  · have e : M.lat ⟨s.fin, n, 0⟩ = n := if_pos rfl
    rw [e]; exact cell_set_same h.c1
  · have := h.c2
    rw [hs] at this
    exact cell_set_other this (by decide)
/-- it is wrong -/
theorem RdA.stop {W : World} {g : Nat} {v : Value} {s : M.In} (h : RdA W g v s) (hs : s.bad = 0) (n : Nat) (e : Int) (he : e ≠ 0) : RdA (W.setCell ⟨g, 2, none⟩ (.iface 90 (.int .i64 e))) g v ⟨s.fin, n, e⟩ := by
  refine ⟨cell_set_other h.c0 (by decide), ?_, ?_, fun j => frozen_set (h.fr j)⟩
  · have e1 : M.lat ⟨s.fin, n, e⟩ = M.lat s := by unfold M.lat; rw [if_neg he, if_pos hs]
    rw [e1]; exact cell_set_other h.c1 (by decide)
  · show _ = some (errV e)
    rw [err_some he]; exact cell_set_same h.c2

set_option maxHeartbeats 8000000 in
set_option maxRecDepth 10000 in
theorem within_any (g : Nat) (a : Option Addr) (bs : List Nat) (c : Nat) (lo hi told : Int) (s : M.In) (w : World) (h : RdA w g (.slice a bs.length c) s) (hb : RdB w a bs) (hc : bs.length ≤ c) (h63 : c ≤ 9223372036854775807) (hf : s.fin ≤ bs.length) (ht : told ≠ 0) :
    Calls Tryz.prog 215 #[.pointer (some ⟨g, 0, none⟩), .int .i64 lo, .int .i64 hi, .int .i64 told] w fun e w' => e = .returned (.int .i64 (M.rWith bs lo hi told s).1) ∧ RdA w' g (.slice a bs.length c) (M.rWith bs lo hi told s).2 ∧ w.grownBy w' (some g) := by
  have y2 := h.c2
  have HT := hide ht
  clear ht
  by_cases q : s.bad = 0
  · have EW : Hid (M.rWith bs lo hi told s = if (M.getL (bs.drop s.fin)).2.2 ≠ 0 then (0, ⟨s.fin, s.fin + (M.getL (bs.drop s.fin)).2.1, (M.getL (bs.drop s.fin)).2.2⟩) else if (M.getL (bs.drop s.fin)).1 < lo ∨ hi < (M.getL (bs.drop s.fin)).1 then (0, ⟨s.fin, s.fin + (M.getL (bs.drop s.fin)).2.1, told⟩) else ((M.getL (bs.drop s.fin)).1, ⟨s.fin, s.fin + (M.getL (bs.drop s.fin)).2.1, 0⟩)) := by
      unfold Hid M.rWith; rw [if_neg (by simp [q])]
    rw [err_nil q] at y2
    have y0 := h.c0
    have y1 := h.c1
    rw [show M.lat s = s.fin from if_pos q] at y1
    have Q := hide q
    obtain ⟨R, hR⟩ : ∃ R, R = M.getL (bs.drop s.fin) := ⟨_, rfl⟩
    have rl : s.fin + R.2.1 ≤ bs.length := by
      have := M.get_le (bs.drop s.fin)
      rw [← hR, List.length_drop] at this
      omega
    have GT : Hid (∀ (W : World) a' n' c', n' = bs.length - s.fin → RdB W a' (bs.drop s.fin) → Calls Tryz.prog 245 #[.slice a' n' c'] W fun e w' => e = .returned (.tuple #[.int .i64 R.1, .int .i64 (R.2.1 : Nat), errV R.2.2]) ∧ w' = W) := fun W a' n' c' hn h' => by
      have := cdget_same a' (bs.drop s.fin) c' W h'
      rw [List.length_drop, ← hn, ← hR] at this
      exact this
    rw [← hR] at EW
    have RS : Hid (∀ n, RdB (w.drewN n) (if c = s.fin then a else Option.map (fun x => x.add s.fin) a) (bs.drop s.fin)) := fun n => rdB_slice (hb.below (below_drew (Below.refl _ _) n (Nat.le_refl _))) hc
    have z0 : (0 : Int) ≤ (s.fin : Int) := by omega
    have z1 : (s.fin : Int) ≤ (bs.length : Int) := by omega
    have z2 : (s.fin : Int) ≤ (c : Int) := by omega
    have HH := hide h
    generalize M.rWith bs lo hi told s = Z at *
    clear h hb hR q
    obtain ⟨n, k, er⟩ := R
    have rl : s.fin + k ≤ bs.length := rl
    have rl2 : s.fin + k ≤ 9223372036854775807 := by omega
    simp only at GT EW
    by_cases r : er = 0
    · subst r
      have zn : errV 0 = .nilIface := if_pos rfl
      rw [zn] at GT
      rw [if_neg (by simp)] at EW
      clear zn
      by_cases l1 : n < lo
      · have EZ : Hid (Z = (0, ⟨s.fin, s.fin + k, told⟩)) := by unfold Hid; rw [EW.out, if_pos (.inl l1)]
        have t1 : decide (n < lo) = true := decide_eq_true l1
        clear EW l1
        go_enter Tryz.func215, Tryz.ntmps215
        go_upto_region 3 with (fail)
        go_quiet ((go_at_call 245; exact Calls.quiet_of_same (GT.out _ _ _ _ rfl (RS.out _))))
        generalize (if c = s.fin then a else Option.map (fun x => x.add s.fin) a) = ad
        obtain ⟨w2, hw2⟩ : ∃ X, X = w.drewN nq := ⟨_, rfl⟩
        rw [← hw2]
        have H2 : Hid (RdA w2 g (.slice a bs.length c) s) := by rw [hw2]; exact HH.out.up (below_drew (Below.refl _ _) nq (Nat.le_refl _))
        have G2 : Hid (w.grownBy w2 (some g)) := by rw [hw2]; exact grown_of (below_drew (Below.refl _ _) nq (Nat.le_refl _)) (some g)
        clear hw2 y0 y1 y2 GT RS HH
        have v2 : w2.cell? ⟨g, 2, none⟩ = some (.nilIface) := by have := H2.out.c2; rwa [err_nil Q.out] at this
        have f2 := H2.out.fr 2
        have S3 := hide (H2.out.stop Q.out (s.fin + k) told HT.out)
        go_wp2
        go_ret
        exact ⟨by rw [EZ.out]; rfl, by rw [EZ.out]; exact S3.out, grown_trans G2.out grown_set (.inl rfl)⟩
      · by_cases l2 : hi < n
        · have EZ : Hid (Z = (0, ⟨s.fin, s.fin + k, told⟩)) := by unfold Hid; rw [EW.out, if_pos (.inr l2)]
          have t1 : decide (n < lo) = false := decide_eq_false l1
          have t2 : decide (hi < n) = true := decide_eq_true l2
          clear EW l1 l2
          go_enter Tryz.func215, Tryz.ntmps215
          go_upto_region 3 with (fail)
          go_quiet ((go_at_call 245; exact Calls.quiet_of_same (GT.out _ _ _ _ rfl (RS.out _))))
          generalize (if c = s.fin then a else Option.map (fun x => x.add s.fin) a) = ad
          obtain ⟨w2, hw2⟩ : ∃ X, X = w.drewN nq := ⟨_, rfl⟩
          rw [← hw2]
          have H2 : Hid (RdA w2 g (.slice a bs.length c) s) := by rw [hw2]; exact HH.out.up (below_drew (Below.refl _ _) nq (Nat.le_refl _))
          have G2 : Hid (w.grownBy w2 (some g)) := by rw [hw2]; exact grown_of (below_drew (Below.refl _ _) nq (Nat.le_refl _)) (some g)
          clear hw2 y0 y1 y2 GT RS HH
          have v2 : w2.cell? ⟨g, 2, none⟩ = some (.nilIface) := by have := H2.out.c2; rwa [err_nil Q.out] at this
          have f2 := H2.out.fr 2
          have S3 := hide (H2.out.stop Q.out (s.fin + k) told HT.out)
          go_wp2
          go_ret
          exact ⟨by rw [EZ.out]; rfl, by rw [EZ.out]; exact S3.out, grown_trans G2.out grown_set (.inl rfl)⟩
        · have EZ : Hid (Z = (n, ⟨s.fin, s.fin + k, 0⟩)) := by unfold Hid; rw [EW.out, if_neg (by rintro (y | y); exact l1 y; exact l2 y)]
          have t1 : decide (n < lo) = false := decide_eq_false l1
          have t2 : decide (hi < n) = false := decide_eq_false l2
          clear EW l1 l2
          go_enter Tryz.func215, Tryz.ntmps215
          go_upto_region 3 with (fail)
          go_quiet ((go_at_call 245; exact Calls.quiet_of_same (GT.out _ _ _ _ rfl (RS.out _))))
          generalize (if c = s.fin then a else Option.map (fun x => x.add s.fin) a) = ad
          obtain ⟨w2, hw2⟩ : ∃ X, X = w.drewN nq := ⟨_, rfl⟩
          rw [← hw2]
          have H2 : Hid (RdA w2 g (.slice a bs.length c) s) := by rw [hw2]; exact HH.out.up (below_drew (Below.refl _ _) nq (Nat.le_refl _))
          have G2 : Hid (w.grownBy w2 (some g)) := by rw [hw2]; exact grown_of (below_drew (Below.refl _ _) nq (Nat.le_refl _)) (some g)
          clear hw2 y0 y1 y2 GT RS HH
          have v1 : w2.cell? ⟨g, 1, none⟩ = some (.int .i64 (s.fin : Nat)) := by have := H2.out.c1; rwa [show M.lat s = s.fin from if_pos Q.out] at this
          have f1 := H2.out.fr 1
          have S3 := hide (H2.out.go Q.out (s.fin + k) ((s.fin : Int) + (k : Int)) (by omega))
          go_wp2
          go_ret
          exact ⟨by rw [EZ.out]; rfl, by rw [EZ.out]; exact S3.out, grown_trans G2.out grown_set (.inl rfl)⟩
    · have EZ : Hid (Z = (0, ⟨s.fin, s.fin + k, er⟩)) := by unfold Hid; rw [EW.out, if_pos r]
      rw [err_some r] at GT
      have RR := hide r
      clear EW r
      go_enter Tryz.func215, Tryz.ntmps215
      go_upto_region 3 with (fail)
      go_quiet ((go_at_call 245; exact Calls.quiet_of_same (GT.out _ _ _ _ rfl (RS.out _))))
      generalize (if c = s.fin then a else Option.map (fun x => x.add s.fin) a) = ad
      obtain ⟨w2, hw2⟩ : ∃ X, X = w.drewN nq := ⟨_, rfl⟩
      rw [← hw2]
      have H2 : Hid (RdA w2 g (.slice a bs.length c) s) := by rw [hw2]; exact HH.out.up (below_drew (Below.refl _ _) nq (Nat.le_refl _))
      have G2 : Hid (w.grownBy w2 (some g)) := by rw [hw2]; exact grown_of (below_drew (Below.refl _ _) nq (Nat.le_refl _)) (some g)
      clear hw2 y0 y1 y2 GT RS HH
      have v2 : w2.cell? ⟨g, 2, none⟩ = some (.nilIface) := by have := H2.out.c2; rwa [err_nil Q.out] at this
      have f2 := H2.out.fr 2
      have S3 := hide (H2.out.stop Q.out (s.fin + k) er RR.out)
      go_wp2
      go_ret
      exact ⟨by rw [EZ.out]; rfl, by rw [EZ.out]; exact S3.out, grown_trans G2.out grown_set (.inl rfl)⟩
  · have EZ : Hid (M.rWith bs lo hi told s = (0, s)) := by unfold Hid M.rWith; rw [if_pos q]
    rw [err_some q] at y2
    have HI := hide h
    clear h hb q
    go_enter Tryz.func215, Tryz.ntmps215
    go_wp2
    go_ret
    exact ⟨by rw [EZ.out]; rfl, by rw [EZ.out]; exact HI.out, World.grownBy.refl _ _⟩

theorem number_any (g : Nat) (a : Option Addr) (bs : List Nat) (c : Nat) (s : M.In) (w : World) (h : RdA w g (.slice a bs.length c) s) (hb : RdB w a bs) (hc : bs.length ≤ c) (h63 : c ≤ 9223372036854775807) (hf : s.fin ≤ bs.length) :
    Calls Tryz.prog 184 #[.pointer (some ⟨g, 0, none⟩)] w fun e w' => e = .returned (.int .i64 (M.rNum bs s).1) ∧ RdA w' g (.slice a bs.length c) (M.rNum bs s).2 ∧ w.grownBy w' (some g) := by
  have F := hide (within_any g a bs c (-9223372036854775808) 9223372036854775807 1 s w h hb hc h63 hf (by decide))
  rw [M.rWith_num hb.2.1] at F
  generalize M.rNum bs s = R at *
  clear h hb hc hf
  go_enter Tryz.func184, Tryz.ntmps184
  go_wp2_with (go_at_call 215; refine F.out.mono ?_; rintro e w1 ⟨rfl, i1, g1⟩; have I1 := hide i1; have G1 := hide g1; clear i1 g1)
  go_ret
  exact ⟨rfl, I1.out, G1.out⟩
theorem count_any (g : Nat) (a : Option Addr) (bs : List Nat) (c : Nat) (most : Int) (s : M.In) (w : World) (h : RdA w g (.slice a bs.length c) s) (hb : RdB w a bs) (hc : bs.length ≤ c) (h63 : c ≤ 9223372036854775807) (hf : s.fin ≤ bs.length) :
    Calls Tryz.prog 185 #[.pointer (some ⟨g, 0, none⟩), .int .i64 most] w fun e w' => e = .returned (.int .i64 (M.rMany bs most s).1) ∧ RdA w' g (.slice a bs.length c) (M.rMany bs most s).2 ∧ w.grownBy w' (some g) := by
  have F := hide (within_any g a bs c 1 most 1 s w h hb hc h63 hf (by decide))
  rw [M.rWith_many] at F
  generalize M.rMany bs most s = R at *
  clear h hb hc hf
  go_enter Tryz.func185, Tryz.ntmps185
  go_wp2_with (go_at_call 215; refine F.out.mono ?_; rintro e w1 ⟨rfl, i1, g1⟩; have I1 := hide i1; have G1 := hide g1; clear i1 g1)
  go_ret
  exact ⟨rfl, I1.out, G1.out⟩
theorem truth_any (g : Nat) (a : Option Addr) (bs : List Nat) (c : Nat) (s : M.In) (w : World) (h : RdA w g (.slice a bs.length c) s) (hb : RdB w a bs) (hc : bs.length ≤ c) (h63 : c ≤ 9223372036854775807) (hf : s.fin ≤ bs.length) :
    Calls Tryz.prog 246 #[.pointer (some ⟨g, 0, none⟩)] w fun e w' => e = .returned (.bool (decide ((M.rNum bs s).1 = 1))) ∧ RdA w' g (.slice a bs.length c) (if (M.rNum bs s).2.bad = 0 ∧ (M.rNum bs s).1 ≠ 0 ∧ (M.rNum bs s).1 ≠ 1 then { (M.rNum bs s).2 with bad := 2 } else (M.rNum bs s).2) ∧ w.grownBy w' (some g) := by
  have F := hide (within_any g a bs c 0 1 2 s w h hb hc h63 hf (by decide))
  have e := M.rWith_tru hb.2.1 s
  rw [e.1] at F
  have E2 := hide e.2
  generalize (if (M.rNum bs s).2.bad = 0 ∧ (M.rNum bs s).1 ≠ 0 ∧ (M.rNum bs s).1 ≠ 1 then { (M.rNum bs s).2 with bad := 2 } else (M.rNum bs s).2) = T at *
  rw [← e.2]
  generalize (M.rWith bs 0 1 2 s).1 = R at *
  clear h hb hc hf e
  go_enter Tryz.func246, Tryz.ntmps246
  go_wp2_with (go_at_call 215; refine F.out.mono ?_; rintro e w1 ⟨rfl, i1, g1⟩; have I1 := hide i1; have G1 := hide g1; clear i1 g1)
  go_ret
  exact ⟨rfl, I1.out, G1.out⟩
structure Rdr (W : World) (g : Nat) (a : Option Addr) (bs : List Nat) (c : Nat) (s : M.In) : Prop where
  box : RdA W g (.slice a bs.length c) s
  rd : RdB W a bs
  hc : bs.length ≤ c
  h63 : c ≤ 9223372036854775807
  fin : s.fin ≤ bs.length
  ne : bs ≠ [] → ∀ p, a = some p → p.block ≠ g
theorem Rdr.lt {W : World} {g : Nat} {a : Option Addr} {bs : List Nat} {c : Nat} {s : M.In} (h : Rdr W g a bs c s) : g < W.heap.size := h.box.lt
theorem Rdr.up {W W' : World} {g : Nat} {a : Option Addr} {bs : List Nat} {c : Nat} {s : M.In} (h : Rdr W g a bs c s) (hb : Below W.heap.size W W') : Rdr W' g a bs c s := ⟨h.box.up hb, h.rd.below hb, h.hc, h.h63, h.fin, h.ne⟩
theorem Rdr.alloc {W : World} {g : Nat} {a : Option Addr} {bs : List Nat} {c : Nat} {s : M.In} (h : Rdr W g a bs c s) (o : Obj) : Rdr (W.alloc o) g a bs c s := h.up ((Below.refl _ W).alloc (Nat.le_refl _) o)
/-- a number is read: the bytes stay -/
theorem Rdr.step {W W' : World} {g : Nat} {a : Option Addr} {bs : List Nat} {c : Nat} {s s' : M.In} (h : Rdr W g a bs c s) (hb : RdA W' g (.slice a bs.length c) s') (hg : W.grownBy W' (some g)) (hf : s'.fin ≤ bs.length) : Rdr W' g a bs c s' :=
  ⟨hb, rdB_keep h.rd (fun hn p hp => hg.block p.block (by
    obtain ⟨b, off, e, hl, _⟩ := h.rd.2.2 hn
    rw [hp] at e
    cases e
    exact hl) (fun e => h.ne hn p hp (by cases e; rfl))) hg.size, h.hc, h.h63, hf, h.ne⟩
/-- something else grows that was not there at first -/
theorem Rdr.far {w W W' : World} {g : Nat} {a : Option Addr} {bs : List Nat} {c : Nat} {s0 s : M.In} {r : Option Nat} (h0 : Rdr w g a bs c s0) (h : Rdr W g a bs c s) (hg : W.grownBy W' r) (hr : ∀ q, r = some q → w.heap.size ≤ q) : Rdr W' g a bs c s := by
  have l0 := h0.lt
  refine ⟨h.box.same (hg.block g h.lt (fun e => by have := hr g e.symm; omega)), rdB_keep h.rd (fun hn p hp => ?_) hg.size, h.hc, h.h63, h.fin, h.ne⟩
  obtain ⟨b, off, e, hl, _⟩ := h0.rd.2.2 hn
  rw [hp] at e
  cases e
  obtain ⟨b, off, e, hl2, _⟩ := h.rd.2.2 hn
  rw [hp] at e
  cases e
  exact hg.block _ hl2 (fun e => by have := hr _ e.symm; simp at this; omega)
theorem M.ask_fin {b : List Nat} {s : M.In} {f : Int} (h : s.fin ≤ b.length) : (M.rAsk b f s).2.fin ≤ b.length := by
  have := M.rNum_fin (M.rNum_fin (M.rNum_fin (M.rNum_fin h)))
  unfold M.rAsk
  simp only
  split
  · exact this
  · exact this
theorem M.rNode_fin {b : List Nat} {s : M.In} (h : s.fin ≤ b.length) : (M.rNode b s).2.fin ≤ b.length := by
  unfold M.rNode
  split
  · exact M.rNum_fin (M.rNum_fin h)
  · exact M.ask_fin (M.rNum_fin h)
theorem M.rNum_zero {b : List Nat} {s : M.In} (h : (M.rNum b s).2.bad ≠ 0) : (M.rNum b s).1 = 0 := by
  by_cases q : s.bad = 0
  · rw [M.rNum_go q] at h ⊢
    exact M.gt_zero _ 0 0 h
  · rw [M.rNum_bad q]
theorem numR {W : World} {g : Nat} {a : Option Addr} {bs : List Nat} {c : Nat} {s : M.In} (h : Rdr W g a bs c s) : Calls Tryz.prog 184 #[.pointer (some ⟨g, 0, none⟩)] W fun e w' => e = .returned (.int .i64 (M.rNum bs s).1) ∧ Rdr w' g a bs c (M.rNum bs s).2 ∧ W.grownBy w' (some g) :=
  (number_any g a bs c s W h.box h.rd h.hc h.h63 h.fin).mono fun e w' hh => ⟨hh.1, h.step hh.2.1 hh.2.2 (M.rNum_fin h.fin), hh.2.2⟩
theorem cntR {W : World} {g : Nat} {a : Option Addr} {bs : List Nat} {c : Nat} {s : M.In} (most : Int) (h : Rdr W g a bs c s) : Calls Tryz.prog 185 #[.pointer (some ⟨g, 0, none⟩), .int .i64 most] W fun e w' => e = .returned (.int .i64 (M.rMany bs most s).1) ∧ Rdr w' g a bs c (M.rMany bs most s).2 ∧ W.grownBy w' (some g) :=
  (count_any g a bs c most s W h.box h.rd h.hc h.h63 h.fin).mono fun e w' hh => ⟨hh.1, h.step hh.2.1 hh.2.2 (M.rMany_fin h.fin), hh.2.2⟩
theorem truR {W : World} {g : Nat} {a : Option Addr} {bs : List Nat} {c : Nat} {s : M.In} (h : Rdr W g a bs c s) : Calls Tryz.prog 246 #[.pointer (some ⟨g, 0, none⟩)] W fun e w' => e = .returned (.bool (decide ((M.rNum bs s).1 = 1))) ∧ Rdr w' g a bs c (if (M.rNum bs s).2.bad = 0 ∧ (M.rNum bs s).1 ≠ 0 ∧ (M.rNum bs s).1 ≠ 1 then { (M.rNum bs s).2 with bad := 2 } else (M.rNum bs s).2) ∧ W.grownBy w' (some g) :=
  (truth_any g a bs c s W h.box h.rd h.hc h.h63 h.fin).mono fun e w' hh => ⟨hh.1, h.step hh.2.1 hh.2.2 (by have := M.rNum_fin h.fin; split; exact this; exact this), hh.2.2⟩
/-- a new block, and what lies there while the reader goes on -/
theorem new_grown {w W : World} {cs : Array Value} {t : TypeId} {g : Nat} (hg : (w.alloc (.cells cs t)).grownBy W (some g)) (hl : g < w.heap.size) : (∀ j v, cs[j]? = some v → W.cell? ⟨w.heap.size, j, none⟩ = some v) ∧ ∀ j, W.frozen? ⟨w.heap.size, j, none⟩ = false := by
  have lt : w.heap.size < (w.alloc (.cells cs t)).heap.size := by simp
  have e := hg.block w.heap.size lt (fun e => by cases e; omega)
  refine ⟨fun j v hv => (World.cell?_of_block (a := ⟨w.heap.size, j, none⟩) e).trans (by rw [World.cell?_alloc_new]; exact hv), fun j => (World.frozen?_of_block (a := ⟨w.heap.size, j, none⟩) e).trans (frozen_new2 w cs t j)⟩
theorem grown_new {w W : World} {o : Obj} {r : Option Nat} (h : (w.alloc o).grownBy W r) : w.grownBy W r := grown_trans (World.grownBy_alloc w o r) h (.inl rfl)
theorem grown6 {w W : World} {p : Nat} {r : Option Nat} {x0 x1 x2 x3 x4 x5 : Value} (h : w.grownBy W r) (hp : w.heap.size ≤ p) : w.grownBy ((((((W.setCell ⟨p, 0, none⟩ x0).setCell ⟨p, 1, none⟩ x1).setCell ⟨p, 2, none⟩ x2).setCell ⟨p, 3, none⟩ x3).setCell ⟨p, 4, none⟩ x4).setCell ⟨p, 5, none⟩ x5) r :=
  have f : ∀ q, some p = some q → w.heap.size ≤ q := fun q e => by cases e; exact hp
  grown_trans (grown_trans (grown_trans (grown_trans (grown_trans (grown_trans h grown_set (.inr f)) grown_set (.inr f)) grown_set (.inr f)) grown_set (.inr f)) grown_set (.inr f)) grown_set (.inr f)
theorem grown6_at {W : World} {p : Nat} {x0 x1 x2 x3 x4 x5 : Value} : W.grownBy ((((((W.setCell ⟨p, 0, none⟩ x0).setCell ⟨p, 1, none⟩ x1).setCell ⟨p, 2, none⟩ x2).setCell ⟨p, 3, none⟩ x3).setCell ⟨p, 4, none⟩ x4).setCell ⟨p, 5, none⟩ x5) (some p) :=
  grown_trans (grown_trans (grown_trans (grown_trans (grown_trans grown_set grown_set (.inl rfl)) grown_set (.inl rfl)) grown_set (.inl rfl)) grown_set (.inl rfl)) grown_set (.inl rfl)
end Go.Proofs.YtiggkjkjfnlfkaaGreatDoor

namespace Go.Proofs.YtiggkjkjfnlfkaaGreatDoor
open Go.ChangeShapes Go.WideShapes Go.ChangeAt Go.RowKit Go.Deep
set_option linter.unusedVariables false
def ndV (n : M.Nd) : Value := .agg #[.int .i64 (M.nf n), .int .i64 (M.nc n), .int .i64 (M.nl n), .int .i64 (M.nr n), .bool (M.ns n), .int .i64 (M.nv n)]
/-- a node's six cells -/
def SixAt (w : World) (b off : Nat) (n : M.Nd) : Prop :=
  w.cell? ⟨b, off, none⟩ = some (.int .i64 (M.nf n)) ∧ w.cell? ⟨b, off + 1, none⟩ = some (.int .i64 (M.nc n)) ∧ w.cell? ⟨b, off + 2, none⟩ = some (.int .i64 (M.nl n)) ∧
  w.cell? ⟨b, off + 3, none⟩ = some (.int .i64 (M.nr n)) ∧ w.cell? ⟨b, off + 4, none⟩ = some (.bool (M.ns n)) ∧ w.cell? ⟨b, off + 5, none⟩ = some (.int .i64 (M.nv n))
theorem SixAt.below {w w' : World} {b off : Nat} {n : M.Nd} {B : Nat} (h : SixAt w b off n) (hb : Below B w w') (hl : b < B) : SixAt w' b off n := by
  obtain ⟨h0, h1, h2, h3, h4, h5⟩ := h
  exact ⟨(hb.cell (p := ⟨b, off, none⟩) hl).trans h0, (hb.cell (p := ⟨b, off + 1, none⟩) hl).trans h1, (hb.cell (p := ⟨b, off + 2, none⟩) hl).trans h2,
    (hb.cell (p := ⟨b, off + 3, none⟩) hl).trans h3, (hb.cell (p := ⟨b, off + 4, none⟩) hl).trans h4, (hb.cell (p := ⟨b, off + 5, none⟩) hl).trans h5⟩
/-- nodes, where they lie -/
def RdN (w : World) (a : Option Addr) (ts : List M.Nd) : Prop :=
  ts.length ≤ maxLen ∧ (ts ≠ [] → ∃ b off, a = some ⟨b, off, none⟩ ∧ b < w.heap.size ∧ ∀ i, i < ts.length → SixAt w b (off + i * 6) (M.nAt ts i))
theorem RdN.below {w w' : World} {a : Option Addr} {ts : List M.Nd} (h : RdN w a ts) (hb : Below w.heap.size w w') : RdN w' a ts :=
  ⟨h.1, fun hn => by
    obtain ⟨b, off, e, hl, hc⟩ := h.2 hn
    exact ⟨b, off, e, Nat.lt_of_lt_of_le hl hb.size, fun i hi => (hc i hi).below hb hl⟩⟩

theorem cellsNode : Tryz.prog.cellsOf 113 = 6 := by kernel_rfl
theorem cellsInt : Tryz.prog.cellsOf 3 = 1 := by kernel_rfl
theorem cellsBool : Tryz.prog.cellsOf 4 = 1 := by kernel_rfl
theorem add_flat (b off i : Nat) : (⟨b, off, none⟩ : Addr).add i = ⟨b, off + i, none⟩ := by unfold Addr.add; simp

theorem struct6 {H : Type} {enc : TypeId × Value → H} {P : Program} {w : World} {base : Nat} {spare : Nat → Bool} {held : Bool} {t : TypeId} {f0 f1 f2 f3 f4 f5 : Field} {fuel : Nat} {cs : List Value} {x : DataW H × List MemPlace} (ht : P.underlying t = some (.struct #[f0, f1, f2, f3, f4, f5]))
    (h : DataW.trod enc P w base spare held fuel t cs = some x) :
    ∃ y0 y1 y2 y3 y4 y5 n, DataW.trod enc P w base spare held n f0.type ((cs.drop f0.offset).take (P.cellsOf f0.type)) = some y0 ∧
      DataW.trod enc P w base spare held n f1.type ((cs.drop f1.offset).take (P.cellsOf f1.type)) = some y1 ∧ DataW.trod enc P w base spare held n f2.type ((cs.drop f2.offset).take (P.cellsOf f2.type)) = some y2 ∧
      DataW.trod enc P w base spare held n f3.type ((cs.drop f3.offset).take (P.cellsOf f3.type)) = some y3 ∧ DataW.trod enc P w base spare held n f4.type ((cs.drop f4.offset).take (P.cellsOf f4.type)) = some y4 ∧
      DataW.trod enc P w base spare held n f5.type ((cs.drop f5.offset).take (P.cellsOf f5.type)) = some y5 := by
  obtain ⟨xs, n, _, rfl, hl, hlen, hf⟩ := DataW.trod_struct ht h
  match xs, hlen with
  | [y0, y1, y2, y3, y4, y5], _ => exact ⟨y0, y1, y2, y3, y4, y5, n, by simpa using hf 0 f0 rfl, by simpa using hf 1 f1 rfl, by simpa using hf 2 f2 rfl, by simpa using hf 3 f3 rfl, by simpa using hf 4 f4 rfl, by simpa using hf 5 f5 rfl⟩

theorem open_nodes {H : Type} {enc : TypeId × Value → H} {W : World} {base : Nat} {spare : Nat → Bool} {held : Bool} {fuel : Nat} {a : Option Addr} {len cap : Nat} {x : DataW H × List MemPlace}
    (h : DataW.trod enc Tryz.prog W base spare held fuel 110 [.slice a len cap] = some x) : ∃ ts : List M.Nd, ts.length = len ∧ RdN W a ts := by
  rcases open_slice Tryz.underlying110 h with ⟨hcs, _⟩ | ⟨a', len', cap', m, n, D, Pl, hcs, _, hl, hm, hmm, _, hx⟩
  · cases hcs
    exact ⟨[], rfl, ⟨Nat.zero_le _, fun h => absurd rfl h⟩⟩
  · cases hcs
    have hlm : len ≤ m := by rw [hmm]; split <;> omega
    have each : ∀ i, i < len → ∃ n : M.Nd, W.cell? (a'.add (i * 6)) = some (.int .i64 (M.nf n)) ∧ W.cell? (a'.add (i * 6 + 1)) = some (.int .i64 (M.nc n)) ∧ W.cell? (a'.add (i * 6 + 2)) = some (.int .i64 (M.nl n)) ∧
        W.cell? (a'.add (i * 6 + 3)) = some (.int .i64 (M.nr n)) ∧ W.cell? (a'.add (i * 6 + 4)) = some (.bool (M.ns n)) ∧ W.cell? (a'.add (i * 6 + 5)) = some (.int .i64 (M.nv n)) := by
      intro i hi
      obtain ⟨cs, h1, h2⟩ := hx i (by omega)
      rw [cellsNode] at h1
      obtain ⟨_, hlen, hcell⟩ := World.cells?_some h1
      obtain ⟨y0, y1, y2, y3, y4, y5, k, g0, g1, g2, g3, g4, g5⟩ := struct6 Tryz.underlying113 h2
      rw [cellsInt] at g0 g1 g2 g3 g5
      rw [cellsBool] at g4
      match cs, hlen with
      | [c0, c1, c2, c3, c4, c5], _ =>
        obtain ⟨n0, e0, _⟩ := DataW.trod_int Tryz.underlying3 g0
        obtain ⟨n1, e1, _⟩ := DataW.trod_int Tryz.underlying3 g1
        obtain ⟨n2, e2, _⟩ := DataW.trod_int Tryz.underlying3 g2
        obtain ⟨n3, e3, _⟩ := DataW.trod_int Tryz.underlying3 g3
        obtain ⟨n4, e4, _⟩ := DataW.trod_bool Tryz.underlying4 g4
        obtain ⟨n5, e5, _⟩ := DataW.trod_int Tryz.underlying3 g5
        simp at e0 e1 e2 e3 e4 e5
        have d0 := hcell 0 (by omega)
        have d1 := hcell 1 (by omega)
        have d2 := hcell 2 (by omega)
        have d3 := hcell 3 (by omega)
        have d4 := hcell 4 (by omega)
        have d5 := hcell 5 (by omega)
        rw [add_add] at d0 d1 d2 d3 d4 d5
        refine ⟨(n0, n1, n2, n3, n4, n5), ?_, ?_, ?_, ?_, ?_, ?_⟩
        · simpa [e0, M.nf] using d0
        · simpa [e1, M.nc] using d1
        · simpa [e2, M.nl] using d2
        · simpa [e3, M.nr] using d3
        · simpa [e4, M.ns] using d4
        · simpa [e5, M.nv] using d5
    obtain ⟨f, hf⟩ := choose_lt each
    refine ⟨(List.range len).map f, by simp, ⟨by simp; omega, fun hne => ?_⟩⟩
    have hp : 0 < len := by
      rcases Nat.eq_zero_or_pos len with h0 | h0
      · subst h0; exact absurd rfl hne
      · exact h0
    obtain ⟨b, off, spot⟩ := a'
    have hspot : spot = none := by
      have := World.cell?_spot (hf 0 hp).1
      simpa [Addr.add] using this
    subst hspot
    refine ⟨b, off, rfl, ?_, fun i hi => ?_⟩
    · have := (hf 0 hp).1
      rw [add_flat] at this
      exact block_lt_of_cell this
    · have hi' : i < len := by simpa using hi
      obtain ⟨q0, q1, q2, q3, q4, q5⟩ := hf i hi'
      rw [add_flat] at q0 q1 q2 q3 q4 q5
      have e : M.nAt ((List.range len).map f) i = f i := by unfold M.nAt; simp [List.getD, hi']
      rw [e]
      refine ⟨q0, ?_, ?_, ?_, ?_, ?_⟩
      · rw [Nat.add_assoc]; exact q1
      · rw [Nat.add_assoc]; exact q2
      · rw [Nat.add_assoc]; exact q3
      · rw [Nat.add_assoc]; exact q4
      · rw [Nat.add_assoc]; exact q5
end Go.Proofs.YtiggkjkjfnlfkaaGreatDoor

namespace Go.Proofs.YtiggkjkjfnlfkaaGreatDoor
open Go.ChangeShapes Go.WideShapes Go.ChangeAt Go.RowKit Go.Lib
set_option linter.unusedVariables false
set_option maxHeartbeats 8000000 in
set_option maxRecDepth 10000 in
theorem nodeR {w : World} {g : Nat} {a : Option Addr} {bs : List Nat} {c : Nat} {s : M.In} (h : Rdr w g a bs c s) : Calls Tryz.prog 216 #[.pointer (some ⟨g, 0, none⟩)] w fun e w' => e = .returned (ndV (M.rNode bs s).1) ∧ Rdr w' g a bs c (M.rNode bs s).2 ∧ w.grownBy w' (some g) := by
  have gl := h.lt
  obtain ⟨n1, s1, h1⟩ : ∃ n1 s1, M.rNum bs s = (n1, s1) := ⟨_, _, rfl⟩
  have N1 := hide (fun (W : World) (h : Rdr W g a bs c s) => numR h)
  rw [h1] at N1
  have NF : Hid (∀ W, (w.alloc (.cells #[.int .i64 0, .int .i64 0, .int .i64 0, .int .i64 0, .bool false, .int .i64 0] 113)).grownBy W (some g) → (∀ j v, #[Value.int .i64 0, .int .i64 0, .int .i64 0, .int .i64 0, .bool false, .int .i64 0][j]? = some v → W.cell? ⟨w.heap.size, j, none⟩ = some v) ∧ ∀ j, W.frozen? ⟨w.heap.size, j, none⟩ = false) := fun W hW => new_grown hW gl
  have I0 := hide h
  have IA := hide (h.alloc (.cells #[.int .i64 0, .int .i64 0, .int .i64 0, .int .i64 0, .bool false, .int .i64 0] 113))
  have sz : w.heap.size ≤ w.heap.size := Nat.le_refl _
  by_cases q : n1 = -1
  · obtain ⟨n2, s2, h2⟩ : ∃ n2 s2, M.rNum bs s1 = (n2, s2) := ⟨_, _, rfl⟩
    have N2 := hide (fun (W : World) (h : Rdr W g a bs c s1) => numR h)
    rw [h2] at N2
    have EN : Hid (M.rNode bs s = ((n1, 0, 0, 0, false, n2), s2)) := by
      have zb : s1.bad = 0 := by
        by_cases z : s1.bad = 0
        · exact z
        · have := M.rNum_zero (b := bs) (s := s) (by rw [h1]; exact z)
          rw [h1] at this
          have this : n1 = 0 := this
          omega
      unfold Hid M.rNode
      rw [h1, if_pos ⟨zb, q⟩]
      show ((n1, 0, 0, 0, false, (M.rNum bs s1).1), (M.rNum bs s1).2) = _
      rw [h2]
    generalize M.rNode bs s = Z at *
    have t1 : (n1 == -1) = true := by rw [beq_iff_eq]; exact q
    clear h h1 h2 q
    simp only at N1 N2
    go_enter Tryz.func216, Tryz.ntmps216
    go_wp2_with (first
      | (go_at_call 184; refine (N2.out _ I1.out).mono ?_; rintro e w2 ⟨rfl, i2, g2⟩; have I2 := hide i2; have G2 := hide (grown_trans G1.out g2 (.inl rfl)); have y0 := (NF.out w2 G2.out).1 0 _ rfl; have y1 := (NF.out w2 G2.out).1 1 _ rfl; have y2 := (NF.out w2 G2.out).1 2 _ rfl; have y3 := (NF.out w2 G2.out).1 3 _ rfl; have y4 := (NF.out w2 G2.out).1 4 _ rfl; have y5 := (NF.out w2 G2.out).1 5 _ rfl; have f0 := (NF.out w2 G2.out).2 0; have f1 := (NF.out w2 G2.out).2 1; have f2 := (NF.out w2 G2.out).2 2; have f3 := (NF.out w2 G2.out).2 3; have f4 := (NF.out w2 G2.out).2 4; have f5 := (NF.out w2 G2.out).2 5; clear i2 g2)
      | (go_at_call 184; refine (N1.out _ IA.out).mono ?_; rintro e w1 ⟨rfl, i1, g1⟩; have I1 := hide i1; have G1 := hide g1; clear i1 g1))
    obtain ⟨e0, e1, e2, e3, e4, e5⟩ := set6 (x0 := .int .i64 n1) (x1 := .int .i64 0) (x2 := .int .i64 0) (x3 := .int .i64 0) (x4 := .bool false) (x5 := .int .i64 n2) y0 y1 y2 y3 y4 y5
    refine bodyPost_ret (v := .agg #[.int .i64 n1, .int .i64 0, .int .i64 0, .int .i64 0, .bool false, .int .i64 n2]) (by simp [results, Tryz.results216, go_sem, e0, e1, e2, e3, e4, e5]) rfl ?_
    exact ⟨by rw [EN.out]; rfl, by rw [EN.out]; exact I0.out.far I2.out grown6_at (fun q e => by cases e; exact sz), grown6 (grown_new G2.out) sz⟩
  · obtain ⟨n2, s2, h2⟩ : ∃ n2 s2, M.rNum bs s1 = (n2, s2) := ⟨_, _, rfl⟩
    obtain ⟨n3, s3, h3⟩ : ∃ n3 s3, M.rNum bs s2 = (n3, s3) := ⟨_, _, rfl⟩
    obtain ⟨n4, s4, h4⟩ : ∃ n4 s4, M.rNum bs s3 = (n4, s4) := ⟨_, _, rfl⟩
    obtain ⟨s5, h5⟩ : ∃ s5, (if (M.rNum bs s4).2.bad = 0 ∧ (M.rNum bs s4).1 ≠ 0 ∧ (M.rNum bs s4).1 ≠ 1 then { (M.rNum bs s4).2 with bad := 2 } else (M.rNum bs s4).2) = s5 := ⟨_, rfl⟩
    obtain ⟨bb, hbb⟩ : ∃ bb, decide ((M.rNum bs s4).1 = 1) = bb := ⟨_, rfl⟩
    have N2 := hide (fun (W : World) (h : Rdr W g a bs c s1) => numR h)
    have N3 := hide (fun (W : World) (h : Rdr W g a bs c s2) => numR h)
    have N4 := hide (fun (W : World) (h : Rdr W g a bs c s3) => numR h)
    have T5 := hide (fun (W : World) (h : Rdr W g a bs c s4) => truR h)
    rw [h2] at N2
    rw [h3] at N3
    rw [h4] at N4
    rw [h5, hbb] at T5
    have EN : Hid (M.rNode bs s = ((n1, n2, n3, n4, bb, 0), s5)) := by
      unfold Hid M.rNode
      rw [h1, if_neg (fun z => q z.2)]
      show M.rAsk bs n1 s1 = _
      unfold M.rAsk
      simp only
      rw [h2]
      simp only
      rw [h3]
      simp only
      rw [h4]
      simp only
      rw [h5, hbb]
    generalize M.rNode bs s = Z at *
    have t1 : (n1 == -1) = false := by rw [beq_eq_false_iff_ne]; exact q
    clear h h1 h2 h3 h4 h5 hbb q
    simp only at N1 N2 N3 N4
    go_enter Tryz.func216, Tryz.ntmps216
    go_wp2_with (first
      | (go_at_call 246; refine (T5.out _ I4.out).mono ?_; rintro e w5 ⟨rfl, i5, g5⟩; have I5 := hide i5; have G5 := hide (grown_trans G4.out g5 (.inl rfl)); have y0 := (NF.out w5 G5.out).1 0 _ rfl; have y1 := (NF.out w5 G5.out).1 1 _ rfl; have y2 := (NF.out w5 G5.out).1 2 _ rfl; have y3 := (NF.out w5 G5.out).1 3 _ rfl; have y4 := (NF.out w5 G5.out).1 4 _ rfl; have y5 := (NF.out w5 G5.out).1 5 _ rfl; have f0 := (NF.out w5 G5.out).2 0; have f1 := (NF.out w5 G5.out).2 1; have f2 := (NF.out w5 G5.out).2 2; have f3 := (NF.out w5 G5.out).2 3; have f4 := (NF.out w5 G5.out).2 4; have f5 := (NF.out w5 G5.out).2 5; clear i5 g5)
      | (go_at_call 184; refine (N4.out _ I3.out).mono ?_; rintro e w4 ⟨rfl, i4, g4⟩; have I4 := hide i4; have G4 := hide (grown_trans G3.out g4 (.inl rfl)); clear i4 g4)
      | (go_at_call 184; refine (N3.out _ I2.out).mono ?_; rintro e w3 ⟨rfl, i3, g3⟩; have I3 := hide i3; have G3 := hide (grown_trans G2.out g3 (.inl rfl)); clear i3 g3)
      | (go_at_call 184; refine (N2.out _ I1.out).mono ?_; rintro e w2 ⟨rfl, i2, g2⟩; have I2 := hide i2; have G2 := hide (grown_trans G1.out g2 (.inl rfl)); clear i2 g2)
      | (go_at_call 184; refine (N1.out _ IA.out).mono ?_; rintro e w1 ⟨rfl, i1, g1⟩; have I1 := hide i1; have G1 := hide g1; clear i1 g1))
    obtain ⟨e0, e1, e2, e3, e4, e5⟩ := set6 (x0 := .int .i64 n1) (x1 := .int .i64 n2) (x2 := .int .i64 n3) (x3 := .int .i64 n4) (x4 := .bool bb) (x5 := .int .i64 0) y0 y1 y2 y3 y4 y5
    refine bodyPost_ret (v := .agg #[.int .i64 n1, .int .i64 n2, .int .i64 n3, .int .i64 n4, .bool bb, .int .i64 0]) (by simp [results, Tryz.results216, go_sem, e0, e1, e2, e3, e4, e5]) rfl ?_
    exact ⟨by rw [EN.out]; rfl, by rw [EN.out]; exact I0.out.far I5.out grown6_at (fun q e => by cases e; exact sz), grown6 (grown_new G5.out) sz⟩
end Go.Proofs.YtiggkjkjfnlfkaaGreatDoor

namespace Go.Proofs.YtiggkjkjfnlfkaaGreatDoor
open Go.ChangeShapes Go.WideShapes Go.ChangeAt Go.RowKit
set_option linter.unusedVariables false
theorem infoN : (Tryz.prog.info? 113).map (fun i => (i.zero, i.size, i.bytes)) = some (some (.agg #[.int .i64 0, .int .i64 0, .int .i64 0, .int .i64 0, .bool false, .int .i64 0]), 6, 48) := by kernel_rfl
def ndCells (ts : List M.Nd) : List Value := ts.flatMap fun n => [.int .i64 (M.nf n), .int .i64 (M.nc n), .int .i64 (M.nl n), .int .i64 (M.nr n), .bool (M.ns n), .int .i64 (M.nv n)]
theorem ndCells_cons (n : M.Nd) (t : List M.Nd) : ndCells (n :: t) = .int .i64 (M.nf n) :: .int .i64 (M.nc n) :: .int .i64 (M.nl n) :: .int .i64 (M.nr n) :: .bool (M.ns n) :: .int .i64 (M.nv n) :: ndCells t := rfl
theorem ndCells_len (ts : List M.Nd) : (ndCells ts).length = ts.length * 6 := by
  induction ts with
  | nil => rfl
  | cons x t ih => rw [ndCells_cons]; simp only [List.length_cons, ih]; omega
theorem ndCells_one (ts : List M.Nd) : ∀ v ∈ ndCells ts, v.oneCell' = true := by
  intro v hv
  simp only [ndCells, List.mem_flatMap] at hv
  obtain ⟨s, _, hs⟩ := hv
  simp only [List.mem_cons, List.not_mem_nil, or_false] at hs
  rcases hs with rfl | rfl | rfl | rfl | rfl | rfl <;> rfl
theorem ndCells_at : ∀ (ts : List M.Nd) (i : Nat), i < ts.length → (ndCells ts)[i * 6]? = some (.int .i64 (M.nf (M.nAt ts i))) ∧ (ndCells ts)[i * 6 + 1]? = some (.int .i64 (M.nc (M.nAt ts i))) ∧ (ndCells ts)[i * 6 + 2]? = some (.int .i64 (M.nl (M.nAt ts i))) ∧ (ndCells ts)[i * 6 + 3]? = some (.int .i64 (M.nr (M.nAt ts i))) ∧ (ndCells ts)[i * 6 + 4]? = some (.bool (M.ns (M.nAt ts i))) ∧ (ndCells ts)[i * 6 + 5]? = some (.int .i64 (M.nv (M.nAt ts i)))
  | [], i, h => by simp at h
  | s :: t, 0, h => ⟨rfl, rfl, rfl, rfl, rfl, rfl⟩
  | s :: t, i + 1, h => by
    have := ndCells_at t i (by simpa using h)
    have e : M.nAt (s :: t) (i + 1) = M.nAt t i := by simp [M.nAt]
    rw [ndCells_cons, e, show (i + 1) * 6 = i * 6 + 1 + 1 + 1 + 1 + 1 + 1 by omega]
    simpa using this
theorem nd_src {w : World} {b off : Nat} {ts : List M.Nd} (hc : ∀ i, i < ts.length → SixAt w b (off + i * 6) (M.nAt ts i)) : ∀ j u, (ndCells ts)[j]? = some u → w.cell? ((⟨b, off, none⟩ : Addr).add j) = some u := by
  intro j u hj
  have hl : j < ts.length * 6 := by
    have := (List.getElem?_eq_some_iff.1 hj).1
    rwa [ndCells_len] at this
  have hi : j / 6 < ts.length := by omega
  obtain ⟨h0, h1, h2, h3, h4, h5⟩ := hc _ hi
  obtain ⟨q0, q1, q2, q3, q4, q5⟩ := ndCells_at ts _ hi
  rw [add_flat]
  rcases (show j = j / 6 * 6 ∨ j = j / 6 * 6 + 1 ∨ j = j / 6 * 6 + 2 ∨ j = j / 6 * 6 + 3 ∨ j = j / 6 * 6 + 4 ∨ j = j / 6 * 6 + 5 by omega) with e | e | e | e | e | e
  · rw [e] at hj ⊢; rw [q0] at hj; rw [← hj]; simpa [Nat.mul_div_cancel] using h0
  · rw [e] at hj ⊢; rw [show (j / 6 * 6 + 1) = j / 6 * 6 + 1 from rfl] at hj; rw [q1] at hj; rw [← hj, ← Nat.add_assoc]; exact h1
  · rw [e] at hj ⊢; rw [q2] at hj; rw [← hj, ← Nat.add_assoc]; exact h2
  · rw [e] at hj ⊢; rw [q3] at hj; rw [← hj, ← Nat.add_assoc]; exact h3
  · rw [e] at hj ⊢; rw [q4] at hj; rw [← hj, ← Nat.add_assoc]; exact h4
  · rw [e] at hj ⊢; rw [q5] at hj; rw [← hj, ← Nat.add_assoc]; exact h5
theorem own_rdN {w : World} {base n : Nat} {v : Value} {ts : List M.Nd} (hn : ts.length = n) (hm : n ≤ maxLen) (h : w.ownsRow base 113 6 v n (ndCells ts)) : ∃ a cap, v = .slice a n cap ∧ RdN w a ts ∧ (∀ p, a = some p → base ≤ p.block) := by
  subst hn
  rcases h.2 with ⟨hv, h0⟩ | ⟨g, cap, cur, hv, hb, hg, h1, h2, h3, h4⟩
  · have e : ts = [] := List.length_eq_zero_iff.1 h0
    subst e
    exact ⟨none, 0, hv, ⟨Nat.zero_le _, fun h => absurd rfl h⟩, fun p hp => by cases hp⟩
  · subst hv
    refine ⟨_, cap, rfl, ⟨hm, fun _ => ⟨g, 0, rfl, (Array.getElem?_eq_some_iff.1 hg).1, fun i hi => ?_⟩⟩, fun p hp => by cases hp; exact hb⟩
    obtain ⟨q0, q1, q2, q3, q4, q5⟩ := ndCells_at ts i hi
    rw [Nat.zero_add]
    exact ⟨(h.cellAt (i * 6) (by omega)).trans q0, (h.cellAt (i * 6 + 1) (by omega)).trans q1, (h.cellAt (i * 6 + 2) (by omega)).trans q2, (h.cellAt (i * 6 + 3) (by omega)).trans q3, (h.cellAt (i * 6 + 4) (by omega)).trans q4, (h.cellAt (i * 6 + 5) (by omega)).trans q5⟩
end Go.Proofs.YtiggkjkjfnlfkaaGreatDoor
