/-
  Several texts as one: PTree.
-/
import Derived.Test.YtelncekgjfpogahGreatDoorRunT34
import Derived.Test.YtelncekgjfpogahGreatDoorRunT10
import Derived.Test.YtelncekgjfpogahGreatDoorRunT19
import Derived.Test.YtelncekgjfpogahGreatDoorRunT11
namespace Go.Proofs.YtelncekgjfpogahGreatDoor
open Go.ChangeShapes Go.WideShapes Go.ChangeAt Go.RowKit Go.Lib
set_option linter.unusedVariables false
theorem play_new (ts : List M.Nd) (l63 : ts.length ≤ 63) (bt ot cap : Nat) (T : M.BT) (i : Nat) (hD : M.Den ts T i) (w : World) (hbt : bt < w.heap.size) (hct : ∀ j, j < ts.length → SixAt w bt (ot + j * 6) (M.nAt ts j)) (hs : T.size ≤ 1000) :
 Calls Tryz.prog 73 #[.slice none 0 0, .slice (some ⟨bt, ot, none⟩) ts.length cap, .int .i64 (i : Nat)] w fun e w' => ∃ a c, e = .returned (.slice a (M.lay T 0).length c) ∧ RdN w' a (M.lay T 0) ∧ (∀ p, a = some p → w.heap.size ≤ p.block) ∧ Below w.heap.size w w' := by
 refine (play_any ts l63 bt ot cap w.heap.size T i hD [] none 0 w hbt hct (fun e => by cases e) (World.ownsRow_nil _ _ _ _) (Nat.le_refl _) (by simpa using hs)).mono ?_
 rintro e w' ⟨g, c, rfl, ho, hg, _⟩
 rw [List.length_nil, Nat.zero_add, List.nil_append] at ho
 obtain ⟨a, cp, ea, hr, hn⟩ := own_rdN (M.lay_len T 0) (by unfold maxLen; omega) ho
 rw [List.length_nil, Nat.zero_add, ea, M.lay_len]
 refine ⟨a, cp, rfl, hr, hn, hg.os, hg.tape, hg.output, hg.size, fun k hk => hg.block k hk (fun e => by cases e)⟩
set_option maxHeartbeats 2000000 in
theorem ptree_any (a0 : Option Addr) (ts : List M.Nd) (cap : Nat) (m : Int) (w : World) (h : RdN w a0 ts) :
 Calls Tryz.prog 31 #[.slice a0 ts.length cap, .int .i64 m] w fun e w' => ∃ a c, e = .returned (.tuple #[.slice a (M.prunV ts m).length c, errV (M.treeF ts m).2]) ∧ RdN w' a (M.prunV ts m) ∧ (∀ p, a = some p → w.heap.size ≤ p.block) ∧ Below w.heap.size w w' := by
 have R := hide (reach_any a0 ts cap m w h)
 by_cases hz : (M.treeF ts m).2 = 0
 · obtain ⟨F, em⟩ := M.fair_nat hz
   have l0 := F.2.1
   have l63 := F.1
   obtain ⟨b0, off, rfl, hb0, hc⟩ := h.2 (by intro e; rw [e] at l0; simp at l0)
   have rv : M.rchV ts m = M.rch ts m.toNat ts.length := by unfold M.rchV; rw [if_pos hz]
   have pv : M.prunV ts m = M.lay (M.prn (M.vld m.toNat) (M.bt ts 0)) 0 := by unfold M.prunV; rw [if_pos hz]
   have SH := hide (fun W ra rc (hW : Below w.heap.size w W) (hr : Rd W ra (M.rch ts m.toNat ts.length)) => short_any b0 off ts cap m.toNat ra rc W (Nat.lt_of_lt_of_le hb0 hW.size) (fun i hi => (hc i hi).below hW hb0) F hr)
   have PL := hide (fun (sh : List M.Nd) (g c j : Nat) W (hl : sh.length = ts.length) (hg : g < W.heap.size) (hs : ∀ i, i < ts.length → SixAt W g (i * 6) (M.nAt sh i)) (hD : M.Den sh (M.prn (M.vld m.toNat) (M.bt ts 0)) j) => play_new sh (by omega) g 0 c _ j hD W hg (fun i hi => by rw [Nat.zero_add]; exact hs i (by omega)) (by have := (M.prn_size (M.bt ts 0) (M.vld m.toNat)).1; have := M.bt_size F; omega))
   rw [err_nil hz, rv] at R
   rw [err_nil hz, pv]
   clear hz F em h hc rv pv
   generalize M.rch ts m.toNat ts.length = RL at *
   generalize M.prn (M.vld m.toNat) (M.bt ts 0) = T at *
   go_enter Tryz.func31, Tryz.ntmps31
   go_wp2_with (first
    | (go_at_call 71; refine R.out.mono ?_; rintro e w1 ⟨ag, cg, rfl, hr1, hb1⟩; have HR1 := hide hr1; clear hr1)
    | (go_at_call 72; refine (SH.out _ _ _ hb1 HR1.out).mono ?_; rintro e w2 ⟨g, c, j, sh, rfl, hl, hg, hs, hD, hb2⟩; have P := PL.out sh g c j w2 hl hg hs hD; rw [hl] at P; have HP := hide P; have H2 := hide (below_on hb1 hb2); clear hs hD P hl)
    | (go_at_call 73; refine HP.out.mono ?_; rintro e w3 ⟨a, c3, rfl, hr3, ha3, hb3⟩; have HR3 := hide hr3; have HA3 := hide ha3; have H3 := hide (below_on H2.out hb3); clear hr3 ha3))
   go_ret2
   exact ⟨a, c3, rfl, HR3.out, fun p hp => Nat.le_trans H2.out.size (HA3.out p hp), H3.out⟩
 · have pv : M.prunV ts m = [] := by unfold M.prunV; rw [if_neg hz]
   have ES := hide (err_some hz)
   rw [err_some hz] at R
   rw [pv]
   clear hz pv h
   generalize errV (M.treeF ts m).2 = er at *
   generalize (M.treeF ts m).2 = tf at *
   generalize M.rchV ts m = RL at *
   go_enter Tryz.func31, Tryz.ntmps31
   go_wp2_with (go_at_call 71; refine R.out.mono ?_; rintro e w1 ⟨ag, cg, rfl, hr1, hb1⟩)
   go_ret2
   exact ⟨none, 0, by rw [ES.out]; rfl, ⟨Nat.zero_le _, fun h => absurd rfl h⟩, fun p hp => (by cases hp), hb1⟩
end Go.Proofs.YtelncekgjfpogahGreatDoor
