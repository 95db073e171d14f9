/-
  Several texts as one: Told, Error, MathBe, BTell, NdCells, Grown, BooLaid, SaCells.
-/
import Derived.Test.YtpblpfleiilehafGreatDoorRun15
import Derived.Test.YtpblpfleiilehafGreatDoorRun9
import Derived.Test.YtpblpfleiilehafGreatDoorRun8
import Derived.Test.YtpblpfleiilehafGreatDoorRun11
import Derived.Test.YtpblpfleiilehafGreatDoorRun12
import Derived.Test.YtpblpfleiilehafGreatDoorRun14
import Derived.Test.YtpblpfleiilehafGreatDoorRun3
import Derived.Deep.AppendLies
import Derived.OwnWalk
import Derived.Test.YtpblpfleiilehafGreatDoorRun7
namespace Go.Proofs.YtpblpfleiilehafGreatDoor
open Go.RowKit Go.Extern.Stop Go.Stop Go.Extern
set_option linter.unusedVariables false

/-- the variable errors.errorType -/
def Lays (w : World) : Prop := w.cell? ⟨0, 0, none⟩ = some (.iface 135 (.agg #[.pointer (some ⟨1, 27, none⟩)]))
theorem Lays.pos {w : World} (h : Lays w) : 0 < w.heap.size := by
  rcases Nat.eq_zero_or_pos w.heap.size with h0 | h1
  · unfold Lays at h; simp [World.cell?, h0] at h
  · exact h1
theorem Lays.below {w w' : World} (h : Lays w) (hb : Below w.heap.size w w') : Lays w' := (hb.cell (p := ⟨0, 0, none⟩) h.pos).trans h

set_option maxHeartbeats 4000000 in
theorem as_hit (c : Int) (t : Addr) (old : Value) (w : World) (hg : Lays w) (ht0 : w.cell? t = some old) (hf0 : w.frozen? t = false) :
    Calls Tryz.prog 52 #[.iface 61 (.int .i64 c), .iface 89 (.pointer (some t))] w fun ev w' => ev = .returned (.bool true) ∧ w' = ((((w.alloc (.cells #[.pointer (some t)] 89)).alloc (.cells #[.pointer (some ⟨1, 89, none⟩), .pointer (some ⟨w.heap.size, 0, none⟩), .int .u64 150] 115)).alloc (.cells #[.pointer (some ⟨1, 89, none⟩), .pointer (some ⟨w.heap.size, 0, none⟩), .int .u64 150] 115)).alloc (.cells #[.int .i64 c] 61)).setCell t (.int .i64 c) := by
  have H34 := @run_callFunc_extern Tryz.prog 81 _ (fun args => ReflectliteValue.unpack (args.getD 0 (.tuple #[]))) Tryz.func81 (by kernel_rfl) (by kernel_rfl) (by kernel_rfl) (by kernel_rfl)
  have H35 := @run_callFunc_extern Tryz.prog 82 _ (ReflectliteValue.methodAny (ReflectliteValue.valueError "reflectlite.Value.Type" 0) (fun t _ _ _ => ReflectliteType.toType t)) Tryz.func82 (by kernel_rfl) (by kernel_rfl) (by kernel_rfl) (by kernel_rfl)
  have H36 := @run_callFunc_extern Tryz.prog 83 _ (ReflectliteValue.method (ReflectliteValue.valueError "reflectlite.Value.IsNil" 0) ReflectliteValue.isNil) Tryz.func83 (by kernel_rfl) (by kernel_rfl) (by kernel_rfl) (by kernel_rfl)
  have H74 := @run_callFunc_extern Tryz.prog 142 _ (ReflectliteType.abiMethod fun t => do pure (.int .u8 (← Rtype.kind t))) Tryz.func142 (by kernel_rfl) (by kernel_rfl) (by kernel_rfl) (by kernel_rfl)
  have H84 := @run_callFunc_extern Tryz.prog 152 _ (ReflectliteType.method ReflectliteType.elem) Tryz.func152 (by kernel_rfl) (by kernel_rfl) (by kernel_rfl) (by kernel_rfl)
  have H85 := @run_callFunc_extern Tryz.prog 153 _ (ReflectliteType.relation "Implements" ReflectliteType.implements_) Tryz.func153 (by kernel_rfl) (by kernel_rfl) (by kernel_rfl) (by kernel_rfl)
  have H50 := @run_callFunc_extern Tryz.prog 100 _ ReflectliteType.typeOf Tryz.func100 (by kernel_rfl) (by kernel_rfl) (by kernel_rfl) (by kernel_rfl)
  have H82 := @run_callFunc_extern Tryz.prog 150 _ (ReflectliteType.relation "AssignableTo" ReflectliteType.assignableTo) Tryz.func150 (by kernel_rfl) (by kernel_rfl) (by kernel_rfl) (by kernel_rfl)
  have H51 := @run_callFunc_extern Tryz.prog 101 _ (ReflectliteValue.method (ReflectliteValue.valueError "reflectlite.Value.Elem" 0) ReflectliteValue.elem) Tryz.func101 (by kernel_rfl) (by kernel_rfl) (by kernel_rfl) (by kernel_rfl)
  have H52 := @run_callFunc_extern Tryz.prog 102 _ ReflectliteValue.set Tryz.func102 (by kernel_rfl) (by kernel_rfl) (by kernel_rfl) (by kernel_rfl)
  have tO := Tryz.typeOfE
  have mA := Tryz.methodAssignableTo
  have a25 := Tryz.assignableE
  have v25 := Tryz.valueOfE
  have f6 := Tryz.valueOfP
  have f7 := Tryz.typeP
  have mK := Tryz.methodKind
  have mE := Tryz.methodElem
  have mI := Tryz.methodImplements
  have k27 := Tryz.kindP
  have k25 := Tryz.kindE
  have e27 := Tryz.elemP
  have i25 := Tryz.implementsE
  have n8 := Tryz.isNilP ⟨w.heap.size, 0, none⟩ t ((w.alloc (.cells #[.pointer (some t)] 89)).alloc (.cells #[.pointer (some ⟨1, 89, none⟩), .pointer (some ⟨w.heap.size, 0, none⟩), .int .u64 150] 115)) (by simp)
  have hlt : 0 < w.heap.size := hg.pos
  have hg2 : ((w.alloc (.cells #[.pointer (some t)] 89)).alloc (.cells #[.pointer (some ⟨1, 89, none⟩), .pointer (some ⟨w.heap.size, 0, none⟩), .int .u64 150] 115)).cell? ⟨0, 0, none⟩ = some (.iface 135 (.agg #[.pointer (some ⟨1, 27, none⟩)])) := by
    rw [World.cell?_alloc_lt _ _ ⟨0, 0, none⟩ (by simp), World.cell?_alloc_lt _ _ ⟨0, 0, none⟩ hlt]; exact hg
  have htl : t.block < w.heap.size := by
    rcases Nat.lt_or_ge t.block w.heap.size with h | h
    · exact h
    · simp [World.cell?, Array.getElem?_eq_none h] at ht0
  have el := Tryz.elemVP ⟨w.heap.size, 0, none⟩ t (((w.alloc (.cells #[.pointer (some t)] 89)).alloc (.cells #[.pointer (some ⟨1, 89, none⟩), .pointer (some ⟨w.heap.size, 0, none⟩), .int .u64 150] 115)).alloc (.cells #[.pointer (some ⟨1, 89, none⟩), .pointer (some ⟨w.heap.size, 0, none⟩), .int .u64 150] 115)) (by rw [World.cell?_alloc_lt _ _ ⟨w.heap.size, 0, none⟩ (by simp; omega)]; simp)
  have st := Tryz.setE t ⟨w.heap.size + 1 + 1 + 1, 0, none⟩ c old ((((w.alloc (.cells #[.pointer (some t)] 89)).alloc (.cells #[.pointer (some ⟨1, 89, none⟩), .pointer (some ⟨w.heap.size, 0, none⟩), .int .u64 150] 115)).alloc (.cells #[.pointer (some ⟨1, 89, none⟩), .pointer (some ⟨w.heap.size, 0, none⟩), .int .u64 150] 115)).alloc (.cells #[.int .i64 c] 61))
    (by rw [World.cell?_alloc_at _ _ _ _ (by simp)]; rfl)
    (by rw [World.cell?_alloc_lt _ _ t (by simp; omega), World.cell?_alloc_lt _ _ t (by simp; omega), World.cell?_alloc_lt _ _ t (by simp; omega), World.cell?_alloc_lt _ _ t htl]; exact ht0)
    (by rw [World.frozen?_alloc_old _ _ t (by simp; omega), World.frozen?_alloc_old _ _ t (by simp; omega), World.frozen?_alloc_old _ _ t (by simp; omega), World.frozen?_alloc_old _ _ t (Nat.ne_of_lt htl)]; exact hf0)
  clear hg
  go_enter Tryz.func52, Tryz.ntmps52
  go_wp2
  refine wp_loop_rounds 1 ?_
  rw [rounds_succ]
  go_wp2
  go_ret
  exact ⟨rfl, rfl⟩

end Go.Proofs.YtpblpfleiilehafGreatDoor

namespace Go.Proofs.YtpblpfleiilehafGreatDoor
open Go.ChangeShapes Go.WideShapes Go.ChangeAt Go.RowKit
set_option linter.unusedVariables false

theorem told_nil (w : World) : Calls Tryz.prog 28 #[.nilIface] w fun e w' => e = .returned (.int .i64 0) ∧ w' = w := by
  go_enter Tryz.func28, Tryz.ntmps28
  go_wp2
  go_ret
  exact ⟨rfl, rfl⟩

theorem told_some (c : Int) (w : World) (hg : Lays w) : Calls Tryz.prog 28 #[.iface 61 (.int .i64 c)] w fun e w' => e = .returned (.int .i64 c) ∧ Below w.heap.size w w' := by
  have hgA : Lays (w.alloc (.cells #[.int .i64 0] 61)) := hg.below ((Below.refl _ w).alloc (Nat.le_refl _) _)
  have htA : (w.alloc (.cells #[.int .i64 0] 61)).cell? ⟨w.heap.size, 0, none⟩ = some (.int .i64 0) := by simp
  have hfA : (w.alloc (.cells #[.int .i64 0] 61)).frozen? ⟨w.heap.size, 0, none⟩ = false := by simp
  have A := as_hit c ⟨w.heap.size, 0, none⟩ _ _ hgA htA hfA
  have HA : Hid (Calls Tryz.prog 52 #[.iface 61 (.int .i64 c), .iface 89 (.pointer (some ⟨w.heap.size, 0, none⟩))] (w.alloc (.cells #[.int .i64 0] 61)) fun ev w' => ev = .returned (.bool true) ∧ w'.cell? ⟨w.heap.size, 0, none⟩ = some (.int .i64 c) ∧ Below w.heap.size w w') := by
    refine A.mono ?_
    rintro e w' ⟨rfl, rfl⟩
    refine ⟨rfl, ?_, ?_⟩
    · refine World.cell?_setCell_same (u := .int .i64 0) _ _ _ ?_
      rw [World.cell?_alloc_lt _ _ _ (by simp; omega), World.cell?_alloc_lt _ _ _ (by simp; omega), World.cell?_alloc_lt _ _ _ (by simp; omega), World.cell?_alloc_lt _ _ _ (by simp)]
      exact htA
    · exact Below.setCell (Below.alloc (Below.alloc (Below.alloc (Below.alloc (Below.alloc (Below.refl _ w) (Nat.le_refl _) _) (by simp) _) (by simp; omega) _) (by simp; omega) _) (by simp; omega) _) (Nat.le_refl _) _
  clear A hgA htA hfA hg
  go_enter Tryz.func28, Tryz.ntmps28
  go_wp2_with (go_at_call 52; refine HA.out.mono ?_; rintro e w1 ⟨rfl, hc1, hb1⟩)
  go_ret
  exact ⟨rfl, hb1⟩

theorem told_any (c : Int) (w : World) (hg : Lays w) : Calls Tryz.prog 28 #[errV c] w fun e w' => e = .returned (.int .i64 c) ∧ Below w.heap.size w w' := by
  by_cases h : c = 0
  · subst h
    rw [err_nil rfl]
    exact (told_nil w).mono fun e w' ⟨h1, h2⟩ => ⟨h1, by rw [h2]; exact Below.refl _ _⟩
  · rw [err_some h]
    exact told_some c w hg

theorem error_any (c d : Int) (w : World) (hg : Lays w) : Calls Tryz.prog 7 #[errV c, .int .i64 d] w fun e w' => e = .returned (.bool (c == d)) ∧ Below w.heap.size w w' := by
  have T := hide (told_any c w hg)
  clear hg
  generalize errV c = ev at *
  go_enter Tryz.func7, Tryz.ntmps7
  go_wp2_with (go_at_call 28; refine T.out.mono ?_; rintro e w1 ⟨rfl, hb1⟩)
  go_ret
  exact ⟨rfl, hb1⟩

end Go.Proofs.YtpblpfleiilehafGreatDoor

namespace Go.Proofs.YtpblpfleiilehafGreatDoor
set_option linter.unusedVariables false

theorem M.evalG_in {g : M.Gv} {r : List Int} (h : M.standF g r = 0) : -12000000000 ≤ M.evalG g r ∧ M.evalG g r ≤ 12000000000 := by
  obtain ⟨G, _, _⟩ := M.stand_ok h
  have t0 := G.t0
  have t12 := G.t12
  have sb := M.sum_bound (l := M.eachL g r) (ws := M.gs g) (M.gt g).length fun i hi => ⟨(M.each_in h hi).1, (M.each_in h hi).2, (M.wt_at G hi).1, (M.wt_at G hi).2⟩
  have ap := M.all_pos (ws := M.gs g) (M.gt g).length fun i hi => M.wt_at G hi
  unfold M.evalG
  rw [if_pos h]
  unfold M.together
  rw [M.each_len]
  by_cases w1 : M.gw g = 1
  · rw [if_pos w1]; omega
  · rw [if_neg w1]
    by_cases w2 : M.gw g = 2
    · rw [if_pos w2]
      exact M.ediv_bd _ _ 12000000000 (by omega) (by omega) (by omega) (by omega)
    · rw [if_neg w2]
      obtain ⟨⟨j, hj, e⟩, _⟩ := M.best_spec (l := M.eachL g r) (ws := M.gs g) (fun i hi => (M.wt_at G (by rw [M.each_len] at hi; exact hi)).1) (M.gt g).length t0 (by rw [M.each_len]; exact Nat.le_refl _)
      rw [e]
      have := M.each_in h hj
      omega

end Go.Proofs.YtpblpfleiilehafGreatDoor

namespace Go.Proofs.YtpblpfleiilehafGreatDoor
open Go.ChangeShapes Go.WideShapes Go.ChangeAt Go.RowKit Go.Lib
set_option linter.unusedVariables false

theorem btells_walk (hF : BooFitGives) (hR : BooRestGives) (hW : BooWrongGives) (hB : RBoostGives) (a : Option Addr) (xs : List Sx) (ca : Nat) (m r d s : Int) (G : Gr) (w : World) (h : RdL w a xs) (hg : RdG w G) (hl : Lays w) :
    Calls Tryz.prog 4 #[.slice a xs.length ca, .int .i64 m, .int .i64 r, .int .i64 d, .int .i64 s, G.v] w fun r w' => r = .returned (.bool true) ∧ Below w.heap.size w w' := by
  have GD : M.restF G.m (sms xs) = 0 → M.Good G.m ∧ M.GoodS (sms xs) G.f.toNat ∧ ((G.f.toNat : Nat) : Int) = G.f := fun hz => by
    unfold M.restF at hz
    by_cases q : M.groveF G.m = 0
    · rw [if_neg (by simp [q])] at hz
      obtain ⟨g1, _, g3, _⟩ := M.sam_ok hz
      exact ⟨(M.good_iff _).1 q, g1, g3⟩
    · rw [if_pos q] at hz; exact absurd hz q
  have RVV : M.restF G.m (sms xs) = 0 → ∀ k (hk : k < xs.length), (M.restV G.m (sms xs)).getD k 0 = xs[k].2.2.2 - M.evalG G.m xs[k].2.1 := fun hz k hk => by
    unfold M.restV
    rw [if_pos hz, M.getD_at (by rw [List.length_map, sms_len]; exact hk), List.getElem_map]
    have : (sms xs)[k]'(by rw [sms_len]; exact hk) = sm xs[k] := by unfold sms; rw [List.getElem_map]
    rw [this]
    rfl
  have STD : M.restF G.m (sms xs) = 0 → ∀ k (hk : k < xs.length), M.standF G.m xs[k].2.1 = 0 := fun hz k hk => by
    obtain ⟨g1, g2, g3⟩ := GD hz
    obtain ⟨z1, z2, _, _⟩ := g2.each (sm xs[k]) (List.mem_map.2 ⟨xs[k], List.getElem_mem hk, rfl⟩)
    exact M.stand_of g1 z1 (by have z2' : xs[k].2.1.length = G.f.toNat := z2; show ((xs[k].2.1.length : Nat) : Int) = G.f; omega)
  refine btells_core a xs ca (M.samF (sms xs) m).1 (M.samF (sms xs) G.f).1 G (M.booG (sms xs) m r d s) m r d s (M.samF (sms xs) m).2 (M.samF (sms xs) G.f).2 (M.booF (sms xs) m r d s) (M.groveF G.m) (M.restF G.m (sms xs)) (M.wrgG G.m (sms xs)) (M.restV G.m (sms xs)) w h hg ?_ ?_ ?_ ?_ ?_ ?_ ?_ ?_ ?_ ?_ ?_ ?_ ?_ ?_ ?_ ?_ ?_ ?_
  · intro W hb
    exact (rsamples_any a xs ca m W (h.below hb)).mono (by rintro r w' ⟨rfl, rfl⟩; exact ⟨rfl, Below.refl _ _⟩)
  · refine ⟨fun he => ?_, fun he hr => ?_, fun he hr => ?_⟩
    · unfold M.booF; rw [if_pos he]
    · unfold M.booF; rw [if_neg (by simp [he]), if_pos hr]
    · unfold M.booF; rw [if_neg (by simp [he]), if_neg hr]
  · intro hz
    unfold M.booG; rw [if_neg hz]
  · exact fun hz W hb => hB a xs ca m r d s W (h.below hb) hz
  · exact fun W hb => hF a xs ca m r d s W (h.below hb)
  · intro c W hb
    exact (error_any c c W (hl.below hb)).mono (by rintro r w' ⟨rfl, h2⟩; exact ⟨by rw [beq_self_eq_true], h2⟩)
  · exact fun P Q W h1 h2 h3 h4 => grovesame_any P Q W h3 h4 (h1.trans h2.symm)
  · exact fun W hb => rgrove_any G W (hg.below hb)
  · intro W hb
    exact (rsamples_any a xs ca G.f W (h.below hb)).mono (by rintro r w' ⟨rfl, rfl⟩; exact ⟨rfl, Below.refl _ _⟩)
  · refine ⟨fun hz => ?_, fun hz => ?_⟩
    · unfold M.restF; rw [if_pos hz]
    · unfold M.restF; rw [if_neg (by simp [hz])]; rfl
  · intro hz
    exact ⟨by unfold M.restV; rw [if_neg hz], by unfold M.wrgG; rw [if_neg hz]⟩
  · intro hz
    refine ⟨by unfold M.restV; rw [if_pos hz, List.length_map, sms_len], ?_, by unfold M.wrgG; rw [if_pos hz]⟩
    have := (GD hz).2.1.le
    rw [sms_len] at this; exact this
  · intro hz k hk W hb
    have st := STD hz k hk
    have rx : Rd W xs[k].1 xs[k].2.1 := (h.below hb).2.1 xs[k] (List.getElem_mem hk)
    refine (reachg_any G xs[k].1 xs[k].2.1 xs[k].2.2.1 W (hg.below hb) rx st).mono ?_
    rintro e w' ⟨ag, cg, rfl, hr, hb'⟩
    refine ⟨ag, _, cg, rfl, hb', fun W' hb2 => ?_⟩
    have gd := (GD hz).1
    have ev : xs[k].2.2.2 - (M.restV G.m (sms xs)).getD k 0 = M.together G.w G.ws (M.eachL G.m xs[k].2.1) := by
      rw [RVV hz k hk]
      unfold M.evalG
      rw [if_pos st]
      show _ - (_ - M.together G.w G.ws (M.eachL G.m xs[k].2.1)) = _
      omega
    rw [ev]
    refine rtog_any G ag (M.eachL G.m xs[k].2.1) cg W' ((hg.below hb).below (hb'.trans (hb2.mono hb'.size))) (hr.below hb2) gd (by rw [M.each_len]; exact tl_len G.ks) (fun i hi => ?_)
    exact M.each_in st (by rw [M.each_len] at hi; exact hi)
  · intro hz k hk
    rw [RVV hz k hk]
    have e1 := M.evalG_in (STD hz k hk)
    have t1 := ((GD hz).2.1.each (sm xs[k]) (List.mem_map.2 ⟨xs[k], List.getElem_mem hk, rfl⟩)).2.2.1
    have t2 : -1000 ≤ xs[k].2.2.2 ∧ xs[k].2.2.2 ≤ 1000 := t1
    omega
  · intro hz k hk
    exact ((GD hz).2.1.each (sm xs[k]) (List.mem_map.2 ⟨xs[k], List.getElem_mem hk, rfl⟩)).2.2.1
  · exact fun W hb => hR G a xs ca W (hg.below hb) (h.below hb)
  · exact fun W hb => hW G a xs ca W (hg.below hb) (h.below hb)
  · intro pa pc qa qc W h1 h2
    exact (ints_any pa qa _ _ pc qc W h1 h2).mono (by rintro r w' ⟨rfl, hb⟩; exact ⟨by simp, hb⟩)

end Go.Proofs.YtpblpfleiilehafGreatDoor

namespace Go.Proofs.YtpblpfleiilehafGreatDoor
open Go.ChangeShapes Go.WideShapes Go.ChangeAt Go.RowKit
set_option linter.unusedVariables false

theorem infoN : (Tryz.prog.info? 72).map (fun i => (i.zero, i.size, i.bytes)) = some (some (.agg #[.int .i64 0, .int .i64 0, .int .i64 0, .int .i64 0, .bool false, .int .i64 0]), 6, 48) := by kernel_rfl
def ndCells (ts : List M.Nd) : List Value := ts.flatMap fun n => [.int .i64 (M.nf n), .int .i64 (M.nc n), .int .i64 (M.nl n), .int .i64 (M.nr n), .bool (M.ns n), .int .i64 (M.nv n)]
theorem ndCells_cons (n : M.Nd) (t : List M.Nd) : ndCells (n :: t) = .int .i64 (M.nf n) :: .int .i64 (M.nc n) :: .int .i64 (M.nl n) :: .int .i64 (M.nr n) :: .bool (M.ns n) :: .int .i64 (M.nv n) :: ndCells t := rfl
theorem ndCells_len (ts : List M.Nd) : (ndCells ts).length = ts.length * 6 := by
  induction ts with
  | nil => rfl
  | cons x t ih => rw [ndCells_cons]; simp only [List.length_cons, ih]; omega
theorem ndCells_one (ts : List M.Nd) : ∀ v ∈ ndCells ts, v.oneCell' = true := by
  intro v hv
  simp only [ndCells, List.mem_flatMap] at hv
  obtain ⟨s, _, hs⟩ := hv
  simp only [List.mem_cons, List.not_mem_nil, or_false] at hs
  rcases hs with rfl | rfl | rfl | rfl | rfl | rfl <;> rfl
theorem ndCells_at : ∀ (ts : List M.Nd) (i : Nat), i < ts.length → (ndCells ts)[i * 6]? = some (.int .i64 (M.nf (M.nAt ts i))) ∧ (ndCells ts)[i * 6 + 1]? = some (.int .i64 (M.nc (M.nAt ts i))) ∧ (ndCells ts)[i * 6 + 2]? = some (.int .i64 (M.nl (M.nAt ts i))) ∧ (ndCells ts)[i * 6 + 3]? = some (.int .i64 (M.nr (M.nAt ts i))) ∧ (ndCells ts)[i * 6 + 4]? = some (.bool (M.ns (M.nAt ts i))) ∧ (ndCells ts)[i * 6 + 5]? = some (.int .i64 (M.nv (M.nAt ts i)))
  | [], i, h => by simp at h
  | s :: t, 0, h => ⟨rfl, rfl, rfl, rfl, rfl, rfl⟩
  | s :: t, i + 1, h => by
    have := ndCells_at t i (by simpa using h)
    have e : M.nAt (s :: t) (i + 1) = M.nAt t i := by simp [M.nAt]
    rw [ndCells_cons, e, show (i + 1) * 6 = i * 6 + 1 + 1 + 1 + 1 + 1 + 1 by omega]
    simpa using this
theorem nd_src {w : World} {b off : Nat} {ts : List M.Nd} (hc : ∀ i, i < ts.length → SixAt w b (off + i * 6) (M.nAt ts i)) : ∀ j u, (ndCells ts)[j]? = some u → w.cell? ((⟨b, off, none⟩ : Addr).add j) = some u := by
  intro j u hj
  have hl : j < ts.length * 6 := by
    have := (List.getElem?_eq_some_iff.1 hj).1
    rwa [ndCells_len] at this
  have hi : j / 6 < ts.length := by omega
  obtain ⟨h0, h1, h2, h3, h4, h5⟩ := hc _ hi
  obtain ⟨q0, q1, q2, q3, q4, q5⟩ := ndCells_at ts _ hi
  rw [add_flat]
  rcases (show j = j / 6 * 6 ∨ j = j / 6 * 6 + 1 ∨ j = j / 6 * 6 + 2 ∨ j = j / 6 * 6 + 3 ∨ j = j / 6 * 6 + 4 ∨ j = j / 6 * 6 + 5 by omega) with e | e | e | e | e | e
  · rw [e] at hj ⊢; rw [q0] at hj; rw [← hj]; simpa [Nat.mul_div_cancel] using h0
  · rw [e] at hj ⊢; rw [show (j / 6 * 6 + 1) = j / 6 * 6 + 1 from rfl] at hj; rw [q1] at hj; rw [← hj, ← Nat.add_assoc]; exact h1
  · rw [e] at hj ⊢; rw [q2] at hj; rw [← hj, ← Nat.add_assoc]; exact h2
  · rw [e] at hj ⊢; rw [q3] at hj; rw [← hj, ← Nat.add_assoc]; exact h3
  · rw [e] at hj ⊢; rw [q4] at hj; rw [← hj, ← Nat.add_assoc]; exact h4
  · rw [e] at hj ⊢; rw [q5] at hj; rw [← hj, ← Nat.add_assoc]; exact h5
theorem own_rdN {w : World} {base n : Nat} {v : Value} {ts : List M.Nd} (hn : ts.length = n) (hm : n ≤ maxLen) (h : w.ownsRow base 72 6 v n (ndCells ts)) : ∃ a cap, v = .slice a n cap ∧ RdN w a ts ∧ (∀ p, a = some p → base ≤ p.block) := by
  subst hn
  rcases h.2 with ⟨hv, h0⟩ | ⟨g, cap, cur, hv, hb, hg, h1, h2, h3, h4⟩
  · have e : ts = [] := List.length_eq_zero_iff.1 h0
    subst e
    exact ⟨none, 0, hv, ⟨Nat.zero_le _, fun h => absurd rfl h⟩, fun p hp => by cases hp⟩
  · subst hv
    refine ⟨_, cap, rfl, ⟨hm, fun _ => ⟨g, 0, rfl, (Array.getElem?_eq_some_iff.1 hg).1, fun i hi => ?_⟩⟩, fun p hp => by cases hp; exact hb⟩
    obtain ⟨q0, q1, q2, q3, q4, q5⟩ := ndCells_at ts i hi
    rw [Nat.zero_add]
    exact ⟨(h.cellAt (i * 6) (by omega)).trans q0, (h.cellAt (i * 6 + 1) (by omega)).trans q1, (h.cellAt (i * 6 + 2) (by omega)).trans q2, (h.cellAt (i * 6 + 3) (by omega)).trans q3, (h.cellAt (i * 6 + 4) (by omega)).trans q4, (h.cellAt (i * 6 + 5) (by omega)).trans q5⟩

end Go.Proofs.YtpblpfleiilehafGreatDoor

namespace Go.Proofs.YtpblpfleiilehafGreatDoor
open Go.ChangeShapes Go.WideShapes Go.ChangeAt Go.RowKit
set_option linter.unusedVariables false

theorem ndCells_app (a b : List M.Nd) : ndCells (a ++ b) = ndCells a ++ ndCells b := by unfold ndCells; rw [List.flatMap_append]
theorem ndCells_set2 : ∀ (ts : List M.Nd) (i : Nat), i < ts.length → ∀ l r : Int, ((ndCells ts).set (i * 6 + 2) (.int .i64 l)).set (i * 6 + 3) (.int .i64 r) = ndCells (ts.set i (M.nf (M.nAt ts i), M.nc (M.nAt ts i), l, r, M.ns (M.nAt ts i), M.nv (M.nAt ts i)))
  | [], i, h, l, r => by simp at h
  | n :: t, 0, h, l, r => rfl
  | n :: t, i + 1, h, l, r => by
    have ih := ndCells_set2 t i (by simpa using h) l r
    have e : M.nAt (n :: t) (i + 1) = M.nAt t i := by simp [M.nAt]
    rw [e, List.set_cons_succ, ndCells_cons, ndCells_cons, ← ih, show (i + 1) * 6 + 2 = (i * 6 + 2) + 1 + 1 + 1 + 1 + 1 + 1 by omega, show (i + 1) * 6 + 3 = (i * 6 + 3) + 1 + 1 + 1 + 1 + 1 + 1 by omega]
    simp only [List.set_cons_succ]

theorem ndCells_setL : ∀ (ts : List M.Nd) (i : Nat), i < ts.length → ∀ l : Int, (ndCells ts).set (i * 6 + 2) (.int .i64 l) = ndCells (ts.set i (M.nf (M.nAt ts i), M.nc (M.nAt ts i), l, M.nr (M.nAt ts i), M.ns (M.nAt ts i), M.nv (M.nAt ts i)))
  | [], i, h, l => by simp at h
  | n :: t, 0, h, l => rfl
  | n :: t, i + 1, h, l => by
    have ih := ndCells_setL t i (by simpa using h) l
    have e : M.nAt (n :: t) (i + 1) = M.nAt t i := by simp [M.nAt]
    rw [e, List.set_cons_succ, ndCells_cons, ndCells_cons, ← ih, show (i + 1) * 6 + 2 = (i * 6 + 2) + 1 + 1 + 1 + 1 + 1 + 1 by omega]
    simp only [List.set_cons_succ]
theorem ndCells_setR : ∀ (ts : List M.Nd) (i : Nat), i < ts.length → ∀ r : Int, (ndCells ts).set (i * 6 + 3) (.int .i64 r) = ndCells (ts.set i (M.nf (M.nAt ts i), M.nc (M.nAt ts i), M.nl (M.nAt ts i), r, M.ns (M.nAt ts i), M.nv (M.nAt ts i)))
  | [], i, h, r => by simp at h
  | n :: t, 0, h, r => rfl
  | n :: t, i + 1, h, r => by
    have ih := ndCells_setR t i (by simpa using h) r
    have e : M.nAt (n :: t) (i + 1) = M.nAt t i := by simp [M.nAt]
    rw [e, List.set_cons_succ, ndCells_cons, ndCells_cons, ← ih, show (i + 1) * 6 + 3 = (i * 6 + 3) + 1 + 1 + 1 + 1 + 1 + 1 by omega]
    simp only [List.set_cons_succ]
theorem grown_trans {a b c : World} {r s : Option Nat} (h : a.grownBy b r) (k : b.grownBy c s) (hs : s = r ∨ ∀ q, s = some q → a.heap.size ≤ q) : a.grownBy c r :=
  ⟨k.os.trans h.os, k.tape.trans h.tape, k.output.trans h.output, Nat.le_trans h.size k.size, fun q hq hn => (k.block q (Nat.lt_of_lt_of_le hq h.size) (fun e => by
    rcases hs with q1 | q1
    · exact hn (by rw [e, q1])
    · have := q1 q e.symm; omega)).trans (h.block q hq hn)⟩
theorem grown_drew {a b : World} {r : Option Nat} (h : a.grownBy b r) : a.grownBy b.drew r := ⟨h.os, h.tape, h.output, h.size, h.block⟩
theorem grown_set {W : World} {g o : Nat} {u : Value} : W.grownBy (W.setCell ⟨g, o, none⟩ u) (some g) :=
  ⟨rfl, rfl, rfl, by simp, fun q hq hn => Below.heap_setCell _ _ _ _ (fun e => hn (by rw [e]))⟩
theorem grown_undrew {a b : World} {r : Option Nat} (h : a.drew.grownBy b r) : a.grownBy b r := ⟨h.os, h.tape, h.output, h.size, h.block⟩
theorem grown_of {a b : World} (h : Below a.heap.size a b) (r : Option Nat) : a.grownBy b r := ⟨h.os, h.tape, h.output, h.size, fun k hk _ => h.block k hk⟩
theorem nAt_snoc (O : List M.Nd) (n : M.Nd) (C : List M.Nd) : M.nAt (O ++ n :: C) O.length = n := by unfold M.nAt; simp [List.getD]
theorem set_snoc (O : List M.Nd) (n n' : M.Nd) (C : List M.Nd) : (O ++ n :: C).set O.length n' = O ++ n' :: C := by
  rw [List.set_append_right _ _ (Nat.le_refl _), Nat.sub_self, List.set_cons_zero]
theorem own_low {w : World} {base base' e size n : Nat} {v : Value} {l : List Value} (hb : base' ≤ base) (h : w.ownsRow base e size v n l) : w.ownsRow base' e size v n l := by
  refine ⟨h.1, ?_⟩
  rcases h.2 with h0 | ⟨g, cap, cur, hv, hg, rest⟩
  · exact .inl h0
  · exact .inr ⟨g, cap, cur, hv, by omega, rest⟩

end Go.Proofs.YtpblpfleiilehafGreatDoor

namespace Go.Proofs.YtpblpfleiilehafGreatDoor
open Go.ChangeShapes Go.WideShapes Go.ChangeAt Go.RowKit Go.Lib
set_option linter.unusedVariables false

structure BS (w : World) (gb : Nat) (m : Int) (y : Value) (x : Value) (C : List Tc) (W : World) : Prop where
  c0 : W.cell? ⟨gb, 0, none⟩ = some (.int .i64 m)
  c1 : W.cell? ⟨gb, 1, none⟩ = some (.int .i64 2)
  c2 : W.cell? ⟨gb, 2, none⟩ = some y
  c3 : W.cell? ⟨gb, 3, none⟩ = some x
  fr : ∀ i, W.frozen? ⟨gb, i, none⟩ = false
  lt : gb < W.heap.size
  ge : w.heap.size ≤ gb
  own : W.ownsRow (gb + 1) 23 1 x C.length (C.map tV)
  trees : ∀ i (h : i < C.length), W.ownsRow (gb + 1) 72 6 (tV C[i]) C[i].2.1.length (ndCells C[i].2.1)
  other : ∀ i (h : i < C.length), (tV C[i]).ownBlock ≠ none ∧ (tV C[i]).ownBlock ≠ x.ownBlock
  apart : ∀ i j (hi : i < C.length) (hj : j < C.length), i ≠ j → (tV C[i]).ownBlock ≠ (tV C[j]).ownBlock
  below : Below w.heap.size w W
theorem BS.up {w : World} {gb : Nat} {m : Int} {y x : Value} {C : List Tc} {W W' : World} (h : BS w gb m y x C W) (hb : Below W.heap.size W W') : BS w gb m y x C W' :=
  ⟨(hb.cell (p := ⟨gb, 0, none⟩) h.lt).trans h.c0, (hb.cell (p := ⟨gb, 1, none⟩) h.lt).trans h.c1, (hb.cell (p := ⟨gb, 2, none⟩) h.lt).trans h.c2, (hb.cell (p := ⟨gb, 3, none⟩) h.lt).trans h.c3, fun i => (hb.frozen (p := ⟨gb, i, none⟩) h.lt).trans (h.fr i), Nat.lt_of_lt_of_le h.lt hb.size, h.ge, own_up h.own hb, fun i hi => own_up (h.trees i hi) hb, h.other, h.apart, below_on h.below hb⟩
theorem BS.xb {w : World} {gb : Nat} {m : Int} {y x : Value} {C : List Tc} {W : World} (h : BS w gb m y x C W) : x.ownBlock ≠ some gb := fun e => by have := (h.own.lt gb e).1; omega
theorem own_ne_none {v : Value} {g : Nat} (h : v.ownBlock = some g) : v.ownBlock ≠ none := by rw [h]; exact fun e => by cases e
/-- one tree more: laid behind those that are there, and the slice stored -/
theorem BS.more {w : World} {gb : Nat} {m : Int} {y x : Value} {C : List Tc} {W : World} (h : BS w gb m y x C W) {t : Tc} {q : Nat} (ht : W.ownsRow (gb + 1) 72 6 (tV t) t.2.1.length (ndCells t.2.1)) (hq : (tV t).ownBlock = some q) (hx : x.ownBlock ≠ some q) (ha : ∀ i (hi : i < C.length), (tV C[i]).ownBlock ≠ some q)
    {o : Obj} {w5 : World} {g cap : Nat} (hown : w5.ownsRow (gb + 1) 23 1 (.slice (some ⟨g, 0, none⟩) (C.length + 1) cap) (C.length + 1) (C.map tV ++ [tV t])) (hgrow : (W.alloc o).grownBy w5 x.ownBlock) (hat : x.ownBlock = some g ∨ g = W.heap.size + 1) :
    (w5.cell? ⟨gb, 3, none⟩ = some x ∧ w5.frozen? ⟨gb, 3, none⟩ = false) ∧ BS w gb m y (.slice (some ⟨g, 0, none⟩) (C.length + 1) cap) (C ++ [t]) (w5.setCell ⟨gb, 3, none⟩ (.slice (some ⟨g, 0, none⟩) (C.length + 1) cap)) := by
  have hgr : W.grownBy w5 x.ownBlock := grown_trans (World.grownBy_alloc W o x.ownBlock) hgrow (.inl rfl)
  have xb := h.xb
  have cf : ∀ i, w5.cell? ⟨gb, i, none⟩ = W.cell? ⟨gb, i, none⟩ := fun i => hgr.cell_far ⟨gb, i, none⟩ h.lt (fun e => xb e.symm)
  have ff : ∀ i, w5.frozen? ⟨gb, i, none⟩ = W.frozen? ⟨gb, i, none⟩ := fun i => hgr.frozen_far ⟨gb, i, none⟩ h.lt (fun e => xb e.symm)
  have gp : gb + 1 ≤ g := (hown.lt g rfl).1
  have ob : (Value.slice (some ⟨g, 0, none⟩) (C.length + 1) cap).ownBlock = some g := rfl
  have ne : ∀ {v : Value} {q : Nat}, v.ownBlock = some q → gb + 1 ≤ q → v.ownBlock ≠ some gb := fun hv hq e => by rw [hv] at e; cases e; omega
  have kt : ∀ {v : Value} {n : Nat} {l : List Value}, W.ownsRow (gb + 1) 72 6 v n l → v.ownBlock ≠ x.ownBlock → v.ownBlock ≠ none → (w5.setCell ⟨gb, 3, none⟩ (.slice (some ⟨g, 0, none⟩) (C.length + 1) cap)).ownsRow (gb + 1) 72 6 v n l := fun {v n l} hv h1 h2 => by
    have k1 := hv.kept hgr (.inr h1)
    refine k1.kept grown_set (.inr fun e => ?_)
    have := (hv.lt gb e).1
    omega
  have fresh : ∀ {v : Value} {n : Nat} {l : List Value}, W.ownsRow (gb + 1) 72 6 v n l → v.ownBlock ≠ x.ownBlock → v.ownBlock ≠ some g := fun {v n l} hv h1 e => by
    rcases hat with q1 | q1
    · exact h1 (e.trans q1.symm)
    · have := (hv.lt g e).2; omega
  have len : (C ++ [t]).length = C.length + 1 := by simp
  refine ⟨⟨(cf 3).trans h.c3, (ff 3).trans (h.fr 3)⟩, ⟨?_, ?_, ?_, ?_, ?_, ?_, h.ge, ?_, ?_, ?_, ?_, ?_⟩⟩
  · rw [World.cell?_setCell_other _ _ _ _ (by intro e; cases e)]; exact (cf 0).trans h.c0
  · rw [World.cell?_setCell_other _ _ _ _ (by intro e; cases e)]; exact (cf 1).trans h.c1
  · rw [World.cell?_setCell_other _ _ _ _ (by intro e; cases e)]; exact (cf 2).trans h.c2
  · exact World.cell?_setCell_same (u := x) _ _ _ ((cf 3).trans h.c3)
  · intro i; simpa using (ff i).trans (h.fr i)
  · have := hgr.size; have := h.lt; simp; omega
  · rw [len, List.map_append]
    exact hown.kept grown_set (.inr fun e => by rw [ob] at e; cases e; omega)
  · intro i hi
    by_cases c : i < C.length
    · rw [show (C ++ [t])[i] = C[i] from List.getElem_append_left c]
      exact kt (h.trees i c) (h.other i c).2 (h.other i c).1
    · have ei : i = C.length := by rw [len] at hi; omega
      subst ei
      rw [show (C ++ [t])[C.length]'hi = t by simp]
      exact kt ht (fun e => hx (e.symm.trans hq)) (own_ne_none hq)
  · intro i hi
    rw [ob]
    by_cases c : i < C.length
    · rw [show (C ++ [t])[i] = C[i] from List.getElem_append_left c]
      exact ⟨(h.other i c).1, fresh (h.trees i c) (h.other i c).2⟩
    · have ei : i = C.length := by rw [len] at hi; omega
      subst ei
      rw [show (C ++ [t])[C.length]'hi = t by simp]
      exact ⟨own_ne_none hq, fresh ht (fun e => hx (e.symm.trans hq))⟩
  · intro i j hi hj hij
    rw [len] at hi hj
    by_cases c : i < C.length
    · by_cases d : j < C.length
      · rw [show (C ++ [t])[i] = C[i] from List.getElem_append_left c, show (C ++ [t])[j] = C[j] from List.getElem_append_left d]
        exact h.apart i j c d hij
      · have ej : j = C.length := by omega
        subst ej
        rw [show (C ++ [t])[i] = C[i] from List.getElem_append_left c, show (C ++ [t])[C.length]'(by rw [len]; omega) = t by simp, hq]
        exact ha i c
    · have ei : i = C.length := by omega
      subst ei
      have d : j < C.length := by omega
      rw [show (C ++ [t])[j] = C[j] from List.getElem_append_left d, show (C ++ [t])[C.length]'(by rw [len]; omega) = t by simp, hq]
      exact fun e => ha j d e.symm
  · exact (h.below.grown hgr h.below.size (fun k hk => by have := (h.own.lt k hk).1; have := h.ge; omega)).setCell (p := ⟨gb, 3, none⟩) h.ge _

end Go.Proofs.YtpblpfleiilehafGreatDoor

namespace Go.Proofs.YtpblpfleiilehafGreatDoor
open Go.ChangeShapes Go.WideShapes Go.ChangeAt Go.RowKit Go.Lib
set_option linter.unusedVariables false

/-! ### samples as cells -/
def saCells (xs : List Sx) : List Value := xs.flatMap fun x => [sxV x, .int .i64 x.2.2.2]
theorem saCells_snoc (xs : List Sx) (x : Sx) : saCells (xs ++ [x]) = saCells xs ++ [sxV x, .int .i64 x.2.2.2] := by simp [saCells]
theorem saCells_at : ∀ (xs : List Sx) (i : Nat) (h : i < xs.length), (saCells xs)[i * 2]? = some (sxV xs[i]) ∧ (saCells xs)[i * 2 + 1]? = some (.int .i64 xs[i].2.2.2)
  | [], i, h => by simp at h
  | x :: t, 0, h => ⟨rfl, rfl⟩
  | x :: t, i + 1, h => by
    have := saCells_at t i (by simpa using h)
    have e : saCells (x :: t) = sxV x :: .int .i64 x.2.2.2 :: saCells t := rfl
    rw [e, show (i + 1) * 2 = i * 2 + 1 + 1 by omega]
    simpa using this
theorem own_rdL {w : World} {base n : Nat} {v : Value} {xs : List Sx} (hn : xs.length = n) (hm : n ≤ maxLen) (h : w.ownsRow base 54 2 v n (saCells xs)) (hr : ∀ x ∈ xs, Rd w x.1 x.2.1) : ∃ a cap, v = .slice a n cap ∧ RdL w a xs := by
  subst hn
  rcases h.2 with ⟨hv, h0⟩ | ⟨g, cap, cur, hv, hb, hg, h1, h2, h3, h4⟩
  · have e : xs = [] := List.length_eq_zero_iff.1 h0
    subst e
    exact ⟨none, 0, hv, ⟨Nat.zero_le _, hr, fun h => absurd rfl h⟩⟩
  · subst hv
    refine ⟨_, cap, rfl, ⟨hm, hr, fun _ => ⟨g, 0, rfl, (Array.getElem?_eq_some_iff.1 hg).1, fun i hi => ?_⟩⟩⟩
    obtain ⟨q0, q1⟩ := saCells_at xs i hi
    rw [Nat.zero_add]
    exact ⟨(h.cellAt (i * 2) (by omega)).trans q0, (h.cellAt (i * 2 + 1) (by omega)).trans q1⟩
theorem own_any {w : World} {base n e size : Nat} {v : Value} {l : List Value} (h : w.ownsRow base e size v n l) : ∃ va vc, v = .slice va n vc := by
  rcases h.2 with ⟨hv, h0⟩ | ⟨g, cap, cur, hv, _⟩
  · exact ⟨none, 0, by rw [hv, h0]⟩
  · exact ⟨some ⟨g, 0, none⟩, cap, hv⟩
theorem infoSam : (Tryz.prog.info? 54).map (fun i => (i.zero, i.size, i.bytes)) = some (some (.agg #[.slice none 0 0, .int .i64 0]), 2, 32) := by kernel_rfl

end Go.Proofs.YtpblpfleiilehafGreatDoor
