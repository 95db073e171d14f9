/-
  LimitSteps' own walk, with what packages limit, cut and tree answer as premises.
-/
import Derived.Test.YtcaljnhdfbjpnaeLimPJ
import Derived.Deep.AppendLies
import Derived.OwnWalk
import Derived.Deep.CutBlock
namespace Go.Proofs.Ytcaljnhdfbjpnae
open Go.ChangeShapes Go.WideShapes Go.ChangeAt Go.RowKit Go.Lib
set_option linter.unusedVariables false

def BinGives : Prop := ∀ (a : Option Addr) (xs : List Int) (cap : Nat) (x : Int) (W : World), Rd W a xs → M.cutsI xs = 0 → Calls Try.prog 13 #[.slice a xs.length cap, .int .i64 x] W fun e w' => e = .returned (.tuple #[.int .i64 (if M.outI x = true then 0 else (M.binI xs x : Nat)), errV (if M.outI x = true then 1 else 0)]) ∧ Below W.heap.size W w'
def TEvalGives : Prop := ∀ (a0 b0 : Option Addr) (ts : List M.Nd) (xs : List Int) (ca cb : Nat) (w : World), RdN w a0 ts → Rd w b0 xs → Calls Try.prog 8 #[.slice a0 ts.length ca, .slice b0 xs.length cb] w fun e w' => e = .returned (.tuple #[.int .i64 (M.evalV ts xs), errV (M.readyF ts xs)]) ∧ Below w.heap.size w w'

/-- the tree of the law's own example -/
def M.exT : List M.Nd := [(0, 5, 1, 2, false, 0), (-1, 0, 0, 0, false, 7), (-1, 0, 0, 0, false, 9)]
theorem M.ex_ready : M.readyF M.exT [0] = 0 := by decide +kernel
theorem M.ex_cuts : M.cutsS M.exT 0 = [5] := by
  refine M.rise_same (M.cutsS_pw _ _) (by simp) (fun x => ?_)
  rw [M.cutsS_mem]
  constructor
  · rintro ⟨i, hi, h1, h2⟩
    have hi' : i < 3 := hi
    rcases i with _ | _ | _ | i
    · rw [← h2]; exact List.mem_singleton.2 rfl
    · exact absurd h1 (by decide)
    · exact absurd h1 (by decide)
    · omega
  · intro hx
    rw [List.mem_singleton.1 hx]
    exact ⟨0, by decide, rfl, rfl⟩
theorem M.ex_steps : M.stepsF M.exT [0] 0 = 0 ∧ M.stepsC M.exT [0] 0 = [5] ∧ M.stepsV M.exT [0] 0 = [7, 9] := by
  have h : M.stepsF M.exT [0] 0 = 0 := by
    unfold M.stepsF
    rw [if_neg (by rw [M.ex_ready]; decide), if_neg (by decide)]
  refine ⟨h, ?_, ?_⟩
  · unfold M.stepsC; rw [if_pos h]; exact M.ex_cuts
  · unfold M.stepsV M.valsS
    rw [if_pos h]
    show M.valS M.exT [0] 0 (-2000000) :: (M.cutsS M.exT 0).map (M.valS M.exT [0] 0) = _
    rw [M.ex_cuts]
    decide +kernel
abbrev exObj : Obj := .cells #[.int .i64 0, .int .i64 5, .int .i64 1, .int .i64 2, .bool false, .int .i64 0, .int .i64 (-1), .int .i64 0, .int .i64 0, .int .i64 0, .bool false, .int .i64 7, .int .i64 (-1), .int .i64 0, .int .i64 0, .int .i64 0, .bool false, .int .i64 9] 29
theorem ex_rdn (w : World) : RdN (w.alloc exObj) (some ⟨w.heap.size, 0, none⟩) M.exT := by
  refine ⟨by show 3 ≤ maxLen; unfold maxLen; decide, fun _ => ⟨w.heap.size, 0, rfl, by simp, fun i hi => ?_⟩⟩
  have c : ∀ j, (w.alloc exObj).cell? ⟨w.heap.size, j, none⟩ = _ := fun j => World.cell?_alloc_at _ _ _ j rfl
  have hi' : i < 3 := hi
  rcases i with _ | _ | _ | i
  · exact ⟨c _, c _, c _, c _, c _, c _⟩
  · exact ⟨c _, c _, c _, c _, c _, c _⟩
  · exact ⟨c _, c _, c _, c _, c _, c _⟩
  · omega
theorem ex_row (w : World) : Rd (w.alloc (.cells #[.int .i64 0] 3)) (some ⟨w.heap.size, 0, none⟩) [0] := by
  refine ⟨by show 1 ≤ maxLen; unfold maxLen; decide, fun _ => ⟨w.heap.size, 0, rfl, by simp, fun i hi => ?_⟩⟩
  have hi' : i < 1 := hi
  obtain rfl : i = 0 := by omega
  exact World.cell?_alloc_at _ _ _ 0 rfl
theorem ex_call (hS : StepsGives) (w : World) : Calls Try.prog 12 #[.slice (some ⟨w.heap.size, 0, none⟩) 3 3, .slice (some ⟨w.heap.size + 1, 0, none⟩) 1 1, .int .i64 0] ((w.alloc exObj).alloc (.cells #[.int .i64 0] 3)) fun e w' =>
    ∃ pb po pc qb qo qc, e = .returned (.tuple #[.slice (some ⟨pb, po, none⟩) 1 pc, .slice (some ⟨qb, qo, none⟩) 2 qc, .nilIface]) ∧ w'.cell? ⟨pb, po, none⟩ = some (.int .i64 5) ∧ w'.cell? ⟨qb, qo + 1, none⟩ = some (.int .i64 9) ∧ Below w.heap.size w w' := by
  have r1 := ex_row (w.alloc exObj)
  rw [show (w.alloc exObj).heap.size = w.heap.size + 1 by simp] at r1
  have h := hS (some ⟨w.heap.size, 0, none⟩) (some ⟨w.heap.size + 1, 0, none⟩) M.exT [0] 3 1 0 _ ((ex_rdn w).below ((Below.refl _ _).alloc (Nat.le_refl _) _)) r1
  rw [M.ex_steps.2.1, M.ex_steps.2.2, err_nil M.ex_steps.1] at h
  refine h.mono ?_
  rintro e w' ⟨pa, pc, qa, qc, rfl, R1, R2, hb⟩
  obtain ⟨pb, po, rfl, _, hp⟩ := R1.2 (by simp)
  obtain ⟨qb, qo, rfl, _, hq⟩ := R2.2 (by simp)
  have p0 := hp 0 (by simp)
  have q1 := hq 1 (by simp)
  exact ⟨pb, po, pc, qb, qo, qc, rfl, by simpa using p0, by simpa using q1, below_on (((Below.refl _ w).alloc (Nat.le_refl _) _).alloc (by simp) _) hb⟩

set_option maxHeartbeats 16000000 in
set_option maxRecDepth 10000 in
theorem steps_walk (hS : StepsGives) (hB : BinGives) (hE : TEvalGives) (a b : Option Addr) (ts : List M.Nd) (xs : List Int) (ca cb : Nat) (f c : Int) (w : World) (ht : RdN w a ts) (hr : Rd w b xs) :
    Calls Try.prog 4 #[.slice a ts.length ca, .slice b xs.length cb, .int .i64 f, .int .i64 c] w fun e w' => e = .returned (.bool true) ∧ Below w.heap.size w w' := by
  have hm : ts.length ≤ 9223372036854775807 := ht.1
  have hm2 : xs.length ≤ 9223372036854775807 := hr.1
  have E1 := hide (ex_call hS w)
  have C1 := hide (fun W (hW : Below w.heap.size w W) => hS a b ts xs ca cb f W (ht.below hW) (hr.below hW))
  by_cases he : M.stepsF ts xs f = 0
  · have e1 : M.stepsC ts xs f = M.cutsS ts f := by unfold M.stepsC; rw [if_pos he]
    have e2 : M.stepsV ts xs f = M.valsS ts xs f.toNat := by unfold M.stepsV; rw [if_pos he]
    rw [err_nil he, e1, e2] at C1
    obtain ⟨hy, f0, f1⟩ := M.steps_ok he
    have F := (M.tree_ok (M.ready_ok hy).2).1
    have cz := M.cutsS_ok F f0
    have x8 : xs.length ≤ 8 := ((M.row_ok xs).1 (M.ready_ok hy).1).1
    have cl : (M.cutsS ts f).length ≤ 60 := ((M.cuts_ok _).1 cz).1
    have CB := hide (fun pa pc W (h : Rd W pa (M.cutsS ts f)) => hB pa (M.cutsS ts f) pc c W h cz)
    obtain ⟨fn, rfl⟩ : ∃ fn : Nat, f = (fn : Int) := ⟨f.toNat, by omega⟩
    have fl : fn < xs.length := by omega
    cases ho : M.outI c with
    | true =>
      rw [ho] at CB
      simp only [if_true] at CB
      rw [err_some (show (1 : Int) ≠ 0 by decide)] at CB
      have hd : (decide (c < -1000000) || decide (1000000 < c)) = true := ho
      clear e1 e2 hy F cz he ho ht hr
      generalize M.cutsS ts (fn : Int) = CS at *
      generalize M.valsS ts xs ((fn : Int)).toNat = VS at *
      by_cases c1 : c < -1000000
      · have d1 : decide (c < -1000000) = true := decide_eq_true c1
        clear hd
        go_enter Try.func4, Try.ntmps4
        go_wp2_with (first
          | (go_at_call 13; refine (CB.out _ _ _ HP2.out).mono ?_; rintro e w3 ⟨rfl, h3⟩; have k3 := below_on k2 h3)
          | (go_at_call 12; refine (C1.out _ k1).mono ?_; rintro e w2 ⟨pa, pc, qa, qc, rfl, hp2, hq2, h2⟩; have k2 := below_on k1 h2; have HP2 := hide hp2; clear hp2 hq2 h2)
          | (go_at_call 12; refine E1.out.mono ?_; rintro e w1 ⟨pb, po, pc0, qb, qo, qc0, rfl, t1, t2, k1⟩))
        go_ret
        exact ⟨rfl, k3⟩
      · have d1 : decide (c < -1000000) = false := decide_eq_false c1
        have d2 : decide (1000000 < c) = true := by rw [d1, Bool.false_or] at hd; exact hd
        clear hd
        go_enter Try.func4, Try.ntmps4
        go_wp2_with (first
          | (go_at_call 13; refine (CB.out _ _ _ HP2.out).mono ?_; rintro e w3 ⟨rfl, h3⟩; have k3 := below_on k2 h3)
          | (go_at_call 12; refine (C1.out _ k1).mono ?_; rintro e w2 ⟨pa, pc, qa, qc, rfl, hp2, hq2, h2⟩; have k2 := below_on k1 h2; have HP2 := hide hp2; clear hp2 hq2 h2)
          | (go_at_call 12; refine E1.out.mono ?_; rintro e w1 ⟨pb, po, pc0, qb, qo, qc0, rfl, t1, t2, k1⟩))
        go_ret
        exact ⟨rfl, k3⟩
    | false =>
      obtain ⟨_, hy2, vl, bl, bv⟩ := M.steps_bin he ho
      rw [ho] at CB
      simp only [Bool.false_eq_true, if_false] at CB
      rw [err_nil rfl] at CB
      rw [Int.toNat_natCast] at vl bl bv hy2 C1
      have CE : Hid (∀ sa sc W, Below w.heap.size w W → Rd W sa (xs.set fn c) → Calls Try.prog 8 #[.slice a ts.length ca, .slice sa xs.length sc] W fun e w' => e = .returned (.tuple #[.int .i64 (M.evalV ts (xs.set fn c)), .nilIface]) ∧ Below W.heap.size W w') := fun sa sc W hW h => by
        have := hE a sa ts (xs.set fn c) ca sc W (ht.below hW) h
        rw [err_nil hy2, List.length_set] at this
        exact this
      obtain ⟨bx, ox, rfl, hbx, hcx⟩ := hr.2 (by intro e; rw [e] at fl; simp at fl)
      have HX : Hid (∀ W, Below w.heap.size w W → ∀ j u, (xs.map (Value.int .i64))[j]? = some u → W.cell? ((⟨bx, ox, none⟩ : Addr).add j) = some u) := fun W hW j u hj => by
        have := src_cells hcx j u hj
        rw [add_flat] at this ⊢
        exact (hW.cell (p := ⟨bx, ox + j, none⟩) hbx).trans this
      have QV : Hid (∀ qa W, Rd W qa (M.valsS ts xs fn) → ∃ qb qo, qa = some ⟨qb, qo, none⟩ ∧ qb < W.heap.size ∧ W.cell? ⟨qb, qo + M.binI (M.cutsS ts (fn : Int)) c, none⟩ = some (.int .i64 (M.evalV ts (xs.set fn c)))) := fun qa W h => by
        obtain ⟨qb, qo, e, hl, hc⟩ := h.2 (by intro e; rw [e] at bl; simp at bl)
        refine ⟨qb, qo, e, hl, ?_⟩
        rw [hc _ bl, bv]
      have VL := hide vl
      have bz : ((M.binI (M.cutsS ts (fn : Int)) c : Nat) : Int) < ((M.valsS ts xs fn).length : Int) := by omega
      have vz : (((M.valsS ts xs fn).length : Int) == ((M.cutsS ts (fn : Int)).length : Int) + 1) = true := by rw [beq_iff_eq]; omega
      have vm : (M.valsS ts xs fn).length ≤ 61 := by omega
      obtain ⟨i0, hi, hz0, hz1, hz2⟩ := info_parts info3
      have I0 := hide hi
      have fz : (fn : Int) < (xs.length : Int) := by omega
      clear e1 e2 hy F cz he ho ht hr hcx hi vl bl bv hy2
      generalize hbk : M.binI (M.cutsS ts (fn : Int)) c = bk at *
      generalize M.cutsS ts (fn : Int) = CS at *
      generalize M.valsS ts xs fn = VS at *
      generalize M.evalV ts (xs.set fn c) = EV at *
      clear hbk
      go_enter Try.func4, Try.ntmps4
      go_upto_region 13 with (first
        | (go_at_call 13; refine (CB.out _ _ _ HP2.out).mono ?_; rintro e w3 ⟨rfl, h3⟩; have k3 := below_on k2 h3; have HQ3 := hide (HQ2.out.below h3); have S3 := hide (HX.out _ k3))
        | (go_at_call 12; refine (C1.out _ k1).mono ?_; rintro e w2 ⟨pa, pc, qa, qc, rfl, hp2, hq2, h2⟩; have k2 := below_on k1 h2; have HP2 := hide hp2; have HQ2 := hide hq2; clear hp2 hq2 h2)
        | (go_at_call 12; refine E1.out.mono ?_; rintro e w1 ⟨pb, po, pc0, qb0, qo0, qc0, rfl, t1, t2, k1⟩)
        | (at_builtin; refine wpList_append_own _ rfl (.tmp 79) (.tmp 80) 23 rfl w3.heap.size 3 i0 (.int .i64 0) 1 8 Try.underlying23 I0.out hz0 hz1 hz2 rfl (by decide) (.slice none 0 0) 0 [] rfl (World.ownsRow_nil _ _ _ _) ⟨bx, ox, none⟩ xs.length cb (xs.map (Value.int .i64)) rfl (by simp) S3.out (one_cells xs) (by unfold maxLen; omega) (by omega) (Nat.le_refl _) ?_; intro v' w4 hown hgrow hnil))
      rw [Nat.zero_add, List.nil_append] at hown
      obtain ⟨g, cap, ev, hg1, hg2⟩ := hown.form (show 0 < xs.length by omega)
      subst ev
      obtain ⟨qb, qo, eq, hql, _⟩ := QV.out qa w3 HQ3.out
      subst eq
      have b34 : Hid (Below w3.heap.size w3 w4) := (Below.refl _ w3).grown hgrow (Nat.le_refl _) (fun k hk => by cases hk)
      have cx : w4.cell? ⟨g, fn, none⟩ = some (.int .i64 (xs.getD fn 0)) := by
        rw [hown.cellAt fn (by omega), List.getElem?_map, List.getElem?_eq_getElem fl, M.getD_at fl]
        rfl
      have fx := hown.frozenAt fn
      have HO := hide hown
      have k3s := k3.size
      clear hown hgrow hnil t1 t2 S3
      go_upto_region 14 with fail
      obtain ⟨w5, hw5⟩ : ∃ W, W = w4.setCell ⟨g, fn, none⟩ (.int .i64 c) := ⟨_, rfl⟩
      rw [← hw5]
      have b35 : Hid (Below w3.heap.size w3 w5) := by rw [hw5]; exact b34.out.setCell (p := ⟨g, fn, none⟩) hg1 _
      have HS5 : Hid (Rd w5 (some ⟨g, 0, none⟩) (xs.set fn c)) := by
        have st := (HO.out.stored fn (.int .i64 c)).1
        rw [← List.map_set, ← hw5] at st
        obtain ⟨aa, cc, ea, hr, _⟩ := own_rd (show w5.ownsRow w3.heap.size 3 1 _ (xs.set fn c).length ((xs.set fn c).map (Value.int .i64)) by rw [List.length_set]; exact st)
        rw [Value.slice.injEq] at ea
        rw [ea.1]
        exact hr
      have k5 := hide (below_on k3 b35.out)
      have HQ5 := hide (HQ3.out.below b35.out)
      clear hw5 HO cx fx b34
      go_wp2_with (go_at_call 8; refine (CE.out _ _ _ k5.out HS5.out).mono ?_; rintro e w6 ⟨rfl, h6⟩; have k6 := hide (below_on k5.out h6); obtain ⟨qb', qo', eq', _, c6⟩ := QV.out _ _ (HQ5.out.below h6); cases eq')
      go_ret
      exact ⟨rfl, k6.out⟩
  · rw [err_some he] at C1
    clear he ht hr
    generalize M.stepsF ts xs f = te at *
    generalize M.stepsC ts xs f = SC at *
    generalize M.stepsV ts xs f = SV at *
    go_enter Try.func4, Try.ntmps4
    go_wp2_with (first
      | (go_at_call 12; refine (C1.out _ k1).mono ?_; rintro e w2 ⟨pa, pc, qa, qc, rfl, hp2, hq2, h2⟩; have k2 := below_on k1 h2; clear hp2 hq2 h2)
      | (go_at_call 12; refine E1.out.mono ?_; rintro e w1 ⟨pb, po, pc0, qb, qo, qc0, rfl, t1, t2, k1⟩))
    go_ret
    exact ⟨rfl, k2⟩

end Go.Proofs.Ytcaljnhdfbjpnae
