/-
  What the reference's Ready answers, for all nodes and samples, and what its Wrong answers where both are right.
-/
import Derived.Test.YthbeoaninipadafGreatDoorRefSamp
import Derived.Test.YthbeoaninipadafGreatDoorMathSi
import Derived.Test.YthbeoaninipadafGreatDoorRefVal
import Derived.Test.YthbeoaninipadafGreatDoorRefTree
import Derived.Test.YthbeoaninipadafGreatDoorLMathB
import Derived.Deep.RegionHeld3
namespace Go.Proofs.YthbeoaninipadafGreatDoor
open Go.ChangeShapes Go.WideShapes Go.ChangeAt Go.RowKit Go.Lib
set_option linter.unusedVariables false

set_option maxHeartbeats 4000000 in
set_option maxRecDepth 10000 in
theorem rready_any (a b : Option Addr) (ts : List M.Nd) (xs : List Sx) (ca cb : Nat) (w : World) (ht : RdN w a ts) (h : RdL w b xs) :
    Calls Tryz.prog 12 #[.slice a ts.length ca, .slice b xs.length cb] w fun e w' => e = .returned (.int .i64 (M.rdyF ts (sms xs))) ∧ Below w.heap.size w w' := by
  have hmx : xs.length ≤ 9223372036854775807 := h.1
  have sl := sms_len xs
  by_cases h0 : xs.length = 0
  · have E : Hid (M.rdyF ts (sms xs) = 5) := by unfold Hid M.rdyF; rw [if_pos (by omega)]
    have q : ((xs.length : Int) == 0) = true := by rw [beq_iff_eq]; omega
    clear h ht h0 sl
    generalize M.rdyF ts (sms xs) = o at *
    generalize xs.length = n at *
    go_enter Tryz.func12, Tryz.ntmps12
    go_wp2
    go_ret
    exact ⟨ret_int E.out.symm, Below.refl _ _⟩
  · have q : ((xs.length : Int) == 0) = false := by rw [beq_eq_false_iff_ne]; omega
    have hp : 0 < xs.length := by omega
    obtain ⟨bl, ol, rfl, hbl, hcl⟩ := h.2.2 (by intro e; rw [e] at hp; simp at hp)
    have c0 := (hcl 0 hp).1
    simp only [Nat.zero_mul, Nat.add_zero] at c0
    unfold sxV at c0
    have e0 : (M.sAt (sms xs) 0).1.length = xs[0].2.1.length := by rw [sms_at xs hp]; rfl
    have hrl : xs[0].2.1.length ≤ 9223372036854775807 := (h.2.1 xs[0] (List.getElem_mem hp)).1
    have T := hide (rtree_any a ts ca (xs[0].2.1.length : Int) w ht)
    have S := hide (fun W (hW : Below w.heap.size w W) => rsamples_any (some ⟨bl, ol, none⟩) xs cb (xs[0].2.1.length : Int) W (h.below hW))
    have RF : M.rdyF ts (sms xs) = if (M.treeF ts (xs[0].2.1.length : Int)).2 ≠ 0 then (M.treeF ts (xs[0].2.1.length : Int)).2 else (M.samF (sms xs) (xs[0].2.1.length : Int)).2 := by unfold M.rdyF; rw [if_neg (by omega), e0]
    have nz : (0 : Int) < (xs.length : Int) := by omega
    by_cases h2 : (M.treeF ts (xs[0].2.1.length : Int)).2 = 0
    · have E : Hid (M.rdyF ts (sms xs) = (M.samF (sms xs) (xs[0].2.1.length : Int)).2) := by unfold Hid; rw [RF, if_neg (by simp [h2])]
      rw [h2] at T
      clear h ht h0 sl hcl RF h2 e0
      generalize M.rdyF ts (sms xs) = o at *
      generalize (M.samF (sms xs) (xs[0].2.1.length : Int)).2 = sf at *
      generalize (M.samF (sms xs) (xs[0].2.1.length : Int)).1 = sp at *
      generalize (M.treeF ts (xs[0].2.1.length : Int)).1 = tp at *
      generalize xs[0].2.1.length = rl at *
      generalize xs[0].2.2.1 = rc at *
      generalize xs[0].1 = ra at *
      go_enter Tryz.func12, Tryz.ntmps12
      go_wp2_with (first
        | (go_at_call 24; refine T.out.mono ?_; rintro e w1 ⟨rfl, hb1⟩; have k1 := hide hb1; clear hb1)
        | (go_at_call 4; refine (S.out _ k1.out).mono ?_; rintro e w2 ⟨rfl, e2⟩; have e2' := e2.symm; subst e2'))
      go_ret
      exact ⟨ret_int E.out.symm, k1.out⟩
    · have E : Hid (M.rdyF ts (sms xs) = (M.treeF ts (xs[0].2.1.length : Int)).2) := by unfold Hid; rw [RF, if_pos h2]
      have q2 : ((M.treeF ts (xs[0].2.1.length : Int)).2 == 0) = false := by rw [beq_eq_false_iff_ne]; exact h2
      clear h ht h0 sl hcl RF h2 e0 S
      generalize M.rdyF ts (sms xs) = o at *
      generalize (M.treeF ts (xs[0].2.1.length : Int)).1 = tp at *
      generalize (M.treeF ts (xs[0].2.1.length : Int)).2 = tf at *
      generalize xs[0].2.1.length = rl at *
      generalize xs[0].2.2.1 = rc at *
      generalize xs[0].1 = ra at *
      go_enter Tryz.func12, Tryz.ntmps12
      go_wp2_with (go_at_call 24; refine T.out.mono ?_; rintro e w1 ⟨rfl, hb1⟩; have k1 := hide hb1; clear hb1)
      go_ret
      exact ⟨ret_int E.out.symm, k1.out⟩

set_option maxHeartbeats 8000000 in
set_option maxRecDepth 10000 in
theorem rwrong_any (a b : Option Addr) (ts : List M.Nd) (xs : List Sx) (ca cb : Nat) (w : World) (ht : RdN w a ts) (h : RdL w b xs) (hy : M.rdyF ts (sms xs) = 0) :
    Calls Tryz.prog 13 #[.slice a ts.length ca, .slice b xs.length cb] w fun e w' => e = .returned (.int .i64 (M.wrgS ts (sms xs))) ∧ Below w.heap.size w w' := by
  obtain ⟨l0, h2, h3⟩ := M.rdy_ok hy
  obtain ⟨G, _, _, _⟩ := M.sam_ok h3
  rw [Int.toNat_natCast] at G
  obtain ⟨F, _⟩ := M.tree_ok h2
  have l60 : xs.length ≤ 60 := by have := G.le; rw [sms_len] at this; exact this
  have hv : ∀ r, -1000000 ≤ M.nv (M.nAt ts (M.toD ts r 0)) ∧ M.nv (M.nAt ts (M.toD ts r 0)) ≤ 1000000 := fun r => by
    have e := M.to_end F.2.2.2.2.1 r ts.length 0 F.2.1 (by omega)
    exact M.lv_in F _ ((M.lvK_mem ts _ _).2 ⟨_, e.1, decide_eq_true e.2, rfl⟩)
  have tg : ∀ x ∈ xs, -1000 ≤ x.2.2.2 ∧ x.2.2.2 ≤ 1000 := fun x hx => (G.each (sm x) (List.mem_map.2 ⟨x, hx, rfl⟩)).2.2.1
  have SM : Hid (∀ k (hk : k < xs.length), M.wrgS ts ((sms xs).take (k + 1)) = M.wrgS ts ((sms xs).take k) + (xs[k].2.2.2 - M.nv (M.nAt ts (M.toD ts xs[k].2.1 0))) * (xs[k].2.2.2 - M.nv (M.nAt ts (M.toD ts xs[k].2.1 0)))) := fun k hk => by
    rw [List.take_succ_eq_append_getElem (by rw [sms_len]; exact hk), M.wrg_app]
    have e : (sms xs)[k]'(by rw [sms_len]; exact hk) = sm xs[k] := by simp [sms]
    rw [e]
    show _ + (_ + 0) = _
    rw [Int.add_zero]
    rfl
  have BD : Hid (∀ k, 0 ≤ M.wrgS ts ((sms xs).take k) ∧ M.wrgS ts ((sms xs).take k) ≤ 60120060000000) := fun k => by
    have := M.wrg_in hv (l := (sms xs).take k) fun s hs => by
      obtain ⟨x, hx, rfl⟩ := List.mem_map.1 (List.mem_of_mem_take hs)
      exact tg x hx
    have l : ((sms xs).take k).length ≤ 60 := by rw [List.length_take, sms_len]; omega
    omega
  have VC : Hid (∀ k (hk : k < xs.length) W, Below w.heap.size w W → Calls Tryz.prog 25 #[.slice a ts.length ca, .slice xs[k].1 xs[k].2.1.length xs[k].2.2.1] W fun e w' => e = .returned (.int .i64 (M.nv (M.nAt ts (M.toD ts xs[k].2.1 0)))) ∧ Below W.heap.size W w') := fun k hk W hW => by
    refine rvalue_fair a xs[k].1 ts xs[k].2.1 ca xs[k].2.2.1 W (ht.below hW) ((h.2.1 _ (List.getElem_mem hk)).below hW) ?_
    have e : xs[k].2.1.length = (M.sAt (sms xs) 0).1.length := (G.each (sm xs[k]) (List.mem_map.2 ⟨_, List.getElem_mem hk, rfl⟩)).2.1
    rw [e]
    exact F
  have TG : Hid (∀ k (hk : k < xs.length), -1000 ≤ xs[k].2.2.2 ∧ xs[k].2.2.2 ≤ 1000) := fun k hk => tg _ (List.getElem_mem hk)
  have HV := hide hv
  have HL := hide h
  have E0 : Hid (M.wrgS ts ((sms xs).take xs.length) = M.wrgS ts (sms xs)) := by unfold Hid; rw [← sms_len xs, List.take_length]
  clear ht h hy l0 h2 h3 G F hv tg
  generalize M.wrgS ts (sms xs) = o at *
  go_enter Tryz.func13, Tryz.ntmps13
  go_wp2
  go_loopw [5, 6] (fun s i wr => ∃ k : Nat, k ≤ xs.length ∧ i = .int .i64 k ∧ s = .int .i64 (M.wrgS ts ((sms xs).take k)) ∧ Hid (Below w.heap.size w wr)) (fun _ i _ => xs.length - (intOf i).toNat)
  case atStart => exact ⟨0, Nat.zero_le _, rfl, rfl, Below.refl _ _⟩
  case round =>
    obtain ⟨k, hk, rfl, rfl, K⟩ := hrel
    by_cases hlt : k < xs.length
    · obtain ⟨bl, ol, rfl, hbl, hcl⟩ := HL.out.2.2 (by intro e; rw [e] at hlt; simp at hlt)
      have CS : Hid (∀ W, Below w.heap.size w W → W.cell? ⟨bl, ol + k * 2, none⟩ = some (.slice xs[k].1 xs[k].2.1.length xs[k].2.2.1) ∧ W.cell? ⟨bl, ol + k * 2 + 1, none⟩ = some (.int .i64 xs[k].2.2.2)) := fun W hW => ⟨(hW.cell (p := ⟨bl, ol + k * 2, none⟩) hbl).trans (hcl k hlt).1, (hW.cell (p := ⟨bl, ol + k * 2 + 1, none⟩) hbl).trans (hcl k hlt).2⟩
      obtain ⟨c0, c1⟩ := CS.out wr K.out
      have VK := hide (VC.out k hlt)
      obtain ⟨t0, t1⟩ := TG.out k hlt
      obtain ⟨v0, v1⟩ := HV.out xs[k].2.1
      obtain ⟨b0, b1⟩ := BD.out k
      have S1 := hide (SM.out k hlt)
      have kz : (k : Int) < (xs.length : Int) := by omega
      have k0 : (0 : Int) ≤ (k : Int) := by omega
      clear hcl SM VC TG HV BD HL E0
      generalize M.nv (M.nAt ts (M.toD ts xs[k].2.1 0)) = v at *
      generalize xs[k].2.2.2 = t at *
      generalize xs[k].2.1.length = rl at *
      generalize xs[k].2.2.1 = rc at *
      generalize xs[k].1 = ra at *
      generalize M.wrgS ts ((sms xs).take k) = s at *
      have q := M.sq_in5 (s := t - v) (B := 1001000) (by omega) (by omega)
      have x1 : IntKind.i64.wrap ((t - v) * (t - v)) = (t - v) * (t - v) := wrap_in6 _ (by omega) (by omega)
      have x2 : IntKind.i64.wrap (s + (t - v) * (t - v)) = s + (t - v) * (t - v) := wrap_in6 _ (by omega) (by omega)
      have x3 : IntKind.i64.wrap (t - v) = t - v := wrap_in6 _ (by omega) (by omega)
      clear q
      go_upto_region 5 with fail
      go_cut [7] from 14 to 26 (fun o wx => o = .int .i64 (t - v) ∧ Hid (Below wr.heap.size wr wx))
      case first =>
        have KD := hide (below_on K.out ((Below.refl wr.heap.size wr).drew))
        go_region_held3 (fun V => V.cell? ⟨bl, ol + k * 2, none⟩ = some (.slice ra rl rc) ∧ V.cell? ⟨bl, ol + k * 2 + 1, none⟩ = some (.int .i64 t)) (go_keep) ((go_at_call 25; refine (VK.out _ KD.out).mono ?_; rintro e w5 ⟨rfl, h5⟩; have H5 : Hid (Below wr.heap.size wr w5) := ((Below.refl wr.heap.size wr).drew).trans h5; obtain ⟨s1, s2⟩ := CS.out w5 (below_on KD.out h5); clear h5))
        all_goals (
          go_wp2
          go_meet
          case rel => exact ⟨rfl, H5⟩)
      case rest =>
        obtain ⟨rfl, H6⟩ := hcut
        have K6 := hide (below_on K.out H6.out)
        generalize t - v = dd at *
        go_wp2
        go_roundw
        case rel => exact ⟨k + 1, by omega, by go_num, by rw [S1.out], K6⟩
        case measure => simp [intOf]; omega
    · have ke : k = xs.length := by omega
      subst ke
      have e1 := E0.out
      clear SM VC TG HV BD HL E0
      generalize M.wrgS ts ((sms xs).take xs.length) = s at *
      have E1 := hide e1
      clear e1
      go_wp2
      go_ret
      exact ⟨ret_int E1.out, K.out⟩

end Go.Proofs.YthbeoaninipadafGreatDoor
